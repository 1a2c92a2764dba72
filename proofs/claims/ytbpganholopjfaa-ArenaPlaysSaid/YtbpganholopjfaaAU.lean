/- The laws' small closures; a Do of what is not there, and of nothing. -/
import Derived.Test.YtbpganholopjfaaAT
namespace Go.Proofs.Ytbpganholopjfaa
open Go.RowKit

theorem ArAt.fr {may : Nat → Prop} {w w' : World} {p q n cap : Nat} {B : Nat → Nat} {wk : Option Addr} (h : ArAt w p q n cap B wk) (g : Fr may w w') (hp : ¬ may p) (hq : ¬ may q) : ArAt w' p q n cap B wk where
  c0 := g.cell h.c0 hp
  c1 := g.cell h.c1 hp
  fz := fun k => by rw [g.frozen h.plt hp]; exact h.fz k
  b := h.b.fr g hq
  ne := h.ne
  hcap := h.hcap
  small := h.small
  page := h.page
  lt := h.lt

theorem nilfn (w : World) : (binOp .eql 59 .nilFunc .nilFunc).run Try.prog w = .ok (.bool true) w := by kernel_rfl

theorem two_cells (er : Int) {w w1 : World} (g : w.grownBy w1 none) (x1 : w1.cell? ⟨w.heap.size, 0, none⟩ = some (.int .i64 0)) (x2 : w1.cell? ⟨w.heap.size + 1, 0, none⟩ = some (.int .i64 0)) :
    ((w1.setCell ⟨w.heap.size, 0, none⟩ (.int .i64 0)).setCell ⟨w.heap.size + 1, 0, none⟩ (.int .i64 er)).cell? ⟨w.heap.size, 0, none⟩ = some (.int .i64 0) ∧
    ((w1.setCell ⟨w.heap.size, 0, none⟩ (.int .i64 0)).setCell ⟨w.heap.size + 1, 0, none⟩ (.int .i64 er)).cell? ⟨w.heap.size + 1, 0, none⟩ = some (.int .i64 er) ∧
    w.grownBy ((w1.setCell ⟨w.heap.size, 0, none⟩ (.int .i64 0)).setCell ⟨w.heap.size + 1, 0, none⟩ (.int .i64 er)) none := by
  refine ⟨?_, ?_, grown_own (grown_own g (agrown_set _ _ _ _) (Nat.le_refl _)) (agrown_set _ _ _ _) (Nat.le_succ _)⟩
  · rw [World.cell?_setCell_other _ _ _ _ (fun e => by have := congrArg Addr.block e; simp at this)]
    exact World.cell?_setCell_same' _ _ _ (by rw [x1]; rfl)
  · exact World.cell?_setCell_same' _ _ _ (by rw [World.cell?_setCell_other _ _ _ _ (fun e => by have := congrArg Addr.block e; simp at this), x2]; rfl)

set_option maxRecDepth 100000 in
set_option maxHeartbeats 1000000 in
theorem do_nil (f : Value) (w : World) : Calls Try.prog 27 #[.pointer none, f] w fun e w' => e = .returned (.tuple #[.int .i64 0, .int .i64 2]) ∧ w.grownBy w' none := by
  go_enter_defers Try.func27, Try.ntmps27
  go_upto_region 1 with (fail)
  have g1 : w.grownBy ((w.alloc (.cells #[.int .i64 0] 3)).alloc (.cells #[.int .i64 0] 32)) none := grown_trans (grown_alloc _ _ _) (grown_alloc _ _ _)
  have x1 : ((w.alloc (.cells #[.int .i64 0] 3)).alloc (.cells #[.int .i64 0] 32)).cell? ⟨w.heap.size, 0, none⟩ = some (.int .i64 0) := (grown_alloc (w.alloc (.cells #[.int .i64 0] 3)) _ none).cell (by rw [cell_alloc_new]; rfl) (by simp)
  have x2 : ((w.alloc (.cells #[.int .i64 0] 3)).alloc (.cells #[.int .i64 0] 32)).cell? ⟨w.heap.size + 1, 0, none⟩ = some (.int .i64 0) := by
    have : w.heap.size + 1 = (w.alloc (.cells #[.int .i64 0] 3)).heap.size := by simp
    rw [this, cell_alloc_new]; rfl
  have z1 : ((w.alloc (.cells #[.int .i64 0] 3)).alloc (.cells #[.int .i64 0] 32)).frozen? ⟨w.heap.size, 0, none⟩ = false := by
    rw [World.frozen?_of_block (w := w.alloc (.cells #[.int .i64 0] 3)) ((grown_alloc (w.alloc (.cells #[.int .i64 0] 3)) _ none).block w.heap.size (by simp) (by simp))]; exact frozen_alloc_new ..
  have z2 : ((w.alloc (.cells #[.int .i64 0] 3)).alloc (.cells #[.int .i64 0] 32)).frozen? ⟨w.heap.size + 1, 0, none⟩ = false := by
    have : w.heap.size + 1 = (w.alloc (.cells #[.int .i64 0] 3)).heap.size := by simp
    rw [this]; exact frozen_alloc_new ..
  generalize (w.alloc (.cells #[.int .i64 0] 3)).alloc (.cells #[.int .i64 0] 32) = w1 at g1 x1 x2 z1 z2 ⊢
  obtain ⟨y1, y2, g2⟩ := two_cells 2 g1 x1 x2
  have G := Lib.hid g2
  clear g1 g2
  go_wp2
  simp [bodyPostD, Leaves, results, Try.results27, go_sem, y1, y2]
  exact G.out
set_option maxRecDepth 100000 in
set_option maxHeartbeats 1000000 in
theorem do_nofn (p : Nat) (w : World) : Calls Try.prog 27 #[.pointer (some ⟨p, 0, none⟩), .nilFunc] w fun e w' => e = .returned (.tuple #[(.int .i64 0), .int .i64 1]) ∧ w.grownBy w' none := by
  have hnf := nilfn
  go_enter_defers Try.func27, Try.ntmps27
  go_upto_region 1 with (fail)
  have g1 : w.grownBy ((w.alloc (.cells #[.int .i64 0] 3)).alloc (.cells #[.int .i64 0] 32)) none := grown_trans (grown_alloc _ _ _) (grown_alloc _ _ _)
  have x1 : ((w.alloc (.cells #[.int .i64 0] 3)).alloc (.cells #[.int .i64 0] 32)).cell? ⟨w.heap.size, 0, none⟩ = some (.int .i64 0) := (grown_alloc (w.alloc (.cells #[.int .i64 0] 3)) _ none).cell (by rw [cell_alloc_new]; rfl) (by simp)
  have x2 : ((w.alloc (.cells #[.int .i64 0] 3)).alloc (.cells #[.int .i64 0] 32)).cell? ⟨w.heap.size + 1, 0, none⟩ = some (.int .i64 0) := by
    have : w.heap.size + 1 = (w.alloc (.cells #[.int .i64 0] 3)).heap.size := by simp
    rw [this, cell_alloc_new]; rfl
  have z1 : ((w.alloc (.cells #[.int .i64 0] 3)).alloc (.cells #[.int .i64 0] 32)).frozen? ⟨w.heap.size, 0, none⟩ = false := by
    rw [World.frozen?_of_block (w := w.alloc (.cells #[.int .i64 0] 3)) ((grown_alloc (w.alloc (.cells #[.int .i64 0] 3)) _ none).block w.heap.size (by simp) (by simp))]; exact frozen_alloc_new ..
  have z2 : ((w.alloc (.cells #[.int .i64 0] 3)).alloc (.cells #[.int .i64 0] 32)).frozen? ⟨w.heap.size + 1, 0, none⟩ = false := by
    have : w.heap.size + 1 = (w.alloc (.cells #[.int .i64 0] 3)).heap.size := by simp
    rw [this]; exact frozen_alloc_new ..
  generalize (w.alloc (.cells #[.int .i64 0] 3)).alloc (.cells #[.int .i64 0] 32) = w1 at g1 x1 x2 z1 z2 ⊢
  obtain ⟨y1, y2, g2⟩ := two_cells 1 g1 x1 x2
  have G := Lib.hid g2
  clear g1 g2
  go_wp2
  simp [bodyPostD, Leaves, results, Try.results27, go_sem, y1, y2]
  exact G.out

theorem call_out (args : Array Value) (w : World) : (callFunc 28 args).run Try.prog w = .ok (.enter 28 args) w := by
  kernel_rfl

/-- A function that keeps its View. -/
theorem out_fn (w : World) (p q N cap ob : Nat) (B : Nat → Nat) (_hq : q < w.heap.size) (hob : w.cell? ⟨ob, 0, none⟩ = some (.pointer none)) (zob : w.frozen? ⟨ob, 0, none⟩ = false) (hop : ob ≠ p) (hoq : ob ≠ q) :
    DoFn w p q N cap B 28 #[.pointer (some ⟨ob, 0, none⟩)] (fun i => i = ob) (fun _ _ vb w2 B' _ fl => fl = 0 ∧ B' = B ∧ w2.cell? ⟨ob, 0, none⟩ = some (.pointer (some ⟨vb, 0, none⟩))) := by
  intro W u vb mb hst hv hfr h1 h2 h3 h4 h5
  have hol : ob < w.heap.size := w.block_lt_of_cell? ⟨ob, 0, none⟩ hob
  have x1 := hfr.cell hob hop
  have z1 : W.frozen? ⟨ob, 0, none⟩ = false := by rw [hfr.frozen hol hop]; exact zob
  have no : ∀ i, DoSt.Own p q u mb (.map []) i → i ≠ ob := by
    rintro i hi rfl
    rcases hi with x | x | x | x | ⟨kl, bc, hk, ha⟩
    · exact hop x
    · exact hoq x
    · omega
    · omega
    · simp [Go.Maps.has] at hk
  have HR : Hid (∃ (B' : Nat → Nat) (D : DataW Unit) (cnt rt : Nat) (fl : Int), Ending.returned (.tuple #[]) = (if fl = 0 then .returned (.tuple #[]) else .panicked (stopOf u)) ∧
      DoSt (W.setCell ⟨ob, 0, none⟩ (.pointer (some ⟨vb, 0, none⟩))) p q u mb N cap B' B D cnt rt fl ∧ Fr (fun i => i = q ∨ i = u ∨ i = mb ∨ i = ob) W (W.setCell ⟨ob, 0, none⟩ (.pointer (some ⟨vb, 0, none⟩))) ∧ fl = 0 ∧ B' = B ∧ (W.setCell ⟨ob, 0, none⟩ (.pointer (some ⟨vb, 0, none⟩))).cell? ⟨ob, 0, none⟩ = some (.pointer (some ⟨vb, 0, none⟩))) :=
    Lib.hid ⟨B, _, _, _, 0, by rw [if_pos rfl], hst.fr (fr_set W ob 0 _) (fun i _ ho => no i ho), fr_widen (fr_set W ob 0 _) (fun i x => by simp [x]), rfl, rfl, World.cell?_setCell_same' _ _ _ (by rw [x1]; rfl)⟩
  clear hst hv hfr no
  show Calls Try.prog 28 #[.pointer (some ⟨vb, 0, none⟩), .pointer (some ⟨ob, 0, none⟩)] W _
  go_enter Try.func28, Try.ntmps28
  go_wp2
  go_end0
  exact HR.out
end Go.Proofs.Ytbpganholopjfaa
