/- The walk of the law's do. -/
import Derived.Test.YtbpganholopjfaaAR
namespace Go.Proofs.Ytbpganholopjfaa
open Go.RowKit

/-- What the acts told, purely. -/
structure ActsRun (N n : Nat) (F : Nat → A3) (rt : Nat) (fl : Int) : Prop where
  le : rt ≤ n
  ok : ∀ j, j < rt → erA N (F j) = 0
  end_ : (rt = n ∧ fl = 0) ∨ (rt < n ∧ fl ≠ 0 ∧ fl = erA N (F rt))
theorem ActsRun.same {N n : Nat} {F : Nat → A3} {rt rt' : Nat} {fl fl' : Int} (h : ActsRun N n F rt fl) (h' : ActsRun N n F rt' fl') : rt = rt' ∧ fl = fl' := by
  have key : ∀ {a b : Nat} {x y : Int}, ActsRun N n F a x → ActsRun N n F b y → ¬ a < b := by
    intro a b x y h h' hab
    have h0 := h'.ok a hab
    rcases h.end_ with ⟨e, _⟩ | ⟨_, e1, e2⟩
    · have := h'.le; omega
    · exact e1 (e2.trans h0)
  have e : rt = rt' := by have := key h h'; have := key h' h; omega
  subst e
  refine ⟨rfl, ?_⟩
  rcases h.end_ with ⟨e1, e2⟩ | ⟨e1, e2, e3⟩ <;> rcases h'.end_ with ⟨f1, f2⟩ | ⟨f1, f2, f3⟩
  · rw [e2, f2]
  · omega
  · omega
  · rw [e3, f3]

/-- What the law's do leaves. -/
def LawDo (w : World) (p q N cap n : Nat) (F : Nat → A3) (B : Nat → Nat) (e : Ending) (w' : World) : Prop :=
  ∃ rt fl A c base, e = .returned (.tuple #[.int .i64 (rt : Nat), .int .i64 fl, .slice A (tl N F B rt).length c]) ∧ ActsRun N n F rt fl ∧ ArAt w' p q N cap (if fl = 0 then bk F B rt else B) none ∧
    w.heap.size ≤ base ∧ Told w' base (.slice A (tl N F B rt).length c) (tl N F B rt) ∧ Fr (fun i => i = p ∨ i = q) w w'

theorem agrown_drewN (w : World) (n : Nat) : w.grownBy (w.drewN n) none := ⟨rfl, rfl, rfl, Nat.le_refl _, fun _ _ _ => rfl⟩
theorem LawDo.drewN {w w' : World} {p q N cap n : Nat} {F : Nat → A3} {B : Nat → Nat} {e : Ending} (h : LawDo w p q N cap n F B e w') (k : Nat) : LawDo w p q N cap n F B e (w'.drewN k) := by
  obtain ⟨rt, fl, A, c, base, e, ha, har, hb, ht, hf⟩ := h
  have g := agrown_drewN w' k
  exact ⟨rt, fl, A, c, base, e, ha, har.grown g (by simp) (by simp), hb, ht.fr (may := fun _ => False) (fr_none g) (fun _ _ x => x), hf.trans (fr_none (may := fun i => i = p ∨ i = q) g) (fun _ _ x => x) (fun _ _ x => x)⟩
theorem call_acts (args : Array Value) (w : World) : (callFunc 57 args).run Try.prog w = .ok (.enter 57 args) w := by
  kernel_rfl

theorem lawdo_end {w w1 w' : World} {p q N cap n tb : Nat} {F : Nat → A3} {B : Nat → Nat} {e : Ending} (hp : p < w.heap.size) (hq : q < w.heap.size) (g : w.grownBy w1 none) (ht : w.heap.size ≤ tb) (htl : tb < w1.heap.size)
    (h : DoRes w1 p q N cap B (fun i => i = tb) (fun W _ _ w2 B' rt fl => ActEnd W w2 tb N n F B B' rt fl) e w') :
    ∃ rt fl A c base, e = .returned (.tuple #[.int .i64 (rt : Nat), .int .i64 fl]) ∧ w'.cell? ⟨tb, 0, none⟩ = some (.slice A (tl N F B rt).length c) ∧ ActsRun N n F rt fl ∧ ArAt w' p q N cap (if fl = 0 then bk F B rt else B) none ∧
    w.heap.size ≤ base ∧ Told w' base (.slice A (tl N F B rt).length c) (tl N F B rt) ∧ Fr (fun i => i = p ∨ i = q) w w' := by
  obtain ⟨W, w2, B', rt, fl, u, vb, rfl, har, hwW, hact, hfr, ⟨n1, n2, n3, n4⟩, hs, _, _, hfw⟩ := h
  obtain ⟨A, c, h1, h2⟩ := hact.told
  have hb := hact.b
  subst hb
  have hs1 : w.heap.size ≤ w1.heap.size := g.size
  refine ⟨rt, fl, A, c, W.heap.size, rfl, hfr.cell h1 (by omega), ⟨hact.le, hact.ok, hact.end_⟩, har, Nat.le_trans hs1 hwW.size, h2.fr hfr (fun i hi => by have := hwW.size; omega), ?_⟩
  exact (fr_none (may := fun i => i = p ∨ i = q) g).trans hfw (fun _ _ x => x) (fun i hi x => by rcases x with x | x | x; exact .inl x; exact .inr x; omega)

set_option maxRecDepth 100000 in
set_option maxHeartbeats 2000000 in
theorem do_at {w : World} {p q N cap n c : Nat} {B : Nat → Nat} {A : Option Addr} {F : Nat → A3} (h : ArAt w p q N cap B none) (hn : n ≤ 1000000) (hc : n ≤ c) (hF : ∀ i, i < n → okA (F i)) (hact : ActsAt w A n F) (hab : ∀ b off, A = some ⟨b, off, none⟩ → b < w.heap.size ∧ b ≠ p ∧ b ≠ q) :
    Calls Try.prog 22 #[.pointer (some ⟨p, 0, none⟩), .slice A n c] w (LawDo w p q N cap n F B) := by
  have hmf := mk_func
  have HP := Lib.hid h.plt
  have HQ := Lib.hid h.b.qlt
  have g1 : w.grownBy ((w.alloc (.cells #[.slice A n c] 28)).alloc (.cells #[.slice none 0 0] 44)) none := grown_trans (grown_alloc _ _ _) (grown_alloc _ _ _)
  have x1 : ((w.alloc (.cells #[.slice A n c] 28)).alloc (.cells #[.slice none 0 0] 44)).cell? ⟨w.heap.size, 0, none⟩ = some (.slice A n c) := (grown_alloc (w.alloc (.cells #[.slice A n c] 28)) _ none).cell (by rw [cell_alloc_new]; rfl) (by simp)
  have x2 : ((w.alloc (.cells #[.slice A n c] 28)).alloc (.cells #[.slice none 0 0] 44)).cell? ⟨w.heap.size + 1, 0, none⟩ = some (.slice none 0 0) := by
    have : w.heap.size + 1 = (w.alloc (.cells #[.slice A n c] 28)).heap.size := by simp
    rw [this, cell_alloc_new]; rfl
  have z2 : ((w.alloc (.cells #[.slice A n c] 28)).alloc (.cells #[.slice none 0 0] 44)).frozen? ⟨w.heap.size + 1, 0, none⟩ = false := by
    have : w.heap.size + 1 = (w.alloc (.cells #[.slice A n c] 28)).heap.size := by simp
    rw [this]; exact frozen_alloc_new ..
  have hsz : ((w.alloc (.cells #[.slice A n c] 28)).alloc (.cells #[.slice none 0 0] 44)).heap.size = w.heap.size + 2 := by simp
  have H := Lib.hid h
  have HH := Lib.hid (And.intro hF (And.intro hact hab))
  clear h hF hact hab
  go_enter Try.func22, Try.ntmps22
  go_upto_region 2 with (fail)
  generalize hw1 : (w.alloc (.cells #[.slice A n c] 28)).alloc (.cells #[.slice none 0 0] 44) = w1 at g1 x1 x2 z2 hsz ⊢
  clear hw1
  have p1 : w.heap.size ≠ p := by have := HP.out; omega
  have p2 : w.heap.size ≠ q := by have := HQ.out; omega
  have p3 : w.heap.size + 1 ≠ p := by have := HP.out; omega
  have p4 : w.heap.size + 1 ≠ q := by have := HQ.out; omega
  have HC := Lib.hid (do_run (H.out.grown g1 (by simp) (by simp)) 57 #[.pointer (some ⟨w.heap.size, 0, none⟩), .pointer (some ⟨w.heap.size + 1, 0, none⟩)] (fun i => i = w.heap.size + 1) _ (fun i x => by subst x; exact ⟨by omega, p3⟩) call_acts
    (acts_fn w1 p q N cap n c w.heap.size (w.heap.size + 1) B A F (by have := HQ.out; omega) hn hc HH.out.1 (HH.out.2.1.grown g1) (fun b off e => by have := HH.out.2.2 b off e; omega) x1 p1 p2 (by omega) x2 z2 p3 p4))
  have HE := Lib.hid (fun e w' h => lawdo_end (n := n) (F := F) (B := B) (N := N) (cap := cap) (e := e) (w' := w') HP.out HQ.out g1 (Nat.le_succ w.heap.size) (by omega) h)
  clear g1 x1 x2 z2 hsz p1 p2 p3 p4 HH H
  go_wp2_with fail
  refine HC.out.mono ?_
  intro e w' hres
  obtain ⟨rt, fl, A1, c1, base, rfl, y, ha, har, hb, ht, hf⟩ := HE.out e w' hres
  have HR : Hid (LawDo w p q N cap n F B (.returned (.tuple #[.int .i64 (rt : Nat), .int .i64 fl, .slice A1 (tl N F B rt).length c1])) w') := Lib.hid ⟨rt, fl, A1, c1, base, rfl, ha, har, hb, ht, hf⟩
  generalize (tl N F B rt).length = ln at HR y
  clear hres ha har hb ht hf HE HC
  go_upto_region 3 with (fail)
  go_quiet (fail)
  go_wp2
  go_ret3
  exact HR.out.drewN nq
end Go.Proofs.Ytbpganholopjfaa
