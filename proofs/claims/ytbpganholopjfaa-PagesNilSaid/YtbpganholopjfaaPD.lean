/- The walks of a table's Unmap; New, Copy. -/
import Derived.Test.YtbpganholopjfaaPC
import Derived.Deep.RegionLaw
import Derived.Lib.SliceRun
import Derived.Laws.IdiomCopy
import Derived.IntWalk
namespace Go.Proofs.Ytbpganholopjfaa
open Go.RowKit

theorem step_clear {P : Program} {ops : Array Oper} {o : Oper} {a : Act} {w w' : World} {K : Act → World → Prop} {Q : Exit → Act → World → Prop} {E : Prop}
    (hg : o.guard = none) (x : Operand) (t : TypeId) (hop : o.op = Op.call { callee := Callee.builtin Builtin.clear, args := #[x], argTypes := #[t] })
    (v : Value) (hx : a.eval x = v) (hrun : ∀ ty, (Builtin.clear_ #[t] ty #[v]).run P w = .ok (.tuple #[]) w')
    (hK : K (a.put o.dst (.tuple #[])) w') :
    if Region.wanted o (yielded ops a.tmps) = true then Oper.wp P o a w K Q else E := by
  have hw : Region.wanted o (yielded ops a.tmps) = true := by simp [Region.wanted, hg]
  rw [if_pos hw]
  unfold Oper.wp
  simp [execOp, hop, resolve, invoke, builtin, hx, hrun, Result.andThen]
  exact hK

theorem zero_row (w : World) : (zeroValue 76).run Try.prog w = .ok (.agg #[.int .i64 0, .int .i64 0, .int .i64 0, .int .i64 0]) w := by kernel_rfl

theorem zeroCells_row (n : Nat) : (Builtin.zeroCells (Value.agg #[.int .i64 0, .int .i64 0, .int .i64 0, .int .i64 0]).cells n).toList = List.replicate (n * 4) (.int .i64 0) := by
  have h4 : ∀ i, i < 4 → (#[Value.int .i64 0, .int .i64 0, .int .i64 0, .int .i64 0] : Array Value)[i]! = .int .i64 0 := by
    intro i hi
    match i, hi with
    | 0, _ => rfl
    | 1, _ => rfl
    | 2, _ => rfl
    | 3, _ => rfl
  apply List.ext_getElem
  · simp [Builtin.zeroCells, Value.cells]
  · intro i h1 h2
    simp [Builtin.zeroCells, Value.cells]
    have := h4 (i % 4) (Nat.mod_lt _ (by omega))
    simpa using this

theorem run_clear_rows (w : World) (q o m c : Nat) (hm : 0 < m) (hc : ∀ j, j < m * 4 → (w.cell? ⟨q, o + j, none⟩).isSome = true) (hf : ∀ j, j < m * 4 → w.frozen? ⟨q, o + j, none⟩ = false) (ty : TypeId) :
    (Builtin.clear_ #[107] ty #[.slice (some ⟨q, o, none⟩) m c]).run Try.prog w = .ok (.tuple #[]) (w.setCells q o (List.replicate (m * 4) (.int .i64 0))) := by
  have hst := run_storeCells_cells (P := Try.prog) q o (List.replicate (m * 4) (.int .i64 0)) 0 w (by simpa using hc) (by simpa using hf) (by intro v hv'; rw [List.eq_of_mem_replicate hv']; rfl)
  simp only [Nat.add_zero] at hst
  have hz := zeroCells_row m
  obtain ⟨m', rfl⟩ : ∃ m', m = m' + 1 := ⟨m - 1, by omega⟩
  simp only [Builtin.clear_]
  simp [run_underlying Try.underlying107, hz, hst]

theorem grown_setCells (q : Nat) : ∀ (vs : List Value) (o : Nat) (w : World), w.grownBy (w.setCells q o vs) (some q)
  | [], _, w => grown_refl w _
  | v :: r, o, w => grown_trans (grown_set w q o v) (grown_setCells q r (o + 1) _)

theorem rows_clear {w : World} {q n : Nat} {R : Nat → Pg.Row} (h : RowsAt w q n R) (a m : Nat) (ham : a + m ≤ n) : RowsAt (w.setCells q (a * 4) (List.replicate (m * 4) (.int .i64 0))) q n (Pg.clr R a m) := by
  have some_ : ∀ j, j < m * 4 → (w.cell? ⟨q, a * 4 + j, none⟩).isSome = true := by
    intro j hj
    have hi : a + j / 4 < n := by omega
    rcases (by omega : j % 4 = 0 ∨ j % 4 = 1 ∨ j % 4 = 2 ∨ j % 4 = 3) with e | e | e | e
    · rw [show a * 4 + j = (a + j / 4) * 4 by omega, h.c0 _ hi]; rfl
    · rw [show a * 4 + j = (a + j / 4) * 4 + 1 by omega, h.c1 _ hi]; rfl
    · rw [show a * 4 + j = (a + j / 4) * 4 + 2 by omega, h.c2 _ hi]; rfl
    · rw [show a * 4 + j = (a + j / 4) * 4 + 3 by omega, h.c3 _ hi]; rfl
  have inn : ∀ j, a * 4 ≤ j → j < (a + m) * 4 → (w.setCells q (a * 4) (List.replicate (m * 4) (.int .i64 0))).cell? ⟨q, j, none⟩ = some (.int .i64 0) := by
    intro j h1 h2
    have := World.cell?_setCells_in q (List.replicate (m * 4) (Value.int .i64 0)) (a * 4) w (by simpa using some_) (j - a * 4) (by simp; omega)
    rw [show a * 4 + (j - a * 4) = j by omega] at this
    rw [this]
    simp
  have out : ∀ j, j < a * 4 ∨ (a + m) * 4 ≤ j → (w.setCells q (a * 4) (List.replicate (m * 4) (.int .i64 0))).cell? ⟨q, j, none⟩ = w.cell? ⟨q, j, none⟩ := by
    intro j hj
    exact World.cell?_setCells_out q _ _ _ _ (fun _ _ => by simp; omega)
  refine ⟨fun i hi => ?_, fun i hi => ?_, fun i hi => ?_, fun i hi => ?_, fun k => ?_, Nat.lt_of_lt_of_le h.qlt (grown_setCells q _ _ _).size⟩
  · by_cases e : a ≤ i ∧ i < a + m
    · rw [inn _ (by omega) (by omega), Pg.clr, if_pos e]; rfl
    · rw [out _ (by omega), Pg.clr, if_neg e]; exact h.c0 i hi
  · by_cases e : a ≤ i ∧ i < a + m
    · rw [inn _ (by omega) (by omega), Pg.clr, if_pos e]; rfl
    · rw [out _ (by omega), Pg.clr, if_neg e]; exact h.c1 i hi
  · by_cases e : a ≤ i ∧ i < a + m
    · rw [inn _ (by omega) (by omega), Pg.clr, if_pos e]; rfl
    · rw [out _ (by omega), Pg.clr, if_neg e]; exact h.c2 i hi
  · by_cases e : a ≤ i ∧ i < a + m
    · rw [inn _ (by omega) (by omega), Pg.clr, if_pos e]; rfl
    · rw [out _ (by omega), Pg.clr, if_neg e]; exact h.c3 i hi
  · rw [World.frozen?_setCells]; exact h.fz k

set_option maxRecDepth 100000 in
set_option maxHeartbeats 2000000 in
theorem unmap_none (p : Nat) (i : Int) (x : Pg.Row) (w : World) (hh : Pg.isHead x = false)
    (hr : Calls Try.prog 48 #[.pointer (some ⟨p, 0, none⟩), .int .i64 i] w fun e w' => e = .returned (rv x) ∧ w.grownBy w' none) :
    Calls Try.prog 45 #[.pointer (some ⟨p, 0, none⟩), .int .i64 i] w fun e w' => e = .returned (.int .i64 6) ∧ w.grownBy w' none := by
  have HR := Lib.hid hr
  have HK := Lib.hid (fun W => heads_at x W)
  rw [hh] at HK
  clear hr hh
  obtain ⟨a, b, c, d⟩ := x
  simp only [rv] at HR HK
  go_enter Try.func45, Try.ntmps45
  go_wp2_with fail
  refine HR.out.mono ?_
  rintro e w1 ⟨rfl, hg⟩
  have HG := Lib.hid hg
  clear hg
  go_wp2_with fail
  refine (HK.out _).mono ?_
  rintro e w2 ⟨rfl, hg⟩
  have HG2 := Lib.hid (grown_trans HG.out (grown_trans (grown_alloc _ _ _) hg))
  clear hg HG
  go_wp2
  go_ret
  exact ⟨rfl, HG2.out⟩

set_option maxRecDepth 100000 in
set_option maxHeartbeats 2000000 in
theorem unmap_core {w : World} {p q n cap : Nat} {R : Nat → Pg.Row} (h : TabAt w p q n cap R) (i : Nat) (hi : i < n) (hh : Pg.isHead (R i) = true) (m : Nat) (hmr : (R i).r = m) :
    Calls Try.prog 45 #[.pointer (some ⟨p, 0, none⟩), .int .i64 i] w fun e w' => e = .returned (.int .i64 0) ∧ TabAt w' p q n cap (Pg.clr R i m) ∧ w.grownBy w' (some q) := by
  have HR := prow_at h i
  rw [getR_in hi] at HR
  have HR := Lib.hid HR
  have HK := Lib.hid (fun W => heads_at (R i) W)
  rw [hh] at HK
  have H := Lib.hid h
  obtain ⟨r1, r2, r3, _⟩ := h.ok.headr hi hh
  have hok := Pg.ok_clr h.ok hi hh
  rw [hmr, Int.toNat_natCast] at hok
  have hok := Lib.hid hok
  have hcap := h.hcap
  have hn256 := h.small
  have hnp := h.ne
  have hqlt := h.rows.qlt
  clear h hh
  have hx : ∃ a b c, R i = ⟨a, b, c, m⟩ := ⟨_, _, _, by rw [← hmr]⟩
  obtain ⟨a, b, c, hx⟩ := hx
  rw [hx] at HR HK r1 r2 r3
  simp only [rv] at HR HK r1 r2 r3
  clear hmr hx
  go_enter Try.func45, Try.ntmps45
  go_wp2_with fail
  refine HR.out.mono ?_
  rintro e w1 ⟨rfl, hg⟩
  have HG := Lib.hid hg
  clear hg HR
  go_wp2_with fail
  refine (HK.out _).mono ?_
  rintro e w2 ⟨rfl, hg⟩
  have HG2 := Lib.hid (grown_trans HG.out (grown_trans (grown_alloc _ _ _) hg))
  have e3 := new_cell hg (by simp) 3 (v := .int .i64 m) rfl
  clear hg HG
  have HT := Lib.hid (H.out.grown HG2.out (by simp) (by simp))
  have c2 := HT.out.c
  have him : i + m ≤ n := by omega
  have him' : (i : Int) + m ≤ n := by omega
  have him2 : (i : Int) + m ≤ cap := by omega
  have hin : (i : Int) ≤ i + m := by omega
  have hci : ¬ cap = i := by omega
  have hi256 : i ≤ 256 := by omega
  have hm256 : m ≤ 256 := by omega
  have hrun : ∀ ty, _ := fun ty => run_clear_rows w2.drew q (i * 4) m (cap - i) (by omega) (fun j hj => by
    have hi' : i + j / 4 < n := by omega
    rcases (by omega : j % 4 = 0 ∨ j % 4 = 1 ∨ j % 4 = 2 ∨ j % 4 = 3) with e | e | e | e
    · rw [show i * 4 + j = (i + j / 4) * 4 by omega, World.cell?_drew, HT.out.rows.c0 _ hi']; rfl
    · rw [show i * 4 + j = (i + j / 4) * 4 + 1 by omega, World.cell?_drew, HT.out.rows.c1 _ hi']; rfl
    · rw [show i * 4 + j = (i + j / 4) * 4 + 2 by omega, World.cell?_drew, HT.out.rows.c2 _ hi']; rfl
    · rw [show i * 4 + j = (i + j / 4) * 4 + 3 by omega, World.cell?_drew, HT.out.rows.c3 _ hi']; rfl) (fun j _ => HT.out.rows.fz _) ty
  have HRUN := Lib.hid hrun
  have HF := Lib.hid (rows_clear HT.out.rows.drew i m him)
  have HGF := Lib.hid (grown_trans (grown_none HG2.out) (grown_trans (grown_drew1 (grown_refl w2 _)) (grown_setCells q (List.replicate (m * 4) (.int .i64 0)) (i * 4) w2.drew)))
  have HTB := Lib.hid (TabAt.mk (cap := cap) (HGF.out.cell (grown_none (r := some q) (grown_refl w none) |>.cell H.out.c (by simpa using hnp)) (by simpa using hnp)) HF.out hnp hcap hn256 hok.out)
  clear hrun HK H HF
  have q1 : IntKind.i64.wrap ((i : Int) + m) = (i : Int) + m := IntWalk.i64_in _ (by omega)
  have q2 : (0 : Int) ≤ (i : Int) + m := by omega
  have q3 : ((i : Int) + m).toNat = i + m := by omega
  have q4 : i + m - i = m := by omega
  have q5 : i ≤ i + m := by omega
  go_wp2_with fail
  go_region_law (refine step_clear rfl _ _ rfl _ rfl HRUN.out ?_)
  all_goals
    clear q1 q2 q3 q4 q5
    go_wp2
    go_ret
    exact ⟨rfl, HTB.out, HGF.out⟩

theorem unmap_first {w : World} {p q n cap : Nat} {R : Nat → Pg.Row} (h : TabAt w p q n cap R) (i : Nat) (hi : i < n) (hh : Pg.isHead (R i) = true) :
    Calls Try.prog 45 #[.pointer (some ⟨p, 0, none⟩), .int .i64 i] w fun e w' => e = .returned (.int .i64 0) ∧ TabAt w' p q n cap (Pg.clr R i (R i).r.toNat) ∧ w.grownBy w' (some q) :=
  unmap_core h i hi hh _ (by have := (h.ok.headr hi hh).1; omega)
theorem unmap_other {w : World} {p q n cap : Nat} {R : Nat → Pg.Row} (h : TabAt w p q n cap R) (i : Int) (hh : Pg.isHead (getR R n i) = false) :
    Calls Try.prog 45 #[.pointer (some ⟨p, 0, none⟩), .int .i64 i] w fun e w' => e = .returned (.int .i64 6) ∧ w.grownBy w' none :=
  unmap_none p i _ w hh (prow_at h i)
set_option maxHeartbeats 400000 in
theorem unmap_nil (i : Int) (w : World) :
    Calls Try.prog 45 #[.pointer none, .int .i64 i] w fun e w' => e = .returned (.int .i64 2) ∧ w = w' := by
  go_enter Try.func45, Try.ntmps45
  go_wp2
  go_ret
  exact ⟨rfl, rfl⟩

theorem run_make_rowN {P : Program} (t e : TypeId) (i : TypeInfo) (z : Value) (ht : P.underlying t = some (.slice e)) (hi : P.info? e = some i) (hz : i.zero = some z)
    (kl kc : IntKind) (n c : Nat) (hnc : n ≤ c) (hbytes : i.bytes * c ≤ 281474976710656) (h63 : c ≤ 9223372036854775807) (w : World) :
    (Instr.makeSlice t (.int kl (n : Int)) (.int kc (c : Int))).run P w = .ok (.slice (some ⟨w.heap.size, 0, none⟩) n c) (w.alloc (.cells (madeCells z.cells (c * i.size)) e)) := by
  have hb : (i.bytes : Int) * (c : Int) ≤ 281474976710656 := by
    have h : ((i.bytes * c : Nat) : Int) ≤ 281474976710656 := by omega
    rwa [Int.natCast_mul] at h
  have hr := run_make (P := P) w t e i z ht hi hz kl kc n c (by omega) (by omega) hb (by omega)
  simp only [Int.toNat_natCast] at hr
  exact hr

theorem infoRow : (Try.prog.info? 76).map (fun i => (i.zero, i.size, i.bytes)) = some (some (.agg #[.int .i64 0, .int .i64 0, .int .i64 0, .int .i64 0]), 4, 32) := by kernel_rfl
theorem infoRRow : (Try.prog.info? 71).map (fun i => (i.zero, i.size, i.bytes)) = some (some (.agg #[.int .i64 0, .int .i64 0, .int .i64 0, .int .i64 0]), 4, 32) := by kernel_rfl

/-- n rows of noughts. -/
def zeroRows (n : Nat) : Array Value := madeCells (Value.agg #[.int .i64 0, .int .i64 0, .int .i64 0, .int .i64 0]).cells (n * 4)
theorem zeroRows_at (n k : Nat) (h : k < n * 4) : (zeroRows n)[k]? = some (.int .i64 0) := by
  have h4 : ∀ i, i < 4 → (#[Value.int .i64 0, .int .i64 0, .int .i64 0, .int .i64 0] : Array Value)[i]! = .int .i64 0 := by
    intro i hi
    match i, hi with
    | 0, _ => rfl
    | 1, _ => rfl
    | 2, _ => rfl
    | 3, _ => rfl
  have := h4 (k % 4) (Nat.mod_lt _ (by omega))
  simp [zeroRows, madeCells, Value.cells, h]
  simpa using this
theorem rows_new (w : World) (t : TypeId) (n : Nat) : RowsAt (w.alloc (.cells (zeroRows n) t)) w.heap.size n (fun _ => Pg.zero) where
  c0 := fun i hi => by rw [cell_alloc_new]; exact zeroRows_at n _ (by omega)
  c1 := fun i hi => by rw [cell_alloc_new]; exact zeroRows_at n _ (by omega)
  c2 := fun i hi => by rw [cell_alloc_new]; exact zeroRows_at n _ (by omega)
  c3 := fun i hi => by rw [cell_alloc_new]; exact zeroRows_at n _ (by omega)
  fz := fun k => frozen_alloc_new ..
  qlt := by simp
theorem make_rows (w : World) (n : Nat) (hn : n ≤ 256) : (Instr.makeSlice 107 (.int .i64 (n : Int)) (.int .i64 (n : Int))).run Try.prog w =
    .ok (.slice (some ⟨w.heap.size, 0, none⟩) n n) (w.alloc (.cells (zeroRows n) 76)) := by
  obtain ⟨i0, hi, hz0, hz1, hz2⟩ := info_parts infoRow
  have h := run_make_rowN (P := Try.prog) 107 76 i0 _ Try.underlying107 hi hz0 .i64 .i64 n n (Nat.le_refl _) (by rw [hz2]; omega) (by omega) w
  rw [hz1] at h
  exact h
theorem make_rrows (w : World) (n : Nat) (hn : n ≤ 256) : (Instr.makeSlice 68 (.int .i64 (n : Int)) (.int .i64 (n : Int))).run Try.prog w =
    .ok (.slice (some ⟨w.heap.size, 0, none⟩) n n) (w.alloc (.cells (zeroRows n) 71)) := by
  obtain ⟨i0, hi, hz0, hz1, hz2⟩ := info_parts infoRRow
  have h := run_make_rowN (P := Try.prog) 68 71 i0 _ Try.underlying68 hi hz0 .i64 .i64 n n (Nat.le_refl _) (by rw [hz2]; omega) (by omega) w
  rw [hz1] at h
  exact h

/-- A new table: the object and its rows lie in new blocks; nothing that was there has turned. -/
def PMade (w w' : World) (n : Nat) (R : Nat → Pg.Row) (e : Ending) : Prop :=
  ∃ p q cap, e = .returned (.pointer (some ⟨p, 0, none⟩)) ∧ TabAt w' p q n cap R ∧ w.heap.size ≤ p ∧ w.heap.size ≤ q ∧ w.grownBy w' none

theorem pnew_made (w : World) (n : Nat) (hn : n ≤ 256) :
    PMade w ((w.alloc (.cells (zeroRows n) 76)).alloc (.cells #[.slice (some ⟨w.heap.size, 0, none⟩) n n] 109)) n (fun _ => Pg.zero) (.returned (.pointer (some ⟨w.heap.size + 1, 0, none⟩))) := by
  have hs : (w.alloc (.cells (zeroRows n) 76)).heap.size = w.heap.size + 1 := by simp
  have g := grown_alloc (w.alloc (.cells (zeroRows n) 76)) (.cells #[.slice (some ⟨w.heap.size, 0, none⟩) n n] 109) none
  refine ⟨w.heap.size + 1, w.heap.size, n, rfl, ⟨?_, (rows_new w _ n).grown g (by simp), by omega, Nat.le_refl _, hn, Pg.ok_new n⟩, by omega, Nat.le_refl _, grown_trans (grown_alloc _ _ _) g⟩
  rw [← hs, cell_alloc_new]
  rfl

/-- How many pages are made of a number. -/
def clamp256 (n : Int) : Nat := if n < 0 then 0 else if n ≤ 256 then n.toNat else 256
theorem clamp256_le (n : Int) : clamp256 n ≤ 256 := by unfold clamp256; split <;> (try split) <;> omega
theorem clamp256_is (n : Int) : (n < 0 ∧ clamp256 n = 0) ∨ (0 ≤ n ∧ n ≤ 256 ∧ (clamp256 n : Int) = n) ∨ (256 < n ∧ clamp256 n = 256) := by unfold clamp256; split <;> (try split) <;> omega

set_option maxHeartbeats 800000 in
theorem pnew_neg (n : Int) (w : World) (h : n < 0) :
    Calls Try.prog 34 #[.int .i64 n] w fun e w' => PMade w w' 0 (fun _ => Pg.zero) e := by
  have hmk : (Instr.makeSlice 107 (.int .i64 0) (.int .i64 0)).run Try.prog w = .ok (.slice (some ⟨w.heap.size, 0, none⟩) 0 0) (w.alloc (.cells (zeroRows 0) 76)) := make_rows w 0 (by omega)
  have HM := Lib.hid (pnew_made w 0 (by omega))
  generalize zeroRows 0 = z at *
  go_enter Try.func34, Try.ntmps34
  go_wp2
  go_ret
  exact HM.out
set_option maxHeartbeats 800000 in
theorem pnew_big (n : Int) (w : World) (h : 256 < n) :
    Calls Try.prog 34 #[.int .i64 n] w fun e w' => PMade w w' 256 (fun _ => Pg.zero) e := by
  have hmk : (Instr.makeSlice 107 (.int .i64 256) (.int .i64 256)).run Try.prog w = .ok (.slice (some ⟨w.heap.size, 0, none⟩) 256 256) (w.alloc (.cells (zeroRows 256) 76)) := make_rows w 256 (by omega)
  have HM := Lib.hid (pnew_made w 256 (by omega))
  have h0 : 0 < n := by omega
  generalize zeroRows 256 = z at *
  go_enter Try.func34, Try.ntmps34
  go_wp2
  go_ret
  exact HM.out
set_option maxHeartbeats 800000 in
theorem pnew_mid (n : Nat) (w : World) (h : n ≤ 256) :
    Calls Try.prog 34 #[.int .i64 n] w fun e w' => PMade w w' n (fun _ => Pg.zero) e := by
  have hmk := make_rows w n h
  have HM := Lib.hid (pnew_made w n h)
  have h0 : 0 ≤ (n : Int) := by omega
  have h1 : (n : Int) ≤ 256 := by omega
  generalize zeroRows n = z at *
  go_enter Try.func34, Try.ntmps34
  go_wp2
  go_ret
  exact HM.out
theorem pnew_at (n : Int) (w : World) :
    Calls Try.prog 34 #[.int .i64 n] w fun e w' => PMade w w' (clamp256 n) (fun _ => Pg.zero) e := by
  rcases clamp256_is n with ⟨h, e⟩ | ⟨h0, h1, e⟩ | ⟨h, e⟩
  · rw [e]; exact pnew_neg n w h
  · obtain ⟨k, rfl⟩ : ∃ k : Nat, n = k := ⟨n.toNat, by omega⟩
    rw [show clamp256 (k : Int) = k by omega]
    exact pnew_mid k w (by omega)
  · rw [e]; exact pnew_big n w h

set_option maxHeartbeats 400000 in
theorem pcopy_nil (w : World) : Calls Try.prog 36 #[.pointer none] w fun e w' => e = .returned (.pointer none) ∧ w = w' := by
  go_enter Try.func36, Try.ntmps36
  go_wp2
  go_ret
  exact ⟨rfl, rfl⟩
end Go.Proofs.Ytbpganholopjfaa
