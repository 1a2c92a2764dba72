/- The walks of a ledger's live, back, Took, Dropped, Fault. -/
import Derived.Test.YtgnfcklippjeeaaGreatFA
namespace Go.Proofs.YtgnfcklippjeeaaGreat
open Go.RowKit
open Go.Maps (Keyed)
open Sl (Cls bs upd FOk LnkIs)
open Lg (pgs)

/-- The live block's place that a byte lies in. -/
def lvV : Option Pc → Option Pc
  | none => none
  | some p => if p.st = 1 then some p else none
theorem fndV_shape (x : Option Pc) : ∃ x0 x1 x2 x3 x4 : Int, ∃ x5 b : Bool, fndV x = .tuple #[.agg #[.int .i64 x0, .int .i64 x1, .int .i64 x2, .int .i64 x3, .int .i64 x4, .bool x5], .bool b] ∧ (x = none → b = false) ∧ (∀ p, x = some p → b = true ∧ x4 = (p.st : Nat) ∧ pcv p = .agg #[.int .i64 x0, .int .i64 x1, .int .i64 x2, .int .i64 x3, .int .i64 x4, .bool x5]) := by
  cases x with
  | none => exact ⟨_, _, _, _, _, _, _, rfl, fun _ => rfl, fun _ h => by cases h⟩
  | some p => exact ⟨_, _, _, _, _, _, _, rfl, (fun h => by cases h), fun q h => by cases h; exact ⟨rfl, rfl, rfl⟩⟩
set_option maxRecDepth 100000 in
set_option maxHeartbeats 1000000 in
theorem live_c0 {w : World} {r p : Nat} {a : Int} {x0 x1 x2 x3 x4 : Int} {x5 b : Bool} (c0 : w.cell? ⟨p, 0, none⟩ = some (.pointer (some ⟨r, 0, none⟩)))
    (HF : Hid (∀ W, w.grownBy W none → Calls Tryz.prog 27 #[.pointer (some ⟨r, 0, none⟩), .int .i64 a] W fun e w' => e = .returned (.tuple #[.agg #[.int .i64 x0, .int .i64 x1, .int .i64 x2, .int .i64 x3, .int .i64 x4, .bool x5], .bool b]) ∧ W.grownBy w' none)) (hb : b = false ∨ x4 ≠ 1) :
    Calls Tryz.prog 92 #[.pointer (some ⟨p, 0, none⟩), .int .i64 a] w fun e w' => e = .returned (fndV none) ∧ w.grownBy w' none := by
  have m0 := grown_alloc w (.cells #[.int .i64 0, .int .i64 0, .int .i64 0, .int .i64 0, .int .i64 0, .bool false] 37) none
  have c00 := m0.cell c0 (by simp)
  clear c0
  by_cases hbt : b = false
  · subst hbt
    clear hb
    go_enter Tryz.func92, Tryz.ntmps92
    go_wp2_with fail
    refine (HF.out _ m0).mono ?_
    rintro e w1 ⟨rfl, m1⟩
    have m2 := grown_alloc w1 (.cells #[.int .i64 x0, .int .i64 x1, .int .i64 x2, .int .i64 x3, .int .i64 x4, .bool x5] 37) none
    have mm := grown_trans m1 m2
    have HE := Lib.hid (grown_trans m0 mm)
    clear c00 HF m0
    have z0 := new_cell (v := .int .i64 0) mm (by simp) 0 rfl
    have z1 := new_cell (v := .int .i64 0) mm (by simp) 1 rfl
    have z2 := new_cell (v := .int .i64 0) mm (by simp) 2 rfl
    have z3 := new_cell (v := .int .i64 0) mm (by simp) 3 rfl
    have z4 := new_cell (v := .int .i64 0) mm (by simp) 4 rfl
    have z5 := new_cell (v := .bool false) mm (by simp) 5 rfl
    have zf : ∀ k, (w1.alloc (.cells #[.int .i64 x0, .int .i64 x1, .int .i64 x2, .int .i64 x3, .int .i64 x4, .bool x5] 37)).frozen? ⟨w.heap.size, k, none⟩ = false := fun k => by rw [World.frozen?_of_block (mm.block w.heap.size (by simp) (by simp))]; exact frozen_alloc_new ..
    have y0 : (w1.alloc (.cells #[.int .i64 x0, .int .i64 x1, .int .i64 x2, .int .i64 x3, .int .i64 x4, .bool x5] 37)).cell? ⟨w1.heap.size, 0, none⟩ = some (.int .i64 x0) := by rw [cell_alloc_new]; rfl
    have y1 : (w1.alloc (.cells #[.int .i64 x0, .int .i64 x1, .int .i64 x2, .int .i64 x3, .int .i64 x4, .bool x5] 37)).cell? ⟨w1.heap.size, 1, none⟩ = some (.int .i64 x1) := by rw [cell_alloc_new]; rfl
    have y2 : (w1.alloc (.cells #[.int .i64 x0, .int .i64 x1, .int .i64 x2, .int .i64 x3, .int .i64 x4, .bool x5] 37)).cell? ⟨w1.heap.size, 2, none⟩ = some (.int .i64 x2) := by rw [cell_alloc_new]; rfl
    have y3 : (w1.alloc (.cells #[.int .i64 x0, .int .i64 x1, .int .i64 x2, .int .i64 x3, .int .i64 x4, .bool x5] 37)).cell? ⟨w1.heap.size, 3, none⟩ = some (.int .i64 x3) := by rw [cell_alloc_new]; rfl
    have y4 : (w1.alloc (.cells #[.int .i64 x0, .int .i64 x1, .int .i64 x2, .int .i64 x3, .int .i64 x4, .bool x5] 37)).cell? ⟨w1.heap.size, 4, none⟩ = some (.int .i64 x4) := by rw [cell_alloc_new]; rfl
    have y5 : (w1.alloc (.cells #[.int .i64 x0, .int .i64 x1, .int .i64 x2, .int .i64 x3, .int .i64 x4, .bool x5] 37)).cell? ⟨w1.heap.size, 5, none⟩ = some (.bool x5) := by rw [cell_alloc_new]; rfl
    obtain ⟨q, hq⟩ : ∃ q, w.heap.size = q := ⟨_, rfl⟩
    have HQ := Lib.hid hq
    have HN : Hid (q ≠ w1.heap.size) := Lib.hid (by have := m1.size; simp at this; omega)
    rw [hq] at z0 z1 z2 z3 z4 z5 zf ⊢
    clear hq m1 m2 mm
    obtain ⟨q1, hq1⟩ : ∃ q1, w1.heap.size = q1 := ⟨_, rfl⟩
    rw [hq1] at y0 y1 y2 y3 y4 y5 HN
    obtain ⟨w2, hw2⟩ : ∃ w2, (w1.alloc (.cells #[.int .i64 x0, .int .i64 x1, .int .i64 x2, .int .i64 x3, .int .i64 x4, .bool x5] 37)) = w2 := ⟨_, rfl⟩
    rw [hw2] at z0 z1 z2 z3 z4 z5 zf y0 y1 y2 y3 y4 y5 HE
    have HNE := HN.out
    go_upto_region 2 with (fail)

    clear hw2 hq1
    go_wp2
    exact bodyPost_ret (v := fndV none) (by simp [results, Tryz.results92, go_sem, fndV, pc0, World.cell?_setCell_same', z0, z1, z2, z3, z4, z5]) rfl ⟨rfl, grown_own HE.out (grown_trans (grown_trans (grown_trans (grown_trans (grown_trans (An.agrown_set w2 q 0 _) (An.agrown_set _ q 1 _)) (An.agrown_set _ q 2 _)) (An.agrown_set _ q 3 _)) (An.agrown_set _ q 4 _)) (An.agrown_set _ q 5 _)) (Nat.le_of_eq HQ.out)⟩
  · obtain rfl : b = true := by cases b <;> simp_all
    have h4 : (x4 != 1) = true := by simpa using hb.resolve_left (by simp)
    clear hb hbt
    go_enter Tryz.func92, Tryz.ntmps92
    go_wp2_with fail
    refine (HF.out _ m0).mono ?_
    rintro e w1 ⟨rfl, m1⟩
    have m2 := grown_alloc w1 (.cells #[.int .i64 x0, .int .i64 x1, .int .i64 x2, .int .i64 x3, .int .i64 x4, .bool x5] 37) none
    have mm := grown_trans m1 m2
    have HE := Lib.hid (grown_trans m0 mm)
    clear c00 HF m0
    have z0 := new_cell (v := .int .i64 0) mm (by simp) 0 rfl
    have z1 := new_cell (v := .int .i64 0) mm (by simp) 1 rfl
    have z2 := new_cell (v := .int .i64 0) mm (by simp) 2 rfl
    have z3 := new_cell (v := .int .i64 0) mm (by simp) 3 rfl
    have z4 := new_cell (v := .int .i64 0) mm (by simp) 4 rfl
    have z5 := new_cell (v := .bool false) mm (by simp) 5 rfl
    have zf : ∀ k, (w1.alloc (.cells #[.int .i64 x0, .int .i64 x1, .int .i64 x2, .int .i64 x3, .int .i64 x4, .bool x5] 37)).frozen? ⟨w.heap.size, k, none⟩ = false := fun k => by rw [World.frozen?_of_block (mm.block w.heap.size (by simp) (by simp))]; exact frozen_alloc_new ..
    have y0 : (w1.alloc (.cells #[.int .i64 x0, .int .i64 x1, .int .i64 x2, .int .i64 x3, .int .i64 x4, .bool x5] 37)).cell? ⟨w1.heap.size, 0, none⟩ = some (.int .i64 x0) := by rw [cell_alloc_new]; rfl
    have y1 : (w1.alloc (.cells #[.int .i64 x0, .int .i64 x1, .int .i64 x2, .int .i64 x3, .int .i64 x4, .bool x5] 37)).cell? ⟨w1.heap.size, 1, none⟩ = some (.int .i64 x1) := by rw [cell_alloc_new]; rfl
    have y2 : (w1.alloc (.cells #[.int .i64 x0, .int .i64 x1, .int .i64 x2, .int .i64 x3, .int .i64 x4, .bool x5] 37)).cell? ⟨w1.heap.size, 2, none⟩ = some (.int .i64 x2) := by rw [cell_alloc_new]; rfl
    have y3 : (w1.alloc (.cells #[.int .i64 x0, .int .i64 x1, .int .i64 x2, .int .i64 x3, .int .i64 x4, .bool x5] 37)).cell? ⟨w1.heap.size, 3, none⟩ = some (.int .i64 x3) := by rw [cell_alloc_new]; rfl
    have y4 : (w1.alloc (.cells #[.int .i64 x0, .int .i64 x1, .int .i64 x2, .int .i64 x3, .int .i64 x4, .bool x5] 37)).cell? ⟨w1.heap.size, 4, none⟩ = some (.int .i64 x4) := by rw [cell_alloc_new]; rfl
    have y5 : (w1.alloc (.cells #[.int .i64 x0, .int .i64 x1, .int .i64 x2, .int .i64 x3, .int .i64 x4, .bool x5] 37)).cell? ⟨w1.heap.size, 5, none⟩ = some (.bool x5) := by rw [cell_alloc_new]; rfl
    obtain ⟨q, hq⟩ : ∃ q, w.heap.size = q := ⟨_, rfl⟩
    have HQ := Lib.hid hq
    have HN : Hid (q ≠ w1.heap.size) := Lib.hid (by have := m1.size; simp at this; omega)
    rw [hq] at z0 z1 z2 z3 z4 z5 zf ⊢
    clear hq m1 m2 mm
    obtain ⟨q1, hq1⟩ : ∃ q1, w1.heap.size = q1 := ⟨_, rfl⟩
    rw [hq1] at y0 y1 y2 y3 y4 y5 HN
    obtain ⟨w2, hw2⟩ : ∃ w2, (w1.alloc (.cells #[.int .i64 x0, .int .i64 x1, .int .i64 x2, .int .i64 x3, .int .i64 x4, .bool x5] 37)) = w2 := ⟨_, rfl⟩
    rw [hw2] at z0 z1 z2 z3 z4 z5 zf y0 y1 y2 y3 y4 y5 HE
    have HNE := HN.out
    go_upto_region 2 with (fail)

    clear hw2 hq1
    go_wp2
    exact bodyPost_ret (v := fndV none) (by simp [results, Tryz.results92, go_sem, fndV, pc0, World.cell?_setCell_same', z0, z1, z2, z3, z4, z5]) rfl ⟨rfl, grown_own HE.out (grown_trans (grown_trans (grown_trans (grown_trans (grown_trans (An.agrown_set w2 q 0 _) (An.agrown_set _ q 1 _)) (An.agrown_set _ q 2 _)) (An.agrown_set _ q 3 _)) (An.agrown_set _ q 4 _)) (An.agrown_set _ q 5 _)) (Nat.le_of_eq HQ.out)⟩
set_option maxRecDepth 100000 in
set_option maxHeartbeats 1000000 in
theorem live_c1 {w : World} {r p : Nat} {a : Int} {x0 x1 x2 x3 : Int} {x5 : Bool} (c0 : w.cell? ⟨p, 0, none⟩ = some (.pointer (some ⟨r, 0, none⟩)))
    (HF : Hid (∀ W, w.grownBy W none → Calls Tryz.prog 27 #[.pointer (some ⟨r, 0, none⟩), .int .i64 a] W fun e w' => e = .returned (.tuple #[.agg #[.int .i64 x0, .int .i64 x1, .int .i64 x2, .int .i64 x3, .int .i64 1, .bool x5], .bool true]) ∧ W.grownBy w' none)) :
    Calls Tryz.prog 92 #[.pointer (some ⟨p, 0, none⟩), .int .i64 a] w fun e w' => e = .returned (.tuple #[.agg #[.int .i64 x0, .int .i64 x1, .int .i64 x2, .int .i64 x3, .int .i64 1, .bool x5], .bool true]) ∧ w.grownBy w' none := by
  have m0 := grown_alloc w (.cells #[.int .i64 0, .int .i64 0, .int .i64 0, .int .i64 0, .int .i64 0, .bool false] 37) none
  have c00 := m0.cell c0 (by simp)
  clear c0
  go_enter Tryz.func92, Tryz.ntmps92
  go_wp2_with fail
  refine (HF.out _ m0).mono ?_
  rintro e w1 ⟨rfl, m1⟩
  have m2 := grown_alloc w1 (.cells #[.int .i64 x0, .int .i64 x1, .int .i64 x2, .int .i64 x3, .int .i64 1, .bool x5] 37) none
  have mm := grown_trans m1 m2
  have HE := Lib.hid (grown_trans m0 mm)
  clear c00 HF m0
  have z0 := new_cell (v := .int .i64 0) mm (by simp) 0 rfl
  have z1 := new_cell (v := .int .i64 0) mm (by simp) 1 rfl
  have z2 := new_cell (v := .int .i64 0) mm (by simp) 2 rfl
  have z3 := new_cell (v := .int .i64 0) mm (by simp) 3 rfl
  have z4 := new_cell (v := .int .i64 0) mm (by simp) 4 rfl
  have z5 := new_cell (v := .bool false) mm (by simp) 5 rfl
  have zf : ∀ k, (w1.alloc (.cells #[.int .i64 x0, .int .i64 x1, .int .i64 x2, .int .i64 x3, .int .i64 1, .bool x5] 37)).frozen? ⟨w.heap.size, k, none⟩ = false := fun k => by rw [World.frozen?_of_block (mm.block w.heap.size (by simp) (by simp))]; exact frozen_alloc_new ..
  have y0 : (w1.alloc (.cells #[.int .i64 x0, .int .i64 x1, .int .i64 x2, .int .i64 x3, .int .i64 1, .bool x5] 37)).cell? ⟨w1.heap.size, 0, none⟩ = some (.int .i64 x0) := by rw [cell_alloc_new]; rfl
  have y1 : (w1.alloc (.cells #[.int .i64 x0, .int .i64 x1, .int .i64 x2, .int .i64 x3, .int .i64 1, .bool x5] 37)).cell? ⟨w1.heap.size, 1, none⟩ = some (.int .i64 x1) := by rw [cell_alloc_new]; rfl
  have y2 : (w1.alloc (.cells #[.int .i64 x0, .int .i64 x1, .int .i64 x2, .int .i64 x3, .int .i64 1, .bool x5] 37)).cell? ⟨w1.heap.size, 2, none⟩ = some (.int .i64 x2) := by rw [cell_alloc_new]; rfl
  have y3 : (w1.alloc (.cells #[.int .i64 x0, .int .i64 x1, .int .i64 x2, .int .i64 x3, .int .i64 1, .bool x5] 37)).cell? ⟨w1.heap.size, 3, none⟩ = some (.int .i64 x3) := by rw [cell_alloc_new]; rfl
  have y4 : (w1.alloc (.cells #[.int .i64 x0, .int .i64 x1, .int .i64 x2, .int .i64 x3, .int .i64 1, .bool x5] 37)).cell? ⟨w1.heap.size, 4, none⟩ = some (.int .i64 1) := by rw [cell_alloc_new]; rfl
  have y5 : (w1.alloc (.cells #[.int .i64 x0, .int .i64 x1, .int .i64 x2, .int .i64 x3, .int .i64 1, .bool x5] 37)).cell? ⟨w1.heap.size, 5, none⟩ = some (.bool x5) := by rw [cell_alloc_new]; rfl
  obtain ⟨q, hq⟩ : ∃ q, w.heap.size = q := ⟨_, rfl⟩
  have HQ := Lib.hid hq
  have HN : Hid (q ≠ w1.heap.size) := Lib.hid (by have := m1.size; simp at this; omega)
  rw [hq] at z0 z1 z2 z3 z4 z5 zf ⊢
  clear hq m1 m2 mm
  obtain ⟨q1, hq1⟩ : ∃ q1, w1.heap.size = q1 := ⟨_, rfl⟩
  rw [hq1] at y0 y1 y2 y3 y4 y5 HN
  obtain ⟨w2, hw2⟩ : ∃ w2, (w1.alloc (.cells #[.int .i64 x0, .int .i64 x1, .int .i64 x2, .int .i64 x3, .int .i64 1, .bool x5] 37)) = w2 := ⟨_, rfl⟩
  rw [hw2] at z0 z1 z2 z3 z4 z5 zf y0 y1 y2 y3 y4 y5 HE
  have HNE := HN.out
  go_upto_region 2 with (fail)

  clear hw2 hq1
  go_wp2
  exact bodyPost_ret (v := .tuple #[.agg #[.int .i64 x0, .int .i64 x1, .int .i64 x2, .int .i64 x3, .int .i64 1, .bool x5], .bool true]) (by simp [results, Tryz.results92, go_sem, World.cell?_setCell_same', z0, z1, z2, z3, z4, z5]) rfl ⟨rfl, grown_own HE.out (grown_trans (grown_trans (grown_trans (grown_trans (grown_trans (An.agrown_set w2 q 0 _) (An.agrown_set _ q 1 _)) (An.agrown_set _ q 2 _)) (An.agrown_set _ q 3 _)) (An.agrown_set _ q 4 _)) (An.agrown_set _ q 5 _)) (Nat.le_of_eq HQ.out)⟩
theorem live_at {w : World} {A : Rp} {V : St} {cnt p : Nat} {a : Int} {x : Option Pc} (h : RnAt w A V cnt) (c0 : w.cell? ⟨p, 0, none⟩ = some (.pointer (some ⟨A.p, 0, none⟩))) (hx : V.At a x) :
    Calls Tryz.prog 92 #[.pointer (some ⟨p, 0, none⟩), .int .i64 a] w fun e w' => e = .returned (fndV (lvV x)) ∧ w.grownBy w' none := by
  obtain ⟨x0, x1, x2, x3, x4, x5, b, hv, h1, h2⟩ := fndV_shape x
  have HF := Lib.hid (fun W (g1 : w.grownBy W none) => find_at (h.grown g1) hx)
  rw [hv] at HF
  cases x with
  | none => exact live_c0 c0 HF (.inl (h1 rfl))
  | some q =>
    obtain ⟨rfl, e4, e5⟩ := h2 q rfl
    unfold lvV
    by_cases e : q.st = 1
    · simp only [if_pos e]
      rw [show x4 = 1 by rw [e4, e]; rfl] at HF
      have hr : fndV (some q) = .tuple #[.agg #[.int .i64 x0, .int .i64 x1, .int .i64 x2, .int .i64 x3, .int .i64 1, .bool x5], .bool true] := by rw [hv, show x4 = 1 by rw [e4, e]; rfl]
      rw [hr]
      exact live_c1 c0 HF
    · simp only [if_neg e]
      exact live_c0 c0 HF (.inr (by rw [e4]; omega))
end Go.Proofs.YtgnfcklippjeeaaGreat
