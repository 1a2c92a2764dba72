/- The document's ledger: the walk of Fault. -/
import Derived.Test.YtgnfcklippjeeaaGreatPA
import Derived.Test.YtgnfcklippjeeaaGreatL4
namespace Go.Proofs.YtgnfcklippjeeaaGreat
open Go.RowKit
open Sl (Cls bs upd)
open Lg (pgs)
open Rf (LZ)

set_option maxRecDepth 100000 in
set_option maxHeartbeats 1000000 in
theorem dfault_out {w : World} {T : Nat → Nat} {D : Dp} {V : St} {l q cap : Nat} {G : Nat → Bool} (h : DrW w T D V) (hd : DlAt w l D.p q (V.n * 256) cap G) {a : Int} (ha : a < 0 ∨ ((V.n * 256 : Nat) : Int) ≤ a) :
    Calls Tryz.prog 43 #[.pointer (some ⟨l, 0, none⟩), .int .i64 a] w fun e w' => e = .returned (.int .i64 1) ∧ w.grownBy w' none := by
  obtain ⟨qb, cb, b1, b2, b3, b4⟩ := h.bt
  have c0 := hd.c0
  have hdd : decide (a < 0) = true ∨ (decide (a < 0) = false ∧ decide (a ≥ ((V.n * 256 : Nat) : Int)) = true) := by
    by_cases h0 : a < 0
    · exact .inl (decide_eq_true h0)
    · exact .inr ⟨decide_eq_false h0, decide_eq_true (by omega)⟩
  clear h hd ha b2 b3 b4
  generalize V.n * 256 = N at *
  rcases hdd with e0 | ⟨e0, e1⟩
  · go_enter Tryz.func43, Tryz.ntmps43
    go_wp2
    go_ret
    exact ⟨rfl, grown_refl _ _⟩
  · go_enter Tryz.func43, Tryz.ntmps43
    go_wp2
    go_ret
    exact ⟨rfl, grown_refl _ _⟩
set_option maxRecDepth 100000 in
set_option maxHeartbeats 1000000 in
theorem dfault_managed {w : World} {T : Nat → Nat} {D : Dp} {V : St} {l q cap : Nat} {G : Nat → Bool} (h : DrW w T D V) (hm : V.m ≤ 256) (hn : V.n ≤ 256) (hd : DlAt w l D.p q (V.n * 256) cap G) {a : Nat} (ha : a < V.n * 256) (hb : V.m * 256 ≤ a) :
    Calls Tryz.prog 43 #[.pointer (some ⟨l, 0, none⟩), .int .i64 a] w fun e w' => e = .returned (.int .i64 2) ∧ w.grownBy w' none := by
  obtain ⟨qb, cb, b1, b2, b3, b4⟩ := h.bt
  have c0 := hd.c0
  have p0 := h.c0
  have e0 : decide ((a : Int) < 0) = false := decide_eq_false (by omega)
  have e1 : decide (V.n * 256 ≤ a) = false := decide_eq_false (by omega)
  have e1' : ¬ V.n * 256 ≤ a := by omega
  have e2 : IntKind.i64.wrap (256 * ((V.m : Nat) : Int)) = ((V.m * 256 : Nat) : Int) := by rw [IntKind.wrap_i64]; omega
  have e3 : decide ((a : Int) ≥ ((V.m * 256 : Nat) : Int)) = true := decide_eq_true (by omega)
  have e3' : decide (V.m * 256 ≤ a) = true := decide_eq_true hb
  have hai : (a : Int) ≤ 65536 := by omega
  clear h hd ha b2 b3 b4 hm hn
  generalize V.n * 256 = N at *
  generalize V.m * 256 = M at *
  generalize ((V.m : Nat) : Int) = mm at *
  go_enter Tryz.func43, Tryz.ntmps43
  go_wp2
  go_ret
  exact ⟨rfl, grown_refl _ _⟩
set_option maxRecDepth 100000 in
set_option maxHeartbeats 2000000 in
theorem dfault_in {w : World} {T : Nat → Nat} {D : Dp} {V : St} {l q cap : Nat} {G : Nat → Bool} (h : DrAt w T D V) (hd : DlAt w l D.p q (V.n * 256) cap G) {a : Nat} (hb : a < V.m * 256) {x : Option Pc} (hx : V.At (a : Int) x) :
    Calls Tryz.prog 43 #[.pointer (some ⟨l, 0, none⟩), .int .i64 a] w fun e w' => e = .returned (.int .i64 (match lvV x with | some p => wiV p a | none => if G a = true then 5 else 3)) ∧ w.grownBy w' none := by
  obtain ⟨qb, cb, b1, b2, b3, b4⟩ := h.bt
  have hmn := h.ok.mn
  have hn := h.ok.n256
  have c0 := hd.c0
  have p0 := h.c0
  have HF := dfind_at h hx
  have HD := Lib.hid (fun W (g1 : w.grownBy W none) => And.intro (hd.grown g1).c1 ((hd.grown g1).v.c a (by omega)))
  have e0 : decide ((a : Int) < 0) = false := decide_eq_false (by omega)
  have e1 : decide (V.n * 256 ≤ a) = false := decide_eq_false (by omega)
  have e1' : ¬ V.n * 256 ≤ a := by omega
  have e2 : IntKind.i64.wrap (256 * ((V.m : Nat) : Int)) = ((V.m * 256 : Nat) : Int) := by rw [IntKind.wrap_i64]; omega
  have e3 : decide ((a : Int) ≥ ((V.m * 256 : Nat) : Int)) = false := decide_eq_false (by omega)
  have e3' : decide (V.m * 256 ≤ a) = false := decide_eq_false (by omega)
  have e3'' : ¬ V.m * 256 ≤ a := by omega
  have hai : (a : Int) ≤ 65536 := by omega
  have han : (a : Int) < ((V.n * 256 : Nat) : Int) := by omega
  obtain ⟨x0, x1, x2, x3, x4, x5, b, hs, hnone, hsome⟩ := fndV_shape x
  rw [hs] at HF
  have HF := Lib.hid HF
  have HRES : Hid ((b = true ∧ x4 = 1 ∧ (match lvV x with | some p => wiV p a | none => if G a = true then (5 : Int) else 3) = if x2 = (a : Int) then 0 else 4) ∨ ((b = false ∨ x4 ≠ 1) ∧ (match lvV x with | some p => wiV p a | none => if G a = true then (5 : Int) else 3) = if G a = true then 5 else 3)) := Lib.hid (by
    cases x with
    | none => exact .inr ⟨.inl (hnone rfl), rfl⟩
    | some p =>
      obtain ⟨k1, k2, k3⟩ := hsome p rfl
      have k4 : x2 = (p.b : Nat) := by simp [pcv] at k3; omega
      by_cases hst : p.st = 1
      · refine .inl ⟨k1, by omega, ?_⟩
        have hl : lvV (some p) = some p := by simp [lvV, hst]
        rw [hl, k4]
        rfl
      · refine .inr ⟨.inr (by omega), ?_⟩
        have hl : lvV (some p) = none := by simp [lvV, hst]
        rw [hl])
  clear h hd hb b2 b3 b4 hmn hn hx hs hnone hsome
  generalize (match lvV x with | some p => wiV p a | none => if G a = true then (5 : Int) else 3) = res at *
  generalize V.n * 256 = N at *
  generalize V.m * 256 = M at *
  generalize ((V.m : Nat) : Int) = mm at *
  go_enter Tryz.func43, Tryz.ntmps43
  go_wp2_with fail
  refine HF.out.mono ?_
  rintro e w1 ⟨rfl, m1⟩
  obtain ⟨xb, hxb⟩ : ∃ xb, xb = w1.heap.size := ⟨_, rfl⟩
  go_upto_region 6 with (fail)
  have ga := grown_alloc w1 (.cells #[.int .i64 x0, .int .i64 x1, .int .i64 x2, .int .i64 x3, .int .i64 x4, .bool x5] 101) none
  have d4 : (w1.alloc (.cells #[.int .i64 x0, .int .i64 x1, .int .i64 x2, .int .i64 x3, .int .i64 x4, .bool x5] 101)).cell? ⟨xb, 4, none⟩ = some (.int .i64 x4) := by rw [hxb, cell_alloc_new]; rfl
  have d2 : (w1.alloc (.cells #[.int .i64 x0, .int .i64 x1, .int .i64 x2, .int .i64 x3, .int .i64 x4, .bool x5] 101)).cell? ⟨xb, 2, none⟩ = some (.int .i64 x2) := by rw [hxb, cell_alloc_new]; rfl
  have HG := Lib.hid (grown_trans m1 ga)
  obtain ⟨d1, dg⟩ := HD.out _ HG.out
  rw [← hxb]
  clear ga m1 HF HD hxb c0 p0 b1
  generalize w1.alloc (.cells #[.int .i64 x0, .int .i64 x1, .int .i64 x2, .int .i64 x3, .int .i64 x4, .bool x5] 101) = w2 at *
  rcases HRES.out with ⟨rfl, rfl, hres⟩ | ⟨hbx, hres⟩
  · by_cases hxa : x2 = (a : Int)
    · have HR : Hid (res = 0) := Lib.hid (by rw [hres, if_pos hxa])
      have f2 : (x2 == (a : Int)) = true := by simpa using hxa
      clear HRES hres hxa
      go_wp2
      go_ret
      exact ⟨by rw [HR.out]; rfl, HG.out⟩
    · have HR : Hid (res = 4) := Lib.hid (by rw [hres, if_neg hxa])
      have f2 : (x2 == (a : Int)) = false := by simpa using hxa
      clear HRES hres hxa
      go_wp2
      go_ret
      exact ⟨by rw [HR.out]; rfl, HG.out⟩
  · have HR : Hid (res = if G a = true then 5 else 3) := Lib.hid hres
    have hbb : b = false ∨ (b = true ∧ (x4 == 1) = false) := by
      rcases hbx with h | h
      · exact .inl h
      · cases b
        · exact .inl rfl
        · exact .inr ⟨rfl, by simpa using h⟩
    clear HRES hres hbx
    generalize hga : G a = ga at *
    rcases hbb with rfl | ⟨rfl, f4⟩
    · cases ga
      · go_wp2
        go_ret
        exact ⟨by rw [HR.out]; rfl, HG.out⟩
      · go_wp2
        go_ret
        exact ⟨by rw [HR.out]; rfl, HG.out⟩
    · cases ga
      · go_wp2
        go_ret
        exact ⟨by rw [HR.out]; rfl, HG.out⟩
      · go_wp2
        go_ret
        exact ⟨by rw [HR.out]; rfl, HG.out⟩
end Go.Proofs.YtgnfcklippjeeaaGreat
