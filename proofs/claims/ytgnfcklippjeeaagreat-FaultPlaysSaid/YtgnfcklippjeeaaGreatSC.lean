/- The law's Step: Take. -/
import Derived.Test.YtgnfcklippjeeaaGreatQ1
import Derived.Deep.RegionHeld3
import Derived.Deep.RegionLaw
import Derived.Deep.DeepCutAuto
namespace Go.Proofs.YtgnfcklippjeeaaGreat
open Go.RowKit
open Sl (Cls bs upd LnkIs)
open Lg (pgs)

set_option maxRecDepth 100000 in
set_option maxHeartbeats 8000000 in
theorem step_take2 {w0 w : World} {A : Rp} {D : Dp} {T : Nat → Nat} {V : St} {cnt pp : Nat} (h : PrAt w0 w A D T V V cnt pp) (hcnt : cnt ≤ 100000) (c o p a n : Int) (hwp : WF p) (b : Bool) (bA : Option Addr) (bl bc : Nat) (hbc : bl ≤ bc) (hbA : bl = 0 ∨ ∃ x y, bA = some ⟨x, y, none⟩) (others : Bool) :
    Calls Tryz.prog 11 #[.pointer (some ⟨pp, 0, none⟩), opV 2 c o p a n b (.slice bA bl bc), .bool others] w fun e w' => e = .returned (.bool true) ∧ StepTo w0 w w' A D T V cnt pp := by
  have hob0 : w.heap.size ≠ pp := by have := h.plt; omega
  have h0 : PrAt w0 w A D (tset T w.heap.size 0) V V cnt pp := h.relab (fun i hi => tset_other (by omega))
  have HT0 : Hid (∀ i, i < w.heap.size → (tset T w.heap.size 0) i = T i) := Lib.hid (fun i hi => tset_other (by omega))
  have HOB : Hid ((tset T w.heap.size 0) w.heap.size = 0) := Lib.hid (tset_same _ _ _)
  have HSZ : Hid (w0.heap.size ≤ w.heap.size) := Lib.hid h.y.all.size
  have hga := grown_alloc w (.cells #[.int .i64 2, .int .i64 c, .int .i64 o, .int .i64 p, .int .i64 a, .int .i64 n, .bool b, .slice bA bl bc] 28) none
  have HA := Lib.hid (at_at ((h0.grown hga).d) ((h0.grown hga).c1) 2 c o p a n b (.slice bA bl bc))
  have HPW : Hid (∀ W, w.grownBy W none → PrAt w0 W A D (tset T w.heap.size 0) V V cnt pp) := Lib.hid (fun W hg => h0.grown hg)
  have HW : Hid (∀ i, (w.alloc (.cells #[.int .i64 2, .int .i64 c, .int .i64 o, .int .i64 p, .int .i64 a, .int .i64 n, .bool b, .slice bA bl bc] 28)).cell? ⟨w.heap.size, i, none⟩ = (#[.int .i64 2, .int .i64 c, .int .i64 o, .int .i64 p, .int .i64 a, .int .i64 n, .bool b, .slice bA bl bc] : Array Value)[i]?) := Lib.hid (fun i => cell_alloc_new _ _ _ _)
  have HFZ : Hid (∀ i, (w.alloc (.cells #[.int .i64 2, .int .i64 c, .int .i64 o, .int .i64 p, .int .i64 a, .int .i64 n, .bool b, .slice bA bl bc] 28)).frozen? ⟨w.heap.size, i, none⟩ = false) := Lib.hid (fun i => frozen_alloc_new ..)
  have HLT : Hid (w.heap.size < (w.alloc (.cells #[.int .i64 2, .int .i64 c, .int .i64 o, .int .i64 p, .int .i64 a, .int .i64 n, .bool b, .slice bA bl bc] 28)).heap.size) := Lib.hid (by simp)
  have HGA := Lib.hid hga
  have HNE := Lib.hid hob0
  have HBC := Lib.hid (And.intro hbc hbA)
  clear h h0 hga hob0 hbc hbA
  unfold opV at HA ⊢
  have b0 : (w.alloc (.cells #[.int .i64 2, .int .i64 c, .int .i64 o, .int .i64 p, .int .i64 a, .int .i64 n, .bool b, .slice bA bl bc] 28)).cell? ⟨w.heap.size, 0, none⟩ = some (.int .i64 2) := (HW.out 0).trans rfl
  have b1 : (w.alloc (.cells #[.int .i64 2, .int .i64 c, .int .i64 o, .int .i64 p, .int .i64 a, .int .i64 n, .bool b, .slice bA bl bc] 28)).cell? ⟨w.heap.size, 1, none⟩ = some (.int .i64 c) := (HW.out 1).trans rfl
  have b2 : (w.alloc (.cells #[.int .i64 2, .int .i64 c, .int .i64 o, .int .i64 p, .int .i64 a, .int .i64 n, .bool b, .slice bA bl bc] 28)).cell? ⟨w.heap.size, 2, none⟩ = some (.int .i64 o) := (HW.out 2).trans rfl
  have b3 : (w.alloc (.cells #[.int .i64 2, .int .i64 c, .int .i64 o, .int .i64 p, .int .i64 a, .int .i64 n, .bool b, .slice bA bl bc] 28)).cell? ⟨w.heap.size, 3, none⟩ = some (.int .i64 p) := (HW.out 3).trans rfl
  have b4 : (w.alloc (.cells #[.int .i64 2, .int .i64 c, .int .i64 o, .int .i64 p, .int .i64 a, .int .i64 n, .bool b, .slice bA bl bc] 28)).cell? ⟨w.heap.size, 4, none⟩ = some (.int .i64 a) := (HW.out 4).trans rfl
  have b5 : (w.alloc (.cells #[.int .i64 2, .int .i64 c, .int .i64 o, .int .i64 p, .int .i64 a, .int .i64 n, .bool b, .slice bA bl bc] 28)).cell? ⟨w.heap.size, 5, none⟩ = some (.int .i64 n) := (HW.out 5).trans rfl
  have b6 : (w.alloc (.cells #[.int .i64 2, .int .i64 c, .int .i64 o, .int .i64 p, .int .i64 a, .int .i64 n, .bool b, .slice bA bl bc] 28)).cell? ⟨w.heap.size, 6, none⟩ = some (.bool b) := (HW.out 6).trans rfl
  have b7 : (w.alloc (.cells #[.int .i64 2, .int .i64 c, .int .i64 o, .int .i64 p, .int .i64 a, .int .i64 n, .bool b, .slice bA bl bc] 28)).cell? ⟨w.heap.size, 7, none⟩ = some (.slice bA bl bc) := (HW.out 7).trans rfl
  go_enter Tryz.func11, Tryz.ntmps11
  go_wp2_with fail
  refine HA.out.mono ?_
  rintro e w2 ⟨⟨x, rfl⟩, g2⟩
  have C : Hid (∀ i, i < 8 → w2.cell? ⟨w.heap.size, i, none⟩ = (#[.int .i64 2, .int .i64 c, .int .i64 o, .int .i64 p, .int .i64 a, .int .i64 n, .bool b, .slice bA bl bc] : Array Value)[i]?) := Lib.hid (fun i hi => by
    obtain ⟨v, hv⟩ : ∃ v, (#[.int .i64 2, .int .i64 c, .int .i64 o, .int .i64 p, .int .i64 a, .int .i64 n, .bool b, .slice bA bl bc] : Array Value)[i]? = some v := ⟨_, Array.getElem?_eq_getElem (by simpa using hi)⟩
    rw [hv]
    exact g2.cell (by rw [HW.out, hv]) (by simp))
  have FZ2 : Hid (w2.frozen? ⟨w.heap.size, 7, none⟩ = false) := Lib.hid (by rw [World.frozen?_of_block (w := (w.alloc (.cells #[.int .i64 2, .int .i64 c, .int .i64 o, .int .i64 p, .int .i64 a, .int .i64 n, .bool b, .slice bA bl bc] 28))) (g2.block _ HLT.out (by simp))]; exact HFZ.out 7)
  have G2 := Lib.hid (grown_trans HGA.out g2)
  clear HA HW HFZ HLT HGA g2 b0 b1 b2 b3 b4 b5 b6 b7
  obtain ⟨ob, hob⟩ : ∃ ob, w.heap.size = ob := ⟨_, rfl⟩
  obtain ⟨T0, hT0⟩ : ∃ T0, tset T w.heap.size 0 = T0 := ⟨_, rfl⟩
  rw [hT0] at HT0 HOB HPW
  rw [hob] at HOB C FZ2 HNE
  have HOS : Hid (w0.heap.size ≤ ob ∧ w.heap.size ≤ ob) := Lib.hid ⟨by have := HSZ.out; omega, by omega⟩
  have x7 : w2.cell? ⟨ob, 7, none⟩ = some (.slice bA bl bc) := (C.out 7 (by omega)).trans rfl
  have z7 := FZ2.out
  try rw [hob]
  clear hT0 hob
  go_upto_if 42 with (fail)
  go_cut [] (fun wx => w.grownBy wx none ∧ (∀ i, i < 7 → wx.cell? ⟨ob, i, none⟩ = (#[.int .i64 2, .int .i64 c, .int .i64 o, .int .i64 p, .int .i64 a, .int .i64 n, .bool b, .slice bA bl bc] : Array Value)[i]?) ∧ ∃ M mc : Nat, M ≤ mc ∧ M ≤ 60 ∧ M ≤ bl ∧ wx.cell? ⟨ob, 7, none⟩ = some (.slice bA M mc))
  case first =>
    by_cases h1 : 60 < bl
    · have d : decide ((60 : Int) < bl) = true := decide_eq_true (by omega)
      obtain ⟨xb, off, hbA⟩ := (HBC.out.2).resolve_left (by omega)
      subst hbA
      have d2 : (60 : Int) ≤ bc := by have := HBC.out.1; omega
      have HM : Hid (60 ≤ bc ∧ 60 ≤ bl) := Lib.hid ⟨by omega, by omega⟩
      have d3 : 60 ≤ bc := HM.out.1
      have d4 : decide (60 < bl) = true := decide_eq_true h1
      go_wp2
      go_meet
      have hs := An.agrown_set w2 ob 7 (.slice (some ⟨xb, off, none⟩) 60 bc)
      refine ⟨grown_own G2.out hs HOS.out.2, fun i hi => ?_, 60, bc, HM.out.1, Nat.le_refl _, HM.out.2, ?_⟩
      · rw [← C.out i (by omega)]
        exact set_far9 w2 _ (by omega)
      · exact set_near9 w2 _ x7
    · have d : decide ((60 : Int) < bl) = false := decide_eq_false (by omega)
      have HM : Hid (bl ≤ 60) := Lib.hid (by omega)
      have d4 : decide (60 < bl) = false := decide_eq_false h1
      go_wp2
      go_meet
      exact ⟨G2.out, fun i hi => C.out i (by omega), bl, bc, HBC.out.1, HM.out, Nat.le_refl _, x7⟩
  case rest =>
  obtain ⟨hg1, hc, M, mc, hm1, hm2, hm3, y7⟩ := hcut
  obtain ⟨w3, rfl⟩ : ∃ w3 : World, w3 = wc := ⟨_, rfl⟩
  have y0 : w3.cell? ⟨ob, 0, none⟩ = some (.int .i64 2) := (hc 0 (by omega)).trans rfl
  have y1 : w3.cell? ⟨ob, 1, none⟩ = some (.int .i64 c) := (hc 1 (by omega)).trans rfl
  have y2 : w3.cell? ⟨ob, 2, none⟩ = some (.int .i64 o) := (hc 2 (by omega)).trans rfl
  have y3 : w3.cell? ⟨ob, 3, none⟩ = some (.int .i64 p) := (hc 3 (by omega)).trans rfl
  have y4 : w3.cell? ⟨ob, 4, none⟩ = some (.int .i64 a) := (hc 4 (by omega)).trans rfl
  have y5 : w3.cell? ⟨ob, 5, none⟩ = some (.int .i64 n) := (hc 5 (by omega)).trans rfl
  have HG := Lib.hid hg1
  have q0 := (HPW.out _ hg1).c0
  have q1 := (HPW.out _ hg1).c1
  have HMM := Lib.hid (And.intro hm1 (And.intro hm2 hm3))
  have HCC := Lib.hid hcnt
  clear hc hg1 hm1 hm2 hm3 C FZ2 G2 x7 z7 HBC hcnt
  have HB : Hid (∀ W, w.grownBy W none → Both w0 W A D T0 V cnt pp TwoI 29 51 [.int .i64 p]) := Lib.hid (fun W hg => both_take (HPW.out W hg) p hwp)
  have HY : Hid (True ∧ w3.cell? ⟨ob, 3, none⟩ = some (.int .i64 p)) := Lib.hid ⟨trivial, y3⟩
  have HOL := Lib.hid (World.block_lt_of_cell? w3 ⟨ob, 0, none⟩ y0)
  clear q1 y7
  go_upto_region 11 with (fail)
  have hg1 := grown_drew1 (grown_refl w3 none)
  go_region_held3 (fun w' => w'.cell? ⟨pp, 0, none⟩ = some (.pointer (some ⟨A.p, 0, none⟩)) ∧ w'.cell? ⟨ob, 3, none⟩ = some (.int .i64 p))
    (first | exact ⟨q0, y3⟩ | exact HS3.out)
    (first
    | (go_at_call 29; obtain ⟨v, V', hq, hs, hc, hd⟩ := HB.out _ (grown_trans HG.out (by assumption)); obtain ⟨v1, v2, rfl⟩ := hq; refine hc.mono ?_; rintro e w4 ⟨rfl, A', hto⟩; have HG6 := Lib.hid (by assumption : w3.grownBy _ none); obtain ⟨⟨T1, hpr, hT1, hob1⟩, hF1, hpA, hcell⟩ := mid_of (T := T) (grown_trans HG.out HG6.out) HT0.out HOB.out (Nat.lt_of_lt_of_le HOL.out HG6.out.size) hto; have HO1 := Lib.hid hob1; have HM1 := Lib.hid (And.intro hT1 (And.intro hF1 hpA)); have HS3 : Hid (w4.cell? ⟨pp, 0, none⟩ = some (.pointer (some ⟨A.p, 0, none⟩)) ∧ w4.cell? ⟨ob, 3, none⟩ = some (.int .i64 p)) := Lib.hid ⟨by rw [← hpA]; exact hpr.c0, hcell 3 _ (HG6.out.cell y3 (by simp))⟩; have HS4 : Hid (w4.cell? ⟨pp, 1, none⟩ = some (.pointer (some ⟨D.p, 0, none⟩)) ∧ w4.cell? ⟨ob, 3, none⟩ = some (.int .i64 p)) := Lib.hid ⟨hpr.c1, hcell 3 _ (HG6.out.cell y3 (by simp))⟩; have HD := Lib.hid (fun W1 (g : w4.grownBy W1 none) => hd W1 A' T1 (hpr.grown g)); have HSS := Lib.hid hs; clear hc hd hs hto hpr hT1 hF1 hpA hcell hob1))
  all_goals
    obtain ⟨c1, z3⟩ := HS4.out
    clear hg1
    have hg1 := grown_drew1 (grown_refl w4 none)
    go_upto_region 12 with (fail)
    go_region_held3 (fun w' => w'.cell? ⟨pp, 1, none⟩ = some (.pointer (some ⟨D.p, 0, none⟩)) ∧ w'.cell? ⟨ob, 3, none⟩ = some (.int .i64 p))
      (first | exact ⟨c1, z3⟩ | exact HS5.out)
      (first
      | (go_at_call 51; refine (HD.out _ (by assumption)).mono ?_; rintro e w5 ⟨rfl, D', hto⟩; have K : Hid (StepTo w0 w w5 A D T V cnt pp) := Lib.hid ⟨_, _, _, HSS.out, To.next HM1.out.2.2 rfl HM1.out.1 HM1.out.2.1 (To.start (by assumption) (fun _ _ => rfl) hto)⟩; have HG7 := Lib.hid (by assumption : w4.grownBy _ none); have HS5 : Hid (w5.cell? ⟨pp, 1, none⟩ = some (.pointer (some ⟨D.p, 0, none⟩)) ∧ w5.cell? ⟨ob, 3, none⟩ = some (.int .i64 p)) := Lib.hid ⟨(to_cells hto HO1.out).2.1, (to_cells hto HO1.out).2.2 3 _ (HG7.out.cell z3 (by simp))⟩; clear hto))
    all_goals
      go_wp2
      go_ret
      exact ⟨rfl, K.out⟩
end Go.Proofs.YtgnfcklippjeeaaGreat
