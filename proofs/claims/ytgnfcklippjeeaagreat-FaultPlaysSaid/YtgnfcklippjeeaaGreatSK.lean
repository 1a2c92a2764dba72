/- The law's Step: Find. -/
import Derived.Test.YtgnfcklippjeeaaGreatQ1
import Derived.Deep.RegionHeld3
import Derived.Deep.RegionLaw
import Derived.Deep.DeepCutAuto
namespace Go.Proofs.YtgnfcklippjeeaaGreat
open Go.RowKit
open Sl (Cls bs upd LnkIs)
open Lg (pgs)

set_option maxRecDepth 100000 in
set_option maxHeartbeats 8000000 in
theorem step_find {w0 w : World} {A : Rp} {D : Dp} {T : Nat → Nat} {V : St} {cnt pp : Nat} (h : PrAt w0 w A D T V V cnt pp) (hcnt : cnt ≤ 100000) (c o p a n : Int) (b : Bool) (bA : Option Addr) (bl bc : Nat) (hbc : bl ≤ bc) (hbA : bl = 0 ∨ ∃ x y, bA = some ⟨x, y, none⟩) (others : Bool) :
    Calls Tryz.prog 11 #[.pointer (some ⟨pp, 0, none⟩), opV 9 c o p a n b (.slice bA bl bc), .bool others] w fun e w' => e = .returned (.bool true) ∧ StepTo w0 w w' A D T V cnt pp := by
  have hob0 : w.heap.size ≠ pp := by have := h.plt; omega
  have h0 : PrAt w0 w A D (tset T w.heap.size 0) V V cnt pp := h.relab (fun i hi => tset_other (by omega))
  have HT0 : Hid (∀ i, i < w.heap.size → (tset T w.heap.size 0) i = T i) := Lib.hid (fun i hi => tset_other (by omega))
  have HOB : Hid ((tset T w.heap.size 0) w.heap.size = 0) := Lib.hid (tset_same _ _ _)
  have HSZ : Hid (w0.heap.size ≤ w.heap.size) := Lib.hid h.y.all.size
  have hga := grown_alloc w (.cells #[.int .i64 9, .int .i64 c, .int .i64 o, .int .i64 p, .int .i64 a, .int .i64 n, .bool b, .slice bA bl bc] 28) none
  have HA := Lib.hid (at_at ((h0.grown hga).d) ((h0.grown hga).c1) 9 c o p a n b (.slice bA bl bc))
  have HPW : Hid (∀ W, w.grownBy W none → PrAt w0 W A D (tset T w.heap.size 0) V V cnt pp) := Lib.hid (fun W hg => h0.grown hg)
  have HW : Hid (∀ i, (w.alloc (.cells #[.int .i64 9, .int .i64 c, .int .i64 o, .int .i64 p, .int .i64 a, .int .i64 n, .bool b, .slice bA bl bc] 28)).cell? ⟨w.heap.size, i, none⟩ = (#[.int .i64 9, .int .i64 c, .int .i64 o, .int .i64 p, .int .i64 a, .int .i64 n, .bool b, .slice bA bl bc] : Array Value)[i]?) := Lib.hid (fun i => cell_alloc_new _ _ _ _)
  have HFZ : Hid (∀ i, (w.alloc (.cells #[.int .i64 9, .int .i64 c, .int .i64 o, .int .i64 p, .int .i64 a, .int .i64 n, .bool b, .slice bA bl bc] 28)).frozen? ⟨w.heap.size, i, none⟩ = false) := Lib.hid (fun i => frozen_alloc_new ..)
  have HLT : Hid (w.heap.size < (w.alloc (.cells #[.int .i64 9, .int .i64 c, .int .i64 o, .int .i64 p, .int .i64 a, .int .i64 n, .bool b, .slice bA bl bc] 28)).heap.size) := Lib.hid (by simp)
  have HGA := Lib.hid hga
  have HNE := Lib.hid hob0
  have HBC := Lib.hid (And.intro hbc hbA)
  clear h h0 hga hob0 hbc hbA
  unfold opV at HA ⊢
  have b0 : (w.alloc (.cells #[.int .i64 9, .int .i64 c, .int .i64 o, .int .i64 p, .int .i64 a, .int .i64 n, .bool b, .slice bA bl bc] 28)).cell? ⟨w.heap.size, 0, none⟩ = some (.int .i64 9) := (HW.out 0).trans rfl
  have b1 : (w.alloc (.cells #[.int .i64 9, .int .i64 c, .int .i64 o, .int .i64 p, .int .i64 a, .int .i64 n, .bool b, .slice bA bl bc] 28)).cell? ⟨w.heap.size, 1, none⟩ = some (.int .i64 c) := (HW.out 1).trans rfl
  have b2 : (w.alloc (.cells #[.int .i64 9, .int .i64 c, .int .i64 o, .int .i64 p, .int .i64 a, .int .i64 n, .bool b, .slice bA bl bc] 28)).cell? ⟨w.heap.size, 2, none⟩ = some (.int .i64 o) := (HW.out 2).trans rfl
  have b3 : (w.alloc (.cells #[.int .i64 9, .int .i64 c, .int .i64 o, .int .i64 p, .int .i64 a, .int .i64 n, .bool b, .slice bA bl bc] 28)).cell? ⟨w.heap.size, 3, none⟩ = some (.int .i64 p) := (HW.out 3).trans rfl
  have b4 : (w.alloc (.cells #[.int .i64 9, .int .i64 c, .int .i64 o, .int .i64 p, .int .i64 a, .int .i64 n, .bool b, .slice bA bl bc] 28)).cell? ⟨w.heap.size, 4, none⟩ = some (.int .i64 a) := (HW.out 4).trans rfl
  have b5 : (w.alloc (.cells #[.int .i64 9, .int .i64 c, .int .i64 o, .int .i64 p, .int .i64 a, .int .i64 n, .bool b, .slice bA bl bc] 28)).cell? ⟨w.heap.size, 5, none⟩ = some (.int .i64 n) := (HW.out 5).trans rfl
  have b6 : (w.alloc (.cells #[.int .i64 9, .int .i64 c, .int .i64 o, .int .i64 p, .int .i64 a, .int .i64 n, .bool b, .slice bA bl bc] 28)).cell? ⟨w.heap.size, 6, none⟩ = some (.bool b) := (HW.out 6).trans rfl
  have b7 : (w.alloc (.cells #[.int .i64 9, .int .i64 c, .int .i64 o, .int .i64 p, .int .i64 a, .int .i64 n, .bool b, .slice bA bl bc] 28)).cell? ⟨w.heap.size, 7, none⟩ = some (.slice bA bl bc) := (HW.out 7).trans rfl
  go_enter Tryz.func11, Tryz.ntmps11
  go_wp2_with fail
  refine HA.out.mono ?_
  rintro e w2 ⟨⟨x, rfl⟩, g2⟩
  have C : Hid (∀ i, i < 8 → w2.cell? ⟨w.heap.size, i, none⟩ = (#[.int .i64 9, .int .i64 c, .int .i64 o, .int .i64 p, .int .i64 a, .int .i64 n, .bool b, .slice bA bl bc] : Array Value)[i]?) := Lib.hid (fun i hi => by
    obtain ⟨v, hv⟩ : ∃ v, (#[.int .i64 9, .int .i64 c, .int .i64 o, .int .i64 p, .int .i64 a, .int .i64 n, .bool b, .slice bA bl bc] : Array Value)[i]? = some v := ⟨_, Array.getElem?_eq_getElem (by simpa using hi)⟩
    rw [hv]
    exact g2.cell (by rw [HW.out, hv]) (by simp))
  have FZ2 : Hid (w2.frozen? ⟨w.heap.size, 7, none⟩ = false) := Lib.hid (by rw [World.frozen?_of_block (w := (w.alloc (.cells #[.int .i64 9, .int .i64 c, .int .i64 o, .int .i64 p, .int .i64 a, .int .i64 n, .bool b, .slice bA bl bc] 28))) (g2.block _ HLT.out (by simp))]; exact HFZ.out 7)
  have G2 := Lib.hid (grown_trans HGA.out g2)
  clear HA HW HFZ HLT HGA g2 b0 b1 b2 b3 b4 b5 b6 b7
  obtain ⟨ob, hob⟩ : ∃ ob, w.heap.size = ob := ⟨_, rfl⟩
  obtain ⟨T0, hT0⟩ : ∃ T0, tset T w.heap.size 0 = T0 := ⟨_, rfl⟩
  rw [hT0] at HT0 HOB HPW
  rw [hob] at HOB C FZ2 HNE
  have HOS : Hid (w0.heap.size ≤ ob ∧ w.heap.size ≤ ob) := Lib.hid ⟨by have := HSZ.out; omega, by omega⟩
  have x7 : w2.cell? ⟨ob, 7, none⟩ = some (.slice bA bl bc) := (C.out 7 (by omega)).trans rfl
  have z7 := FZ2.out
  try rw [hob]
  clear hT0 hob
  go_upto_if 42 with (fail)
  go_cut [] (fun wx => w.grownBy wx none ∧ (∀ i, i < 7 → wx.cell? ⟨ob, i, none⟩ = (#[.int .i64 9, .int .i64 c, .int .i64 o, .int .i64 p, .int .i64 a, .int .i64 n, .bool b, .slice bA bl bc] : Array Value)[i]?) ∧ ∃ M mc : Nat, M ≤ mc ∧ M ≤ 60 ∧ M ≤ bl ∧ wx.cell? ⟨ob, 7, none⟩ = some (.slice bA M mc))
  case first =>
    by_cases h1 : 60 < bl
    · have d : decide ((60 : Int) < bl) = true := decide_eq_true (by omega)
      obtain ⟨xb, off, hbA⟩ := (HBC.out.2).resolve_left (by omega)
      subst hbA
      have d2 : (60 : Int) ≤ bc := by have := HBC.out.1; omega
      have HM : Hid (60 ≤ bc ∧ 60 ≤ bl) := Lib.hid ⟨by omega, by omega⟩
      have d3 : 60 ≤ bc := HM.out.1
      have d4 : decide (60 < bl) = true := decide_eq_true h1
      go_wp2
      go_meet
      have hs := An.agrown_set w2 ob 7 (.slice (some ⟨xb, off, none⟩) 60 bc)
      refine ⟨grown_own G2.out hs HOS.out.2, fun i hi => ?_, 60, bc, HM.out.1, Nat.le_refl _, HM.out.2, ?_⟩
      · rw [← C.out i (by omega)]
        exact set_far9 w2 _ (by omega)
      · exact set_near9 w2 _ x7
    · have d : decide ((60 : Int) < bl) = false := decide_eq_false (by omega)
      have HM : Hid (bl ≤ 60) := Lib.hid (by omega)
      have d4 : decide (60 < bl) = false := decide_eq_false h1
      go_wp2
      go_meet
      exact ⟨G2.out, fun i hi => C.out i (by omega), bl, bc, HBC.out.1, HM.out, Nat.le_refl _, x7⟩
  case rest =>
  obtain ⟨hg1, hc, M, mc, hm1, hm2, hm3, y7⟩ := hcut
  obtain ⟨w3, rfl⟩ : ∃ w3 : World, w3 = wc := ⟨_, rfl⟩
  have y0 : w3.cell? ⟨ob, 0, none⟩ = some (.int .i64 9) := (hc 0 (by omega)).trans rfl
  have y1 : w3.cell? ⟨ob, 1, none⟩ = some (.int .i64 c) := (hc 1 (by omega)).trans rfl
  have y2 : w3.cell? ⟨ob, 2, none⟩ = some (.int .i64 o) := (hc 2 (by omega)).trans rfl
  have y3 : w3.cell? ⟨ob, 3, none⟩ = some (.int .i64 p) := (hc 3 (by omega)).trans rfl
  have y4 : w3.cell? ⟨ob, 4, none⟩ = some (.int .i64 a) := (hc 4 (by omega)).trans rfl
  have y5 : w3.cell? ⟨ob, 5, none⟩ = some (.int .i64 n) := (hc 5 (by omega)).trans rfl
  have HG := Lib.hid hg1
  have q0 := (HPW.out _ hg1).c0
  have q1 := (HPW.out _ hg1).c1
  have HMM := Lib.hid (And.intro hm1 (And.intro hm2 hm3))
  have HCC := Lib.hid hcnt
  clear hc hg1 hm1 hm2 hm3 C FZ2 G2 x7 z7 HBC hcnt
  obtain ⟨y, hy⟩ := V.at_ex a
  obtain ⟨x0, x1, x2, x3, x4, x5, z, hs, -, -⟩ := fndV_shape y
  have HF : Hid (∀ W, w.grownBy W none → Calls Tryz.prog 27 #[.pointer (some ⟨A.p, 0, none⟩), .int .i64 a] W fun e w' => e = .returned (.tuple #[.agg #[.int .i64 x0, .int .i64 x1, .int .i64 x2, .int .i64 x3, .int .i64 x4, .bool x5], .bool z]) ∧ W.grownBy w' none) := Lib.hid (fun W hg => by rw [← hs]; exact find_at (HPW.out W hg).y.at_ hy)
  have HD : Hid (∀ W, w.grownBy W none → Calls Tryz.prog 56 #[.pointer (some ⟨D.p, 0, none⟩), .int .i64 a] W fun e w' => e = .returned (.tuple #[.agg #[.int .i64 x0, .int .i64 x1, .int .i64 x2, .int .i64 x3, .int .i64 x4, .bool x5], .bool z]) ∧ W.grownBy w' none) := Lib.hid (fun W hg => by rw [← hs]; exact dfind_at (HPW.out W hg).d hy)
  have HCL : Hid (∀ W, w3.grownBy W none → (W.cell? ⟨pp, 0, none⟩ = some (.pointer (some ⟨A.p, 0, none⟩)) ∧ W.cell? ⟨ob, 4, none⟩ = some (.int .i64 a)) ∧ (W.cell? ⟨pp, 1, none⟩ = some (.pointer (some ⟨D.p, 0, none⟩)) ∧ W.cell? ⟨ob, 4, none⟩ = some (.int .i64 a))) := Lib.hid (fun W g => ⟨⟨g.cell q0 (by simp), g.cell y4 (by simp)⟩, ⟨g.cell q1 (by simp), g.cell y4 (by simp)⟩⟩)
  have K : Hid (∀ W, w3.grownBy W none → StepTo w0 w W A D T V cnt pp) := Lib.hid (fun W g => ⟨A, D, V, .same, To.start (grown_trans HG.out g) HT0.out ((HPW.out _ (grown_trans HG.out g)).toG (grown_refl _ _))⟩)
  clear hy hs y7
  go_upto_region 34 with (fail)
  go_cut [25, 26] from 246 to 255 (fun s bb W => bb = .bool z ∧ ∃ q, s = .pointer (some ⟨q, 0, none⟩) ∧ w3.grownBy W none ∧ Sx W q (.int .i64 x0) (.int .i64 x1) (.int .i64 x2) (.int .i64 x3) (.int .i64 x4) (.bool x5))
  case first =>
    have hg1 := grown_drew1 (grown_alloc w3 (.cells #[.int .i64 0, .int .i64 0, .int .i64 0, .int .i64 0, .int .i64 0, .bool false] 37) none)
    have hg2 := grown_drew1 (grown_refl w3 none)
    obtain ⟨p0, p1⟩ := (HCL.out _ (hg1)).1
    obtain ⟨p2, p3⟩ := (HCL.out _ (hg2)).1
    have HF1 := Lib.hid (HF.out _ (grown_trans HG.out (hg1)))
    have HF2 := Lib.hid (HF.out _ (grown_trans HG.out (hg2)))
    have HN := Lib.hid (alloc6 w3 37)
    go_region_held3 (fun w' => w'.cell? ⟨pp, 0, none⟩ = some (.pointer (some ⟨A.p, 0, none⟩)) ∧ w'.cell? ⟨ob, 4, none⟩ = some (.int .i64 a))
      (first
      | with_reducible exact ⟨p2, p3⟩
      | with_reducible exact ⟨p0, p1⟩
      | with_reducible exact HK4.out.1
      | with_reducible exact HK4.out.2.1 _
      | with_reducible exact HK4.out.2.2 _ _ _ _ _ _)
      (first
      | (go_at_call 27; (with_reducible refine HF1.out.mono ?_); rintro e w4 ⟨rfl, m⟩; have hg4 := grown_trans hg1 m; have HK4 := Lib.hid (And.intro (HCL.out _ hg4).1 (And.intro (fun o => (HCL.out _ (grown_trans hg4 (grown_alloc _ o none))).1) (fun v0 v1 v2 v3 v4 v5 => (HCL.out _ (grown6 (q := w3.heap.size) hg4 (Nat.le_refl _) v0 v1 v2 v3 v4 v5)).1))); obtain ⟨⟨s0, t0⟩, ⟨s1, t1⟩, ⟨s2, t2⟩, ⟨s3, t3⟩, ⟨s4, t4⟩, ⟨s5, t5⟩⟩ := keep6 HN.out m; have H6 := Lib.hid (keep6 HN.out m); clear m)
      | (go_at_call 27; (with_reducible refine HF2.out.mono ?_); rintro e w4 ⟨rfl, m⟩; have hg4 := grown_trans hg2 m; have HK4 := Lib.hid (And.intro (HCL.out _ hg4).1 (And.intro (fun o => (HCL.out _ (grown_trans hg4 (grown_alloc _ o none))).1) (fun v0 v1 v2 v3 v4 v5 => (HCL.out _ (grown6 (q := w3.heap.size) hg4 (Nat.le_refl _) v0 v1 v2 v3 v4 v5)).1))); clear m))
    all_goals
      go_wp2
      go_meet
      refine ⟨rfl, _, rfl, ?_, ?_⟩
      · first
        | with_reducible exact grown6 hg4 (Nat.le_refl _) _ _ _ _ _ _
        | with_reducible exact grown_trans hg4 (grown_alloc _ _ _)
      · first
        | with_reducible exact sx_set H6.out _ _ _ _ _ _
        | with_reducible exact sx_alloc _ _ _ _ _ _ _ _
  case rest =>
  obtain ⟨rfl, q5, rfl, hg5, hx5⟩ := hcut
  obtain ⟨w5, rfl⟩ : ∃ w5 : World, w5 = wc := ⟨_, rfl⟩
  have HG5 := Lib.hid hg5
  have HX5 := Lib.hid hx5
  clear hg5 hx5
  go_upto_region 35 with (fail)
  go_cut [27, 28] from 256 to 265 (fun s bb W => bb = .bool z ∧ ∃ q, s = .pointer (some ⟨q, 0, none⟩) ∧ w5.grownBy W none ∧ Sx W q (.int .i64 x0) (.int .i64 x1) (.int .i64 x2) (.int .i64 x3) (.int .i64 x4) (.bool x5))
  case first =>
    have hg1 := grown_drew1 (grown_alloc w5 (.cells #[.int .i64 0, .int .i64 0, .int .i64 0, .int .i64 0, .int .i64 0, .bool false] 101) none)
    have hg2 := grown_drew1 (grown_refl w5 none)
    obtain ⟨p0, p1⟩ := (HCL.out _ (grown_trans HG5.out hg1)).2
    obtain ⟨p2, p3⟩ := (HCL.out _ (grown_trans HG5.out hg2)).2
    have HF1 := Lib.hid (HD.out _ (grown_trans HG.out (grown_trans HG5.out hg1)))
    have HF2 := Lib.hid (HD.out _ (grown_trans HG.out (grown_trans HG5.out hg2)))
    have HN := Lib.hid (alloc6 w5 101)
    go_region_held3 (fun w' => w'.cell? ⟨pp, 1, none⟩ = some (.pointer (some ⟨D.p, 0, none⟩)) ∧ w'.cell? ⟨ob, 4, none⟩ = some (.int .i64 a))
      (first
      | with_reducible exact ⟨p2, p3⟩
      | with_reducible exact ⟨p0, p1⟩
      | with_reducible exact HK4.out.1
      | with_reducible exact HK4.out.2.1 _
      | with_reducible exact HK4.out.2.2 _ _ _ _ _ _)
      (first
      | (go_at_call 56; (with_reducible refine HF1.out.mono ?_); rintro e w4 ⟨rfl, m⟩; have hg4 := grown_trans hg1 m; have HK4 := Lib.hid (And.intro (HCL.out _ (grown_trans HG5.out hg4)).2 (And.intro (fun o => (HCL.out _ (grown_trans HG5.out (grown_trans hg4 (grown_alloc _ o none)))).2) (fun v0 v1 v2 v3 v4 v5 => (HCL.out _ (grown_trans HG5.out (grown6 (q := w5.heap.size) hg4 (Nat.le_refl _) v0 v1 v2 v3 v4 v5))).2))); obtain ⟨⟨s0, t0⟩, ⟨s1, t1⟩, ⟨s2, t2⟩, ⟨s3, t3⟩, ⟨s4, t4⟩, ⟨s5, t5⟩⟩ := keep6 HN.out m; have H6 := Lib.hid (keep6 HN.out m); clear m)
      | (go_at_call 56; (with_reducible refine HF2.out.mono ?_); rintro e w4 ⟨rfl, m⟩; have hg4 := grown_trans hg2 m; have HK4 := Lib.hid (And.intro (HCL.out _ (grown_trans HG5.out hg4)).2 (And.intro (fun o => (HCL.out _ (grown_trans HG5.out (grown_trans hg4 (grown_alloc _ o none)))).2) (fun v0 v1 v2 v3 v4 v5 => (HCL.out _ (grown_trans HG5.out (grown6 (q := w5.heap.size) hg4 (Nat.le_refl _) v0 v1 v2 v3 v4 v5))).2))); clear m))
    all_goals
      go_wp2
      go_meet
      refine ⟨rfl, _, rfl, ?_, ?_⟩
      · first
        | with_reducible exact grown6 hg4 (Nat.le_refl _) _ _ _ _ _ _
        | with_reducible exact grown_trans hg4 (grown_alloc _ _ _)
      · first
        | with_reducible exact sx_set H6.out _ _ _ _ _ _
        | with_reducible exact sx_alloc _ _ _ _ _ _ _ _
  case rest =>
  obtain ⟨rfl, q6, rfl, hg6, hx6⟩ := hcut
  obtain ⟨w6, rfl⟩ : ∃ w6 : World, w6 = wc := ⟨_, rfl⟩
  have HG6 := Lib.hid hg6
  have HX6 := Lib.hid hx6
  clear hg6 hx6
  obtain ⟨a0, a1, a2, a3, a4, a5⟩ := sx_keep HX5.out HG6.out
  obtain ⟨b0, b1, b2, b3, b4, b5⟩ := HX6.out
  have KK := Lib.hid (grown_trans HG5.out HG6.out)
  have HLK := Lib.hid (like_yes x0 x1 x2 x3 x4 x5 w6)
  clear HX5 HX6 HG5 HG6 HF HD HCL
  go_wp2_with fail
  refine HLK.out.mono ?_
  rintro e w7 ⟨rfl, m⟩
  have K7 := Lib.hid (K.out _ (grown_trans KK.out m))
  clear m
  go_wp2
  go_ret
  exact ⟨rfl, K7.out⟩
end Go.Proofs.YtgnfcklippjeeaaGreat
