/- The law's Step: a write. -/
import Derived.Test.YtgnfcklippjeeaaGreatVF
import Derived.Deep.RegionHeld3
import Derived.Deep.RegionLaw
import Derived.Deep.DeepCutAuto
namespace Go.Proofs.YtgnfcklippjeeaaGreat
open Go.RowKit
open Sl (Cls bs upd LnkIs)
open Lg (pgs)

/-- What a Step leaves, a write too. -/
def StepW (w0 w w' : World) (A : Rp) (D : Dp) (T : Nat → Nat) (V : St) (cnt pp : Nat) : Prop := ∃ A' D' V', V'.m = V.m ∧ V'.n = V.n ∧ To w0 w w' A A' D D' T V' V' (cnt + 1) pp
set_option maxRecDepth 100000 in
set_option maxHeartbeats 8000000 in
theorem step_write {w0 w : World} {A : Rp} {D : Dp} {T : Nat → Nat} {V : St} {cnt pp : Nat} (h : PrAt w0 w A D T V V cnt pp) (hcnt : cnt ≤ 100000) (c o p a n : Int) (b : Bool) (bA : Option Addr) (bl bc : Nat) (hbc : bl ≤ bc) (hbA : bl = 0 ∨ ∃ x y, bA = some ⟨x, y, none⟩)  (bS : Nat → Nat) (hbB : bl = 0 ∨ ∃ b off, bA = some ⟨b, off, none⟩ ∧ b < w0.heap.size ∧ ∀ i, i < bl → w0.cell? ⟨b, off + i, none⟩ = some (.int .u8 (bS i : Nat))) (hbS : ∀ i, bS i < 256) :
    Calls Tryz.prog 11 #[.pointer (some ⟨pp, 0, none⟩), opV 8 c o p a n b (.slice bA bl bc), .bool true] w fun e w' => e = .returned (.bool true) ∧ StepW w0 w w' A D T V cnt pp := by
  have hob0 : w.heap.size ≠ pp := by have := h.plt; omega
  have h0 : PrAt w0 w A D (tset T w.heap.size 0) V V cnt pp := h.relab (fun i hi => tset_other (by omega))
  have HT0 : Hid (∀ i, i < w.heap.size → (tset T w.heap.size 0) i = T i) := Lib.hid (fun i hi => tset_other (by omega))
  have HOB : Hid ((tset T w.heap.size 0) w.heap.size = 0) := Lib.hid (tset_same _ _ _)
  have HSZ : Hid (w0.heap.size ≤ w.heap.size) := Lib.hid h.y.all.size
  have hga := grown_alloc w (.cells #[.int .i64 8, .int .i64 c, .int .i64 o, .int .i64 p, .int .i64 a, .int .i64 n, .bool b, .slice bA bl bc] 28) none
  have HA := Lib.hid (at_at ((h0.grown hga).d) ((h0.grown hga).c1) 8 c o p a n b (.slice bA bl bc))
  have HPW : Hid (∀ W, w.grownBy W none → PrAt w0 W A D (tset T w.heap.size 0) V V cnt pp) := Lib.hid (fun W hg => h0.grown hg)
  have HW : Hid (∀ i, (w.alloc (.cells #[.int .i64 8, .int .i64 c, .int .i64 o, .int .i64 p, .int .i64 a, .int .i64 n, .bool b, .slice bA bl bc] 28)).cell? ⟨w.heap.size, i, none⟩ = (#[.int .i64 8, .int .i64 c, .int .i64 o, .int .i64 p, .int .i64 a, .int .i64 n, .bool b, .slice bA bl bc] : Array Value)[i]?) := Lib.hid (fun i => cell_alloc_new _ _ _ _)
  have HFZ : Hid (∀ i, (w.alloc (.cells #[.int .i64 8, .int .i64 c, .int .i64 o, .int .i64 p, .int .i64 a, .int .i64 n, .bool b, .slice bA bl bc] 28)).frozen? ⟨w.heap.size, i, none⟩ = false) := Lib.hid (fun i => frozen_alloc_new ..)
  have HLT : Hid (w.heap.size < (w.alloc (.cells #[.int .i64 8, .int .i64 c, .int .i64 o, .int .i64 p, .int .i64 a, .int .i64 n, .bool b, .slice bA bl bc] 28)).heap.size) := Lib.hid (by simp)
  have HGA := Lib.hid hga
  have HNE := Lib.hid hob0
  have HBC := Lib.hid (And.intro hbc hbA)
  have HBB := Lib.hid (And.intro hbB hbS)
  clear h h0 hga hob0 hbc hbA hbB hbS
  unfold opV at HA ⊢
  have b0 : (w.alloc (.cells #[.int .i64 8, .int .i64 c, .int .i64 o, .int .i64 p, .int .i64 a, .int .i64 n, .bool b, .slice bA bl bc] 28)).cell? ⟨w.heap.size, 0, none⟩ = some (.int .i64 8) := (HW.out 0).trans rfl
  have b1 : (w.alloc (.cells #[.int .i64 8, .int .i64 c, .int .i64 o, .int .i64 p, .int .i64 a, .int .i64 n, .bool b, .slice bA bl bc] 28)).cell? ⟨w.heap.size, 1, none⟩ = some (.int .i64 c) := (HW.out 1).trans rfl
  have b2 : (w.alloc (.cells #[.int .i64 8, .int .i64 c, .int .i64 o, .int .i64 p, .int .i64 a, .int .i64 n, .bool b, .slice bA bl bc] 28)).cell? ⟨w.heap.size, 2, none⟩ = some (.int .i64 o) := (HW.out 2).trans rfl
  have b3 : (w.alloc (.cells #[.int .i64 8, .int .i64 c, .int .i64 o, .int .i64 p, .int .i64 a, .int .i64 n, .bool b, .slice bA bl bc] 28)).cell? ⟨w.heap.size, 3, none⟩ = some (.int .i64 p) := (HW.out 3).trans rfl
  have b4 : (w.alloc (.cells #[.int .i64 8, .int .i64 c, .int .i64 o, .int .i64 p, .int .i64 a, .int .i64 n, .bool b, .slice bA bl bc] 28)).cell? ⟨w.heap.size, 4, none⟩ = some (.int .i64 a) := (HW.out 4).trans rfl
  have b5 : (w.alloc (.cells #[.int .i64 8, .int .i64 c, .int .i64 o, .int .i64 p, .int .i64 a, .int .i64 n, .bool b, .slice bA bl bc] 28)).cell? ⟨w.heap.size, 5, none⟩ = some (.int .i64 n) := (HW.out 5).trans rfl
  have b6 : (w.alloc (.cells #[.int .i64 8, .int .i64 c, .int .i64 o, .int .i64 p, .int .i64 a, .int .i64 n, .bool b, .slice bA bl bc] 28)).cell? ⟨w.heap.size, 6, none⟩ = some (.bool b) := (HW.out 6).trans rfl
  have b7 : (w.alloc (.cells #[.int .i64 8, .int .i64 c, .int .i64 o, .int .i64 p, .int .i64 a, .int .i64 n, .bool b, .slice bA bl bc] 28)).cell? ⟨w.heap.size, 7, none⟩ = some (.slice bA bl bc) := (HW.out 7).trans rfl
  go_enter Tryz.func11, Tryz.ntmps11
  go_wp2_with fail
  refine HA.out.mono ?_
  rintro e w2 ⟨⟨x, rfl⟩, g2⟩
  have C : Hid (∀ i, i < 8 → w2.cell? ⟨w.heap.size, i, none⟩ = (#[.int .i64 8, .int .i64 c, .int .i64 o, .int .i64 p, .int .i64 a, .int .i64 n, .bool b, .slice bA bl bc] : Array Value)[i]?) := Lib.hid (fun i hi => by
    obtain ⟨v, hv⟩ : ∃ v, (#[.int .i64 8, .int .i64 c, .int .i64 o, .int .i64 p, .int .i64 a, .int .i64 n, .bool b, .slice bA bl bc] : Array Value)[i]? = some v := ⟨_, Array.getElem?_eq_getElem (by simpa using hi)⟩
    rw [hv]
    exact g2.cell (by rw [HW.out, hv]) (by simp))
  have FZ2 : Hid (w2.frozen? ⟨w.heap.size, 7, none⟩ = false) := Lib.hid (by rw [World.frozen?_of_block (w := (w.alloc (.cells #[.int .i64 8, .int .i64 c, .int .i64 o, .int .i64 p, .int .i64 a, .int .i64 n, .bool b, .slice bA bl bc] 28))) (g2.block _ HLT.out (by simp))]; exact HFZ.out 7)
  have G2 := Lib.hid (grown_trans HGA.out g2)
  clear HA HW HFZ HLT HGA g2 b0 b1 b2 b3 b4 b5 b6 b7
  obtain ⟨ob, hob⟩ : ∃ ob, w.heap.size = ob := ⟨_, rfl⟩
  obtain ⟨T0, hT0⟩ : ∃ T0, tset T w.heap.size 0 = T0 := ⟨_, rfl⟩
  rw [hT0] at HT0 HOB HPW
  rw [hob] at HOB C FZ2 HNE
  have HOS : Hid (w0.heap.size ≤ ob ∧ w.heap.size ≤ ob) := Lib.hid ⟨by have := HSZ.out; omega, by omega⟩
  have x7 : w2.cell? ⟨ob, 7, none⟩ = some (.slice bA bl bc) := (C.out 7 (by omega)).trans rfl
  have z7 := FZ2.out
  try rw [hob]
  clear hT0 hob
  go_upto_if 42 with (fail)
  go_cut [] (fun wx => w.grownBy wx none ∧ (∀ i, i < 7 → wx.cell? ⟨ob, i, none⟩ = (#[.int .i64 8, .int .i64 c, .int .i64 o, .int .i64 p, .int .i64 a, .int .i64 n, .bool b, .slice bA bl bc] : Array Value)[i]?) ∧ ∃ M mc : Nat, M ≤ mc ∧ M ≤ 60 ∧ M ≤ bl ∧ wx.cell? ⟨ob, 7, none⟩ = some (.slice bA M mc))
  case first =>
    by_cases h1 : 60 < bl
    · have d : decide ((60 : Int) < bl) = true := decide_eq_true (by omega)
      obtain ⟨xb, off, hbA⟩ := (HBC.out.2).resolve_left (by omega)
      subst hbA
      have d2 : (60 : Int) ≤ bc := by have := HBC.out.1; omega
      have HM : Hid (60 ≤ bc ∧ 60 ≤ bl) := Lib.hid ⟨by omega, by omega⟩
      have d3 : 60 ≤ bc := HM.out.1
      have d4 : decide (60 < bl) = true := decide_eq_true h1
      go_wp2
      go_meet
      have hs := An.agrown_set w2 ob 7 (.slice (some ⟨xb, off, none⟩) 60 bc)
      refine ⟨grown_own G2.out hs HOS.out.2, fun i hi => ?_, 60, bc, HM.out.1, Nat.le_refl _, HM.out.2, ?_⟩
      · rw [← C.out i (by omega)]
        exact set_far9 w2 _ (by omega)
      · exact set_near9 w2 _ x7
    · have d : decide ((60 : Int) < bl) = false := decide_eq_false (by omega)
      have HM : Hid (bl ≤ 60) := Lib.hid (by omega)
      have d4 : decide (60 < bl) = false := decide_eq_false h1
      go_wp2
      go_meet
      exact ⟨G2.out, fun i hi => C.out i (by omega), bl, bc, HBC.out.1, HM.out, Nat.le_refl _, x7⟩
  case rest =>
  obtain ⟨hg1, hc, M, mc, hm1, hm2, hm3, y7⟩ := hcut
  obtain ⟨w3, rfl⟩ : ∃ w3 : World, w3 = wc := ⟨_, rfl⟩
  have y0 : w3.cell? ⟨ob, 0, none⟩ = some (.int .i64 8) := (hc 0 (by omega)).trans rfl
  have y1 : w3.cell? ⟨ob, 1, none⟩ = some (.int .i64 c) := (hc 1 (by omega)).trans rfl
  have y2 : w3.cell? ⟨ob, 2, none⟩ = some (.int .i64 o) := (hc 2 (by omega)).trans rfl
  have y3 : w3.cell? ⟨ob, 3, none⟩ = some (.int .i64 p) := (hc 3 (by omega)).trans rfl
  have y4 : w3.cell? ⟨ob, 4, none⟩ = some (.int .i64 a) := (hc 4 (by omega)).trans rfl
  have y5 : w3.cell? ⟨ob, 5, none⟩ = some (.int .i64 n) := (hc 5 (by omega)).trans rfl
  have HG := Lib.hid hg1
  have q0 := (HPW.out _ hg1).c0
  have q1 := (HPW.out _ hg1).c1
  have HMM := Lib.hid (And.intro hm1 (And.intro hm2 hm3))
  have HCC := Lib.hid hcnt
  clear hc hg1 hm1 hm2 hm3 C FZ2 G2 x7 z7 hcnt
  have HBY : Hid (∀ W, w0.grownBy W none → M = 0 ∨ ∃ b off, bA = some ⟨b, off, none⟩ ∧ ∀ i, i < M → W.cell? ⟨b, off + i, none⟩ = some (.int .u8 (bS i : Nat))) := Lib.hid (fun W g => by
    rcases HBB.out.1 with h | ⟨b, off, e, _, h⟩
    · exact .inl (by have := HMM.out; omega)
    · exact .inr ⟨b, off, e, fun i hi => g.cell (h i (by have := HMM.out; omega)) (by simp)⟩)
  have HPR := Lib.hid (fun W (g : w3.grownBy W none) => HPW.out W (grown_trans HG.out g))
  have HAR := Lib.hid (fun W (g : w3.grownBy W none) => arena_at (HPR.out W g).y.at_.toRnW)
  have HOL := Lib.hid (World.block_lt_of_cell? w3 ⟨ob, 0, none⟩ y0)
  have hN64 : V.n * 256 ≤ 65536 := by have := (HPR.out w3 (grown_refl _ _)).d.ok.n256; omega
  obtain ⟨N, hN⟩ : ∃ N, V.n * 256 = N := ⟨_, rfl⟩
  rw [hN] at hN64
  have HNN := Lib.hid hN
  clear hN
  have hMi : (M : Int) ≤ 60 := by have := HMM.out; omega
  have hmm : (M : Int) ≤ mc := by have := HMM.out; omega
  by_cases hin : 0 ≤ a ∧ a + M ≤ N
  · obtain ⟨x', rfl⟩ : ∃ x' : Nat, a = x' := ⟨a.toNat, by omega⟩
    have HIN : Hid (x' + M ≤ N ∧ N ≤ 65536) := Lib.hid ⟨by omega, hN64⟩
    have HSTO : Hid (∀ W, w3.grownBy W none → Calls Tryz.prog 14 #[.pointer (some ⟨A.pa, 0, none⟩), .int .i64 (x' : Nat), .slice bA M mc] W fun e w' => e = .returned (.int .i64 0) ∧ An.ArAt w' A.pa A.qa (V.n * 256) A.acap (Ar.setB V.B x' M bS) none ∧ W.grownBy w' (some A.qa)) := Lib.hid (fun W g =>
      An.store_good (HPR.out W g).y.at_.ar x' M mc bA bS (by have := HIN.out; have := HNN.out; omega) HBB.out.2 (HBY.out W (HPR.out W g).y.all))
    have HDQ : Hid (A.qa ≠ pp ∧ A.qa ≠ ob) := Lib.hid ⟨fun e => by
      have h1 := (HPR.out w3 (grown_refl _ _)).any _ (Rp.any_may (i := A.qa) (.inl rfl))
      have h2 := (HPR.out w3 (grown_refl _ _)).tp
      rw [e] at h1; omega, fun e => by
      have h1 := (HPR.out w3 (grown_refl _ _)).any _ (Rp.any_may (i := A.qa) (.inl rfl))
      have h2 := HOB.out
      rw [e] at h1; omega⟩
    clear hin q1
    go_upto_region 28 with (fail)
    have hg1 := grown_drew1 (grown_refl w3 none)
    go_region_held3 (fun w' => w'.cell? ⟨pp, 0, none⟩ = some (.pointer (some ⟨A.p, 0, none⟩)) ∧ w'.cell? ⟨ob, 4, none⟩ = some (.int .i64 (x' : Nat)) ∧ w'.cell? ⟨ob, 7, none⟩ = some (.slice bA M mc))
      (first | exact ⟨q0, y4, y7⟩ | exact HS6.out)
      (first
      | (go_at_call 13; refine (HAR.out _ (by assumption)).mono ?_; rintro e w9 ⟨rfl, hw9⟩; subst hw9)
      | (go_at_call 14; refine (HSTO.out _ (by assumption)).mono ?_; rintro e w9 ⟨rfl, har, hgs⟩; have HG9 := Lib.hid (by assumption : w3.grownBy _ none); have HS6 : Hid (w9.cell? ⟨pp, 0, none⟩ = some (.pointer (some ⟨A.p, 0, none⟩)) ∧ w9.cell? ⟨ob, 4, none⟩ = some (.int .i64 (x' : Nat)) ∧ w9.cell? ⟨ob, 7, none⟩ = some (.slice bA M mc)) := Lib.hid ⟨hgs.cell (HG9.out.cell q0 (by simp)) (by have := HDQ.out; simpa using fun e => this.1 e.symm), hgs.cell (HG9.out.cell y4 (by simp)) (by have := HDQ.out; simpa using fun e => this.2 e.symm), hgs.cell (HG9.out.cell y7 (by simp)) (by have := HDQ.out; simpa using fun e => this.2 e.symm)⟩; have HS9 := Lib.hid (pr_store (HPR.out _ HG9.out) har hgs HBB.out.2); have HT9 : Hid (To w0 w w9 A A D D T (V.write x' M bS) V cnt pp) := Lib.hid (To.start (grown_trans HG.out HG9.out) HT0.out ⟨_, rfl, rfl, HS9.out, fun i hi => if_pos hi, fr_some hgs (fun _ => .inl ((HPR.out _ HG9.out).any _ (Rp.any_may (i := A.qa) (.inl rfl))))⟩); clear har hgs))
    all_goals
      obtain ⟨p0, p4, p7⟩ := HS6.out
      have p1 := HS9.out.c1
      obtain ⟨qd, cd, e1, e2, e3, -⟩ := HS9.out.d.bt
      have HBT := Lib.hid (And.intro e2 e3)
      obtain ⟨T9, hPT, hTT, hFF⟩ : ∃ T9, PrAt w0 w9 A D T9 (V.write x' M bS) V cnt pp ∧ (∀ i, i < w.heap.size → T9 i = T i) ∧ Fr (fun i => T i = 1 ∨ 3 ≤ T i) w w9 := by
        obtain ⟨T2, -, -, a3, a4, a5⟩ := HT9.out
        exact ⟨T2, a3, a4, a5⟩
      have HS9 := Lib.hid hPT
      have HTF := Lib.hid (And.intro hTT hFF)
      clear e2 e3 hPT hTT hFF HT9
      rw [HNN.out] at e1 HBT
      have hNi : (N : Int) ≤ 65536 := by omega
      obtain ⟨i0, hi, hz0, hz1, hz2⟩ := info_parts An.infoByte
      have e1' := (grown_alloc w9 (.cells #[] 5) none).cell e1 (by simp)
      have p1' := (grown_alloc w9 (.cells #[] 5) none).cell p1 (by simp)
      clear q0 hg1
      go_wp2_with (at_builtin; refine wpList_append_own _ rfl _ _ 24 rfl w9.heap.size 5 i0 (.int .u8 0) 1 1 Tryz.underlying24 hi hz0 hz1 hz2 rfl (by decide) _ _ _ rfl (World.ownsRow_made w9 #[] 0 (Nat.le_refl _) (Nat.zero_le _) rfl) ⟨qd, 0, none⟩ N cd (An.bvals V.B N) rfl ?c1 ?c2 ?c3 ?c4 ?c5 ?c6 ?_)
      case c1 => rw [An.bvals_length, Nat.mul_one]
      case c2 =>
        intro u v hv
        have hv' : u < N := by
          have := (List.getElem?_eq_some_iff.1 hv).1
          rwa [An.bvals_length] at this
        rw [An.bvals_at V.B N u hv'] at hv
        have h2 := (grown_alloc w9 (.cells #[] 5) none).cell (HBT.out.2.c u hv') (by simp)
        rw [← hv, An.aaddr_add]
        exact h2
      case c3 => exact An.bvals_one V.B N
      case c4 => simp only [maxLen]; omega
      case c5 => omega
      case c6 => simp
      intro v' w10 hown hgrow hiff
      have hv : v' ≠ .slice none 0 0 := fun e => hiff e
      obtain ⟨qn, cn, rfl, k1, k2, k3, k4⟩ := An.bytesNew_val (An.bytes_end w9 w10 N V.B v' (by simpa using hown) (grown_own (grown_alloc w9 _ none) hgrow (Nat.le_refl _)) hv)
      clear hown hgrow hiff hv hi hz0 hz1 hz2
      have hxN : (x' : Int) ≤ N := by have := HIN.out; omega
      have hx64 : (x' : Int) ≤ 65536 := by have := HIN.out; omega
      have hNc : (N : Int) ≤ cn := by omega
      have hgd := grown_drew1 (grown_refl w10 none)
      have s4 := hgd.cell (k4.cell p4 (by simp)) (by simp)
      have s7 := hgd.cell (k4.cell p7 (by simp)) (by simp)
      obtain ⟨w11, hrun, hb11, hg11⟩ : ∃ w11, (∀ ty, (Builtin.copy_ #[24, 24] ty #[.slice (if cn = x' then some ⟨qn, 0, none⟩ else some ⟨qn, x', none⟩) (N - x') (cn - x'), .slice bA M mc]).run Tryz.prog w10.drew = .ok (goInt M) w11) ∧ An.BytesAt w11 qn N (Ar.setB V.B x' M bS) ∧ w10.drew.grownBy w11 (some qn) := by
        by_cases hc : cn = x'
        · have hM0 : M = 0 := by have := HIN.out; omega
          subst hM0
          rw [if_pos hc]
          obtain ⟨w11, h1, h2, h3⟩ := An.copy_run2 (k3.grown hgd (by simp)) 0 (N - x') 0 (cn - x') (by omega) (fun h => by omega) bS bA mc (HBY.out _ (grown_trans (grown_trans HS9.out.y.all k4) hgd))
          refine ⟨w11, h1, ?_, h3⟩
          have e : Ar.setB V.B x' 0 bS = Ar.setB V.B 0 0 bS := by funext i; unfold Ar.setB; rw [if_neg (by omega), if_neg (by omega)]
          rw [e]; exact h2
        · rw [if_neg hc]
          exact An.copy_run2 (k3.grown hgd (by simp)) x' (N - x') M (cn - x') (by have := HIN.out; omega) (by have := HIN.out; omega) bS bA mc (HBY.out _ (grown_trans (grown_trans HS9.out.y.all k4) hgd))
      have hcp := hrun
      have HK := Lib.hid (And.intro k1 (And.intro k2 (And.intro hb11 (grown_own (grown_trans k4 hgd) hg11 k2))))
      have r1 := HK.out.2.2.2.cell p1 (by simp)
      have r2 := HK.out.2.2.2.cell e1 (by simp)
      have zD : w11.frozen? ⟨D.p, 2, none⟩ = false := by rw [World.frozen?_of_block (w := w9) (HK.out.2.2.2.block D.p HS9.out.d.toDrW.plt (by simp))]; exact HS9.out.d.fz 2
      have HDS : Hid (StepW w0 w (w11.setCell ⟨D.p, 2, none⟩ (.slice (some ⟨qn, 0, none⟩) N cn)) A D T V cnt pp) := Lib.hid (by
        have hh := HK.out
        rw [← HNN.out] at hh ⊢
        have hd := pr_dstore HS9.out hh.2.2.2 hh.2.2.1 hh.1 hh.2.1 (fun i => Ar.setB_lt (HPR.out w3 (grown_refl _ _)).d.ok.lt HBB.out.2 _ _ _)
        refine ⟨A, D, V.write x' M bS, rfl, rfl, To.next rfl rfl HTF.out.1 HTF.out.2 ⟨_, rfl, rfl, hd.mono (by omega), fun i hi => relab_old _ hi, (fr_none hh.2.2.2).trans (fr_some (An.agrown_set w11 D.p 2 _) (fun _ => .inr (by rw [HS9.out.d.tp]; omega)))⟩⟩)
      clear k1 k2 k3 k4 hb11 hg11 hrun p0 p1 p4 p7 e1 e1' p1' hgd
      go_upto_region 30 with (fail)
      go_region_law (first
        | (refine step_copy_run rfl _ _ _ rfl _ _ _ _ rfl rfl (hcp _) ?_))
      all_goals
        go_wp2
        all_goals
          go_ret
          first
          | exact ⟨rfl, HDS.out⟩
          | exact ⟨rfl, by have h := HDS.out; rw [show cn = x' by assumption] at h; exact h⟩
  · have HBAD : Hid (∀ W, w3.grownBy W none → Calls Tryz.prog 14 #[.pointer (some ⟨A.pa, 0, none⟩), .int .i64 a, .slice bA M mc] W fun e w' => e = .returned (.int .i64 3) ∧ W = w') := Lib.hid (fun W g => by
      have har := (HPR.out W g).y.at_.ar
      have hN := HNN.out
      refine An.store_bad A.pa A.qa (V.n * 256) A.acap a bA M mc W har.c0 har.small (by omega) ?_
      cases e : An.inB (V.n * 256) a M with
      | false => rfl
      | true => exact absurd ((An.inB_iff _ _ _).1 e) (by omega))
    have K : Hid (∀ W, w3.grownBy W none → StepW w0 w W A D T V cnt pp) := Lib.hid (fun W g => ⟨A, D, V, rfl, rfl, To.start (grown_trans HG.out g) HT0.out ((HPW.out _ (grown_trans HG.out g)).toG (grown_refl _ _))⟩)
    have HCL : Hid (∀ W, w3.grownBy W none → W.cell? ⟨pp, 0, none⟩ = some (.pointer (some ⟨A.p, 0, none⟩)) ∧ W.cell? ⟨ob, 4, none⟩ = some (.int .i64 a) ∧ W.cell? ⟨ob, 7, none⟩ = some (.slice bA M mc)) := Lib.hid (fun W g => ⟨g.cell q0 (by simp), g.cell y4 (by simp), g.cell y7 (by simp)⟩)
    clear hin q1
    go_upto_region 28 with (fail)
    have hg1 := grown_drew1 (grown_refl w3 none)
    go_region_held3 (fun w' => w'.cell? ⟨pp, 0, none⟩ = some (.pointer (some ⟨A.p, 0, none⟩)) ∧ w'.cell? ⟨ob, 4, none⟩ = some (.int .i64 a) ∧ w'.cell? ⟨ob, 7, none⟩ = some (.slice bA M mc))
      (first | exact ⟨q0, y4, y7⟩ | exact HCL.out _ hg1)
      (first
      | (go_at_call 13; refine (HAR.out _ hg1).mono ?_; rintro e w9 ⟨rfl, hw9⟩; subst hw9)
      | (go_at_call 14; refine (HBAD.out _ hg1).mono ?_; rintro e w9 ⟨rfl, hw9⟩; subst hw9))
    all_goals
      go_wp2
      go_ret
      exact ⟨rfl, K.out _ hg1⟩
end Go.Proofs.YtgnfcklippjeeaaGreat
