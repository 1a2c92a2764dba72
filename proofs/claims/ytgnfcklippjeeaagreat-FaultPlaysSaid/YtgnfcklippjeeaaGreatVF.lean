/- Check of a whole region; writing into a live block, on both sides. -/
import Derived.Test.YtgnfcklippjeeaaGreatVE
import Derived.Test.YtgnfcklippjeeaaGreatQ1
namespace Go.Proofs.YtgnfcklippjeeaaGreat
open Go.RowKit
open Sl (Cls bs upd LnkIs)
open Lg (pgs)

set_option maxRecDepth 100000 in
set_option maxHeartbeats 2000000 in
theorem rcheck_at {w : World} {A : Rp} {V : St} {cnt : Nat} (h : RnAt w A V cnt) (hw : V.Whole) :
    Calls Tryz.prog 15 #[.pointer (some ⟨A.p, 0, none⟩)] w fun e w' => e = .returned (.int .i64 0) ∧ w.grownBy w' none := by
  have HS0 := Lib.hid (fun W (g1 : w.grownBy W none) (k : Nat) (hk : k < 256) (hl : V.L k = none) => slots_none (h.grown g1) (k : Int) ⟨by omega, by omega⟩ (fun j hj => (by rw [show j = k by omega]; exact hl)))
  have HS1 := Lib.hid (fun W (g1 : w.grownBy W none) (k : Nat) (d : Sd) (hl : V.L k = some d) => slots_some (h.grown g1) hl)
  have HCK : Hid (∀ W, w.grownBy W none → ∀ k d, V.L k = some d → Calls Tryz.prog 64 #[.pointer (some ⟨(A.xs k).p, 0, none⟩)] W fun e w' => e = .returned (.int .i64 0) ∧ W.grownBy w' none) := Lib.hid (fun W g1 k d hl => by
    obtain ⟨F, i1, i2⟩ := hw.sl k d hl
    have hs := (h.grown g1).sl k d hl
    rw [i2] at hs
    exact check_at hs i1)
  have HLC : Hid (∀ W, w.grownBy W none → Calls Tryz.prog 65 #[.pointer (some ⟨A.pg, 0, none⟩)] W fun e w' => e = .returned (.int .i64 0) ∧ W.grownBy w' none) := Lib.hid (fun W g1 => by
    obtain ⟨D, hD⟩ := (h.grown g1).lg
    refine (lcheck_at hD).mono ?_
    rintro e w' ⟨x, rfl, -, hx, hg⟩
    rw [hx.2 hw.gr]
    exact ⟨rfl, hg⟩)
  have c0 := h.c0
  have H7 := Lib.hid h.c7
  have hm : V.m ≤ 256 := by have := h.ok.n256; have := h.ok.mn; omega
  obtain ⟨m, hmm⟩ : ∃ m, V.m = m := ⟨_, rfl⟩
  rw [hmm] at c0 hm
  have hmi : (m : Int) ≤ 256 := by omega
  have HM := Lib.hid hm
  clear h hw hmm hm
  go_enter Tryz.func15, Tryz.ntmps15
  go_wp2_with fail
  obtain ⟨w1, hw1⟩ : ∃ w1 : World, w1 = w := ⟨_, rfl⟩
  clear hw1
  go_loopw [12] (fun i wr => ∃ k : Nat, k ≤ m ∧ i = .int .i64 k ∧ w.grownBy wr none) (fun i _ => m - (intOf i).toNat)
  case atStart => exact ⟨0, by omega, rfl, grown_refl _ _⟩
  case round =>
    obtain ⟨k, hk, rfl, hg⟩ := hrel
    have HG := Lib.hid hg
    clear hg
    by_cases hlt : k < m
    · have hki : (k : Int) < m := by omega
      have hk256 : (k : Int) ≤ 256 := by omega
      have HLT : Hid (k < m) := Lib.hid hlt
      have hk2 : k < 256 := by have := HM.out; omega
      clear hk hlt
      cases hl : V.L k with
      | none =>
        have HS := Lib.hid (HS0.out _ HG.out k hk2 hl)
        clear hl hk2
        go_wp2_with fail
        refine HS.out.mono ?_
        rintro e w3 ⟨rfl, m3⟩
        have HG3 := Lib.hid (grown_trans HG.out m3)
        clear m3
        go_wp2
        go_roundw
        case rel => exact ⟨k + 1, by have := HLT.out; omega, by go_num, HG3.out⟩
        case measure => have := HLT.out; simp [intOf]; omega
      | some d =>
        have HS := Lib.hid (HS1.out _ HG.out k d hl)
        have HC := Lib.hid (fun W g1 => HCK.out W g1 k d hl)
        clear hl hk2
        go_wp2_with fail
        refine HS.out.mono ?_
        rintro e w3 ⟨rfl, m3⟩
        have HG3 := Lib.hid (grown_trans HG.out m3)
        clear m3
        go_wp2_with fail
        refine (HC.out _ HG3.out).mono ?_
        rintro e w4 ⟨rfl, m4⟩
        have HG4 := Lib.hid (grown_trans HG3.out m4)
        clear m4
        go_wp2
        go_roundw
        case rel => exact ⟨k + 1, by have := HLT.out; omega, by go_num, HG4.out⟩
        case measure => have := HLT.out; simp [intOf]; omega
    · have hki : ¬ (k : Int) < m := by omega
      have c7 := HG.out.cell H7.out (by simp)
      clear hk hlt
      go_wp2_with fail
      refine (HLC.out _ HG.out).mono ?_
      rintro e w3 ⟨rfl, m3⟩
      have HG3 := Lib.hid (grown_trans HG.out m3)
      clear m3
      go_wp2
      go_ret
      exact ⟨rfl, HG3.out⟩
/-- The code's bytes are written. -/
theorem pr_store {w0 w w' : World} {A : Rp} {D : Dp} {T : Nat → Nat} {V U : St} {cnt pp a n : Nat} {S : Nat → Nat} (h : PrAt w0 w A D T V U cnt pp) (har : An.ArAt w' A.pa A.qa (V.n * 256) A.acap (Ar.setB V.B a n S) none) (hg : w.grownBy w' (some A.qa)) (hS : ∀ i, S i < 256) :
    PrAt w0 w' A D (relab1 T w.heap.size) (V.write a n S) U cnt pp := by
  have hf : Fr (fun i => i = A.qa) w w' := fr_some hg (fun _ => rfl)
  have hf2 : Fr (A.may V.L) w w' := hf.wide (fun i hi => .inl hi)
  have hr : RnAt w' A (V.write a n S) cnt := ⟨h.y.at_.toRnW.bytes hf har, h.y.at_.ok.write hS⟩
  exact h.code (h.y.step hr hf2 (fun _ hi => .inl hi)) hf2 (fun _ hi => .inl hi) rfl
/-- The document's bytes are laid anew. -/
theorem pr_dstore {w0 w w' : World} {A : Rp} {D : Dp} {T : Nat → Nat} {V U : St} {cnt pp q cap : Nat} {B' : Nat → Nat} (h : PrAt w0 w A D T V U cnt pp) (hg : w.grownBy w' none) (hb : An.BytesAt w' q (U.n * 256) B') (hc : U.n * 256 ≤ cap) (hq : w.heap.size ≤ q) (hB : ∀ i, B' i < 256) :
    PrAt w0 (w'.setCell ⟨D.p, 2, none⟩ (.slice (some ⟨q, 0, none⟩) (U.n * 256) cap)) A D (relab T w.heap.size) V { U with B := B' } cnt pp := by
  have hd := h.d2.grown hg
  have hW := hd.toDrW.bytes hb hc (relab_new T hq)
  have hgr := An.agrown_set w' D.p 2 (.slice (some ⟨q, 0, none⟩) (U.n * 256) cap)
  refine h.doc2 hW ⟨hd.ok.n1, hd.ok.n256, hd.ok.mn, hd.ok.key, hB, hd.ok.rows, hd.ok.sl, hd.ok.gr, hd.ok.k1, hd.ok.k2, hd.ok.k4⟩ ((fr_none hg).trans (fr_some hgr (fun _ => by rw [hd.tp]; omega)))
end Go.Proofs.YtgnfcklippjeeaaGreat
