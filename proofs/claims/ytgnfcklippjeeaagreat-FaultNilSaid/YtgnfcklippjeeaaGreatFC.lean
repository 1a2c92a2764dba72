/- The walks of a ledger's back, Took, Dropped, Fault. -/
import Derived.Test.YtgnfcklippjeeaaGreatFB
namespace Go.Proofs.YtgnfcklippjeeaaGreat
open Go.RowKit
open Go.Maps (Keyed)
open Sl (Cls bs upd FOk LnkIs)
open Lg (pgs)

theorem same_int (k : Int) : (Lit.int .i64 k).sameKey (.int .i64 k) = true := by simp [Lit.sameKey]
theorem gcut_at (G : Nat → Bool) (lo hi k : Nat) : gcut G lo hi k = (G k && !(decide (lo ≤ k) && decide (k < hi))) := rfl
theorem Fr.own {may : Nat → Prop} {a b c : World} {q : Nat} (h : Fr may a b) (k : b.grownBy c (some q)) (hq : a.heap.size ≤ q) : Fr may a c :=
  ⟨k.os.trans h.os, k.tape.trans h.tape, k.output.trans h.output, Nat.le_trans h.size k.size, fun i hi hm => (k.block i (Nat.lt_of_lt_of_le hi h.size) (fun e => by injection e; omega)).trans (h.block i hi hm)⟩
/-- The ledger's map has turned. -/
theorem LdAt.turn {w w' : World} {b0 : Nat} {F : Fp} {cnt cnt' : Nat} {G G' : Nat → Bool} {rv : Value} {N : List Rep} (h : LdAt w b0 F cnt G rv N) (hf : Fr (fun i => i = F.mb) w w') (hm : ∃ D, w'.ownsMap Tryz.prog 3 unitElem F.mb cnt' D ∧ GIs D G') (hN : ∀ q, rv.ownBlock = some q → q ≠ F.mb) : LdAt w' b0 F cnt' G' rv N :=
  ⟨hf.cell h.c0 h.ne, hf.cell h.c1 h.ne, hf.cell h.c2 h.ne, fun k => by rw [hf.frozen h.plt h.ne]; exact h.fz k, own_fr2 h.own hf hN, hm, h.ne, h.b0p, h.b0m⟩
theorem LdAt.rv_ne {w : World} {b0 : Nat} {F : Fp} {cnt : Nat} {G : Nat → Bool} {rv : Value} {N : List Rep} (h : LdAt w b0 F cnt G rv N) : ∀ q, rv.ownBlock = some q → b0 ≤ q := fun q hq => (World.ownsRow.lt h.own q hq).1
theorem LdAt.rv_mb {w : World} {b0 : Nat} {F : Fp} {cnt : Nat} {G : Nat → Bool} {rv : Value} {N : List Rep} (h : LdAt w b0 F cnt G rv N) : ∀ q, rv.ownBlock = some q → q ≠ F.mb := fun q hq => by
  have := h.rv_ne q hq
  have := h.b0m
  omega
set_option maxRecDepth 100000 in
set_option maxHeartbeats 4000000 in
theorem back_at {w : World} {b0 : Nat} {F : Fp} {cnt : Nat} {G : Nat → Bool} {rv : Value} {N : List Rep} (h : LdAt w b0 F cnt G rv N) (lo hi : Nat) :
    Calls Tryz.prog 93 #[.pointer (some ⟨F.p, 0, none⟩), .int .i64 lo, .int .i64 hi] w fun e w' => e = .returned (.tuple #[]) ∧ LdAt w' b0 F cnt (gcut G lo hi) rv N ∧ Fr (fun i => i = F.mb) w w' := by
  obtain ⟨D, hown, hgi⟩ := h.mp
  have c1 := h.c1
  have HH := Lib.hid h
  have HGI := Lib.hid hgi
  have HC1 : Hid (∀ W, Fr (fun i => i = F.mb) w W → W.cell? ⟨F.p, 1, none⟩ = some (.map (some F.mb))) := Lib.hid (fun W hf => hf.cell h.c1 h.ne)
  have HB0 := Lib.hid (show F.mb < w.heap.size from h.mlt)
  clear h hgi
  go_enter Tryz.func93, Tryz.ntmps93
  go_wp2_with (at_range; refine wpList_range_own _ rfl _ 139 rfl 3 146 kint Tryz.underlying139 unitElem F.mb cnt D rfl hown ?_; intro w1 hrg1 hg1 hs1)
  go_frame
  obtain ⟨r, hr'⟩ : ∃ r, r = w.heap.size := ⟨_, rfl⟩
  rw [← hr'] at hrg1 ⊢
  have HRG := Lib.hid hrg1
  have HF1 := Lib.hid (fr_none (may := fun i => i = F.mb) hg1)
  have HRR := Lib.hid hr'
  clear hown c1 hrg1 hg1 hr' hs1
  go_loopw [6] (fun _ wr => ∃ D' G' left c1, wr.ranges Tryz.prog 3 unitElem F.mb r cnt D' left c1 ∧ GIs D' G' ∧ (∀ kl, left kl = true → Go.Maps.has D' kl = true) ∧ Fr (fun i => i = F.mb) w wr ∧ (∀ k : Nat, G' k = (G k && (left (.int .i64 k) || !(decide (lo ≤ k) && decide (k < hi)))))) (fun _ wr => wr.rangeLeft F.mb r)
  case atStart => exact ⟨_, G, _, _, HRG.out, HGI.out, fun _ h => h, HF1.out, fun k => by rw [HGI.out.h1 k]; cases G k <;> rfl⟩
  case round =>
    clear HRG HF1
    obtain ⟨D', G', left, c1, hrg, hgi, hsub, hf, hno⟩ := hrel
    have HGI2 := Lib.hid hgi
    have HSub := Lib.hid hsub
    have HF := Lib.hid hf
    have HNo := Lib.hid hno
    have HM := Lib.hid hrg.left_eq
    clear hgi hsub hf hno
    go_wp2_with (at_next; refine wpList_next_ranges _ rfl _ rfl 3 kint unitElem (Value.int .i64) (fun _ : Unit => Value.agg #[]) (fun key kl hk => ?_) (fun v y hv => ?_) F.mb r cnt D' left c1 rfl hrg ?_ ?_)
    · obtain ⟨x, hx, _⟩ := Go.Maps.keyOf_int_inv Tryz.underlying3 hk
      exact ⟨x, hx⟩
    · exact ⟨(), (unitElem_inv hv).1⟩
    · intro hc0 hl0
      have HE : Hid (LdAt wr b0 F cnt (gcut G lo hi) rv N) := Lib.hid (HH.out.turn HF.out ⟨D', hrg.owns, by
        have e : G' = gcut G lo hi := by
          funext k
          rw [HNo.out k, hl0, gcut_at]
          simp
        rw [← e]; exact HGI2.out⟩ HH.out.rv_mb)
      clear hc0 hl0 hrg
      go_wp2
      go_end0
      exact ⟨rfl, HE.out, HF.out⟩
    · intro x c kl y w2 c2 hkey hlk hy hat hrg2 hlt hgr hsz hen
      obtain ⟨k, ek, hk⟩ := HGI2.out.h0 _ (HSub.out _ hlk)
      subst ek
      obtain ⟨x', hx', ekl, _⟩ := Go.Maps.keyOf_int_inv Tryz.underlying3 hkey
      have ex : x' = (k : Int) := by injection ekl with _ e; exact e.symm
      have ex2 : x = x' := by injection hx' with _ e
      obtain rfl : x = (k : Int) := by rw [ex2, ex]
      have HRG2 := Lib.hid hrg2
      have HLT := Lib.hid hlt
      have HF2 := Lib.hid (HF.out.own hgr (Nat.le_of_eq HRR.out.symm))
      have d1 := HC1.out _ HF2.out
      have HG1 : Hid (∀ j : Nat, j ≠ k → (left (.int .i64 j) && !(Lit.int .i64 (j : Int)).sameKey (.int .i64 (k : Int))) = left (.int .i64 j)) := Lib.hid (fun j hj => by rw [Go.Maps.sameKey_ne (intlit_ne (by omega))]; simp)
      have HGs : Hid ((left (.int .i64 k) && !(Lit.int .i64 (k : Int)).sameKey (.int .i64 (k : Int))) = false) := Lib.hid (by rw [same_int]; simp)
      have HLK := Lib.hid hlk
      have hk64 : (k : Int) ≤ 65536 := by omega
      clear hrg hkey hlk hy hat hlt hgr hsz hk hx' ekl ex ex2 HF
      by_cases a1 : lo ≤ k ∧ k < hi
      · have b1 : (lo : Int) ≤ (k : Int) := by omega
        have b2 : (k : Int) < (hi : Int) := by omega
        have hkey := Go.Maps.keyOf_int_mk (P := Tryz.prog) Tryz.underlying3 (a := (k : Int)) (WalkArith.wf_i64 ⟨by omega, by omega⟩)
        have HA := Lib.hid a1
        have HKEY := Lib.hid hkey
        clear a1 hkey HRG2
        go_wp2_with (at_delete; refine wpList_delete_ranges _ rfl _ _ 139 3 rfl 146 kint Tryz.underlying139 unitElem F.mb r cnt D' _ c2 rfl hrg2 _ _ rfl HKEY.out ?_; intro w3 c3 hrg3 hle hturn)
        have HRG3 := Lib.hid hrg3
        have HLE := Lib.hid hle
        have HF3 := Lib.hid (HF2.out.trans (fr_some (may := fun i => i = F.mb) hturn.grown (fun _ => rfl)))
        clear hrg2 hrg3 hle hturn d1 hen
        try simp only [Act.put]
        go_wp2
        go_roundw
        case rel =>
          refine ⟨_, _, _, _, HRG3.out, HGI2.out.del k, fun kl hkl => ?_, HF3.out, fun j => ?_⟩
          · have hkl' : (left kl && !kl.sameKey (.int .i64 (k : Int))) = true := by
              have := hkl
              simp only [Bool.and_eq_true] at this ⊢
              exact this.1
            simp only [Bool.and_eq_true, Bool.not_eq_true'] at hkl'
            have hne : kl ≠ .int .i64 (k : Int) := fun e => by rw [e, same_int] at hkl'; simp at hkl'
            rw [Go.Maps.has_del_other hne]
            exact HSub.out kl hkl'.1
          · unfold gdel
            by_cases e : j = k
            · subst e
              rw [if_pos rfl]
              have := HA.out
              simp [this.1, this.2, same_int]
            · rw [if_neg e, HNo.out j]
              rw [HG1.out j e, HG1.out j e]
        case measure => rw [HRG3.out.left_eq, HM.out]; have := HLT.out; have := HLE.out; omega
      · have HA := Lib.hid a1
        have HR : Hid (GIs D' G' ∧ ∀ j : Nat, G' j = (G j && ((left (.int .i64 j) && !(Lit.int .i64 (j : Int)).sameKey (.int .i64 (k : Int))) || !(decide (lo ≤ j) && decide (j < hi))))) := Lib.hid ⟨HGI2.out, fun j => by
          by_cases e : j = k
          · subst e
            rw [HNo.out j, HLK.out, same_int]
            have h2 : (decide (lo ≤ j) && decide (j < hi)) = false := by
              cases hh : (decide (lo ≤ j) && decide (j < hi)) with
              | false => rfl
              | true => simp at hh; exact absurd hh HA.out
            rw [h2]; simp
          · rw [HNo.out j, HG1.out j e]⟩
        by_cases b1 : (lo : Int) ≤ (k : Int)
        · have b2 : decide ((k : Int) < (hi : Int)) = false := by simp; omega
          have b3 : decide (k < hi) = false := by simp; omega
          clear a1 hrg2
          go_wp2
          go_roundw
          case rel => exact ⟨_, _, _, _, HRG2.out, HR.out.1, fun kl hkl => HSub.out kl (by simp only [Bool.and_eq_true] at hkl; exact hkl.1), HF2.out, HR.out.2⟩
          case measure => rw [HRG2.out.left_eq, HM.out]; exact HLT.out
        · have b2 : decide ((lo : Int) ≤ (k : Int)) = false := by simpa using b1
          have b3 : decide (lo ≤ k) = false := by simp; omega
          clear a1 hrg2 b1
          go_wp2
          go_roundw
          case rel => exact ⟨_, _, _, _, HRG2.out, HR.out.1, fun kl hkl => HSub.out kl (by simp only [Bool.and_eq_true] at hkl; exact hkl.1), HF2.out, HR.out.2⟩
          case measure => rw [HRG2.out.left_eq, HM.out]; exact HLT.out
end Go.Proofs.YtgnfcklippjeeaaGreat
