/- The walk of the law's own Same: a row stands as a list of truths. -/
import Derived.Test.YtkaoodglnglkdaaDoorJ
namespace Go.Proofs.YtkaoodglnglkdaaDoor
open Go.RowKit

theorem ints_read {w : World} {B : Nat} {v : Value} {L : List Nat} (h : IntsOwn w B v L) :
    ∃ A c, v = .slice A L.length c ∧ L.length ≤ c ∧ (L.length = 0 ∨ ∃ g, A = some ⟨g, 0, none⟩ ∧ B ≤ g ∧ ∀ k, k < L.length → w.cell? ⟨g, k, none⟩ = some (.int .i64 (L.getD k 0 : Nat))) := by
  obtain ⟨-, ⟨rfl, h0⟩ | ⟨g, cap, cur, rfl, hbg, hh, hnc, hcm, hcs, htake⟩⟩ := h
  · exact ⟨none, 0, by rw [h0], by omega, Or.inl h0⟩
  · refine ⟨some ⟨g, 0, none⟩, cap, rfl, hnc, Or.inr ⟨g, rfl, hbg, fun k hk => ?_⟩⟩
    have e : w.cell? ⟨g, k, none⟩ = cur[k]? := by simp only [World.cell?, hh]; rfl
    have t := congrArg (fun l => l[k]?) htake
    simp only [intsOf, List.getElem?_take, Nat.mul_one, hk, if_true, Array.getElem?_toList, List.getElem?_map] at t
    rw [e, t, List.getD_eq_getElem?_getD, List.getElem?_eq_getElem hk]
    rfl

set_option maxHeartbeats 2000000 in
theorem lawsame_at {w : World} {p q n cap b : Nat} {ws : List Nat} {f : Nat → Bool} (h : SetAt w p q n cap ws) (hr : RefAt w b n f) (hh : Holds ws f n) :
    Calls Tryd.prog 14 #[.pointer (some ⟨p, 0, none⟩), .slice (some ⟨b, 0, none⟩) n n] w fun e w' => e = .returned (.bool true) ∧ w.grownBy w' none := by
  have HS := Lib.hid h
  have HR := Lib.hid hr
  have hn := h.small
  have HH := Lib.hid hh
  clear h hr hh
  have hnn : ((n : Int) != (n : Int)) = false := by simp
  obtain ⟨c, hc⟩ : ∃ c, c = cntf f n := ⟨_, rfl⟩
  have hcc : ((c : Int) != (c : Int)) = false := by simp
  have hc1 : M.tot ws n = c := by rw [hc]; exact holds_tot HH.out n (Nat.le_refl _)
  have HC1 := Lib.hid hc1
  have HC := Lib.hid hc
  clear hc hc1
  go_enter Tryd.func14, Tryd.ntmps14
  go_wp2_with (first
    | (go_at_call 17; refine (len_at HS.out).mono ?_; rintro e w' ⟨rfl, rfl⟩)
    | (go_at_call 18; refine (count_at HS.out).mono ?_; rintro e w' ⟨rfl, rfl⟩; rw [HC1.out])
    | (go_at_call 24; refine (refcount_at HR.out).mono ?_; rintro e w' ⟨rfl, rfl⟩; rw [← HC.out])
    | fail)
  refine (all_at HS.out).mono ?_
  rintro e w1 ⟨v1, rfl, ho1, hg1⟩
  have HG1 := Lib.hid hg1
  have HR1 := Lib.hid (HR.out.grown hg1 (by simp))
  rw [holds_places HH.out n (Nat.le_refl _)] at ho1
  obtain ⟨A1, c1, rfl, hcap1, hread1⟩ := ints_read ho1
  clear ho1 hg1
  have HRD1 := Lib.hid hread1
  clear hread1
  go_wp2_with fail
  refine (refall_at HR1.out).mono ?_
  rintro e w2 ⟨v2, rfl, ho2, hg2⟩
  have HG12 := Lib.hid hg2
  have HG2 := Lib.hid (grown_trans HG1.out hg2)
  obtain ⟨A2, c2, rfl, hcap2, hread2⟩ := ints_read ho2
  clear ho2 hg2
  have hll : (plc f n).length ≤ n := by rw [length_plc]; exact cntf_le f n
  generalize plc f n = L at *
  have hself : (((L.length : Nat) : Int) != (L.length : Nat)) = false := by simp
  have hcase : L.length = 0 ∨ ∃ g1 g2, A1 = some ⟨g1, 0, none⟩ ∧ A2 = some ⟨g2, 0, none⟩ ∧ (∀ k, k < L.length → w2.cell? ⟨g1, k, none⟩ = some (.int .i64 (L.getD k 0 : Nat))) ∧ (∀ k, k < L.length → w2.cell? ⟨g2, k, none⟩ = some (.int .i64 (L.getD k 0 : Nat))) := by
    rcases hread2 with h0 | ⟨g2, e2, _, k2⟩
    · exact Or.inl h0
    · rcases HRD1.out with h0 | ⟨g1, e1, _, k1⟩
      · exact Or.inl h0
      · exact Or.inr ⟨g1, g2, e1, e2, fun k hk => HG12.out.cell (k1 k hk) (by simp), k2⟩
  clear hread2 HRD1
  rcases hcase with h0 | ⟨g1, g2, rfl, rfl, k1, k2⟩
  case' inl =>
    have HE : Hid (L.length = 0) := h0
    have HK1 : Hid True := trivial
    have HK2 : Hid True := trivial
    clear h0
  case' inr =>
    have HE : Hid True := trivial
    have HK1 := Lib.hid k1
    have HK2 := Lib.hid k2
    clear k1 k2
  all_goals
    generalize hl : L.length = len at *
    have HLEN := Lib.hid hl
    clear hl
    go_wp2_with fail
    go_loopw [31] (fun i wr => ∃ k d : Nat, k ≤ len ∧ i = .int .i64 k ∧ wr = w2.drewN d) (fun i _ => len - (intOf i).toNat)
    case atStart => exact ⟨0, 0, Nat.zero_le _, rfl, rfl⟩
    case round =>
      obtain ⟨k, d, hk, rfl, rfl⟩ := hrel
      by_cases hkl : k < len
      · first
        | (exfalso; have h0 := HE.out; omega)
        | (have h1 := HK1.out k hkl
           have h2 := HK2.out k hkl
           generalize L.getD k 0 = x at *
           have hxx : (((x : Nat) : Int) != x) = false := by simp
           go_wp2
           go_quiet (fail)
           go_wp2
           go_roundw
           case rel => exact ⟨k + 1, _, by omega, by go_num, rfl⟩
           case measure => simp [intOf]; omega)
      · obtain rfl : k = len := by omega
        go_wp2
        go_ret
        exact ⟨rfl, grown_drew HG2.out d⟩
end Go.Proofs.YtkaoodglnglkdaaDoor
