/- The walks of the laws SlabMake and SlabOrder. -/
import Derived.Test.YticoojcmlkdeiaaSI
namespace Go.Proofs.Yticoojcmlkdeiaa
open Go.RowKit
open Sl (Cls bs upd)

theorem grown_fr {a w w' : World} {q : Nat} (h : a.grownBy w none) (k : Fr (fun i => i = q) w w') (hq : a.heap.size ≤ q) : a.grownBy w' none := k.grown h (fun i hi e => by omega)
theorem i64_and3 (n : Int) : bits .and .i64 n 3 = n % 4 := by
  have h127 : (BitVec.ofInt 64 3).toNat = 2 ^ 2 - 1 := by decide
  have key : (BitVec.ofInt 64 n &&& BitVec.ofInt 64 3).toNat = (n % ((2 ^ 64 : Nat) : Int)).toNat % 2 ^ 2 := by
    rw [BitVec.toNat_and, BitVec.toNat_ofInt, h127, Nat.and_two_pow_sub_one_eq_mod]
  show IntKind.i64.wrap ((BitVec.ofInt 64 n &&& BitVec.ofInt 64 3).toNat : Nat) = n % 4
  rw [key, IntKind.wrap_i64]
  omega

set_option maxRecDepth 100000 in
set_option maxHeartbeats 4000000 in
theorem slabMake_no (P N : Nat) (page cl k : Int) (w : World) (hP : ((P : Int) % 5) = (N : Int)) (hPb : (P : Int) ≤ 255) (hc : No cl) :
    Calls Try.prog 5 #[.int .u8 P, .int .i64 page, .int .i64 cl, .int .i64 k] w fun e w' => e = .returned (.bool true) ∧ w.grownBy w' none := by
  have HBAD : Hid (LayBad (N * 256) page cl) := Lib.hid (.inl hc)
  have HSz := Lib.hid (fun w => rsize_no cl w hc)
  clear hc
  have HD := Lib.hid (fun w => drop_bad (.pointer none) 2 k w (by decide) (wrong_nil k 1 w))
  have HGv := Lib.hid (fun w => give_bad (.pointer none) 2 k w (by decide) (wrong_nil k 2 w))
  go_enter Try.func5, Try.ntmps5
  go_wp2_with fail
  (with_reducible refine (An.anew_at N N w (by omega) (.inr (.inl (by omega)))).mono ?_)
  rintro e w1 ⟨pa, qa, acap, rfl, ha, h1, h2, hg⟩
  have HA := Lib.hid ha
  have HP := Lib.hid (And.intro h1 h2)
  have HG := Lib.hid hg
  clear ha h1 h2 hg
  go_wp2_with fail
  refine (new_at 1 w1).mono ?_
  rintro e w2 ⟨rfl, hg⟩
  have HA2 := Lib.hid (HA.out.grown hg (by simp) (by simp))
  have HG2 := Lib.hid (grown_trans HG.out hg)
  clear hg HA HG
  have HM := Lib.hid (smk_bad (keyOf 1) page cl 0 HA2.out HBAD.out)
  go_wp2_with fail
  refine HM.out.mono ?_
  rintro e w3 ⟨rfl, hg⟩
  have HG3 := Lib.hid (grown_trans HG2.out hg)
  clear hg HM
  clear HA2 HG2
  go_wp2_with fail
  refine (HSz.out _).mono ?_
  rintro e w' ⟨rfl, rfl⟩
  go_wp2_with fail
  refine (new_at 1 _).mono ?_
  rintro e w4 ⟨rfl, hg⟩
  have HG4 := Lib.hid (grown_trans HG3.out hg)
  clear hg HG3
  go_wp2_with fail
  refine (smk_nil _ _ _ _ _).mono ?_
  rintro e w5 ⟨rfl, hg⟩
  have HG5 := Lib.hid (grown_trans HG4.out hg)
  clear hg HG4
  go_wp2_with fail
  refine (take_nil _).mono ?_
  rintro e w' ⟨rfl, rfl⟩
  go_wp2_with (first
    | (go_at_call 12; refine (HD.out _).mono ?_; rintro e w' ⟨rfl, rfl⟩)
    | (go_at_call 13; refine (HGv.out _).mono ?_; rintro e w' ⟨rfl, rfl⟩)
    | (go_at_call 16; refine (state_nil _ _).mono ?_; rintro e w' ⟨rfl, rfl⟩)
    | (go_at_call 20; refine (count_nil _ _).mono ?_; rintro e w' ⟨rfl, rfl⟩)
    | (go_at_call 14; refine (check_nil _).mono ?_; rintro e w6 ⟨rfl, hg⟩; have HG6 := Lib.hid (grown_trans HG5.out hg); clear hg)
    | (go_at_call 25; refine (page_nil _).mono ?_; rintro e w' ⟨rfl, rfl⟩)
    | (go_at_call 26; refine (class_nil _).mono ?_; rintro e w' ⟨rfl, rfl⟩)
    | (go_at_call 27; refine (owner_nil _).mono ?_; rintro e w' ⟨rfl, rfl⟩)
    | (go_at_call 15; refine (sawake_at _).mono ?_; rintro e w7 ⟨rfl, hg⟩; have HG7 := Lib.hid (grown_trans HG6.out hg); clear hg))
  go_ret
  exact ⟨rfl, HG7.out⟩

set_option maxRecDepth 100000 in
set_option maxHeartbeats 4000000 in
theorem slabMake_neg (P N : Nat) (page cl k : Int) (w : World) (hP : ((P : Int) % 5) = (N : Int)) (hPb : (P : Int) ≤ 255) {s n r : Int} (hc : Cl cl s n r) (hp : page < 0) :
    Calls Try.prog 5 #[.int .u8 P, .int .i64 page, .int .i64 cl, .int .i64 k] w fun e w' => e = .returned (.bool true) ∧ w.grownBy w' none := by
  have HBAD : Hid (LayBad (N * 256) page cl) := Lib.hid (.inr ⟨⟨_, _, _, hc⟩, .inl hp⟩)
  have hs : 0 < s := by unfold Cl at hc; omega
  have HSz := Lib.hid (fun w => rsize_yes w hc)
  clear hc
  have HD := Lib.hid (fun w => drop_bad (.pointer none) 2 k w (by decide) (wrong_nil k 1 w))
  have HGv := Lib.hid (fun w => give_bad (.pointer none) 2 k w (by decide) (wrong_nil k 2 w))
  go_enter Try.func5, Try.ntmps5
  go_wp2_with fail
  (with_reducible refine (An.anew_at N N w (by omega) (.inr (.inl (by omega)))).mono ?_)
  rintro e w1 ⟨pa, qa, acap, rfl, ha, h1, h2, hg⟩
  have HA := Lib.hid ha
  have HP := Lib.hid (And.intro h1 h2)
  have HG := Lib.hid hg
  clear ha h1 h2 hg
  go_wp2_with fail
  refine (new_at 1 w1).mono ?_
  rintro e w2 ⟨rfl, hg⟩
  have HA2 := Lib.hid (HA.out.grown hg (by simp) (by simp))
  have HG2 := Lib.hid (grown_trans HG.out hg)
  clear hg HA HG
  have HM := Lib.hid (smk_bad (keyOf 1) page cl 0 HA2.out HBAD.out)
  go_wp2_with fail
  refine HM.out.mono ?_
  rintro e w3 ⟨rfl, hg⟩
  have HG3 := Lib.hid (grown_trans HG2.out hg)
  clear hg HM
  clear HA2 HG2
  go_wp2_with fail
  refine (HSz.out _).mono ?_
  rintro e w' ⟨rfl, rfl⟩
  go_wp2_with fail
  refine (new_at 1 _).mono ?_
  rintro e w4 ⟨rfl, hg⟩
  have HG4 := Lib.hid (grown_trans HG3.out hg)
  clear hg HG3
  go_wp2_with fail
  refine (smk_nil _ _ _ _ _).mono ?_
  rintro e w5 ⟨rfl, hg⟩
  have HG5 := Lib.hid (grown_trans HG4.out hg)
  clear hg HG4
  go_wp2_with fail
  refine (take_nil _).mono ?_
  rintro e w' ⟨rfl, rfl⟩
  go_wp2_with (first
    | (go_at_call 12; refine (HD.out _).mono ?_; rintro e w' ⟨rfl, rfl⟩)
    | (go_at_call 13; refine (HGv.out _).mono ?_; rintro e w' ⟨rfl, rfl⟩)
    | (go_at_call 16; refine (state_nil _ _).mono ?_; rintro e w' ⟨rfl, rfl⟩)
    | (go_at_call 20; refine (count_nil _ _).mono ?_; rintro e w' ⟨rfl, rfl⟩)
    | (go_at_call 14; refine (check_nil _).mono ?_; rintro e w6 ⟨rfl, hg⟩; have HG6 := Lib.hid (grown_trans HG5.out hg); clear hg)
    | (go_at_call 25; refine (page_nil _).mono ?_; rintro e w' ⟨rfl, rfl⟩)
    | (go_at_call 26; refine (class_nil _).mono ?_; rintro e w' ⟨rfl, rfl⟩)
    | (go_at_call 27; refine (owner_nil _).mono ?_; rintro e w' ⟨rfl, rfl⟩)
    | (go_at_call 15; refine (sawake_at _).mono ?_; rintro e w7 ⟨rfl, hg⟩; have HG7 := Lib.hid (grown_trans HG6.out hg); clear hg))
  go_ret
  exact ⟨rfl, HG7.out⟩

set_option maxRecDepth 100000 in
set_option maxHeartbeats 4000000 in
theorem slabMake_far (P N : Nat) (page cl k : Int) (w : World) (hP : ((P : Int) % 5) = (N : Int)) (hPb : (P : Int) ≤ 255) {s n r : Int} (hc : Cl cl s n r) (hp0 : 0 ≤ page) (hp : (N : Int) ≤ page) :
    Calls Try.prog 5 #[.int .u8 P, .int .i64 page, .int .i64 cl, .int .i64 k] w fun e w' => e = .returned (.bool true) ∧ w.grownBy w' none := by
  have HBAD : Hid (LayBad (N * 256) page cl) := Lib.hid (.inr ⟨⟨_, _, _, hc⟩, .inr (by omega)⟩)
  have hd : decide (page < (N : Int)) = false := by simp; omega
  have hs : 0 < s := by unfold Cl at hc; omega
  have HSz := Lib.hid (fun w => rsize_yes w hc)
  clear hc
  have HD := Lib.hid (fun w => drop_bad (.pointer none) 2 k w (by decide) (wrong_nil k 1 w))
  have HGv := Lib.hid (fun w => give_bad (.pointer none) 2 k w (by decide) (wrong_nil k 2 w))
  go_enter Try.func5, Try.ntmps5
  go_wp2_with fail
  (with_reducible refine (An.anew_at N N w (by omega) (.inr (.inl (by omega)))).mono ?_)
  rintro e w1 ⟨pa, qa, acap, rfl, ha, h1, h2, hg⟩
  have HA := Lib.hid ha
  have HP := Lib.hid (And.intro h1 h2)
  have HG := Lib.hid hg
  clear ha h1 h2 hg
  go_wp2_with fail
  refine (new_at 1 w1).mono ?_
  rintro e w2 ⟨rfl, hg⟩
  have HA2 := Lib.hid (HA.out.grown hg (by simp) (by simp))
  have HG2 := Lib.hid (grown_trans HG.out hg)
  clear hg HA HG
  have HM := Lib.hid (smk_bad (keyOf 1) page cl 0 HA2.out HBAD.out)
  go_wp2_with fail
  refine HM.out.mono ?_
  rintro e w3 ⟨rfl, hg⟩
  have HG3 := Lib.hid (grown_trans HG2.out hg)
  clear hg HM
  clear HA2 HG2
  go_wp2_with fail
  refine (HSz.out _).mono ?_
  rintro e w' ⟨rfl, rfl⟩
  go_wp2_with fail
  refine (new_at 1 _).mono ?_
  rintro e w4 ⟨rfl, hg⟩
  have HG4 := Lib.hid (grown_trans HG3.out hg)
  clear hg HG3
  go_wp2_with fail
  refine (smk_nil _ _ _ _ _).mono ?_
  rintro e w5 ⟨rfl, hg⟩
  have HG5 := Lib.hid (grown_trans HG4.out hg)
  clear hg HG4
  go_wp2_with fail
  refine (take_nil _).mono ?_
  rintro e w' ⟨rfl, rfl⟩
  go_wp2_with (first
    | (go_at_call 12; refine (HD.out _).mono ?_; rintro e w' ⟨rfl, rfl⟩)
    | (go_at_call 13; refine (HGv.out _).mono ?_; rintro e w' ⟨rfl, rfl⟩)
    | (go_at_call 16; refine (state_nil _ _).mono ?_; rintro e w' ⟨rfl, rfl⟩)
    | (go_at_call 20; refine (count_nil _ _).mono ?_; rintro e w' ⟨rfl, rfl⟩)
    | (go_at_call 14; refine (check_nil _).mono ?_; rintro e w6 ⟨rfl, hg⟩; have HG6 := Lib.hid (grown_trans HG5.out hg); clear hg)
    | (go_at_call 25; refine (page_nil _).mono ?_; rintro e w' ⟨rfl, rfl⟩)
    | (go_at_call 26; refine (class_nil _).mono ?_; rintro e w' ⟨rfl, rfl⟩)
    | (go_at_call 27; refine (owner_nil _).mono ?_; rintro e w' ⟨rfl, rfl⟩)
    | (go_at_call 15; refine (sawake_at _).mono ?_; rintro e w7 ⟨rfl, hg⟩; have HG7 := Lib.hid (grown_trans HG6.out hg); clear hg))
  go_ret
  exact ⟨rfl, HG7.out⟩

set_option maxRecDepth 100000 in
set_option maxHeartbeats 4000000 in
theorem slabMake_ok (P N : Nat) (page cl k : Int) (w : World) (hP : ((P : Int) % 5) = (N : Int)) (hPb : (P : Int) ≤ 255) {g c s n r : Nat} (hc : Cls c s n r) (hg : (g : Int) = page) (hl : (c : Int) = cl) (hp : g < N) :
    Calls Try.prog 5 #[.int .u8 P, .int .i64 page, .int .i64 cl, .int .i64 k] w fun e w' => e = .returned (.bool true) ∧ w.grownBy w' none := by
  have HOK := Lib.hid (And.intro hc (And.intro hp (And.intro hg hl)))
  have hcl : Cl cl s n r := by rw [← hl]; exact hc.cl
  have hs : 0 < (s : Int) := by have := hc.facts.s16; omega
  have hp0 : 0 ≤ page := by omega
  have hp1 : page < (N : Int) := by omega
  clear hc hg hl hp
  have HSz := Lib.hid (fun w => rsize_yes w hcl)
  clear hcl
  have HD := Lib.hid (fun w => drop_bad (.pointer none) 2 k w (by decide) (wrong_nil k 1 w))
  have HGv := Lib.hid (fun w => give_bad (.pointer none) 2 k w (by decide) (wrong_nil k 2 w))
  go_enter Try.func5, Try.ntmps5
  go_wp2_with fail
  (with_reducible refine (An.anew_at N N w (by omega) (.inr (.inl (by omega)))).mono ?_)
  rintro e w1 ⟨pa, qa, acap, rfl, ha, h1, h2, hg⟩
  have HA := Lib.hid ha
  have HP := Lib.hid (And.intro h1 h2)
  have HG := Lib.hid hg
  clear ha h1 h2 hg
  go_wp2_with fail
  refine (new_at 1 w1).mono ?_
  rintro e w2 ⟨rfl, hg⟩
  have HA2 := Lib.hid (HA.out.grown hg (by simp) (by simp))
  have HG2 := Lib.hid (grown_trans HG.out hg)
  clear hg HA HG
  have HM : Hid (Calls Try.prog 22 #[.pointer (some ⟨pa, 0, none⟩), .agg #[.int .u64 (keyOf 1 : Nat)], .int .i64 page, .int .i64 cl, .int .i64 0] w2 fun e w' => SlMade w2 w' pa qa ⟨keyOf 1, g, c, s, n, r, 0, N * 256, acap⟩ e) :=
    Lib.hid (by
      have t := smk_ok (Y := ⟨keyOf 1, g, c, s, n, r, 0, N * 256, acap⟩) HA2.out ⟨HOK.out.1, by have := HOK.out.2.1; show g * 256 + 256 ≤ N * 256; omega, by show N * 256 ≤ 65536; omega, keyOf_lt 1⟩
      rw [show ((g : Nat) : Int) = page from HOK.out.2.2.1, show ((c : Nat) : Int) = cl from HOK.out.2.2.2] at t
      exact t)
  go_wp2_with fail
  refine HM.out.mono ?_
  rintro e w3 ⟨X, B, rfl, rfl, rfl, hx, hi, h1, h2, h3, hf⟩
  have HG3 := Lib.hid (grown_fr HG2.out hf HP.out.2)
  clear hx hi h1 h2 h3 hf HM
  clear HA2 HG2
  go_wp2_with fail
  refine (HSz.out _).mono ?_
  rintro e w' ⟨rfl, rfl⟩
  go_wp2_with fail
  refine (new_at 1 _).mono ?_
  rintro e w4 ⟨rfl, hg⟩
  have HG4 := Lib.hid (grown_trans HG3.out hg)
  clear hg HG3
  go_wp2_with fail
  refine (smk_nil _ _ _ _ _).mono ?_
  rintro e w5 ⟨rfl, hg⟩
  have HG5 := Lib.hid (grown_trans HG4.out hg)
  clear hg HG4
  go_wp2_with fail
  refine (take_nil _).mono ?_
  rintro e w' ⟨rfl, rfl⟩
  go_wp2_with (first
    | (go_at_call 12; refine (HD.out _).mono ?_; rintro e w' ⟨rfl, rfl⟩)
    | (go_at_call 13; refine (HGv.out _).mono ?_; rintro e w' ⟨rfl, rfl⟩)
    | (go_at_call 16; refine (state_nil _ _).mono ?_; rintro e w' ⟨rfl, rfl⟩)
    | (go_at_call 20; refine (count_nil _ _).mono ?_; rintro e w' ⟨rfl, rfl⟩)
    | (go_at_call 14; refine (check_nil _).mono ?_; rintro e w6 ⟨rfl, hg⟩; have HG6 := Lib.hid (grown_trans HG5.out hg); clear hg)
    | (go_at_call 25; refine (page_nil _).mono ?_; rintro e w' ⟨rfl, rfl⟩)
    | (go_at_call 26; refine (class_nil _).mono ?_; rintro e w' ⟨rfl, rfl⟩)
    | (go_at_call 27; refine (owner_nil _).mono ?_; rintro e w' ⟨rfl, rfl⟩)
    | (go_at_call 15; refine (sawake_at _).mono ?_; rintro e w7 ⟨rfl, hg⟩; have HG7 := Lib.hid (grown_trans HG6.out hg); clear hg))
  go_ret
  exact ⟨rfl, HG7.out⟩

theorem slabMake_walk (P : Nat) (page cl k : Int) (w : World) (hPb : (P : Int) ≤ 255) :
    Calls Try.prog 5 #[.int .u8 P, .int .i64 page, .int .i64 cl, .int .i64 k] w fun e w' => e = .returned (.bool true) ∧ w.grownBy w' none := by
  have hP : ((P : Int) % 5) = ((P % 5 : Nat) : Int) := by omega
  by_cases h : cl < 0 ∨ 4 ≤ cl
  · exact slabMake_no P _ page cl k w hP hPb h
  · obtain ⟨c, rfl⟩ : ∃ c : Nat, cl = c := ⟨cl.toNat, by omega⟩
    obtain ⟨s, n, r, hc⟩ := Sl.cls_of c (by omega)
    by_cases h1 : page < 0
    · exact slabMake_neg P _ page c k w hP hPb hc.cl h1
    · by_cases h2 : ((P % 5 : Nat) : Int) ≤ page
      · exact slabMake_far P _ page c k w hP hPb hc.cl (by omega) h2
      · exact slabMake_ok P _ page c k w hP hPb (g := page.toNat) hc (by omega) rfl (by omega)

/-- The pair is at hand. -/
def Pair (w : World) (pp : Nat) (X : Pl) : Prop := w.cell? ⟨pp, 0, none⟩ = some (.pointer (some ⟨X.pa, 0, none⟩)) ∧ w.cell? ⟨pp, 1, none⟩ = some (.pointer (some ⟨X.p, 0, none⟩)) ∧ ¬ X.may pp
theorem Pair.fr {w w' : World} {pp : Nat} {X : Pl} (h : Pair w pp X) (hf : Fr X.may w w') : Pair w' pp X := ⟨hf.cell h.1 h.2.2, hf.cell h.2.1 h.2.2, h.2.2⟩
theorem Pair.grown {w w' : World} {pp : Nat} {X : Pl} (h : Pair w pp X) (hg : w.grownBy w' none) : Pair w' pp X := h.fr (fr_none hg)
set_option maxRecDepth 100000 in
set_option maxHeartbeats 4000000 in
theorem slabOrder_cls {c s n r : Nat} (seed b : Nat) (cl : Int) (w : World) (hcl : cl % 4 = (c : Int)) (hc : Cls c s n r) (hb : b < 256) :
    Calls Try.prog 6 #[.int .u64 seed, .int .i64 cl, .int .u8 b] w fun e w' => e = .returned (.bool true) ∧ w.grownBy w' none := by
  have e1 : bits .and .i64 cl 3 = (c : Int) := (i64_and3 cl).trans hcl
  have HM := Lib.hid (pmake_at seed b w hc hb)
  have HS := Lib.hid (fun w => rslots_at hc w)
  have n16 := hc.facts.n16
  clear hc hcl
  go_enter Try.func6, Try.ntmps6
  go_wp2_with fail
  refine HM.out.mono ?_
  rintro e w1 ⟨pp, acap, X, B, rfl, hp0, hp1, hy, hpp, hnm⟩
  have HPR := Lib.hid (show Pair w1 pp X from ⟨hp0, hp1, hnm⟩)
  have HY := Lib.hid hy
  clear hp0 hp1 hy hpp hnm HM
  go_wp2_with fail
  obtain ⟨w2, rfl⟩ : ∃ w2 : World, w2 = w1 := ⟨_, rfl⟩
  go_loopw [8] (fun i wr => ∃ (m : Nat) (S : Nat → Nat) (B' : Nat → Nat), m ≤ n ∧ i = .int .i64 m ∧ Young w wr X (nm seed c s n r acap) S (Sl.from_ m n) B' ∧ (∀ k, k < m → S k = 1) ∧ Pair wr pp X) (fun i _ => n - (intOf i).toNat)
  case atStart => exact ⟨0, _, _, Nat.zero_le _, rfl, HY.out, fun k hk => by omega, HPR.out⟩
  case round =>
    obtain ⟨m, S, B', hm, rfl, hy, hS, hpr⟩ := hrel
    have HYm := Lib.hid hy
    have HSm := Lib.hid hS
    have HPm := Lib.hid hpr
    clear hy hS hpr
    by_cases hlt : m < n
    · have hT := HYm.out
      rw [Sl.from_cons hlt] at hT
      have HT := Lib.hid hT.take
      clear hT
      go_wp2_with fail
      refine (HS.out _).mono ?_
      rintro e w' ⟨rfl, rfl⟩
      have p1 := HPm.out.2.1
      go_wp2_with fail
      refine HT.out.mono ?_
      rintro e w3 ⟨rfl, hy, hf⟩
      have HY3 := Lib.hid hy
      have HP3 := Lib.hid (HPm.out.fr hf)
      clear hy hf HT p1
      have p1 := HP3.out.2.1
      have HC := Lib.hid HY3.out.check
      go_wp2_with fail
      refine HC.out.mono ?_
      rintro e w4 ⟨rfl, hg⟩
      have HY4 := Lib.hid (HY3.out.grown hg)
      have HP4 := Lib.hid (HP3.out.grown hg)
      clear hg p1 HY3 HP3 HC
      go_wp2
      go_roundw
      case rel => exact ⟨m + 1, _, _, by omega, by go_num, HY4.out, fun k hk => by
        by_cases e : k = m
        · subst e; exact Sl.upd_same _ _ _
        · rw [Sl.upd_other e]; exact HSm.out k (by omega), HP4.out⟩
      case measure => simp [intOf]; omega
    · obtain rfl : m = n := by omega
      have hT := HYm.out
      rw [Sl.from_nil] at hT
      have HT := Lib.hid hT.take0
      have hC := count_at hT.at_ hT.inv.st 1
      rw [show Sl.cnt S 1 (nm seed c s m r acap).n = m from Sl.cnt_full (x := 1) m HSm.out] at hC
      have HC := Lib.hid hC
      have HA := Lib.hid hT.all
      clear hT hC
      have p1 := HPm.out.2.1
      go_wp2_with (first
        | (go_at_call 21; refine (HS.out _).mono ?_; rintro e w' ⟨rfl, rfl⟩)
        | (go_at_call 11; refine HT.out.mono ?_; rintro e w' ⟨rfl, rfl⟩)
        | (go_at_call 20; refine HC.out.mono ?_; rintro e w' ⟨rfl, rfl⟩)
        | (go_at_call 15; refine (sawake_at _).mono ?_; rintro e w7 ⟨rfl, hg⟩; have HE := Lib.hid (grown_trans HA.out hg); clear hg))
      go_ret
      exact ⟨rfl, HE.out⟩
theorem slabOrder_walk (seed b : Nat) (cl : Int) (w : World) (hb : b < 256) :
    Calls Try.prog 6 #[.int .u64 seed, .int .i64 cl, .int .u8 b] w fun e w' => e = .returned (.bool true) ∧ w.grownBy w' none := by
  obtain ⟨s, n, r, hc⟩ := Sl.cls_of (cl % 4).toNat (by omega)
  exact slabOrder_cls seed b cl w (by omega) hc hb
end Go.Proofs.Yticoojcmlkdeiaa
