/- The walks of the law's awake, and of PagesNil. -/
import Derived.Test.YtbpganholopjfaaPI
namespace Go.Proofs.Ytbpganholopjfaa
open Go.RowKit

/-- What Map answers when the place is known. -/
theorem map_place {w : World} {p q n cap : Nat} {R : Nat → Pg.Row} (h : TabAt w p q n cap R) (lo hi : Int) (x : Pg.Row) (hm : Pg.may x = true) (at_ : Nat) (hp : Pg.Place (Pg.Fr R n lo hi) x.r.toNat at_) :
    Calls Try.prog 37 #[.pointer (some ⟨p, 0, none⟩), .int .i64 lo, .int .i64 hi, .agg #[.int .i64 x.k, .int .i64 x.c, .int .i64 x.o, .int .i64 x.r]] w fun e w' => e = .returned (.tuple #[.int .i64 at_, .int .i64 0]) ∧ at_ + x.r ≤ n ∧ TabAt w' p q n cap (Pg.lay R at_ x) ∧ w.grownBy w' (some q) := by
  refine (map_at h lo hi x.k x.c x.o x.r).mono ?_
  intro e w' hr
  cases hr with
  | arg ha hg => exact absurd (hm.symm.trans ha) (by simp)
  | full ha hf hg => have := Pg.place_uniq hp hf; omega
  | ok ha a2 hf hn ht hg =>
    have : (at_ : Int) = a2 := Pg.place_uniq hp hf
    obtain rfl : at_ = a2 := by omega
    exact ⟨rfl, hn, ht, hg⟩
theorem map_noplace {w : World} {p q n cap : Nat} {R : Nat → Pg.Row} (h : TabAt w p q n cap R) (lo hi : Int) (x : Pg.Row) (hm : Pg.may x = true) (hp : Pg.Place (Pg.Fr R n lo hi) x.r.toNat (-1)) :
    Calls Try.prog 37 #[.pointer (some ⟨p, 0, none⟩), .int .i64 lo, .int .i64 hi, .agg #[.int .i64 x.k, .int .i64 x.c, .int .i64 x.o, .int .i64 x.r]] w fun e w' => e = .returned (.tuple #[.int .i64 0, .int .i64 5]) ∧ w.grownBy w' none := by
  refine (map_at h lo hi x.k x.c x.o x.r).mono ?_
  intro e w' hr
  cases hr with
  | arg ha hg => exact absurd (hm.symm.trans ha) (by simp)
  | full ha hf hg => exact ⟨rfl, hg⟩
  | ok ha a2 hf hn ht hg => have := Pg.place_uniq hp hf; omega
theorem head_owner {w : World} {p q n cap : Nat} {R : Nat → Pg.Row} (h : TabAt w p q n cap R) (i k : Nat) (hi : i < n) (hki : k ≤ i) (hh : Pg.isHead (R k) = true) (hr : (i : Int) < k + (R k).r) :
    Calls Try.prog 46 #[.pointer (some ⟨p, 0, none⟩), .int .i64 i] w fun e w' => e = .returned (.tuple #[.int .i64 k, .bool true]) ∧ w.grownBy w' none := by
  have hz : Pg.isZero (R i) = false := by
    cases hz : Pg.isZero (R i) with
    | false => rfl
    | true => exact (Pg.owner_zero h.ok hi hz hki hh hr).elim
  refine (head_some h i hi hz).mono ?_
  rintro e w' ⟨k2, rfl, h1, h2, h3, hg⟩
  obtain rfl := Pg.owner_uniq h.ok hi hki hh hr h1 h2 h3
  exact ⟨rfl, hg⟩

def awR : Nat → Pg.Row := Pg.lay (fun _ => Pg.zero) 1 ⟨2, 0, 0, 2⟩
theorem aw_place : Pg.Place (Pg.Fr (fun _ => Pg.zero) 4 1 4) 2 1 :=
  .inl ⟨1, rfl, fun i h1 h2 => ⟨by omega, by omega, by omega, rfl⟩, fun j hj hr => by have := (hr j (Nat.le_refl _) (by omega)).2.1; omega⟩
theorem aw0 : awR 0 = Pg.zero := by simp [awR, Pg.lay]
theorem aw1 : awR 1 = ⟨2, 0, 0, 2⟩ := by simp [awR, Pg.lay]
theorem aw2 : awR 2 = Pg.tail := by simp [awR, Pg.lay]
theorem aw3 : awR 3 = Pg.zero := by simp [awR, Pg.lay]
theorem aw_long : Pg.Longest (Pg.Fr awR 4 0 4) 1 := by
  refine ⟨fun _ => ⟨3, fun i h1 h2 => ?_⟩, fun k hr => ?_⟩
  · obtain rfl : i = 3 := by omega
    exact ⟨by omega, by omega, by omega, by rw [aw3]; rfl⟩
  · have h0 := hr k (Nat.le_refl _) (by omega)
    have h1 := hr (k + 1) (by omega) (by omega)
    have hk : k < 3 := by have := h1.1; omega
    rcases (by omega : k = 0 ∨ k = 1 ∨ k = 2) with rfl | rfl | rfl
    · have := h1.2.2.2; rw [aw1] at this; cases this
    · have := h0.2.2.2; rw [aw1] at this; cases this
    · have := h0.2.2.2; rw [aw2] at this; cases this

set_option maxRecDepth 100000 in
set_option maxHeartbeats 2000000 in
theorem pawake_at (w : World) :
    Calls Try.prog 40 #[] w fun e w' => e = .returned (.bool true) ∧ w.grownBy w' none := by
  go_enter Try.func40, Try.ntmps40
  go_wp2_with fail
  refine (pnew_mid 4 w (by omega)).mono ?_
  rintro e w1 ⟨p, q, cap, rfl, ht, hp, hq, hg⟩
  have HT := Lib.hid ht
  have HG := Lib.hid hg
  clear ht hg
  go_wp2_with fail
  refine (map_place HT.out 1 4 ⟨2, 0, 0, 2⟩ rfl 1 aw_place).mono ?_
  rintro e w2 ⟨rfl, _, ht, hg⟩
  have HT2 := Lib.hid (show TabAt w2 p q 4 cap awR from ht)
  have HG2 := Lib.hid (grown_own HG.out hg hq)
  clear ht hg HT HG
  go_wp2_with fail
  refine (head_owner HT2.out 2 1 (by omega) (by omega) (by rw [aw1]; rfl) (by rw [aw1]; decide)).mono ?_
  rintro e w3 ⟨rfl, hg⟩
  have HT3 := Lib.hid (HT2.out.grown hg (by simp) (by simp))
  have HG3 := Lib.hid (grown_trans HG2.out hg)
  clear hg HT2 HG2
  go_wp2_with fail
  refine (longest_at HT3.out 0 4).mono ?_
  rintro e w4 ⟨m, rfl, hm, _, hg⟩
  obtain rfl := Pg.longest_uniq hm aw_long
  have HG4 := Lib.hid (grown_trans HG3.out hg)
  clear hg HT3 HG3 hm
  go_wp2
  go_ret
  exact ⟨rfl, HG4.out⟩

theorem quiet_left {P : Program} {f : FuncId} {args : Array Value} {w : World} {n : Nat} {v : Value}
    (h : Calls P f args (w.drewN n) fun e w' => e = .returned v ∧ w.drewN n = w') : Calls P f args (w.drewN n) fun e w'' => e = .returned v ∧ ∃ m, w'' = w.drewN m :=
  h.mono fun _ _ ⟨he, hm⟩ => ⟨he, n, hm.symm⟩

set_option maxRecDepth 100000 in
set_option maxHeartbeats 1000000 in
theorem psame_nil0 (w : World) {p q cap : Nat} {R : Nat → Pg.Row} (h : TabAt w p q 0 cap R) :
    Calls Try.prog 49 #[.pointer none, .pointer (some ⟨p, 0, none⟩)] w fun e w' => e = .returned (.bool true) ∧ w.grownBy w' none := by
  have H := Lib.hid h
  clear h
  go_enter Try.func49, Try.ntmps49
  go_wp2_with fail
  refine (plen_nil w).mono ?_
  rintro e w' ⟨rfl, rfl⟩
  go_wp2_with fail
  refine (plen_at H.out).mono ?_
  rintro e w' ⟨rfl, rfl⟩
  go_wp2_with fail
  go_quiet ((go_at_call 47; exact quiet_left (plen_nil _)))
  go_wp2
  go_ret
  exact ⟨rfl, grown_drew (grown_refl _ _) _⟩
set_option maxRecDepth 100000 in
set_option maxHeartbeats 1000000 in
theorem psame_nil1 (w : World) {p q cap : Nat} {R : Nat → Pg.Row} (h : TabAt w p q 1 cap R) :
    Calls Try.prog 49 #[.pointer (some ⟨p, 0, none⟩), .pointer none] w fun e w' => e = .returned (.bool false) ∧ w.grownBy w' none := by
  have H := Lib.hid h
  clear h
  go_enter Try.func49, Try.ntmps49
  go_wp2_with fail
  refine (plen_at H.out).mono ?_
  rintro e w' ⟨rfl, rfl⟩
  go_wp2_with fail
  refine (plen_nil w).mono ?_
  rintro e w' ⟨rfl, rfl⟩
  go_wp2
  go_ret
  exact ⟨rfl, grown_refl _ _⟩

set_option maxRecDepth 100000 in
set_option maxHeartbeats 4000000 in
theorem pnil_walk (n : Int) (w : World) :
    Calls Try.prog 8 #[.int .i64 n] w fun e w' => e = .returned (.bool true) ∧ w.grownBy w' none := by
  have P1 := fun W => pnew_at n W
  have P2 := fun W => rnew_at n W
  generalize clamp256 n = N at P1 P2
  have P1 := Lib.hid P1
  have P2 := Lib.hid P2
  go_enter Try.func8, Try.ntmps8
  go_wp2_with fail
  refine (map_nil w 0 n 1 0 0 1).mono ?_
  rintro e w1 ⟨rfl, hg⟩
  have G1 := Lib.hid hg
  clear hg
  go_wp2_with fail
  refine (head_none (.pointer none) n w1 (prow_nil n w1)).mono ?_
  rintro e w2 ⟨rfl, hg⟩
  have G2 := Lib.hid (grown_trans G1.out hg)
  clear hg G1
  go_wp2_with fail
  refine (P1.out w2).mono ?_
  rintro e w3 ⟨p, q, cap, rfl, ht, _, _, hg⟩
  have HT := Lib.hid ht
  have G3 := Lib.hid (grown_trans G2.out hg)
  clear hg G2 ht
  go_wp2_with fail
  refine (plen_at HT.out).mono ?_
  rintro e w' ⟨rfl, rfl⟩
  go_wp2_with fail
  refine (P2.out w3).mono ?_
  rintro e w4 ⟨b, bc, rfl, _, _, _, hg⟩
  have G4 := Lib.hid (grown_trans G3.out hg)
  clear hg G3 P1 P2 HT
  go_wp2_with fail
  refine (plen_nil w4).mono ?_
  rintro e w' ⟨rfl, rfl⟩
  go_wp2_with fail
  refine (prow_nil n w4).mono ?_
  rintro e w5 ⟨rfl, hg⟩
  simp only [rv, Pg.zero]
  have G5 := Lib.hid (grown_trans G4.out hg)
  clear hg G4
  go_wp2_with fail
  refine (unmap_nil n w5).mono ?_
  rintro e w' ⟨rfl, rfl⟩
  go_wp2_with fail
  refine (count_nil 0 n 0 w5).mono ?_
  rintro e w' ⟨rfl, rfl⟩
  go_wp2_with fail
  refine (longest_nil 0 n w5).mono ?_
  rintro e w' ⟨rfl, rfl⟩
  go_wp2_with fail
  refine (pcopy_nil w5).mono ?_
  rintro e w' ⟨rfl, rfl⟩
  go_wp2_with fail
  refine (pnew_mid 0 w5 (by omega)).mono ?_
  rintro e w6 ⟨p6, q6, cap6, rfl, ht, _, _, hg⟩
  have HT := Lib.hid ht
  have G6 := Lib.hid (grown_trans G5.out hg)
  clear hg G5 ht
  go_wp2_with fail
  refine (psame_nil0 w6 HT.out).mono ?_
  rintro e w7 ⟨rfl, hg⟩
  have G7 := Lib.hid (grown_trans G6.out hg)
  clear hg G6 HT
  go_wp2_with fail
  refine (pnew_mid 1 w7 (by omega)).mono ?_
  rintro e w8 ⟨p8, q8, cap8, rfl, ht, _, _, hg⟩
  have HT := Lib.hid ht
  have G8 := Lib.hid (grown_trans G7.out hg)
  clear hg G7 ht
  go_wp2_with fail
  refine (psame_nil1 w8 HT.out).mono ?_
  rintro e w9 ⟨rfl, hg⟩
  have G9 := Lib.hid (grown_trans G8.out hg)
  clear hg G8 HT
  go_wp2_with fail
  refine (pawake_at w9).mono ?_
  rintro e w10 ⟨rfl, hg⟩
  have G10 := Lib.hid (grown_trans G9.out hg)
  clear hg G9
  go_wp2
  go_ret
  exact ⟨rfl, G10.out⟩
end Go.Proofs.Ytbpganholopjfaa
