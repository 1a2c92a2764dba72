/- The walk of the law LinkApart. -/
import Derived.Test.YtcggeihnccmagaaLE
namespace Go.Proofs.Ytcggeihnccmagaa
open Go.RowKit

theorem u8_and15 (b : Nat) (hb : b < 256) : bits .and .u8 (b : Int) 15 = (b % 16 : Nat) := by
  have t := u8_and_nat b 15 hb (by decide)
  rw [show (15 : Nat) = 2 ^ 4 - 1 from rfl, Nat.and_two_pow_sub_one_eq_mod] at t
  exact t

set_option maxRecDepth 100000 in
set_option maxHeartbeats 4000000 in
theorem linkApart_core (k j : Nat) (a x y b a' x' y' : Int) (w : World) (hj : j < 16) (q1 : bits .and .i64 a 1099511627775 = a') (q2 : bits .and .i64 x 2147483647 = x') (q3 : bits .and .i64 y 2147483647 = y') (q4 : bits .and .u8 b 15 = (j : Int)) (ha : ¬ a' < 0) (hx : 0 ≤ x' ∧ x' < 2147483648) (hy : 0 ≤ y' ∧ y' < 2147483648) :
    Calls Try.prog 11 #[.int .u64 k, .int .i64 a, .int .i64 x, .int .i64 y, .int .u8 b] w fun e w' => e = .returned (.bool true) ∧ w.grownBy w' none := by
  obtain ⟨p, hp⟩ : ∃ p : Nat, x' + 1 = p := ⟨(x' + 1).toNat, by omega⟩
  obtain ⟨q, hq⟩ : ∃ q : Nat, y' + 1 = q := ⟨(y' + 1).toNat, by omega⟩
  have hpp : p < 4294967296 := by omega
  have HP := Lib.hid (fun w => put_in k p a' x' w ha (by omega) (by omega) hp)
  have HQ := Lib.hid (fun w => put_in k q a' y' w ha (by omega) (by omega) hq)
  have hlp : Li.lk k a' p < 18446744073709551616 := Li.lk_lt k a' (by omega)
  have h2j : 2 ^ (48 + j) < 18446744073709551616 := Nat.pow_lt_pow_right (by decide) (by omega : 48 + j < 64)
  have e3 := u64_xor_nat (Li.lk k a' p) (2 ^ (48 + j)) hlp h2j
  have HG := Lib.hid (fun w => get_none k (Li.lk k a' p ^^^ 2 ^ (48 + j)) a' w ha (Li.xor_lt hlp h2j) (by rw [Li.bare_xor, Li.bare_lk]; exact Li.turned_big p (48 + j) hpp (by omega)))
  have heq : (((Li.lk k a' p : Nat) : Int) == (Li.lk k a' q : Nat)) = (x' == y') := by
    by_cases h : x' = y'
    · have : p = q := by omega
      subst this h
      simp
    · have h1 : p ≠ q := by omega
      have h2 : Li.lk k a' p ≠ Li.lk k a' q := fun e => h1 (Li.lk_inj e)
      have h3 : ((Li.lk k a' p : Nat) : Int) ≠ (Li.lk k a' q : Nat) := by omega
      rw [beq_eq_false_iff_ne.2 h, beq_eq_false_iff_ne.2 h3]
  obtain ⟨t, ht⟩ : ∃ t : Int, 48 + (j : Int) = t := ⟨_, rfl⟩
  have e4 : IntKind.u8.wrap (48 + (j : Int)) = t := by rw [IntKind.wrap_u8]; omega
  have t1 : 48 ≤ t := by omega
  have t2 : t < 64 := by omega
  have e6 : IntKind.u64.wrap (2 ^ t.toNat) = (2 ^ (48 + j) : Nat) := by
    have h : t.toNat = 48 + j := by omega
    rw [h]
    have h2 : (2 : Int) ^ (48 + j) = ((2 ^ (48 + j) : Nat) : Int) := by simp
    rw [h2]
    generalize 2 ^ (48 + j) = r at *
    rw [IntKind.wrap_u64]
    omega
  clear hpp hlp h2j hp hq hx hy hj ht
  generalize Li.lk k a' p ^^^ 2 ^ (48 + j) = z at *
  generalize 2 ^ (48 + j) = r at *
  generalize (j : Int) = ji at *
  generalize Li.lk k a' p = lp at *
  generalize Li.lk k a' q = lq at *
  go_enter Try.func11, Try.ntmps11
  go_upto_region 2 with (fail)
  have c0 : (w.alloc (.cells #[.int .u64 (k : Nat)] 34)).cell? ⟨w.heap.size, 0, none⟩ = some (.int .u64 (k : Nat)) := by rw [cell_alloc_new]; rfl
  have HG2 := Lib.hid (grown_alloc w (.cells #[.int .u64 (k : Nat)] 34) none)
  generalize w.alloc (.cells #[.int .u64 (k : Nat)] 34) = w2 at *
  generalize w.heap.size = ob at *
  go_upto_region 3 with (fail)
  have hgr := grown_refl w2 none
  go_region_held3 (fun w' => w'.cell? ⟨ob, 0, none⟩ = some (.int .u64 (k : Nat)))
    (first | exact c0 | exact y0 | exact z0)
    (first
    | (go_at_call 26; refine (HP.out _).mono ?_; rintro e w3 ⟨rfl, m⟩; have m3 := grown_trans (grown_drew1 hgr) m; have y0 := m3.cell c0 (by simp); clear m)
    | (go_at_call 31; refine (HG.out _).mono ?_; rintro e w4 ⟨rfl, m⟩; have m4 := grown_trans m3 m; have z0 := m4.cell c0 (by simp); clear m))
  have HG4 := Lib.hid (grown_trans HG2.out m4)
  clear m3 m4 y0 c0 hgr HG HG2 e3 e4 e6 q4 t1 t2
  obtain ⟨w5, rfl⟩ : ∃ w5 : World, w5 = w4 := ⟨_, rfl⟩
  go_upto_region 4 with (fail)
  have hgr := grown_refl w5 none
  go_region_held3 (fun w' => w'.cell? ⟨ob, 0, none⟩ = some (.int .u64 (k : Nat)))
    (first | exact z0 | exact y6 | exact y7 | exact y8)
    (first
    | (go_at_call 26; with_reducible refine (HP.out _).mono ?_; rintro e w6 ⟨rfl, m⟩; have m6 := grown_trans (grown_drew1 hgr) m; have y6 := m6.cell z0 (by simp); clear m)
    | (go_at_call 26; with_reducible refine (HQ.out _).mono ?_; rintro e w7 ⟨rfl, m⟩; have m7 := grown_trans m6 m; have y7 := m7.cell z0 (by simp); clear m)
    | (go_at_call 30; refine (lawake_at _).mono ?_; rintro e w8 ⟨rfl, m⟩; have m8 := grown_trans m7 m; have y8 := m8.cell z0 (by simp); clear m))
  have HE := Lib.hid (grown_trans HG4.out m8)
  clear m6 m7 m8 y6 y7 y8 z0 hgr HP HQ HG4
  go_wp2
  go_ret
  exact ⟨rfl, HE.out⟩
theorem linkApart_walk (k : Nat) (a x y b : Int) (w : World) (hb0 : 0 ≤ b) (hb1 : b ≤ 255) :
    Calls Try.prog 11 #[.int .u64 k, .int .i64 a, .int .i64 x, .int .i64 y, .int .u8 b] w fun e w' => e = .returned (.bool true) ∧ w.grownBy w' none := by
  obtain ⟨c, rfl⟩ : ∃ c : Nat, b = c := ⟨b.toNat, by omega⟩
  exact linkApart_core k (c % 16) a x y c _ _ _ w (by omega) (i64_and40 a) (i64_and31 x) (i64_and31 y) (u8_and15 c (by omega)) (by omega) (by omega) (by omega)
end Go.Proofs.Ytcggeihnccmagaa
