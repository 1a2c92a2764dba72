/- The walk of the law LinkGet. -/
import Derived.Test.YtcggeihnccmagaaLD
import Derived.Laws.BitsLemmas
namespace Go.Proofs.Ytcggeihnccmagaa
open Go.RowKit

theorem i64_and31 (n : Int) : bits .and .i64 n 2147483647 = n % 2147483648 := by
  have h127 : (BitVec.ofInt 64 2147483647).toNat = 2 ^ 31 - 1 := by decide
  have key : (BitVec.ofInt 64 n &&& BitVec.ofInt 64 2147483647).toNat = (n % ((2 ^ 64 : Nat) : Int)).toNat % 2 ^ 31 := by
    rw [BitVec.toNat_and, BitVec.toNat_ofInt, h127, Nat.and_two_pow_sub_one_eq_mod]
  show IntKind.i64.wrap ((BitVec.ofInt 64 n &&& BitVec.ofInt 64 2147483647).toNat : Nat) = n % 2147483648
  rw [key, IntKind.wrap_i64]
  omega
theorem i64_and40 (n : Int) : bits .and .i64 n 1099511627775 = n % 1099511627776 := by
  have h127 : (BitVec.ofInt 64 1099511627775).toNat = 2 ^ 40 - 1 := by decide
  have key : (BitVec.ofInt 64 n &&& BitVec.ofInt 64 1099511627775).toNat = (n % ((2 ^ 64 : Nat) : Int)).toNat % 2 ^ 40 := by
    rw [BitVec.toNat_and, BitVec.toNat_ofInt, h127, Nat.and_two_pow_sub_one_eq_mod]
  show IntKind.i64.wrap ((BitVec.ofInt 64 n &&& BitVec.ofInt 64 1099511627775).toNat : Nat) = n % 1099511627776
  rw [key, IntKind.wrap_i64]
  omega

set_option maxRecDepth 100000 in
set_option maxHeartbeats 4000000 in
theorem linkGet_neg_true (k t : Nat) (a n : Int) (w : World) (ht : t < 18446744073709551616) (h : a < 0) :
    Calls Try.prog 10 #[.int .u64 k, .int .i64 a, .int .i64 n, .int .u64 t, .bool true] w fun e w' => e = .returned (.bool true) ∧ w.grownBy w' none := by
  have e1 := i64_and31 n
  have em : 0 ≤ n % 2147483648 ∧ n % 2147483648 < 2147483648 := by omega
  have HP := Lib.hid (fun w => put_at k a (n % 2147483648 - 1) w)
  have e3 := u64_xor_nat (Li.put k a (n % 2147483648 - 1)) t (Li.put_lt _ _ _) ht
  have HG := Lib.hid (fun w => get_neg k t a w h)
  clear ht
  generalize Li.put k a (n % 2147483648 - 1) ^^^ t = x at *
  generalize Li.put k a (n % 2147483648 - 1) = v at *
  go_enter Try.func10, Try.ntmps10
  go_upto_region 2 with (fail)
  have c0 : (w.alloc (.cells #[.int .u64 (k : Nat)] 34)).cell? ⟨w.heap.size, 0, none⟩ = some (.int .u64 (k : Nat)) := by rw [cell_alloc_new]; rfl
  have HG2 := Lib.hid (grown_alloc w (.cells #[.int .u64 (k : Nat)] 34) none)
  generalize w.alloc (.cells #[.int .u64 (k : Nat)] 34) = w2 at *
  generalize w.heap.size = ob at *
  go_wp2_with fail
  refine (HP.out _).mono ?_
  rintro e w3 ⟨rfl, m⟩
  have c3 := m.cell c0 (by simp)
  have HG3 := Lib.hid (grown_trans HG2.out m)
  clear m c0 HG2 HP
  go_wp2_with fail
  refine (HG.out _).mono ?_
  rintro e w4 ⟨rfl, m⟩
  have c4 := m.cell c3 (by simp)
  have HG4 := Lib.hid (grown_trans HG3.out m)
  clear m c3 HG3 HG
  have HGG := HG4
  clear HG4
  go_wp2_with fail
  refine (lawake_at _).mono ?_
  rintro e w9 ⟨rfl, m⟩
  have HG9 := Lib.hid (grown_trans HGG.out m)
  clear m HGG
  go_wp2
  go_ret
  exact ⟨rfl, HG9.out⟩

set_option maxRecDepth 100000 in
set_option maxHeartbeats 4000000 in
theorem linkGet_none_true (k t : Nat) (a n : Int) (w : World) (ht : t < 18446744073709551616) (h : ¬ a < 0) (hb : 2147483648 < Li.bare k a t) :
    Calls Try.prog 10 #[.int .u64 k, .int .i64 a, .int .i64 n, .int .u64 t, .bool true] w fun e w' => e = .returned (.bool true) ∧ w.grownBy w' none := by
  have e1 := i64_and31 n
  have em : 0 ≤ n % 2147483648 ∧ n % 2147483648 < 2147483648 := by omega
  have HP := Lib.hid (fun w => put_at k a (n % 2147483648 - 1) w)
  have e3 := u64_xor_nat (Li.put k a (n % 2147483648 - 1)) t (Li.put_lt _ _ _) ht
  have hx : t < 18446744073709551616 := ht
  have HG := Lib.hid (fun w => get_none k t a w h hx hb)
  have H0 := Lib.hid (fun w => put_in k 1 a 0 w h (by omega) (by omega) (by omega))
  have hq0 : ((Li.lk k a 1 : Nat) : Int) ≠ (t : Nat) := fun e => by
    have e' : Li.lk k a 1 = t := by omega
    rw [← e', Li.bare_lk] at hb
    omega
  have hq : (((Li.lk k a 1 : Nat) : Int) != (t : Nat)) = true := by simpa using hq0
  have h0 : decide (a < 0) = false := by simpa using h
  clear ht hb hx hq0
  generalize Li.put k a (n % 2147483648 - 1) ^^^ t = x at *
  generalize Li.put k a (n % 2147483648 - 1) = v at *
  generalize Li.lk k a 1 = q at *
  go_enter Try.func10, Try.ntmps10
  go_upto_region 2 with (fail)
  have c0 : (w.alloc (.cells #[.int .u64 (k : Nat)] 34)).cell? ⟨w.heap.size, 0, none⟩ = some (.int .u64 (k : Nat)) := by rw [cell_alloc_new]; rfl
  have HG2 := Lib.hid (grown_alloc w (.cells #[.int .u64 (k : Nat)] 34) none)
  generalize w.alloc (.cells #[.int .u64 (k : Nat)] 34) = w2 at *
  generalize w.heap.size = ob at *
  go_wp2_with fail
  refine (HP.out _).mono ?_
  rintro e w3 ⟨rfl, m⟩
  have c3 := m.cell c0 (by simp)
  have HG3 := Lib.hid (grown_trans HG2.out m)
  clear m c0 HG2 HP
  go_wp2_with fail
  refine (HG.out _).mono ?_
  rintro e w4 ⟨rfl, m⟩
  have c4 := m.cell c3 (by simp)
  have HG4 := Lib.hid (grown_trans HG3.out m)
  clear m c3 HG3 HG
  go_wp2_with fail
  refine (H0.out _).mono ?_
  rintro e w5 ⟨rfl, m⟩
  have HGG := Lib.hid (grown_trans HG4.out m)
  clear m HG4 H0
  go_wp2_with fail
  refine (lawake_at _).mono ?_
  rintro e w9 ⟨rfl, m⟩
  have HG9 := Lib.hid (grown_trans HGG.out m)
  clear m HGG
  go_wp2
  go_ret
  exact ⟨rfl, HG9.out⟩

set_option maxRecDepth 100000 in
set_option maxHeartbeats 4000000 in
theorem linkGet_some_true (k t : Nat) (a n : Int) (w : World) (ht : t < 18446744073709551616) (h : ¬ a < 0) (hb : Li.bare k a t ≤ 2147483648) :
    Calls Try.prog 10 #[.int .u64 k, .int .i64 a, .int .i64 n, .int .u64 t, .bool true] w fun e w' => e = .returned (.bool true) ∧ w.grownBy w' none := by
  have e1 := i64_and31 n
  have em : 0 ≤ n % 2147483648 ∧ n % 2147483648 < 2147483648 := by omega
  have HP := Lib.hid (fun w => put_at k a (n % 2147483648 - 1) w)
  have e3 := u64_xor_nat (Li.put k a (n % 2147483648 - 1)) t (Li.put_lt _ _ _) ht
  have hx : t < 18446744073709551616 := ht
  have HG := Lib.hid (fun w => get_some k t a w h hx hb)
  obtain ⟨m, hm⟩ : ∃ m : Int, (Li.bare k a t : Int) - 1 = m := ⟨_, rfl⟩
  have H0 := Lib.hid (fun w => rput_in k (Li.bare k a t) a m w h (by omega) (by omega) (by omega))
  rw [Li.lk_bare] at H0
  have m1 : m ≥ -1 := by omega
  have m2 : m ≤ 2147483647 := by omega
  rw [hm] at HG
  have h0 : a ≥ 0 := by omega
  clear ht hb hx hm h
  generalize Li.put k a (n % 2147483648 - 1) ^^^ t = x at *
  generalize Li.put k a (n % 2147483648 - 1) = v at *
  go_enter Try.func10, Try.ntmps10
  go_upto_region 2 with (fail)
  have c0 : (w.alloc (.cells #[.int .u64 (k : Nat)] 34)).cell? ⟨w.heap.size, 0, none⟩ = some (.int .u64 (k : Nat)) := by rw [cell_alloc_new]; rfl
  have HG2 := Lib.hid (grown_alloc w (.cells #[.int .u64 (k : Nat)] 34) none)
  generalize w.alloc (.cells #[.int .u64 (k : Nat)] 34) = w2 at *
  generalize w.heap.size = ob at *
  go_wp2_with fail
  refine (HP.out _).mono ?_
  rintro e w3 ⟨rfl, m⟩
  have c3 := m.cell c0 (by simp)
  have HG3 := Lib.hid (grown_trans HG2.out m)
  clear m c0 HG2 HP
  go_wp2_with fail
  refine (HG.out _).mono ?_
  rintro e w4 ⟨rfl, m⟩
  have c4 := m.cell c3 (by simp)
  have HG4 := Lib.hid (grown_trans HG3.out m)
  clear m c3 HG3 HG
  go_wp2_with fail
  refine (H0.out _).mono ?_
  rintro e w5 ⟨rfl, rfl⟩
  have HGG := HG4
  clear HG4 H0
  go_wp2_with fail
  refine (lawake_at _).mono ?_
  rintro e w9 ⟨rfl, m⟩
  have HG9 := Lib.hid (grown_trans HGG.out m)
  clear m HGG
  go_wp2
  go_ret
  exact ⟨rfl, HG9.out⟩

set_option maxRecDepth 100000 in
set_option maxHeartbeats 4000000 in
theorem linkGet_neg_false (k t : Nat) (a n : Int) (w : World) (ht : t < 18446744073709551616) (h : a < 0) (hT : ((t : Int) != 0) = false ∨ ((t : Int) != 0) = true) :
    Calls Try.prog 10 #[.int .u64 k, .int .i64 a, .int .i64 n, .int .u64 t, .bool false] w fun e w' => e = .returned (.bool true) ∧ w.grownBy w' none := by
  have e1 := i64_and31 n
  have em : 0 ≤ n % 2147483648 ∧ n % 2147483648 < 2147483648 := by omega
  have HP := Lib.hid (fun w => put_at k a (n % 2147483648 - 1) w)
  have e3 := u64_xor_nat (Li.put k a (n % 2147483648 - 1)) t (Li.put_lt _ _ _) ht
  have HG := Lib.hid (fun w => get_neg k (Li.put k a (n % 2147483648 - 1) ^^^ t) a w h)
  clear ht
  generalize Li.put k a (n % 2147483648 - 1) ^^^ t = x at *
  generalize Li.put k a (n % 2147483648 - 1) = v at *
  have H0 := Lib.hid h
  have h0 := H0.out
  rcases hT with hT | hT
  all_goals
    go_enter Try.func10, Try.ntmps10
    go_upto_region 2 with (fail)
    have c0 : (w.alloc (.cells #[.int .u64 (k : Nat)] 34)).cell? ⟨w.heap.size, 0, none⟩ = some (.int .u64 (k : Nat)) := by rw [cell_alloc_new]; rfl
    have HG2 := Lib.hid (grown_alloc w (.cells #[.int .u64 (k : Nat)] 34) none)
    generalize w.alloc (.cells #[.int .u64 (k : Nat)] 34) = w2 at *
    generalize w.heap.size = ob at *
    go_wp2_with fail
    refine (HP.out _).mono ?_
    rintro e w3 ⟨rfl, m⟩
    have c3 := m.cell c0 (by simp)
    have HG3 := Lib.hid (grown_trans HG2.out m)
    clear m c0 HG2 HP
    go_wp2_with fail
    refine (HG.out _).mono ?_
    rintro e w4 ⟨rfl, m⟩
    have c4 := m.cell c3 (by simp)
    have HG4 := Lib.hid (grown_trans HG3.out m)
    clear m c3 HG3 HG
    have HGG := HG4
    clear HG4
    go_wp2_with fail
    refine (lawake_at _).mono ?_
    rintro e w9 ⟨rfl, m⟩
    have HG9 := Lib.hid (grown_trans HGG.out m)
    clear m HGG
    go_wp2
    go_ret
    exact ⟨rfl, HG9.out⟩

set_option maxRecDepth 100000 in
set_option maxHeartbeats 4000000 in
theorem linkGet_none_false (k t : Nat) (a n : Int) (w : World) (ht : t < 18446744073709551616) (h : ¬ a < 0) (hb : 2147483648 < Li.bare k a (Li.put k a (n % 2147483648 - 1) ^^^ t)) :
    Calls Try.prog 10 #[.int .u64 k, .int .i64 a, .int .i64 n, .int .u64 t, .bool false] w fun e w' => e = .returned (.bool true) ∧ w.grownBy w' none := by
  have e1 := i64_and31 n
  have em : 0 ≤ n % 2147483648 ∧ n % 2147483648 < 2147483648 := by omega
  have HP := Lib.hid (fun w => put_at k a (n % 2147483648 - 1) w)
  have e3 := u64_xor_nat (Li.put k a (n % 2147483648 - 1)) t (Li.put_lt _ _ _) ht
  have hx : (Li.put k a (n % 2147483648 - 1) ^^^ t) < 18446744073709551616 := Li.xor_lt (Li.put_lt _ _ _) ht
  have HG := Lib.hid (fun w => get_none k (Li.put k a (n % 2147483648 - 1) ^^^ t) a w h hx hb)
  have H0 := Lib.hid (fun w => put_in k 1 a 0 w h (by omega) (by omega) (by omega))
  have hq0 : ((Li.lk k a 1 : Nat) : Int) ≠ ((Li.put k a (n % 2147483648 - 1) ^^^ t) : Nat) := fun e => by
    have e' : Li.lk k a 1 = (Li.put k a (n % 2147483648 - 1) ^^^ t) := by omega
    rw [← e', Li.bare_lk] at hb
    omega
  have hq : (((Li.lk k a 1 : Nat) : Int) != ((Li.put k a (n % 2147483648 - 1) ^^^ t) : Nat)) = true := by simpa using hq0
  have h0 : decide (a < 0) = false := by simpa using h
  have hT0 : (t : Int) ≠ 0 := fun e => by
    have e' : t = 0 := by omega
    subst e'
    rw [Nat.xor_zero] at hb
    have hm : Li.may a (n % 2147483648 - 1) = true := (Li.may_iff _ _).2 (by omega)
    unfold Li.put at hb
    rw [if_pos hm, Li.bare_lk] at hb
    omega
  have hT : ((t : Int) != 0) = true := by simpa using hT0
  clear hT0
  clear ht hb hx hq0
  generalize Li.put k a (n % 2147483648 - 1) ^^^ t = x at *
  generalize Li.put k a (n % 2147483648 - 1) = v at *
  generalize Li.lk k a 1 = q at *
  go_enter Try.func10, Try.ntmps10
  go_upto_region 2 with (fail)
  have c0 : (w.alloc (.cells #[.int .u64 (k : Nat)] 34)).cell? ⟨w.heap.size, 0, none⟩ = some (.int .u64 (k : Nat)) := by rw [cell_alloc_new]; rfl
  have HG2 := Lib.hid (grown_alloc w (.cells #[.int .u64 (k : Nat)] 34) none)
  generalize w.alloc (.cells #[.int .u64 (k : Nat)] 34) = w2 at *
  generalize w.heap.size = ob at *
  go_wp2_with fail
  refine (HP.out _).mono ?_
  rintro e w3 ⟨rfl, m⟩
  have c3 := m.cell c0 (by simp)
  have HG3 := Lib.hid (grown_trans HG2.out m)
  clear m c0 HG2 HP
  go_wp2_with fail
  refine (HG.out _).mono ?_
  rintro e w4 ⟨rfl, m⟩
  have c4 := m.cell c3 (by simp)
  have HG4 := Lib.hid (grown_trans HG3.out m)
  clear m c3 HG3 HG
  go_wp2_with fail
  refine (H0.out _).mono ?_
  rintro e w5 ⟨rfl, m⟩
  have HGG := Lib.hid (grown_trans HG4.out m)
  clear m HG4 H0
  go_wp2_with fail
  refine (lawake_at _).mono ?_
  rintro e w9 ⟨rfl, m⟩
  have HG9 := Lib.hid (grown_trans HGG.out m)
  clear m HGG
  go_wp2
  go_ret
  exact ⟨rfl, HG9.out⟩

set_option maxRecDepth 100000 in
set_option maxHeartbeats 4000000 in
theorem linkGet_some_false (k t : Nat) (a n : Int) (w : World) (ht : t < 18446744073709551616) (h : ¬ a < 0) (hb : Li.bare k a (Li.put k a (n % 2147483648 - 1) ^^^ t) ≤ 2147483648) :
    Calls Try.prog 10 #[.int .u64 k, .int .i64 a, .int .i64 n, .int .u64 t, .bool false] w fun e w' => e = .returned (.bool true) ∧ w.grownBy w' none := by
  have e1 := i64_and31 n
  have em : 0 ≤ n % 2147483648 ∧ n % 2147483648 < 2147483648 := by omega
  have HP := Lib.hid (fun w => put_at k a (n % 2147483648 - 1) w)
  have e3 := u64_xor_nat (Li.put k a (n % 2147483648 - 1)) t (Li.put_lt _ _ _) ht
  have hx : (Li.put k a (n % 2147483648 - 1) ^^^ t) < 18446744073709551616 := Li.xor_lt (Li.put_lt _ _ _) ht
  have HG := Lib.hid (fun w => get_some k (Li.put k a (n % 2147483648 - 1) ^^^ t) a w h hx hb)
  obtain ⟨m, hm⟩ : ∃ m : Int, (Li.bare k a (Li.put k a (n % 2147483648 - 1) ^^^ t) : Int) - 1 = m := ⟨_, rfl⟩
  have H0 := Lib.hid (fun w => rput_in k (Li.bare k a (Li.put k a (n % 2147483648 - 1) ^^^ t)) a m w h (by omega) (by omega) (by omega))
  rw [Li.lk_bare] at H0
  have m1 : m ≥ -1 := by omega
  have m2 : m ≤ 2147483647 := by omega
  rw [hm] at HG
  have h0 : a ≥ 0 := by omega
  clear ht hb hx hm h
  generalize Li.put k a (n % 2147483648 - 1) ^^^ t = x at *
  generalize Li.put k a (n % 2147483648 - 1) = v at *
  go_enter Try.func10, Try.ntmps10
  go_upto_region 2 with (fail)
  have c0 : (w.alloc (.cells #[.int .u64 (k : Nat)] 34)).cell? ⟨w.heap.size, 0, none⟩ = some (.int .u64 (k : Nat)) := by rw [cell_alloc_new]; rfl
  have HG2 := Lib.hid (grown_alloc w (.cells #[.int .u64 (k : Nat)] 34) none)
  generalize w.alloc (.cells #[.int .u64 (k : Nat)] 34) = w2 at *
  generalize w.heap.size = ob at *
  go_wp2_with fail
  refine (HP.out _).mono ?_
  rintro e w3 ⟨rfl, m⟩
  have c3 := m.cell c0 (by simp)
  have HG3 := Lib.hid (grown_trans HG2.out m)
  clear m c0 HG2 HP
  go_wp2_with fail
  refine (HG.out _).mono ?_
  rintro e w4 ⟨rfl, m⟩
  have c4 := m.cell c3 (by simp)
  have HG4 := Lib.hid (grown_trans HG3.out m)
  clear m c3 HG3 HG
  go_wp2_with fail
  refine (H0.out _).mono ?_
  rintro e w5 ⟨rfl, rfl⟩
  have HGG := HG4
  clear HG4 H0
  go_wp2_with fail
  refine (lawake_at _).mono ?_
  rintro e w9 ⟨rfl, m⟩
  have HG9 := Lib.hid (grown_trans HGG.out m)
  clear m HGG
  go_wp2
  go_ret
  exact ⟨rfl, HG9.out⟩

theorem linkGet_walk (k t : Nat) (a n : Int) (raw : Bool) (w : World) (ht : t < 18446744073709551616) :
    Calls Try.prog 10 #[.int .u64 k, .int .i64 a, .int .i64 n, .int .u64 t, .bool raw] w fun e w' => e = .returned (.bool true) ∧ w.grownBy w' none := by
  cases raw with
  | true =>
    by_cases h : a < 0
    · exact linkGet_neg_true k t a n w ht h
    · by_cases hb : 2147483648 < Li.bare k a t
      · exact linkGet_none_true k t a n w ht h hb
      · exact linkGet_some_true k t a n w ht h (by omega)
  | false =>
    by_cases h : a < 0
    · refine linkGet_neg_false k t a n w ht h ?_
      by_cases hT : (t : Int) = 0
      · exact .inl (by simpa using hT)
      · exact .inr (by simpa using hT)
    · by_cases hb : 2147483648 < Li.bare k a (Li.put k a (n % 2147483648 - 1) ^^^ t)
      · exact linkGet_none_false k t a n w ht h hb
      · exact linkGet_some_false k t a n w ht h (by omega)
end Go.Proofs.Ytcggeihnccmagaa
