/- The walks of links: Put, Get, the reference's Put, the law's awake. -/
import Derived.Test.YticoojcmlkdeiaaLB
import Derived.Deep.RegionHeld3
import Derived.Deep.DeepCutAuto
namespace Go.Proofs.Yticoojcmlkdeiaa
open Go.RowKit

theorem may_no {a n : Int} (h : Li.may a n = false) : a < 0 ∨ n < -1 ∨ 2147483647 < n := by
  by_cases h1 : a < 0 ∨ n < -1 ∨ 2147483647 < n
  · exact h1
  · have := (Li.may_iff a n).2 (by omega)
    rw [h] at this
    cases this
theorem put_no {k : Nat} {a n : Int} (h : Li.may a n = false) : Li.put k a n = 0 := by unfold Li.put; rw [if_neg (by rw [h]; simp)]
theorem put_yes {k : Nat} {a : Int} (p : Nat) (h : Li.may a ((p : Int) - 1) = true) : Li.put k a ((p : Int) - 1) = Li.lk k a p := by
  unfold Li.put
  rw [if_pos h]
  congr 1
  omega

set_option maxRecDepth 100000 in
set_option maxHeartbeats 1000000 in
theorem put_out (k : Nat) (a n : Int) (w : World) (h : a < 0 ∨ n < -1 ∨ 2147483647 < n) :
    Calls Try.prog 87 #[.agg #[.int .u64 k], .int .i64 a, .int .i64 n] w fun e w' => e = .returned (.int .u64 0) ∧ w.grownBy w' none := by
  by_cases h0 : a < 0
  · clear h
    go_enter Try.func87, Try.ntmps87
    go_wp2
    go_ret
    exact ⟨rfl, grown_alloc _ _ _⟩
  · by_cases h1 : n < -1
    · clear h
      go_enter Try.func87, Try.ntmps87
      go_wp2
      go_ret
      exact ⟨rfl, grown_alloc _ _ _⟩
    · have h2 : n > 2147483647 := by omega
      clear h
      go_enter Try.func87, Try.ntmps87
      go_wp2
      go_ret
      exact ⟨rfl, grown_alloc _ _ _⟩
set_option maxRecDepth 100000 in
set_option maxHeartbeats 2000000 in
theorem put_in (k p : Nat) (a n : Int) (w : World) (h0 : ¬ a < 0) (h1 : ¬ n < -1) (h2 : ¬ n > 2147483647) (hp : n + 1 = p) :
    Calls Try.prog 87 #[.agg #[.int .u64 k], .int .i64 a, .int .i64 n] w fun e w' => e = .returned (.int .u64 (Li.lk k a p : Nat)) ∧ w.grownBy w' none := by
  have hpl : p < 18446744073709551616 := by omega
  have e1 : IntKind.u64.wrap (n + 1) = (p : Nat) := by rw [hp, IntKind.wrap_u64]; omega
  have e2 : bits .xor .u64 6510516211317473280 (p : Int) = (Li.mark ^^^ p : Nat) := u64_xor_nat Li.mark p (by decide) hpl
  have e3 : bits .xor .u64 ((Li.mark ^^^ p : Nat) : Int) (Li.mix (Li.sum k a) : Nat) = (Li.lk k a p : Nat) := u64_xor_nat _ _ (Li.xor_lt (by decide) hpl) (Li.mix_lt _)
  have HM := Lib.hid (fun w => mask_at k a w)
  clear hp hpl
  generalize Li.lk k a p = r at *
  generalize Li.mix (Li.sum k a) = z at *
  generalize Li.mark ^^^ p = y at *
  go_enter Try.func87, Try.ntmps87
  go_wp2_with (go_at_call 100; refine (HM.out _).mono ?_; rintro e w' ⟨rfl, hg⟩)
  go_ret
  exact ⟨rfl, grown_trans (grown_alloc _ _ _) hg⟩
/-- Put. -/
theorem put_at (k : Nat) (a n : Int) (w : World) :
    Calls Try.prog 87 #[.agg #[.int .u64 k], .int .i64 a, .int .i64 n] w fun e w' => e = .returned (.int .u64 (Li.put k a n : Nat)) ∧ w.grownBy w' none := by
  by_cases h : Li.may a n = true
  · obtain ⟨h0, h1, h2⟩ := (Li.may_iff a n).1 h
    unfold Li.put
    rw [if_pos h]
    exact put_in k _ a n w (by omega) (by omega) (by omega) (by omega)
  · have h : Li.may a n = false := by simpa using h
    rw [put_no h]
    exact put_out k a n w (may_no h)

set_option maxRecDepth 100000 in
set_option maxHeartbeats 1000000 in
theorem rput_out (k : Nat) (a n : Int) (w : World) (h : a < 0 ∨ n < -1 ∨ 2147483647 < n) :
    Calls Try.prog 98 #[.int .u64 k, .int .i64 a, .int .i64 n] w fun e w' => e = .returned (.int .u64 0) ∧ w = w' := by
  by_cases h0 : a < 0
  · clear h
    go_enter Try.func98, Try.ntmps98
    go_wp2
    go_ret
    exact ⟨rfl, rfl⟩
  · by_cases h1 : n < -1
    · clear h
      go_enter Try.func98, Try.ntmps98
      go_wp2
      go_ret
      exact ⟨rfl, rfl⟩
    · have h2 : n > 2147483647 := by omega
      clear h
      go_enter Try.func98, Try.ntmps98
      go_wp2
      go_ret
      exact ⟨rfl, rfl⟩
set_option maxRecDepth 100000 in
set_option maxHeartbeats 2000000 in
theorem rput_in (k p : Nat) (a n : Int) (w : World) (h0 : ¬ a < 0) (h1 : ¬ n < -1) (h2 : ¬ n > 2147483647) (hp : n + 1 = p) :
    Calls Try.prog 98 #[.int .u64 k, .int .i64 a, .int .i64 n] w fun e w' => e = .returned (.int .u64 (Li.lk k a p : Nat)) ∧ w = w' := by
  have hpl : p < 281474976710656 := by omega
  have e1 : IntKind.u64.wrap (n + 1) = (p : Nat) := by rw [hp, IntKind.wrap_u64]; omega
  have e2 : IntKind.u64.wrap (6510516211317473280 + (p : Int)) = (Li.mark ^^^ p : Nat) := by
    rw [IntKind.wrap_u64, ← Li.mark_add p hpl]; unfold Li.mark; omega
  have e3 : bits .xor .u64 ((Li.mark ^^^ p : Nat) : Int) (Li.mix (Li.sum k a) : Nat) = (Li.lk k a p : Nat) := u64_xor_nat _ _ (Li.xor_lt (by decide) (by omega)) (Li.mix_lt _)
  have e4 := wrap_sum k a
  have HM : Hid (∀ w, Calls Try.prog 71 #[.int .u64 (Li.sum k a : Nat)] w fun e w' => e = .returned (.int .u64 (Li.mix (Li.sum k a) : Nat)) ∧ w = w') := fun w => rmix_at _ (Li.sum_lt _ _) w
  clear hp hpl
  generalize Li.lk k a p = r at *
  generalize Li.mix (Li.sum k a) = z at *
  generalize Li.sum k a = s at *
  generalize Li.mark ^^^ p = y at *
  go_enter Try.func98, Try.ntmps98
  go_wp2_with (go_at_call 71; refine (HM.out _).mono ?_; rintro e w' ⟨rfl, rfl⟩)
  go_ret
  exact ⟨rfl, rfl⟩
theorem rput_at (k : Nat) (a n : Int) (w : World) :
    Calls Try.prog 98 #[.int .u64 k, .int .i64 a, .int .i64 n] w fun e w' => e = .returned (.int .u64 (Li.put k a n : Nat)) ∧ w = w' := by
  by_cases h : Li.may a n = true
  · obtain ⟨h0, h1, h2⟩ := (Li.may_iff a n).1 h
    unfold Li.put
    rw [if_pos h]
    exact rput_in k _ a n w (by omega) (by omega) (by omega) (by omega)
  · have h : Li.may a n = false := by simpa using h
    rw [put_no h]
    exact rput_out k a n w (may_no h)

set_option maxRecDepth 100000 in
set_option maxHeartbeats 1000000 in
theorem get_neg (k W : Nat) (a : Int) (w : World) (h : a < 0) :
    Calls Try.prog 80 #[.agg #[.int .u64 k], .int .i64 a, .int .u64 W] w fun e w' => e = .returned (.tuple #[.int .i64 0, .bool false]) ∧ w.grownBy w' none := by
  go_enter Try.func80, Try.ntmps80
  go_wp2
  go_ret2
  exact ⟨rfl, grown_alloc _ _ _⟩
theorem bare_int (k W : Nat) (a : Int) (hW : W < 18446744073709551616) : bits .xor .u64 (W : Int) (Li.mix (Li.sum k a) : Nat) = (W ^^^ Li.mix (Li.sum k a) : Nat) ∧ bits .xor .u64 ((W ^^^ Li.mix (Li.sum k a) : Nat) : Int) 6510516211317473280 = (Li.bare k a W : Nat) :=
  ⟨u64_xor_nat _ _ hW (Li.mix_lt _), u64_xor_nat _ Li.mark (Li.xor_lt hW (Li.mix_lt _)) (by decide)⟩
set_option maxRecDepth 100000 in
set_option maxHeartbeats 2000000 in
theorem get_none (k W : Nat) (a : Int) (w : World) (h : ¬ a < 0) (hW : W < 18446744073709551616) (hb : 2147483648 < Li.bare k a W) :
    Calls Try.prog 80 #[.agg #[.int .u64 k], .int .i64 a, .int .u64 W] w fun e w' => e = .returned (.tuple #[.int .i64 0, .bool false]) ∧ w.grownBy w' none := by
  obtain ⟨e1, e2⟩ := bare_int k W a hW
  have HM := Lib.hid (fun w => mask_at k a w)
  have hb' : (Li.bare k a W : Int) > 2147483648 := by omega
  clear hb hW
  generalize Li.bare k a W = b at *
  generalize Li.mix (Li.sum k a) = z at *
  generalize W ^^^ z = y at *
  go_enter Try.func80, Try.ntmps80
  go_wp2_with (go_at_call 100; refine (HM.out _).mono ?_; rintro e w' ⟨rfl, hg⟩)
  go_ret2
  exact ⟨rfl, grown_trans (grown_alloc _ _ _) hg⟩
set_option maxRecDepth 100000 in
set_option maxHeartbeats 2000000 in
theorem get_some (k W : Nat) (a : Int) (w : World) (h : ¬ a < 0) (hW : W < 18446744073709551616) (hb : Li.bare k a W ≤ 2147483648) :
    Calls Try.prog 80 #[.agg #[.int .u64 k], .int .i64 a, .int .u64 W] w fun e w' => e = .returned (.tuple #[.int .i64 (Li.bare k a W - 1), .bool true]) ∧ w.grownBy w' none := by
  obtain ⟨e1, e2⟩ := bare_int k W a hW
  have HM := Lib.hid (fun w => mask_at k a w)
  have hb' : (Li.bare k a W : Int) ≤ 2147483648 := by omega
  have hb0 : 0 ≤ (Li.bare k a W : Int) := by omega
  clear hb hW
  generalize (Li.bare k a W : Int) = b at *
  generalize Li.mix (Li.sum k a) = z at *
  generalize W ^^^ z = y at *
  go_enter Try.func80, Try.ntmps80
  go_wp2_with (go_at_call 100; refine (HM.out _).mono ?_; rintro e w' ⟨rfl, hg⟩)
  go_ret2
  exact ⟨rfl, grown_trans (grown_alloc _ _ _) hg⟩

theorem key0 : keyOf 0 = 16294208416658607535 := by decide +kernel
end Go.Proofs.Yticoojcmlkdeiaa
