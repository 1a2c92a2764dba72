/- The walks of what mixes, of package link and of its reference. -/
import Derived.Test.YticoojcmlkdeiaaLA
namespace Go.Proofs.Yticoojcmlkdeiaa
open Go.RowKit

theorem mix_step1 (x : Nat) (hx : x < 18446744073709551616) : IntKind.u64.wrap (bits .xor .u64 (x : Int) ((x : Int) / 1073741824) * 13787848793156543929) = (Li.m1 x : Nat) := mixStep_u64 x 1073741824 13787848793156543929 hx
theorem mix_step2 (x : Nat) (hx : x < 18446744073709551616) : IntKind.u64.wrap (bits .xor .u64 (x : Int) ((x : Int) / 134217728) * 10723151780598845931) = (Li.m2 x : Nat) := mixStep_u64 x 134217728 10723151780598845931 hx
theorem mix_step3 (x : Nat) (hx : x < 18446744073709551616) : bits .xor .u64 (x : Int) ((x : Int) / 2147483648) = (Li.m3 x : Nat) := xorShift_u64 x 2147483648 hx
theorem wrap_div (x d : Nat) (hx : x < 18446744073709551616) : IntKind.u64.wrap ((x : Int) / (d : Int)) = (x : Int) / (d : Int) := by
  have h : x / d ≤ x := Nat.div_le_self _ _
  have e : (x : Int) / (d : Int) = ((x / d : Nat) : Int) := by simp
  rw [e]
  clear e
  generalize x / d = q at *
  rw [IntKind.wrap_u64]
  omega

set_option maxRecDepth 100000 in
set_option maxHeartbeats 1000000 in
theorem mix_at (x : Nat) (hx : x < 18446744073709551616) (w : World) :
    Calls Try.prog 62 #[.int .u64 x] w fun e w' => e = .returned (.int .u64 (Li.mix x : Nat)) ∧ w = w' := by
  have e1 := mix_step1 x hx
  have e2 := mix_step2 (Li.m1 x) (Li.m1_lt x)
  have e3 := mix_step3 (Li.m2 (Li.m1 x)) (Li.m2_lt _)
  have hm : Li.m3 (Li.m2 (Li.m1 x)) = Li.mix x := rfl
  rw [hm] at e3
  clear hx hm
  generalize Li.mix x = z at *
  generalize Li.m2 (Li.m1 x) = y2 at *
  generalize Li.m1 x = y1 at *
  go_enter Try.func62, Try.ntmps62
  go_wp2
  go_ret
  exact ⟨rfl, rfl⟩
set_option maxRecDepth 100000 in
set_option maxHeartbeats 1000000 in
theorem rmix_at (x : Nat) (hx : x < 18446744073709551616) (w : World) :
    Calls Try.prog 71 #[.int .u64 x] w fun e w' => e = .returned (.int .u64 (Li.mix x : Nat)) ∧ w = w' := by
  have e1 := mix_step1 x hx
  have e2 := mix_step2 (Li.m1 x) (Li.m1_lt x)
  have e3 := mix_step3 (Li.m2 (Li.m1 x)) (Li.m2_lt _)
  have hm : Li.m3 (Li.m2 (Li.m1 x)) = Li.mix x := rfl
  have d1 : IntKind.u64.wrap ((x : Int) / 1073741824) = (x : Int) / 1073741824 := wrap_div x 1073741824 hx
  have d2 : IntKind.u64.wrap ((Li.m1 x : Int) / 134217728) = (Li.m1 x : Int) / 134217728 := wrap_div _ 134217728 (Li.m1_lt x)
  have d3 : IntKind.u64.wrap ((Li.m2 (Li.m1 x) : Int) / 2147483648) = (Li.m2 (Li.m1 x) : Int) / 2147483648 := wrap_div _ 2147483648 (Li.m2_lt _)
  rw [hm] at e3
  clear hx hm
  generalize Li.mix x = z at *
  generalize Li.m2 (Li.m1 x) = y2 at *
  generalize Li.m1 x = y1 at *
  go_enter Try.func71, Try.ntmps71
  go_wp2
  go_ret
  exact ⟨rfl, rfl⟩

theorem wrap_sum (k : Nat) (a : Int) : IntKind.u64.wrap ((k : Int) + IntKind.u64.wrap a) = (Li.sum k a : Nat) := by
  rw [IntKind.wrap_u64, IntKind.wrap_u64, Li.sum_int]; omega
theorem wrap_u (a : Int) : IntKind.u64.wrap a = (Li.u a : Nat) := by rw [IntKind.wrap_u64, Li.u_int]

/-- The key of a seed. -/
def keyOf (s : Nat) : Nat := Li.mix (Li.sum s 11400714819323198485)
theorem keyOf_lt (s : Nat) : keyOf s < 18446744073709551616 := Li.mix_lt _
theorem wrap_seed (s : Nat) : IntKind.u64.wrap ((s : Int) + 11400714819323198485) = (Li.sum s 11400714819323198485 : Nat) := by
  rw [IntKind.wrap_u64, Li.sum_int]

set_option maxRecDepth 100000 in
set_option maxHeartbeats 1000000 in
theorem new_at (s : Nat) (w : World) :
    Calls Try.prog 24 #[.int .u64 s] w fun e w' => e = .returned (.agg #[.int .u64 (keyOf s : Nat)]) ∧ w.grownBy w' none := by
  have e1 := wrap_seed s
  have HM : Hid (∀ w, Calls Try.prog 62 #[.int .u64 (Li.sum s 11400714819323198485 : Nat)] w fun e w' => e = .returned (.int .u64 (keyOf s : Nat)) ∧ w = w') := fun w => mix_at _ (Li.sum_lt _ _) w
  generalize keyOf s = key at *
  generalize Li.sum s 11400714819323198485 = y at *
  go_enter Try.func24, Try.ntmps24
  go_wp2_with (go_at_call 62; refine (HM.out _).mono ?_; rintro e w' ⟨rfl, rfl⟩)
  exact bodyPost_ret (v := .agg #[.int .u64 key]) (by simp [results, Try.results24, go_sem]) rfl ⟨rfl, grown_alloc _ _ _⟩
set_option maxRecDepth 100000 in
set_option maxHeartbeats 1000000 in
theorem mask_at (k : Nat) (a : Int) (w : World) :
    Calls Try.prog 100 #[.agg #[.int .u64 k], .int .i64 a] w fun e w' => e = .returned (.int .u64 (Li.mix (Li.sum k a) : Nat)) ∧ w.grownBy w' none := by
  have e1 := wrap_sum k a
  have HM : Hid (∀ w, Calls Try.prog 62 #[.int .u64 (Li.sum k a : Nat)] w fun e w' => e = .returned (.int .u64 (Li.mix (Li.sum k a) : Nat)) ∧ w = w') := fun w => mix_at _ (Li.sum_lt _ _) w
  generalize Li.mix (Li.sum k a) = z at *
  generalize Li.sum k a = y at *
  go_enter Try.func100, Try.ntmps100
  go_wp2_with (go_at_call 62; refine (HM.out _).mono ?_; rintro e w' ⟨rfl, rfl⟩)
  go_ret
  exact ⟨rfl, grown_alloc _ _ _⟩
set_option maxRecDepth 100000 in
set_option maxHeartbeats 1000000 in
theorem canary_at (k : Nat) (hk : k < 18446744073709551616) (a : Int) (w : World) :
    Calls Try.prog 47 #[.agg #[.int .u64 k], .int .i64 a] w fun e w' => e = .returned (.int .u64 (Li.mix (k ^^^ Li.u a) : Nat)) ∧ w.grownBy w' none := by
  have e1 := wrap_u a
  have e2 := u64_xor_nat k (Li.u a) hk (Li.u_lt a)
  have HM : Hid (∀ w, Calls Try.prog 62 #[.int .u64 (k ^^^ Li.u a : Nat)] w fun e w' => e = .returned (.int .u64 (Li.mix (k ^^^ Li.u a) : Nat)) ∧ w = w') := fun w => mix_at _ (Li.xor_lt hk (Li.u_lt a)) w
  clear hk
  generalize Li.mix (k ^^^ Li.u a) = z at *
  generalize k ^^^ Li.u a = y at *
  generalize Li.u a = y0 at *
  go_enter Try.func47, Try.ntmps47
  go_wp2_with (go_at_call 62; refine (HM.out _).mono ?_; rintro e w' ⟨rfl, rfl⟩)
  go_ret
  exact ⟨rfl, grown_alloc _ _ _⟩
end Go.Proofs.Yticoojcmlkdeiaa
