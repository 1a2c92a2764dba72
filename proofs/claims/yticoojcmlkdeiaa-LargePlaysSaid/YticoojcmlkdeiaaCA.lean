/- The walks of package class and of its reference, and of the law's awake. -/
import Derived.Test.YticoojcmlkdeiaaGrown
namespace Go.Proofs.Yticoojcmlkdeiaa
open Go.RowKit

/-- The classes: a slot's bytes, slots in a page, a block's bytes. -/
def Cl (c s n r : Int) : Prop := (c = 0 ∧ s = 16 ∧ n = 16 ∧ r = 8) ∨ (c = 1 ∧ s = 32 ∧ n = 8 ∧ r = 24) ∨ (c = 2 ∧ s = 64 ∧ n = 4 ∧ r = 56) ∨ (c = 3 ∧ s = 128 ∧ n = 2 ∧ r = 120)
def No (c : Int) : Prop := c < 0 ∨ 4 ≤ c
theorem cls (c : Int) : (∃ s n r, Cl c s n r) ∨ No c := by
  by_cases h : c < 0 ∨ 4 ≤ c
  · exact .inr h
  · rcases (by omega : c = 0 ∨ c = 1 ∨ c = 2 ∨ c = 3) with rfl | rfl | rfl | rfl
    · exact .inl ⟨16, 16, 8, .inl ⟨rfl, rfl, rfl, rfl⟩⟩
    · exact .inl ⟨32, 8, 24, .inr (.inl ⟨rfl, rfl, rfl, rfl⟩)⟩
    · exact .inl ⟨64, 4, 56, .inr (.inr (.inl ⟨rfl, rfl, rfl, rfl⟩))⟩
    · exact .inl ⟨128, 2, 120, .inr (.inr (.inr ⟨rfl, rfl, rfl, rfl⟩))⟩

/-- A number that is of no class is none of 0 to 3. -/
structure Ne4 (c : Int) : Prop where
  n0 : c ≠ 0
  n1 : c ≠ 1
  n2 : c ≠ 2
  n3 : c ≠ 3
theorem No.ne {c : Int} (h : No c) : Ne4 c := by unfold No at h; exact ⟨by omega, by omega, by omega, by omega⟩

theorem there_no (c : Int) (w : World) (h : No c) :
    Calls Try.prog 84 #[.int .i64 c] w fun e w' => e = .returned (.bool false) ∧ w = w' := by
  unfold No at h
  by_cases h0 : c < 0
  · have h1 : decide (c ≥ 0) = false := by simpa using h0
    clear h h0
    go_enter Try.func84, Try.ntmps84
    go_wp2
    go_ret
    exact ⟨rfl, rfl⟩
  · have h1 : decide (c ≥ 0) = true := by simp; omega
    have h2 : decide (c < 4) = false := by simp; omega
    clear h h0
    go_enter Try.func84, Try.ntmps84
    go_wp2
    go_ret
    exact ⟨rfl, rfl⟩
theorem there_yes {c s n r : Int} (w : World) (h : Cl c s n r) :
    Calls Try.prog 84 #[.int .i64 c] w fun e w' => e = .returned (.bool true) ∧ w = w' := by
  rcases h with ⟨rfl, rfl, rfl, rfl⟩ | ⟨rfl, rfl, rfl, rfl⟩ | ⟨rfl, rfl, rfl, rfl⟩ | ⟨rfl, rfl, rfl, rfl⟩
  all_goals
    go_enter Try.func84, Try.ntmps84
    go_wp2
    go_ret
    exact ⟨rfl, rfl⟩

set_option maxHeartbeats 800000 in
theorem size_yes {c s n r : Int} (w : World) (h : Cl c s n r) :
    Calls Try.prog 50 #[.int .i64 c] w fun e w' => e = .returned (.int .i64 s) ∧ w = w' := by
  have Hthere := Lib.hid (fun w => there_yes w h)
  rcases h with ⟨rfl, rfl, rfl, rfl⟩ | ⟨rfl, rfl, rfl, rfl⟩ | ⟨rfl, rfl, rfl, rfl⟩ | ⟨rfl, rfl, rfl, rfl⟩
  all_goals
    go_enter Try.func50, Try.ntmps50
    go_wp2_with ((go_at_call 84; refine (Hthere.out _).mono ?_; rintro e w' ⟨rfl, rfl⟩))
    go_ret
    exact ⟨rfl, rfl⟩
set_option maxHeartbeats 800000 in
theorem size_no (c : Int) (w : World) (h : No c) :
    Calls Try.prog 50 #[.int .i64 c] w fun e w' => e = .returned (.int .i64 0) ∧ w = w' := by
  have Hthere := Lib.hid (fun w => there_no c w h)
  clear h
  go_enter Try.func50, Try.ntmps50
  go_wp2_with ((go_at_call 84; refine (Hthere.out _).mono ?_; rintro e w' ⟨rfl, rfl⟩))
  go_ret
  exact ⟨rfl, rfl⟩

set_option maxHeartbeats 800000 in
theorem slots_yes {c s n r : Int} (w : World) (h : Cl c s n r) :
    Calls Try.prog 92 #[.int .i64 c] w fun e w' => e = .returned (.int .i64 n) ∧ w = w' := by
  have Hthere := Lib.hid (fun w => there_yes w h)
  have Hsize := Lib.hid (fun w => size_yes w h)
  rcases h with ⟨rfl, rfl, rfl, rfl⟩ | ⟨rfl, rfl, rfl, rfl⟩ | ⟨rfl, rfl, rfl, rfl⟩ | ⟨rfl, rfl, rfl, rfl⟩
  all_goals
    go_enter Try.func92, Try.ntmps92
    go_wp2_with (first | (go_at_call 84; refine (Hthere.out _).mono ?_; rintro e w' ⟨rfl, rfl⟩) | (go_at_call 50; refine (Hsize.out _).mono ?_; rintro e w' ⟨rfl, rfl⟩))
    go_ret
    exact ⟨rfl, rfl⟩
set_option maxHeartbeats 800000 in
theorem slots_no (c : Int) (w : World) (h : No c) :
    Calls Try.prog 92 #[.int .i64 c] w fun e w' => e = .returned (.int .i64 0) ∧ w = w' := by
  have Hthere := Lib.hid (fun w => there_no c w h)
  have Hsize := Lib.hid (fun w => size_no c w h)
  clear h
  go_enter Try.func92, Try.ntmps92
  go_wp2_with (first | (go_at_call 84; refine (Hthere.out _).mono ?_; rintro e w' ⟨rfl, rfl⟩) | (go_at_call 50; refine (Hsize.out _).mono ?_; rintro e w' ⟨rfl, rfl⟩))
  go_ret
  exact ⟨rfl, rfl⟩

set_option maxHeartbeats 800000 in
theorem room_yes {c s n r : Int} (w : World) (h : Cl c s n r) :
    Calls Try.prog 44 #[.int .i64 c] w fun e w' => e = .returned (.int .i64 r) ∧ w = w' := by
  have Hthere := Lib.hid (fun w => there_yes w h)
  have Hsize := Lib.hid (fun w => size_yes w h)
  rcases h with ⟨rfl, rfl, rfl, rfl⟩ | ⟨rfl, rfl, rfl, rfl⟩ | ⟨rfl, rfl, rfl, rfl⟩ | ⟨rfl, rfl, rfl, rfl⟩
  all_goals
    go_enter Try.func44, Try.ntmps44
    go_wp2_with (first | (go_at_call 84; refine (Hthere.out _).mono ?_; rintro e w' ⟨rfl, rfl⟩) | (go_at_call 50; refine (Hsize.out _).mono ?_; rintro e w' ⟨rfl, rfl⟩))
    go_ret
    exact ⟨rfl, rfl⟩
set_option maxHeartbeats 800000 in
theorem room_no (c : Int) (w : World) (h : No c) :
    Calls Try.prog 44 #[.int .i64 c] w fun e w' => e = .returned (.int .i64 0) ∧ w = w' := by
  have Hthere := Lib.hid (fun w => there_no c w h)
  have Hsize := Lib.hid (fun w => size_no c w h)
  clear h
  go_enter Try.func44, Try.ntmps44
  go_wp2_with (first | (go_at_call 84; refine (Hthere.out _).mono ?_; rintro e w' ⟨rfl, rfl⟩) | (go_at_call 50; refine (Hsize.out _).mono ?_; rintro e w' ⟨rfl, rfl⟩))
  go_ret
  exact ⟨rfl, rfl⟩

set_option maxHeartbeats 800000 in
theorem rsize_yes {c s n r : Int} (w : World) (h : Cl c s n r) :
    Calls Try.prog 17 #[.int .i64 c] w fun e w' => e = .returned (.int .i64 s) ∧ w = w' := by
  rcases h with ⟨rfl, rfl, rfl, rfl⟩ | ⟨rfl, rfl, rfl, rfl⟩ | ⟨rfl, rfl, rfl, rfl⟩ | ⟨rfl, rfl, rfl, rfl⟩
  all_goals
    go_enter Try.func17, Try.ntmps17
    go_wp2
    go_ret
    exact ⟨rfl, rfl⟩
set_option maxHeartbeats 800000 in
theorem rsize_no (c : Int) (w : World) (h : No c) :
    Calls Try.prog 17 #[.int .i64 c] w fun e w' => e = .returned (.int .i64 0) ∧ w = w' := by
  obtain ⟨n0, n1, n2, n3⟩ := h.ne
  have e0 : (c == 0) = false := by simpa using n0
  have e1 : (c == 1) = false := by simpa using n1
  have e2 : (c == 2) = false := by simpa using n2
  have e3 : (c == 3) = false := by simpa using n3
  clear h n0 n1 n2 n3
  go_enter Try.func17, Try.ntmps17
  go_wp2
  go_ret
  exact ⟨rfl, rfl⟩

end Go.Proofs.Yticoojcmlkdeiaa
