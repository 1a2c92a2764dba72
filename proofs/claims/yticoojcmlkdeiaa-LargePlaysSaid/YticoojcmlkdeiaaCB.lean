/- The walks of the reference's Slots, of Of, of Pages, and of the reference's. -/
import Derived.Test.YticoojcmlkdeiaaCA
namespace Go.Proofs.Yticoojcmlkdeiaa
open Go.RowKit

set_option maxHeartbeats 1000000 in
theorem rslots_0 (w : World) :
    Calls Try.prog 21 #[.int .i64 0] w fun e w' => e = .returned (.int .i64 16) ∧ w = w' := by
  have HS := Lib.hid (fun w => rsize_yes (c := 0) (s := 16) (n := 16) (r := 8) w (.inl ⟨rfl, rfl, rfl, rfl⟩))
  go_enter Try.func21, Try.ntmps21
  go_wp2
  go_loop [3] (fun i => ∃ k : Nat, k ≤ 16 ∧ i = .int .i64 k) (fun i => 16 - (intOf i).toNat)
  case atStart => exact ⟨0, by omega, rfl⟩
  case round =>
    obtain ⟨k, hk, rfl⟩ := hrel
    by_cases hlt : k < 16
    · have b1 : ((k : Int) + 1) * 16 ≤ 256 := by omega
      go_wp2_with (go_at_call 17; refine (HS.out _).mono ?_; rintro e w' ⟨rfl, rfl⟩)
      go_round
      case rel => exact ⟨k + 1, by omega, by go_num⟩
      case measure => simp [intOf]; omega
    · obtain rfl : k = 16 := by omega
      go_wp2_with (go_at_call 17; refine (HS.out _).mono ?_; rintro e w' ⟨rfl, rfl⟩)
      go_ret
      exact ⟨rfl, rfl⟩

set_option maxHeartbeats 1000000 in
theorem rslots_1 (w : World) :
    Calls Try.prog 21 #[.int .i64 1] w fun e w' => e = .returned (.int .i64 8) ∧ w = w' := by
  have HS := Lib.hid (fun w => rsize_yes (c := 1) (s := 32) (n := 8) (r := 24) w (.inr (.inl ⟨rfl, rfl, rfl, rfl⟩)))
  go_enter Try.func21, Try.ntmps21
  go_wp2
  go_loop [3] (fun i => ∃ k : Nat, k ≤ 8 ∧ i = .int .i64 k) (fun i => 8 - (intOf i).toNat)
  case atStart => exact ⟨0, by omega, rfl⟩
  case round =>
    obtain ⟨k, hk, rfl⟩ := hrel
    by_cases hlt : k < 8
    · have b1 : ((k : Int) + 1) * 32 ≤ 256 := by omega
      go_wp2_with (go_at_call 17; refine (HS.out _).mono ?_; rintro e w' ⟨rfl, rfl⟩)
      go_round
      case rel => exact ⟨k + 1, by omega, by go_num⟩
      case measure => simp [intOf]; omega
    · obtain rfl : k = 8 := by omega
      go_wp2_with (go_at_call 17; refine (HS.out _).mono ?_; rintro e w' ⟨rfl, rfl⟩)
      go_ret
      exact ⟨rfl, rfl⟩

set_option maxHeartbeats 1000000 in
theorem rslots_2 (w : World) :
    Calls Try.prog 21 #[.int .i64 2] w fun e w' => e = .returned (.int .i64 4) ∧ w = w' := by
  have HS := Lib.hid (fun w => rsize_yes (c := 2) (s := 64) (n := 4) (r := 56) w (.inr (.inr (.inl ⟨rfl, rfl, rfl, rfl⟩))))
  go_enter Try.func21, Try.ntmps21
  go_wp2
  go_loop [3] (fun i => ∃ k : Nat, k ≤ 4 ∧ i = .int .i64 k) (fun i => 4 - (intOf i).toNat)
  case atStart => exact ⟨0, by omega, rfl⟩
  case round =>
    obtain ⟨k, hk, rfl⟩ := hrel
    by_cases hlt : k < 4
    · have b1 : ((k : Int) + 1) * 64 ≤ 256 := by omega
      go_wp2_with (go_at_call 17; refine (HS.out _).mono ?_; rintro e w' ⟨rfl, rfl⟩)
      go_round
      case rel => exact ⟨k + 1, by omega, by go_num⟩
      case measure => simp [intOf]; omega
    · obtain rfl : k = 4 := by omega
      go_wp2_with (go_at_call 17; refine (HS.out _).mono ?_; rintro e w' ⟨rfl, rfl⟩)
      go_ret
      exact ⟨rfl, rfl⟩

set_option maxHeartbeats 1000000 in
theorem rslots_3 (w : World) :
    Calls Try.prog 21 #[.int .i64 3] w fun e w' => e = .returned (.int .i64 2) ∧ w = w' := by
  have HS := Lib.hid (fun w => rsize_yes (c := 3) (s := 128) (n := 2) (r := 120) w (.inr (.inr (.inr ⟨rfl, rfl, rfl, rfl⟩))))
  go_enter Try.func21, Try.ntmps21
  go_wp2
  go_loop [3] (fun i => ∃ k : Nat, k ≤ 2 ∧ i = .int .i64 k) (fun i => 2 - (intOf i).toNat)
  case atStart => exact ⟨0, by omega, rfl⟩
  case round =>
    obtain ⟨k, hk, rfl⟩ := hrel
    by_cases hlt : k < 2
    · have b1 : ((k : Int) + 1) * 128 ≤ 256 := by omega
      go_wp2_with (go_at_call 17; refine (HS.out _).mono ?_; rintro e w' ⟨rfl, rfl⟩)
      go_round
      case rel => exact ⟨k + 1, by omega, by go_num⟩
      case measure => simp [intOf]; omega
    · obtain rfl : k = 2 := by omega
      go_wp2_with (go_at_call 17; refine (HS.out _).mono ?_; rintro e w' ⟨rfl, rfl⟩)
      go_ret
      exact ⟨rfl, rfl⟩

theorem rslots_yes {c s n r : Int} (w : World) (h : Cl c s n r) :
    Calls Try.prog 21 #[.int .i64 c] w fun e w' => e = .returned (.int .i64 n) ∧ w = w' := by
  rcases h with ⟨rfl, rfl, rfl, rfl⟩ | ⟨rfl, rfl, rfl, rfl⟩ | ⟨rfl, rfl, rfl, rfl⟩ | ⟨rfl, rfl, rfl, rfl⟩
  · exact rslots_0 w
  · exact rslots_1 w
  · exact rslots_2 w
  · exact rslots_3 w
set_option maxHeartbeats 1000000 in
theorem rslots_no (c : Int) (w : World) (h : No c) :
    Calls Try.prog 21 #[.int .i64 c] w fun e w' => e = .returned (.int .i64 0) ∧ w = w' := by
  have HS := Lib.hid (fun w => rsize_no c w h)
  clear h
  go_enter Try.func21, Try.ntmps21
  go_wp2
  go_loop [3] (fun i => i = .int .i64 0) (fun i => 0)
  case atStart => rfl
  case round =>
    subst hrel
    go_wp2_with (go_at_call 17; refine (HS.out _).mono ?_; rintro e w' ⟨rfl, rfl⟩)
    go_ret
    exact ⟨rfl, rfl⟩

/-- The class of so many bytes. -/
def ofV (n : Int) : Int := if n ≤ 8 then 0 else if n ≤ 24 then 1 else if n ≤ 56 then 2 else 3
theorem ofV_val (n : Int) : (n ≤ 8 ∧ ofV n = 0) ∨ (8 < n ∧ n ≤ 24 ∧ ofV n = 1) ∨ (24 < n ∧ n ≤ 56 ∧ ofV n = 2) ∨ (56 < n ∧ ofV n = 3) := by
  unfold ofV; split <;> (try split) <;> (try split) <;> omega
def ofR (n : Int) : Value := if n ≤ 120 then .tuple #[.int .i64 (ofV n), .bool true] else .tuple #[.int .i64 0, .bool false]
theorem ofR_yes {n c : Int} (h : n ≤ 120) (hv : ofV n = c) : ofR n = .tuple #[.int .i64 c, .bool true] := by unfold ofR; rw [if_pos h, hv]
theorem ofR_no {n : Int} (h : 120 < n) : ofR n = .tuple #[.int .i64 0, .bool false] := by unfold ofR; rw [if_neg (by omega)]
def rofV (n : Int) : Int := if 1 ≤ n ∧ n ≤ 120 then ofV n else -1
theorem rofV_yes {n c : Int} (h : 1 ≤ n ∧ n ≤ 120) (hv : ofV n = c) : rofV n = c := by unfold rofV; rw [if_pos h, hv]
theorem rofV_no {n : Int} (h : n < 1 ∨ 120 < n) : rofV n = -1 := by unfold rofV; rw [if_neg (by omega)]

theorem pg_eq (n : Nat) : ((n : Int) + 8 + 256 - 1) / 256 = ((n + 263) / 256 : Nat) := by omega
set_option maxHeartbeats 1000000 in
theorem pages_no (n : Int) (w : World) (h : n ≤ 120 ∨ 4096 < n) :
    Calls Try.prog 63 #[.int .i64 n] w fun e w' => e = .returned (.tuple #[.int .i64 0, .bool false]) ∧ w = w' := by
  have H3 := Lib.hid (fun w => room_yes (c := 3) (s := 128) (n := 2) (r := 120) w (.inr (.inr (.inr ⟨rfl, rfl, rfl, rfl⟩))))
  by_cases h0 : n ≤ 120
  · clear h
    go_enter Try.func63, Try.ntmps63
    go_wp2_with (go_at_call 44; refine (H3.out _).mono ?_; rintro e w' ⟨rfl, rfl⟩)
    go_ret2
    exact ⟨rfl, rfl⟩
  · have h1 : n > 4096 := by omega
    clear h
    go_enter Try.func63, Try.ntmps63
    go_wp2_with (go_at_call 44; refine (H3.out _).mono ?_; rintro e w' ⟨rfl, rfl⟩)
    go_ret2
    exact ⟨rfl, rfl⟩
set_option maxHeartbeats 1000000 in
theorem pages_yes (n : Nat) (w : World) (h : 120 < n) (h2 : n ≤ 4096) :
    Calls Try.prog 63 #[.int .i64 n] w fun e w' => e = .returned (.tuple #[.int .i64 ((n + 263) / 256 : Nat), .bool true]) ∧ w = w' := by
  have H3 := Lib.hid (fun w => room_yes (c := 3) (s := 128) (n := 2) (r := 120) w (.inr (.inr (.inr ⟨rfl, rfl, rfl, rfl⟩))))
  have h0 : ¬ (n : Int) ≤ 120 := by omega
  have h1 : ¬ (n : Int) > 4096 := by omega
  go_enter Try.func63, Try.ntmps63
  go_wp2_with (go_at_call 44; refine (H3.out _).mono ?_; rintro e w' ⟨rfl, rfl⟩)
  go_ret2
  exact ⟨congrArg (fun x => Ending.returned (.tuple #[.int .i64 x, .bool true])) (pg_eq n), rfl⟩

set_option maxHeartbeats 1000000 in
theorem rpages_no (n : Int) (w : World) (h : n ≤ 120 ∨ 4096 < n) :
    Calls Try.prog 68 #[.int .i64 n] w fun e w' => e = .returned (.int .i64 0) ∧ w = w' := by
  by_cases h0 : n < 121
  · clear h
    go_enter Try.func68, Try.ntmps68
    go_wp2
    go_ret
    exact ⟨rfl, rfl⟩
  · have h1 : n > 4096 := by omega
    clear h
    go_enter Try.func68, Try.ntmps68
    go_wp2
    go_ret
    exact ⟨rfl, rfl⟩
set_option maxHeartbeats 1000000 in
theorem rpages_yes (n : Nat) (w : World) (h : 120 < n) (h2 : n ≤ 4096) :
    Calls Try.prog 68 #[.int .i64 n] w fun e w' => e = .returned (.int .i64 ((n + 263) / 256 : Nat)) ∧ w = w' := by
  have h0 : ¬ (n : Int) < 121 := by omega
  have h1 : ¬ (n : Int) > 4096 := by omega
  have H0 := Lib.hid h0
  have H1 := Lib.hid h1
  go_enter Try.func68, Try.ntmps68
  go_wp2
  clear h0 h1
  go_loop [3] (fun i => ∃ k : Nat, 1 ≤ k ∧ k ≤ (n + 263) / 256 ∧ i = .int .i64 k) (fun i => 40 - (intOf i).toNat)
  case atStart => exact ⟨1, by omega, by omega, rfl⟩
  case round =>
    obtain ⟨k, hk1, hk, rfl⟩ := hrel
    by_cases hlt : 256 * (k : Int) < n + 8
    · go_wp2
      go_round
      case rel => exact ⟨k + 1, by omega, by omega, by go_num⟩
      case measure => simp [intOf]; omega
    · have hk2 : k = (n + 263) / 256 := by omega
      have HK := Lib.hid hk2
      have hk17 : k ≤ 17 := by omega
      clear hk2 hk
      go_wp2
      go_ret
      exact ⟨ret_int (congrArg Int.ofNat HK.out), rfl⟩
end Go.Proofs.Yticoojcmlkdeiaa
