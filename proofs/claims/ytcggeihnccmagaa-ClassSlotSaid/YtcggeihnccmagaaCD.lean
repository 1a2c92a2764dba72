/- The walks of the laws of package class. -/
import Derived.Test.YtcggeihnccmagaaCC
namespace Go.Proofs.Ytcggeihnccmagaa
open Go.RowKit

def Drew (w : World) (e : Ending) (w' : World) : Prop := e = .returned (.bool true) ∧ ∃ d, w' = w.drewN d
theorem Cl.s0 {c s n r : Int} (h : Cl c s n r) : 0 < s := by unfold Cl at h; omega

set_option maxRecDepth 100000 in
set_option maxHeartbeats 4000000 in
theorem classSizes_drew (c : Int) (w : World) :
    Calls Try.prog 3 #[.int .i64 c] w fun e w' => e = .returned (.bool true) ∧ ∃ d, w' = w.drewN d := by
  rcases cls c with ⟨s, n, r, h⟩ | h
  · have H1 := Lib.hid (fun w => size_yes w h)
    have H2 := Lib.hid (fun w => slots_yes w h)
    have H3 := Lib.hid (fun w => room_yes w h)
    have H4 := Lib.hid (fun w => rsize_yes w h)
    have H5 := Lib.hid (fun w => rslots_yes w h)
    rcases h with ⟨rfl, rfl, rfl, rfl⟩ | ⟨rfl, rfl, rfl, rfl⟩ | ⟨rfl, rfl, rfl, rfl⟩ | ⟨rfl, rfl, rfl, rfl⟩
    all_goals
      go_enter Try.func3, Try.ntmps3
      go_wp2_with (first | (go_at_call 13; refine (H1.out _).mono ?_; rintro e w' ⟨rfl, rfl⟩) | (go_at_call 14; refine (H2.out _).mono ?_; rintro e w' ⟨rfl, rfl⟩) | (go_at_call 16; refine (H3.out _).mono ?_; rintro e w' ⟨rfl, rfl⟩) | (go_at_call 12; refine (H4.out _).mono ?_; rintro e w' ⟨rfl, rfl⟩) | (go_at_call 15; refine (H5.out _).mono ?_; rintro e w' ⟨rfl, rfl⟩) | (go_at_call 17; refine (cawake_at _).mono ?_; rintro e w' ⟨rfl, d, rfl⟩))
      go_ret
      exact ⟨rfl, _, rfl⟩
  · have H1 := Lib.hid (fun w => size_no c w h)
    have H2 := Lib.hid (fun w => slots_no c w h)
    have H3 := Lib.hid (fun w => room_no c w h)
    have H4 := Lib.hid (fun w => rsize_no c w h)
    have H5 := Lib.hid (fun w => rslots_no c w h)
    clear h
    go_enter Try.func3, Try.ntmps3
    go_wp2_with (first | (go_at_call 13; refine (H1.out _).mono ?_; rintro e w' ⟨rfl, rfl⟩) | (go_at_call 14; refine (H2.out _).mono ?_; rintro e w' ⟨rfl, rfl⟩) | (go_at_call 16; refine (H3.out _).mono ?_; rintro e w' ⟨rfl, rfl⟩) | (go_at_call 12; refine (H4.out _).mono ?_; rintro e w' ⟨rfl, rfl⟩) | (go_at_call 15; refine (H5.out _).mono ?_; rintro e w' ⟨rfl, rfl⟩) | (go_at_call 17; refine (cawake_at _).mono ?_; rintro e w' ⟨rfl, d, rfl⟩))
    go_ret
    exact ⟨rfl, _, rfl⟩

set_option maxRecDepth 100000 in
set_option maxHeartbeats 4000000 in
theorem classOf_drew (n : Int) (w : World) :
    Calls Try.prog 4 #[.int .i64 n] w fun e w' => e = .returned (.bool true) ∧ ∃ d, w' = w.drewN d := by
  have hlo := of_at n
  by_cases h1 : n < 1
  · have H1 := Lib.hid (fun w => (hlo w).1 h1)
    have H2 := Lib.hid (fun w => pages_no n w (.inl (by omega)))
    have H3 : Hid (∀ w, Calls Try.prog 20 #[.int .i64 n] w fun e w' => e = .returned (.int .i64 (-1)) ∧ w = w') := fun w => (rof_at n w).mono fun e w' ⟨a, b⟩ => ⟨a.trans (ret_int (rofV_no (.inl h1))), b⟩
    have H4 := Lib.hid (fun w => rpages_no n w (.inl (by omega)))
    have h1' : ¬ n ≥ 1 := by omega
    clear hlo
    go_enter Try.func4, Try.ntmps4
    go_wp2_with (first | (go_at_call 18; refine (H1.out _).mono ?_; rintro e w' ⟨rfl, rfl⟩) | (go_at_call 19; refine (H2.out _).mono ?_; rintro e w' ⟨rfl, rfl⟩) | (go_at_call 20; refine (H3.out _).mono ?_; rintro e w' ⟨rfl, rfl⟩) | (go_at_call 21; refine (H4.out _).mono ?_; rintro e w' ⟨rfl, rfl⟩) | (go_at_call 17; refine (cawake_at _).mono ?_; rintro e w' ⟨rfl, d, rfl⟩))
    go_ret
    exact ⟨rfl, _, rfl⟩
  by_cases h2 : n ≤ 120
  · have HR : Hid (1 ≤ n ∧ n ≤ 120) := ⟨by omega, h2⟩
    have H1 := Lib.hid (fun w => (hlo w).2.1 HR.out.1 h2)
    have H2 := Lib.hid (fun w => pages_no n w (.inl h2))
    have H3 : Hid (∀ w, Calls Try.prog 20 #[.int .i64 n] w fun e w' => e = .returned (.int .i64 (ofV n)) ∧ w = w') := fun w => (rof_at n w).mono fun e w' ⟨a, b⟩ => ⟨a.trans (ret_int (rofV_yes HR.out rfl)), b⟩
    have H4 := Lib.hid (fun w => rpages_no n w (.inl h2))
    have h4 : n ≤ 4096 := by omega
    have HV := ofV_val n
    clear hlo HR
    generalize ofV n = x at *
    rcases HV with ⟨ha, rfl⟩ | ⟨hb, ha, rfl⟩ | ⟨hb, ha, rfl⟩ | ⟨hb, rfl⟩
    · have H5 := Lib.hid (fun w => room_yes (c := 0) (s := 16) (n := 16) (r := 8) w (.inl ⟨rfl, rfl, rfl, rfl⟩))
      go_enter Try.func4, Try.ntmps4
      go_wp2_with (first | (go_at_call 18; refine (H1.out _).mono ?_; rintro e w' ⟨rfl, rfl⟩) | (go_at_call 19; refine (H2.out _).mono ?_; rintro e w' ⟨rfl, rfl⟩) | (go_at_call 20; refine (H3.out _).mono ?_; rintro e w' ⟨rfl, rfl⟩) | (go_at_call 21; refine (H4.out _).mono ?_; rintro e w' ⟨rfl, rfl⟩) | (go_at_call 16; refine (H5.out _).mono ?_; rintro e w' ⟨rfl, rfl⟩) | (go_at_call 17; refine (cawake_at _).mono ?_; rintro e w' ⟨rfl, d, rfl⟩))
      go_ret
      exact ⟨rfl, _, rfl⟩
    · have H5 := Lib.hid (fun w => room_yes (c := 1) (s := 32) (n := 8) (r := 24) w (.inr (.inl ⟨rfl, rfl, rfl, rfl⟩)))
      go_enter Try.func4, Try.ntmps4
      go_wp2_with (first | (go_at_call 18; refine (H1.out _).mono ?_; rintro e w' ⟨rfl, rfl⟩) | (go_at_call 19; refine (H2.out _).mono ?_; rintro e w' ⟨rfl, rfl⟩) | (go_at_call 20; refine (H3.out _).mono ?_; rintro e w' ⟨rfl, rfl⟩) | (go_at_call 21; refine (H4.out _).mono ?_; rintro e w' ⟨rfl, rfl⟩) | (go_at_call 16; refine (H5.out _).mono ?_; rintro e w' ⟨rfl, rfl⟩) | (go_at_call 17; refine (cawake_at _).mono ?_; rintro e w' ⟨rfl, d, rfl⟩))
      go_ret
      exact ⟨rfl, _, rfl⟩
    · have H5 := Lib.hid (fun w => room_yes (c := 2) (s := 64) (n := 4) (r := 56) w (.inr (.inr (.inl ⟨rfl, rfl, rfl, rfl⟩))))
      go_enter Try.func4, Try.ntmps4
      go_wp2_with (first | (go_at_call 18; refine (H1.out _).mono ?_; rintro e w' ⟨rfl, rfl⟩) | (go_at_call 19; refine (H2.out _).mono ?_; rintro e w' ⟨rfl, rfl⟩) | (go_at_call 20; refine (H3.out _).mono ?_; rintro e w' ⟨rfl, rfl⟩) | (go_at_call 21; refine (H4.out _).mono ?_; rintro e w' ⟨rfl, rfl⟩) | (go_at_call 16; refine (H5.out _).mono ?_; rintro e w' ⟨rfl, rfl⟩) | (go_at_call 17; refine (cawake_at _).mono ?_; rintro e w' ⟨rfl, d, rfl⟩))
      go_ret
      exact ⟨rfl, _, rfl⟩
    · have H5 := Lib.hid (fun w => room_yes (c := 3) (s := 128) (n := 2) (r := 120) w (.inr (.inr (.inr ⟨rfl, rfl, rfl, rfl⟩))))
      go_enter Try.func4, Try.ntmps4
      go_wp2_with (first | (go_at_call 18; refine (H1.out _).mono ?_; rintro e w' ⟨rfl, rfl⟩) | (go_at_call 19; refine (H2.out _).mono ?_; rintro e w' ⟨rfl, rfl⟩) | (go_at_call 20; refine (H3.out _).mono ?_; rintro e w' ⟨rfl, rfl⟩) | (go_at_call 21; refine (H4.out _).mono ?_; rintro e w' ⟨rfl, rfl⟩) | (go_at_call 16; refine (H5.out _).mono ?_; rintro e w' ⟨rfl, rfl⟩) | (go_at_call 17; refine (cawake_at _).mono ?_; rintro e w' ⟨rfl, d, rfl⟩))
      go_ret
      exact ⟨rfl, _, rfl⟩
  by_cases h3 : n ≤ 4096
  · obtain ⟨m, rfl⟩ : ∃ m : Nat, n = m := ⟨n.toNat, by omega⟩
    have H1 := Lib.hid (fun w => (hlo w).2.2 (by omega))
    have H2 := Lib.hid (fun w => pages_yes m w (by omega) (by omega))
    have H3 : Hid (∀ w, Calls Try.prog 20 #[.int .i64 m] w fun e w' => e = .returned (.int .i64 (-1)) ∧ w = w') := fun w => (rof_at m w).mono fun e w' ⟨a, b⟩ => ⟨a.trans (ret_int (rofV_no (.inr (by omega)))), b⟩
    have H4 := Lib.hid (fun w => rpages_yes m w (by omega) (by omega))
    have p1 : (m : Int) ≤ ((m + 263) / 256 : Nat) * 256 - 8 := by omega
    have p2 : (((m + 263) / 256 : Nat) : Int) * 256 < m + 8 + 256 := by omega
    have p3 : (((m + 263) / 256 : Nat) : Int) ≤ 17 := by omega
    have p4 : 0 < (((m + 263) / 256 : Nat) : Int) := by omega
    clear hlo
    generalize (((m + 263) / 256 : Nat) : Int) = P at *
    generalize (m : Int) = n at *
    have q1 : ¬ 256 * P - 8 < n := by omega
    have q2 : 256 * (P - 1) < n + 8 := by omega
    have q3 : n ≥ 1 := by omega
    clear h1 h2 p1 p2
    go_enter Try.func4, Try.ntmps4
    go_wp2_with (first | (go_at_call 18; refine (H1.out _).mono ?_; rintro e w' ⟨rfl, rfl⟩) | (go_at_call 19; refine (H2.out _).mono ?_; rintro e w' ⟨rfl, rfl⟩) | (go_at_call 20; refine (H3.out _).mono ?_; rintro e w' ⟨rfl, rfl⟩) | (go_at_call 21; refine (H4.out _).mono ?_; rintro e w' ⟨rfl, rfl⟩) | (go_at_call 17; refine (cawake_at _).mono ?_; rintro e w' ⟨rfl, d, rfl⟩))
    go_ret
    exact ⟨rfl, _, rfl⟩
  · have H1 := Lib.hid (fun w => (hlo w).2.2 (by omega))
    have H2 := Lib.hid (fun w => pages_no n w (.inr (by omega)))
    have H3 : Hid (∀ w, Calls Try.prog 20 #[.int .i64 n] w fun e w' => e = .returned (.int .i64 (-1)) ∧ w = w') := fun w => (rof_at n w).mono fun e w' ⟨a, b⟩ => ⟨a.trans (ret_int (rofV_no (.inr (by omega)))), b⟩
    have H4 := Lib.hid (fun w => rpages_no n w (.inr (by omega)))
    have q3 : n ≥ 1 := by omega
    have q5 : decide (n ≤ 4096) = false := by simpa using h3
    clear hlo h1 h2
    go_enter Try.func4, Try.ntmps4
    go_wp2_with (first | (go_at_call 18; refine (H1.out _).mono ?_; rintro e w' ⟨rfl, rfl⟩) | (go_at_call 19; refine (H2.out _).mono ?_; rintro e w' ⟨rfl, rfl⟩) | (go_at_call 20; refine (H3.out _).mono ?_; rintro e w' ⟨rfl, rfl⟩) | (go_at_call 21; refine (H4.out _).mono ?_; rintro e w' ⟨rfl, rfl⟩) | (go_at_call 17; refine (cawake_at _).mono ?_; rintro e w' ⟨rfl, d, rfl⟩))
    go_ret
    exact ⟨rfl, _, rfl⟩

set_option maxRecDepth 100000 in
set_option maxHeartbeats 4000000 in
theorem classLeast_drew (n : Int) (w : World) :
    Calls Try.prog 7 #[.int .i64 n] w fun e w' => e = .returned (.bool true) ∧ ∃ d, w' = w.drewN d := by
  have hlo := of_at n
  by_cases h1 : n < 1
  · have H1 := Lib.hid (fun w => (hlo w).1 h1)
    have H2 := Lib.hid (fun w => pages_no n w (.inl (by omega)))
    have H3 : Hid (∀ w, Calls Try.prog 20 #[.int .i64 n] w fun e w' => e = .returned (.int .i64 (-1)) ∧ w = w') := fun w => (rof_at n w).mono fun e w' ⟨a, b⟩ => ⟨a.trans (ret_int (rofV_no (.inl h1))), b⟩
    have H4 := Lib.hid (fun w => rpages_no n w (.inl (by omega)))
    have h1' : ¬ n ≥ 1 := by omega
    clear hlo
    go_enter Try.func7, Try.ntmps7
    go_wp2_with (first | (go_at_call 18; refine (H1.out _).mono ?_; rintro e w' ⟨rfl, rfl⟩) | (go_at_call 19; refine (H2.out _).mono ?_; rintro e w' ⟨rfl, rfl⟩) | (go_at_call 20; refine (H3.out _).mono ?_; rintro e w' ⟨rfl, rfl⟩) | (go_at_call 21; refine (H4.out _).mono ?_; rintro e w' ⟨rfl, rfl⟩) | (go_at_call 17; refine (cawake_at _).mono ?_; rintro e w' ⟨rfl, d, rfl⟩))
    go_ret
    exact ⟨rfl, _, rfl⟩
  by_cases h2 : n ≤ 120
  · have HR : Hid (1 ≤ n ∧ n ≤ 120) := ⟨by omega, h2⟩
    have H1 := Lib.hid (fun w => (hlo w).2.1 HR.out.1 h2)
    have H2 := Lib.hid (fun w => pages_no n w (.inl h2))
    have H3 : Hid (∀ w, Calls Try.prog 20 #[.int .i64 n] w fun e w' => e = .returned (.int .i64 (ofV n)) ∧ w = w') := fun w => (rof_at n w).mono fun e w' ⟨a, b⟩ => ⟨a.trans (ret_int (rofV_yes HR.out rfl)), b⟩
    have H4 := Lib.hid (fun w => rpages_no n w (.inl h2))
    have h4 : n ≤ 4096 := by omega
    have HV := ofV_val n
    clear hlo HR
    generalize ofV n = x at *
    rcases HV with ⟨ha, rfl⟩ | ⟨hb, ha, rfl⟩ | ⟨hb, ha, rfl⟩ | ⟨hb, rfl⟩
    · have H5 := Lib.hid (fun w => room_yes (c := 0) (s := 16) (n := 16) (r := 8) w (.inl ⟨rfl, rfl, rfl, rfl⟩))
      go_enter Try.func7, Try.ntmps7
      go_wp2_with (first | (go_at_call 18; refine (H1.out _).mono ?_; rintro e w' ⟨rfl, rfl⟩) | (go_at_call 19; refine (H2.out _).mono ?_; rintro e w' ⟨rfl, rfl⟩) | (go_at_call 20; refine (H3.out _).mono ?_; rintro e w' ⟨rfl, rfl⟩) | (go_at_call 21; refine (H4.out _).mono ?_; rintro e w' ⟨rfl, rfl⟩) | (go_at_call 17; refine (cawake_at _).mono ?_; rintro e w' ⟨rfl, d, rfl⟩))
      go_ret
      exact ⟨rfl, _, rfl⟩
    · have H5 := Lib.hid (fun w => room_yes (c := 1) (s := 32) (n := 8) (r := 24) w (.inr (.inl ⟨rfl, rfl, rfl, rfl⟩)))
      have H6 := Lib.hid (fun w => room_yes (c := 0) (s := 16) (n := 16) (r := 8) w (.inl ⟨rfl, rfl, rfl, rfl⟩))
      go_enter Try.func7, Try.ntmps7
      go_wp2_with (first | (go_at_call 18; refine (H1.out _).mono ?_; rintro e w' ⟨rfl, rfl⟩) | (go_at_call 19; refine (H2.out _).mono ?_; rintro e w' ⟨rfl, rfl⟩) | (go_at_call 20; refine (H3.out _).mono ?_; rintro e w' ⟨rfl, rfl⟩) | (go_at_call 21; refine (H4.out _).mono ?_; rintro e w' ⟨rfl, rfl⟩) | (go_at_call 16; refine (H6.out _).mono ?_; rintro e w' ⟨rfl, rfl⟩) | (go_at_call 17; refine (cawake_at _).mono ?_; rintro e w' ⟨rfl, d, rfl⟩))
      go_ret
      exact ⟨rfl, _, rfl⟩
    · have H5 := Lib.hid (fun w => room_yes (c := 2) (s := 64) (n := 4) (r := 56) w (.inr (.inr (.inl ⟨rfl, rfl, rfl, rfl⟩))))
      have H6 := Lib.hid (fun w => room_yes (c := 1) (s := 32) (n := 8) (r := 24) w (.inr (.inl ⟨rfl, rfl, rfl, rfl⟩)))
      go_enter Try.func7, Try.ntmps7
      go_wp2_with (first | (go_at_call 18; refine (H1.out _).mono ?_; rintro e w' ⟨rfl, rfl⟩) | (go_at_call 19; refine (H2.out _).mono ?_; rintro e w' ⟨rfl, rfl⟩) | (go_at_call 20; refine (H3.out _).mono ?_; rintro e w' ⟨rfl, rfl⟩) | (go_at_call 21; refine (H4.out _).mono ?_; rintro e w' ⟨rfl, rfl⟩) | (go_at_call 16; refine (H6.out _).mono ?_; rintro e w' ⟨rfl, rfl⟩) | (go_at_call 17; refine (cawake_at _).mono ?_; rintro e w' ⟨rfl, d, rfl⟩))
      go_ret
      exact ⟨rfl, _, rfl⟩
    · have H5 := Lib.hid (fun w => room_yes (c := 3) (s := 128) (n := 2) (r := 120) w (.inr (.inr (.inr ⟨rfl, rfl, rfl, rfl⟩))))
      have H6 := Lib.hid (fun w => room_yes (c := 2) (s := 64) (n := 4) (r := 56) w (.inr (.inr (.inl ⟨rfl, rfl, rfl, rfl⟩))))
      go_enter Try.func7, Try.ntmps7
      go_wp2_with (first | (go_at_call 18; refine (H1.out _).mono ?_; rintro e w' ⟨rfl, rfl⟩) | (go_at_call 19; refine (H2.out _).mono ?_; rintro e w' ⟨rfl, rfl⟩) | (go_at_call 20; refine (H3.out _).mono ?_; rintro e w' ⟨rfl, rfl⟩) | (go_at_call 21; refine (H4.out _).mono ?_; rintro e w' ⟨rfl, rfl⟩) | (go_at_call 16; refine (H6.out _).mono ?_; rintro e w' ⟨rfl, rfl⟩) | (go_at_call 17; refine (cawake_at _).mono ?_; rintro e w' ⟨rfl, d, rfl⟩))
      go_ret
      exact ⟨rfl, _, rfl⟩
  by_cases h3 : n ≤ 4096
  · obtain ⟨m, rfl⟩ : ∃ m : Nat, n = m := ⟨n.toNat, by omega⟩
    have H1 := Lib.hid (fun w => (hlo w).2.2 (by omega))
    have H2 := Lib.hid (fun w => pages_yes m w (by omega) (by omega))
    have H3 : Hid (∀ w, Calls Try.prog 20 #[.int .i64 m] w fun e w' => e = .returned (.int .i64 (-1)) ∧ w = w') := fun w => (rof_at m w).mono fun e w' ⟨a, b⟩ => ⟨a.trans (ret_int (rofV_no (.inr (by omega)))), b⟩
    have H4 := Lib.hid (fun w => rpages_yes m w (by omega) (by omega))
    have p1 : (m : Int) ≤ ((m + 263) / 256 : Nat) * 256 - 8 := by omega
    have p2 : (((m + 263) / 256 : Nat) : Int) * 256 < m + 8 + 256 := by omega
    have p3 : (((m + 263) / 256 : Nat) : Int) ≤ 17 := by omega
    have p4 : 0 < (((m + 263) / 256 : Nat) : Int) := by omega
    clear hlo
    generalize (((m + 263) / 256 : Nat) : Int) = P at *
    generalize (m : Int) = n at *
    have q1 : ¬ 256 * P - 8 < n := by omega
    have q2 : 256 * (P - 1) < n + 8 := by omega
    have q3 : n ≥ 1 := by omega
    clear h1 h2 p1 p2
    go_enter Try.func7, Try.ntmps7
    go_wp2_with (first | (go_at_call 18; refine (H1.out _).mono ?_; rintro e w' ⟨rfl, rfl⟩) | (go_at_call 19; refine (H2.out _).mono ?_; rintro e w' ⟨rfl, rfl⟩) | (go_at_call 20; refine (H3.out _).mono ?_; rintro e w' ⟨rfl, rfl⟩) | (go_at_call 21; refine (H4.out _).mono ?_; rintro e w' ⟨rfl, rfl⟩) | (go_at_call 17; refine (cawake_at _).mono ?_; rintro e w' ⟨rfl, d, rfl⟩))
    go_ret
    exact ⟨rfl, _, rfl⟩
  · have H1 := Lib.hid (fun w => (hlo w).2.2 (by omega))
    have H2 := Lib.hid (fun w => pages_no n w (.inr (by omega)))
    have H3 : Hid (∀ w, Calls Try.prog 20 #[.int .i64 n] w fun e w' => e = .returned (.int .i64 (-1)) ∧ w = w') := fun w => (rof_at n w).mono fun e w' ⟨a, b⟩ => ⟨a.trans (ret_int (rofV_no (.inr (by omega)))), b⟩
    have H4 := Lib.hid (fun w => rpages_no n w (.inr (by omega)))
    have q3 : n ≥ 1 := by omega
    have q5 : decide (n ≤ 4096) = false := by simpa using h3
    clear hlo h1 h2
    go_enter Try.func7, Try.ntmps7
    go_wp2_with (first | (go_at_call 18; refine (H1.out _).mono ?_; rintro e w' ⟨rfl, rfl⟩) | (go_at_call 19; refine (H2.out _).mono ?_; rintro e w' ⟨rfl, rfl⟩) | (go_at_call 20; refine (H3.out _).mono ?_; rintro e w' ⟨rfl, rfl⟩) | (go_at_call 21; refine (H4.out _).mono ?_; rintro e w' ⟨rfl, rfl⟩) | (go_at_call 17; refine (cawake_at _).mono ?_; rintro e w' ⟨rfl, d, rfl⟩))
    go_ret
    exact ⟨rfl, _, rfl⟩
end Go.Proofs.Ytcggeihnccmagaa
