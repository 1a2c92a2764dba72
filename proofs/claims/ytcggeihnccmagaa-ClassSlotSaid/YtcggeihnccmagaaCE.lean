/- The walks of the laws ClassBase and ClassSlot. -/
import Derived.Test.YtcggeihnccmagaaCD
namespace Go.Proofs.Ytcggeihnccmagaa
open Go.RowKit

set_option maxRecDepth 100000 in
set_option maxHeartbeats 4000000 in
theorem classBase_drew (page c k off : Int) (ho0 : 0 ≤ off) (ho1 : off ≤ 255) (w : World) :
    Calls Try.prog 5 #[.int .i64 page, .int .i64 c, .int .i64 k, .int .u8 off] w fun e w' => e = .returned (.bool true) ∧ ∃ d, w' = w.drewN d := by
  rcases cls c with ⟨s, n, r, h⟩ | h
  · by_cases hin : page < 0 ∨ 255 < page ∨ k < 0 ∨ n ≤ k
    · have H1 := Lib.hid (fun w => base_off page k w h hin)
      have H2 := Lib.hid (fun w => rslots_yes w h)
      clear h
      by_cases h0 : page < 0
      · clear hin
        go_enter Try.func5, Try.ntmps5
        go_wp2_with (first | (go_at_call 22; refine (H1.out _).mono ?_; rintro e w' ⟨rfl, rfl⟩) | (go_at_call 15; refine (H2.out _).mono ?_; rintro e w' ⟨rfl, rfl⟩) | (go_at_call 17; refine (cawake_at _).mono ?_; rintro e w' ⟨rfl, d, rfl⟩))
        go_ret
        exact ⟨rfl, _, rfl⟩
      · by_cases h1 : page > 255
        · clear hin
          go_enter Try.func5, Try.ntmps5
          go_wp2_with (first | (go_at_call 22; refine (H1.out _).mono ?_; rintro e w' ⟨rfl, rfl⟩) | (go_at_call 15; refine (H2.out _).mono ?_; rintro e w' ⟨rfl, rfl⟩) | (go_at_call 17; refine (cawake_at _).mono ?_; rintro e w' ⟨rfl, d, rfl⟩))
          go_ret
          exact ⟨rfl, _, rfl⟩
        · by_cases h2 : k < 0
          · clear hin
            go_enter Try.func5, Try.ntmps5
            go_wp2_with (first | (go_at_call 22; refine (H1.out _).mono ?_; rintro e w' ⟨rfl, rfl⟩) | (go_at_call 15; refine (H2.out _).mono ?_; rintro e w' ⟨rfl, rfl⟩) | (go_at_call 17; refine (cawake_at _).mono ?_; rintro e w' ⟨rfl, d, rfl⟩))
            go_ret
            exact ⟨rfl, _, rfl⟩
          · have h3 : k ≥ n := by omega
            clear hin
            go_enter Try.func5, Try.ntmps5
            go_wp2_with (first | (go_at_call 22; refine (H1.out _).mono ?_; rintro e w' ⟨rfl, rfl⟩) | (go_at_call 15; refine (H2.out _).mono ?_; rintro e w' ⟨rfl, rfl⟩) | (go_at_call 17; refine (cawake_at _).mono ?_; rintro e w' ⟨rfl, d, rfl⟩))
            go_ret
            exact ⟨rfl, _, rfl⟩
    · have h0 : ¬ page < 0 := by omega
      have h1 : ¬ page ≥ 256 := by omega
      have h2 : ¬ k < 0 := by omega
      have h3 : ¬ k ≥ n := by omega
      have h1' : ¬ page > 255 := by omega
      clear hin
      have H1 := Lib.hid (fun w => base_core page k w h h0 h1 h2 h3)
      have H2 := Lib.hid (fun w => rslots_yes w h)
      have H3 := Lib.hid (fun w => rsize_yes w h)
      have HC := Lib.hid h
      rcases h with ⟨rfl, rfl, rfl, rfl⟩ | ⟨rfl, rfl, rfl, rfl⟩ | ⟨rfl, rfl, rfl, rfl⟩ | ⟨rfl, rfl, rfl, rfl⟩
      · obtain ⟨x, hx, hx0, hx1⟩ : ∃ x, off % 16 = x ∧ 0 ≤ x ∧ x < 16 := ⟨_, rfl, by omega, by omega⟩
        have HX := Lib.hid hx
        have H4 : Hid (∀ w, Calls Try.prog 23 #[.int .i64 (page * 256 + k * 16 + off % 16), .int .i64 0] w fun e w' => e = .returned (.tuple #[.int .i64 page, .int .i64 k]) ∧ ∃ d, w' = w.drewN d) := fun w => by
          rw [HX.out]
          have t := slot_core (c := 0) (s := 16) (n := 16) (r := 8) (page * 256 + k * 16 + x) w HC.out (by omega) (by omega)
          have e1 : (page * 256 + k * 16 + x) / 256 = page := by omega
          have e2 : (page * 256 + k * 16 + x) % 256 / 16 = k := by omega
          rw [e1, e2] at t
          exact t
        obtain ⟨b, hb⟩ : ∃ b, b = page * 256 + k * 16 := ⟨_, rfl⟩
        rw [← hb] at H1 H4
        have e3 : 256 * page + 16 * k = b := by omega
        have e4 : b % 16 = 0 := by omega
        have e5 : b + 16 ≤ 256 * page + 256 := by omega
        have e6 : 0 ≤ b := by omega
        have e7 : b + 16 ≤ 65536 := by omega
        clear HC hb HX hx hx0 hx1
        go_enter Try.func5, Try.ntmps5
        go_wp2_with (first | (go_at_call 22; refine (H1.out _).mono ?_; rintro e w' ⟨rfl, rfl⟩) | (go_at_call 15; refine (H2.out _).mono ?_; rintro e w' ⟨rfl, rfl⟩) | (go_at_call 12; refine (H3.out _).mono ?_; rintro e w' ⟨rfl, rfl⟩) | (go_at_call 23; refine (H4.out _).mono ?_; rintro e w' ⟨rfl, d, rfl⟩) | (go_at_call 17; refine (cawake_at _).mono ?_; rintro e w' ⟨rfl, d, rfl⟩))
        go_ret
        exact ⟨rfl, _, rfl⟩
      · obtain ⟨x, hx, hx0, hx1⟩ : ∃ x, off % 32 = x ∧ 0 ≤ x ∧ x < 32 := ⟨_, rfl, by omega, by omega⟩
        have HX := Lib.hid hx
        have H4 : Hid (∀ w, Calls Try.prog 23 #[.int .i64 (page * 256 + k * 32 + off % 32), .int .i64 1] w fun e w' => e = .returned (.tuple #[.int .i64 page, .int .i64 k]) ∧ ∃ d, w' = w.drewN d) := fun w => by
          rw [HX.out]
          have t := slot_core (c := 1) (s := 32) (n := 8) (r := 24) (page * 256 + k * 32 + x) w HC.out (by omega) (by omega)
          have e1 : (page * 256 + k * 32 + x) / 256 = page := by omega
          have e2 : (page * 256 + k * 32 + x) % 256 / 32 = k := by omega
          rw [e1, e2] at t
          exact t
        obtain ⟨b, hb⟩ : ∃ b, b = page * 256 + k * 32 := ⟨_, rfl⟩
        rw [← hb] at H1 H4
        have e3 : 256 * page + 32 * k = b := by omega
        have e4 : b % 16 = 0 := by omega
        have e5 : b + 32 ≤ 256 * page + 256 := by omega
        have e6 : 0 ≤ b := by omega
        have e7 : b + 32 ≤ 65536 := by omega
        clear HC hb HX hx hx0 hx1
        go_enter Try.func5, Try.ntmps5
        go_wp2_with (first | (go_at_call 22; refine (H1.out _).mono ?_; rintro e w' ⟨rfl, rfl⟩) | (go_at_call 15; refine (H2.out _).mono ?_; rintro e w' ⟨rfl, rfl⟩) | (go_at_call 12; refine (H3.out _).mono ?_; rintro e w' ⟨rfl, rfl⟩) | (go_at_call 23; refine (H4.out _).mono ?_; rintro e w' ⟨rfl, d, rfl⟩) | (go_at_call 17; refine (cawake_at _).mono ?_; rintro e w' ⟨rfl, d, rfl⟩))
        go_ret
        exact ⟨rfl, _, rfl⟩
      · obtain ⟨x, hx, hx0, hx1⟩ : ∃ x, off % 64 = x ∧ 0 ≤ x ∧ x < 64 := ⟨_, rfl, by omega, by omega⟩
        have HX := Lib.hid hx
        have H4 : Hid (∀ w, Calls Try.prog 23 #[.int .i64 (page * 256 + k * 64 + off % 64), .int .i64 2] w fun e w' => e = .returned (.tuple #[.int .i64 page, .int .i64 k]) ∧ ∃ d, w' = w.drewN d) := fun w => by
          rw [HX.out]
          have t := slot_core (c := 2) (s := 64) (n := 4) (r := 56) (page * 256 + k * 64 + x) w HC.out (by omega) (by omega)
          have e1 : (page * 256 + k * 64 + x) / 256 = page := by omega
          have e2 : (page * 256 + k * 64 + x) % 256 / 64 = k := by omega
          rw [e1, e2] at t
          exact t
        obtain ⟨b, hb⟩ : ∃ b, b = page * 256 + k * 64 := ⟨_, rfl⟩
        rw [← hb] at H1 H4
        have e3 : 256 * page + 64 * k = b := by omega
        have e4 : b % 16 = 0 := by omega
        have e5 : b + 64 ≤ 256 * page + 256 := by omega
        have e6 : 0 ≤ b := by omega
        have e7 : b + 64 ≤ 65536 := by omega
        clear HC hb HX hx hx0 hx1
        go_enter Try.func5, Try.ntmps5
        go_wp2_with (first | (go_at_call 22; refine (H1.out _).mono ?_; rintro e w' ⟨rfl, rfl⟩) | (go_at_call 15; refine (H2.out _).mono ?_; rintro e w' ⟨rfl, rfl⟩) | (go_at_call 12; refine (H3.out _).mono ?_; rintro e w' ⟨rfl, rfl⟩) | (go_at_call 23; refine (H4.out _).mono ?_; rintro e w' ⟨rfl, d, rfl⟩) | (go_at_call 17; refine (cawake_at _).mono ?_; rintro e w' ⟨rfl, d, rfl⟩))
        go_ret
        exact ⟨rfl, _, rfl⟩
      · obtain ⟨x, hx, hx0, hx1⟩ : ∃ x, off % 128 = x ∧ 0 ≤ x ∧ x < 128 := ⟨_, rfl, by omega, by omega⟩
        have HX := Lib.hid hx
        have H4 : Hid (∀ w, Calls Try.prog 23 #[.int .i64 (page * 256 + k * 128 + off % 128), .int .i64 3] w fun e w' => e = .returned (.tuple #[.int .i64 page, .int .i64 k]) ∧ ∃ d, w' = w.drewN d) := fun w => by
          rw [HX.out]
          have t := slot_core (c := 3) (s := 128) (n := 2) (r := 120) (page * 256 + k * 128 + x) w HC.out (by omega) (by omega)
          have e1 : (page * 256 + k * 128 + x) / 256 = page := by omega
          have e2 : (page * 256 + k * 128 + x) % 256 / 128 = k := by omega
          rw [e1, e2] at t
          exact t
        obtain ⟨b, hb⟩ : ∃ b, b = page * 256 + k * 128 := ⟨_, rfl⟩
        rw [← hb] at H1 H4
        have e3 : 256 * page + 128 * k = b := by omega
        have e4 : b % 16 = 0 := by omega
        have e5 : b + 128 ≤ 256 * page + 256 := by omega
        have e6 : 0 ≤ b := by omega
        have e7 : b + 128 ≤ 65536 := by omega
        clear HC hb HX hx hx0 hx1
        go_enter Try.func5, Try.ntmps5
        go_wp2_with (first | (go_at_call 22; refine (H1.out _).mono ?_; rintro e w' ⟨rfl, rfl⟩) | (go_at_call 15; refine (H2.out _).mono ?_; rintro e w' ⟨rfl, rfl⟩) | (go_at_call 12; refine (H3.out _).mono ?_; rintro e w' ⟨rfl, rfl⟩) | (go_at_call 23; refine (H4.out _).mono ?_; rintro e w' ⟨rfl, d, rfl⟩) | (go_at_call 17; refine (cawake_at _).mono ?_; rintro e w' ⟨rfl, d, rfl⟩))
        go_ret
        exact ⟨rfl, _, rfl⟩
  · have H1 := Lib.hid (fun w => base_no page c k w h)
    have H2 := Lib.hid (fun w => rslots_no c w h)
    clear h
    by_cases h0 : page < 0
    · go_enter Try.func5, Try.ntmps5
      go_wp2_with (first | (go_at_call 22; refine (H1.out _).mono ?_; rintro e w' ⟨rfl, rfl⟩) | (go_at_call 15; refine (H2.out _).mono ?_; rintro e w' ⟨rfl, rfl⟩) | (go_at_call 17; refine (cawake_at _).mono ?_; rintro e w' ⟨rfl, d, rfl⟩))
      go_ret
      exact ⟨rfl, _, rfl⟩
    · by_cases h1 : page > 255
      · go_enter Try.func5, Try.ntmps5
        go_wp2_with (first | (go_at_call 22; refine (H1.out _).mono ?_; rintro e w' ⟨rfl, rfl⟩) | (go_at_call 15; refine (H2.out _).mono ?_; rintro e w' ⟨rfl, rfl⟩) | (go_at_call 17; refine (cawake_at _).mono ?_; rintro e w' ⟨rfl, d, rfl⟩))
        go_ret
        exact ⟨rfl, _, rfl⟩
      · by_cases h2 : k < 0
        · go_enter Try.func5, Try.ntmps5
          go_wp2_with (first | (go_at_call 22; refine (H1.out _).mono ?_; rintro e w' ⟨rfl, rfl⟩) | (go_at_call 15; refine (H2.out _).mono ?_; rintro e w' ⟨rfl, rfl⟩) | (go_at_call 17; refine (cawake_at _).mono ?_; rintro e w' ⟨rfl, d, rfl⟩))
          go_ret
          exact ⟨rfl, _, rfl⟩
        · have h3 : k ≥ 0 := by omega
          go_enter Try.func5, Try.ntmps5
          go_wp2_with (first | (go_at_call 22; refine (H1.out _).mono ?_; rintro e w' ⟨rfl, rfl⟩) | (go_at_call 15; refine (H2.out _).mono ?_; rintro e w' ⟨rfl, rfl⟩) | (go_at_call 17; refine (cawake_at _).mono ?_; rintro e w' ⟨rfl, d, rfl⟩))
          go_ret
          exact ⟨rfl, _, rfl⟩

set_option maxRecDepth 100000 in
set_option maxHeartbeats 4000000 in
theorem classSlot_drew (at_ c : Int) (w : World) :
    Calls Try.prog 6 #[.int .i64 at_, .int .i64 c] w fun e w' => e = .returned (.bool true) ∧ ∃ d, w' = w.drewN d := by
  by_cases ho : at_ < 0 ∨ 65535 < at_
  · have H1 := Lib.hid (fun w => slot_out at_ c w ho)
    by_cases h0 : at_ < 0
    · clear ho
      go_enter Try.func6, Try.ntmps6
      go_wp2_with (first | (go_at_call 23; refine (H1.out _).mono ?_; rintro e w' ⟨rfl, rfl⟩) | (go_at_call 17; refine (cawake_at _).mono ?_; rintro e w' ⟨rfl, d, rfl⟩))
      go_ret
      exact ⟨rfl, _, rfl⟩
    · have h1 : at_ > 65535 := by omega
      clear ho
      go_enter Try.func6, Try.ntmps6
      go_wp2_with (first | (go_at_call 23; refine (H1.out _).mono ?_; rintro e w' ⟨rfl, rfl⟩) | (go_at_call 17; refine (cawake_at _).mono ?_; rintro e w' ⟨rfl, d, rfl⟩))
      go_ret
      exact ⟨rfl, _, rfl⟩
  · have h0 : ¬ at_ < 0 := by omega
    have h1 : ¬ at_ > 65535 := by omega
    have h1' : at_ < 65536 := by omega
    clear ho
    rcases cls c with ⟨s, n, r, h⟩ | h
    · have HC := Lib.hid h
      have H1 := Lib.hid (fun w => slot_core at_ w h h0 h1')
      have H2 := Lib.hid (fun w => rsize_yes w h)
      rcases h with ⟨rfl, rfl, rfl, rfl⟩ | ⟨rfl, rfl, rfl, rfl⟩ | ⟨rfl, rfl, rfl, rfl⟩ | ⟨rfl, rfl, rfl, rfl⟩
      · have g0 : ¬ at_ / 256 < 0 := by omega
        have g1 : ¬ at_ / 256 ≥ 256 := by omega
        have g2 : ¬ at_ % 256 / 16 < 0 := by omega
        have g3 : ¬ at_ % 256 / 16 ≥ 16 := by omega
        have g4 : at_ / 256 * 256 + at_ % 256 / 16 * 16 ≤ at_ ∧ at_ < at_ / 256 * 256 + at_ % 256 / 16 * 16 + 16 := by omega
        generalize at_ / 256 = P at *
        generalize at_ % 256 / 16 = K at *
        have H3 := Lib.hid (fun w => base_core P K w HC.out g0 g1 g2 g3)
        have e1 : P * 256 + K * 16 ≥ 0 := by omega
        have e2 : at_ ≥ P * 256 + K * 16 := by omega
        have e3 : at_ - (P * 256 + K * 16) < 16 := by omega
        generalize P * 256 + K * 16 = b at *
        clear HC g4
        go_enter Try.func6, Try.ntmps6
        go_wp2_with (first | (go_at_call 23; refine (H1.out _).mono ?_; rintro e w' ⟨rfl, d, rfl⟩) | (go_at_call 12; refine (H2.out _).mono ?_; rintro e w' ⟨rfl, rfl⟩) | (go_at_call 22; refine (H3.out _).mono ?_; rintro e w' ⟨rfl, rfl⟩) | (go_at_call 17; refine (cawake_at _).mono ?_; rintro e w' ⟨rfl, d, rfl⟩))
        go_ret
        exact ⟨rfl, _, rfl⟩
      · have g0 : ¬ at_ / 256 < 0 := by omega
        have g1 : ¬ at_ / 256 ≥ 256 := by omega
        have g2 : ¬ at_ % 256 / 32 < 0 := by omega
        have g3 : ¬ at_ % 256 / 32 ≥ 8 := by omega
        have g4 : at_ / 256 * 256 + at_ % 256 / 32 * 32 ≤ at_ ∧ at_ < at_ / 256 * 256 + at_ % 256 / 32 * 32 + 32 := by omega
        generalize at_ / 256 = P at *
        generalize at_ % 256 / 32 = K at *
        have H3 := Lib.hid (fun w => base_core P K w HC.out g0 g1 g2 g3)
        have e1 : P * 256 + K * 32 ≥ 0 := by omega
        have e2 : at_ ≥ P * 256 + K * 32 := by omega
        have e3 : at_ - (P * 256 + K * 32) < 32 := by omega
        generalize P * 256 + K * 32 = b at *
        clear HC g4
        go_enter Try.func6, Try.ntmps6
        go_wp2_with (first | (go_at_call 23; refine (H1.out _).mono ?_; rintro e w' ⟨rfl, d, rfl⟩) | (go_at_call 12; refine (H2.out _).mono ?_; rintro e w' ⟨rfl, rfl⟩) | (go_at_call 22; refine (H3.out _).mono ?_; rintro e w' ⟨rfl, rfl⟩) | (go_at_call 17; refine (cawake_at _).mono ?_; rintro e w' ⟨rfl, d, rfl⟩))
        go_ret
        exact ⟨rfl, _, rfl⟩
      · have g0 : ¬ at_ / 256 < 0 := by omega
        have g1 : ¬ at_ / 256 ≥ 256 := by omega
        have g2 : ¬ at_ % 256 / 64 < 0 := by omega
        have g3 : ¬ at_ % 256 / 64 ≥ 4 := by omega
        have g4 : at_ / 256 * 256 + at_ % 256 / 64 * 64 ≤ at_ ∧ at_ < at_ / 256 * 256 + at_ % 256 / 64 * 64 + 64 := by omega
        generalize at_ / 256 = P at *
        generalize at_ % 256 / 64 = K at *
        have H3 := Lib.hid (fun w => base_core P K w HC.out g0 g1 g2 g3)
        have e1 : P * 256 + K * 64 ≥ 0 := by omega
        have e2 : at_ ≥ P * 256 + K * 64 := by omega
        have e3 : at_ - (P * 256 + K * 64) < 64 := by omega
        generalize P * 256 + K * 64 = b at *
        clear HC g4
        go_enter Try.func6, Try.ntmps6
        go_wp2_with (first | (go_at_call 23; refine (H1.out _).mono ?_; rintro e w' ⟨rfl, d, rfl⟩) | (go_at_call 12; refine (H2.out _).mono ?_; rintro e w' ⟨rfl, rfl⟩) | (go_at_call 22; refine (H3.out _).mono ?_; rintro e w' ⟨rfl, rfl⟩) | (go_at_call 17; refine (cawake_at _).mono ?_; rintro e w' ⟨rfl, d, rfl⟩))
        go_ret
        exact ⟨rfl, _, rfl⟩
      · have g0 : ¬ at_ / 256 < 0 := by omega
        have g1 : ¬ at_ / 256 ≥ 256 := by omega
        have g2 : ¬ at_ % 256 / 128 < 0 := by omega
        have g3 : ¬ at_ % 256 / 128 ≥ 2 := by omega
        have g4 : at_ / 256 * 256 + at_ % 256 / 128 * 128 ≤ at_ ∧ at_ < at_ / 256 * 256 + at_ % 256 / 128 * 128 + 128 := by omega
        generalize at_ / 256 = P at *
        generalize at_ % 256 / 128 = K at *
        have H3 := Lib.hid (fun w => base_core P K w HC.out g0 g1 g2 g3)
        have e1 : P * 256 + K * 128 ≥ 0 := by omega
        have e2 : at_ ≥ P * 256 + K * 128 := by omega
        have e3 : at_ - (P * 256 + K * 128) < 128 := by omega
        generalize P * 256 + K * 128 = b at *
        clear HC g4
        go_enter Try.func6, Try.ntmps6
        go_wp2_with (first | (go_at_call 23; refine (H1.out _).mono ?_; rintro e w' ⟨rfl, d, rfl⟩) | (go_at_call 12; refine (H2.out _).mono ?_; rintro e w' ⟨rfl, rfl⟩) | (go_at_call 22; refine (H3.out _).mono ?_; rintro e w' ⟨rfl, rfl⟩) | (go_at_call 17; refine (cawake_at _).mono ?_; rintro e w' ⟨rfl, d, rfl⟩))
        go_ret
        exact ⟨rfl, _, rfl⟩
    · have H1 := Lib.hid (fun w => slot_no at_ c w h)
      have H2 := Lib.hid (fun w => rsize_no c w h)
      clear h
      go_enter Try.func6, Try.ntmps6
      go_wp2_with (first | (go_at_call 23; refine (H1.out _).mono ?_; rintro e w' ⟨rfl, rfl⟩) | (go_at_call 12; refine (H2.out _).mono ?_; rintro e w' ⟨rfl, rfl⟩) | (go_at_call 17; refine (cawake_at _).mono ?_; rintro e w' ⟨rfl, d, rfl⟩))
      go_ret
      exact ⟨rfl, _, rfl⟩
end Go.Proofs.Ytcggeihnccmagaa
