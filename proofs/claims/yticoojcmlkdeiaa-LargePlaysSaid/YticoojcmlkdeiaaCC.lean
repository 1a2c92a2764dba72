/- The walks of Base and Slot, and of the law's awake. -/
import Derived.Test.YticoojcmlkdeiaaCB
namespace Go.Proofs.Yticoojcmlkdeiaa
open Go.RowKit

set_option maxHeartbeats 1000000 in
theorem base_out (page c k m : Int) (w : World) (hS : ∀ w, Calls Try.prog 92 #[.int .i64 c] w fun e w' => e = .returned (.int .i64 m) ∧ w = w') (h : page < 0 ∨ 255 < page ∨ k < 0 ∨ m ≤ k) :
    Calls Try.prog 83 #[.int .i64 page, .int .i64 c, .int .i64 k] w fun e w' => e = .returned (.int .i64 (-1)) ∧ w = w' := by
  have HS := Lib.hid hS
  clear hS
  by_cases h0 : page < 0
  · clear h
    go_enter Try.func83, Try.ntmps83
    go_wp2
    go_ret
    exact ⟨rfl, rfl⟩
  · by_cases h1 : page ≥ 256
    · clear h
      go_enter Try.func83, Try.ntmps83
      go_wp2
      go_ret
      exact ⟨rfl, rfl⟩
    · by_cases h2 : k < 0
      · clear h
        go_enter Try.func83, Try.ntmps83
        go_wp2
        go_ret
        exact ⟨rfl, rfl⟩
      · have h3 : k ≥ m := by omega
        clear h
        go_enter Try.func83, Try.ntmps83
        go_wp2_with (go_at_call 92; refine (HS.out _).mono ?_; rintro e w' ⟨rfl, rfl⟩)
        go_ret
        exact ⟨rfl, rfl⟩
theorem base_no (page c k : Int) (w : World) (h : No c) :
    Calls Try.prog 83 #[.int .i64 page, .int .i64 c, .int .i64 k] w fun e w' => e = .returned (.int .i64 (-1)) ∧ w = w' :=
  base_out page c k 0 w (fun w => slots_no c w h) (by omega)
theorem base_off {c s n r : Int} (page k : Int) (w : World) (h : Cl c s n r) (ho : page < 0 ∨ 255 < page ∨ k < 0 ∨ n ≤ k) :
    Calls Try.prog 83 #[.int .i64 page, .int .i64 c, .int .i64 k] w fun e w' => e = .returned (.int .i64 (-1)) ∧ w = w' :=
  base_out page c k n w (fun w => slots_yes w h) ho
set_option maxRecDepth 100000 in
set_option maxHeartbeats 2000000 in
theorem base_core {c s n r : Int} (page k : Int) (w : World) (h : Cl c s n r) (h0 : ¬ page < 0) (h1 : ¬ page ≥ 256) (h2 : ¬ k < 0) (h3 : ¬ k ≥ n) :
    Calls Try.prog 83 #[.int .i64 page, .int .i64 c, .int .i64 k] w fun e w' => e = .returned (.int .i64 (page * 256 + k * s)) ∧ w = w' := by
  have HL := Lib.hid (fun w => slots_yes w h)
  have HS := Lib.hid (fun w => size_yes w h)
  rcases h with ⟨rfl, rfl, rfl, rfl⟩ | ⟨rfl, rfl, rfl, rfl⟩ | ⟨rfl, rfl, rfl, rfl⟩ | ⟨rfl, rfl, rfl, rfl⟩
  all_goals
    go_enter Try.func83, Try.ntmps83
    go_wp2_with (first
      | (go_at_call 92; refine (HL.out _).mono ?_; rintro e w' ⟨rfl, rfl⟩)
      | (go_at_call 50; refine (HS.out _).mono ?_; rintro e w' ⟨rfl, rfl⟩))
    go_ret
    exact ⟨rfl, rfl⟩

set_option maxHeartbeats 1000000 in
theorem slot_out (at_ c : Int) (w : World) (h : at_ < 0 ∨ 65535 < at_) :
    Calls Try.prog 81 #[.int .i64 at_, .int .i64 c] w fun e w' => e = .returned (.tuple #[.int .i64 (-1), .int .i64 (-1)]) ∧ w = w' := by
  by_cases h0 : at_ < 0
  · clear h
    go_enter Try.func81, Try.ntmps81
    go_wp2
    go_ret2
    exact ⟨rfl, rfl⟩
  · have h1 : at_ ≥ 65536 := by omega
    clear h
    go_enter Try.func81, Try.ntmps81
    go_wp2
    go_ret2
    exact ⟨rfl, rfl⟩
set_option maxHeartbeats 1000000 in
theorem slot_no (at_ c : Int) (w : World) (h : No c) :
    Calls Try.prog 81 #[.int .i64 at_, .int .i64 c] w fun e w' => e = .returned (.tuple #[.int .i64 (-1), .int .i64 (-1)]) ∧ w = w' := by
  by_cases ho : at_ < 0 ∨ 65535 < at_
  · exact slot_out at_ c w ho
  · have HT := Lib.hid (fun w => there_no c w h)
    have h0 : ¬ at_ < 0 := by omega
    have h1 : ¬ at_ ≥ 65536 := by omega
    clear h ho
    go_enter Try.func81, Try.ntmps81
    go_wp2_with (go_at_call 84; refine (HT.out _).mono ?_; rintro e w' ⟨rfl, rfl⟩)
    go_ret2
    exact ⟨rfl, rfl⟩
set_option maxHeartbeats 2000000 in
theorem slot_core {c s n r : Int} (at_ : Int) (w : World) (h : Cl c s n r) (h0 : ¬ at_ < 0) (h1 : at_ < 65536) :
    Calls Try.prog 81 #[.int .i64 at_, .int .i64 c] w fun e w' => e = .returned (.tuple #[.int .i64 (at_ / 256), .int .i64 (at_ % 256 / s)]) ∧ ∃ d, w' = w.drewN d := by
  have HT := Lib.hid (fun w => there_yes w h)
  have HS := Lib.hid (fun w => size_yes w h)
  have hs : 0 < s ∧ s ≤ 128 := by unfold Cl at h; omega
  obtain ⟨hs0, hs1⟩ := hs
  clear h
  go_enter Try.func81, Try.ntmps81
  go_wp2_with (go_at_call 84; refine (HT.out _).mono ?_; rintro e w' ⟨rfl, rfl⟩)
  go_quiet ((go_at_call 50; exact quiet_left (HS.out _)))
  go_wp2
  go_ret2
  exact ⟨rfl, _, rfl⟩
theorem slot_yes {c s n r : Int} (at_ : Nat) (w : World) (h : Cl c s n r) (ha : at_ < 65536) :
    Calls Try.prog 81 #[.int .i64 at_, .int .i64 c] w fun e w' => e = .returned (.tuple #[.int .i64 (at_ / 256 : Int), .int .i64 (at_ % 256 / s : Int)]) ∧ ∃ d, w' = w.drewN d :=
  slot_core at_ w h (by omega) (by omega)

end Go.Proofs.Yticoojcmlkdeiaa
