/- The walks of the document's own answer: In, New, Get, Word, Put, With. -/
import Derived.Test.YtbpganholopjfaaAC
namespace Go.Proofs.Ytbpganholopjfaa
open Go.RowKit

set_option maxHeartbeats 800000 in
theorem rin_at (A : Option Addr) (N c : Nat) (at_ n : Int) (w : World) (hN : N ≤ 65536) :
    Calls Try.prog 12 #[.slice A N c, .int .i64 at_, .int .i64 n] w fun e w' => e = .returned (.bool (inB N at_ n)) ∧ w = w' := by
  by_cases h1 : 0 ≤ at_
  · have d1 : decide (0 ≤ at_) = true := by simpa using h1
    by_cases h2 : 0 ≤ n
    · have d2 : decide (0 ≤ n) = true := by simpa using h2
      by_cases h3 : n ≤ N
      · have d3 : decide (n ≤ (N : Int)) = true := by simpa using h3
        have b1 : -9223372036854775808 ≤ (N : Int) - n := by omega
        have b2 : (N : Int) - n ≤ 9223372036854775807 := by omega
        by_cases h4 : at_ ≤ (N : Int) - n
        · have d4 : decide (at_ ≤ (N : Int) - n) = true := by simpa using h4
          have hb : inB N at_ n = true := (inB_iff _ _ _).2 (by omega)
          rw [hb]
          clear hb
          go_enter Try.func12, Try.ntmps12
          go_wp2
          go_ret
          exact ⟨rfl, rfl⟩
        · have d4 : decide (at_ ≤ (N : Int) - n) = false := by simpa using h4
          have hb : inB N at_ n = false := by cases h : inB N at_ n with | false => rfl | true => have := (inB_iff _ _ _).1 h; omega
          rw [hb]
          clear hb
          go_enter Try.func12, Try.ntmps12
          go_wp2
          go_ret
          exact ⟨rfl, rfl⟩
      · have d3 : decide (n ≤ (N : Int)) = false := by simpa using h3
        have hb : inB N at_ n = false := by cases h : inB N at_ n with | false => rfl | true => have := (inB_iff _ _ _).1 h; omega
        rw [hb]
        clear hb
        go_enter Try.func12, Try.ntmps12
        go_wp2
        go_ret
        exact ⟨rfl, rfl⟩
    · have d2 : decide (0 ≤ n) = false := by simpa using h2
      have hb : inB N at_ n = false := by cases h : inB N at_ n with | false => rfl | true => have := (inB_iff _ _ _).1 h; omega
      rw [hb]
      clear hb
      go_enter Try.func12, Try.ntmps12
      go_wp2
      go_ret
      exact ⟨rfl, rfl⟩
  · have d1 : decide (0 ≤ at_) = false := by simpa using h1
    have hb : inB N at_ n = false := by cases h : inB N at_ n with | false => rfl | true => have := (inB_iff _ _ _).1 h; omega
    rw [hb]
    clear hb
    go_enter Try.func12, Try.ntmps12
    go_wp2
    go_ret
    exact ⟨rfl, rfl⟩

theorem made_new (w : World) (m : Nat) : BytesNew w (w.alloc (.cells (zeroBytes m) 5)) m (fun _ => 0) (.returned (.slice (some ⟨w.heap.size, 0, none⟩) m m)) := ⟨_, _, rfl, Nat.le_refl _, Nat.le_refl _, bytes_new w 5 m, grown_alloc _ _ _⟩

set_option maxHeartbeats 800000 in
theorem rnew_at (n : Int) (N : Nat) (w : World) (hN : N ≤ 256) (h : (n < 0 ∧ N = 0) ∨ (0 ≤ n ∧ n ≤ 256 ∧ (N : Int) = n) ∨ (256 < n ∧ N = 256)) :
    Calls Try.prog 11 #[.int .i64 n] w fun e w' => BytesNew w w' (N * 256) (fun _ => 0) e := by
  rcases h with ⟨h0, rfl⟩ | ⟨h0, h1, rfl⟩ | ⟨h0, rfl⟩
  · have hmk := make_bytes w 0 (by omega)
    rw [show ((0 : Nat) : Int) = 0 by rfl] at hmk
    have HM := Lib.hid (made_new w 0)
    have d0 : decide (n < 0) = true := by simpa using h0
    generalize zeroBytes 0 = z at *
    go_enter Try.func11, Try.ntmps11
    go_wp2
    go_ret
    exact HM.out
  · have hmk := make_bytes w (N * 256) (by omega)
    rw [show ((N * 256 : Nat) : Int) = 256 * (N : Int) by omega] at hmk
    have HM := Lib.hid (made_new w (N * 256))
    have d0 : decide ((N : Int) < 0) = false := decide_eq_false (by omega)
    have d1 : decide ((256 : Int) < N) = false := decide_eq_false (by omega)
    generalize zeroBytes (N * 256) = z at *
    go_enter Try.func11, Try.ntmps11
    go_wp2
    go_ret
    exact HM.out
  · have hmk := make_bytes w 65536 (by omega)
    rw [show ((65536 : Nat) : Int) = 65536 by rfl] at hmk
    have HM := Lib.hid (made_new w 65536)
    have d0 : decide (n < 0) = false := decide_eq_false (by omega)
    have d1 : decide (256 < n) = true := by simpa using h0
    generalize zeroBytes 65536 = z at *
    go_enter Try.func11, Try.ntmps11
    go_wp2
    go_ret
    exact HM.out

theorem hor_step (B : Nat → Nat) (h : ∀ i, B i < 256) (k : Nat) (hk : k < 8) : IntKind.u64.wrap (IntKind.u64.wrap (((Ar.hor B k : Nat) : Int) * 256) + ((B (7 - k) : Nat) : Int)) = ((Ar.hor B (k + 1) : Nat) : Int) := by
  have h1 := Ar.hor_lt h k
  have h2 := h (7 - k)
  have h3 := Ar.hor_lt h (k + 1)
  have h4 := Ar.pow_le (k + 1) (by omega)
  have e : Ar.hor B (k + 1) = Ar.hor B k * 256 + B (7 - k) := rfl
  rw [IntKind.wrap_u64, IntKind.wrap_u64]
  omega

set_option maxRecDepth 100000 in
set_option maxHeartbeats 1000000 in
theorem rget_at (q o cap : Nat) (B : Nat → Nat) (w : World) (hB : ∀ i, B i < 256) (hc : ∀ i, i < 8 → w.cell? ⟨q, o + i, none⟩ = some (.int .u8 (B i : Nat))) :
    Calls Try.prog 52 #[.slice (some ⟨q, o, none⟩) 8 cap] w fun e w' => e = .returned (.int .u64 (Ar.wsum B 8 : Nat)) ∧ w = w' := by
  rw [← Ar.hor_all]
  have HB := Lib.hid hB
  have HC := Lib.hid hc
  clear hB hc
  go_enter Try.func52, Try.ntmps52
  go_wp2_with fail
  go_loop [3, 4] (fun v i => ∃ k : Nat, k ≤ 8 ∧ i = .int .i64 (7 - (k : Int)) ∧ v = .int .u64 (Ar.hor B k : Nat)) (fun _ i => (intOf i + 1).toNat)
  case atStart => exact ⟨0, by omega, rfl, rfl⟩
  case round =>
    obtain ⟨k, hk, rfl, rfl⟩ := hrel
    by_cases hlt : k < 8
    · have d0 := HC.out (7 - k) (by omega)
      have hb := HB.out (7 - k)
      have e7 : ((7 : Int) - k).toNat = 7 - k := by omega
      have HS := Lib.hid (hor_step B HB.out k hlt)
      have i0 : (0 : Int) ≤ 7 - (k : Int) := by omega
      have i1 : (7 : Int) - (k : Int) < 8 := by omega
      go_wp2
      go_round
      case rel => exact ⟨k + 1, by omega, by go_num, vu64 HS.out⟩
      case measure => simp [intOf]; omega
    · obtain rfl : k = 8 := by omega
      go_wp2
      go_ret
      exact ⟨rfl, rfl⟩
end Go.Proofs.Ytbpganholopjfaa
