/- The walks of the document's own answer: In, New, Get, Word, Put, With. -/
import Derived.Test.YticoojcmlkdeiaaAN
namespace Go.Proofs.Yticoojcmlkdeiaa.An
open Go.RowKit

theorem made_new (w : World) (m : Nat) : BytesNew w (w.alloc (.cells (zeroBytes m) 5)) m (fun _ => 0) (.returned (.slice (some ⟨w.heap.size, 0, none⟩) m m)) := ⟨_, _, rfl, Nat.le_refl _, Nat.le_refl _, bytes_new w 5 m, grown_alloc _ _ _⟩

theorem hor_step (B : Nat → Nat) (h : ∀ i, B i < 256) (k : Nat) (hk : k < 8) : IntKind.u64.wrap (IntKind.u64.wrap (((Ar.hor B k : Nat) : Int) * 256) + ((B (7 - k) : Nat) : Int)) = ((Ar.hor B (k + 1) : Nat) : Int) := by
  have h1 := Ar.hor_lt h k
  have h2 := h (7 - k)
  have h3 := Ar.hor_lt h (k + 1)
  have h4 := Ar.pow_le (k + 1) (by omega)
  have e : Ar.hor B (k + 1) = Ar.hor B k * 256 + B (7 - k) := rfl
  rw [IntKind.wrap_u64, IntKind.wrap_u64]
  omega

set_option maxRecDepth 100000 in
set_option maxHeartbeats 1000000 in
theorem rget_at (q o cap : Nat) (B : Nat → Nat) (w : World) (hB : ∀ i, B i < 256) (hc : ∀ i, i < 8 → w.cell? ⟨q, o + i, none⟩ = some (.int .u8 (B i : Nat))) :
    Calls Try.prog 77 #[.slice (some ⟨q, o, none⟩) 8 cap] w fun e w' => e = .returned (.int .u64 (Ar.wsum B 8 : Nat)) ∧ w = w' := by
  rw [← Ar.hor_all]
  have HB := Lib.hid hB
  have HC := Lib.hid hc
  clear hB hc
  go_enter Try.func77, Try.ntmps77
  go_wp2_with fail
  go_loop [3, 4] (fun v i => ∃ k : Nat, k ≤ 8 ∧ i = .int .i64 (7 - (k : Int)) ∧ v = .int .u64 (Ar.hor B k : Nat)) (fun _ i => (intOf i + 1).toNat)
  case atStart => exact ⟨0, by omega, rfl, rfl⟩
  case round =>
    obtain ⟨k, hk, rfl, rfl⟩ := hrel
    by_cases hlt : k < 8
    · have d0 := HC.out (7 - k) (by omega)
      have hb := HB.out (7 - k)
      have e7 : ((7 : Int) - k).toNat = 7 - k := by omega
      have HS := Lib.hid (hor_step B HB.out k hlt)
      have i0 : (0 : Int) ≤ 7 - (k : Int) := by omega
      have i1 : (7 : Int) - (k : Int) < 8 := by omega
      go_wp2
      go_round
      case rel => exact ⟨k + 1, by omega, by go_num, vu64 HS.out⟩
      case measure => simp [intOf]; omega
    · obtain rfl : k = 8 := by omega
      go_wp2
      go_ret
      exact ⟨rfl, rfl⟩
end Go.Proofs.Yticoojcmlkdeiaa.An
