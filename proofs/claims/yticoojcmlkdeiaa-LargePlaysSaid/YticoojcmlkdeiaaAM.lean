/- Plain facts on bytes and words, of no program: eight bytes as a number, by or of shifts, and by Horner; a number's bytes. -/
namespace Go.Proofs.Yticoojcmlkdeiaa
namespace Ar

/-- The number of the first k bytes. -/
def wsum (B : Nat → Nat) : Nat → Nat
  | 0 => 0
  | k + 1 => wsum B k + B k * 256 ^ k
theorem wsum_lt {B : Nat → Nat} (h : ∀ i, B i < 256) : ∀ k, wsum B k < 256 ^ k
  | 0 => by simp [wsum]
  | k + 1 => by
    have h1 := wsum_lt h k
    have h2 := h k
    have h3 : B k * 256 ^ k ≤ 255 * 256 ^ k := Nat.mul_le_mul_right _ (by omega)
    simp only [wsum, Nat.pow_succ]
    omega
/-- By Horner, from the last byte on. -/
def hor (B : Nat → Nat) : Nat → Nat
  | 0 => 0
  | m + 1 => hor B m * 256 + B (7 - m)
theorem hor_lt {B : Nat → Nat} (h : ∀ i, B i < 256) : ∀ m, hor B m < 256 ^ m
  | 0 => by simp [hor]
  | m + 1 => by
    have h1 := hor_lt h m
    have h2 := h (7 - m)
    simp only [hor, Nat.pow_succ]
    omega
theorem hor_all (B : Nat → Nat) : hor B 8 = wsum B 8 := by
  simp only [hor, wsum]
  simp
  omega
/-- A number's byte. -/
def byt (v i : Nat) : Nat := v / 256 ^ i % 256
theorem byt_lt (v i : Nat) : byt v i < 256 := Nat.mod_lt _ (by decide)
theorem pow_le (k : Nat) (h : k ≤ 8) : 256 ^ k ≤ 18446744073709551616 := by
  have : 256 ^ k ≤ 256 ^ 8 := Nat.pow_le_pow_right (by decide) h
  exact Nat.le_trans this (by decide)
theorem two_pow (k : Nat) : 2 ^ (8 * k) = 256 ^ k := by rw [Nat.pow_mul]
theorem or_add (B : Nat → Nat) (h : ∀ i, B i < 256) (k : Nat) : wsum B k ||| (B k * 256 ^ k) = wsum B (k + 1) := by
  have h1 : wsum B k < 2 ^ (8 * k) := by rw [two_pow]; exact wsum_lt h k
  have h2 := Nat.two_pow_add_eq_or_of_lt h1 (B k)
  rw [two_pow] at h2
  rw [Nat.or_comm, Nat.mul_comm (B k), ← h2]
  simp only [wsum, Nat.mul_comm (B k)]
  omega

/-- Bytes of which eight, from a place on, are a number's. -/
def setW (B : Nat → Nat) (a v : Nat) : Nat → Nat := fun i => if a ≤ i ∧ i < a + 8 then byt v (i - a) else B i
/-- Bytes of which m, from a place on, are another list's. -/
def setB (B : Nat → Nat) (a m : Nat) (S : Nat → Nat) : Nat → Nat := fun i => if a ≤ i ∧ i < a + m then S (i - a) else B i
theorem setB_lt {B S : Nat → Nat} (h : ∀ i, B i < 256) (g : ∀ i, S i < 256) (a m i : Nat) : setB B a m S i < 256 := by unfold setB; split; exact g _; exact h _
theorem setW_is (B : Nat → Nat) (a v : Nat) : setW B a v = setB B a 8 (byt v) := rfl
def wordAt (B : Nat → Nat) (a : Nat) : Nat := wsum (fun i => B (a + i)) 8
end Ar
end Go.Proofs.Yticoojcmlkdeiaa
