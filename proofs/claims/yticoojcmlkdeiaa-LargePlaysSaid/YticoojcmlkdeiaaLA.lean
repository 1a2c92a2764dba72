/- Plain facts on numbers of 64 bits, and the walks of what mixes them. -/
import Derived.Test.YticoojcmlkdeiaaGrown
import Derived.Laws.Bits64
import Derived.Laws.BitsAllLaws
namespace Go.Proofs.Yticoojcmlkdeiaa
open Go.RowKit
namespace Li

/-- To mix. -/
def m1 (x : Nat) : Nat := (x ^^^ x / 1073741824) * 13787848793156543929 % 18446744073709551616
def m2 (x : Nat) : Nat := (x ^^^ x / 134217728) * 10723151780598845931 % 18446744073709551616
def m3 (x : Nat) : Nat := x ^^^ x / 2147483648
def mix (x : Nat) : Nat := m3 (m2 (m1 x))
theorem m1_lt (x : Nat) : m1 x < 18446744073709551616 := Nat.mod_lt _ (by decide)
theorem m2_lt (x : Nat) : m2 x < 18446744073709551616 := Nat.mod_lt _ (by decide)
theorem xor_lt {a b : Nat} (ha : a < 18446744073709551616) (hb : b < 18446744073709551616) : a ^^^ b < 18446744073709551616 := Nat.xor_lt_two_pow (n := 64) ha hb
theorem m3_lt {x : Nat} (h : x < 18446744073709551616) : m3 x < 18446744073709551616 := xor_lt h (Nat.lt_of_le_of_lt (Nat.div_le_self _ _) h)
theorem mix_lt (x : Nat) : mix x < 18446744073709551616 := m3_lt (m2_lt _)

/-- The sum of a number of 64 bits and a place, as 64 bits. -/
def sum (k : Nat) (a : Int) : Nat := (((k : Int) + a) % 18446744073709551616).toNat
theorem sum_lt (k : Nat) (a : Int) : sum k a < 18446744073709551616 := by unfold sum; omega
theorem sum_int (k : Nat) (a : Int) : ((sum k a : Nat) : Int) = ((k : Int) + a) % 18446744073709551616 := by unfold sum; omega
/-- A place as 64 bits. -/
def u (a : Int) : Nat := (a % 18446744073709551616).toNat
theorem u_lt (a : Int) : u a < 18446744073709551616 := by unfold u; omega
theorem u_int (a : Int) : ((u a : Nat) : Int) = a % 18446744073709551616 := by unfold u; omega

def mark : Nat := 6510516211317473280
/-- Whether a link may be asked for. -/
def may (a n : Int) : Bool := decide (0 ≤ a) && (decide (-1 ≤ n) && decide (n ≤ 2147483647))
theorem may_iff (a n : Int) : may a n = true ↔ 0 ≤ a ∧ -1 ≤ n ∧ n ≤ 2147483647 := by simp [may]
/-- A link: under the mask lies p, the next plus 1. -/
def lk (k : Nat) (a : Int) (p : Nat) : Nat := (mark ^^^ p) ^^^ mix (sum k a)
def put (k : Nat) (a n : Int) : Nat := if may a n = true then lk k a (n + 1).toNat else 0
theorem lk_lt (k : Nat) (a : Int) {p : Nat} (h : p < 18446744073709551616) : lk k a p < 18446744073709551616 := xor_lt (xor_lt (by unfold mark; omega) h) (mix_lt _)
theorem put_lt (k : Nat) (a n : Int) : put k a n < 18446744073709551616 := by
  unfold put
  split
  · rename_i h
    have := (may_iff a n).1 h
    exact lk_lt k a (by omega)
  · omega
/-- What lies under the mask. -/
def bare (k : Nat) (a : Int) (w : Nat) : Nat := (w ^^^ mix (sum k a)) ^^^ mark
theorem bare_lt (k : Nat) (a : Int) {w : Nat} (h : w < 18446744073709551616) : bare k a w < 18446744073709551616 := xor_lt (xor_lt h (mix_lt _)) (by unfold mark; omega)
theorem bare_lk (k : Nat) (a : Int) (p : Nat) : bare k a (lk k a p) = p := by
  unfold bare lk
  rw [Nat.xor_assoc (mark ^^^ p), Nat.xor_self, Nat.xor_zero, Nat.xor_comm mark p, Nat.xor_assoc, Nat.xor_self, Nat.xor_zero]
theorem lk_bare (k : Nat) (a : Int) (w : Nat) : lk k a (bare k a w) = w := by
  unfold bare lk
  rw [Nat.xor_comm (w ^^^ mix (sum k a)) mark, ← Nat.xor_assoc mark mark, Nat.xor_self, Nat.zero_xor, Nat.xor_assoc, Nat.xor_self, Nat.xor_zero]
theorem bare_xor (k : Nat) (a : Int) (w t : Nat) : bare k a (w ^^^ t) = bare k a w ^^^ t := by
  unfold bare
  rw [Nat.xor_assoc w t, Nat.xor_comm t, ← Nat.xor_assoc, Nat.xor_assoc _ t, Nat.xor_comm t, ← Nat.xor_assoc]
theorem lk_inj {k : Nat} {a : Int} {p q : Nat} (h : lk k a p = lk k a q) : p = q := by rw [← bare_lk k a p, h, bare_lk]

/-- Beside 5A5A in the highest bits a number of the lowest 48 is added as it is laid on. -/
theorem mark_add (p : Nat) (h : p < 281474976710656) : mark + p = mark ^^^ p := by
  have e : mark = 2 ^ 48 * 23130 := by decide
  apply Nat.eq_of_testBit_eq
  intro j
  rw [Nat.testBit_xor, e, Nat.testBit_two_pow_mul_add _ (by simpa using h), Nat.testBit_two_pow_mul]
  by_cases hj : j < 48
  · simp [hj, Nat.not_le.2 hj]
  · have hb : p.testBit j = false := Nat.testBit_lt_two_pow (Nat.lt_of_lt_of_le (by simpa using h) (Nat.pow_le_pow_right (by decide) (by omega : 48 ≤ j)))
    simp [hj, Nat.not_lt.1 hj, hb]
/-- A number of the lowest 32 bits with a bit from the 48th on turned is great. -/
theorem turned_big (p j : Nat) (hp : p < 4294967296) (hj : 48 ≤ j) : 2147483648 < p ^^^ 2 ^ j := by
  have hb : p.testBit j = false := Nat.testBit_lt_two_pow (Nat.lt_of_lt_of_le (by simpa using hp) (Nat.pow_le_pow_right (by decide) (by omega : 32 ≤ j)))
  have ht : (p ^^^ 2 ^ j).testBit j = true := by rw [Nat.testBit_xor, hb, Nat.testBit_two_pow_self]; rfl
  have hge := Nat.ge_two_pow_of_testBit ht
  have h48 : 2 ^ 48 ≤ 2 ^ j := Nat.pow_le_pow_right (by decide) hj
  have : (2147483648 : Nat) < 2 ^ 48 := by decide
  omega
end Li
end Go.Proofs.Yticoojcmlkdeiaa
