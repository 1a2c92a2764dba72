/- Merged texts: Math MathB A B D. -/
import Derived.Lib.TrailingZeros
import Derived.Test.YtgnfcklippjeeaaGreatRows
import Derived.WalkKit
import Derived.WalkSpells
import Derived.WalkLawsBesides
import Derived.Lib.Hide
import Derived.Laws.Bits64b
import Derived.Laws.BitsAllLaws
import Derived.Laws.Bits128
import Derived.LoopTactic
import Derived.Deep.DeepCutAuto
import Derived.Outline
import Derived.Laws.MakeOwn
import Derived.Deep.RegionWith
import Derived.Deep.QuietTactic
import Derived.BigQuiet
/- Plain facts on numbers and bits, of no program: how many bits of a word are one (by halves of bytes, as math/bits.OnesCount64 reckons), words as rows of bits. -/
namespace Go.Proofs.YtgnfcklippjeeaaGreat
namespace M

/-- How many of x's first n bits are one. -/
def cnt (x : Nat) : Nat → Nat
  | 0 => 0
  | n + 1 => cnt x n + (x.testBit n).toNat

def val : List Nat → Nat
  | [] => 0
  | b :: l => b + 256 * val l

def rep (c : Nat) : List Nat → Nat
  | [] => 0
  | _ :: l => c + 256 * rep c l

theorem split256 (N : Nat) : N = N % 256 + 256 * (N / 256) := by omega

theorem and256 (a b c d : Nat) (ha : a < 256) (hc : c < 256) : (a + 256 * b) &&& (c + 256 * d) = (a &&& c) + 256 * (b &&& d) := by
  have e1 : ((a + 256 * b) &&& (c + 256 * d)) % 2 ^ 8 = (a + 256 * b) % 2 ^ 8 &&& (c + 256 * d) % 2 ^ 8 := Nat.and_mod_two_pow ..
  have e2 : ((a + 256 * b) &&& (c + 256 * d)) / 2 ^ 8 = (a + 256 * b) / 2 ^ 8 &&& (c + 256 * d) / 2 ^ 8 := Nat.and_div_two_pow ..
  have p8 : (2 : Nat) ^ 8 = 256 := rfl
  rw [p8] at e1 e2
  have f1 : (a + 256 * b) % 256 = a := by omega
  have f2 : (c + 256 * d) % 256 = c := by omega
  have f3 : (a + 256 * b) / 256 = b := by omega
  have f4 : (c + 256 * d) / 256 = d := by omega
  rw [f1, f2] at e1
  rw [f3, f4] at e2
  rw [split256 ((a + 256 * b) &&& (c + 256 * d)), e1, e2]

def f1 (b : Nat) : Nat := (b / 2 &&& 85) + (b &&& 85)
def f2 (b : Nat) : Nat := (b / 4 &&& 51) + (b &&& 51)
def f3 (b : Nat) : Nat := (b / 16 + b) % 16

theorem f1_lt : ∀ b, b < 256 → f1 b < 256 := by decide +kernel
theorem f2_ok : ∀ b, b < 256 → f2 (f1 b) < 256 ∧ f2 (f1 b) % 16 ≤ 4 ∧ f2 (f1 b) / 16 ≤ 4 := by decide +kernel
theorem shr1_and : ∀ b, b < 256 → ∀ c, c < 2 → (b / 2 + 128 * c) &&& 85 = b / 2 &&& 85 := by decide +kernel
theorem shr2_and : ∀ b, b < 256 → ∀ c, c < 4 → (b / 4 + 64 * c) &&& 51 = b / 4 &&& 51 := by decide +kernel
theorem and15 : ∀ b, b < 256 → b &&& 15 = b % 16 := by decide +kernel
theorem f3_cnt : ∀ b, b < 256 → f3 (f2 (f1 b)) = cnt b 8 := by decide +kernel
theorem cnt8_le : ∀ b, b < 256 → cnt b 8 ≤ 8 := by decide +kernel

theorem step1 : ∀ l : List Nat, (∀ b ∈ l, b < 256) → (val l / 2 &&& rep 85 l) + (val l &&& rep 85 l) = val (l.map f1)
  | [], _ => rfl
  | b :: l, h => by
    have hb : b < 256 := h b (by simp)
    have ih := step1 l (fun x hx => h x (by simp [hx]))
    simp only [val, rep, List.map_cons]
    rw [← ih]
    have e : (b + 256 * val l) / 2 = (b / 2 + 128 * (val l % 2)) + 256 * (val l / 2) := by omega
    rw [e, and256 _ _ 85 _ (by omega) (by omega), and256 b _ 85 _ hb (by omega), shr1_and b hb _ (by omega)]
    unfold f1
    omega

theorem step2 : ∀ l : List Nat, (∀ b ∈ l, b < 256) → (val l / 4 &&& rep 51 l) + (val l &&& rep 51 l) = val (l.map f2)
  | [], _ => rfl
  | b :: l, h => by
    have hb : b < 256 := h b (by simp)
    have ih := step2 l (fun x hx => h x (by simp [hx]))
    simp only [val, rep, List.map_cons]
    rw [← ih]
    have e : (b + 256 * val l) / 4 = (b / 4 + 64 * (val l % 4)) + 256 * (val l / 4) := by omega
    rw [e, and256 _ _ 51 _ (by omega) (by omega), and256 b _ 51 _ hb (by omega), shr2_and b hb _ (by omega)]
    unfold f2
    omega

theorem step3 : ∀ l : List Nat, (∀ b ∈ l, b < 256 ∧ b % 16 ≤ 4 ∧ b / 16 ≤ 4) → (val l / 16 + val l &&& rep 15 l) = val (l.map f3)
  | [], _ => rfl
  | b :: l, h => by
    have hb := h b (by simp)
    have ih := step3 l (fun x hx => h x (by simp [hx]))
    simp only [val, rep, List.map_cons]
    rw [← ih]
    have hv : val l % 16 ≤ 4 := by
      cases l with
      | nil => simp [val]
      | cons c l =>
        have hc := (h c (by simp)).2.1
        simp only [val]
        omega
    have e : (b + 256 * val l) / 16 + (b + 256 * val l) = ((b / 16 + b + 16 * (val l % 16)) % 256) + 256 * (val l / 16 + val l) := by omega
    rw [e, and256 _ _ 15 _ (by omega) (by omega), and15 _ (by omega)]
    unfold f3
    omega

theorem cnt_split (x m : Nat) : ∀ n, cnt x (m + n) = cnt x m + cnt (x / 2 ^ m) n
  | 0 => by simp [cnt]
  | n + 1 => by
    have ih := cnt_split x m n
    show cnt x (m + n) + (x.testBit (m + n)).toNat = cnt x m + (cnt (x / 2 ^ m) n + ((x / 2 ^ m).testBit n).toNat)
    rw [ih, Nat.testBit_div_two_pow, Nat.add_comm n m]
    omega

theorem cnt_mod (x m : Nat) : ∀ n, n ≤ m → cnt (x % 2 ^ m) n = cnt x n
  | 0, _ => rfl
  | n + 1, h => by
    show cnt (x % 2 ^ m) n + ((x % 2 ^ m).testBit n).toNat = cnt x n + (x.testBit n).toNat
    rw [cnt_mod x m n (by omega), Nat.testBit_mod_two_pow]
    simp [show n < m from by omega]

theorem cnt_byte (b v n : Nat) (hb : b < 256) : cnt (b + 256 * v) (8 + n) = cnt b 8 + cnt v n := by
  rw [cnt_split]
  have e1 : (b + 256 * v) / 2 ^ 8 = v := by omega
  have e2 : (b + 256 * v) % 2 ^ 8 = b := by omega
  rw [e1]
  have := cnt_mod (b + 256 * v) 8 8 (Nat.le_refl _)
  rw [e2] at this
  rw [this]

/-- What math/bits.OnesCount64 reckons, in plain numbers. -/
def sw1 (x : Nat) : Nat := (x / 2 &&& 6148914691236517205) + (x &&& 6148914691236517205)
def sw2 (x : Nat) : Nat := (x / 4 &&& 3689348814741910323) + (x &&& 3689348814741910323)
def sw3 (x : Nat) : Nat := (x / 16 + x) &&& 1085102592571150095

theorem byte1 (x : Nat) : x = x % 256 + 256 * (x / 256) := by omega
theorem div8 (x k : Nat) (h : x < 256 * k) : x / 256 < k := by omega
theorem bytes_of (x : Nat) (hx : x < 18446744073709551616) : ∃ b0 b1 b2 b3 b4 b5 b6 b7 : Nat, b0 < 256 ∧ b1 < 256 ∧ b2 < 256 ∧ b3 < 256 ∧ b4 < 256 ∧ b5 < 256 ∧ b6 < 256 ∧ b7 < 256 ∧ x = val [b0, b1, b2, b3, b4, b5, b6, b7] := by
  have m : ∀ y : Nat, y % 256 < 256 := fun y => Nat.mod_lt _ (by decide)
  obtain ⟨x1, e1⟩ : ∃ x1, x1 = x / 256 := ⟨_, rfl⟩
  obtain ⟨x2, e2⟩ : ∃ x2, x2 = x1 / 256 := ⟨_, rfl⟩
  obtain ⟨x3, e3⟩ : ∃ x3, x3 = x2 / 256 := ⟨_, rfl⟩
  obtain ⟨x4, e4⟩ : ∃ x4, x4 = x3 / 256 := ⟨_, rfl⟩
  obtain ⟨x5, e5⟩ : ∃ x5, x5 = x4 / 256 := ⟨_, rfl⟩
  obtain ⟨x6, e6⟩ : ∃ x6, x6 = x5 / 256 := ⟨_, rfl⟩
  obtain ⟨x7, e7⟩ : ∃ x7, x7 = x6 / 256 := ⟨_, rfl⟩
  have l1 : x1 < 72057594037927936 := by rw [e1]; exact div8 _ _ hx
  have l2 : x2 < 281474976710656 := by rw [e2]; exact div8 _ _ l1
  have l3 : x3 < 1099511627776 := by rw [e3]; exact div8 _ _ l2
  have l4 : x4 < 4294967296 := by rw [e4]; exact div8 _ _ l3
  have l5 : x5 < 16777216 := by rw [e5]; exact div8 _ _ l4
  have l6 : x6 < 65536 := by rw [e6]; exact div8 _ _ l5
  have l7 : x7 < 256 := by rw [e7]; exact div8 _ _ l6
  refine ⟨x % 256, x1 % 256, x2 % 256, x3 % 256, x4 % 256, x5 % 256, x6 % 256, x7, m _, m _, m _, m _, m _, m _, m _, l7, ?_⟩
  simp only [val]
  rw [Nat.mul_zero, Nat.add_zero, e7, ← byte1 x6, e6, ← byte1 x5, e5, ← byte1 x4, e4, ← byte1 x3, e3, ← byte1 x2, e2, ← byte1 x1, e1, ← byte1 x]

theorem up1 (c r : Nat) (h : c < 256) : (c + 256 * r) / 256 = r := by omega
theorem up2 (c d r : Nat) (h : c < 256) (k : d < 256) : (c + 256 * (d + 256 * r)) / 65536 = r := by omega
theorem up4 (c d e f r : Nat) (h : c < 256) (k : d < 256) (l : e < 256) (m : f < 256) : (c + 256 * (d + 256 * (e + 256 * (f + 256 * r)))) / 4294967296 = r := by omega
theorem dg (a b r s : Nat) : (a + 256 * r) + (b + 256 * s) = (a + b) + 256 * (r + s) := by omega
theorem dg0 (a b r : Nat) : (a + 256 * r) + b = (a + b) + 256 * r := by omega
theorem lt1 (a r k : Nat) (h : a < 256) (hr : r < k) : a + 256 * r < 256 * k := by omega
theorem s16 (a b : Nat) (h : a ≤ 8) (k : b ≤ 8) : a + b ≤ 16 := by omega
theorem s32 (a b : Nat) (h : a ≤ 16) (k : b ≤ 16) : a + b ≤ 32 := by omega
theorem s64 (a b : Nat) (h : a ≤ 32) (k : b ≤ 32) : a + b ≤ 64 := by omega
theorem mod128 (a r t : Nat) (h : a ≤ 64) (e : a = t) : (a + 256 * r) % 128 = t := by omega
theorem le256 (a : Nat) (h : a ≤ 64) : a < 256 := by omega
theorem sum8 (a b c d e f g h : Nat) : a + b + (c + d) + (e + f + (g + h)) = a + b + c + d + e + f + g + h := by omega
theorem digits (a b c d e f g h : Nat) (ha : a ≤ 64) (hb : b ≤ 64) (hc : c ≤ 64) (hd : d ≤ 64) (he : e ≤ 64) (hf : f ≤ 64) (hg : g ≤ 64) (hh : h ≤ 64) :
    a + 256 * (b + 256 * (c + 256 * (d + 256 * (e + 256 * (f + 256 * (g + 256 * h)))))) < 9223372036854775808 :=
  lt1 _ _ 36028797018963968 (le256 _ ha) (lt1 _ _ 140737488355328 (le256 _ hb) (lt1 _ _ 549755813888 (le256 _ hc) (lt1 _ _ 2147483648 (le256 _ hd) (lt1 _ _ 8388608 (le256 _ he) (lt1 _ _ 32768 (le256 _ hf) (lt1 _ _ 128 (le256 _ hg) (by omega)))))))
theorem lin1 (c0 c1 c2 c3 c4 c5 c6 c7 : Nat) : (c0 + 256 * (c1 + 256 * (c2 + 256 * (c3 + 256 * (c4 + 256 * (c5 + 256 * (c6 + 256 * c7))))))) + (c1 + 256 * (c2 + 256 * (c3 + 256 * (c4 + 256 * (c5 + 256 * (c6 + 256 * c7)))))) =
    (c0 + c1) + 256 * ((c1 + c2) + 256 * ((c2 + c3) + 256 * ((c3 + c4) + 256 * ((c4 + c5) + 256 * ((c5 + c6) + 256 * ((c6 + c7) + 256 * c7)))))) := by
  omega
theorem lin2 (d0 d1 d2 d3 d4 d5 d6 d7 : Nat) : (d0 + 256 * (d1 + 256 * (d2 + 256 * (d3 + 256 * (d4 + 256 * (d5 + 256 * (d6 + 256 * d7))))))) + (d2 + 256 * (d3 + 256 * (d4 + 256 * (d5 + 256 * (d6 + 256 * d7))))) =
    (d0 + d2) + 256 * ((d1 + d3) + 256 * ((d2 + d4) + 256 * ((d3 + d5) + 256 * ((d4 + d6) + 256 * ((d5 + d7) + 256 * (d6 + 256 * d7)))))) := by
  omega
theorem lin4 (d0 d1 d2 d3 d4 d5 d6 d7 : Nat) : (d0 + 256 * (d1 + 256 * (d2 + 256 * (d3 + 256 * (d4 + 256 * (d5 + 256 * (d6 + 256 * d7))))))) + (d4 + 256 * (d5 + 256 * (d6 + 256 * d7))) =
    (d0 + d4) + 256 * ((d1 + d5) + 256 * ((d2 + d6) + 256 * ((d3 + d7) + 256 * (d4 + 256 * (d5 + 256 * (d6 + 256 * d7)))))) := by
  omega
theorem fold_sum (c0 c1 c2 c3 c4 c5 c6 c7 : Nat) (h0 : c0 ≤ 8) (h1 : c1 ≤ 8) (h2 : c2 ≤ 8) (h3 : c3 ≤ 8) (h4 : c4 ≤ 8) (h5 : c5 ≤ 8) (h6 : c6 ≤ 8) (h7 : c7 ≤ 8) (C D E F : Nat)
    (hC : C = val [c0, c1, c2, c3, c4, c5, c6, c7]) (hD : D = C + C / 256) (hE : E = D + D / 65536) (hF : F = E + E / 4294967296) :
    F % 128 = c0 + c1 + c2 + c3 + c4 + c5 + c6 + c7 ∧ D < 18446744073709551616 ∧ E < 18446744073709551616 ∧ F < 9223372036854775808 := by
  have p01 := s16 _ _ h0 h1
  have p12 := s16 _ _ h1 h2
  have p23 := s16 _ _ h2 h3
  have p34 := s16 _ _ h3 h4
  have p45 := s16 _ _ h4 h5
  have p56 := s16 _ _ h5 h6
  have p67 := s16 _ _ h6 h7
  have w8 : ∀ a : Nat, a ≤ 8 → a < 256 := by omega
  have w16 : ∀ a : Nat, a ≤ 16 → a < 256 := by omega
  have w32 : ∀ a : Nat, a ≤ 32 → a < 256 := by omega
  have u8 : ∀ a : Nat, a ≤ 8 → a ≤ 64 := by omega
  have u16 : ∀ a : Nat, a ≤ 16 → a ≤ 64 := by omega
  have u32 : ∀ a : Nat, a ≤ 32 → a ≤ 64 := by omega
  have t8 : ∀ a : Nat, a ≤ 8 → a ≤ 16 := by omega
  have t16 : ∀ a : Nat, a ≤ 16 → a ≤ 32 := by omega
  have q0 := s32 _ _ p01 p23
  have q1 := s32 _ _ p12 p34
  have q2 := s32 _ _ p23 p45
  have q3 := s32 _ _ p34 p56
  have q4 := s32 _ _ p45 p67
  have q5 := s32 _ _ p56 (t8 _ h7)
  have r0 := s64 _ _ q0 q4
  have r1 := s64 _ _ q1 q5
  have r2 := s64 _ _ q2 (t16 _ p67)
  have r3 := s64 _ _ q3 (t16 _ (t8 _ h7))
  simp only [val, Nat.mul_zero, Nat.add_zero] at hC
  have e1 : C / 256 = c1 + 256 * (c2 + 256 * (c3 + 256 * (c4 + 256 * (c5 + 256 * (c6 + 256 * c7))))) := (congrArg (· / 256) hC).trans (up1 _ _ (w8 _ h0))
  have d1 : D = (c0 + c1) + 256 * ((c1 + c2) + 256 * ((c2 + c3) + 256 * ((c3 + c4) + 256 * ((c4 + c5) + 256 * ((c5 + c6) + 256 * ((c6 + c7) + 256 * c7)))))) :=
    (hD.trans (congrArg (C + ·) e1)).trans ((congrArg (· + (c1 + 256 * (c2 + 256 * (c3 + 256 * (c4 + 256 * (c5 + 256 * (c6 + 256 * c7))))))) hC).trans (lin1 ..))
  have e2 : D / 65536 = (c2 + c3) + 256 * ((c3 + c4) + 256 * ((c4 + c5) + 256 * ((c5 + c6) + 256 * ((c6 + c7) + 256 * c7)))) := (congrArg (· / 65536) d1).trans (up2 _ _ _ (w16 _ p01) (w16 _ p12))
  have d2 : E = (c0 + c1 + (c2 + c3)) + 256 * ((c1 + c2 + (c3 + c4)) + 256 * ((c2 + c3 + (c4 + c5)) + 256 * ((c3 + c4 + (c5 + c6)) + 256 * ((c4 + c5 + (c6 + c7)) + 256 * ((c5 + c6 + c7) + 256 * ((c6 + c7) + 256 * c7)))))) :=
    (hE.trans (congrArg (D + ·) e2)).trans ((congrArg (· + ((c2 + c3) + 256 * ((c3 + c4) + 256 * ((c4 + c5) + 256 * ((c5 + c6) + 256 * ((c6 + c7) + 256 * c7)))))) d1).trans (lin2 ..))
  have e3 : E / 4294967296 = (c4 + c5 + (c6 + c7)) + 256 * ((c5 + c6 + c7) + 256 * ((c6 + c7) + 256 * c7)) := (congrArg (· / 4294967296) d2).trans (up4 _ _ _ _ _ (w32 _ q0) (w32 _ q1) (w32 _ q2) (w32 _ q3))
  have d3 : F = (c0 + c1 + (c2 + c3) + (c4 + c5 + (c6 + c7))) + 256 * ((c1 + c2 + (c3 + c4) + (c5 + c6 + c7)) + 256 * ((c2 + c3 + (c4 + c5) + (c6 + c7)) + 256 * ((c3 + c4 + (c5 + c6) + c7) + 256 * ((c4 + c5 + (c6 + c7)) + 256 * ((c5 + c6 + c7) + 256 * ((c6 + c7) + 256 * c7)))))) :=
    (hF.trans (congrArg (E + ·) e3)).trans ((congrArg (· + ((c4 + c5 + (c6 + c7)) + 256 * ((c5 + c6 + c7) + 256 * ((c6 + c7) + 256 * c7)))) d2).trans (lin4 ..))
  have big : ∀ a : Nat, a < 9223372036854775808 → a < 18446744073709551616 := by omega
  refine ⟨?_, ?_, ?_, ?_⟩
  · exact (congrArg (· % 128) d3).trans (mod128 _ _ _ r0 (sum8 ..))
  · exact Nat.lt_of_le_of_lt (Nat.le_of_eq d1) (big _ (digits _ _ _ _ _ _ _ _ (u16 _ p01) (u16 _ p12) (u16 _ p23) (u16 _ p34) (u16 _ p45) (u16 _ p56) (u16 _ p67) (u8 _ h7)))
  · exact Nat.lt_of_le_of_lt (Nat.le_of_eq d2) (big _ (digits _ _ _ _ _ _ _ _ (u32 _ q0) (u32 _ q1) (u32 _ q2) (u32 _ q3) (u32 _ q4) (u32 _ q5) (u16 _ p67) (u8 _ h7)))
  · exact Nat.lt_of_le_of_lt (Nat.le_of_eq d3) (digits _ _ _ _ _ _ _ _ r0 r1 r2 r3 (u32 _ q4) (u32 _ q5) (u16 _ p67) (u8 _ h7))

theorem rep_cons (c b : Nat) (l : List Nat) : rep c (b :: l) = c + 256 * rep c l := rfl
theorem rep_nil (c : Nat) : rep c [] = 0 := rfl
theorem rep85 (b0 b1 b2 b3 b4 b5 b6 b7 : Nat) : rep 85 [b0, b1, b2, b3, b4, b5, b6, b7] = 6148914691236517205 := by
  rw [rep_cons, rep_cons, rep_cons, rep_cons, rep_cons, rep_cons, rep_cons, rep_cons, rep_nil]
theorem rep51 (b0 b1 b2 b3 b4 b5 b6 b7 : Nat) : rep 51 [b0, b1, b2, b3, b4, b5, b6, b7] = 3689348814741910323 := by
  rw [rep_cons, rep_cons, rep_cons, rep_cons, rep_cons, rep_cons, rep_cons, rep_cons, rep_nil]
theorem rep15 (b0 b1 b2 b3 b4 b5 b6 b7 : Nat) : rep 15 [b0, b1, b2, b3, b4, b5, b6, b7] = 1085102592571150095 := by
  rw [rep_cons, rep_cons, rep_cons, rep_cons, rep_cons, rep_cons, rep_cons, rep_cons, rep_nil]
theorem sw_cnt (x : Nat) (hx : x < 18446744073709551616) :
    sw1 x < 18446744073709551616 ∧ sw2 (sw1 x) < 18446744073709551616 ∧ sw2 (sw1 x) / 16 + sw2 (sw1 x) < 18446744073709551616 ∧
    ∃ D E F, D = sw3 (sw2 (sw1 x)) + sw3 (sw2 (sw1 x)) / 256 ∧ E = D + D / 65536 ∧ F = E + E / 4294967296 ∧ D < 18446744073709551616 ∧ E < 18446744073709551616 ∧ F < 9223372036854775808 ∧ F % 128 = cnt x 64 := by
  obtain ⟨b0, b1, b2, b3, b4, b5, b6, b7, h0, h1, h2, h3, h4, h5, h6, h7, rfl⟩ := bytes_of x hx
  have hall : ∀ b ∈ [b0, b1, b2, b3, b4, b5, b6, b7], b < 256 := by simp; omega
  have s1 : sw1 (val [b0, b1, b2, b3, b4, b5, b6, b7]) = val ([b0, b1, b2, b3, b4, b5, b6, b7].map f1) := by
    have t := step1 _ hall
    rw [rep85] at t
    exact t
  have hall1 : ∀ b ∈ [b0, b1, b2, b3, b4, b5, b6, b7].map f1, b < 256 := by
    intro b hb; obtain ⟨c, hc, rfl⟩ := List.mem_map.1 hb; exact f1_lt c (hall c hc)
  have s2 : sw2 (val ([b0, b1, b2, b3, b4, b5, b6, b7].map f1)) = val (([b0, b1, b2, b3, b4, b5, b6, b7].map f1).map f2) := by
    have t := step2 _ hall1
    simp only [List.map_cons, List.map_nil] at t ⊢
    rw [rep51] at t
    exact t
  have hall2 : ∀ b ∈ ([b0, b1, b2, b3, b4, b5, b6, b7].map f1).map f2, b < 256 ∧ b % 16 ≤ 4 ∧ b / 16 ≤ 4 := by
    intro b hb; obtain ⟨c, hc, rfl⟩ := List.mem_map.1 hb; obtain ⟨d, hd, rfl⟩ := List.mem_map.1 hc; exact f2_ok d (hall d hd)
  have s3 : sw3 (val (([b0, b1, b2, b3, b4, b5, b6, b7].map f1).map f2)) = val ((([b0, b1, b2, b3, b4, b5, b6, b7].map f1).map f2).map f3) := by
    have t := step3 _ hall2
    simp only [List.map_cons, List.map_nil] at t ⊢
    rw [rep15] at t
    exact t
  have v1 : val ([b0, b1, b2, b3, b4, b5, b6, b7].map f1) < 18446744073709551616 := by
    have g0 := f1_lt b0 h0; have g1 := f1_lt b1 h1; have g2 := f1_lt b2 h2; have g3 := f1_lt b3 h3; have g4 := f1_lt b4 h4; have g5 := f1_lt b5 h5; have g6 := f1_lt b6 h6; have g7 := f1_lt b7 h7
    simp only [val, List.map_cons, List.map_nil]
    exact lt1 _ _ 72057594037927936 (by omega) (lt1 _ _ 281474976710656 (by omega) (lt1 _ _ 1099511627776 (by omega) (lt1 _ _ 4294967296 (by omega) (lt1 _ _ 16777216 (by omega) (lt1 _ _ 65536 (by omega) (lt1 _ _ 256 (by omega) (by omega)))))))
  have v2 : val (([b0, b1, b2, b3, b4, b5, b6, b7].map f1).map f2) / 16 + val (([b0, b1, b2, b3, b4, b5, b6, b7].map f1).map f2) < 18446744073709551616 := by
    have g0 := f2_ok b0 h0; have g1 := f2_ok b1 h1; have g2 := f2_ok b2 h2; have g3 := f2_ok b3 h3; have g4 := f2_ok b4 h4; have g5 := f2_ok b5 h5; have g6 := f2_ok b6 h6; have g7 := f2_ok b7 h7
    have z : ∀ y : Nat, y < 5000000000000000000 → y / 16 + y < 18446744073709551616 := by omega
    refine z _ ?_
    simp only [val, List.map_cons, List.map_nil]
    exact Nat.lt_of_lt_of_le (lt1 _ _ 19421773393035264 (by omega) (lt1 _ _ 75866302316544 (by omega) (lt1 _ _ 296352743424 (by omega) (lt1 _ _ 1157627904 (by omega) (lt1 _ _ 4521984 (by omega) (lt1 _ _ 17664 (by omega) (lt1 _ _ 69 (by omega) (by omega)))))))) (by decide)
  rw [s1, s2, s3]
  refine ⟨v1, by omega, v2, _, _, _, rfl, rfl, rfl, ?_⟩
  have q := fold_sum (f3 (f2 (f1 b0))) (f3 (f2 (f1 b1))) (f3 (f2 (f1 b2))) (f3 (f2 (f1 b3))) (f3 (f2 (f1 b4))) (f3 (f2 (f1 b5))) (f3 (f2 (f1 b6))) (f3 (f2 (f1 b7)))
    (by rw [f3_cnt _ h0]; exact cnt8_le _ h0) (by rw [f3_cnt _ h1]; exact cnt8_le _ h1) (by rw [f3_cnt _ h2]; exact cnt8_le _ h2) (by rw [f3_cnt _ h3]; exact cnt8_le _ h3)
    (by rw [f3_cnt _ h4]; exact cnt8_le _ h4) (by rw [f3_cnt _ h5]; exact cnt8_le _ h5) (by rw [f3_cnt _ h6]; exact cnt8_le _ h6) (by rw [f3_cnt _ h7]; exact cnt8_le _ h7)
    _ _ _ _ rfl rfl rfl rfl
  refine ⟨q.2.1, q.2.2.1, q.2.2.2, ?_⟩
  refine Eq.trans q.1 ?_
  rw [f3_cnt _ h0, f3_cnt _ h1, f3_cnt _ h2, f3_cnt _ h3, f3_cnt _ h4, f3_cnt _ h5, f3_cnt _ h6, f3_cnt _ h7]
  have t : cnt (val [b0, b1, b2, b3, b4, b5, b6, b7]) (8 + (8 + (8 + (8 + (8 + (8 + (8 + (8 + 0)))))))) = cnt b0 8 + (cnt b1 8 + (cnt b2 8 + (cnt b3 8 + (cnt b4 8 + (cnt b5 8 + (cnt b6 8 + (cnt b7 8 + cnt 0 0))))))) := by
    simp only [val]
    rw [cnt_byte b0 _ _ h0, cnt_byte b1 _ _ h1, cnt_byte b2 _ _ h2, cnt_byte b3 _ _ h3, cnt_byte b4 _ _ h4, cnt_byte b5 _ _ h5, cnt_byte b6 _ _ h6, cnt_byte b7 _ _ h7]
  have t' : cnt (val [b0, b1, b2, b3, b4, b5, b6, b7]) 64 = cnt b0 8 + (cnt b1 8 + (cnt b2 8 + (cnt b3 8 + (cnt b4 8 + (cnt b5 8 + (cnt b6 8 + (cnt b7 8 + cnt 0 0))))))) := t
  rw [t', show cnt 0 0 = 0 from rfl]
  omega

/-- Bit i of a row of words. -/
def bit (ws : List Nat) (i : Nat) : Bool := (ws.getD (i / 64) 0).testBit (i % 64)

end M
end Go.Proofs.YtgnfcklippjeeaaGreat

/- Plain facts on rows of bits, of no program: what a row holds behind a Put; the lowest bit of a word; the words that Next looks at; how many bits there are. -/
namespace Go.Proofs.YtgnfcklippjeeaaGreat
namespace M

theorem getD_set (ws : List Nat) (a y k : Nat) (h : a < ws.length) : (ws.set a y).getD k 0 = if k = a then y else ws.getD k 0 := by
  simp only [List.getD_eq_getElem?_getD, List.getElem?_set]
  by_cases e : a = k
  · subst e; simp [h]
  · simp [e, show ¬ k = a from fun x => e x.symm]

theorem all64 : (18446744073709551615 : Nat) = 2 ^ 64 - 1 := rfl
theorem testBit_not (x m : Nat) (hx : x < 18446744073709551616) : (18446744073709551615 - x).testBit m = (decide (m < 64) && !x.testBit m) := by
  have h : x < 2 ^ 64 := hx
  have e : 18446744073709551615 - x = 2 ^ 64 - (x + 1) := by omega
  rw [e, Nat.testBit_two_pow_sub_succ h]

def putW (x m : Nat) (v : Bool) : Nat := if v then x ||| 2 ^ m else x &&& (18446744073709551615 - 2 ^ m)
def put (ws : List Nat) (i : Nat) (v : Bool) : List Nat := ws.set (i / 64) (putW (ws.getD (i / 64) 0) (i % 64) v)

theorem pow_lt (m : Nat) (h : m < 64) : 2 ^ m < 18446744073709551616 := Nat.pow_lt_pow_right (by decide) h
theorem putW_lt (x m : Nat) (v : Bool) (hx : x < 18446744073709551616) (hm : m < 64) : putW x m v < 18446744073709551616 := by
  unfold putW
  cases v
  · exact Nat.lt_of_le_of_lt Nat.and_le_left hx
  · exact Nat.or_lt_two_pow (n := 64) hx (pow_lt m hm)
theorem testBit_putW (x m k : Nat) (v : Bool) (hm : m < 64) (hk : k < 64) : (putW x m v).testBit k = if k = m then v else x.testBit k := by
  unfold putW
  cases v
  · simp only [Bool.false_eq_true, if_false, Nat.testBit_and]
    rw [testBit_not _ _ (pow_lt m hm), Nat.testBit_two_pow]
    by_cases e : k = m
    · simp [e]
    · simp [e, hk, show ¬ m = k from fun x => e x.symm]
  · simp only [if_true, Nat.testBit_or, Nat.testBit_two_pow]
    by_cases e : k = m
    · simp [e]
    · simp [e, show ¬ m = k from fun x => e x.symm]

theorem length_put (ws : List Nat) (i : Nat) (v : Bool) : (put ws i v).length = ws.length := by simp [put]
theorem getD_put (ws : List Nat) (i k : Nat) (v : Bool) (h : i / 64 < ws.length) : (put ws i v).getD k 0 = if k = i / 64 then putW (ws.getD (i / 64) 0) (i % 64) v else ws.getD k 0 := getD_set _ _ _ _ h
theorem bit_put (ws : List Nat) (i j : Nat) (v : Bool) (h : i / 64 < ws.length) : bit (put ws i v) j = if j = i then v else bit ws j := by
  unfold bit
  rw [getD_put ws i _ v h]
  by_cases e : j / 64 = i / 64
  · rw [if_pos e, testBit_putW _ _ _ _ (by omega) (by omega), e]
    by_cases e2 : j % 64 = i % 64
    · rw [if_pos e2, if_pos (by omega)]
    · rw [if_neg e2, if_neg (by intro x; exact e2 (by rw [x]))]
  · rw [if_neg e, if_neg (by intro x; exact e (by rw [x]))]
theorem put_lt (ws : List Nat) (i : Nat) (v : Bool) (h : i / 64 < ws.length) (hl : ∀ k, ws.getD k 0 < 18446744073709551616) (k : Nat) : (put ws i v).getD k 0 < 18446744073709551616 := by
  rw [getD_put ws i _ v h]
  split
  · exact putW_lt _ _ _ (hl _) (by omega)
  · exact hl k

theorem and1_bool (y : Nat) : (((y &&& 1 : Nat) : Int) == 1) = decide (y % 2 = 1) := by
  rw [Nat.and_one_is_mod, Bool.eq_iff_iff, beq_iff_eq, decide_eq_true_iff]
  omega

/-- The lowest bit of a word. -/
theorem ctz_low (x : Nat) (hx : x < 18446744073709551616) (h0 : x ≠ 0) : Lib.ctz 64 x < 64 ∧ x.testBit (Lib.ctz 64 x) = true ∧ ∀ m, m < Lib.ctz 64 x → x.testBit m = false := by
  have h : x < 2 ^ 64 := hx
  have e : Lib.ctz 64 x = Lib.ctzFrom 64 x := by simp [Lib.ctz, h0]
  rw [e]
  obtain ⟨m, hm, hk⟩ := Lib.ctzFrom_spec 64 x (by omega) h
  clear e h hx h0
  generalize Lib.ctzFrom 64 x = c at *
  subst hm
  rw [Nat.mul_comm]
  refine ⟨hk, ?_, fun j hj => ?_⟩
  · rw [Nat.testBit_mul_two_pow]
    simp
  · rw [Nat.testBit_mul_two_pow]
    simp; omega

/-- Word k with a 1 for each bit that is v. -/
def alike (x : Nat) (v : Bool) : Nat := if v then x else 18446744073709551615 - x
theorem alike_lt (x : Nat) (v : Bool) (hx : x < 18446744073709551616) : alike x v < 18446744073709551616 := by unfold alike; split <;> omega
theorem testBit_alike (x m : Nat) (v : Bool) (hx : x < 18446744073709551616) (hm : m < 64) : (alike x v).testBit m = (x.testBit m == v) := by
  unfold alike
  cases v
  · simp [testBit_not x m hx, hm]
  · simp
/-- The word that Next looks at: what lies ahead of bit f is struck. -/
def look (x : Nat) (v : Bool) (f : Nat) : Nat := alike x v &&& (18446744073709551615 - (2 ^ f - 1))
theorem look_lt (x f : Nat) (v : Bool) (hx : x < 18446744073709551616) : look x v f < 18446744073709551616 := Nat.lt_of_le_of_lt Nat.and_le_left (alike_lt x v hx)
theorem testBit_look (x m f : Nat) (v : Bool) (hx : x < 18446744073709551616) (hm : m < 64) (hf : f < 64) : (look x v f).testBit m = ((x.testBit m == v) && decide (f ≤ m)) := by
  unfold look
  have hp := pow_lt f hf
  rw [Nat.testBit_and, testBit_alike x m v hx hm, testBit_not _ _ (by omega), Nat.testBit_two_pow_sub_one]
  by_cases e : f ≤ m
  · simp [hm, e, show ¬ m < f from by omega]
  · simp [e, show m < f from by omega]

/-- The first bit from bit f on that is v, as Next tells it. -/
def First (ws : List Nat) (n f : Nat) (v : Bool) (j : Nat) : Prop := f ≤ j ∧ j < n ∧ bit ws j = v ∧ ∀ i, f ≤ i → i < j → bit ws i = !v
def Gone (ws : List Nat) (n f : Nat) (v : Bool) (k : Nat) : Prop := ∀ i, f ≤ i → i < 64 * k → i < n → bit ws i = !v

/-- how far the first looked-at word is struck -/
def ahead (f k : Nat) : Nat := if k = 0 then f % 64 else 0
theorem ahead_lt (f k : Nat) : ahead f k < 64 := by unfold ahead; split <;> omega

theorem bit_word (ws : List Nat) (k m : Nat) (hm : m < 64) : bit ws (64 * k + m) = (ws.getD k 0).testBit m := by
  unfold bit
  have e1 : (64 * k + m) / 64 = k := by omega
  have e2 : (64 * k + m) % 64 = m := by omega
  rw [e1, e2]

theorem bne_of {a v : Bool} (h : (a == v) = false) : a = !v := by cases a <;> cases v <;> simp_all

theorem gone_zero (ws : List Nat) (n f : Nat) (v : Bool) : Gone ws n f v (f / 64) := fun i h1 h2 _ => by omega

theorem gone_word (ws : List Nat) (n f k : Nat) (v : Bool) (hl : ∀ k, ws.getD k 0 < 18446744073709551616) (h : Gone ws n f v (f / 64 + k)) (hz : look (ws.getD (f / 64 + k) 0) v (ahead f k) = 0) : Gone ws n f v (f / 64 + k + 1) := by
  intro i h1 h2 h3
  by_cases hi : i < 64 * (f / 64 + k)
  · exact h i h1 hi h3
  · obtain ⟨m, rfl⟩ : ∃ m, i = 64 * (f / 64 + k) + m := ⟨i - 64 * (f / 64 + k), by omega⟩
    have hm : m < 64 := by omega
    rw [bit_word ws _ m hm]
    have t := testBit_look (ws.getD (f / 64 + k) 0) m (ahead f k) v (hl _) hm (ahead_lt f k)
    rw [hz, Nat.zero_testBit] at t
    have ha : ahead f k ≤ m := by unfold ahead; split <;> omega
    simp only [ha, decide_true, Bool.and_true] at t
    exact bne_of t.symm

theorem low_word (ws : List Nat) (n f k c : Nat) (v : Bool) (hl : ∀ k, ws.getD k 0 < 18446744073709551616) (h : Gone ws n f v (f / 64 + k)) (hc : c < 64)
    (h1 : (look (ws.getD (f / 64 + k) 0) v (ahead f k)).testBit c = true) (h2 : ∀ m, m < c → (look (ws.getD (f / 64 + k) 0) v (ahead f k)).testBit m = false) :
    f ≤ 64 * (f / 64 + k) + c ∧ bit ws (64 * (f / 64 + k) + c) = v ∧ ∀ i, f ≤ i → i < 64 * (f / 64 + k) + c → i < n → bit ws i = !v := by
  rw [testBit_look _ c _ v (hl _) hc (ahead_lt f k)] at h1
  simp only [Bool.and_eq_true, beq_iff_eq, decide_eq_true_eq] at h1
  refine ⟨?_, by rw [bit_word ws _ c hc]; exact h1.1, fun i g1 g2 g3 => ?_⟩
  · have := h1.2
    unfold ahead at this
    split at this <;> omega
  · by_cases hi : i < 64 * (f / 64 + k)
    · exact h i g1 hi g3
    · obtain ⟨m, rfl⟩ : ∃ m, i = 64 * (f / 64 + k) + m := ⟨i - 64 * (f / 64 + k), by omega⟩
      have hm : m < 64 := by omega
      have t := h2 m (by omega)
      rw [testBit_look _ m _ v (hl _) hm (ahead_lt f k)] at t
      have ha : ahead f k ≤ m := by unfold ahead; split <;> omega
      simp only [ha, decide_true, Bool.and_true] at t
      rw [bit_word ws _ m hm]
      exact bne_of t

/-- How many of the first words' bits are one; how many of the first m bits are. -/
def sumTo (ws : List Nat) : Nat → Nat
  | 0 => 0
  | k + 1 => sumTo ws k + cnt (ws.getD k 0) 64
def tot (ws : List Nat) : Nat → Nat
  | 0 => 0
  | m + 1 => tot ws m + (bit ws m).toNat
theorem tot_word (ws : List Nat) (k : Nat) : ∀ m, m ≤ 64 → tot ws (64 * k + m) = tot ws (64 * k) + cnt (ws.getD k 0) m
  | 0, _ => rfl
  | m + 1, h => by
    show tot ws (64 * k + m) + (bit ws (64 * k + m)).toNat = tot ws (64 * k) + (cnt (ws.getD k 0) m + ((ws.getD k 0).testBit m).toNat)
    rw [tot_word ws k m (by omega), bit_word ws k m (by omega)]
    omega
theorem sumTo_tot (ws : List Nat) : ∀ k, sumTo ws k = tot ws (64 * k)
  | 0 => rfl
  | k + 1 => by
    show sumTo ws k + _ = _
    rw [sumTo_tot ws k, show 64 * (k + 1) = 64 * k + 64 from by omega, tot_word ws k 64 (Nat.le_refl _)]
theorem tot_top (ws : List Nat) (n : Nat) (h : ∀ i, n ≤ i → bit ws i = false) : ∀ d, tot ws (n + d) = tot ws n
  | 0 => rfl
  | d + 1 => by
    show tot ws (n + d) + (bit ws (n + d)).toNat = _
    rw [tot_top ws n h d, h (n + d) (by omega)]
    rfl
theorem tot_le (ws : List Nat) : ∀ m, tot ws m ≤ m
  | 0 => Nat.le_refl _
  | m + 1 => by
    show tot ws m + (bit ws m).toNat ≤ m + 1
    have := tot_le ws m
    have := Bool.toNat_le (bit ws m)
    omega
theorem sumTo_all (ws : List Nat) (n : Nat) (hlen : ws.length = (n + 63) / 64) (h : ∀ i, n ≤ i → bit ws i = false) : sumTo ws ws.length = tot ws n := by
  rw [sumTo_tot, show 64 * ws.length = n + (64 * ws.length - n) from by omega, tot_top ws n h]
theorem sumTo_le (ws : List Nat) (k : Nat) : sumTo ws k ≤ 64 * k := by rw [sumTo_tot]; exact tot_le ws _

/-- The places of those of the first m bits that are one. -/
def places (ws : List Nat) : Nat → List Nat
  | 0 => []
  | m + 1 => if bit ws m then places ws m ++ [m] else places ws m
theorem length_places (ws : List Nat) : ∀ m, (places ws m).length = tot ws m
  | 0 => rfl
  | m + 1 => by
    have ih := length_places ws m
    simp only [places, tot]
    cases bit ws m <;> simp [ih]

end M
end Go.Proofs.YtgnfcklippjeeaaGreat

/- The walks of what reads: math/bits.OnesCount64 and TrailingZeros64, and of bitset the methods Len, there, Has, alike. -/
namespace Go.Proofs.YtgnfcklippjeeaaGreat.Bs
open Go.RowKit

theorem ret_int {k : IntKind} {a b : Int} (h : a = b) : Ending.returned (.int k a) = .returned (.int k b) := by rw [h]
theorem ret_bool {a b : Bool} (h : a = b) : Ending.returned (.bool a) = .returned (.bool b) := by rw [h]

theorem and_c (x c : Nat) (X C : Int) (hx : x < 18446744073709551616) (hc : c < 18446744073709551616) (h1 : X = x) (h2 : C = c) : bits .and .u64 X C = ((x &&& c : Nat) : Int) := by
  rw [h1, h2]; exact bits_and_u64_nat x c hx hc
theorem or_c (x c : Nat) (X C : Int) (hx : x < 18446744073709551616) (hc : c < 18446744073709551616) (h1 : X = x) (h2 : C = c) : bits .or .u64 X C = ((x ||| c : Nat) : Int) := by
  rw [h1, h2]; exact u64_or_nat x c hx hc
theorem andNot_c (x c : Nat) (X C : Int) (hx : x < 18446744073709551616) (hc : c < 18446744073709551616) (h1 : X = x) (h2 : C = c) : bits .andNot .u64 X C = ((x &&& (18446744073709551615 - c) : Nat) : Int) := by
  rw [h1, h2]; exact u64_andNot_nat x c hx hc
theorem wrap_c (x : Nat) (X : Int) (hx : x < 18446744073709551616) (h1 : X = x) : IntKind.u64.wrap X = (x : Int) := by
  rw [h1, IntKind.wrap_u64]; omega

theorem tz_key (x a : Nat) (hx : x < 18446744073709551616) (hx0 : x ≠ 0) (hlow : x &&& (18446744073709551616 - x) = a) :
    IntKind.u64.wrap (bits BinOp.and IntKind.u64 (x : Int) (IntKind.u64.wrap (-(x : Int))) * 285870213051353865) / 288230376151711744 = ((a * 285870213051353865 % 18446744073709551616 / 288230376151711744 : Nat) : Int) := by
  have e1 : IntKind.u64.wrap (-(x : Int)) = ((18446744073709551616 - x : Nat) : Int) := by rw [IntKind.wrap_u64]; omega
  rw [e1, bits_and_u64_nat x _ hx (by omega), hlow, IntKind.wrap_u64]
  omega
/-- A row of n bits: the object at block p, its words at block q. -/
structure SetAt (w : World) (p q n cap : Nat) (ws : List Nat) : Prop where
  c0 : w.cell? ⟨p, 0, none⟩ = some (.int .i64 n)
  c1 : w.cell? ⟨p, 1, none⟩ = some (.slice (some ⟨q, 0, none⟩) ws.length cap)
  row : ∀ k, k < ws.length → w.cell? ⟨q, k, none⟩ = some (.int .u64 (ws.getD k 0 : Nat))
  fz : ∀ k, w.frozen? ⟨q, k, none⟩ = false
  ne : p ≠ q
  qlt : q < w.heap.size
  hcap : ws.length ≤ cap
  len : ws.length = (n + 63) / 64
  small : n ≤ 65536
  lt : ∀ k, ws.getD k 0 < 18446744073709551616
  top : ∀ i, n ≤ i → M.bit ws i = false

set_option maxHeartbeats 400000 in
theorem len_nil (w : World) :
    Calls Tryz.prog 178 #[.pointer none] w fun e w' => e = .returned (.int .i64 0) ∧ w = w' := by
  go_enter Tryz.func178, Tryz.ntmps178
  go_wp2
  go_ret
  exact ⟨rfl, rfl⟩
set_option maxHeartbeats 400000 in
theorem len_core (p : Nat) (n : Int) (w : World) (h0 : w.cell? ⟨p, 0, none⟩ = some (.int .i64 n)) :
    Calls Tryz.prog 178 #[.pointer (some ⟨p, 0, none⟩)] w fun e w' => e = .returned (.int .i64 n) ∧ w = w' := by
  go_enter Tryz.func178, Tryz.ntmps178
  go_wp2
  go_ret
  exact ⟨rfl, rfl⟩
theorem len_at {w : World} {p q n cap : Nat} {ws : List Nat} (h : SetAt w p q n cap ws) :
    Calls Tryz.prog 178 #[.pointer (some ⟨p, 0, none⟩)] w fun e w' => e = .returned (.int .i64 n) ∧ w = w' := len_core p n w h.c0

set_option maxHeartbeats 400000 in
/-- there, of a number below 0: of whatever row. -/
theorem there_neg (v : Value) (i : Int) (w : World) (hi : i < 0) :
    Calls Tryz.prog 173 #[v, .int .i64 i] w fun e w' => e = .returned (.bool false) ∧ w = w' := by
  have hd : decide (0 ≤ i) = false := by simp; omega
  go_enter Tryz.func173, Tryz.ntmps173
  go_wp2
  go_ret
  exact ⟨rfl, rfl⟩
set_option maxHeartbeats 400000 in
theorem there_core (v : Value) (i n : Int) (b : Bool) (w : World) (hi : 0 ≤ i) (hb : decide (i < n) = b)
    (hl : Calls Tryz.prog 178 #[v] w fun e w' => e = .returned (.int .i64 n) ∧ w = w') :
    Calls Tryz.prog 173 #[v, .int .i64 i] w fun e w' => e = .returned (.bool b) ∧ w = w' := by
  have hd : decide (0 ≤ i) = true := by simp; omega
  have HL := Lib.hid hl
  clear hl
  have HB := Lib.hid hb
  clear hb
  go_enter Tryz.func173, Tryz.ntmps173
  go_wp2_with (go_at_call 178; refine HL.out.mono ?_; rintro e w' ⟨rfl, rfl⟩)
  go_ret
  exact ⟨ret_bool HB.out, rfl⟩
theorem there_in {w : World} {p q n cap : Nat} {ws : List Nat} (h : SetAt w p q n cap ws) (i : Int) (h0 : 0 ≤ i) (hi : i < n) :
    Calls Tryz.prog 173 #[.pointer (some ⟨p, 0, none⟩), .int .i64 i] w fun e w' => e = .returned (.bool true) ∧ w = w' :=
  there_core _ i n true w h0 (by simp; omega) (len_at h)
theorem there_out {w : World} {p q n cap : Nat} {ws : List Nat} (h : SetAt w p q n cap ws) (i : Int) (hi : ¬ (0 ≤ i ∧ i < n)) :
    Calls Tryz.prog 173 #[.pointer (some ⟨p, 0, none⟩), .int .i64 i] w fun e w' => e = .returned (.bool false) ∧ w = w' := by
  by_cases h0 : 0 ≤ i
  · exact there_core _ i n false w h0 (by simp; omega) (len_at h)
  · exact there_neg _ i w (by omega)
theorem there_nil (i : Int) (w : World) :
    Calls Tryz.prog 173 #[.pointer none, .int .i64 i] w fun e w' => e = .returned (.bool false) ∧ w = w' := by
  by_cases h0 : 0 ≤ i
  · exact there_core _ i 0 false w h0 (by simp; omega) (len_nil w)
  · exact there_neg _ i w (by omega)

set_option maxHeartbeats 400000 in
theorem has_out (v : Value) (i : Int) (w : World)
    (hl : Calls Tryz.prog 173 #[v, .int .i64 i] w fun e w' => e = .returned (.bool false) ∧ w = w') :
    Calls Tryz.prog 123 #[v, .int .i64 i] w fun e w' => e = .returned (.bool false) ∧ w = w' := by
  have HL := Lib.hid hl
  clear hl
  go_enter Tryz.func123, Tryz.ntmps123
  go_wp2_with (go_at_call 173; refine HL.out.mono ?_; rintro e w' ⟨rfl, rfl⟩)
  go_ret
  exact ⟨rfl, rfl⟩
set_option maxHeartbeats 400000 in
theorem has_core (p q len cap i x : Nat) (b : Bool) (w : World) (hil : i / 64 < len) (hi : (i : Int) ≤ 65536) (h1 : w.cell? ⟨p, 1, none⟩ = some (.slice (some ⟨q, 0, none⟩) len cap))
    (hc : w.cell? ⟨q, i / 64, none⟩ = some (.int .u64 x))
    (hb : (bits .and .u64 ((x : Int) / 2 ^ (i % 64)) 1 == 1) = b)
    (hl : Calls Tryz.prog 173 #[.pointer (some ⟨p, 0, none⟩), .int .i64 i] w fun e w' => e = .returned (.bool true) ∧ w = w') :
    Calls Tryz.prog 123 #[.pointer (some ⟨p, 0, none⟩), .int .i64 i] w fun e w' => e = .returned (.bool b) ∧ w = w' := by
  have HL := Lib.hid hl
  clear hl
  have HB := Lib.hid hb
  clear hb
  go_enter Tryz.func123, Tryz.ntmps123
  go_wp2_with (go_at_call 173; refine HL.out.mono ?_; rintro e w' ⟨rfl, rfl⟩)
  go_ret
  exact ⟨ret_bool HB.out, rfl⟩
end Go.Proofs.YtgnfcklippjeeaaGreat.Bs

/- The walks of bitset's methods Has and Put on a row that stands as SetAt says, and what Put leaves. -/
namespace Go.Proofs.YtgnfcklippjeeaaGreat.Bs
open Go.RowKit

theorem has_at {w : World} {p q n cap : Nat} {ws : List Nat} (h : SetAt w p q n cap ws) (i : Int) :
    Calls Tryz.prog 123 #[.pointer (some ⟨p, 0, none⟩), .int .i64 i] w fun e w' => e = .returned (.bool (decide (0 ≤ i) && M.bit ws i.toNat)) ∧ w = w' := by
  have hs := h.small
  have hlen := h.len
  by_cases hi : 0 ≤ i ∧ i < n
  · obtain ⟨k, rfl⟩ : ∃ k : Nat, i = k := ⟨i.toNat, by omega⟩
    have hk : k < n := by omega
    have hkl : k / 64 < ws.length := by omega
    refine (has_core p q ws.length cap k (ws.getD (k / 64) 0) _ w hkl (by omega) h.c1 (h.row _ hkl) rfl (there_in h k (by omega) (by omega))).mono ?_
    rintro e w' ⟨he, hw⟩
    refine ⟨he.trans (ret_bool ?_), hw⟩
    have hx := h.lt (k / 64)
    have e1 : bits .and .u64 (((ws.getD (k / 64) 0 : Nat) : Int) / 2 ^ (k % 64)) 1 = ((ws.getD (k / 64) 0 / 2 ^ (k % 64) &&& 1 : Nat) : Int) :=
      and_c _ 1 _ _ (Nat.lt_of_le_of_lt (Nat.div_le_self _ _) hx) (by decide) (by simp) rfl
    rw [e1, Int.toNat_natCast]
    unfold M.bit
    rw [Nat.testBit_eq_decide_div_mod_eq, M.and1_bool]
    simp
  · refine (has_out _ i w (there_out h i hi)).mono ?_
    rintro e w' ⟨he, hw⟩
    refine ⟨he.trans (ret_bool ?_), hw⟩
    by_cases h0 : 0 ≤ i
    · rw [h.top i.toNat (by omega)]; simp
    · simp; omega
theorem has_nil (i : Int) (w : World) :
    Calls Tryz.prog 123 #[.pointer none, .int .i64 i] w fun e w' => e = .returned (.bool false) ∧ w = w' := has_out _ i w (there_nil i w)

set_option maxHeartbeats 400000 in
theorem put_nil (i : Int) (v : Bool) (w : World) :
    Calls Tryz.prog 128 #[.pointer none, .int .i64 i, .bool v] w fun e w' => e = .returned (.int .i64 2) ∧ w = w' := by
  go_enter Tryz.func128, Tryz.ntmps128
  go_wp2
  go_ret
  exact ⟨rfl, rfl⟩
set_option maxHeartbeats 400000 in
theorem put_out_core (p : Nat) (i : Int) (v : Bool) (w : World)
    (hl : Calls Tryz.prog 173 #[.pointer (some ⟨p, 0, none⟩), .int .i64 i] w fun e w' => e = .returned (.bool false) ∧ w = w') :
    Calls Tryz.prog 128 #[.pointer (some ⟨p, 0, none⟩), .int .i64 i, .bool v] w fun e w' => e = .returned (.int .i64 3) ∧ w = w' := by
  have HL := Lib.hid hl
  clear hl
  go_enter Tryz.func128, Tryz.ntmps128
  go_wp2_with (go_at_call 173; refine HL.out.mono ?_; rintro e w' ⟨rfl, rfl⟩)
  go_ret
  exact ⟨rfl, rfl⟩
set_option maxHeartbeats 400000 in
theorem put_t_core (p q i len cap x : Nat) (w : World) (h1 : w.cell? ⟨p, 1, none⟩ = some (.slice (some ⟨q, 0, none⟩) len cap)) (hil : i / 64 < len) (hi : (i : Int) ≤ 65536)
    (hc : w.cell? ⟨q, i / 64, none⟩ = some (.int .u64 x)) (hf : w.frozen? ⟨q, i / 64, none⟩ = false)
    (hl : Calls Tryz.prog 173 #[.pointer (some ⟨p, 0, none⟩), .int .i64 i] w fun e w' => e = .returned (.bool true) ∧ w = w') :
    Calls Tryz.prog 128 #[.pointer (some ⟨p, 0, none⟩), .int .i64 i, .bool true] w fun e w' => e = .returned (.int .i64 0) ∧
      w' = (w.setCell ⟨q, i / 64, none⟩ (.int .u64 (bits .or .u64 x (IntKind.u64.wrap (2 ^ (i % 64)))))).drew := by
  have HL := Lib.hid hl
  clear hl
  go_enter Tryz.func128, Tryz.ntmps128
  go_wp2_with (go_at_call 173; refine HL.out.mono ?_; rintro e w' ⟨rfl, rfl⟩)
  go_region
  go_wp2
  go_ret
  exact ⟨rfl, rfl⟩
set_option maxHeartbeats 400000 in
theorem put_f_core (p q i len cap x : Nat) (w : World) (h1 : w.cell? ⟨p, 1, none⟩ = some (.slice (some ⟨q, 0, none⟩) len cap)) (hil : i / 64 < len) (hi : (i : Int) ≤ 65536)
    (hc : w.cell? ⟨q, i / 64, none⟩ = some (.int .u64 x)) (hf : w.frozen? ⟨q, i / 64, none⟩ = false)
    (hl : Calls Tryz.prog 173 #[.pointer (some ⟨p, 0, none⟩), .int .i64 i] w fun e w' => e = .returned (.bool true) ∧ w = w') :
    Calls Tryz.prog 128 #[.pointer (some ⟨p, 0, none⟩), .int .i64 i, .bool false] w fun e w' => e = .returned (.int .i64 0) ∧
      w' = (w.setCell ⟨q, i / 64, none⟩ (.int .u64 (bits .andNot .u64 x (IntKind.u64.wrap (2 ^ (i % 64)))))).drew := by
  have HL := Lib.hid hl
  clear hl
  go_enter Tryz.func128, Tryz.ntmps128
  go_wp2_with (go_at_call 173; refine HL.out.mono ?_; rintro e w' ⟨rfl, rfl⟩)
  go_region
  go_wp2
  go_ret
  exact ⟨rfl, rfl⟩

theorem putW_int (x m : Nat) (v : Bool) (hx : x < 18446744073709551616) (hm : m < 64) :
    (bits (if v then .or else .andNot) .u64 (x : Int) (IntKind.u64.wrap (2 ^ m))) = (M.putW x m v : Nat) := by
  have hp := M.pow_lt m hm
  have e : IntKind.u64.wrap (2 ^ m) = ((2 ^ m : Nat) : Int) := wrap_c _ _ hp (by simp)
  rw [e]
  cases v
  · exact andNot_c _ _ _ _ hx hp rfl rfl
  · exact or_c _ _ _ _ hx hp rfl rfl

theorem SetAt.grown {w w' : World} {p q n cap : Nat} {ws : List Nat} (h : SetAt w p q n cap ws) {r : Option Nat} (hg : w.grownBy w' r) (hp : some p ≠ r) (hq : some q ≠ r) : SetAt w' p q n cap ws where
  c0 := hg.cell h.c0 hp
  c1 := hg.cell h.c1 hp
  row := fun k hk => hg.cell (h.row k hk) hq
  fz := fun k => by rw [World.frozen?_of_block (w := w) (hg.block q h.qlt hq)]; exact h.fz k
  ne := h.ne
  qlt := Nat.lt_of_lt_of_le h.qlt hg.size
  hcap := h.hcap
  len := h.len
  small := h.small
  lt := h.lt
  top := h.top

theorem setCell_grown (w : World) (q k : Nat) (v : Value) : w.grownBy (w.setCell ⟨q, k, none⟩ v).drew (some q) where
  os := rfl
  tape := rfl
  output := rfl
  size := by simp [World.setCell, World.drew]
  block := fun i _ hq => Below.heap_setCell w ⟨q, k, none⟩ v i (fun e => hq (by rw [e]))

theorem SetAt.put {w : World} {p q n cap : Nat} {ws : List Nat} (h : SetAt w p q n cap ws) (i : Nat) (hi : i < n) (v : Bool) :
    SetAt (w.setCell ⟨q, i / 64, none⟩ (.int .u64 (M.putW (ws.getD (i / 64) 0) (i % 64) v : Nat))).drew p q n cap (M.put ws i v) := by
  have hl : i / 64 < ws.length := by have := h.len; omega
  have hg := setCell_grown w q (i / 64) (.int .u64 (M.putW (ws.getD (i / 64) 0) (i % 64) v : Nat))
  have hne : some p ≠ some q := fun e => h.ne (Option.some.inj e)
  exact {
    c0 := hg.cell h.c0 hne
    c1 := by rw [M.length_put]; exact hg.cell h.c1 hne
    row := fun k hk => by
      rw [M.length_put] at hk
      rw [M.getD_put ws i k v hl, World.cell?_drew]
      by_cases e : k = i / 64
      · subst e
        rw [if_pos rfl]
        exact World.cell?_setCell_same w ⟨q, i / 64, none⟩ _ (h.row _ hl)
      · rw [if_neg e, World.cell?_setCell_other w _ _ _ (by intro x; exact e (by injection x with _ y _; exact y.symm))]
        exact h.row k hk
    fz := fun k => by rw [World.frozen?_drew, World.frozen?_setCell]; exact h.fz k
    ne := h.ne
    qlt := Nat.lt_of_lt_of_le h.qlt hg.size
    hcap := by rw [M.length_put]; exact h.hcap
    len := by rw [M.length_put]; exact h.len
    small := h.small
    lt := M.put_lt ws i v hl h.lt
    top := fun j hj => by rw [M.bit_put ws i j v hl, if_neg (by omega)]; exact h.top j hj }

/-- Put, of a bit that there is. -/
theorem put_in {w : World} {p q n cap : Nat} {ws : List Nat} (h : SetAt w p q n cap ws) (i : Int) (v : Bool) (h0 : 0 ≤ i) (hi : i < n) :
    Calls Tryz.prog 128 #[.pointer (some ⟨p, 0, none⟩), .int .i64 i, .bool v] w fun e w' => e = .returned (.int .i64 0) ∧
      SetAt w' p q n cap (M.put ws i.toNat v) ∧ w.grownBy w' (some q) := by
  obtain ⟨k, rfl⟩ : ∃ k : Nat, i = k := ⟨i.toNat, by omega⟩
  have hs := h.small
  have hk : k < n := by omega
  have hkl : k / 64 < ws.length := by have := h.len; omega
  have hi := putW_int (ws.getD (k / 64) 0) (k % 64) v (h.lt _) (by omega)
  have done : ∀ e w', (e = Ending.returned (.int .i64 0) ∧ w' = (w.setCell ⟨q, k / 64, none⟩ (.int .u64 (bits (if v then .or else .andNot) .u64 ((ws.getD (k / 64) 0 : Nat) : Int) (IntKind.u64.wrap (2 ^ (k % 64)))))).drew) →
      e = .returned (.int .i64 0) ∧ SetAt w' p q n cap (M.put ws (k : Int).toNat v) ∧ w.grownBy w' (some q) := by
    rintro e w' ⟨he, rfl⟩
    refine ⟨he, ?_, setCell_grown ..⟩
    rw [hi, Int.toNat_natCast]
    exact h.put k hk v
  cases v
  · exact (put_f_core p q k ws.length cap _ w h.c1 hkl (by omega) (h.row _ hkl) (h.fz _) (there_in h k (by omega) (by omega))).mono done
  · exact (put_t_core p q k ws.length cap _ w h.c1 hkl (by omega) (h.row _ hkl) (h.fz _) (there_in h k (by omega) (by omega))).mono done
theorem put_out {w : World} {p q n cap : Nat} {ws : List Nat} (h : SetAt w p q n cap ws) (i : Int) (v : Bool) (hi : ¬ (0 ≤ i ∧ i < n)) :
    Calls Tryz.prog 128 #[.pointer (some ⟨p, 0, none⟩), .int .i64 i, .bool v] w fun e w' => e = .returned (.int .i64 3) ∧ w = w' := put_out_core p i v w (there_out h i hi)
end Go.Proofs.YtgnfcklippjeeaaGreat.Bs

/- The walks of what makes rows: bitset.New, slices.Clone over words, Copy. -/
namespace Go.Proofs.YtgnfcklippjeeaaGreat.Bs
open Go.RowKit

theorem infoWord : (Tryz.prog.info? 22).map (fun i => (i.zero, i.size, i.bytes)) = some (some (.int .u64 0), 1, 8) := by kernel_rfl
theorem infoInt : (Tryz.prog.info? 3).map (fun i => (i.zero, i.size, i.bytes)) = some (some (.int .i64 0), 1, 8) := by kernel_rfl
theorem infoBool : (Tryz.prog.info? 4).map (fun i => (i.zero, i.size, i.bytes)) = some (some (.bool false), 1, 1) := by kernel_rfl

theorem grown_refl (w : World) (r : Option Nat) : w.grownBy w r := ⟨rfl, rfl, rfl, Nat.le_refl _, fun _ _ _ => rfl⟩
theorem grown_trans {a b c : World} {r : Option Nat} (h : a.grownBy b r) (k : b.grownBy c r) : a.grownBy c r :=
  ⟨k.os.trans h.os, k.tape.trans h.tape, k.output.trans h.output, Nat.le_trans h.size k.size, fun i hi hr => (k.block i (Nat.lt_of_lt_of_le hi h.size) hr).trans (h.block i hi hr)⟩
theorem grown_own {a b c : World} {r : Option Nat} {q : Nat} (h : a.grownBy b r) (k : b.grownBy c (some q)) (hq : a.heap.size ≤ q) : a.grownBy c r :=
  ⟨k.os.trans h.os, k.tape.trans h.tape, k.output.trans h.output, Nat.le_trans h.size k.size, fun i hi hr => (k.block i (Nat.lt_of_lt_of_le hi h.size) (fun e => by injection e; omega)).trans (h.block i hi hr)⟩
theorem grown_none {a b : World} {r : Option Nat} (h : a.grownBy b none) : a.grownBy b r := ⟨h.os, h.tape, h.output, h.size, fun i hi _ => h.block i hi (by simp)⟩
theorem grown_below {a b : World} (h : a.grownBy b none) : Below a.heap.size a b := ⟨h.os, h.tape, h.output, h.size, fun i hi => h.block i hi (by simp)⟩
theorem grown_of_below {a b : World} (h : Below a.heap.size a b) : a.grownBy b none := ⟨h.os, h.tape, h.output, h.size, fun i hi _ => h.block i hi⟩
/-- A new row: the object and its words lie in new blocks; nothing that was there has turned. -/
def Made (w w' : World) (n : Nat) (ws : List Nat) (e : Ending) : Prop :=
  ∃ p q cap, e = .returned (.pointer (some ⟨p, 0, none⟩)) ∧ SetAt w' p q n cap ws ∧ w.heap.size ≤ p ∧ w.heap.size ≤ q ∧ w.grownBy w' none

def zeros (n : Nat) : List Nat := List.replicate ((n + 63) / 64) 0
theorem zeros_getD (n k : Nat) : (zeros n).getD k 0 = 0 := by simp [zeros, List.getD_eq_getElem?_getD, List.getElem?_replicate]; split <;> rfl
theorem zeros_bit (n i : Nat) : M.bit (zeros n) i = false := by unfold M.bit; rw [zeros_getD]; simp

theorem made_cell (v : Value) (hv : v.cells = #[v]) (n k : Nat) (hk : k < n) : (madeCells v.cells n)[k]? = some v := by
  rw [hv]
  simp [madeCells, hk, Nat.mod_one]

theorem cell_alloc_new (w : World) (cs : Array Value) (t : TypeId) (k : Nat) : (w.alloc (.cells cs t)).cell? ⟨w.heap.size, k, none⟩ = cs[k]? := by
  have h : (w.alloc (.cells cs t)).heap[w.heap.size]? = some (.cells cs t) := heap_alloc_new w _
  simp only [World.cell?, h]
  rfl
theorem frozen_alloc_new (w : World) (cs : Array Value) (t : TypeId) (k : Nat) : (w.alloc (.cells cs t)).frozen? ⟨w.heap.size, k, none⟩ = false := by
  have h : (w.alloc (.cells cs t)).heap[w.heap.size]? = some (.cells cs t) := heap_alloc_new w _
  simp only [World.frozen?, h]
  simp

theorem new_made (w : World) (n : Nat) (hn : n ≤ 65536) :
    Made w ((w.alloc (.cells (madeCells (Value.int .u64 0).cells ((n + 63) / 64)) 22)).alloc (.cells #[.int .i64 n, .slice (some ⟨w.heap.size, 0, none⟩) ((n + 63) / 64) ((n + 63) / 64)] 205)) n (zeros n)
      (.returned (.pointer (some ⟨w.heap.size + 1, 0, none⟩))) := by
  have hz : (zeros n).length = (n + 63) / 64 := by simp [zeros]
  have hs : (w.alloc (.cells (madeCells (Value.int .u64 0).cells ((n + 63) / 64)) 22)).heap.size = w.heap.size + 1 := by simp
  refine ⟨w.heap.size + 1, w.heap.size, (n + 63) / 64, rfl, ?_, by omega, Nat.le_refl _, grown_trans (World.grownBy_alloc _ _ _) (World.grownBy_alloc _ _ _)⟩
  have g := World.grownBy_alloc (w.alloc (.cells (madeCells (Value.int .u64 0).cells ((n + 63) / 64)) 22)) (.cells #[.int .i64 n, .slice (some ⟨w.heap.size, 0, none⟩) ((n + 63) / 64) ((n + 63) / 64)] 205) none
  exact {
    c0 := by rw [← hs, cell_alloc_new]; rfl
    c1 := by rw [← hs, cell_alloc_new, hz]; rfl
    row := fun k hk => by
      rw [hz] at hk
      refine g.cell ?_ (by simp)
      rw [cell_alloc_new, made_cell _ rfl _ _ hk, zeros_getD]
      rfl
    fz := fun k => by
      rw [World.frozen?_of_block (w := w.alloc (.cells (madeCells (Value.int .u64 0).cells ((n + 63) / 64)) 22)) (g.block _ (by simp) (by simp))]
      exact frozen_alloc_new ..
    ne := by omega
    qlt := by simp; omega
    hcap := by rw [hz]; exact Nat.le_refl _
    len := hz
    small := hn
    lt := fun k => by rw [zeros_getD]; decide
    top := fun i _ => zeros_bit n i }

theorem make_words (w : World) (n : Nat) (hn : n ≤ 65536) : (Instr.makeSlice 203 (.int .i64 (((n : Int) + 64 - 1) / 64)) (.int .i64 (((n : Int) + 64 - 1) / 64))).run Tryz.prog w =
    .ok (.slice (some ⟨w.heap.size, 0, none⟩) ((n + 63) / 64) ((n + 63) / 64)) (w.alloc (.cells (madeCells (Value.int .u64 0).cells ((n + 63) / 64)) 22)) := by
  obtain ⟨i0, hi, hz0, hz1, hz2⟩ := info_parts infoWord
  have h := run_make (P := Tryz.prog) w 203 22 i0 (.int .u64 0) Tryz.underlying203 hi hz0 .i64 .i64 (((n : Int) + 64 - 1) / 64) (((n : Int) + 64 - 1) / 64) (by omega) (Int.le_refl _) (by rw [hz2]; omega) (by omega)
  have e : (((n : Int) + 64 - 1) / 64).toNat = (n + 63) / 64 := by omega
  rw [e, hz1, Nat.mul_one] at h
  exact h

set_option maxHeartbeats 400000 in
theorem new_core (n : Int) (N : Nat) (w : World) (hN : N ≤ 65536) (h1 : n < 0 → N = 0) (h2 : 0 ≤ n → n ≤ 65536 → n = N) (h3 : 65536 < n → N = 65536) :
    Calls Tryz.prog 172 #[.int .i64 n] w fun e w' => Made w w' N (zeros N) e := by
  have H1 := Lib.hid h1
  have H2 := Lib.hid h2
  have H3 := Lib.hid h3
  clear h1 h2 h3
  go_enter Tryz.func172, Tryz.ntmps172
  go_upto_region 1 with (fail)
  go_cut [0] (fun s0 wx => s0 = .int .i64 N ∧ wx = w)
  case first =>
    by_cases hn : n < 0
    · obtain rfl := H1.out hn
      go_wp2
      go_meet
      exact ⟨rfl, rfl⟩
    · have hn0 : 0 ≤ n := by omega
      by_cases hm : n ≤ 65536
      · obtain rfl := H2.out hn0 hm
        go_wp2
        go_meet
        exact ⟨rfl, rfl⟩
      · have hm' : 65536 < n := by omega
        obtain rfl := H3.out hm'
        go_wp2
        go_meet
        exact ⟨rfl, rfl⟩
  case rest =>
    obtain ⟨rfl, rfl⟩ := hcut
    have hmk := make_words wc N hN
    go_wp2
    go_ret
    exact new_made wc N hN
def clampN (n : Int) : Nat := if n < 0 then 0 else if n ≤ 65536 then n.toNat else 65536
theorem clampN_le (n : Int) : clampN n ≤ 65536 := by unfold clampN; split <;> (try split) <;> omega
theorem new_at (n : Int) (w : World) : Calls Tryz.prog 172 #[.int .i64 n] w fun e w' => Made w w' (clampN n) (zeros (clampN n)) e :=
  new_core n (clampN n) w (clampN_le n) (fun h => by simp [clampN, h]) (fun h k => by simp [clampN, show ¬ n < 0 by omega, k]; omega) (fun h => by simp [clampN, show ¬ n < 0 by omega, show ¬ n ≤ 65536 by omega])

theorem addr_add (q j : Nat) : (⟨q, 0, none⟩ : Addr).add j = ⟨q, j, none⟩ := by
  by_cases h : j = 0
  · subst h; rfl
  · simp [Addr.add, h]

/-- A slice of words of the call's own. -/
def Words (w w' : World) (ws : List Nat) (e : Ending) : Prop :=
  ∃ q cap, e = .returned (.slice (some ⟨q, 0, none⟩) ws.length cap) ∧ ws.length ≤ cap ∧ w.heap.size ≤ q ∧ q < w'.heap.size ∧ (∀ k, k < ws.length → w'.cell? ⟨q, k, none⟩ = some (.int .u64 (ws.getD k 0 : Nat))) ∧
    (∀ k, w'.frozen? ⟨q, k, none⟩ = false) ∧ w.grownBy w' none

theorem clone_end (w w' : World) (ws : List Nat) (v : Value) (hown : w'.ownsRow w.heap.size 22 1 v ws.length (ws.map fun (x : Nat) => Value.int .u64 x)) (hg : w.grownBy w' none) (hv : v ≠ .slice none 0 0) : Words w w' ws (.returned v) := by
  obtain ⟨-, hn | ⟨g, cap, cur, rfl, hbg, hh, hnc, hcm, hcs, htake⟩⟩ := hown
  · exact absurd hn.1 hv
  · refine ⟨g, cap, rfl, hnc, hbg, (Array.getElem?_eq_some_iff.1 hh).1, fun k hk => ?_, fun k => ?_, hg⟩
    · have e : w'.cell? ⟨g, k, none⟩ = cur[k]? := by simp only [World.cell?, hh]; rfl
      have t := congrArg (fun l => l[k]?) htake
      simp only [List.getElem?_take, Nat.mul_one, hk, if_true, Array.getElem?_toList, List.getElem?_map] at t
      rw [e, t, List.getD_eq_getElem?_getD, List.getElem?_eq_getElem hk]
      rfl
    · simp only [World.frozen?, hh]
      simp

theorem copy_end (w w1 : World) (n q cap : Nat) (ws : List Nat) (hcap : ws.length ≤ cap) (hq : w.heap.size ≤ q) (hql : q < w1.heap.size) (hrow : ∀ k, k < ws.length → w1.cell? ⟨q, k, none⟩ = some (.int .u64 (ws.getD k 0 : Nat)))
    (hfz : ∀ k, w1.frozen? ⟨q, k, none⟩ = false) (hg : w.grownBy w1 none) (hlen : ws.length = (n + 63) / 64) (hn : n ≤ 65536) (hlt : ∀ k, ws.getD k 0 < 18446744073709551616) (htop : ∀ i, n ≤ i → M.bit ws i = false) :
    Made w (w1.alloc (.cells #[.int .i64 n, .slice (some ⟨q, 0, none⟩) ws.length cap] 205)) n ws (.returned (.pointer (some ⟨w1.heap.size, 0, none⟩))) := by
  have g := World.grownBy_alloc w1 (.cells #[.int .i64 n, .slice (some ⟨q, 0, none⟩) ws.length cap] 205) none
  refine ⟨w1.heap.size, q, cap, rfl, ?_, hg.size, hq, grown_trans hg g⟩
  exact {
    c0 := by rw [cell_alloc_new]; rfl
    c1 := by rw [cell_alloc_new]; rfl
    row := fun k hk => g.cell (hrow k hk) (by simp)
    fz := fun k => by rw [World.frozen?_of_block (w := w1) (g.block q hql (by simp))]; exact hfz k
    ne := by omega
    qlt := Nat.lt_of_lt_of_le hql g.size
    hcap := hcap
    len := hlen
    small := hn
    lt := hlt
    top := htop }
theorem grown_drew {a b : World} {r : Option Nat} (h : a.grownBy b r) (d : Nat) : a.grownBy (b.drewN d) r := ⟨h.os, h.tape, h.output, h.size, h.block⟩
theorem grown_drewN {a b : World} {d : Nat} {r : Option Nat} (h : (a.drewN d).grownBy b r) : a.grownBy b r := ⟨h.os, h.tape, h.output, h.size, h.block⟩
end Go.Proofs.YtgnfcklippjeeaaGreat.Bs
