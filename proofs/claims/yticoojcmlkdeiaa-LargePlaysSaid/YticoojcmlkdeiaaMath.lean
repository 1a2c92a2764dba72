/- Plain facts on numbers and bits, of no program: how many bits of a word are one (by halves of bytes, as math/bits.OnesCount64 reckons), words as rows of bits. -/
import Derived.Lib.TrailingZeros
namespace Go.Proofs.Yticoojcmlkdeiaa
namespace M

/-- How many of x's first n bits are one. -/
def cnt (x : Nat) : Nat → Nat
  | 0 => 0
  | n + 1 => cnt x n + (x.testBit n).toNat

def val : List Nat → Nat
  | [] => 0
  | b :: l => b + 256 * val l

def rep (c : Nat) : List Nat → Nat
  | [] => 0
  | _ :: l => c + 256 * rep c l

theorem split256 (N : Nat) : N = N % 256 + 256 * (N / 256) := by omega

theorem and256 (a b c d : Nat) (ha : a < 256) (hc : c < 256) : (a + 256 * b) &&& (c + 256 * d) = (a &&& c) + 256 * (b &&& d) := by
  have e1 : ((a + 256 * b) &&& (c + 256 * d)) % 2 ^ 8 = (a + 256 * b) % 2 ^ 8 &&& (c + 256 * d) % 2 ^ 8 := Nat.and_mod_two_pow ..
  have e2 : ((a + 256 * b) &&& (c + 256 * d)) / 2 ^ 8 = (a + 256 * b) / 2 ^ 8 &&& (c + 256 * d) / 2 ^ 8 := Nat.and_div_two_pow ..
  have p8 : (2 : Nat) ^ 8 = 256 := rfl
  rw [p8] at e1 e2
  have f1 : (a + 256 * b) % 256 = a := by omega
  have f2 : (c + 256 * d) % 256 = c := by omega
  have f3 : (a + 256 * b) / 256 = b := by omega
  have f4 : (c + 256 * d) / 256 = d := by omega
  rw [f1, f2] at e1
  rw [f3, f4] at e2
  rw [split256 ((a + 256 * b) &&& (c + 256 * d)), e1, e2]

def f1 (b : Nat) : Nat := (b / 2 &&& 85) + (b &&& 85)
def f2 (b : Nat) : Nat := (b / 4 &&& 51) + (b &&& 51)
def f3 (b : Nat) : Nat := (b / 16 + b) % 16

theorem f1_lt : ∀ b, b < 256 → f1 b < 256 := by decide +kernel
theorem f2_ok : ∀ b, b < 256 → f2 (f1 b) < 256 ∧ f2 (f1 b) % 16 ≤ 4 ∧ f2 (f1 b) / 16 ≤ 4 := by decide +kernel
theorem shr1_and : ∀ b, b < 256 → ∀ c, c < 2 → (b / 2 + 128 * c) &&& 85 = b / 2 &&& 85 := by decide +kernel
theorem shr2_and : ∀ b, b < 256 → ∀ c, c < 4 → (b / 4 + 64 * c) &&& 51 = b / 4 &&& 51 := by decide +kernel
theorem and15 : ∀ b, b < 256 → b &&& 15 = b % 16 := by decide +kernel
theorem f3_cnt : ∀ b, b < 256 → f3 (f2 (f1 b)) = cnt b 8 := by decide +kernel
theorem cnt8_le : ∀ b, b < 256 → cnt b 8 ≤ 8 := by decide +kernel

theorem step1 : ∀ l : List Nat, (∀ b ∈ l, b < 256) → (val l / 2 &&& rep 85 l) + (val l &&& rep 85 l) = val (l.map f1)
  | [], _ => rfl
  | b :: l, h => by
    have hb : b < 256 := h b (by simp)
    have ih := step1 l (fun x hx => h x (by simp [hx]))
    simp only [val, rep, List.map_cons]
    rw [← ih]
    have e : (b + 256 * val l) / 2 = (b / 2 + 128 * (val l % 2)) + 256 * (val l / 2) := by omega
    rw [e, and256 _ _ 85 _ (by omega) (by omega), and256 b _ 85 _ hb (by omega), shr1_and b hb _ (by omega)]
    unfold f1
    omega

theorem step2 : ∀ l : List Nat, (∀ b ∈ l, b < 256) → (val l / 4 &&& rep 51 l) + (val l &&& rep 51 l) = val (l.map f2)
  | [], _ => rfl
  | b :: l, h => by
    have hb : b < 256 := h b (by simp)
    have ih := step2 l (fun x hx => h x (by simp [hx]))
    simp only [val, rep, List.map_cons]
    rw [← ih]
    have e : (b + 256 * val l) / 4 = (b / 4 + 64 * (val l % 4)) + 256 * (val l / 4) := by omega
    rw [e, and256 _ _ 51 _ (by omega) (by omega), and256 b _ 51 _ hb (by omega), shr2_and b hb _ (by omega)]
    unfold f2
    omega

theorem step3 : ∀ l : List Nat, (∀ b ∈ l, b < 256 ∧ b % 16 ≤ 4 ∧ b / 16 ≤ 4) → (val l / 16 + val l &&& rep 15 l) = val (l.map f3)
  | [], _ => rfl
  | b :: l, h => by
    have hb := h b (by simp)
    have ih := step3 l (fun x hx => h x (by simp [hx]))
    simp only [val, rep, List.map_cons]
    rw [← ih]
    have hv : val l % 16 ≤ 4 := by
      cases l with
      | nil => simp [val]
      | cons c l =>
        have hc := (h c (by simp)).2.1
        simp only [val]
        omega
    have e : (b + 256 * val l) / 16 + (b + 256 * val l) = ((b / 16 + b + 16 * (val l % 16)) % 256) + 256 * (val l / 16 + val l) := by omega
    rw [e, and256 _ _ 15 _ (by omega) (by omega), and15 _ (by omega)]
    unfold f3
    omega

theorem cnt_split (x m : Nat) : ∀ n, cnt x (m + n) = cnt x m + cnt (x / 2 ^ m) n
  | 0 => by simp [cnt]
  | n + 1 => by
    have ih := cnt_split x m n
    show cnt x (m + n) + (x.testBit (m + n)).toNat = cnt x m + (cnt (x / 2 ^ m) n + ((x / 2 ^ m).testBit n).toNat)
    rw [ih, Nat.testBit_div_two_pow, Nat.add_comm n m]
    omega

theorem cnt_mod (x m : Nat) : ∀ n, n ≤ m → cnt (x % 2 ^ m) n = cnt x n
  | 0, _ => rfl
  | n + 1, h => by
    show cnt (x % 2 ^ m) n + ((x % 2 ^ m).testBit n).toNat = cnt x n + (x.testBit n).toNat
    rw [cnt_mod x m n (by omega), Nat.testBit_mod_two_pow]
    simp [show n < m from by omega]

theorem cnt_byte (b v n : Nat) (hb : b < 256) : cnt (b + 256 * v) (8 + n) = cnt b 8 + cnt v n := by
  rw [cnt_split]
  have e1 : (b + 256 * v) / 2 ^ 8 = v := by omega
  have e2 : (b + 256 * v) % 2 ^ 8 = b := by omega
  rw [e1]
  have := cnt_mod (b + 256 * v) 8 8 (Nat.le_refl _)
  rw [e2] at this
  rw [this]

/-- What math/bits.OnesCount64 reckons, in plain numbers. -/
def sw1 (x : Nat) : Nat := (x / 2 &&& 6148914691236517205) + (x &&& 6148914691236517205)
def sw2 (x : Nat) : Nat := (x / 4 &&& 3689348814741910323) + (x &&& 3689348814741910323)
def sw3 (x : Nat) : Nat := (x / 16 + x) &&& 1085102592571150095

theorem byte1 (x : Nat) : x = x % 256 + 256 * (x / 256) := by omega
theorem div8 (x k : Nat) (h : x < 256 * k) : x / 256 < k := by omega
theorem bytes_of (x : Nat) (hx : x < 18446744073709551616) : ∃ b0 b1 b2 b3 b4 b5 b6 b7 : Nat, b0 < 256 ∧ b1 < 256 ∧ b2 < 256 ∧ b3 < 256 ∧ b4 < 256 ∧ b5 < 256 ∧ b6 < 256 ∧ b7 < 256 ∧ x = val [b0, b1, b2, b3, b4, b5, b6, b7] := by
  have m : ∀ y : Nat, y % 256 < 256 := fun y => Nat.mod_lt _ (by decide)
  obtain ⟨x1, e1⟩ : ∃ x1, x1 = x / 256 := ⟨_, rfl⟩
  obtain ⟨x2, e2⟩ : ∃ x2, x2 = x1 / 256 := ⟨_, rfl⟩
  obtain ⟨x3, e3⟩ : ∃ x3, x3 = x2 / 256 := ⟨_, rfl⟩
  obtain ⟨x4, e4⟩ : ∃ x4, x4 = x3 / 256 := ⟨_, rfl⟩
  obtain ⟨x5, e5⟩ : ∃ x5, x5 = x4 / 256 := ⟨_, rfl⟩
  obtain ⟨x6, e6⟩ : ∃ x6, x6 = x5 / 256 := ⟨_, rfl⟩
  obtain ⟨x7, e7⟩ : ∃ x7, x7 = x6 / 256 := ⟨_, rfl⟩
  have l1 : x1 < 72057594037927936 := by rw [e1]; exact div8 _ _ hx
  have l2 : x2 < 281474976710656 := by rw [e2]; exact div8 _ _ l1
  have l3 : x3 < 1099511627776 := by rw [e3]; exact div8 _ _ l2
  have l4 : x4 < 4294967296 := by rw [e4]; exact div8 _ _ l3
  have l5 : x5 < 16777216 := by rw [e5]; exact div8 _ _ l4
  have l6 : x6 < 65536 := by rw [e6]; exact div8 _ _ l5
  have l7 : x7 < 256 := by rw [e7]; exact div8 _ _ l6
  refine ⟨x % 256, x1 % 256, x2 % 256, x3 % 256, x4 % 256, x5 % 256, x6 % 256, x7, m _, m _, m _, m _, m _, m _, m _, l7, ?_⟩
  simp only [val]
  rw [Nat.mul_zero, Nat.add_zero, e7, ← byte1 x6, e6, ← byte1 x5, e5, ← byte1 x4, e4, ← byte1 x3, e3, ← byte1 x2, e2, ← byte1 x1, e1, ← byte1 x]

theorem up1 (c r : Nat) (h : c < 256) : (c + 256 * r) / 256 = r := by omega
theorem up2 (c d r : Nat) (h : c < 256) (k : d < 256) : (c + 256 * (d + 256 * r)) / 65536 = r := by omega
theorem up4 (c d e f r : Nat) (h : c < 256) (k : d < 256) (l : e < 256) (m : f < 256) : (c + 256 * (d + 256 * (e + 256 * (f + 256 * r)))) / 4294967296 = r := by omega
theorem dg (a b r s : Nat) : (a + 256 * r) + (b + 256 * s) = (a + b) + 256 * (r + s) := by omega
theorem dg0 (a b r : Nat) : (a + 256 * r) + b = (a + b) + 256 * r := by omega
theorem lt1 (a r k : Nat) (h : a < 256) (hr : r < k) : a + 256 * r < 256 * k := by omega
theorem s16 (a b : Nat) (h : a ≤ 8) (k : b ≤ 8) : a + b ≤ 16 := by omega
theorem s32 (a b : Nat) (h : a ≤ 16) (k : b ≤ 16) : a + b ≤ 32 := by omega
theorem s64 (a b : Nat) (h : a ≤ 32) (k : b ≤ 32) : a + b ≤ 64 := by omega
theorem mod128 (a r t : Nat) (h : a ≤ 64) (e : a = t) : (a + 256 * r) % 128 = t := by omega
theorem le256 (a : Nat) (h : a ≤ 64) : a < 256 := by omega
theorem sum8 (a b c d e f g h : Nat) : a + b + (c + d) + (e + f + (g + h)) = a + b + c + d + e + f + g + h := by omega
theorem digits (a b c d e f g h : Nat) (ha : a ≤ 64) (hb : b ≤ 64) (hc : c ≤ 64) (hd : d ≤ 64) (he : e ≤ 64) (hf : f ≤ 64) (hg : g ≤ 64) (hh : h ≤ 64) :
    a + 256 * (b + 256 * (c + 256 * (d + 256 * (e + 256 * (f + 256 * (g + 256 * h)))))) < 9223372036854775808 :=
  lt1 _ _ 36028797018963968 (le256 _ ha) (lt1 _ _ 140737488355328 (le256 _ hb) (lt1 _ _ 549755813888 (le256 _ hc) (lt1 _ _ 2147483648 (le256 _ hd) (lt1 _ _ 8388608 (le256 _ he) (lt1 _ _ 32768 (le256 _ hf) (lt1 _ _ 128 (le256 _ hg) (by omega)))))))
theorem lin1 (c0 c1 c2 c3 c4 c5 c6 c7 : Nat) : (c0 + 256 * (c1 + 256 * (c2 + 256 * (c3 + 256 * (c4 + 256 * (c5 + 256 * (c6 + 256 * c7))))))) + (c1 + 256 * (c2 + 256 * (c3 + 256 * (c4 + 256 * (c5 + 256 * (c6 + 256 * c7)))))) =
    (c0 + c1) + 256 * ((c1 + c2) + 256 * ((c2 + c3) + 256 * ((c3 + c4) + 256 * ((c4 + c5) + 256 * ((c5 + c6) + 256 * ((c6 + c7) + 256 * c7)))))) := by
  omega
theorem lin2 (d0 d1 d2 d3 d4 d5 d6 d7 : Nat) : (d0 + 256 * (d1 + 256 * (d2 + 256 * (d3 + 256 * (d4 + 256 * (d5 + 256 * (d6 + 256 * d7))))))) + (d2 + 256 * (d3 + 256 * (d4 + 256 * (d5 + 256 * (d6 + 256 * d7))))) =
    (d0 + d2) + 256 * ((d1 + d3) + 256 * ((d2 + d4) + 256 * ((d3 + d5) + 256 * ((d4 + d6) + 256 * ((d5 + d7) + 256 * (d6 + 256 * d7)))))) := by
  omega
theorem lin4 (d0 d1 d2 d3 d4 d5 d6 d7 : Nat) : (d0 + 256 * (d1 + 256 * (d2 + 256 * (d3 + 256 * (d4 + 256 * (d5 + 256 * (d6 + 256 * d7))))))) + (d4 + 256 * (d5 + 256 * (d6 + 256 * d7))) =
    (d0 + d4) + 256 * ((d1 + d5) + 256 * ((d2 + d6) + 256 * ((d3 + d7) + 256 * (d4 + 256 * (d5 + 256 * (d6 + 256 * d7)))))) := by
  omega
theorem fold_sum (c0 c1 c2 c3 c4 c5 c6 c7 : Nat) (h0 : c0 ≤ 8) (h1 : c1 ≤ 8) (h2 : c2 ≤ 8) (h3 : c3 ≤ 8) (h4 : c4 ≤ 8) (h5 : c5 ≤ 8) (h6 : c6 ≤ 8) (h7 : c7 ≤ 8) (C D E F : Nat)
    (hC : C = val [c0, c1, c2, c3, c4, c5, c6, c7]) (hD : D = C + C / 256) (hE : E = D + D / 65536) (hF : F = E + E / 4294967296) :
    F % 128 = c0 + c1 + c2 + c3 + c4 + c5 + c6 + c7 ∧ D < 18446744073709551616 ∧ E < 18446744073709551616 ∧ F < 9223372036854775808 := by
  have p01 := s16 _ _ h0 h1
  have p12 := s16 _ _ h1 h2
  have p23 := s16 _ _ h2 h3
  have p34 := s16 _ _ h3 h4
  have p45 := s16 _ _ h4 h5
  have p56 := s16 _ _ h5 h6
  have p67 := s16 _ _ h6 h7
  have w8 : ∀ a : Nat, a ≤ 8 → a < 256 := by omega
  have w16 : ∀ a : Nat, a ≤ 16 → a < 256 := by omega
  have w32 : ∀ a : Nat, a ≤ 32 → a < 256 := by omega
  have u8 : ∀ a : Nat, a ≤ 8 → a ≤ 64 := by omega
  have u16 : ∀ a : Nat, a ≤ 16 → a ≤ 64 := by omega
  have u32 : ∀ a : Nat, a ≤ 32 → a ≤ 64 := by omega
  have t8 : ∀ a : Nat, a ≤ 8 → a ≤ 16 := by omega
  have t16 : ∀ a : Nat, a ≤ 16 → a ≤ 32 := by omega
  have q0 := s32 _ _ p01 p23
  have q1 := s32 _ _ p12 p34
  have q2 := s32 _ _ p23 p45
  have q3 := s32 _ _ p34 p56
  have q4 := s32 _ _ p45 p67
  have q5 := s32 _ _ p56 (t8 _ h7)
  have r0 := s64 _ _ q0 q4
  have r1 := s64 _ _ q1 q5
  have r2 := s64 _ _ q2 (t16 _ p67)
  have r3 := s64 _ _ q3 (t16 _ (t8 _ h7))
  simp only [val, Nat.mul_zero, Nat.add_zero] at hC
  have e1 : C / 256 = c1 + 256 * (c2 + 256 * (c3 + 256 * (c4 + 256 * (c5 + 256 * (c6 + 256 * c7))))) := (congrArg (· / 256) hC).trans (up1 _ _ (w8 _ h0))
  have d1 : D = (c0 + c1) + 256 * ((c1 + c2) + 256 * ((c2 + c3) + 256 * ((c3 + c4) + 256 * ((c4 + c5) + 256 * ((c5 + c6) + 256 * ((c6 + c7) + 256 * c7)))))) :=
    (hD.trans (congrArg (C + ·) e1)).trans ((congrArg (· + (c1 + 256 * (c2 + 256 * (c3 + 256 * (c4 + 256 * (c5 + 256 * (c6 + 256 * c7))))))) hC).trans (lin1 ..))
  have e2 : D / 65536 = (c2 + c3) + 256 * ((c3 + c4) + 256 * ((c4 + c5) + 256 * ((c5 + c6) + 256 * ((c6 + c7) + 256 * c7)))) := (congrArg (· / 65536) d1).trans (up2 _ _ _ (w16 _ p01) (w16 _ p12))
  have d2 : E = (c0 + c1 + (c2 + c3)) + 256 * ((c1 + c2 + (c3 + c4)) + 256 * ((c2 + c3 + (c4 + c5)) + 256 * ((c3 + c4 + (c5 + c6)) + 256 * ((c4 + c5 + (c6 + c7)) + 256 * ((c5 + c6 + c7) + 256 * ((c6 + c7) + 256 * c7)))))) :=
    (hE.trans (congrArg (D + ·) e2)).trans ((congrArg (· + ((c2 + c3) + 256 * ((c3 + c4) + 256 * ((c4 + c5) + 256 * ((c5 + c6) + 256 * ((c6 + c7) + 256 * c7)))))) d1).trans (lin2 ..))
  have e3 : E / 4294967296 = (c4 + c5 + (c6 + c7)) + 256 * ((c5 + c6 + c7) + 256 * ((c6 + c7) + 256 * c7)) := (congrArg (· / 4294967296) d2).trans (up4 _ _ _ _ _ (w32 _ q0) (w32 _ q1) (w32 _ q2) (w32 _ q3))
  have d3 : F = (c0 + c1 + (c2 + c3) + (c4 + c5 + (c6 + c7))) + 256 * ((c1 + c2 + (c3 + c4) + (c5 + c6 + c7)) + 256 * ((c2 + c3 + (c4 + c5) + (c6 + c7)) + 256 * ((c3 + c4 + (c5 + c6) + c7) + 256 * ((c4 + c5 + (c6 + c7)) + 256 * ((c5 + c6 + c7) + 256 * ((c6 + c7) + 256 * c7)))))) :=
    (hF.trans (congrArg (E + ·) e3)).trans ((congrArg (· + ((c4 + c5 + (c6 + c7)) + 256 * ((c5 + c6 + c7) + 256 * ((c6 + c7) + 256 * c7)))) d2).trans (lin4 ..))
  have big : ∀ a : Nat, a < 9223372036854775808 → a < 18446744073709551616 := by omega
  refine ⟨?_, ?_, ?_, ?_⟩
  · exact (congrArg (· % 128) d3).trans (mod128 _ _ _ r0 (sum8 ..))
  · exact Nat.lt_of_le_of_lt (Nat.le_of_eq d1) (big _ (digits _ _ _ _ _ _ _ _ (u16 _ p01) (u16 _ p12) (u16 _ p23) (u16 _ p34) (u16 _ p45) (u16 _ p56) (u16 _ p67) (u8 _ h7)))
  · exact Nat.lt_of_le_of_lt (Nat.le_of_eq d2) (big _ (digits _ _ _ _ _ _ _ _ (u32 _ q0) (u32 _ q1) (u32 _ q2) (u32 _ q3) (u32 _ q4) (u32 _ q5) (u16 _ p67) (u8 _ h7)))
  · exact Nat.lt_of_le_of_lt (Nat.le_of_eq d3) (digits _ _ _ _ _ _ _ _ r0 r1 r2 r3 (u32 _ q4) (u32 _ q5) (u16 _ p67) (u8 _ h7))

theorem rep_cons (c b : Nat) (l : List Nat) : rep c (b :: l) = c + 256 * rep c l := rfl
theorem rep_nil (c : Nat) : rep c [] = 0 := rfl
theorem rep85 (b0 b1 b2 b3 b4 b5 b6 b7 : Nat) : rep 85 [b0, b1, b2, b3, b4, b5, b6, b7] = 6148914691236517205 := by
  rw [rep_cons, rep_cons, rep_cons, rep_cons, rep_cons, rep_cons, rep_cons, rep_cons, rep_nil]
theorem rep51 (b0 b1 b2 b3 b4 b5 b6 b7 : Nat) : rep 51 [b0, b1, b2, b3, b4, b5, b6, b7] = 3689348814741910323 := by
  rw [rep_cons, rep_cons, rep_cons, rep_cons, rep_cons, rep_cons, rep_cons, rep_cons, rep_nil]
theorem rep15 (b0 b1 b2 b3 b4 b5 b6 b7 : Nat) : rep 15 [b0, b1, b2, b3, b4, b5, b6, b7] = 1085102592571150095 := by
  rw [rep_cons, rep_cons, rep_cons, rep_cons, rep_cons, rep_cons, rep_cons, rep_cons, rep_nil]
theorem sw_cnt (x : Nat) (hx : x < 18446744073709551616) :
    sw1 x < 18446744073709551616 ∧ sw2 (sw1 x) < 18446744073709551616 ∧ sw2 (sw1 x) / 16 + sw2 (sw1 x) < 18446744073709551616 ∧
    ∃ D E F, D = sw3 (sw2 (sw1 x)) + sw3 (sw2 (sw1 x)) / 256 ∧ E = D + D / 65536 ∧ F = E + E / 4294967296 ∧ D < 18446744073709551616 ∧ E < 18446744073709551616 ∧ F < 9223372036854775808 ∧ F % 128 = cnt x 64 := by
  obtain ⟨b0, b1, b2, b3, b4, b5, b6, b7, h0, h1, h2, h3, h4, h5, h6, h7, rfl⟩ := bytes_of x hx
  have hall : ∀ b ∈ [b0, b1, b2, b3, b4, b5, b6, b7], b < 256 := by simp; omega
  have s1 : sw1 (val [b0, b1, b2, b3, b4, b5, b6, b7]) = val ([b0, b1, b2, b3, b4, b5, b6, b7].map f1) := by
    have t := step1 _ hall
    rw [rep85] at t
    exact t
  have hall1 : ∀ b ∈ [b0, b1, b2, b3, b4, b5, b6, b7].map f1, b < 256 := by
    intro b hb; obtain ⟨c, hc, rfl⟩ := List.mem_map.1 hb; exact f1_lt c (hall c hc)
  have s2 : sw2 (val ([b0, b1, b2, b3, b4, b5, b6, b7].map f1)) = val (([b0, b1, b2, b3, b4, b5, b6, b7].map f1).map f2) := by
    have t := step2 _ hall1
    simp only [List.map_cons, List.map_nil] at t ⊢
    rw [rep51] at t
    exact t
  have hall2 : ∀ b ∈ ([b0, b1, b2, b3, b4, b5, b6, b7].map f1).map f2, b < 256 ∧ b % 16 ≤ 4 ∧ b / 16 ≤ 4 := by
    intro b hb; obtain ⟨c, hc, rfl⟩ := List.mem_map.1 hb; obtain ⟨d, hd, rfl⟩ := List.mem_map.1 hc; exact f2_ok d (hall d hd)
  have s3 : sw3 (val (([b0, b1, b2, b3, b4, b5, b6, b7].map f1).map f2)) = val ((([b0, b1, b2, b3, b4, b5, b6, b7].map f1).map f2).map f3) := by
    have t := step3 _ hall2
    simp only [List.map_cons, List.map_nil] at t ⊢
    rw [rep15] at t
    exact t
  have v1 : val ([b0, b1, b2, b3, b4, b5, b6, b7].map f1) < 18446744073709551616 := by
    have g0 := f1_lt b0 h0; have g1 := f1_lt b1 h1; have g2 := f1_lt b2 h2; have g3 := f1_lt b3 h3; have g4 := f1_lt b4 h4; have g5 := f1_lt b5 h5; have g6 := f1_lt b6 h6; have g7 := f1_lt b7 h7
    simp only [val, List.map_cons, List.map_nil]
    exact lt1 _ _ 72057594037927936 (by omega) (lt1 _ _ 281474976710656 (by omega) (lt1 _ _ 1099511627776 (by omega) (lt1 _ _ 4294967296 (by omega) (lt1 _ _ 16777216 (by omega) (lt1 _ _ 65536 (by omega) (lt1 _ _ 256 (by omega) (by omega)))))))
  have v2 : val (([b0, b1, b2, b3, b4, b5, b6, b7].map f1).map f2) / 16 + val (([b0, b1, b2, b3, b4, b5, b6, b7].map f1).map f2) < 18446744073709551616 := by
    have g0 := f2_ok b0 h0; have g1 := f2_ok b1 h1; have g2 := f2_ok b2 h2; have g3 := f2_ok b3 h3; have g4 := f2_ok b4 h4; have g5 := f2_ok b5 h5; have g6 := f2_ok b6 h6; have g7 := f2_ok b7 h7
    have z : ∀ y : Nat, y < 5000000000000000000 → y / 16 + y < 18446744073709551616 := by omega
    refine z _ ?_
    simp only [val, List.map_cons, List.map_nil]
    exact Nat.lt_of_lt_of_le (lt1 _ _ 19421773393035264 (by omega) (lt1 _ _ 75866302316544 (by omega) (lt1 _ _ 296352743424 (by omega) (lt1 _ _ 1157627904 (by omega) (lt1 _ _ 4521984 (by omega) (lt1 _ _ 17664 (by omega) (lt1 _ _ 69 (by omega) (by omega)))))))) (by decide)
  rw [s1, s2, s3]
  refine ⟨v1, by omega, v2, _, _, _, rfl, rfl, rfl, ?_⟩
  have q := fold_sum (f3 (f2 (f1 b0))) (f3 (f2 (f1 b1))) (f3 (f2 (f1 b2))) (f3 (f2 (f1 b3))) (f3 (f2 (f1 b4))) (f3 (f2 (f1 b5))) (f3 (f2 (f1 b6))) (f3 (f2 (f1 b7)))
    (by rw [f3_cnt _ h0]; exact cnt8_le _ h0) (by rw [f3_cnt _ h1]; exact cnt8_le _ h1) (by rw [f3_cnt _ h2]; exact cnt8_le _ h2) (by rw [f3_cnt _ h3]; exact cnt8_le _ h3)
    (by rw [f3_cnt _ h4]; exact cnt8_le _ h4) (by rw [f3_cnt _ h5]; exact cnt8_le _ h5) (by rw [f3_cnt _ h6]; exact cnt8_le _ h6) (by rw [f3_cnt _ h7]; exact cnt8_le _ h7)
    _ _ _ _ rfl rfl rfl rfl
  refine ⟨q.2.1, q.2.2.1, q.2.2.2, ?_⟩
  refine Eq.trans q.1 ?_
  rw [f3_cnt _ h0, f3_cnt _ h1, f3_cnt _ h2, f3_cnt _ h3, f3_cnt _ h4, f3_cnt _ h5, f3_cnt _ h6, f3_cnt _ h7]
  have t : cnt (val [b0, b1, b2, b3, b4, b5, b6, b7]) (8 + (8 + (8 + (8 + (8 + (8 + (8 + (8 + 0)))))))) = cnt b0 8 + (cnt b1 8 + (cnt b2 8 + (cnt b3 8 + (cnt b4 8 + (cnt b5 8 + (cnt b6 8 + (cnt b7 8 + cnt 0 0))))))) := by
    simp only [val]
    rw [cnt_byte b0 _ _ h0, cnt_byte b1 _ _ h1, cnt_byte b2 _ _ h2, cnt_byte b3 _ _ h3, cnt_byte b4 _ _ h4, cnt_byte b5 _ _ h5, cnt_byte b6 _ _ h6, cnt_byte b7 _ _ h7]
  have t' : cnt (val [b0, b1, b2, b3, b4, b5, b6, b7]) 64 = cnt b0 8 + (cnt b1 8 + (cnt b2 8 + (cnt b3 8 + (cnt b4 8 + (cnt b5 8 + (cnt b6 8 + (cnt b7 8 + cnt 0 0))))))) := t
  rw [t', show cnt 0 0 = 0 from rfl]
  omega

/-- Bit i of a row of words. -/
def bit (ws : List Nat) (i : Nat) : Bool := (ws.getD (i / 64) 0).testBit (i % 64)

end M
end Go.Proofs.Yticoojcmlkdeiaa
