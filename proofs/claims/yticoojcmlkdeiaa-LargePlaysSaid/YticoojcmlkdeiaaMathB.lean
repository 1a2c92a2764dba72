/- Plain facts on rows of bits, of no program: what a row holds behind a Put; the lowest bit of a word; the words that Next looks at; how many bits there are. -/
import Derived.Test.YticoojcmlkdeiaaMath
namespace Go.Proofs.Yticoojcmlkdeiaa
namespace M

theorem getD_set (ws : List Nat) (a y k : Nat) (h : a < ws.length) : (ws.set a y).getD k 0 = if k = a then y else ws.getD k 0 := by
  simp only [List.getD_eq_getElem?_getD, List.getElem?_set]
  by_cases e : a = k
  · subst e; simp [h]
  · simp [e, show ¬ k = a from fun x => e x.symm]

theorem all64 : (18446744073709551615 : Nat) = 2 ^ 64 - 1 := rfl
theorem testBit_not (x m : Nat) (hx : x < 18446744073709551616) : (18446744073709551615 - x).testBit m = (decide (m < 64) && !x.testBit m) := by
  have h : x < 2 ^ 64 := hx
  have e : 18446744073709551615 - x = 2 ^ 64 - (x + 1) := by omega
  rw [e, Nat.testBit_two_pow_sub_succ h]

def putW (x m : Nat) (v : Bool) : Nat := if v then x ||| 2 ^ m else x &&& (18446744073709551615 - 2 ^ m)
def put (ws : List Nat) (i : Nat) (v : Bool) : List Nat := ws.set (i / 64) (putW (ws.getD (i / 64) 0) (i % 64) v)

theorem pow_lt (m : Nat) (h : m < 64) : 2 ^ m < 18446744073709551616 := Nat.pow_lt_pow_right (by decide) h
theorem putW_lt (x m : Nat) (v : Bool) (hx : x < 18446744073709551616) (hm : m < 64) : putW x m v < 18446744073709551616 := by
  unfold putW
  cases v
  · exact Nat.lt_of_le_of_lt Nat.and_le_left hx
  · exact Nat.or_lt_two_pow (n := 64) hx (pow_lt m hm)
theorem testBit_putW (x m k : Nat) (v : Bool) (hm : m < 64) (hk : k < 64) : (putW x m v).testBit k = if k = m then v else x.testBit k := by
  unfold putW
  cases v
  · simp only [Bool.false_eq_true, if_false, Nat.testBit_and]
    rw [testBit_not _ _ (pow_lt m hm), Nat.testBit_two_pow]
    by_cases e : k = m
    · simp [e]
    · simp [e, hk, show ¬ m = k from fun x => e x.symm]
  · simp only [if_true, Nat.testBit_or, Nat.testBit_two_pow]
    by_cases e : k = m
    · simp [e]
    · simp [e, show ¬ m = k from fun x => e x.symm]

theorem length_put (ws : List Nat) (i : Nat) (v : Bool) : (put ws i v).length = ws.length := by simp [put]
theorem getD_put (ws : List Nat) (i k : Nat) (v : Bool) (h : i / 64 < ws.length) : (put ws i v).getD k 0 = if k = i / 64 then putW (ws.getD (i / 64) 0) (i % 64) v else ws.getD k 0 := getD_set _ _ _ _ h
theorem bit_put (ws : List Nat) (i j : Nat) (v : Bool) (h : i / 64 < ws.length) : bit (put ws i v) j = if j = i then v else bit ws j := by
  unfold bit
  rw [getD_put ws i _ v h]
  by_cases e : j / 64 = i / 64
  · rw [if_pos e, testBit_putW _ _ _ _ (by omega) (by omega), e]
    by_cases e2 : j % 64 = i % 64
    · rw [if_pos e2, if_pos (by omega)]
    · rw [if_neg e2, if_neg (by intro x; exact e2 (by rw [x]))]
  · rw [if_neg e, if_neg (by intro x; exact e (by rw [x]))]
theorem put_lt (ws : List Nat) (i : Nat) (v : Bool) (h : i / 64 < ws.length) (hl : ∀ k, ws.getD k 0 < 18446744073709551616) (k : Nat) : (put ws i v).getD k 0 < 18446744073709551616 := by
  rw [getD_put ws i _ v h]
  split
  · exact putW_lt _ _ _ (hl _) (by omega)
  · exact hl k

theorem and1_bool (y : Nat) : (((y &&& 1 : Nat) : Int) == 1) = decide (y % 2 = 1) := by
  rw [Nat.and_one_is_mod, Bool.eq_iff_iff, beq_iff_eq, decide_eq_true_iff]
  omega

/-- The lowest bit of a word. -/
theorem ctz_low (x : Nat) (hx : x < 18446744073709551616) (h0 : x ≠ 0) : Lib.ctz 64 x < 64 ∧ x.testBit (Lib.ctz 64 x) = true ∧ ∀ m, m < Lib.ctz 64 x → x.testBit m = false := by
  have h : x < 2 ^ 64 := hx
  have e : Lib.ctz 64 x = Lib.ctzFrom 64 x := by simp [Lib.ctz, h0]
  rw [e]
  obtain ⟨m, hm, hk⟩ := Lib.ctzFrom_spec 64 x (by omega) h
  clear e h hx h0
  generalize Lib.ctzFrom 64 x = c at *
  subst hm
  rw [Nat.mul_comm]
  refine ⟨hk, ?_, fun j hj => ?_⟩
  · rw [Nat.testBit_mul_two_pow]
    simp
  · rw [Nat.testBit_mul_two_pow]
    simp; omega

/-- Word k with a 1 for each bit that is v. -/
def alike (x : Nat) (v : Bool) : Nat := if v then x else 18446744073709551615 - x
theorem alike_lt (x : Nat) (v : Bool) (hx : x < 18446744073709551616) : alike x v < 18446744073709551616 := by unfold alike; split <;> omega
theorem testBit_alike (x m : Nat) (v : Bool) (hx : x < 18446744073709551616) (hm : m < 64) : (alike x v).testBit m = (x.testBit m == v) := by
  unfold alike
  cases v
  · simp [testBit_not x m hx, hm]
  · simp
/-- The word that Next looks at: what lies ahead of bit f is struck. -/
def look (x : Nat) (v : Bool) (f : Nat) : Nat := alike x v &&& (18446744073709551615 - (2 ^ f - 1))
theorem look_lt (x f : Nat) (v : Bool) (hx : x < 18446744073709551616) : look x v f < 18446744073709551616 := Nat.lt_of_le_of_lt Nat.and_le_left (alike_lt x v hx)
theorem testBit_look (x m f : Nat) (v : Bool) (hx : x < 18446744073709551616) (hm : m < 64) (hf : f < 64) : (look x v f).testBit m = ((x.testBit m == v) && decide (f ≤ m)) := by
  unfold look
  have hp := pow_lt f hf
  rw [Nat.testBit_and, testBit_alike x m v hx hm, testBit_not _ _ (by omega), Nat.testBit_two_pow_sub_one]
  by_cases e : f ≤ m
  · simp [hm, e, show ¬ m < f from by omega]
  · simp [e, show m < f from by omega]

/-- The first bit from bit f on that is v, as Next tells it. -/
def First (ws : List Nat) (n f : Nat) (v : Bool) (j : Nat) : Prop := f ≤ j ∧ j < n ∧ bit ws j = v ∧ ∀ i, f ≤ i → i < j → bit ws i = !v
def Gone (ws : List Nat) (n f : Nat) (v : Bool) (k : Nat) : Prop := ∀ i, f ≤ i → i < 64 * k → i < n → bit ws i = !v

/-- how far the first looked-at word is struck -/
def ahead (f k : Nat) : Nat := if k = 0 then f % 64 else 0
theorem ahead_lt (f k : Nat) : ahead f k < 64 := by unfold ahead; split <;> omega

theorem bit_word (ws : List Nat) (k m : Nat) (hm : m < 64) : bit ws (64 * k + m) = (ws.getD k 0).testBit m := by
  unfold bit
  have e1 : (64 * k + m) / 64 = k := by omega
  have e2 : (64 * k + m) % 64 = m := by omega
  rw [e1, e2]

theorem bne_of {a v : Bool} (h : (a == v) = false) : a = !v := by cases a <;> cases v <;> simp_all

theorem gone_zero (ws : List Nat) (n f : Nat) (v : Bool) : Gone ws n f v (f / 64) := fun i h1 h2 _ => by omega

theorem gone_word (ws : List Nat) (n f k : Nat) (v : Bool) (hl : ∀ k, ws.getD k 0 < 18446744073709551616) (h : Gone ws n f v (f / 64 + k)) (hz : look (ws.getD (f / 64 + k) 0) v (ahead f k) = 0) : Gone ws n f v (f / 64 + k + 1) := by
  intro i h1 h2 h3
  by_cases hi : i < 64 * (f / 64 + k)
  · exact h i h1 hi h3
  · obtain ⟨m, rfl⟩ : ∃ m, i = 64 * (f / 64 + k) + m := ⟨i - 64 * (f / 64 + k), by omega⟩
    have hm : m < 64 := by omega
    rw [bit_word ws _ m hm]
    have t := testBit_look (ws.getD (f / 64 + k) 0) m (ahead f k) v (hl _) hm (ahead_lt f k)
    rw [hz, Nat.zero_testBit] at t
    have ha : ahead f k ≤ m := by unfold ahead; split <;> omega
    simp only [ha, decide_true, Bool.and_true] at t
    exact bne_of t.symm

theorem low_word (ws : List Nat) (n f k c : Nat) (v : Bool) (hl : ∀ k, ws.getD k 0 < 18446744073709551616) (h : Gone ws n f v (f / 64 + k)) (hc : c < 64)
    (h1 : (look (ws.getD (f / 64 + k) 0) v (ahead f k)).testBit c = true) (h2 : ∀ m, m < c → (look (ws.getD (f / 64 + k) 0) v (ahead f k)).testBit m = false) :
    f ≤ 64 * (f / 64 + k) + c ∧ bit ws (64 * (f / 64 + k) + c) = v ∧ ∀ i, f ≤ i → i < 64 * (f / 64 + k) + c → i < n → bit ws i = !v := by
  rw [testBit_look _ c _ v (hl _) hc (ahead_lt f k)] at h1
  simp only [Bool.and_eq_true, beq_iff_eq, decide_eq_true_eq] at h1
  refine ⟨?_, by rw [bit_word ws _ c hc]; exact h1.1, fun i g1 g2 g3 => ?_⟩
  · have := h1.2
    unfold ahead at this
    split at this <;> omega
  · by_cases hi : i < 64 * (f / 64 + k)
    · exact h i g1 hi g3
    · obtain ⟨m, rfl⟩ : ∃ m, i = 64 * (f / 64 + k) + m := ⟨i - 64 * (f / 64 + k), by omega⟩
      have hm : m < 64 := by omega
      have t := h2 m (by omega)
      rw [testBit_look _ m _ v (hl _) hm (ahead_lt f k)] at t
      have ha : ahead f k ≤ m := by unfold ahead; split <;> omega
      simp only [ha, decide_true, Bool.and_true] at t
      rw [bit_word ws _ m hm]
      exact bne_of t

/-- How many of the first words' bits are one; how many of the first m bits are. -/
def sumTo (ws : List Nat) : Nat → Nat
  | 0 => 0
  | k + 1 => sumTo ws k + cnt (ws.getD k 0) 64
def tot (ws : List Nat) : Nat → Nat
  | 0 => 0
  | m + 1 => tot ws m + (bit ws m).toNat
theorem tot_word (ws : List Nat) (k : Nat) : ∀ m, m ≤ 64 → tot ws (64 * k + m) = tot ws (64 * k) + cnt (ws.getD k 0) m
  | 0, _ => rfl
  | m + 1, h => by
    show tot ws (64 * k + m) + (bit ws (64 * k + m)).toNat = tot ws (64 * k) + (cnt (ws.getD k 0) m + ((ws.getD k 0).testBit m).toNat)
    rw [tot_word ws k m (by omega), bit_word ws k m (by omega)]
    omega
theorem sumTo_tot (ws : List Nat) : ∀ k, sumTo ws k = tot ws (64 * k)
  | 0 => rfl
  | k + 1 => by
    show sumTo ws k + _ = _
    rw [sumTo_tot ws k, show 64 * (k + 1) = 64 * k + 64 from by omega, tot_word ws k 64 (Nat.le_refl _)]
theorem tot_top (ws : List Nat) (n : Nat) (h : ∀ i, n ≤ i → bit ws i = false) : ∀ d, tot ws (n + d) = tot ws n
  | 0 => rfl
  | d + 1 => by
    show tot ws (n + d) + (bit ws (n + d)).toNat = _
    rw [tot_top ws n h d, h (n + d) (by omega)]
    rfl
theorem tot_le (ws : List Nat) : ∀ m, tot ws m ≤ m
  | 0 => Nat.le_refl _
  | m + 1 => by
    show tot ws m + (bit ws m).toNat ≤ m + 1
    have := tot_le ws m
    have := Bool.toNat_le (bit ws m)
    omega
theorem sumTo_all (ws : List Nat) (n : Nat) (hlen : ws.length = (n + 63) / 64) (h : ∀ i, n ≤ i → bit ws i = false) : sumTo ws ws.length = tot ws n := by
  rw [sumTo_tot, show 64 * ws.length = n + (64 * ws.length - n) from by omega, tot_top ws n h]
theorem sumTo_le (ws : List Nat) (k : Nat) : sumTo ws k ≤ 64 * k := by rw [sumTo_tot]; exact tot_le ws _

/-- The places of those of the first m bits that are one. -/
def places (ws : List Nat) : Nat → List Nat
  | 0 => []
  | m + 1 => if bit ws m then places ws m ++ [m] else places ws m
theorem length_places (ws : List Nat) : ∀ m, (places ws m).length = tot ws m
  | 0 => rfl
  | m + 1 => by
    have ih := length_places ws m
    simp only [places, tot]
    cases bit ws m <;> simp [ih]

end M
end Go.Proofs.Yticoojcmlkdeiaa
