/- The walk of the law's example (awake), and of the reference's New; what Next answers where the first bit is known. -/
import Derived.Test.YtkaoodglnglkdaaDoorE
namespace Go.Proofs.YtkaoodglnglkdaaDoor
open Go.RowKit

theorem first_unique {ws : List Nat} {n f : Nat} {v : Bool} {i j : Nat} (h : M.First ws n f v i) (k : M.First ws n f v j) : i = j := by
  rcases Nat.lt_trichotomy i j with e | e | e
  · have a := k.2.2.2 i h.1 e
    rw [h.2.2.1] at a
    cases v <;> simp at a
  · exact e
  · have a := h.2.2.2 j k.1 e
    rw [k.2.2.1] at a
    cases v <;> simp at a
theorem next_yes {ws : List Nat} {n f : Nat} {v : Bool} {e : Ending} (h : NextIs ws n f v e) (j : Nat) (J : Int) (hJ : J = j) (k : M.First ws n f v j) : e = .returned (.tuple #[.int .i64 J, .bool true]) := by
  subst hJ
  rcases h with ⟨i, hi, he⟩ | ⟨ha, he⟩
  · rw [he, first_unique hi k]
  · have a := ha j k.1 k.2.1
    rw [k.2.2.1] at a
    cases v <;> simp at a
theorem next_no {ws : List Nat} {n f : Nat} {v : Bool} {e : Ending} (h : NextIs ws n f v e) (k : ∀ i, f ≤ i → i < n → M.bit ws i = !v) : e = .returned (.tuple #[.int .i64 0, .bool false]) := by
  rcases h with ⟨i, hi, he⟩ | ⟨ha, he⟩
  · have a := k i hi.1 hi.2.1
    rw [hi.2.2.1] at a
    cases v <;> simp at a
  · exact he

theorem Tab.pos {w : World} (h : Tab w) : 0 < w.heap.size := World.block_lt_of_cell? w ⟨0, 0, none⟩ (h 0 (by decide))

def three : List Nat := M.put (zeros 10) 3 true
theorem three_bit (i : Nat) : M.bit three i = decide (i = 3) := by
  unfold three
  rw [M.bit_put _ _ _ _ (by simp [zeros]), zeros_bit]
  by_cases h : i = 3 <;> simp [h]
theorem three_yes : M.First three 10 0 true 3 := ⟨by omega, by omega, by rw [three_bit]; rfl, fun i _ h => by rw [three_bit]; simp; omega⟩
theorem three_no : M.First three 10 3 false 4 := ⟨by omega, by omega, by rw [three_bit]; rfl, fun i h1 h2 => by rw [three_bit]; simp; omega⟩
theorem three_tot : M.tot three 10 = 1 := by simp [M.tot, three_bit]

set_option maxHeartbeats 1000000 in
theorem awake_at (w : World) (hT : Tab w) : Calls Tryd.prog 15 #[] w fun e w' => e = .returned (.bool true) ∧ w.grownBy w' none := by
  have HT := Lib.hid hT
  have hpos := hT.pos
  clear hT
  go_enter Tryd.func15, Tryd.ntmps15
  go_wp2_with fail
  refine (new_core 10 10 _ (by omega) (by omega) (by omega) (by omega)).mono ?_
  rintro e w1 ⟨p, q, cap, rfl, hs, hp, hq, hg⟩
  have HS := Lib.hid hs
  have HG := Lib.hid hg
  clear hs hg
  go_wp2_with fail
  refine (put_in HS.out 3 true (by omega) (by omega)).mono ?_
  rintro e w2 ⟨rfl, hs2, hg2⟩
  have HS2 : Hid (SetAt w2 p q 10 cap three) := Lib.hid hs2
  have HG2 := Lib.hid (grown_own HG.out hg2 hq)
  have HT2 := Lib.hid (HT.out.grown HG2.out (by simp))
  clear hs2 hg2
  go_wp2_with fail
  refine (next_at HS2.out HT2.out 0 true).mono ?_
  rintro e w' ⟨hn, rfl⟩
  obtain rfl := next_yes hn 3 3 rfl three_yes
  clear hn
  go_wp2_with fail
  refine (next_at HS2.out HT2.out 3 false).mono ?_
  rintro e w' ⟨hn, rfl⟩
  obtain rfl := next_yes hn 4 4 rfl three_no
  clear hn
  go_wp2_with fail
  refine (count_at HS2.out).mono ?_
  rintro e w' ⟨he, rfl⟩
  rw [three_tot] at he
  obtain rfl := he
  go_wp2
  go_ret
  exact ⟨rfl, HG2.out⟩

set_option maxHeartbeats 400000 in
/-- The reference's New: a slice of clampN n truths. -/
theorem refnew_at (n : Int) (w : World) : Calls Tryd.prog 8 #[.int .i64 n] w fun e w' =>
    e = .returned (.slice (some ⟨w.heap.size, 0, none⟩) (clampN n) (clampN n)) ∧ w' = w.alloc (.cells (madeCells (Value.bool false).cells (clampN n)) 4) := by
  obtain ⟨i0, hi, hz0, hz1, hz2⟩ := info_parts infoBool
  have hmk : ∀ (N : Int) (K : Nat), N = K → K ≤ 65536 → (Instr.makeSlice 25 (.int .i64 N) (.int .i64 N)).run Tryd.prog w = .ok (.slice (some ⟨w.heap.size, 0, none⟩) K K) (w.alloc (.cells (madeCells (Value.bool false).cells K) 4)) := by
    intro N K hN hK
    have h := run_make (P := Tryd.prog) w 25 4 i0 (.bool false) Tryd.underlying25 hi hz0 .i64 .i64 N N (by omega) (Int.le_refl _) (by rw [hz2]; omega) (by omega)
    rw [hz1, Nat.mul_one, show N.toNat = K from by omega] at h
    exact h
  by_cases h0 : n < 0
  · have hc : clampN n = 0 := by simp [clampN, h0]
    have hm := hmk 0 0 rfl (by omega)
    rw [hc]
    clear hmk hc
    go_enter Tryd.func8, Tryd.ntmps8
    go_wp2
    go_ret
    exact ⟨rfl, rfl⟩
  · have h0' : 0 ≤ n := by omega
    by_cases h1 : n ≤ 65536
    · have hc : n = clampN n := by simp [clampN, show ¬ n < 0 by omega, h1]; omega
      have hm := hmk n (clampN n) hc (clampN_le n)
      clear hmk
      generalize clampN n = K at *
      have HC := Lib.hid hc
      clear hc
      go_enter Tryd.func8, Tryd.ntmps8
      go_wp2
      go_ret
      exact ⟨rfl, rfl⟩
    · have hc : clampN n = 65536 := by simp [clampN, show ¬ n < 0 by omega, h1]
      have h1' : 65536 < n := by omega
      have hm := hmk 65536 65536 rfl (by omega)
      rw [hc]
      clear hmk hc
      go_enter Tryd.func8, Tryd.ntmps8
      go_wp2
      go_ret
      exact ⟨rfl, rfl⟩
end Go.Proofs.YtkaoodglnglkdaaDoor
