/- The walk of the law BitsetPlays: its parts. -/
import Derived.Test.YtkaoodglnglkdaaDoorK
namespace Go.Proofs.YtkaoodglnglkdaaDoor
open Go.RowKit

/-- A slice of calls. -/
def OpsAt (w : World) (A : Option Addr) (len : Nat) (K I : Nat → Int) (V : Nat → Bool) : Prop :=
  len = 0 ∨ ∃ b off, A = some ⟨b, off, none⟩ ∧ b < w.heap.size ∧ ∀ i, i < len → w.cell? ⟨b, off + i * 3, none⟩ = some (.int .i64 (K i)) ∧ w.cell? ⟨b, off + i * 3 + 1, none⟩ = some (.int .i64 (I i)) ∧ w.cell? ⟨b, off + i * 3 + 2, none⟩ = some (.bool (V i))

/-- The state of a play: the row at p, q; the reference's list at b; both alike; all of it new. -/
structure Pl (w wr : World) (p q N cap : Nat) (ws : List Nat) (b : Nat) (f : Nat → Bool) : Prop where
  set : SetAt wr p q N cap ws
  ref : RefAt wr b N f
  hold : Holds ws f N
  hp : w.heap.size ≤ p
  hq : w.heap.size ≤ q
  hb : w.heap.size ≤ b
  pb : p ≠ b
  qb : q ≠ b
  grow : w.grownBy wr none
theorem Pl.grown {w wr wr' : World} {p q N cap : Nat} {ws : List Nat} {b : Nat} {f : Nat → Bool} (h : Pl w wr p q N cap ws b f) (hg : wr.grownBy wr' none) : Pl w wr' p q N cap ws b f where
  set := h.set.grown hg (by simp) (by simp)
  ref := h.ref.grown hg (by simp)
  hold := h.hold
  hp := h.hp
  hq := h.hq
  hb := h.hb
  pb := h.pb
  qb := h.qb
  grow := grown_trans h.grow hg
def upd (f : Nat → Bool) (i : Nat) (v : Bool) : Nat → Bool := fun j => if j = i then v else f j
/-- Behind a Put of a bit that there is, and the store into the list. -/
theorem Pl.put {w wr w1 : World} {p q N cap : Nat} {ws : List Nat} {b : Nat} {f : Nat → Bool} (h : Pl w wr p q N cap ws b f) (i : Nat) (v : Bool) (hi : i < N)
    (h1 : SetAt w1 p q N cap (M.put ws i v)) (h2 : wr.grownBy w1 (some q)) : Pl w (w1.setCell ⟨b, i, none⟩ (.bool v)) p q N cap (M.put ws i v) b (upd f i v) := by
  have hr1 := h.ref.grown h2 (by intro x; exact h.qb (Option.some.inj x).symm)
  have hg : w1.grownBy (w1.setCell ⟨b, i, none⟩ (.bool v)) (some b) := ⟨rfl, rfl, rfl, by simp [World.setCell], fun k _ hk => Below.heap_setCell w1 ⟨b, i, none⟩ (.bool v) k (fun e => hk (by rw [e]))⟩
  exact {
    set := h1.grown hg (by intro x; exact h.pb (Option.some.inj x)) (by intro x; exact h.qb (Option.some.inj x))
    ref := {
      row := fun j hj => by
        by_cases e : j = i
        · subst e
          rw [World.cell?_setCell_same w1 ⟨b, j, none⟩ _ (hr1.row j hj)]
          simp [upd]
        · rw [World.cell?_setCell_other w1 _ _ _ (by intro x; exact e (by injection x with _ y _; exact y.symm)), hr1.row j hj]
          simp [upd, e]
      fz := fun j => by rw [World.frozen?_setCell]; exact hr1.fz j
      blt := Nat.lt_of_lt_of_le hr1.blt hg.size
      small := hr1.small }
    hold := fun j => by
      rw [M.bit_put _ _ _ _ (by have := h.set.len; omega), h.hold j]
      unfold upd
      by_cases e : j = i
      · subst e; simp [hi]
      · simp [e]
    hp := h.hp
    hq := h.hq
    hb := h.hb
    pb := h.pb
    qb := h.qb
    grow := grown_own (grown_own h.grow h2 h.hq) hg h.hb }
/-- Behind a Copy, and a Put into the old row: whatever the old row holds then. -/
theorem Pl.copy {w wr w1 w2 : World} {p q N cap p2 q2 cap2 : Nat} {ws : List Nat} {b : Nat} {f : Nat → Bool} (h : Pl w wr p q N cap ws b f) (h1 : SetAt w1 p2 q2 N cap2 ws) (hp2 : wr.heap.size ≤ p2) (hq2 : wr.heap.size ≤ q2)
    (hg1 : wr.grownBy w1 none) (hg2 : w1.grownBy w2 (some q)) : Pl w w2 p2 q2 N cap2 ws b f := by
  have hql := h.set.qlt
  have hbl := h.ref.blt
  have hw := h.grow.size
  exact {
    set := h1.grown hg2 (by intro x; have := Option.some.inj x; omega) (by intro x; have := Option.some.inj x; omega)
    ref := (h.ref.grown hg1 (by simp)).grown hg2 (by intro x; exact h.qb (Option.some.inj x).symm)
    hold := h.hold
    hp := by omega
    hq := by omega
    hb := h.hb
    pb := by omega
    qb := by omega
    grow := grown_own (grown_trans h.grow hg1) hg2 h.hq }
/-- What Next answers, and the reference's: alike. -/
theorem next_both {ws : List Nat} {f : Nat → Bool} {N : Nat} {g : Int} {v : Bool} {e1 e2 : Ending} (hh : Holds ws f N) (h1 : NextIs ws N g.toNat v e1) (h2 : RefNextIs f N g v e2) :
    (∃ j : Nat, e1 = .returned (.tuple #[.int .i64 j, .bool true]) ∧ e2 = .returned (.int .i64 j)) ∨ (e1 = .returned (.tuple #[.int .i64 0, .bool false]) ∧ e2 = .returned (.int .i64 (-1))) := by
  have hbit : ∀ i, i < N → M.bit ws i = f i := fun i hi => by rw [hh i]; simp [hi]
  rcases h2 with ⟨j, k1, k2, k3, k4, k5⟩ | ⟨k1, k2⟩
  · refine Or.inl ⟨j, next_yes h1 j j rfl ⟨by omega, k2, by rw [hbit j k2]; exact k3, fun i g1 g2 => by rw [hbit i (by omega)]; exact k4 i (by omega) g2⟩, k5⟩
  · exact Or.inr ⟨next_no h1 fun i g1 g2 => by rw [hbit i g2]; exact k1 i (by omega) g2, k2⟩
theorem least_or (P : Nat → Bool) : ∀ N, (∃ j, j < N ∧ P j = true ∧ ∀ i, i < j → P i = false) ∨ ∀ i, i < N → P i = false
  | 0 => Or.inr fun i h => by omega
  | N + 1 => by
    rcases least_or P N with ⟨j, h1, h2, h3⟩ | h
    · exact Or.inl ⟨j, by omega, h2, h3⟩
    · cases hp : P N with
      | true => exact Or.inl ⟨N, by omega, hp, h⟩
      | false =>
        refine Or.inr fun i hi => ?_
        by_cases e : i = N
        · rw [e]; exact hp
        · exact h i (by omega)
/-- What Next and the reference's answer: one case for both. -/
theorem next_cases {ws : List Nat} {f : Nat → Bool} {N : Nat} (g : Int) (v : Bool) (hh : Holds ws f N) :
    (∃ j : Nat, (∀ e, NextIs ws N g.toNat v e → e = .returned (.tuple #[.int .i64 j, .bool true])) ∧ ∀ e, RefNextIs f N g v e → e = .returned (.int .i64 j)) ∨
    ((∀ e, NextIs ws N g.toNat v e → e = .returned (.tuple #[.int .i64 0, .bool false])) ∧ ∀ e, RefNextIs f N g v e → e = .returned (.int .i64 (-1))) := by
  have hbit : ∀ i, i < N → M.bit ws i = f i := fun i hi => by rw [hh i]; simp [hi]
  rcases least_or (fun i => decide (g ≤ (i : Int)) && (f i == v)) N with ⟨j, h1, h2, h3⟩ | h
  · simp only [Bool.and_eq_true, decide_eq_true_eq, beq_iff_eq] at h2
    have hb : ∀ i : Nat, g ≤ i → i < j → f i = !v := fun i a b => by
      have t := h3 i b
      simp only [show decide (g ≤ (i : Int)) = true from by simpa using a, Bool.true_and] at t
      exact M.bne_of t
    refine Or.inl ⟨j, fun e he => next_yes he j j rfl ⟨by omega, h1, by rw [hbit j h1]; exact h2.2, fun i a b => by rw [hbit i (by omega)]; exact hb i (by omega) b⟩, fun e he => ?_⟩
    rcases he with ⟨i, k1, k2, k3, k4, k5⟩ | ⟨k1, k2⟩
    · rw [k5]
      rcases Nat.lt_trichotomy i j with x | x | x
      · have t := hb i k1 x
        rw [k3] at t
        cases v <;> simp at t
      · rw [x]
      · have t := k4 j h2.1 x
        rw [h2.2] at t
        cases v <;> simp at t
    · have t := k1 j h2.1 h1
      rw [h2.2] at t
      cases v <;> simp at t
  · have hb : ∀ i : Nat, g ≤ i → i < N → f i = !v := fun i a b => by
      have t := h i b
      simp only [show decide (g ≤ (i : Int)) = true from by simpa using a, Bool.true_and] at t
      exact M.bne_of t
    refine Or.inr ⟨fun e he => next_no he fun i a b => by rw [hbit i b]; exact hb i (by omega) b, fun e he => ?_⟩
    rcases he with ⟨i, k1, k2, k3, k4, k5⟩ | ⟨k1, k2⟩
    · have t := hb i k1 k2
      rw [k3] at t
      cases v <;> simp at t
    · exact k2
theorem has_true {ws : List Nat} {f : Nat → Bool} {N i : Nat} (hh : Holds ws f N) (hi : i < N) : (decide ((0 : Int) ≤ (i : Int)) && M.bit ws (i : Int).toNat) = f i := by
  rw [Int.toNat_natCast, hh i]
  simp [hi]
theorem has_false {ws : List Nat} {f : Nat → Bool} {N : Nat} {g : Int} (hh : Holds ws f N) (hg : ¬ (0 ≤ g ∧ g < N)) : (decide ((0 : Int) ≤ g) && M.bit ws g.toNat) = false := by
  by_cases h0 : 0 ≤ g
  · rw [hh g.toNat]
    simp [show ¬ g.toNat < N by omega]
  · simp [h0]
end Go.Proofs.YtkaoodglnglkdaaDoor
