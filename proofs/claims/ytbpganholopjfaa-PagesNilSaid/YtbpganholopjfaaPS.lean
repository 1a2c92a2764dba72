/- What storing a row leaves of rows. -/
import Derived.Test.YtbpganholopjfaaPB2
namespace Go.Proofs.Ytbpganholopjfaa
open Go.RowKit

theorem grown_set (w : World) (b i : Nat) (v : Value) : w.grownBy (w.setCell ⟨b, i, none⟩ v) (some b) :=
  ⟨rfl, rfl, rfl, by simp [World.setCell], fun j _ hj => Below.heap_setCell w ⟨b, i, none⟩ v j (fun e => hj (by rw [e]))⟩
theorem grown_to_set {a w : World} {b : Nat} (h : a.grownBy w (some b)) (i : Nat) (v : Value) : a.grownBy (w.setCell ⟨b, i, none⟩ v) (some b) := grown_trans h (grown_set w b i v)

def setRow (w : World) (q a : Nat) (x : Pg.Row) : World :=
  (((w.setCell ⟨q, a * 4, none⟩ (.int .i64 x.k)).setCell ⟨q, a * 4 + 1, none⟩ (.int .i64 x.c)).setCell ⟨q, a * 4 + 2, none⟩ (.int .i64 x.o)).setCell ⟨q, a * 4 + 3, none⟩ (.int .i64 x.r)
theorem grown_setRow (w : World) (q a : Nat) (x : Pg.Row) : w.grownBy (setRow w q a x) (some q) :=
  grown_to_set (grown_to_set (grown_to_set (grown_set w q _ _) _ _) _ _) _ _

theorem set_far (w : World) (q i j : Nat) (v : Value) (h : i ≠ j) : (w.setCell ⟨q, i, none⟩ v).cell? ⟨q, j, none⟩ = w.cell? ⟨q, j, none⟩ :=
  World.cell?_setCell_other w _ _ _ (fun e => h (congrArg Addr.off e))
theorem setRow_far (w : World) (q a j : Nat) (x : Pg.Row) (h : j < a * 4 ∨ a * 4 + 3 < j) : (setRow w q a x).cell? ⟨q, j, none⟩ = w.cell? ⟨q, j, none⟩ := by
  unfold setRow
  rw [set_far _ _ _ _ _ (by omega), set_far _ _ _ _ _ (by omega), set_far _ _ _ _ _ (by omega), set_far _ _ _ _ _ (by omega)]
theorem set_same (w : World) (q i : Nat) (v : Value) (h : (w.cell? ⟨q, i, none⟩).isSome = true) : (w.setCell ⟨q, i, none⟩ v).cell? ⟨q, i, none⟩ = some v := World.cell?_setCell_same' w _ _ h
theorem setRow_same (w : World) (q a : Nat) (x : Pg.Row) (h0 : (w.cell? ⟨q, a * 4, none⟩).isSome = true) (h1 : (w.cell? ⟨q, a * 4 + 1, none⟩).isSome = true) (h2 : (w.cell? ⟨q, a * 4 + 2, none⟩).isSome = true) (h3 : (w.cell? ⟨q, a * 4 + 3, none⟩).isSome = true) :
    (setRow w q a x).cell? ⟨q, a * 4, none⟩ = some (.int .i64 x.k) ∧ (setRow w q a x).cell? ⟨q, a * 4 + 1, none⟩ = some (.int .i64 x.c) ∧ (setRow w q a x).cell? ⟨q, a * 4 + 2, none⟩ = some (.int .i64 x.o) ∧ (setRow w q a x).cell? ⟨q, a * 4 + 3, none⟩ = some (.int .i64 x.r) := by
  unfold setRow
  refine ⟨?_, ?_, ?_, ?_⟩
  · rw [set_far _ _ _ _ _ (by omega), set_far _ _ _ _ _ (by omega), set_far _ _ _ _ _ (by omega), set_same _ _ _ _ h0]
  · rw [set_far _ _ _ _ _ (by omega), set_far _ _ _ _ _ (by omega), set_same _ _ _ _ (by rw [set_far _ _ _ _ _ (by omega)]; exact h1)]
  · rw [set_far _ _ _ _ _ (by omega), set_same _ _ _ _ (by rw [set_far _ _ _ _ _ (by omega), set_far _ _ _ _ _ (by omega)]; exact h2)]
  · rw [set_same _ _ _ _ (by rw [set_far _ _ _ _ _ (by omega), set_far _ _ _ _ _ (by omega), set_far _ _ _ _ _ (by omega)]; exact h3)]
theorem setRow_fz (w : World) (q a : Nat) (x : Pg.Row) (p : Addr) : (setRow w q a x).frozen? p = w.frozen? p := by
  unfold setRow
  rw [World.frozen?_setCell, World.frozen?_setCell, World.frozen?_setCell, World.frozen?_setCell]

theorem rows_set {w : World} {q n : Nat} {R : Nat → Pg.Row} (h : RowsAt w q n R) (a : Nat) (ha : a < n) (x : Pg.Row) (S : Nat → Pg.Row) (hS : ∀ i, i < n → S i = if i = a then x else R i) : RowsAt (setRow w q a x) q n S := by
  obtain ⟨s0, s1, s2, s3⟩ := setRow_same w q a x (by rw [h.c0 a ha]; rfl) (by rw [h.c1 a ha]; rfl) (by rw [h.c2 a ha]; rfl) (by rw [h.c3 a ha]; rfl)
  have far : ∀ i j, i ≠ a → j < 4 → (setRow w q a x).cell? ⟨q, i * 4 + j, none⟩ = w.cell? ⟨q, i * 4 + j, none⟩ := fun i j e hj => setRow_far _ _ _ _ _ (by omega)
  refine ⟨fun i hi => ?_, fun i hi => ?_, fun i hi => ?_, fun i hi => ?_, fun k => by rw [setRow_fz]; exact h.fz k, by have := (grown_setRow w q a x).size; have := h.qlt; omega⟩
  · rw [hS i hi]
    by_cases e : i = a
    · subst e; rw [if_pos rfl]; exact s0
    · rw [if_neg e]; exact (far i 0 e (by omega)).trans (h.c0 i hi)
  · rw [hS i hi]
    by_cases e : i = a
    · subst e; rw [if_pos rfl]; exact s1
    · rw [if_neg e]; exact (far i 1 e (by omega)).trans (h.c1 i hi)
  · rw [hS i hi]
    by_cases e : i = a
    · subst e; rw [if_pos rfl]; exact s2
    · rw [if_neg e]; exact (far i 2 e (by omega)).trans (h.c2 i hi)
  · rw [hS i hi]
    by_cases e : i = a
    · subst e; rw [if_pos rfl]; exact s3
    · rw [if_neg e]; exact (far i 3 e (by omega)).trans (h.c3 i hi)

/-- A first page and m Tails behind it. -/
def layK (R : Nat → Pg.Row) (a : Nat) (x : Pg.Row) (m : Nat) : Nat → Pg.Row := fun i => if i = a then x else if a < i ∧ i < a + 1 + m then Pg.tail else R i
theorem layK_zero (R : Nat → Pg.Row) (a : Nat) (x : Pg.Row) (i : Nat) : layK R a x 0 i = if i = a then x else R i := by
  unfold layK
  by_cases h : i = a
  · rw [if_pos h, if_pos h]
  · rw [if_neg h, if_neg h, if_neg (by omega)]
theorem layK_succ (R : Nat → Pg.Row) (a : Nat) (x : Pg.Row) (m i : Nat) : layK R a x (m + 1) i = if i = a + 1 + m then Pg.tail else layK R a x m i := by
  unfold layK
  by_cases h : i = a
  · rw [if_pos h, if_pos h, if_neg (by omega)]
  · rw [if_neg h, if_neg h]
    by_cases g : i = a + 1 + m
    · rw [if_pos g, if_pos (by omega)]
    · rw [if_neg g]
      by_cases k : a < i ∧ i < a + 1 + m
      · rw [if_pos k, if_pos (by omega)]
      · rw [if_neg k, if_neg (by omega)]
theorem layK_all (R : Nat → Pg.Row) (a : Nat) (x : Pg.Row) (m : Nat) (h : (m : Int) = x.r - 1) : layK R a x m = Pg.lay R a x := by
  funext i
  unfold layK Pg.lay
  by_cases g : i = a
  · rw [if_pos g, if_pos g]
  · rw [if_neg g, if_neg g]
    by_cases k : a < i ∧ i < a + 1 + m
    · rw [if_pos k, if_pos (by omega)]
    · rw [if_neg k, if_neg (by omega)]
end Go.Proofs.Ytbpganholopjfaa
