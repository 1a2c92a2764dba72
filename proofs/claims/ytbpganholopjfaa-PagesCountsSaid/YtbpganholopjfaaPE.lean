/- The walks of what copies rows: slices.Clone over rows, a table's Copy. -/
import Derived.Test.YtbpganholopjfaaPD
import Derived.Deep.QuietTactic
import Derived.BigQuiet
import Derived.OwnWalk
namespace Go.Proofs.Ytbpganholopjfaa
open Go.RowKit

theorem addr_add (q j : Nat) : (⟨q, 0, none⟩ : Addr).add j = ⟨q, j, none⟩ := by
  by_cases h : j = 0
  · subst h; rfl
  · simp [Addr.add, h]

/-- The cells of a row. -/
def rcell (x : Pg.Row) (j : Nat) : Value := if j = 0 then .int .i64 x.k else if j = 1 then .int .i64 x.c else if j = 2 then .int .i64 x.o else .int .i64 x.r
/-- The cells of n rows. -/
def rcells (R : Nat → Pg.Row) (n : Nat) : List Value := (List.range (n * 4)).map fun i => rcell (R (i / 4)) (i % 4)
theorem rcells_length (R : Nat → Pg.Row) (n : Nat) : (rcells R n).length = n * 4 := by simp [rcells]
theorem rcells_at (R : Nat → Pg.Row) (n i : Nat) (h : i < n * 4) : (rcells R n)[i]? = some (rcell (R (i / 4)) (i % 4)) := by simp [rcells, h]
theorem rcells_one (R : Nat → Pg.Row) (n : Nat) : ∀ u ∈ rcells R n, u.oneCell' = true := by
  intro u hu
  obtain ⟨i, _, rfl⟩ := List.mem_map.1 hu
  unfold rcell
  split
  · rfl
  · split
    · rfl
    · split <;> rfl
theorem RowsAt.cell {w : World} {q n : Nat} {R : Nat → Pg.Row} (h : RowsAt w q n R) (i : Nat) (hi : i < n * 4) : w.cell? ⟨q, i, none⟩ = some (rcell (R (i / 4)) (i % 4)) := by
  have h4 : i / 4 < n := by omega
  rcases (by omega : i % 4 = 0 ∨ i % 4 = 1 ∨ i % 4 = 2 ∨ i % 4 = 3) with e | e | e | e
  · have := h.c0 _ h4; rw [show i / 4 * 4 = i by omega] at this; rw [this, e]; rfl
  · have := h.c1 _ h4; rw [show i / 4 * 4 + 1 = i by omega] at this; rw [this, e]; rfl
  · have := h.c2 _ h4; rw [show i / 4 * 4 + 2 = i by omega] at this; rw [this, e]; rfl
  · have := h.c3 _ h4; rw [show i / 4 * 4 + 3 = i by omega] at this; rw [this, e]; rfl
theorem rows_of_cells {w : World} {q n : Nat} {R : Nat → Pg.Row} (h : ∀ i, i < n * 4 → w.cell? ⟨q, i, none⟩ = some (rcell (R (i / 4)) (i % 4))) (hf : ∀ k, w.frozen? ⟨q, k, none⟩ = false) (hq : q < w.heap.size) : RowsAt w q n R where
  c0 := fun i hi => by rw [h _ (by omega), show i * 4 / 4 = i by omega, show i * 4 % 4 = 0 by omega]; rfl
  c1 := fun i hi => by rw [h _ (by omega), show (i * 4 + 1) / 4 = i by omega, show (i * 4 + 1) % 4 = 1 by omega]; rfl
  c2 := fun i hi => by rw [h _ (by omega), show (i * 4 + 2) / 4 = i by omega, show (i * 4 + 2) % 4 = 2 by omega]; rfl
  c3 := fun i hi => by rw [h _ (by omega), show (i * 4 + 3) / 4 = i by omega, show (i * 4 + 3) % 4 = 3 by omega]; rfl
  fz := hf
  qlt := hq

/-- A slice of rows of the call's own. -/
def PRows (w w' : World) (n : Nat) (R : Nat → Pg.Row) (e : Ending) : Prop :=
  ∃ q cap, e = .returned (.slice (some ⟨q, 0, none⟩) n cap) ∧ n ≤ cap ∧ w.heap.size ≤ q ∧ RowsAt w' q n R ∧ w.grownBy w' none

theorem prows_end (T : TypeId) (w w' : World) (n : Nat) (R : Nat → Pg.Row) (v : Value) (hown : w'.ownsRow w.heap.size T 4 v n (rcells R n)) (hg : w.grownBy w' none) (hv : v ≠ .slice none 0 0) : PRows w w' n R (.returned v) := by
  obtain ⟨-, hn | ⟨g, cap, cur, rfl, hbg, hh, hnc, hcm, hcs, htake⟩⟩ := hown
  · exact absurd hn.1 hv
  · refine ⟨g, cap, rfl, hnc, hbg, rows_of_cells (fun i hi => ?_) (fun k => ?_) (Array.getElem?_eq_some_iff.1 hh).1, hg⟩
    · have e : w'.cell? ⟨g, i, none⟩ = cur[i]? := by simp only [World.cell?, hh]; rfl
      have t := congrArg (fun l => l[i]?) htake
      simp only [List.getElem?_take, hi, if_true, Array.getElem?_toList] at t
      rw [e, t, rcells_at R n i hi]
    · simp only [World.frozen?, hh]
      simp

set_option maxHeartbeats 800000 in
theorem pclone_at (q n cap : Nat) (R : Nat → Pg.Row) (w : World) (hn : n ≤ 256) (hrow : RowsAt w q n R) :
    Calls Try.prog 63 #[.slice (some ⟨q, 0, none⟩) n cap] w fun e w' => PRows w w' n R e := by
  have HR := Lib.hid hrow
  clear hrow
  obtain ⟨i0, hi, hz0, hz1, hz2⟩ := info_parts infoRow
  have hnil := fun (w : World) => Lib.run_eql_slice_nil (P := Try.prog) w 107 76 (some ⟨q, 0, none⟩) n cap 0 0 Try.underlying107
  go_enter Try.func63, Try.ntmps63
  go_wp2_with (at_builtin; refine wpList_append_own _ rfl _ _ 107 rfl w.heap.size 76 i0 (.agg #[.int .i64 0, .int .i64 0, .int .i64 0, .int .i64 0]) 4 32 Try.underlying107 hi hz0 hz1 hz2 rfl (by decide) _ _ _ rfl (World.ownsRow_made w #[] 0 (Nat.le_refl _) (Nat.zero_le _) rfl) ⟨q, 0, none⟩ n cap (rcells R n) rfl ?c1 ?c2 ?c3 ?c4 ?c5 ?c6 ?_)
  case c1 => exact rcells_length R n
  case c2 =>
    intro j u hj
    have hj' : j < n * 4 := by
      have := (List.getElem?_eq_some_iff.1 hj).1
      rwa [rcells_length] at this
    rw [rcells_at R n j hj'] at hj
    rw [addr_add]
    have h2 := (grown_alloc w (.cells #[] 76) none).cell (HR.out.cell j hj') (by simp)
    rw [← hj]
    exact h2
  case c3 => exact rcells_one R n
  case c4 => simp only [maxLen]; omega
  case c5 => omega
  case c6 => simp
  intro v' w1 hown hgrow hiff
  have hv : v' ≠ .slice none 0 0 := fun e => hiff e
  have HE := Lib.hid (prows_end _ w w1 n R v' (by simpa using hown) (grown_own (grown_alloc w _ none) hgrow (Nat.le_refl _)) hv)
  clear hown hgrow hiff hv
  go_wp2
  go_ret
  exact HE.out

set_option maxHeartbeats 1000000 in
/-- Copy: a new table that is the same. -/
theorem pcopy_at {w : World} {p q n cap : Nat} {R : Nat → Pg.Row} (h : TabAt w p q n cap R) :
    Calls Try.prog 36 #[.pointer (some ⟨p, 0, none⟩)] w fun e w' => PMade w w' n R e := by
  have HC := Lib.hid (pclone_at q n cap R w h.small h.rows)
  have HOK := Lib.hid h.ok
  have hn := h.small
  have h0 := h.c
  clear h
  go_enter Try.func36, Try.ntmps36
  go_wp2_with (go_at_call 63; refine HC.out.mono ?_; rintro e w1 ⟨q1, cap1, rfl, k1, k2, k3, k4⟩; have K := Lib.hid (And.intro k1 (And.intro k2 (And.intro k3 k4))); clear k1 k2 k3 k4)
  go_ret
  obtain ⟨k1, k2, k3, k4⟩ := K.out
  have g := grown_alloc w1 (.cells #[.slice (some ⟨q1, 0, none⟩) n cap1] 109) none
  exact ⟨w1.heap.size, q1, cap1, rfl, ⟨by rw [cell_alloc_new]; rfl, k3.grown g (by simp), by have := k3.qlt; omega, k1, hn, HOK.out⟩, k4.size, k2, grown_trans k4 g⟩
end Go.Proofs.Ytbpganholopjfaa
