/- The document's set: its list under making; overlaps; Make where it goes on. -/
import Derived.Test.YticoojcmlkdeiaaRC
import Derived.Deep.RegionLaw
import Derived.Deep.RegionHeld3
namespace Go.Proofs.Yticoojcmlkdeiaa
open Go.RowKit
open Sl (upd)
open Lg (pgs)
open Rf (LZ)

namespace Rf
def bcells : List (Nat × Nat) → List Value
  | [] => []
  | b :: l => .int .i64 (b.1 : Nat) :: .int .i64 (b.2 : Nat) :: bcells l
theorem bcells_length : ∀ l, (bcells l).length = l.length * 2
  | [] => rfl
  | b :: l => by simp [bcells, bcells_length l]; omega
theorem bcells_append : ∀ a b, bcells (a ++ b) = bcells a ++ bcells b
  | [], _ => rfl
  | x :: a, b => by simp [bcells, bcells_append a b]
theorem bcells_at : ∀ (l : List (Nat × Nat)) (i : Nat) (h : i < l.length), (bcells l)[i * 2]? = some (.int .i64 (l[i].1 : Nat)) ∧ (bcells l)[i * 2 + 1]? = some (.int .i64 (l[i].2 : Nat))
  | b :: l, 0, _ => ⟨rfl, rfl⟩
  | b :: l, i + 1, h => by
    have h' : i < l.length := by simpa using h
    have := bcells_at l i h'
    rw [show (i + 1) * 2 = i * 2 + 1 + 1 by omega]
    simpa [bcells] using this
theorem bcells_one (a n : Nat) : bcells [(a, n)] = [.int .i64 (a : Nat), .int .i64 (n : Nat)] := rfl
end Rf
open Rf (bcells)

def BOwn (w : World) (base : Nat) (v : Value) (L : List (Nat × Nat)) : Prop := w.ownsRow base 70 2 v L.length (bcells L)
theorem bown_shape {w : World} {B n size : Nat} {e : TypeId} {v : Value} {xs : List Value} (h : w.ownsRow B e size v n xs) : ∃ A c, v = .slice A n c ∧ n ≤ c := by
  obtain ⟨-, ⟨h1, h2⟩ | ⟨g, cap, cur, rfl, h3, h4, h5, _⟩⟩ := h
  · exact ⟨none, 0, by rw [h1, h2], by omega⟩
  · exact ⟨_, _, rfl, h5⟩
theorem els_of_own {w : World} {base : Nat} {L : List (Nat × Nat)} {A : Option Addr} {n c : Nat} (h : BOwn w base (.slice A n c) L) : L.length = 0 ∨ ∃ g, A = some ⟨g, 0, none⟩ ∧ base ≤ g ∧ ∀ i (h : i < L.length), w.cell? ⟨g, i * 2, none⟩ = some (.int .i64 (L[i].1 : Nat)) ∧ w.cell? ⟨g, i * 2 + 1, none⟩ = some (.int .i64 (L[i].2 : Nat)) := by
  obtain ⟨-, ⟨h1, h2⟩ | ⟨g, cap, cur, e, hbg, hh, hnc, hcm, hcs, htake⟩⟩ := h
  · exact .inl h2
  · injection e with e1 _ _
    have key : ∀ j, j < L.length * 2 → w.cell? ⟨g, j, none⟩ = (bcells L)[j]? := fun j hj => by
      have e : w.cell? ⟨g, j, none⟩ = cur[j]? := by simp only [World.cell?, hh]; rfl
      have t := congrArg (fun l => l[j]?) htake
      simp only [List.getElem?_take, hj, if_true, Array.getElem?_toList] at t
      rw [e, t]
    exact .inr ⟨g, e1, hbg, fun i hi => ⟨by rw [key _ (by omega)]; exact (Rf.bcells_at L i hi).1, by rw [key _ (by omega)]; exact (Rf.bcells_at L i hi).2⟩⟩
theorem infoBlock : (Try.prog.info? 70).map (fun i => (i.zero, i.size, i.bytes)) = some (some (.agg #[.int .i64 0, .int .i64 0]), 2, 16) := by kernel_rfl
theorem two_cells (w : World) (a b : Value) (t : TypeId) (j : Nat) (u : Value) (h : ([a, b] : List Value)[j]? = some u) : (w.alloc (.cells #[a, b] t)).cell? ((⟨w.heap.size, 0, none⟩ : Addr).add j) = some u := by
  rw [An.aaddr_add, cell_alloc_new]
  simpa using h
theorem bonto_end {w wr w1 : World} {L : List (Nat × Nat)} {p n : Nat} {s v' : Value} (o : Obj) (hg : w.grownBy wr none) (hown : BOwn wr w.heap.size s L) (h2 : w1.ownsRow w.heap.size 70 2 v' (L.length + 1) (bcells L ++ [.int .i64 (p : Nat), .int .i64 (n : Nat)])) (h3 : (wr.alloc o).grownBy w1 s.ownBlock) :
    BOwn w1 w.heap.size v' (L ++ [(p, n)]) ∧ w.grownBy w1 none := by
  refine ⟨?_, An.grown_onto (grown_trans hg (World.grownBy_alloc wr o none)) h3 (fun q hq => (World.ownsRow.lt hown q hq).1)⟩
  unfold BOwn
  rw [List.length_append, List.length_singleton, Rf.bcells_append, Rf.bcells_one]
  exact h2
namespace Rf
theorem lo_take (page : Nat) (L : List (Nat × Nat)) (k : Nat) (h : k < L.length) : lo page (L.take (k + 1)) = if L[k].1 < page then lo page (L.take k) ++ [L[k]] else lo page (L.take k) := by
  rw [List.take_succ_eq_append_getElem h]
  unfold lo
  rw [List.filter_append]
  by_cases e : L[k].1 < page
  · rw [if_pos e]; simp [e]
  · rw [if_neg e]; simp [e]
theorem hi_take (page : Nat) (L : List (Nat × Nat)) (k : Nat) (h : k < L.length) : hi page (L.take (k + 1)) = if page < L[k].1 then hi page (L.take k) ++ [L[k]] else hi page (L.take k) := by
  rw [List.take_succ_eq_append_getElem h]
  unfold hi
  rw [List.filter_append]
  by_cases e : page < L[k].1
  · rw [if_pos e]; simp [e]
  · rw [if_neg e]; simp [e]
/-- Has none of a run's first j pages a block's? -/
def Free (page j p g : Nat) : Prop := ∀ t, t < j → ¬ (p ≤ page + t ∧ page + t < p + g)
theorem free_all {page run p g : Nat} (h : Free page run p g) (hr : 1 ≤ run) (hg : 1 ≤ g) : ¬ (p < page + run ∧ page < p + g) := by
  intro ⟨h1, h2⟩
  by_cases e : p ≤ page
  · exact h 0 (by omega) ⟨by omega, by omega⟩
  · exact h (p - page) (by omega) ⟨by omega, by omega⟩
end Rf
end Go.Proofs.Yticoojcmlkdeiaa
