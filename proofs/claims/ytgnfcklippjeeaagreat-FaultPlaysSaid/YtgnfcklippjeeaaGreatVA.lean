/- The code's list of live places. -/
import Derived.Test.YtgnfcklippjeeaaGreatL3
import Derived.Test.YtgnfcklippjeeaaGreatK8
import Derived.Test.YtgnfcklippjeeaaGreatL4
import Derived.Laws.AppendOwnNone
namespace Go.Proofs.YtgnfcklippjeeaaGreat
open Go.RowKit
open Sl (Cls bs upd LnkIs)
open Lg (pgs)

def pcells : List Pc → List Value
  | [] => []
  | p :: l => .int .i64 (p.g : Nat) :: .int .i64 (p.k : Nat) :: .int .i64 (p.b : Nat) :: .int .i64 (p.z : Nat) :: .int .i64 (p.st : Nat) :: .bool p.gr :: pcells l
theorem pcells_length : ∀ l, (pcells l).length = l.length * 6
  | [] => rfl
  | p :: l => by simp [pcells, pcells_length l]; omega
theorem pcells_append : ∀ a b, pcells (a ++ b) = pcells a ++ pcells b
  | [], _ => rfl
  | x :: a, b => by simp [pcells, pcells_append a b]
theorem pcells_one (p : Pc) : pcells [p] = [.int .i64 (p.g : Nat), .int .i64 (p.k : Nat), .int .i64 (p.b : Nat), .int .i64 (p.z : Nat), .int .i64 (p.st : Nat), .bool p.gr] := rfl
theorem pcells_at : ∀ (l : List Pc) (i : Nat) (h : i < l.length), (pcells l)[i * 6]? = some (.int .i64 (l[i].g : Nat)) ∧ (pcells l)[i * 6 + 1]? = some (.int .i64 (l[i].k : Nat)) ∧ (pcells l)[i * 6 + 2]? = some (.int .i64 (l[i].b : Nat)) ∧ (pcells l)[i * 6 + 3]? = some (.int .i64 (l[i].z : Nat)) ∧ (pcells l)[i * 6 + 4]? = some (.int .i64 (l[i].st : Nat)) ∧ (pcells l)[i * 6 + 5]? = some (.bool l[i].gr)
  | b :: l, 0, _ => ⟨rfl, rfl, rfl, rfl, rfl, rfl⟩
  | b :: l, i + 1, h => by
    have h' : i < l.length := by simpa using h
    have := pcells_at l i h'
    rw [show (i + 1) * 6 = i * 6 + 1 + 1 + 1 + 1 + 1 + 1 by omega]
    simpa [pcells] using this
theorem pcells_cell : ∀ (l : List Pc), ∀ u ∈ pcells l, u.oneCell' = true
  | [], u, h => by simp [pcells] at h
  | p :: l, u, h => by
    simp only [pcells, List.mem_cons] at h
    rcases h with rfl | rfl | rfl | rfl | rfl | rfl | h
    any_goals rfl
    exact pcells_cell l u h
/-- The live slots below k of a page; all live places of a page; of the pages below m. -/
def lvS (g : Nat) (d : Sd) : Nat → List Pc
  | 0 => []
  | k + 1 => if d.S k = 1 then lvS g d k ++ [spc g d k] else lvS g d k
def lvP (V : St) (g : Nat) : List Pc := if V.Z g ≠ 0 then [gpc g (V.Z g)] else match V.L g with
  | none => []
  | some d => lvS g d d.n
def lvL (V : St) : Nat → List Pc
  | 0 => []
  | g + 1 => lvL V g ++ lvP V g
theorem lvS_len (g : Nat) (d : Sd) : ∀ k, (lvS g d k).length ≤ k
  | 0 => by simp [lvS]
  | k + 1 => by
    have := lvS_len g d k
    unfold lvS
    split
    · simp; omega
    · omega
theorem lvP_len {V : St} (ok : V.Ok) (g : Nat) : (lvP V g).length ≤ 16 := by
  unfold lvP
  split
  · simp
  · cases hl : V.L g with
    | none => simp
    | some d =>
      have := lvS_len g d d.n
      have hc := (ok.sl g d hl).2.2.c
      have : d.n ≤ 16 := by rcases hc with ⟨_, _, h, _⟩ | ⟨_, _, h, _⟩ | ⟨_, _, h, _⟩ | ⟨_, _, h, _⟩ <;> omega
      show (lvS g d d.n).length ≤ 16
      omega
theorem lvL_len {V : St} (ok : V.Ok) : ∀ m, (lvL V m).length ≤ 16 * m
  | 0 => by simp [lvL]
  | g + 1 => by
    have := lvL_len ok g
    have := lvP_len ok g
    simp only [lvL, List.length_append]
    omega
def POwn (w : World) (base : Nat) (v : Value) (L : List Pc) : Prop := w.ownsRow base 37 6 v L.length (pcells L)
/-- A list of places that a call makes. -/
def PList (w w' : World) (L : List Pc) (e : Ending) : Prop := ∃ v, e = .returned v ∧ w.grownBy w' none ∧ POwn w' w.heap.size v L ∧ (L = [] → v = .slice none 0 0)
theorem infoPlace : (Tryz.prog.info? 37).map (fun i => (i.zero, i.size, i.bytes)) = some (some (.agg #[.int .i64 0, .int .i64 0, .int .i64 0, .int .i64 0, .int .i64 0, .bool false]), 6, 48) := by kernel_rfl
theorem six_cells (w : World) (a b c d e f : Value) (t : TypeId) (j : Nat) (u : Value) (h : ([a, b, c, d, e, f] : List Value)[j]? = some u) : (w.alloc (.cells #[a, b, c, d, e, f] t)).cell? ((⟨w.heap.size, 0, none⟩ : Addr).add j) = some u := by
  rw [An.aaddr_add, cell_alloc_new]
  simpa using h
theorem ponto_end {w wr w1 : World} {L : List Pc} {p : Pc} {s v' : Value} (o : Obj) (hg : w.grownBy wr none) (hown : POwn wr w.heap.size s L) (h2 : w1.ownsRow w.heap.size 37 6 v' (L.length + 1) (pcells L ++ pcells [p])) (h3 : (wr.alloc o).grownBy w1 s.ownBlock) :
    POwn w1 w.heap.size v' (L ++ [p]) ∧ w.grownBy w1 none := by
  refine ⟨?_, An.grown_onto (grown_trans hg (World.grownBy_alloc wr o none)) h3 (fun q hq => (World.ownsRow.lt hown q hq).1)⟩
  unfold POwn
  rw [List.length_append, List.length_singleton, pcells_append]
  exact h2
theorem pown_elems {w : World} {base : Nat} {L : List Pc} {A : Option Addr} {n c : Nat} (h : POwn w base (.slice A n c) L) : L.length = 0 ∨ ∃ g, A = some ⟨g, 0, none⟩ ∧ base ≤ g ∧ g < w.heap.size ∧ ∀ j u, (pcells L)[j]? = some u → w.cell? ⟨g, j, none⟩ = some u := by
  have hx := h
  obtain ⟨-, ⟨h1, h2⟩ | ⟨g, cap, cur, e, hbg, hh, hnc, hcm, hcs, htake⟩⟩ := h
  · exact .inl h2
  · injection e with e1 _ _
    refine .inr ⟨g, e1, hbg, ?_, fun j u hj => ?_⟩
    · obtain ⟨hlt, -⟩ := Array.getElem?_eq_some_iff.1 hh
      exact hlt
    · have e : w.cell? ⟨g, j, none⟩ = cur[j]? := by simp only [World.cell?, hh]; rfl
      have hjl : j < L.length * 6 := by
        rw [← pcells_length]
        exact (List.getElem?_eq_some_iff.1 hj).1
      have t := congrArg (fun l => l[j]?) htake
      simp only [List.getElem?_take, hjl, if_true, Array.getElem?_toList] at t
      rw [e, t, hj]
end Go.Proofs.YtgnfcklippjeeaaGreat
