/- The walks of what reads a table of pages: Len, Row, heads, part, stretch. -/
import Derived.Test.YtbpganholopjfaaRows
import Derived.Test.YtbpganholopjfaaPMath
import Derived.WalkKit
import Derived.WalkSpells
import Derived.WalkLawsBesides
import Derived.Lib.Hide
import Derived.Laws.MakeOwn
import Derived.Outline
namespace Go.Proofs.Ytbpganholopjfaa
open Go.RowKit

theorem ret_int {k : IntKind} {a b : Int} (h : a = b) : Ending.returned (.int k a) = .returned (.int k b) := by rw [h]
theorem ret_bool {a b : Bool} (h : a = b) : Ending.returned (.bool a) = .returned (.bool b) := by rw [h]

theorem grown_refl (w : World) (r : Option Nat) : w.grownBy w r := ⟨rfl, rfl, rfl, Nat.le_refl _, fun _ _ _ => rfl⟩
theorem grown_trans {a b c : World} {r : Option Nat} (h : a.grownBy b r) (k : b.grownBy c r) : a.grownBy c r :=
  ⟨k.os.trans h.os, k.tape.trans h.tape, k.output.trans h.output, Nat.le_trans h.size k.size, fun i hi hr => (k.block i (Nat.lt_of_lt_of_le hi h.size) hr).trans (h.block i hi hr)⟩
theorem grown_own {a b c : World} {r : Option Nat} {q : Nat} (h : a.grownBy b r) (k : b.grownBy c (some q)) (hq : a.heap.size ≤ q) : a.grownBy c r :=
  ⟨k.os.trans h.os, k.tape.trans h.tape, k.output.trans h.output, Nat.le_trans h.size k.size, fun i hi hr => (k.block i (Nat.lt_of_lt_of_le hi h.size) (fun e => by injection e; omega)).trans (h.block i hi hr)⟩
theorem grown_none {a b : World} {r : Option Nat} (h : a.grownBy b none) : a.grownBy b r := ⟨h.os, h.tape, h.output, h.size, fun i hi _ => h.block i hi (by simp)⟩
theorem grown_below {a b : World} (h : a.grownBy b none) : Below a.heap.size a b := ⟨h.os, h.tape, h.output, h.size, fun i hi => h.block i hi (by simp)⟩
theorem grown_of_below {a b : World} (h : Below a.heap.size a b) : a.grownBy b none := ⟨h.os, h.tape, h.output, h.size, fun i hi _ => h.block i hi⟩
theorem grown_drew {a b : World} {r : Option Nat} (h : a.grownBy b r) (d : Nat) : a.grownBy (b.drewN d) r := ⟨h.os, h.tape, h.output, h.size, h.block⟩
theorem grown_drewN {a b : World} {d : Nat} {r : Option Nat} (h : (a.drewN d).grownBy b r) : a.grownBy b r := ⟨h.os, h.tape, h.output, h.size, h.block⟩
theorem grown_alloc (w : World) (o : Obj) (r : Option Nat) : w.grownBy (w.alloc o) r := World.grownBy_alloc _ _ _
theorem cell_alloc_new (w : World) (cs : Array Value) (t : TypeId) (k : Nat) : (w.alloc (.cells cs t)).cell? ⟨w.heap.size, k, none⟩ = cs[k]? := by
  have h : (w.alloc (.cells cs t)).heap[w.heap.size]? = some (.cells cs t) := heap_alloc_new w _
  simp only [World.cell?, h]
  rfl
theorem frozen_alloc_new (w : World) (cs : Array Value) (t : TypeId) (k : Nat) : (w.alloc (.cells cs t)).frozen? ⟨w.heap.size, k, none⟩ = false := by
  have h : (w.alloc (.cells cs t)).heap[w.heap.size]? = some (.cells cs t) := heap_alloc_new w _
  simp only [World.frozen?, h]
  simp

theorem new_cell {w w1 : World} {cs : Array Value} {t : TypeId} {r : Option Nat} (hg : (w.alloc (.cells cs t)).grownBy w1 r) (hr : some w.heap.size ≠ r) (k : Nat) {v : Value} (hk : cs[k]? = some v) : w1.cell? ⟨w.heap.size, k, none⟩ = some v :=
  hg.cell (by rw [cell_alloc_new]; exact hk) hr

/-- A row as a value. -/
def rv (x : Pg.Row) : Value := .agg #[.int .i64 x.k, .int .i64 x.c, .int .i64 x.o, .int .i64 x.r]

/-- Rows in block q. -/
structure RowsAt (w : World) (q n : Nat) (R : Nat → Pg.Row) : Prop where
  c0 : ∀ i, i < n → w.cell? ⟨q, i * 4, none⟩ = some (.int .i64 (R i).k)
  c1 : ∀ i, i < n → w.cell? ⟨q, i * 4 + 1, none⟩ = some (.int .i64 (R i).c)
  c2 : ∀ i, i < n → w.cell? ⟨q, i * 4 + 2, none⟩ = some (.int .i64 (R i).o)
  c3 : ∀ i, i < n → w.cell? ⟨q, i * 4 + 3, none⟩ = some (.int .i64 (R i).r)
  fz : ∀ k, w.frozen? ⟨q, k, none⟩ = false
  qlt : q < w.heap.size

theorem RowsAt.grown {w w' : World} {q n : Nat} {R : Nat → Pg.Row} {r : Option Nat} (h : RowsAt w q n R) (hg : w.grownBy w' r) (hr : some q ≠ r) : RowsAt w' q n R where
  c0 := fun i hi => hg.cell (h.c0 i hi) hr
  c1 := fun i hi => hg.cell (h.c1 i hi) hr
  c2 := fun i hi => hg.cell (h.c2 i hi) hr
  c3 := fun i hi => hg.cell (h.c3 i hi) hr
  fz := fun k => by rw [World.frozen?_of_block (w := w) (hg.block q h.qlt hr)]; exact h.fz k
  qlt := Nat.lt_of_lt_of_le h.qlt hg.size

theorem RowsAt.drew {w : World} {q n : Nat} {R : Nat → Pg.Row} (h : RowsAt w q n R) : RowsAt w.drew q n R := ⟨h.c0, h.c1, h.c2, h.c3, h.fz, h.qlt⟩
theorem grown_drew1 {a b : World} {r : Option Nat} (h : a.grownBy b r) : a.grownBy b.drew r := ⟨h.os, h.tape, h.output, h.size, h.block⟩

/-- A table of n pages: the object at block p, its rows at block q. -/
structure TabAt (w : World) (p q n cap : Nat) (R : Nat → Pg.Row) : Prop where
  c : w.cell? ⟨p, 0, none⟩ = some (.slice (some ⟨q, 0, none⟩) n cap)
  rows : RowsAt w q n R
  ne : p ≠ q
  hcap : n ≤ cap
  small : n ≤ 256
  ok : Pg.Ok R n

theorem TabAt.plt {w : World} {p q n cap : Nat} {R : Nat → Pg.Row} (h : TabAt w p q n cap R) : p < w.heap.size := World.block_lt_of_cell? w ⟨p, 0, none⟩ h.c
theorem TabAt.grown {w w' : World} {p q n cap : Nat} {R : Nat → Pg.Row} {r : Option Nat} (h : TabAt w p q n cap R) (hg : w.grownBy w' r) (hp : some p ≠ r) (hq : some q ≠ r) : TabAt w' p q n cap R where
  c := hg.cell h.c hp
  rows := h.rows.grown hg hq
  ne := h.ne
  hcap := h.hcap
  small := h.small
  ok := h.ok

set_option maxHeartbeats 400000 in
theorem plen_nil (w : World) :
    Calls Try.prog 47 #[.pointer none] w fun e w' => e = .returned (.int .i64 0) ∧ w = w' := by
  go_enter Try.func47, Try.ntmps47
  go_wp2
  go_ret
  exact ⟨rfl, rfl⟩
set_option maxHeartbeats 400000 in
theorem plen_core (p q n cap : Nat) (w : World) (h0 : w.cell? ⟨p, 0, none⟩ = some (.slice (some ⟨q, 0, none⟩) n cap)) :
    Calls Try.prog 47 #[.pointer (some ⟨p, 0, none⟩)] w fun e w' => e = .returned (.int .i64 n) ∧ w = w' := by
  go_enter Try.func47, Try.ntmps47
  go_wp2
  go_ret
  exact ⟨rfl, rfl⟩
theorem plen_at {w : World} {p q n cap : Nat} {R : Nat → Pg.Row} (h : TabAt w p q n cap R) :
    Calls Try.prog 47 #[.pointer (some ⟨p, 0, none⟩)] w fun e w' => e = .returned (.int .i64 n) ∧ w = w' := plen_core p q n cap w h.c

set_option maxHeartbeats 400000 in
theorem heads_at (x : Pg.Row) (w : World) :
    Calls Try.prog 64 #[rv x] w fun e w' => e = .returned (.bool (Pg.isHead x)) ∧ w.grownBy w' none := by
  obtain ⟨a, b, c, d⟩ := x
  obtain ⟨h, hh⟩ : ∃ h, h = Pg.isHead ⟨a, b, c, d⟩ := ⟨_, rfl⟩
  rw [← hh]
  have HH := Lib.hid hh
  clear hh
  show Calls Try.prog 64 #[.agg #[.int .i64 a, .int .i64 b, .int .i64 c, .int .i64 d]] w _
  by_cases h1 : a = 1
  · subst h1
    go_enter Try.func64, Try.ntmps64
    go_wp2
    go_ret
    exact ⟨ret_bool (by rw [HH.out]; rfl), grown_alloc _ _ _⟩
  · by_cases h2 : a = 2
    · subst h2
      go_enter Try.func64, Try.ntmps64
      go_wp2
      go_ret
      exact ⟨ret_bool (by rw [HH.out]; rfl), grown_alloc _ _ _⟩
    · have n1 : (a == 1) = false := by simpa using h1
      have n2 : (a == 2) = false := by simpa using h2
      have n4 : (a == 4) = h := by rw [HH.out]; simp [Pg.isHead, n1, n2]
      clear HH
      go_enter Try.func64, Try.ntmps64
      go_wp2
      go_ret
      exact ⟨rfl, grown_alloc _ _ _⟩

/-- That page's row; noughts, if there is none. -/
def getR (R : Nat → Pg.Row) (n : Nat) (i : Int) : Pg.Row := if 0 ≤ i ∧ i < n then R i.toNat else Pg.zero
theorem getR_out {R : Nat → Pg.Row} {n : Nat} {i : Int} (h : ¬ (0 ≤ i ∧ i < n)) : getR R n i = Pg.zero := if_neg h
theorem getR_in {R : Nat → Pg.Row} {n i : Nat} (h : i < n) : getR R n i = R i := by unfold getR; rw [if_pos ⟨by omega, by omega⟩]; rfl

set_option maxHeartbeats 400000 in
theorem prow_neg (v : Value) (i : Int) (w : World) (hi : i < 0) :
    Calls Try.prog 48 #[v, .int .i64 i] w fun e w' => e = .returned (rv Pg.zero) ∧ w.grownBy w' none := by
  go_enter Try.func48, Try.ntmps48
  go_wp2
  exact bodyPost_ret (v := rv Pg.zero) (by simp [results, Try.results48, go_sem, rv, Pg.zero]) rfl ⟨rfl, grown_alloc _ _ _⟩
set_option maxHeartbeats 400000 in
theorem prow_out (v : Value) (i n : Int) (w : World) (hi : 0 ≤ i) (hn : n ≤ i)
    (hl : ∀ W, w.grownBy W none → Calls Try.prog 47 #[v] W fun e w' => e = .returned (.int .i64 n) ∧ W = w') :
    Calls Try.prog 48 #[v, .int .i64 i] w fun e w' => e = .returned (rv Pg.zero) ∧ w.grownBy w' none := by
  have HL := Lib.hid hl
  clear hl
  go_enter Try.func48, Try.ntmps48
  go_wp2_with (go_at_call 47; refine (HL.out _ (grown_alloc _ _ _)).mono ?_; rintro e w' ⟨rfl, rfl⟩)
  exact bodyPost_ret (v := rv Pg.zero) (by simp [results, Try.results48, go_sem, rv, Pg.zero]) rfl ⟨rfl, grown_alloc _ _ _⟩
set_option maxHeartbeats 400000 in
theorem prow_core (p q n cap i : Nat) (a b c d : Int) (w : World) (hi : i < n) (h0 : w.cell? ⟨p, 0, none⟩ = some (.slice (some ⟨q, 0, none⟩) n cap))
    (c0 : w.cell? ⟨q, i * 4, none⟩ = some (.int .i64 a)) (c1 : w.cell? ⟨q, i * 4 + 1, none⟩ = some (.int .i64 b)) (c2 : w.cell? ⟨q, i * 4 + 2, none⟩ = some (.int .i64 c)) (c3 : w.cell? ⟨q, i * 4 + 3, none⟩ = some (.int .i64 d)) :
    Calls Try.prog 48 #[.pointer (some ⟨p, 0, none⟩), .int .i64 i] w fun e w' => e = .returned (.agg #[.int .i64 a, .int .i64 b, .int .i64 c, .int .i64 d]) ∧ w.grownBy w' none := by
  have hd : (i : Int) < n := by omega
  have g := grown_alloc w (.cells #[.int .i64 0, .int .i64 0, .int .i64 0, .int .i64 0] 76) none
  have e0 := g.cell h0 (by simp)
  have e1 := g.cell c0 (by simp)
  have e2 := g.cell c1 (by simp)
  have e3 := g.cell c2 (by simp)
  have e4 := g.cell c3 (by simp)
  clear h0 c0 c1 c2 c3
  go_enter Try.func48, Try.ntmps48
  clear g
  go_wp2_with (go_at_call 47; refine (plen_core p q n cap _ e0).mono ?_; rintro e w' ⟨rfl, rfl⟩)
  exact bodyPost_ret (v := .agg #[.int .i64 a, .int .i64 b, .int .i64 c, .int .i64 d]) (by simp [results, Try.results48, go_sem]) rfl ⟨rfl, grown_alloc _ _ _⟩
theorem prow_nil (i : Int) (w : World) :
    Calls Try.prog 48 #[.pointer none, .int .i64 i] w fun e w' => e = .returned (rv Pg.zero) ∧ w.grownBy w' none := by
  by_cases h : i < 0
  · exact prow_neg _ i w h
  · exact prow_out _ i 0 w (by omega) (by omega) (fun W _ => plen_nil W)
end Go.Proofs.Ytbpganholopjfaa
