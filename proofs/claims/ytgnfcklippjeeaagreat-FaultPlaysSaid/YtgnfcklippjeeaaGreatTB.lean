/- What the walks over the law's calls carry: calls in memory, both regions behind them, a step. -/
import Derived.Test.YtgnfcklippjeeaaGreatST
import Derived.Test.YtgnfcklippjeeaaGreatTA
namespace Go.Proofs.YtgnfcklippjeeaaGreat
open Go.RowKit
open Sl (Cls bs upd LnkIs)
open Lg (pgs)

/-- A call of the law. -/
structure Lop where
  k : Int
  c : Int
  o : Int
  p : Int
  a : Int
  n : Int
  b : Bool
  bA : Option Addr
  bl : Nat
  bc : Nat
  bS : Nat → Nat
instance : Inhabited Lop := ⟨⟨0, 0, 0, 0, 0, 0, false, none, 0, 0, fun _ => 0⟩⟩
def Lop.v (t : Lop) : Value := opV t.k t.c t.o t.p t.a t.n t.b (.slice t.bA t.bl t.bc)
structure LRows (w : World) (t : Lop) : Prop where
  wp : WF t.p
  cap : t.bl ≤ t.bc
  max : t.bl ≤ 9223372036854775807
  b : t.bl = 0 ∨ ∃ b off, t.bA = some ⟨b, off, none⟩ ∧ b < w.heap.size ∧ ∀ i, i < t.bl → w.cell? ⟨b, off + i, none⟩ = some (.int .u8 (t.bS i : Nat))
  lt : ∀ i, t.bS i < 256
structure LCells (w : World) (b o : Nat) (t : Lop) : Prop where
  c0 : w.cell? ⟨b, o, none⟩ = some (.int .i64 t.k)
  c1 : w.cell? ⟨b, o + 1, none⟩ = some (.int .i64 t.c)
  c2 : w.cell? ⟨b, o + 2, none⟩ = some (.int .i64 t.o)
  c3 : w.cell? ⟨b, o + 3, none⟩ = some (.int .i64 t.p)
  c4 : w.cell? ⟨b, o + 4, none⟩ = some (.int .i64 t.a)
  c5 : w.cell? ⟨b, o + 5, none⟩ = some (.int .i64 t.n)
  c6 : w.cell? ⟨b, o + 6, none⟩ = some (.bool t.b)
  c7 : w.cell? ⟨b, o + 7, none⟩ = some (.slice t.bA t.bl t.bc)
theorem LCells.grown {w w' : World} {b o : Nat} {t : Lop} (h : LCells w b o t) (g : w.grownBy w' none) : LCells w' b o t :=
  ⟨g.cell h.c0 (by simp), g.cell h.c1 (by simp), g.cell h.c2 (by simp), g.cell h.c3 (by simp), g.cell h.c4 (by simp), g.cell h.c5 (by simp), g.cell h.c6 (by simp), g.cell h.c7 (by simp)⟩
def LopsAt (w : World) (A : Option Addr) (n : Nat) (O : Nat → Lop) : Prop := n = 0 ∨ ∃ b off, A = some ⟨b, off, none⟩ ∧ b < w.heap.size ∧ ∀ i, i < n → LCells w b (off + i * 8) (O i) ∧ LRows w (O i)
theorem LRows.at_ {w : World} {t : Lop} (h : LRows w t) : t.bl = 0 ∨ ∃ x y, t.bA = some ⟨x, y, none⟩ := h.b.imp id (fun ⟨b, off, e, _⟩ => ⟨b, off, e⟩)
/-- Both regions, behind some calls. -/
def Both9 (P : St → Prop) (w0 wr : World) (pp m n cnt : Nat) : Prop := ∃ A D T V, PrAt w0 wr A D T V V cnt pp ∧ V.m = m ∧ V.n = n ∧ P V
theorem Both9.grown {P : St → Prop} {w0 w w' : World} {pp m n cnt : Nat} (h : Both9 P w0 w pp m n cnt) (g : w.grownBy w' none) : Both9 P w0 w' pp m n cnt := by
  obtain ⟨A, D, T, V, h1, h2⟩ := h
  exact ⟨A, D, T, V, h1.grown g, h2⟩
theorem Both9.all {P : St → Prop} {w0 w : World} {pp m n cnt : Nat} (h : Both9 P w0 w pp m n cnt) : w0.grownBy w none := by
  obtain ⟨A, D, T, V, h1, h2⟩ := h
  exact h1.y.all
/-- What each call keeps. -/
def Keeps (P : St → Prop) : Prop := ∀ V V', V.Ok → P V → StS V V' → P V'
theorem both9_step {P : St → Prop} (hP : Keeps P) {w0 w : World} {pp m n cnt : Nat} (h : Both9 P w0 w pp m n cnt) (hcnt : cnt ≤ 100000) {t : Lop} (ht : LRows w0 t) (others : Bool) (ho : others = false ∨ t.k ≠ 8) :
    Calls Tryz.prog 11 #[.pointer (some ⟨pp, 0, none⟩), t.v, .bool others] w fun e w' => e = .returned (.bool true) ∧ Both9 P w0 w' pp m n (cnt + 1) := by
  obtain ⟨A, D, T, V, h1, rfl, rfl, h4⟩ := h
  refine (step_most h1 hcnt t.k t.c t.o t.p t.a t.n ht.wp t.b t.bA t.bl t.bc ht.cap ht.at_ others ho).mono ?_
  rintro e w' ⟨rfl, A', D', V', hs, T', a1, a2, a3, a4, a5⟩
  exact ⟨rfl, A', D', T', V', a3, hs.dims.1, hs.dims.2.1, hP V V' h1.d.ok h4 hs⟩
theorem keeps_low : Keeps St.Low := fun _ _ ok h hs => hs.low ok h
theorem both9_new {w w' : World} {m M s pp : Nat} {A : Rp} {D : Dp} {T : Nat → Nat} (h : PrAt w w' A D T (St.new m (m + M) (keyOf s)) (St.new m (m + M) (keyOf s)) 0 pp) : Both9 St.Low w w' pp m (m + M) 0 :=
  ⟨A, D, T, _, h, rfl, rfl, fun _ _ => rfl⟩
/-- What lies where. -/
theorem St.Ok.no4 {V : St} (ok : V.Ok) (low : V.Low) {k : Nat} (hk : k < V.n) : (V.R k).k ≠ 4 := fun h => by
  have := low k (ok.k4 k hk h)
  rw [this] at h
  exact absurd h (by decide)
theorem St.At.free {V : St} (ok : V.Ok) (low : V.Low) {a : Nat} (ha : a < V.n * 256) (h : V.At (a : Int) Option.none) : V.R (a / 256) = Pg.zero := by
  cases h with
  | out h => omega
  | none g x e hg hn hl hz =>
    obtain rfl : a = x := by omega
    subst hg
    rcases ok.other hn hl hz with h | ⟨k, h1, h2, h3⟩
    · exact h
    · exact absurd h2 (ok.no4 low (by omega))
theorem St.At.kind {V : St} (ok : V.Ok) {a : Nat} {p : Pc} (h : V.At (a : Int) (some p)) : (V.R (a / 256)).k ≠ 0 := by
  cases h with
  | slot g d x e hg hn hl =>
    obtain rfl : a = x := by omega
    subst hg
    rw [(ok.sl _ d hl).2.1]
    exact (by decide : (1 : Int) ≠ 0)
  | great g h x e hg hn hl hz =>
    obtain rfl : a = x := by omega
    subst hg
    obtain ⟨z1, z2, z3⟩ := hz
    by_cases e : h = a / 256
    · subst e
      rw [(ok.gr _ z1).2.2.2]
      exact (by decide : (2 : Int) ≠ 0)
    · rw [ok.gr_tail z1 (by omega) z3]
      exact (by decide : (3 : Int) ≠ 0)
theorem St.At.again {V : St} (ok : V.Ok) {a : Int} {p : Pc} (h : V.At a (some p)) : V.At (p.b : Int) (some p) := by
  cases h with
  | slot g d x e hg hn hl =>
    have hd := (ok.sl g d hl).2.2
    obtain ⟨k1, k2, k3⟩ := slot_lt hd.c x
    subst hg
    have hb : bs (x / 256) d.s (x % 256 / d.s) / 256 = x / 256 ∧ bs (x / 256) d.s (x % 256 / d.s) % 256 / d.s = x % 256 / d.s := by
      have hc := hd.c
      generalize d.s = s at *
      generalize d.n = n at *
      unfold bs
      unfold Cls at hc
      rcases hc with ⟨_, rfl, _, _⟩ | ⟨_, rfl, _, _⟩ | ⟨_, rfl, _, _⟩ | ⟨_, rfl, _, _⟩ <;> omega
    have key := St.At.slot (V := V) (a := ((bs (x / 256) d.s (x % 256 / d.s) : Nat) : Int)) (x / 256) d _ rfl hb.1 hn hl
    rw [hb.2] at key
    exact key
  | great g h x e hg hn hl hz =>
    obtain ⟨z1, z2, z3⟩ := hz
    have hz' : V.Gr h h := ⟨z1, Nat.le_refl _, by have := Lg.pgs_pos (V.Z h); omega⟩
    exact .great h h (h * 256) rfl (by omega) (by omega) (ok.sl_gr hz') hz'
end Go.Proofs.YtgnfcklippjeeaaGreat
