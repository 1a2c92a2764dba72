/- What the walk of ArenaPlays knows of its calls, of its arena and of the reference's bytes. -/
import Derived.Test.YtbpganholopjfaaAW
namespace Go.Proofs.Ytbpganholopjfaa
open Go.RowKit

/-- A call. -/
structure AOp where
  k : Int
  a : Int
  n : Int
  c : Nat
  x : Nat
  bA : Option Addr
  bl : Nat
  bc : Nat
  bS : Nat → Nat
  aA : Option Addr
  al : Nat
  ac : Nat
  aF : Nat → A3
instance : Inhabited AOp := ⟨⟨0, 0, 0, 0, 0, none, 0, 0, fun _ => 0, none, 0, 0, fun _ => default⟩⟩
/-- A call's rows. -/
structure ORows (w : World) (t : AOp) : Prop where
  hn : t.n ≤ 9223372036854775807
  hc : t.c < 256
  hx : t.x < 18446744073709551616
  bcap : t.bl ≤ t.bc
  bmax : t.bl ≤ 9223372036854775807
  b : BytesArg w t.bA t.bl t.bS
  blt : ∀ i, t.bS i < 256
  acap : t.al ≤ t.ac
  amax : t.al ≤ 9223372036854775807
  acts : ActsAt w t.aA t.al t.aF
  ax : ∀ i, i < t.al → (t.aF i).x < 18446744073709551616
/-- A call's cells; m: how many of its bytes. -/
structure OCells (w : World) (b o : Nat) (t : AOp) (m : Nat) : Prop where
  c0 : w.cell? ⟨b, o, none⟩ = some (.int .i64 t.k)
  c1 : w.cell? ⟨b, o + 1, none⟩ = some (.int .i64 t.a)
  c2 : w.cell? ⟨b, o + 2, none⟩ = some (.int .i64 t.n)
  c3 : w.cell? ⟨b, o + 3, none⟩ = some (.int .u8 (t.c : Nat))
  c4 : w.cell? ⟨b, o + 4, none⟩ = some (.int .u64 (t.x : Nat))
  c5 : w.cell? ⟨b, o + 5, none⟩ = some (.slice t.bA m t.bc)
  c6 : w.cell? ⟨b, o + 6, none⟩ = some (.slice t.aA t.al t.ac)
theorem OCells.fr {may : Nat → Prop} {w w' : World} {b o m : Nat} {t : AOp} (h : OCells w b o t m) (g : Fr may w w') (hb : ¬ may b) : OCells w' b o t m :=
  ⟨g.cell h.c0 hb, g.cell h.c1 hb, g.cell h.c2 hb, g.cell h.c3 hb, g.cell h.c4 hb, g.cell h.c5 hb, g.cell h.c6 hb⟩
theorem OCells.grown {w w' : World} {b o m : Nat} {t : AOp} {r : Option Nat} (h : OCells w b o t m) (g : w.grownBy w' r) (hb : some b ≠ r) : OCells w' b o t m :=
  ⟨g.cell h.c0 hb, g.cell h.c1 hb, g.cell h.c2 hb, g.cell h.c3 hb, g.cell h.c4 hb, g.cell h.c5 hb, g.cell h.c6 hb⟩
theorem OCells.lt {w : World} {b o m : Nat} {t : AOp} (h : OCells w b o t m) : b < w.heap.size := World.block_lt_of_cell? w ⟨b, o, none⟩ h.c0
def AOpsAt (w : World) (A : Option Addr) (n : Nat) (O : Nat → AOp) : Prop := n = 0 ∨ ∃ b off, A = some ⟨b, off, none⟩ ∧ b < w.heap.size ∧ ∀ i, i < n → OCells w b (off + i * 7) (O i) (O i).bl ∧ ORows w (O i)

theorem BytesArg.grown {w w' : World} {A : Option Addr} {n : Nat} {S : Nat → Nat} (h : BytesArg w A n S) (g : w.grownBy w' none) : BytesArg w' A n S :=
  h.imp id (fun ⟨b, off, e, hb, h⟩ => ⟨b, off, e, Nat.lt_of_lt_of_le hb g.size, fun i hi => g.cell (h i hi) (by simp)⟩)

/-- The arena and the reference's bytes. -/
structure PL (w wr : World) (p q cap qw cw N : Nat) (B : Nat → Nat) : Prop where
  ar : ArAt wr p q N cap B none
  ls : Ls wr qw N cw B
  wp : qw ≠ p
  wq : qw ≠ q
  lp : w.heap.size ≤ p
  lq : w.heap.size ≤ q
  lw : w.heap.size ≤ qw
  fr : w.grownBy wr none
theorem PL.grown {w wr w' : World} {p q cap qw cw N : Nat} {B : Nat → Nat} (h : PL w wr p q cap qw cw N B) (g : wr.grownBy w' none) : PL w w' p q cap qw cw N B :=
  ⟨h.ar.grown g (by simp) (by simp), h.ls.grown g, h.wp, h.wq, h.lp, h.lq, h.lw, grown_trans h.fr g⟩
theorem PL.wlt {w wr : World} {p q cap qw cw N : Nat} {B : Nat → Nat} (h : PL w wr p q cap qw cw N B) : p < wr.heap.size ∧ q < wr.heap.size ∧ qw < wr.heap.size := ⟨h.ar.plt, h.ar.b.qlt, h.ls.b.qlt⟩
theorem PL.grown1 {w wr w' : World} {p q cap qw cw N ob : Nat} {B : Nat → Nat} (h : PL w wr p q cap qw cw N B) (g : wr.grownBy w' (some ob)) (hp : ob ≠ p) (hq : ob ≠ q) (hw : ob ≠ qw) (hl : w.heap.size ≤ ob) : PL w w' p q cap qw cw N B :=
  ⟨h.ar.grown g (by simp; omega) (by simp; omega), ⟨h.ls.b.grown g (by simp; omega), h.ls.cap, h.ls.small, h.ls.lt⟩, h.wp, h.wq, h.lp, h.lq, h.lw, grown_own h.fr g hl⟩
theorem PL.lsq {w wr w' : World} {p q cap qw cw N : Nat} {B : Nat → Nat} (h : PL w wr p q cap qw cw N B) (g : wr.grownBy w' (some q)) : Ls w' qw N cw B :=
  ⟨h.ls.b.grown g (by have := h.wq; simp; omega), h.ls.cap, h.ls.small, h.ls.lt⟩
/-- Both changed: the arena, and a new row in the place of the old one. -/
theorem PL.next {w wr w1 w2 : World} {p q cap qw cw N qn cn : Nat} {B B' : Nat → Nat} (h : PL w wr p q cap qw cw N B) (ha : ArAt w1 p q N cap B' none) (g1 : wr.grownBy w1 (some q)) (g2 : w1.grownBy w2 none) (hq : w1.heap.size ≤ qn) (hb : BytesAt w2 qn N B') (hc : N ≤ cn) : PL w w2 p q cap qn cn N B' := by
  have h1 := ha.plt
  have h2 := ha.b.qlt
  have h3 := grown_own h.fr g1 h.lq
  have h4 := h3.size
  exact ⟨ha.grown g2 (by simp) (by simp), ⟨hb, hc, h.ls.small, ha.lt⟩, by omega, by omega, h.lp, h.lq, by omega, grown_trans h3 g2⟩
/-- The arena changed, and the row as it stands. -/
theorem PL.both {w wr w1 w2 : World} {p q cap qw cw N : Nat} {B B' : Nat → Nat} (h : PL w wr p q cap qw cw N B) (ha : ArAt w1 p q N cap B' none) (g1 : wr.grownBy w1 (some q)) (g2 : w1.grownBy w2 (some qw)) (hb : BytesAt w2 qw N B') : PL w w2 p q cap qw cw N B' := by
  have h1 := h.wp
  have h2 := h.wq
  exact ⟨ha.grown g2 (by simp; omega) (by simp; omega), ⟨hb, h.ls.cap, h.ls.small, ha.lt⟩, h1, h2, h.lp, h.lq, h.lw, grown_own (grown_own h.fr g1 h.lq) g2 h.lw⟩
theorem PL.grow0 {w wr w' : World} {p q cap qw cw N a : Nat} {B S : Nat → Nat} (h : PL w wr p q cap qw cw N B) (g : wr.grownBy w' (some qw)) (hb : BytesAt w' qw N (Ar.setB B a 0 S)) : PL w w' p q cap qw cw N B := by
  have e : Ar.setB B a 0 S = B := by funext i; unfold Ar.setB; rw [if_neg (by omega)]
  rw [e] at hb
  have h1 := h.wp
  have h2 := h.wq
  exact ⟨h.ar.grown g (by simp; omega) (by simp; omega), ⟨hb, h.ls.cap, h.ls.small, h.ls.lt⟩, h1, h2, h.lp, h.lq, h.lw, grown_own h.fr g h.lw⟩
end Go.Proofs.Ytbpganholopjfaa
