/- Merged texts: NA NB NC ND NE NF NG NH NI. -/
import Derived.Test.YtgnfcklippjeeaaGreatK4
import Derived.Test.YtgnfcklippjeeaaGreatK5
import Derived.Test.YtgnfcklippjeeaaGreatK6
import Derived.Deep.RegionHeld3
import Derived.Deep.DeepCutAuto
/- Plain facts on a region: pages of slots, great blocks, rows of pages, and what each call leaves of them. -/
namespace Go.Proofs.YtgnfcklippjeeaaGreat
open Sl (Cls bs upd FOk)
open Lg (pgs)

/-- A page of slots: its class, a slot's bytes, slots, a block's bytes, its owner, states, the first free slot. -/
structure Sd where
  c : Nat
  s : Nat
  n : Nat
  r : Nat
  o : Nat
  S : Nat → Nat
  f : Int
structure Sd.Ok (d : Sd) : Prop where
  c : Cls d.c d.s d.n d.r
  o : d.o < 64
  st : ∀ k, d.S k ≤ 2
  f : FOk d.n d.S d.f
/-- A region's state: manual pages, all pages, key, bytes, rows, pages of slots, great blocks' bytes by their first pages. -/
structure St where
  m : Nat
  n : Nat
  key : Nat
  B : Nat → Nat
  R : Nat → Pg.Row
  L : Nat → Option Sd
  Z : Nat → Nat
def St.set (V : St) (g : Nat) (x : Option Sd) : Nat → Option Sd := fun j => if j = g then x else V.L j
theorem St.set_same (V : St) (g : Nat) (x : Option Sd) : V.set g x g = x := by simp [St.set]
theorem St.set_other {V : St} {g : Nat} {x : Option Sd} {j : Nat} (h : j ≠ g) : V.set g x j = V.L j := by simp [St.set, h]
def srow (c o : Nat) : Pg.Row := ⟨1, c, o, 1⟩
def grow (run : Nat) : Pg.Row := ⟨2, 0, 0, run⟩
structure St.Ok (V : St) : Prop where
  n1 : 1 ≤ V.n
  n256 : V.n ≤ 256
  mn : V.m ≤ V.n
  key : V.key < 18446744073709551616
  lt : ∀ i, V.B i < 256
  rows : Pg.Ok V.R V.n
  sl : ∀ k d, V.L k = some d → k < V.m ∧ V.R k = srow d.c d.o ∧ d.Ok
  gr : ∀ k, V.Z k ≠ 0 → 120 < V.Z k ∧ V.Z k ≤ 4096 ∧ k + pgs (V.Z k) ≤ V.m ∧ V.R k = grow (pgs (V.Z k))
  k1 : ∀ k, k < V.n → (V.R k).k = 1 → V.L k ≠ none
  k2 : ∀ k, k < V.n → (V.R k).k = 2 → V.Z k ≠ 0
  k4 : ∀ k, k < V.n → (V.R k).k = 4 → V.m ≤ k
/-- A great block has this page. -/
def St.Gr (V : St) (g h : Nat) : Prop := V.Z h ≠ 0 ∧ h ≤ g ∧ g < h + pgs (V.Z h)

theorem pgs_lt {n : Nat} (h : n ≤ 4096) : pgs n ≤ 17 := Lg.pgs_bd h
theorem St.Ok.gr_tail {V : St} (h : V.Ok) {h0 j : Nat} (hz : V.Z h0 ≠ 0) (h1 : h0 < j) (h2 : j < h0 + pgs (V.Z h0)) : V.R j = Pg.tail := by
  obtain ⟨a, b, c, d⟩ := h.gr h0 hz
  have hm := h.mn
  have hp := Lg.pgs_pos (V.Z h0)
  refine (h.rows.headr (i := h0) (by omega) (by rw [d]; rfl)).2.2.2 j h1 ?_
  rw [d]
  show (j : Int) < h0 + ((pgs (V.Z h0) : Nat) : Int)
  omega
theorem St.Ok.gr_uniq {V : St} (h : V.Ok) {g a b : Nat} (ha : V.Gr g a) (hb : V.Gr g b) : a = b := by
  rcases Nat.lt_trichotomy a b with e | e | e
  · have := h.gr_tail ha.1 e (by have := ha.2.2; have := hb.2.1; omega)
    have h2 := (h.gr b hb.1).2.2.2
    rw [this] at h2; cases h2
  · exact e
  · have := h.gr_tail hb.1 e (by have := hb.2.2; have := ha.2.1; omega)
    have h2 := (h.gr a ha.1).2.2.2
    rw [this] at h2; cases h2
theorem St.Ok.sl_gr {V : St} (h : V.Ok) {g a : Nat} (ha : V.Gr g a) : V.L g = none := by
  cases hl : V.L g with
  | none => rfl
  | some d =>
    obtain ⟨_, hr, _⟩ := h.sl g d hl
    by_cases e : a = g
    · subst e
      rw [(h.gr a ha.1).2.2.2] at hr; cases hr
    · rw [h.gr_tail ha.1 (by have := ha.2.1; omega) ha.2.2] at hr; cases hr
theorem St.Ok.gr_bd {V : St} (h : V.Ok) {a : Nat} (hz : V.Z a ≠ 0) : 120 < V.Z a ∧ V.Z a ≤ 4096 ∧ a < V.m ∧ (a + pgs (V.Z a)) * 256 ≤ V.n * 256 := by
  obtain ⟨h1, h2, h3, _⟩ := h.gr a hz
  have := Lg.pgs_pos (V.Z a)
  have := h.mn
  exact ⟨h1, h2, by omega, Nat.mul_le_mul_right _ (by omega)⟩
theorem St.Ok.lg {V : St} (h : V.Ok) : Lg.Inv V.Z (V.n * 256) where
  gr := fun k hk => ⟨(h.gr_bd hk).1, (h.gr_bd hk).2.1⟩
  fit := fun k hk => (h.gr_bd hk).2.2.2
  ap := fun j k hj hk hjk => by
    have hpj := Lg.pgs_pos (V.Z j)
    have hpk := Lg.pgs_pos (V.Z k)
    by_cases e : j + pgs (V.Z j) ≤ k
    · exact .inl e
    · by_cases e2 : k + pgs (V.Z k) ≤ j
      · exact .inr e2
      · rcases Nat.lt_or_ge j k with h1 | h1
        · exact absurd (h.gr_uniq (g := k) ⟨hj, by omega, by omega⟩ ⟨hk, Nat.le_refl _, by omega⟩) hjk
        · exact absurd (h.gr_uniq (g := j) ⟨hj, Nat.le_refl _, by omega⟩ ⟨hk, by omega, by omega⟩) hjk
/-- A page that is neither of slots nor a great block's is free, or a managed one's. -/
theorem St.Ok.other {V : St} (h : V.Ok) {g : Nat} (hg : g < V.n) (hl : V.L g = none) (hn : ∀ a, ¬ V.Gr g a) : V.R g = Pg.zero ∨ ∃ k, k ≤ g ∧ (V.R k).k = 4 ∧ (g : Int) < k + (V.R k).r := by
  have key : ∀ k, k ≤ g → Pg.isHead (V.R k) = true → (g : Int) < k + (V.R k).r → (V.R k).k = 4 := by
    intro k hk hh hr
    rcases (Pg.isHead_iff _).1 hh with e | e | e
    · obtain ⟨d, hd⟩ := Option.ne_none_iff_exists'.1 (h.k1 k (by omega) e)
      have h2 := (h.sl k d hd).2.1
      rw [h2] at hr
      have : k = g := by simp [srow] at hr; omega
      subst this
      rw [hl] at hd; cases hd
    · have hz := h.k2 k (by omega) e
      have h2 := (h.gr k hz).2.2.2
      rw [h2] at hr
      exact absurd ⟨hz, hk, by simp [grow] at hr; omega⟩ (hn k)
    · exact e
  rcases h.rows g hg with e | ⟨hh, h1, _⟩ | ⟨_, k, hk, hh, hr⟩
  · exact .inl e
  · exact .inr ⟨g, Nat.le_refl _, key g (Nat.le_refl _) hh (by omega), by omega⟩
  · exact .inr ⟨k, by omega, key k (by omega) hh hr, hr⟩

/-- The state behind an Open. -/
def St.open_ (V : St) (p c s n r o : Nat) : St := { V with B := Sl.layF V.key p s n (fun _ => true) V.B, R := Pg.lay V.R p (srow c o), L := V.set p (some ⟨c, s, n, r, o, fun _ => 0, 0⟩) }
def St.take (V : St) (g : Nat) (d : Sd) (k : Nat) (x : Int) : St := { V with B := Sl.takeB V.key g d.s d.r k V.B, L := V.set g (some { d with S := upd d.S k 1, f := x }) }
def St.drop (V : St) (g : Nat) (d : Sd) (k : Nat) : St := { V with B := Sl.dropB g d.s k V.B, L := V.set g (some { d with S := upd d.S k 2 }) }
/-- What a link to a slot is made of. -/
def lto (g s : Nat) (f : Int) : Nat := if 0 ≤ f then bs g s f.toNat + 1 else 0
def St.give (V : St) (g : Nat) (d : Sd) (k : Nat) : St := { V with B := Ar.setW V.B (bs g d.s k) (Li.lk V.key (bs g d.s k : Nat) (lto g d.s d.f)), L := V.set g (some { d with S := upd d.S k 0, f := k }) }
def St.shut (V : St) (g : Nat) : St := { V with R := Pg.clr V.R g 1, L := V.set g none }
def St.great (V : St) (p z : Nat) : St := { V with B := Lg.makeB V.key p z V.B, R := Pg.lay V.R p (grow (pgs z)), Z := upd V.Z p z }
def St.gdrop (V : St) (p : Nat) : St := { V with B := Lg.dropB p (V.Z p) V.B, R := Pg.clr V.R p (pgs (V.Z p)), Z := upd V.Z p 0 }
def St.write (V : St) (a n : Nat) (W : Nat → Nat) : St := { V with B := Ar.setB V.B a n W }

theorem upd_le {S : Nat → Nat} {k v : Nat} (h : ∀ k, S k ≤ 2) (hv : v ≤ 2) (j : Nat) : upd S k v j ≤ 2 := by
  unfold upd
  split
  · exact hv
  · exact h j
/-- Only one page of slots and the bytes are others. -/
theorem St.Ok.turn {V : St} (h : V.Ok) {g : Nat} {d d' : Sd} {B' : Nat → Nat} (hd : V.L g = some d) (hc : d'.c = d.c) (ho : d'.o = d.o) (h' : d'.Ok) (hB : ∀ i, B' i < 256) : St.Ok { V with B := B', L := V.set g (some d') } where
  n1 := h.n1
  n256 := h.n256
  mn := h.mn
  key := h.key
  lt := hB
  rows := h.rows
  sl := fun k e hk => by
    by_cases x : k = g
    · subst x
      have hk' : V.set k (some d') k = some e := hk
      rw [St.set_same] at hk'
      cases hk'
      obtain ⟨a, b, _⟩ := h.sl k d hd
      exact ⟨a, by rw [hc, ho]; exact b, h'⟩
    · have hk' : V.set g (some d') k = some e := hk
      rw [St.set_other x] at hk'
      exact h.sl k e hk'
  gr := h.gr
  k1 := fun k hk e => by
    show V.set g (some d') k ≠ none
    by_cases x : k = g
    · subst x; rw [St.set_same]; simp
    · rw [St.set_other x]; exact h.k1 k hk e
  k2 := h.k2
  k4 := h.k4
theorem byte_setW {B : Nat → Nat} (h : ∀ i, B i < 256) (a v i : Nat) : Ar.setW B a v i < 256 := by rw [Ar.setW_is]; exact Ar.setB_lt h (Ar.byt_lt v) _ _ _
theorem byte_setC {B : Nat → Nat} (h : ∀ i, B i < 256) (a m : Nat) {c : Nat} (hc : c < 256) (i : Nat) : Ar.setB B a m (fun _ => c) i < 256 := Ar.setB_lt h (fun _ => hc) _ _ _
theorem St.Ok.take {V : St} (h : V.Ok) {g k : Nat} {d : Sd} {x : Int} (hd : V.L g = some d) (hx : FOk d.n (upd d.S k 1) x) : (V.take g d k x).Ok := by
  have hdo := (h.sl g d hd).2.2
  exact h.turn hd rfl rfl ⟨hdo.c, hdo.o, upd_le hdo.st (by omega), hx⟩ (byte_setW (byte_setC h.lt _ _ (by omega)) _ _)
theorem FOk.keep {n k v : Nat} {S : Nat → Nat} {f : Int} (h : FOk n S f) (hk : S k ≠ 0) : FOk n (upd S k v) f := by
  rcases h with h | ⟨j, hj, e, h0⟩
  · exact .inl h
  · exact .inr ⟨j, hj, e, by rw [Sl.upd_other (fun x => hk (by rw [← x]; exact h0))]; exact h0⟩
theorem St.Ok.drop {V : St} (h : V.Ok) {g k : Nat} {d : Sd} (hd : V.L g = some d) (hk : d.S k = 1) : (V.drop g d k).Ok := by
  have hdo := (h.sl g d hd).2.2
  exact h.turn hd rfl rfl ⟨hdo.c, hdo.o, upd_le hdo.st (by omega), FOk.keep hdo.f (by omega)⟩ (byte_setC h.lt _ _ (by omega))
theorem St.Ok.give {V : St} (h : V.Ok) {g k : Nat} {d : Sd} (hd : V.L g = some d) (hk : k < d.n) : (V.give g d k).Ok := by
  have hdo := (h.sl g d hd).2.2
  exact h.turn hd rfl rfl ⟨hdo.c, hdo.o, upd_le hdo.st (by omega), .inr ⟨k, hk, rfl, Sl.upd_same _ _ _⟩⟩ (byte_setW h.lt _ _)
theorem St.Ok.write {V : St} (h : V.Ok) {a n : Nat} {W : Nat → Nat} (hW : ∀ i, W i < 256) : (V.write a n W).Ok :=
  ⟨h.n1, h.n256, h.mn, h.key, fun _ => Ar.setB_lt h.lt hW _ _ _, h.rows, h.sl, h.gr, h.k1, h.k2, h.k4⟩

/-- Rows of which some that were free are another block's. -/
theorem lay_at (R : Nat → Pg.Row) (p : Nat) (x : Pg.Row) : Pg.lay R p x p = x := by simp [Pg.lay]
theorem lay_in {R : Nat → Pg.Row} {p j : Nat} {x : Pg.Row} (h : p < j) (h2 : (j : Int) < p + x.r) : Pg.lay R p x j = Pg.tail := by
  unfold Pg.lay
  rw [if_neg (by omega), if_pos ⟨h, h2⟩]
theorem lay_out {R : Nat → Pg.Row} {p j : Nat} {x : Pg.Row} (h1 : 1 ≤ x.r) (h : j < p ∨ (p : Int) + x.r ≤ j) : Pg.lay R p x j = R j := by
  unfold Pg.lay
  rw [if_neg (by omega), if_neg (by omega)]
theorem clr_in {R : Nat → Pg.Row} {p m j : Nat} (h : p ≤ j) (h2 : j < p + m) : Pg.clr R p m j = Pg.zero := by
  unfold Pg.clr; rw [if_pos ⟨h, h2⟩]
theorem clr_out {R : Nat → Pg.Row} {p m j : Nat} (h : j < p ∨ p + m ≤ j) : Pg.clr R p m j = R j := by
  unfold Pg.clr; rw [if_neg (by omega)]

/-- Where so many pages of the manual region are free. -/
structure St.Room (V : St) (p run : Nat) : Prop where
  in_ : p + run ≤ V.m
  run1 : 1 ≤ run
  run2 : run ≤ 256
  free : ∀ i : Nat, p ≤ i → i < p + run → V.R i = Pg.zero
theorem St.Ok.room_l {V : St} (h : V.Ok) {p run i : Nat} (hr : V.Room p run) (h1 : p ≤ i) (h2 : i < p + run) : V.L i = none ∧ V.Z i = 0 ∧ ∀ a, ¬ V.Gr i a := by
  have hz := hr.free i h1 h2
  refine ⟨?_, ?_, fun a ha => ?_⟩
  · cases hl : V.L i with
    | none => rfl
    | some d => have := (h.sl i d hl).2.1; rw [hz] at this; cases this
  · rcases Nat.eq_zero_or_pos (V.Z i) with e | e
    · exact e
    · have := (h.gr i (by omega)).2.2.2; rw [hz] at this; cases this
  · by_cases e : a = i
    · subst e
      have := (h.gr a ha.1).2.2.2; rw [hz] at this; cases this
    · have := h.gr_tail ha.1 (by have := ha.2.1; omega) ha.2.2
      rw [hz] at this; cases this
theorem zero_k {x : Pg.Row} (h : x = Pg.zero) : x.k = 0 := by rw [h]; rfl
theorem tail_k {x : Pg.Row} (h : x = Pg.tail) : x.k = 3 := by rw [h]; rfl
/-- A new page of slots. -/
theorem St.Ok.open_ {V : St} (h : V.Ok) {p c s n r o : Nat} (hr : V.Room p 1) (hc : Cls c s n r) (ho : o < 64) : (V.open_ p c s n r o).Ok := by
  have hmn := h.mn
  have hin := hr.in_
  have ez := hr.free p (Nat.le_refl _) (by omega)
  have el : ∀ j, j ≠ p → Pg.lay V.R p (srow c o) j = V.R j := fun j hj => lay_out (by simp [srow]) (by simp [srow]; omega)
  exact
  { n1 := h.n1, n256 := h.n256, mn := h.mn, key := h.key, lt := fun i => (Sl.layF_lt h.lt i : Sl.layF V.key p s n (fun _ => true) V.B i < 256)
    rows := ok_lay' h.rows hr
    sl := fun k d hk => by
      by_cases x : k = p
      · subst x
        have hk' : V.set k (some ⟨c, s, n, r, o, fun _ => 0, 0⟩) k = some d := hk
        rw [St.set_same] at hk'
        cases hk'
        have h0 : 0 < n := by have := hc.facts.n2; omega
        exact ⟨(by omega : k < V.m), lay_at _ _ _, ⟨hc, ho, fun _ => by show 0 ≤ 2; omega, .inr ⟨0, h0, rfl, rfl⟩⟩⟩
      · have hk' : V.set p (some ⟨c, s, n, r, o, fun _ => 0, 0⟩) k = some d := hk
        rw [St.set_other x] at hk'
        obtain ⟨a, b, e⟩ := h.sl k d hk'
        exact ⟨a, (el k x).trans b, e⟩
    gr := fun k hk => by
      have hk' : V.Z k ≠ 0 := hk
      obtain ⟨a, b, e, f⟩ := h.gr k hk'
      have x : k ≠ p := fun x => by rw [x] at hk'; exact hk' (h.room_l hr (Nat.le_refl _) (by omega)).2.1
      exact ⟨a, b, e, (el k x).trans f⟩
    k1 := fun k hk e => by
      show V.set p _ k ≠ none
      by_cases x : k = p
      · subst x; rw [St.set_same]; simp
      · rw [St.set_other x]
        have e' : (Pg.lay V.R p (srow c o) k).k = 1 := e
        rw [el k x] at e'
        exact h.k1 k hk e'
    k2 := fun k hk e => by
      have e' : (Pg.lay V.R p (srow c o) k).k = 2 := e
      by_cases x : k = p
      · subst x; rw [lay_at] at e'; simp [srow] at e'
      · rw [el k x] at e'; exact h.k2 k hk e'
    k4 := fun k hk e => by
      have e' : (Pg.lay V.R p (srow c o) k).k = 4 := e
      by_cases x : k = p
      · subst x; rw [lay_at] at e'; simp [srow] at e'
      · rw [el k x] at e'; exact h.k4 k hk e' }
where ok_lay' (h0 : Pg.Ok V.R V.n) (hr : V.Room p 1) : Pg.Ok (Pg.lay V.R p (srow c o)) V.n :=
  Pg.ok_lay h0 rfl (by have := h.mn; have := hr.in_; simp [srow]; omega) (fun i h1 h2 => hr.free i h1 (by simp [srow] at h2; omega))
/-- A new great block. -/
theorem St.Ok.great {V : St} (h : V.Ok) {p z : Nat} (hz1 : 120 < z) (hz2 : z ≤ 4096) (hr : V.Room p (pgs z)) : (V.great p z).Ok := by
  have hmn := h.mn
  have hin := hr.in_
  have hp1 := hr.run1
  have hr0 : (grow (pgs z)).r = (pgs z : Nat) := rfl
  have el : ∀ j : Nat, j < p ∨ p + pgs z ≤ j → Pg.lay V.R p (grow (pgs z)) j = V.R j := fun j hj => lay_out (by rw [hr0]; omega) (by rw [hr0]; omega)
  have et : ∀ j : Nat, p < j → j < p + pgs z → Pg.lay V.R p (grow (pgs z)) j = Pg.tail := fun j h1 h2 => lay_in h1 (by rw [hr0]; omega)
  have cases3 : ∀ j : Nat, j = p ∨ (p < j ∧ j < p + pgs z) ∨ (j < p ∨ p + pgs z ≤ j) := fun j => by omega
  exact
  { n1 := h.n1, n256 := h.n256, mn := h.mn, key := h.key, lt := byte_setW (byte_setC h.lt _ _ (by omega)) _ _
    rows := Pg.ok_lay h.rows ((Pg.may_iff _).2 ⟨rfl, by rw [hr0]; omega, by rw [hr0]; have := hr.run2; omega⟩) (show (p : Int) + (grow (pgs z)).r ≤ (V.n : Int) by rw [hr0]; omega) (fun i h1 h2 => hr.free i h1 (by rw [hr0] at h2; omega))
    sl := fun k d hk => by
      have hk' : V.L k = some d := hk
      obtain ⟨a, b, e⟩ := h.sl k d hk'
      rcases cases3 k with x | x | x
      · subst x; rw [(h.room_l hr (Nat.le_refl _) (by omega)).1] at hk'; cases hk'
      · rw [(h.room_l hr (by omega) x.2).1] at hk'; cases hk'
      · exact ⟨a, (el k x).trans b, e⟩
    gr := fun k hk => by
      have hk' : upd V.Z p z k ≠ 0 := hk
      by_cases x : k = p
      · subst x
        show 120 < upd V.Z k z k ∧ upd V.Z k z k ≤ 4096 ∧ k + pgs (upd V.Z k z k) ≤ V.m ∧ Pg.lay V.R k (grow (pgs z)) k = grow (pgs (upd V.Z k z k))
        rw [Sl.upd_same]
        exact ⟨hz1, hz2, hin, lay_at _ _ _⟩
      · rw [Sl.upd_other x] at hk'
        show 120 < upd V.Z p z k ∧ upd V.Z p z k ≤ 4096 ∧ k + pgs (upd V.Z p z k) ≤ V.m ∧ Pg.lay V.R p (grow (pgs z)) k = grow (pgs (upd V.Z p z k))
        rw [Sl.upd_other x]
        obtain ⟨a, b, e, f⟩ := h.gr k hk'
        rcases cases3 k with y | y | y
        · exact absurd y x
        · exact absurd (h.room_l hr (by omega) y.2).2.1 hk'
        · exact ⟨a, b, e, (el k y).trans f⟩
    k1 := fun k hk e => by
      have e' : (Pg.lay V.R p (grow (pgs z)) k).k = 1 := e
      rcases cases3 k with x | x | x
      · subst x; rw [lay_at] at e'; simp [grow] at e'
      · rw [et k x.1 x.2] at e'; simp [Pg.tail] at e'
      · rw [el k x] at e'; exact h.k1 k hk e'
    k2 := fun k hk e => by
      show upd V.Z p z k ≠ 0
      have e' : (Pg.lay V.R p (grow (pgs z)) k).k = 2 := e
      rcases cases3 k with x | x | x
      · subst x; rw [Sl.upd_same]; omega
      · rw [et k x.1 x.2] at e'; simp [Pg.tail] at e'
      · rw [el k x] at e'; rw [Sl.upd_other (by omega)]; exact h.k2 k hk e'
    k4 := fun k hk e => by
      have e' : (Pg.lay V.R p (grow (pgs z)) k).k = 4 := e
      rcases cases3 k with x | x | x
      · subst x; rw [lay_at] at e'; simp [grow] at e'
      · rw [et k x.1 x.2] at e'; simp [Pg.tail] at e'
      · rw [el k x] at e'; exact h.k4 k hk e' }
theorem St.Ok.shut {V : St} (h : V.Ok) {g : Nat} {d : Sd} (hd : V.L g = some d) : (V.shut g).Ok := by
  obtain ⟨hg, hr, _⟩ := h.sl g d hd
  have hmn := h.mn
  have hc := Pg.ok_clr h.rows (at_ := g) (by omega) (by rw [hr]; rfl)
  have e1 : (V.R g).r.toNat = 1 := by rw [hr]; rfl
  rw [e1] at hc
  have el : ∀ j, j ≠ g → Pg.clr V.R g 1 j = V.R j := fun j hj => clr_out (by omega)
  have ez : Pg.clr V.R g 1 g = Pg.zero := clr_in (Nat.le_refl _) (by omega)
  exact
  { n1 := h.n1, n256 := h.n256, mn := h.mn, key := h.key, lt := h.lt
    rows := hc
    sl := fun k e hk => by
      have hk' : V.set g none k = some e := hk
      by_cases x : k = g
      · subst x; rw [St.set_same] at hk'; cases hk'
      · rw [St.set_other x] at hk'
        obtain ⟨a, b, f⟩ := h.sl k e hk'
        exact ⟨a, (el k x).trans b, f⟩
    gr := fun k hk => by
      have hk' : V.Z k ≠ 0 := hk
      obtain ⟨a, b, e, f⟩ := h.gr k hk'
      have x : k ≠ g := fun x => by rw [x, hr] at f; cases f
      exact ⟨a, b, e, (el k x).trans f⟩
    k1 := fun k hk e => by
      have e' : (Pg.clr V.R g 1 k).k = 1 := e
      show V.set g none k ≠ none
      by_cases x : k = g
      · subst x; rw [ez] at e'; simp [Pg.zero] at e'
      · rw [St.set_other x]; rw [el k x] at e'; exact h.k1 k hk e'
    k2 := fun k hk e => by
      have e' : (Pg.clr V.R g 1 k).k = 2 := e
      by_cases x : k = g
      · subst x; rw [ez] at e'; simp [Pg.zero] at e'
      · rw [el k x] at e'; exact h.k2 k hk e'
    k4 := fun k hk e => by
      have e' : (Pg.clr V.R g 1 k).k = 4 := e
      by_cases x : k = g
      · subst x; rw [ez] at e'; simp [Pg.zero] at e'
      · rw [el k x] at e'; exact h.k4 k hk e' }
theorem St.Ok.gdrop {V : St} (h : V.Ok) {p : Nat} (hz : V.Z p ≠ 0) : (V.gdrop p).Ok := by
  obtain ⟨h1, h2, h3, hr⟩ := h.gr p hz
  have hmn := h.mn
  have hp := Lg.pgs_pos (V.Z p)
  have hc := Pg.ok_clr h.rows (at_ := p) (by omega) (by rw [hr]; rfl)
  have e1 : (V.R p).r.toNat = pgs (V.Z p) := by rw [hr]; exact Int.toNat_natCast _
  rw [e1] at hc
  have el : ∀ j, j < p ∨ p + pgs (V.Z p) ≤ j → Pg.clr V.R p (pgs (V.Z p)) j = V.R j := fun j hj => clr_out hj
  have ez : ∀ j, p ≤ j → j < p + pgs (V.Z p) → Pg.clr V.R p (pgs (V.Z p)) j = Pg.zero := fun j a b => clr_in a b
  have cases2 : ∀ j, (p ≤ j ∧ j < p + pgs (V.Z p)) ∨ (j < p ∨ p + pgs (V.Z p) ≤ j) := fun j => by omega
  exact
  { n1 := h.n1, n256 := h.n256, mn := h.mn, key := h.key, lt := byte_setC h.lt _ _ (by omega)
    rows := hc
    sl := fun k d hk => by
      have hk' : V.L k = some d := hk
      obtain ⟨a, b, e⟩ := h.sl k d hk'
      rcases cases2 k with x | x
      · rw [h.sl_gr (g := k) (a := p) ⟨hz, x.1, x.2⟩] at hk'; cases hk'
      · exact ⟨a, (el k x).trans b, e⟩
    gr := fun k hk => by
      have hk' : upd V.Z p 0 k ≠ 0 := hk
      have x : k ≠ p := fun x => by rw [x, Sl.upd_same] at hk'; exact hk' rfl
      rw [Sl.upd_other x] at hk'
      show 120 < upd V.Z p 0 k ∧ upd V.Z p 0 k ≤ 4096 ∧ k + pgs (upd V.Z p 0 k) ≤ V.m ∧ Pg.clr V.R p (pgs (V.Z p)) k = grow (pgs (upd V.Z p 0 k))
      rw [Sl.upd_other x]
      obtain ⟨a, b, e, f⟩ := h.gr k hk'
      rcases cases2 k with y | y
      · exact absurd (h.gr_uniq (g := k) ⟨hk', Nat.le_refl _, by have := Lg.pgs_pos (V.Z k); omega⟩ ⟨hz, y.1, y.2⟩) x
      · exact ⟨a, b, e, (el k y).trans f⟩
    k1 := fun k hk e => by
      have e' : (Pg.clr V.R p (pgs (V.Z p)) k).k = 1 := e
      rcases cases2 k with x | x
      · rw [ez k x.1 x.2] at e'; simp [Pg.zero] at e'
      · rw [el k x] at e'; exact h.k1 k hk e'
    k2 := fun k hk e => by
      have e' : (Pg.clr V.R p (pgs (V.Z p)) k).k = 2 := e
      show upd V.Z p 0 k ≠ 0
      rcases cases2 k with x | x
      · rw [ez k x.1 x.2] at e'; simp [Pg.zero] at e'
      · rw [el k x] at e'
        rw [Sl.upd_other (by omega)]
        exact h.k2 k hk e'
    k4 := fun k hk e => by
      have e' : (Pg.clr V.R p (pgs (V.Z p)) k).k = 4 := e
      rcases cases2 k with x | x
      · rw [ez k x.1 x.2] at e'; simp [Pg.zero] at e'
      · rw [el k x] at e'; exact h.k4 k hk e' }
/-- A new region. -/
def St.new (m n key : Nat) : St := ⟨m, n, key, fun _ => 0, fun _ => Pg.zero, fun _ => none, fun _ => 0⟩
theorem St.ok_new {m n key : Nat} (h1 : 1 ≤ n) (h2 : n ≤ 256) (h3 : m ≤ n) (hk : key < 18446744073709551616) : (St.new m n key).Ok :=
  ⟨h1, h2, h3, hk, fun _ => by show 0 < 256; omega, Pg.ok_new _, (fun _ _ h => nomatch h), (fun _ h => absurd rfl h), (fun _ _ h => nomatch h), (fun _ _ h => nomatch h), (fun _ _ h => nomatch h)⟩

/-- A place: page, slot, first byte, bytes, state, whether it is a great block's. -/
structure Pc where
  g : Nat
  k : Nat
  b : Nat
  z : Nat
  st : Nat
  gr : Bool
def spc (g : Nat) (d : Sd) (k : Nat) : Pc := ⟨g, k, bs g d.s k, d.r, d.S k, false⟩
def gpc (h z : Nat) : Pc := ⟨h, 0, h * 256, z, 1, true⟩
/-- The place that a byte lies in. -/
inductive St.At (V : St) (a : Int) : Option Pc → Prop
  | out (h : a < 0 ∨ (V.n * 256 : Nat) ≤ a) : V.At a none
  | none (g : Nat) (x : Nat) (e : a = x) (hg : x / 256 = g) (hn : g < V.n) (hl : V.L g = .none) (hz : ∀ h, ¬ V.Gr g h) : V.At a .none
  | slot (g : Nat) (d : Sd) (x : Nat) (e : a = x) (hg : x / 256 = g) (hn : g < V.n) (hl : V.L g = some d) : V.At a (some (spc g d (x % 256 / d.s)))
  | great (g h : Nat) (x : Nat) (e : a = x) (hg : x / 256 = g) (hn : g < V.n) (hl : V.L g = .none) (hz : V.Gr g h) : V.At a (some (gpc h (V.Z h)))
theorem St.at_ex (V : St) (a : Int) : ∃ x, V.At a x := by
  classical
  by_cases h : a < 0 ∨ (V.n * 256 : Nat) ≤ a
  · exact ⟨_, .out h⟩
  · obtain ⟨x, rfl⟩ : ∃ x : Nat, a = x := ⟨a.toNat, by omega⟩
    have hn : x / 256 < V.n := by omega
    cases hl : V.L (x / 256) with
    | some d => exact ⟨_, .slot _ d x rfl rfl hn hl⟩
    | none =>
      by_cases hz : ∃ h, V.Gr (x / 256) h
      · obtain ⟨h, hz⟩ := hz
        exact ⟨_, .great _ h x rfl rfl hn hl hz⟩
      · exact ⟨_, .none _ x rfl rfl hn hl (fun h hh => hz ⟨h, hh⟩)⟩
theorem slot_lt {c s n r : Nat} (hc : Cls c s n r) (x : Nat) : x % 256 / s < n ∧ bs (x / 256) s (x % 256 / s) ≤ x ∧ x < bs (x / 256) s (x % 256 / s) + s := by
  unfold bs
  rcases hc with ⟨rfl, rfl, rfl, rfl⟩ | ⟨rfl, rfl, rfl, rfl⟩ | ⟨rfl, rfl, rfl, rfl⟩ | ⟨rfl, rfl, rfl, rfl⟩ <;> omega
end Go.Proofs.YtgnfcklippjeeaaGreat

/- A region in the world; the walks of slots, greatPlace, slotPlace, Find and of what these ask. -/
namespace Go.Proofs.YtgnfcklippjeeaaGreat
open Go.RowKit
open Go.Maps (Keyed)
open Sl (Cls bs upd)
open Lg (pgs)

/-! Frames over several blocks. -/
theorem bytes_fr {may : Nat → Prop} {w w' : World} {q n : Nat} {B : Nat → Nat} (h : An.BytesAt w q n B) (hf : Fr may w w') (hq : ¬ may q) : An.BytesAt w' q n B :=
  ⟨fun i hi => hf.cell (h.c i hi) hq, fun k => by rw [hf.frozen h.qlt hq]; exact h.fz k, Nat.lt_of_lt_of_le h.qlt hf.size⟩
theorem ar_fr {may : Nat → Prop} {w w' : World} {p q n cap : Nat} {B : Nat → Nat} {wk : Option Addr} (h : An.ArAt w p q n cap B wk) (hf : Fr may w w') (hp : ¬ may p) (hq : ¬ may q) : An.ArAt w' p q n cap B wk :=
  ⟨hf.cell h.c0 hp, hf.cell h.c1 hp, fun k => by rw [hf.frozen h.plt hp]; exact h.fz k, bytes_fr h.b hf hq, h.ne, h.hcap, h.small, h.page, h.lt⟩
theorem rows_fr {may : Nat → Prop} {w w' : World} {q n : Nat} {R : Nat → Pg.Row} (h : Pt.RowsAt w q n R) (hf : Fr may w w') (hq : ¬ may q) : Pt.RowsAt w' q n R :=
  ⟨fun i hi => hf.cell (h.c0 i hi) hq, fun i hi => hf.cell (h.c1 i hi) hq, fun i hi => hf.cell (h.c2 i hi) hq, fun i hi => hf.cell (h.c3 i hi) hq, fun k => by rw [hf.frozen h.qlt hq]; exact h.fz k, Nat.lt_of_lt_of_le h.qlt hf.size⟩
theorem tab_fr {may : Nat → Prop} {w w' : World} {p q n cap : Nat} {R : Nat → Pg.Row} (h : Pt.TabAt w p q n cap R) (hf : Fr may w w') (hp : ¬ may p) (hq : ¬ may q) : Pt.TabAt w' p q n cap R :=
  ⟨hf.cell h.c hp, rows_fr h.rows hf hq, h.ne, h.hcap, h.small, h.ok⟩
theorem map_fr {may : Nat → Prop} {w w' : World} {P : Program} {k : TypeId} {E : Value → Option (DataW Unit × List MemPlace)} {b n : Nat} {D : DataW Unit} (h : w.ownsMap P k E b n D) (hf : Fr may w w') (hb : ¬ may b) : w'.ownsMap P k E b n D := by
  have hlt := h.lt
  obtain ⟨es, clock, h1, h2, h3, h4⟩ := h
  exact ⟨es, clock, (hf.block b hlt hb).trans h1, h2, h3, h4⟩
theorem row_fr {may : Nat → Prop} {w w' : World} {p q n : Nat} {b : Nat → Bool} (h : Row w p q n b) (hf : Fr may w w') (hp : ¬ may p) (hq : ¬ may q) : Row w' p q n b := by
  obtain ⟨cap, ws, h1, h2⟩ := h
  exact ⟨cap, ws, ⟨hf.cell h1.c0 hp, hf.cell h1.c1 hp, fun k hk => hf.cell (h1.row k hk) hq, fun k => by rw [hf.frozen h1.qlt hq]; exact h1.fz k, h1.ne, Nat.lt_of_lt_of_le h1.qlt hf.size, h1.hcap, h1.len, h1.small, h1.lt, h1.top⟩, h2⟩
theorem own_fr {may : Nat → Prop} {w w' : World} {X : Pl} {Y : Nm} {f : Int} (h : Own w X Y f) (hf : Fr may w w') (hp : ¬ may X.p) : Own w' X Y f :=
  ⟨hf.cell h.c0 hp, hf.cell h.c1 hp, hf.cell h.c2 hp, hf.cell h.c3 hp, hf.cell h.c4 hp, hf.cell h.c5 hp, hf.cell h.c6 hp, hf.cell h.c7 hp, fun k => by rw [hf.frozen h.plt hp]; exact h.fz k⟩
/-- A slab that is not written into, over an arena whose bytes may be others. -/
theorem SlAt.fr {may : Nat → Prop} {w w' : World} {X : Pl} {Y : Nm} {S : Nat → Nat} {f : Int} {B B' : Nat → Nat} (h : SlAt w X Y S f B) (hf : Fr may w w') (h1 : ¬ may X.p) (h2 : ¬ may X.pl) (h3 : ¬ may X.ql) (h4 : ¬ may X.ph) (h5 : ¬ may X.qh) (ha : An.ArAt w' X.pa X.qa Y.N Y.acap B' none) : SlAt w' X Y S f B' :=
  ⟨own_fr h.own hf h1, ha, row_fr h.l hf h2 h3, row_fr h.h hf h4 h5, h.ap, h.ok⟩
theorem LgAt.fr {may : Nat → Prop} {w w' : World} {X : Lp} {cnt : Nat} {D : DataW Unit} {Z B B' : Nat → Nat} (h : LgAt w X cnt D Z B) (hf : Fr may w w') (h1 : ¬ may X.p) (h2 : ¬ may X.mb) (ha : An.ArAt w' X.pa X.qa X.N X.cap B' none) : LgAt w' X cnt D Z B' :=
  ⟨hf.cell h.c0 h1, hf.cell h.c1 h1, hf.cell h.c2 h1, ha, map_fr h.map hf h2, h.is, h.inv, h.ap, h.k⟩

/-- How a pointer in a map reads. -/
def ptrElem : Value → Option (DataW Unit × List MemPlace)
  | .pointer none => some (.lit (.int .i64 0), [])
  | .pointer (some ⟨b, 0, none⟩) => some (.lit (.int .i64 ((b + 1 : Nat) : Int)), [])
  | _ => none
theorem ptr_inv {v : Value} {c : Nat} {ps : List MemPlace} (h : ptrElem v = some (.lit (.int .i64 (c : Nat)), ps)) : v = if c = 0 then .pointer none else .pointer (some ⟨c - 1, 0, none⟩) := by
  unfold ptrElem at h
  split at h
  · injection h with h; injection h with h _
    have := lit_inj h
    rw [if_pos (by omega)]
  · rename_i b
    injection h with h; injection h with h _
    have := lit_inj h
    rw [if_neg (by omega), show c - 1 = b by omega]
  · cases h

/-- Where a region's parts lie. -/
structure Rp where
  p : Nat
  pa : Nat
  qa : Nat
  pt : Nat
  qt : Nat
  pm : Nat
  pg : Nat
  mg : Nat
  acap : Nat
  tcap : Nat
  seed : Nat
  xs : Nat → Pl
  lab : Nat → Nat
structure Labs (A : Rp) (L : Nat → Option Sd) : Prop where
  p : A.lab A.p = 0
  pa : A.lab A.pa = 1
  qa : A.lab A.qa = 2
  pt : A.lab A.pt = 3
  qt : A.lab A.qt = 4
  pm : A.lab A.pm = 5
  pg : A.lab A.pg = 6
  mg : A.lab A.mg = 7
  x : ∀ k d, L k = some d → A.lab (A.xs k).p = 8 + 4 * k ∧ A.lab (A.xs k).ql = 9 + 4 * k ∧ A.lab (A.xs k).qh = 10 + 4 * k ∧ A.lab (A.xs k).pl = 11 + 4 * k ∧ A.lab (A.xs k).ph = 11 + 4 * k ∧ (A.xs k).pa = A.pa ∧ (A.xs k).qa = A.qa
theorem lab_ne {lab : Nat → Nat} {a b x y : Nat} (ha : lab a = x) (hb : lab b = y) (h : x ≠ y) : a ≠ b := fun e => h (by rw [← ha, ← hb, e])
def Rp.lp (A : Rp) (V : St) : Lp := ⟨A.pg, A.pa, A.qa, A.mg, V.key, V.n * 256, A.acap⟩
def nmOf (A : Rp) (V : St) (k : Nat) (d : Sd) : Nm := ⟨V.key, k, d.c, d.s, d.n, d.r, d.o, V.n * 256, A.acap⟩
def Rp.zs (A : Rp) (L : Nat → Option Sd) (k : Nat) : Nat := match L k with | none => 0 | some _ => (A.xs k).p + 1
/-- What a region's calls may write into. -/
def Rp.may (A : Rp) (L : Nat → Option Sd) (i : Nat) : Prop := i = A.qa ∨ i = A.qt ∨ i = A.pm ∨ i = A.mg ∨ ∃ k d, L k = some d ∧ (i = (A.xs k).p ∨ i = (A.xs k).ql ∨ i = (A.xs k).qh)
/-- A region's memory. -/
structure RnW (w : World) (A : Rp) (V : St) (cnt : Nat) : Prop where
  c0 : w.cell? ⟨A.p, 0, none⟩ = some (.int .i64 (V.m : Nat))
  c1 : w.cell? ⟨A.p, 1, none⟩ = some (.int .i64 ((V.n : Int) - (V.m : Int)))
  c2 : w.cell? ⟨A.p, 2, none⟩ = some (.int .u64 (A.seed : Nat))
  c3 : w.cell? ⟨A.p, 3, none⟩ = some (.pointer (some ⟨A.pa, 0, none⟩))
  c4 : w.cell? ⟨A.p, 4, none⟩ = some (.pointer (some ⟨A.pt, 0, none⟩))
  c5 : w.cell? ⟨A.p, 5, none⟩ = some (.int .u64 (V.key : Nat))
  c6 : w.cell? ⟨A.p, 6, none⟩ = some (.map (some A.pm))
  c7 : w.cell? ⟨A.p, 7, none⟩ = some (.pointer (some ⟨A.pg, 0, none⟩))
  ar : An.ArAt w A.pa A.qa (V.n * 256) A.acap V.B none
  tab : Pt.TabAt w A.pt A.qt V.n A.tcap V.R
  mp : ∃ D, w.ownsMap Tryz.prog 3 ptrElem A.pm cnt D ∧ MapIs D (A.zs V.L)
  lg : ∃ D, LgAt w (A.lp V) cnt D V.Z V.B
  sl : ∀ k d, V.L k = some d → SlAt w (A.xs k) (nmOf A V k d) d.S d.f V.B
  lab : Labs A V.L
/-- A region. -/
structure RnAt (w : World) (A : Rp) (V : St) (cnt : Nat) : Prop extends RnW w A V cnt where
  ok : V.Ok
theorem RnW.fr0 {may : Nat → Prop} {w w' : World} {A : Rp} {V : St} {cnt : Nat} (h : RnW w A V cnt) (hf : Fr may w w') (hm : ∀ i, (i = A.p ∨ i = A.pa ∨ i = A.pt ∨ i = A.pg ∨ A.may V.L i ∨ ∃ k d, V.L k = some d ∧ (i = (A.xs k).pl ∨ i = (A.xs k).ph)) → ¬ may i) : RnW w' A V cnt := by
  have hp := hm _ (.inl rfl)
  have hpa := hm _ (.inr (.inl rfl))
  have hpt := hm _ (.inr (.inr (.inl rfl)))
  have hpg := hm _ (.inr (.inr (.inr (.inl rfl))))
  have hqa := hm A.qa (.inr (.inr (.inr (.inr (.inl (.inl rfl))))))
  have hqt := hm A.qt (.inr (.inr (.inr (.inr (.inl (.inr (.inl rfl)))))))
  have hpm := hm A.pm (.inr (.inr (.inr (.inr (.inl (.inr (.inr (.inl rfl))))))))
  have hmg := hm A.mg (.inr (.inr (.inr (.inr (.inl (.inr (.inr (.inr (.inl rfl)))))))))
  have har := ar_fr h.ar hf hpa hqa
  obtain ⟨D, hD, hi⟩ := h.mp
  obtain ⟨E, hE⟩ := h.lg
  refine ⟨hf.cell h.c0 hp, hf.cell h.c1 hp, hf.cell h.c2 hp, hf.cell h.c3 hp, hf.cell h.c4 hp, hf.cell h.c5 hp, hf.cell h.c6 hp, hf.cell h.c7 hp, har, tab_fr h.tab hf hpt hqt, ⟨D, map_fr hD hf hpm, hi⟩, ⟨E, hE.fr hf hpg hmg har⟩, fun k d hk => ?_, h.lab⟩
  obtain ⟨_, _, _, _, _, e1, e2⟩ := h.lab.x k d hk
  have hs := h.sl k d hk
  exact hs.fr hf (hm _ (.inr (.inr (.inr (.inr (.inl (.inr (.inr (.inr (.inr ⟨k, d, hk, .inl rfl⟩)))))))))) (hm _ (.inr (.inr (.inr (.inr (.inr ⟨k, d, hk, .inl rfl⟩))))))
    (hm _ (.inr (.inr (.inr (.inr (.inl (.inr (.inr (.inr (.inr ⟨k, d, hk, .inr (.inl rfl)⟩)))))))))) (hm _ (.inr (.inr (.inr (.inr (.inr ⟨k, d, hk, .inr rfl⟩))))))
    (hm _ (.inr (.inr (.inr (.inr (.inl (.inr (.inr (.inr (.inr ⟨k, d, hk, .inr (.inr rfl)⟩)))))))))) (by rw [e1, e2]; exact har)
theorem RnW.grown {w w' : World} {A : Rp} {V : St} {cnt : Nat} (h : RnW w A V cnt) (hg : w.grownBy w' none) : RnW w' A V cnt :=
  h.fr0 (may := fun _ => False) (fr_none hg) (fun _ _ h => h)
theorem RnAt.grown {w w' : World} {A : Rp} {V : St} {cnt : Nat} (h : RnAt w A V cnt) (hg : w.grownBy w' none) : RnAt w' A V cnt :=
  ⟨h.toRnW.grown hg, h.ok⟩
theorem RnW.mono {w : World} {A : Rp} {V : St} {cnt cnt' : Nat} (h : RnW w A V cnt) (hc : cnt ≤ cnt') : RnW w A V cnt' := by
  obtain ⟨D, hD, hi⟩ := h.mp
  obtain ⟨E, hE⟩ := h.lg
  exact ⟨h.c0, h.c1, h.c2, h.c3, h.c4, h.c5, h.c6, h.c7, h.ar, h.tab, ⟨D, hD.mono hc, hi⟩, ⟨E, ⟨hE.c0, hE.c1, hE.c2, hE.ar, hE.map.mono hc, hE.is, hE.inv, hE.ap, hE.k⟩⟩, h.sl, h.lab⟩
theorem RnAt.mono {w : World} {A : Rp} {V : St} {cnt cnt' : Nat} (h : RnAt w A V cnt) (hc : cnt ≤ cnt') : RnAt w A V cnt' := ⟨h.toRnW.mono hc, h.ok⟩

/-- The slab's object of a page; none: it is no page of slots. -/
def Rp.sp (A : Rp) (L : Nat → Option Sd) (page : Int) : Option Addr := if 0 ≤ page then (match L page.toNat with | none => none | some _ => some ⟨(A.xs page.toNat).p, 0, none⟩) else none
theorem Rp.sp_some (A : Rp) {L : Nat → Option Sd} {g : Nat} {d : Sd} (h : L g = some d) : A.sp L (g : Int) = some ⟨(A.xs g).p, 0, none⟩ := by
  unfold Rp.sp; rw [if_pos (by omega), Int.toNat_natCast, h]
theorem Rp.sp_none (A : Rp) {L : Nat → Option Sd} {page : Int} (h : ∀ g : Nat, page = g → L g = none) : A.sp L page = none := by
  unfold Rp.sp
  split
  · rw [h page.toNat (by omega)]
  · rfl
theorem zero_slab (w : World) : (zeroValue 114).run Tryz.prog w = .ok (.pointer none) w := by kernel_rfl
theorem RnAt.look {w : World} {A : Rp} {V : St} {cnt : Nat} (h : RnAt w A V cnt) (page : Int) (hw : WF page) :
    (Instr.lookup 108 (.map (some A.pm)) (.int .i64 page) false).run Tryz.prog w = .ok (.pointer (A.sp V.L page)) w := by
  obtain ⟨D, hown, his⟩ := h.mp
  have hkey := Go.Maps.keyOf_int_mk (P := Tryz.prog) Tryz.underlying3 (a := page) (WalkArith.wf_i64 hw)
  obtain ⟨v, ps, hrun, hv⟩ := hown.lookup kint Tryz.underlying108 (zero_slab w) (zd := .lit (.int .i64 0)) (zp := []) rfl hkey
  rw [hrun]
  by_cases hz : ∀ g : Nat, page = g → A.zs V.L g = 0
  · have hno : Go.Maps.has D (.int .i64 page) = false := his.no hz
    rw [Go.Maps.atKey_of_not_has hno] at hv
    rw [ptr_inv (c := 0) hv, if_pos rfl, A.sp_none (fun g e => by
      have := hz g e
      unfold Rp.zs at this
      cases hl : V.L g with
      | none => rfl
      | some d => rw [hl] at this; simp at this)]
  · obtain ⟨g, hg⟩ : ∃ g : Nat, ¬ (page = g → A.zs V.L g = 0) := Classical.not_forall.1 hz
    have e : page = g := Classical.not_not.1 (fun x => hg (fun y => absurd y x))
    have hz' : A.zs V.L g ≠ 0 := fun x => hg (fun _ => x)
    subst e
    rw [his.at_ g hz'] at hv
    cases hl : V.L g with
    | none => unfold Rp.zs at hz'; rw [hl] at hz'; exact absurd rfl hz'
    | some d =>
      have e2 : A.zs V.L g = (A.xs g).p + 1 := by unfold Rp.zs; rw [hl]
      rw [e2] at hv
      rw [ptr_inv hv, if_neg (by omega), A.sp_some hl, show (A.xs g).p + 1 - 1 = (A.xs g).p by omega]

/-! What needs no region. -/
theorem cl0 : Cl 0 16 16 8 := .inl ⟨rfl, rfl, rfl, rfl⟩
/-- The page that a byte lies in. -/
def pgV (a : Int) : Int := if a < 0 ∨ 65535 < a then -1 else a / 256
set_option maxHeartbeats 400000 in
theorem pageOf_at (a : Int) (w : World) :
    Calls Tryz.prog 77 #[.int .i64 a] w fun e w' => e = .returned (.int .i64 (pgV a)) ∧ w.grownBy w' none := by
  have HS : Hid (∃ k : Int, Calls Tryz.prog 78 #[.int .i64 a, .int .i64 0] w fun e w' => e = .returned (.tuple #[.int .i64 (pgV a), .int .i64 k]) ∧ w.grownBy w' none) := Lib.hid (by
    unfold pgV
    by_cases ho : a < 0 ∨ 65535 < a
    · rw [if_pos ho]
      exact ⟨_, (slot_out a 0 w ho).mono fun _ _ ⟨he, hw⟩ => ⟨he, hw ▸ grown_refl _ _⟩⟩
    · rw [if_neg ho]
      exact ⟨_, (slot_core a w cl0 (by omega) (by omega)).mono fun _ _ ⟨he, hd⟩ => ⟨he, drew_grownBy hd⟩⟩)
  generalize pgV a = p at *
  obtain ⟨k, hk⟩ := HS.out
  have HK := Lib.hid hk
  clear hk HS
  go_enter Tryz.func77, Tryz.ntmps77
  go_wp2_with (go_at_call 78; refine HK.out.mono ?_; rintro e w2 ⟨rfl, hg⟩; have HG := Lib.hid hg; clear hg)
  go_ret
  exact ⟨rfl, HG.out⟩
set_option maxHeartbeats 400000 in
theorem slotsRow_at (c o : Int) (w : World) :
    Calls Tryz.prog 85 #[.int .i64 c, .int .i64 o] w fun e w' => e = .returned (.agg #[.int .i64 1, .int .i64 c, .int .i64 o, .int .i64 1]) ∧ w.grownBy w' none := by
  go_enter Tryz.func85, Tryz.ntmps85
  go_wp2
  exact bodyPost_ret (v := .agg #[.int .i64 1, .int .i64 c, .int .i64 o, .int .i64 1]) (by simp [results, Tryz.results85, go_sem]) rfl ⟨rfl, grown_alloc _ _ _⟩
set_option maxHeartbeats 400000 in
theorem greatRow_at (n : Int) (w : World) :
    Calls Tryz.prog 89 #[.int .i64 n] w fun e w' => e = .returned (.agg #[.int .i64 2, .int .i64 0, .int .i64 0, .int .i64 n]) ∧ w.grownBy w' none := by
  go_enter Tryz.func89, Tryz.ntmps89
  go_wp2
  exact bodyPost_ret (v := .agg #[.int .i64 2, .int .i64 0, .int .i64 0, .int .i64 n]) (by simp [results, Tryz.results89, go_sem]) rfl ⟨rfl, grown_alloc _ _ _⟩
set_option maxHeartbeats 400000 in
theorem isClass_yes {c s n r : Nat} (h : Cls c s n r) (w : World) :
    Calls Tryz.prog 83 #[.int .i64 (c : Nat)] w fun e w' => e = .returned (.bool true) ∧ w = w' := by
  have HS := Lib.hid (slots_yes w h.cl)
  have hn := h.facts.n2
  have hn' : (0 : Int) < n := by omega
  clear h hn
  go_enter Tryz.func83, Tryz.ntmps83
  go_wp2_with (go_at_call 142; refine HS.out.mono ?_; rintro e w2 ⟨rfl, rfl⟩)
  go_ret
  exact ⟨ret_bool (by simpa using hn'), rfl⟩
set_option maxHeartbeats 400000 in
theorem isClass_no (c : Int) (h : No c) (w : World) :
    Calls Tryz.prog 83 #[.int .i64 c] w fun e w' => e = .returned (.bool false) ∧ w = w' := by
  have HS := Lib.hid (slots_no c w h)
  clear h
  go_enter Tryz.func83, Tryz.ntmps83
  go_wp2_with (go_at_call 142; refine HS.out.mono ?_; rintro e w2 ⟨rfl, rfl⟩)
  go_ret
  exact ⟨rfl, rfl⟩
end Go.Proofs.YtgnfcklippjeeaaGreat

/- The walks of a region's slots, slotPlace, greatPlace, Find. -/
namespace Go.Proofs.YtgnfcklippjeeaaGreat
open Go.RowKit
open Sl (Cls bs upd)
open Lg (pgs)

/-- What a slab says of itself. -/
theorem spage_own {w : World} {X : Pl} {Y : Nm} {f : Int} (h : Own w X Y f) : Calls Tryz.prog 138 #[.pointer (some ⟨X.p, 0, none⟩)] w fun e w' => e = .returned (.int .i64 (Y.g : Nat)) ∧ w = w' := by
  have c2 := h.c2
  clear h
  go_enter Tryz.func138, Tryz.ntmps138
  go_wp2
  go_ret
  exact ⟨rfl, rfl⟩
theorem sclass_own {w : World} {X : Pl} {Y : Nm} {f : Int} (h : Own w X Y f) : Calls Tryz.prog 79 #[.pointer (some ⟨X.p, 0, none⟩)] w fun e w' => e = .returned (.int .i64 (Y.c : Nat)) ∧ w = w' := by
  have c3 := h.c3
  clear h
  go_enter Tryz.func79, Tryz.ntmps79
  go_wp2
  go_ret
  exact ⟨rfl, rfl⟩
theorem sowner_own {w : World} {X : Pl} {Y : Nm} {f : Int} (h : Own w X Y f) : Calls Tryz.prog 91 #[.pointer (some ⟨X.p, 0, none⟩)] w fun e w' => e = .returned (.int .i64 Y.o) ∧ w = w' := by
  have c4 := h.c4
  clear h
  go_enter Tryz.func91, Tryz.ntmps91
  go_wp2
  go_ret
  exact ⟨rfl, rfl⟩

/-- A page's row, as the table tells it. -/
def St.row (V : St) (page : Int) : Pg.Row := Pt.getR V.R V.n page
theorem RnAt.row {w : World} {A : Rp} {V : St} {cnt : Nat} (h : RnAt w A V cnt) (page : Int) {a b c d : Int} (hr : V.row page = ⟨a, b, c, d⟩) :
    Calls Tryz.prog 34 #[.pointer (some ⟨A.pt, 0, none⟩), .int .i64 page] w fun e w' => e = .returned (.agg #[.int .i64 a, .int .i64 b, .int .i64 c, .int .i64 d]) ∧ w.grownBy w' none := by
  have := Pt.prow_at h.tab page
  unfold St.row at hr
  rw [hr] at this
  exact this
theorem St.row_in {V : St} {g : Nat} (h : g < V.n) : V.row (g : Int) = V.R g := Pt.getR_in h

set_option maxRecDepth 100000 in
set_option maxHeartbeats 1000000 in
theorem slots_none {w : World} {A : Rp} {V : St} {cnt : Nat} (h : RnAt w A V cnt) (page : Int) (hw : WF page) (hl : ∀ g : Nat, page = g → V.L g = none) :
    Calls Tryz.prog 63 #[.pointer (some ⟨A.p, 0, none⟩), .int .i64 page] w fun e w' => e = .returned (.pointer none) ∧ w.grownBy w' none := by
  have hrun := h.look page hw
  rw [A.sp_none hl] at hrun
  have c6 := h.c6
  clear h hw hl
  go_enter Tryz.func63, Tryz.ntmps63
  go_wp2
  go_ret
  exact ⟨rfl, grown_refl _ _⟩
set_option maxRecDepth 100000 in
set_option maxHeartbeats 1000000 in
theorem slots_some {w : World} {A : Rp} {V : St} {cnt : Nat} (h : RnAt w A V cnt) {g : Nat} {d : Sd} (hl : V.L g = some d) :
    Calls Tryz.prog 63 #[.pointer (some ⟨A.p, 0, none⟩), .int .i64 g] w fun e w' => e = .returned (.pointer (some ⟨(A.xs g).p, 0, none⟩)) ∧ w.grownBy w' none := by
  obtain ⟨hg, hr, _⟩ := h.ok.sl g d hl
  have hn : g < V.n := by have := h.ok.mn; omega
  have hrun := h.look g ⟨by omega, by have := h.ok.n256; omega⟩
  rw [A.sp_some hl] at hrun
  have c6 := h.c6
  have HR := Lib.hid (fun W (g1 : w.grownBy W none) => (h.grown g1).row (g : Int) (a := 1) (b := (d.c : Nat)) (c := (d.o : Nat)) (d := 1) (by rw [V.row_in hn, hr]; rfl))
  have HC := Lib.hid (fun W (g1 : w.grownBy W none) => sclass_own ((h.grown g1).sl g d hl).own)
  have HO := Lib.hid (fun W (g1 : w.grownBy W none) => sowner_own ((h.grown g1).sl g d hl).own)
  have HS := Lib.hid (fun W => slotsRow_at (d.c : Nat) (d.o : Nat) W)
  simp only [nmOf] at HC HO
  have c4 := h.c4
  clear h hr hn hg hl
  generalize ((d.c : Nat) : Int) = c at *
  generalize ((d.o : Nat) : Int) = o at *
  go_enter Tryz.func63, Tryz.ntmps63
  go_wp2_with fail
  refine (HR.out _ (grown_refl _ _)).mono ?_
  rintro e w1 ⟨rfl, m1⟩
  go_wp2_with fail
  refine (HC.out _ m1).mono ?_
  rintro e w2 ⟨rfl, rfl⟩
  go_wp2_with fail
  refine (HO.out _ m1).mono ?_
  rintro e w2 ⟨rfl, rfl⟩
  go_wp2_with fail
  refine (HS.out _).mono ?_
  rintro e w2 ⟨rfl, m2⟩
  have HG := Lib.hid (grown_trans m1 m2)
  clear m1 m2 c4 c6 HR HC HO HS
  go_wp2
  go_ret
  exact ⟨rfl, HG.out⟩

/-- A place as a value. -/
def pcv (p : Pc) : Value := .agg #[.int .i64 (p.g : Nat), .int .i64 (p.k : Nat), .int .i64 (p.b : Nat), .int .i64 (p.z : Nat), .int .i64 (p.st : Nat), .bool p.gr]
def pc0 : Value := .agg #[.int .i64 0, .int .i64 0, .int .i64 0, .int .i64 0, .int .i64 0, .bool false]
def fndV : Option Pc → Value
  | none => .tuple #[pc0, .bool false]
  | some p => .tuple #[pcv p, .bool true]

set_option maxRecDepth 100000 in
set_option maxHeartbeats 1000000 in
theorem slotPlace_at {w : World} {A : Rp} {V : St} {cnt : Nat} (h : RnAt w A V cnt) {g k : Nat} {d : Sd} (hl : V.L g = some d) (hk : k < d.n) :
    Calls Tryz.prog 80 #[.pointer (some ⟨(A.xs g).p, 0, none⟩), .int .i64 k] w fun e w' => e = .returned (pcv (spc g d k)) ∧ w.grownBy w' none := by
  obtain ⟨hg, _, hd⟩ := h.ok.sl g d hl
  have hs := h.sl g d hl
  have HP := Lib.hid (fun W (g1 : w.grownBy W none) => spage_own (hs.grown g1).own)
  have HC := Lib.hid (fun W (g1 : w.grownBy W none) => sclass_own (hs.grown g1).own)
  have HB := Lib.hid (fun W => cbase_at hs.ok (k : Int) W)
  have HR := Lib.hid (fun W => room_at hs.ok W)
  have HT := Lib.hid (fun W (g1 : w.grownBy W none) => state_in (hs.grown g1) (k := k) hk (hd.st k))
  rw [baseV_in (show k < (nmOf A V g d).n from hk)] at HB
  simp only [nmOf] at HP HC HB HR HT
  unfold pcv spc
  simp only []
  clear h hs hl hg hd hk
  generalize ((bs g d.s k : Nat) : Int) = b at *
  generalize ((d.r : Nat) : Int) = r at *
  generalize ((d.S k : Nat) : Int) = s at *
  generalize ((d.c : Nat) : Int) = c at *
  go_enter Tryz.func80, Tryz.ntmps80
  go_wp2_with fail
  have m0 := grown_alloc w (.cells #[.int .i64 0, .int .i64 0, .int .i64 0, .int .i64 0, .int .i64 0, .bool false] 37) none
  refine (HP.out _ m0).mono ?_
  rintro e w1 ⟨rfl, rfl⟩
  go_wp2_with fail
  refine (HC.out _ m0).mono ?_
  rintro e w1 ⟨rfl, rfl⟩
  go_wp2_with fail
  refine (HB.out _).mono ?_
  rintro e w1 ⟨rfl, rfl⟩
  go_wp2_with fail
  refine (HR.out _).mono ?_
  rintro e w1 ⟨rfl, rfl⟩
  go_wp2_with fail
  refine (HT.out _ m0).mono ?_
  rintro e w1 ⟨rfl, rfl⟩
  go_wp2
  exact bodyPost_ret (v := .agg #[.int .i64 g, .int .i64 k, .int .i64 b, .int .i64 r, .int .i64 s, .bool false]) (by simp [results, Tryz.results80, go_sem]) rfl ⟨rfl, grown_alloc _ _ _⟩

set_option maxRecDepth 100000 in
set_option maxHeartbeats 1000000 in
theorem greatPlace_none {w : World} {A : Rp} {V : St} {cnt : Nat} (h : RnAt w A V cnt) (page : Int) (hw : WF page) (hz : zV V.Z page = 0) :
    Calls Tryz.prog 82 #[.pointer (some ⟨A.p, 0, none⟩), .int .i64 page] w fun e w' => e = .returned (fndV none) ∧ w.grownBy w' none := by
  obtain ⟨E, hE⟩ := h.lg
  have HS := Lib.hid (fun W (g1 : w.grownBy W none) => lsize_at (hE.grown g1) page hw)
  rw [hz] at HS
  simp only [Rp.lp] at HS
  have HP := Lib.hid (fun W => pages_no 0 W (by omega))
  have m0 := grown_alloc w (.cells #[.int .i64 0, .int .i64 0, .int .i64 0, .int .i64 0, .int .i64 0, .bool false] 37) none
  have c7 := (h.grown m0).c7
  clear h hE hw hz
  go_enter Tryz.func82, Tryz.ntmps82
  go_wp2_with fail
  refine (HS.out _ m0).mono ?_
  rintro e w1 ⟨rfl, rfl⟩
  go_wp2_with fail
  refine (HP.out _).mono ?_
  rintro e w1 ⟨rfl, rfl⟩
  go_wp2
  exact bodyPost_ret (v := fndV none) (by simp [results, Tryz.results82, go_sem, fndV, pc0]) rfl ⟨rfl, grown_alloc _ _ _⟩
set_option maxRecDepth 100000 in
set_option maxHeartbeats 1000000 in
theorem greatPlace_some {w : World} {A : Rp} {V : St} {cnt : Nat} (h : RnAt w A V cnt) {g : Nat} (hz : V.Z g ≠ 0) :
    Calls Tryz.prog 82 #[.pointer (some ⟨A.p, 0, none⟩), .int .i64 g] w fun e w' => e = .returned (fndV (some (gpc g (V.Z g)))) ∧ w.grownBy w' none := by
  obtain ⟨h1, h2, h3, hr⟩ := h.ok.gr g hz
  have hn : g < V.n := by have := h.ok.mn; have := Lg.pgs_pos (V.Z g); omega
  have hgn := h.ok.n256
  obtain ⟨E, hE⟩ := h.lg
  have HS := Lib.hid (fun W (g1 : w.grownBy W none) => lsize_at (hE.grown g1) (g : Int) ⟨by omega, by omega⟩)
  rw [zV_in] at HS
  simp only [Rp.lp] at HS
  have HP := Lib.hid (fun W => cpages_at (V.Z g) W h1 h2)
  have HR := Lib.hid (fun W (g1 : w.grownBy W none) => (h.grown g1).row (g : Int) (a := 2) (b := 0) (c := 0) (d := (pgs (V.Z g) : Nat)) (by rw [V.row_in hn, hr]; rfl))
  have HG := Lib.hid (fun W => greatRow_at (pgs (V.Z g) : Nat) W)
  have m0 := grown_alloc w (.cells #[.int .i64 0, .int .i64 0, .int .i64 0, .int .i64 0, .int .i64 0, .bool false] 37) none
  have c7 := (h.grown m0).c7
  have c4 := (h.grown m0).c4
  have hm : (g : Int) * 256 = ((g * 256 : Nat) : Int) := by omega
  have hg1 : (g : Int) ≤ 256 := by omega
  unfold fndV pcv gpc
  simp only []
  clear h hE hz h1 h2 h3 hr hn hgn
  generalize ((V.Z g : Nat) : Int) = z at *
  generalize ((pgs (V.Z g) : Nat) : Int) = r at *
  generalize ((g * 256 : Nat) : Int) = b at *
  go_enter Tryz.func82, Tryz.ntmps82
  go_wp2_with fail
  refine (HS.out _ m0).mono ?_
  rintro e w1 ⟨rfl, rfl⟩
  go_wp2_with fail
  refine (HP.out _).mono ?_
  rintro e w1 ⟨rfl, rfl⟩
  go_wp2_with fail
  refine (HR.out _ m0).mono ?_
  rintro e w1 ⟨rfl, m1⟩
  go_wp2_with fail
  refine (HG.out _).mono ?_
  rintro e w2 ⟨rfl, m2⟩
  have HE := Lib.hid (grown_trans (grown_trans m0 m1) m2)
  have mm := grown_trans m1 m2
  have z0 := new_cell (v := .int .i64 0) mm (by simp) 0 rfl
  have z1 := new_cell (v := .int .i64 0) mm (by simp) 1 rfl
  have z2 := new_cell (v := .int .i64 0) mm (by simp) 2 rfl
  have z3 := new_cell (v := .int .i64 0) mm (by simp) 3 rfl
  have z4 := new_cell (v := .int .i64 0) mm (by simp) 4 rfl
  have z5 := new_cell (v := .bool false) mm (by simp) 5 rfl
  have zf : ∀ k, w2.frozen? ⟨w.heap.size, k, none⟩ = false := fun k => by rw [World.frozen?_of_block (mm.block w.heap.size (by simp) (by simp))]; exact frozen_alloc_new ..
  clear mm
  clear m0 m1 m2 c4 c7 HS HP HR HG
  obtain ⟨q, hq⟩ : ∃ q, w.heap.size = q := ⟨_, rfl⟩
  have HQ := Lib.hid hq
  rw [hq] at z0 z1 z2 z3 z4 z5 zf ⊢
  clear hq
  go_wp2
  exact bodyPost_ret (v := .tuple #[.agg #[.int .i64 g, .int .i64 0, .int .i64 b, .int .i64 z, .int .i64 1, .bool true], .bool true]) (by simp [results, Tryz.results82, go_sem, World.cell?_setCell_same', z0, z1, z2, z3, z4, z5]) rfl ⟨rfl, grown_own HE.out (grown_trans (grown_trans (grown_trans (grown_trans (grown_trans (An.agrown_set w2 q 0 _) (An.agrown_set _ q 1 _)) (An.agrown_set _ q 2 _)) (An.agrown_set _ q 3 _)) (An.agrown_set _ q 4 _)) (An.agrown_set _ q 5 _)) (Nat.le_of_eq HQ.out)⟩
end Go.Proofs.YtgnfcklippjeeaaGreat

/- The walk of a region's Find; Owner, Config, Arena, Pages; what is not there. -/
namespace Go.Proofs.YtgnfcklippjeeaaGreat
open Go.RowKit
open Sl (Cls bs upd)
open Lg (pgs)

set_option maxRecDepth 100000 in
set_option maxHeartbeats 1000000 in
theorem find_c1 {w : World} {A : Rp} {V : St} {cnt : Nat} (h : RnAt w A V cnt) {a page : Int} (hp : pgV a = page)
    (HS : Hid (∀ W, w.grownBy W none → Calls Tryz.prog 63 #[.pointer (some ⟨A.p, 0, none⟩), .int .i64 page] W fun e w' => e = .returned (.pointer none) ∧ W.grownBy w' none))
    (HH : Hid (∀ W, w.grownBy W none → Calls Tryz.prog 81 #[.pointer (some ⟨A.pt, 0, none⟩), .int .i64 page] W fun e w' => e = .returned (.tuple #[.int .i64 0, .bool false]) ∧ W.grownBy w' none)) :
    Calls Tryz.prog 27 #[.pointer (some ⟨A.p, 0, none⟩), .int .i64 a] w fun e w' => e = .returned (fndV none) ∧ w.grownBy w' none := by
  have HPg := Lib.hid (fun W => pageOf_at a W)
  rw [hp] at HPg
  have m0 := grown_alloc w (.cells #[.int .i64 0, .int .i64 0, .int .i64 0, .int .i64 0, .int .i64 0, .bool false] 37) none
  have HC4 := Lib.hid (fun W (g1 : w.grownBy W none) => (h.grown g1).c4)
  clear h hp
  go_enter Tryz.func27, Tryz.ntmps27
  go_wp2_with fail
  refine (HPg.out _).mono ?_
  rintro e w1 ⟨rfl, m1⟩
  have n1 := grown_trans m0 m1
  go_wp2_with fail
  refine (HS.out _ n1).mono ?_
  rintro e w2 ⟨rfl, m2⟩
  have n2 := grown_trans n1 m2
  have c4 := HC4.out _ n2
  go_wp2_with fail
  refine (HH.out _ n2).mono ?_
  rintro e w3 ⟨rfl, m3⟩
  have mm := grown_trans (grown_trans m1 m2) m3
  have HE := Lib.hid (grown_trans n2 m3)
  clear m0 m1 m2 m3 n1 n2 c4 HPg HS HH HC4
  have z0 := new_cell (v := .int .i64 0) mm (by simp) 0 rfl
  have z1 := new_cell (v := .int .i64 0) mm (by simp) 1 rfl
  have z2 := new_cell (v := .int .i64 0) mm (by simp) 2 rfl
  have z3 := new_cell (v := .int .i64 0) mm (by simp) 3 rfl
  have z4 := new_cell (v := .int .i64 0) mm (by simp) 4 rfl
  have z5 := new_cell (v := .bool false) mm (by simp) 5 rfl
  have zf : ∀ k, w3.frozen? ⟨w.heap.size, k, none⟩ = false := fun k => by rw [World.frozen?_of_block (mm.block w.heap.size (by simp) (by simp))]; exact frozen_alloc_new ..
  obtain ⟨q, hq⟩ : ∃ q, w.heap.size = q := ⟨_, rfl⟩
  have HQ := Lib.hid hq
  rw [hq] at z0 z1 z2 z3 z4 z5 zf ⊢
  clear hq
  clear mm
  go_wp2
  exact bodyPost_ret (v := fndV none) (by simp [results, Tryz.results27, go_sem, fndV, pc0, World.cell?_setCell_same', z0, z1, z2, z3, z4, z5]) rfl ⟨rfl, grown_own HE.out (grown_trans (grown_trans (grown_trans (grown_trans (grown_trans (An.agrown_set w3 q 0 _) (An.agrown_set _ q 1 _)) (An.agrown_set _ q 2 _)) (An.agrown_set _ q 3 _)) (An.agrown_set _ q 4 _)) (An.agrown_set _ q 5 _)) (Nat.le_of_eq HQ.out)⟩
set_option maxRecDepth 100000 in
set_option maxHeartbeats 1000000 in
theorem find_c2 {w : World} {A : Rp} {V : St} {cnt : Nat} (h : RnAt w A V cnt) {a page k : Int} {x : Option Pc} (hp : pgV a = page)
    (HS : Hid (∀ W, w.grownBy W none → Calls Tryz.prog 63 #[.pointer (some ⟨A.p, 0, none⟩), .int .i64 page] W fun e w' => e = .returned (.pointer none) ∧ W.grownBy w' none))
    (HH : Hid (∀ W, w.grownBy W none → Calls Tryz.prog 81 #[.pointer (some ⟨A.pt, 0, none⟩), .int .i64 page] W fun e w' => e = .returned (.tuple #[.int .i64 k, .bool true]) ∧ W.grownBy w' none))
    (HG : Hid (∀ W, w.grownBy W none → Calls Tryz.prog 82 #[.pointer (some ⟨A.p, 0, none⟩), .int .i64 k] W fun e w' => e = .returned (fndV x) ∧ W.grownBy w' none)) :
    Calls Tryz.prog 27 #[.pointer (some ⟨A.p, 0, none⟩), .int .i64 a] w fun e w' => e = .returned (fndV x) ∧ w.grownBy w' none := by
  obtain ⟨x0, x1, x2, x3, x4, x5, b, hx⟩ : ∃ x0 x1 x2 x3 x4 : Int, ∃ x5 b : Bool, fndV x = .tuple #[.agg #[.int .i64 x0, .int .i64 x1, .int .i64 x2, .int .i64 x3, .int .i64 x4, .bool x5], .bool b] := by
    cases x with
    | none => exact ⟨_, _, _, _, _, _, _, rfl⟩
    | some p => exact ⟨_, _, _, _, _, _, _, rfl⟩
  rw [hx] at HG ⊢
  clear hx
  have HPg := Lib.hid (fun W => pageOf_at a W)
  rw [hp] at HPg
  have m0 := grown_alloc w (.cells #[.int .i64 0, .int .i64 0, .int .i64 0, .int .i64 0, .int .i64 0, .bool false] 37) none
  have HC4 := Lib.hid (fun W (g1 : w.grownBy W none) => (h.grown g1).c4)
  clear h hp
  go_enter Tryz.func27, Tryz.ntmps27
  go_wp2_with fail
  refine (HPg.out _).mono ?_
  rintro e w1 ⟨rfl, m1⟩
  have n1 := grown_trans m0 m1
  go_wp2_with fail
  refine (HS.out _ n1).mono ?_
  rintro e w2 ⟨rfl, m2⟩
  have n2 := grown_trans n1 m2
  have c4 := HC4.out _ n2
  go_wp2_with fail
  refine (HH.out _ n2).mono ?_
  rintro e w3 ⟨rfl, m3⟩
  have n3 := grown_trans n2 m3
  go_wp2_with fail
  refine (HG.out _ n3).mono ?_
  rintro e w4 ⟨rfl, m4⟩
  have mm := grown_trans (grown_trans (grown_trans m1 m2) m3) m4
  have HE := Lib.hid (grown_trans n3 m4)
  clear m0 m1 m2 m3 m4 n1 n2 n3 c4 HPg HS HH HC4 HG
  have z0 := new_cell (v := .int .i64 0) mm (by simp) 0 rfl
  have z1 := new_cell (v := .int .i64 0) mm (by simp) 1 rfl
  have z2 := new_cell (v := .int .i64 0) mm (by simp) 2 rfl
  have z3 := new_cell (v := .int .i64 0) mm (by simp) 3 rfl
  have z4 := new_cell (v := .int .i64 0) mm (by simp) 4 rfl
  have z5 := new_cell (v := .bool false) mm (by simp) 5 rfl
  have zf : ∀ k, w4.frozen? ⟨w.heap.size, k, none⟩ = false := fun k => by rw [World.frozen?_of_block (mm.block w.heap.size (by simp) (by simp))]; exact frozen_alloc_new ..
  obtain ⟨q, hq⟩ : ∃ q, w.heap.size = q := ⟨_, rfl⟩
  have HQ := Lib.hid hq
  rw [hq] at z0 z1 z2 z3 z4 z5 zf ⊢
  clear hq
  clear mm
  go_wp2
  exact bodyPost_ret (v := .tuple #[.agg #[.int .i64 x0, .int .i64 x1, .int .i64 x2, .int .i64 x3, .int .i64 x4, .bool x5], .bool b]) (by simp [results, Tryz.results27, go_sem, World.cell?_setCell_same', z0, z1, z2, z3, z4, z5]) rfl ⟨rfl, grown_own HE.out (grown_trans (grown_trans (grown_trans (grown_trans (grown_trans (An.agrown_set w4 q 0 _) (An.agrown_set _ q 1 _)) (An.agrown_set _ q 2 _)) (An.agrown_set _ q 3 _)) (An.agrown_set _ q 4 _)) (An.agrown_set _ q 5 _)) (Nat.le_of_eq HQ.out)⟩
set_option maxRecDepth 100000 in
set_option maxHeartbeats 1000000 in
theorem find_c3 {w : World} {A : Rp} {V : St} {cnt : Nat} (h : RnAt w A V cnt) {x g : Nat} {d : Sd} (hl : V.L g = some d) (hg : x / 256 = g) :
    Calls Tryz.prog 27 #[.pointer (some ⟨A.p, 0, none⟩), .int .i64 x] w fun e w' => e = .returned (fndV (some (spc g d (x % 256 / d.s)))) ∧ w.grownBy w' none := by
  obtain ⟨hm, _, hd⟩ := h.ok.sl g d hl
  have hx : x < 65536 := by have := h.ok.mn; have := h.ok.n256; omega
  have hp : pgV (x : Int) = (g : Int) := by unfold pgV; rw [if_neg (by omega)]; omega
  have hk : x % 256 / d.s < d.n := (slot_lt hd.c x).1
  have HS := Lib.hid (fun W (g1 : w.grownBy W none) => slots_some (h.grown g1) hl)
  have HC := Lib.hid (fun W (g1 : w.grownBy W none) => sclass_own ((h.grown g1).sl g d hl).own)
  have HT : Hid (∀ W, Calls Tryz.prog 78 #[.int .i64 x, .int .i64 (d.c : Nat)] W fun e w' => e = .returned (.tuple #[.int .i64 ((x : Int) / 256), .int .i64 ((x % 256 / d.s : Nat) : Int)]) ∧ W.grownBy w' none) := Lib.hid (fun W => by
    refine (slot_yes x W hd.c.cl hx).mono ?_
    rintro e w' ⟨he, hd'⟩
    refine ⟨he.trans ?_, drew_grownBy hd'⟩
    rw [show ((x : Nat) : Int) % 256 / (d.s : Nat) = ((x % 256 / d.s : Nat) : Int) from by simp])
  have HQP := Lib.hid (fun W (g1 : w.grownBy W none) => slotPlace_at (h.grown g1) hl hk)
  simp only [nmOf] at HC
  obtain ⟨x0, x1, x2, x3, x4, x5, hx'⟩ : ∃ x0 x1 x2 x3 x4 : Int, ∃ x5 : Bool, pcv (spc g d (x % 256 / d.s)) = .agg #[.int .i64 x0, .int .i64 x1, .int .i64 x2, .int .i64 x3, .int .i64 x4, .bool x5] := ⟨_, _, _, _, _, _, rfl⟩
  unfold fndV
  simp only []
  rw [hx'] at HQP ⊢
  have HPg := Lib.hid (fun W => pageOf_at (x : Int) W)
  rw [hp] at HPg
  have m0 := grown_alloc w (.cells #[.int .i64 0, .int .i64 0, .int .i64 0, .int .i64 0, .int .i64 0, .bool false] 37) none
  clear h hx' hp hk hd hm hl hg hx
  generalize ((x % 256 / d.s : Nat) : Int) = y at *
  generalize ((x : Int) / 256) = y2 at *
  generalize ((x : Nat) : Int) = a at *
  generalize ((d.c : Nat) : Int) = c at *
  go_enter Tryz.func27, Tryz.ntmps27
  go_wp2_with fail
  refine (HPg.out _).mono ?_
  rintro e w1 ⟨rfl, m1⟩
  have n1 := grown_trans m0 m1
  go_wp2_with fail
  refine (HS.out _ n1).mono ?_
  rintro e w2 ⟨rfl, m2⟩
  have n2 := grown_trans n1 m2
  go_wp2_with fail
  refine (HC.out _ n2).mono ?_
  rintro e w3 ⟨rfl, rfl⟩
  go_wp2_with fail
  refine (HT.out _).mono ?_
  rintro e w3 ⟨rfl, m3⟩
  have n3 := grown_trans n2 m3
  go_wp2_with fail
  refine (HQP.out _ n3).mono ?_
  rintro e w4 ⟨rfl, m4⟩
  have mm := grown_trans (grown_trans (grown_trans m1 m2) m3) m4
  have HE := Lib.hid (grown_trans n3 m4)
  clear m0 m1 m2 m3 m4 n1 n2 n3 HPg HS HC HT HQP
  have z0 := new_cell (v := .int .i64 0) mm (by simp) 0 rfl
  have z1 := new_cell (v := .int .i64 0) mm (by simp) 1 rfl
  have z2 := new_cell (v := .int .i64 0) mm (by simp) 2 rfl
  have z3 := new_cell (v := .int .i64 0) mm (by simp) 3 rfl
  have z4 := new_cell (v := .int .i64 0) mm (by simp) 4 rfl
  have z5 := new_cell (v := .bool false) mm (by simp) 5 rfl
  have zf : ∀ k, w4.frozen? ⟨w.heap.size, k, none⟩ = false := fun k => by rw [World.frozen?_of_block (mm.block w.heap.size (by simp) (by simp))]; exact frozen_alloc_new ..
  obtain ⟨q, hq⟩ : ∃ q, w.heap.size = q := ⟨_, rfl⟩
  have HQ := Lib.hid hq
  rw [hq] at z0 z1 z2 z3 z4 z5 zf ⊢
  clear hq
  clear mm
  go_wp2
  exact bodyPost_ret (v := .tuple #[.agg #[.int .i64 x0, .int .i64 x1, .int .i64 x2, .int .i64 x3, .int .i64 x4, .bool x5], .bool true]) (by simp [results, Tryz.results27, go_sem, World.cell?_setCell_same', z0, z1, z2, z3, z4, z5]) rfl ⟨rfl, grown_own HE.out (grown_trans (grown_trans (grown_trans (grown_trans (grown_trans (An.agrown_set w4 q 0 _) (An.agrown_set _ q 1 _)) (An.agrown_set _ q 2 _)) (An.agrown_set _ q 3 _)) (An.agrown_set _ q 4 _)) (An.agrown_set _ q 5 _)) (Nat.le_of_eq HQ.out)⟩

theorem pgV_in {x : Nat} (h : x < 65536) : pgV (x : Int) = ((x / 256 : Nat) : Int) := by unfold pgV; rw [if_neg (by omega)]; omega
theorem RnAt.n256 {w : World} {A : Rp} {V : St} {cnt : Nat} (h : RnAt w A V cnt) : V.n * 256 ≤ 65536 := by have := h.ok.n256; omega
theorem RnAt.head0 {w : World} {A : Rp} {V : St} {cnt : Nat} (h : RnAt w A V cnt) (page : Int) (hr : V.row page = Pg.zero) :
    Calls Tryz.prog 81 #[.pointer (some ⟨A.pt, 0, none⟩), .int .i64 page] w fun e w' => e = .returned (.tuple #[.int .i64 0, .bool false]) ∧ w.grownBy w' none := by
  refine Pt.head_none _ page w ?_
  have := Pt.prow_at h.tab page
  unfold St.row at hr
  rw [hr] at this
  exact this
/-- Find, of whatever byte. -/
theorem find_at {w : World} {A : Rp} {V : St} {cnt : Nat} (h : RnAt w A V cnt) {a : Int} {x : Option Pc} (hx : V.At a x) :
    Calls Tryz.prog 27 #[.pointer (some ⟨A.p, 0, none⟩), .int .i64 a] w fun e w' => e = .returned (fndV x) ∧ w.grownBy w' none := by
  have h64 := h.n256
  cases hx with
  | out ho =>
    have hpw : WF (pgV a) ∧ ∀ g : Nat, pgV a = g → V.n ≤ g := by
      unfold pgV
      split
      · exact ⟨⟨by omega, by omega⟩, fun g e => by omega⟩
      · exact ⟨⟨by omega, by omega⟩, fun g e => by omega⟩
    refine find_c1 h rfl (Lib.hid fun W g1 => slots_none (h.grown g1) _ hpw.1 (fun g e => ?_)) (Lib.hid fun W g1 => (h.grown g1).head0 _ ?_)
    · cases hl : V.L g with
      | none => rfl
      | some d => have := (h.ok.sl g d hl).1; have := h.ok.mn; have := hpw.2 g e; omega
    · refine Pt.getR_out (fun hh => ?_)
      have := hpw.2 (pgV a).toNat (by omega)
      omega
  | none g y e hg hn hl hz =>
    subst e
    have hp : pgV (y : Int) = (g : Int) := by rw [pgV_in (by omega), hg]
    have hwf : WF (g : Int) := ⟨by omega, by omega⟩
    have HS : Hid (∀ W, w.grownBy W none → Calls Tryz.prog 63 #[.pointer (some ⟨A.p, 0, none⟩), .int .i64 (g : Int)] W fun e w' => e = .returned (.pointer none) ∧ W.grownBy w' none) :=
      Lib.hid fun W g1 => slots_none (h.grown g1) _ hwf (fun g' e => by rw [← (show g = g' by omega)]; exact hl)
    rcases h.ok.other hn hl hz with hr | ⟨k, hk, hk4, hkr⟩
    · exact find_c1 h hp HS (Lib.hid fun W g1 => (h.grown g1).head0 _ (by rw [V.row_in hn]; exact hr))
    · refine find_c2 h (k := k) hp HS (Lib.hid fun W g1 => Pt.head_owner (h.grown g1).tab g k hn hk ((Pg.isHead_iff _).2 (.inr (.inr hk4))) hkr) (Lib.hid fun W g1 => greatPlace_none (h.grown g1) _ ⟨by omega, by omega⟩ ?_)
      rw [zV_in]
      rcases Nat.eq_zero_or_pos (V.Z k) with e | e
      · exact e
      · have := (h.ok.gr k (by omega)).2.2.2
        rw [this] at hk4
        simp [grow] at hk4
  | slot g d y e hg hn hl => subst e; exact find_c3 h hl hg
  | great g h0 y e hg hn hl hz =>
    subst e
    have hp : pgV (y : Int) = (g : Int) := by rw [pgV_in (by omega), hg]
    have hwf : WF (g : Int) := ⟨by omega, by omega⟩
    obtain ⟨z1, z2, z3⟩ := hz
    have hr := (h.ok.gr h0 z1).2.2.2
    refine find_c2 h (k := h0) hp (Lib.hid fun W g1 => slots_none (h.grown g1) _ hwf (fun g' e => by rw [← (show g = g' by omega)]; exact hl))
      (Lib.hid fun W g1 => Pt.head_owner (h.grown g1).tab g h0 hn z2 (by rw [hr]; rfl) (by rw [hr]; simp only [grow]; omega)) (Lib.hid fun W g1 => greatPlace_some (h.grown g1) z1)
end Go.Proofs.YtgnfcklippjeeaaGreat

/- What a region's memory is behind each piece of a call. -/
namespace Go.Proofs.YtgnfcklippjeeaaGreat
open Go.RowKit
open Go.Maps (Keyed)
open Sl (Cls bs upd FOk LnkIs)
open Lg (pgs)

theorem RnW.may_lt {w : World} {A : Rp} {V : St} {cnt : Nat} (h : RnW w A V cnt) {i : Nat} (hi : A.may V.L i) : i < w.heap.size := by
  obtain ⟨D, hD, _⟩ := h.mp
  obtain ⟨E, hE⟩ := h.lg
  rcases hi with rfl | rfl | rfl | rfl | ⟨k, d, hk, rfl | rfl | rfl⟩
  · exact h.ar.b.qlt
  · exact h.tab.rows.qlt
  · exact hD.lt
  · exact hE.map.lt
  · exact (h.sl k d hk).own.plt
  · exact (h.sl k d hk).l.qlt
  · exact (h.sl k d hk).h.qlt
/-- By their labels blocks are others than those that may be written into. -/
theorem Labs.not_may {A : Rp} {L : Nat → Option Sd} (l : Labs A L) {b y : Nat} (hb : A.lab b = y) (hy : y = 0 ∨ y = 1 ∨ y = 3 ∨ y = 6 ∨ ∃ k, y = 11 + 4 * k) : ¬ A.may L b := by
  rintro (rfl | rfl | rfl | rfl | ⟨k, d, hk, rfl | rfl | rfl⟩)
  · have := l.qa; omega
  · have := l.qt; omega
  · have := l.pm; omega
  · have := l.mg; omega
  · have := (l.x k d hk).1; omega
  · have := (l.x k d hk).2.1; omega
  · have := (l.x k d hk).2.2.1; omega
theorem Labs.not_slab {A : Rp} {L : Nat → Option Sd} (l : Labs A L) {g b y : Nat} {d : Sd} (hd : L g = some d) (hb : A.lab b = y) (h2 : y ≠ 2) (h8 : y ≠ 8 + 4 * g) (h9 : y ≠ 9 + 4 * g) (h10 : y ≠ 10 + 4 * g) : ¬ (A.xs g).may b := by
  obtain ⟨x1, x2, x3, _, _, _, x7⟩ := l.x g d hd
  unfold Pl.may
  rw [x7]
  rintro (rfl | rfl | rfl | rfl)
  · omega
  · have := l.qa; omega
  · omega
  · omega
theorem Labs.set {A : Rp} {V : St} (l : Labs A V.L) {g : Nat} {d d' : Sd} (hd : V.L g = some d) : Labs A (V.set g (some d')) :=
  ⟨l.p, l.pa, l.qa, l.pt, l.qt, l.pm, l.pg, l.mg, fun k e hk => by
    by_cases x : k = g
    · subst x; exact l.x k d hd
    · rw [St.set_other x] at hk; exact l.x k e hk⟩
theorem Labs.unset {A : Rp} {V : St} (l : Labs A V.L) {g : Nat} : Labs A (V.set g none) :=
  ⟨l.p, l.pa, l.qa, l.pt, l.qt, l.pm, l.pg, l.mg, fun k e hk => by
    by_cases x : k = g
    · subst x; rw [St.set_same] at hk; cases hk
    · rw [St.set_other x] at hk; exact l.x k e hk⟩
theorem zs_set {A : Rp} {V : St} {g : Nat} {d d' : Sd} (hd : V.L g = some d) : A.zs (V.set g (some d')) = A.zs V.L := by
  funext k
  unfold Rp.zs
  by_cases x : k = g
  · subst x; rw [St.set_same, hd]
  · rw [St.set_other x]
theorem slab_may {A : Rp} {L : Nat → Option Sd} (l : Labs A L) {g i : Nat} {d : Sd} (hd : L g = some d) (hi : (A.xs g).may i) : A.may L i := by
  have x7 := (l.x g d hd).2.2.2.2.2.2
  unfold Pl.may at hi
  rw [x7] at hi
  rcases hi with rfl | rfl | rfl | rfl
  · exact .inr (.inr (.inr (.inr ⟨g, d, hd, .inl rfl⟩)))
  · exact .inl rfl
  · exact .inr (.inr (.inr (.inr ⟨g, d, hd, .inr (.inl rfl)⟩)))
  · exact .inr (.inr (.inr (.inr ⟨g, d, hd, .inr (.inr rfl)⟩)))
theorem Fr.wide {may may' : Nat → Prop} {w w' : World} (h : Fr may w w') (hm : ∀ i, may i → may' i) : Fr may' w w' := ⟨h.os, h.tape, h.output, h.size, fun i hi hn => h.block i hi (fun x => hn (hm i x))⟩

/-- A slab's call has turned it and the bytes. -/
theorem RnW.slab {w w' : World} {A : Rp} {V : St} {cnt g : Nat} {d d' : Sd} {B' : Nat → Nat} (h : RnW w A V cnt) (hd : V.L g = some d) (hf : Fr (A.xs g).may w w')
    (hs : SlAt w' (A.xs g) (nmOf A V g d') d'.S d'.f B') : RnW w' A { V with B := B', L := V.set g (some d') } cnt := by
  have l := h.lab
  obtain ⟨_, _, _, _, _, x6, x7⟩ := l.x g d hd
  have nm : ∀ {b y}, A.lab b = y → y ≠ 2 → y ≠ 8 + 4 * g → y ≠ 9 + 4 * g → y ≠ 10 + 4 * g → ¬ (A.xs g).may b := fun a b c d e => l.not_slab hd a b c d e
  have hp := nm l.p (by omega) (by omega) (by omega) (by omega)
  have har : An.ArAt w' A.pa A.qa (V.n * 256) A.acap B' none := by have := hs.ar; rw [x6, x7] at this; exact this
  obtain ⟨D, hD, hi⟩ := h.mp
  obtain ⟨E, hE⟩ := h.lg
  refine ⟨hf.cell h.c0 hp, hf.cell h.c1 hp, hf.cell h.c2 hp, hf.cell h.c3 hp, hf.cell h.c4 hp, hf.cell h.c5 hp, hf.cell h.c6 hp, hf.cell h.c7 hp, har,
    tab_fr h.tab hf (nm l.pt (by omega) (by omega) (by omega) (by omega)) (nm l.qt (by omega) (by omega) (by omega) (by omega)),
    ⟨D, map_fr hD hf (nm l.pm (by omega) (by omega) (by omega) (by omega)), by show MapIs D (A.zs (V.set g (some d'))); rw [zs_set hd]; exact hi⟩,
    ⟨E, hE.fr hf (nm l.pg (by omega) (by omega) (by omega) (by omega)) (nm l.mg (by omega) (by omega) (by omega) (by omega)) har⟩, fun k e hk => ?_, l.set hd⟩
  have hk' : V.set g (some d') k = some e := hk
  by_cases x : k = g
  · subst x
    rw [St.set_same] at hk'
    cases hk'
    exact hs
  · rw [St.set_other x] at hk'
    obtain ⟨y1, y2, y3, y4, y5, y6, y7⟩ := l.x k e hk'
    exact (h.sl k e hk').fr hf (nm y1 (by omega) (by omega) (by omega) (by omega)) (nm y4 (by omega) (by omega) (by omega) (by omega)) (nm y2 (by omega) (by omega) (by omega) (by omega)) (nm y5 (by omega) (by omega) (by omega) (by omega)) (nm y3 (by omega) (by omega) (by omega) (by omega)) (by rw [y6, y7]; exact har)
/-- The bytes alone have turned. -/
theorem RnW.bytes {w w' : World} {A : Rp} {V : St} {cnt : Nat} {B' : Nat → Nat} (h : RnW w A V cnt) (hf : Fr (fun i => i = A.qa) w w') (har : An.ArAt w' A.pa A.qa (V.n * 256) A.acap B' none) : RnW w' A { V with B := B' } cnt := by
  have l := h.lab
  have nm : ∀ {b y}, A.lab b = y → y ≠ 2 → ¬ b = A.qa := fun hb hy => lab_ne hb l.qa hy
  have hp := nm l.p (by omega)
  obtain ⟨D, hD, hi⟩ := h.mp
  obtain ⟨E, hE⟩ := h.lg
  refine ⟨hf.cell h.c0 hp, hf.cell h.c1 hp, hf.cell h.c2 hp, hf.cell h.c3 hp, hf.cell h.c4 hp, hf.cell h.c5 hp, hf.cell h.c6 hp, hf.cell h.c7 hp, har,
    tab_fr h.tab hf (nm l.pt (by omega)) (nm l.qt (by omega)), ⟨D, map_fr hD hf (nm l.pm (by omega)), hi⟩, ⟨E, hE.fr hf (nm l.pg (by omega)) (nm l.mg (by omega)) har⟩, fun k e hk => ?_, l⟩
  obtain ⟨y1, y2, y3, y4, y5, y6, y7⟩ := l.x k e hk
  exact (h.sl k e hk).fr hf (nm y1 (by omega)) (nm y4 (by omega)) (nm y2 (by omega)) (nm y5 (by omega)) (nm y3 (by omega)) (by rw [y6, y7]; exact har)
/-- The rows alone have turned. -/
theorem RnW.table {w w' : World} {A : Rp} {V : St} {cnt : Nat} {R' : Nat → Pg.Row} (h : RnW w A V cnt) (hg : w.grownBy w' (some A.qt)) (ht : Pt.TabAt w' A.pt A.qt V.n A.tcap R') : RnW w' A { V with R := R' } cnt := by
  have l := h.lab
  have hf := fr_some (may := fun i => i = A.qt) hg (fun _ => rfl)
  have nm : ∀ {b y}, A.lab b = y → y ≠ 4 → ¬ b = A.qt := fun hb hy => lab_ne hb l.qt hy
  have hp := nm l.p (by omega)
  obtain ⟨D, hD, hi⟩ := h.mp
  obtain ⟨E, hE⟩ := h.lg
  have har := ar_fr h.ar hf (nm l.pa (by omega)) (nm l.qa (by omega))
  refine ⟨hf.cell h.c0 hp, hf.cell h.c1 hp, hf.cell h.c2 hp, hf.cell h.c3 hp, hf.cell h.c4 hp, hf.cell h.c5 hp, hf.cell h.c6 hp, hf.cell h.c7 hp, har,
    ht, ⟨D, map_fr hD hf (nm l.pm (by omega)), hi⟩, ⟨E, hE.fr hf (nm l.pg (by omega)) (nm l.mg (by omega)) har⟩, fun k e hk => ?_, l⟩
  obtain ⟨y1, y2, y3, y4, y5, y6, y7⟩ := l.x k e hk
  exact (h.sl k e hk).fr hf (nm y1 (by omega)) (nm y4 (by omega)) (nm y2 (by omega)) (nm y5 (by omega)) (nm y3 (by omega)) (by rw [y6, y7]; exact har)
/-- The great blocks and the bytes have turned. -/
theorem RnW.large {w w' : World} {A : Rp} {V : St} {cnt cnt' : Nat} {Z' B' : Nat → Nat} (h : RnW w A V cnt) (hc : cnt ≤ cnt') (hf : Fr (A.lp V).may w w') (hl : ∃ D, LgAt w' (A.lp V) cnt' D Z' B') : RnW w' A { V with Z := Z', B := B' } cnt' := by
  have l := h.lab
  have nm : ∀ {b y}, A.lab b = y → y ≠ 2 → y ≠ 7 → ¬ (A.lp V).may b := fun hb h2 h7 => by
    unfold Lp.may Rp.lp
    rintro (e | e)
    · exact lab_ne hb l.qa h2 e
    · exact lab_ne hb l.mg h7 e
  have hp := nm l.p (by omega) (by omega)
  obtain ⟨D, hD, hi⟩ := h.mp
  obtain ⟨E, hE⟩ := hl
  have har : An.ArAt w' A.pa A.qa (V.n * 256) A.acap B' none := hE.ar
  refine ⟨hf.cell h.c0 hp, hf.cell h.c1 hp, hf.cell h.c2 hp, hf.cell h.c3 hp, hf.cell h.c4 hp, hf.cell h.c5 hp, hf.cell h.c6 hp, hf.cell h.c7 hp, har,
    tab_fr h.tab hf (nm l.pt (by omega) (by omega)) (nm l.qt (by omega) (by omega)), ⟨D, (map_fr hD hf (nm l.pm (by omega) (by omega))).mono hc, hi⟩, ⟨E, hE⟩, fun k e hk => ?_, l⟩
  obtain ⟨y1, y2, y3, y4, y5, y6, y7⟩ := l.x k e hk
  exact (h.sl k e hk).fr hf (nm y1 (by omega) (by omega)) (nm y4 (by omega) (by omega)) (nm y2 (by omega) (by omega)) (nm y5 (by omega) (by omega)) (nm y3 (by omega) (by omega)) (by rw [y6, y7]; exact har)
/-- The map of the pages of slots alone has turned: one is gone. -/
theorem RnW.unset {w w' : World} {A : Rp} {V : St} {cnt g : Nat} (h : RnW w A V cnt) (hg : w.grownBy w' (some A.pm)) (hm : ∃ D, w'.ownsMap Tryz.prog 3 ptrElem A.pm cnt D ∧ MapIs D (upd (A.zs V.L) g 0)) : RnW w' A { V with L := V.set g none } cnt := by
  have l := h.lab
  have hf := fr_some (may := fun i => i = A.pm) hg (fun _ => rfl)
  have nm : ∀ {b y}, A.lab b = y → y ≠ 5 → ¬ b = A.pm := fun hb hy => lab_ne hb l.pm hy
  have hp := nm l.p (by omega)
  obtain ⟨D, hD, hi⟩ := hm
  obtain ⟨E, hE⟩ := h.lg
  have har := ar_fr h.ar hf (nm l.pa (by omega)) (nm l.qa (by omega))
  have ez : A.zs (V.set g none) = upd (A.zs V.L) g 0 := by
    funext k
    unfold Rp.zs upd
    by_cases x : k = g
    · subst x; rw [St.set_same, if_pos rfl]
    · rw [St.set_other x, if_neg x]
  refine ⟨hf.cell h.c0 hp, hf.cell h.c1 hp, hf.cell h.c2 hp, hf.cell h.c3 hp, hf.cell h.c4 hp, hf.cell h.c5 hp, hf.cell h.c6 hp, hf.cell h.c7 hp, har,
    tab_fr h.tab hf (nm l.pt (by omega)) (nm l.qt (by omega)), ⟨D, hD, by show MapIs D (A.zs (V.set g none)); rw [ez]; exact hi⟩, ⟨E, hE.fr hf (nm l.pg (by omega)) (nm l.mg (by omega)) har⟩, fun k e hk => ?_, l.unset⟩
  have hk' : V.set g none k = some e := hk
  by_cases x : k = g
  · subst x; rw [St.set_same] at hk'; cases hk'
  · rw [St.set_other x] at hk'
    obtain ⟨y1, y2, y3, y4, y5, y6, y7⟩ := l.x k e hk'
    exact (h.sl k e hk').fr hf (nm y1 (by omega)) (nm y4 (by omega)) (nm y2 (by omega)) (nm y5 (by omega)) (nm y3 (by omega)) (by rw [y6, y7]; exact har)

/-- A new slab's parts beside a region's. -/
def Rp.with (A : Rp) (g : Nat) (X : Pl) : Rp :=
  { A with
    xs := fun k => if k = g then X else A.xs k
    lab := fun i => if i = X.p then 8 + 4 * g else if i = X.ql then 9 + 4 * g else if i = X.qh then 10 + 4 * g else if i = X.pl ∨ i = X.ph then 11 + 4 * g else A.lab i }
/-- Where a new slab's parts are new blocks. -/
structure Fresh (s : Nat) (X : Pl) : Prop where
  p : s ≤ X.p
  ql : s ≤ X.ql
  qh : s ≤ X.qh
  pl : s ≤ X.pl
  ph : s ≤ X.ph
theorem with_lab {A : Rp} {g s i y : Nat} {X : Pl} (hX : Fresh s X) (hi : i < s) (h : A.lab i = y) : (A.with g X).lab i = y := by
  obtain ⟨a, b, c, d, e⟩ := hX
  show (if i = X.p then 8 + 4 * g else if i = X.ql then 9 + 4 * g else if i = X.qh then 10 + 4 * g else if i = X.pl ∨ i = X.ph then 11 + 4 * g else A.lab i) = y
  rw [if_neg (by omega), if_neg (by omega), if_neg (by omega), if_neg (by omega), h]
theorem with_xs (A : Rp) (g : Nat) (X : Pl) : (A.with g X).xs g = X := if_pos rfl
theorem with_xo (A : Rp) {g k : Nat} (X : Pl) (h : k ≠ g) : (A.with g X).xs k = A.xs k := if_neg h
theorem with_new {A : Rp} {g : Nat} {X : Pl} (ap : Apart X) : (A.with g X).lab X.p = 8 + 4 * g ∧ (A.with g X).lab X.ql = 9 + 4 * g ∧ (A.with g X).lab X.qh = 10 + 4 * g ∧ (A.with g X).lab X.pl = 11 + 4 * g ∧ (A.with g X).lab X.ph = 11 + 4 * g := by
  obtain ⟨⟨a1, a2, a3, a4, a5, a6⟩, ⟨b1, b2, b3, b4, b5⟩, ⟨c1, c2, c3, c4⟩, _⟩ := ap
  refine ⟨if_pos rfl, ?_, ?_, ?_, ?_⟩
  · show (if X.ql = X.p then _ else if X.ql = X.ql then _ else _) = _
    rw [if_neg (Ne.symm a4), if_pos rfl]
  · show (if X.qh = X.p then _ else if X.qh = X.ql then _ else if X.qh = X.qh then _ else _) = _
    rw [if_neg (Ne.symm a6), if_neg (Ne.symm b5), if_pos rfl]
  · show (if X.pl = X.p then _ else if X.pl = X.ql then _ else if X.pl = X.qh then _ else if X.pl = X.pl ∨ X.pl = X.ph then _ else _) = _
    rw [if_neg (Ne.symm a3), if_neg (Ne.symm b3), if_neg (Ne.symm c3), if_pos (.inl rfl)]
  · show (if X.ph = X.p then _ else if X.ph = X.ql then _ else if X.ph = X.qh then _ else if X.ph = X.pl ∨ X.ph = X.ph then _ else _) = _
    rw [if_neg (Ne.symm a5), if_neg (Ne.symm b4), if_neg (Ne.symm c4), if_pos (.inr rfl)]
/-- All of a region's parts are older blocks. -/
structure Old (A : Rp) (L : Nat → Option Sd) (s : Nat) : Prop where
  p : A.p < s
  pa : A.pa < s
  qa : A.qa < s
  pt : A.pt < s
  qt : A.qt < s
  pm : A.pm < s
  pg : A.pg < s
  mg : A.mg < s
  x : ∀ k e, L k = some e → (A.xs k).p < s ∧ (A.xs k).ql < s ∧ (A.xs k).qh < s ∧ (A.xs k).pl < s ∧ (A.xs k).ph < s
theorem RnW.old {w : World} {A : Rp} {V : St} {cnt : Nat} (h : RnW w A V cnt) : Old A V.L w.heap.size := by
  obtain ⟨D, hD, _⟩ := h.mp
  obtain ⟨E, hE⟩ := h.lg
  exact ⟨World.block_lt_of_cell? w ⟨A.p, 0, none⟩ h.c0, h.ar.plt, h.ar.b.qlt, h.tab.plt, h.tab.rows.qlt, hD.lt, World.block_lt_of_cell? w ⟨A.pg, 0, none⟩ hE.c0, hE.map.lt,
    fun k e hk => ⟨(h.sl k e hk).own.plt, (h.sl k e hk).l.qlt, (h.sl k e hk).h.qlt, (h.sl k e hk).l.plt, (h.sl k e hk).h.plt⟩⟩
/-- A new page of slots stands in the map. -/
theorem RnW.new {w w' : World} {A : Rp} {V : St} {cnt g s : Nat} {X : Pl} {d : Sd} (h : RnW w A V cnt) (ho : Old A V.L s) (hX : Fresh s X) (hl : V.L g = none) (hs : SlAt w X (nmOf A V g d) d.S d.f V.B) (hpa : X.pa = A.pa) (hqa : X.qa = A.qa) (hg : w.grownBy w' (some A.pm))
    (hm : ∃ D, w'.ownsMap Tryz.prog 3 ptrElem A.pm (cnt + 1) D ∧ MapIs D (upd (A.zs V.L) g (X.p + 1))) : RnW w' (A.with g X) { V with L := V.set g (some d) } (cnt + 1) := by
  have l := h.lab
  have hf := fr_some (may := fun i => i = A.pm) hg (fun _ => rfl)
  have nm : ∀ {b y}, A.lab b = y → y ≠ 5 → ¬ b = A.pm := fun hb hy => lab_ne hb l.pm hy
  have hp := nm l.p (by omega)
  have hpm := ho.pm
  obtain ⟨D, hD, hi⟩ := hm
  obtain ⟨E, hE⟩ := h.lg
  have har := ar_fr h.ar hf (nm l.pa (by omega)) (nm l.qa (by omega))
  have ez : (A.with g X).zs (V.set g (some d)) = upd (A.zs V.L) g (X.p + 1) := by
    funext k
    unfold Rp.zs upd
    by_cases x : k = g
    · subst x; rw [St.set_same, if_pos rfl, with_xs]
    · rw [St.set_other x, if_neg x, with_xo A X x]
  have hE2 := (hE.fr hf (nm l.pg (by omega)) (nm l.mg (by omega)) har)
  refine ⟨hf.cell h.c0 hp, hf.cell h.c1 hp, hf.cell h.c2 hp, hf.cell h.c3 hp, hf.cell h.c4 hp, hf.cell h.c5 hp, hf.cell h.c6 hp, hf.cell h.c7 hp, har,
    tab_fr h.tab hf (nm l.pt (by omega)) (nm l.qt (by omega)), ⟨D, hD, by show MapIs D ((A.with g X).zs (V.set g (some d))); rw [ez]; exact hi⟩, ⟨E, ⟨hE2.c0, hE2.c1, hE2.c2, hE2.ar, hE2.map.mono (by omega), hE2.is, hE2.inv, hE2.ap, hE2.k⟩⟩, fun k e hk => ?_,
    ⟨with_lab hX ho.p l.p, with_lab hX ho.pa l.pa, with_lab hX ho.qa l.qa, with_lab hX ho.pt l.pt, with_lab hX ho.qt l.qt, with_lab hX ho.pm l.pm, with_lab hX ho.pg l.pg, with_lab hX ho.mg l.mg, fun k e hk => ?_⟩⟩
  · have hk' : V.set g (some d) k = some e := hk
    by_cases x : k = g
    · subst x
      rw [St.set_same] at hk'
      cases hk'
      rw [with_xs]
      have := hX.p; have := hX.ql; have := hX.qh; have := hX.pl; have := hX.ph
      exact hs.fr hf (by omega) (by omega) (by omega) (by omega) (by omega) (by rw [hpa, hqa]; exact har)
    · rw [St.set_other x] at hk'
      obtain ⟨y1, y2, y3, y4, y5, y6, y7⟩ := l.x k e hk'
      rw [with_xo A X x]
      exact (h.sl k e hk').fr hf (nm y1 (by omega)) (nm y4 (by omega)) (nm y2 (by omega)) (nm y5 (by omega)) (nm y3 (by omega)) (by rw [y6, y7]; exact har)
  · have hk' : V.set g (some d) k = some e := hk
    by_cases x : k = g
    · subst x
      rw [with_xs]
      obtain ⟨n1, n2, n3, n4, n5⟩ := with_new (A := A) (g := k) hs.ap
      exact ⟨n1, n2, n3, n4, n5, hpa, hqa⟩
    · rw [St.set_other x] at hk'
      obtain ⟨y1, y2, y3, y4, y5, y6, y7⟩ := l.x k e hk'
      obtain ⟨s1, s2, s3, s4, s5⟩ := ho.x k e hk'
      rw [with_xo A X x]
      exact ⟨with_lab hX s1 y1, with_lab hX s2 y2, with_lab hX s3 y3, with_lab hX s4 y4, with_lab hX s5 y5, y6, y7⟩
end Go.Proofs.YtgnfcklippjeeaaGreat

/- The walks of a region's Take, Drop, Give. -/
namespace Go.Proofs.YtgnfcklippjeeaaGreat
open Go.RowKit
open Sl (Cls bs upd FOk LnkIs)
open Lg (pgs)

theorem fok_lto {A : Rp} {V : St} {g : Nat} {d : Sd} (h : FOk d.n d.S d.f) : toV (nmOf A V g d) d.f = lto g d.s d.f := by
  unfold toV lto nmOf
  rcases h with e | ⟨k, hk, e, _⟩
  · rw [e, if_neg (by simp [isK]), if_neg (by omega)]
  · rw [e, if_pos (isK_of hk), if_pos (by omega)]
theorem RnAt.take_slab {w : World} {A : Rp} {V : St} {cnt g k : Nat} {d : Sd} {x : Int} (h : RnAt w A V cnt) (hl : V.L g = some d) (hf : d.f = (k : Int)) (hk : k < d.n) (h0 : d.S k = 0) (hx : LnkIs V.key g d.s d.n d.S V.B k x) (h2 : x ≠ -2) :
    Calls Tryz.prog 87 #[.pointer (some ⟨(A.xs g).p, 0, none⟩)] w fun e w' => e = .returned (.tuple #[.int .i64 k, .int .i64 0]) ∧ RnAt w' A (V.take g d k x) cnt ∧ Fr (A.may V.L) w w' := by
  have hs := h.sl g d hl
  rw [hf] at hs
  refine (take_core hs hk h0 (next_ok hs hk hx h2)).mono ?_
  rintro e w' ⟨he, hs', hfr⟩
  exact ⟨he, ⟨h.toRnW.slab hl hfr hs', h.ok.take hl (hx.fok h2)⟩, hfr.wide (fun i hi => slab_may h.lab hl hi)⟩
theorem RnAt.take_slab_no {w : World} {A : Rp} {V : St} {cnt g k : Nat} {d : Sd} (h : RnAt w A V cnt) (hl : V.L g = some d) (hf : d.f = (k : Int)) (hk : k < d.n) (hx : LnkIs V.key g d.s d.n d.S V.B k (-2)) :
    Calls Tryz.prog 87 #[.pointer (some ⟨(A.xs g).p, 0, none⟩)] w fun e w' => e = .returned (.tuple #[.int .i64 0, .int .i64 4]) ∧ w.grownBy w' none := by
  have hs := h.sl g d hl
  rw [hf] at hs
  exact take_form hs hk (next_no hs (h.ok.sl g d hl).2.2.st hk hx)
theorem RnAt.take_slab_none {w : World} {A : Rp} {V : St} {cnt g : Nat} {d : Sd} (h : RnAt w A V cnt) (hl : V.L g = some d) (hf : d.f = -1) :
    Calls Tryz.prog 87 #[.pointer (some ⟨(A.xs g).p, 0, none⟩)] w fun e w' => e = .returned (.tuple #[.int .i64 0, .int .i64 5]) ∧ w.grownBy w' none := by
  have hs := h.sl g d hl
  rw [hf] at hs
  exact (take_none hs).mono fun _ _ ⟨he, hw⟩ => ⟨he, hw ▸ grown_refl _ _⟩
/-- Does a slot's canary stand? -/
def St.std (V : St) (g : Nat) (d : Sd) (k : Nat) : Bool := decide (Ar.wordAt V.B (bs g d.s k + d.r) = Sl.can V.key g d.s k)
theorem RnAt.drop_slab {w : World} {A : Rp} {V : St} {cnt g k : Nat} {d : Sd} (h : RnAt w A V cnt) (hl : V.L g = some d) (hk : k < d.n) (h1 : d.S k = 1) :
    Calls Tryz.prog 66 #[.pointer (some ⟨(A.xs g).p, 0, none⟩), .int .i64 k] w fun e w' => e = .returned (.tuple #[.bool (V.std g d k), .int .i64 0]) ∧ RnAt w' A (V.drop g d k) cnt ∧ Fr (A.may V.L) w w' := by
  refine (drop_core (h.sl g d hl) (h.ok.sl g d hl).2.2.st hk h1).mono ?_
  rintro e w' ⟨he, hs', hfr⟩
  exact ⟨he, ⟨h.toRnW.slab (d' := { d with S := upd d.S k 2 }) hl hfr hs', h.ok.drop hl h1⟩, hfr.wide (fun i hi => slab_may h.lab hl hi)⟩
theorem RnAt.drop_slab_no {w : World} {A : Rp} {V : St} {cnt g k : Nat} {d : Sd} (h : RnAt w A V cnt) (hl : V.L g = some d) (hk : k < d.n) (h1 : d.S k ≠ 1) :
    Calls Tryz.prog 66 #[.pointer (some ⟨(A.xs g).p, 0, none⟩), .int .i64 k] w fun e w' => e = .returned (.tuple #[.bool false, .int .i64 8]) ∧ w = w' := by
  refine drop_bad _ 8 k w (by omega) ?_
  have := wrong_at (h.sl g d hl) (h.ok.sl g d hl).2.2.st (k : Int) 1
  unfold wrV at this
  rw [if_pos (isK_of (show k < (nmOf A V g d).n from hk)), if_neg (by rw [stV_in (show k < (nmOf A V g d).n from hk)]; omega)] at this
  exact this
theorem RnAt.give_slab {w : World} {A : Rp} {V : St} {cnt g k : Nat} {d : Sd} (h : RnAt w A V cnt) (hl : V.L g = some d) (hk : k < d.n) (h1 : d.S k = 2) :
    Calls Tryz.prog 69 #[.pointer (some ⟨(A.xs g).p, 0, none⟩), .int .i64 k] w fun e w' => e = .returned (.int .i64 0) ∧ RnAt w' A (V.give g d k) cnt ∧ Fr (A.may V.L) w w' := by
  refine (give_core (h.sl g d hl) (h.ok.sl g d hl).2.2.st hk h1).mono ?_
  rintro e w' ⟨he, hs', hfr⟩
  rw [fok_lto (h.ok.sl g d hl).2.2.f] at hs'
  exact ⟨he, ⟨h.toRnW.slab (d' := { d with S := upd d.S k 0, f := k }) hl hfr hs', h.ok.give hl hk⟩, hfr.wide (fun i hi => slab_may h.lab hl hi)⟩
theorem RnAt.give_slab_no {w : World} {A : Rp} {V : St} {cnt g k : Nat} {d : Sd} (h : RnAt w A V cnt) (hl : V.L g = some d) (hk : k < d.n) (h1 : d.S k ≠ 2) :
    Calls Tryz.prog 69 #[.pointer (some ⟨(A.xs g).p, 0, none⟩), .int .i64 k] w fun e w' => e = .returned (.int .i64 8) ∧ w = w' := by
  refine give_bad _ 8 k w (by omega) ?_
  have := wrong_at (h.sl g d hl) (h.ok.sl g d hl).2.2.st (k : Int) 2
  unfold wrV at this
  rw [if_pos (isK_of (show k < (nmOf A V g d).n from hk)), if_neg (by rw [stV_in (show k < (nmOf A V g d).n from hk)]; omega)] at this
  exact this

/-! Take -/
theorem field_base (x0 x1 x2 x3 x4 : Int) (b : Bool) (w : World) : (Instr.field 37 (.agg #[.int .i64 x0, .int .i64 x1, .int .i64 x2, .int .i64 x3, .int .i64 x4, .bool b]) 2).run Tryz.prog w = .ok (.int .i64 x2) w := by kernel_rfl
set_option maxRecDepth 100000 in
set_option maxHeartbeats 1000000 in
theorem rtake_none {w : World} {A : Rp} {V : St} {cnt : Nat} (h : RnAt w A V cnt) (page : Int) (hw : WF page) (hl : ∀ g : Nat, page = g → V.L g = none) :
    Calls Tryz.prog 29 #[.pointer (some ⟨A.p, 0, none⟩), .int .i64 page] w fun e w' => e = .returned (.tuple #[.int .i64 0, .int .i64 6]) ∧ w.grownBy w' none := by
  have HS := Lib.hid (slots_none h page hw hl)
  clear h hw hl
  go_enter Tryz.func29, Tryz.ntmps29
  go_wp2_with fail
  refine HS.out.mono ?_
  rintro e w1 ⟨rfl, m1⟩
  go_wp2
  go_ret2
  exact ⟨rfl, m1⟩
set_option maxRecDepth 100000 in
set_option maxHeartbeats 1000000 in
theorem rtake_err {w : World} {A : Rp} {V : St} {cnt g : Nat} {d : Sd} (er : Int) (hz : er ≠ 0) (h : RnAt w A V cnt) (hl : V.L g = some d)
    (hT : ∀ W, w.grownBy W none → Calls Tryz.prog 87 #[.pointer (some ⟨(A.xs g).p, 0, none⟩)] W fun e w' => e = .returned (.tuple #[.int .i64 0, .int .i64 er]) ∧ W.grownBy w' none) :
    Calls Tryz.prog 29 #[.pointer (some ⟨A.p, 0, none⟩), .int .i64 g] w fun e w' => e = .returned (.tuple #[.int .i64 0, .int .i64 er]) ∧ w.grownBy w' none := by
  have HS := Lib.hid (slots_some h hl)
  have HT := Lib.hid hT
  have hz' : (er != 0) = true := by simpa using hz
  clear h hl hT hz
  go_enter Tryz.func29, Tryz.ntmps29
  go_wp2_with fail
  refine HS.out.mono ?_
  rintro e w1 ⟨rfl, m1⟩
  go_wp2_with fail
  refine (HT.out _ m1).mono ?_
  rintro e w2 ⟨rfl, m2⟩
  have HG := Lib.hid (grown_trans m1 m2)
  clear m1 m2
  go_wp2
  go_ret2
  exact ⟨rfl, HG.out⟩
set_option maxRecDepth 100000 in
set_option maxHeartbeats 1000000 in
theorem rtake_ok {w : World} {A : Rp} {V : St} {cnt g k : Nat} {d : Sd} {x : Int} (h : RnAt w A V cnt) (hl : V.L g = some d) (hf : d.f = (k : Int)) (hk : k < d.n) (h0 : d.S k = 0) (hx : LnkIs V.key g d.s d.n d.S V.B k x) (h2 : x ≠ -2) :
    Calls Tryz.prog 29 #[.pointer (some ⟨A.p, 0, none⟩), .int .i64 g] w fun e w' => e = .returned (.tuple #[.int .i64 (bs g d.s k : Nat), .int .i64 0]) ∧ RnAt w' A (V.take g d k x) cnt ∧ Fr (A.may V.L) w w' := by
  have HS := Lib.hid (slots_some h hl)
  have HT := Lib.hid (fun W (g1 : w.grownBy W none) => (h.grown g1).take_slab hl hf hk h0 hx h2)
  have HP := Lib.hid (fun W (hW : RnAt W A (V.take g d k x) cnt) => slotPlace_at hW (St.set_same _ _ _) hk)
  clear h hl hf hk h0 hx h2
  unfold pcv spc at HP
  simp only [] at HP
  generalize ((bs g d.s k : Nat) : Int) = b at *
  have hfd := field_base
  go_enter Tryz.func29, Tryz.ntmps29
  go_wp2_with fail
  refine HS.out.mono ?_
  rintro e w1 ⟨rfl, m1⟩
  go_wp2_with fail
  refine (HT.out _ m1).mono ?_
  rintro e w2 ⟨rfl, hr, hfr⟩
  have HR := Lib.hid hr
  have HF := Lib.hid ((fr_none (may := A.may V.L) m1).trans hfr)
  clear m1 hr hfr HS HT
  go_wp2_with fail
  refine (HP.out _ HR.out).mono ?_
  rintro e w3 ⟨rfl, m3⟩
  have HR3 := Lib.hid (HR.out.grown m3)
  have HF3 := Lib.hid (HF.out.trans (fr_none m3))
  clear m3 HR HF HP
  go_wp2
  go_ret2
  exact ⟨rfl, HR3.out, HF3.out⟩

/-! Drop -/
theorem place_new (w : World) (x0 x1 x2 x3 x4 : Int) (b : Bool) (t : TypeId) :
    (w.alloc (.cells #[.int .i64 x0, .int .i64 x1, .int .i64 x2, .int .i64 x3, .int .i64 x4, .bool b] t)).cell? ⟨w.heap.size, 0, none⟩ = some (.int .i64 x0) ∧
    (w.alloc (.cells #[.int .i64 x0, .int .i64 x1, .int .i64 x2, .int .i64 x3, .int .i64 x4, .bool b] t)).cell? ⟨w.heap.size, 1, none⟩ = some (.int .i64 x1) := ⟨by rw [cell_alloc_new]; rfl, by rw [cell_alloc_new]; rfl⟩
theorem at_wf {V : St} {a : Int} (_ : V.Ok) (x : Option Pc) (_ : V.At a x) : True := trivial
set_option maxRecDepth 100000 in
set_option maxHeartbeats 1000000 in
theorem rdrop_no {w : World} {A : Rp} {V : St} {cnt : Nat} {a : Int} {x : Option Pc} (h : RnAt w A V cnt) (hx : V.At a x) (hn : ∀ p, x = some p → (p.b : Int) ≠ a) :
    Calls Tryz.prog 17 #[.pointer (some ⟨A.p, 0, none⟩), .int .i64 a] w fun e w' => e = .returned (.tuple #[.bool false, .int .i64 6]) ∧ w.grownBy w' none := by
  have HF := find_at h hx
  cases x with
  | none =>
    unfold fndV pc0 at HF
    simp only [] at HF
    have HF := Lib.hid HF
    clear h hx hn
    go_enter Tryz.func17, Tryz.ntmps17
    go_wp2_with fail
    refine HF.out.mono ?_
    rintro e w1 ⟨rfl, m1⟩
    go_wp2
    go_ret2
    exact ⟨rfl, grown_trans m1 (grown_alloc _ _ _)⟩
  | some p =>
    have hb := hn p rfl
    unfold fndV pcv at HF
    simp only [] at HF
    have hb' : ((p.b : Int) != a) = true := by simpa using hb
    have HF := Lib.hid HF
    clear h hx hn hb
    generalize ((p.b : Nat) : Int) = b at *
    go_enter Tryz.func17, Tryz.ntmps17
    go_wp2_with fail
    refine HF.out.mono ?_
    rintro e w1 ⟨rfl, m1⟩
    go_wp2
    go_ret2
    exact ⟨rfl, grown_trans m1 (grown_alloc _ _ _)⟩
set_option maxRecDepth 100000 in
set_option maxHeartbeats 2000000 in
theorem rdrop_core {w : World} {A : Rp} {V : St} {cnt g k : Nat} {d : Sd} {R : World → Prop} {bo : Bool} {er : Int} (h : RnAt w A V cnt) (hl : V.L g = some d) (hk : k < d.n)
    (hD : ∀ W, w.grownBy W none → Calls Tryz.prog 66 #[.pointer (some ⟨(A.xs g).p, 0, none⟩), .int .i64 k] W fun e w' => e = .returned (.tuple #[.bool bo, .int .i64 er]) ∧ R w' ∧ Fr (A.may V.L) W w') :
    Calls Tryz.prog 17 #[.pointer (some ⟨A.p, 0, none⟩), .int .i64 (bs g d.s k : Nat)] w fun e w' => e = .returned (.tuple #[.bool bo, .int .i64 er]) ∧ R w' ∧ Fr (A.may V.L) w w' := by
  obtain ⟨hgm, _, hd⟩ := h.ok.sl g d hl
  have hgn : g < V.n := by have := h.ok.mn; omega
  obtain ⟨e1, e2⟩ := Sl.bs_slot hd.c g hk
  have HF := find_at h (V := V) (a := (bs g d.s k : Nat)) (.slot g d _ rfl e1 hgn hl)
  rw [e2] at HF
  unfold fndV pcv spc at HF
  simp only [] at HF
  have HF := Lib.hid HF
  have HS := Lib.hid (fun W (g1 : w.grownBy W none) => slots_some (h.grown g1) hl)
  have HD := Lib.hid hD
  have HM := Lib.hid (fun i (hi : A.may V.L i) => h.may_lt hi)
  clear h hl hk hD hgm hd hgn e1 e2
  generalize ((bs g d.s k : Nat) : Int) = b at *
  generalize ((d.S k : Nat) : Int) = st at *
  generalize ((d.r : Nat) : Int) = sz at *
  go_enter Tryz.func17, Tryz.ntmps17
  go_wp2_with fail
  refine HF.out.mono ?_
  rintro e w1 ⟨rfl, m1⟩
  go_upto_region 7 with (fail)
  have m2 := grown_alloc w1 (.cells #[.int .i64 g, .int .i64 k, .int .i64 b, .int .i64 sz, .int .i64 st, .bool false] 37) none
  obtain ⟨e0, e1⟩ := place_new w1 g k b sz st false 37
  have HQ := Lib.hid (fun W (g1 : (w1.alloc (.cells #[.int .i64 g, .int .i64 k, .int .i64 b, .int .i64 sz, .int .i64 st, .bool false] 37)).grownBy W none) => And.intro (g1.cell e0 (by simp)) (g1.cell e1 (by simp)))
  have HQ2 := Lib.hid (fun W W' (g1 : (w1.alloc (.cells #[.int .i64 g, .int .i64 k, .int .i64 b, .int .i64 sz, .int .i64 st, .bool false] 37)).grownBy W none) (hfr : Fr (A.may V.L) W W') =>
    have nq : ¬ A.may V.L w1.heap.size := fun hi => by have := HM.out _ hi; have := m1.size; omega
    And.intro (hfr.cell (g1.cell e0 (by simp)) nq) (hfr.cell (g1.cell e1 (by simp)) nq))
  have HG := Lib.hid (grown_trans m1 m2)
  clear m1 m2 HF HM
  generalize w1.alloc (.cells #[.int .i64 g, .int .i64 k, .int .i64 b, .int .i64 sz, .int .i64 st, .bool false] 37) = w2 at *
  generalize w1.heap.size = q at *
  have hg1 := grown_drew1 (grown_refl w2 none)
  go_region_held3 (fun w' => w'.cell? ⟨q, 0, none⟩ = some (.int .i64 g) ∧ w'.cell? ⟨q, 1, none⟩ = some (.int .i64 k))
    (first | exact ⟨e0, e1⟩ | exact HQ.out _ (by assumption) | exact HS3.out)
    (first
    | (go_at_call 63; refine (HS.out _ (grown_trans HG.out (by assumption))).mono ?_; rintro e w3 ⟨rfl, m⟩; have hg2 := grown_trans (by assumption : w2.grownBy _ none) m; clear m)
    | (go_at_call 66; refine (HD.out _ (grown_trans HG.out (by assumption))).mono ?_; rintro e w3 ⟨rfl, k3, k4⟩; have HS3 := Lib.hid (HQ2.out _ _ (by assumption) k4); have K := Lib.hid (And.intro k3 ((fr_none (may := A.may V.L) (grown_trans HG.out (by assumption))).trans k4)); clear k3 k4))
  all_goals
    go_wp2
    go_ret2
    exact ⟨rfl, K.out⟩
end Go.Proofs.YtgnfcklippjeeaaGreat

/- The walks of a region's Drop of a great block, Give, Shut; a slab's Count. -/
namespace Go.Proofs.YtgnfcklippjeeaaGreat
open Go.RowKit
open Go.Maps (Keyed)
open Sl (Cls bs upd FOk LnkIs)
open Lg (pgs)

/-- Does a great block's canary stand? -/
def St.gstd (V : St) (p : Nat) : Bool := decide (Ar.wordAt V.B (Lg.grd p (V.Z p)) = Lg.can V.key p)
theorem lp_may {A : Rp} {V : St} {i : Nat} (h : (A.lp V).may i) : A.may V.L i := by
  unfold Lp.may Rp.lp at h
  rcases h with h | h
  · exact .inl h
  · exact .inr (.inr (.inr (.inl h)))
/-- A great block's rows are free. -/
theorem RnAt.unmap_great {w : World} {A : Rp} {V : St} {cnt g : Nat} (h : RnAt w A V cnt) (hz : V.Z g ≠ 0) :
    Calls Tryz.prog 67 #[.pointer (some ⟨A.pt, 0, none⟩), .int .i64 g] w fun e w' => e = .returned (.int .i64 0) ∧ RnW w' A { V with R := Pg.clr V.R g (pgs (V.Z g)) } cnt ∧ Fr (A.may V.L) w w' := by
  obtain ⟨h1, h2, h3, hr⟩ := h.ok.gr g hz
  have hn : g < V.n := by have := h.ok.mn; have := Lg.pgs_pos (V.Z g); omega
  have := Pt.unmap_first h.tab g hn (by rw [hr]; rfl)
  rw [show (V.R g).r.toNat = pgs (V.Z g) by rw [hr]; exact Int.toNat_natCast _] at this
  exact this.mono fun _ _ ⟨he, ht, hg⟩ => ⟨he, h.toRnW.table hg ht, fr_some hg (fun _ => .inr (.inl rfl))⟩
theorem drop_large {w : World} {A : Rp} {V : St} {cnt g : Nat} {R' : Nat → Pg.Row} (h : RnW w A { V with R := R' } cnt) (hz : V.Z g ≠ 0) :
    Calls Tryz.prog 68 #[.pointer (some ⟨A.pg, 0, none⟩), .int .i64 g] w fun e w' => e = .returned (.tuple #[.bool (V.gstd g), .int .i64 0]) ∧ RnW w' A { V with B := Lg.dropB g (V.Z g) V.B, R := R', Z := upd V.Z g 0 } cnt ∧ Fr (A.may V.L) w w' := by
  obtain ⟨E, hE⟩ := h.lg
  have h := h
  refine (ldrop_ok hE g hz).mono ?_
  rintro e w' ⟨he, hl, hf⟩
  exact ⟨he, h.large (Nat.le_refl _) hf hl, hf.wide (fun i hi => lp_may (V := { V with R := R' }) hi)⟩

set_option maxRecDepth 100000 in
set_option maxHeartbeats 2000000 in
theorem rdrop_great {w : World} {A : Rp} {V : St} {cnt g : Nat} (h : RnAt w A V cnt) (hz : V.Z g ≠ 0) :
    Calls Tryz.prog 17 #[.pointer (some ⟨A.p, 0, none⟩), .int .i64 ((g * 256 : Nat) : Int)] w fun e w' => e = .returned (.tuple #[.bool (V.gstd g), .int .i64 0]) ∧ RnAt w' A (V.gdrop g) cnt ∧ Fr (A.may V.L) w w' := by
  obtain ⟨h1, h2, h3, hr⟩ := h.ok.gr g hz
  have hgn : g < V.n := by have := h.ok.mn; have := Lg.pgs_pos (V.Z g); omega
  have hgr : V.Gr g g := ⟨hz, Nat.le_refl _, by have := Lg.pgs_pos (V.Z g); omega⟩
  have HF := find_at h (V := V) (a := ((g * 256 : Nat) : Int)) (.great g g _ rfl (by omega) hgn (h.ok.sl_gr hgr) hgr)
  unfold fndV pcv gpc at HF
  simp only [] at HF
  have HF := Lib.hid HF
  have HU := Lib.hid (fun W (g1 : w.grownBy W none) => (h.grown g1).unmap_great hz)
  have HD := Lib.hid (fun W (hW : RnW W A { V with R := Pg.clr V.R g (pgs (V.Z g)) } cnt) => drop_large hW hz)
  have HOK := Lib.hid (h.ok.gdrop hz)
  have HM := Lib.hid (fun i (hi : A.may V.L i) => h.may_lt hi)
  have HC4 := Lib.hid (fun W (g1 : w.grownBy W none) => (h.grown g1).c4)
  have HNP := Lib.hid (h.lab.not_may h.lab.p (.inl rfl))
  clear h hz h1 h2 h3 hr hgn hgr
  generalize ((g * 256 : Nat) : Int) = b at *
  generalize ((V.Z g : Nat) : Int) = z at *
  generalize V.gstd g = bo at *
  go_enter Tryz.func17, Tryz.ntmps17
  go_wp2_with fail
  refine HF.out.mono ?_
  rintro e w1 ⟨rfl, m1⟩
  go_upto_region 8 with (fail)
  have m2 := grown_alloc w1 (.cells #[.int .i64 g, .int .i64 0, .int .i64 b, .int .i64 z, .int .i64 1, .bool true] 37) none
  obtain ⟨e0, _⟩ := place_new w1 g 0 b z 1 true 37
  have HG := Lib.hid (grown_trans m1 m2)
  have nq : Hid (¬ A.may V.L w1.heap.size) := Lib.hid (fun hi => by have := HM.out _ hi; have := m1.size; omega)
  have HE0 := Lib.hid e0
  clear m1 m2 HF HM
  generalize w1.alloc (.cells #[.int .i64 g, .int .i64 0, .int .i64 b, .int .i64 z, .int .i64 1, .bool true] 37) = w2 at *
  generalize w1.heap.size = q at *
  have e4 := HC4.out _ HG.out
  have HS2 : Hid (∀ W W', w2.grownBy W none → Fr (A.may V.L) W W' → W'.cell? ⟨A.p, 4, none⟩ = some (.pointer (some ⟨A.pt, 0, none⟩)) ∧ W'.cell? ⟨q, 0, none⟩ = some (.int .i64 g)) := Lib.hid (fun W W' g1 hf => ⟨hf.cell (HC4.out _ (grown_trans HG.out g1)) HNP.out, hf.cell (g1.cell HE0.out (by simp)) nq.out⟩)
  have hg1 := grown_drew1 (grown_refl w2 none)
  go_cut [] (fun W => RnW W A { V with R := Pg.clr V.R g (pgs (V.Z g)) } cnt ∧ Fr (A.may V.L) w W ∧ W.cell? ⟨q, 0, none⟩ = some (.int .i64 g))
  case first =>
    go_region_held3 (fun w' => w'.cell? ⟨A.p, 4, none⟩ = some (.pointer (some ⟨A.pt, 0, none⟩)) ∧ w'.cell? ⟨q, 0, none⟩ = some (.int .i64 g))
      (first | exact ⟨e4, e0⟩ | exact HS3.out)
      (first
      | (go_at_call 67; refine (HU.out _ (grown_trans HG.out (by assumption))).mono ?_; rintro e w3 ⟨rfl, k3, k4⟩; have HS3 := Lib.hid (HS2.out _ _ (by assumption) k4); have K := Lib.hid (And.intro k3 (And.intro ((fr_none (may := A.may V.L) (grown_trans HG.out (by assumption))).trans k4) HS3.out.2)); clear k3 k4))
    all_goals
      go_wp2
      go_meet
      exact K.out
  case rest =>
    obtain ⟨hw3, hf3, hq3⟩ := hcut
    obtain ⟨w3, rfl⟩ : ∃ w3 : World, w3 = wc := ⟨_, rfl⟩
    have e7 := hw3.c7
    have HW := Lib.hid hw3
    have HF3 := Lib.hid hf3
    have HE3 := Lib.hid hq3
    have HD2 := Lib.hid (fun W (g1 : w3.grownBy W none) => HD.out _ (HW.out.grown g1))
    have HS4 : Hid (∀ W W', w3.grownBy W none → Fr (A.may V.L) W W' → W'.cell? ⟨A.p, 7, none⟩ = some (.pointer (some ⟨A.pg, 0, none⟩)) ∧ W'.cell? ⟨q, 0, none⟩ = some (.int .i64 g)) := Lib.hid (fun W W' g1 hf => ⟨hf.cell (HW.out.grown g1).c7 HNP.out, hf.cell (g1.cell HE3.out (by simp)) nq.out⟩)
    clear hw3 hf3 hg1 HU HS2 HC4 e4 e0 HE0 HD HG
    have hg1 := grown_drew1 (grown_refl w3 none)
    go_upto_region 9 with (fail)
    go_region_held3 (fun w' => w'.cell? ⟨A.p, 7, none⟩ = some (.pointer (some ⟨A.pg, 0, none⟩)) ∧ w'.cell? ⟨q, 0, none⟩ = some (.int .i64 g))
      (first | exact ⟨e7, hq3⟩ | exact HS3.out)
      (first
      | (go_at_call 68; refine (HD2.out _ (by assumption)).mono ?_; rintro e w4 ⟨rfl, k3, k4⟩; have HS3 := Lib.hid (HS4.out _ _ (by assumption) k4); have K := Lib.hid (And.intro k3 (HF3.out.trans ((fr_none (may := A.may V.L) (by assumption)).trans k4))); clear k3 k4))
    all_goals
      go_wp2
      go_ret2
      exact ⟨rfl, ⟨K.out.1, HOK.out⟩, K.out.2⟩

/-! Give -/
set_option maxRecDepth 100000 in
set_option maxHeartbeats 1000000 in
theorem rgive_no {w : World} {A : Rp} {V : St} {cnt : Nat} {a : Int} {x : Option Pc} (h : RnAt w A V cnt) (hx : V.At a x) (hn : ∀ p, x = some p → (p.b : Int) ≠ a ∨ p.gr = true) :
    Calls Tryz.prog 18 #[.pointer (some ⟨A.p, 0, none⟩), .int .i64 a] w fun e w' => e = .returned (.int .i64 6) ∧ w.grownBy w' none := by
  have HF := find_at h hx
  cases x with
  | none =>
    unfold fndV pc0 at HF
    simp only [] at HF
    have HF := Lib.hid HF
    clear h hx hn
    go_enter Tryz.func18, Tryz.ntmps18
    go_wp2_with fail
    refine HF.out.mono ?_
    rintro e w1 ⟨rfl, m1⟩
    go_wp2
    go_ret
    exact ⟨rfl, grown_trans m1 (grown_alloc _ _ _)⟩
  | some p =>
    have hb := hn p rfl
    unfold fndV pcv at HF
    simp only [] at HF
    by_cases hb1 : (p.b : Int) = a
    · have hgr : p.gr = true := hb.resolve_left (fun x => x hb1)
      rw [hgr, hb1] at HF
      have HF := Lib.hid HF
      clear h hx hn hb hb1 hgr
      go_enter Tryz.func18, Tryz.ntmps18
      go_wp2_with fail
      refine HF.out.mono ?_
      rintro e w1 ⟨rfl, m1⟩
      go_wp2
      go_ret
      exact ⟨rfl, grown_trans m1 (grown_alloc _ _ _)⟩
    · have hb' : ((p.b : Int) != a) = true := by simpa using hb1
      have HF := Lib.hid HF
      clear h hx hn hb hb1
      generalize ((p.b : Nat) : Int) = b at *
      go_enter Tryz.func18, Tryz.ntmps18
      go_wp2_with fail
      refine HF.out.mono ?_
      rintro e w1 ⟨rfl, m1⟩
      go_wp2
      go_ret
      exact ⟨rfl, grown_trans m1 (grown_alloc _ _ _)⟩
set_option maxRecDepth 100000 in
set_option maxHeartbeats 2000000 in
theorem rgive_core {w : World} {A : Rp} {V : St} {cnt g k : Nat} {d : Sd} {R : World → Prop} {er : Int} (h : RnAt w A V cnt) (hl : V.L g = some d) (hk : k < d.n)
    (hD : ∀ W, w.grownBy W none → Calls Tryz.prog 69 #[.pointer (some ⟨(A.xs g).p, 0, none⟩), .int .i64 k] W fun e w' => e = .returned (.int .i64 er) ∧ R w' ∧ Fr (A.may V.L) W w') :
    Calls Tryz.prog 18 #[.pointer (some ⟨A.p, 0, none⟩), .int .i64 (bs g d.s k : Nat)] w fun e w' => e = .returned (.int .i64 er) ∧ R w' ∧ Fr (A.may V.L) w w' := by
  obtain ⟨hgm, _, hd⟩ := h.ok.sl g d hl
  have hgn : g < V.n := by have := h.ok.mn; omega
  obtain ⟨e1, e2⟩ := Sl.bs_slot hd.c g hk
  have HF := find_at h (V := V) (a := (bs g d.s k : Nat)) (.slot g d _ rfl e1 hgn hl)
  rw [e2] at HF
  unfold fndV pcv spc at HF
  simp only [] at HF
  have HF := Lib.hid HF
  have HS := Lib.hid (fun W (g1 : w.grownBy W none) => slots_some (h.grown g1) hl)
  have HD := Lib.hid hD
  have HM := Lib.hid (fun i (hi : A.may V.L i) => h.may_lt hi)
  clear h hl hk hD hgm hd hgn e1 e2
  generalize ((bs g d.s k : Nat) : Int) = b at *
  generalize ((d.S k : Nat) : Int) = st at *
  generalize ((d.r : Nat) : Int) = sz at *
  go_enter Tryz.func18, Tryz.ntmps18
  go_wp2_with fail
  refine HF.out.mono ?_
  rintro e w1 ⟨rfl, m1⟩
  go_upto_region 6 with (fail)
  have m2 := grown_alloc w1 (.cells #[.int .i64 g, .int .i64 k, .int .i64 b, .int .i64 sz, .int .i64 st, .bool false] 37) none
  obtain ⟨e0, e1⟩ := place_new w1 g k b sz st false 37
  have HQ := Lib.hid (fun W (g1 : (w1.alloc (.cells #[.int .i64 g, .int .i64 k, .int .i64 b, .int .i64 sz, .int .i64 st, .bool false] 37)).grownBy W none) => And.intro (g1.cell e0 (by simp)) (g1.cell e1 (by simp)))
  have HQ2 := Lib.hid (fun W W' (g1 : (w1.alloc (.cells #[.int .i64 g, .int .i64 k, .int .i64 b, .int .i64 sz, .int .i64 st, .bool false] 37)).grownBy W none) (hfr : Fr (A.may V.L) W W') =>
    have nq : ¬ A.may V.L w1.heap.size := fun hi => by have := HM.out _ hi; have := m1.size; omega
    And.intro (hfr.cell (g1.cell e0 (by simp)) nq) (hfr.cell (g1.cell e1 (by simp)) nq))
  have HG := Lib.hid (grown_trans m1 m2)
  clear m1 m2 HF HM
  generalize w1.alloc (.cells #[.int .i64 g, .int .i64 k, .int .i64 b, .int .i64 sz, .int .i64 st, .bool false] 37) = w2 at *
  generalize w1.heap.size = q at *
  have hg1 := grown_drew1 (grown_refl w2 none)
  go_region_held3 (fun w' => w'.cell? ⟨q, 0, none⟩ = some (.int .i64 g) ∧ w'.cell? ⟨q, 1, none⟩ = some (.int .i64 k))
    (first | exact ⟨e0, e1⟩ | exact HQ.out _ (by assumption) | exact HS3.out)
    (first
    | (go_at_call 63; refine (HS.out _ (grown_trans HG.out (by assumption))).mono ?_; rintro e w3 ⟨rfl, m⟩; have hg2 := grown_trans (by assumption : w2.grownBy _ none) m; clear m)
    | (go_at_call 69; refine (HD.out _ (grown_trans HG.out (by assumption))).mono ?_; rintro e w3 ⟨rfl, k3, k4⟩; have HS3 := Lib.hid (HQ2.out _ _ (by assumption) k4); have K := Lib.hid (And.intro k3 ((fr_none (may := A.may V.L) (grown_trans HG.out (by assumption))).trans k4)); clear k3 k4))
  all_goals
    go_wp2
    go_ret
    exact ⟨rfl, K.out⟩

/-! Count -/
/-- How many of the first k slots are in a state. -/
def cntS (S : Nat → Nat) (x : Int) : Nat → Nat
  | 0 => 0
  | k + 1 => cntS S x k + if ((S k : Nat) : Int) = x then 1 else 0
theorem cntS_le (S : Nat → Nat) (x : Int) : ∀ k, cntS S x k ≤ k
  | 0 => Nat.le_refl _
  | k + 1 => by have := cntS_le S x k; simp only [cntS]; split <;> omega
theorem cntS_zero {S : Nat → Nat} {x : Int} : ∀ {n : Nat}, cntS S x n = 0 ↔ ∀ k, k < n → ((S k : Nat) : Int) ≠ x
  | 0 => by simp [cntS]
  | n + 1 => by
    simp only [cntS]
    constructor
    · intro h k hk
      by_cases e : ((S n : Nat) : Int) = x
      · rw [if_pos e] at h; omega
      · rcases Nat.lt_or_ge k n with h1 | h1
        · rw [if_neg e] at h; exact (cntS_zero (n := n)).1 (by omega) k h1
        · rw [show k = n by omega]; exact e
    · intro h
      rw [(cntS_zero (n := n)).2 (fun k hk => h k (by omega)), if_neg (h n (by omega))]
set_option maxRecDepth 100000 in
set_option maxHeartbeats 1000000 in
theorem scount_at {w : World} {X : Pl} {Y : Nm} {S : Nat → Nat} {f : Int} {B : Nat → Nat} (h : SlAt w X Y S f B) (hst : ∀ k, S k ≤ 2) (x : Int) :
    Calls Tryz.prog 70 #[.pointer (some ⟨X.p, 0, none⟩), .int .i64 x] w fun e w' => e = .returned (.int .i64 (cntS S x Y.n : Nat)) ∧ w = w' := by
  have HN := Lib.hid (slots_at h)
  have hn := h.ok.c.facts.n16
  have HS := Lib.hid (fun k (hk : k < Y.n) => state_in h hk (hst k))
  clear h hst
  go_enter Tryz.func70, Tryz.ntmps70
  go_wp2_with (go_at_call 135; refine HN.out.mono ?_; rintro e w' ⟨rfl, rfl⟩)
  clear HN
  go_loop [5, 9] (fun c i => ∃ m : Nat, m ≤ Y.n ∧ c = .int .i64 (cntS S x m : Nat) ∧ i = .int .i64 m) (fun _ i => Y.n - (intOf i).toNat)
  case atStart => exact ⟨0, Nat.zero_le _, rfl, rfl⟩
  case round =>
    obtain ⟨m, hm, rfl, rfl⟩ := hrel
    by_cases hlt : m < Y.n
    · have HT := Lib.hid (HS.out m hlt)
      have hle := cntS_le S x m
      obtain ⟨v, hv⟩ : ∃ v : Nat, S m = v := ⟨_, rfl⟩
      rw [hv] at HT
      have HNX : Hid (cntS S x (m + 1) = cntS S x m + if ((v : Nat) : Int) = x then 1 else 0) := Lib.hid (by rw [← hv]; rfl)
      clear hv
      generalize cntS S x m = c at *
      by_cases e : ((v : Nat) : Int) = x
      · have e1 : (((v : Nat) : Int) == x) = true := by simpa using e
        have HC2 : Hid (cntS S x (m + 1) = c + 1) := Lib.hid (by rw [HNX.out, if_pos e])
        clear e HNX
        go_wp2_with (go_at_call 118; refine HT.out.mono ?_; rintro e w' ⟨rfl, rfl⟩)
        go_round
        case rel => exact ⟨m + 1, by omega, by have := HC2.out; go_num, by go_num⟩
        case measure => simp [intOf]; omega
      · have e1 : (((v : Nat) : Int) == x) = false := by simpa using e
        have HC2 : Hid (cntS S x (m + 1) = c) := Lib.hid (by rw [HNX.out, if_neg e]; rfl)
        clear e HNX
        go_wp2_with (go_at_call 118; refine HT.out.mono ?_; rintro e w' ⟨rfl, rfl⟩)
        go_round
        case rel => exact ⟨m + 1, by omega, by have := HC2.out; go_num, by go_num⟩
        case measure => simp [intOf]; omega
    · obtain rfl : m = Y.n := by omega
      go_wp2
      go_ret
      exact ⟨rfl, rfl⟩
end Go.Proofs.YtgnfcklippjeeaaGreat

/- The walks of a region's Shut, Great, Open. -/
namespace Go.Proofs.YtgnfcklippjeeaaGreat
open Go.RowKit
open Go.Maps (Keyed)
open Sl (Cls bs upd FOk LnkIs)
open Lg (pgs)

/-! Where so many pages are free. -/
/-- The first one of so many free pages of the manual region; -1: there are none. -/
def St.Place (V : St) (run : Nat) (x : Int) : Prop := Pg.Place (Pg.Fr V.R V.n 0 (V.m : Nat)) run x
theorem St.place_ex (V : St) (run : Nat) : ∃ x, V.Place run x := by
  classical
  by_cases h : ∃ k, Pg.Run (Pg.Fr V.R V.n 0 (V.m : Nat)) k run
  · have hb : ∃ k, Pg.Run (Pg.Fr V.R V.n 0 (V.m : Nat)) k run ∧ ∀ j, j < k → ¬ Pg.Run (Pg.Fr V.R V.n 0 (V.m : Nat)) j run := by
      obtain ⟨k, hk⟩ := h
      induction k using Nat.strongRecOn with
      | ind k ih =>
        by_cases h2 : ∃ j, j < k ∧ Pg.Run (Pg.Fr V.R V.n 0 (V.m : Nat)) j run
        · obtain ⟨j, h3, h4⟩ := h2
          exact ih j h3 h4
        · exact ⟨k, hk, fun j h3 h4 => h2 ⟨j, h3, h4⟩⟩
    obtain ⟨k, h1, h2⟩ := hb
    exact ⟨k, .inl ⟨k, rfl, h1, h2⟩⟩
  · exact ⟨-1, .inr ⟨rfl, fun k hk => h ⟨k, hk⟩⟩⟩
theorem St.place_nat {V : St} {run : Nat} {x : Int} (h : V.Place run x) : x = -1 ∨ ∃ p : Nat, x = p := by
  rcases h with ⟨k, e, _⟩ | ⟨e, _⟩
  · exact .inr ⟨k, e⟩
  · exact .inl e
theorem St.place_room {V : St} {run p : Nat} (h : V.Place run (p : Int)) (h1 : 1 ≤ run) (h2 : run ≤ 256) : V.Room p run := by
  rcases h with ⟨k, e, hr, _⟩ | ⟨e, _⟩
  · have : p = k := by omega
    subst this
    have hl := hr (p + run - 1) (by omega) (by omega)
    unfold Pg.Fr at hl
    exact ⟨by omega, h1, h2, fun i a b => (Pg.isZero_iff _).1 (hr i a b).2.2.2⟩
  · omega
theorem srow_may (c o : Nat) : Pg.may (srow c o) = true := rfl
theorem grow_may {r : Nat} (h1 : 1 ≤ r) (h2 : r ≤ 256) : Pg.may (grow r) = true := (Pg.may_iff _).2 ⟨rfl, by simp [grow]; omega, by simp [grow]; omega⟩
theorem RnW.map_none {w : World} {A : Rp} {V : St} {cnt run : Nat} {a b c : Int} (h : RnW w A V cnt) (hm : Pg.may ⟨a, b, c, (run : Nat)⟩ = true) (hp : V.Place run (-1)) :
    Calls Tryz.prog 84 #[.pointer (some ⟨A.pt, 0, none⟩), .int .i64 0, .int .i64 (V.m : Nat), .agg #[.int .i64 a, .int .i64 b, .int .i64 c, .int .i64 (run : Nat)]] w fun e w' => e = .returned (.tuple #[.int .i64 0, .int .i64 5]) ∧ w.grownBy w' none :=
  Pt.map_noplace h.tab 0 (V.m : Nat) ⟨a, b, c, (run : Nat)⟩ hm (by unfold St.Place at hp; simpa using hp)
theorem RnW.map_ok {w : World} {A : Rp} {V : St} {cnt run p : Nat} {a b c : Int} (h : RnW w A V cnt) (hm : Pg.may ⟨a, b, c, (run : Nat)⟩ = true) (hp : V.Place run (p : Int)) :
    Calls Tryz.prog 84 #[.pointer (some ⟨A.pt, 0, none⟩), .int .i64 0, .int .i64 (V.m : Nat), .agg #[.int .i64 a, .int .i64 b, .int .i64 c, .int .i64 (run : Nat)]] w fun e w' => e = .returned (.tuple #[.int .i64 p, .int .i64 0]) ∧ RnW w' A { V with R := Pg.lay V.R p ⟨a, b, c, (run : Nat)⟩ } cnt ∧ Fr (A.may V.L) w w' :=
  (Pt.map_place h.tab 0 (V.m : Nat) ⟨a, b, c, (run : Nat)⟩ hm p (by unfold St.Place at hp; simpa using hp)).mono fun _ _ ⟨he, _, ht, hg⟩ => ⟨he, h.table hg ht, fr_some hg (fun _ => .inr (.inl rfl))⟩

/-! Shut -/
set_option maxRecDepth 100000 in
set_option maxHeartbeats 1000000 in
theorem rshut_none {w : World} {A : Rp} {V : St} {cnt : Nat} (h : RnAt w A V cnt) (page : Int) (hw : WF page) (hl : ∀ g : Nat, page = g → V.L g = none) :
    Calls Tryz.prog 19 #[.pointer (some ⟨A.p, 0, none⟩), .int .i64 page] w fun e w' => e = .returned (.int .i64 6) ∧ w.grownBy w' none := by
  have HS := Lib.hid (slots_none h page hw hl)
  clear h hw hl
  go_enter Tryz.func19, Tryz.ntmps19
  go_wp2_with fail
  refine HS.out.mono ?_
  rintro e w1 ⟨rfl, m1⟩
  go_wp2
  go_ret
  exact ⟨rfl, m1⟩
theorem RnAt.count_slab {w : World} {A : Rp} {V : St} {cnt g : Nat} {d : Sd} (h : RnAt w A V cnt) (hl : V.L g = some d) (x : Int) :
    Calls Tryz.prog 70 #[.pointer (some ⟨(A.xs g).p, 0, none⟩), .int .i64 x] w fun e w' => e = .returned (.int .i64 (cntS d.S x d.n : Nat)) ∧ w = w' :=
  scount_at (h.sl g d hl) (h.ok.sl g d hl).2.2.st x
set_option maxRecDepth 100000 in
set_option maxHeartbeats 1000000 in
theorem rshut_busy {w : World} {A : Rp} {V : St} {cnt g : Nat} {d : Sd} (h : RnAt w A V cnt) (hl : V.L g = some d) (hb : 0 < cntS d.S 1 d.n ∨ 0 < cntS d.S 2 d.n) :
    Calls Tryz.prog 19 #[.pointer (some ⟨A.p, 0, none⟩), .int .i64 g] w fun e w' => e = .returned (.int .i64 8) ∧ w.grownBy w' none := by
  have HS := Lib.hid (slots_some h hl)
  have HC1 := Lib.hid (fun W (g1 : w.grownBy W none) => (h.grown g1).count_slab hl 1)
  have HC2 := Lib.hid (fun W (g1 : w.grownBy W none) => (h.grown g1).count_slab hl 2)
  clear h hl
  generalize cntS d.S 1 d.n = c1 at *
  generalize cntS d.S 2 d.n = c2 at *
  by_cases h1 : 0 < c1
  · have h1' : (0 : Int) < (c1 : Nat) := by omega
    clear hb h1
    go_enter Tryz.func19, Tryz.ntmps19
    go_wp2_with fail
    refine HS.out.mono ?_
    rintro e w1 ⟨rfl, m1⟩
    go_wp2_with fail
    refine (HC1.out _ m1).mono ?_
    rintro e w2 ⟨rfl, rfl⟩
    go_wp2
    go_ret
    exact ⟨rfl, m1⟩
  · have h2' : (0 : Int) < (c2 : Nat) := by omega
    obtain rfl : c1 = 0 := by omega
    clear hb h1
    go_enter Tryz.func19, Tryz.ntmps19
    go_wp2_with fail
    refine HS.out.mono ?_
    rintro e w1 ⟨rfl, m1⟩
    go_wp2_with fail
    refine (HC1.out _ m1).mono ?_
    rintro e w2 ⟨rfl, rfl⟩
    go_wp2_with fail
    refine (HC2.out _ m1).mono ?_
    rintro e w2 ⟨rfl, rfl⟩
    go_wp2
    go_ret
    exact ⟨rfl, m1⟩
theorem RnAt.del_run {w : World} {A : Rp} {V : St} {cnt g : Nat} (h : RnAt w A V cnt) (hg : g < 256) (ty : TypeId) :
    ∃ w', (Builtin.delete_ #[108, 3] ty #[.map (some A.pm), .int .i64 g]).run Tryz.prog w = .ok (.tuple #[]) w' ∧ RnW w' A { V with L := V.set g none } cnt ∧ w.grownBy w' (some A.pm) := by
  obtain ⟨D, hown, his⟩ := h.mp
  have hkey := Go.Maps.keyOf_int_mk (P := Tryz.prog) Tryz.underlying3 (a := (g : Int)) (WalkArith.wf_i64 ⟨by omega, by omega⟩)
  obtain ⟨w', hrun, ho, ht⟩ := hown.drop kint Tryz.underlying108 hkey ty
  exact ⟨w', hrun, h.toRnW.unset ht.grown ⟨_, ho, his.del g⟩, ht.grown⟩
theorem RnW.unmap_slab {w : World} {A : Rp} {V : St} {cnt g : Nat} {d : Sd} (ok : V.Ok) (hl : V.L g = some d) (h : RnW w A { V with L := V.set g none } cnt) :
    Calls Tryz.prog 67 #[.pointer (some ⟨A.pt, 0, none⟩), .int .i64 g] w fun e w' => e = .returned (.int .i64 0) ∧ RnW w' A (V.shut g) cnt ∧ w.grownBy w' (some A.qt) := by
  obtain ⟨hg, hr, _⟩ := ok.sl g d hl
  have hn : g < V.n := by have := ok.mn; omega
  have := Pt.unmap_first h.tab g hn (by show Pg.isHead (V.R g) = true; rw [hr]; rfl)
  rw [show (({ V with L := V.set g none } : St).R g).r.toNat = 1 by show (V.R g).r.toNat = 1; rw [hr]; rfl] at this
  exact this.mono fun _ _ ⟨he, ht, hgr⟩ => ⟨he, h.table hgr ht, hgr⟩
set_option maxRecDepth 100000 in
set_option maxHeartbeats 1000000 in
theorem rshut_ok {w : World} {A : Rp} {V : St} {cnt g : Nat} {d : Sd} (h : RnAt w A V cnt) (hl : V.L g = some d) (h1 : cntS d.S 1 d.n = 0) (h2 : cntS d.S 2 d.n = 0) :
    Calls Tryz.prog 19 #[.pointer (some ⟨A.p, 0, none⟩), .int .i64 g] w fun e w' => e = .returned (.int .i64 0) ∧ RnAt w' A (V.shut g) cnt ∧ Fr (A.may V.L) w w' := by
  have HS := Lib.hid (slots_some h hl)
  have HC1 := Lib.hid (fun W (g1 : w.grownBy W none) => (h.grown g1).count_slab hl 1)
  have HC2 := Lib.hid (fun W (g1 : w.grownBy W none) => (h.grown g1).count_slab hl 2)
  rw [h1] at HC1
  rw [h2] at HC2
  have hg256 : g < 256 := by have := (h.ok.sl g d hl).1; have := h.ok.mn; have := h.ok.n256; omega
  have HD := Lib.hid (fun W (g1 : w.grownBy W none) ty => (h.grown g1).del_run hg256 ty)
  have HU := Lib.hid (fun W (hW : RnW W A { V with L := V.set g none } cnt) => hW.unmap_slab h.ok hl)
  have HOK := Lib.hid (h.ok.shut hl)
  have HC6 := Lib.hid (fun W (g1 : w.grownBy W none) => (h.grown g1).c6)
  clear h hl h1 h2 hg256
  go_enter Tryz.func19, Tryz.ntmps19
  go_wp2_with fail
  refine HS.out.mono ?_
  rintro e w1 ⟨rfl, m1⟩
  go_wp2_with fail
  refine (HC1.out _ m1).mono ?_
  rintro e w2 ⟨rfl, rfl⟩
  go_wp2_with fail
  refine (HC2.out _ m1).mono ?_
  rintro e w2 ⟨rfl, rfl⟩
  have e6 := HC6.out _ m1
  obtain ⟨w2, hrun, hr2, hg2⟩ := HD.out _ m1 0
  have HR2 := Lib.hid hr2
  have e4 := hr2.c4
  have HF2 := Lib.hid ((fr_none (may := A.may V.L) m1).trans (fr_some hg2 (fun _ => .inr (.inr (.inl rfl)))))
  clear hr2 hg2 HS HC1 HC2 HC6 HD
  go_wp2_with fail
  refine (HU.out _ HR2.out).mono ?_
  rintro e w3 ⟨rfl, hr3, hg3⟩
  have HE := Lib.hid (And.intro (RnAt.mk hr3 HOK.out) (HF2.out.trans (fr_some (may := A.may V.L) hg3 (fun _ => .inr (.inl rfl)))))
  clear hr3 hg3 HU HR2 HF2 m1
  go_wp2
  go_ret
  exact ⟨rfl, HE.out⟩

/-! Great -/
set_option maxRecDepth 100000 in
set_option maxHeartbeats 1000000 in
theorem rgreat_arg {w : World} {A : Rp} (n : Int) (hn : n ≤ 120 ∨ 4096 < n) :
    Calls Tryz.prog 30 #[.pointer (some ⟨A.p, 0, none⟩), .int .i64 n] w fun e w' => e = .returned (.tuple #[.int .i64 0, .int .i64 1]) ∧ w = w' := by
  have HP := Lib.hid (pages_no n w hn)
  clear hn
  go_enter Tryz.func30, Tryz.ntmps30
  go_wp2_with fail
  refine HP.out.mono ?_
  rintro e w1 ⟨rfl, rfl⟩
  go_wp2
  go_ret2
  exact ⟨rfl, rfl⟩
set_option maxRecDepth 100000 in
set_option maxHeartbeats 2000000 in
theorem rgreat_full {w : World} {A : Rp} {V : St} {cnt : Nat} (h : RnAt w A V cnt) {n : Nat} (h1 : 120 < n) (h2 : n ≤ 4096) (hp : V.Place (pgs n) (-1)) :
    Calls Tryz.prog 30 #[.pointer (some ⟨A.p, 0, none⟩), .int .i64 n] w fun e w' => e = .returned (.tuple #[.int .i64 0, .int .i64 5]) ∧ w.grownBy w' none := by
  have HP := Lib.hid (cpages_at n w h1 h2)
  have HG := Lib.hid (fun W => greatRow_at (pgs n : Nat) W)
  have HM := Lib.hid (fun W (g1 : w.grownBy W none) => (h.grown g1).toRnW.map_none (grow_may (Lg.pgs_pos n) (by have := Lg.pgs_bd h2; omega)) hp)
  have HC := Lib.hid (fun W (g1 : w.grownBy W none) => And.intro (h.grown g1).c4 (h.grown g1).c0)
  obtain ⟨e4, e0⟩ := HC.out _ (grown_refl w none)
  have hg1 := grown_drew1 (grown_refl w none)
  clear h hp h1 h2
  generalize ((pgs n : Nat) : Int) = r at *
  go_enter Tryz.func30, Tryz.ntmps30
  go_wp2_with fail
  refine HP.out.mono ?_
  rintro e w1 ⟨rfl, rfl⟩
  go_upto_region 6 with (fail)
  go_cut [8, 9] (fun a b W => a = .int .i64 0 ∧ b = .int .i64 5 ∧ w.grownBy W none)
  case first =>
    go_region_held3 (fun w' => w'.cell? ⟨A.p, 4, none⟩ = some (.pointer (some ⟨A.pt, 0, none⟩)) ∧ w'.cell? ⟨A.p, 0, none⟩ = some (.int .i64 (V.m : Nat)))
      (first | exact ⟨e4, e0⟩ | exact HC.out _ (by assumption))
      (first
      | (go_at_call 89; refine (HG.out _).mono ?_; rintro e w3 ⟨rfl, m⟩; have hg2 := grown_trans (by assumption : w.grownBy _ none) m; clear m)
      | (go_at_call 84; refine (HM.out _ (by assumption)).mono ?_; rintro e w3 ⟨rfl, m⟩; have hg3 := grown_trans (by assumption : w.grownBy _ none) m; clear m))
    all_goals
      go_wp2
      go_meet
      exact ⟨rfl, rfl, by assumption⟩
  case rest =>
    obtain ⟨rfl, rfl, hg⟩ := hcut
    have HE := Lib.hid hg
    clear hg hg1 HC HG HM e4 e0 HP
    go_wp2
    go_ret2
    exact ⟨rfl, HE.out⟩
theorem make_large {w : World} {A : Rp} {V : St} {cnt p n : Nat} {R' : Nat → Pg.Row} (ok : V.Ok) (h : RnW w A { V with R := R' } cnt) (h1 : 120 < n) (h2 : n ≤ 4096) (hp : V.Room p (pgs n)) (hcnt : cnt ≤ 100000) :
    Calls Tryz.prog 90 #[.pointer (some ⟨A.pg, 0, none⟩), .int .i64 p, .int .i64 n] w fun e w' => e = .returned (.int .i64 0) ∧ RnW w' A { V with B := Lg.makeB V.key p n V.B, R := R', Z := upd V.Z p n } (cnt + 1) ∧ Fr (A.may V.L) w w' := by
  obtain ⟨E, hE⟩ := h.lg
  have hin := hp.in_
  have hmn := ok.mn
  refine (lmake_ok hE p n h1 h2 ?_ ?_ hcnt).mono ?_
  · show (p + pgs n) * 256 ≤ V.n * 256
    exact Nat.mul_le_mul_right _ (by omega)
  · rintro k ⟨hk1, hk2, hk3⟩
    have hk1' : V.Z k ≠ 0 := hk1
    have hk3' : p < k + pgs (V.Z k) := hk3
    by_cases e : k ≤ p
    · exact (ok.room_l hp (Nat.le_refl p) (by have := hp.run1; omega)).2.2 k ⟨hk1', e, hk3'⟩
    · exact hk1' (ok.room_l hp (by omega) hk2).2.1
  · rintro e w' ⟨he, hl, hf⟩
    exact ⟨he, h.large (Nat.le_succ _) hf hl, hf.wide (fun i hi => lp_may (V := { V with R := R' }) hi)⟩
set_option maxRecDepth 100000 in
set_option maxHeartbeats 2000000 in
theorem rgreat_ok {w : World} {A : Rp} {V : St} {cnt p : Nat} (h : RnAt w A V cnt) {n : Nat} (h1 : 120 < n) (h2 : n ≤ 4096) (hp : V.Place (pgs n) (p : Int)) (hcnt : cnt ≤ 100000) :
    Calls Tryz.prog 30 #[.pointer (some ⟨A.p, 0, none⟩), .int .i64 n] w fun e w' => e = .returned (.tuple #[.int .i64 ((p * 256 : Nat) : Int), .int .i64 0]) ∧ RnAt w' A (V.great p n) (cnt + 1) ∧ Fr (A.may V.L) w w' := by
  have hroom := St.place_room hp (Lg.pgs_pos n) (by have := Lg.pgs_bd h2; omega)
  have HP := Lib.hid (cpages_at n w h1 h2)
  have HG := Lib.hid (fun W => greatRow_at (pgs n : Nat) W)
  have HM := Lib.hid (fun W (g1 : w.grownBy W none) => (h.grown g1).toRnW.map_ok (grow_may (Lg.pgs_pos n) (by have := Lg.pgs_bd h2; omega)) hp)
  have HC := Lib.hid (fun W (g1 : w.grownBy W none) => And.intro (h.grown g1).c4 (h.grown g1).c0)
  have HL := Lib.hid (fun W (hW : RnW W A { V with R := Pg.lay V.R p (grow (pgs n)) } cnt) => make_large h.ok hW h1 h2 hroom hcnt)
  have HOK := Lib.hid (h.ok.great h1 h2 hroom)
  have hb : (p : Int) * 256 = ((p * 256 : Nat) : Int) := by omega
  have hp256 : (p : Int) ≤ 256 := by have := hroom.in_; have := h.ok.mn; have := h.ok.n256; omega
  obtain ⟨e4, e0⟩ := HC.out _ (grown_refl w none)
  have hg1 := grown_drew1 (grown_refl w none)
  have HGR : Hid (Pg.lay V.R p ⟨2, 0, 0, (pgs n : Nat)⟩ = Pg.lay V.R p (grow (pgs n))) := Lib.hid rfl
  rw [HGR.out] at HM
  clear h hp h1 h2 hcnt hroom HGR
  generalize ((p * 256 : Nat) : Int) = b at *
  generalize ((pgs n : Nat) : Int) = r at *
  go_enter Tryz.func30, Tryz.ntmps30
  go_wp2_with fail
  refine HP.out.mono ?_
  rintro e w1 ⟨rfl, rfl⟩
  go_upto_region 6 with (fail)
  go_cut [8, 9] (fun a b W => a = .int .i64 p ∧ b = .int .i64 0 ∧ RnW W A { V with R := Pg.lay V.R p (grow (pgs n)) } cnt ∧ Fr (A.may V.L) w W)
  case first =>
    go_region_held3 (fun w' => w'.cell? ⟨A.p, 4, none⟩ = some (.pointer (some ⟨A.pt, 0, none⟩)) ∧ w'.cell? ⟨A.p, 0, none⟩ = some (.int .i64 (V.m : Nat)))
      (first | exact ⟨e4, e0⟩ | exact HC.out _ (by assumption) | exact HS3.out)
      (first
      | (go_at_call 89; refine (HG.out _).mono ?_; rintro e w3 ⟨rfl, m⟩; have hg2 := grown_trans (by assumption : w.grownBy _ none) m; clear m)
      | (go_at_call 84; refine (HM.out _ (by assumption)).mono ?_; rintro e w3 ⟨rfl, k3, k4⟩; have HS3 := Lib.hid (And.intro k3.c4 k3.c0); have K := Lib.hid (And.intro k3 ((fr_none (may := A.may V.L) (by assumption : w.grownBy _ none)).trans k4)); clear k3 k4))
    all_goals
      go_wp2
      go_meet
      exact ⟨rfl, rfl, K.out⟩
  case rest =>
    obtain ⟨rfl, rfl, hw3, hf3⟩ := hcut
    obtain ⟨w3, rfl⟩ : ∃ w3 : World, w3 = wc := ⟨_, rfl⟩
    have HW := Lib.hid hw3
    have HF := Lib.hid hf3
    have e7 := hw3.c7
    have HLL := Lib.hid (HL.out _ HW.out)
    clear hw3 hf3 hg1 HC HG HM e4 e0 HP HL
    go_wp2_with fail
    refine HLL.out.mono ?_
    rintro e w4 ⟨rfl, hr4, hf4⟩
    have HE := Lib.hid (And.intro (RnAt.mk hr4 HOK.out) (HF.out.trans hf4))
    clear hr4 hf4 HLL e7 HF HW
    go_wp2
    go_ret2
    exact ⟨rfl, HE.out⟩

/-! Open -/
set_option maxRecDepth 100000 in
set_option maxHeartbeats 1000000 in
theorem ropen_arg (p : Nat) (w : World) (c o : Int) (hb : No c ∨ o < 0 ∨ 64 ≤ o) :
    Calls Tryz.prog 28 #[.pointer (some ⟨p, 0, none⟩), .int .i64 c, .int .i64 o] w fun e w' => e = .returned (.tuple #[.int .i64 0, .int .i64 1]) ∧ w = w' := by
  rcases cls c with ⟨s, n, r, hc⟩ | hc
  · have ho : o < 0 ∨ 64 ≤ o := hb.resolve_left (fun x => by unfold No at x; unfold Cl at hc; omega)
    obtain ⟨c', s', n', r', e, hc'⟩ : ∃ c' s' n' r' : Nat, c = c' ∧ Cls c' s' n' r' := by
      unfold Cl at hc
      obtain ⟨s', n', r', h⟩ := Sl.cls_of c.toNat (by omega)
      exact ⟨c.toNat, s', n', r', by omega, h⟩
    subst e
    have HI := Lib.hid (isClass_yes hc' w)
    clear hb hc hc'
    by_cases h0 : o < 0
    · have h0' : decide (o < 0) = true := by simpa using h0
      clear h0 ho
      go_enter Tryz.func28, Tryz.ntmps28
      go_wp2_with fail
      refine HI.out.mono ?_
      rintro e w1 ⟨rfl, rfl⟩
      go_wp2
      go_ret2
      exact ⟨rfl, rfl⟩
    · have h0' : decide (o < 0) = false := by simpa using h0
      have h1' : decide (64 ≤ o) = true := by simp; omega
      clear h0 ho
      go_enter Tryz.func28, Tryz.ntmps28
      go_wp2_with fail
      refine HI.out.mono ?_
      rintro e w1 ⟨rfl, rfl⟩
      go_wp2
      go_ret2
      exact ⟨rfl, rfl⟩
  · have HI := Lib.hid (isClass_no c hc w)
    clear hb hc
    go_enter Tryz.func28, Tryz.ntmps28
    go_wp2_with fail
    refine HI.out.mono ?_
    rintro e w1 ⟨rfl, rfl⟩
    go_wp2
    go_ret2
    exact ⟨rfl, rfl⟩
end Go.Proofs.YtgnfcklippjeeaaGreat

/- The walks of a region's Open, where there is a free page. -/
namespace Go.Proofs.YtgnfcklippjeeaaGreat
open Go.RowKit
open Go.Maps (Keyed)
open Sl (Cls bs upd FOk LnkIs)
open Lg (pgs)

set_option maxRecDepth 100000 in
set_option maxHeartbeats 2000000 in
theorem ropen_full {w : World} {A : Rp} {V : St} {cnt c s n r o : Nat} (h : RnAt w A V cnt) (hc : Cls c s n r) (ho : o < 64) (hp : V.Place 1 (-1)) :
    Calls Tryz.prog 28 #[.pointer (some ⟨A.p, 0, none⟩), .int .i64 (c : Nat), .int .i64 (o : Nat)] w fun e w' => e = .returned (.tuple #[.int .i64 0, .int .i64 5]) ∧ w.grownBy w' none := by
  have HI := Lib.hid (isClass_yes hc w)
  have HG := Lib.hid (fun W => slotsRow_at (c : Nat) (o : Nat) W)
  have HM := Lib.hid (fun W (g1 : w.grownBy W none) => (h.grown g1).toRnW.map_none (run := 1) (a := 1) (b := (c : Nat)) (c := (o : Nat)) (srow_may c o) hp)
  have HC := Lib.hid (fun W (g1 : w.grownBy W none) => And.intro (h.grown g1).c4 (h.grown g1).c0)
  have h0 : decide ((o : Int) < 0) = false := by simp
  have h1 : decide (64 ≤ (o : Int)) = false := by simp; omega
  obtain ⟨e4, e0⟩ := HC.out _ (grown_refl w none)
  have hg1 := grown_drew1 (grown_refl w none)
  clear h hp hc ho
  generalize ((o : Nat) : Int) = ov at *
  generalize ((c : Nat) : Int) = cv at *
  go_enter Tryz.func28, Tryz.ntmps28
  go_wp2_with fail
  refine HI.out.mono ?_
  rintro e w1 ⟨rfl, rfl⟩
  go_upto_region 5 with (fail)
  go_cut [8, 9] (fun a b W => a = .int .i64 0 ∧ b = .int .i64 5 ∧ w.grownBy W none)
  case first =>
    go_region_held3 (fun w' => w'.cell? ⟨A.p, 4, none⟩ = some (.pointer (some ⟨A.pt, 0, none⟩)) ∧ w'.cell? ⟨A.p, 0, none⟩ = some (.int .i64 (V.m : Nat)))
      (first | exact ⟨e4, e0⟩ | exact HC.out _ (by assumption))
      (first
      | (go_at_call 85; refine (HG.out _).mono ?_; rintro e w3 ⟨rfl, m⟩; have hg2 := grown_trans (by assumption : w.grownBy _ none) m; clear m)
      | (go_at_call 84; refine (HM.out _ (by assumption)).mono ?_; rintro e w3 ⟨rfl, m⟩; have hg3 := grown_trans (by assumption : w.grownBy _ none) m; clear m))
    all_goals
      go_wp2
      go_meet
      exact ⟨rfl, rfl, by assumption⟩
  case rest =>
    obtain ⟨rfl, rfl, hg⟩ := hcut
    have HE := Lib.hid hg
    clear hg hg1 HC HG HM e4 e0 HI
    go_wp2
    go_ret2
    exact ⟨rfl, HE.out⟩

/-- A slab is made over a page that was mapped. -/
theorem RnW.make_slab {w : World} {A : Rp} {V : St} {cnt p c s n r o : Nat} {R' : Nat → Pg.Row} (ok : V.Ok) (h : RnW w A { V with R := R' } cnt) (hc : Cls c s n r) (hp : p < V.n) :
    Calls Tryz.prog 86 #[.pointer (some ⟨A.pa, 0, none⟩), .agg #[.int .u64 (V.key : Nat)], .int .i64 p, .int .i64 (c : Nat), .int .i64 (o : Nat)] w fun e w' =>
      ∃ X : Pl, e = .returned (.tuple #[.pointer (some ⟨X.p, 0, none⟩), .int .i64 0]) ∧ X.pa = A.pa ∧ X.qa = A.qa ∧ SlAt w' X (nmOf A V p ⟨c, s, n, r, o, fun _ => 0, 0⟩) (fun _ => 0) 0 (Sl.layF V.key p s n (fun _ => true) V.B) ∧ Fresh w.heap.size X ∧
        RnW w' A { V with B := Sl.layF V.key p s n (fun _ => true) V.B, R := R' } cnt ∧ Fr (fun i => i = A.qa) w w' := by
  have hn := ok.n256
  have := smk_ok (Y := nmOf A V p ⟨c, s, n, r, o, fun _ => 0, 0⟩) h.ar ⟨hc, by show p * 256 + 256 ≤ V.n * 256; omega, by show V.n * 256 ≤ 65536; omega, ok.key⟩
  refine this.mono ?_
  rintro e w' ⟨X, he, h1, h2, hs, x1, x2, x3, x4, x5, hf⟩
  refine ⟨X, he, h1, h2, hs, ⟨x1, x4, x5, x2, x3⟩, ?_, hf⟩
  have har := hs.ar
  rw [h1, h2] at har
  exact h.bytes hf har
/-- .. and laid into the map. -/
theorem RnW.store_new {w : World} {A : Rp} {V : St} {cnt g s : Nat} {X : Pl} {d : Sd} (h : RnW w A V cnt) (ho : Old A V.L s) (hX : Fresh s X) (hl : V.L g = none) (hs : SlAt w X (nmOf A V g d) d.S d.f V.B) (hpa : X.pa = A.pa) (hqa : X.qa = A.qa) (hg : g < 256) (hcnt : cnt ≤ 100000) :
    ∃ w', (Instr.mapUpdate 108 (.map (some A.pm)) (.int .i64 g) (.pointer (some ⟨X.p, 0, none⟩))).run Tryz.prog w = .ok () w' ∧ RnW w' (A.with g X) { V with L := V.set g (some d) } (cnt + 1) ∧ w.grownBy w' (some A.pm) := by
  obtain ⟨D, hown, his⟩ := h.mp
  have hkey := Go.Maps.keyOf_int_mk (P := Tryz.prog) Tryz.underlying3 (a := (g : Int)) (WalkArith.wf_i64 ⟨by omega, by omega⟩)
  obtain ⟨w', hrun, ho2, hgr⟩ := hown.update kint Tryz.underlying108 (val := .pointer (some ⟨X.p, 0, none⟩)) (d := .lit (.int .i64 ((X.p + 1 : Nat) : Int))) (ps := []) (by simp only [maxLen]; omega) hkey rfl
  exact ⟨w', hrun, h.new ho hX hl hs hpa hqa hgr ⟨_, ho2, his.put hown.isMap (by omega) (by omega)⟩, hgr⟩
/-- Behind an Open. -/
def OpenRes (w w' : World) (A : Rp) (V : St) (cnt p c s n r o : Nat) : Prop := ∃ X : Pl, RnAt w' (A.with p X) (V.open_ p c s n r o) (cnt + 1) ∧ Fr (A.may V.L) w w' ∧ Fresh w.heap.size X
theorem with_may {A : Rp} {V : St} {p s i : Nat} {X : Pl} {d : Sd} (hX : Fresh s X) (h : (A.with p X).may (V.set p (some d)) i) : A.may V.L i ∨ s ≤ i := by
  rcases h with rfl | rfl | rfl | rfl | ⟨k, e, hk, hi⟩
  · exact .inl (.inl rfl)
  · exact .inl (.inr (.inl rfl))
  · exact .inl (.inr (.inr (.inl rfl)))
  · exact .inl (.inr (.inr (.inr (.inl rfl))))
  · by_cases x : k = p
    · subst x
      rw [with_xs] at hi
      have := hX.p; have := hX.ql; have := hX.qh
      rcases hi with rfl | rfl | rfl <;> exact .inr (by omega)
    · rw [St.set_other x] at hk
      rw [with_xo A X x] at hi
      exact .inl (.inr (.inr (.inr (.inr ⟨k, e, hk, hi⟩))))
set_option maxRecDepth 100000 in
set_option maxHeartbeats 4000000 in
theorem ropen_ok {w : World} {A : Rp} {V : St} {cnt p c s n r o : Nat} (h : RnAt w A V cnt) (hc : Cls c s n r) (ho : o < 64) (hp : V.Place 1 (p : Int)) (hcnt : cnt ≤ 100000) :
    Calls Tryz.prog 28 #[.pointer (some ⟨A.p, 0, none⟩), .int .i64 (c : Nat), .int .i64 (o : Nat)] w fun e w' => e = .returned (.tuple #[.int .i64 p, .int .i64 0]) ∧ OpenRes w w' A V cnt p c s n r o := by
  have hroom := St.place_room hp (by omega) (by omega)
  have hpn : p < V.n := by have := hroom.in_; have := h.ok.mn; omega
  have hp256 : p < 256 := by have := h.ok.n256; omega
  have hln := (h.ok.room_l hroom (Nat.le_refl p) (by omega)).1
  have HI := Lib.hid (isClass_yes hc w)
  have HG := Lib.hid (fun W => slotsRow_at (c : Nat) (o : Nat) W)
  have HM : Hid (∀ W, w.grownBy W none → Calls Tryz.prog 84 #[.pointer (some ⟨A.pt, 0, none⟩), .int .i64 0, .int .i64 (V.m : Nat), .agg #[.int .i64 1, .int .i64 (c : Nat), .int .i64 (o : Nat), .int .i64 1]] W fun e w' => e = .returned (.tuple #[.int .i64 p, .int .i64 0]) ∧ RnW w' A { V with R := Pg.lay V.R p (srow c o) } cnt ∧ Fr (A.may V.L) W w') :=
    Lib.hid (fun W (g1 : w.grownBy W none) => (h.grown g1).toRnW.map_ok (run := 1) (a := 1) (b := (c : Nat)) (c := (o : Nat)) (srow_may c o) hp)
  have HC := Lib.hid (fun W (g1 : w.grownBy W none) => And.intro (h.grown g1).c4 (h.grown g1).c0)
  have HS := Lib.hid (fun W (hW : RnW W A { V with R := Pg.lay V.R p (srow c o) } cnt) => hW.make_slab (o := o) h.ok hc hpn)
  have HOK := Lib.hid (h.ok.open_ hroom hc ho)
  have HLN := Lib.hid hln
  have HCN := Lib.hid hcnt
  have HP256 := Lib.hid hp256
  have HLAB := Lib.hid h.lab
  have h0 : decide ((o : Int) < 0) = false := by simp
  have h1 : decide (64 ≤ (o : Int)) = false := by simp; omega
  obtain ⟨e4, e0⟩ := HC.out _ (grown_refl w none)
  have hg1 := grown_drew1 (grown_refl w none)
  clear h hp hc ho hroom hpn hp256 hln hcnt
  generalize ((o : Nat) : Int) = ov at *
  generalize ((c : Nat) : Int) = cv at *
  go_enter Tryz.func28, Tryz.ntmps28
  go_wp2_with fail
  refine HI.out.mono ?_
  rintro e w1 ⟨rfl, rfl⟩
  go_upto_region 5 with (fail)
  go_cut [8, 9] (fun a b W => a = .int .i64 p ∧ b = .int .i64 0 ∧ RnW W A { V with R := Pg.lay V.R p (srow c o) } cnt ∧ Fr (A.may V.L) w W)
  case first =>
    go_region_held3 (fun w' => w'.cell? ⟨A.p, 4, none⟩ = some (.pointer (some ⟨A.pt, 0, none⟩)) ∧ w'.cell? ⟨A.p, 0, none⟩ = some (.int .i64 (V.m : Nat)))
      (first | exact ⟨e4, e0⟩ | exact HC.out _ (by assumption) | exact HS3.out)
      (first
      | (go_at_call 85; refine (HG.out _).mono ?_; rintro e w3 ⟨rfl, m⟩; have hg2 := grown_trans (by assumption : w.grownBy _ none) m; clear m)
      | (go_at_call 84; refine (HM.out _ (by assumption)).mono ?_; rintro e w3 ⟨rfl, k3, k4⟩; have HS3 := Lib.hid (And.intro k3.c4 k3.c0); have K := Lib.hid (And.intro k3 ((fr_none (may := A.may V.L) (by assumption : w.grownBy _ none)).trans k4)); clear k3 k4))
    all_goals
      go_wp2
      go_meet
      exact ⟨rfl, rfl, K.out⟩
  case rest =>
    obtain ⟨rfl, rfl, hw3, hf3⟩ := hcut
    obtain ⟨w3, rfl⟩ : ∃ w3 : World, w3 = wc := ⟨_, rfl⟩
    have HW := Lib.hid hw3
    have HF := Lib.hid hf3
    have HC3 := Lib.hid (fun W (hW : RnW W A { V with R := Pg.lay V.R p (srow c o) } cnt) => And.intro hW.c3 (And.intro hW.c5 hW.c6))
    obtain ⟨e3, e5, e6⟩ := HC3.out _ hw3
    have HSS := Lib.hid (fun W (g1 : w3.grownBy W none) => HS.out _ (HW.out.grown g1))
    have HST : Hid (∀ W W' X, w3.grownBy W none → Fresh W.heap.size X → X.pa = A.pa → X.qa = A.qa → SlAt W' X (nmOf A V p ⟨c, s, n, r, o, fun _ => 0, 0⟩) (fun _ => 0) 0 (Sl.layF V.key p s n (fun _ => true) V.B) → RnW W' A { V with B := Sl.layF V.key p s n (fun _ => true) V.B, R := Pg.lay V.R p (srow c o) } cnt →
        ∃ w', (Instr.mapUpdate 108 (.map (some A.pm)) (.int .i64 p) (.pointer (some ⟨X.p, 0, none⟩))).run Tryz.prog W' = .ok () w' ∧ RnW w' (A.with p X) { V with B := Sl.layF V.key p s n (fun _ => true) V.B, R := Pg.lay V.R p (srow c o), L := V.set p (some ⟨c, s, n, r, o, fun _ => 0, 0⟩) } (cnt + 1) ∧ W'.grownBy w' (some A.pm)) := Lib.hid (fun W W' X g1 hX e1 e2 hs hr => by
      have hold : Old A V.L W.heap.size := (HW.out.grown g1).old
      exact hr.store_new (s := W.heap.size) (d := ⟨c, s, n, r, o, fun _ => 0, 0⟩) hold hX HLN.out hs e1 e2 HP256.out HCN.out)
    have HOUT : Hid (∀ W W' w' X, w3.grownBy W none → Fresh W.heap.size X → Fr (fun i => i = A.qa) W W' → RnW w' (A.with p X) { V with B := Sl.layF V.key p s n (fun _ => true) V.B, R := Pg.lay V.R p (srow c o), L := V.set p (some ⟨c, s, n, r, o, fun _ => 0, 0⟩) } (cnt + 1) → W'.grownBy w' (some A.pm) → OpenRes w w' A V cnt p c s n r o) := Lib.hid (fun W W' w' X g1 hX hf hr hg => by
      refine ⟨X, ⟨hr, HOK.out⟩, ((HF.out.trans (fr_none g1)).trans (hf.wide (fun i hi => .inl hi))).trans (fr_some hg (fun _ => .inr (.inr (.inl rfl)))), ?_⟩
      have a1 := HF.out.size
      have a2 := g1.size
      exact ⟨by have := hX.p; omega, by have := hX.ql; omega, by have := hX.qh; omega, by have := hX.pl; omega, by have := hX.ph; omega⟩)
    clear hw3 hf3 hg1 HC HG HM e4 e0 HI HS HOK HLN HCN HP256 HF
    have hg1 := grown_drew1 (grown_refl w3 none)
    go_upto_region 8 with (fail)
    go_region_held3 (fun w' => w'.cell? ⟨A.p, 3, none⟩ = some (.pointer (some ⟨A.pa, 0, none⟩)) ∧ w'.cell? ⟨A.p, 5, none⟩ = some (.int .u64 (V.key : Nat)) ∧ w'.cell? ⟨A.p, 6, none⟩ = some (.map (some A.pm)))
      (first | exact ⟨e3, e5, e6⟩ | exact HC3.out _ (HW.out.grown (by assumption)) | exact HS4.out | exact HS5.out)
      (first
      | (go_at_call 86; refine (HSS.out _ (by assumption)).mono ?_; rintro e w4 ⟨X, rfl, k1, k2, k3, k4, k5, k6⟩; obtain ⟨w5, hrun, hr5, hg5⟩ := HST.out _ _ X (by assumption) k4 k1 k2 k3 k5; have HS4 := Lib.hid (And.intro k5.c3 (And.intro k5.c5 k5.c6)); have HS5 := Lib.hid (And.intro hr5.c3 (And.intro hr5.c5 hr5.c6)); have K := Lib.hid (HOUT.out _ _ _ X (by assumption) k4 k6 hr5 hg5); clear k1 k2 k3 k4 k5 k6 hr5 hg5))
    all_goals
      go_wp2
      go_ret2
      exact ⟨rfl, K.out⟩
end Go.Proofs.YtgnfcklippjeeaaGreat
