/- Plain facts on a region: pages of slots, great blocks, rows of pages, and what each call leaves of them. -/
import Derived.Test.YtgnfcklippjeeaaGreatK4
import Derived.Test.YtgnfcklippjeeaaGreatK5
import Derived.Test.YtgnfcklippjeeaaGreatK6
namespace Go.Proofs.YtgnfcklippjeeaaGreat
open Sl (Cls bs upd FOk)
open Lg (pgs)

/-- A page of slots: its class, a slot's bytes, slots, a block's bytes, its owner, states, the first free slot. -/
structure Sd where
  c : Nat
  s : Nat
  n : Nat
  r : Nat
  o : Nat
  S : Nat → Nat
  f : Int
structure Sd.Ok (d : Sd) : Prop where
  c : Cls d.c d.s d.n d.r
  o : d.o < 64
  st : ∀ k, d.S k ≤ 2
  f : FOk d.n d.S d.f
/-- A region's state: manual pages, all pages, key, bytes, rows, pages of slots, great blocks' bytes by their first pages. -/
structure St where
  m : Nat
  n : Nat
  key : Nat
  B : Nat → Nat
  R : Nat → Pg.Row
  L : Nat → Option Sd
  Z : Nat → Nat
def St.set (V : St) (g : Nat) (x : Option Sd) : Nat → Option Sd := fun j => if j = g then x else V.L j
theorem St.set_same (V : St) (g : Nat) (x : Option Sd) : V.set g x g = x := by simp [St.set]
theorem St.set_other {V : St} {g : Nat} {x : Option Sd} {j : Nat} (h : j ≠ g) : V.set g x j = V.L j := by simp [St.set, h]
def srow (c o : Nat) : Pg.Row := ⟨1, c, o, 1⟩
def grow (run : Nat) : Pg.Row := ⟨2, 0, 0, run⟩
structure St.Ok (V : St) : Prop where
  n1 : 1 ≤ V.n
  n256 : V.n ≤ 256
  mn : V.m ≤ V.n
  key : V.key < 18446744073709551616
  lt : ∀ i, V.B i < 256
  rows : Pg.Ok V.R V.n
  sl : ∀ k d, V.L k = some d → k < V.m ∧ V.R k = srow d.c d.o ∧ d.Ok
  gr : ∀ k, V.Z k ≠ 0 → 120 < V.Z k ∧ V.Z k ≤ 4096 ∧ k + pgs (V.Z k) ≤ V.m ∧ V.R k = grow (pgs (V.Z k))
  k1 : ∀ k, k < V.n → (V.R k).k = 1 → V.L k ≠ none
  k2 : ∀ k, k < V.n → (V.R k).k = 2 → V.Z k ≠ 0
  k4 : ∀ k, k < V.n → (V.R k).k = 4 → V.m ≤ k
/-- A great block has this page. -/
def St.Gr (V : St) (g h : Nat) : Prop := V.Z h ≠ 0 ∧ h ≤ g ∧ g < h + pgs (V.Z h)

theorem pgs_lt {n : Nat} (h : n ≤ 4096) : pgs n ≤ 17 := Lg.pgs_bd h
theorem St.Ok.gr_tail {V : St} (h : V.Ok) {h0 j : Nat} (hz : V.Z h0 ≠ 0) (h1 : h0 < j) (h2 : j < h0 + pgs (V.Z h0)) : V.R j = Pg.tail := by
  obtain ⟨a, b, c, d⟩ := h.gr h0 hz
  have hm := h.mn
  have hp := Lg.pgs_pos (V.Z h0)
  refine (h.rows.headr (i := h0) (by omega) (by rw [d]; rfl)).2.2.2 j h1 ?_
  rw [d]
  show (j : Int) < h0 + ((pgs (V.Z h0) : Nat) : Int)
  omega
theorem St.Ok.gr_uniq {V : St} (h : V.Ok) {g a b : Nat} (ha : V.Gr g a) (hb : V.Gr g b) : a = b := by
  rcases Nat.lt_trichotomy a b with e | e | e
  · have := h.gr_tail ha.1 e (by have := ha.2.2; have := hb.2.1; omega)
    have h2 := (h.gr b hb.1).2.2.2
    rw [this] at h2; cases h2
  · exact e
  · have := h.gr_tail hb.1 e (by have := hb.2.2; have := ha.2.1; omega)
    have h2 := (h.gr a ha.1).2.2.2
    rw [this] at h2; cases h2
theorem St.Ok.sl_gr {V : St} (h : V.Ok) {g a : Nat} (ha : V.Gr g a) : V.L g = none := by
  cases hl : V.L g with
  | none => rfl
  | some d =>
    obtain ⟨_, hr, _⟩ := h.sl g d hl
    by_cases e : a = g
    · subst e
      rw [(h.gr a ha.1).2.2.2] at hr; cases hr
    · rw [h.gr_tail ha.1 (by have := ha.2.1; omega) ha.2.2] at hr; cases hr
theorem St.Ok.gr_bd {V : St} (h : V.Ok) {a : Nat} (hz : V.Z a ≠ 0) : 120 < V.Z a ∧ V.Z a ≤ 4096 ∧ a < V.m ∧ (a + pgs (V.Z a)) * 256 ≤ V.n * 256 := by
  obtain ⟨h1, h2, h3, _⟩ := h.gr a hz
  have := Lg.pgs_pos (V.Z a)
  have := h.mn
  exact ⟨h1, h2, by omega, Nat.mul_le_mul_right _ (by omega)⟩
theorem St.Ok.lg {V : St} (h : V.Ok) : Lg.Inv V.Z (V.n * 256) where
  gr := fun k hk => ⟨(h.gr_bd hk).1, (h.gr_bd hk).2.1⟩
  fit := fun k hk => (h.gr_bd hk).2.2.2
  ap := fun j k hj hk hjk => by
    have hpj := Lg.pgs_pos (V.Z j)
    have hpk := Lg.pgs_pos (V.Z k)
    by_cases e : j + pgs (V.Z j) ≤ k
    · exact .inl e
    · by_cases e2 : k + pgs (V.Z k) ≤ j
      · exact .inr e2
      · rcases Nat.lt_or_ge j k with h1 | h1
        · exact absurd (h.gr_uniq (g := k) ⟨hj, by omega, by omega⟩ ⟨hk, Nat.le_refl _, by omega⟩) hjk
        · exact absurd (h.gr_uniq (g := j) ⟨hj, Nat.le_refl _, by omega⟩ ⟨hk, by omega, by omega⟩) hjk
/-- A page that is neither of slots nor a great block's is free, or a managed one's. -/
theorem St.Ok.other {V : St} (h : V.Ok) {g : Nat} (hg : g < V.n) (hl : V.L g = none) (hn : ∀ a, ¬ V.Gr g a) : V.R g = Pg.zero ∨ ∃ k, k ≤ g ∧ (V.R k).k = 4 ∧ (g : Int) < k + (V.R k).r := by
  have key : ∀ k, k ≤ g → Pg.isHead (V.R k) = true → (g : Int) < k + (V.R k).r → (V.R k).k = 4 := by
    intro k hk hh hr
    rcases (Pg.isHead_iff _).1 hh with e | e | e
    · obtain ⟨d, hd⟩ := Option.ne_none_iff_exists'.1 (h.k1 k (by omega) e)
      have h2 := (h.sl k d hd).2.1
      rw [h2] at hr
      have : k = g := by simp [srow] at hr; omega
      subst this
      rw [hl] at hd; cases hd
    · have hz := h.k2 k (by omega) e
      have h2 := (h.gr k hz).2.2.2
      rw [h2] at hr
      exact absurd ⟨hz, hk, by simp [grow] at hr; omega⟩ (hn k)
    · exact e
  rcases h.rows g hg with e | ⟨hh, h1, _⟩ | ⟨_, k, hk, hh, hr⟩
  · exact .inl e
  · exact .inr ⟨g, Nat.le_refl _, key g (Nat.le_refl _) hh (by omega), by omega⟩
  · exact .inr ⟨k, by omega, key k (by omega) hh hr, hr⟩

/-- The state behind an Open. -/
def St.open_ (V : St) (p c s n r o : Nat) : St := { V with B := Sl.layF V.key p s n (fun _ => true) V.B, R := Pg.lay V.R p (srow c o), L := V.set p (some ⟨c, s, n, r, o, fun _ => 0, 0⟩) }
def St.take (V : St) (g : Nat) (d : Sd) (k : Nat) (x : Int) : St := { V with B := Sl.takeB V.key g d.s d.r k V.B, L := V.set g (some { d with S := upd d.S k 1, f := x }) }
def St.drop (V : St) (g : Nat) (d : Sd) (k : Nat) : St := { V with B := Sl.dropB g d.s k V.B, L := V.set g (some { d with S := upd d.S k 2 }) }
/-- What a link to a slot is made of. -/
def lto (g s : Nat) (f : Int) : Nat := if 0 ≤ f then bs g s f.toNat + 1 else 0
def St.give (V : St) (g : Nat) (d : Sd) (k : Nat) : St := { V with B := Ar.setW V.B (bs g d.s k) (Li.lk V.key (bs g d.s k : Nat) (lto g d.s d.f)), L := V.set g (some { d with S := upd d.S k 0, f := k }) }
def St.shut (V : St) (g : Nat) : St := { V with R := Pg.clr V.R g 1, L := V.set g none }
def St.great (V : St) (p z : Nat) : St := { V with B := Lg.makeB V.key p z V.B, R := Pg.lay V.R p (grow (pgs z)), Z := upd V.Z p z }
def St.gdrop (V : St) (p : Nat) : St := { V with B := Lg.dropB p (V.Z p) V.B, R := Pg.clr V.R p (pgs (V.Z p)), Z := upd V.Z p 0 }
def St.write (V : St) (a n : Nat) (W : Nat → Nat) : St := { V with B := Ar.setB V.B a n W }

theorem upd_le {S : Nat → Nat} {k v : Nat} (h : ∀ k, S k ≤ 2) (hv : v ≤ 2) (j : Nat) : upd S k v j ≤ 2 := by
  unfold upd
  split
  · exact hv
  · exact h j
/-- Only one page of slots and the bytes are others. -/
theorem St.Ok.turn {V : St} (h : V.Ok) {g : Nat} {d d' : Sd} {B' : Nat → Nat} (hd : V.L g = some d) (hc : d'.c = d.c) (ho : d'.o = d.o) (h' : d'.Ok) (hB : ∀ i, B' i < 256) : St.Ok { V with B := B', L := V.set g (some d') } where
  n1 := h.n1
  n256 := h.n256
  mn := h.mn
  key := h.key
  lt := hB
  rows := h.rows
  sl := fun k e hk => by
    by_cases x : k = g
    · subst x
      have hk' : V.set k (some d') k = some e := hk
      rw [St.set_same] at hk'
      cases hk'
      obtain ⟨a, b, _⟩ := h.sl k d hd
      exact ⟨a, by rw [hc, ho]; exact b, h'⟩
    · have hk' : V.set g (some d') k = some e := hk
      rw [St.set_other x] at hk'
      exact h.sl k e hk'
  gr := h.gr
  k1 := fun k hk e => by
    show V.set g (some d') k ≠ none
    by_cases x : k = g
    · subst x; rw [St.set_same]; simp
    · rw [St.set_other x]; exact h.k1 k hk e
  k2 := h.k2
  k4 := h.k4
theorem byte_setW {B : Nat → Nat} (h : ∀ i, B i < 256) (a v i : Nat) : Ar.setW B a v i < 256 := by rw [Ar.setW_is]; exact Ar.setB_lt h (Ar.byt_lt v) _ _ _
theorem byte_setC {B : Nat → Nat} (h : ∀ i, B i < 256) (a m : Nat) {c : Nat} (hc : c < 256) (i : Nat) : Ar.setB B a m (fun _ => c) i < 256 := Ar.setB_lt h (fun _ => hc) _ _ _
theorem St.Ok.take {V : St} (h : V.Ok) {g k : Nat} {d : Sd} {x : Int} (hd : V.L g = some d) (hx : FOk d.n (upd d.S k 1) x) : (V.take g d k x).Ok := by
  have hdo := (h.sl g d hd).2.2
  exact h.turn hd rfl rfl ⟨hdo.c, hdo.o, upd_le hdo.st (by omega), hx⟩ (byte_setW (byte_setC h.lt _ _ (by omega)) _ _)
theorem FOk.keep {n k v : Nat} {S : Nat → Nat} {f : Int} (h : FOk n S f) (hk : S k ≠ 0) : FOk n (upd S k v) f := by
  rcases h with h | ⟨j, hj, e, h0⟩
  · exact .inl h
  · exact .inr ⟨j, hj, e, by rw [Sl.upd_other (fun x => hk (by rw [← x]; exact h0))]; exact h0⟩
theorem St.Ok.drop {V : St} (h : V.Ok) {g k : Nat} {d : Sd} (hd : V.L g = some d) (hk : d.S k = 1) : (V.drop g d k).Ok := by
  have hdo := (h.sl g d hd).2.2
  exact h.turn hd rfl rfl ⟨hdo.c, hdo.o, upd_le hdo.st (by omega), FOk.keep hdo.f (by omega)⟩ (byte_setC h.lt _ _ (by omega))
theorem St.Ok.give {V : St} (h : V.Ok) {g k : Nat} {d : Sd} (hd : V.L g = some d) (hk : k < d.n) : (V.give g d k).Ok := by
  have hdo := (h.sl g d hd).2.2
  exact h.turn hd rfl rfl ⟨hdo.c, hdo.o, upd_le hdo.st (by omega), .inr ⟨k, hk, rfl, Sl.upd_same _ _ _⟩⟩ (byte_setW h.lt _ _)
theorem St.Ok.write {V : St} (h : V.Ok) {a n : Nat} {W : Nat → Nat} (hW : ∀ i, W i < 256) : (V.write a n W).Ok :=
  ⟨h.n1, h.n256, h.mn, h.key, fun _ => Ar.setB_lt h.lt hW _ _ _, h.rows, h.sl, h.gr, h.k1, h.k2, h.k4⟩

/-- Rows of which some that were free are another block's. -/
theorem lay_at (R : Nat → Pg.Row) (p : Nat) (x : Pg.Row) : Pg.lay R p x p = x := by simp [Pg.lay]
theorem lay_in {R : Nat → Pg.Row} {p j : Nat} {x : Pg.Row} (h : p < j) (h2 : (j : Int) < p + x.r) : Pg.lay R p x j = Pg.tail := by
  unfold Pg.lay
  rw [if_neg (by omega), if_pos ⟨h, h2⟩]
theorem lay_out {R : Nat → Pg.Row} {p j : Nat} {x : Pg.Row} (h1 : 1 ≤ x.r) (h : j < p ∨ (p : Int) + x.r ≤ j) : Pg.lay R p x j = R j := by
  unfold Pg.lay
  rw [if_neg (by omega), if_neg (by omega)]
theorem clr_in {R : Nat → Pg.Row} {p m j : Nat} (h : p ≤ j) (h2 : j < p + m) : Pg.clr R p m j = Pg.zero := by
  unfold Pg.clr; rw [if_pos ⟨h, h2⟩]
theorem clr_out {R : Nat → Pg.Row} {p m j : Nat} (h : j < p ∨ p + m ≤ j) : Pg.clr R p m j = R j := by
  unfold Pg.clr; rw [if_neg (by omega)]

/-- Where so many pages of the manual region are free. -/
structure St.Room (V : St) (p run : Nat) : Prop where
  in_ : p + run ≤ V.m
  run1 : 1 ≤ run
  run2 : run ≤ 256
  free : ∀ i : Nat, p ≤ i → i < p + run → V.R i = Pg.zero
theorem St.Ok.room_l {V : St} (h : V.Ok) {p run i : Nat} (hr : V.Room p run) (h1 : p ≤ i) (h2 : i < p + run) : V.L i = none ∧ V.Z i = 0 ∧ ∀ a, ¬ V.Gr i a := by
  have hz := hr.free i h1 h2
  refine ⟨?_, ?_, fun a ha => ?_⟩
  · cases hl : V.L i with
    | none => rfl
    | some d => have := (h.sl i d hl).2.1; rw [hz] at this; cases this
  · rcases Nat.eq_zero_or_pos (V.Z i) with e | e
    · exact e
    · have := (h.gr i (by omega)).2.2.2; rw [hz] at this; cases this
  · by_cases e : a = i
    · subst e
      have := (h.gr a ha.1).2.2.2; rw [hz] at this; cases this
    · have := h.gr_tail ha.1 (by have := ha.2.1; omega) ha.2.2
      rw [hz] at this; cases this
theorem zero_k {x : Pg.Row} (h : x = Pg.zero) : x.k = 0 := by rw [h]; rfl
theorem tail_k {x : Pg.Row} (h : x = Pg.tail) : x.k = 3 := by rw [h]; rfl
/-- A new page of slots. -/
theorem St.Ok.open_ {V : St} (h : V.Ok) {p c s n r o : Nat} (hr : V.Room p 1) (hc : Cls c s n r) (ho : o < 64) : (V.open_ p c s n r o).Ok := by
  have hmn := h.mn
  have hin := hr.in_
  have ez := hr.free p (Nat.le_refl _) (by omega)
  have el : ∀ j, j ≠ p → Pg.lay V.R p (srow c o) j = V.R j := fun j hj => lay_out (by simp [srow]) (by simp [srow]; omega)
  exact
  { n1 := h.n1, n256 := h.n256, mn := h.mn, key := h.key, lt := fun i => (Sl.layF_lt h.lt i : Sl.layF V.key p s n (fun _ => true) V.B i < 256)
    rows := ok_lay' h.rows hr
    sl := fun k d hk => by
      by_cases x : k = p
      · subst x
        have hk' : V.set k (some ⟨c, s, n, r, o, fun _ => 0, 0⟩) k = some d := hk
        rw [St.set_same] at hk'
        cases hk'
        have h0 : 0 < n := by have := hc.facts.n2; omega
        exact ⟨(by omega : k < V.m), lay_at _ _ _, ⟨hc, ho, fun _ => by show 0 ≤ 2; omega, .inr ⟨0, h0, rfl, rfl⟩⟩⟩
      · have hk' : V.set p (some ⟨c, s, n, r, o, fun _ => 0, 0⟩) k = some d := hk
        rw [St.set_other x] at hk'
        obtain ⟨a, b, e⟩ := h.sl k d hk'
        exact ⟨a, (el k x).trans b, e⟩
    gr := fun k hk => by
      have hk' : V.Z k ≠ 0 := hk
      obtain ⟨a, b, e, f⟩ := h.gr k hk'
      have x : k ≠ p := fun x => by rw [x] at hk'; exact hk' (h.room_l hr (Nat.le_refl _) (by omega)).2.1
      exact ⟨a, b, e, (el k x).trans f⟩
    k1 := fun k hk e => by
      show V.set p _ k ≠ none
      by_cases x : k = p
      · subst x; rw [St.set_same]; simp
      · rw [St.set_other x]
        have e' : (Pg.lay V.R p (srow c o) k).k = 1 := e
        rw [el k x] at e'
        exact h.k1 k hk e'
    k2 := fun k hk e => by
      have e' : (Pg.lay V.R p (srow c o) k).k = 2 := e
      by_cases x : k = p
      · subst x; rw [lay_at] at e'; simp [srow] at e'
      · rw [el k x] at e'; exact h.k2 k hk e'
    k4 := fun k hk e => by
      have e' : (Pg.lay V.R p (srow c o) k).k = 4 := e
      by_cases x : k = p
      · subst x; rw [lay_at] at e'; simp [srow] at e'
      · rw [el k x] at e'; exact h.k4 k hk e' }
where ok_lay' (h0 : Pg.Ok V.R V.n) (hr : V.Room p 1) : Pg.Ok (Pg.lay V.R p (srow c o)) V.n :=
  Pg.ok_lay h0 rfl (by have := h.mn; have := hr.in_; simp [srow]; omega) (fun i h1 h2 => hr.free i h1 (by simp [srow] at h2; omega))
/-- A new great block. -/
theorem St.Ok.great {V : St} (h : V.Ok) {p z : Nat} (hz1 : 120 < z) (hz2 : z ≤ 4096) (hr : V.Room p (pgs z)) : (V.great p z).Ok := by
  have hmn := h.mn
  have hin := hr.in_
  have hp1 := hr.run1
  have hr0 : (grow (pgs z)).r = (pgs z : Nat) := rfl
  have el : ∀ j : Nat, j < p ∨ p + pgs z ≤ j → Pg.lay V.R p (grow (pgs z)) j = V.R j := fun j hj => lay_out (by rw [hr0]; omega) (by rw [hr0]; omega)
  have et : ∀ j : Nat, p < j → j < p + pgs z → Pg.lay V.R p (grow (pgs z)) j = Pg.tail := fun j h1 h2 => lay_in h1 (by rw [hr0]; omega)
  have cases3 : ∀ j : Nat, j = p ∨ (p < j ∧ j < p + pgs z) ∨ (j < p ∨ p + pgs z ≤ j) := fun j => by omega
  exact
  { n1 := h.n1, n256 := h.n256, mn := h.mn, key := h.key, lt := byte_setW (byte_setC h.lt _ _ (by omega)) _ _
    rows := Pg.ok_lay h.rows ((Pg.may_iff _).2 ⟨rfl, by rw [hr0]; omega, by rw [hr0]; have := hr.run2; omega⟩) (show (p : Int) + (grow (pgs z)).r ≤ (V.n : Int) by rw [hr0]; omega) (fun i h1 h2 => hr.free i h1 (by rw [hr0] at h2; omega))
    sl := fun k d hk => by
      have hk' : V.L k = some d := hk
      obtain ⟨a, b, e⟩ := h.sl k d hk'
      rcases cases3 k with x | x | x
      · subst x; rw [(h.room_l hr (Nat.le_refl _) (by omega)).1] at hk'; cases hk'
      · rw [(h.room_l hr (by omega) x.2).1] at hk'; cases hk'
      · exact ⟨a, (el k x).trans b, e⟩
    gr := fun k hk => by
      have hk' : upd V.Z p z k ≠ 0 := hk
      by_cases x : k = p
      · subst x
        show 120 < upd V.Z k z k ∧ upd V.Z k z k ≤ 4096 ∧ k + pgs (upd V.Z k z k) ≤ V.m ∧ Pg.lay V.R k (grow (pgs z)) k = grow (pgs (upd V.Z k z k))
        rw [Sl.upd_same]
        exact ⟨hz1, hz2, hin, lay_at _ _ _⟩
      · rw [Sl.upd_other x] at hk'
        show 120 < upd V.Z p z k ∧ upd V.Z p z k ≤ 4096 ∧ k + pgs (upd V.Z p z k) ≤ V.m ∧ Pg.lay V.R p (grow (pgs z)) k = grow (pgs (upd V.Z p z k))
        rw [Sl.upd_other x]
        obtain ⟨a, b, e, f⟩ := h.gr k hk'
        rcases cases3 k with y | y | y
        · exact absurd y x
        · exact absurd (h.room_l hr (by omega) y.2).2.1 hk'
        · exact ⟨a, b, e, (el k y).trans f⟩
    k1 := fun k hk e => by
      have e' : (Pg.lay V.R p (grow (pgs z)) k).k = 1 := e
      rcases cases3 k with x | x | x
      · subst x; rw [lay_at] at e'; simp [grow] at e'
      · rw [et k x.1 x.2] at e'; simp [Pg.tail] at e'
      · rw [el k x] at e'; exact h.k1 k hk e'
    k2 := fun k hk e => by
      show upd V.Z p z k ≠ 0
      have e' : (Pg.lay V.R p (grow (pgs z)) k).k = 2 := e
      rcases cases3 k with x | x | x
      · subst x; rw [Sl.upd_same]; omega
      · rw [et k x.1 x.2] at e'; simp [Pg.tail] at e'
      · rw [el k x] at e'; rw [Sl.upd_other (by omega)]; exact h.k2 k hk e'
    k4 := fun k hk e => by
      have e' : (Pg.lay V.R p (grow (pgs z)) k).k = 4 := e
      rcases cases3 k with x | x | x
      · subst x; rw [lay_at] at e'; simp [grow] at e'
      · rw [et k x.1 x.2] at e'; simp [Pg.tail] at e'
      · rw [el k x] at e'; exact h.k4 k hk e' }
theorem St.Ok.shut {V : St} (h : V.Ok) {g : Nat} {d : Sd} (hd : V.L g = some d) : (V.shut g).Ok := by
  obtain ⟨hg, hr, _⟩ := h.sl g d hd
  have hmn := h.mn
  have hc := Pg.ok_clr h.rows (at_ := g) (by omega) (by rw [hr]; rfl)
  have e1 : (V.R g).r.toNat = 1 := by rw [hr]; rfl
  rw [e1] at hc
  have el : ∀ j, j ≠ g → Pg.clr V.R g 1 j = V.R j := fun j hj => clr_out (by omega)
  have ez : Pg.clr V.R g 1 g = Pg.zero := clr_in (Nat.le_refl _) (by omega)
  exact
  { n1 := h.n1, n256 := h.n256, mn := h.mn, key := h.key, lt := h.lt
    rows := hc
    sl := fun k e hk => by
      have hk' : V.set g none k = some e := hk
      by_cases x : k = g
      · subst x; rw [St.set_same] at hk'; cases hk'
      · rw [St.set_other x] at hk'
        obtain ⟨a, b, f⟩ := h.sl k e hk'
        exact ⟨a, (el k x).trans b, f⟩
    gr := fun k hk => by
      have hk' : V.Z k ≠ 0 := hk
      obtain ⟨a, b, e, f⟩ := h.gr k hk'
      have x : k ≠ g := fun x => by rw [x, hr] at f; cases f
      exact ⟨a, b, e, (el k x).trans f⟩
    k1 := fun k hk e => by
      have e' : (Pg.clr V.R g 1 k).k = 1 := e
      show V.set g none k ≠ none
      by_cases x : k = g
      · subst x; rw [ez] at e'; simp [Pg.zero] at e'
      · rw [St.set_other x]; rw [el k x] at e'; exact h.k1 k hk e'
    k2 := fun k hk e => by
      have e' : (Pg.clr V.R g 1 k).k = 2 := e
      by_cases x : k = g
      · subst x; rw [ez] at e'; simp [Pg.zero] at e'
      · rw [el k x] at e'; exact h.k2 k hk e'
    k4 := fun k hk e => by
      have e' : (Pg.clr V.R g 1 k).k = 4 := e
      by_cases x : k = g
      · subst x; rw [ez] at e'; simp [Pg.zero] at e'
      · rw [el k x] at e'; exact h.k4 k hk e' }
theorem St.Ok.gdrop {V : St} (h : V.Ok) {p : Nat} (hz : V.Z p ≠ 0) : (V.gdrop p).Ok := by
  obtain ⟨h1, h2, h3, hr⟩ := h.gr p hz
  have hmn := h.mn
  have hp := Lg.pgs_pos (V.Z p)
  have hc := Pg.ok_clr h.rows (at_ := p) (by omega) (by rw [hr]; rfl)
  have e1 : (V.R p).r.toNat = pgs (V.Z p) := by rw [hr]; exact Int.toNat_natCast _
  rw [e1] at hc
  have el : ∀ j, j < p ∨ p + pgs (V.Z p) ≤ j → Pg.clr V.R p (pgs (V.Z p)) j = V.R j := fun j hj => clr_out hj
  have ez : ∀ j, p ≤ j → j < p + pgs (V.Z p) → Pg.clr V.R p (pgs (V.Z p)) j = Pg.zero := fun j a b => clr_in a b
  have cases2 : ∀ j, (p ≤ j ∧ j < p + pgs (V.Z p)) ∨ (j < p ∨ p + pgs (V.Z p) ≤ j) := fun j => by omega
  exact
  { n1 := h.n1, n256 := h.n256, mn := h.mn, key := h.key, lt := byte_setC h.lt _ _ (by omega)
    rows := hc
    sl := fun k d hk => by
      have hk' : V.L k = some d := hk
      obtain ⟨a, b, e⟩ := h.sl k d hk'
      rcases cases2 k with x | x
      · rw [h.sl_gr (g := k) (a := p) ⟨hz, x.1, x.2⟩] at hk'; cases hk'
      · exact ⟨a, (el k x).trans b, e⟩
    gr := fun k hk => by
      have hk' : upd V.Z p 0 k ≠ 0 := hk
      have x : k ≠ p := fun x => by rw [x, Sl.upd_same] at hk'; exact hk' rfl
      rw [Sl.upd_other x] at hk'
      show 120 < upd V.Z p 0 k ∧ upd V.Z p 0 k ≤ 4096 ∧ k + pgs (upd V.Z p 0 k) ≤ V.m ∧ Pg.clr V.R p (pgs (V.Z p)) k = grow (pgs (upd V.Z p 0 k))
      rw [Sl.upd_other x]
      obtain ⟨a, b, e, f⟩ := h.gr k hk'
      rcases cases2 k with y | y
      · exact absurd (h.gr_uniq (g := k) ⟨hk', Nat.le_refl _, by have := Lg.pgs_pos (V.Z k); omega⟩ ⟨hz, y.1, y.2⟩) x
      · exact ⟨a, b, e, (el k y).trans f⟩
    k1 := fun k hk e => by
      have e' : (Pg.clr V.R p (pgs (V.Z p)) k).k = 1 := e
      rcases cases2 k with x | x
      · rw [ez k x.1 x.2] at e'; simp [Pg.zero] at e'
      · rw [el k x] at e'; exact h.k1 k hk e'
    k2 := fun k hk e => by
      have e' : (Pg.clr V.R p (pgs (V.Z p)) k).k = 2 := e
      show upd V.Z p 0 k ≠ 0
      rcases cases2 k with x | x
      · rw [ez k x.1 x.2] at e'; simp [Pg.zero] at e'
      · rw [el k x] at e'
        rw [Sl.upd_other (by omega)]
        exact h.k2 k hk e'
    k4 := fun k hk e => by
      have e' : (Pg.clr V.R p (pgs (V.Z p)) k).k = 4 := e
      rcases cases2 k with x | x
      · rw [ez k x.1 x.2] at e'; simp [Pg.zero] at e'
      · rw [el k x] at e'; exact h.k4 k hk e' }
/-- A new region. -/
def St.new (m n key : Nat) : St := ⟨m, n, key, fun _ => 0, fun _ => Pg.zero, fun _ => none, fun _ => 0⟩
theorem St.ok_new {m n key : Nat} (h1 : 1 ≤ n) (h2 : n ≤ 256) (h3 : m ≤ n) (hk : key < 18446744073709551616) : (St.new m n key).Ok :=
  ⟨h1, h2, h3, hk, fun _ => by show 0 < 256; omega, Pg.ok_new _, (fun _ _ h => nomatch h), (fun _ h => absurd rfl h), (fun _ _ h => nomatch h), (fun _ _ h => nomatch h), (fun _ _ h => nomatch h)⟩

/-- A place: page, slot, first byte, bytes, state, whether it is a great block's. -/
structure Pc where
  g : Nat
  k : Nat
  b : Nat
  z : Nat
  st : Nat
  gr : Bool
def spc (g : Nat) (d : Sd) (k : Nat) : Pc := ⟨g, k, bs g d.s k, d.r, d.S k, false⟩
def gpc (h z : Nat) : Pc := ⟨h, 0, h * 256, z, 1, true⟩
/-- The place that a byte lies in. -/
inductive St.At (V : St) (a : Int) : Option Pc → Prop
  | out (h : a < 0 ∨ (V.n * 256 : Nat) ≤ a) : V.At a none
  | none (g : Nat) (x : Nat) (e : a = x) (hg : x / 256 = g) (hn : g < V.n) (hl : V.L g = .none) (hz : ∀ h, ¬ V.Gr g h) : V.At a .none
  | slot (g : Nat) (d : Sd) (x : Nat) (e : a = x) (hg : x / 256 = g) (hn : g < V.n) (hl : V.L g = some d) : V.At a (some (spc g d (x % 256 / d.s)))
  | great (g h : Nat) (x : Nat) (e : a = x) (hg : x / 256 = g) (hn : g < V.n) (hl : V.L g = .none) (hz : V.Gr g h) : V.At a (some (gpc h (V.Z h)))
theorem St.at_ex (V : St) (a : Int) : ∃ x, V.At a x := by
  classical
  by_cases h : a < 0 ∨ (V.n * 256 : Nat) ≤ a
  · exact ⟨_, .out h⟩
  · obtain ⟨x, rfl⟩ : ∃ x : Nat, a = x := ⟨a.toNat, by omega⟩
    have hn : x / 256 < V.n := by omega
    cases hl : V.L (x / 256) with
    | some d => exact ⟨_, .slot _ d x rfl rfl hn hl⟩
    | none =>
      by_cases hz : ∃ h, V.Gr (x / 256) h
      · obtain ⟨h, hz⟩ := hz
        exact ⟨_, .great _ h x rfl rfl hn hl hz⟩
      · exact ⟨_, .none _ x rfl rfl hn hl (fun h hh => hz ⟨h, hh⟩)⟩
theorem slot_lt {c s n r : Nat} (hc : Cls c s n r) (x : Nat) : x % 256 / s < n ∧ bs (x / 256) s (x % 256 / s) ≤ x ∧ x < bs (x / 256) s (x % 256 / s) + s := by
  unfold bs
  rcases hc with ⟨rfl, rfl, rfl, rfl⟩ | ⟨rfl, rfl, rfl, rfl⟩ | ⟨rfl, rfl, rfl, rfl⟩ | ⟨rfl, rfl, rfl, rfl⟩ <;> omega
end Go.Proofs.YtgnfcklippjeeaaGreat
