/- A region that is whole: chains, canaries; what calls keep of it. -/
import Derived.Test.YtgnfcklippjeeaaGreatVC
namespace Go.Proofs.YtgnfcklippjeeaaGreat
open Sl (Cls bs upd LnkIs)
open Lg (pgs)

theorem inv_congr {c key g s n r : Nat} {S : Nat → Nat} {F : List Nat} {B B' : Nat → Nat} (hc : Cls c s n r) (h : Sl.Inv key g s n r S F B) (hB : ∀ i, g * 256 ≤ i → i < g * 256 + 256 → B i = B' i) : Sl.Inv key g s n r S F B' where
  nd := h.nd
  fr := h.fr
  al := h.al
  st := h.st
  ch := Sl.Chain.congr h.ch (fun k hk i h1 h2 => hB i (by have := Sl.bs_lo g s k; omega) (by
    have := Sl.bs_hi hc g (h.fr k hk).1
    have := hc.facts.rs
    omega))
  lv := fun k hk h1 => by
    rw [← h.lv k hk h1]
    have := Sl.bs_hi hc g hk
    have := Sl.bs_lo g s k
    have := hc.facts.rs
    exact Ar.wordAt_congr (fun i h1 h2 => (hB i (by omega) (by omega)).symm)
  hd := fun k hk h2 i hi => by
    rw [← h.hd k hk h2 i hi]
    have := Sl.bs_hi hc g hk
    have := Sl.bs_lo g s k
    exact (hB _ (by omega) (by omega)).symm
def SW (key g : Nat) (d : Sd) (B : Nat → Nat) : Prop := ∃ F, Sl.Inv key g d.s d.n d.r d.S F B ∧ d.f = Sl.fst F
structure St.Whole (V : St) : Prop where
  sl : ∀ g d, V.L g = some d → SW V.key g d V.B
  gr : Lg.All V.key V.Z V.B
theorem gr_congr {V : St} {key : Nat} {B B' : Nat → Nat} (h : Lg.All key V.Z B) (hB : ∀ i a, V.Gr (i / 256) a → B i = B' i) : Lg.All key V.Z B' := fun a hz => by
  rw [← h a hz]
  have hp := Lg.pgs_pos (V.Z a)
  exact Ar.wordAt_congr (fun i h1 h2 => (hB i a (by
    unfold Lg.grd at h1 h2
    exact ⟨hz, by omega, by omega⟩)).symm)
theorem whole_turn {V : St} (ok : V.Ok) (h : V.Whole) {g : Nat} {d' : Sd} {B' : Nat → Nat} (hng : ∀ a, ¬ V.Gr g a) (hB : ∀ i, i < g * 256 ∨ g * 256 + 256 ≤ i → B' i = V.B i) (hn : SW V.key g d' B') : St.Whole { V with B := B', L := V.set g (some d') } where
  sl := fun g' d2 hl => by
    by_cases e : g' = g
    · subst e
      have e : V.set g' (some d') g' = some d2 := hl
      rw [St.set_same] at e
      injection e with e
      subst e
      exact hn
    · have e2 : V.L g' = some d2 := by rw [← St.set_other (V := V) (x := some d') e]; exact hl
      obtain ⟨F, h1, h2⟩ := h.sl g' d2 e2
      exact ⟨F, inv_congr (ok.sl g' d2 e2).2.2.c h1 (fun i a1 a2 => (hB i (by omega)).symm), h2⟩
  gr := gr_congr (V := V) h.gr (fun i a ha => (hB i (by
    by_cases e : i / 256 = g
    · rw [e] at ha; exact absurd ha (hng a)
    · omega)).symm)
theorem sl_ngr {V : St} (ok : V.Ok) {g : Nat} {d : Sd} (hl : V.L g = some d) (a : Nat) : ¬ V.Gr g a := fun ha => by
  rw [ok.sl_gr ha] at hl; cases hl
theorem fst_link {key g s n r k : Nat} {S : Nat → Nat} {t : List Nat} {B : Nat → Nat} (h : Sl.Inv key g s n r S (k :: t) B) : LnkIs key g s n S B k (Sl.fst t) := by
  obtain ⟨h1, -⟩ := h.ch
  cases t with
  | nil => exact .inl ⟨rfl, h1⟩
  | cons j t =>
    have hj := h.fr j (by simp)
    have hnd := h.nd
    simp only [List.nodup_cons, List.mem_cons, not_or] at hnd
    exact .inr (.inl ⟨j, hj.1, rfl, fun e => hnd.1.1 e.symm, hj.2, h1⟩)
theorem lto_nx (g s : Nat) (F : List Nat) : lto g s (Sl.fst F) = Sl.nx g s F := by
  cases F with
  | nil => rfl
  | cons j t => show lto g s (j : Int) = bs g s j + 1; unfold lto; rw [if_pos (by omega), Int.toNat_natCast]
theorem whole_take {V : St} (ok : V.Ok) (h : V.Whole) {g k : Nat} {d : Sd} {x : Int} (hl : V.L g = some d) (hf : d.f = (k : Int)) (hx : LnkIs V.key g d.s d.n d.S V.B k x) : (V.take g d k x).Whole := by
  have hc := (ok.sl g d hl).2.2.c
  obtain ⟨F, h1, h2⟩ := h.sl g d hl
  cases F with
  | nil => rw [hf] at h2; exact absurd h2 (by show ¬ ((k : Int) = -1); omega)
  | cons k' t =>
    obtain rfl : k = k' := by rw [hf] at h2; have : (k : Int) = (k' : Int) := h2; omega
    have hk := (h1.fr k (by simp)).1
    refine whole_turn ok h (sl_ngr ok hl) (fun i hi => Sl.takeB_out hc (by have := Sl.bs_lo g d.s k; have := Sl.bs_hi hc g hk; omega)) ⟨t, h1.take hc, ?_⟩
    exact LnkIs.uniq hc hx (fst_link h1)
theorem whole_drop {V : St} (ok : V.Ok) (h : V.Whole) {g k : Nat} {d : Sd} (hl : V.L g = some d) (hk : k < d.n) (h1 : d.S k = 1) : (V.drop g d k).Whole := by
  have hc := (ok.sl g d hl).2.2.c
  obtain ⟨F, i1, i2⟩ := h.sl g d hl
  exact whole_turn ok h (sl_ngr ok hl) (fun i hi => Sl.dropB_out (by have := Sl.bs_lo g d.s k; have := Sl.bs_hi hc g hk; omega)) ⟨F, i1.drop hc hk h1, i2⟩
theorem whole_give {V : St} (ok : V.Ok) (h : V.Whole) {g k : Nat} {d : Sd} (hl : V.L g = some d) (hk : k < d.n) (h1 : d.S k = 2) : (V.give g d k).Whole := by
  have hc := (ok.sl g d hl).2.2.c
  have hg : g < 256 := by have := (ok.sl g d hl).1; have := ok.mn; have := ok.n256; omega
  obtain ⟨F, i1, i2⟩ := h.sl g d hl
  have key := i1.give hc hg hk h1
  unfold Sl.giveB at key
  rw [← lto_nx, ← i2] at key
  refine whole_turn ok h (sl_ngr ok hl) (fun i hi => Ar.setW_out (by have := Sl.bs_lo g d.s k; have := Sl.bs_hi hc g hk; have := hc.facts.rs; omega)) ⟨k :: F, key, rfl⟩
theorem whole_open {V : St} (ok : V.Ok) (h : V.Whole) {p c s n r o : Nat} (hr : V.Room p 1) (hc : Cls c s n r) : (V.open_ p c s n r o).Whole := by
  have hp : p < 256 := by have := hr.in_; have := ok.mn; have := ok.n256; omega
  have hrl := ok.room_l hr (Nat.le_refl p) (by omega)
  have key : (St.mk V.m V.n V.key (Sl.layF V.key p s n (fun _ => true) V.B) V.R (V.set p (some ⟨c, s, n, r, o, fun _ => 0, 0⟩)) V.Z).Whole :=
    whole_turn ok h hrl.2.2 (fun i hi => Sl.layF_out hc hi) ⟨Sl.from_ 0 n, Sl.inv_new (fun k hk => Sl.layF_word hc hp hk), by
      have : 0 < n := by rcases hc with ⟨_, _, h, _⟩ | ⟨_, _, h, _⟩ | ⟨_, _, h, _⟩ | ⟨_, _, h, _⟩ <;> omega
      rw [Sl.from_cons this]; rfl⟩
  exact ⟨key.sl, key.gr⟩
theorem whole_shut {V : St} (h : V.Whole) (g : Nat) : (V.shut g).Whole where
  sl := fun g' d hl => by
    by_cases e : g' = g
    · subst e; have : V.set g' none g' = some d := hl; rw [St.set_same] at this; cases this
    · have e2 : V.L g' = some d := by rw [← St.set_other (V := V) (x := none) e]; exact hl
      exact h.sl g' d e2
  gr := h.gr
theorem whole_great {V : St} (ok : V.Ok) (h : V.Whole) {p z : Nat} (hr : V.Room p (pgs z)) : (V.great p z).Whole := by
  have hp := Lg.pgs_pos z
  have hout : ∀ i, i < p * 256 ∨ (p + pgs z) * 256 ≤ i → Lg.makeB V.key p z V.B i = V.B i := fun i hi => by
    have k1 : i < Lg.grd p z ∨ Lg.grd p z + 8 ≤ i := by unfold Lg.grd; omega
    have k2 : i < p * 256 ∨ p * 256 + pgs z * 256 ≤ i := hi.imp id (fun h => by rw [Nat.add_mul] at h; exact h)
    unfold Lg.makeB
    rw [Ar.setW_out k1, Ar.setB_out k2]
  refine ⟨fun g d hl => ?_, fun a hz => ?_⟩
  · obtain ⟨F, i1, i2⟩ := h.sl g d hl
    refine ⟨F, inv_congr (ok.sl g d hl).2.2.c i1 (fun i a1 a2 => (hout i ?_).symm), i2⟩
    by_cases e : p ≤ g ∧ g < p + pgs z
    · have := (ok.room_l hr e.1 e.2).1
      have hl' : V.L g = some d := hl
      rw [this] at hl'; cases hl'
    · omega
  · by_cases e : a = p
    · subst e
      have ez : (V.great a z).Z a = z := by show upd V.Z a z a = z; exact Sl.upd_same _ _ _
      rw [ez]
      exact Ar.wordAt_setW _ _ _ (Li.mix_lt _)
    · have ez : (V.great p z).Z a = V.Z a := by show upd V.Z p z a = _; exact Sl.upd_other e
      rw [ez] at hz ⊢
      show _ = Lg.can V.key a
      rw [← show Ar.wordAt V.B (Lg.grd a (V.Z a)) = Lg.can V.key a from h.gr a hz]
      refine Ar.wordAt_congr (fun i a1 a2 => hout i ?_)
      have hpa := Lg.pgs_pos (V.Z a)
      unfold Lg.grd at a1 a2
      by_cases e2 : p ≤ i / 256 ∧ i / 256 < p + pgs z
      · exact absurd ⟨hz, by omega, by omega⟩ ((ok.room_l hr e2.1 e2.2).2.2 a)
      · omega
theorem whole_gdrop {V : St} (ok : V.Ok) (h : V.Whole) {g : Nat} (hz0 : V.Z g ≠ 0) : (V.gdrop g).Whole := by
  have hp := Lg.pgs_pos (V.Z g)
  have hout : ∀ i, i < g * 256 ∨ (g + pgs (V.Z g)) * 256 ≤ i → Lg.dropB g (V.Z g) V.B i = V.B i := fun i hi => by
    have k2 : i < g * 256 ∨ g * 256 + pgs (V.Z g) * 256 ≤ i := hi.imp id (fun h => by rw [Nat.add_mul] at h; exact h)
    unfold Lg.dropB
    rw [Ar.setB_out k2]
  refine ⟨fun g' d hl => ?_, fun a hz => ?_⟩
  · obtain ⟨F, i1, i2⟩ := h.sl g' d hl
    refine ⟨F, inv_congr (ok.sl g' d hl).2.2.c i1 (fun i a1 a2 => (hout i ?_).symm), i2⟩
    by_cases e : g ≤ g' ∧ g' < g + pgs (V.Z g)
    · exact absurd ⟨hz0, e.1, e.2⟩ (sl_ngr ok (show V.L g' = some d from hl) g)
    · omega
  · have e : a ≠ g := fun e => hz (by subst e; show upd V.Z a 0 a = 0; exact Sl.upd_same _ _ _)
    have ez : (V.gdrop g).Z a = V.Z a := by show upd V.Z g 0 a = _; exact Sl.upd_other e
    rw [ez] at hz ⊢
    show _ = Lg.can V.key a
    rw [← show Ar.wordAt V.B (Lg.grd a (V.Z a)) = Lg.can V.key a from h.gr a hz]
    refine Ar.wordAt_congr (fun i a1 a2 => hout i ?_)
    have hpa := Lg.pgs_pos (V.Z a)
    unfold Lg.grd at a1 a2
    by_cases e2 : g ≤ i / 256 ∧ i / 256 < g + pgs (V.Z g)
    · exact absurd (ok.gr_uniq (g := i / 256) ⟨hz, by omega, by omega⟩ ⟨hz0, e2.1, e2.2⟩) e
    · omega
theorem St.Whole.write {V : St} (ok : V.Ok) (h : V.Whole) {p : Pc} (hp : Lv V p) {m : Nat} {W : Nat → Nat} (hm : m ≤ p.z) : (V.write p.b m W).Whole := by
  cases hp with
  | slot g d k hl hk h1 =>
    have hc := (ok.sl g d hl).2.2.c
    obtain ⟨F, i1, i2⟩ := h.sl g d hl
    have hm : m ≤ d.r := hm
    have key := whole_turn ok h (sl_ngr ok hl) (d' := d) (B' := Ar.setB V.B (bs g d.s k) m W) (fun i hi => Ar.setB_out (by have := Sl.bs_lo g d.s k; have := Sl.bs_hi hc g hk; have := hc.facts.rs; omega)) ⟨F, i1.write hc hk h1 hm, i2⟩
    rw [St.set_self hl] at key
    exact key
  | great g hz =>
    have hm : m ≤ V.Z g := hm
    have hpp := Lg.pgs_pos (V.Z g)
    have hpz : V.Z g + 8 ≤ pgs (V.Z g) * 256 := by unfold pgs; omega
    have hout : ∀ i, i < g * 256 ∨ g * 256 + V.Z g ≤ i → Ar.setB V.B (g * 256) m W i = V.B i := fun i hi => Ar.setB_out (by omega)
    refine ⟨fun g' d hl => ?_, fun a hz' => ?_⟩
    · obtain ⟨F, i1, i2⟩ := h.sl g' d hl
      refine ⟨F, inv_congr (ok.sl g' d hl).2.2.c i1 (fun i a1 a2 => (hout i ?_).symm), i2⟩
      by_cases e : g ≤ g' ∧ g' < g + pgs (V.Z g)
      · exact absurd ⟨hz, e.1, e.2⟩ (sl_ngr ok (show V.L g' = some d from hl) g)
      · omega
    · have hz' : V.Z a ≠ 0 := hz'
      show Ar.wordAt (Ar.setB V.B (g * 256) m W) (Lg.grd a (V.Z a)) = Lg.can V.key a
      rw [← show Ar.wordAt V.B (Lg.grd a (V.Z a)) = Lg.can V.key a from h.gr a hz']
      refine Ar.wordAt_congr (fun i a1 a2 => hout i ?_)
      have hpa := Lg.pgs_pos (V.Z a)
      unfold Lg.grd at a1 a2
      by_cases e : a = g
      · subst e; omega
      · by_cases e2 : g ≤ i / 256 ∧ i / 256 < g + pgs (V.Z g)
        · exact absurd (ok.gr_uniq (g := i / 256) ⟨hz', by omega, by omega⟩ ⟨hz, e2.1, e2.2⟩) e
        · omega
theorem keeps_whole : Keeps St.Whole := fun V V' ok h hs => by
  cases hs with
  | same => exact h
  | open_ p c s n r o hp hc ho => exact whole_open ok h (St.place_room hp (Nat.le_refl 1) (by omega)) hc
  | take g d k x hl hf hk h0 hx h2 => exact whole_take ok h hl hf hx
  | drop g d k hl hk h1 => exact whole_drop ok h hl hk h1
  | give g d k hl hk h1 => exact whole_give ok h hl hk h1
  | shut g d hl h1 h2 => exact whole_shut h g
  | great p n h1 h2 hp => exact whole_great ok h (St.place_room hp (Lg.pgs_pos n) (by have := Lg.pgs_bd h2; omega))
  | gdrop g hz => exact whole_gdrop ok h hz
theorem whole_new (m n key : Nat) : (St.new m n key).Whole := ⟨fun g d hl => (by cases hl), fun a hz => absurd rfl hz⟩
end Go.Proofs.YtgnfcklippjeeaaGreat
