/- Calls that empty a region. -/
import Derived.Test.YtgnfcklippjeeaaGreatVC
import Derived.Test.YtgnfcklippjeeaaGreatK7
import Derived.Test.YtgnfcklippjeeaaGreatL3
namespace Go.Proofs.YtgnfcklippjeeaaGreat
open Go.RowKit
open Sl (Cls bs upd LnkIs)
open Lg (pgs)

/-- Behind a call that takes away. -/
structure Less (w0 w w' : World) (A : Rp) (V V' : St) (cnt : Nat) : Prop where
  y : RnY w0 w' A V' cnt
  m : V'.m = V.m
  n : V'.n = V.n
  low : V.Low → V'.Low
  may : ∀ i, A.may V'.L i → A.may V.L i
  fr : Fr (A.may V.L) w w'
theorem drop_live {w0 w : World} {A : Rp} {V : St} {cnt : Nat} (h : RnY w0 w A V cnt) {p : Pc} (hp : Lv V p) :
    Calls Tryz.prog 17 #[.pointer (some ⟨A.p, 0, none⟩), .int .i64 (p.b : Nat)] w fun e w' => ∃ (bo : Bool) (V' : St), e = .returned (.tuple #[.bool bo, .int .i64 0]) ∧ Less w0 w w' A V V' cnt ∧ ∀ q, Lv V' q ↔ Lv V q ∧ q.b ≠ p.b := by
  cases hp with
  | slot g d k hl hk h1 =>
    refine (rdrop_core (R := fun W => RnAt W A (V.drop g d k) cnt) h.at_ hl hk (fun _ g1 => (h.at_.grown g1).drop_slab hl hk h1)).mono ?_
    rintro e w' ⟨rfl, hr, hf⟩
    exact ⟨_, V.drop g d k, rfl, ⟨h.step hr hf (fun _ hi => .inl (may_set hl hi)), rfl, rfl, fun hlow j hj => hlow j hj, fun _ hi => may_set hl hi, hf⟩, lv_drop h.at_.ok hl hk h1⟩
  | great g hz =>
    refine (rdrop_great h.at_ hz).mono ?_
    rintro e w' ⟨rfl, hr, hf⟩
    exact ⟨_, V.gdrop g, rfl, ⟨h.step hr hf (fun _ hi => .inl hi), rfl, rfl, fun hlow => StS.low h.at_.ok hlow (.gdrop g hz), fun _ hi => hi, hf⟩, lv_gdrop h.at_.ok hz⟩
/-- No slot from a on is held .. below it none. -/
def HeldFrom (V : St) (a : Int) : Prop := ∀ g d k, V.L g = some d → k < d.n → d.S k = 2 → a ≤ (bs g d.s k : Nat)
def Nobody (V : St) : Prop := ∀ q, ¬ Lv V q
theorem give_next {w0 w : World} {A : Rp} {V : St} {cnt : Nat} (h : RnY w0 w A V cnt) (hno : Nobody V) {a : Nat} (ha : a % 16 = 0) (hh : HeldFrom V a) :
    Calls Tryz.prog 18 #[.pointer (some ⟨A.p, 0, none⟩), .int .i64 a] w fun e w' => ∃ (er : Int) (V' : St), e = .returned (.int .i64 er) ∧ Less w0 w w' A V V' cnt ∧ Nobody V' ∧ HeldFrom V' ((a + 16 : Nat) : Int) := by
  have ok := h.at_.ok
  have step : ∀ V' : St, (∀ g d k, V'.L g = some d → k < d.n → d.S k = 2 → ∃ d0, V.L g = some d0 ∧ d0.s = d.s ∧ k < d0.n ∧ d0.S k = 2 ∧ bs g d.s k ≠ a) → HeldFrom V' ((a + 16 : Nat) : Int) := fun V' hV g d k hl hk h2 => by
    obtain ⟨d0, e1, e2, e3, e4, e5⟩ := hV g d k hl hk h2
    have := hh g d0 k e1 e3 e4
    have hm := Sl.bs_mod (ok.sl g d0 e1).2.2.c g k
    rw [e2] at this hm
    omega
  obtain ⟨x, hx⟩ := V.at_ex (a : Int)
  by_cases hn : ∀ p, x = some p → (p.b : Int) ≠ a ∨ p.gr = true
  · refine (rgive_no h.at_ hx hn).mono ?_
    rintro e w' ⟨rfl, hg⟩
    refine ⟨6, V, rfl, ⟨h.grown hg, rfl, rfl, id, fun _ hi => hi, fr_none hg⟩, hno, step V (fun g d k hl hk h2 => ⟨d, hl, rfl, hk, h2, fun hb => ?_⟩)⟩
    obtain ⟨hgm, _, hd⟩ := ok.sl g d hl
    obtain ⟨e1, e2⟩ := Sl.bs_slot hd.c g hk
    have key := St.At.slot (V := V) (a := (a : Int)) g d (bs g d.s k) (by omega) e1 (by have := ok.mn; omega) hl
    rw [e2] at key
    have := hx.uniq ok key
    rcases hn _ this with h | h
    · exact h (by show ((bs g d.s k : Nat) : Int) = a; omega)
    · exact absurd h (by simp [spc])
  · obtain ⟨p, hp⟩ := Classical.not_forall.1 hn
    obtain ⟨rfl, hb0⟩ := Classical.not_imp.1 hp
    have hb : (p.b : Int) = a := Classical.not_not.1 (fun h => hb0 (.inl h))
    have hgr : ¬ p.gr = true := fun h => hb0 (.inr h)
    cases hx with
    | slot g d x e hg hgn hl =>
      have hd := (ok.sl g d hl).2.2
      have hk := (slot_lt hd.c x).1
      generalize x % 256 / d.s = k at *
      have hb' : bs g d.s k = a := by have : ((bs g d.s k : Nat) : Int) = a := hb; omega
      rw [← hb']
      by_cases h1 : d.S k = 2
      · refine (rgive_core (R := fun W => RnAt W A (V.give g d k) cnt) h.at_ hl hk (fun _ g1 => (h.at_.grown g1).give_slab hl hk h1)).mono ?_
        rintro e w' ⟨rfl, hr, hf⟩
        refine ⟨0, V.give g d k, rfl, ⟨h.step hr hf (fun _ hi => .inl (may_set hl hi)), rfl, rfl, fun hlow j hj => hlow j hj, fun _ hi => may_set hl hi, hf⟩, fun q hq => ?_, ?_⟩
        · cases hq with
          | slot g' d' k' hl' hk' h1' =>
            by_cases e : g' = g
            · subst e
              have e : V.set g' (some { d with S := upd d.S k 0, f := k }) g' = some d' := hl'
              rw [St.set_same] at e
              injection e with e
              subst e
              have hne : k' ≠ k := fun e => by subst e; simp [upd] at h1'
              exact hno _ (.slot g' d k' hl hk' (by simpa [upd, hne] using h1'))
            · have e2 : V.L g' = some d' := by rw [← St.set_other (V := V) (x := some { d with S := upd d.S k 0, f := k }) e]; exact hl'
              exact hno _ (.slot g' d' k' e2 hk' h1')
          | great g' hz => exact hno _ (.great g' hz)
        · rw [hb']
          refine step _ (fun g' d' k' hl' hk' h2 => ?_)
          by_cases e : g' = g
          · subst e
            have e : V.set g' (some { d with S := upd d.S k 0, f := k }) g' = some d' := hl'
            rw [St.set_same] at e
            injection e with e
            subst e
            have hne : k' ≠ k := fun e => by subst e; simp [upd] at h2
            refine ⟨d, hl, rfl, hk', by simpa [upd, hne] using h2, fun hbb => hne ?_⟩
            have a1 := Sl.bs_slot hd.c g' hk
            have a2 := Sl.bs_slot hd.c g' hk'
            rw [← a1.2, ← a2.2]
            have hbb : bs g' d.s k' = a := hbb
            rw [hbb, hb']
          · have e2 : V.L g' = some d' := by rw [← St.set_other (V := V) (x := some { d with S := upd d.S k 0, f := k }) e]; exact hl'
            refine ⟨d', e2, rfl, hk', h2, fun hbb => e ?_⟩
            have a1 := (Sl.bs_slot hd.c g hk).1
            have a2 := (Sl.bs_slot (ok.sl g' d' e2).2.2.c g' hk').1
            omega
      · refine (rgive_core (R := fun W => RnAt W A V cnt) h.at_ hl hk (fun W g1 => ((h.at_.grown g1).give_slab_no hl hk h1).mono fun _ _ ⟨he, hg⟩ => ⟨he, hg ▸ h.at_.grown g1, fr_none (hg ▸ grown_refl _ _)⟩)).mono ?_
        rintro e w' ⟨rfl, hr, hf⟩
        refine ⟨_, V, rfl, ⟨h.step hr hf (fun _ hi => .inl hi), rfl, rfl, id, fun _ hi => hi, hf⟩, hno, ?_⟩
        rw [hb']
        refine step V (fun g' d' k' hl' hk' h2 => ⟨d', hl', rfl, hk', h2, fun hbb => h1 ?_⟩)
        have a1 := Sl.bs_slot hd.c g hk
        have a2 := Sl.bs_slot (ok.sl g' d' hl').2.2.c g' hk'
        rw [hbb] at a2
        rw [hb'] at a1
        obtain rfl : g' = g := by rw [← a1.1, ← a2.1]
        rw [hl] at hl'
        injection hl' with e
        subst e
        obtain rfl : k' = k := by rw [← a1.2, ← a2.2]
        exact h2
    | great g b x e hg hgn hl hz => exact absurd rfl hgr
theorem nobody_zero {V : St} (ok : V.Ok) (hno : Nobody V) (hh : HeldFrom V ((V.m * 256 : Nat) : Int)) {g : Nat} {d : Sd} (hl : V.L g = some d) {k : Nat} (hk : k < d.n) : d.S k = 0 := by
  obtain ⟨hgm, _, hd⟩ := ok.sl g d hl
  have h1 : d.S k ≠ 1 := fun e => hno _ (.slot g d k hl hk e)
  have h2 : d.S k ≠ 2 := fun e => by
    have := hh g d k hl hk e
    have := Sl.bs_hi hd.c g hk
    have : 16 ≤ d.s := by have hc := hd.c; rcases hc with ⟨_, h, _, _⟩ | ⟨_, h, _, _⟩ | ⟨_, h, _, _⟩ | ⟨_, h, _, _⟩ <;> omega
    omega
  have := hd.st k
  omega
theorem cntS_none {S : Nat → Nat} {v : Nat} (n : Nat) (h : ∀ k, k < n → S k ≠ v) : cntS S v n = 0 := cntS_zero.2 (fun k hk => by have := h k hk; omega)
/-- All slots are free. -/
def Idle (V : St) : Prop := ∀ g d, V.L g = some d → ∀ k, k < d.n → d.S k = 0
theorem shut_next {w0 w : World} {A : Rp} {V : St} {cnt : Nat} (h : RnY w0 w A V cnt) (hz : ∀ g, V.Z g = 0) (hi : Idle V) {p : Nat} (hp : p < 256) (hl : ∀ g, g < p → V.L g = none) :
    Calls Tryz.prog 19 #[.pointer (some ⟨A.p, 0, none⟩), .int .i64 p] w fun e w' => ∃ (er : Int) (V' : St), e = .returned (.int .i64 er) ∧ (er = 0 ∨ er = 6) ∧ Less w0 w w' A V V' cnt ∧ (∀ g, V'.Z g = 0) ∧ Idle V' ∧ ∀ g, g < p + 1 → V'.L g = none := by
  cases hlp : V.L p with
  | none =>
    refine (rshut_none h.at_ (p : Int) ⟨by omega, by omega⟩ (fun g hg => by rw [show g = p by omega]; exact hlp)).mono ?_
    rintro e w' ⟨rfl, hg⟩
    exact ⟨6, V, rfl, .inr rfl, ⟨h.grown hg, rfl, rfl, id, fun _ hi => hi, fr_none hg⟩, hz, hi, fun g hg => by
      by_cases e : g = p
      · rw [e]; exact hlp
      · exact hl g (by omega)⟩
  | some d =>
    have h1 := cntS_none (S := d.S) (v := 1) d.n (fun k hk => by rw [hi p d hlp k hk]; decide)
    have h2 := cntS_none (S := d.S) (v := 2) d.n (fun k hk => by rw [hi p d hlp k hk]; decide)
    refine (rshut_ok h.at_ hlp h1 h2).mono ?_
    rintro e w' ⟨rfl, hr, hf⟩
    refine ⟨0, V.shut p, rfl, .inl rfl, ⟨h.step hr hf (fun _ hi => .inl (may_unset hi)), rfl, rfl, fun hlow => StS.low h.at_.ok hlow (.shut p d hlp h1 h2), fun _ hi => may_unset hi, hf⟩, hz, fun g d' hl' => ?_, fun g hg => ?_⟩
    · by_cases e : g = p
      · subst e; have : V.set g none g = some d' := hl'; rw [St.set_same] at this; cases this
      · have e2 : V.L g = some d' := by rw [← St.set_other (V := V) (x := none) e]; exact hl'
        exact hi g d' e2
    · by_cases e : g = p
      · subst e; exact St.set_same V g none
      · show V.set p none g = none
        rw [St.set_other e]; exact hl g (by omega)
theorem nobody_z {V : St} (hno : Nobody V) (g : Nat) : V.Z g = 0 := Classical.not_not.1 (fun h => hno _ (.great g h))
/-- All pages are free. -/
theorem all_free {V : St} (ok : V.Ok) (low : V.Low) (hl : ∀ g, g < V.m → V.L g = none) (hz : ∀ g, V.Z g = 0) {g : Nat} (hg : g < V.n) : V.R g = Pg.zero := by
  have hl' : V.L g = none := by
    cases e : V.L g with
    | none => rfl
    | some d => have := (ok.sl g d e).1; rw [hl g this] at e; cases e
  rcases ok.other hg hl' (fun a ha => ha.1 (hz a)) with h | ⟨k, h1, h2, h3⟩
  · exact h
  · exact absurd h2 (ok.no4 low (by omega))
theorem cnt_free {R : Nat → Pg.Row} {m : Nat} : ∀ n, (∀ g, g < n → (R g).k = 0) → Pg.cnt R 0 (m : Int) 0 n = min n m
  | 0, _ => by simp [Pg.cnt]
  | n + 1, h => by
    have ih := cnt_free (m := m) n (fun g hg => h g (by omega))
    simp only [Pg.cnt]
    rw [ih, h n (by omega)]
    by_cases e : n < m
    · rw [if_pos ⟨by omega, by omega, rfl⟩]; omega
    · rw [if_neg (by omega)]; omega
end Go.Proofs.YtgnfcklippjeeaaGreat
