/- Live places are apart. -/
import Derived.Test.YtgnfcklippjeeaaGreatVE
namespace Go.Proofs.YtgnfcklippjeeaaGreat
open Sl (Cls bs upd LnkIs)
open Lg (pgs)

theorem Lv.fit {V : St} (ok : V.Ok) {p : Pc} (h : Lv V p) : p.b % 16 = 0 ∧ p.b + p.z ≤ V.m * 256 ∧ p.st = 1 ∧ p.z ≤ 4096 ∧ 1 ≤ p.z := by
  cases h with
  | slot g d k hl hk h1 =>
    obtain ⟨hgm, _, hd⟩ := ok.sl g d hl
    have a1 := Sl.bs_mod hd.c g k
    have a2 := Sl.bs_hi hd.c g hk
    have a3 := hd.c.facts.rs
    have a4 := hd.c.facts.s128
    have a5 := hd.c.facts.s16
    refine ⟨a1, ?_, h1, ?_, ?_⟩
    · show bs g d.s k + d.r ≤ V.m * 256; omega
    · show d.r ≤ 4096; omega
    · show 1 ≤ d.r; omega
  | great g hz =>
    obtain ⟨z1, z2, z3, _⟩ := ok.gr g hz
    have : V.Z g + 8 ≤ pgs (V.Z g) * 256 := by unfold pgs; omega
    refine ⟨by show g * 256 % 16 = 0; omega, ?_, rfl, z2, ?_⟩
    · show g * 256 + V.Z g ≤ V.m * 256
      omega
    · show 1 ≤ V.Z g; omega
theorem Lv.apart {V : St} (ok : V.Ok) {p q : Pc} (hp : Lv V p) (hq : Lv V q) (hb : p.b < q.b) : p.b + p.z ≤ q.b := by
  have pp := hp.page ok
  have pq := hq.page ok
  cases hp with
  | slot g d k hl hk h1 =>
    have hc := (ok.sl g d hl).2.2.c
    have a2 := Sl.bs_hi hc g hk
    have a3 := hc.facts.rs
    have pp : g * 256 ≤ bs g d.s k ∧ bs g d.s k < g * 256 + 256 := pp
    have hb : bs g d.s k < q.b := hb
    show bs g d.s k + d.r ≤ q.b
    by_cases e : q.g = g
    · cases hq with
      | slot g' d' k' hl' hk' h1' =>
        obtain rfl : g' = g := e
        rw [hl] at hl'
        injection hl' with e2
        subst e2
        have hb : bs g' d.s k < bs g' d.s k' := hb
        have := Sl.bs_apart hc g' (j := k) (k := k') (fun e => by subst e; omega)
        show bs g' d.s k + d.r ≤ bs g' d.s k'
        omega
      | great g' hz =>
        obtain rfl : g' = g := e
        have hpos := Lg.pgs_pos (V.Z g')
        exact absurd ⟨hz, Nat.le_refl _, by omega⟩ (sl_ngr ok hl g')
    · omega
  | great g hz =>
    have hpos := Lg.pgs_pos (V.Z g)
    have hz8 : V.Z g + 8 ≤ pgs (V.Z g) * 256 := by unfold pgs; omega
    have hb : g * 256 < q.b := hb
    show g * 256 + V.Z g ≤ q.b
    by_cases e : q.g < g + pgs (V.Z g)
    · have hge : g ≤ q.g := by omega
      cases hq with
      | slot g' d' k' hl' hk' h1' => exact absurd ⟨hz, hge, e⟩ (sl_ngr ok hl' g)
      | great g' hz' =>
        have hpos' := Lg.pgs_pos (V.Z g')
        have e2 := ok.gr_uniq (g := g') ⟨hz, hge, e⟩ ⟨hz', Nat.le_refl _, by omega⟩
        subst e2
        have hb : g * 256 < g * 256 := hb
        omega
    · omega
theorem lvL_apart {V : St} (ok : V.Ok) : (lvL V V.m).Pairwise (fun p q => p.b + p.z ≤ q.b) :=
  (List.Pairwise.and_mem.1 (lvL_rise ok V.m)).imp (fun ⟨h1, h2, h3⟩ => Lv.apart ok ((mem_live ok).1 h1) ((mem_live ok).1 h2) h3)
theorem drop_after {L : List Pc} (hL : L.Pairwise (fun p q => p.b + p.z ≤ q.b)) {k : Nat} (hk : k < L.length) {q : Pc} (hq : q ∈ L.drop (k + 1)) : L[k].b + L[k].z ≤ q.b := by
  have hd : L.drop k = L[k] :: L.drop (k + 1) := List.drop_eq_getElem_cons hk
  have hp := hL.sublist (List.drop_sublist k L)
  rw [hd] at hp
  exact (List.pairwise_cons.1 hp).1 q hq
theorem lv_write {V : St} {a n : Nat} {W : Nat → Nat} (q : Pc) : Lv (V.write a n W) q ↔ Lv V q := by
  constructor
  · intro h
    cases h with
    | slot g d k hl hk h1 => exact Lv.slot (V := V) g d k hl hk h1
    | great g hz => exact Lv.great (V := V) g hz
  · intro h
    cases h with
    | slot g d k hl hk h1 => exact Lv.slot (V := V.write a n W) g d k hl hk h1
    | great g hz => exact Lv.great (V := V.write a n W) g hz
end Go.Proofs.YtgnfcklippjeeaaGreat
