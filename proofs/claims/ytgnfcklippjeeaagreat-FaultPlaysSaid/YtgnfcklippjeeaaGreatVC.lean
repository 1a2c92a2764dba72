/- What is live: places, lists, what a call does to them. -/
import Derived.Test.YtgnfcklippjeeaaGreatVA
import Derived.Test.YtgnfcklippjeeaaGreatTB
namespace Go.Proofs.YtgnfcklippjeeaaGreat
open Sl (Cls bs upd LnkIs)
open Lg (pgs)

inductive Lv (V : St) : Pc → Prop
  | slot (g : Nat) (d : Sd) (k : Nat) (hl : V.L g = some d) (hk : k < d.n) (h1 : d.S k = 1) : Lv V (spc g d k)
  | great (g : Nat) (hz : V.Z g ≠ 0) : Lv V (gpc g (V.Z g))
theorem St.At.uniq {V : St} (ok : V.Ok) {a : Int} {x y : Option Pc} (hx : V.At a x) (hy : V.At a y) : x = y := by
  cases hx with
  | out h => cases hy with
    | out h' => rfl
    | none g x e hg hn hl hz => omega
    | slot g d x e hg hn hl => omega
    | great g h x e hg hn hl hz => omega
  | none g x e hg hn hl hz => cases hy with
    | out h' => rfl
    | none g x e hg hn hl hz => rfl
    | slot g' d' x' e' hg' hn' hl' => obtain rfl : x = x' := by omega
                                      subst hg; subst hg'; rw [hl] at hl'; cases hl'
    | great g' h' x' e' hg' hn' hl' hz' => obtain rfl : x = x' := by omega
                                           subst hg; subst hg'; exact absurd hz' (hz h')
  | slot g d x e hg hn hl => cases hy with
    | out h' => omega
    | none g' x' e' hg' hn' hl' hz' => obtain rfl : x = x' := by omega
                                       subst hg; subst hg'; rw [hl] at hl'; cases hl'
    | slot g' d' x' e' hg' hn' hl' => obtain rfl : x = x' := by omega
                                      subst hg; subst hg'; rw [hl] at hl'; cases hl'; rfl
    | great g' h' x' e' hg' hn' hl' hz' => obtain rfl : x = x' := by omega
                                           subst hg; subst hg'; rw [hl] at hl'; cases hl'
  | great g h x e hg hn hl hz => cases hy with
    | out h' => omega
    | none g' x' e' hg' hn' hl' hz' => obtain rfl : x = x' := by omega
                                       subst hg; subst hg'; exact absurd hz (hz' h)
    | slot g' d' x' e' hg' hn' hl' => obtain rfl : x = x' := by omega
                                      subst hg; subst hg'; rw [hl] at hl'; cases hl'
    | great g' h' x' e' hg' hn' hl' hz' => obtain rfl : x = x' := by omega
                                           subst hg; subst hg'; rw [ok.gr_uniq hz hz']
theorem Lv.at_ {V : St} (ok : V.Ok) {p : Pc} (h : Lv V p) : V.At (p.b : Int) (some p) ∧ p.st = 1 := by
  have hmn := ok.mn
  cases h with
  | slot g d k hl hk h1 =>
    obtain ⟨hgm, _, hd⟩ := ok.sl g d hl
    obtain ⟨e1, e2⟩ := Sl.bs_slot hd.c g hk
    have key := St.At.slot (V := V) (a := ((bs g d.s k : Nat) : Int)) g d _ rfl e1 (by omega) hl
    rw [e2] at key
    exact ⟨key, h1⟩
  | great g hz =>
    have hp := Lg.pgs_pos (V.Z g)
    have hgr : V.Gr g g := ⟨hz, Nat.le_refl _, by omega⟩
    have := (ok.gr g hz).2.2.1
    exact ⟨.great g g (g * 256) rfl (by omega) (by omega) (ok.sl_gr hgr) hgr, rfl⟩
theorem Lv.inj {V : St} (ok : V.Ok) {p q : Pc} (hp : Lv V p) (hq : Lv V q) (hb : p.b = q.b) : p = q := by
  have h1 := (hp.at_ ok).1
  have h2 := (hq.at_ ok).1
  rw [hb] at h1
  have := h1.uniq ok h2
  injection this
theorem lv_drop {V : St} (ok : V.Ok) {g k : Nat} {d : Sd} (hl : V.L g = some d) (hk : k < d.n) (h1 : d.S k = 1) (q : Pc) : Lv (V.drop g d k) q ↔ Lv V q ∧ q.b ≠ bs g d.s k := by
  constructor
  · intro h
    cases h with
    | slot g' d' k' hl' hk' h1' =>
      by_cases e : g' = g
      · subst e
        have e : V.set g' (some { d with S := upd d.S k 2 }) g' = some d' := hl'
        rw [St.set_same] at e
        injection e with e
        subst e
        have hne : k' ≠ k := fun e => by subst e; simp [upd] at h1'
        have h1'' : d.S k' = 1 := by simpa [upd, hne] using h1'
        have hs : spc g' { d with S := upd d.S k 2 } k' = spc g' d k' := by simp [spc, upd, hne]
        rw [hs]
        refine ⟨.slot g' d k' hl hk' h1'', fun hb => hne ?_⟩
        have := Lv.inj ok (.slot g' d k' hl hk' h1'') (.slot g' d k hl hk h1) hb
        exact congrArg Pc.k this
      · have e2 : V.L g' = some d' := by rw [← St.set_other (V := V) (x := some { d with S := upd d.S k 2 }) e]; exact hl'
        refine ⟨.slot g' d' k' e2 hk' h1', fun hb => e ?_⟩
        have := Lv.inj ok (.slot g' d' k' e2 hk' h1') (.slot g d k hl hk h1) hb
        exact congrArg Pc.g this
    | great g' hz =>
      have hz' : V.Z g' ≠ 0 := hz
      refine ⟨.great g' hz', fun hb => ?_⟩
      have := Lv.inj ok (.great g' hz') (.slot g d k hl hk h1) hb
      exact absurd (congrArg Pc.gr this) (by simp [spc, gpc])
  · rintro ⟨h, hb⟩
    cases h with
    | slot g' d' k' hl' hk' h1' =>
      by_cases e : g' = g
      · subst e
        rw [hl] at hl'
        injection hl' with e
        subst e
        have hne : k' ≠ k := fun e => by subst e; exact hb rfl
        have hs : spc g' { d with S := upd d.S k 2 } k' = spc g' d k' := by simp [spc, upd, hne]
        rw [← hs]
        exact .slot g' _ k' (St.set_same V g' _) hk' (by simpa [upd, hne] using h1')
      · exact .slot g' d' k' (by show V.set g _ g' = _; rw [St.set_other e]; exact hl') hk' h1'
    | great g' hz => exact Lv.great (V := V.drop g d k) g' hz
theorem lv_gdrop {V : St} (ok : V.Ok) {g : Nat} (hz : V.Z g ≠ 0) (q : Pc) : Lv (V.gdrop g) q ↔ Lv V q ∧ q.b ≠ g * 256 := by
  constructor
  · intro h
    cases h with
    | slot g' d' k' hl' hk' h1' =>
      refine ⟨.slot g' d' k' hl' hk' h1', fun hb => ?_⟩
      have := Lv.inj ok (.slot g' d' k' hl' hk' h1') (.great g hz) hb
      exact absurd (congrArg Pc.gr this) (by simp [spc, gpc])
    | great g' hz' =>
      have e : g' ≠ g := fun e => hz' (by subst e; show upd V.Z g' 0 g' = 0; simp [upd])
      have e2 : (V.gdrop g).Z g' = V.Z g' := by show upd V.Z g 0 g' = _; simp [upd, e]
      rw [e2] at hz' ⊢
      exact ⟨.great g' hz', fun hb => e (by have : g' * 256 = g * 256 := hb; omega)⟩
  · rintro ⟨h, hb⟩
    cases h with
    | slot g' d' k' hl' hk' h1' => exact Lv.slot (V := V.gdrop g) g' d' k' hl' hk' h1'
    | great g' hz' =>
      have e : g' ≠ g := fun e => hb (by subst e; rfl)
      have e2 : (V.gdrop g).Z g' = V.Z g' := by show upd V.Z g 0 g' = _; simp [upd, e]
      rw [← e2]
      exact Lv.great (V := V.gdrop g) g' (by rw [e2]; exact hz')
theorem mem_lvS {g : Nat} {d : Sd} {p : Pc} : ∀ n, p ∈ lvS g d n ↔ ∃ k, k < n ∧ d.S k = 1 ∧ p = spc g d k
  | 0 => by simp [lvS]
  | n + 1 => by
    have ih := mem_lvS (g := g) (d := d) (p := p) n
    unfold lvS
    split
    · rename_i h
      rw [List.mem_append, ih, List.mem_singleton]
      constructor
      · rintro (⟨k, h1, h2⟩ | h1)
        · exact ⟨k, by omega, h2⟩
        · exact ⟨n, by omega, h, h1⟩
      · rintro ⟨k, h1, h2, h3⟩
        by_cases e : k = n
        · subst e; exact .inr h3
        · exact .inl ⟨k, by omega, h2, h3⟩
    · rename_i h
      rw [ih]
      constructor
      · rintro ⟨k, h1, h2⟩; exact ⟨k, by omega, h2⟩
      · rintro ⟨k, h1, h2, h3⟩
        exact ⟨k, by by_cases e : k = n
                     · subst e; exact absurd h2 h
                     · omega, h2, h3⟩
theorem mem_lvP {V : St} (ok : V.Ok) {p : Pc} {g : Nat} : p ∈ lvP V g ↔ Lv V p ∧ p.g = g := by
  unfold lvP
  split
  · rename_i hz
    rw [List.mem_singleton]
    constructor
    · rintro rfl; exact ⟨.great g hz, rfl⟩
    · rintro ⟨h, hg⟩
      cases h with
      | slot g' d k hl hk h1 =>
        obtain rfl : g' = g := hg
        have := Lg.pgs_pos (V.Z g')
        have := ok.sl_gr (a := g') (g := g') ⟨hz, Nat.le_refl _, by omega⟩
        rw [hl] at this; cases this
      | great g' hz' => obtain rfl : g' = g := hg; rfl
  · rename_i hz
    cases hl : V.L g with
    | none =>
      simp only [List.not_mem_nil, false_iff]
      rintro ⟨h, hg⟩
      cases h with
      | slot g' d k hl' hk h1 => obtain rfl : g' = g := hg; rw [hl] at hl'; cases hl'
      | great g' hz' => obtain rfl : g' = g := hg; exact hz hz'
    | some d =>
      simp only []
      rw [mem_lvS]
      constructor
      · rintro ⟨k, hk, h1, rfl⟩; exact ⟨.slot g d k hl hk h1, rfl⟩
      · rintro ⟨h, hg⟩
        cases h with
        | slot g' d' k hl' hk h1 => obtain rfl : g' = g := hg; rw [hl] at hl'; injection hl' with e; subst e; exact ⟨k, hk, h1, rfl⟩
        | great g' hz' => obtain rfl : g' = g := hg; exact absurd hz' hz
theorem mem_lvL {V : St} (ok : V.Ok) {p : Pc} : ∀ m, p ∈ lvL V m ↔ Lv V p ∧ p.g < m
  | 0 => by simp [lvL]
  | m + 1 => by
    unfold lvL
    rw [List.mem_append, mem_lvL ok m, mem_lvP ok]
    constructor
    · rintro (⟨h, h1⟩ | ⟨h, h1⟩) <;> exact ⟨h, by omega⟩
    · rintro ⟨h, h1⟩
      by_cases e : p.g = m
      · exact .inr ⟨h, e⟩
      · exact .inl ⟨h, by omega⟩
theorem Lv.low {V : St} (ok : V.Ok) {p : Pc} (h : Lv V p) : p.g < V.m := by
  cases h with
  | slot g d k hl hk h1 => exact (ok.sl g d hl).1
  | great g hz => have := (ok.gr g hz).2.2.1; have := Lg.pgs_pos (V.Z g); show g < V.m; omega
theorem mem_live {V : St} (ok : V.Ok) {p : Pc} : p ∈ lvL V V.m ↔ Lv V p := by
  rw [mem_lvL ok]
  exact ⟨fun h => h.1, fun h => ⟨h, h.low ok⟩⟩
/-- The list rises. -/
theorem lvS_rise {V : St} (ok : V.Ok) {g : Nat} {d : Sd} (hl : V.L g = some d) : ∀ n, (lvS g d n).Pairwise (fun p q => p.b < q.b)
  | 0 => by simp [lvS]
  | n + 1 => by
    have ih := lvS_rise ok hl n
    unfold lvS
    split
    · refine List.pairwise_append.2 ⟨ih, by simp, fun p hp q hq => ?_⟩
      obtain ⟨k, hk, _, rfl⟩ := (mem_lvS n).1 hp
      obtain rfl := List.mem_singleton.1 hq
      show bs g d.s k < bs g d.s n
      have hc := (ok.sl g d hl).2.2.c
      unfold bs
      rcases hc with ⟨_, h, _, _⟩ | ⟨_, h, _, _⟩ | ⟨_, h, _, _⟩ | ⟨_, h, _, _⟩ <;> rw [h] <;> omega
    · exact ih
theorem Lv.page {V : St} (ok : V.Ok) {p : Pc} (h : Lv V p) : p.g * 256 ≤ p.b ∧ p.b < p.g * 256 + 256 := by
  cases h with
  | slot g d k hl hk h1 =>
    have hc := (ok.sl g d hl).2.2.c
    have := (Sl.bs_slot hc g hk).1
    show g * 256 ≤ bs g d.s k ∧ bs g d.s k < g * 256 + 256
    omega
  | great g hz => show g * 256 ≤ g * 256 ∧ g * 256 < g * 256 + 256; omega
theorem lvP_rise {V : St} (ok : V.Ok) (g : Nat) : (lvP V g).Pairwise (fun p q => p.b < q.b) := by
  unfold lvP
  split
  · simp
  · cases hl : V.L g with
    | none => simp
    | some d => exact lvS_rise ok hl _
theorem lvL_rise {V : St} (ok : V.Ok) : ∀ m, (lvL V m).Pairwise (fun p q => p.b < q.b)
  | 0 => by simp [lvL]
  | m + 1 => by
    unfold lvL
    refine List.pairwise_append.2 ⟨lvL_rise ok m, lvP_rise ok m, fun p hp q hq => ?_⟩
    obtain ⟨h1, h2⟩ := (mem_lvL ok m).1 hp
    obtain ⟨h3, h4⟩ := (mem_lvP ok).1 hq
    have := h1.page ok
    have := h3.page ok
    omega
theorem lvL_nil {V : St} (ok : V.Ok) (h : ∀ p, ¬ Lv V p) : lvL V V.m = [] := by
  apply List.eq_nil_iff_forall_not_mem.2
  intro p hp
  exact h p ((mem_live ok).1 hp)
end Go.Proofs.YtgnfcklippjeeaaGreat
