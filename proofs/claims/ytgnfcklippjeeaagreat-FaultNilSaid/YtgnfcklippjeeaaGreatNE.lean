/- What a region's memory is behind each piece of a call. -/
import Derived.Test.YtgnfcklippjeeaaGreatND
namespace Go.Proofs.YtgnfcklippjeeaaGreat
open Go.RowKit
open Go.Maps (Keyed)
open Sl (Cls bs upd FOk LnkIs)
open Lg (pgs)

theorem RnW.may_lt {w : World} {A : Rp} {V : St} {cnt : Nat} (h : RnW w A V cnt) {i : Nat} (hi : A.may V.L i) : i < w.heap.size := by
  obtain ⟨D, hD, _⟩ := h.mp
  obtain ⟨E, hE⟩ := h.lg
  rcases hi with rfl | rfl | rfl | rfl | ⟨k, d, hk, rfl | rfl | rfl⟩
  · exact h.ar.b.qlt
  · exact h.tab.rows.qlt
  · exact hD.lt
  · exact hE.map.lt
  · exact (h.sl k d hk).own.plt
  · exact (h.sl k d hk).l.qlt
  · exact (h.sl k d hk).h.qlt
/-- By their labels blocks are others than those that may be written into. -/
theorem Labs.not_may {A : Rp} {L : Nat → Option Sd} (l : Labs A L) {b y : Nat} (hb : A.lab b = y) (hy : y = 0 ∨ y = 1 ∨ y = 3 ∨ y = 6 ∨ ∃ k, y = 11 + 4 * k) : ¬ A.may L b := by
  rintro (rfl | rfl | rfl | rfl | ⟨k, d, hk, rfl | rfl | rfl⟩)
  · have := l.qa; omega
  · have := l.qt; omega
  · have := l.pm; omega
  · have := l.mg; omega
  · have := (l.x k d hk).1; omega
  · have := (l.x k d hk).2.1; omega
  · have := (l.x k d hk).2.2.1; omega
theorem Labs.not_slab {A : Rp} {L : Nat → Option Sd} (l : Labs A L) {g b y : Nat} {d : Sd} (hd : L g = some d) (hb : A.lab b = y) (h2 : y ≠ 2) (h8 : y ≠ 8 + 4 * g) (h9 : y ≠ 9 + 4 * g) (h10 : y ≠ 10 + 4 * g) : ¬ (A.xs g).may b := by
  obtain ⟨x1, x2, x3, _, _, _, x7⟩ := l.x g d hd
  unfold Pl.may
  rw [x7]
  rintro (rfl | rfl | rfl | rfl)
  · omega
  · have := l.qa; omega
  · omega
  · omega
theorem Labs.set {A : Rp} {V : St} (l : Labs A V.L) {g : Nat} {d d' : Sd} (hd : V.L g = some d) : Labs A (V.set g (some d')) :=
  ⟨l.p, l.pa, l.qa, l.pt, l.qt, l.pm, l.pg, l.mg, fun k e hk => by
    by_cases x : k = g
    · subst x; exact l.x k d hd
    · rw [St.set_other x] at hk; exact l.x k e hk⟩
theorem Labs.unset {A : Rp} {V : St} (l : Labs A V.L) {g : Nat} : Labs A (V.set g none) :=
  ⟨l.p, l.pa, l.qa, l.pt, l.qt, l.pm, l.pg, l.mg, fun k e hk => by
    by_cases x : k = g
    · subst x; rw [St.set_same] at hk; cases hk
    · rw [St.set_other x] at hk; exact l.x k e hk⟩
theorem zs_set {A : Rp} {V : St} {g : Nat} {d d' : Sd} (hd : V.L g = some d) : A.zs (V.set g (some d')) = A.zs V.L := by
  funext k
  unfold Rp.zs
  by_cases x : k = g
  · subst x; rw [St.set_same, hd]
  · rw [St.set_other x]
theorem slab_may {A : Rp} {L : Nat → Option Sd} (l : Labs A L) {g i : Nat} {d : Sd} (hd : L g = some d) (hi : (A.xs g).may i) : A.may L i := by
  have x7 := (l.x g d hd).2.2.2.2.2.2
  unfold Pl.may at hi
  rw [x7] at hi
  rcases hi with rfl | rfl | rfl | rfl
  · exact .inr (.inr (.inr (.inr ⟨g, d, hd, .inl rfl⟩)))
  · exact .inl rfl
  · exact .inr (.inr (.inr (.inr ⟨g, d, hd, .inr (.inl rfl)⟩)))
  · exact .inr (.inr (.inr (.inr ⟨g, d, hd, .inr (.inr rfl)⟩)))
theorem Fr.wide {may may' : Nat → Prop} {w w' : World} (h : Fr may w w') (hm : ∀ i, may i → may' i) : Fr may' w w' := ⟨h.os, h.tape, h.output, h.size, fun i hi hn => h.block i hi (fun x => hn (hm i x))⟩

/-- A slab's call has turned it and the bytes. -/
theorem RnW.slab {w w' : World} {A : Rp} {V : St} {cnt g : Nat} {d d' : Sd} {B' : Nat → Nat} (h : RnW w A V cnt) (hd : V.L g = some d) (hf : Fr (A.xs g).may w w')
    (hs : SlAt w' (A.xs g) (nmOf A V g d') d'.S d'.f B') : RnW w' A { V with B := B', L := V.set g (some d') } cnt := by
  have l := h.lab
  obtain ⟨_, _, _, _, _, x6, x7⟩ := l.x g d hd
  have nm : ∀ {b y}, A.lab b = y → y ≠ 2 → y ≠ 8 + 4 * g → y ≠ 9 + 4 * g → y ≠ 10 + 4 * g → ¬ (A.xs g).may b := fun a b c d e => l.not_slab hd a b c d e
  have hp := nm l.p (by omega) (by omega) (by omega) (by omega)
  have har : An.ArAt w' A.pa A.qa (V.n * 256) A.acap B' none := by have := hs.ar; rw [x6, x7] at this; exact this
  obtain ⟨D, hD, hi⟩ := h.mp
  obtain ⟨E, hE⟩ := h.lg
  refine ⟨hf.cell h.c0 hp, hf.cell h.c1 hp, hf.cell h.c2 hp, hf.cell h.c3 hp, hf.cell h.c4 hp, hf.cell h.c5 hp, hf.cell h.c6 hp, hf.cell h.c7 hp, har,
    tab_fr h.tab hf (nm l.pt (by omega) (by omega) (by omega) (by omega)) (nm l.qt (by omega) (by omega) (by omega) (by omega)),
    ⟨D, map_fr hD hf (nm l.pm (by omega) (by omega) (by omega) (by omega)), by show MapIs D (A.zs (V.set g (some d'))); rw [zs_set hd]; exact hi⟩,
    ⟨E, hE.fr hf (nm l.pg (by omega) (by omega) (by omega) (by omega)) (nm l.mg (by omega) (by omega) (by omega) (by omega)) har⟩, fun k e hk => ?_, l.set hd⟩
  have hk' : V.set g (some d') k = some e := hk
  by_cases x : k = g
  · subst x
    rw [St.set_same] at hk'
    cases hk'
    exact hs
  · rw [St.set_other x] at hk'
    obtain ⟨y1, y2, y3, y4, y5, y6, y7⟩ := l.x k e hk'
    exact (h.sl k e hk').fr hf (nm y1 (by omega) (by omega) (by omega) (by omega)) (nm y4 (by omega) (by omega) (by omega) (by omega)) (nm y2 (by omega) (by omega) (by omega) (by omega)) (nm y5 (by omega) (by omega) (by omega) (by omega)) (nm y3 (by omega) (by omega) (by omega) (by omega)) (by rw [y6, y7]; exact har)
/-- The bytes alone have turned. -/
theorem RnW.bytes {w w' : World} {A : Rp} {V : St} {cnt : Nat} {B' : Nat → Nat} (h : RnW w A V cnt) (hf : Fr (fun i => i = A.qa) w w') (har : An.ArAt w' A.pa A.qa (V.n * 256) A.acap B' none) : RnW w' A { V with B := B' } cnt := by
  have l := h.lab
  have nm : ∀ {b y}, A.lab b = y → y ≠ 2 → ¬ b = A.qa := fun hb hy => lab_ne hb l.qa hy
  have hp := nm l.p (by omega)
  obtain ⟨D, hD, hi⟩ := h.mp
  obtain ⟨E, hE⟩ := h.lg
  refine ⟨hf.cell h.c0 hp, hf.cell h.c1 hp, hf.cell h.c2 hp, hf.cell h.c3 hp, hf.cell h.c4 hp, hf.cell h.c5 hp, hf.cell h.c6 hp, hf.cell h.c7 hp, har,
    tab_fr h.tab hf (nm l.pt (by omega)) (nm l.qt (by omega)), ⟨D, map_fr hD hf (nm l.pm (by omega)), hi⟩, ⟨E, hE.fr hf (nm l.pg (by omega)) (nm l.mg (by omega)) har⟩, fun k e hk => ?_, l⟩
  obtain ⟨y1, y2, y3, y4, y5, y6, y7⟩ := l.x k e hk
  exact (h.sl k e hk).fr hf (nm y1 (by omega)) (nm y4 (by omega)) (nm y2 (by omega)) (nm y5 (by omega)) (nm y3 (by omega)) (by rw [y6, y7]; exact har)
/-- The rows alone have turned. -/
theorem RnW.table {w w' : World} {A : Rp} {V : St} {cnt : Nat} {R' : Nat → Pg.Row} (h : RnW w A V cnt) (hg : w.grownBy w' (some A.qt)) (ht : Pt.TabAt w' A.pt A.qt V.n A.tcap R') : RnW w' A { V with R := R' } cnt := by
  have l := h.lab
  have hf := fr_some (may := fun i => i = A.qt) hg (fun _ => rfl)
  have nm : ∀ {b y}, A.lab b = y → y ≠ 4 → ¬ b = A.qt := fun hb hy => lab_ne hb l.qt hy
  have hp := nm l.p (by omega)
  obtain ⟨D, hD, hi⟩ := h.mp
  obtain ⟨E, hE⟩ := h.lg
  have har := ar_fr h.ar hf (nm l.pa (by omega)) (nm l.qa (by omega))
  refine ⟨hf.cell h.c0 hp, hf.cell h.c1 hp, hf.cell h.c2 hp, hf.cell h.c3 hp, hf.cell h.c4 hp, hf.cell h.c5 hp, hf.cell h.c6 hp, hf.cell h.c7 hp, har,
    ht, ⟨D, map_fr hD hf (nm l.pm (by omega)), hi⟩, ⟨E, hE.fr hf (nm l.pg (by omega)) (nm l.mg (by omega)) har⟩, fun k e hk => ?_, l⟩
  obtain ⟨y1, y2, y3, y4, y5, y6, y7⟩ := l.x k e hk
  exact (h.sl k e hk).fr hf (nm y1 (by omega)) (nm y4 (by omega)) (nm y2 (by omega)) (nm y5 (by omega)) (nm y3 (by omega)) (by rw [y6, y7]; exact har)
/-- The great blocks and the bytes have turned. -/
theorem RnW.large {w w' : World} {A : Rp} {V : St} {cnt cnt' : Nat} {Z' B' : Nat → Nat} (h : RnW w A V cnt) (hc : cnt ≤ cnt') (hf : Fr (A.lp V).may w w') (hl : ∃ D, LgAt w' (A.lp V) cnt' D Z' B') : RnW w' A { V with Z := Z', B := B' } cnt' := by
  have l := h.lab
  have nm : ∀ {b y}, A.lab b = y → y ≠ 2 → y ≠ 7 → ¬ (A.lp V).may b := fun hb h2 h7 => by
    unfold Lp.may Rp.lp
    rintro (e | e)
    · exact lab_ne hb l.qa h2 e
    · exact lab_ne hb l.mg h7 e
  have hp := nm l.p (by omega) (by omega)
  obtain ⟨D, hD, hi⟩ := h.mp
  obtain ⟨E, hE⟩ := hl
  have har : An.ArAt w' A.pa A.qa (V.n * 256) A.acap B' none := hE.ar
  refine ⟨hf.cell h.c0 hp, hf.cell h.c1 hp, hf.cell h.c2 hp, hf.cell h.c3 hp, hf.cell h.c4 hp, hf.cell h.c5 hp, hf.cell h.c6 hp, hf.cell h.c7 hp, har,
    tab_fr h.tab hf (nm l.pt (by omega) (by omega)) (nm l.qt (by omega) (by omega)), ⟨D, (map_fr hD hf (nm l.pm (by omega) (by omega))).mono hc, hi⟩, ⟨E, hE⟩, fun k e hk => ?_, l⟩
  obtain ⟨y1, y2, y3, y4, y5, y6, y7⟩ := l.x k e hk
  exact (h.sl k e hk).fr hf (nm y1 (by omega) (by omega)) (nm y4 (by omega) (by omega)) (nm y2 (by omega) (by omega)) (nm y5 (by omega) (by omega)) (nm y3 (by omega) (by omega)) (by rw [y6, y7]; exact har)
/-- The map of the pages of slots alone has turned: one is gone. -/
theorem RnW.unset {w w' : World} {A : Rp} {V : St} {cnt g : Nat} (h : RnW w A V cnt) (hg : w.grownBy w' (some A.pm)) (hm : ∃ D, w'.ownsMap Tryz.prog 3 ptrElem A.pm cnt D ∧ MapIs D (upd (A.zs V.L) g 0)) : RnW w' A { V with L := V.set g none } cnt := by
  have l := h.lab
  have hf := fr_some (may := fun i => i = A.pm) hg (fun _ => rfl)
  have nm : ∀ {b y}, A.lab b = y → y ≠ 5 → ¬ b = A.pm := fun hb hy => lab_ne hb l.pm hy
  have hp := nm l.p (by omega)
  obtain ⟨D, hD, hi⟩ := hm
  obtain ⟨E, hE⟩ := h.lg
  have har := ar_fr h.ar hf (nm l.pa (by omega)) (nm l.qa (by omega))
  have ez : A.zs (V.set g none) = upd (A.zs V.L) g 0 := by
    funext k
    unfold Rp.zs upd
    by_cases x : k = g
    · subst x; rw [St.set_same, if_pos rfl]
    · rw [St.set_other x, if_neg x]
  refine ⟨hf.cell h.c0 hp, hf.cell h.c1 hp, hf.cell h.c2 hp, hf.cell h.c3 hp, hf.cell h.c4 hp, hf.cell h.c5 hp, hf.cell h.c6 hp, hf.cell h.c7 hp, har,
    tab_fr h.tab hf (nm l.pt (by omega)) (nm l.qt (by omega)), ⟨D, hD, by show MapIs D (A.zs (V.set g none)); rw [ez]; exact hi⟩, ⟨E, hE.fr hf (nm l.pg (by omega)) (nm l.mg (by omega)) har⟩, fun k e hk => ?_, l.unset⟩
  have hk' : V.set g none k = some e := hk
  by_cases x : k = g
  · subst x; rw [St.set_same] at hk'; cases hk'
  · rw [St.set_other x] at hk'
    obtain ⟨y1, y2, y3, y4, y5, y6, y7⟩ := l.x k e hk'
    exact (h.sl k e hk').fr hf (nm y1 (by omega)) (nm y4 (by omega)) (nm y2 (by omega)) (nm y5 (by omega)) (nm y3 (by omega)) (by rw [y6, y7]; exact har)

/-- A new slab's parts beside a region's. -/
def Rp.with (A : Rp) (g : Nat) (X : Pl) : Rp :=
  { A with
    xs := fun k => if k = g then X else A.xs k
    lab := fun i => if i = X.p then 8 + 4 * g else if i = X.ql then 9 + 4 * g else if i = X.qh then 10 + 4 * g else if i = X.pl ∨ i = X.ph then 11 + 4 * g else A.lab i }
/-- Where a new slab's parts are new blocks. -/
structure Fresh (s : Nat) (X : Pl) : Prop where
  p : s ≤ X.p
  ql : s ≤ X.ql
  qh : s ≤ X.qh
  pl : s ≤ X.pl
  ph : s ≤ X.ph
theorem with_lab {A : Rp} {g s i y : Nat} {X : Pl} (hX : Fresh s X) (hi : i < s) (h : A.lab i = y) : (A.with g X).lab i = y := by
  obtain ⟨a, b, c, d, e⟩ := hX
  show (if i = X.p then 8 + 4 * g else if i = X.ql then 9 + 4 * g else if i = X.qh then 10 + 4 * g else if i = X.pl ∨ i = X.ph then 11 + 4 * g else A.lab i) = y
  rw [if_neg (by omega), if_neg (by omega), if_neg (by omega), if_neg (by omega), h]
theorem with_xs (A : Rp) (g : Nat) (X : Pl) : (A.with g X).xs g = X := if_pos rfl
theorem with_xo (A : Rp) {g k : Nat} (X : Pl) (h : k ≠ g) : (A.with g X).xs k = A.xs k := if_neg h
theorem with_new {A : Rp} {g : Nat} {X : Pl} (ap : Apart X) : (A.with g X).lab X.p = 8 + 4 * g ∧ (A.with g X).lab X.ql = 9 + 4 * g ∧ (A.with g X).lab X.qh = 10 + 4 * g ∧ (A.with g X).lab X.pl = 11 + 4 * g ∧ (A.with g X).lab X.ph = 11 + 4 * g := by
  obtain ⟨⟨a1, a2, a3, a4, a5, a6⟩, ⟨b1, b2, b3, b4, b5⟩, ⟨c1, c2, c3, c4⟩, _⟩ := ap
  refine ⟨if_pos rfl, ?_, ?_, ?_, ?_⟩
  · show (if X.ql = X.p then _ else if X.ql = X.ql then _ else _) = _
    rw [if_neg (Ne.symm a4), if_pos rfl]
  · show (if X.qh = X.p then _ else if X.qh = X.ql then _ else if X.qh = X.qh then _ else _) = _
    rw [if_neg (Ne.symm a6), if_neg (Ne.symm b5), if_pos rfl]
  · show (if X.pl = X.p then _ else if X.pl = X.ql then _ else if X.pl = X.qh then _ else if X.pl = X.pl ∨ X.pl = X.ph then _ else _) = _
    rw [if_neg (Ne.symm a3), if_neg (Ne.symm b3), if_neg (Ne.symm c3), if_pos (.inl rfl)]
  · show (if X.ph = X.p then _ else if X.ph = X.ql then _ else if X.ph = X.qh then _ else if X.ph = X.pl ∨ X.ph = X.ph then _ else _) = _
    rw [if_neg (Ne.symm a5), if_neg (Ne.symm b4), if_neg (Ne.symm c4), if_pos (.inr rfl)]
/-- All of a region's parts are older blocks. -/
structure Old (A : Rp) (L : Nat → Option Sd) (s : Nat) : Prop where
  p : A.p < s
  pa : A.pa < s
  qa : A.qa < s
  pt : A.pt < s
  qt : A.qt < s
  pm : A.pm < s
  pg : A.pg < s
  mg : A.mg < s
  x : ∀ k e, L k = some e → (A.xs k).p < s ∧ (A.xs k).ql < s ∧ (A.xs k).qh < s ∧ (A.xs k).pl < s ∧ (A.xs k).ph < s
theorem RnW.old {w : World} {A : Rp} {V : St} {cnt : Nat} (h : RnW w A V cnt) : Old A V.L w.heap.size := by
  obtain ⟨D, hD, _⟩ := h.mp
  obtain ⟨E, hE⟩ := h.lg
  exact ⟨World.block_lt_of_cell? w ⟨A.p, 0, none⟩ h.c0, h.ar.plt, h.ar.b.qlt, h.tab.plt, h.tab.rows.qlt, hD.lt, World.block_lt_of_cell? w ⟨A.pg, 0, none⟩ hE.c0, hE.map.lt,
    fun k e hk => ⟨(h.sl k e hk).own.plt, (h.sl k e hk).l.qlt, (h.sl k e hk).h.qlt, (h.sl k e hk).l.plt, (h.sl k e hk).h.plt⟩⟩
/-- A new page of slots stands in the map. -/
theorem RnW.new {w w' : World} {A : Rp} {V : St} {cnt g s : Nat} {X : Pl} {d : Sd} (h : RnW w A V cnt) (ho : Old A V.L s) (hX : Fresh s X) (hl : V.L g = none) (hs : SlAt w X (nmOf A V g d) d.S d.f V.B) (hpa : X.pa = A.pa) (hqa : X.qa = A.qa) (hg : w.grownBy w' (some A.pm))
    (hm : ∃ D, w'.ownsMap Tryz.prog 3 ptrElem A.pm (cnt + 1) D ∧ MapIs D (upd (A.zs V.L) g (X.p + 1))) : RnW w' (A.with g X) { V with L := V.set g (some d) } (cnt + 1) := by
  have l := h.lab
  have hf := fr_some (may := fun i => i = A.pm) hg (fun _ => rfl)
  have nm : ∀ {b y}, A.lab b = y → y ≠ 5 → ¬ b = A.pm := fun hb hy => lab_ne hb l.pm hy
  have hp := nm l.p (by omega)
  have hpm := ho.pm
  obtain ⟨D, hD, hi⟩ := hm
  obtain ⟨E, hE⟩ := h.lg
  have har := ar_fr h.ar hf (nm l.pa (by omega)) (nm l.qa (by omega))
  have ez : (A.with g X).zs (V.set g (some d)) = upd (A.zs V.L) g (X.p + 1) := by
    funext k
    unfold Rp.zs upd
    by_cases x : k = g
    · subst x; rw [St.set_same, if_pos rfl, with_xs]
    · rw [St.set_other x, if_neg x, with_xo A X x]
  have hE2 := (hE.fr hf (nm l.pg (by omega)) (nm l.mg (by omega)) har)
  refine ⟨hf.cell h.c0 hp, hf.cell h.c1 hp, hf.cell h.c2 hp, hf.cell h.c3 hp, hf.cell h.c4 hp, hf.cell h.c5 hp, hf.cell h.c6 hp, hf.cell h.c7 hp, har,
    tab_fr h.tab hf (nm l.pt (by omega)) (nm l.qt (by omega)), ⟨D, hD, by show MapIs D ((A.with g X).zs (V.set g (some d))); rw [ez]; exact hi⟩, ⟨E, ⟨hE2.c0, hE2.c1, hE2.c2, hE2.ar, hE2.map.mono (by omega), hE2.is, hE2.inv, hE2.ap, hE2.k⟩⟩, fun k e hk => ?_,
    ⟨with_lab hX ho.p l.p, with_lab hX ho.pa l.pa, with_lab hX ho.qa l.qa, with_lab hX ho.pt l.pt, with_lab hX ho.qt l.qt, with_lab hX ho.pm l.pm, with_lab hX ho.pg l.pg, with_lab hX ho.mg l.mg, fun k e hk => ?_⟩⟩
  · have hk' : V.set g (some d) k = some e := hk
    by_cases x : k = g
    · subst x
      rw [St.set_same] at hk'
      cases hk'
      rw [with_xs]
      have := hX.p; have := hX.ql; have := hX.qh; have := hX.pl; have := hX.ph
      exact hs.fr hf (by omega) (by omega) (by omega) (by omega) (by omega) (by rw [hpa, hqa]; exact har)
    · rw [St.set_other x] at hk'
      obtain ⟨y1, y2, y3, y4, y5, y6, y7⟩ := l.x k e hk'
      rw [with_xo A X x]
      exact (h.sl k e hk').fr hf (nm y1 (by omega)) (nm y4 (by omega)) (nm y2 (by omega)) (nm y5 (by omega)) (nm y3 (by omega)) (by rw [y6, y7]; exact har)
  · have hk' : V.set g (some d) k = some e := hk
    by_cases x : k = g
    · subst x
      rw [with_xs]
      obtain ⟨n1, n2, n3, n4, n5⟩ := with_new (A := A) (g := k) hs.ap
      exact ⟨n1, n2, n3, n4, n5, hpa, hqa⟩
    · rw [St.set_other x] at hk'
      obtain ⟨y1, y2, y3, y4, y5, y6, y7⟩ := l.x k e hk'
      obtain ⟨s1, s2, s3, s4, s5⟩ := ho.x k e hk'
      rw [with_xo A X x]
      exact ⟨with_lab hX s1 y1, with_lab hX s2 y2, with_lab hX s3 y3, with_lab hX s4 y4, with_lab hX s5 y5, y6, y7⟩
end Go.Proofs.YtgnfcklippjeeaaGreat
