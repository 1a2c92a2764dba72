/- Both regions and the code's ledger, side by side. -/
import Derived.Test.YtgnfcklippjeeaaGreatWA
import Derived.Test.YtgnfcklippjeeaaGreatTB
namespace Go.Proofs.YtgnfcklippjeeaaGreat
open Go.RowKit
open Sl (Cls bs upd LnkIs)
open Lg (pgs)

/-- Blocks that are nobody's are written: one of them. -/
theorem pr_own {w0 w w' : World} {A : Rp} {D : Dp} {T : Nat → Nat} {V U : St} {cnt pp b : Nat} (h : PrAt w0 w A D T V U cnt pp) (hf : Fr (fun i => i = b) w w') (hb : T b = 0) (hbp : b ≠ pp) (h0 : w0.heap.size ≤ b) : PrAt w0 w' A D T V U cnt pp := by
  refine ⟨⟨h.y.at_.other hf (fun i hi e => ?_), h.y.may, hf.grown h.y.all (fun i hi e => by omega)⟩, h.d.fr hf (fun i hi e => ?_), h.any, h.old, hf.cell h.c0 (fun e => hbp e.symm), hf.cell h.c1 (fun e => hbp e.symm), h.tp⟩
  · have := h.any i hi; subst e; omega
  · subst e; omega
/-- The code's ledger at a region. -/
structure FxAt (w0 w : World) (A : Rp) (D : Dp) (T : Nat → Nat) (V : St) (cnt pp b0 : Nat) (F : Fp) (c2 : Nat) (G : Nat → Bool) (rv : Value) (N : List Rep) : Prop where
  pr : PrAt w0 w A D T V V cnt pp
  l : LdAt w b0 F c2 G rv N
  r : F.r = A.p
  tp : T F.p = 0
  tm : T F.mb = 0
  tr : ∀ q, rv.ownBlock = some q → T q = 0
  lm : w0.heap.size ≤ F.mb
  lp : w0.heap.size ≤ F.p
  b0s : b0 ≤ w.heap.size
  np : F.p ≠ pp
  nm : F.mb ≠ pp
  nr : rv.ownBlock ≠ some pp
  pb : pp < b0
theorem LdAt.mlt' {w : World} {b0 : Nat} {F : Fp} {cnt : Nat} {G : Nat → Bool} {rv : Value} {N : List Rep} (h : LdAt w b0 F cnt G rv N) : ∀ q, rv.ownBlock = some q → q < w.heap.size := fun q hq => (World.ownsRow.lt h.own q hq).2
theorem FxAt.rf {w0 w : World} {A : Rp} {D : Dp} {T : Nat → Nat} {V : St} {cnt pp b0 c2 : Nat} {F : Fp} {G : Nat → Bool} {rv : Value} {N : List Rep} (h : FxAt w0 w A D T V cnt pp b0 F c2 G rv N) : RF w0 w A V cnt b0 F c2 G rv N :=
  ⟨h.pr.y, h.l, h.r, fun i hi => by
    have h1 := h.pr.any i hi
    refine ⟨fun e => ?_, fun e => ?_, fun e => ?_⟩
    · have := h.tp; rw [← e] at this; omega
    · have := h.tm; rw [← e] at this; omega
    · have := h.tr i e; omega, h.lm, h.lp, h.b0s⟩
theorem FxAt.grown {w0 w w' : World} {A : Rp} {D : Dp} {T : Nat → Nat} {V : St} {cnt pp b0 c2 : Nat} {F : Fp} {G : Nat → Bool} {rv : Value} {N : List Rep} (h : FxAt w0 w A D T V cnt pp b0 F c2 G rv N) (hg : w.grownBy w' none) : FxAt w0 w' A D T V cnt pp b0 F c2 G rv N :=
  ⟨h.pr.grown hg, h.l.grown hg, h.r, h.tp, h.tm, h.tr, h.lm, h.lp, Nat.le_trans h.b0s hg.size, h.np, h.nm, h.nr, h.pb⟩
/-- Behind a call of the law's Step. -/
theorem FxAt.step {w0 w w' : World} {A A' : Rp} {D D' : Dp} {T : Nat → Nat} {V V' : St} {cnt cnt' pp b0 c2 : Nat} {F : Fp} {G : Nat → Bool} {rv : Value} {N : List Rep} (h : FxAt w0 w A D T V cnt pp b0 F c2 G rv N) (ht : To w0 w w' A A' D D' T V' V' cnt' pp) : ∃ T', FxAt w0 w' A' D' T' V' cnt' pp b0 F c2 G rv N ∧ (∀ i, i < w.heap.size → T' i = T i) ∧ Fr (fun i => T i = 1 ∨ 3 ≤ T i) w w' := by
  obtain ⟨T', a1, a2, a3, a4, a5⟩ := ht
  have z : ∀ {i}, T i = 0 → ¬ (T i = 1 ∨ 3 ≤ T i) := fun {i} e => by omega
  exact ⟨T', ⟨a3, h.l.fr a5 (z h.tp) (z h.tm) (fun q hq => z (h.tr q hq)), h.r.trans a1.symm, by rw [a4 _ h.l.plt]; exact h.tp, by rw [a4 _ h.l.mlt]; exact h.tm, fun q hq => by rw [a4 _ (h.l.mlt' q hq)]; exact h.tr q hq, h.lm, h.lp, Nat.le_trans h.b0s a5.size, h.np, h.nm, h.nr, h.pb⟩, a4, a5⟩
/-- Behind a call of the ledger's. -/
theorem FxAt.ledger {w0 w w' : World} {A : Rp} {D : Dp} {T : Nat → Nat} {V : St} {cnt pp b0 c2 c3 : Nat} {F : Fp} {G G' : Nat → Bool} {rv : Value} {N : List Rep} (h : FxAt w0 w A D T V cnt pp b0 F c2 G rv N) (hl : LdAt w' b0 F c3 G' rv N) (hf : Fr (fun i => i = F.mb) w w') : FxAt w0 w' A D T V cnt pp b0 F c3 G' rv N :=
  ⟨pr_own h.pr hf h.tm h.nm h.lm, hl, h.r, h.tp, h.tm, h.tr, h.lm, h.lp, Nat.le_trans h.b0s hf.size, h.np, h.nm, h.nr, h.pb⟩
/-- Another block of nobody's is written. -/
theorem FxAt.other {w0 w w' : World} {A : Rp} {D : Dp} {T : Nat → Nat} {V : St} {cnt pp b0 c2 b : Nat} {F : Fp} {G : Nat → Bool} {rv : Value} {N : List Rep} (h : FxAt w0 w A D T V cnt pp b0 F c2 G rv N) (hf : Fr (fun i => i = b) w w') (hb : T b = 0) (hbp : b ≠ pp) (h0 : w0.heap.size ≤ b) (h1 : b ≠ F.p) (h2 : b ≠ F.mb) (h3 : rv.ownBlock ≠ some b) : FxAt w0 w' A D T V cnt pp b0 F c2 G rv N :=
  ⟨pr_own h.pr hf hb hbp h0, h.l.fr hf (fun e => h1 e.symm) (fun e => h2 e.symm) (fun _ hq e => h3 (e ▸ hq)), h.r, h.tp, h.tm, h.tr, h.lm, h.lp, Nat.le_trans h.b0s hf.size, h.np, h.nm, h.nr, h.pb⟩
theorem FxAt.relab {w0 w : World} {A : Rp} {D : Dp} {T T' : Nat → Nat} {V : St} {cnt pp b0 c2 : Nat} {F : Fp} {G : Nat → Bool} {rv : Value} {N : List Rep} (h : FxAt w0 w A D T V cnt pp b0 F c2 G rv N) (hT : ∀ i, i < w.heap.size → T' i = T i) : FxAt w0 w A D T' V cnt pp b0 F c2 G rv N :=
  ⟨h.pr.relab hT, h.l, h.r, by rw [hT _ h.l.plt]; exact h.tp, by rw [hT _ h.l.mlt]; exact h.tm, fun q hq => by rw [hT _ (h.l.mlt' q hq)]; exact h.tr q hq, h.lm, h.lp, h.b0s, h.np, h.nm, h.nr, h.pb⟩
/-- A new ledger. -/
theorem fx_new {w0 w w' : World} {A : Rp} {D : Dp} {T : Nat → Nat} {V : St} {cnt pp : Nat} {e : Ending} (h : PrAt w0 w A D T V V cnt pp) (hm : LdMade w w' A.p e) : ∃ F : Fp, e = .returned (.pointer (some ⟨F.p, 0, none⟩)) ∧ FxAt w0 w' A D (fun i => if i < w.heap.size then T i else 0) V cnt pp w'.heap.size F 0 (fun _ => false) (.slice none 0 0) [] ∧ w.grownBy w' none := by
  obtain ⟨F, he, hr, hl, h1, h2, hg⟩ := hm
  have hs := h.y.all.size
  have hp := h.plt
  have hr' : PrAt w0 w A D (fun i => if i < w.heap.size then T i else 0) V V cnt pp := h.relab (fun i hi => if_pos hi)
  exact ⟨F, he, ⟨hr'.grown hg, hl, hr, if_neg (by omega), if_neg (by omega), fun _ hq => (by simp [Value.ownBlock] at hq), by omega, by omega, Nat.le_refl _, by omega, by omega, by simp [Value.ownBlock], Nat.lt_of_lt_of_le hp hg.size⟩, hg⟩
theorem fx_step {w0 w : World} {A : Rp} {D : Dp} {T : Nat → Nat} {V : St} {cnt pp b0 c2 : Nat} {F : Fp} {G : Nat → Bool} {rv : Value} {N : List Rep} (h : FxAt w0 w A D T V cnt pp b0 F c2 G rv N) (hcnt : cnt ≤ 100000) {t : Lop} (ht : LRows w0 t) (others : Bool) (ho : others = false ∨ t.k ≠ 8) :
    Calls Tryz.prog 11 #[.pointer (some ⟨pp, 0, none⟩), t.v, .bool others] w fun e w' => e = .returned (.bool true) ∧ ∃ A' D' T' V', V'.m = V.m ∧ V'.n = V.n ∧ FxAt w0 w' A' D' T' V' (cnt + 1) pp b0 F c2 G rv N ∧ (∀ i, i < w.heap.size → T' i = T i) ∧ Fr (fun i => T i = 1 ∨ 3 ≤ T i) w w' := by
  refine (step_most h.pr hcnt t.k t.c t.o t.p t.a t.n ht.wp t.b t.bA t.bl t.bc ht.cap ht.at_ others ho).mono ?_
  rintro e w' ⟨rfl, A', D', V', hs, hto⟩
  obtain ⟨T', h1, h2, h3⟩ := h.step hto
  exact ⟨rfl, A', D', T', V', hs.dims.1, hs.dims.2.1, h1, h2, h3⟩
/-- What is gone, and what was. -/
structure FwAt (w0 w : World) (A : Rp) (D : Dp) (T : Nat → Nat) (V : St) (cnt pp b0 : Nat) (F : Fp) (c2 : Nat) (G : Nat → Bool) (qw n : Nat) (W : Nat → Bool) : Prop extends FxAt w0 w A D T V cnt pp b0 F c2 G (.slice none 0 0) [] where
  wv : ValsAt w qw n (fun i => .bool (W i))
  tq : T qw = 0
  lq : w0.heap.size ≤ qw
  qp : qw ≠ pp
  qf : qw ≠ F.p
  qm : qw ≠ F.mb
theorem FwAt.grown {w0 w w' : World} {A : Rp} {D : Dp} {T : Nat → Nat} {V : St} {cnt pp b0 c2 qw n : Nat} {F : Fp} {G W : Nat → Bool} (h : FwAt w0 w A D T V cnt pp b0 F c2 G qw n W) (hg : w.grownBy w' none) : FwAt w0 w' A D T V cnt pp b0 F c2 G qw n W :=
  ⟨h.toFxAt.grown hg, h.wv.grown hg (by simp), h.tq, h.lq, h.qp, h.qf, h.qm⟩
theorem vals_fr {may : Nat → Prop} {w w' : World} {q n : Nat} {f : Nat → Value} (h : ValsAt w q n f) (hf : Fr may w w') (hq : ¬ may q) : ValsAt w' q n f :=
  ⟨fun i hi => hf.cell (h.c i hi) hq, fun k => by rw [hf.frozen h.qlt hq]; exact h.fz k, Nat.lt_of_lt_of_le h.qlt hf.size⟩
theorem FwAt.ledger {w0 w w' : World} {A : Rp} {D : Dp} {T : Nat → Nat} {V : St} {cnt pp b0 c2 c3 qw n : Nat} {F : Fp} {G G' W : Nat → Bool} (h : FwAt w0 w A D T V cnt pp b0 F c2 G qw n W) (hl : LdAt w' b0 F c3 G' (.slice none 0 0) []) (hf : Fr (fun i => i = F.mb) w w') : FwAt w0 w' A D T V cnt pp b0 F c3 G' qw n W :=
  ⟨h.toFxAt.ledger hl hf, vals_fr h.wv hf h.qm, h.tq, h.lq, h.qp, h.qf, h.qm⟩
/-- A bit of what was turns. -/
theorem FwAt.set {w0 w : World} {A : Rp} {D : Dp} {T : Nat → Nat} {V : St} {cnt pp b0 c2 qw n : Nat} {F : Fp} {G W : Nat → Bool} (h : FwAt w0 w A D T V cnt pp b0 F c2 G qw n W) (k : Nat) (b : Bool) : FwAt w0 (w.setCell ⟨qw, k, none⟩ (.bool b)) A D T V cnt pp b0 F c2 G qw n (fun i => if i = k then b else W i) := by
  have gs := An.agrown_set w qw k (.bool b)
  have hv := h.wv.set k (.bool b)
  refine ⟨h.toFxAt.other (fr_some gs (fun _ => rfl)) h.tq h.qp h.lq h.qf h.qm (by simp [Value.ownBlock]), ⟨fun i hi => ?_, hv.fz, hv.qlt⟩, h.tq, h.lq, h.qp, h.qf, h.qm⟩
  rw [hv.c i hi]
  by_cases e : i = k
  · simp [e]
  · simp [e]
theorem FwAt.relab {w0 w : World} {A : Rp} {D : Dp} {T T' : Nat → Nat} {V : St} {cnt pp b0 c2 qw n : Nat} {F : Fp} {G W : Nat → Bool} (h : FwAt w0 w A D T V cnt pp b0 F c2 G qw n W) (hT : ∀ i, i < w.heap.size → T' i = T i) : FwAt w0 w A D T' V cnt pp b0 F c2 G qw n W :=
  ⟨h.toFxAt.relab hT, h.wv, by rw [hT _ h.wv.qlt]; exact h.tq, h.lq, h.qp, h.qf, h.qm⟩
theorem fw_step {w0 w : World} {A : Rp} {D : Dp} {T : Nat → Nat} {V : St} {cnt pp b0 c2 qw n : Nat} {F : Fp} {G W : Nat → Bool} (h : FwAt w0 w A D T V cnt pp b0 F c2 G qw n W) (hcnt : cnt ≤ 100000) {t : Lop} (ht : LRows w0 t) :
    Calls Tryz.prog 11 #[.pointer (some ⟨pp, 0, none⟩), t.v, .bool false] w fun e w' => e = .returned (.bool true) ∧ ∃ A' D' T' V', V'.m = V.m ∧ V'.n = V.n ∧ FwAt w0 w' A' D' T' V' (cnt + 1) pp b0 F c2 G qw n W ∧ Fr (fun i => T i = 1 ∨ 3 ≤ T i) w w' := by
  refine (fx_step h.toFxAt hcnt ht false (.inl rfl)).mono ?_
  rintro e w' ⟨rfl, A', D', T', V', h1, h2, h3, h4, h5⟩
  exact ⟨rfl, A', D', T', V', h1, h2, ⟨h3, vals_fr h.wv h5 (by rw [h.tq]; omega), by rw [h4 _ h.wv.qlt]; exact h.tq, h.lq, h.qp, h.qf, h.qm⟩, h5⟩
theorem LsAt.fr {may : Nat → Prop} {w w' : World} {v : Value} {L : List Pc} (h : LsAt w v L) (hf : Fr may w w') (hm : ∀ q, v.ownBlock = some q → ¬ may q) : LsAt w' v L := by
  obtain ⟨A, c, rfl, h1, h2, h3⟩ := h
  refine ⟨A, c, rfl, h1, h2, h3.imp id ?_⟩
  rintro ⟨g, rfl, hg, h⟩
  exact ⟨g, rfl, Nat.lt_of_lt_of_le hg hf.size, fun j u hu => hf.cell (h j u hu) (hm g rfl)⟩
theorem LsAt.lt {w : World} {v : Value} {L : List Pc} (h : LsAt w v L) (hne : L.length ≠ 0) {q : Nat} (hq : v.ownBlock = some q) : q < w.heap.size := by
  obtain ⟨A, c, rfl, h1, h2, h3⟩ := h
  obtain ⟨g, rfl, hg, h⟩ := h3.resolve_left hne
  simp [Value.ownBlock] at hq
  omega
theorem pown_ls {w : World} {base : Nat} {v : Value} {L : List Pc} (h : POwn w base v L) (hl : L.length ≤ 4096) : LsAt w v L ∧ ∀ q, v.ownBlock = some q → base ≤ q := by
  obtain ⟨A, c, rfl, hc⟩ := bown_shape h
  exact ⟨⟨A, c, rfl, hc, hl, (pown_elems h).imp id (fun ⟨g, e, _, h3, h4⟩ => ⟨g, e, h3, h4⟩)⟩, fun q hq => (World.ownsRow.lt h q hq).1⟩
theorem endV_is {V : St} {p : Pc} (h : Lv V p) : endV p = p.b + bytV p := by
  unfold endV bytV
  cases h with
  | slot g d k hl hk h1 => simp [spc]; omega
  | great g hz => simp [gpc]; unfold pgs; omega
theorem bytV_in {V : St} (ok : V.Ok) {p : Pc} (h : Lv V p) : p.b + bytV p ≤ V.m * 256 ∧ bytV p ≤ 5000 := by
  cases h with
  | slot g d k hl hk h1 =>
    obtain ⟨hgm, _, hd⟩ := ok.sl g d hl
    have a2 := Sl.bs_hi hd.c g hk
    have a3 := hd.c.facts.rs
    have a4 := hd.c.facts.s128
    have : bytV (spc g d k) = d.r + 8 := rfl
    rw [this]
    refine ⟨?_, by omega⟩
    show bs g d.s k + (d.r + 8) ≤ V.m * 256; omega
  | great g hz =>
    obtain ⟨z1, z2, z3, _⟩ := ok.gr g hz
    have : bytV (gpc g (V.Z g)) = pgs (V.Z g) * 256 := rfl
    rw [this]
    have := Lg.pgs_bd z2
    refine ⟨?_, by omega⟩
    show g * 256 + pgs (V.Z g) * 256 ≤ V.m * 256
    rw [← Nat.add_mul]
    exact Nat.mul_le_mul_right 256 z3
end Go.Proofs.YtgnfcklippjeeaaGreat
