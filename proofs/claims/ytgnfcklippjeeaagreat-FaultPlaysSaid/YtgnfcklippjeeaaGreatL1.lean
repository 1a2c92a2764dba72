/- Merged texts: OG OH OI OJ OK OL. -/
import Derived.Test.YtgnfcklippjeeaaGreatK9
import Derived.Test.YtgnfcklippjeeaaGreatK8
import Derived.StillTailTactics
/- The document's region in the world. -/
namespace Go.Proofs.YtgnfcklippjeeaaGreat
open Go.RowKit
open Sl (Cls bs upd)
open Lg (pgs)
open Rf (LZ)

/-- Where the document's region lies: its object, its set's; a slab's object, and what holds it with its owner. -/
structure Dp where
  p : Nat
  g : Nat
  xs : Nat → Nat
  ws : Nat → Nat
def Dp.ptr (D : Dp) (L : Nat → Option Sd) (k : Nat) : Option Addr := match L k with | none => none | some _ => some ⟨D.ws k, 0, none⟩
theorem RgAt.fr2 {may : Nat → Prop} {b0 : Nat} {w w' : World} {r q cap key N : Nat} {A : Option Addr} {vc : Nat} {L : List (Nat × Nat)} {B : Nat → Nat} (h : RgAt b0 w r q cap key N A vc L B) (hg : Fr may w w') (hr : ¬ may r) (hq : ¬ may q) (hA : L.length ≠ 0 → ∀ a, A = some a → ¬ may a.block) : RgAt b0 w' r q cap key N A vc L B := by
  refine ⟨hg.cell h.c0 hr, hg.cell h.c1 hr, hg.cell h.c2 hr, fun k => by rw [hg.frozen h.rlt hr]; exact h.fz k, bytes_fr h.b hg hq, h.hcap, h.hv, ?_, h.rq, h.r0, h.q0, h.small, h.lt, h.k⟩
  by_cases e0 : L.length = 0
  · exact .inl e0
  · exact h.els.imp id (fun ⟨g, e, n1, n2, hc⟩ => ⟨g, e, n1, n2, fun i hi => ⟨hg.cell (hc i hi).1 (hA e0 _ e), hg.cell (hc i hi).2 (hA e0 _ e)⟩⟩)
/-- The document's region. T says of blocks what they are: 2: what nobody writes into any more; 3: its object; 4: its set's; 5 and up: slabs'. -/
structure DrW (w : World) (T : Nat → Nat) (D : Dp) (V : St) : Prop where
  c0 : w.cell? ⟨D.p, 0, none⟩ = some (.int .i64 (V.m : Nat))
  c1 : w.cell? ⟨D.p, 1, none⟩ = some (.int .u64 (V.key : Nat))
  bt : ∃ q cap, w.cell? ⟨D.p, 2, none⟩ = some (.slice (some ⟨q, 0, none⟩) (V.n * 256) cap) ∧ V.n * 256 ≤ cap ∧ An.BytesAt w q (V.n * 256) V.B ∧ T q = 2
  rw_ : ∃ q cap, w.cell? ⟨D.p, 3, none⟩ = some (.slice (some ⟨q, 0, none⟩) V.n cap) ∧ V.n ≤ cap ∧ Pt.RowsAt w q V.n V.R ∧ T q = 2
  ls : ∃ q cap, w.cell? ⟨D.p, 4, none⟩ = some (.slice (some ⟨q, 0, none⟩) V.n cap) ∧ V.n ≤ cap ∧ T q = 2 ∧ q < w.heap.size ∧ (∀ k, w.frozen? ⟨q, k, none⟩ = false) ∧ ∀ k, k < V.n → w.cell? ⟨q, k, none⟩ = some (.pointer (D.ptr V.L k))
  c5 : w.cell? ⟨D.p, 5, none⟩ = some (.pointer (some ⟨D.g, 0, none⟩))
  fz : ∀ k, w.frozen? ⟨D.p, k, none⟩ = false
  wr : ∀ k d, V.L k = some d → w.cell? ⟨D.ws k, 0, none⟩ = some (.pointer (some ⟨D.xs k, 0, none⟩)) ∧ w.cell? ⟨D.ws k, 1, none⟩ = some (.int .i64 (d.o : Nat)) ∧ T (D.ws k) = 2
  sl : ∀ k d, V.L k = some d → ∃ q cap A ac B, DsAt w (D.xs k) V.key k (V.n * 256) q cap A ac d.c d.n d.S d.f B ∧ T q = 2 ∧ T A = 2
  gr : ∃ q cap A vc L B, RgAt 0 w D.g q cap V.key (V.n * 256) A vc L B ∧ LZ L V.Z ∧ T q = 2 ∧ (L.length ≠ 0 → ∀ a, A = some a → T a.block = 2)
  tp : T D.p = 3
  tg : T D.g = 4
  tx : ∀ k d, V.L k = some d → T (D.xs k) = 5 + k
/-- .. that stands. -/
structure DrAt (w : World) (T : Nat → Nat) (D : Dp) (V : St) : Prop extends DrW w T D V where
  ok : V.Ok
theorem DrW.plt {w : World} {T : Nat → Nat} {D : Dp} {V : St} (h : DrW w T D V) : D.p < w.heap.size := World.block_lt_of_cell? w ⟨D.p, 0, none⟩ h.c0
theorem DrW.fr {may : Nat → Prop} {w w' : World} {T : Nat → Nat} {D : Dp} {V : St} (h : DrW w T D V) (hf : Fr may w w') (hm : ∀ i, 2 ≤ T i → ¬ may i) : DrW w' T D V := by
  have hp := hm D.p (by rw [h.tp]; omega)
  have hg := hm D.g (by rw [h.tg]; omega)
  have h2 : ∀ {q}, T q = 2 → ¬ may q := fun e => hm _ (by omega)
  obtain ⟨q1, k1, a1, a2, a3, a4⟩ := h.bt
  obtain ⟨q2, k2, b1, b2, b3, b4⟩ := h.rw_
  obtain ⟨q3, k3, d1, d2, d3, d4, d5, d6⟩ := h.ls
  obtain ⟨q4, k4, A4, v4, L4, B4, e1, e2, e3, e4⟩ := h.gr
  exact ⟨hf.cell h.c0 hp, hf.cell h.c1 hp, ⟨q1, k1, hf.cell a1 hp, a2, bytes_fr a3 hf (h2 a4), a4⟩, ⟨q2, k2, hf.cell b1 hp, b2, rows_fr b3 hf (h2 b4), b4⟩,
    ⟨q3, k3, hf.cell d1 hp, d2, d3, Nat.lt_of_lt_of_le d4 hf.size, fun k => by rw [hf.frozen d4 (h2 d3)]; exact d5 k, fun k hk => hf.cell (d6 k hk) (h2 d3)⟩, hf.cell h.c5 hp, fun k => by rw [hf.frozen h.plt hp]; exact h.fz k,
    fun k d hk => ⟨hf.cell (h.wr k d hk).1 (h2 (h.wr k d hk).2.2), hf.cell (h.wr k d hk).2.1 (h2 (h.wr k d hk).2.2), (h.wr k d hk).2.2⟩,
    fun k d hk => by
      obtain ⟨q, cap, A, ac, B, x1, x2, x3⟩ := h.sl k d hk
      exact ⟨q, cap, A, ac, B, x1.fr hf (hm _ (by rw [h.tx k d hk]; omega)) (h2 x2) (h2 x3), x2, x3⟩,
    ⟨q4, k4, A4, v4, L4, B4, e1.fr2 hf hg (h2 e3) (fun h0 a ha => h2 (e4 h0 a ha)), e2, e3, e4⟩, h.tp, h.tg, h.tx⟩
theorem DrAt.fr {may : Nat → Prop} {w w' : World} {T : Nat → Nat} {D : Dp} {V : St} (h : DrAt w T D V) (hf : Fr may w w') (hm : ∀ i, 2 ≤ T i → ¬ may i) : DrAt w' T D V := ⟨h.toDrW.fr hf hm, h.ok⟩
theorem DrW.grown {w w' : World} {T : Nat → Nat} {D : Dp} {V : St} (h : DrW w T D V) (hg : w.grownBy w' none) : DrW w' T D V := h.fr (may := fun _ => False) (fr_none hg) (fun _ _ h => h)
theorem DrAt.grown {w w' : World} {T : Nat → Nat} {D : Dp} {V : St} (h : DrAt w T D V) (hg : w.grownBy w' none) : DrAt w' T D V := ⟨h.toDrW.grown hg, h.ok⟩
/-- The labels of what is new are others. -/
theorem DrW.relab {w : World} {T T' : Nat → Nat} {D : Dp} {V : St} (h : DrW w T D V) (hT : ∀ i, i < w.heap.size → T' i = T i) : DrW w T' D V := by
  obtain ⟨q1, k1, a1, a2, a3, a4⟩ := h.bt
  obtain ⟨q2, k2, b1, b2, b3, b4⟩ := h.rw_
  obtain ⟨q3, k3, d1, d2, d3, d4, d5, d6⟩ := h.ls
  obtain ⟨q4, k4, A4, v4, L4, B4, e1, e2, e3, e4⟩ := h.gr
  refine ⟨h.c0, h.c1, ⟨q1, k1, a1, a2, a3, (hT _ a3.qlt).trans a4⟩, ⟨q2, k2, b1, b2, b3, (hT _ b3.qlt).trans b4⟩, ⟨q3, k3, d1, d2, (hT _ d4).trans d3, d4, d5, d6⟩, h.c5, h.fz,
    fun k d hk => ⟨(h.wr k d hk).1, (h.wr k d hk).2.1, (hT _ (World.block_lt_of_cell? w ⟨D.ws k, 0, none⟩ (h.wr k d hk).1)).trans (h.wr k d hk).2.2⟩, fun k d hk => ?_, ⟨q4, k4, ?_⟩, (hT _ h.plt).trans h.tp, (hT _ e1.rlt).trans h.tg, fun k d hk => ?_⟩
  · obtain ⟨q, cap, A, ac, B, x1, x2, x3⟩ := h.sl k d hk
    exact ⟨q, cap, A, ac, B, x1, (hT _ x1.b.qlt).trans x2, (hT _ x1.st.qlt).trans x3⟩
  · refine ⟨A4, v4, L4, B4, e1, e2, (hT _ e1.b.qlt).trans e3, fun e0 a ha => ?_⟩
    rcases e1.els with x | ⟨gb, e5, n1, n2, hc⟩
    · exact absurd x e0
    · have hlt := World.block_lt_of_cell? w ⟨gb, 0 * 2, none⟩ (hc 0 (by omega)).1
      have h4 := e4 e0 a ha
      rw [ha] at e5
      injection e5 with e5
      rw [e5] at h4 ⊢
      exact (hT _ hlt).trans h4
  · obtain ⟨q, cap, A, ac, B, x1, x2, x3⟩ := h.sl k d hk
    exact (hT _ x1.slt).trans (h.tx k d hk)

/-! What each store leaves. -/
theorem DrW.lt2 {w : World} {T : Nat → Nat} {D : Dp} {V : St} (h : DrW w T D V) {q y : Nat} (hq : T q = y) (hy : y ≠ 3) : q ≠ D.p := lab_ne hq h.tp hy
theorem DrW.bytes {w : World} {T : Nat → Nat} {D : Dp} {V : St} {q cap : Nat} {B' : Nat → Nat} (h : DrW w T D V) (hb : An.BytesAt w q (V.n * 256) B') (hc : V.n * 256 ≤ cap) (hq : T q = 2) :
    DrW (w.setCell ⟨D.p, 2, none⟩ (.slice (some ⟨q, 0, none⟩) (V.n * 256) cap)) T D { V with B := B' } := by
  have hf := An.agrown_set w D.p 2 (.slice (some ⟨q, 0, none⟩) (V.n * 256) cap)
  have hF : Fr (fun i => i = D.p) w (w.setCell ⟨D.p, 2, none⟩ (.slice (some ⟨q, 0, none⟩) (V.n * 256) cap)) := fr_some hf (fun _ => rfl)
  have h2 : ∀ {q}, T q = 2 → q ≠ D.p := fun e => h.lt2 e (by omega)
  obtain ⟨q1, k1, a1, a2, a3, a4⟩ := h.bt
  obtain ⟨q2, k2, b1, b2, b3, b4⟩ := h.rw_
  obtain ⟨q3, k3, d1, d2, d3, d4, d5, d6⟩ := h.ls
  obtain ⟨q4, k4, A4, v4, L4, B4, e1, e2, e3, e4⟩ := h.gr
  exact ⟨setc_other (by decide) h.c0, setc_other (by decide) h.c1, ⟨q, cap, World.cell?_setCell_same' _ _ _ (by rw [a1]; rfl), hc, bytes_fr hb hF (h2 hq), hq⟩, ⟨q2, k2, setc_other (by decide) b1, b2, rows_fr b3 hF (h2 b4), b4⟩,
    ⟨q3, k3, setc_other (by decide) d1, d2, d3, Nat.lt_of_lt_of_le d4 hF.size, fun k => by rw [hF.frozen d4 (h2 d3)]; exact d5 k, fun k hk => hF.cell (d6 k hk) (h2 d3)⟩, setc_other (by decide) h.c5, fun k => by rw [World.frozen?_setCell]; exact h.fz k,
    fun k d hk => ⟨hF.cell (h.wr k d hk).1 (h2 (h.wr k d hk).2.2), hF.cell (h.wr k d hk).2.1 (h2 (h.wr k d hk).2.2), (h.wr k d hk).2.2⟩,
    fun k d hk => by
      obtain ⟨q, cap, A, ac, B, x1, x2, x3⟩ := h.sl k d hk
      exact ⟨q, cap, A, ac, B, x1.fr hF (h.lt2 (h.tx k d hk) (by omega)) (h2 x2) (h2 x3), x2, x3⟩,
    ⟨q4, k4, A4, v4, L4, B4, e1.fr2 hF (h.lt2 h.tg (by omega)) (h2 e3) (fun h0 a ha => h2 (e4 h0 a ha)), e2, e3, e4⟩, h.tp, h.tg, h.tx⟩
theorem DrW.rows {w : World} {T : Nat → Nat} {D : Dp} {V : St} {q cap : Nat} {R' : Nat → Pg.Row} (h : DrW w T D V) (hb : Pt.RowsAt w q V.n R') (hc : V.n ≤ cap) (hq : T q = 2) :
    DrW (w.setCell ⟨D.p, 3, none⟩ (.slice (some ⟨q, 0, none⟩) V.n cap)) T D { V with R := R' } := by
  have hf := An.agrown_set w D.p 3 (.slice (some ⟨q, 0, none⟩) V.n cap)
  have hF : Fr (fun i => i = D.p) w (w.setCell ⟨D.p, 3, none⟩ (.slice (some ⟨q, 0, none⟩) V.n cap)) := fr_some hf (fun _ => rfl)
  have h2 : ∀ {q}, T q = 2 → q ≠ D.p := fun e => h.lt2 e (by omega)
  obtain ⟨q1, k1, a1, a2, a3, a4⟩ := h.bt
  obtain ⟨q2, k2, b1, b2, b3, b4⟩ := h.rw_
  obtain ⟨q3, k3, d1, d2, d3, d4, d5, d6⟩ := h.ls
  obtain ⟨q4, k4, A4, v4, L4, B4, e1, e2, e3, e4⟩ := h.gr
  exact ⟨setc_other (by decide) h.c0, setc_other (by decide) h.c1, ⟨q1, k1, setc_other (by decide) a1, a2, bytes_fr a3 hF (h2 a4), a4⟩, ⟨q, cap, World.cell?_setCell_same' _ _ _ (by rw [b1]; rfl), hc, rows_fr hb hF (h2 hq), hq⟩,
    ⟨q3, k3, setc_other (by decide) d1, d2, d3, Nat.lt_of_lt_of_le d4 hF.size, fun k => by rw [hF.frozen d4 (h2 d3)]; exact d5 k, fun k hk => hF.cell (d6 k hk) (h2 d3)⟩, setc_other (by decide) h.c5, fun k => by rw [World.frozen?_setCell]; exact h.fz k,
    fun k d hk => ⟨hF.cell (h.wr k d hk).1 (h2 (h.wr k d hk).2.2), hF.cell (h.wr k d hk).2.1 (h2 (h.wr k d hk).2.2), (h.wr k d hk).2.2⟩,
    fun k d hk => by
      obtain ⟨q, cap, A, ac, B, x1, x2, x3⟩ := h.sl k d hk
      exact ⟨q, cap, A, ac, B, x1.fr hF (h.lt2 (h.tx k d hk) (by omega)) (h2 x2) (h2 x3), x2, x3⟩,
    ⟨q4, k4, A4, v4, L4, B4, e1.fr2 hF (h.lt2 h.tg (by omega)) (h2 e3) (fun h0 a ha => h2 (e4 h0 a ha)), e2, e3, e4⟩, h.tp, h.tg, h.tx⟩
/-- One slab was written into. -/
theorem DrW.slab {w w' : World} {T : Nat → Nat} {D : Dp} {V : St} {g q cap A ac : Nat} {d d' : Sd} {B' : Nat → Nat} (h : DrW w T D V) (hd : V.L g = some d) (hg : w.grownBy w' (some (D.xs g))) (hs : DsAt w' (D.xs g) V.key g (V.n * 256) q cap A ac d'.c d'.n d'.S d'.f B') (hq : T q = 2) (hA : T A = 2) (ho : d'.o = d.o) :
    DrW w' T D { V with L := V.set g (some d') } := by
  have hF : Fr (fun i => i = D.xs g) w w' := fr_some hg (fun _ => rfl)
  have tx := h.tx g d hd
  have ne : ∀ {b y}, T b = y → y ≠ 5 + g → ¬ b = D.xs g := fun hb hy => lab_ne hb tx hy
  have h2 : ∀ {q}, T q = 2 → ¬ q = D.xs g := fun e => ne e (by omega)
  have hp := ne h.tp (by omega)
  have hgn := ne h.tg (by omega)
  obtain ⟨q1, k1, a1, a2, a3, a4⟩ := h.bt
  obtain ⟨q2, k2, b1, b2, b3, b4⟩ := h.rw_
  obtain ⟨q3, k3, d1, d2, d3, d4, d5, d6⟩ := h.ls
  obtain ⟨q4, k4, A4, v4, L4, B4, e1, e2, e3, e4⟩ := h.gr
  have eptr : ∀ k, D.ptr (V.set g (some d')) k = D.ptr V.L k := fun k => by
    unfold Dp.ptr
    by_cases x : k = g
    · subst x; rw [St.set_same, hd]
    · rw [St.set_other x]
  refine ⟨hF.cell h.c0 hp, hF.cell h.c1 hp, ⟨q1, k1, hF.cell a1 hp, a2, bytes_fr a3 hF (h2 a4), a4⟩, ⟨q2, k2, hF.cell b1 hp, b2, rows_fr b3 hF (h2 b4), b4⟩,
    ⟨q3, k3, hF.cell d1 hp, d2, d3, Nat.lt_of_lt_of_le d4 hF.size, fun k => by rw [hF.frozen d4 (h2 d3)]; exact d5 k, fun k hk => by show _ = some (Value.pointer (D.ptr (V.set g (some d')) k)); rw [eptr]; exact hF.cell (d6 k hk) (h2 d3)⟩, hF.cell h.c5 hp, fun k => by rw [hF.frozen h.plt hp]; exact h.fz k,
    fun k e hk => ?_, fun k e hk => ?_, ⟨q4, k4, A4, v4, L4, B4, e1.fr2 hF hgn (h2 e3) (fun h0 a ha => h2 (e4 h0 a ha)), e2, e3, e4⟩, h.tp, h.tg, fun k e hk => ?_⟩
  · have hk' : V.set g (some d') k = some e := hk
    by_cases x : k = g
    · subst x
      rw [St.set_same] at hk'
      cases hk'
      obtain ⟨x1, x2, x3⟩ := h.wr k d hd
      exact ⟨hF.cell x1 (h2 x3), by rw [ho]; exact hF.cell x2 (h2 x3), x3⟩
    · rw [St.set_other x] at hk'
      obtain ⟨x1, x2, x3⟩ := h.wr k e hk'
      exact ⟨hF.cell x1 (h2 x3), hF.cell x2 (h2 x3), x3⟩
  · have hk' : V.set g (some d') k = some e := hk
    by_cases x : k = g
    · subst x
      rw [St.set_same] at hk'
      cases hk'
      exact ⟨q, cap, A, ac, B', hs, hq, hA⟩
    · rw [St.set_other x] at hk'
      obtain ⟨q, cap, A, ac, B, x1, x2, x3⟩ := h.sl k e hk'
      exact ⟨q, cap, A, ac, B, x1.fr hF (ne (h.tx k e hk') (by omega)) (h2 x2) (h2 x3), x2, x3⟩
  · have hk' : V.set g (some d') k = some e := hk
    by_cases x : k = g
    · subst x; exact tx
    · rw [St.set_other x] at hk'
      exact h.tx k e hk'
/-- The set was written into. -/
theorem DrW.great {w w' : World} {T : Nat → Nat} {D : Dp} {V : St} {q cap vc : Nat} {A : Option Addr} {L : List (Nat × Nat)} {Z' B' : Nat → Nat} (h : DrW w T D V) (hg : w.grownBy w' (some D.g)) (hs : RgAt 0 w' D.g q cap V.key (V.n * 256) A vc L B') (hz : LZ L Z') (hq : T q = 2) (hA : L.length ≠ 0 → ∀ a, A = some a → T a.block = 2) :
    DrW w' T D { V with Z := Z' } := by
  have hF : Fr (fun i => i = D.g) w w' := fr_some hg (fun _ => rfl)
  have ne : ∀ {b y}, T b = y → y ≠ 4 → ¬ b = D.g := fun hb hy => lab_ne hb h.tg hy
  have h2 : ∀ {q}, T q = 2 → ¬ q = D.g := fun e => ne e (by omega)
  have hp := ne h.tp (by omega)
  obtain ⟨q1, k1, a1, a2, a3, a4⟩ := h.bt
  obtain ⟨q2, k2, b1, b2, b3, b4⟩ := h.rw_
  obtain ⟨q3, k3, d1, d2, d3, d4, d5, d6⟩ := h.ls
  exact ⟨hF.cell h.c0 hp, hF.cell h.c1 hp, ⟨q1, k1, hF.cell a1 hp, a2, bytes_fr a3 hF (h2 a4), a4⟩, ⟨q2, k2, hF.cell b1 hp, b2, rows_fr b3 hF (h2 b4), b4⟩,
    ⟨q3, k3, hF.cell d1 hp, d2, d3, Nat.lt_of_lt_of_le d4 hF.size, fun k => by rw [hF.frozen d4 (h2 d3)]; exact d5 k, fun k hk => hF.cell (d6 k hk) (h2 d3)⟩, hF.cell h.c5 hp, fun k => by rw [hF.frozen h.plt hp]; exact h.fz k,
    fun k d hk => ⟨hF.cell (h.wr k d hk).1 (h2 (h.wr k d hk).2.2), hF.cell (h.wr k d hk).2.1 (h2 (h.wr k d hk).2.2), (h.wr k d hk).2.2⟩,
    fun k d hk => by
      obtain ⟨q, cap, A, ac, B, x1, x2, x3⟩ := h.sl k d hk
      exact ⟨q, cap, A, ac, B, x1.fr hF (ne (h.tx k d hk) (by omega)) (h2 x2) (h2 x3), x2, x3⟩,
    ⟨q, cap, A, vc, L, B', hs, hz, hq, hA⟩, h.tp, h.tg, h.tx⟩
end Go.Proofs.YtgnfcklippjeeaaGreat

/- The document's region: its list of slabs under change; the walks of with, slab. -/
namespace Go.Proofs.YtgnfcklippjeeaaGreat
open Go.RowKit
open Sl (Cls bs upd)
open Lg (pgs)
open Rf (LZ)

/-- Values of one cell each, behind one another. -/
structure ValsAt (w : World) (q n : Nat) (f : Nat → Value) : Prop where
  c : ∀ i, i < n → w.cell? ⟨q, i, none⟩ = some (f i)
  fz : ∀ k, w.frozen? ⟨q, k, none⟩ = false
  qlt : q < w.heap.size
theorem ValsAt.grown {w w' : World} {q n : Nat} {f : Nat → Value} {r : Option Nat} (h : ValsAt w q n f) (hg : w.grownBy w' r) (hr : some q ≠ r) : ValsAt w' q n f :=
  ⟨fun i hi => hg.cell (h.c i hi) hr, fun k => by rw [World.frozen?_of_block (w := w) (hg.block q h.qlt hr)]; exact h.fz k, Nat.lt_of_lt_of_le h.qlt hg.size⟩
theorem ValsAt.set {w : World} {q n : Nat} {f : Nat → Value} (h : ValsAt w q n f) (k : Nat) (v : Value) : ValsAt (w.setCell ⟨q, k, none⟩ v) q n (fun i => if i = k then v else f i) where
  c := fun i hi => by
    show _ = some (if i = k then v else f i)
    by_cases e : i = k
    · subst e
      rw [if_pos rfl]
      exact World.cell?_setCell_same' _ _ _ (by rw [h.c i hi]; rfl)
    · rw [World.cell?_setCell_other _ _ _ _ (fun x => e (congrArg Addr.off x).symm), if_neg e]
      exact h.c i hi
  fz := fun j => by rw [World.frozen?_setCell]; exact h.fz j
  qlt := by have := h.qlt; simpa [World.setCell] using this
def vals (f : Nat → Value) (n : Nat) : List Value := (List.range n).map f
theorem vals_length (f : Nat → Value) (n : Nat) : (vals f n).length = n := by simp [vals]
theorem vals_at (f : Nat → Value) (n i : Nat) (h : i < n) : (vals f n)[i]? = some (f i) := by simp [vals, h]
theorem vals_one {f : Nat → Value} {n : Nat} (hf : ∀ i, (f i).oneCell' = true) : ∀ u ∈ vals f n, u.oneCell' = true := by
  intro u hu
  obtain ⟨i, _, rfl⟩ := List.mem_map.1 hu
  exact hf i
theorem vals_own {t : TypeId} {w : World} {n b0 : Nat} {f : Nat → Value} {v : Value} (h : w.ownsRow b0 t 1 v n (vals f n)) (hv : v ≠ .slice none 0 0) : ∃ q cap, v = .slice (some ⟨q, 0, none⟩) n cap ∧ n ≤ cap ∧ b0 ≤ q ∧ ValsAt w q n f := by
  obtain ⟨-, hn | ⟨g, cap, cur, rfl, hbg, hh, hnc, hcm, hcs, htake⟩⟩ := h
  · exact absurd hn.1 hv
  · refine ⟨g, cap, rfl, hnc, hbg, ⟨fun i hi => ?_, fun k => ?_, (Array.getElem?_eq_some_iff.1 hh).1⟩⟩
    · have e : w.cell? ⟨g, i, none⟩ = cur[i]? := by simp only [World.cell?, hh]; rfl
      have t := congrArg (fun l => l[i]?) htake
      simp only [List.getElem?_take, Nat.mul_one, hi, if_true, Array.getElem?_toList] at t
      rw [e, t, vals_at f n i hi]
    · simp only [World.frozen?, hh]
      simp

/-- The list of slabs is another one. -/
theorem DrW.list {w : World} {T : Nat → Nat} {D D' : Dp} {V : St} {q cap : Nat} {L' : Nat → Option Sd} (h : DrW w T D V) (hv : ValsAt w q V.n (fun k => .pointer (D'.ptr L' k))) (hc : V.n ≤ cap) (hq : T q = 2) (ep : D'.p = D.p) (eg : D'.g = D.g)
    (hwr : ∀ k d, L' k = some d → w.cell? ⟨D'.ws k, 0, none⟩ = some (.pointer (some ⟨D'.xs k, 0, none⟩)) ∧ w.cell? ⟨D'.ws k, 1, none⟩ = some (.int .i64 (d.o : Nat)) ∧ T (D'.ws k) = 2)
    (hsl : ∀ k d, L' k = some d → ∃ q cap A ac B, DsAt w (D'.xs k) V.key k (V.n * 256) q cap A ac d.c d.n d.S d.f B ∧ T q = 2 ∧ T A = 2) (htx : ∀ k d, L' k = some d → T (D'.xs k) = 5 + k) :
    DrW (w.setCell ⟨D.p, 4, none⟩ (.slice (some ⟨q, 0, none⟩) V.n cap)) T D' { V with L := L' } := by
  have hf := An.agrown_set w D.p 4 (.slice (some ⟨q, 0, none⟩) V.n cap)
  have hF : Fr (fun i => i = D.p) w (w.setCell ⟨D.p, 4, none⟩ (.slice (some ⟨q, 0, none⟩) V.n cap)) := fr_some hf (fun _ => rfl)
  have h2 : ∀ {q}, T q = 2 → q ≠ D.p := fun e => h.lt2 e (by omega)
  obtain ⟨q1, k1, a1, a2, a3, a4⟩ := h.bt
  obtain ⟨q2, k2, b1, b2, b3, b4⟩ := h.rw_
  obtain ⟨q3, k3, d1, d2, d3, d4, d5, d6⟩ := h.ls
  obtain ⟨q4, k4, A4, v4, L4, B4, e1, e2, e3, e4⟩ := h.gr
  refine ⟨?_, ?_, ⟨q1, k1, ?_, a2, bytes_fr a3 hF (h2 a4), a4⟩, ⟨q2, k2, ?_, b2, rows_fr b3 hF (h2 b4), b4⟩,
    ⟨q, cap, ?_, hc, hq, Nat.lt_of_lt_of_le hv.qlt hF.size, fun k => by rw [World.frozen?_setCell]; exact hv.fz k, fun k hk => hF.cell (hv.c k hk) (h2 hq)⟩, ?_, fun k => by rw [World.frozen?_setCell, ep]; exact h.fz k,
    fun k d hk => ⟨hF.cell (hwr k d hk).1 (h2 (hwr k d hk).2.2), hF.cell (hwr k d hk).2.1 (h2 (hwr k d hk).2.2), (hwr k d hk).2.2⟩,
    fun k d hk => by
      obtain ⟨q, cap, A, ac, B, x1, x2, x3⟩ := hsl k d hk
      exact ⟨q, cap, A, ac, B, x1.fr hF (h.lt2 (htx k d hk) (by omega)) (h2 x2) (h2 x3), x2, x3⟩,
    ⟨q4, k4, A4, v4, L4, B4, ?_, e2, e3, e4⟩, by rw [ep]; exact h.tp, by rw [eg]; exact h.tg, htx⟩
  · rw [ep]; exact setc_other (by decide) h.c0
  · rw [ep]; exact setc_other (by decide) h.c1
  · rw [ep]; exact setc_other (by decide) a1
  · rw [ep]; exact setc_other (by decide) b1
  · rw [ep]; exact World.cell?_setCell_same' _ _ _ (by rw [d1]; rfl)
  · rw [ep, eg]; exact setc_other (by decide) h.c5
  · rw [eg]; exact e1.fr2 hF (h.lt2 h.tg (by omega)) (h2 e3) (fun h0 a ha => h2 (e4 h0 a ha))

theorem infoSlabP : (Tryz.prog.info? 167).map (fun i => (i.zero, i.size, i.bytes)) = some (some (.pointer none), 1, 8) := by kernel_rfl
/-- What with leaves. -/
def RWith (w w' : World) (p n : Nat) (f : Nat → Value) : Prop := ∃ q cap w2, w' = w2.setCell ⟨p, 4, none⟩ (.slice (some ⟨q, 0, none⟩) n cap) ∧ n ≤ cap ∧ w.heap.size ≤ q ∧ w.grownBy w2 none ∧ ValsAt w2 q n f
set_option maxRecDepth 100000 in
set_option maxHeartbeats 2000000 in
theorem rwith_at {w : World} {T : Nat → Nat} {D : Dp} {V : St} {g : Nat} (h : DrW w T D V) (hg : g < V.n) (hn : V.n ≤ 256) (x : Option Addr) :
    Calls Tryz.prog 107 #[.pointer (some ⟨D.p, 0, none⟩), .int .i64 g, .pointer x] w fun e w' => e = .returned (.tuple #[]) ∧ RWith w w' D.p V.n (fun k => if k = g then .pointer x else .pointer (D.ptr V.L k)) := by
  obtain ⟨ql, cl, l1, l2, l3, l4, l5, l6⟩ := h.ls
  have HL := Lib.hid (And.intro l6 (And.intro l1 (And.intro l4 (And.intro (h.fz 4) h.plt))))
  have l1' := (grown_alloc w (.cells #[] 167) none).cell l1 (by simp)
  have hgi : (g : Int) < (V.n : Int) := by omega
  have hg256 : (g : Int) ≤ 256 := by omega
  have HGN := Lib.hid (And.intro hg hn)
  generalize V.n = n at *
  generalize D.p = p at *
  clear h hg hn l2 l3 l4 l5 l6
  obtain ⟨i0, hi, hz0, hz1, hz2⟩ := info_parts infoSlabP
  go_enter Tryz.func107, Tryz.ntmps107
  go_wp2_with (at_builtin; refine wpList_append_own _ rfl _ _ 43 rfl w.heap.size 167 i0 (.pointer none) 1 8 Tryz.underlying43 hi hz0 hz1 hz2 rfl (by decide) _ _ _ rfl (World.ownsRow_made w #[] 0 (Nat.le_refl _) (Nat.zero_le _) rfl) ⟨ql, 0, none⟩ n cl (vals (fun k => .pointer (D.ptr V.L k)) n) rfl ?c1 ?c2 ?c3 ?c4 ?c5 ?c6 ?_)
  case c1 => rw [vals_length, Nat.mul_one]
  case c2 =>
    intro j u hj
    have hj' : j < n := by
      have := (List.getElem?_eq_some_iff.1 hj).1
      rwa [vals_length] at this
    rw [vals_at _ n j hj'] at hj
    have h2 := (grown_alloc w (.cells #[] 167) none).cell (HL.out.1 j hj') (by simp)
    rw [← hj, An.aaddr_add]
    simpa using h2
  case c3 => exact vals_one (fun _ => rfl)
  case c4 => have := HGN.out; simp only [maxLen]; omega
  case c5 => have := HGN.out; omega
  case c6 => simp
  intro v' w1 hown hgrow hiff
  have hv : v' ≠ .slice none 0 0 := fun e => hiff e
  obtain ⟨q1, cap1, rfl, k1, k2, k3⟩ := vals_own (f := fun k => .pointer (D.ptr V.L k)) (n := n) (by simpa using hown) hv
  have k4 := grown_own (grown_alloc w _ none) hgrow (Nat.le_refl _)
  have HK := Lib.hid (And.intro k1 (And.intro k2 k4))
  have H3 := Lib.hid k3
  have d0 := k3.c g HGN.out.1
  have z0 := k3.fz g
  have HQP : Hid (p ≠ q1) := Lib.hid (by have := HL.out.2.2.2.2; omega)
  have hgs := An.agrown_set w1 q1 g (.pointer x)
  have d4 : (w1.setCell ⟨q1, g, none⟩ (.pointer x)).cell? ⟨p, 4, none⟩ = some (.slice (some ⟨ql, 0, none⟩) n cl) := hgs.cell (k4.cell HL.out.2.1 (by simp)) (some_ne HQP.out)
  have z4 : (w1.setCell ⟨q1, g, none⟩ (.pointer x)).frozen? ⟨p, 4, none⟩ = false := by rw [World.frozen?_setCell, World.frozen?_of_block (w := w) (k4.block p HL.out.2.2.2.2 (by simp))]; exact HL.out.2.2.2.1
  clear hown hgrow hiff hv hi hz0 hz1 hz2 k1 k2 k3 k4 hgs l1 l1'
  generalize D.ptr V.L g = old at d0
  go_upto_region 2 with (fail)
  obtain ⟨w2, hw2⟩ : ∃ w2 : World, w2 = w1.setCell ⟨q1, g, none⟩ (.pointer x) := ⟨_, rfl⟩
  have HW2 := Lib.hid hw2
  rw [← hw2] at d4 z4 ⊢
  clear hw2 d0 z0
  go_wp2
  go_end0
  refine ⟨rfl, q1, cap1, w2, rfl, HK.out.1, HK.out.2.1, ?_, ?_⟩
  · rw [HW2.out]; exact grown_own HK.out.2.2 (An.agrown_set _ _ _ _) HK.out.2.1
  · rw [HW2.out]; exact H3.out.set g _
end Go.Proofs.YtgnfcklippjeeaaGreat

/- The document's region: the walks of slab, place, Find, Owner. -/
namespace Go.Proofs.YtgnfcklippjeeaaGreat
open Go.RowKit
open Sl (Cls bs upd)
open Lg (pgs)
open Rf (LZ)

theorem Dp.ptr_some (D : Dp) {L : Nat → Option Sd} {g : Nat} {d : Sd} (h : L g = some d) : D.ptr L g = some ⟨D.ws g, 0, none⟩ := by unfold Dp.ptr; rw [h]
theorem Dp.ptr_none (D : Dp) {L : Nat → Option Sd} {g : Nat} (h : L g = none) : D.ptr L g = none := by unfold Dp.ptr; rw [h]
theorem St.set_self {V : St} {g : Nat} {d : Sd} (h : V.L g = some d) : V.set g (some d) = V.L := by
  funext j
  by_cases e : j = g
  · subst e; rw [St.set_same, h]
  · rw [St.set_other e]
set_option maxRecDepth 100000 in
set_option maxHeartbeats 1000000 in
theorem dslab_none {w : World} {T : Nat → Nat} {D : Dp} {V : St} (h : DrW w T D V) (page : Int) (hl : ∀ g : Nat, page = g → V.L g = none) :
    Calls Tryz.prog 108 #[.pointer (some ⟨D.p, 0, none⟩), .int .i64 page] w fun e w' => e = .returned (.pointer none) ∧ w = w' := by
  obtain ⟨ql, cl, l1, l2, l3, l4, l5, l6⟩ := h.ls
  by_cases h0 : page < 0
  · have e0 := decide_eq_true h0
    clear h hl l2 l3 l4 l5 l6
    go_enter Tryz.func108, Tryz.ntmps108
    go_wp2
    go_ret
    exact ⟨rfl, rfl⟩
  · have e0 := decide_eq_false h0
    by_cases h1 : page ≥ (V.n : Int)
    · have e1 := decide_eq_true h1
      clear h hl l2 l3 l4 l5 l6 h0
      generalize V.n = n at *
      go_enter Tryz.func108, Tryz.ntmps108
      go_wp2
      go_ret
      exact ⟨rfl, rfl⟩
    · have e1 := decide_eq_false h1
      obtain ⟨g, rfl⟩ : ∃ g : Nat, page = g := ⟨page.toNat, by omega⟩
      have d0 := l6 g (by omega)
      rw [D.ptr_none (hl g rfl)] at d0
      have hgi : (g : Int) < (V.n : Int) := by omega
      have hgc : g < V.n := by omega
      clear h hl l2 l3 l4 l5 l6 h0 h1
      generalize V.n = n at *
      go_enter Tryz.func108, Tryz.ntmps108
      go_wp2
      go_ret
      exact ⟨rfl, rfl⟩
/-- What slab leaves, where there is one: it has the region's bytes now. -/
def DSl (w w' : World) (T : Nat → Nat) (D : Dp) (V : St) (g : Nat) (d : Sd) : Prop := ∃ q cap A ac, w'.cell? ⟨D.p, 2, none⟩ = some (.slice (some ⟨q, 0, none⟩) (V.n * 256) cap) ∧ DsAt w' (D.xs g) V.key g (V.n * 256) q cap A ac d.c d.n d.S d.f V.B ∧ T q = 2 ∧ T A = 2 ∧ DrW w' T D V ∧ w.grownBy w' (some (D.xs g))
theorem dsl_set {w : World} {T : Nat → Nat} {D : Dp} {V : St} {g q cap : Nat} {d : Sd} (h : DrAt w T D V) (hl : V.L g = some d) (hc : w.cell? ⟨D.p, 2, none⟩ = some (.slice (some ⟨q, 0, none⟩) (V.n * 256) cap)) (hcap : V.n * 256 ≤ cap) (hb : An.BytesAt w q (V.n * 256) V.B) (hq : T q = 2) :
    (∃ v, w.cell? ⟨D.xs g, 0, none⟩ = some v) ∧ w.frozen? ⟨D.xs g, 0, none⟩ = false ∧ DSl w (w.setCell ⟨D.xs g, 0, none⟩ (.slice (some ⟨q, 0, none⟩) (V.n * 256) cap)) T D V g d := by
  obtain ⟨q0, cap0, A, ac, B0, x1, x2, x3⟩ := h.sl g d hl
  have tx := h.tx g d hl
  have hgs := An.agrown_set w (D.xs g) 0 (.slice (some ⟨q, 0, none⟩) (V.n * 256) cap)
  have hF : Fr (fun i => i = D.xs g) w (w.setCell ⟨D.xs g, 0, none⟩ (.slice (some ⟨q, 0, none⟩) (V.n * 256) cap)) := fr_some hgs (fun _ => rfl)
  have hqx : q ≠ D.xs g := lab_ne hq tx (by omega)
  have hd : DsAt (w.setCell ⟨D.xs g, 0, none⟩ (.slice (some ⟨q, 0, none⟩) (V.n * 256) cap)) (D.xs g) V.key g (V.n * 256) q cap A ac d.c d.n d.S d.f V.B :=
    ⟨⟨World.cell?_setCell_same' _ _ _ (by rw [x1.c0]; rfl), setc_other (by decide) x1.c1, setc_other (by decide) x1.c2, setc_other (by decide) x1.c3, setc_other (by decide) x1.c5, fun k => by rw [World.frozen?_setCell]; exact x1.fz k, bytes_fr hb hF hqx, hqx, hcap, x1.small, x1.gN, h.ok.lt, x1.k⟩, setc_other (by decide) x1.c4, x1.st.fr hF x1.As, x1.As, x1.hac⟩
  refine ⟨⟨_, x1.c0⟩, x1.fz 0, q, cap, A, ac, hF.cell hc (lab_ne h.tp tx (by omega)), hd, hq, x3, ?_, hgs⟩
  have := h.toDrW.slab hl hgs hd hq x3 rfl
  rw [St.set_self hl] at this
  exact this
set_option maxRecDepth 100000 in
set_option maxHeartbeats 2000000 in
theorem dslab_some {w : World} {T : Nat → Nat} {D : Dp} {V : St} {g : Nat} {d : Sd} (h : DrAt w T D V) (hl : V.L g = some d) :
    Calls Tryz.prog 108 #[.pointer (some ⟨D.p, 0, none⟩), .int .i64 g] w fun e w' => e = .returned (.pointer (some ⟨D.xs g, 0, none⟩)) ∧ DSl w w' T D V g d := by
  obtain ⟨ql, cl, l1, l2, l3, l4, l5, l6⟩ := h.ls
  obtain ⟨q, cap, b1, b2, b3, b4⟩ := h.bt
  obtain ⟨w1, w2, w3⟩ := h.wr g d hl
  have hgn : g < V.n := by have := (h.ok.sl g d hl).1; have := h.ok.mn; omega
  have hn := h.ok.n256
  have d0 := l6 g hgn
  rw [D.ptr_some hl] at d0
  have hgi : (g : Int) < (V.n : Int) := by omega
  have e0 : decide ((g : Int) < 0) = false := decide_eq_false (by omega)
  have e1 : decide ((g : Int) ≥ (V.n : Int)) = false := decide_eq_false (by omega)
  obtain ⟨s, hs⟩ : ∃ s, s = D.xs g := ⟨_, rfl⟩
  have HS := Lib.hid (fun (W : World) (gr : w.grownBy W none) => dsl_set (h.grown gr) hl (gr.cell b1 (by simp)) b2 (b3.grown gr (by simp)) b4)
  have HX : Hid (∀ (W : World) v, w.grownBy W none → (W.setCell ⟨s, 0, none⟩ v).cell? ⟨D.p, 4, none⟩ = some (.slice (some ⟨ql, 0, none⟩) V.n cl) ∧ (W.setCell ⟨s, 0, none⟩ v).cell? ⟨ql, g, none⟩ = some (.pointer (some ⟨D.ws g, 0, none⟩)) ∧ (W.setCell ⟨s, 0, none⟩ v).cell? ⟨D.ws g, 0, none⟩ = some (.pointer (some ⟨s, 0, none⟩))) := Lib.hid (fun W v gr => by
    have gs := An.agrown_set W s 0 v
    have tx := h.tx g d hl
    rw [← hs] at tx w1
    exact ⟨gs.cell (gr.cell l1 (by simp)) (some_ne (lab_ne h.tp tx (by omega))), gs.cell (gr.cell d0 (by simp)) (some_ne (lab_ne l3 tx (by omega))), gs.cell (gr.cell w1 (by simp)) (some_ne (lab_ne w3 tx (by omega)))⟩)
  rw [← hs] at w1 HS
  have HSE := Lib.hid hs
  have HSL : Hid (∀ W w', w.grownBy W none → DSl W w' T D V g d → DSl w w' T D V g d) := Lib.hid (fun W w' gr ⟨q, cap, A, ac, k1, k2, k3, k4, k5, k6⟩ => ⟨q, cap, A, ac, k1, k2, k3, k4, k5, grown_trans (grown_none gr) k6⟩)
  clear h l2 l3 l4 l5 l6 b2 b3 b4 w2 w3 hl hs
  generalize V.n * 256 = N at *
  generalize V.n = n at *
  generalize D.ws g = ws at *
  generalize D.p = p at *
  go_enter Tryz.func108, Tryz.ntmps108
  go_upto_region 3 with (fail)
  have hg2 := grown_drew1 (grown_refl w none)
  obtain ⟨⟨v, c0⟩, z0, hd⟩ := HS.out _ hg2
  obtain ⟨y1, y2, y3⟩ := HX.out _ (.slice (some ⟨q, 0, none⟩) N cap) hg2
  have HD := Lib.hid (HSL.out _ _ hg2 hd)
  clear hd HS HX HSL hg2
  go_still_tail 16, (by kernel_rfl)
  change wpList _ _ _ _ _ w.drew
  generalize w.drew = w2 at *
  go_wp2
  go_ret
  exact ⟨by rw [← HSE.out]; rfl, HD.out⟩
end Go.Proofs.YtgnfcklippjeeaaGreat

/- The document's region: the walks of place, Find, Owner. -/
namespace Go.Proofs.YtgnfcklippjeeaaGreat
open Go.RowKit
open Sl (Cls bs upd)
open Lg (pgs)
open Rf (LZ)

/-- The list's cell and what it holds. -/
theorem DrW.look {w : World} {T : Nat → Nat} {D : Dp} {V : St} (h : DrW w T D V) {g : Nat} (hg : g < V.n) : ∃ q c, w.cell? ⟨D.p, 4, none⟩ = some (.slice (some ⟨q, 0, none⟩) V.n c) ∧ w.cell? ⟨q, g, none⟩ = some (.pointer (D.ptr V.L g)) := by
  obtain ⟨ql, cl, l1, l2, l3, l4, l5, l6⟩ := h.ls
  exact ⟨ql, cl, l1, l6 g hg⟩
set_option maxRecDepth 100000 in
set_option maxHeartbeats 1000000 in
theorem dplace_at {w : World} {T : Nat → Nat} {D : Dp} {V : St} {g k : Nat} {d : Sd} (h : DrW w T D V) (hl : V.L g = some d) (hd : d.Ok) (hk : k < d.n) (hg : g < V.n) (hn : V.n ≤ 256) :
    Calls Tryz.prog 117 #[.pointer (some ⟨D.p, 0, none⟩), .int .i64 g, .int .i64 k] w fun e w' => e = .returned (pcv (spc g d k)) ∧ w.grownBy w' none := by
  obtain ⟨ql, cl, l1, l2⟩ := h.look hg
  rw [D.ptr_some hl] at l2
  obtain ⟨w1, -, -⟩ := h.wr g d hl
  obtain ⟨q, cap, A, ac, B, s1, -, -⟩ := h.sl g d hl
  have c3 := s1.c3
  have c4 := s1.c4
  have d0 := s1.st.c k hk
  have HSZ := Lib.hid (fun W => rsize_at hd.c W)
  have hs16 := hd.c.facts.s16
  have hs128 := hd.c.facts.s128
  have hrs := hd.c.facts.rs
  have hn16 := hd.c.facts.n16
  have hgi : (g : Int) < (V.n : Int) := by omega
  have hki : (k : Int) < (d.n : Int) := by omega
  have b1 := Sl.bs_hi hd.c g hk
  have e0 : ((d.s : Nat) : Int) * (k : Nat) = ((bs g d.s k : Nat) : Int) - 256 * (g : Int) := by
    unfold bs
    rw [Int.mul_comm]
    have : ((k * d.s : Nat) : Int) = (k : Int) * d.s := by simp
    omega
  have b2 := Sl.bs_lo g d.s k
  obtain ⟨u, hu⟩ : ∃ u : Int, 256 * (g : Int) = u := ⟨_, rfl⟩
  obtain ⟨x, hx⟩ : ∃ x : Int, ((bs g d.s k : Nat) : Int) - 256 * (g : Int) = x := ⟨_, rfl⟩
  have e1 : IntKind.i64.wrap (((d.s : Nat) : Int) * (k : Nat)) = x := by rw [e0, IntKind.wrap_i64]; omega
  have e2 : IntKind.i64.wrap (u + x) = ((bs g d.s k : Nat) : Int) := by rw [IntKind.wrap_i64]; omega
  have e3 : IntKind.i64.wrap (256 * (g : Int)) = u := by rw [IntKind.wrap_i64]; omega
  have e4 : IntKind.i64.wrap (((d.s : Nat) : Int) - 8) = ((d.r : Nat) : Int) := by rw [IntKind.wrap_i64]; omega
  have m0 := grown_alloc w (.cells #[.int .i64 0, .int .i64 0, .int .i64 0, .int .i64 0, .int .i64 0, .bool false] 101) none
  have l1 := m0.cell l1 (by simp)
  have l2 := m0.cell l2 (by simp)
  have w1 := m0.cell w1 (by simp)
  have c3 := m0.cell c3 (by simp)
  have c4 := m0.cell c4 (by simp)
  have d0 := m0.cell d0 (by simp)
  unfold pcv spc
  simp only []
  clear h hl s1 hs16 hs128 hrs hn16 b1 b2 e0 hu hx hg hk hd
  generalize ((bs g d.s k : Nat) : Int) = y at *
  generalize ((d.r : Nat) : Int) = r at *
  generalize ((d.s : Nat) : Int) = z at *
  generalize ((d.S k : Nat) : Int) = st at *
  generalize d.n = dn at *
  generalize V.n = n at *
  generalize D.ws g = ws at *
  generalize D.xs g = xs at *
  generalize D.p = p at *
  have mm := grown_refl (w.alloc (.cells #[.int .i64 0, .int .i64 0, .int .i64 0, .int .i64 0, .int .i64 0, .bool false] 101)) none
  go_enter Tryz.func117, Tryz.ntmps117
  go_upto_region 3 with ((go_at_call 103; (with_reducible refine (HSZ.out _).mono ?_); rintro e w' ⟨rfl, rfl⟩))
  go_wp2
  exact bodyPost_ret (v := .agg #[.int .i64 g, .int .i64 k, .int .i64 y, .int .i64 r, .int .i64 st, .bool false]) (by simp [results, Tryz.results117, go_sem]) rfl ⟨rfl, grown_alloc _ _ _⟩

theorem set6 (w : World) (q : Nat) (v0 v1 v2 v3 v4 v5 : Value) : w.grownBy ((((((w.setCell ⟨q, 0, none⟩ v0).setCell ⟨q, 1, none⟩ v1).setCell ⟨q, 2, none⟩ v2).setCell ⟨q, 3, none⟩ v3).setCell ⟨q, 4, none⟩ v4).setCell ⟨q, 5, none⟩ v5) (some q) :=
  grown_trans (grown_trans (grown_trans (grown_trans (grown_trans (An.agrown_set w q 0 _) (An.agrown_set _ q 1 _)) (An.agrown_set _ q 2 _)) (An.agrown_set _ q 3 _)) (An.agrown_set _ q 4 _)) (An.agrown_set _ q 5 _)
set_option maxRecDepth 100000 in
set_option maxHeartbeats 1000000 in
theorem dfind_out {w : World} {T : Nat → Nat} {D : Dp} {V : St} (h : DrW w T D V) {a : Int} (ha : a < 0 ∨ ((V.n * 256 : Nat) : Int) ≤ a) :
    Calls Tryz.prog 56 #[.pointer (some ⟨D.p, 0, none⟩), .int .i64 a] w fun e w' => e = .returned (fndV none) ∧ w.grownBy w' none := by
  obtain ⟨q, cap, b1, b2, b3, b4⟩ := h.bt
  have m0 := grown_alloc w (.cells #[.int .i64 0, .int .i64 0, .int .i64 0, .int .i64 0, .int .i64 0, .bool false] 101) none
  have b1 := m0.cell b1 (by simp)
  have mm := grown_refl (w.alloc (.cells #[.int .i64 0, .int .i64 0, .int .i64 0, .int .i64 0, .int .i64 0, .bool false] 101)) none
  have z0 := new_cell (v := .int .i64 0) mm (by simp) 0 rfl
  have z1 := new_cell (v := .int .i64 0) mm (by simp) 1 rfl
  have z2 := new_cell (v := .int .i64 0) mm (by simp) 2 rfl
  have z3 := new_cell (v := .int .i64 0) mm (by simp) 3 rfl
  have z4 := new_cell (v := .int .i64 0) mm (by simp) 4 rfl
  have z5 := new_cell (v := .bool false) mm (by simp) 5 rfl
  have zf : ∀ k, (w.alloc (.cells #[.int .i64 0, .int .i64 0, .int .i64 0, .int .i64 0, .int .i64 0, .bool false] 101)).frozen? ⟨w.heap.size, k, none⟩ = false := fun k => frozen_alloc_new ..
  have hsz : w.heap.size ≤ w.heap.size := Nat.le_refl _
  have hd : decide (a < 0) = true ∨ (decide (a < 0) = false ∧ decide (a ≥ ((V.n * 256 : Nat) : Int)) = true) := by
    by_cases h0 : a < 0
    · exact .inl (decide_eq_true h0)
    · exact .inr ⟨decide_eq_false h0, decide_eq_true (by omega)⟩
  generalize V.n * 256 = N at *
  clear h ha b2 b3 b4 mm
  rcases hd with e0 | ⟨e0, e1⟩
  · go_enter Tryz.func56, Tryz.ntmps56
    go_upto_region 1 with (fail)
    generalize w.alloc (.cells #[.int .i64 0, .int .i64 0, .int .i64 0, .int .i64 0, .int .i64 0, .bool false] 101) = w1 at *
    obtain ⟨q2, hq2⟩ : ∃ q2, w.heap.size = q2 := ⟨_, rfl⟩
    have HQ := Lib.hid (And.intro hq2 m0)
    rw [hq2] at z0 z1 z2 z3 z4 z5 zf ⊢
    clear hq2 m0
    go_wp2
    exact bodyPost_ret (v := fndV none) (by simp [results, Tryz.results56, go_sem, fndV, pc0, World.cell?_setCell_same', z0, z1, z2, z3, z4, z5]) rfl ⟨rfl, grown_own HQ.out.2 (set6 _ _ _ _ _ _ _ _) (Nat.le_of_eq HQ.out.1)⟩
  · go_enter Tryz.func56, Tryz.ntmps56
    go_upto_region 1 with (fail)
    generalize w.alloc (.cells #[.int .i64 0, .int .i64 0, .int .i64 0, .int .i64 0, .int .i64 0, .bool false] 101) = w1 at *
    obtain ⟨q2, hq2⟩ : ∃ q2, w.heap.size = q2 := ⟨_, rfl⟩
    have HQ := Lib.hid (And.intro hq2 m0)
    rw [hq2] at z0 z1 z2 z3 z4 z5 zf ⊢
    clear hq2 m0
    go_wp2
    exact bodyPost_ret (v := fndV none) (by simp [results, Tryz.results56, go_sem, fndV, pc0, World.cell?_setCell_same', z0, z1, z2, z3, z4, z5]) rfl ⟨rfl, grown_own HQ.out.2 (set6 _ _ _ _ _ _ _ _) (Nat.le_of_eq HQ.out.1)⟩
set_option maxRecDepth 100000 in
set_option maxHeartbeats 2000000 in
theorem dfind_slot {w : World} {T : Nat → Nat} {D : Dp} {V : St} (h : DrW w T D V) (hn : V.n ≤ 256) {x g : Nat} {d : Sd} (hl : V.L g = some d) (hd : d.Ok) (hg : x / 256 = g) (hgn : g < V.n) :
    Calls Tryz.prog 56 #[.pointer (some ⟨D.p, 0, none⟩), .int .i64 x] w fun e w' => e = .returned (fndV (some (spc g d (x % 256 / d.s)))) ∧ w.grownBy w' none := by
  obtain ⟨q, cap, b1, b2, b3, b4⟩ := h.bt
  obtain ⟨ql, cl, l1, l2⟩ := h.look hgn
  rw [D.ptr_some hl] at l2
  obtain ⟨w1, -, -⟩ := h.wr g d hl
  obtain ⟨q', cap', A, ac, B, s1, -, -⟩ := h.sl g d hl
  have c3 := s1.c3
  have hk : x % 256 / d.s < d.n := (slot_lt hd.c x).1
  have HSZ := Lib.hid (fun W => rsize_at hd.c W)
  have HQP := Lib.hid (fun W (g1 : w.grownBy W none) => dplace_at (h.grown g1) hl hd hk hgn hn)
  have hs16 := hd.c.facts.s16
  have e0 : decide ((x : Int) < 0) = false := decide_eq_false (by omega)
  have e1 : decide ((x : Int) ≥ ((V.n * 256 : Nat) : Int)) = false := decide_eq_false (by omega)
  have e1' : decide (V.n * 256 ≤ x) = false := decide_eq_false (by omega)
  have e1'' : ¬ V.n * 256 ≤ x := by omega
  have e2 : (x : Int).tdiv 256 = (g : Int) := by rw [Int.tdiv_eq_ediv_of_nonneg (by omega)]; omega
  obtain ⟨m, hm⟩ : ∃ m : Nat, x % 256 = m := ⟨_, rfl⟩
  have e3 : (x : Int).tmod 256 = (m : Int) := by rw [Int.tmod_eq_emod_of_nonneg (by omega)]; omega
  obtain ⟨y, hy⟩ : ∃ y : Nat, x % 256 / d.s = y := ⟨_, rfl⟩
  have e4 : (m : Int).tdiv ((d.s : Nat) : Int) = (y : Int) := by rw [Int.tdiv_eq_ediv_of_nonneg (by omega), ← hy, ← hm]; simp
  have e5 : ¬ ((d.s : Nat) : Int) = 0 := by omega
  have e6 : (((d.s : Nat) : Int) == 0) = false := by simpa using e5
  have hgi : (g : Int) < (V.n : Int) := by omega
  have hmi : (m : Int) < 256 := by omega
  have hyi : (y : Int) < 256 := by have := hd.c.facts.n16; omega
  have hgi2 : (g : Int) < 256 := by omega
  rw [hy] at HQP ⊢
  obtain ⟨x0, x1, x2, x3, x4, x5, hx'⟩ : ∃ x0 x1 x2 x3 x4 : Int, ∃ x5 : Bool, pcv (spc g d y) = .agg #[.int .i64 x0, .int .i64 x1, .int .i64 x2, .int .i64 x3, .int .i64 x4, .bool x5] := ⟨_, _, _, _, _, _, rfl⟩
  unfold fndV
  simp only []
  rw [hx'] at HQP ⊢
  have m0 := grown_alloc w (.cells #[.int .i64 0, .int .i64 0, .int .i64 0, .int .i64 0, .int .i64 0, .bool false] 101) none
  have b1 := m0.cell b1 (by simp)
  have l1 := m0.cell l1 (by simp)
  have l2 := m0.cell l2 (by simp)
  have w1 := m0.cell w1 (by simp)
  have c3 := m0.cell c3 (by simp)
  have hx3 : (x : Int) ≤ 65536 := by omega
  have hzi : ((d.s : Nat) : Int) ≤ 128 := by have := hd.c.facts.s128; omega
  clear h hx' hk hd hl hg hm hy s1 hs16 b2 b3 b4 hn hgn
  generalize ((d.s : Nat) : Int) = z at *
  generalize ((d.c : Nat) : Int) = c at *
  generalize V.n * 256 = N at *
  generalize V.n = n at *
  generalize D.ws g = ws at *
  generalize D.xs g = xs at *
  generalize D.p = p at *
  go_enter Tryz.func56, Tryz.ntmps56
  go_upto_region 7 with ((go_at_call 103; (with_reducible refine (HSZ.out _).mono ?_); rintro e w' ⟨rfl, rfl⟩))
  go_wp2_with fail
  refine (HQP.out _ m0).mono ?_
  rintro e w4 ⟨rfl, mm⟩
  have HE := Lib.hid (grown_trans m0 mm)
  have z0 := new_cell (v := .int .i64 0) mm (by simp) 0 rfl
  have z1 := new_cell (v := .int .i64 0) mm (by simp) 1 rfl
  have z2 := new_cell (v := .int .i64 0) mm (by simp) 2 rfl
  have z3 := new_cell (v := .int .i64 0) mm (by simp) 3 rfl
  have z4 := new_cell (v := .int .i64 0) mm (by simp) 4 rfl
  have z5 := new_cell (v := .bool false) mm (by simp) 5 rfl
  have zf : ∀ k, w4.frozen? ⟨w.heap.size, k, none⟩ = false := fun k => by rw [World.frozen?_of_block (mm.block w.heap.size (by simp) (by simp))]; exact frozen_alloc_new ..
  obtain ⟨q, hq⟩ : ∃ q, w.heap.size = q := ⟨_, rfl⟩
  have HQ := Lib.hid hq
  rw [hq] at z0 z1 z2 z3 z4 z5 zf ⊢
  clear hq mm m0
  go_wp2
  exact bodyPost_ret (v := .tuple #[.agg #[.int .i64 x0, .int .i64 x1, .int .i64 x2, .int .i64 x3, .int .i64 x4, .bool x5], .bool true]) (by simp [results, Tryz.results56, go_sem, World.cell?_setCell_same', z0, z1, z2, z3, z4, z5]) rfl ⟨rfl, grown_own HE.out (set6 _ _ _ _ _ _ _ _) (Nat.le_of_eq HQ.out)⟩
end Go.Proofs.YtgnfcklippjeeaaGreat

/- The document's region: the walk of Find through the great blocks; Find whole; Owner. -/
namespace Go.Proofs.YtgnfcklippjeeaaGreat
open Go.RowKit
open Sl (Cls bs upd)
open Lg (pgs)
open Rf (LZ)

theorem rising_len : ∀ (L : List (Nat × Nat)) (a m : Nat), L.Pairwise (fun x y => x.1 < y.1) → (∀ x ∈ L, a ≤ x.1 ∧ x.1 < m) → L.length ≤ m - a
  | [], _, _, _, _ => Nat.zero_le _
  | x :: l, a, m, hp, hb => by
    obtain ⟨h1, h2⟩ := hb x (by simp)
    have hp' := List.pairwise_cons.1 hp
    have := rising_len l (x.1 + 1) m hp'.2 (fun y hy => ⟨hp'.1 y hy, (hb y (by simp [hy])).2⟩)
    simp only [List.length_cons]
    omega
theorem St.Ok.lz_at {V : St} (h : V.Ok) {L : List (Nat × Nat)} (hz : LZ L V.Z) {k : Nat} (hk : k < L.length) : 120 < L[k].2 ∧ L[k].2 ≤ 4096 ∧ L[k].1 + pgs L[k].2 ≤ 256 ∧ V.Z L[k].1 = L[k].2 := by
  obtain ⟨e1, e2⟩ := hz.at_ hk
  have a := h.gr L[k].1 (by omega)
  have := h.mn
  have := h.n256
  rw [e1] at a
  exact ⟨a.1, a.2.1, by omega, e1⟩
theorem St.Ok.lz_len {V : St} (h : V.Ok) {L : List (Nat × Nat)} (hz : LZ L V.Z) : L.length ≤ 256 := by
  have := rising_len L 0 256 hz.up (fun x hx => by
    obtain ⟨k, hk, rfl⟩ := List.mem_iff_getElem.1 hx
    obtain ⟨_, _, h3, _⟩ := h.lz_at hz hk
    have := Lg.pgs_pos L[k].2
    exact ⟨Nat.zero_le _, by omega⟩)
  omega
/-- What Find answers of a page that is none of slots. -/
def FndG (V : St) (g : Nat) (y : Option Pc) : Prop := (y = none ∧ ∀ a, ¬ V.Gr g a) ∨ ∃ a, V.Gr g a ∧ y = some (gpc a (V.Z a))
set_option maxRecDepth 100000 in
set_option maxHeartbeats 4000000 in
theorem dfind_great {w : World} {T : Nat → Nat} {D : Dp} {V : St} (h : DrAt w T D V) {x g : Nat} (hl : V.L g = none) (hg : x / 256 = g) (hgn : g < V.n) :
    Calls Tryz.prog 56 #[.pointer (some ⟨D.p, 0, none⟩), .int .i64 x] w fun e w' => (∃ y, e = .returned (fndV y) ∧ FndG V g y) ∧ w.grownBy w' none := by
  obtain ⟨q, cap, b1, b2, b3, b4⟩ := h.bt
  obtain ⟨ql, cl, l1, l2⟩ := h.look hgn
  rw [D.ptr_none hl] at l2
  obtain ⟨qg, cg, Ag, vc, L, Bg, g1, g2, g3, g4⟩ := h.gr
  have c5 := h.c5
  have gc2 := g1.c2
  have HEL := Lib.hid g1.els
  have hlen := h.ok.lz_len g2
  have HLZ : Hid (∀ k (hk : k < L.length), 120 < L[k].2 ∧ L[k].2 ≤ 4096 ∧ L[k].1 + pgs L[k].2 ≤ 256 ∧ (L[k].1 ≤ g → g < L[k].1 + pgs L[k].2 → FndG V g (some (gpc L[k].1 L[k].2)))) := Lib.hid (fun k hk => by
    obtain ⟨a1, a2, a3, a4⟩ := h.ok.lz_at g2 hk
    exact ⟨a1, a2, a3, fun h1 h2 => .inr ⟨L[k].1, ⟨by omega, h1, by rw [a4]; exact h2⟩, by rw [a4]⟩⟩)
  have HNO : Hid ((∀ k (hk : k < L.length), ¬ (L[k].1 ≤ g ∧ g < L[k].1 + pgs L[k].2)) → FndG V g none) := Lib.hid (fun hno => .inl ⟨rfl, fun a ⟨h1, h2, h3⟩ => by
    obtain ⟨i, hi, e⟩ := List.mem_iff_getElem.1 ((g2.mem a (V.Z a)).2 ⟨rfl, h1⟩)
    refine hno i hi ?_
    rw [e]
    exact ⟨h2, h3⟩⟩)
  have hn256 := h.ok.n256
  have e0 : decide ((x : Int) < 0) = false := decide_eq_false (by omega)
  have e1' : decide (V.n * 256 ≤ x) = false := decide_eq_false (by omega)
  have e1'' : ¬ V.n * 256 ≤ x := by omega
  have e2 : (x : Int).tdiv 256 = (g : Int) := by rw [Int.tdiv_eq_ediv_of_nonneg (by omega)]; omega
  have hgi : (g : Int) < (V.n : Int) := by omega
  have hgi2 : (g : Int) < 256 := by omega
  have hx3 : (x : Int) ≤ 65536 := by omega
  have m0 := grown_alloc w (.cells #[.int .i64 0, .int .i64 0, .int .i64 0, .int .i64 0, .int .i64 0, .bool false] 101) none
  have b1 := m0.cell b1 (by simp)
  have l1 := m0.cell l1 (by simp)
  have l2 := m0.cell l2 (by simp)
  have c5 := m0.cell c5 (by simp)
  have gc2 := m0.cell gc2 (by simp)
  have HM0 := Lib.hid m0
  obtain ⟨n, hn⟩ : ∃ n, n = L.length := ⟨_, rfl⟩
  rw [← hn] at gc2 hlen
  have HN := Lib.hid hn
  have hni : (n : Int) ≤ 256 := by omega
  clear h hl hg b2 b3 b4 g1 g2 g3 g4 hgn hn256 hn m0
  generalize V.n * 256 = N at *
  generalize V.n = vn at *
  generalize D.p = p at *
  generalize D.g = dg at *
  go_enter Tryz.func56, Tryz.ntmps56
  go_upto_region 1 with (fail)
  obtain ⟨w0, hw0⟩ : ∃ w0, w0 = w.alloc (.cells #[.int .i64 0, .int .i64 0, .int .i64 0, .int .i64 0, .int .i64 0, .bool false] 101) := ⟨_, rfl⟩
  have HZ : Hid (∀ W, w0.grownBy W none → (∀ k, W.frozen? ⟨w.heap.size, k, none⟩ = false) ∧ W.cell? ⟨w.heap.size, 0, none⟩ = some (.int .i64 0) ∧ W.cell? ⟨w.heap.size, 1, none⟩ = some (.int .i64 0) ∧ W.cell? ⟨w.heap.size, 2, none⟩ = some (.int .i64 0) ∧ W.cell? ⟨w.heap.size, 3, none⟩ = some (.int .i64 0) ∧ W.cell? ⟨w.heap.size, 4, none⟩ = some (.int .i64 0) ∧ W.cell? ⟨w.heap.size, 5, none⟩ = some (.bool false)) := Lib.hid (fun W mm => by
    rw [hw0] at mm
    exact ⟨fun k => by rw [World.frozen?_of_block (mm.block w.heap.size (by simp) (by simp))]; exact frozen_alloc_new .., new_cell (v := .int .i64 0) mm (by simp) 0 rfl, new_cell (v := .int .i64 0) mm (by simp) 1 rfl, new_cell (v := .int .i64 0) mm (by simp) 2 rfl, new_cell (v := .int .i64 0) mm (by simp) 3 rfl, new_cell (v := .int .i64 0) mm (by simp) 4 rfl, new_cell (v := .bool false) mm (by simp) 5 rfl⟩)
  have HC : Hid (∀ k (hk : k < L.length), ∃ gb, Ag = some ⟨gb, 0, none⟩ ∧ w0.cell? ⟨gb, k * 2, none⟩ = some (.int .i64 (L[k].1 : Nat)) ∧ w0.cell? ⟨gb, k * 2 + 1, none⟩ = some (.int .i64 (L[k].2 : Nat))) := Lib.hid (fun k hk => by
    rcases HEL.out with h0 | ⟨gb, e, _, _, hc⟩
    · omega
    · exact ⟨gb, e, by rw [hw0]; exact HM0.out.cell (hc k hk).1 (by simp), by rw [hw0]; exact HM0.out.cell (hc k hk).2 (by simp)⟩)
  rw [← hw0] at b1 l1 l2 c5 gc2 HM0 ⊢
  clear hw0 HEL
  obtain ⟨rb, hrb⟩ : ∃ rb, w.heap.size = rb := ⟨_, rfl⟩
  have HRB := Lib.hid hrb
  rw [hrb] at HZ ⊢
  clear hrb
  go_wp2_with fail
  obtain ⟨w2, hw2⟩ : ∃ w2 : World, w2 = w0 := ⟨_, rfl⟩
  clear hw2
  go_loopw [63] (fun i wr => ∃ k : Nat, k ≤ n ∧ i = .int .i64 k ∧ w0.grownBy wr none ∧ ∀ j (_ : j < k) (hj : j < L.length), ¬ (L[j].1 ≤ g ∧ g < L[j].1 + pgs L[j].2)) (fun i _ => n - (intOf i).toNat)
  case atStart => exact ⟨0, by omega, rfl, grown_refl _ _, fun j hj => by omega⟩
  case round =>
    obtain ⟨k, hk, rfl, hgr, hno⟩ := hrel
    have HG := Lib.hid hgr
    have HO := Lib.hid hno
    clear hgr hno
    by_cases hlt : k < n
    · have hkl : k < L.length := by rw [← HN.out]; exact hlt
      obtain ⟨gb, rfl, hc0, hc1⟩ := HC.out k hkl
      have d0 := HG.out.cell hc0 (by simp)
      have d1 := HG.out.cell hc1 (by simp)
      have HE := Lib.hid (HLZ.out k hkl)
      have HNK : Hid (¬ ((L[k]'hkl).1 ≤ g ∧ g < (L[k]'hkl).1 + pgs (L[k]'hkl).2) → ∀ j (_ : j < k + 1) (hj : j < L.length), ¬ (L[j].1 ≤ g ∧ g < L[j].1 + pgs L[j].2)) := Lib.hid (fun hf j hj hjl => by
        by_cases e : j < k
        · exact HO.out j e hjl
        · obtain rfl : j = k := by omega
          exact hf)
      obtain ⟨pp, hpp⟩ : ∃ pp, (L[k]'hkl).1 = pp := ⟨_, rfl⟩
      obtain ⟨m, hm⟩ : ∃ m, (L[k]'hkl).2 = m := ⟨_, rfl⟩
      rw [hpp] at d0 HE HNK
      rw [hm] at d1 HE HNK
      obtain ⟨m1, m2, m3, -⟩ := HE.out
      have HPK := Lib.hid (fun W => rpg_at m W m1 m2)
      have HM := Lib.hid (And.intro m1 m2)
      have hpi2 : (pp : Int) ≤ 256 := by omega
      have hgi3 : ((pgs m : Nat) : Int) ≤ 256 := by omega
      have hmi : (m : Int) ≤ 4096 := by omega
      clear hpp hm hc0 hc1 m1 m2 m3 HLZ HC
      obtain ⟨t, ht⟩ : ∃ t : Int, (pp : Int) + ((pgs m : Nat) : Int) = t := ⟨_, rfl⟩
      have HTT := Lib.hid ht
      have a2 : IntKind.i64.wrap ((pp : Int) + ((pgs m : Nat) : Int)) = t := by rw [IntKind.wrap_i64]; omega
      have a3 : IntKind.i64.wrap (256 * (pp : Int)) = ((pp * 256 : Nat) : Int) := by rw [IntKind.wrap_i64]; omega
      clear ht
      generalize pgs m = gk at *
      go_upto_region 11 with (fail)
      obtain ⟨xb, hxb⟩ : ∃ xb, xb = wr.heap.size := ⟨_, rfl⟩
      rw [← hxb]
      have x0 : (wr.alloc (.cells #[.int .i64 pp, .int .i64 m] 174)).cell? ⟨xb, 0, none⟩ = some (.int .i64 pp) := by rw [hxb, cell_alloc_new]; rfl
      have x1 : (wr.alloc (.cells #[.int .i64 pp, .int .i64 m] 174)).cell? ⟨xb, 1, none⟩ = some (.int .i64 m) := by rw [hxb, cell_alloc_new]; rfl
      have HG1 : Hid (w0.grownBy (wr.alloc (.cells #[.int .i64 pp, .int .i64 m] 174)) none) := Lib.hid (grown_trans HG.out (grown_alloc _ _ _))
      generalize wr.alloc (.cells #[.int .i64 pp, .int .i64 m] 174) = w1 at x0 x1 HG1 ⊢
      clear hxb HG d0 d1
      have HX := Lib.hid (And.intro x0 x1)
      by_cases hb1 : pp ≤ g
      · have f1 : decide ((g : Int) ≥ (pp : Int)) = true := decide_eq_true (by omega)
        have f1' : decide (pp ≤ g) = true := decide_eq_true hb1
        by_cases hb2 : g < pp + gk
        · have f2 : decide ((g : Int) < t) = true := decide_eq_true (by have := HTT.out; omega)
          have HYES := Lib.hid (HE.out.2.2.2 hb1 hb2)
          have hmp : 0 ≤ (pp : Int) := by omega
          clear hb1 hb2 HNK
          go_quiet ((go_at_call 115; exact quiet_left (HPK.out _)))
          rename Nat => nq
          have hg2 := grown_drew HG1.out nq
          obtain ⟨zf, z0, z1, z2, z3, z4, z5⟩ := HZ.out _ hg2
          have HG2 := Lib.hid (grown_trans HM0.out hg2)
          have y0 : (w1.drewN nq).cell? ⟨xb, 0, none⟩ = some (.int .i64 pp) := by simpa using HX.out.1
          have y1 : (w1.drewN nq).cell? ⟨xb, 1, none⟩ = some (.int .i64 m) := by simpa using HX.out.2
          clear hg2 x0 x1 HX HG1 HZ HM0
          generalize w1.drewN nq = w3 at *
          go_wp2
          exact bodyPost_ret (v := fndV (some (gpc pp m))) (by simp [results, Tryz.results56, go_sem, fndV, pcv, gpc, World.cell?_setCell_same', z0, z1, z2, z3, z4, z5]) rfl ⟨⟨_, rfl, HYES.out⟩, grown_own HG2.out (set6 _ _ _ _ _ _ _ _) (Nat.le_of_eq HRB.out)⟩
        · have f2 : decide ((g : Int) < t) = false := decide_eq_false (by have := HTT.out; omega)
          have HNX := Lib.hid (HNK.out (fun hh => hb2 hh.2))
          clear hb1 hb2 HNK
          go_quiet ((go_at_call 115; exact quiet_left (HPK.out _)))
          go_wp2
          go_roundw
          case rel => exact ⟨k + 1, by omega, by go_num, grown_drew HG1.out _, HNX.out⟩
          case measure => simp [intOf]; omega
      · have f1 : decide ((g : Int) ≥ (pp : Int)) = false := decide_eq_false (by omega)
        have f1' : decide (pp ≤ g) = false := decide_eq_false hb1
        have HNX := Lib.hid (HNK.out (fun hh => hb1 hh.1))
        clear hb1 HNK
        go_quiet (fail)
        go_wp2
        go_roundw
        case rel => exact ⟨k + 1, by omega, by go_num, grown_drew HG1.out _, HNX.out⟩
        case measure => simp [intOf]; omega
    · obtain rfl : k = n := by omega
      have HYES := Lib.hid (HNO.out (fun j hj => HO.out j (by rw [HN.out]; exact hj) hj))
      obtain ⟨zf, z0, z1, z2, z3, z4, z5⟩ := HZ.out _ HG.out
      have HG2 := Lib.hid (grown_trans HM0.out HG.out)
      clear HZ HM0 HG
      go_wp2
      exact bodyPost_ret (v := fndV none) (by simp [results, Tryz.results56, go_sem, fndV, pc0, World.cell?_setCell_same', z0, z1, z2, z3, z4, z5]) rfl ⟨⟨_, rfl, HYES.out⟩, grown_own HG2.out (set6 _ _ _ _ _ _ _ _) (Nat.le_of_eq HRB.out)⟩
/-- Find. -/
theorem dfind_at {w : World} {T : Nat → Nat} {D : Dp} {V : St} (h : DrAt w T D V) {a : Int} {x : Option Pc} (hx : V.At a x) :
    Calls Tryz.prog 56 #[.pointer (some ⟨D.p, 0, none⟩), .int .i64 a] w fun e w' => e = .returned (fndV x) ∧ w.grownBy w' none := by
  have hn := h.ok.n256
  cases hx with
  | out ha => exact dfind_out h.toDrW ha
  | none g y e hg hgn hl hz =>
    subst e
    refine (dfind_great h hl hg hgn).mono ?_
    rintro e w' ⟨⟨y, he, ⟨rfl, _⟩ | ⟨a, ha, _⟩⟩, hgr⟩
    · exact ⟨he, hgr⟩
    · exact absurd ha (hz a)
  | slot g d y e hg hgn hl =>
    subst e
    exact dfind_slot h.toDrW hn hl (h.ok.sl g d hl).2.2 hg hgn
  | great g b y e hg hgn hl hz =>
    subst e
    refine (dfind_great h hl hg hgn).mono ?_
    rintro e w' ⟨⟨y, he, ⟨rfl, hno⟩ | ⟨a, ha, rfl⟩⟩, hgr⟩
    · exact absurd hz (hno b)
    · rw [h.ok.gr_uniq hz ha]
      exact ⟨he, hgr⟩
end Go.Proofs.YtgnfcklippjeeaaGreat

/- The document's region: the walks of Take, Drop, Give of slots. -/
namespace Go.Proofs.YtgnfcklippjeeaaGreat
open Go.RowKit
open Sl (Cls bs upd LnkIs)
open Lg (pgs)
open Rf (LZ)

/-- Labels under which all that is new is what nobody writes into any more. -/
def relab (T : Nat → Nat) (s : Nat) : Nat → Nat := fun i => if i < s then T i else 2
theorem relab_old (T : Nat → Nat) {s i : Nat} (h : i < s) : relab T s i = T i := if_pos h
theorem relab_new (T : Nat → Nat) {s i : Nat} (h : s ≤ i) : relab T s i = 2 := if_neg (by omega)
theorem DrAt.relab {w : World} {T T' : Nat → Nat} {D : Dp} {V : St} (h : DrAt w T D V) (hT : ∀ i, i < w.heap.size → T' i = T i) : DrAt w T' D V := ⟨h.toDrW.relab hT, h.ok⟩
/-- A slab behind a call of its own. -/
def DRs (w1 w2 : World) (T : Nat → Nat) (D : Dp) (V : St) (g : Nat) (d' : Sd) (B2 : Nat → Nat) : Prop := (∃ q cap A ac, DsAt w2 (D.xs g) V.key g (V.n * 256) q cap A ac d'.c d'.n d'.S d'.f B2 ∧ T q = 2 ∧ T A = 2) ∧ w1.grownBy w2 (some (D.xs g))
theorem drs_to {w w1 w2 : World} {T : Nat → Nat} {D : Dp} {V : St} {g : Nat} {d' : Sd} {B2 : Nat → Nat} (hw : w.heap.size ≤ w1.heap.size) (h : DTo w1 w2 (D.xs g) V.key g (V.n * 256) d'.c d'.n d'.S d'.f B2) : DRs w1 w2 (relab T w.heap.size) D V g d' B2 := by
  obtain ⟨⟨q, cap, A, ac, h1, h2, h3⟩, hg⟩ := h
  exact ⟨⟨q, cap, A, ac, h1, relab_new T (by omega), relab_new T (by omega)⟩, hg⟩
theorem drs_same {w1 w2 : World} {T : Nat → Nat} {D : Dp} {V : St} {g : Nat} {d : Sd} {w : World} (h : DSl w w1 T D V g d) (hg : w1.grownBy w2 none) : DRs w1 w2 T D V g d V.B := by
  obtain ⟨q, cap, A, ac, h1, h2, h3, h4, _⟩ := h
  exact ⟨⟨q, cap, A, ac, h2.grown hg, h3, h4⟩, grown_none hg⟩
/-- What the slab has is what the region has then. -/
def St.put (V : St) (g : Nat) (d' : Sd) (B2 : Nat → Nat) : St := { V with B := B2, L := V.set g (some d') }
theorem St.put_same {V : St} {g : Nat} {d : Sd} (h : V.L g = some d) : V.put g d V.B = V := by unfold St.put; rw [St.set_self h]
theorem drs_store {w w1 w2 : World} {T : Nat → Nat} {D : Dp} {V : St} {g : Nat} {d d' : Sd} {B2 : Nat → Nat} (hl : V.L g = some d) (h : DSl w w1 T D V g d) (hr : DRs w1 w2 T D V g d' B2) (ho : d'.o = d.o) (hg3 : 3 ≤ T (D.xs g)) (hp3 : 3 ≤ T D.p) :
    ∃ q cap, w2.cell? ⟨D.xs g, 0, none⟩ = some (.slice (some ⟨q, 0, none⟩) (V.n * 256) cap) ∧ (∃ v, w2.cell? ⟨D.p, 2, none⟩ = some v) ∧ w2.frozen? ⟨D.p, 2, none⟩ = false ∧
      DrW (w2.setCell ⟨D.p, 2, none⟩ (.slice (some ⟨q, 0, none⟩) (V.n * 256) cap)) T D (V.put g d' B2) ∧ Fr (fun i => 3 ≤ T i) w (w2.setCell ⟨D.p, 2, none⟩ (.slice (some ⟨q, 0, none⟩) (V.n * 256) cap)) ∧ (w2.setCell ⟨D.p, 2, none⟩ (.slice (some ⟨q, 0, none⟩) (V.n * 256) cap)).cell? ⟨D.xs g, 3, none⟩ = some (.int .i64 (d'.c : Nat)) := by
  obtain ⟨q1, cap1, A1, ac1, s1, s2, s3, s4, s5, s6⟩ := h
  obtain ⟨⟨q, cap, A, ac, h1, h2, h3⟩, hg⟩ := hr
  have hW := s5.slab hl hg h1 h2 h3 ho
  obtain ⟨q0, cap0, b1, _⟩ := hW.bt
  have hne : D.xs g ≠ D.p := lab_ne (s5.tx g d hl) s5.tp (by omega)
  have hgs := An.agrown_set w2 D.p 2 (.slice (some ⟨q, 0, none⟩) (V.n * 256) cap)
  refine ⟨q, cap, h1.c0, ⟨_, b1⟩, hW.fz 2, hW.bytes h1.b h1.hcap h2, ?_, hgs.cell h1.c3 (some_ne hne)⟩
  exact (fr_some (may := fun i => 3 ≤ T i) (grown_trans s6 hg) (fun _ => hg3)).trans (fr_some hgs (fun _ => hp3))

set_option maxRecDepth 100000 in
set_option maxHeartbeats 1000000 in
theorem dtake_none {w : World} {T : Nat → Nat} {D : Dp} {V : St} (h : DrW w T D V) (page : Int) (hl : ∀ g : Nat, page = g → V.L g = none) :
    Calls Tryz.prog 51 #[.pointer (some ⟨D.p, 0, none⟩), .int .i64 page] w fun e w' => e = .returned (.tuple #[.int .i64 0, .int .i64 6]) ∧ w = w' := by
  have HS := Lib.hid (dslab_none h page hl)
  clear h hl
  go_enter Tryz.func51, Tryz.ntmps51
  go_wp2_with (go_at_call 108; (with_reducible refine HS.out.mono ?_); rintro e w' ⟨rfl, rfl⟩)
  go_ret2
  exact ⟨rfl, rfl⟩
set_option maxRecDepth 100000 in
set_option maxHeartbeats 2000000 in
theorem dtake_err {w : World} {T : Nat → Nat} {D : Dp} {V : St} {g : Nat} {d : Sd} (h : DrAt w T D V) (hl : V.L g = some d) (er : Int) (hz : er ≠ 0)
    (HT : Hid (∀ w1, DSl w w1 T D V g d → Calls Tryz.prog 109 #[.pointer (some ⟨D.xs g, 0, none⟩)] w1 fun e w2 => e = .returned (.tuple #[.int .i64 0, .int .i64 er]) ∧ DRs w1 w2 T D V g d V.B)) :
    Calls Tryz.prog 51 #[.pointer (some ⟨D.p, 0, none⟩), .int .i64 g] w fun e w' => e = .returned (.tuple #[.int .i64 0, .int .i64 er]) ∧ DrW w' T D V ∧ Fr (fun i => 3 ≤ T i) w w' := by
  have HS := Lib.hid (dslab_some h hl)
  have HF : Hid (∀ w1 w2, DSl w w1 T D V g d → DRs w1 w2 T D V g d V.B → _) := Lib.hid (fun w1 w2 h1 h2 => drs_store hl h1 h2 rfl (by rw [h.tx g d hl]; omega) (by rw [h.tp]; omega))
  rw [St.put_same hl] at HF
  have hz1 : (er != 0) = true := by simpa using hz
  clear h hl hz
  generalize D.xs g = s at *
  generalize D.p = p at *
  go_enter Tryz.func51, Tryz.ntmps51
  go_upto_region 5 with (first
    | (go_at_call 108; (with_reducible refine HS.out.mono ?_); rintro e w1 ⟨rfl, hs⟩; have H1 := Lib.hid hs; clear hs)
    | (go_at_call 109; (with_reducible refine (HT.out _ H1.out).mono ?_); rintro e w2 ⟨rfl, hr⟩; have H2 := Lib.hid hr; clear hr))
  obtain ⟨q, cap, c0, ⟨v, c2⟩, z2, hW, hf, -⟩ := HF.out _ _ H1.out H2.out
  have HW := Lib.hid (And.intro hW hf)
  clear hW hf HF HS HT H1 H2
  go_wp2
  go_ret2
  exact ⟨rfl, HW.out⟩
set_option maxRecDepth 100000 in
set_option maxHeartbeats 2000000 in
theorem dtake_yes {w : World} {T : Nat → Nat} {D : Dp} {V : St} {g k : Nat} {d d' : Sd} {B2 : Nat → Nat} (h : DrAt w T D V) (hl : V.L g = some d) (hk : k < d.n) (hc : d'.c = d.c) (ho : d'.o = d.o)
    (HT : Hid (∀ w1, DSl w w1 T D V g d → Calls Tryz.prog 109 #[.pointer (some ⟨D.xs g, 0, none⟩)] w1 fun e w2 => e = .returned (.tuple #[.int .i64 k, .int .i64 0]) ∧ DRs w1 w2 T D V g d' B2)) :
    Calls Tryz.prog 51 #[.pointer (some ⟨D.p, 0, none⟩), .int .i64 g] w fun e w' => e = .returned (.tuple #[.int .i64 (bs g d.s k : Nat), .int .i64 0]) ∧ DrW w' T D (V.put g d' B2) ∧ Fr (fun i => 3 ≤ T i) w w' := by
  have HS := Lib.hid (dslab_some h hl)
  have HF : Hid (∀ w1 w2, DSl w w1 T D V g d → DRs w1 w2 T D V g d' B2 → _) := Lib.hid (fun w1 w2 h1 h2 => drs_store hl h1 h2 ho (by rw [h.tx g d hl]; omega) (by rw [h.tp]; omega))
  have hd := (h.ok.sl g d hl).2.2
  have HSZ : Hid (∀ W, Calls Tryz.prog 103 #[.int .i64 (d'.c : Nat)] W fun e w' => e = .returned (.int .i64 (d.s : Nat)) ∧ W = w') := Lib.hid (fun W => by rw [hc]; exact rsize_at hd.c W)
  have hg256 : g < 256 := by have := (h.ok.sl g d hl).1; have := h.ok.mn; have := h.ok.n256; omega
  have b1 := Sl.bs_hi hd.c g hk
  have e0 : ((d.s : Nat) : Int) * (k : Nat) = ((bs g d.s k : Nat) : Int) - 256 * (g : Int) := by
    unfold bs
    rw [Int.mul_comm]
    have : ((k * d.s : Nat) : Int) = (k : Int) * d.s := by simp
    omega
  have b2 := Sl.bs_lo g d.s k
  obtain ⟨u, hu⟩ : ∃ u : Int, 256 * (g : Int) = u := ⟨_, rfl⟩
  obtain ⟨x, hx⟩ : ∃ x : Int, ((bs g d.s k : Nat) : Int) - 256 * (g : Int) = x := ⟨_, rfl⟩
  have e1 : IntKind.i64.wrap (((d.s : Nat) : Int) * (k : Nat)) = x := by rw [e0, IntKind.wrap_i64]; omega
  have e2 : IntKind.i64.wrap (u + x) = ((bs g d.s k : Nat) : Int) := by rw [IntKind.wrap_i64]; omega
  have e3 : IntKind.i64.wrap (256 * (g : Int)) = u := by rw [IntKind.wrap_i64]; omega
  clear h hl hk hc ho hd b1 b2 e0 hu hx hg256
  generalize ((bs g d.s k : Nat) : Int) = y at *
  generalize ((d.s : Nat) : Int) = z at *
  generalize ((d'.c : Nat) : Int) = c at *
  generalize D.xs g = s at *
  generalize D.p = p at *
  go_enter Tryz.func51, Tryz.ntmps51
  go_upto_region 5 with (first
    | (go_at_call 108; (with_reducible refine HS.out.mono ?_); rintro e w1 ⟨rfl, hs⟩; have H1 := Lib.hid hs; clear hs)
    | (go_at_call 109; (with_reducible refine (HT.out _ H1.out).mono ?_); rintro e w2 ⟨rfl, hr⟩; have H2 := Lib.hid hr; clear hr))
  obtain ⟨q, cap, c0, ⟨v, c2⟩, z2, hW, hf, c3⟩ := HF.out _ _ H1.out H2.out
  have HW := Lib.hid (And.intro hW hf)
  clear hW hf HF HS HT H1 H2
  go_upto_region 6 with (fail)
  obtain ⟨w3, hw3⟩ : ∃ w3 : World, w3 = w2.setCell ⟨p, 2, none⟩ (.slice (some ⟨q, 0, none⟩) (V.n * 256) cap) := ⟨_, rfl⟩
  rw [← hw3] at HW c3 ⊢
  clear hw3 c0 c2 z2
  go_wp2_with (go_at_call 103; (with_reducible refine (HSZ.out _).mono ?_); rintro e w' ⟨rfl, rfl⟩)
  go_ret2
  exact ⟨rfl, HW.out⟩
end Go.Proofs.YtgnfcklippjeeaaGreat
