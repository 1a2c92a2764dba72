/- Both ledgers beside both regions. -/
import Derived.Test.YtgnfcklippjeeaaGreatWD
import Derived.Test.YtgnfcklippjeeaaGreatTP
namespace Go.Proofs.YtgnfcklippjeeaaGreat
open Go.ChangeShapes Go.WideShapes Go.ChangeAt Go.RowKit
open Sl (Cls bs upd LnkIs)
open Lg (pgs)

theorem pr_own2 {may : Nat → Prop} {w0 w w' : World} {A : Rp} {D : Dp} {T : Nat → Nat} {V U : St} {cnt pp : Nat} (h : PrAt w0 w A D T V U cnt pp) (hf : Fr may w w') (hm : ∀ i, may i → T i = 0 ∧ i ≠ pp ∧ w0.heap.size ≤ i) : PrAt w0 w' A D T V U cnt pp := by
  refine ⟨⟨h.y.at_.other hf (fun i hi e => ?_), h.y.may, hf.grown h.y.all (fun i hi e => by have := (hm i e).2.2; omega)⟩, h.d.fr hf (fun i hi e => ?_), h.any, h.old, hf.cell h.c0 (fun e => (hm _ e).2.1 rfl), hf.cell h.c1 (fun e => (hm _ e).2.1 rfl), h.tp⟩
  · have := h.any i hi; have := (hm i e).1; omega
  · have := (hm i e).1; omega
/-- Regions, ledgers (the code's, the document's: E), the law's list s of M. -/
structure Fq (w0 w : World) (A : Rp) (D : Dp) (T : Nat → Nat) (V : St) (cnt pp b0 : Nat) (F : Fp) (c2 : Nat) (G E : Nat → Bool) (rv : Value) (N : List Rep) (l qg cap bN : Nat) (s : Value) (M : List Rep) (U : Nat → Nat) : Prop where
  fx : FxAt w0 w A D T V cnt pp b0 F c2 G rv N
  dl : DlAt w l D.p qg (V.n * 256) cap E
  nt : w.ownsRow bN 89 3 s M.length (rcell3 M)
  u1 : U F.p = 1
  u2 : U F.mb = 2
  u3 : U l = 3
  u4 : U qg = 4
  u5 : U pp = 5
  u6 : ∀ q, rv.ownBlock = some q → U q = 6
  u7 : ∀ q, s.ownBlock = some q → U q = 7
  tl : T l = 0
  tg : T qg = 0
  ts : ∀ q, s.ownBlock = some q → T q = 0
  ll : w0.heap.size ≤ l
  lg : w0.heap.size ≤ qg
  lb : w0.heap.size ≤ bN
  bs : bN ≤ w.heap.size
  rn : N.length = 0 → rv = .slice none 0 0
theorem dl_lt {w : World} {l r q N cap : Nat} {G : Nat → Bool} (h : DlAt w l r q N cap G) : l < w.heap.size := World.block_lt_of_cell? w ⟨l, 0, none⟩ h.c0
theorem un {U : Nat → Nat} {a b x y : Nat} (ha : U a = x) (hb : U b = y) (h : x ≠ y) : a ≠ b := fun e => h (by rw [← ha, ← hb, e])
theorem Fq.grown {w0 w w' : World} {A : Rp} {D : Dp} {T : Nat → Nat} {V : St} {cnt pp b0 : Nat} {F : Fp} {c2 : Nat} {G E : Nat → Bool} {rv : Value} {N : List Rep} {l qg cap bN : Nat} {s : Value} {M : List Rep} {U : Nat → Nat} (h : Fq w0 w A D T V cnt pp b0 F c2 G E rv N l qg cap bN s M U) (hg : w.grownBy w' none) : Fq w0 w' A D T V cnt pp b0 F c2 G E rv N l qg cap bN s M U :=
  ⟨h.fx.grown hg, h.dl.grown hg, own_fr2 h.nt (fr_none (may := fun _ => False) hg) (fun _ _ x => x), h.u1, h.u2, h.u3, h.u4, h.u5, h.u6, h.u7, h.tl, h.tg, h.ts, h.ll, h.lg, h.lb, Nat.le_trans h.bs hg.size, h.rn⟩
/-- A call of the law's Step. -/
theorem fq_step {w0 w : World} {A : Rp} {D : Dp} {T : Nat → Nat} {V : St} {cnt pp b0 : Nat} {F : Fp} {c2 : Nat} {G E : Nat → Bool} {rv : Value} {N : List Rep} {l qg cap bN : Nat} {s : Value} {M : List Rep} {U : Nat → Nat} (h : Fq w0 w A D T V cnt pp b0 F c2 G E rv N l qg cap bN s M U) (hcnt : cnt ≤ 100000) {t : Lop} (ht : LRows w0 t) :
    Calls Tryz.prog 11 #[.pointer (some ⟨pp, 0, none⟩), t.v, .bool true] w fun e w' => e = .returned (.bool true) ∧ ∃ A' D' T' V', V'.m = V.m ∧ V'.n = V.n ∧ Fq w0 w' A' D' T' V' (cnt + 1) pp b0 F c2 G E rv N l qg cap bN s M U := by
  refine (fx_step2 h.fx hcnt ht).mono ?_
  rintro e w' ⟨rfl, A', D', T', V', p1, p2, hm, hn, hx, hT, hF⟩
  have z : ∀ {i}, T i = 0 → ¬ (T i = 1 ∨ 3 ≤ T i) := fun {i} e => by omega
  have hd := h.dl.fr hF (z h.tl) (z h.tg)
  refine ⟨rfl, A', D', T', V', hm, hn, hx, ?_, own_fr2 h.nt hF (fun q hq => z (h.ts q hq)), h.u1, h.u2, h.u3, h.u4, h.u5, h.u6, h.u7, by rw [hT _ (dl_lt h.dl)]; exact h.tl, by rw [hT _ h.dl.v.qlt]; exact h.tg, fun q hq => by rw [hT _ (World.ownsRow.lt h.nt q hq).2]; exact h.ts q hq, h.ll, h.lg, h.lb, Nat.le_trans h.bs hF.size, h.rn⟩
  rw [p2, hn]
  exact hd
theorem Fq.code {w0 w w' : World} {A : Rp} {D : Dp} {T : Nat → Nat} {V : St} {cnt pp b0 : Nat} {F : Fp} {c2 c3 : Nat} {G G' E : Nat → Bool} {rv : Value} {N : List Rep} {l qg cap bN : Nat} {s : Value} {M : List Rep} {U : Nat → Nat} (h : Fq w0 w A D T V cnt pp b0 F c2 G E rv N l qg cap bN s M U) (hl : LdAt w' b0 F c3 G' rv N) (hf : Fr (fun i => i = F.mb) w w') : Fq w0 w' A D T V cnt pp b0 F c3 G' E rv N l qg cap bN s M U :=
  ⟨h.fx.ledger hl hf, h.dl.fr hf (un h.u3 h.u2 (by decide)) (un h.u4 h.u2 (by decide)), own_fr2 h.nt hf (fun q hq => un (h.u7 q hq) h.u2 (by decide)), h.u1, h.u2, h.u3, h.u4, h.u5, h.u6, h.u7, h.tl, h.tg, h.ts, h.ll, h.lg, h.lb, Nat.le_trans h.bs hf.size, h.rn⟩
theorem Fq.doc {w0 w w' : World} {A : Rp} {D : Dp} {T : Nat → Nat} {V : St} {cnt pp b0 : Nat} {F : Fp} {c2 : Nat} {G E E' : Nat → Bool} {rv : Value} {N : List Rep} {l qg cap bN : Nat} {s : Value} {M : List Rep} {U : Nat → Nat} (h : Fq w0 w A D T V cnt pp b0 F c2 G E rv N l qg cap bN s M U) (hd : DlAt w' l D.p qg (V.n * 256) cap E') (hg : w.grownBy w' (some qg)) : Fq w0 w' A D T V cnt pp b0 F c2 G E' rv N l qg cap bN s M U := by
  have hf : Fr (fun i => i = qg) w w' := fr_some hg (fun _ => rfl)
  exact ⟨h.fx.other hf h.tg (un h.u4 h.u5 (by decide)) h.lg (un h.u4 h.u1 (by decide)) (un h.u4 h.u2 (by decide)) (fun e => un h.u4 (h.u6 qg e) (by decide) rfl), hd, own_fr2 h.nt hf (fun q hq => un (h.u7 q hq) h.u4 (by decide)), h.u1, h.u2, h.u3, h.u4, h.u5, h.u6, h.u7, h.tl, h.tg, h.ts, h.ll, h.lg, h.lb, Nat.le_trans h.bs hg.size, h.rn⟩
/-- One call of both ledgers answers the same, and leaves the same. -/
def BothF (w0 w : World) (A : Rp) (D : Dp) (T : Nat → Nat) (V : St) (cnt pp b0 : Nat) (F : Fp) (c2 : Nat) (G : Nat → Bool) (rv : Value) (N : List Rep) (l qg cap bN : Nat) (s : Value) (M : List Rep) (U : Nat → Nat) (fc fd : FuncId) (a : Int) : Prop :=
  ∃ (er : Int) (G' : Nat → Bool), (∀ i, V.n * 256 ≤ i → G i = false → G' i = false) ∧ (Calls Tryz.prog fc #[.pointer (some ⟨F.p, 0, none⟩), .int .i64 a] w fun e w' => e = .returned (.int .i64 er) ∧ Fr (fun i => i = F.mb) w w' ∧ ∃ c3, c3 ≤ c2 + 1 ∧ Fq w0 w' A D T V cnt pp b0 F c3 G' G rv N l qg cap bN s M U) ∧
    ∀ w1 c3, Fq w0 w1 A D T V cnt pp b0 F c3 G' G rv N l qg cap bN s M U → Calls Tryz.prog fd #[.pointer (some ⟨l, 0, none⟩), .int .i64 a] w1 fun e w' => e = .returned (.int .i64 er) ∧ Fr (fun i => i = qg) w1 w' ∧ Fq w0 w' A D T V cnt pp b0 F c3 G' G' rv N l qg cap bN s M U
theorem both_took {w0 w : World} {A : Rp} {D : Dp} {T : Nat → Nat} {V : St} {cnt pp b0 : Nat} {F : Fp} {c2 : Nat} {G : Nat → Bool} {rv : Value} {N : List Rep} {l qg cap bN : Nat} {s : Value} {M : List Rep} {U : Nat → Nat} (h : Fq w0 w A D T V cnt pp b0 F c2 G G rv N l qg cap bN s M U) (a : Int) :
    BothF w0 w A D T V cnt pp b0 F c2 G rv N l qg cap bN s M U 37 38 a := by
  have ok := h.fx.pr.d.ok
  obtain ⟨x, hx⟩ := V.at_ex a
  by_cases hn : ∀ p, lvV x = some p → (p.b : Int) ≠ a
  · exact ⟨6, G, fun _ _ e => e, (h.fx.rf.took_no hx hn).mono fun _ _ ⟨he, hg⟩ => ⟨he, fr_none hg, c2, by omega, h.grown hg⟩,
      fun w1 c3 h1 => (dtook_no h1.fx.pr.d h1.dl hx hn).mono fun _ _ ⟨he, hg⟩ => ⟨he, fr_none hg, h1.grown hg⟩⟩
  · obtain ⟨p, hp⟩ := Classical.not_forall.1 hn
    obtain ⟨hv, hb0⟩ := Classical.not_imp.1 hp
    have hb : (p.b : Int) = a := Classical.not_not.1 hb0
    have hlv := at_lv ok hx hv
    obtain ⟨h1, h2⟩ := hlv.at_ ok
    have hE := endV_is hlv
    have hI := bytV_in ok hlv
    have hbd := h1.bd ok
    have hmn := ok.mn
    have hgr : p.gr = true → 120 < p.z := fun e => by
      cases hlv with
      | slot g d k hl hk h1 => cases e
      | great g hz => exact (ok.gr g hz).1
    subst hb
    refine ⟨0, gcut G p.b (p.b + bytV p), fun i hi e => by unfold gcut; rw [e]; rfl, ?_, fun w1 c3 hq => (dtook_ok hq.fx.pr.d hq.dl h1 h2 hbd.2.1 hgr (by omega)).mono fun _ _ ⟨he, hd, hg⟩ => ⟨he, fr_some hg (fun _ => rfl), hq.doc hd hg⟩⟩
    have key := h.fx.rf.took hx hv rfl
    rw [hE] at key
    exact key.mono fun _ _ ⟨he, hrf, hf⟩ => ⟨he, hf, c2, by omega, h.code hrf.l hf⟩
theorem flt0 {V : St} {G : Nat → Bool} {a : Nat} {x : Option Pc} (hmn : V.m ≤ V.n) (ha : a < V.m * 256) : fltV V G a x = 0 ↔ ∃ p, lvV x = some p ∧ (p.b : Int) = a := by
  unfold fltV
  rw [if_neg (by omega), if_neg (by omega)]
  cases hv : lvV x with
  | none =>
    simp only []
    constructor
    · intro h; split at h <;> cases h
    · rintro ⟨p, h, _⟩; cases h
  | some p =>
    simp only []
    unfold wiV
    constructor
    · intro h
      split at h
      · exact ⟨p, rfl, by assumption⟩
      · cases h
    · rintro ⟨q, h, hq⟩
      injection h with h
      subst h
      exact if_pos hq
theorem both_dropped {w0 w : World} {A : Rp} {D : Dp} {T : Nat → Nat} {V : St} {cnt pp b0 : Nat} {F : Fp} {c2 : Nat} {G : Nat → Bool} {rv : Value} {N : List Rep} {l qg cap bN : Nat} {s : Value} {M : List Rep} {U : Nat → Nat} (h : Fq w0 w A D T V cnt pp b0 F c2 G G rv N l qg cap bN s M U) (hc : c2 ≤ 100000) (a : Int) :
    BothF w0 w A D T V cnt pp b0 F c2 G rv N l qg cap bN s M U 39 40 a := by
  have ok := h.fx.pr.d.ok
  have hmn := ok.mn
  by_cases hr : a < 0 ∨ ((V.m * 256 : Nat) : Int) ≤ a
  · exact ⟨3, G, fun _ _ e => e, (h.fx.rf.dropped_no hr).mono fun _ _ ⟨he, hg⟩ => ⟨he, fr_none hg, c2, by omega, h.grown hg⟩,
      fun w1 c3 h1 => (ddropped_range h1.fx.pr.d h1.dl hr).mono fun _ _ ⟨he, hg⟩ => ⟨he, fr_none hg, h1.grown hg⟩⟩
  · obtain ⟨a', rfl⟩ : ∃ a' : Nat, a = a' := ⟨a.toNat, by omega⟩
    have ha : a' < V.m * 256 := by omega
    obtain ⟨x, hx⟩ := V.at_ex (a' : Int)
    by_cases hf : ∃ p, lvV x = some p ∧ (p.b : Int) = a'
    · obtain ⟨p, hv, hb⟩ := id hf
      exact ⟨8, G, fun _ _ e => e, (h.fx.rf.dropped_live hx hv hb).mono fun _ _ ⟨he, hg⟩ => ⟨he, fr_none hg, c2, by omega, h.grown hg⟩,
        fun w1 c3 h1 => (ddropped_live h1.fx.pr.d h1.dl ha hx ((flt0 hmn ha).2 hf)).mono fun _ _ ⟨he, hg⟩ => ⟨he, fr_none hg, h1.grown hg⟩⟩
    · refine ⟨0, gput G a', fun i hi e => by unfold gput; rw [if_neg (by omega)]; exact e, (h.fx.rf.dropped hx ha (fun p hv e => hf ⟨p, hv, by omega⟩) hc).mono fun _ _ ⟨he, hrf, hfr⟩ => ⟨he, hfr, c2 + 1, by omega, h.code hrf.l hfr⟩,
        fun w1 c3 h1 => (ddropped_ok h1.fx.pr.d h1.dl ha hx (fun e => hf ((flt0 hmn ha).1 e))).mono fun _ _ ⟨he, hd, hg⟩ => ⟨he, fr_some hg (fun _ => rfl), h1.doc hd hg⟩⟩
/-- The code's Note. -/
theorem fq_note {w0 w : World} {A : Rp} {D : Dp} {T : Nat → Nat} {V : St} {cnt pp b0 : Nat} {F : Fp} {c2 : Nat} {G E : Nat → Bool} {rv : Value} {N : List Rep} {l qg cap bN : Nat} {s : Value} {M : List Rep} {U : Nat → Nat} (h : Fq w0 w A D T V cnt pp b0 F c2 G E rv N l qg cap bN s M U) (hl : N.length ≤ 1000) (r : Rep) (hf : r.f ≠ 0) :
    Calls Tryz.prog 41 #[.pointer (some ⟨F.p, 0, none⟩), .int .i64 r.t, .int .i64 r.a, .int .i64 r.f] w fun e w' => e = .returned (.tuple #[]) ∧ Fr (fun i => i = F.p ∨ rv.ownBlock = some i) w w' ∧ ∃ rv' T' U', Fq w0 w' A D T' V cnt pp b0 F c2 G E rv' (N ++ [r]) l qg cap bN s M U' := by
  refine (note_yes h.fx.l hl h.fx.b0s r hf).mono ?_
  rintro e w' ⟨rfl, rv', hl', hfr, hn⟩
  have h0s := h.fx.lp
  have hb0 : w0.heap.size ≤ b0 := by have := h.fx.l.b0p; omega
  have hT : ∀ i, i < w.heap.size → (fun i => if i < w.heap.size then T i else 0) i = T i := fun i hi => if_pos hi
  have hU : ∀ i, i < w.heap.size → (fun i => if i < w.heap.size then U i else 6) i = U i := fun i hi => if_pos hi
  have lF := h.fx.l.plt
  have lM := h.fx.l.mlt
  have ll := dl_lt h.dl
  have lg := h.dl.v.qlt
  have lp := h.fx.pr.plt
  have hmay : ∀ i, (i = F.p ∨ rv.ownBlock = some i) → U i = 1 ∨ U i = 6 := fun i hi => by
    rcases hi with rfl | e
    · exact .inl h.u1
    · exact .inr (h.u6 i e)
  have pr' : PrAt w0 w' A D (fun i => if i < w.heap.size then T i else 0) V V cnt pp := by
    refine pr_own2 (h.fx.pr.relab hT) hfr (fun i hi => ?_)
    rcases hi with rfl | e
    · exact ⟨(hT _ lF).trans h.fx.tp, h.fx.np, h.fx.lp⟩
    · have h1 := World.ownsRow.lt h.fx.l.own i e
      exact ⟨(hT _ h1.2).trans (h.fx.tr i e), fun e2 => h.fx.nr (e2 ▸ e), by omega⟩
  have hrv : ∀ q, rv'.ownBlock = some q → (q < w.heap.size → rv.ownBlock = some q) ∧ b0 ≤ q := fun q hq => ⟨fun hlt => (hn q hq).resolve_right (by omega), (World.ownsRow.lt hl'.own q hq).1⟩
  refine ⟨rfl, hfr, rv', fun i => if i < w.heap.size then T i else 0, fun i => if i < w.heap.size then U i else 6, ⟨⟨pr', hl', h.fx.r, (hT _ lF).trans h.fx.tp, (hT _ lM).trans h.fx.tm, fun q hq => ?_, h.fx.lm, h.fx.lp, Nat.le_trans h.fx.b0s hfr.size, h.fx.np, h.fx.nm, fun e => ?_, h.fx.pb⟩, ?_, ?_, (hU _ lF).trans h.u1, (hU _ lM).trans h.u2, (hU _ ll).trans h.u3, (hU _ lg).trans h.u4, (hU _ lp).trans h.u5, fun q hq => ?_, fun q hq => (hU _ (World.ownsRow.lt h.nt q hq).2).trans (h.u7 q hq), (hT _ ll).trans h.tl, (hT _ lg).trans h.tg, fun q hq => (hT _ (World.ownsRow.lt h.nt q hq).2).trans (h.ts q hq), h.ll, h.lg, h.lb, Nat.le_trans h.bs hfr.size, fun e => by simp at e⟩⟩
  · by_cases hlt : q < w.heap.size
    · exact (hT _ hlt).trans (h.fx.tr q ((hrv q hq).1 hlt))
    · exact if_neg hlt
  · have := (hrv pp e).2
    have := h.fx.pb
    omega
  · exact h.dl.fr hfr (fun e => by have := hmay l e; have := h.u3; omega) (fun e => by have := hmay qg e; have := h.u4; omega)
  · exact own_fr2 h.nt hfr (fun q hq e => by have := hmay q e; have := h.u7 q hq; omega)
  · by_cases hlt : q < w.heap.size
    · exact (hU _ hlt).trans (h.u6 q ((hrv q hq).1 hlt))
    · exact if_neg hlt
/-- The law's list has one more. -/
theorem fq_list {w0 w w' : World} {A : Rp} {D : Dp} {T : Nat → Nat} {V : St} {cnt pp b0 : Nat} {F : Fp} {c2 : Nat} {G E : Nat → Bool} {rv : Value} {N : List Rep} {l qg cap bN : Nat} {s s' : Value} {M M' : List Rep} {U : Nat → Nat} (h : Fq w0 w A D T V cnt pp b0 F c2 G E rv N l qg cap bN s M U) (hn : w'.ownsRow bN 89 3 s' M'.length (rcell3 M')) (hfr : Fr (fun i => s.ownBlock = some i) w w') (hnew : ∀ q, s'.ownBlock = some q → s.ownBlock = some q ∨ w.heap.size ≤ q) :
    ∃ T' U', Fq w0 w' A D T' V cnt pp b0 F c2 G E rv N l qg cap bN s' M' U' := by
  have hT : ∀ i, i < w.heap.size → (fun i => if i < w.heap.size then T i else 0) i = T i := fun i hi => if_pos hi
  have hU : ∀ i, i < w.heap.size → (fun i => if i < w.heap.size then U i else 7) i = U i := fun i hi => if_pos hi
  have lF := h.fx.l.plt
  have lM := h.fx.l.mlt
  have ll := dl_lt h.dl
  have lg := h.dl.v.qlt
  have lp := h.fx.pr.plt
  have hrl := h.fx.l.mlt'
  have pr' : PrAt w0 w' A D (fun i => if i < w.heap.size then T i else 0) V V cnt pp := by
    refine pr_own2 (h.fx.pr.relab hT) hfr (fun i e => ?_)
    have h1 := World.ownsRow.lt h.nt i e
    exact ⟨(hT _ h1.2).trans (h.ts i e), un (h.u7 i e) h.u5 (by decide), by have := h.lb; omega⟩
  have hs : ∀ q, s'.ownBlock = some q → q < w.heap.size → s.ownBlock = some q := fun q hq hlt => (hnew q hq).resolve_right (by omega)
  refine ⟨fun i => if i < w.heap.size then T i else 0, fun i => if i < w.heap.size then U i else 7, ⟨pr', h.fx.l.fr hfr (fun e => un (h.u7 _ e) h.u1 (by decide) rfl) (fun e => un (h.u7 _ e) h.u2 (by decide) rfl) (fun q hq e => un (h.u7 _ e) (h.u6 q hq) (by decide) rfl), h.fx.r, (hT _ lF).trans h.fx.tp, (hT _ lM).trans h.fx.tm, fun q hq => (hT _ (hrl q hq)).trans (h.fx.tr q hq), h.fx.lm, h.fx.lp, Nat.le_trans h.fx.b0s hfr.size, h.fx.np, h.fx.nm, h.fx.nr, h.fx.pb⟩, ?_, hn, (hU _ lF).trans h.u1, (hU _ lM).trans h.u2, (hU _ ll).trans h.u3, (hU _ lg).trans h.u4, (hU _ lp).trans h.u5, fun q hq => (hU _ (hrl q hq)).trans (h.u6 q hq), fun q hq => ?_, (hT _ ll).trans h.tl, (hT _ lg).trans h.tg, fun q hq => ?_, h.ll, h.lg, h.lb, Nat.le_trans h.bs hfr.size, h.rn⟩
  · exact h.dl.fr hfr (fun e => un (h.u7 _ e) h.u3 (by decide) rfl) (fun e => un (h.u7 _ e) h.u4 (by decide) rfl)
  · by_cases hlt : q < w.heap.size
    · exact (hU _ hlt).trans (h.u7 q (hs q hq hlt))
    · exact if_neg hlt
  · by_cases hlt : q < w.heap.size
    · exact (hT _ hlt).trans (h.ts q (hs q hq hlt))
    · exact if_neg hlt
/-- Both ledgers, new. -/
theorem fq_new {w0 w w' : World} {A : Rp} {D : Dp} {T : Nat → Nat} {V : St} {cnt pp b0 : Nat} {F : Fp} {G : Nat → Bool} {e : Ending} (h : FxAt w0 w A D T V cnt pp b0 F 0 G (.slice none 0 0) []) (hT : ∀ i, w.heap.size ≤ i → T i = 0) (hd : DlNew w w' D.p (V.n * 256) e) :
    ∃ l qg cap U, e = .returned (.pointer (some ⟨l, 0, none⟩)) ∧ Fq w0 w' A D T V cnt pp b0 F 0 G (fun _ => false) (.slice none 0 0) [] l qg cap w'.heap.size (.slice none 0 0) [] U ∧ w.grownBy w' none := by
  obtain ⟨l, qg, he, hl, h1, h2, hg⟩ := hd
  have lF := h.l.plt
  have lM := h.l.mlt
  have lp := h.pr.plt
  have hs := h.pr.y.all.size
  have hne := h.l.ne
  have hq := hl.lq
  have n1 := h.np
  have n2 := h.nm
  refine ⟨l, qg, V.n * 256, fun i => if i = F.p then 1 else if i = F.mb then 2 else if i = l then 3 else if i = qg then 4 else if i = pp then 5 else 0, he, ⟨h.grown hg, hl, World.ownsRow_nil _ _ _ _, if_pos rfl, ?_, ?_, ?_, ?_, fun _ hq => (by simp [Value.ownBlock] at hq), fun _ hq => (by simp [Value.ownBlock] at hq), hT l h1, hT qg h2, fun _ hq => (by simp [Value.ownBlock] at hq), by omega, by omega, by have := hg.size; omega, Nat.le_refl _, fun _ => rfl⟩, hg⟩
  · show (if F.mb = F.p then 1 else if F.mb = F.mb then 2 else _) = 2
    rw [if_neg (fun e => hne e.symm), if_pos rfl]
  · show (if l = F.p then 1 else if l = F.mb then 2 else if l = l then 3 else _) = 3
    rw [if_neg (by omega), if_neg (by omega), if_pos rfl]
  · show (if qg = F.p then 1 else if qg = F.mb then 2 else if qg = l then 3 else if qg = qg then 4 else _) = 4
    rw [if_neg (by omega), if_neg (by omega), if_neg (fun e => hq e.symm), if_pos rfl]
  · show (if pp = F.p then 1 else if pp = F.mb then 2 else if pp = l then 3 else if pp = qg then 4 else if pp = pp then 5 else 0) = 5
    rw [if_neg (fun e => n1 e.symm), if_neg (fun e => n2 e.symm), if_neg (by omega), if_neg (by omega), if_pos rfl]
/-- A call of the second law, in memory. -/
structure Lop2 where
  o : Lop
  own : Int
instance : Inhabited Lop2 := ⟨⟨default, 0⟩⟩
def L2At (w : World) (A : Option Addr) (n : Nat) (O : Nat → Lop2) : Prop := n = 0 ∨ ∃ b off, A = some ⟨b, off, none⟩ ∧ b < w.heap.size ∧ ∀ i, i < n → LCells w b (off + i * 9) (O i).o ∧ w.cell? ⟨b, off + i * 9 + 8, none⟩ = some (.int .i64 (O i).own) ∧ LRows w (O i).o
def I64At (w : World) (A : Option Addr) (n : Nat) (f : Nat → Int) : Prop := n = 0 ∨ ∃ b off, A = some ⟨b, off, none⟩ ∧ b < w.heap.size ∧ ∀ i, i < n → w.cell? ⟨b, off + i, none⟩ = some (.int .i64 (f i))
set_option maxRecDepth 100000 in
theorem ints_arg {H : Type} {enc : TypeId × Value → H} {W : World} {base : Nat} {v : Value} {d : DataW H} {ps : List MemPlace}
    (hval : Value.okWide Tryz.prog W .any base 78 v) (h : DataW.Trod enc Tryz.prog W 0 (fun _ => true) true 78 v d ps) :
    ∃ A len cap f, v = .slice A len cap ∧ len ≤ cap ∧ len ≤ 9223372036854775807 ∧ I64At W A len f := by
  obtain ⟨a0, len, cap, rfl⟩ := okWide_slice Tryz.underlying78 hval
  obtain ⟨fuel, hf⟩ := h
  rcases Deep.open_slice1 Tryz.underlying78 (by kernel_rfl) hf with ⟨hcs, _⟩ | ⟨a, len', cap', m, n, V, D, Pl, hcs, _, hl, hm, hmm, _, hx⟩
  · simp only [Value.cells] at hcs
    obtain ⟨rfl, rfl, rfl⟩ := slice_cells hcs
    exact ⟨none, 0, 0, fun _ => 0, rfl, Nat.le_refl _, by omega, Or.inl rfl⟩
  · simp only [Value.cells] at hcs
    obtain ⟨rfl, rfl, rfl⟩ := slice_cells hcs
    have each : ∀ i, i < len → ∃ q : Int, W.cell? (a.add i) = some (.int .i64 q) := fun i hi => by
      obtain ⟨h1, h2⟩ := hx i (by simp at hmm; omega)
      obtain ⟨n0, r0, _⟩ := DataW.trod_int Tryz.underlying3 h2
      simp only [List.cons.injEq, and_true] at r0
      exact ⟨n0, by rw [h1, r0]⟩
    obtain ⟨q, hq⟩ := Deep.choose_lt each
    refine ⟨some a, len, cap, q, rfl, hl, by unfold maxLen at hm; omega, ?_⟩
    by_cases h0 : len = 0
    · exact Or.inl h0
    · obtain ⟨e, hlt⟩ := addr_at (a := a) (hq 0 (by omega))
      refine Or.inr ⟨a.block, a.off, by rw [← e], hlt, fun i hi => ?_⟩
      have u0 := hq i hi
      rw [e, addr_plus] at u0
      exact u0
set_option maxRecDepth 100000 in
theorem lop2s_arg {H : Type} {enc : TypeId × Value → H} {W : World} {base : Nat} {v : Value} {d : DataW H} {ps : List MemPlace}
    (hval : Value.okWide Tryz.prog W .any base 77 v) (h : DataW.Trod enc Tryz.prog W 0 (fun _ => true) true 77 v d ps) :
    ∃ A len cap O, v = .slice A len cap ∧ len ≤ cap ∧ len ≤ 9223372036854775807 ∧ L2At W A len O := by
  obtain ⟨a0, len, cap, rfl⟩ := okWide_slice Tryz.underlying77 hval
  obtain ⟨fuel, hf⟩ := h
  rcases Deep.open_slice Tryz.underlying77 hf with ⟨hcs, _⟩ | ⟨a, len', cap', m, n, D, Pl, hcs, _, hl, hm, hmm, _, hx⟩
  · simp only [Value.cells] at hcs
    obtain ⟨rfl, rfl, rfl⟩ := slice_cells hcs
    exact ⟨none, 0, 0, fun _ => default, rfl, Nat.le_refl _, by omega, Or.inl rfl⟩
  · simp only [Value.cells] at hcs
    obtain ⟨rfl, rfl, rfl⟩ := slice_cells hcs
    have hce : Tryz.prog.cellsOf 85 = 9 := by kernel_rfl
    have hc8 : Tryz.prog.cellsOf 28 = 8 := by kernel_rfl
    have c1 : Tryz.prog.cellsOf 3 = 1 := by kernel_rfl
    have c2 : Tryz.prog.cellsOf 4 = 1 := by kernel_rfl
    have c3 : Tryz.prog.cellsOf 24 = 1 := by kernel_rfl
    have each : ∀ i, i < len → ∃ t : Lop2, LRows W t.o ∧ W.cell? (a.add (i * 9)) = some (.int .i64 t.o.k) ∧ W.cell? (a.add (i * 9 + 1)) = some (.int .i64 t.o.c) ∧ W.cell? (a.add (i * 9 + 2)) = some (.int .i64 t.o.o) ∧ W.cell? (a.add (i * 9 + 3)) = some (.int .i64 t.o.p) ∧
        W.cell? (a.add (i * 9 + 4)) = some (.int .i64 t.o.a) ∧ W.cell? (a.add (i * 9 + 5)) = some (.int .i64 t.o.n) ∧ W.cell? (a.add (i * 9 + 6)) = some (.bool t.o.b) ∧ W.cell? (a.add (i * 9 + 7)) = some (.slice t.o.bA t.o.bl t.o.bc) ∧ W.cell? (a.add (i * 9 + 8)) = some (.int .i64 t.own) := by
      intro i hi
      obtain ⟨cs', h1, h2⟩ := hx i (by simp at hmm; omega)
      rw [hce] at h1
      obtain ⟨_, hlen, hcell⟩ := World.cells?_some h1
      obtain ⟨xs, k, hk, hxy, _, hxl, hfs⟩ := DataW.trod_struct Tryz.underlying85 h2
      match xs, hxl, cs', hlen with
      | [yo, y8], _, [v0, v1, v2, v3, v4, v5, v6, v7, v8], _ =>
        have go := hfs 0 _ rfl
        have g8 := hfs 1 _ rfl
        simp [c1, hc8] at go g8
        obtain ⟨xs2, k2, hk2, hxy2, _, hxl2, hfs2⟩ := DataW.trod_struct Tryz.underlying28 go
        match xs2, hxl2 with
        | [y0, y1, y2, y3, y4, y5, y6, y7], _ =>
          have g0 := hfs2 0 _ rfl
          have g1 := hfs2 1 _ rfl
          have g2 := hfs2 2 _ rfl
          have g3 := hfs2 3 _ rfl
          have g4 := hfs2 4 _ rfl
          have g5 := hfs2 5 _ rfl
          have g6 := hfs2 6 _ rfl
          have g7 := hfs2 7 _ rfl
          simp [c1, c2, c3] at g0 g1 g2 g3 g4 g5 g6 g7
          have e0 := hcell 0 (by omega)
          have e1 := hcell 1 (by omega)
          have e2 := hcell 2 (by omega)
          have e3 := hcell 3 (by omega)
          have e4 := hcell 4 (by omega)
          have e5 := hcell 5 (by omega)
          have e6 := hcell 6 (by omega)
          have e7 := hcell 7 (by omega)
          have e8 := hcell 8 (by omega)
          rw [Deep.add_add] at e0 e1 e2 e3 e4 e5 e6 e7 e8
          obtain ⟨n0, r0, _⟩ := DataW.trod_int Tryz.underlying3 g0
          obtain ⟨n1, r1, _⟩ := DataW.trod_int Tryz.underlying3 g1
          obtain ⟨n2, r2, _⟩ := DataW.trod_int Tryz.underlying3 g2
          obtain ⟨n3, r3, _, w3⟩ := DataW.trod_int Tryz.underlying3 g3
          obtain ⟨n4, r4, _⟩ := DataW.trod_int Tryz.underlying3 g4
          obtain ⟨n5, r5, _⟩ := DataW.trod_int Tryz.underlying3 g5
          obtain ⟨n6, r6, _⟩ := DataW.trod_bool Tryz.underlying4 g6
          obtain ⟨A7, l7, k7, S7, r7, q1, q2, q3, q4⟩ := bytes_trod g7
          obtain ⟨n8, r8, _⟩ := DataW.trod_int Tryz.underlying3 g8
          simp only [List.cons.injEq, and_true] at r0 r1 r2 r3 r4 r5 r6 r7 r8
          subst r0 r1 r2 r3 r4 r5 r6 r7 r8
          exact ⟨⟨⟨n0, n1, n2, n3, n4, n5, n6, A7, l7, k7, S7⟩, n8⟩, ⟨i64_of_wf w3, q1, q2, q3, q4⟩,
            by simpa using e0, by simpa using e1, by simpa using e2, by simpa using e3, by simpa using e4, by simpa using e5, by simpa using e6, by simpa using e7, by simpa using e8⟩
    obtain ⟨q, hq⟩ := Deep.choose_lt each
    refine ⟨some a, len, cap, q, rfl, hl, by unfold maxLen at hm; omega, ?_⟩
    by_cases h0 : len = 0
    · exact Or.inl h0
    · have t := (hq 0 (by omega)).2.1
      obtain ⟨e, hlt⟩ := addr_at (a := a) (by rw [Nat.zero_mul] at t; exact t)
      refine Or.inr ⟨a.block, a.off, by rw [← e], hlt, fun i hi => ?_⟩
      obtain ⟨u, u0, u1, u2, u3, u4, u5, u6, u7, u8⟩ := hq i hi
      rw [e, addr_plus] at u0 u1 u2 u3 u4 u5 u6 u7 u8
      exact ⟨⟨u0, u1, u2, u3, u4, u5, u6, u7⟩, u8, u⟩
end Go.Proofs.YtgnfcklippjeeaaGreat
