/- The walk of a mail's Post. -/
import Derived.Test.YtldpljfanlhooaaMd
namespace Go.Proofs.Ytldpljfanlhooaa
open Go.RowKit
open Is
attribute [local go_sem ↓] appS_of

/-- May one post to another one? -/
def okB (n : Nat) (f t : Int) : Bool := inB n f && (inB n t && !(f == t))
theorem okB_iff (n : Nat) (f t : Int) : okB n f t = true ↔ 0 ≤ f ∧ f < n ∧ 0 ≤ t ∧ t < n ∧ f ≠ t := by
  unfold okB
  rw [Bool.and_eq_true, Bool.and_eq_true, inB_iff, inB_iff]
  simp
  constructor
  · rintro ⟨⟨a, b⟩, ⟨c, d⟩, e⟩; exact ⟨a, b, c, d, e⟩
  · rintro ⟨a, b, c, d, e⟩; exact ⟨⟨a, b⟩, ⟨c, d⟩, e⟩
theorem mpost_nil (f t a : Int) (w : World) : Calls Try.prog 22 #[.pointer none, .int .i64 f, .int .i64 t, .int .i64 a] w fun e w' => e = .returned (.int .i64 2) ∧ w = w' := by
  go_enter Try.func22, Try.ntmps22
  go_wp2
  go_ret
  exact ⟨rfl, rfl⟩
theorem mpost_no {N : Nat → Prop} {w : World} {A : Mb} {K : Nat → Nat} {cnt : Nat} {CV : Nat → Value} {C : Nat → List Int} {HV : Int → Int → Value} {H : Int → Int → List Int} (h : Ml N w A K cnt CV C HV H) {f t : Int} (hn : okB A.n f t = false) (a : Int) :
    Calls Try.prog 22 #[.pointer (some ⟨A.p, 0, none⟩), .int .i64 f, .int .i64 t, .int .i64 a] w fun e w' => e = .returned (.int .i64 1) ∧ w = w' := by
  have HF := Lib.hid (mhas_of f (mthr_core h.c1))
  have HT := Lib.hid (mhas_of t (mthr_core h.c1))
  have hc : inB A.n f = false ∨ (inB A.n f = true ∧ inB A.n t = false) ∨ (inB A.n f = true ∧ inB A.n t = true ∧ (f == t) = true) := by
    unfold okB at hn
    cases h1 : inB A.n f
    · exact .inl rfl
    · cases h2 : inB A.n t
      · exact .inr (.inl ⟨rfl, rfl⟩)
      · rw [h1, h2] at hn
        exact .inr (.inr ⟨rfl, rfl, by simpa using hn⟩)
  clear h hn
  rcases hc with h1 | ⟨h1, h2⟩ | ⟨h1, h2, h3⟩
  · rw [h1] at HF
    clear h1
    go_enter Try.func22, Try.ntmps22
    go_wp2_with (go_at_call 35; refine HF.out.mono ?_; rintro e w' ⟨rfl, rfl⟩)
    go_ret
    exact ⟨rfl, rfl⟩
  · rw [h1] at HF
    rw [h2] at HT
    clear h1 h2
    go_enter Try.func22, Try.ntmps22
    go_wp2_with fail
    refine HF.out.mono ?_
    rintro e w' ⟨rfl, rfl⟩
    go_wp2_with fail
    refine HT.out.mono ?_
    rintro e w' ⟨rfl, rfl⟩
    go_wp2
    go_ret
    exact ⟨rfl, rfl⟩
  · rw [h1] at HF
    rw [h2] at HT
    clear h1 h2
    go_enter Try.func22, Try.ntmps22
    go_wp2_with fail
    refine HF.out.mono ?_
    rintro e w' ⟨rfl, rfl⟩
    go_wp2_with fail
    refine HT.out.mono ?_
    rintro e w' ⟨rfl, rfl⟩
    go_wp2
    go_ret
    exact ⟨rfl, rfl⟩

/-- One more is held. -/
theorem Ml.posted {N : Nat → Prop} {w w2 w3 w4 : World} {A : Mb} {K : Nat → Nat} {cnt : Nat} {CV : Nat → Value} {C : Nat → List Int} {HV : Int → Int → Value} {H : Int → Int → List Int} (h : Ml N w A K cnt CV C HV H) {f t : Int} (hok : okB A.n f t = true) (hl : (H f t).length < A.b) (hcnt : cnt < 1000000) {v' : Value} {x : Int}
    (g1 : w.grownBy w2 (some A.mb)) (a : App w2 w3 A.base (HV f t) v' (H f t) [x]) (hm : Mp w4 A.mb (cnt + 1) (upd2 HV f t v')) (g4 : w3.grownBy w4 (some A.mb)) :
    Ml N w4 A K (cnt + 1) CV C (upd2 HV f t v') (up2 H f t (H f t ++ [x])) ∧ FrN N w w4 := by
  obtain ⟨s1, s2, s3⟩ := h.bs
  obtain ⟨n1, n2, n3⟩ := h.hne f t
  have hsz : w.heap.size ≤ w4.heap.size := Nat.le_trans g1.size (Nat.le_trans a.grown.size g4.size)
  have hok2 := (okB_iff _ _ _).1 hok
  have cell3 : ∀ {o : Nat} {v : Value}, w.cell? ⟨A.p, o, none⟩ = some v → w4.cell? ⟨A.p, o, none⟩ = some v := fun hc => g4.cell (a.grown.cell (g1.cell hc (some_ne h.pm)) n1) (some_ne h.pm)
  have keep : ∀ {v : Value} {xs : List Int}, Ow w A.base v xs → (∀ q, v.ownBlock = some q → (HV f t).ownBlock ≠ some q) → Ow w4 A.base v xs := fun {v xs} ho hne =>
    ((ho.kept g1 (opt_ne (fun q e e2 => by have := (ho.ge q e).1; have := h.mbb; injection e2 with e2; omega))).kept a.grown (opt_ne hne)).kept g4 (opt_ne (fun q e e2 => by have := (ho.ge q e).1; have := h.mbb; injection e2 with e2; omega))
  have keep2 : Ow w4 A.base v' (H f t ++ [x]) := a.own.kept g4 (opt_ne (fun q e e2 => by have := (a.own.ge q e).1; have := h.mbb; injection e2 with e2; omega))
  have lt1 : ∀ t' q, (CV t').ownBlock = some q → q < w.heap.size := fun t' q e => ((h.own.c t').ge q e).2
  have lt2 : ∀ f' t' q, (HV f' t').ownBlock = some q → q < w.heap.size := fun f' t' q e => ((h.own.h f' t').ge q e).2
  have hvn : ∀ f' t' q, (upd2 HV f t v' f' t').ownBlock = some q → ((f' = f ∧ t' = t) ∧ ((HV f t).ownBlock = some q ∨ w2.heap.size ≤ q)) ∨ (¬ (f' = f ∧ t' = t) ∧ (HV f' t').ownBlock = some q) := fun f' t' q e => by
    unfold upd2 at e
    split at e
    · rename_i h1; exact .inl ⟨h1, a.new q e⟩
    · rename_i h1; exact .inr ⟨h1, e⟩
  have hs2 := g1.size
  refine ⟨⟨cell3 h.c0, cell3 h.c1, cell3 h.c2, ((h.cv.kept g1 (some_ne h.qm)).kept a.grown n2).kept g4 (some_ne h.qm), hm, ⟨fun t' => keep (h.own.c t') (fun q e1 e2 => h.own.ch t' f t q e1 e2), fun f' t' => ?_, h.own.cc, fun t1 f' t2 q e1 e2 => ?_, fun f1 t1 f2 t2 q e1 e2 => ?_⟩, fun f' t' hn => ?_, h.cnil,
      h.pb, h.qb, h.mbb, Nat.le_trans h.bh hsz, h.pq, h.pm, h.qm, h.n64, h.b1, h.b64, h.lc, fun f' t' => ?_, h.ks, by omega, h.np, h.nq, h.nm, h.nc, fun f' t' q e => ?_, fun i hi => Nat.lt_of_lt_of_le (h.nlt i hi) hsz⟩, ?_⟩
  · unfold upd2 up2
    by_cases e : f' = f ∧ t' = t
    · rw [if_pos e, if_pos e]; exact keep2
    · rw [if_neg e, if_neg e]; exact keep (h.own.h f' t') (fun q e1 e2 => by have := h.own.hh f' t' f t q e1 e2; exact e this)
  · rcases hvn f' t2 q e2 with ⟨_, k | k⟩ | ⟨_, k⟩
    · exact h.own.ch _ _ _ q e1 k
    · have := lt1 _ _ e1; omega
    · exact h.own.ch _ _ _ q e1 k
  · rcases hvn f1 t1 q e1 with ⟨⟨rfl, rfl⟩, k1⟩ | ⟨m1, k1⟩
    · rcases hvn f2 t2 q e2 with ⟨⟨rfl, rfl⟩, _⟩ | ⟨m2, k2⟩
      · exact ⟨rfl, rfl⟩
      · rcases k1 with k1 | k1
        · exact h.own.hh _ _ _ _ q k1 k2
        · have := lt2 _ _ _ k2; omega
    · rcases hvn f2 t2 q e2 with ⟨⟨rfl, rfl⟩, k2⟩ | ⟨m2, k2⟩
      · rcases k2 with k2 | k2
        · exact h.own.hh _ _ _ _ q k1 k2
        · have := lt2 _ _ _ k1; omega
      · exact h.own.hh _ _ _ _ q k1 k2
  · unfold upd2
    rw [if_neg (fun e => hn (by rw [e.1, e.2]; exact hok2))]
    exact h.nil f' t' hn
  · unfold up2
    split
    · rw [List.length_append, List.length_singleton]; omega
    · exact h.lh f' t'
  · rcases hvn f' t' q e with ⟨_, k | k⟩ | ⟨_, k⟩
    · exact h.nh _ _ _ k
    · exact fun hn => by have := h.nlt q hn; omega
    · exact h.nh _ _ _ k
  · refine ((frN_grown g1 (fun i hi => ⟨h.nlt i hi, fun e => h.nm (by rw [← Option.some.inj e]; exact hi)⟩)).trans (frN_grown a.grown (fun i hi => ⟨Nat.lt_of_lt_of_le (h.nlt i hi) g1.size, fun e => h.nh f t i e.symm hi⟩))).trans
      (frN_grown g4 (fun i hi => ⟨Nat.lt_of_lt_of_le (h.nlt i hi) (Nat.le_trans g1.size a.grown.size), fun e => h.nm (by rw [← Option.some.inj e]; exact hi)⟩))

/-- 'm[k] = append(m[k], x)', from the entry on, in one of the two orders. -/
def Entered (W1 : World) (W2 : World → World) (xv : World → Value) (A : Mb) (HV : Int → Int → Value) (f t : Int) (P : World → Prop) : Prop :=
  ∃ st w2 v' w3 w4, (Instr.mapEntry 60 (.map (some A.mb)) (.agg #[.int .i64 f, .int .i64 t])).run Try.prog W1 = .ok (.tuple #[HV f t, st]) w2 ∧
    (appS #[25, 25] 25 #[HV f t, xv w2]).run Try.prog (W2 w2) = .ok v' w3 ∧
    (Instr.entryStore 60 (.map (some A.mb)) st v').run Try.prog w3 = .ok () w4 ∧ P w4
theorem Ml.entered {N : Nat → Prop} {w1 W1 : World} {W2 : World → World} {xv : World → Value} {A : Mb} {K : Nat → Nat} {cnt : Nat} {CV : Nat → Value} {C : Nat → List Int} {HV : Int → Int → Value} {H : Int → Int → List Int} (h : Ml N W1 A K cnt CV C HV H) (hg : FrN N w1 W1) {f t : Int} (hf : WF f) (ht : WF t)
    (hok : okB A.n f t = true) (hl : (H f t).length < A.b) (hcnt : cnt < 1000000) {x : Int} (h2 : ∀ w2, W1.grownBy w2 (some A.mb) → w2.grownBy (W2 w2) none ∧ Rd (W2 w2) (xv w2) [x]) :
    Entered W1 W2 xv A HV f t (fun w4 => (∃ HV', Ml N w4 A K (cnt + 1) CV C HV' (up2 H f t (H f t ++ [x]))) ∧ FrN N w1 w4) := by
  obtain ⟨st, w2, r1, g1, hst⟩ := h.mp.entry (by omega) hf ht
  obtain ⟨g2, hr⟩ := h2 w2 g1
  obtain ⟨n1, n2, n3⟩ := h.hne f t
  have ho : Ow (W2 w2) A.base (HV f t) (H f t) := ((h.own.h f t).kept g1 (opt_ne (fun q e e2 => by have := ((h.own.h f t).ge q e).1; have := h.mbb; injection e2 with e2; omega))).grown g2
  have g12 := grown_trans g1 (grown_none (r := some A.mb) g2)
  obtain ⟨v', w3, r2, a⟩ := app_runS ho hr (by have := h.b64; simp; omega) (Nat.le_trans h.bh g12.size) 25
  obtain ⟨w4, r3, hm, g4⟩ := hst w3 (HV f t).ownBlock v' (ow_plain a.own) (by
    refine ⟨a.grown.os.trans g2.os, a.grown.tape.trans g2.tape, a.grown.output.trans g2.output, Nat.le_trans g2.size a.grown.size, fun i hi hne => (a.grown.block i (Nat.lt_of_lt_of_le hi g2.size) hne).trans (g2.block i hi (by simp))⟩) n3
  obtain ⟨k1, k2⟩ := h.posted hok hl hcnt g12 a hm g4
  exact ⟨_, w2, v', w3, w4, r1, r2, r3, ⟨_, k1⟩, hg.trans k2⟩

/-- What a Post leaves. -/
def postH (b : Nat) (H : Int → Int → List Int) (f t a : Int) : Int → Int → List Int := if (H f t).length + 1 = b then up2 H f t [] else up2 H f t (H f t ++ [a])
def postC (b : Nat) (C : Nat → List Int) (H : Int → Int → List Int) (f t a : Int) : Nat → List Int := if (H f t).length + 1 = b then up C t.toNat (C t.toNat ++ (H f t ++ [a])) else C
def upK (K : Nat → Nat) (t : Int) : Nat → Nat := up K t.toNat (K t.toNat + 1)
theorem Ml.more {N : Nat → Prop} {w : World} {A : Mb} {K K' : Nat → Nat} {cnt : Nat} {CV : Nat → Value} {C : Nat → List Int} {HV : Int → Int → Value} {H : Int → Int → List Int} (h : Ml N w A K cnt CV C HV H) (hk : ∀ t, K t ≤ K' t) (h1 : ∀ t, K' t ≤ 150) : Ml N w A K' cnt CV C HV H :=
  ⟨h.c0, h.c1, h.c2, h.cv, h.mp, h.own, h.nil, h.cnil, h.pb, h.qb, h.mbb, h.bh, h.pq, h.pm, h.qm, h.n64, h.b1, h.b64, fun t => Nat.le_trans (h.lc t) (Nat.mul_le_mul_left _ (hk t)), h.lh, h1, h.cs, h.np, h.nq, h.nm, h.nc, h.nh, h.nlt⟩
theorem upK_le (K : Nat → Nat) (t : Int) (i : Nat) : K i ≤ upK K t i := by
  unfold upK up
  split
  · rename_i e; subst e; omega
  · exact Nat.le_refl _
def Posted (N : Nat → Prop) (w w' : World) (A : Mb) (K : Nat → Nat) (cnt : Nat) (C : Nat → List Int) (H : Int → Int → List Int) (f t a : Int) : Prop :=
  Mail N w' A (upK K t) (cnt + 1) (postC A.b C H f t a) (postH A.b H f t a) ∧ FrN N w w'
set_option maxRecDepth 100000 in
set_option maxHeartbeats 4000000 in
theorem mpost_ok {N : Nat → Prop} {w : World} {A : Mb} {K : Nat → Nat} {cnt : Nat} {CV : Nat → Value} {C : Nat → List Int} {HV : Int → Int → Value} {H : Int → Int → List Int} (h : Ml N w A K cnt CV C HV H) {f t : Int} (hf : WF f) (ht : WF t) (hok : okB A.n f t = true) (hl : (H f t).length < A.b) (hcnt : cnt < 1000000) (hk : ∀ i, K i < 150) (a : Int) :
    Calls Try.prog 22 #[.pointer (some ⟨A.p, 0, none⟩), .int .i64 f, .int .i64 t, .int .i64 a] w fun e w' => e = .returned (.int .i64 0) ∧ Posted N w w' A K cnt C H f t a := by
  have HF := Lib.hid (mhas_of f (mthr_core h.c1))
  have HT := Lib.hid (mhas_of t (mthr_core h.c1))
  have hok2 := (okB_iff _ _ _).1 hok
  rw [(inB_iff _ _).2 ⟨hok2.1, hok2.2.1⟩] at HF
  rw [(inB_iff _ _).2 ⟨hok2.2.2.1, hok2.2.2.2.1⟩] at HT
  have hne : (f == t) = false := by simpa using hok2.2.2.2.2
  have HWF : Hid (WF f ∧ WF t ∧ okB A.n f t = true ∧ (H f t).length < A.b ∧ cnt < 1000000) := Lib.hid ⟨hf, ht, hok, hl, hcnt⟩
  have HKK := Lib.hid hk
  obtain ⟨tn, htn⟩ : ∃ tn : Nat, t = tn := ⟨t.toNat, by omega⟩
  have HTN : Hid (t = tn ∧ tn < A.n) := Lib.hid ⟨htn, by omega⟩
  have ga := grown_alloc w (.cells #[.int .i64 f, .int .i64 t] 67) none
  have H1 : Hid (Ml (fun i => N i ∨ i = w.heap.size) (w.alloc (.cells #[.int .i64 f, .int .i64 t] 67)) A K cnt CV C HV H) := Lib.hid (h.kept ga (fun q e => by cases e) (fun i hi => by
    rcases hi with hi | rfl
    · exact .inl hi
    · exact .inr ⟨Nat.le_refl _, by simp⟩))
  have HG1 : Hid (FrN N w (w.alloc (.cells #[.int .i64 f, .int .i64 t] 67))) := Lib.hid (frN_grown ga (fun i hi => ⟨h.nlt i hi, by simp⟩))
  have x0 : (w.alloc (.cells #[.int .i64 f, .int .i64 t] 67)).cell? ⟨w.heap.size, 0, none⟩ = some (.int .i64 f) := by rw [cell_alloc_new]; rfl
  have x1 : (w.alloc (.cells #[.int .i64 f, .int .i64 t] 67)).cell? ⟨w.heap.size, 1, none⟩ = some (.int .i64 t) := by rw [cell_alloc_new]; rfl
  clear h hf ht hok hl hcnt hk hok2 htn ga
  go_enter Try.func22, Try.ntmps22
  go_wp2_with fail
  refine HF.out.mono ?_
  rintro e w' ⟨rfl, rfl⟩
  go_wp2_with fail
  refine HT.out.mono ?_
  rintro e w' ⟨rfl, rfl⟩
  clear HF HT
  go_upto_region 6 with (fail)
  obtain ⟨w1, hw1⟩ : ∃ w1 : World, w1 = w.alloc (.cells #[.int .i64 f, .int .i64 t] 67) := ⟨_, rfl⟩
  rw [← hw1] at H1 HG1 x0 x1 ⊢
  obtain ⟨x, hx⟩ : ∃ x, w.heap.size = x := ⟨_, rfl⟩
  rw [hx] at x0 x1 H1 ⊢
  clear hw1 hx
  go_cut [] (fun W => (∃ HV', Ml (fun i => N i ∨ i = x) W A K (cnt + 1) CV C HV' (up2 H f t (H f t ++ [a]))) ∧ FrN (fun i => N i ∨ i = x) w1 W)
  case first =>
    have gA : w1.grownBy (w1.alloc (.cells #[.int .i64 a] 3)).drew none := grown_drew1 (grown_alloc _ _ _)
    have gB : w1.grownBy w1.drew none := grown_drew1 (grown_refl w1 none)
    have hN := fun i hi => H1.out.nlt i hi
    have hmb := H1.out.bs.2.2
    obtain ⟨stA, wA2, vA, wA3, wA4, rA1, rA2, rA3, fA⟩ := (H1.out.grown gA).entered (W2 := fun w2 => w2) (xv := fun _ => .slice (some ⟨w1.heap.size, 0, none⟩) 1 1) (x := a) (frN_grown gA (fun i hi => ⟨hN i hi, by simp⟩)) HWF.out.1 HWF.out.2.1 HWF.out.2.2.1 HWF.out.2.2.2.1 HWF.out.2.2.2.2
      (fun w2 g => ⟨grown_refl _ _, (rd_one w1 a).drew.kept g (.inr (fun e => by simp only [Value.ownBlock, Option.some.injEq] at e; omega))⟩)
    obtain ⟨stB, wB2, vB, wB3, wB4, rB1, rB2, rB3, fB⟩ := (H1.out.grown gB).entered (W2 := fun w2 => w2.alloc (.cells #[.int .i64 a] 3)) (xv := fun w2 => .slice (some ⟨w2.heap.size, 0, none⟩) 1 1) (x := a) (frN_grown gB (fun i hi => ⟨hN i hi, by simp⟩)) HWF.out.1 HWF.out.2.1 HWF.out.2.2.1 HWF.out.2.2.2.1 HWF.out.2.2.2.2
      (fun w2 _ => ⟨grown_alloc _ _ _, rd_one w2 a⟩)
    have HA := Lib.hid fA
    have HB := Lib.hid fB
    have c2 := H1.out.c2
    have c2A := gA.cell c2 (by simp)
    have x0A := gA.cell x0 (by simp)
    have x1A := gA.cell x1 (by simp)
    clear fA fB gA gB hN hmb H1 HG1 HWF HTN
    go_region
    all_goals
      go_wp2
      go_meet
      first | exact HA.out | exact HB.out
  case rest =>
    obtain ⟨HV', h4⟩ := hcut.1
    have H4 := Lib.hid h4
    have HG4 : Hid (FrN N w wc) := Lib.hid (HG1.out.trans (hcut.2.sub (fun i hi => .inl hi)))
    replace x0 := hcut.2.cell x0 (.inr rfl)
    replace x1 := hcut.2.cell x1 (.inr rfl)
    clear hcut h4 H1 HG1
    obtain ⟨w2, rfl⟩ : ∃ w2 : World, w2 = wc := ⟨_, rfl⟩
    have hlk : ∀ d, (Instr.lookup 60 (.map (some A.mb)) (.agg #[.int .i64 f, .int .i64 t]) false).run Try.prog (w2.drewN d) = .ok (HV' f t) (w2.drewN d) := fun d => (H4.out.grown (grown_drew (grown_refl w2 none) d)).mp.look HWF.out.1 HWF.out.2.1
    obtain ⟨Ah, caph, eh, -, -⟩ := (H4.out.own.h f t).rd.shape
    have hml : (up2 H f t (H f t ++ [a]) f t).length = (H f t).length + 1 := by rw [up2_same, List.length_append]; rfl
    rw [hml] at eh
    rw [eh] at hlk
    have c0 := H4.out.c0
    have c2 := H4.out.c2
    have HB : Hid (1 ≤ A.b ∧ A.b ≤ 64) := Lib.hid ⟨H4.out.b1, H4.out.b64⟩
    have HEH := Lib.hid eh
    clear eh hml
    by_cases hb : (H f t).length + 1 = A.b
    · have HC : Hid (postC A.b C H f t a = up C tn (C tn ++ (H f t ++ [a])) ∧ postH A.b H f t a = up2 H f t [] ∧ upK K t = up K tn (K tn + 1)) := Lib.hid ⟨by unfold postC; rw [if_pos hb, HTN.out.1, Int.toNat_natCast], by unfold postH; rw [if_pos hb], by unfold upK; rw [HTN.out.1, Int.toNat_natCast]⟩
      rw [hb] at hlk
      have hbq : ((A.b : Int) == A.b) = true := by simp
      clear hb
      go_upto_region 7 with (fail)
      go_quiet (fail)
      rename Nat => nq
      obtain ⟨w3, hw3⟩ : ∃ w3 : World, w3 = w2.drewN nq := ⟨_, rfl⟩
      have gd : w2.grownBy w3 none := by rw [hw3]; exact grown_drew (grown_refl w2 none) nq
      have H5 := Lib.hid (H4.out.grown gd)
      have HG5 : Hid (FrN N w w3) := Lib.hid (HG4.out.trans (frN_grown gd (fun i hi => ⟨H4.out.nlt i (.inl hi), by simp⟩)))
      replace x0 := gd.cell x0 (by simp)
      replace x1 := gd.cell x1 (by simp)
      rw [← hw3]
      clear hw3 gd hlk c0 c2 H4 HG4
      have HM : Hid (Calls Try.prog 36 #[.pointer (some ⟨A.p, 0, none⟩), .agg #[.int .i64 f, .int .i64 t]] w3 fun e w' => (∃ z, e = .returned (.int .i64 z)) ∧ Posted N w w' A K cnt C H f t a) := Lib.hid (by
        have hm := mmove_at H5.out (f := f) (t := tn) HWF.out.1 HTN.out.2 (HKK.out tn)
        rw [HTN.out.1]
        refine hm.mono ?_
        rintro e w' ⟨he, ⟨CV6, HV6, h6⟩, hfr⟩
        refine ⟨⟨_, he⟩, ⟨CV6, HV6, ?_⟩, HG5.out.trans (hfr.sub (fun i hi => .inl hi))⟩
        obtain ⟨k1, k2, k3⟩ := HC.out
        rw [← HTN.out.1] at h6 ⊢
        rw [k1, k2, k3]
        have e1 : up2 H f t (H f t ++ [a]) f t = H f t ++ [a] := up2_same _ _ _ _
        have e2 : up2 (up2 H f t (H f t ++ [a])) f t [] = up2 H f t [] := by
          funext f' t'
          unfold up2
          split <;> rfl
        rw [e1, e2] at h6
        exact h6.kept (grown_refl _ none) (fun q e => by cases e) (fun i hi => .inl (.inl hi)))
      go_wp2_with fail
      refine HM.out.mono ?_
      rintro e w' ⟨⟨z, rfl⟩, hp⟩
      have HP := Lib.hid hp
      clear hp HM
      go_wp2
      go_ret
      exact ⟨rfl, HP.out⟩
    · have hbq : ((((H f t).length + 1 : Nat) : Int) == A.b) = false := by rw [beq_eq_false_iff_ne]; omega
      have HC : Hid (postC A.b C H f t a = C ∧ postH A.b H f t a = up2 H f t (H f t ++ [a])) := Lib.hid ⟨by unfold postC; rw [if_neg hb], by unfold postH; rw [if_neg hb]⟩
      have HFIN : Hid (∀ d, Posted N w (w2.drewN d) A K cnt C H f t a) := Lib.hid (fun d => by
        have gd := grown_drew (grown_refl w2 none) d
        obtain ⟨k1, k2⟩ := HC.out
        refine ⟨⟨CV, HV', ?_⟩, HG4.out.trans (frN_grown gd (fun i hi => ⟨H4.out.nlt i (.inl hi), by simp⟩))⟩
        rw [k1, k2]
        exact (H4.out.kept gd (fun q e => by cases e) (fun i hi => .inl (.inl hi))).more (upK_le K t) (fun i => by have := HKK.out i; have := HKK.out t.toNat; unfold upK up; split <;> omega))
      generalize (H f t).length + 1 = m at *
      clear hb
      go_upto_region 7 with (fail)
      go_quiet (fail)
      rename Nat => nq
      go_wp2
      go_ret
      exact ⟨rfl, HFIN.out nq⟩
end Go.Proofs.Ytldpljfanlhooaa
