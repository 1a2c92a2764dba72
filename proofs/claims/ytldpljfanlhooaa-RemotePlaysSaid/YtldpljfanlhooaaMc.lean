/- The walk of a mail's move: what is held from one for another one comes to that one. -/
import Derived.Test.YtldpljfanlhooaaMb
import Derived.Deep.RegionLaw
import Derived.BigRegion
namespace Go.Proofs.Ytldpljfanlhooaa
open Go.RowKit
open Is
attribute [local go_sem ↓] appS_of

/-- delete, under a name of its own. -/
noncomputable def delS (ats : Array TypeId) (ty : TypeId) (vs : Array Value) : Sem Value := Builtin.delete_ ats ty vs
theorem delS_of (ats : Array TypeId) (ty : TypeId) (vs : Array Value) : Builtin.delete_ ats ty vs = delS ats ty vs := rfl
attribute [local go_sem ↓] delS_of

def up {α : Type} (g : Nat → α) (k : Nat) (v : α) : Nat → α := fun i => if i = k then v else g i
def up2 {α : Type} (g : Int → Int → α) (f t : Int) (v : α) : Int → Int → α := fun f' t' => if f' = f ∧ t' = t then v else g f' t'
theorem upd2_is (g : Int → Int → Value) (f t : Int) (v : Value) : upd2 g f t v = up2 g f t v := rfl
theorem up_same {α : Type} (g : Nat → α) (k : Nat) (v : α) : up g k v k = v := if_pos rfl
theorem up_other {α : Type} (g : Nat → α) {k i : Nat} (v : α) (h : i ≠ k) : up g k v i = g i := if_neg h
theorem up2_same {α : Type} (g : Int → Int → α) (f t : Int) (v : α) : up2 g f t v f t = v := if_pos ⟨rfl, rfl⟩
theorem up2_other {α : Type} (g : Int → Int → α) {f t f' t' : Int} (v : α) (h : ¬ (f' = f ∧ t' = t)) : up2 g f t v f' t' = g f' t' := if_neg h

/-- How a mail stands behind a call. -/
def Mail (N : Nat → Prop) (w : World) (A : Mb) (K : Nat → Nat) (cnt : Nat) (C : Nat → List Int) (H : Int → Int → List Int) : Prop := ∃ CV HV, Ml N w A K cnt CV C HV H
theorem Ml.pne {N : Nat → Prop} {w : World} {A : Mb} {K : Nat → Nat} {cnt : Nat} {CV : Nat → Value} {C : Nat → List Int} {HV : Int → Int → Value} {H : Int → Int → List Int} (h : Ml N w A K cnt CV C HV H) (t : Nat) : some A.p ≠ (CV t).ownBlock ∧ some A.cq ≠ (CV t).ownBlock ∧ some A.mb ≠ (CV t).ownBlock :=
  ⟨fun e => by have := ((h.own.c t).ge _ e.symm).1; have := h.pb; omega, fun e => by have := ((h.own.c t).ge _ e.symm).1; have := h.qb; omega, fun e => by have := ((h.own.c t).ge _ e.symm).1; have := h.mbb; omega⟩
theorem Ml.hne {N : Nat → Prop} {w : World} {A : Mb} {K : Nat → Nat} {cnt : Nat} {CV : Nat → Value} {C : Nat → List Int} {HV : Int → Int → Value} {H : Int → Int → List Int} (h : Ml N w A K cnt CV C HV H) (f t : Int) : some A.p ≠ (HV f t).ownBlock ∧ some A.cq ≠ (HV f t).ownBlock ∧ some A.mb ≠ (HV f t).ownBlock :=
  ⟨fun e => by have := ((h.own.h f t).ge _ e.symm).1; have := h.pb; omega, fun e => by have := ((h.own.h f t).ge _ e.symm).1; have := h.qb; omega, fun e => by have := ((h.own.h f t).ge _ e.symm).1; have := h.mbb; omega⟩
theorem opt_ne {o r : Option Nat} (h : ∀ q, o = some q → r ≠ some q) : o = none ∨ o ≠ r := by
  cases o with
  | none => exact .inl rfl
  | some q => exact .inr (fun e => h q rfl e.symm)

theorem Ml.moved {N : Nat → Prop} {w w2 w4 : World} {A : Mb} {K : Nat → Nat} {cnt : Nat} {CV : Nat → Value} {C : Nat → List Int} {HV : Int → Int → Value} {H : Int → Int → List Int} (h : Ml N w A K cnt CV C HV H) {f : Int} {t : Nat} (ht : t < A.n) (hk : K t < 150) {v' : Value}
    (a : App w w2 A.base (CV t) v' (C t) (H f t)) (hm : Mp w4 A.mb cnt (upd2 HV f t (.slice none 0 0))) (hg : (w2.setCell ⟨A.cq, t, none⟩ v').grownBy w4 (some A.mb)) :
    Ml N w4 A (up K t (K t + 1)) cnt (up CV t v') (up C t (C t ++ H f t)) (upd2 HV f t (.slice none 0 0)) (up2 H f t []) ∧ FrN N w w4 := by
  obtain ⟨s1, s2, s3⟩ := h.bs
  obtain ⟨n1, n2, n3⟩ := h.pne t
  have gset := set_grown w2 A.cq t v'
  have hsz : w.heap.size ≤ w4.heap.size := Nat.le_trans a.grown.size (Nat.le_trans gset.size hg.size)
  have cell3 : ∀ {o : Nat} {v : Value}, w.cell? ⟨A.p, o, none⟩ = some v → w4.cell? ⟨A.p, o, none⟩ = some v := fun hc => hg.cell (gset.cell (a.grown.cell hc n1) (some_ne h.pq)) (some_ne h.pm)
  -- what a slice of the mail that is another one keeps
  have keep : ∀ {v : Value} {xs : List Int}, Ow w A.base v xs → (∀ q, v.ownBlock = some q → (CV t).ownBlock ≠ some q) → Ow w4 A.base v xs := fun {v xs} ho hne =>
    ((ho.kept a.grown (opt_ne hne)).kept gset (opt_ne (fun q e e2 => by have := (ho.ge q e).1; have := h.qb; injection e2 with e2; omega))).kept hg (opt_ne (fun q e e2 => by have := (ho.ge q e).1; have := h.mbb; injection e2 with e2; omega))
  have keep2 : Ow w4 A.base v' (C t ++ H f t) :=
    (a.own.kept gset (opt_ne (fun q e e2 => by have := (a.own.ge q e).1; have := h.qb; injection e2 with e2; omega))).kept hg (opt_ne (fun q e e2 => by have := (a.own.ge q e).1; have := h.mbb; injection e2 with e2; omega))
  have lt1 : ∀ t' q, (CV t').ownBlock = some q → q < w.heap.size := fun t' q e => ((h.own.c t').ge q e).2
  have lt2 : ∀ f' t' q, (HV f' t').ownBlock = some q → q < w.heap.size := fun f' t' q e => ((h.own.h f' t').ge q e).2
  have hvn : ∀ f' t' q, (upd2 HV f t (.slice none 0 0) f' t').ownBlock = some q → (HV f' t').ownBlock = some q ∧ ¬ (f' = f ∧ t' = t) := fun f' t' q e => by
    unfold upd2 at e
    split at e
    · cases e
    · exact ⟨e, by assumption⟩
  have cvn : ∀ t' q, (up CV t v' t').ownBlock = some q → (t' = t ∧ ((CV t).ownBlock = some q ∨ w.heap.size ≤ q)) ∨ (t' ≠ t ∧ (CV t').ownBlock = some q) := fun t' q e => by
    by_cases e2 : t' = t
    · subst e2; rw [up_same] at e; exact .inl ⟨rfl, a.new q e⟩
    · rw [up_other _ _ e2] at e; exact .inr ⟨e2, e⟩
  refine ⟨⟨cell3 h.c0, cell3 h.c1, cell3 h.c2, ?_, hm, ⟨fun t' => ?_, fun f' t' => ?_, fun t1 t2 q e1 e2 => ?_, fun t1 f' t2 q e1 e2 => ?_, fun f1 t1 f2 t2 q e1 e2 => ?_⟩, fun f' t' hn => ?_, fun t' hn => ?_, h.pb, h.qb, h.mbb, Nat.le_trans h.bh hsz, h.pq, h.pm, h.qm, h.n64, h.b1, h.b64,
      fun t' => ?_, fun f' t' => ?_, fun t' => ?_, h.cs, h.np, h.nq, h.nm, fun t' q e => ?_, fun f' t' q e => h.nh f' t' q (hvn f' t' q e).1, fun i hi => Nat.lt_of_lt_of_le (h.nlt i hi) hsz⟩, ?_⟩
  · exact (((h.cv.kept a.grown n2).set t v').kept hg (some_ne h.qm)).congr (fun i _ => rfl)
  · by_cases e : t' = t
    · subst e; rw [up_same, up_same]; exact keep2
    · rw [up_other _ _ e, up_other _ _ e]
      exact keep (h.own.c t') (fun q e1 e2 => e (h.own.cc t' t q e1 e2))
  · unfold upd2 up2
    by_cases e : f' = f ∧ t' = t
    · rw [if_pos e, if_pos e]; exact ow_nil _ _
    · rw [if_neg e, if_neg e]; exact keep (h.own.h f' t') (fun q e1 e2 => h.own.ch t f' t' q e2 e1)
  · rcases cvn t1 q e1 with ⟨rfl, k1⟩ | ⟨m1, k1⟩
    · rcases cvn t2 q e2 with ⟨rfl, _⟩ | ⟨m2, k2⟩
      · rfl
      · rcases k1 with k1 | k1
        · exact h.own.cc _ _ q k1 k2
        · have := lt1 _ _ k2; omega
    · rcases cvn t2 q e2 with ⟨rfl, k2⟩ | ⟨m2, k2⟩
      · rcases k2 with k2 | k2
        · exact h.own.cc _ _ q k1 k2
        · have := lt1 _ _ k1; omega
      · exact h.own.cc _ _ q k1 k2
  · obtain ⟨k2, _⟩ := hvn f' t2 q e2
    rcases cvn t1 q e1 with ⟨rfl, k1 | k1⟩ | ⟨m1, k1⟩
    · exact h.own.ch _ _ _ q k1 k2
    · have := lt2 _ _ _ k2; omega
    · exact h.own.ch _ _ _ q k1 k2
  · exact h.own.hh _ _ _ _ q (hvn _ _ q e1).1 (hvn _ _ q e2).1
  · unfold upd2
    split
    · rfl
    · exact h.nil f' t' hn
  · rw [up_other _ _ (by omega)]; exact h.cnil t' hn
  · by_cases e : t' = t
    · subst e; rw [up_same, up_same, List.length_append]; have := h.lc t'; have := h.lh f t'; have := h.b64; omega
    · rw [up_other _ _ e, up_other _ _ e]; exact h.lc t'
  · unfold up2
    split
    · simp only [List.length_nil]; omega
    · exact h.lh f' t'
  · by_cases e : t' = t
    · subst e; rw [up_same]; omega
    · rw [up_other _ _ e]; exact h.ks t'
  · rcases cvn t' q e with ⟨rfl, k | k⟩ | ⟨_, k⟩
    · exact h.nc _ _ k
    · exact fun hn => by have := h.nlt q hn; omega
    · exact h.nc _ _ k
  · refine ((frN_grown a.grown (fun i hi => ⟨h.nlt i hi, fun e => h.nc t i e.symm hi⟩)).trans (frN_grown gset (fun i hi => ⟨Nat.lt_of_lt_of_le (h.nlt i hi) a.grown.size, fun e => h.nq (by rw [← Option.some.inj e]; exact hi)⟩))).trans
      (frN_grown hg (fun i hi => ⟨Nat.lt_of_lt_of_le (h.nlt i hi) (Nat.le_trans a.grown.size gset.size), fun e => h.nm (by rw [← Option.some.inj e]; exact hi)⟩))

/-- What a move leaves. -/
def Moved (N : Nat → Prop) (w w' : World) (A : Mb) (K : Nat → Nat) (cnt : Nat) (C : Nat → List Int) (H : Int → Int → List Int) (f : Int) (t : Nat) : Prop :=
  Mail N w' A (up K t (K t + 1)) cnt (up C t (C t ++ H f t)) (up2 H f t []) ∧ FrN N w w'
set_option maxRecDepth 100000 in
set_option maxHeartbeats 2000000 in
theorem mmove_at {N : Nat → Prop} {w : World} {A : Mb} {K : Nat → Nat} {cnt : Nat} {CV : Nat → Value} {C : Nat → List Int} {HV : Int → Int → Value} {H : Int → Int → List Int} (h : Ml N w A K cnt CV C HV H) {f : Int} {t : Nat} (hf : WF f) (ht : t < A.n) (hk : K t < 150) :
    Calls Try.prog 36 #[.pointer (some ⟨A.p, 0, none⟩), .agg #[.int .i64 f, .int .i64 t]] w fun e w' => e = .returned (.int .i64 (H f t).length) ∧ Moved N w w' A K cnt C H f t := by
  have ga := grown_alloc w (.cells #[.int .i64 f, .int .i64 t] 67) none
  have H1 := Lib.hid (h.grown ga)
  have HG1 : Hid (FrN N w (w.alloc (.cells #[.int .i64 f, .int .i64 t] 67))) := Lib.hid (frN_grown ga (fun i hi => ⟨h.nlt i hi, by simp⟩))
  have x0 : (w.alloc (.cells #[.int .i64 f, .int .i64 t] 67)).cell? ⟨w.heap.size, 0, none⟩ = some (.int .i64 f) := by rw [cell_alloc_new]; rfl
  have x1 : (w.alloc (.cells #[.int .i64 f, .int .i64 t] 67)).cell? ⟨w.heap.size, 1, none⟩ = some (.int .i64 t) := by rw [cell_alloc_new]; rfl
  have HX : Hid (∀ t', (CV t').ownBlock ≠ some w.heap.size) := Lib.hid (fun t' e => by have := ((h.own.c t').ge _ e).2; omega)
  have HXQ : Hid (A.cq ≠ w.heap.size ∧ A.mb ≠ w.heap.size) := Lib.hid (by have := h.bs; omega)
  have HT : Hid (t < A.n ∧ K t < 150 ∧ A.n ≤ 64) := Lib.hid ⟨ht, hk, h.n64⟩
  have HWF : Hid (WF f ∧ WF (t : Int)) := Lib.hid ⟨hf, by have := h.n64; constructor <;> omega⟩
  have hti : (t : Int) < A.n := by omega
  clear h hf ht hk ga
  go_enter Try.func36, Try.ntmps36
  go_upto_region 1 with (fail)
  obtain ⟨w1, hw1⟩ : ∃ w1 : World, w1 = w.alloc (.cells #[.int .i64 f, .int .i64 t] 67) := ⟨_, rfl⟩
  rw [← hw1] at H1 HG1 x0 x1 ⊢
  obtain ⟨x, hx⟩ : ∃ x, w.heap.size = x := ⟨_, rfl⟩
  rw [hx] at x0 x1 HX HXQ ⊢
  clear hw1 hx
  have c2 := H1.out.c2
  have hl : ∀ d, (Instr.lookup 60 (.map (some A.mb)) (.agg #[.int .i64 f, .int .i64 t]) false).run Try.prog (w1.drewN d) = .ok (HV f t) (w1.drewN d) := fun d => (H1.out.grown (grown_drew (grown_refl w1 none) d)).mp.look HWF.out.1 HWF.out.2
  go_quiet (fail)
  rename Nat => nq
  clear hl c2
  obtain ⟨w2, hw2⟩ : ∃ w2 : World, w2 = w1.drewN nq := ⟨_, rfl⟩
  have gd : w1.grownBy w2 none := by rw [hw2]; exact grown_drew (grown_refl w1 none) nq
  have H2 := Lib.hid (H1.out.grown gd)
  have HG2 : Hid (FrN N w w2) := Lib.hid (HG1.out.trans (frN_grown gd (fun i hi => ⟨H1.out.nlt i hi, by simp⟩)))
  replace x0 := gd.cell x0 (by simp)
  replace x1 := gd.cell x1 (by simp)
  rw [← hw2]
  clear hw2 gd H1 HG1
  go_upto_region 2 with (fail)
  -- what has come, and what is appended to it
  have HA : Hid (Ow w2.drew A.base (CV t) (C t) ∧ Rd w2.drew (HV f t) (H f t)) := Lib.hid ⟨(H2.out.own.c t).drew, (H2.out.own.h f t).rd.drew⟩
  obtain ⟨v', w3, happ, ha⟩ := app_runS HA.out.1 HA.out.2 (by have := H2.out.lc t; have := H2.out.lh f t; have := H2.out.b64; have := HT.out; omega) H2.out.bh 25
  have c12 := H2.out.c1
  have ck2 := H2.out.cv.c t HT.out.1
  have gdr : w2.grownBy w2.drew none := grown_drew1 (grown_refl w2 none)
  have HD := Lib.hid (H2.out.grown gdr)
  have HGD : Hid (FrN N w w2.drew) := Lib.hid (HG2.out.trans (frN_grown gdr (fun i hi => ⟨H2.out.nlt i hi, by simp⟩)))
  obtain ⟨n1, n2, n3⟩ := HD.out.pne t
  have c13 := ha.grown.cell HD.out.c1 n1
  have d23 := ha.grown.cell HD.out.c2 n1
  have ck3 := ha.grown.cell (HD.out.cv.c t HT.out.1) n2
  have z3 : ∀ k, w3.frozen? ⟨A.cq, k, none⟩ = false := (HD.out.cv.kept ha.grown n2).fz
  have hxn : some x ≠ (CV t).ownBlock := fun e => HX.out t e.symm
  have x03 := ha.grown.cell (show w2.drew.cell? ⟨x, 0, none⟩ = _ from x0) hxn
  have x13 := ha.grown.cell (show w2.drew.cell? ⟨x, 1, none⟩ = _ from x1) hxn
  have HAP := Lib.hid ha
  obtain ⟨Av, capv, ev, -, -⟩ := ha.own.rd.shape
  obtain ⟨Ac, capc, ec, -, -⟩ := HA.out.1.rd.shape
  obtain ⟨Ah, caph, eh, -, -⟩ := HA.out.2.shape
  -- the world behind the store, and behind the deletion
  have gs3 := set_grown w3 A.cq t v'
  have HMP : Hid (Mp (w3.setCell ⟨A.cq, t, none⟩ v') A.mb cnt HV) := Lib.hid ((HD.out.mp.kept ha.grown n3).kept gs3 (some_ne (Ne.symm HD.out.qm)))
  have s2 := gs3.cell d23 (some_ne HD.out.pq)
  have sx0 := gs3.cell x03 (some_ne (Ne.symm HXQ.out.1))
  have sx1 := gs3.cell x13 (some_ne (Ne.symm HXQ.out.1))
  have hdel : ∃ w5, (delS #[60, 67] 0 #[.map (some A.mb), .agg #[.int .i64 f, .int .i64 t]]).run Try.prog (w3.setCell ⟨A.cq, t, none⟩ v').drew = .ok (.tuple #[]) w5 ∧ Mp w5 A.mb cnt (upd2 HV f t (.slice none 0 0)) ∧ (w3.setCell ⟨A.cq, t, none⟩ v').grownBy w5 (some A.mb) := by
    obtain ⟨w5, k1, k2, k3⟩ := (HMP.out.kept (grown_drew1 (grown_refl _ none)) (by simp)).del HWF.out.1 HWF.out.2 0
    exact ⟨w5, k1, k2, grown_trans (grown_drew1 (grown_refl _ _)) k3⟩
  obtain ⟨w5, hdrun, hmp5, hg5⟩ := hdel
  have HFIN : Hid (Moved N w w5 A K cnt C H f t) := Lib.hid (by
    obtain ⟨k1, k2⟩ := HD.out.moved HT.out.1 HT.out.2.1 ha hmp5 hg5
    exact ⟨⟨_, _, k1⟩, HGD.out.trans k2⟩)
  clear ha n1 n2 n3 hxn gs3 HMP hmp5 hg5 HAP HD HGD gdr HG2 H2 HA HX HXQ HWF
  subst ev
  rw [ec] at ck2 ck3 happ
  rw [eh] at happ
  rw [eh]
  generalize (C t ++ H f t).length = mv at *
  generalize (C t).length = mc at *
  generalize hmh : (H f t).length = mh at *
  have HMH := Lib.hid hmh
  clear ec eh hmh
  go_region
  clear happ c12 ck2 c13 x0 x1 x03 x13 ck3 z3 d23
  generalize w3.setCell ⟨A.cq, t, none⟩ (.slice Av mv capv) = w4 at *
  go_upto_region 3 with (fail)
  go_region
  go_wp2
  go_ret
  exact ⟨ret_int (by rw [HMH.out]), HFIN.out⟩
end Go.Proofs.Ytldpljfanlhooaa
