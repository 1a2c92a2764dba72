/- The walks of a mail's Send, Next, Post. -/
import Derived.Test.YtldpljfanlhooaaMc
namespace Go.Proofs.Ytldpljfanlhooaa
open Go.RowKit
open Is
attribute [local go_sem ↓] appS_of

/-! ### Send -/
def sendC (C : Nat → List Int) (H : Int → Int → List Int) (f : Int) (k : Nat) : Nat → List Int := fun t => if t < k then C t ++ H f t else C t
def sendH (H : Int → Int → List Int) (f : Int) (k : Nat) : Int → Int → List Int := fun f' t' => if f' = f ∧ 0 ≤ t' ∧ t' < k then [] else H f' t'
def sendK (K : Nat → Nat) (k : Nat) : Nat → Nat := fun t => if t < k then K t + 1 else K t
theorem sendH_at (H : Int → Int → List Int) (f : Int) (k : Nat) : sendH H f k f k = H f k := by unfold sendH; rw [if_neg (by omega)]
theorem sendK_at (K : Nat → Nat) (k : Nat) : sendK K k k = K k := by unfold sendK; rw [if_neg (by omega)]
theorem sendC_succ (C : Nat → List Int) (H : Int → Int → List Int) (f : Int) (k : Nat) : up (sendC C H f k) k (sendC C H f k k ++ sendH H f k f k) = sendC C H f (k + 1) := by
  funext t
  rw [sendH_at]
  unfold up sendC
  by_cases e : t = k
  · subst e; rw [if_pos rfl, if_neg (by omega), if_pos (by omega)]
  · rw [if_neg e]
    by_cases e2 : t < k
    · rw [if_pos e2, if_pos (by omega)]
    · rw [if_neg e2, if_neg (by omega)]
theorem sendH_succ (H : Int → Int → List Int) (f : Int) (k : Nat) : up2 (sendH H f k) f k [] = sendH H f (k + 1) := by
  funext f' t'
  unfold up2 sendH
  by_cases e : f' = f ∧ t' = k
  · rw [if_pos e, if_pos ⟨e.1, by omega, by omega⟩]
  · rw [if_neg e]
    by_cases e2 : f' = f ∧ 0 ≤ t' ∧ t' < k
    · rw [if_pos e2, if_pos ⟨e2.1, by omega, by omega⟩]
    · rw [if_neg e2, if_neg (fun h => by
        by_cases e3 : t' = k
        · exact e ⟨h.1, e3⟩
        · exact e2 ⟨h.1, h.2.1, by omega⟩)]
theorem sendK_succ (K : Nat → Nat) (k : Nat) : up (sendK K k) k (sendK K k k + 1) = sendK K (k + 1) := by
  funext t
  rw [sendK_at]
  unfold up sendK
  by_cases e : t = k
  · subst e; rw [if_pos rfl, if_pos (by omega)]
  · rw [if_neg e]
    by_cases e2 : t < k
    · rw [if_pos e2, if_pos (by omega)]
    · rw [if_neg e2, if_neg (by omega)]
def Sent (N : Nat → Prop) (w w' : World) (A : Mb) (K : Nat → Nat) (cnt : Nat) (C : Nat → List Int) (H : Int → Int → List Int) (f : Int) (k : Nat) : Prop :=
  Mail N w' A (sendK K k) cnt (sendC C H f k) (sendH H f k) ∧ FrN N w w'
theorem msend_nil (f : Int) (w : World) : Calls Try.prog 24 #[.pointer none, .int .i64 f] w fun e w' => e = .returned (.int .i64 0) ∧ w = w' := by
  go_enter Try.func24, Try.ntmps24
  go_wp2_with (go_at_call 33; refine (mthr_nil _).mono ?_; rintro e w' ⟨rfl, rfl⟩)
  go_loop [5, 9] (fun s i => i = .int .i64 0 ∧ s = .int .i64 0) (fun _ _ => 0)
  case atStart => exact ⟨rfl, rfl⟩
  case round =>
    obtain ⟨rfl, rfl⟩ := hrel
    go_wp2
    go_ret
    exact ⟨rfl, rfl⟩
set_option maxRecDepth 100000 in
set_option maxHeartbeats 1000000 in
theorem msend_at {N : Nat → Prop} {w : World} {A : Mb} {K : Nat → Nat} {cnt : Nat} {C : Nat → List Int} {H : Int → Int → List Int} (h : Mail N w A K cnt C H) {f : Int} (hf : WF f) (hk : ∀ t, K t < 150) :
    Calls Try.prog 24 #[.pointer (some ⟨A.p, 0, none⟩), .int .i64 f] w fun e w' => e = .returned (.int .i64 (heldN H f A.n : Nat)) ∧ Sent N w w' A K cnt C H f A.n := by
  obtain ⟨CV, HV, hm⟩ := h
  have HT := Lib.hid (mthr_core hm.c1)
  have HF := Lib.hid hf
  have HKK := Lib.hid hk
  have hn64 : (A.n : Int) ≤ 64 := by have := hm.n64; omega
  have HN64 := Lib.hid hm.n64
  have HL := Lib.hid (fun f t => Nat.le_trans (hm.lh f t) hm.b64)
  have HS : Hid (Sent N w w A K cnt C H f 0) := Lib.hid ⟨⟨CV, HV, by
    have e1 : sendK K 0 = K := by funext t; unfold sendK; rw [if_neg (by omega)]
    have e2 : sendC C H f 0 = C := by funext t; unfold sendC; rw [if_neg (by omega)]
    have e3 : sendH H f 0 = H := by funext f' t'; unfold sendH; rw [if_neg (by omega)]
    rw [e1, e2, e3]; exact hm⟩, frN_refl _ _⟩
  clear hm hf hk
  go_enter Try.func24, Try.ntmps24
  go_wp2_with (go_at_call 33; refine HT.out.mono ?_; rintro e w' ⟨rfl, rfl⟩)
  clear HT
  go_loopw [5, 9] (fun s i wr => ∃ k : Nat, k ≤ A.n ∧ i = .int .i64 k ∧ s = .int .i64 (heldN H f k : Nat) ∧ Sent N w wr A K cnt C H f k) (fun _ i _ => A.n - (intOf i).toNat)
  case atStart => exact ⟨0, by omega, rfl, rfl, HS.out⟩
  case round =>
    obtain ⟨k, hk, rfl, rfl, hs⟩ := hrel
    have HSK := Lib.hid hs
    clear hs HS
    by_cases hlt : k < A.n
    · have hki : (k : Int) < A.n := by omega
      have HM : Hid (Calls Try.prog 36 #[.pointer (some ⟨A.p, 0, none⟩), .agg #[.int .i64 f, .int .i64 k]] wr fun e w' => e = .returned (.int .i64 (H f k).length) ∧ Sent N w w' A K cnt C H f (k + 1)) := Lib.hid (by
        obtain ⟨⟨CV2, HV2, hm2⟩, hfr⟩ := HSK.out
        refine (mmove_at hm2 HF.out hlt (by rw [sendK_at]; exact HKK.out k)).mono ?_
        rintro e w' ⟨he, ⟨CV3, HV3, hm3⟩, hfr2⟩
        rw [sendH_at] at he
        rw [sendC_succ, sendH_succ, sendK_succ] at hm3
        exact ⟨he, ⟨CV3, HV3, hm3⟩, hfr.trans hfr2⟩)
      have HE : Hid (heldN H f (k + 1) = heldN H f k + (H f k).length) := Lib.hid rfl
      have hb1 : ((heldN H f k : Nat) : Int) ≤ 4096 := by have := heldN_le (H := H) (f := f) (b := 64) HL.out k; have := HN64.out; omega
      have hb2 : (((H f k).length : Nat) : Int) ≤ 64 := by have := HL.out f k; omega
      have HLT := Lib.hid hlt
      clear hlt hk HSK
      generalize heldN H f k = s at *
      generalize (H f k).length = m at *
      go_wp2_with fail
      refine HM.out.mono ?_
      rintro e w2 ⟨rfl, hs⟩
      have HS2 := Lib.hid hs
      clear hs HM
      go_wp2
      go_roundw
      case rel => exact ⟨k + 1, by have := HLT.out; omega, by go_num, by rw [HE.out]; go_num, HS2.out⟩
      case measure => have := HLT.out; simp [intOf]; omega
    · obtain rfl : k = A.n := by omega
      have hki : ¬ (A.n : Int) < A.n := by omega
      go_wp2
      go_ret
      exact ⟨rfl, HSK.out⟩

/-! ### Next -/
theorem Ml.next {N : Nat → Prop} {w : World} {A : Mb} {K : Nat → Nat} {cnt : Nat} {CV : Nat → Value} {C : Nat → List Int} {HV : Int → Int → Value} {H : Int → Int → List Int} (h : Ml N w A K cnt CV C HV H) {t : Nat} (ht : t < A.n) {A1 : Option Addr} {n1 c1 : Nat} (hv : CV t = .slice A1 n1 c1) {x : Int} {xs : List Int} (hc : C t = x :: xs) :
    Ml N (w.setCell ⟨A.cq, t, none⟩ (.slice (tlA A1 c1) (n1 - 1) (c1 - 1))) A K cnt (up CV t (.slice (tlA A1 c1) (n1 - 1) (c1 - 1))) (up C t xs) HV H ∧ FrN N w (w.setCell ⟨A.cq, t, none⟩ (.slice (tlA A1 c1) (n1 - 1) (c1 - 1))) := by
  obtain ⟨s1, s2, s3⟩ := h.bs
  have gs := set_grown w A.cq t (.slice (tlA A1 c1) (n1 - 1) (c1 - 1))
  have ho := h.own.c t
  rw [hv, hc] at ho
  have keep : ∀ {v : Value} {ys : List Int}, Ow w A.base v ys → Ow (w.setCell ⟨A.cq, t, none⟩ (.slice (tlA A1 c1) (n1 - 1) (c1 - 1))) A.base v ys := fun {v ys} o =>
    o.kept gs (opt_ne (fun q e e2 => by have := (o.ge q e).1; have := h.qb; injection e2 with e2; omega))
  have cvn : ∀ t' q, (up CV t (.slice (tlA A1 c1) (n1 - 1) (c1 - 1)) t').ownBlock = some q → (CV t').ownBlock = some q := fun t' q e => by
    by_cases e2 : t' = t
    · subst e2; rw [up_same] at e; rw [hv]; exact tl_own _ _ _ n1 _ q e
    · rwa [up_other _ _ e2] at e
  refine ⟨⟨gs.cell h.c0 (some_ne h.pq), gs.cell h.c1 (some_ne h.pq), gs.cell h.c2 (some_ne h.pq), (h.cv.set t _).congr (fun i _ => rfl), h.mp.kept gs (some_ne (Ne.symm h.qm)),
    ⟨fun t' => ?_, fun f' t' => keep (h.own.h f' t'), fun t1 t2 q e1 e2 => h.own.cc _ _ q (cvn _ _ e1) (cvn _ _ e2), fun t1 f' t2 q e1 e2 => h.own.ch _ _ _ q (cvn _ _ e1) e2, h.own.hh⟩, h.nil, fun t' hn => ?_, h.pb, h.qb, h.mbb, Nat.le_trans h.bh gs.size, h.pq, h.pm, h.qm, h.n64, h.b1, h.b64,
    fun t' => ?_, h.lh, h.ks, h.cs, h.np, h.nq, h.nm, fun t' q e => h.nc t' q (cvn _ _ e), h.nh, fun i hi => Nat.lt_of_lt_of_le (h.nlt i hi) gs.size⟩, frN_grown gs (fun i hi => ⟨h.nlt i hi, fun e => h.nq (by rw [← Option.some.inj e]; exact hi)⟩)⟩
  · by_cases e : t' = t
    · subst e; rw [up_same, up_same]; exact keep ho.tl
    · rw [up_other _ _ e, up_other _ _ e]; exact keep (h.own.c t')
  · rw [up_other _ _ (by omega)]; exact h.cnil t' hn
  · by_cases e : t' = t
    · subst e; rw [up_same]; have := h.lc t'; rw [hc] at this; simp only [List.length_cons] at this; omega
    · rw [up_other _ _ e]; exact h.lc t'
def nextV (n : Nat) (C : Nat → List Int) (t : Int) : Option Int := if inB n t = true then (C t.toNat).head? else none
def nextC (n : Nat) (C : Nat → List Int) (t : Int) : Nat → List Int := if inB n t = true then up C t.toNat (C t.toNat).tail else C
def outW : Option Int → Value
  | some x => .tuple #[.int .i64 x, .bool true]
  | none => .tuple #[.int .i64 0, .bool false]
theorem mnext_nil (t : Int) (w : World) : Calls Try.prog 26 #[.pointer none, .int .i64 t] w fun e w' => e = .returned (.tuple #[.int .i64 0, .bool false]) ∧ w = w' := by
  go_enter Try.func26, Try.ntmps26
  go_wp2_with (go_at_call 31; refine (mwaits_nil _ _).mono ?_; rintro e w' ⟨rfl, rfl⟩)
  go_ret2
  exact ⟨rfl, rfl⟩
set_option maxRecDepth 100000 in
set_option maxHeartbeats 1000000 in
theorem mnext_no {N : Nat → Prop} {w : World} {A : Mb} {K : Nat → Nat} {cnt : Nat} {CV : Nat → Value} {C : Nat → List Int} {HV : Int → Int → Value} {H : Int → Int → List Int} (h : Ml N w A K cnt CV C HV H) {t : Int} (ht : waitsV A.n C t = 0) :
    Calls Try.prog 26 #[.pointer (some ⟨A.p, 0, none⟩), .int .i64 t] w fun e w' => e = .returned (.tuple #[.int .i64 0, .bool false]) ∧ w = w' := by
  have HW := Lib.hid (mwaits_at h t)
  rw [ht] at HW
  clear h ht
  go_enter Try.func26, Try.ntmps26
  go_wp2_with (go_at_call 31; refine HW.out.mono ?_; rintro e w' ⟨rfl, rfl⟩)
  go_ret2
  exact ⟨rfl, rfl⟩
set_option maxRecDepth 100000 in
set_option maxHeartbeats 2000000 in
theorem mnext_some {N : Nat → Prop} {w : World} {A : Mb} {K : Nat → Nat} {cnt : Nat} {CV : Nat → Value} {C : Nat → List Int} {HV : Int → Int → Value} {H : Int → Int → List Int} (h : Ml N w A K cnt CV C HV H) {t : Nat} (ht : t < A.n) {x : Int} {xs : List Int} (hc : C t = x :: xs) :
    Calls Try.prog 26 #[.pointer (some ⟨A.p, 0, none⟩), .int .i64 t] w fun e w' => e = .returned (.tuple #[.int .i64 x, .bool true]) ∧ Mail N w' A K cnt (up C t xs) H ∧ FrN N w w' := by
  have HW := Lib.hid (mwaits_at h (t : Int))
  have hin : inB A.n (t : Int) = true := (inB_iff _ _).2 ⟨by omega, by omega⟩
  have hwv : waitsV A.n C (t : Int) = xs.length + 1 := by unfold waitsV; rw [hin, if_pos rfl, Int.toNat_natCast, hc]; rfl
  rw [hwv] at HW
  obtain ⟨A1, n1, c1, hv, hpos, g, o, hA1, hcx⟩ : ∃ A1 n1 c1, CV t = .slice A1 n1 c1 ∧ 1 ≤ n1 ∧ ∃ g o, A1 = some ⟨g, o, none⟩ ∧ w.cell? ⟨g, o, none⟩ = some (.int .i64 x) := by
    have ho := (h.own.c t).rd
    rw [hc] at ho
    rcases ho with ⟨_, e⟩ | ⟨g, o, cap, e, _, _, hx⟩
    · cases e
    · exact ⟨_, _, _, e, by simp, g, o, rfl, by have := hx 0 (by simp); rwa [Nat.add_zero] at this⟩
  have hgq : g ≠ A.cq := fun e => (h.pne t).2.1 (by rw [hv, hA1, e]; rfl)
  have gd : w.grownBy w.drew none := grown_drew1 (grown_refl w none)
  have HD := Lib.hid (h.grown gd)
  have HX : Hid (Mail N (w.drew.setCell ⟨A.cq, t, none⟩ (.slice (tlA A1 c1) (n1 - 1) (c1 - 1))) A K cnt (up C t xs) H ∧ FrN N w (w.drew.setCell ⟨A.cq, t, none⟩ (.slice (tlA A1 c1) (n1 - 1) (c1 - 1)))) := Lib.hid (by
    obtain ⟨k1, k2⟩ := (h.grown gd).next ht hv hc
    exact ⟨⟨_, _, k1⟩, (frN_grown gd (fun i hi => ⟨h.nlt i hi, by simp⟩)).trans k2⟩)
  have cc1 := h.c1
  have ck := h.cv.c t ht
  have z := h.cv.fz
  have htl := fun W => tl_run A1 n1 c1 hpos W
  have hti : (t : Int) < A.n := by omega
  have hp1 : (0 : Int) < n1 := by omega
  have hw0 : (((xs.length + 1 : Nat) : Int) == 0) = false := by rw [beq_eq_false_iff_ne]; omega
  rw [hv] at ck
  subst hA1
  clear h hc hin hwv hv hgq HD gd ht hpos
  generalize xs.length + 1 = m at *
  generalize hT : Value.slice (tlA (some ⟨g, o, none⟩) c1) (n1 - 1) (c1 - 1) = tl at *
  obtain ⟨At, nt, ct, hT2⟩ : ∃ At nt ct, tl = .slice At nt ct := ⟨_, _, _, hT.symm⟩
  subst hT2
  clear hT
  go_enter Try.func26, Try.ntmps26
  go_wp2_with (go_at_call 31; refine HW.out.mono ?_; rintro e w' ⟨rfl, rfl⟩)
  go_region
  go_wp2
  go_ret2
  exact ⟨rfl, HX.out⟩
end Go.Proofs.Ytldpljfanlhooaa
