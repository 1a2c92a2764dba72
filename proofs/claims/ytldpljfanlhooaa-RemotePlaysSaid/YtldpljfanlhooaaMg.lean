/- How many addresses are under way; a mail's calls as the laws meet them; the law's awake; RemoteNil. -/
import Derived.Test.YtldpljfanlhooaaMf
namespace Go.Proofs.Ytldpljfanlhooaa
open Go.RowKit
open Is

/-! ### sums -/
def sumN (g : Nat → Nat) : Nat → Nat
  | 0 => 0
  | n + 1 => sumN g n + g n
theorem sumN_congr {g g' : Nat → Nat} : ∀ {n : Nat}, (∀ i, i < n → g i = g' i) → sumN g n = sumN g' n
  | 0, _ => rfl
  | n + 1, h => by simp only [sumN]; rw [sumN_congr (n := n) (fun i hi => h i (by omega)), h n (by omega)]
theorem sumN_one {g g' : Nat → Nat} {k : Nat} (hs : ∀ i, i ≠ k → g' i = g i) : ∀ {n : Nat}, k < n → sumN g' n + g k = sumN g n + g' k
  | 0, h => by omega
  | n + 1, h => by
    simp only [sumN]
    by_cases e : k = n
    · subst e
      have := sumN_congr (g := g') (g' := g) (n := k) (fun i hi => hs i (by omega))
      omega
    · have := sumN_one hs (n := n) (by omega)
      have := hs n (fun x => e x.symm)
      omega
def tot (n : Nat) (C : Nat → List Int) (H : Int → Int → List Int) : Nat := sumN (fun t => (C t).length + sumN (fun j => (H t j).length) n) n
theorem hrow_sum (H : Int → Int → List Int) (t : Int) : ∀ k, (hrow H t k).length = sumN (fun j => (H t j).length) k
  | 0 => rfl
  | k + 1 => by simp only [hrow, sumN, List.length_append]; rw [hrow_sum H t k]
theorem heldN_sum (H : Int → Int → List Int) (t : Int) : ∀ k, heldN H t k = sumN (fun j => (H t j).length) k
  | 0 => rfl
  | k + 1 => by simp only [heldN, sumN]; rw [heldN_sum H t k]
theorem allL_sum (n : Nat) (C : Nat → List Int) (H : Int → Int → List Int) : ∀ k, (allL n C H k).length = sumN (fun t => (C t).length + sumN (fun j => (H t j).length) n) k
  | 0 => rfl
  | k + 1 => by simp only [allL, sumN, List.length_append]; rw [allL_sum n C H k, hrow_sum]
theorem allL_tot (n : Nat) (C : Nat → List Int) (H : Int → Int → List Int) : (allL n C H n).length = tot n C H := allL_sum n C H n
theorem tot_C {n t : Nat} (ht : t < n) (C : Nat → List Int) (H : Int → Int → List Int) (l : List Int) : tot n (up C t l) H + (C t).length = tot n C H + l.length := by
  have h1 := sumN_one (g := fun t => (C t).length + sumN (fun j => (H t j).length) n) (g' := fun i => (up C t l i).length + sumN (fun j => (H i j).length) n) (k := t) (fun i hi => by
    show (up C t l i).length + _ = (C i).length + _
    rw [up_other _ _ hi]) ht
  have h2 : sumN (fun i => (up C t l i).length + sumN (fun j => (H i j).length) n) n + ((C t).length + sumN (fun j => (H t j).length) n) = sumN (fun t => (C t).length + sumN (fun j => (H t j).length) n) n + ((up C t l t).length + sumN (fun j => (H t j).length) n) := h1
  rw [up_same] at h2
  unfold tot
  omega
theorem tot_H {n f t : Nat} (hf : f < n) (ht : t < n) (C : Nat → List Int) (H : Int → Int → List Int) (l : List Int) : tot n C (up2 H f t l) + (H f t).length = tot n C H + l.length := by
  have h1 := sumN_one (g := fun j => (H f j).length) (g' := fun j => (up2 H f t l f j).length) (k := t) (fun i hi => by
    show (up2 H f t l f i).length = (H f i).length
    rw [up2_other _ _ (by omega)]) ht
  have h2 := sumN_one (g := fun i => (C i).length + sumN (fun j => (H i j).length) n) (g' := fun i => (C i).length + sumN (fun j => (up2 H f t l i j).length) n) (k := f) (fun i hi => by
    show (C i).length + sumN (fun j => (up2 H f t l i j).length) n = (C i).length + sumN (fun j => (H i j).length) n
    rw [sumN_congr (g := fun j => (up2 H f t l i j).length) (g' := fun j => (H i j).length) (fun j _ => by show (up2 H f t l i j).length = _; rw [up2_other _ _ (by omega)])]) hf
  have h3 : sumN (fun j => (up2 H f t l f j).length) n + (H f t).length = sumN (fun j => (H f j).length) n + (up2 H f t l f t).length := h1
  have h4 : tot n C (up2 H f t l) + ((C f).length + sumN (fun j => (H f j).length) n) = tot n C H + ((C f).length + sumN (fun j => (up2 H f t l f j).length) n) := h2
  rw [up2_same] at h3
  omega
theorem tot_move {n t : Nat} {f : Int} (ht : t < n) (C : Nat → List Int) (H : Int → Int → List Int) (hn : ¬ (0 ≤ f ∧ f < n) → H f t = []) : tot n (up C t (C t ++ H f t)) (up2 H f t []) = tot n C H := by
  by_cases h : 0 ≤ f ∧ f < n
  · obtain ⟨f0, rfl⟩ : ∃ f0 : Nat, f = f0 := ⟨f.toNat, by omega⟩
    have h1 := tot_C ht C (up2 H f0 t []) (C t ++ H f0 t)
    have h2 := tot_H (f := f0) (by omega) ht C H []
    rw [List.length_append] at h1
    simp only [List.length_nil] at h2
    omega
  · have e := hn h
    have e1 : up C t (C t ++ H f t) = C := by
      funext i
      by_cases hi : i = t
      · subst hi; rw [up_same, e, List.append_nil]
      · rw [up_other _ _ hi]
    have e2 : up2 H f t [] = H := by
      funext f' t'
      by_cases hi : f' = f ∧ t' = t
      · rw [hi.1, hi.2, up2_same, e]
      · rw [up2_other _ _ hi]
    rw [e1, e2]
theorem tot_post {n b : Nat} {f t : Int} (hok : okB n f t = true) (C : Nat → List Int) (H : Int → Int → List Int) (a : Int) : tot n (postC b C H f t a) (postH b H f t a) = tot n C H + 1 := by
  obtain ⟨h0, h1, h2, h3, _⟩ := (okB_iff _ _ _).1 hok
  obtain ⟨f0, rfl⟩ : ∃ f0 : Nat, f = f0 := ⟨f.toNat, by omega⟩
  obtain ⟨t0, rfl⟩ : ∃ t0 : Nat, t = t0 := ⟨t.toNat, by omega⟩
  have k1 := tot_H (n := n) (f := f0) (t := t0) (by omega) (by omega) C H (H f0 t0 ++ [a])
  rw [List.length_append, List.length_singleton] at k1
  unfold postC postH
  split
  · rw [Int.toNat_natCast]
    have k2 := tot_move (n := n) (f := (f0 : Int)) (t := t0) (by omega) C (up2 H f0 t0 (H f0 t0 ++ [a])) (fun h => absurd ⟨h0, h1⟩ h)
    have e : up2 (up2 H f0 t0 (H f0 t0 ++ [a])) f0 t0 [] = up2 H f0 t0 [] := by
      funext f' t'
      unfold up2
      split <;> rfl
    rw [up2_same, e] at k2
    rw [k2]
    omega
  · omega
theorem tot_next {n t : Nat} (ht : t < n) {C : Nat → List Int} {x : Int} {xs : List Int} (hc : C t = x :: xs) (H : Int → Int → List Int) : tot n (up C t xs) H + 1 = tot n C H := by
  have := tot_C ht C H xs
  rw [hc] at this
  simp only [List.length_cons] at this
  omega

/-! ### as the laws meet it -/
/-- What is held between threads that there are not is nothing; of the others it is less than a batch. -/
structure Held (n b : Nat) (H : Int → Int → List Int) : Prop where
  nil : ∀ f t : Int, ¬ (0 ≤ f ∧ f < n ∧ 0 ≤ t ∧ t < n ∧ f ≠ t) → H f t = []
  lt : ∀ f t, (H f t).length < b
theorem held_nil (n b : Nat) (hb : 1 ≤ b) : Held n b (fun _ _ => []) := ⟨fun _ _ _ => rfl, fun _ _ => by simp only [List.length_nil]; omega⟩
theorem Held.up {n b : Nat} {H : Int → Int → List Int} (h : Held n b H) (hb : 1 ≤ b) (f t : Int) : Held n b (up2 H f t []) :=
  ⟨fun f' t' hn => by unfold up2; split; rfl; exact h.nil f' t' hn, fun f' t' => by unfold up2; split; exact hb; exact h.lt f' t'⟩
theorem Held.post {n b : Nat} {H : Int → Int → List Int} (h : Held n b H) (hb : 1 ≤ b) {f t : Int} (hok : okB n f t = true) (a : Int) : Held n b (postH b H f t a) := by
  unfold postH
  split
  · exact h.up hb f t
  · rename_i hne
    refine ⟨fun f' t' hn => ?_, fun f' t' => ?_⟩
    · by_cases e : f' = f ∧ t' = t
      · obtain ⟨rfl, rfl⟩ := e
        exact absurd ((okB_iff _ _ _).1 hok) hn
      · rw [up2_other _ _ e]; exact h.nil f' t' hn
    · by_cases e : f' = f ∧ t' = t
      · obtain ⟨rfl, rfl⟩ := e
        rw [up2_same, List.length_append, List.length_singleton]
        have := h.lt f' t'
        omega
      · rw [up2_other _ _ e]; exact h.lt f' t'
theorem Held.send {n b : Nat} {H : Int → Int → List Int} (h : Held n b H) (hb : 1 ≤ b) (f : Int) (k : Nat) : Held n b (sendH H f k) :=
  ⟨fun f' t' hn => by unfold sendH; split; rfl; exact h.nil f' t' hn, fun f' t' => by unfold sendH; split; exact hb; exact h.lt f' t'⟩
theorem tot_send {n b : Nat} {f : Int} (C : Nat → List Int) {H : Int → Int → List Int} (h : Held n b H) : ∀ k, k ≤ n → tot n (sendC C H f k) (sendH H f k) = tot n C H
  | 0, _ => by
    have e2 : sendC C H f 0 = C := by funext t; unfold sendC; rw [if_neg (by omega)]
    have e3 : sendH H f 0 = H := by funext f' t'; unfold sendH; rw [if_neg (by omega)]
    rw [e2, e3]
  | k + 1, hk => by
    have := tot_move (n := n) (f := f) (t := k) (by omega) (sendC C H f k) (sendH H f k) (fun hn => by rw [sendH_at]; exact h.nil f k (fun x => hn ⟨x.1, x.2.1⟩))
    rw [sendC_succ, sendH_succ] at this
    rw [this]
    exact tot_send C h k (by omega)
/-- A mail as the laws carry it: K bounds what each thread was sent. -/
def MlK (N : Nat → Prop) (w : World) (A : Mb) (k : Nat) (C : Nat → List Int) (H : Int → Int → List Int) : Prop := Mail N w A (fun _ => k) k C H ∧ Held A.n A.b H ∧ 1 ≤ A.b
theorem Mail.more {N : Nat → Prop} {w : World} {A : Mb} {K K' : Nat → Nat} {cnt : Nat} {C : Nat → List Int} {H : Int → Int → List Int} (h : Mail N w A K cnt C H) (hk : ∀ t, K t ≤ K' t) (h1 : ∀ t, K' t ≤ 150) {cnt' : Nat} (hc : cnt ≤ cnt') (hc2 : cnt' ≤ 1000000) : Mail N w A K' cnt' C H := by
  obtain ⟨CV, HV, h⟩ := h
  have h := h.more hk h1
  obtain ⟨m1, D, m2, m3⟩ := h.mp
  exact ⟨CV, HV, h.c0, h.c1, h.c2, h.cv, ⟨m1, D, m2.mono hc, m3⟩, h.own, h.nil, h.cnil, h.pb, h.qb, h.mbb, h.bh, h.pq, h.pm, h.qm, h.n64, h.b1, h.b64, h.lc, h.lh, h.ks, hc2, h.np, h.nq, h.nm, h.nc, h.nh, h.nlt⟩
theorem MlK.kept {N N' : Nat → Prop} {w w' : World} {r : Option Nat} {A : Mb} {k : Nat} {C : Nat → List Int} {H : Int → Int → List Int} (h : MlK N w A k C H) (hg : w.grownBy w' r)
    (hr : ∀ q, r = some q → N q ∨ w.heap.size ≤ q) (hN : ∀ i, N' i → N i ∨ (w.heap.size ≤ i ∧ i < w'.heap.size)) : MlK N' w' A k C H := by
  obtain ⟨⟨CV, HV, hm⟩, h2⟩ := h
  exact ⟨⟨CV, HV, hm.kept hg hr hN⟩, h2⟩
theorem MlK.grown {N : Nat → Prop} {w w' : World} {A : Mb} {k : Nat} {C : Nat → List Int} {H : Int → Int → List Int} (h : MlK N w A k C H) (hg : w.grownBy w' none) : MlK N w' A k C H :=
  h.kept hg (fun q e => by cases e) (fun i hi => .inl hi)
theorem MlK.nlt {N : Nat → Prop} {w : World} {A : Mb} {k : Nat} {C : Nat → List Int} {H : Int → Int → List Int} (h : MlK N w A k C H) : ∀ i, N i → i < w.heap.size := by obtain ⟨⟨CV, HV, hm⟩, h2⟩ := h; exact hm.nlt
theorem post_k {N : Nat → Prop} {w : World} {A : Mb} {k : Nat} {C : Nat → List Int} {H : Int → Int → List Int} (h : MlK N w A k C H) (hk : k < 149) {f t : Int} (hf : WF f) (ht : WF t) (a : Int) :
    Calls Try.prog 22 #[.pointer (some ⟨A.p, 0, none⟩), .int .i64 f, .int .i64 t, .int .i64 a] w fun e w' =>
      e = .returned (.int .i64 (if okB A.n f t = true then 0 else 1)) ∧ MlK N w' A (k + 1) (if okB A.n f t = true then postC A.b C H f t a else C) (if okB A.n f t = true then postH A.b H f t a else H) ∧ FrN N w w' := by
  obtain ⟨⟨CV, HV, hm⟩, h2, h3⟩ := h
  cases hok : okB A.n f t with
  | false =>
    refine (mpost_no hm hok a).mono ?_
    rintro e w' ⟨he, rfl⟩
    exact ⟨by rw [he]; rfl, ⟨(show Mail N w A (fun _ => k) k C H from ⟨CV, HV, hm⟩).more (fun _ => by omega) (fun _ => by omega) (by omega) (by omega), h2, h3⟩, frN_refl _ _⟩
  | true =>
    refine (mpost_ok hm hf ht hok (h2.lt f t) (by omega) (fun _ => by omega) a).mono ?_
    rintro e w' ⟨he, hp, hfr⟩
    refine ⟨by rw [he]; rfl, ⟨hp.more (fun i => ?_) (fun _ => by omega) (Nat.le_refl _) (by omega), h2.post h3 hok a, h3⟩, hfr⟩
    show upK (fun _ => k) t i ≤ k + 1
    unfold upK up
    simp only []
    split <;> omega
theorem send_k {N : Nat → Prop} {w : World} {A : Mb} {k : Nat} {C : Nat → List Int} {H : Int → Int → List Int} (h : MlK N w A k C H) (hk : k < 149) {f : Int} (hf : WF f) :
    Calls Try.prog 24 #[.pointer (some ⟨A.p, 0, none⟩), .int .i64 f] w fun e w' => e = .returned (.int .i64 (heldN H f A.n : Nat)) ∧ MlK N w' A (k + 1) (sendC C H f A.n) (sendH H f A.n) ∧ FrN N w w' := by
  obtain ⟨hm, h2, h3⟩ := h
  refine (msend_at hm hf (fun _ => by omega)).mono ?_
  rintro e w' ⟨he, hp, hfr⟩
  refine ⟨he, ⟨hp.more (fun i => ?_) (fun _ => by omega) (by omega) (by omega), h2.send h3 f A.n, h3⟩, hfr⟩
  show sendK (fun _ => k) A.n i ≤ k + 1
  unfold sendK
  simp only []
  split <;> omega
theorem next_k {N : Nat → Prop} {w : World} {A : Mb} {k : Nat} {C : Nat → List Int} {H : Int → Int → List Int} (h : MlK N w A k C H) (t : Int) :
    Calls Try.prog 26 #[.pointer (some ⟨A.p, 0, none⟩), .int .i64 t] w fun e w' => e = .returned (outW (nextV A.n C t)) ∧ MlK N w' A k (nextC A.n C t) H ∧ FrN N w w' := by
  obtain ⟨⟨CV, HV, hm⟩, h2⟩ := h
  cases hb : inB A.n t with
  | false =>
    have hv : waitsV A.n C t = 0 := by unfold waitsV; rw [hb]; rfl
    have e1 : nextV A.n C t = none := by unfold nextV; rw [hb]; rfl
    have e2 : nextC A.n C t = C := by unfold nextC; rw [hb]; rfl
    rw [e1, e2]
    refine (mnext_no hm hv).mono ?_
    rintro e w' ⟨he, rfl⟩
    exact ⟨he, ⟨⟨CV, HV, hm⟩, h2⟩, frN_refl _ _⟩
  | true =>
    obtain ⟨h0, h1⟩ := (inB_iff _ _).1 hb
    obtain ⟨t0, rfl⟩ : ∃ t0 : Nat, t = t0 := ⟨t.toNat, by omega⟩
    cases hc : C t0 with
    | nil =>
      have hv : waitsV A.n C t0 = 0 := by unfold waitsV; rw [hb, if_pos rfl, Int.toNat_natCast, hc]; rfl
      have e1 : nextV A.n C t0 = none := by unfold nextV; rw [hb, if_pos rfl, Int.toNat_natCast, hc]; rfl
      have e2 : nextC A.n C t0 = C := by
        unfold nextC; rw [hb, if_pos rfl, Int.toNat_natCast, hc]
        funext i
        by_cases hi : i = t0
        · subst hi; rw [up_same, hc]; rfl
        · rw [up_other _ _ hi]
      rw [e1, e2]
      refine (mnext_no hm hv).mono ?_
      rintro e w' ⟨he, rfl⟩
      exact ⟨he, ⟨⟨CV, HV, hm⟩, h2⟩, frN_refl _ _⟩
    | cons x xs =>
      have e1 : nextV A.n C t0 = some x := by unfold nextV; rw [hb, if_pos rfl, Int.toNat_natCast, hc]; rfl
      have e2 : nextC A.n C t0 = up C t0 xs := by unfold nextC; rw [hb, if_pos rfl, Int.toNat_natCast, hc]; rfl
      rw [e1, e2]
      refine (mnext_some hm (by omega) hc).mono ?_
      rintro e w' ⟨he, h3, h4⟩
      exact ⟨he, ⟨h3, h2⟩, h4⟩
theorem waits_k {N : Nat → Prop} {w : World} {A : Mb} {k : Nat} {C : Nat → List Int} {H : Int → Int → List Int} (h : MlK N w A k C H) (t : Int) :
    Calls Try.prog 31 #[.pointer (some ⟨A.p, 0, none⟩), .int .i64 t] w fun e w' => e = .returned (.int .i64 (waitsV A.n C t : Nat)) ∧ w = w' := by
  obtain ⟨⟨CV, HV, hm⟩, h2⟩ := h
  exact mwaits_at hm t
theorem held_k {N : Nat → Prop} {w : World} {A : Mb} {k : Nat} {C : Nat → List Int} {H : Int → Int → List Int} (h : MlK N w A k C H) {t : Int} (ht : WF t) :
    Calls Try.prog 32 #[.pointer (some ⟨A.p, 0, none⟩), .int .i64 t] w fun e w' => e = .returned (.int .i64 (heldN H t A.n : Nat)) ∧ w = w' := by
  obtain ⟨⟨CV, HV, hm⟩, h2⟩ := h
  exact mheld_at hm t ht
theorem all_k {N : Nat → Prop} {w : World} {A : Mb} {k : Nat} {C : Nat → List Int} {H : Int → Int → List Int} (h : MlK N w A k C H) :
    Calls Try.prog 30 #[.pointer (some ⟨A.p, 0, none⟩)] w fun e w' => NewL w w' (allL A.n C H A.n) e := by
  obtain ⟨⟨CV, HV, hm⟩, h2⟩ := h
  exact mall_at hm
theorem thr_k {N : Nat → Prop} {w : World} {A : Mb} {k : Nat} {C : Nat → List Int} {H : Int → Int → List Int} (h : MlK N w A k C H) :
    Calls Try.prog 33 #[.pointer (some ⟨A.p, 0, none⟩)] w fun e w' => e = .returned (.int .i64 A.n) ∧ w = w' := by
  obtain ⟨⟨CV, HV, hm⟩, h2⟩ := h
  exact mthr_core hm.c1
theorem new_k (k b : Int) (w : World) : Calls Try.prog 20 #[.int .i64 k, .int .i64 b] w fun e w' => ∃ A : Mb, e = .returned (.pointer (some ⟨A.p, 0, none⟩)) ∧ A.n = thrV k ∧ A.b = batV b ∧ MlK (fun i => i < w.heap.size) w' A 0 (fun _ => []) (fun _ _ => []) ∧ w.grownBy w' none := by
  refine (mnew_at k b w).mono ?_
  rintro e w' ⟨A, he, h1, h2, h3, h4, h5⟩
  have hb := (batV_in b).1
  rw [← h2] at hb
  exact ⟨A, he, h1, h2, ⟨h4, held_nil _ _ hb, hb⟩, h5⟩

/-! ### awake, RemoteNil -/
set_option maxRecDepth 100000 in
set_option maxHeartbeats 1000000 in
theorem awake12_at (w : World) : Calls Try.prog 29 #[] w fun e w' => e = .returned (.bool true) ∧ w.grownBy w' none := by
  go_enter Try.func29, Try.ntmps29
  go_wp2_with fail
  refine (new_k 2 2 w).mono ?_
  rintro e w1 ⟨⟨p, cq, mb, base, n, b⟩, rfl, hn, hb, hm, hg⟩
  have hn : n = 2 := hn
  have hb : b = 2 := hb
  subst hn hb
  have HM := Lib.hid hm
  have HG := Lib.hid hg
  clear hm hg
  have w0 : WF 0 := ⟨by decide, by decide⟩
  have w1' : WF 1 := ⟨by decide, by decide⟩
  have HW := Lib.hid (And.intro w0 w1')
  clear w0 w1'
  go_wp2_with fail
  refine (post_k HM.out (by omega) HW.out.1 HW.out.2 16).mono ?_
  rintro e w2 ⟨rfl, hm, hf⟩
  have HM2 : Hid (MlK (fun i => i < w.heap.size) w2 ⟨p, cq, mb, base, 2, 2⟩ 1 (fun _ => []) (up2 (fun _ _ => []) 0 1 [16])) := Lib.hid hm
  have HF2 := Lib.hid hf
  clear hm hf
  rw [show (if okB (Mb.mk p cq mb base 2 2).n 0 1 = true then (0 : Int) else 1) = 0 from rfl]
  go_wp2_with fail
  refine (waits_k HM2.out 1).mono ?_
  rintro e w3 ⟨rfl, rfl⟩
  rw [show ((waitsV (Mb.mk p cq mb base 2 2).n (fun _ => []) 1 : Nat) : Int) = 0 from rfl]
  go_wp2_with fail
  refine (held_k HM2.out HW.out.1).mono ?_
  rintro e w3 ⟨rfl, rfl⟩
  rw [show ((heldN (up2 (fun _ _ => []) 0 1 [16]) 0 (Mb.mk p cq mb base 2 2).n : Nat) : Int) = 1 from rfl]
  go_wp2_with fail
  refine (post_k HM2.out (by omega) HW.out.1 HW.out.2 32).mono ?_
  rintro e w4 ⟨rfl, hm, hf⟩
  have HM3 : Hid (MlK (fun i => i < w.heap.size) w4 ⟨p, cq, mb, base, 2, 2⟩ 2 (up (fun _ => []) 1 [16, 32]) (up2 (up2 (fun _ _ => []) 0 1 [16]) 0 1 [])) := Lib.hid hm
  have HF3 := Lib.hid (HF2.out.trans hf)
  clear hm hf
  rw [show (if okB (Mb.mk p cq mb base 2 2).n 0 1 = true then (0 : Int) else 1) = 0 from rfl]
  go_wp2_with fail
  refine (waits_k HM3.out 1).mono ?_
  rintro e w5 ⟨rfl, rfl⟩
  rw [show ((waitsV (Mb.mk p cq mb base 2 2).n (up (fun _ => []) 1 [16, 32]) 1 : Nat) : Int) = 2 from rfl]
  go_wp2_with fail
  refine (held_k HM3.out HW.out.1).mono ?_
  rintro e w5 ⟨rfl, rfl⟩
  rw [show ((heldN (up2 (up2 (fun _ _ => []) 0 1 [16]) 0 1 []) 0 (Mb.mk p cq mb base 2 2).n : Nat) : Int) = 0 from rfl]
  go_wp2
  go_ret
  refine ⟨rfl, grown_of_below ?_⟩
  have h1 := grown_below HG.out
  have h2 := HF3.out.below (s := w.heap.size) (fun i hi => hi)
  exact ⟨h2.os.trans h1.os, h2.tape.trans h1.tape, h2.output.trans h1.output, Nat.le_trans h1.size h2.size, fun i hi => (h2.block i hi).trans (h1.block i hi)⟩
set_option maxRecDepth 100000 in
set_option maxHeartbeats 1000000 in
theorem remoteNil_walk (t a : Int) (w : World) : Calls Try.prog 8 #[.int .i64 t, .int .i64 a] w fun e w' => e = .returned (.bool true) ∧ w.grownBy w' none := by
  go_enter Try.func8, Try.ntmps8
  go_wp2_with (first
    | (go_at_call 26; refine (mnext_nil _ _).mono ?_; rintro e w' ⟨rfl, rfl⟩)
    | (go_at_call 22; refine (mpost_nil _ _ _ _).mono ?_; rintro e w' ⟨rfl, rfl⟩)
    | (go_at_call 24; refine (msend_nil _ _).mono ?_; rintro e w' ⟨rfl, rfl⟩)
    | (go_at_call 31; refine (mwaits_nil _ _).mono ?_; rintro e w' ⟨rfl, rfl⟩)
    | (go_at_call 32; refine (mheld_nil _ _).mono ?_; rintro e w' ⟨rfl, rfl⟩)
    | (go_at_call 33; refine (mthr_nil _).mono ?_; rintro e w' ⟨rfl, rfl⟩)
    | (go_at_call 30; refine (mall_nil _).mono ?_; rintro e w' ⟨rfl, rfl⟩))
  refine (awake12_at w).mono ?_
  rintro e w2 ⟨rfl, hg⟩
  have HG2 := Lib.hid hg
  clear hg
  go_wp2
  go_ret
  exact ⟨rfl, HG2.out⟩
end Go.Proofs.Ytldpljfanlhooaa
