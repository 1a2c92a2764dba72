/- The code's mail and the document's, in numbers. -/
import Derived.Test.YtldpljfanlhooaaNe
namespace Go.Proofs.Ytldpljfanlhooaa
open Go.RowKit
open Is

structure Br (n : Nat) (L : List It) (K : Nat) (C : Nat → List Int) (H : Int → Int → List Int) : Prop where
  h : ∀ f t : Int, H f t = hfL L f t
  c : ∀ t : Nat, C t = cmL L t K
  r : ∀ x ∈ L, 0 ≤ x.f ∧ x.f < n ∧ 0 ≤ x.t ∧ x.t < n ∧ 0 ≤ x.c ∧ x.c ≤ K
  u : ∀ k : Nat, 1 ≤ k → (L.filter (fun x => x.c == (k : Int))).length ≤ 1
theorem pB_iff (f t : Int) (x : It) : pB f t x = true ↔ x.f = f ∧ x.t = t ∧ x.c = 0 := by simp [pB]
theorem comeL_app (A B : List It) (t k : Nat) : comeL (A ++ B) t k = comeL A t k ++ comeL B t k := by simp [comeL]
theorem hfL_app (A B : List It) (f t : Int) : hfL (A ++ B) f t = hfL A f t ++ hfL B f t := by simp [hfL]
theorem comeL_cons (x : It) (l : List It) (t k : Nat) : comeL (x :: l) t k = (if x.t = t ∧ x.c = k then [x.a] else []) ++ comeL l t k := by
  unfold comeL
  rw [List.filter_cons]
  by_cases h : x.t = t ∧ x.c = k
  · rw [if_pos h, if_pos (by simp [h.1, h.2])]; rfl
  · rw [if_neg h, if_neg (by simpa using h)]; rfl
theorem hfL_cons (x : It) (l : List It) (f t : Int) : hfL (x :: l) f t = (if pB f t x = true then [x.a] else []) ++ hfL l f t := by
  unfold hfL
  rw [List.filter_cons]
  split <;> rfl
theorem br_nil (n : Nat) : Br n [] 0 (fun _ => []) (fun _ _ => []) := ⟨fun _ _ => rfl, fun _ => rfl, fun x hx => by simp at hx, fun _ _ => by simp⟩
theorem cmL_congr {L L' : List It} {t : Nat} : ∀ {m : Nat}, (∀ k, 1 ≤ k → k ≤ m → comeL L t k = comeL L' t k) → cmL L t m = cmL L' t m
  | 0, _ => rfl
  | m + 1, h => by
    simp only [cmL]
    rw [cmL_congr (m := m) (fun k h1 h2 => h k h1 (by omega)), h (m + 1) (by omega) (Nat.le_refl _)]
theorem Br.add {n : Nat} {L : List It} {K : Nat} {C : Nat → List Int} {H : Int → Int → List Int} (h : Br n L K C H) {f t : Int} (hf : 0 ≤ f ∧ f < n) (ht : 0 ≤ t ∧ t < n) (a : Int) : Br n (L ++ [⟨f, t, a, 0⟩]) K C (up2 H f t (H f t ++ [a])) where
  h := fun f' t' => by
    rw [hfL_app, hfL_cons]
    by_cases e : f' = f ∧ t' = t
    · obtain ⟨rfl, rfl⟩ := e
      rw [up2_same, if_pos ((pB_iff f' t' ⟨f', t', a, 0⟩).2 ⟨rfl, rfl, rfl⟩), h.h]; rfl
    · rw [up2_other _ _ e, if_neg (fun x => e (by have := (pB_iff _ _ _).1 x; exact ⟨this.1.symm, this.2.1.symm⟩)), h.h]
      exact (List.append_nil _).symm
  c := fun t' => by
    rw [h.c]
    refine cmL_congr (fun k h1 _ => ?_)
    rw [comeL_app, comeL_cons, if_neg (fun x => by have h2 : (0 : Int) = k := x.2; omega)]
    exact (List.append_nil _).symm
  r := fun x hx => by
    rcases List.mem_append.1 hx with hx | hx
    · exact h.r x hx
    · rw [List.mem_singleton] at hx
      subst hx
      exact ⟨hf.1, hf.2, ht.1, ht.2, Int.le_refl _, by show (0 : Int) ≤ K; omega⟩
  u := fun k hk => by
    have := h.u k hk
    rw [List.filter_append, List.length_append]
    have e : (List.filter (fun x : It => x.c == (k : Int)) [⟨f, t, a, 0⟩]) = [] := by
      rw [List.filter_cons, if_neg (by simp; omega)]; rfl
    rw [e]
    simpa using this
/-! ### pass -/
theorem pass_hf (f t f' t' : Int) : ∀ (L : List It) (K : Nat), hfL (passR f t L K) f' t' = if f' = f ∧ t' = t then [] else hfL L f' t'
  | [], _ => by split <;> rfl
  | x :: l, K => by
    unfold passR
    by_cases h : pB f t x = true
    · have hx := (pB_iff _ _ _).1 h
      rw [if_pos h, hfL_cons, if_neg (fun y => by have h2 : ((K + 1 : Nat) : Int) = 0 := ((pB_iff _ _ _).1 y).2.2; omega), pass_hf f t f' t' l, hfL_cons, List.nil_append]
      by_cases e : f' = f ∧ t' = t
      · rw [if_pos e, if_pos e]
      · rw [if_neg e, if_neg e, if_neg (fun y => e (by have := (pB_iff _ _ _).1 y; exact ⟨by rw [← this.1, hx.1], by rw [← this.2.1, hx.2.1]⟩)), List.nil_append]
    · rw [if_neg h, hfL_cons, pass_hf f t f' t' l, hfL_cons]
      by_cases e : f' = f ∧ t' = t
      · obtain ⟨rfl, rfl⟩ := e
        rw [if_neg h]; simp
      · rw [if_neg e, if_neg e]
theorem pass_old (f t : Int) (t' k : Nat) (hk : 1 ≤ k) : ∀ (L : List It) (K : Nat), k ≤ K → comeL (passR f t L K) t' k = comeL L t' k
  | [], _, _ => rfl
  | x :: l, K, h => by
    unfold passR
    by_cases hp : pB f t x = true
    · have hx := (pB_iff _ _ _).1 hp
      rw [if_pos hp, comeL_cons, comeL_cons, pass_old f t t' k hk l (K + 1) (by omega), if_neg (fun y => by have h2 : ((K + 1 : Nat) : Int) = k := y.2; omega), if_neg (fun y => by have h2 := y.2; rw [hx.2.2] at h2; omega)]
    · rw [if_neg hp, comeL_cons, comeL_cons, pass_old f t t' k hk l K h]
theorem come_none {L : List It} {K : Nat} (h : ∀ x ∈ L, x.c ≤ (K : Int)) (t k : Nat) (hk : K < k) : comeL L t k = [] := by
  induction L with
  | nil => rfl
  | cons x l ih =>
    rw [comeL_cons, ih (fun y hy => h y (List.mem_cons_of_mem _ hy)), if_neg (fun y => by have h1 := h x (List.mem_cons_self ..); have := y.2; omega)]
    rfl
theorem pass_new (f : Int) (t t' : Nat) : ∀ (L : List It) (K j : Nat), (∀ x ∈ L, x.c ≤ (K : Int)) → comeL (passR f t L K) t' (K + 1 + j) = if t' = t then ((hfL L f t)[j]?).toList else []
  | [], _, _, _ => by split <;> rfl
  | x :: l, K, j, h => by
    unfold passR
    have hl : ∀ y ∈ l, y.c ≤ (K : Int) := fun y hy => h y (List.mem_cons_of_mem _ hy)
    have hl1 : ∀ y ∈ l, y.c ≤ ((K + 1 : Nat) : Int) := fun y hy => by have := hl y hy; omega
    have hxc := h x (List.mem_cons_self ..)
    by_cases hp : pB f t x = true
    · have hx := (pB_iff _ _ _).1 hp
      rw [if_pos hp, comeL_cons, hfL_cons, if_pos hp, List.singleton_append]
      cases j with
      | zero =>
        rw [Nat.add_zero, pass_old f t t' (K + 1) (by omega) l (K + 1) (Nat.le_refl _), come_none hl t' (K + 1) (by omega), List.append_nil]
        by_cases e : t' = t
        · subst e
          rw [if_pos ⟨hx.2.1, rfl⟩, if_pos rfl]; rfl
        · rw [if_neg (fun y => e (by have h1 : x.t = (t' : Int) := y.1; have := hx.2.1; omega)), if_neg e]
      | succ j =>
        rw [if_neg (fun y => by have h2 : ((K + 1 : Nat) : Int) = ((K + 1 + (j + 1) : Nat) : Int) := y.2; omega), List.nil_append, show K + 1 + (j + 1) = K + 1 + 1 + j by omega, pass_new f t t' l (K + 1) j hl1]
        rfl
    · rw [if_neg hp, comeL_cons, hfL_cons, if_neg hp, List.nil_append, if_neg (fun y => by have := y.2; omega), List.nil_append, pass_new f t t' l K j hl]
theorem pass_cm (f : Int) (t t' : Nat) (L : List It) (K : Nat) (h : ∀ x ∈ L, x.c ≤ (K : Int)) : ∀ m, cmL (passR f t L K) t' (K + m) = cmL L t' K ++ if t' = t then (hfL L f t).take m else []
  | 0 => by
    rw [Nat.add_zero, cmL_congr (fun k h1 h2 => pass_old f t t' k h1 L K h2)]
    split
    · rw [List.take_zero, List.append_nil]
    · rw [List.append_nil]
  | m + 1 => by
    show cmL (passR f t L K) t' (K + m) ++ comeL (passR f t L K) t' (K + m + 1) = _
    rw [pass_cm f t t' L K h m, show K + m + 1 = K + 1 + m by omega, pass_new f t t' L K m h, List.append_assoc]
    congr 1
    by_cases e : t' = t
    · rw [if_pos e, if_pos e, if_pos e, List.take_add_one]
    · rw [if_neg e, if_neg e, if_neg e]; rfl
theorem pass_mem (f t : Int) : ∀ (L : List It) (K : Nat) (y : It), y ∈ passR f t L K → ∃ x ∈ L, y.f = x.f ∧ y.t = x.t ∧ (y.c = x.c ∨ ((K : Int) < y.c ∧ y.c ≤ K + cnt (pB f t) L))
  | [], _, y, hy => by simp [passR] at hy
  | x :: l, K, y, hy => by
    unfold passR at hy
    have hc : (cnt (pB f t) l : Int) ≤ cnt (pB f t) (x :: l) := by
      unfold cnt; rw [List.filter_cons]; split
      · rw [List.length_cons]; omega
      · omega
    by_cases hp : pB f t x = true
    · have hc2 : (cnt (pB f t) (x :: l) : Int) = cnt (pB f t) l + 1 := by unfold cnt; rw [List.filter_cons, if_pos hp, List.length_cons]; rfl
      rw [if_pos hp] at hy
      rcases List.mem_cons.1 hy with e | hy
      · subst e
        exact ⟨x, List.mem_cons_self .., rfl, rfl, .inr ⟨by show (K : Int) < ((K + 1 : Nat) : Int); omega, by show ((K + 1 : Nat) : Int) ≤ _; omega⟩⟩
      · obtain ⟨z, hz, h1, h2, h3⟩ := pass_mem f t l (K + 1) y hy
        refine ⟨z, List.mem_cons_of_mem _ hz, h1, h2, ?_⟩
        rcases h3 with h3 | h3
        · exact .inl h3
        · exact .inr (by omega)
    · rw [if_neg hp] at hy
      rcases List.mem_cons.1 hy with e | hy
      · subst e
        exact ⟨y, List.mem_cons_self .., rfl, rfl, .inl rfl⟩
      · obtain ⟨z, hz, h1, h2, h3⟩ := pass_mem f t l K y hy
        refine ⟨z, List.mem_cons_of_mem _ hz, h1, h2, ?_⟩
        rcases h3 with h3 | h3
        · exact .inl h3
        · exact .inr (by omega)
theorem pass_u (f t : Int) : ∀ (L : List It) (K : Nat), (∀ x ∈ L, x.c ≤ (K : Int)) → (∀ k : Nat, 1 ≤ k → k ≤ K → ((passR f t L K).filter (fun x => x.c == (k : Int))).length = (L.filter (fun x => x.c == (k : Int))).length) ∧ ∀ k : Nat, K < k → ((passR f t L K).filter (fun x => x.c == (k : Int))).length ≤ 1
  | [], _, _ => ⟨fun _ _ _ => rfl, fun _ _ => by simp [passR]⟩
  | x :: l, K, h => by
    have hl : ∀ y ∈ l, y.c ≤ (K : Int) := fun y hy => h y (List.mem_cons_of_mem _ hy)
    have hl1 : ∀ y ∈ l, y.c ≤ ((K + 1 : Nat) : Int) := fun y hy => by have := hl y hy; omega
    have hxc := h x (List.mem_cons_self ..)
    unfold passR
    by_cases hp : pB f t x = true
    · have hx := (pB_iff _ _ _).1 hp
      obtain ⟨i1, i2⟩ := pass_u f t l (K + 1) hl1
      rw [if_pos hp]
      refine ⟨fun k h1 h2 => ?_, fun k h1 => ?_⟩
      · rw [List.filter_cons, if_neg (by simp; omega), List.filter_cons, if_neg (by simp [hx.2.2]; omega), i1 k h1 (by omega)]
      · rw [List.filter_cons]
        by_cases e : k = K + 1
        · have h0 : (l.filter (fun x => x.c == (k : Int))).length = 0 := by
            rw [List.length_eq_zero_iff, List.filter_eq_nil_iff]
            intro y hy
            have := hl y hy
            simp
            omega
          have := i1 k (by omega) (by omega)
          split
          · rw [List.length_cons]; omega
          · omega
        · rw [if_neg (by simp; omega)]
          exact i2 k (by omega)
    · obtain ⟨i1, i2⟩ := pass_u f t l K hl
      rw [if_neg hp]
      refine ⟨fun k h1 h2 => ?_, fun k h1 => ?_⟩
      · rw [List.filter_cons, List.filter_cons]
        split
        · rw [List.length_cons, List.length_cons, i1 k h1 h2]
        · exact i1 k h1 h2
      · rw [List.filter_cons, if_neg (by simp; omega)]
        exact i2 k h1
theorem Br.pass {n : Nat} {L : List It} {K : Nat} {C : Nat → List Int} {H : Int → Int → List Int} (h : Br n L K C H) (f : Int) (t : Nat) : Br n (passR f t L K) (K + cnt (pB f t) L) (up C t (C t ++ H f t)) (up2 H f t []) where
  h := fun f' t' => by
    rw [pass_hf]
    unfold up2
    split
    · rfl
    · exact h.h f' t'
  c := fun t' => by
    have hk : ∀ x ∈ L, x.c ≤ (K : Int) := fun x hx => (h.r x hx).2.2.2.2.2
    have e : (hfL L f t).take (cnt (pB f t) L) = hfL L f t := List.take_of_length_le (by unfold hfL cnt; rw [List.length_map]; exact Nat.le_refl _)
    rw [pass_cm f t t' L K hk, e]
    by_cases e2 : t' = t
    · subst e2
      rw [up_same, if_pos rfl, h.c, h.h]
    · rw [up_other _ _ e2, if_neg e2, h.c, List.append_nil]
  r := fun y hy => by
    obtain ⟨x, hx, h1, h2, h3⟩ := pass_mem f t L K y hy
    obtain ⟨r1, r2, r3, r4, r5, r6⟩ := h.r x hx
    rw [h1, h2]
    exact ⟨r1, r2, r3, r4, by omega, by omega⟩
  u := fun k hk => by
    obtain ⟨i1, i2⟩ := pass_u f t L K (fun x hx => (h.r x hx).2.2.2.2.2)
    by_cases e : k ≤ K
    · rw [i1 k hk e]; exact h.u k hk
    · exact i2 k (by omega)
/-! ### what is counted -/
theorem waits_cm (L : List It) (t : Nat) : ∀ m : Nat, (L.filter (fun x => x.t == (t : Int) && (decide (x.c > 0) && decide (x.c ≤ (m : Int))))).length = (cmL L t m).length
  | 0 => by
    have : L.filter (fun x => x.t == (t : Int) && (decide (x.c > 0) && decide (x.c ≤ ((0 : Nat) : Int)))) = [] := by
      rw [List.filter_eq_nil_iff]; intro y _; simp
    rw [this]; rfl
  | m + 1 => by
    simp only [cmL, List.length_append]
    rw [← waits_cm L t m]
    unfold comeL
    rw [List.length_map]
    induction L with
    | nil => rfl
    | cons x l ih =>
      simp only [List.filter_cons]
      by_cases h1 : x.t = t
      · by_cases h2 : x.c > 0 ∧ x.c ≤ m
        · have b1 : (x.t == (t : Int) && (decide (x.c > 0) && decide (x.c ≤ ((m + 1 : Nat) : Int)))) = true := by simp; omega
          have b2 : (x.t == (t : Int) && (decide (x.c > 0) && decide (x.c ≤ (m : Int)))) = true := by simp; omega
          have b3 : (x.t == (t : Int) && x.c == ((m + 1 : Nat) : Int)) = false := by simp; omega
          simp only [b1, b2, b3, if_true, Bool.false_eq_true, if_false, List.length_cons]; omega
        · by_cases h3 : x.c = ((m + 1 : Nat) : Int)
          · have b1 : (x.t == (t : Int) && (decide (x.c > 0) && decide (x.c ≤ ((m + 1 : Nat) : Int)))) = true := by simp; omega
            have b2 : (x.t == (t : Int) && (decide (x.c > 0) && decide (x.c ≤ (m : Int)))) = false := by simp; omega
            have b3 : (x.t == (t : Int) && x.c == ((m + 1 : Nat) : Int)) = true := by simp; omega
            simp only [b1, b2, b3, if_true, Bool.false_eq_true, if_false, List.length_cons]; omega
          · have b1 : (x.t == (t : Int) && (decide (x.c > 0) && decide (x.c ≤ ((m + 1 : Nat) : Int)))) = false := by simp; omega
            have b2 : (x.t == (t : Int) && (decide (x.c > 0) && decide (x.c ≤ (m : Int)))) = false := by simp; omega
            have b3 : (x.t == (t : Int) && x.c == ((m + 1 : Nat) : Int)) = false := by simp; omega
            simp only [b1, b2, b3, Bool.false_eq_true, if_false]; exact ih
      · have b : (x.t == (t : Int)) = false := by simpa using h1
        simp only [b, Bool.false_and, Bool.false_eq_true, if_false]; exact ih
theorem Br.waits {n : Nat} {L : List It} {K : Nat} {C : Nat → List Int} {H : Int → Int → List Int} (h : Br n L K C H) (t : Int) : cnt (wB t) L = waitsV n C t := by
  unfold waitsV
  cases hb : inB n t with
  | false =>
    have : L.filter (wB t) = [] := by
      rw [List.filter_eq_nil_iff]
      intro y hy
      obtain ⟨_, _, r3, r4, _⟩ := h.r y hy
      have hn : ¬ (0 ≤ t ∧ t < n) := fun x => by rw [(inB_iff _ _).2 x] at hb; cases hb
      simp [wB]
      omega
    unfold cnt
    rw [this]; rfl
  | true =>
    obtain ⟨h0, h1⟩ := (inB_iff _ _).1 hb
    obtain ⟨t0, rfl⟩ : ∃ t0 : Nat, t = t0 := ⟨t.toNat, by omega⟩
    rw [if_pos rfl, Int.toNat_natCast, h.c, ← waits_cm]
    unfold cnt
    congr 1
    refine List.filter_congr (fun y hy => ?_)
    have := (h.r y hy).2.2.2.2.2
    unfold wB
    rw [decide_eq_true this, Bool.and_true]
theorem held_h (L : List It) (hr : ∀ x ∈ L, 0 ≤ x.t) (f : Int) : ∀ m : Nat, (L.filter (fun x => x.f == f && (x.c == 0 && decide (x.t < (m : Int))))).length = heldN (fun f t => hfL L f t) f m
  | 0 => by
    have : L.filter (fun x => x.f == f && (x.c == 0 && decide (x.t < ((0 : Nat) : Int)))) = [] := by
      rw [List.filter_eq_nil_iff]; intro y hy; have := hr y hy; simp; omega
    rw [this]; rfl
  | m + 1 => by
    show _ = heldN (fun f t => hfL L f t) f m + (hfL L f m).length
    rw [← held_h L hr f m]
    unfold hfL
    rw [List.length_map]
    clear hr
    induction L with
    | nil => rfl
    | cons x l ih =>
      simp only [List.filter_cons]
      by_cases h1 : x.f = f ∧ x.c = 0
      · have b : (x.f == f) = true := by simpa using h1.1
        have c : (x.c == 0) = true := by simpa using h1.2
        unfold pB at ih ⊢
        simp only [b, c, Bool.true_and, Bool.and_true]
        by_cases h2 : x.t < m
        · have b1 : decide (x.t < ((m + 1 : Nat) : Int)) = true := by simp; omega
          have b2 : decide (x.t < (m : Int)) = true := by simpa using h2
          have b3 : (x.t == (m : Int)) = false := by simp; omega
          simp only [b1, b2, b3, if_true, Bool.false_eq_true, if_false, List.length_cons]; omega
        · by_cases h3 : x.t = m
          · have b1 : decide (x.t < ((m + 1 : Nat) : Int)) = true := by simp; omega
            have b2 : decide (x.t < (m : Int)) = false := by simpa using h2
            have b3 : (x.t == (m : Int)) = true := by simpa using h3
            simp only [b1, b2, b3, if_true, Bool.false_eq_true, if_false, List.length_cons]; omega
          · have b1 : decide (x.t < ((m + 1 : Nat) : Int)) = false := by simp; omega
            have b2 : decide (x.t < (m : Int)) = false := by simpa using h2
            have b3 : (x.t == (m : Int)) = false := by simpa using h3
            simp only [b1, b2, b3, Bool.false_eq_true, if_false]; exact ih
      · have b : ∀ z : Bool, (x.f == f && (x.c == 0 && z)) = false := fun z => by
          rw [Bool.eq_false_iff]; intro e; simp at e; exact h1 ⟨e.1, e.2.1⟩
        have c : pB f m x = false := by rw [Bool.eq_false_iff]; exact fun e => h1 (by have := (pB_iff _ _ _).1 e; exact ⟨this.1, this.2.2⟩)
        simp only [b, c, Bool.false_eq_true, if_false]; exact ih
theorem Br.held {n : Nat} {L : List It} {K : Nat} {C : Nat → List Int} {H : Int → Int → List Int} (h : Br n L K C H) (f : Int) : cnt (hB f (-1)) L = heldN H f n := by
  have e : H = fun f t => hfL L f t := by funext f t; exact h.h f t
  rw [e, ← held_h L (fun x hx => (h.r x hx).2.2.1) f n]
  unfold cnt
  congr 1
  refine List.filter_congr (fun y hy => ?_)
  have := (h.r y hy).2.2.2.1
  unfold hB
  rw [decide_eq_true this, show decide ((-1 : Int) < 0) = true from rfl, Bool.true_or]
theorem Br.one {n : Nat} {L : List It} {K : Nat} {C : Nat → List Int} {H : Int → Int → List Int} (h : Br n L K C H) {f t : Int} (ht : 0 ≤ t) : cnt (hB f t) L = (H f t).length := by
  rw [h.h]
  unfold cnt hfL
  rw [List.length_map]
  congr 1
  refine List.filter_congr (fun y _ => ?_)
  unfold hB pB
  rw [decide_eq_false (show ¬ t < 0 by omega), Bool.false_or, Bool.and_comm (y.c == 0)]
theorem Br.all {n : Nat} {L : List It} {K : Nat} {C : Nat → List Int} {H : Int → Int → List Int} (h : Br n L K C H) : ∀ k, allR L K n k = allL n C H k
  | 0 => rfl
  | k + 1 => by
    have e : ∀ m, hrL L k m = hrow H k m := fun m => by
      induction m with
      | zero => rfl
      | succ m ih => simp only [hrL, hrow]; rw [ih, h.h]
    simp only [allR, allL]
    rw [h.all k, h.c, e]
    first | rfl | rw [List.append_assoc]
/-! ### Next -/
theorem erase_mid (L : List It) (j : Nat) (hj : j < L.length) : L = L.take j ++ ([L[j]'hj] ++ L.drop (j + 1)) ∧ L.eraseIdx j = L.take j ++ L.drop (j + 1) := by
  refine ⟨?_, er_split L j⟩
  rw [List.singleton_append, ← List.drop_eq_getElem_cons hj, List.take_append_drop]
theorem Br.none {n : Nat} {L : List It} {K : Nat} {C : Nat → List Int} {H : Int → Int → List Int} (h : Br n L K C H) {t : Int} (hf : Fst L t L.length (-1)) : nextV n C t = .none := by
  have hw : cnt (wB t) L = 0 := by
    rcases hf with ⟨_, h2⟩ | ⟨j, h1, _⟩
    · unfold cnt
      rw [List.length_eq_zero_iff, List.filter_eq_nil_iff]
      intro y hy
      obtain ⟨i, hi, rfl⟩ := List.mem_iff_getElem.1 hy
      rw [h2 i hi hi]
      simp
    · omega
  rw [h.waits] at hw
  unfold waitsV at hw
  unfold nextV
  split
  · rename_i hb
    rw [if_pos hb] at hw
    rw [List.length_eq_zero_iff.1 hw]; rfl
  · rfl
theorem Br.next {n : Nat} {L : List It} {K : Nat} {C : Nat → List Int} {H : Int → Int → List Int} (h : Br n L K C H) {t : Int} {j : Nat} (hj : j < L.length) (hf : Fst L t L.length j) : nextV n C t = some (L[j]'hj).a ∧ Br n (L.eraseIdx j) K (nextC n C t) H := by
  rcases hf with ⟨h1, _⟩ | ⟨j', h1, _, hj', hw, hmin⟩
  · omega
  have : j' = j := by omega
  subst this
  obtain ⟨hm, he⟩ := erase_mid L j' hj
  have hmem : L[j'] ∈ L := List.getElem_mem hj
  have hmn : ∀ y ∈ L, wB t y = true → (L[j']'hj).c ≤ y.c := fun y hy hyw => by
    obtain ⟨i, hi, rfl⟩ := List.mem_iff_getElem.1 hy
    exact hmin i hi hi hyw
  generalize L[j'] = x at *
  obtain ⟨r1, r2, r3, r4, r5, r6⟩ := h.r x hmem
  have hx : x.t = t ∧ 0 < x.c := by unfold wB at hw; simpa using hw
  obtain ⟨t0, rfl⟩ : ∃ t0 : Nat, t = t0 := ⟨t.toNat, by omega⟩
  obtain ⟨k0, hk0⟩ : ∃ k0 : Nat, x.c = k0 := ⟨x.c.toNat, by omega⟩
  have hin : inB n (t0 : Int) = true := (inB_iff _ _).2 ⟨by omega, by omega⟩
  have hsub : ∀ y, y ∈ L.eraseIdx j' → y ∈ L := fun y hy => List.mem_of_mem_eraseIdx hy
  -- each number's own
  have hother : ∀ (t' k : Nat), ¬ (t' = t0 ∧ k = k0) → comeL (L.eraseIdx j') t' k = comeL L t' k := fun t' k hne => by
    rw [he]
    conv => rhs; rw [hm]
    rw [comeL_app, comeL_app, comeL_app, show comeL [x] t' k = [] from by
      rw [comeL_cons, if_neg (fun y => hne ⟨by have := y.1; omega, by have := y.2; omega⟩)]; rfl, List.nil_append]
  have hu : comeL L t0 k0 = [x.a] ∧ comeL (L.eraseIdx j') t0 k0 = [] := by
    have hone : comeL [x] t0 k0 = [x.a] := by rw [comeL_cons, if_pos ⟨hx.1, hk0⟩]; rfl
    have hlen : (comeL L t0 k0).length ≤ 1 := by
      have h2 := h.u k0 (by omega)
      unfold comeL
      rw [List.length_map]
      refine Nat.le_trans ?_ h2
      have : L.filter (fun x => x.t == (t0 : Int) && x.c == (k0 : Int)) = (L.filter (fun x => x.c == (k0 : Int))).filter (fun x => x.t == (t0 : Int)) := by rw [List.filter_filter]
      rw [this]
      exact List.length_filter_le _ _
    have e1 : comeL L t0 k0 = comeL (L.take j') t0 k0 ++ ([x.a] ++ comeL (L.drop (j' + 1)) t0 k0) := by
      conv => lhs; rw [hm]
      rw [comeL_app, comeL_app, hone]
    rw [e1] at hlen
    simp only [List.length_append, List.length_singleton] at hlen
    have n1 : comeL (L.take j') t0 k0 = [] := List.length_eq_zero_iff.1 (by omega)
    have n2 : comeL (L.drop (j' + 1)) t0 k0 = [] := List.length_eq_zero_iff.1 (by omega)
    rw [e1, he, comeL_app, n1, n2]
    exact ⟨rfl, rfl⟩
  have hlow : ∀ k, 1 ≤ k → k < k0 → comeL L t0 k = [] := fun k h1 h2 => by
    unfold comeL
    rw [List.map_eq_nil_iff, List.filter_eq_nil_iff]
    intro y hy hyk
    rw [Bool.and_eq_true, beq_iff_eq, beq_iff_eq] at hyk
    have := hmn y hy (by unfold wB; simp; omega)
    omega
  have hcm : ∀ m, cmL L t0 m = (if k0 ≤ m then [x.a] else []) ++ cmL (L.eraseIdx j') t0 m ∧ (m < k0 → cmL (L.eraseIdx j') t0 m = []) := fun m => by
    induction m with
    | zero => exact ⟨by rw [if_neg (by omega)]; rfl, fun _ => rfl⟩
    | succ m ih =>
      obtain ⟨i1, i2⟩ := ih
      simp only [cmL]
      by_cases e : m + 1 = k0
      · rw [if_neg (by omega), i2 (by omega)] at i1
        rw [e, hu.1, hu.2, i1, i2 (by omega), if_pos (Nat.le_refl _)]
        exact ⟨rfl, fun _ => rfl⟩
      · rw [hother t0 (m + 1) (fun y => e y.2), i1]
        by_cases e2 : k0 ≤ m
        · rw [if_pos e2, if_pos (by omega)]
          exact ⟨List.append_assoc .., fun _ => by omega⟩
        · rw [if_neg e2, if_neg (by omega), i2 (by omega), hlow (m + 1) (by omega) (by omega)]
          exact ⟨rfl, fun _ => rfl⟩
  have hC : C t0 = x.a :: cmL (L.eraseIdx j') t0 K := by
    rw [h.c, (hcm K).1, if_pos (by omega)]; rfl
  refine ⟨?_, fun f' t' => ?_, fun t' => ?_, fun y hy => h.r y (hsub y hy), fun k hk => ?_⟩
  · unfold nextV
    rw [hin, if_pos rfl, Int.toNat_natCast, hC]; rfl
  · rw [h.h, he]
    conv => lhs; rw [hm]
    rw [hfL_app, hfL_app, hfL_app, show hfL [x] f' t' = [] from by
      rw [hfL_cons, if_neg (fun y => by have := ((pB_iff _ _ _).1 y).2.2; omega)]; rfl, List.nil_append]
  · unfold nextC
    rw [hin, if_pos rfl, Int.toNat_natCast]
    by_cases e : t' = t0
    · subst e
      rw [up_same, hC]; rfl
    · rw [up_other _ _ e, h.c]
      exact cmL_congr (fun k _ _ => (hother t' k (fun y => e y.1)).symm)
  · have := h.u k hk
    rw [he]
    rw [hm] at this
    simp only [List.filter_append, List.length_append] at this ⊢
    omega
end Go.Proofs.Ytldpljfanlhooaa
