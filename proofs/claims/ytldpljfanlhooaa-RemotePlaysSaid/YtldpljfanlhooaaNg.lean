/- Both mails side by side. -/
import Derived.Test.YtldpljfanlhooaaNf
namespace Go.Proofs.Ytldpljfanlhooaa
open Go.RowKit
open Is

def NP (w : World) (p : Nat) (v : Value) (X : Option Nat) : Nat → Prop := fun i => i < w.heap.size ∨ p = i ∨ v.ownBlock = some i ∨ X = some i
structure PSt (w wr : World) (A : Mb) (p j k : Nat) (v : Value) (L : List It) (K : Nat) (C : Nat → List Int) (H : Int → Int → List Int) (X : Option Nat) : Prop where
  ml : MlK (NP w p v X) wr A k C H
  rm : Rm wr p A.n A.b v L K
  fr : FrN (fun i => i < w.heap.size) w wr
  pg : w.heap.size ≤ p
  vg : ∀ q, v.ownBlock = some q → w.heap.size ≤ q
  br : Br A.n L K C H
  kj : k ≤ j
  lj : L.length ≤ j
  cj : K + cnt (fun x => x.c == 0) L ≤ j
theorem IRd.fr {N : Nat → Prop} {w w' : World} {v : Value} {L : List It} (h : IRd w v L) (hf : FrN N w w') (hN : ∀ q, v.ownBlock = some q → N q) : IRd w' v L := by
  obtain ⟨A, c, rfl, h0, h⟩ := h
  refine ⟨A, c, rfl, h0, ?_⟩
  rcases h with h | ⟨g, rfl, h1, h2⟩
  · exact .inl h
  · refine .inr ⟨g, rfl, Nat.lt_of_lt_of_le h1 hf.size, fun i hi => ?_⟩
    obtain ⟨a, b, c, d⟩ := h2 i hi
    exact ⟨hf.cell a (hN g rfl), hf.cell b (hN g rfl), hf.cell c (hN g rfl), hf.cell d (hN g rfl)⟩
theorem Rm.fr {N : Nat → Prop} {w w' : World} {p n b : Nat} {v : Value} {L : List It} {K : Nat} (h : Rm w p n b v L K) (hf : FrN N w w') (hp : N p) (hN : ∀ q, v.ownBlock = some q → N q) : Rm w' p n b v L K :=
  ⟨hf.cell h.c0 hp, hf.cell h.c1 hp, hf.cell h.c2 hp, hf.cell h.c3 hp, h.rd.fr hf hN, h.np, fun k => by rw [World.frozen?_of_block (hf.block p hp)]; exact h.fz k, Nat.lt_of_lt_of_le h.plt hf.size, h.n64, h.b64, h.l, h.k⟩
variable {w wr w' : World} {A : Mb} {p j k : Nat} {v : Value} {L : List It} {K : Nat} {C : Nat → List Int} {H : Int → Int → List Int} {X : Option Nat}
theorem PSt.grown (h : PSt w wr A p j k v L K C H X) (hg : wr.grownBy w' none) : PSt w w' A p j k v L K C H X :=
  ⟨h.ml.grown hg, h.rm.grown hg, h.fr.trans (frN_grown hg (fun i hi => ⟨h.ml.nlt i (.inl hi), by simp⟩)), h.pg, h.vg, h.br, h.kj, h.lj, h.cj⟩
theorem PSt.ext (h : PSt w wr A p j k v L K C H none) (hg : wr.grownBy w' none) {x : Nat} (hx : wr.heap.size ≤ x) (hx' : x < w'.heap.size) : PSt w w' A p j k v L K C H (some x) := by
  obtain ⟨h1, h2, h3, h4, h5, h6, h7, h8, h9⟩ := h.grown hg
  refine ⟨h.ml.kept hg (fun q e => by cases e) (fun i hi => ?_), h2, h3, h4, h5, h6, h7, h8, h9⟩
  rcases hi with hi | hi | hi | hi
  · exact .inl (.inl hi)
  · exact .inl (.inr (.inl hi))
  · exact .inl (.inr (.inr (.inl hi)))
  · injection hi with hi
    exact .inr ⟨by omega, by omega⟩
theorem PSt.drop (h : PSt w wr A p j k v L K C H X) : PSt w wr A p j k v L K C H none := by
  obtain ⟨h1, h2, h3, h4, h5, h6, h7, h8, h9⟩ := h
  refine ⟨h1.kept (grown_refl _ none) (fun q e => by cases e) (fun i hi => ?_), h2, h3, h4, h5, h6, h7, h8, h9⟩
  rcases hi with hi | hi | hi | hi
  · exact .inl (.inl hi)
  · exact .inl (.inr (.inl hi))
  · exact .inl (.inr (.inr (.inl hi)))
  · cases hi
/-- Behind a call of the code's: the document's is still to come. -/
structure PMid (w wr : World) (A : Mb) (p j k : Nat) (v : Value) (L : List It) (K : Nat) (C : Nat → List Int) (H : Int → Int → List Int) : Prop where
  ml : MlK (NP w p v none) wr A k C H
  rm : Rm wr p A.n A.b v L K
  fr : FrN (fun i => i < w.heap.size) w wr
  pg : w.heap.size ≤ p
  vg : ∀ q, v.ownBlock = some q → w.heap.size ≤ q
  kj : k ≤ j
theorem PMid.grown (h : PMid w wr A p j k v L K C H) (hg : wr.grownBy w' none) : PMid w w' A p j k v L K C H :=
  ⟨h.ml.grown hg, h.rm.grown hg, h.fr.trans (frN_grown hg (fun i hi => ⟨h.ml.nlt i (.inl hi), by simp⟩)), h.pg, h.vg, h.kj⟩
theorem PSt.mid (h : PSt w wr A p j k v L K C H X) {k' : Nat} {C' : Nat → List Int} {H' : Int → Int → List Int} (h1 : MlK (NP w p v X) w' A k' C' H') (hf : FrN (NP w p v X) wr w') (hk : k' ≤ j + 1) : PMid w w' A p (j + 1) k' v L K C' H' := by
  refine ⟨h1.kept (grown_refl _ none) (fun q e => by cases e) (fun i hi => ?_), h.rm.fr hf (.inr (.inl rfl)) (fun q hq => .inr (.inr (.inl hq))), h.fr.trans (hf.sub (fun i hi => .inl hi)), h.pg, h.vg, hk⟩
  rcases hi with hi | hi | hi | hi
  · exact .inl (.inl hi)
  · exact .inl (.inr (.inl hi))
  · exact .inl (.inr (.inr (.inl hi)))
  · cases hi
theorem PMid.to (h : PMid w wr A p j k v L K C H) {L' : List It} {K' : Nat} (ht : RmTo wr w' p A.n A.b v L' K') (hb : Br A.n L' K' C H) (h1 : L'.length ≤ j) (h2 : K' + cnt (fun x => x.c == 0) L' ≤ j) : ∃ v', PSt w w' A p j k v' L' K' C H none := by
  obtain ⟨v', hr, hg, hv⟩ := ht
  refine ⟨v', h.ml.kept hg (fun q e => by injection e with e; exact .inl (.inr (.inl e))) (fun i hi => ?_), hr, h.fr.trans (frN_grown hg (fun i hi => ⟨h.ml.nlt i (.inl hi), fun e => by injection e with e; have := h.pg; omega⟩)), h.pg, fun q hq => ?_, hb, h.kj, h1, h2⟩
  · rcases hi with hi | hi | hi | hi
    · exact .inl (.inl hi)
    · exact .inl (.inr (.inl hi))
    · rcases hv i hi with e | e
      · exact .inl (.inr (.inr (.inl e)))
      · exact .inr ⟨e, hr.rd.lt i hi⟩
    · cases hi
  · rcases hv q hq with e | e
    · exact h.vg q e
    · exact Nat.le_trans h.fr.size e
def PS (w wr : World) (A : Mb) (p j : Nat) (X : Option Nat) : Prop := ∃ k v L K C H, PSt w wr A p j k v L K C H X
theorem PS.grown (h : PS w wr A p j X) (hg : wr.grownBy w' none) : PS w w' A p j X := by
  obtain ⟨k, v, L, K, C, H, h⟩ := h
  exact ⟨k, v, L, K, C, H, h.grown hg⟩
theorem PS.ext (h : PS w wr A p j none) (hg : wr.grownBy w' none) {x : Nat} (hx : wr.heap.size ≤ x) (hx' : x < w'.heap.size) : PS w w' A p j (some x) := by
  obtain ⟨k, v, L, K, C, H, h⟩ := h
  exact ⟨k, v, L, K, C, H, h.ext hg hx hx'⟩
theorem PS.more (h : PS w wr A p j X) {j' : Nat} (hj : j ≤ j') : PS w wr A p j' X := by
  obtain ⟨k, v, L, K, C, H, h⟩ := h
  exact ⟨k, v, L, K, C, H, h.ml, h.rm, h.fr, h.pg, h.vg, h.br, Nat.le_trans h.kj hj, Nat.le_trans h.lj hj, Nat.le_trans h.cj hj⟩
theorem PS.plt (h : PS w wr A p j X) : p < wr.heap.size := by
  obtain ⟨k, v, L, K, C, H, h⟩ := h
  exact h.rm.plt
theorem PS.fr (h : PS w wr A p j X) : FrN (fun i => i < w.heap.size) w wr := by
  obtain ⟨k, v, L, K, C, H, h⟩ := h
  exact h.fr
theorem RmTo.cell {n b : Nat} (h : RmTo wr w' p n b v L K) {x : Nat} (hx : x < wr.heap.size) (hp : p ≠ x) (i : Nat) (c : Value) (hc : wr.cell? ⟨x, i, none⟩ = some c) : w'.cell? ⟨x, i, none⟩ = some c := by
  obtain ⟨v', _, hg, _⟩ := h
  exact (frN_grown (N := fun i => i = x) hg (fun i hi => ⟨by omega, fun e => by injection e with e; omega⟩)).cell hc rfl
/-- The code's Post, and then the document's, wherever it is called. -/
theorem ps_post {x : Nat} (h : PS w wr A p j (some x)) (hx : x < wr.heap.size ∧ p ≠ x) (hj : j < 60) {f t : Int} (hf : WF f) (ht : WF t) (a : Int) :
    Calls Try.prog 22 #[.pointer (some ⟨A.p, 0, none⟩), .int .i64 f, .int .i64 t, .int .i64 a] wr fun e w1 =>
      ∃ (z : Int) (o : Bool), e = .returned (.int .i64 z) ∧ (z == 0) = o ∧ (∀ i c, wr.cell? ⟨x, i, none⟩ = some c → w1.cell? ⟨x, i, none⟩ = some c) ∧ ∀ W, w1.grownBy W none → Calls Try.prog 23 #[.pointer (some ⟨p, 0, none⟩), .int .i64 f, .int .i64 t, .int .i64 a] W fun e w2 => e = .returned (.bool o) ∧ (∀ i c, W.cell? ⟨x, i, none⟩ = some c → w2.cell? ⟨x, i, none⟩ = some c) ∧ PS w w2 A p (j + 1) none := by
  obtain ⟨k, v, L, K, C, H, h⟩ := h
  have hk := h.kj
  refine (post_k h.ml (by omega) hf ht a).mono ?_
  rintro e w1 ⟨he, hm, hfr⟩
  refine ⟨_, okB A.n f t, he, by cases okB A.n f t <;> rfl, fun i c hc => hfr.cell hc (.inr (.inr (.inr rfl))), fun W hg => ?_⟩
  have hmid := (h.mid hm hfr (by omega)).grown hg
  have h1 := h.lj
  have h2 := h.cj
  refine (rpost_at hmid.rm (by omega) f t a).mono ?_
  rintro e w2 ⟨rfl, hto⟩
  refine ⟨rfl, hto.cell (Nat.lt_of_lt_of_le hx.1 (Nat.le_trans hfr.size hg.size)) hx.2, ?_⟩
  cases hok : okB A.n f t with
  | false =>
    rw [hok] at hto hmid
    obtain ⟨v', hp⟩ := hmid.to hto h.br (by simp only [Bool.false_eq_true, if_false]; omega) (by simp only [Bool.false_eq_true, if_false]; omega)
    exact ⟨_, v', _, _, _, _, hp⟩
  | true =>
    rw [hok] at hto hmid
    simp only [if_true] at hto hmid
    obtain ⟨f0, f1, t0, t1, _⟩ := (okB_iff _ _ _).1 hok
    have hadd := h.br.add ⟨f0, f1⟩ ⟨t0, t1⟩ a
    have hone := hadd.one (f := f) (t := t) t0
    rw [up2_same, List.length_append, List.length_singleton] at hone
    have hpc : cnt (pB f t) (L ++ [⟨f, t, a, 0⟩]) = cnt (hB f t) (L ++ [⟨f, t, a, 0⟩]) := by
      rw [hone]
      have := hadd.h f t
      rw [up2_same] at this
      have h3 : cnt (pB f t) (L ++ [⟨f, t, a, 0⟩]) = (hfL (L ++ [⟨f, t, a, 0⟩]) f t).length := by unfold cnt hfL; rw [List.length_map]
      rw [h3, ← this, List.length_append, List.length_singleton]
    have hc0 : cnt (fun x => x.c == 0) (L ++ [⟨f, t, a, 0⟩]) = cnt (fun x => x.c == 0) L + 1 := by unfold cnt; rw [List.filter_append, List.length_append]; rfl
    have hlt := h.ml.2.1.lt f t
    unfold postL postK at hto
    rw [hone] at hto
    unfold postC postH at hmid
    by_cases hb : A.b ≤ (H f t).length + 1
    · rw [if_pos hb, if_pos hb] at hto
      rw [if_pos (by omega), if_pos (by omega)] at hmid
      have hp := hadd.pass f t.toNat
      have htn : ((t.toNat : Nat) : Int) = t := by omega
      rw [htn, up2_same] at hp
      have e : up2 (up2 H f t (H f t ++ [a])) f t [] = up2 H f t [] := by
        funext f' t'
        unfold up2
        split <;> rfl
      rw [e] at hp
      have hcp := cnt_pass f t (L ++ [⟨f, t, a, 0⟩]) K
      obtain ⟨v', hp⟩ := hmid.to hto hp (by rw [passR_length, List.length_append, List.length_singleton]; omega) (by omega)
      exact ⟨_, v', _, _, _, _, hp⟩
    · rw [if_neg hb, if_neg hb] at hto
      rw [if_neg (by omega), if_neg (by omega)] at hmid
      obtain ⟨v', hp⟩ := hmid.to hto hadd (by rw [List.length_append, List.length_singleton]; omega) (by omega)
      exact ⟨_, v', _, _, _, _, hp⟩
theorem br_send {n : Nat} {L : List It} {K : Nat} {C : Nat → List Int} {H : Int → Int → List Int} (h : Br n L K C H) (f : Int) : ∀ k, Br n (sendL f L K k).1 (sendL f L K k).2.1 (sendC C H f k) (sendH H f k) ∧ (sendL f L K k).2.2 = heldN H f k
  | 0 => by
    have e2 : sendC C H f 0 = C := by funext t; unfold sendC; rw [if_neg (by omega)]
    have e3 : sendH H f 0 = H := by funext f' t'; unfold sendH; rw [if_neg (by omega)]
    rw [e2, e3]
    exact ⟨h, rfl⟩
  | k + 1 => by
    obtain ⟨i1, i2⟩ := br_send h f k
    have hp := i1.pass f k
    rw [sendC_succ, sendH_succ] at hp
    refine ⟨hp, ?_⟩
    show (sendL f L K k).2.2 + cnt (pB f k) (sendL f L K k).1 = heldN H f k + (H f k).length
    have h3 : cnt (pB f k) (sendL f L K k).1 = (hfL (sendL f L K k).1 f k).length := by unfold cnt hfL; rw [List.length_map]
    rw [i2, h3, ← i1.h, sendH_at]
theorem ps_send {x : Nat} (h : PS w wr A p j (some x)) (hx : x < wr.heap.size ∧ p ≠ x) (hj : j < 60) {f : Int} (hf : WF f) :
    Calls Try.prog 24 #[.pointer (some ⟨A.p, 0, none⟩), .int .i64 f] wr fun e w1 =>
      ∃ z : Int, e = .returned (.int .i64 z) ∧ (∀ i c, wr.cell? ⟨x, i, none⟩ = some c → w1.cell? ⟨x, i, none⟩ = some c) ∧ ∀ W, w1.grownBy W none → Calls Try.prog 25 #[.pointer (some ⟨p, 0, none⟩), .int .i64 f] W fun e w2 => e = .returned (.int .i64 z) ∧ (∀ i c, W.cell? ⟨x, i, none⟩ = some c → w2.cell? ⟨x, i, none⟩ = some c) ∧ PS w w2 A p (j + 1) none := by
  obtain ⟨k, v, L, K, C, H, h⟩ := h
  have hk := h.kj
  refine (send_k h.ml (by omega) hf).mono ?_
  rintro e w1 ⟨he, hm, hfr⟩
  refine ⟨_, he, fun i c hc => hfr.cell hc (.inr (.inr (.inr rfl))), fun W hg => ?_⟩
  have hmid := (h.mid hm hfr (by omega)).grown hg
  have h1 := h.lj
  have h2 := h.cj
  refine (rsend_at hmid.rm (by omega) f).mono ?_
  rintro e w2 ⟨rfl, hto⟩
  obtain ⟨hb, hv⟩ := br_send h.br f A.n
  refine ⟨by rw [hv], hto.cell (Nat.lt_of_lt_of_le hx.1 (Nat.le_trans hfr.size hg.size)) hx.2, ?_⟩
  obtain ⟨v', hp⟩ := hmid.to hto hb (by rw [sendL_len]; omega) (by have := (sendL_cnt f L K A.n).1; omega)
  exact ⟨_, v', _, _, _, _, hp⟩
theorem ps_next {x : Nat} (h : PS w wr A p j (some x)) (t : Int) :
    Calls Try.prog 26 #[.pointer (some ⟨A.p, 0, none⟩), .int .i64 t] wr fun e w1 =>
      ∃ (z : Int) (o : Bool), e = .returned (.tuple #[.int .i64 z, .bool o]) ∧ (∀ i c, wr.cell? ⟨x, i, none⟩ = some c → w1.cell? ⟨x, i, none⟩ = some c) ∧ Calls Try.prog 27 #[.pointer (some ⟨p, 0, none⟩), .int .i64 t] w1 fun e w2 => e = .returned (.tuple #[.int .i64 z, .bool o]) ∧ PS w w2 A p (j + 1) none := by
  obtain ⟨k, v, L, K, C, H, h⟩ := h
  have hk := h.kj
  refine (next_k h.ml t).mono ?_
  rintro e w1 ⟨he, hm, hfr⟩
  have hmid := h.mid hm hfr (by omega)
  have h1 := h.lj
  have h2 := h.cj
  have hcell : ∀ i c, wr.cell? ⟨x, i, none⟩ = some c → w1.cell? ⟨x, i, none⟩ = some c := fun i c hc => hfr.cell hc (.inr (.inr (.inr rfl)))
  have key : ∀ (z : Int) (o : Bool), outW (nextV A.n C t) = .tuple #[.int .i64 z, .bool o] → ∃ (z : Int) (o : Bool), e = .returned (.tuple #[.int .i64 z, .bool o]) ∧ (∀ i c, wr.cell? ⟨x, i, none⟩ = some c → w1.cell? ⟨x, i, none⟩ = some c) ∧ Calls Try.prog 27 #[.pointer (some ⟨p, 0, none⟩), .int .i64 t] w1 fun e w2 => e = .returned (.tuple #[.int .i64 z, .bool o]) ∧ PS w w2 A p (j + 1) none := fun z o hz => by
    refine ⟨z, o, by rw [he, hz], hcell, (rnext_at hmid.rm t).mono ?_⟩
    rintro e w2 (⟨rfl, hf, hto⟩ | ⟨i, hi, rfl, hf, hto⟩)
    · have hn := h.br.none hf
      rw [hn] at hz
      refine ⟨by rw [← hz]; rfl, ?_⟩
      have e1 : nextC A.n C t = C := by
        unfold nextV at hn
        unfold nextC
        split
        · rename_i hb
          rw [if_pos hb] at hn
          have : C t.toNat = [] := by simpa using hn
          rw [this]
          funext i
          by_cases hi : i = t.toNat
          · subst hi; rw [up_same, this]; rfl
          · rw [up_other _ _ hi]
        · rfl
      obtain ⟨v', hp⟩ := hmid.to hto (by rw [e1]; exact h.br) (by omega) (by omega)
      exact ⟨_, v', _, _, _, _, hp⟩
    · obtain ⟨hn, hb⟩ := h.br.next hi hf
      rw [hn] at hz
      refine ⟨by rw [← hz]; rfl, ?_⟩
      obtain ⟨hm1, he1⟩ := erase_mid L i hi
      have hl : (L.eraseIdx i).length ≤ L.length := List.length_eraseIdx_le L i
      have hc : cnt (fun x => x.c == 0) (L.eraseIdx i) ≤ cnt (fun x => x.c == 0) L := ((List.eraseIdx_sublist L i).filter _).length_le
      obtain ⟨v', hp⟩ := hmid.to hto hb (by omega) (by omega)
      exact ⟨_, v', _, _, _, _, hp⟩
  cases hv : nextV A.n C t with
  | none => exact key 0 false (by rw [hv]; rfl)
  | some y => exact key y true (by rw [hv]; rfl)
theorem ps_new (k b : Int) (w : World) : Calls Try.prog 20 #[.int .i64 k, .int .i64 b] w fun e w1 => ∃ A : Mb, e = .returned (.pointer (some ⟨A.p, 0, none⟩)) ∧
    Calls Try.prog 21 #[.int .i64 k, .int .i64 b] w1 fun e w2 => ∃ p, e = .returned (.pointer (some ⟨p, 0, none⟩)) ∧ PS w w2 A p 0 none := by
  refine (new_k k b w).mono ?_
  rintro e w1 ⟨A, he, h1, h2, hm, hg⟩
  refine ⟨A, he, (rnew_at k b w1).mono ?_⟩
  rintro e w2 ⟨rfl, hr, hg2⟩
  refine ⟨_, rfl, 0, .slice none 0 0, [], 0, _, _, hm.kept hg2 (fun q e => by cases e) (fun i hi => ?_), by rw [h1, h2]; exact hr, frN_grown (grown_trans hg hg2) (fun i hi => ⟨hi, by simp⟩), hg.size, fun q hq => (by cases hq), br_nil _, by omega, by simp, by simp [cnt]⟩
  rcases hi with hi | hi | hi | hi
  · exact .inl hi
  · exact .inr ⟨by omega, by have := hr.plt; omega⟩
  · cases hi
  · cases hi
end Go.Proofs.Ytldpljfanlhooaa
