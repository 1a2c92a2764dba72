/- What RemoteOrder holds: what was sent, as it stands in memory and in numbers. -/
import Derived.Test.YtldpljfanlhooaaMh
import Derived.Laws.BitsLemmas
namespace Go.Proofs.Ytldpljfanlhooaa
open Go.RowKit
open Is

theorem i64_and3 (n : Int) : bits .and .i64 n 3 = n % 4 := by
  have h127 : (BitVec.ofInt 64 3).toNat = 2 ^ 2 - 1 := by decide
  have key : (BitVec.ofInt 64 n &&& BitVec.ofInt 64 3).toNat = (n % ((2 ^ 64 : Nat) : Int)).toNat % 2 ^ 2 := by
    rw [BitVec.toNat_and, BitVec.toNat_ofInt, h127, Nat.and_two_pow_sub_one_eq_mod]
  show IntKind.i64.wrap ((BitVec.ofInt 64 n &&& BitVec.ofInt 64 3).toNat : Nat) = n % 4
  rw [key, IntKind.wrap_i64]
  omega

/-! ### numbers -/
def sub (S : List Cl12) (f t : Int) : List Int := (S.filter (fun o => o.f == f && o.t == t)).map Cl12.a
theorem sub_append (S T : List Cl12) (f t : Int) : sub (S ++ T) f t = sub S f t ++ sub T f t := by simp [sub]
theorem sub_one (o : Cl12) (f t : Int) : sub [o] f t = if o.f = f ∧ o.t = t then [o.a] else [] := by
  unfold sub
  by_cases h : o.f = f ∧ o.t = t
  · rw [if_pos h]; simp [h.1, h.2]
  · rw [if_neg h]
    have : (o.f == f && o.t == t) = false := by
      rw [Bool.and_eq_false_iff]
      by_cases e : o.f = f
      · exact .inr (by simpa using fun e2 => h ⟨e, e2⟩)
      · exact .inl (by simpa using e)
    simp [this]
theorem sub_len (S : List Cl12) (f t : Int) : (sub S f t).length ≤ S.length := by
  unfold sub
  rw [List.length_map]
  exact List.length_filter_le _ _
def Tagged (S : List Cl12) (C : Nat → List Int) (H : Int → Int → List Int) : Prop := ∀ t : Nat, t < 4 → ∃ G : List (Int × Int), C t = G.map Prod.snd ∧ (∀ p ∈ G, 0 ≤ p.1 ∧ p.1 < 4) ∧ ∀ f : Int, (G.filter (fun p => p.1 == f)).map Prod.snd ++ H f t = sub S f t
theorem tag_nil : Tagged [] (fun _ => []) (fun _ _ => []) := fun t _ => ⟨[], rfl, fun p hp => by simp at hp, fun f => rfl⟩
theorem tag_map (l : List Int) (f : Int) : (l.map (fun a => (f, a))).map Prod.snd = l := by
  induction l with
  | nil => rfl
  | cons x xs ih => simp only [List.map_cons, ih]
theorem tag_filter (l : List Int) (f f' : Int) : ((l.map (fun a => (f, a))).filter (fun p => p.1 == f')).map Prod.snd = if f = f' then l else [] := by
  induction l with
  | nil => split <;> rfl
  | cons x xs ih =>
    simp only [List.map_cons, List.filter_cons]
    by_cases e : f = f'
    · subst e
      rw [if_pos rfl] at ih ⊢
      simp only [beq_self_eq_true, if_true, List.map_cons, ih]
    · rw [if_neg e] at ih ⊢
      have : (f == f') = false := by simpa using e
      simp only [this]
      exact ih
theorem Tagged.send {S : List Cl12} {C : Nat → List Int} {H : Int → Int → List Int} (h : Tagged S C H) {f : Int} (hf : 0 ≤ f ∧ f < 4) : Tagged S (sendC C H f 4) (sendH H f 4) := by
  intro t ht
  obtain ⟨G, h1, h2, h3⟩ := h t ht
  refine ⟨G ++ (H f t).map (fun a => (f, a)), ?_, ?_, fun f' => ?_⟩
  · unfold sendC
    rw [if_pos ht, List.map_append, tag_map, h1]
  · intro p hp
    rcases List.mem_append.1 hp with hp | hp
    · exact h2 p hp
    · obtain ⟨a, _, rfl⟩ := List.mem_map.1 hp
      exact hf
  · rw [List.filter_append, List.map_append, tag_filter]
    unfold sendH
    by_cases e : f = f'
    · subst e
      rw [if_pos rfl, if_pos ⟨rfl, by omega, by omega⟩, List.append_nil]
      exact h3 f
    · rw [if_neg e, if_neg (fun x => e x.1.symm), List.append_nil]
      exact h3 f'
theorem Tagged.post {S : List Cl12} {C : Nat → List Int} {H : Int → Int → List Int} (h : Tagged S C H) {o : Cl12} (hok : okB 4 o.f o.t = true) (b : Nat) : Tagged (S ++ [o]) (postC b C H o.f o.t o.a) (postH b H o.f o.t o.a) := by
  obtain ⟨f0, f1, t0, t1, _⟩ := (okB_iff _ _ _).1 hok
  intro t ht
  obtain ⟨G, h1, h2, h3⟩ := h t ht
  unfold postC postH
  by_cases et : (t : Int) = o.t
  · have e2 : o.t.toNat = t := by omega
    split
    · refine ⟨G ++ (H o.f t ++ [o.a]).map (fun a => (o.f, a)), ?_, ?_, fun f' => ?_⟩
      · rw [e2, up_same, List.map_append, tag_map, h1, ← et]
      · intro p hp
        rcases List.mem_append.1 hp with hp | hp
        · exact h2 p hp
        · obtain ⟨a, _, rfl⟩ := List.mem_map.1 hp
          exact ⟨f0, f1⟩
      · rw [List.filter_append, List.map_append, tag_filter, sub_append, sub_one, ← et]
        by_cases e : o.f = f'
        · subst e
          rw [if_pos rfl, up2_same, if_pos ⟨rfl, rfl⟩, List.append_nil, ← List.append_assoc, h3]
        · rw [if_neg e, if_neg (fun x => e x.1), up2_other _ _ (fun x => e x.1.symm), List.append_nil, List.append_nil]
          exact h3 f'
    · refine ⟨G, h1, h2, fun f' => ?_⟩
      rw [sub_append, sub_one, ← et]
      by_cases e : o.f = f'
      · subst e
        rw [up2_same, if_pos ⟨rfl, rfl⟩, ← List.append_assoc, h3]
      · rw [if_neg (fun x => e x.1), up2_other _ _ (fun x => e x.1.symm), List.append_nil]
        exact h3 f'
  · have e2 : t ≠ o.t.toNat := by omega
    refine ⟨G, ?_, h2, fun f' => ?_⟩
    · split
      · rw [up_other _ _ e2]; exact h1
      · exact h1
    · have e3 : sub (S ++ [o]) f' t = sub S f' t := by rw [sub_append, sub_one, if_neg (fun x => et x.2.symm), List.append_nil]
      rw [e3]
      split <;> rw [up2_other _ _ (fun x => et x.2)] <;> exact h3 f'
/-- What comes to a thread, held against what was sent. -/
def Fit (S : List Cl12) (L : List Int) (t : Nat) : Prop := (∀ f : Nat, f < 4 → (sub S f t).Sublist L) ∧ sumN (fun f => (sub S f t).length) 4 = L.length
theorem Tagged.fit {S : List Cl12} {C : Nat → List Int} (h : Tagged S C (fun _ _ => [])) {t : Nat} (ht : t < 4) : Fit S (C t) t := by
  obtain ⟨G, h1, h2, h3⟩ := h t ht
  simp only [List.append_nil] at h3
  refine ⟨fun f _ => by rw [← h3, h1]; exact (List.filter_sublist (l := G)).map _, ?_⟩
  rw [h1]
  simp only [sumN]
  simp only [← h3, List.length_map]
  clear h1 h3
  induction G with
  | nil => rfl
  | cons p G ih =>
    have ih := ih (fun q hq => h2 q (List.mem_cons_of_mem _ hq))
    have hp := h2 p (List.mem_cons_self ..)
    simp only [List.filter_cons, List.length_cons]
    rcases (by omega : p.1 = 0 ∨ p.1 = 1 ∨ p.1 = 2 ∨ p.1 = 3) with e | e | e | e
    all_goals
      rw [e]
      simp at ih ⊢
      omega

/-! ### in memory -/
def oc : List Cl12 → List Value
  | [] => []
  | o :: l => .int .i64 o.k :: .int .i64 o.f :: .int .i64 o.t :: .int .i64 o.a :: oc l
theorem oc_length : ∀ l, (oc l).length = l.length * 4
  | [] => rfl
  | o :: l => by simp [oc, oc_length l]; omega
theorem oc_append : ∀ a b, oc (a ++ b) = oc a ++ oc b
  | [], _ => rfl
  | x :: a, b => by simp [oc, oc_append a b]
theorem oc_at : ∀ (l : List Cl12) (i : Nat) (h : i < l.length), (oc l)[i * 4]? = some (.int .i64 l[i].k) ∧ (oc l)[i * 4 + 1]? = some (.int .i64 l[i].f) ∧ (oc l)[i * 4 + 2]? = some (.int .i64 l[i].t) ∧ (oc l)[i * 4 + 3]? = some (.int .i64 l[i].a)
  | o :: l, 0, h => ⟨rfl, rfl, rfl, rfl⟩
  | o :: l, i + 1, h => by
    have := oc_at l i (by simpa using h)
    rw [Nat.add_mul]
    simpa [oc] using this
theorem infoOp : (Try.prog.info? 47).map (fun i => (i.zero, i.size, i.bytes)) = some (some (.agg #[.int .i64 0, .int .i64 0, .int .i64 0, .int .i64 0]), 4, 32) := by kernel_rfl
def OOwn (w : World) (base : Nat) (v : Value) (S : List Cl12) : Prop := w.ownsRow base 47 4 v S.length (oc S)
theorem oown_nil (w : World) (base : Nat) : OOwn w base (.slice none 0 0) [] := World.ownsRow_nil _ _ _ _
theorem OOwn.fr {N : Nat → Prop} {w w' : World} {base : Nat} {v : Value} {S : List Cl12} (h : OOwn w base v S) (hf : FrN N w w') (hN : ∀ q, v.ownBlock = some q → N q) : OOwn w' base v S := by
  obtain ⟨h0, h⟩ := h
  refine ⟨h0, ?_⟩
  rcases h with h | ⟨g, cap, cur, rfl, h1, h2, h3⟩
  · exact .inl h
  · exact .inr ⟨g, cap, cur, rfl, h1, (hf.block g (hN g rfl)).trans h2, h3⟩
theorem OOwn.kept {w w' : World} {base : Nat} {r : Option Nat} {v : Value} {S : List Cl12} (h : OOwn w base v S) (hg : w.grownBy w' r) (hne : v.ownBlock = none ∨ v.ownBlock ≠ r) : OOwn w' base v S := World.ownsRow.kept h hg hne
theorem OOwn.lt {w : World} {base : Nat} {v : Value} {S : List Cl12} (h : OOwn w base v S) : ∀ q, v.ownBlock = some q → base ≤ q ∧ q < w.heap.size := fun q hq => World.ownsRow.lt h q hq
theorem OOwn.shape {w : World} {base : Nat} {v : Value} {S : List Cl12} (h : OOwn w base v S) : ∃ A c, v = .slice A S.length c ∧ (S.length = 0 ∨ ∃ g, A = some ⟨g, 0, none⟩ ∧ base ≤ g ∧ g < w.heap.size ∧ ∀ i (h : i < S.length), w.cell? ⟨g, i * 4, none⟩ = some (.int .i64 S[i].k) ∧ w.cell? ⟨g, i * 4 + 1, none⟩ = some (.int .i64 S[i].f) ∧ w.cell? ⟨g, i * 4 + 2, none⟩ = some (.int .i64 S[i].t) ∧ w.cell? ⟨g, i * 4 + 3, none⟩ = some (.int .i64 S[i].a)) := by
  have h' := h
  obtain ⟨h0, h⟩ := h
  rcases h with ⟨rfl, h⟩ | ⟨g, cap, cur, rfl, h1, h2, h3, h4, h5, h6⟩
  · exact ⟨none, 0, by rw [h], .inl h⟩
  · refine ⟨some ⟨g, 0, none⟩, cap, rfl, .inr ⟨g, rfl, h1, (Array.getElem?_eq_some_iff.1 h2).1, fun i hi => ?_⟩⟩
    have key : ∀ j, j < S.length * 4 → w.cell? ⟨g, j, none⟩ = (oc S)[j]? := fun j hj => World.ownsRow.cellAt h' j hj
    obtain ⟨k0, k1, k2, k3⟩ := oc_at S i hi
    exact ⟨by rw [key _ (by omega)]; exact k0, by rw [key _ (by omega)]; exact k1, by rw [key _ (by omega)]; exact k2, by rw [key _ (by omega)]; exact k3⟩
theorem oapp {w : World} {base : Nat} {v : Value} {S : List Cl12} (h : OOwn w base v S) (hl : S.length ≤ 100000) (hb : base ≤ w.heap.size) (q : Nat) (o : Cl12)
    (hc : w.heap[q]? = some (.cells #[.int .i64 o.k, .int .i64 o.f, .int .i64 o.t, .int .i64 o.a] 47)) (ty : TypeId) :
    ∃ v' w', (Builtin.append_ #[41, 41] ty #[v, .slice (some ⟨q, 0, none⟩) 1 1]).run Try.prog w = .ok v' w' ∧ OOwn w' base v' (S ++ [o]) ∧ w.grownBy w' v.ownBlock ∧ ∀ i, v'.ownBlock = some i → v.ownBlock = some i ∨ w.heap.size ≤ i := by
  obtain ⟨i0, hi0, hz0, hz1, hz2⟩ := info_parts infoOp
  have ht := Try.underlying41
  have hnews : ∀ j u, (oc [o])[j]? = some u → w.cell? ((⟨q, 0, none⟩ : Addr).add j) = some u := fun j u hu => by
    rw [addr_add0, cell_row hc]
    simpa [oc] using hu
  have hone : ∀ u ∈ oc [o], u.oneCell' = true := fun u hu => by
    simp only [oc, List.mem_cons, List.not_mem_nil, or_false] at hu
    rcases hu with rfl | rfl | rfl | rfl <;> rfl
  obtain ⟨v1, w1, r1, o1, g1, -⟩ := run_append_own (P := Try.prog) w base 41 ty 47 i0 _ 4 32 ht hi0 hz0 hz1 hz2 rfl (by decide) v S.length (oc S) h ⟨q, 0, none⟩ 1 1 (oc [o]) rfl hnews hone (by simp only [maxLen]; omega) (by omega) hb
  refine ⟨v1, w1, r1, ?_, g1, ?_⟩
  · unfold OOwn
    rw [List.length_append, List.length_singleton, oc_append]
    exact o1
  · have h' := h
    obtain ⟨h0, hh⟩ := h
    rcases hh with ⟨rfl, hn⟩ | ⟨g, cap, cur, rfl, h1, h2, h3, h4, h5, h6⟩
    · have hr := run_append_nil (P := Try.prog) w 41 ty 47 i0 _ ht hi0 hz0 ⟨q, 0, none⟩ 1 1 (oc [o]) (by rw [hz1]; rfl) hnews (by omega) (by omega) (by rw [hz2]; omega)
      rw [hr] at r1
      injection r1 with e1 e2
      rw [← e1]
      intro i hi
      simp only [Value.ownBlock, Option.some.injEq] at hi
      exact .inr (by omega)
    · by_cases hroom : S.length + 1 ≤ cap
      · obtain ⟨w2, hr, -⟩ := run_append_fits (P := Try.prog) w base 41 ty 47 i0 4 ht hi0 hz1 g S.length cap (oc S) h' ⟨q, 0, none⟩ 1 1 (oc [o]) rfl hnews hone hroom
        rw [hr] at r1
        injection r1 with e1 e2
        rw [← e1]
        intro i hi
        exact .inl hi
      · have holds : ∀ j u, (oc S)[j]? = some u → w.cell? ((⟨g, 0, none⟩ : Addr).add j) = some u := fun j u hu => by
          have hj := (List.getElem?_eq_some_iff.1 hu).1
          rw [oc_length] at hj
          rw [addr_add0, World.ownsRow.cellAt h' j hj]
          exact hu
        have hr := run_append_grow (P := Try.prog) w 41 ty 47 i0 _ ht hi0 hz0 ⟨g, 0, none⟩ S.length cap (oc S) (by rw [oc_length, hz1]) holds ⟨q, 0, none⟩ 1 1 (oc [o]) (by rw [hz1]; rfl) hnews (by omega) (by omega) (growslice_fits (by omega) (by rw [hz2]; omega))
        rw [hr] at r1
        injection r1 with e1 e2
        rw [← e1]
        intro i hi
        simp only [Value.ownBlock, Option.some.injEq] at hi
        exact .inr (by omega)
theorem Is.Ow.fr {N : Nat → Prop} {w w' : World} {base : Nat} {v : Value} {xs : List Int} (h : Ow w base v xs) (hf : FrN N w w') (hN : ∀ q, v.ownBlock = some q → N q) : Ow w' base v xs := by
  rcases h with h | ⟨g, o, cap, cur, rfl, h2, h3, h4⟩
  · exact .inl h
  · exact .inr ⟨g, o, cap, cur, rfl, h2, (hf.block g (hN g rfl)).trans h3, h4⟩

/-! ### the law's memory -/
def NX (w : World) (s g : Value) (X : Option Nat) : Nat → Prop := fun i => i < w.heap.size ∨ s.ownBlock = some i ∨ g.ownBlock = some i ∨ X = some i
structure GSt (w wr : World) (A : Mb) (k : Nat) (s : Value) (S : List Cl12) (g : Value) (G : List Int) (X : Option Nat) (C : Nat → List Int) (H : Int → Int → List Int) : Prop where
  ml : MlK (NX w s g X) wr A k C H
  so : OOwn wr w.heap.size s S
  go : Ow wr w.heap.size g G
  ap : ∀ q, s.ownBlock = some q → g.ownBlock ≠ some q
  fr : FrN (fun i => i < w.heap.size) w wr
variable {w wr w' : World} {A : Mb} {k : Nat} {s g : Value} {S : List Cl12} {G : List Int} {X : Option Nat} {C : Nat → List Int} {H : Int → Int → List Int}
theorem oor (o : Option Nat) : o = none ∨ o ≠ none := by cases o <;> simp
theorem GSt.grown (h : GSt w wr A k s S g G X C H) (hg : wr.grownBy w' none) : GSt w w' A k s S g G X C H :=
  ⟨h.ml.grown hg, h.so.kept hg (oor _), h.go.grown hg, h.ap, h.fr.trans (frN_grown hg (fun i hi => ⟨h.ml.nlt i (.inl hi), by simp⟩))⟩
theorem GSt.ext (h : GSt w wr A k s S g G none C H) (hg : wr.grownBy w' none) {x : Nat} (hx : wr.heap.size ≤ x) (hx' : x < w'.heap.size) : GSt w w' A k s S g G (some x) C H := by
  obtain ⟨h1, h2, h3, h4, h5⟩ := h.grown hg
  refine ⟨h.ml.kept hg (fun q e => by cases e) (fun i hi => ?_), h2, h3, h4, h5⟩
  rcases hi with hi | hi | hi | hi
  · exact .inl (.inl hi)
  · exact .inl (.inr (.inl hi))
  · exact .inl (.inr (.inr (.inl hi)))
  · injection hi with hi
    exact .inr ⟨by omega, by omega⟩
theorem GSt.drop (h : GSt w wr A k s S g G X C H) : GSt w wr A k s S g G none C H := by
  obtain ⟨h1, h2, h3, h4, h5⟩ := h
  refine ⟨h1.kept (grown_refl _ none) (fun q e => by cases e) (fun i hi => ?_), h2, h3, h4, h5⟩
  rcases hi with hi | hi | hi | hi
  · exact .inl (.inl hi)
  · exact .inl (.inr (.inl hi))
  · exact .inl (.inr (.inr (.inl hi)))
  · cases hi
theorem GSt.anew (h : GSt w wr A k s S g G X C H) : GSt w wr A k s S (.slice none 0 0) [] X C H := by
  obtain ⟨h1, h2, h3, h4, h5⟩ := h
  refine ⟨h1.kept (grown_refl _ none) (fun q e => by cases e) (fun i hi => ?_), h2, ow_nil _ _, fun q _ => by simp [Value.ownBlock], h5⟩
  rcases hi with hi | hi | hi | hi
  · exact .inl (.inl hi)
  · exact .inl (.inr (.inl hi))
  · cases hi
  · exact .inl (.inr (.inr (.inr hi)))
theorem GSt.call (h : GSt w wr A k s S g G X C H) {k' : Nat} {C' : Nat → List Int} {H' : Int → Int → List Int} (h1 : MlK (NX w s g X) w' A k' C' H') (h2 : FrN (NX w s g X) wr w') : GSt w w' A k' s S g G X C' H' :=
  ⟨h1, h.so.fr h2 (fun _ hq => .inr (.inl hq)), h.go.fr h2 (fun _ hq => .inr (.inr (.inl hq))), h.ap, h.fr.trans (h2.sub (fun _ hi => .inl hi))⟩
theorem GSt.sapp (h : GSt w wr A k s S g G none C H) (hl : S.length ≤ 100000) (o : Cl12) (ty : TypeId) :
    ∃ A1 c1 w', (Builtin.append_ #[41, 41] ty #[s, .slice (some ⟨wr.heap.size, 0, none⟩) 1 1]).run Try.prog (wr.alloc (.cells #[.int .i64 o.k, .int .i64 o.f, .int .i64 o.t, .int .i64 o.a] 47)) = .ok (.slice A1 (S.length + 1) c1) w' ∧
      GSt w w' A k (.slice A1 (S.length + 1) c1) (S ++ [o]) g G none C H := by
  have hg := grown_alloc wr (.cells #[.int .i64 o.k, .int .i64 o.f, .int .i64 o.t, .int .i64 o.a] 47) none
  obtain ⟨h1, h2, h3, h4, h5⟩ := h.grown hg
  obtain ⟨v', w', hr, ho, hg2, hn⟩ := oapp h2 hl h5.size wr.heap.size o (heap_alloc_new wr _) ty
  obtain ⟨A1, c1, hv, -⟩ := ho.shape
  rw [List.length_append, List.length_singleton] at hv
  subst hv
  have hap : ∀ q, (Value.slice A1 (S.length + 1) c1).ownBlock = some q → g.ownBlock ≠ some q := fun q hq e => by
    rcases hn q hq with hn | hn
    · exact h4 q hn e
    · exact absurd (h3.ge q e).2 (by omega)
  refine ⟨A1, c1, w', hr, h1.kept hg2 (fun q hq => .inl (.inr (.inl hq))) (fun i hi => ?_), ho, h3.kept hg2 ?_, hap, h5.trans (frN_grown hg2 (fun i hi => ⟨h1.nlt i (.inl hi), fun e => ?_⟩))⟩
  · rcases hi with hi | hi | hi | hi
    · exact .inl (.inl hi)
    · rcases hn i hi with hn | hn
      · exact .inl (.inr (.inl hn))
      · exact .inr ⟨hn, (ho.lt i hi).2⟩
    · exact .inl (.inr (.inr (.inl hi)))
    · cases hi
  · cases hgo : g.ownBlock with
    | none => exact .inl rfl
    | some q => exact .inr (fun e => h4 q e.symm hgo)
  · have := (h2.lt i e.symm).1; omega
theorem GSt.gapp (h : GSt w wr A k s S g G none C H) (hl : G.length ≤ 100000) (x : Int) (ty : TypeId) :
    ∃ A1 c1 w', (Builtin.append_ #[25, 25] ty #[g, .slice (some ⟨wr.heap.size, 0, none⟩) 1 1]).run Try.prog (wr.alloc (.cells #[.int .i64 x] 3)) = .ok (.slice A1 (G.length + 1) c1) w' ∧
      GSt w w' A k s S (.slice A1 (G.length + 1) c1) (G ++ [x]) none C H := by
  have hg := grown_alloc wr (.cells #[.int .i64 x] 3) none
  obtain ⟨h1, h2, h3, h4, h5⟩ := h.grown hg
  obtain ⟨v', w', hr, ho, hg2, hn⟩ := app_run h3 (rd_one wr x) (by simp; omega) h5.size ty
  obtain ⟨A1, c1, hv, -⟩ := ho.rd.shape
  rw [List.length_append, List.length_singleton] at hv
  subst hv
  have hap : ∀ q, s.ownBlock = some q → (Value.slice A1 (G.length + 1) c1).ownBlock ≠ some q := fun q hq e => by
    rcases hn q e with hn | hn
    · exact h4 q hq hn
    · exact absurd (h2.lt q hq).2 (by omega)
  refine ⟨A1, c1, w', hr, h1.kept hg2 (fun q hq => .inl (.inr (.inr (.inl hq)))) (fun i hi => ?_), h2.kept hg2 ?_, ho, hap, h5.trans (frN_grown hg2 (fun i hi => ⟨h1.nlt i (.inl hi), fun e => ?_⟩))⟩
  · rcases hi with hi | hi | hi | hi
    · exact .inl (.inl hi)
    · exact .inl (.inr (.inl hi))
    · rcases hn i hi with hn | hn
      · exact .inl (.inr (.inr (.inl hn)))
      · exact .inr ⟨hn, (ho.ge i hi).2⟩
    · cases hi
  · cases hgo : s.ownBlock with
    | none => exact .inl rfl
    | some q => exact .inr (fun e => h4 q hgo e.symm)
  · have := (h3.ge i e.symm).1; omega

/-! ### its parts -/
def P1 (w wr : World) (A : Mb) (j : Nat) (S : List Cl12) (s : Value) (X : Option Nat) : Prop := A.n = 4 ∧ j ≤ 40 ∧ S.length ≤ j ∧ ∃ C H, GSt w wr A j s S (.slice none 0 0) [] X C H ∧ Tagged S C H ∧ tot A.n C H ≤ j
def Q1 (w wr : World) (A : Mb) (j : Nat) (S : List Cl12) (s : Value) (o : Cl12) : Prop := A.n = 4 ∧ j ≤ 40 ∧ S.length + 1 ≤ j ∧ ∃ C H, GSt w wr A j s S (.slice none 0 0) [] none C H ∧ Tagged (S ++ [o]) C H ∧ tot A.n C H ≤ j
theorem P1.grown {j : Nat} (h : P1 w wr A j S s X) (hg : wr.grownBy w' none) : P1 w w' A j S s X := by
  obtain ⟨h1, h2, h3, C, H, h4, h5, h6⟩ := h
  exact ⟨h1, h2, h3, C, H, h4.grown hg, h5, h6⟩
theorem Q1.grown {j : Nat} {o : Cl12} (h : Q1 w wr A j S s o) (hg : wr.grownBy w' none) : Q1 w w' A j S s o := by
  obtain ⟨h1, h2, h3, C, H, h4, h5, h6⟩ := h
  exact ⟨h1, h2, h3, C, H, h4.grown hg, h5, h6⟩
theorem P1.ext {j : Nat} (h : P1 w wr A j S s none) (hg : wr.grownBy w' none) {x : Nat} (hx : wr.heap.size ≤ x) (hx' : x < w'.heap.size) : P1 w w' A j S s (some x) := by
  obtain ⟨h1, h2, h3, C, H, h4, h5, h6⟩ := h
  exact ⟨h1, h2, h3, C, H, h4.ext hg hx hx', h5, h6⟩
theorem p1_post {j x : Nat} {o : Cl12} (h : P1 w wr A j S s (some x)) (hj : j < 40) (hf : 0 ≤ o.f ∧ o.f < 4) (ht : 0 ≤ o.t ∧ o.t < 4) :
    Calls Try.prog 22 #[.pointer (some ⟨A.p, 0, none⟩), .int .i64 o.f, .int .i64 o.t, .int .i64 o.a] wr fun e w' =>
      ((e = .returned (.int .i64 0) ∧ o.f ≠ o.t ∧ Q1 w w' A (j + 1) S s o) ∨ (e = .returned (.int .i64 1) ∧ o.f = o.t ∧ P1 w w' A (j + 1) S s none)) ∧ ∀ i v, wr.cell? ⟨x, i, none⟩ = some v → w'.cell? ⟨x, i, none⟩ = some v := by
  obtain ⟨h1, h2, h3, C, H, h4, h5, h6⟩ := h
  refine (post_k h4.ml (by omega) (f := o.f) (t := o.t) ⟨by omega, by omega⟩ ⟨by omega, by omega⟩ o.a).mono ?_
  rintro e w' ⟨he, hm, hfr⟩
  refine ⟨?_, fun i v hv => hfr.cell hv (.inr (.inr (.inr rfl)))⟩
  cases hok : okB A.n o.f o.t with
  | true =>
    rw [hok] at he hm
    have hok4 : okB 4 o.f o.t = true := by rw [← h1]; exact hok
    exact .inl ⟨he, ((okB_iff _ _ _).1 hok4).2.2.2.2, h1, by omega, by omega, _, _, (h4.call hm hfr).drop, h5.post hok4 A.b, by have := tot_post (b := A.b) hok C H o.a; simp only [if_true]; omega⟩
  | false =>
    rw [hok] at he hm
    have e2 : o.f = o.t := by
      apply Classical.byContradiction
      intro hne
      have : okB A.n o.f o.t = true := by rw [okB_iff, h1]; exact ⟨hf.1, hf.2, ht.1, ht.2, hne⟩
      rw [this] at hok
      cases hok
    exact .inr ⟨he, e2, h1, by omega, by omega, _, _, (h4.call hm hfr).drop, h5, by simp only [Bool.false_eq_true, if_false]; omega⟩
theorem q1_app {j : Nat} {o : Cl12} (h : Q1 w wr A j S s o) (ty : TypeId) :
    ∃ A1 c1 w', (Builtin.append_ #[41, 41] ty #[s, .slice (some ⟨wr.heap.size, 0, none⟩) 1 1]).run Try.prog (wr.alloc (.cells #[.int .i64 o.k, .int .i64 o.f, .int .i64 o.t, .int .i64 o.a] 47)) = .ok (.slice A1 (S.length + 1) c1) w' ∧
      P1 w w' A j (S ++ [o]) (.slice A1 (S.length + 1) c1) none := by
  obtain ⟨h1, h2, h3, C, H, h4, h5, h6⟩ := h
  obtain ⟨A1, c1, w', hr, hs⟩ := h4.sapp (by omega) o ty
  exact ⟨A1, c1, w', hr, h1, h2, by simp only [List.length_append, List.length_singleton]; omega, C, H, hs, h5, h6⟩
def P2 (w wr : World) (A : Mb) (q : Nat) (S : List Cl12) (s : Value) : Prop := A.n = 4 ∧ q ≤ 4 ∧ S.length ≤ 40 ∧ ∃ k C H, k ≤ 40 + q ∧ GSt w wr A k s S (.slice none 0 0) [] none C H ∧ Tagged S C H ∧ tot A.n C H ≤ 40 ∧ ∀ f t : Int, 0 ≤ f → f < q → H f t = []
theorem P1.to2 {j : Nat} (h : P1 w wr A j S s none) : P2 w wr A 0 S s := by
  obtain ⟨h1, h2, h3, C, H, h4, h5, h6⟩ := h
  exact ⟨h1, by omega, by omega, j, C, H, by omega, h4, h5, by omega, fun f t h0 h1 => by omega⟩
theorem p2_send {q : Nat} (h : P2 w wr A q S s) (hq : q < 4) : Calls Try.prog 24 #[.pointer (some ⟨A.p, 0, none⟩), .int .i64 q] wr fun e w' => (∃ z, e = .returned (.int .i64 z)) ∧ P2 w w' A (q + 1) S s := by
  obtain ⟨h1, h2, h3, k, C, H, hk, h4, h5, h6, h7⟩ := h
  refine (send_k h4.ml (by omega) (f := (q : Int)) ⟨by omega, by omega⟩).mono ?_
  rintro e w' ⟨he, hm, hfr⟩
  refine ⟨⟨_, he⟩, h1, by omega, h3, k + 1, _, _, by omega, h4.call hm hfr, by rw [h1]; exact h5.send ⟨by omega, by omega⟩, by rw [tot_send C h4.ml.2.1 A.n (Nat.le_refl _)]; exact h6, fun f t h0 h9 => ?_⟩
  unfold sendH
  by_cases e : f = q
  · by_cases e2 : 0 ≤ t ∧ t < 4
    · rw [if_pos ⟨e, by omega, by omega⟩]
    · rw [if_neg (by omega)]
      exact h4.ml.2.1.nil f t (by rw [h1]; omega)
  · rw [if_neg (by omega)]
    exact h7 f t h0 (by omega)
def P3 (w wr : World) (A : Mb) (q : Nat) (S : List Cl12) (s g : Value) (G : List Int) : Prop := A.n = 4 ∧ S.length ≤ 40 ∧ ∃ k C, k ≤ 50 ∧ GSt w wr A k s S g G none C (fun _ _ => []) ∧ (∀ t, t < q → C t = []) ∧ ∀ t, q ≤ t → t < 4 → Fit S (C t) t ∧ (C t).length ≤ 40
theorem P2.to3 (h : P2 w wr A 4 S s) : P3 w wr A 0 S s (.slice none 0 0) [] := by
  obtain ⟨h1, h2, h3, k, C, H, hk, h4, h5, h6, h7⟩ := h
  have e : H = fun _ _ => [] := by
    funext f t
    by_cases h0 : 0 ≤ f ∧ f < 4
    · exact h7 f t h0.1 h0.2
    · exact h4.ml.2.1.nil f t (by rw [h1]; omega)
  subst e
  refine ⟨h1, h3, k, C, by omega, h4, fun t ht => by omega, fun t _ ht => ⟨h5.fit ht, ?_⟩⟩
  have := tot_C (n := A.n) (t := t) (by omega) C (fun _ _ => []) []
  simp only [List.length_nil] at this
  omega
theorem P3.grown {q : Nat} (h : P3 w wr A q S s g G) (hg : wr.grownBy w' none) : P3 w w' A q S s g G := by
  obtain ⟨h1, h3, k, C, hk, h4, h5⟩ := h
  exact ⟨h1, h3, k, C, hk, h4.grown hg, h5⟩
def P4 (w wr : World) (A : Mb) (q : Nat) (S : List Cl12) (s g : Value) (G : List Int) (i : Nat) : Prop := A.n = 4 ∧ q < 4 ∧ S.length ≤ 40 ∧ ∃ k C, k ≤ 50 ∧ GSt w wr A k s S g G none C (fun _ _ => []) ∧ (∀ t, t < q → C t = []) ∧ (∀ t, q < t → t < 4 → Fit S (C t) t ∧ (C t).length ≤ 40) ∧ Fit S (G ++ C q) q ∧ (G ++ C q).length ≤ 40 ∧ (C q = [] ∨ G.length = i)
theorem P3.to4 {q : Nat} (h : P3 w wr A q S s g G) (hq : q < 4) : P4 w wr A q S s (.slice none 0 0) [] 0 := by
  obtain ⟨h1, h3, k, C, hk, h4, h5, h6⟩ := h
  obtain ⟨h7, h8⟩ := h6 q (Nat.le_refl _) hq
  exact ⟨h1, hq, h3, k, C, hk, h4.anew, h5, fun t h0 ht => h6 t (by omega) ht, h7, h8, .inr rfl⟩
def Q4 (w wr : World) (A : Mb) (q : Nat) (S : List Cl12) (s g : Value) (G : List Int) (i : Nat) (x : Int) : Prop := A.n = 4 ∧ q < 4 ∧ S.length ≤ 40 ∧ ∃ k C, k ≤ 50 ∧ GSt w wr A k s S g G none C (fun _ _ => []) ∧ (∀ t, t < q → C t = []) ∧ (∀ t, q < t → t < 4 → Fit S (C t) t ∧ (C t).length ≤ 40) ∧ Fit S (G ++ [x] ++ C q) q ∧ (G ++ [x] ++ C q).length ≤ 40 ∧ (G.length = i)
theorem p4_next {q i : Nat} (h : P4 w wr A q S s g G i) : Calls Try.prog 26 #[.pointer (some ⟨A.p, 0, none⟩), .int .i64 q] wr fun e w' =>
    (∃ x, e = .returned (.tuple #[.int .i64 x, .bool true]) ∧ Q4 w w' A q S s g G i x) ∨ (e = .returned (.tuple #[.int .i64 0, .bool false]) ∧ P4 w w' A q S s g G (i + 1)) := by
  obtain ⟨h1, hq, h3, k, C, hk, h4, h5, h6, h7, h8, h9⟩ := h
  refine (next_k h4.ml (q : Int)).mono ?_
  rintro e w' ⟨he, hm, hfr⟩
  have hin : inB A.n (q : Int) = true := (inB_iff _ _).2 ⟨by omega, by omega⟩
  unfold nextV at he
  unfold nextC at hm
  rw [hin, if_pos rfl, Int.toNat_natCast] at he hm
  cases hc : C q with
  | nil =>
    rw [hc] at he hm
    have e2 : up C q [] = C := by
      funext i
      by_cases hi : i = q
      · subst hi; rw [up_same, hc]
      · rw [up_other _ _ hi]
    have hm : MlK (NX w s g none) w' A k (up C q []) (fun _ _ => []) := hm
    rw [e2] at hm
    exact .inr ⟨he, h1, hq, h3, k, C, hk, h4.call hm hfr, h5, h6, h7, h8, .inl hc⟩
  | cons x xs =>
    rw [hc] at he hm
    have hm : MlK (NX w s g none) w' A k (up C q xs) (fun _ _ => []) := hm
    refine .inl ⟨x, he, h1, hq, h3, k, _, hk, h4.call hm hfr, fun t ht => ?_, fun t h0 ht => ?_, ?_, ?_, ?_⟩
    · rw [up_other _ _ (by omega)]; exact h5 t ht
    · rw [up_other _ _ (by omega)]; exact h6 t h0 ht
    · rw [up_same, List.append_assoc, List.singleton_append, ← hc]; exact h7
    · rw [up_same, List.append_assoc, List.singleton_append, ← hc]; exact h8
    · rcases h9 with h9 | h9
      · rw [hc] at h9; cases h9
      · exact h9
theorem q4_app {q i : Nat} {x : Int} (h : Q4 w wr A q S s g G i x) (ty : TypeId) :
    ∃ A1 c1 w', (Builtin.append_ #[25, 25] ty #[g, .slice (some ⟨wr.heap.size, 0, none⟩) 1 1]).run Try.prog (wr.alloc (.cells #[.int .i64 x] 3)) = .ok (.slice A1 (G.length + 1) c1) w' ∧
      P4 w w' A q S s (.slice A1 (G.length + 1) c1) (G ++ [x]) (i + 1) := by
  obtain ⟨h1, hq, h3, k, C, hk, h4, h5, h6, h7, h8, h9⟩ := h
  have hG : G.length ≤ 40 := by simp only [List.length_append] at h8; omega
  obtain ⟨A1, c1, w', hr, hs⟩ := h4.gapp (by omega) x ty
  exact ⟨A1, c1, w', hr, h1, hq, h3, k, C, hk, hs, h5, h6, h7, h8, .inr (by rw [List.length_append, List.length_singleton, h9])⟩
theorem P4.to5 {q : Nat} (h : P4 w wr A q S s g G 41) : P3 w wr A (q + 1) S s g G ∧ Fit S G q ∧ G.length ≤ 40 := by
  obtain ⟨h1, hq, h3, k, C, hk, h4, h5, h6, h7, h8, h9⟩ := h
  have hc : C q = [] := by
    rcases h9 with h9 | h9
    · exact h9
    · rw [List.length_append] at h8; omega
  rw [hc, List.append_nil] at h7 h8
  refine ⟨⟨h1, h3, k, C, hk, h4, fun t ht => ?_, fun t h0 ht => h6 t (by omega) ht⟩, h7, h8⟩
  by_cases e : t = q
  · rw [e]; exact hc
  · exact h5 t (by omega)
theorem p3_all (h : P3 w wr A 4 S s g G) : Calls Try.prog 30 #[.pointer (some ⟨A.p, 0, none⟩)] wr fun e w' => ∃ Av cv, e = .returned (.slice Av 0 cv) ∧ FrN (fun i => i < w.heap.size) w w' := by
  obtain ⟨h1, h3, k, C, hk, h4, h5, h6⟩ := h
  refine (all_k h4.ml).mono ?_
  rintro e w3 ⟨v, rfl, ho, hg⟩
  obtain ⟨Av, capv, rfl, -, -⟩ := ho.rd.shape
  have e0 : (allL A.n C (fun _ _ => []) A.n).length = 0 := by
    rw [allL_tot]
    unfold tot
    rw [h1]
    simp only [sumN]
    rw [h5 0 (by omega), h5 1 (by omega), h5 2 (by omega), h5 3 (by omega)]
    rfl
  rw [e0]
  exact ⟨Av, capv, rfl, h4.fr.trans (frN_grown hg (fun i hi => ⟨h4.ml.nlt i (.inl hi), by simp⟩))⟩
end Go.Proofs.Ytldpljfanlhooaa
