/- A mail's map: its keys are pairs, what lies in it are slices; how it reads. -/
import Derived.Test.YtldpljfanlhooaaB
import Derived.Maps.OwnSet
import Derived.Maps.Views
import Derived.DeepKeys5
import Derived.WideKeyEntry
namespace Go.Proofs.Ytldpljfanlhooaa
open Go.RowKit
open Is
open Go.Maps (Keyed)
open Go.ChangeMaps (heap_setBlock_same heap_setBlock_other)

theorem laidOut' : laidOutB Try.prog = true := by kernel_rfl
theorem lpair : WideMaps.KeyLaw Try.prog 67 := deep_law_gate laidOut' (of_decide_eq_true (by kernel_rfl)) (of_decide_eq_true (by kernel_rfl)) (by kernel_rfl) (by kernel_rfl)
theorem kpair : Keyed Try.prog 67 := Keyed.of_law lpair
def pr (f t : Int) : Value := .agg #[.int .i64 f, .int .i64 t]
def WF (a : Int) : Prop := -9223372036854775808 ≤ a ∧ a ≤ 9223372036854775807
theorem lit_wf {a : Int} (h : WF a) : (Lit.int .i64 a).wf = true := WalkArith.wf_i64 h
def kl (f t : Int) : Lit := .string (keyBytes [.int .i64 f, .int .i64 t])
theorem lits_int {P : Program} {t : TypeId} {d : Nat} {a : Int} (hu : P.underlying t = some (.int .i64)) (ha : WF a) : P.keyLits (d + 1) t [.int .i64 a] = some [.int .i64 a] := by
  have := lit_wf ha
  simp [Program.keyLits, hu, this]
theorem lits_pair {P : Program} {t e : TypeId} {d : Nat} {a b : Int} {fs : Array Field} {f1 f2 : Field} (hu : P.underlying t = some (.struct fs)) (hfs : fs.toList = [f1, f2]) (hn : fs.all (·.name != "_") = true) (hc : P.cellsOf t = 2)
    (t1 : f1.type = e) (t2 : f2.type = e) (o1 : f1.offset = 0) (o2 : f2.offset = 1) (he : P.cellsOf e = 1) (hi : P.underlying e = some (.int .i64)) (ha : WF a) (hb : WF b) :
    P.keyLits (d + 1 + 1) t [.int .i64 a, .int .i64 b] = some [.int .i64 a, .int .i64 b] := by
  have l1 := lits_int (d := d) hi ha
  have l2 := lits_int (d := d) hi hb
  unfold Program.keyLits
  simp only [hu]
  simp [hfs, hn, hc, t1, t2, o1, o2, he, l1, l2]
theorem key_pr {f t : Int} (hf : WF f) (ht : WF t) : keyOf Try.prog 67 (pr f t) = some (kl f t) := by
  have hu := Try.underlying67
  have h1 : Try.prog.keyType 67 = true := by kernel_rfl
  have h2 : (pr f t).formed Try.prog 67 = true := by kernel_rfl
  have c1 : Try.prog.cellsOf 3 = 1 := by kernel_rfl
  have c2 : Try.prog.cellsOf 67 = 2 := by kernel_rfl
  have hsz : Try.prog.types.size + 1 = 87 + 1 + 1 := by kernel_rfl
  have hl := lits_pair (d := 87) hu rfl (by kernel_rfl) c2 rfl rfl rfl rfl c1 Try.underlying3 hf ht
  unfold keyOf
  rw [hu]
  simp only [h1, h2, Bool.and_self, if_true, hsz]
  show Option.map _ (Program.keyLits _ _ _ [.int .i64 f, .int .i64 t]) = _
  rw [hl]
  rfl
theorem pr_inj {f t f' t' : Int} (h : pr f t = pr f' t') : f = f' ∧ t = t' := by
  unfold pr at h
  injection h with h
  have h1 := congrArg (fun a => a[0]?) h
  have h2 := congrArg (fun a => a[1]?) h
  simp at h1 h2
  exact ⟨h1, h2⟩
theorem kl_ne {f t f' t' : Int} (hf : WF f) (ht : WF t) (hf' : WF f') (ht' : WF t') (h : ¬ (f = f' ∧ t = t')) : kl f t ≠ kl f' t' := fun e => by
  have h1 := key_pr hf ht
  have h2 := key_pr hf' ht'
  rw [e] at h1
  exact h (pr_inj (kpair.inj h1 h2))

/-- How a slice in the map reads. -/
def encS : Value → DataW Unit
  | .slice (some ⟨b, o, none⟩) n c => .agg [.lit (.int .i64 b), .lit (.int .i64 o), .lit (.int .i64 n), .lit (.int .i64 c)]
  | _ => .agg []
def Plain (v : Value) : Prop := v = .slice none 0 0 ∨ ∃ b o n c, v = .slice (some ⟨b, o, none⟩) n c
def slElem : Value → Option (DataW Unit × List MemPlace)
  | .slice (some ⟨b, o, none⟩) n c => some (encS (.slice (some ⟨b, o, none⟩) n c), [])
  | .slice none 0 0 => some (.agg [], [])
  | _ => none
theorem slElem_of {v : Value} (h : Plain v) : slElem v = some (encS v, []) := by
  rcases h with rfl | ⟨b, o, n, c, rfl⟩ <;> rfl
theorem slElem_plain {v : Value} {z : DataW Unit × List MemPlace} (h : slElem v = some z) : Plain v ∧ z = (encS v, []) := by
  unfold slElem at h
  split at h
  · exact ⟨.inr ⟨_, _, _, _, rfl⟩, (Option.some.inj h).symm⟩
  · exact ⟨.inl rfl, (Option.some.inj h).symm⟩
  · cases h
theorem natlit {a b : Nat} (h : (DataW.lit (.int .i64 (a : Int)) : DataW Unit) = .lit (.int .i64 (b : Int))) : a = b := by
  injection h with h; injection h with _ h; omega
theorem encS_inj {u v : Value} (hu : Plain u) (hv : Plain v) (h : encS u = encS v) : u = v := by
  rcases hu with rfl | ⟨b, o, n, c, rfl⟩ <;> rcases hv with rfl | ⟨b', o', n', c', rfl⟩
  · rfl
  · unfold encS at h; injection h with h; cases h
  · unfold encS at h; injection h with h; cases h
  · unfold encS at h
    injection h with h
    injection h with h1 h
    injection h with h2 h
    injection h with h3 h
    injection h with h4 _
    rw [natlit h1, natlit h2, natlit h3, natlit h4]
theorem ow_plain {w : World} {b : Nat} {v : Value} {xs : List Int} (h : Ow w b v xs) : Plain v := by
  rcases h with ⟨rfl, _⟩ | ⟨g, o, cap, cur, rfl, _⟩
  · exact .inl rfl
  · exact .inr ⟨_, _, _, _, rfl⟩

/-- What lies at each pair: hv f t. -/
def HIs (D : DataW Unit) (hv : Int → Int → Value) : Prop := ∀ f t, WF f → WF t → D.atKey (kl f t) (.agg []) = encS (hv f t)
theorem hIs_nil : HIs (.map []) (fun _ _ => .slice none 0 0) := fun f t hf ht => by
  rw [Go.Maps.atKey_of_not_has (by simp [Go.Maps.has_eq])]
  rfl
def upd2 (g : Int → Int → Value) (f t : Int) (v : Value) : Int → Int → Value := fun f' t' => if f' = f ∧ t' = t then v else g f' t'
theorem HIs.put {D : DataW Unit} {hv : Int → Int → Value} (h : HIs D hv) (hD : Go.Maps.IsMap D) {f t : Int} (hf : WF f) (ht : WF t) (v : Value) : HIs (D.put (kl f t) (encS v)) (upd2 hv f t v) := fun f' t' hf' ht' => by
  unfold upd2
  by_cases e : f' = f ∧ t' = t
  · obtain ⟨rfl, rfl⟩ := e
    rw [Go.Maps.atKey_put_same hD (kpair.key (key_pr hf' ht')), if_pos ⟨rfl, rfl⟩]
  · rw [Go.Maps.atKey_put_other (kl_ne hf' ht' hf ht e), if_neg e]
    exact h f' t' hf' ht'
theorem HIs.del {D : DataW Unit} {hv : Int → Int → Value} (h : HIs D hv) {f t : Int} (hf : WF f) (ht : WF t) : HIs (D.del (kl f t)) (upd2 hv f t (.slice none 0 0)) := fun f' t' hf' ht' => by
  unfold upd2
  by_cases e : f' = f ∧ t' = t
  · obtain ⟨rfl, rfl⟩ := e
    rw [Go.Maps.atKey_del_same, if_pos ⟨rfl, rfl⟩]
    rfl
  · rw [Go.Maps.atKey_del_other (kl_ne hf' ht' hf ht e), if_neg e]
    exact h f' t' hf' ht'
theorem zero_ints (w : World) : (zeroValue 25).run Try.prog w = .ok (.slice none 0 0) w := by kernel_rfl
/-- The mail's map: block mb. -/
def Mp (w : World) (mb cnt : Nat) (hv : Int → Int → Value) : Prop := (∀ f t, Plain (hv f t)) ∧ ∃ D, w.ownsMap Try.prog 67 slElem mb cnt D ∧ HIs D hv
theorem Mp.lt {w : World} {mb cnt : Nat} {hv : Int → Int → Value} (h : Mp w mb cnt hv) : mb < w.heap.size := by obtain ⟨_, D, hD, _⟩ := h; exact hD.lt
theorem Mp.kept {w w' : World} {r : Option Nat} {mb cnt : Nat} {hv : Int → Int → Value} (h : Mp w mb cnt hv) (hg : w.grownBy w' r) (hr : some mb ≠ r) : Mp w' mb cnt hv := by
  obtain ⟨hp, D, hD, hi⟩ := h
  exact ⟨hp, D, hD.kept hg hr, hi⟩
theorem Mp.look {w : World} {mb cnt : Nat} {hv : Int → Int → Value} (h : Mp w mb cnt hv) {f t : Int} (hf : WF f) (ht : WF t) :
    (Instr.lookup 60 (.map (some mb)) (pr f t) false).run Try.prog w = .ok (hv f t) w := by
  obtain ⟨hp, D, hD, hi⟩ := h
  obtain ⟨v, ps, hrun, hv'⟩ := hD.lookup kpair Try.underlying60 (zero_ints w) (show slElem (.slice none 0 0) = some (.agg [], []) from rfl) (key_pr hf ht)
  rw [hi f t hf ht] at hv'
  obtain ⟨h1, h2⟩ := slElem_plain hv'
  injection h2 with h2 _
  rw [hrun, encS_inj (hp f t) h1 h2]
theorem Mp.del {w : World} {mb cnt : Nat} {hv : Int → Int → Value} (h : Mp w mb cnt hv) {f t : Int} (hf : WF f) (ht : WF t) (ty : TypeId) :
    ∃ w', (Builtin.delete_ #[60, 67] ty #[.map (some mb), pr f t]).run Try.prog w = .ok (.tuple #[]) w' ∧ Mp w' mb cnt (upd2 hv f t (.slice none 0 0)) ∧ w.grownBy w' (some mb) := by
  obtain ⟨hp, D, hD, hi⟩ := h
  obtain ⟨w', hrun, ho, hm⟩ := hD.drop kpair Try.underlying60 (key_pr hf ht) ty
  exact ⟨w', hrun, ⟨fun f' t' => by unfold upd2; split; exact .inl rfl; exact hp _ _, _, ho, hi.del hf ht⟩, hm.grown⟩
/-- 'm[k] = f(m[k])': the entry, what is made of it meanwhile, the store. -/
theorem Mp.entry {w : World} {mb cnt : Nat} {hv : Int → Int → Value} (h : Mp w mb cnt hv) (hc : cnt ≤ 100000000) {f t : Int} (hf : WF f) (ht : WF t) :
    ∃ st w1, (Instr.mapEntry 60 (.map (some mb)) (pr f t)).run Try.prog w = .ok (.tuple #[hv f t, goInt st]) w1 ∧ w.grownBy w1 (some mb) ∧
      ∀ (w2 : World) (r : Option Nat) (v : Value), Plain v → w1.grownBy w2 r → some mb ≠ r → ∃ w3, (Instr.entryStore 60 (.map (some mb)) (goInt st) v).run Try.prog w2 = .ok () w3 ∧ Mp w3 mb (cnt + 1) (upd2 hv f t v) ∧ w2.grownBy w3 (some mb) := by
  obtain ⟨hp, D, hD, hi⟩ := h
  have hD0 := hD
  obtain ⟨es, clock, hb, F, hs, hDe⟩ := hD
  have ht' := Try.underlying60
  obtain ⟨v0, st, es1, clock1, hrun, hv0, hst⟩ := WideElems.entry_then_store lpair ht' (z := .slice none 0 0) (fun u => zero_ints u) hb F (key_pr hf ht)
  have hlt := hD0.lt
  -- what is found is what lies there
  have hfound : v0 = hv f t := by
    obtain ⟨v, ps, hrun2, hv'⟩ := hD0.lookup kpair ht' (zero_ints w) (show slElem (.slice none 0 0) = some (.agg [], []) from rfl) (key_pr hf ht)
    have hl : (Instr.lookup 60 (.map (some mb)) (pr f t) false).run Try.prog w = .ok v0 w := by
      rcases Go.Maps.fit_look false kpair ht' (zero_ints w) hb F (key_pr hf ht) with ⟨k1, k2, _⟩ | ⟨e0, y, k1, k2, k3, _⟩
      · rcases hv0 with ⟨e0, m1, m2, _⟩ | ⟨_, e⟩
        · exact absurd m2 (k2 e0 m1)
        · rw [e]; simpa using k1
      · rcases hv0 with ⟨e1, m1, m2, m3⟩ | ⟨m1, _⟩
        · have : e1 = e0 := by
            rcases kpair.find w (key_pr hf ht) es.toList F.keys with ⟨_, q⟩ | ⟨j, e, _, q1, q2⟩
            · exact absurd m2 (q e1 m1)
            · obtain ⟨i1, hi1⟩ := List.mem_iff_getElem?.1 m1
              obtain ⟨i2, hi2⟩ := List.mem_iff_getElem?.1 k1
              by_cases hne : i1 = i2
              · subst hne; rw [hi1] at hi2; exact Option.some.inj hi2
              · exact absurd (m2.trans k2.symm) (WideElems.other_key F hi2 hi1 hne)
          rw [m3, this]; simpa using k3
        · exact absurd k2 (m1 e0 k1)
    rw [hrun2] at hl
    injection hl with hl _
    rw [hi f t hf ht] at hv'
    obtain ⟨h1, h2⟩ := slElem_plain hv'
    injection h2 with h2 _
    rw [← hl, ← encS_inj (hp f t) h1 h2]
  subst hfound
  have hsz : ∀ o, (ChangeMaps.setBlock w mb o).heap.size = w.heap.size := fun o => by simp [ChangeMaps.setBlock]
  refine ⟨st, _, hrun, ⟨rfl, rfl, rfl, by rw [hsz]; exact Nat.le_refl _, fun i _ hi => heap_setBlock_other hb _ (fun e => hi (by rw [e]))⟩, fun w2 r v hpl hg hr => ?_⟩
  have hb2 := (hg.block mb (by rw [hsz]; exact hlt) hr).trans (heap_setBlock_same hb _)
  obtain ⟨es', clock', hs1, hs2⟩ := hst w2 v hb2
  obtain ⟨w', hrun3, ho, _⟩ := hD0.update kpair ht' (by simp only [maxLen]; omega) (key_pr hf ht) (slElem_of hpl)
  rw [hs2] at hrun3
  injection hrun3 with _ hw'
  obtain ⟨es2, clock2, hb3, F2, hsz2, hD2⟩ := ho
  rw [← hw', heap_setBlock_same hb] at hb3
  injection hb3 with hb3
  injection hb3 with e1 e2
  subst e1 e2
  exact ⟨_, hs1, ⟨fun f' t' => by unfold upd2; split; exact hpl; exact hp _ _, _, ⟨_, _, heap_setBlock_same hb2 _, F2, hsz2, rfl⟩, by rw [← hD2]; exact hi.put hD0.isMap hf ht v⟩,
    ⟨rfl, rfl, rfl, by simp [ChangeMaps.setBlock], fun i _ hi => heap_setBlock_other hb2 _ (fun e => hi (by rw [e]))⟩⟩
end Go.Proofs.Ytldpljfanlhooaa
