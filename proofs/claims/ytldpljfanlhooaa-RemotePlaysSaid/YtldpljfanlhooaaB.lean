/- Slices of whole numbers: what one reads as; one that has its array to itself; append by an equation. -/
import Derived.Test.YtldpljfanlhooaaG
import Derived.Deep.RegionLaw
import Derived.Laws.OwnMore
import Derived.Laws.CopyRow
import Derived.OwnWalk
namespace Go.Proofs.Ytldpljfanlhooaa
open Go.RowKit

theorem some_ne {a b : Nat} (h : a ≠ b) : some a ≠ some b := fun e => h (Option.some.inj e)
theorem set_grown (w : World) (b i : Nat) (v : Value) : w.grownBy (w.setCell ⟨b, i, none⟩ v) (some b) :=
  ⟨rfl, rfl, rfl, by simp [World.setCell], fun j _ hj => Below.heap_setCell w ⟨b, i, none⟩ v j (fun e => hj (by rw [e]))⟩
theorem addr_add0 (q j : Nat) : (⟨q, 0, none⟩ : Addr).add j = ⟨q, j, none⟩ := by
  by_cases h : j = 0
  · subst h; rfl
  · simp [Addr.add, h]
theorem addr_addo (b o i : Nat) : (⟨b, o, none⟩ : Addr).add i = ⟨b, o + i, none⟩ := by
  by_cases h : i = 0
  · subst h; rfl
  · simp [Addr.add, h]
theorem cell_row {w : World} {g : Nat} {cur : Array Value} {t : TypeId} {fr : Nat × Nat} (h : w.heap[g]? = some (.cells cur t fr)) (k : Nat) : w.cell? ⟨g, k, none⟩ = cur[k]? := by
  simp only [World.cell?, h]
  rfl
theorem info_parts {P : Program} {e : TypeId} {z : Value} {s b : Nat} (h : (P.info? e).map (fun i => (i.zero, i.size, i.bytes)) = some (some z, s, b)) : ∃ i, P.info? e = some i ∧ i.zero = some z ∧ i.size = s ∧ i.bytes = b := by
  cases hi : P.info? e with
  | none => rw [hi] at h; cases h
  | some i =>
    rw [hi] at h
    simp only [Option.map_some, Option.some.injEq, Prod.mk.injEq] at h
    exact ⟨i, rfl, h.1, h.2.1, h.2.2⟩
theorem infoInt : (Try.prog.info? 3).map (fun i => (i.zero, i.size, i.bytes)) = some (some (.int .i64 0), 1, 8) := by kernel_rfl

namespace Is
/-- A list's values. -/
def iv (l : List Int) : List Value := l.map (Value.int .i64)
theorem iv_length (l : List Int) : (iv l).length = l.length := by simp [iv]
theorem iv_at (l : List Int) (i : Nat) (h : i < l.length) : (iv l)[i]? = some (.int .i64 l[i]) := by simp [iv, h]
theorem iv_one (l : List Int) : ∀ u ∈ iv l, u.oneCell' = true := by
  intro u hu
  obtain ⟨i, _, rfl⟩ := List.mem_map.1 hu
  rfl

/-- A slice that reads as a list. -/
def Rd (w : World) (v : Value) (xs : List Int) : Prop :=
  (v = .slice none 0 0 ∧ xs = []) ∨ ∃ g o cap, v = .slice (some ⟨g, o, none⟩) xs.length cap ∧ g < w.heap.size ∧ xs.length ≤ cap ∧ ∀ j (h : j < xs.length), w.cell? ⟨g, o + j, none⟩ = some (.int .i64 xs[j])
/-- A slice that has its array, from its first place on, to itself; the array is no older than block base. -/
def Ow (w : World) (base : Nat) (v : Value) (xs : List Int) : Prop :=
  (v = .slice none 0 0 ∧ xs = []) ∨ ∃ g o cap cur, v = .slice (some ⟨g, o, none⟩) xs.length cap ∧ base ≤ g ∧ w.heap[g]? = some (.cells cur 3 (0, 0)) ∧ xs.length ≤ cap ∧ cap ≤ maxLen ∧ o + cap ≤ cur.size ∧ ∀ j (h : j < xs.length), cur[o + j]? = some (.int .i64 xs[j])
theorem Ow.rd {w : World} {base : Nat} {v : Value} {xs : List Int} (h : Ow w base v xs) : Rd w v xs := by
  rcases h with h | ⟨g, o, cap, cur, h1, h2, h3, h4, h5, h6, h7⟩
  · exact .inl h
  · exact .inr ⟨g, o, cap, h1, (Array.getElem?_eq_some_iff.1 h3).1, h4, fun j hj => by rw [cell_row h3]; exact h7 j hj⟩
theorem Rd.shape {w : World} {v : Value} {xs : List Int} (h : Rd w v xs) : ∃ A cap, v = .slice A xs.length cap ∧ xs.length ≤ cap ∧ (xs.length = 0 ∨ ∃ g o, A = some ⟨g, o, none⟩ ∧ g < w.heap.size ∧ v.ownBlock = some g ∧ ∀ j (h : j < xs.length), w.cell? ⟨g, o + j, none⟩ = some (.int .i64 xs[j])) := by
  rcases h with ⟨rfl, rfl⟩ | ⟨g, o, cap, rfl, h1, h2, h3⟩
  · exact ⟨none, 0, rfl, Nat.le_refl _, .inl rfl⟩
  · exact ⟨some ⟨g, o, none⟩, cap, rfl, h2, .inr ⟨g, o, rfl, h1, rfl, h3⟩⟩
theorem Rd.kept {w w' : World} {row : Option Nat} {v : Value} {xs : List Int} (h : Rd w v xs) (hg : w.grownBy w' row) (hne : v.ownBlock = none ∨ v.ownBlock ≠ row) : Rd w' v xs := by
  rcases h with h | ⟨g, o, cap, rfl, h1, h2, h3⟩
  · exact .inl h
  · have hr : some g ≠ row := by simpa [Value.ownBlock] using hne
    exact .inr ⟨g, o, cap, rfl, Nat.lt_of_lt_of_le h1 hg.size, h2, fun j hj => hg.cell (h3 j hj) hr⟩
theorem Rd.grown {w w' : World} {v : Value} {xs : List Int} (h : Rd w v xs) (hg : w.grownBy w' none) : Rd w' v xs := h.kept hg (by cases v.ownBlock <;> simp)
theorem Rd.lt {w : World} {v : Value} {xs : List Int} (h : Rd w v xs) : ∀ q, v.ownBlock = some q → q < w.heap.size := by
  intro q hq
  rcases h with ⟨rfl, _⟩ | ⟨g, o, cap, rfl, h1, _⟩
  · cases hq
  · simp only [Value.ownBlock, Option.some.injEq] at hq; omega
theorem Ow.kept {w w' : World} {base : Nat} {row : Option Nat} {v : Value} {xs : List Int} (h : Ow w base v xs) (hg : w.grownBy w' row) (hne : v.ownBlock = none ∨ v.ownBlock ≠ row) : Ow w' base v xs := by
  rcases h with h | ⟨g, o, cap, cur, rfl, h2, h3, h4⟩
  · exact .inl h
  · have hr : some g ≠ row := by simpa [Value.ownBlock] using hne
    exact .inr ⟨g, o, cap, cur, rfl, h2, (hg.block g (Array.getElem?_eq_some_iff.1 h3).1 hr).trans h3, h4⟩
theorem Ow.grown {w w' : World} {base : Nat} {v : Value} {xs : List Int} (h : Ow w base v xs) (hg : w.grownBy w' none) : Ow w' base v xs := h.kept hg (by cases v.ownBlock <;> simp)
theorem Ow.ge {w : World} {base : Nat} {v : Value} {xs : List Int} (h : Ow w base v xs) : ∀ q, v.ownBlock = some q → base ≤ q ∧ q < w.heap.size := by
  intro q hq
  refine ⟨?_, h.rd.lt q hq⟩
  rcases h with ⟨rfl, _⟩ | ⟨g, o, cap, cur, rfl, h1, _⟩
  · cases hq
  · simp only [Value.ownBlock, Option.some.injEq] at hq; omega
theorem Ow.drew {w : World} {base : Nat} {v : Value} {xs : List Int} (h : Ow w base v xs) : Ow w.drew base v xs := h.grown (grown_drew1 (grown_refl w none))
theorem Rd.drew {w : World} {v : Value} {xs : List Int} (h : Rd w v xs) : Rd w.drew v xs := h.grown (grown_drew1 (grown_refl w none))
theorem ow_nil (w : World) (base : Nat) : Ow w base (.slice none 0 0) [] := .inl ⟨rfl, rfl⟩
theorem rd_nil (w : World) : Rd w (.slice none 0 0) [] := .inl ⟨rfl, rfl⟩
/-- '[]int{x, ..}': a new array. -/
theorem ow_made (w : World) (base : Nat) (xs : List Int) (hb : base ≤ w.heap.size) (hl : xs.length ≤ maxLen) : Ow (w.alloc (.cells (iv xs).toArray 3)) base (.slice (some ⟨w.heap.size, 0, none⟩) xs.length xs.length) xs :=
  .inr ⟨w.heap.size, 0, xs.length, (iv xs).toArray, rfl, hb, heap_alloc_new w _, Nat.le_refl _, hl, by simp [iv_length], fun j hj => by simp [iv_at xs j hj]⟩
theorem ow_empty (w : World) (base : Nat) (hb : base ≤ w.heap.size) : Ow (w.alloc (.cells #[] 3)) base (.slice (some ⟨w.heap.size, 0, none⟩) 0 0) [] := ow_made w base [] hb (Nat.zero_le _)
theorem ow_one (w : World) (base : Nat) (x : Int) (hb : base ≤ w.heap.size) : Ow (w.alloc (.cells #[.int .i64 x] 3)) base (.slice (some ⟨w.heap.size, 0, none⟩) 1 1) [x] := ow_made w base [x] hb (by simp only [maxLen, List.length_singleton]; omega)
theorem rd_one (w : World) (x : Int) : Rd (w.alloc (.cells #[.int .i64 x] 3)) (.slice (some ⟨w.heap.size, 0, none⟩) 1 1) [x] := (ow_one w 0 x (Nat.zero_le _)).rd

/-- What append has made: the slice reads as both lists, and has its array to itself. -/
structure App (w w' : World) (base : Nat) (v v' : Value) (xs ys : List Int) : Prop where
  own : Ow w' base v' (xs ++ ys)
  grown : w.grownBy w' v.ownBlock
  new : ∀ q, v'.ownBlock = some q → v.ownBlock = some q ∨ w.heap.size ≤ q
theorem seg_at (l : List Value) (k : Nat) (news : List Value) (j : Nat) (hk : k + news.length ≤ l.length) :
    (l.take k ++ news ++ l.drop (k + news.length))[j]? = if j < k then l[j]? else if j < k + news.length then news[j - k]? else l[j]? := by
  rw [List.append_assoc, List.getElem?_append]
  simp only [List.length_take, Nat.min_eq_left (by omega : k ≤ l.length)]
  split
  · rw [List.getElem?_take, if_pos (by assumption)]
  · rw [List.getElem?_append]
    split
    · rw [if_pos (by omega)]
    · rw [if_neg (by omega), List.getElem?_drop]
      congr 1
      omega
theorem app_run {w : World} {base : Nat} {v x : Value} {xs ys : List Int} (hv : Ow w base v xs) (hx : Rd w x ys) (hlen : xs.length + ys.length ≤ 1000000) (hbase : base ≤ w.heap.size) (ty : TypeId) :
    ∃ v' w', (Builtin.append_ #[25, 25] ty #[v, x]).run Try.prog w = .ok v' w' ∧ App w w' base v v' xs ys := by
  obtain ⟨i0, hi, hz0, hz1, hz2⟩ := info_parts infoInt
  have ht : Try.prog.underlying 25 = some (.slice 3) := Try.underlying25
  have hlenV : (iv (xs ++ ys)).length = xs.length + ys.length := by rw [iv_length, List.length_append]
  -- what is grown into a new array
  have grown : ∀ (old : Nat) (row : Option Nat), Ow (w.drew.alloc (.cells ((iv xs).toArray ++ (iv ys).toArray ++ Builtin.zeroCells (Value.int .i64 0).cells (grownCap w (xs.length + ys.length) old 3 - (xs.length + ys.length))) 3)) base
        (.slice (some ⟨w.heap.size, 0, none⟩) (xs.length + ys.length) (grownCap w (xs.length + ys.length) old 3)) (xs ++ ys) ∧
      w.grownBy (w.drew.alloc (.cells ((iv xs).toArray ++ (iv ys).toArray ++ Builtin.zeroCells (Value.int .i64 0).cells (grownCap w (xs.length + ys.length) old 3 - (xs.length + ys.length))) 3)) row := by
    intro old row
    have hge := grownCap_ge w (xs.length + ys.length) old 3
    have hcm : grownCap w (xs.length + ys.length) old 3 ≤ maxLen := grownCap_le_maxLen w _ old _ (by simp only [maxLen]; omega)
    refine ⟨.inr ⟨w.heap.size, 0, _, _, by rw [List.length_append], hbase, heap_alloc_new w.drew _, by rw [List.length_append]; exact hge, hcm, ?_, fun j hj => ?_⟩, ⟨rfl, rfl, rfl, by simp, fun k hk _ => heap_alloc_old w.drew _ hk⟩⟩
    · simp only [Array.size_append, List.size_toArray, size_zeroCells, iv_length]
      have : (Value.int .i64 0).cells.size = 1 := rfl
      rw [this]
      omega
    · rw [Nat.zero_add]
      have e : ((iv xs).toArray ++ (iv ys).toArray) = (iv (xs ++ ys)).toArray := by simp [iv]
      rw [e, Array.getElem?_append_left (by simp [hlenV]; simpa using hj)]
      simp [iv_at (xs ++ ys) j hj]
  rcases hx with ⟨rfl, rfl⟩ | ⟨gx, ox, cx, rfl, hgx, hcx, hxc⟩
  · -- nothing is appended
    refine ⟨v, w, ?_, ?_, grown_refl _ _, fun q hq => .inl hq⟩
    · rcases hv with ⟨rfl, rfl⟩ | ⟨g, o, cap, cur, rfl, h2, h3, h4, h5, h6, h7⟩
      · simp [Builtin.append_, run_underlying ht, sizeOf, typeInfo, hi, Builtin.lenOf, Builtin.firstCells]
      · simp [Builtin.append_, run_underlying ht, sizeOf, typeInfo, hi, Builtin.lenOf, h4, Builtin.firstCells, storeCells]
    · rw [List.append_nil]; exact hv
  · have hnews : ∀ j u, (iv ys)[j]? = some u → w.cell? ((⟨gx, ox, none⟩ : Addr).add j) = some u := fun j u hu => by
      have hj : j < ys.length := by
        have := (List.getElem?_eq_some_iff.1 hu).1
        rwa [iv_length] at this
      rw [iv_at ys j hj] at hu
      rw [addr_addo, ← hu]
      exact hxc j hj
    have hl1 : (iv ys).length = ys.length * i0.size := by rw [iv_length, hz1, Nat.mul_one]
    rcases hv with ⟨rfl, rfl⟩ | ⟨g, o, cap, cur, rfl, h2, h3, h4, h5, h6, h7⟩
    · by_cases h0 : ys = []
      · subst h0
        refine ⟨.slice none 0 0, w, ?_, ⟨ow_nil _ _, grown_refl _ _, fun q hq => by cases hq⟩⟩
        simp [Builtin.append_, run_underlying ht, sizeOf, typeInfo, hi, Builtin.lenOf, Builtin.firstCells, loadCells, loadCellsFrom]
      · have hp : 0 < ys.length := List.length_pos_iff.2 h0
        have hr := run_append_nil (P := Try.prog) w 25 ty 3 i0 (.int .i64 0) ht hi hz0 ⟨gx, ox, none⟩ ys.length cx (iv ys) hl1 hnews hp (by simp only [List.length_nil] at hlen; omega) (by rw [hz2]; simp only [List.length_nil] at hlen; omega)
        have hg := grown 0 none
        simp only [List.length_nil, Nat.zero_add, iv, List.map_nil, List.nil_append, Array.empty_append] at hg hr ⊢
        exact ⟨_, _, hr, ⟨hg.1, hg.2, fun q hq => .inr (by simp only [Value.ownBlock, Option.some.injEq] at hq; omega)⟩⟩
    · by_cases hroom : xs.length + ys.length ≤ cap
      · have hf := run_firstCells_some (P := Try.prog) w i0.size ys.length ⟨gx, ox, none⟩ ys.length cx (iv ys) hl1 hnews
        have hst := run_storeCells_at Try.prog g (o + xs.length) 3 (iv ys) 0 cur w h3 (by rw [iv_length]; omega) (iv_one ys)
        simp only [Nat.add_zero] at hst
        refine ⟨.slice (some ⟨g, o, none⟩) (xs.length + ys.length) cap, w.setRow g (cur.toList.take (o + xs.length) ++ iv ys ++ cur.toList.drop (o + xs.length + (iv ys).length)).toArray, ?_, ?_⟩
        · simp only [hz1] at hf
          have ha : (⟨g, o, none⟩ : Addr).add xs.length = ⟨g, o + xs.length, none⟩ := addr_addo _ _ _
          simp [Builtin.append_, run_underlying ht, sizeOf, typeInfo, hi, Builtin.lenOf, hroom, hz1, hf, ha, hst]
        · refine ⟨.inr ⟨g, o, cap, _, by rw [List.length_append], h2, setRow_heap w g cur _ 3 _ h3, by rw [List.length_append]; exact hroom, h5, ?_, fun j hj => ?_⟩, ⟨rfl, rfl, rfl, by simp, fun k _ hk => setRow_other w g k _ (fun e => hk (by simp [Value.ownBlock, e]))⟩, fun q hq => .inl hq⟩
          · simp only [List.size_toArray, List.length_append, List.length_take, List.length_drop, Array.length_toList, iv_length]
            omega
          · rw [List.length_append] at hj
            simp only [List.getElem?_toArray]
            rw [seg_at cur.toList (o + xs.length) (iv ys) (o + j) (by have hcs : cur.toList.length = cur.size := Array.length_toList; rw [iv_length]; omega), iv_length]
            by_cases hjx : j < xs.length
            · rw [if_pos (by omega), List.getElem_append_left hjx]
              simpa using h7 j hjx
            · rw [if_neg (by omega), if_pos (by omega), List.getElem_append_right (by omega), show o + j - (o + xs.length) = j - xs.length by omega]
              exact iv_at ys _ (by omega)
      · have holds : ∀ j u, (iv xs)[j]? = some u → w.cell? ((⟨g, o, none⟩ : Addr).add j) = some u := fun j u hu => by
          have hj : j < xs.length := by
            have := (List.getElem?_eq_some_iff.1 hu).1
            rwa [iv_length] at this
          rw [iv_at xs j hj] at hu
          rw [addr_addo, ← hu, cell_row h3]
          exact h7 j hj
        have hr := run_append_grow (P := Try.prog) w 25 ty 3 i0 (.int .i64 0) ht hi hz0 ⟨g, o, none⟩ xs.length cap (iv xs) (by rw [iv_length, hz1, Nat.mul_one]) holds ⟨gx, ox, none⟩ ys.length cx (iv ys) hl1 hnews (by omega) (by omega) (growslice_fits (by omega) (by rw [hz2]; omega))
        have hg := grown cap (Value.ownBlock (.slice (some ⟨g, o, none⟩) xs.length cap))
        exact ⟨_, _, hr, ⟨hg.1, hg.2, fun q hq => .inr (by simp only [Value.ownBlock, Option.some.injEq] at hq; omega)⟩⟩
end Is
/-- append, under a name of its own: so that a walk takes it by an equation. -/
noncomputable def appS (ats : Array TypeId) (ty : TypeId) (vs : Array Value) : Sem Value := Builtin.append_ ats ty vs
theorem appS_of (ats : Array TypeId) (ty : TypeId) (vs : Array Value) : Builtin.append_ ats ty vs = appS ats ty vs := rfl
theorem Is.app_runS {w : World} {base : Nat} {v x : Value} {xs ys : List Int} (hv : Is.Ow w base v xs) (hx : Is.Rd w x ys) (hlen : xs.length + ys.length ≤ 1000000) (hbase : base ≤ w.heap.size) (ty : TypeId) :
    ∃ v' w', (appS #[25, 25] ty #[v, x]).run Try.prog w = .ok v' w' ∧ Is.App w w' base v v' xs ys := Is.app_run hv hx hlen hbase ty
/-- append by an equation, in a walk. -/
theorem wpList_append_run {P : Program} {ops : Array Oper} {rest : List Oper} {o : Oper} {a : Act} {w : World} {Q : Exit → Act → World → Prop} (hgd : o.guard = none) (s x : Operand) (t : TypeId)
    (ho : o.op = .call { callee := .builtin .append, args := #[s, x], argTypes := #[t, t] }) (v1 v2 v' : Value) (w' : World) (hs : a.eval s = v1) (hx : a.eval x = v2)
    (hrun : (Builtin.append_ #[t, t] o.type #[v1, v2]).run P w = .ok v' w') (h : wpList P ops Q rest (a.put o.dst v') w') : wpList P ops Q (o :: rest) a w := by
  refine wpList_plain hgd fun K hK => ?_
  unfold Oper.wp
  simp [execOp, ho, resolve, invoke, builtin, hs, hx, hrun, Result.andThen]
  exact hK _ _ h
/-- append by an equation, as one step of a region that draws. -/
theorem step_append_run {P : Program} {ops : Array Oper} {o : Oper} {a : Go.Act} {w : World} {K : Go.Act → World → Prop} {Q : Exit → Go.Act → World → Prop} {E : Prop}
    (hg : o.guard = none) (s x : Operand) (t : TypeId) (hop : o.op = Op.call { callee := Callee.builtin Builtin.append, args := #[s, x], argTypes := #[t, t] })
    (v1 v2 v' : Value) (w' : World) (hs : a.eval s = v1) (hx : a.eval x = v2) (hrun : (Builtin.append_ #[t, t] o.type #[v1, v2]).run P w = .ok v' w') (hK : K (a.put o.dst v') w') :
    if Region.wanted o (yielded ops a.tmps) = true then Oper.wp P o a w K Q else E := by
  have hw : Region.wanted o (yielded ops a.tmps) = true := by simp [Region.wanted, hg]
  rw [if_pos hw]
  unfold Oper.wp execOp
  simp only [hop, resolve, invoke, builtin, Sem.run_bind, Sem.run_pure, Result.andThen_ok, List.map_toArray, List.map_cons, List.map_nil, hs, hx, hrun]
  exact hK
/-! ### all but the first -/
namespace Is
def tlA (A : Option Addr) (cap : Nat) : Option Addr := if cap = 1 then A else A.map (·.add 1)
theorem tl_run (A : Option Addr) (n cap : Nat) (hn : 1 ≤ n) (W : World) :
    (Instr.sliceAt 25 (.slice A n cap) (some (.int .i64 1)) none none).run Try.prog W = .ok (.slice (tlA A cap) (n - 1) (cap - 1)) W := by
  obtain ⟨i0, hi, hz0, hz1, hz2⟩ := info_parts infoInt
  have ht : Try.prog.underlying 25 = some (.slice 3) := Try.underlying25
  have h1 : (1 : Int) ≤ n := by omega
  simp [Instr.sliceAt, Instr.slice, run_underlying ht, Instr.sliceBounds, Instr.sliceBound, asIntOf, sizeOf, typeInfo, hi, hz1, h1, tlA]
theorem Rd.tl {w : World} {A : Option Addr} {n cap : Nat} {x : Int} {xs : List Int} (h : Rd w (.slice A n cap) (x :: xs)) : Rd w (.slice (tlA A cap) (n - 1) (cap - 1)) xs := by
  rcases h with ⟨_, h⟩ | ⟨g, o, c, e, h1, h2, h3⟩
  · cases h
  · injection e with e1 e2 e3
    subst e1 e2 e3
    unfold tlA
    simp only [List.length_cons] at h2 h3
    split
    · have : xs = [] := List.eq_nil_of_length_eq_zero (by omega)
      subst this
      exact .inr ⟨g, o, _, rfl, h1, by simp, fun j hj => by simp at hj⟩
    · refine .inr ⟨g, o + 1, cap - 1, by simp [addr_addo], h1, by omega, fun j hj => ?_⟩
      have := h3 (j + 1) (by omega)
      rw [show o + 1 + j = o + (j + 1) by omega, this]
      rfl
theorem Ow.tl {w : World} {base : Nat} {A : Option Addr} {n cap : Nat} {x : Int} {xs : List Int} (h : Ow w base (.slice A n cap) (x :: xs)) : Ow w base (.slice (tlA A cap) (n - 1) (cap - 1)) xs := by
  rcases h with ⟨_, h⟩ | ⟨g, o, c, cur, e, h1, h2, h3, h4, h5, h6⟩
  · cases h
  · injection e with e1 e2 e3
    subst e1 e2 e3
    unfold tlA
    simp only [List.length_cons] at h3 h6
    split
    · have : xs = [] := List.eq_nil_of_length_eq_zero (by omega)
      subst this
      exact .inr ⟨g, o, _, cur, rfl, h1, h2, by simp, by omega, by omega, fun j hj => by simp at hj⟩
    · refine .inr ⟨g, o + 1, cap - 1, cur, by simp [addr_addo], h1, h2, by omega, by omega, by omega, fun j hj => ?_⟩
      have := h6 (j + 1) (by omega)
      rw [show o + 1 + j = o + (j + 1) by omega, this]
      rfl
theorem tl_own (A : Option Addr) (n m k cap : Nat) : ∀ q, (Value.slice (tlA A cap) n m).ownBlock = some q → (Value.slice A k cap).ownBlock = some q := by
  intro q hq
  unfold tlA at hq
  split at hq
  · cases A <;> simp_all [Value.ownBlock]
  · cases A with
    | none => simp [Value.ownBlock] at hq
    | some a => simpa [Value.ownBlock, Addr.add] using hq
end Is
/-! ### blocks of values; make -/
structure ValsAt (w : World) (q n : Nat) (f : Nat → Value) : Prop where
  c : ∀ i, i < n → w.cell? ⟨q, i, none⟩ = some (f i)
  fz : ∀ k, w.frozen? ⟨q, k, none⟩ = false
  qlt : q < w.heap.size
theorem ValsAt.kept {w w' : World} {q n : Nat} {f : Nat → Value} {r : Option Nat} (h : ValsAt w q n f) (hg : w.grownBy w' r) (hr : some q ≠ r) : ValsAt w' q n f :=
  ⟨fun i hi => hg.cell (h.c i hi) hr, fun k => by rw [World.frozen?_of_block (hg.block q h.qlt hr)]; exact h.fz k, Nat.lt_of_lt_of_le h.qlt hg.size⟩
theorem ValsAt.congr {w : World} {q n : Nat} {f g : Nat → Value} (h : ValsAt w q n f) (e : ∀ i, i < n → f i = g i) : ValsAt w q n g :=
  ⟨fun i hi => by rw [← e i hi]; exact h.c i hi, h.fz, h.qlt⟩
theorem ValsAt.set {w : World} {q n : Nat} {f : Nat → Value} (h : ValsAt w q n f) (k : Nat) (v : Value) : ValsAt (w.setCell ⟨q, k, none⟩ v) q n (fun i => if i = k then v else f i) where
  c := fun i hi => by
    show _ = some (if i = k then v else f i)
    by_cases e : i = k
    · subst e
      rw [if_pos rfl]
      exact World.cell?_setCell_same' _ _ _ (by rw [h.c i hi]; rfl)
    · rw [World.cell?_setCell_other _ _ _ _ (fun x => e (congrArg Addr.off x).symm), if_neg e]
      exact h.c i hi
  fz := fun j => by rw [World.frozen?_setCell]; exact h.fz j
  qlt := by have := h.qlt; simpa [World.setCell] using this
theorem run_make_rowN {P : Program} (t e : TypeId) (i : TypeInfo) (z : Value) (ht : P.underlying t = some (.slice e)) (hi : P.info? e = some i) (hz : i.zero = some z)
    (kl kc : IntKind) (n c : Nat) (hnc : n ≤ c) (hbytes : i.bytes * c ≤ 281474976710656) (h63 : c ≤ 9223372036854775807) (w : World) :
    (Instr.makeSlice t (.int kl (n : Int)) (.int kc (c : Int))).run P w = .ok (.slice (some ⟨w.heap.size, 0, none⟩) n c) (w.alloc (.cells (madeCells z.cells (c * i.size)) e)) := by
  have hb : (i.bytes : Int) * (c : Int) ≤ 281474976710656 := by
    have h : ((i.bytes * c : Nat) : Int) ≤ 281474976710656 := by omega
    rwa [Int.natCast_mul] at h
  have hr := run_make (P := P) w t e i z ht hi hz kl kc n c (by omega) (by omega) hb (by omega)
  simp only [Int.toNat_natCast] at hr
  exact hr
/-- n noughts; n slices that are not there. -/
def zeroInts (n : Nat) : Array Value := madeCells (Value.int .i64 0).cells (n * 1)
theorem zeroInts_at (n k : Nat) (h : k < n) : (zeroInts n)[k]? = some (.int .i64 0) := by
  simp [zeroInts, madeCells, Value.cells, h, Nat.mod_one]
theorem ints_new (w : World) (t : TypeId) (n : Nat) : ValsAt (w.alloc (.cells (zeroInts n) t)) w.heap.size n (fun _ => .int .i64 0) where
  c := fun i hi => by rw [cell_alloc_new]; exact zeroInts_at n i hi
  fz := fun k => frozen_alloc_new ..
  qlt := by simp
theorem make_ints (w : World) (n : Nat) (hn : n ≤ 100000) : (Instr.makeSlice 25 (.int .i64 (n : Int)) (.int .i64 (n : Int))).run Try.prog w = .ok (.slice (some ⟨w.heap.size, 0, none⟩) n n) (w.alloc (.cells (zeroInts n) 3)) := by
  obtain ⟨i0, hi, hz0, hz1, hz2⟩ := info_parts infoInt
  have h := run_make_rowN (P := Try.prog) 25 3 i0 _ Try.underlying25 hi hz0 .i64 .i64 n n (Nat.le_refl _) (by rw [hz2]; omega) (by omega) w
  rw [hz1] at h
  exact h
theorem infoInts : (Try.prog.info? 25).map (fun i => (i.zero, i.size, i.bytes)) = some (some (.slice none 0 0), 1, 24) := by kernel_rfl
def zeroSl (n : Nat) : Array Value := madeCells (Value.slice none 0 0).cells (n * 1)
theorem zeroSl_at (n k : Nat) (h : k < n) : (zeroSl n)[k]? = some (.slice none 0 0) := by
  simp [zeroSl, madeCells, Value.cells, h, Nat.mod_one]
theorem sl_new (w : World) (t : TypeId) (n : Nat) : ValsAt (w.alloc (.cells (zeroSl n) t)) w.heap.size n (fun _ => .slice none 0 0) where
  c := fun i hi => by rw [cell_alloc_new]; exact zeroSl_at n i hi
  fz := fun k => frozen_alloc_new ..
  qlt := by simp
theorem make_sl (w : World) (n : Nat) (hn : n ≤ 100000) : (Instr.makeSlice 59 (.int .i64 (n : Int)) (.int .i64 (n : Int))).run Try.prog w = .ok (.slice (some ⟨w.heap.size, 0, none⟩) n n) (w.alloc (.cells (zeroSl n) 25)) := by
  obtain ⟨i0, hi, hz0, hz1, hz2⟩ := info_parts infoInts
  have h := run_make_rowN (P := Try.prog) 59 25 i0 _ Try.underlying59 hi hz0 .i64 .i64 n n (Nat.le_refl _) (by rw [hz2]; omega) (by omega) w
  rw [hz1] at h
  exact h
end Go.Proofs.Ytldpljfanlhooaa
