/- The walk of what the law does within a Do. -/
import Derived.Test.YtbpganholopjfaaAQ
import Derived.Deep.RegionLaw
import Derived.RegionDies
namespace Go.Proofs.Ytbpganholopjfaa
open Go.RowKit

/-- What is wrong with an act. -/
def erA (N : Nat) (t : A3) : Int := if t.k = 2 then (if t.x % 2 = 1 then 0 else 8) else wbE N t.a
/-- The bytes behind the first acts. -/
def bk (F : Nat → A3) (B : Nat → Nat) : Nat → Nat → Nat
  | 0 => B
  | k + 1 => if (F k).k = 1 then Ar.setW (bk F B k) (F k).a.toNat (F k).x else bk F B k
/-- What Get told. -/
def tl (N : Nat) (F : Nat → A3) (B : Nat → Nat) : Nat → List Nat
  | 0 => []
  | k + 1 => if (F k).k = 0 then tl N F B k ++ [wordV (bk F B k) N (F k).a] else tl N F B k
theorem tl_len (N : Nat) (F : Nat → A3) (B : Nat → Nat) : ∀ k, (tl N F B k).length ≤ k
  | 0 => by simp [tl]
  | k + 1 => by
    have := tl_len N F B k
    unfold tl
    split
    · rw [List.length_append]; simp; omega
    · omega
def u64s (L : List Nat) : List Value := L.map fun (x : Nat) => Value.int .u64 x
theorem u64s_snoc (L : List Nat) (v : Nat) : u64s (L ++ [v]) = u64s L ++ [.int .u64 (v : Nat)] := by simp [u64s]
/-- What was told, at a row of the walk's own. -/
structure Told (w : World) (base : Nat) (s : Value) (L : List Nat) : Prop where
  row : w.ownsRow base 27 1 s L.length (u64s L)
  ne : s.ownBlock = none ∨ 0 < L.length
theorem Told.sep {w : World} {base : Nat} {s : Value} {L : List Nat} {p q u mb N cap : Nat} {B B0 : Nat → Nat} {D : DataW Unit} {cnt rt : Nat} {fl : Int} (h : Told w base s L) (hst : DoSt w p q u mb N cap B B0 D cnt rt fl) (hp : p < base) (hq : q < base) (hu : u < base) (hm : mb < base) :
    ∀ i, DoSt.Own p q u mb D i → some i ≠ s.ownBlock := by
  intro i hi e
  have hlt := (h.row.lt i e.symm).1
  rcases hi with x | x | x | x | ⟨kl, bc, hk, ha⟩
  · omega
  · omega
  · omega
  · omega
  · obtain ⟨pg, b, bc', _, _, ha', hb, _⟩ := hst.keys kl hk
    obtain ⟨rfl, _⟩ := slD_inj ((ha .nil).symm.trans (ha' .nil))
    rcases h.ne with h0 | h0
    · rw [h0] at e; cases e
    · cases L with
      | nil => simp at h0
      | cons x r =>
        have h1 := h.row.cells e.symm 0 (.int .u64 (x : Nat)) rfl
        rw [aaddr_add, hb.c 0 (by omega)] at h1
        simp at h1
theorem own_not {w : World} {p q u mb N cap c : Nat} {B B0 : Nat → Nat} {D : DataW Unit} {cnt rt : Nat} {fl : Int} (hst : DoSt w p q u mb N cap B B0 D cnt rt fl) {A : Option Addr} {n k : Nat} (hc : w.cell? ⟨c, 0, none⟩ = some (.slice A n k)) (hp : c ≠ p) (hq : c ≠ q) (hu : c ≠ u) (hm : c ≠ mb) : ∀ i, DoSt.Own p q u mb D i → i ≠ c := by
  rintro i hi rfl
  rcases hi with x | x | x | x | ⟨kl, bc, hk, ha⟩
  · exact hp x
  · exact hq x
  · exact hu x
  · exact hm x
  · obtain ⟨pg, b, bc', _, _, ha', hb, _⟩ := hst.keys kl hk
    obtain ⟨rfl, _⟩ := slD_inj ((ha .nil).symm.trans (ha' .nil))
    have := hb.c 0 (by omega)
    rw [hc] at this
    simp at this
theorem Told.fr {w w' : World} {may : Nat → Prop} {base : Nat} {s : Value} {L : List Nat} (h : Told w base s L) (g : Fr may w w') (hn : ∀ i, base ≤ i → ¬ may i) : Told w' base s L := by
  refine ⟨?_, h.ne⟩
  have hlt := h.row.lt
  obtain ⟨h1, h2 | ⟨gb, cap, cur, rfl, hbg, hh, rest⟩⟩ := h.row
  · exact ⟨h1, .inl h2⟩
  · exact ⟨h1, .inr ⟨gb, cap, cur, rfl, hbg, (g.block gb (Array.getElem?_eq_some_iff.1 hh).1 (hn gb hbg)).trans hh, rest⟩⟩

/-- What the loop over the acts knows. -/
structure ActL (W wr : World) (p q u mb tb N cap n : Nat) (F : Nat → A3) (B : Nat → Nat) (k : Nat) : Prop where
  le : k ≤ n
  ok : ∀ j, j < k → erA N (F j) = 0
  st : ∃ D cnt, cnt ≤ k ∧ DoSt wr p q u mb N cap (bk F B k) B D cnt k 0
  fr : Fr (fun i => i = q ∨ i = u ∨ i = mb ∨ i = tb) W wr
  z : wr.frozen? ⟨tb, 0, none⟩ = false
  told : ∃ A c, wr.cell? ⟨tb, 0, none⟩ = some (.slice A (tl N F B k).length c) ∧ Told wr W.heap.size (.slice A (tl N F B k).length c) (tl N F B k)

/-- What the acts leave behind. -/
structure ActEnd (W w2 : World) (tb N n : Nat) (F : Nat → A3) (B B' : Nat → Nat) (rt : Nat) (fl : Int) : Prop where
  le : rt ≤ n
  ok : ∀ j, j < rt → erA N (F j) = 0
  end_ : (rt = n ∧ fl = 0) ∨ (rt < n ∧ fl ≠ 0 ∧ fl = erA N (F rt))
  b : B' = bk F B rt
  told : ∃ A c, w2.cell? ⟨tb, 0, none⟩ = some (.slice A (tl N F B rt).length c) ∧ Told w2 W.heap.size (.slice A (tl N F B rt).length c) (tl N F B rt)

/-- What stands where, when the acts begin. -/
structure DoSep (W : World) (p q u mb tb : Nat) : Prop where
  lp : p < W.heap.size
  lq : q < W.heap.size
  lu : u < W.heap.size
  lm : mb < W.heap.size
  lt : tb < W.heap.size
  tp : tb ≠ p
  tq : tb ≠ q
  tu : tb ≠ u
  tm : tb ≠ mb
theorem ActL.grown {W wr w' : World} {p q u mb tb N cap n k : Nat} {F : Nat → A3} {B : Nat → Nat} (h : ActL W wr p q u mb tb N cap n F B k) (S : DoSep W p q u mb tb) (g : wr.grownBy w' none) : ActL W w' p q u mb tb N cap n F B k := by
  obtain ⟨D, cnt, hc, hst⟩ := h.st
  obtain ⟨A, c, h1, h2⟩ := h.told
  have htb : tb < wr.heap.size := Nat.lt_of_lt_of_le S.lt h.fr.size
  exact ⟨h.le, h.ok, ⟨D, cnt, hc, hst.grown g⟩, h.fr.trans (fr_none (may := fun i => i = q ∨ i = u ∨ i = mb ∨ i = tb) g) (fun _ _ x => x) (fun _ _ x => x), by rw [World.frozen?_of_block (w := wr) (g.block tb htb (by simp))]; exact h.z, ⟨A, c, g.cell h1 (by simp), h2.fr (may := fun _ => False) (fr_none g) (fun _ _ x => x)⟩⟩
theorem ActL.ok1 {W wr w3 : World} {p q u mb tb N cap n k cnt : Nat} {F : Nat → A3} {B : Nat → Nat} {D : DataW Unit} (h : ActL W wr p q u mb tb N cap n F B k) (S : DoSep W p q u mb tb) (hk : k < n) (he : erA N (F k) = 0) (h0 : (F k).k ≠ 0) (hc : cnt ≤ k)
    (hok : ActOk wr p q u mb N cap (bk F B (k + 1)) B D cnt k w3) : ActL W w3 p q u mb tb N cap n F B (k + 1) := by
  obtain ⟨A, c, h1, h2⟩ := h.told
  obtain ⟨D', cnt', hc', hst', hfr, _⟩ := hok
  have e : tl N F B (k + 1) = tl N F B k := by rw [tl, if_neg h0]
  have htb : tb < wr.heap.size := Nat.lt_of_lt_of_le S.lt h.fr.size
  have hn : ¬ (tb = q ∨ tb = u ∨ tb = mb) := by rintro (x | x | x); exact S.tq x; exact S.tu x; exact S.tm x
  refine ⟨hk, fun j hj => ?_, ⟨D', cnt', by omega, hst'⟩, h.fr.trans hfr (fun _ _ x => x) (fun i _ x => by rcases x with x | x | x <;> simp [x]), by rw [hfr.frozen htb hn]; exact h.z, ⟨A, c, ?_, ?_⟩⟩
  · by_cases hjk : j = k
    · rw [hjk]; exact he
    · exact h.ok j (by omega)
  · rw [e]; exact hfr.cell h1 hn
  · rw [e]
    refine h2.fr hfr (fun i hi => ?_)
    have := S.lq; have := S.lu; have := S.lm
    omega
theorem ActL.ok0 {W wr w3 w4 : World} {p q u mb tb N cap n k cnt v : Nat} {F : Nat → A3} {B : Nat → Nat} {D : DataW Unit} {A A' : Option Addr} {c c' : Nat} (o : Obj) (h : ActL W wr p q u mb tb N cap n F B k) (S : DoSep W p q u mb tb) (hk : k < n) (he : erA N (F k) = 0) (h0 : (F k).k = 0) (hc : cnt ≤ k)
    (hv : v = wordV (bk F B k) N (F k).a) (htold : Told wr W.heap.size (.slice A (tl N F B k).length c) (tl N F B k))
    (hok : ActOk wr p q u mb N cap (bk F B k) B D cnt k w3) (hrow : w4.ownsRow W.heap.size 27 1 (.slice A' ((tl N F B k).length + 1) c') ((tl N F B k).length + 1) (u64s (tl N F B k) ++ [.int .u64 (v : Nat)])) (hg : (w3.alloc o).grownBy w4 (Value.slice A (tl N F B k).length c).ownBlock)
    (hcell : w3.cell? ⟨tb, 0, none⟩ = some (.slice A (tl N F B k).length c)) :
    ActL W (w4.setCell ⟨tb, 0, none⟩ (.slice A' ((tl N F B k).length + 1) c')) p q u mb tb N cap n F B (k + 1) := by
  obtain ⟨D', cnt', hc', hst', hfr, _⟩ := hok
  have hb : bk F B (k + 1) = bk F B k := by rw [bk, if_neg (by omega)]
  have e : tl N F B (k + 1) = tl N F B k ++ [v] := by rw [tl, if_pos h0, hv]
  have hn : ¬ (tb = q ∨ tb = u ∨ tb = mb) := by rintro (x | x | x); exact S.tq x; exact S.tu x; exact S.tm x
  have hs3 : W.heap.size ≤ w3.heap.size := Nat.le_trans h.fr.size hfr.size
  have T3 : Told w3 W.heap.size (.slice A (tl N F B k).length c) (tl N F B k) := htold.fr hfr (fun i hi => by have := S.lq; have := S.lu; have := S.lm; omega)
  have ga : w3.grownBy (w3.alloc o) none := grown_alloc _ _ _
  have Ta : Told (w3.alloc o) W.heap.size (.slice A (tl N F B k).length c) (tl N F B k) := T3.fr (may := fun _ => False) (fr_none ga) (fun _ _ x => x)
  have hsa := hst'.grown ga
  have sep := Ta.sep hsa S.lp S.lq S.lu S.lm
  have hs4 : DoSt w4 p q u mb N cap (bk F B k) B D' cnt' (k + 1) 0 := hsa.fr (fr_of hg) (fun i _ ho => sep i ho)
  have ht4 : some tb ≠ (Value.slice A (tl N F B k).length c).ownBlock := fun x => by have := (Ta.row.lt tb x.symm).1; have := S.lt; omega
  have c4 : w4.cell? ⟨tb, 0, none⟩ = some (.slice A (tl N F B k).length c) := hg.cell (ga.cell hcell (by simp)) ht4
  have nt := own_not hs4 c4 S.tp S.tq S.tu S.tm
  have hs5 := hs4.fr (fr_set w4 tb 0 (.slice A' ((tl N F B k).length + 1) c')) (fun i _ ho => nt i ho)
  have F34 : Fr (fun i => some i = (Value.slice A (tl N F B k).length c).ownBlock) w3 w4 := (fr_none ga).trans (fr_of hg) (fun _ _ x => x) (fun _ _ x => x)
  have htb : tb < wr.heap.size := Nat.lt_of_lt_of_le S.lt h.fr.size
  have htb3 : tb < w3.heap.size := Nat.lt_of_lt_of_le htb hfr.size
  refine ⟨hk, fun j hj => ?_, ⟨D', cnt', by omega, by rw [hb]; exact hs5⟩, ?_, ?_, ⟨A', c', ?_, ?_⟩⟩
  · by_cases hjk : j = k
    · rw [hjk]; exact he
    · exact h.ok j (by omega)
  · refine (h.fr.trans hfr (fun _ _ x => x) (fun i _ x => by rcases x with x | x | x <;> simp [x]) : Fr (fun i => i = q ∨ i = u ∨ i = mb ∨ i = tb) W w3).trans (F34.trans (fr_set w4 tb 0 _) (may'' := fun i => some i = (Value.slice A (tl N F B k).length c).ownBlock ∨ i = tb) (fun _ _ x => .inl x) (fun _ _ x => .inr x)) (fun _ _ x => x) (fun i hi x => ?_)
    rcases x with x | x
    · have := (Ta.row.lt i x.symm).1; omega
    · exact .inr (.inr (.inr x))
  · rw [World.frozen?_setCell, F34.frozen htb3 ht4, hfr.frozen htb hn]
    exact h.z
  · rw [e, List.length_append, List.length_singleton]
    exact World.cell?_setCell_same' _ _ _ (by rw [c4]; rfl)
  · rw [e, List.length_append, List.length_singleton]
    have T4 : Told w4 W.heap.size (.slice A' ((tl N F B k).length + 1) c') (tl N F B k ++ [v]) := ⟨by rw [u64s_snoc, List.length_append, List.length_singleton]; exact hrow, .inr (by simp)⟩
    exact T4.fr (fr_set w4 tb 0 _) (fun i hi x => by have := S.lt; omega)
theorem ActL.done {W wr : World} {p q u mb tb N cap n : Nat} {F : Nat → A3} {B : Nat → Nat} (h : ActL W wr p q u mb tb N cap n F B n) : ∃ B' D cnt rt fl, Ending.returned (.tuple #[]) = (if fl = (0 : Int) then .returned (.tuple #[]) else .panicked (stopOf u)) ∧ DoSt wr p q u mb N cap B' B D cnt rt fl ∧ Fr (fun i => i = q ∨ i = u ∨ i = mb ∨ i = tb) W wr ∧ ActEnd W wr tb N n F B B' rt fl := by
  obtain ⟨D, cnt, hc, hst⟩ := h.st
  exact ⟨_, D, cnt, n, 0, by rw [if_pos rfl], hst, h.fr, ⟨Nat.le_refl _, h.ok, .inl ⟨rfl, rfl⟩, rfl, h.told⟩⟩
theorem ActL.stop {W wr w3 : World} {p q u mb tb N cap n k cnt : Nat} {er : Int} {F : Nat → A3} {B : Nat → Nat} {D : DataW Unit} (h : ActL W wr p q u mb tb N cap n F B k) (S : DoSep W p q u mb tb) (hk : k < n) (he : erA N (F k) = er) (hz : er ≠ 0)
    (hbad : ActBad wr p q u mb N cap (bk F B k) B D cnt k er w3) : ∃ B' D cnt rt fl, Ending.panicked (stopOf u) = (if fl = (0 : Int) then .returned (.tuple #[]) else .panicked (stopOf u)) ∧ DoSt w3 p q u mb N cap B' B D cnt rt fl ∧ Fr (fun i => i = q ∨ i = u ∨ i = mb ∨ i = tb) W w3 ∧ ActEnd W w3 tb N n F B B' rt fl := by
  obtain ⟨A, c, h1, h2⟩ := h.told
  obtain ⟨hst, hfr⟩ := hbad
  have hn : ¬ (tb = q ∨ tb = u ∨ tb = mb) := by rintro (x | x | x); exact S.tq x; exact S.tu x; exact S.tm x
  exact ⟨_, D, cnt, k, er, by rw [if_neg hz], hst, h.fr.trans hfr (fun _ _ x => x) (fun i _ x => by rcases x with x | x | x <;> simp [x]), ⟨by omega, h.ok, .inr ⟨hk, hz, he.symm⟩, rfl, ⟨A, c, hfr.cell h1 hn, h2.fr hfr (fun i hi => by have := S.lq; have := S.lu; have := S.lm; omega)⟩⟩⟩

theorem infoU64 : (Try.prog.info? 27).map (fun i => (i.zero, i.size, i.bytes)) = some (some (.int .u64 0), 1, 8) := by kernel_rfl

/-- append by an equation, as one step of a region that draws. -/
theorem step_append_run {P : Program} {ops : Array Oper} {o : Oper} {a : Go.Act} {w : World} {K : Go.Act → World → Prop} {Q : Exit → Go.Act → World → Prop} {E : Prop}
    (hg : o.guard = none) (s x : Operand) (t : TypeId) (hop : o.op = Op.call { callee := Callee.builtin Builtin.append, args := #[s, x], argTypes := #[t, t] })
    (v1 v2 v' : Value) (w' : World) (hs : a.eval s = v1) (hx : a.eval x = v2) (hrun : (Builtin.append_ #[t, t] o.type #[v1, v2]).run P w = .ok v' w') (hK : K (a.put o.dst v') w') :
    if Region.wanted o (yielded ops a.tmps) = true then Oper.wp P o a w K Q else E := by
  have hw : Region.wanted o (yielded ops a.tmps) = true := by simp [Region.wanted, hg]
  rw [if_pos hw]
  unfold Oper.wp execOp
  simp only [hop, resolve, invoke, builtin, Sem.run_bind, Sem.run_pure, Result.andThen_ok, List.map_toArray, List.map_cons, List.map_nil, hs, hx, hrun]
  exact hK

/-- What a call of Get and the append behind it leave. -/
theorem tell_step {W w1 W' : World} {p q u mb tb vb N cap n k c1 : Nat} {ta : Int} {F : Nat → A3} {B : Nat → Nat} {A1 : Option Addr} (hl : ActL W w1 p q u mb tb N cap n F B k) (S : DoSep W p q u mb tb) (hn : n ≤ 1000000) (hk : k < n) (h0 : (F k).k = 0) (ha : (F k).a = ta) (he : wbE N ta = 0)
    (hvb : w1.cell? ⟨vb, 0, none⟩ = some (.pointer (some ⟨u, 0, none⟩))) (hcell : w1.cell? ⟨tb, 0, none⟩ = some (.slice A1 (tl N F B k).length c1)) (htold : Told w1 W.heap.size (.slice A1 (tl N F B k).length c1) (tl N F B k)) (g : w1.grownBy W' none) :
    Calls Try.prog 32 #[.pointer (some ⟨vb, 0, none⟩), .int .i64 ta] W' fun e w3 => e = .returned (.int .u64 (wordV (bk F B k) N ta : Nat)) ∧ w3.cell? ⟨tb, 0, none⟩ = some (.slice A1 (tl N F B k).length c1) ∧
      (w3.alloc (.cells #[.int .u64 (wordV (bk F B k) N ta : Nat)] 27)).cell? ⟨tb, 0, none⟩ = some (.slice A1 (tl N F B k).length c1) ∧ ∃ A' c' w4,
      (Builtin.append_ #[44, 44] 44 #[.slice A1 (tl N F B k).length c1, .slice (some ⟨w3.heap.size, 0, none⟩) 1 1]).run Try.prog (w3.alloc (.cells #[.int .u64 (wordV (bk F B k) N ta : Nat)] 27)) = .ok (.slice A' ((tl N F B k).length + 1) c') w4 ∧
      w4.cell? ⟨tb, 0, none⟩ = some (.slice A1 (tl N F B k).length c1) ∧ w4.frozen? ⟨tb, 0, none⟩ = false ∧ ActL W (w4.setCell ⟨tb, 0, none⟩ (.slice A' ((tl N F B k).length + 1) c')) p q u mb tb N cap n F B (k + 1) := by
  have hl' := hl.grown S g
  obtain ⟨D, cnt, hcnt, hst⟩ := hl'.st
  refine (get_good hst (g.cell hvb (by simp)) (by omega) ta he).mono ?_
  rintro e w3 ⟨rfl, hok⟩
  obtain ⟨D', cnt', hc', hst', hfr, hown⟩ := hok
  have hok : ActOk W' p q u mb N cap (bk F B k) B D cnt k w3 := ⟨D', cnt', hc', hst', hfr, hown⟩
  generalize hv : wordV (bk F B k) N ta = v
  have hn3 : ¬ (tb = q ∨ tb = u ∨ tb = mb) := by rintro (x | x | x); exact S.tq x; exact S.tu x; exact S.tm x
  have hc3 : w3.cell? ⟨tb, 0, none⟩ = some (.slice A1 (tl N F B k).length c1) := hfr.cell (g.cell hcell (by simp)) hn3
  have htold' : Told W' W.heap.size (.slice A1 (tl N F B k).length c1) (tl N F B k) := htold.fr (may := fun _ => False) (fr_none g) (fun _ _ x => x)
  have hs3 : W.heap.size ≤ w3.heap.size := Nat.le_trans hl'.fr.size hfr.size
  have T3 : Told w3 W.heap.size (.slice A1 (tl N F B k).length c1) (tl N F B k) := htold'.fr hfr (fun i hi => by have := S.lq; have := S.lu; have := S.lm; omega)
  have ga : w3.grownBy (w3.alloc (.cells #[.int .u64 (v : Nat)] 27)) none := grown_alloc _ _ _
  have Ta : Told (w3.alloc (.cells #[.int .u64 (v : Nat)] 27)) W.heap.size (.slice A1 (tl N F B k).length c1) (tl N F B k) := T3.fr (may := fun _ => False) (fr_none ga) (fun _ _ x => x)
  have hca : (w3.alloc (.cells #[.int .u64 (v : Nat)] 27)).cell? ⟨tb, 0, none⟩ = some (.slice A1 (tl N F B k).length c1) := ga.cell hc3 (by simp)
  obtain ⟨i0, hi, hz0, hz1, hz2⟩ := info_parts infoU64
  have hlen := tl_len N F B k
  obtain ⟨v', w4, hap, hrow, hg4, _⟩ := run_append_own (P := Try.prog) (w3.alloc (.cells #[.int .u64 (v : Nat)] 27)) W.heap.size 44 44 27 i0 (.int .u64 0) 1 8 Try.underlying44 hi hz0 hz1 hz2 rfl (by decide) _ _ _ Ta.row ⟨w3.heap.size, 0, none⟩ 1 1 [.int .u64 (v : Nat)] rfl (fun j x hj => one_cell w3 _ _ j x hj) (fun x hx => by rw [List.mem_singleton.1 hx]; rfl) (by simp only [maxLen]; omega) (by omega) (by simp; omega)
  obtain ⟨A', c', rfl⟩ := own_shape hrow
  have ht4 : some tb ≠ (Value.slice A1 (tl N F B k).length c1).ownBlock := fun x => by have := (Ta.row.lt tb x.symm).1; have := S.lt; omega
  have hz3 : w3.frozen? ⟨tb, 0, none⟩ = false := by rw [hfr.frozen (Nat.lt_of_lt_of_le S.lt hl'.fr.size) hn3]; exact hl'.z
  have htb3 : tb < w3.heap.size := Nat.lt_of_lt_of_le S.lt hs3
  have hz4 : w4.frozen? ⟨tb, 0, none⟩ = false := by
    rw [World.frozen?_of_block (w := w3.alloc (.cells #[.int .u64 (v : Nat)] 27)) (hg4.block tb (by simp; omega) ht4), World.frozen?_of_block (w := w3) (ga.block tb htb3 (by simp))]
    exact hz3
  exact ⟨rfl, hc3, hca, A', c', w4, hap, hg4.cell hca ht4, hz4, hl'.ok0 _ S hk (by unfold erA; rw [if_neg (by omega), ha]; exact he) h0 hcnt (by rw [ha, hv]) htold' hok hrow hg4 hc3⟩

set_option maxRecDepth 100000 in
set_option maxHeartbeats 4000000 in
theorem acts_fn (w : World) (p q N cap n c bl tb : Nat) (B : Nat → Nat) (A : Option Addr) (F : Nat → A3) (hq : q < w.heap.size) (hn : n ≤ 1000000) (hc : n ≤ c) (hF : ∀ i, i < n → okA (F i)) (hact : ActsAt w A n F) (hab : ∀ b off, A = some ⟨b, off, none⟩ → b ≠ p ∧ b ≠ q ∧ b ≠ tb)
    (hbl : w.cell? ⟨bl, 0, none⟩ = some (.slice A n c)) (hblp : bl ≠ p) (_hblq : bl ≠ q) (_hblt : bl ≠ tb) (htb : w.cell? ⟨tb, 0, none⟩ = some (.slice none 0 0)) (ztb : w.frozen? ⟨tb, 0, none⟩ = false) (htp : tb ≠ p) (htq : tb ≠ q) :
    DoFn w p q N cap B 57 #[.pointer (some ⟨bl, 0, none⟩), .pointer (some ⟨tb, 0, none⟩)] (fun i => i = tb) (fun W _ _ w2 B' rt fl => ActEnd W w2 tb N n F B B' rt fl) := by
  intro W u vb mb hst hv hfr h1 h2 h3 h4 h5
  have hbs : bl < w.heap.size := w.block_lt_of_cell? ⟨bl, 0, none⟩ hbl
  have hts : tb < w.heap.size := w.block_lt_of_cell? ⟨tb, 0, none⟩ htb
  have S : Hid (DoSep W p q u mb tb) := Lib.hid ⟨hst.ar.plt, hst.ar.b.qlt, hst.ult, hst.map.lt, Nat.lt_of_lt_of_le hts hfr.size, htp, htq, by omega, by omega⟩
  have HL0 : Hid (ActL W W p q u mb tb N cap n F B 0) := Lib.hid ⟨Nat.zero_le _, fun j hj => by omega, ⟨_, 0, Nat.le_refl _, hst⟩, fr_refl _ _, by rw [hfr.frozen hts htp]; exact ztb, ⟨none, 0, hfr.cell htb htp, World.ownsRow_nil _ _ _ _, .inl rfl⟩⟩
  have HA : Hid (∀ wr, Fr (fun i => i = q ∨ i = u ∨ i = mb ∨ i = tb) W wr → ActsAt wr A n F) := Lib.hid (fun wr g => hact.imp id (fun ⟨b, off, e, hb, h⟩ => ⟨b, off, e, Nat.lt_of_lt_of_le (Nat.lt_of_lt_of_le hb hfr.size) g.size, fun i hi => ((h i hi).fr hfr (hab b off e).1).fr g (by have := hab b off e; omega)⟩))
  have HV : Hid (∀ wr, Fr (fun i => i = q ∨ i = u ∨ i = mb ∨ i = tb) W wr → wr.cell? ⟨vb, 0, none⟩ = some (.pointer (some ⟨u, 0, none⟩))) := Lib.hid (fun wr g => g.cell hv (by
    rintro (x | x | x | x)
    · omega
    · exact h5 x
    · exact h4 x
    · omega))
  have b1 : W.cell? ⟨bl, 0, none⟩ = some (.slice A n c) := hfr.cell hbl hblp
  have HOK := Lib.hid hF
  clear hst hfr hv hact hab hbl htb ztb hbs hts hF
  show Calls Try.prog 57 #[.pointer (some ⟨vb, 0, none⟩), .pointer (some ⟨bl, 0, none⟩), .pointer (some ⟨tb, 0, none⟩)] W _
  obtain ⟨i0, hi, hz0, hz1, hz2⟩ := info_parts infoU64
  go_enter Try.func57, Try.ntmps57
  go_wp2_with fail
  go_loopw [8] (fun i wr => ∃ k : Nat, i = .int .i64 k ∧ ActL W wr p q u mb tb N cap n F B k) (fun i _ => n - (intOf i).toNat)
  case atStart => exact ⟨0, rfl, HL0.out⟩
  case round =>
    clear HL0 b1
    obtain ⟨k, rfl, hl⟩ := hrel
    have hk := hl.le
    have HL := Lib.hid hl
    clear hl
    by_cases hlt : k < n
    · obtain ⟨b, off, rfl, _, hact⟩ : ∃ b off, A = some ⟨b, off, none⟩ ∧ b < wr.heap.size ∧ ∀ i, i < n → ActAt wr b (off + i * 3) (F i) := by
        rcases HA.out wr HL.out.fr with h0 | h; omega; exact h
      have hat := hact k hlt
      have e0 := hat.c0
      have e1 := hat.c1
      have e2 := hat.c2
      have hxl := hat.lt
      have hok := HOK.out k hlt
      clear hact hat
      obtain ⟨t, hT⟩ : ∃ t, t = F k := ⟨_, rfl⟩
      rw [← hT] at e0 e1 e2 hxl hok
      have HT := Lib.hid hT
      clear hT
      obtain ⟨tk, ta, tx⟩ := t
      obtain ⟨ok0, ok2⟩ := hok
      simp only at e0 e1 e2 hxl ok0 ok2
      go_upto_region 3 with (fail)
      obtain ⟨xb, hxb⟩ : ∃ xb, xb = wr.heap.size := ⟨_, rfl⟩
      rw [← hxb]
      have x0 : (wr.alloc (.cells #[.int .i64 tk, .int .i64 ta, .int .u64 (tx : Nat)] 53)).cell? ⟨xb, 0, none⟩ = some (.int .i64 tk) := by rw [hxb, cell_alloc_new]; rfl
      have x1 : (wr.alloc (.cells #[.int .i64 tk, .int .i64 ta, .int .u64 (tx : Nat)] 53)).cell? ⟨xb, 1, none⟩ = some (.int .i64 ta) := by rw [hxb, cell_alloc_new]; rfl
      have x2 : (wr.alloc (.cells #[.int .i64 tk, .int .i64 ta, .int .u64 (tx : Nat)] 53)).cell? ⟨xb, 2, none⟩ = some (.int .u64 (tx : Nat)) := by rw [hxb, cell_alloc_new]; rfl
      have HL1 : Hid (ActL W (wr.alloc (.cells #[.int .i64 tk, .int .i64 ta, .int .u64 (tx : Nat)] 53)) p q u mb tb N cap n F B k) := Lib.hid (HL.out.grown S.out (grown_alloc _ _ _))
      have HXB : Hid (W.heap.size ≤ xb) := Lib.hid (by rw [hxb]; exact HL.out.fr.size)
      generalize wr.alloc (.cells #[.int .i64 tk, .int .i64 ta, .int .u64 (tx : Nat)] 53) = w1 at x0 x1 x2 HL1 ⊢
      clear hxb HL e0 e1 e2
      have hkk : tk = 0 ∨ tk = 1 ∨ tk = 2 := by omega
      obtain ⟨D, cnt, hcnt, hst⟩ := HL1.out.st
      have hvb := HV.out w1 HL1.out.fr
      rcases hkk with rfl | rfl | rfl
      · by_cases he : wbE N ta = 0
        · obtain ⟨A1, c1, y1, htold⟩ := HL1.out.told
          have HC := Lib.hid (fun W' g => tell_step (W' := W') (ta := ta) HL1.out S.out hn hlt (by rw [← HT.out]) (by rw [← HT.out]) he hvb y1 htold g)
          generalize hL : (tl N F B k).length = ln at HC y1
          generalize wordV (bk F B k) N ta = v at HC
          have hgr := grown_refl w1 none
          clear hst hvb he htold hL
          go_upto_region 5 with (fail)
          go_region_law (first
            | (refine step_append_run rfl _ _ _ rfl _ _ _ _ rfl rfl hap ?_)
            | (go_simp; go_wp2_with (go_at_call 32; refine (HC.out _ (grown_drew1 hgr)).mono ?_; rintro e w3 ⟨rfl, y3, y3a, A', c', w4, hap, y4, z4, hnx⟩; have HN3 := Lib.hid hnx; clear hnx)))
          all_goals
            go_wp2
            go_roundw
            case rel => exact ⟨k + 1, by go_num, HN3.out⟩
            case measure => simp [intOf]; omega
        · obtain ⟨er, her⟩ : ∃ er, wbE N ta = er := ⟨_, rfl⟩
          have HC := Lib.hid (fun W' (g : w1.grownBy W' none) => get_bad (hst.grown g) (g.cell hvb (by simp)) ta er her (by rw [← her]; exact he))
          have HN : Hid (∀ W' w3, w1.grownBy W' none → ActBad W' p q u mb N cap (bk F B k) B D cnt k er w3 → _) := Lib.hid (fun W' w3 g h => (HL1.out.grown S.out g).stop (w3 := w3) (cnt := cnt) (D := D) (er := er) S.out hlt (by rw [← HT.out]; unfold erA; rw [if_neg (by simp)]; exact her) (by rw [← her]; exact he) h)
          obtain ⟨A1, c1, y1, htold⟩ := HL1.out.told
          generalize (tl N F B k).length = ln at y1
          have hgr := grown_refl w1 none
          clear hst hvb he her htold
          go_upto_region 5 with (fail)
          go_region_dies
          all_goals
            refine (HC.out _ (grown_drew1 hgr)).mono ?_
            rintro e w3 ⟨rfl, hok⟩
            have HN3 := Lib.hid (HN.out _ _ (grown_drew1 hgr) hok)
            clear hok
            go_wp2
            exact ⟨rfl, HN3.out⟩
      · by_cases he : wbE N ta = 0
        · have h8 := wbE_zero he
          obtain ⟨a, rfl⟩ : ∃ a : Nat, ta = a := ⟨ta.toNat, by omega⟩
          have HC := Lib.hid (set_good hst hvb (by omega) (by omega) a tx he)
          have HN : Hid (∀ w3, ActOk w1 p q u mb N cap (Ar.setW (bk F B k) a tx) B D cnt k w3 → ActL W w3 p q u mb tb N cap n F B (k + 1)) := Lib.hid (fun w3 h => HL1.out.ok1 S.out hlt (by rw [← HT.out]; unfold erA; rw [if_neg (by simp)]; exact he) (by rw [← HT.out]; simp) hcnt (by
            have e : bk F B (k + 1) = Ar.setW (bk F B k) a tx := by rw [bk, ← HT.out, if_pos rfl]; rfl
            rw [e]; exact h))
          clear hst hvb h8 he
          go_wp2_with fail
          refine HC.out.mono ?_
          rintro e w3 ⟨rfl, hok⟩
          have HN3 := Lib.hid (HN.out w3 hok)
          clear hok HN HC
          go_wp2
          go_roundw
          case rel => exact ⟨k + 1, by go_num, HN3.out⟩
          case measure => simp [intOf]; omega
        · obtain ⟨er, her⟩ : ∃ er, wbE N ta = er := ⟨_, rfl⟩
          have HC := Lib.hid (set_bad hst hvb ta er tx her (by rw [← her]; exact he))
          have HN := Lib.hid (fun w3 h => HL1.out.stop (w3 := w3) (cnt := cnt) (D := D) (er := er) S.out hlt (by rw [← HT.out]; unfold erA; rw [if_neg (by simp)]; exact her) (by rw [← her]; exact he) h)
          clear hst hvb he her
          go_wp2_with fail
          refine HC.out.mono ?_
          rintro e w3 ⟨rfl, hok⟩
          have HN3 := Lib.hid (HN.out w3 hok)
          clear hok HN HC
          go_wp2
          exact ⟨rfl, HN3.out⟩
      · by_cases hx : tx % 2 = 1
        · have d : ((tx : Int) % 2 = 1) := by omega
          have HC := Lib.hid (need_good hst hvb (by omega))
          have HN : Hid (∀ w3, ActOk w1 p q u mb N cap (bk F B k) B D cnt k w3 → ActL W w3 p q u mb tb N cap n F B (k + 1)) := Lib.hid (fun w3 h => HL1.out.ok1 S.out hlt (by rw [← HT.out]; unfold erA; rw [if_pos rfl, if_pos hx]) (by rw [← HT.out]; simp) hcnt (by
            have e : bk F B (k + 1) = bk F B k := by rw [bk, ← HT.out, if_neg (by simp)]
            rw [e]; exact h))
          clear hst hvb
          go_wp2_with fail
          refine HC.out.mono ?_
          rintro e w3 ⟨rfl, hok⟩
          have HN3 := Lib.hid (HN.out w3 hok)
          clear hok HN HC
          go_wp2
          go_roundw
          case rel => exact ⟨k + 1, by go_num, HN3.out⟩
          case measure => simp [intOf]; omega
        · have d : ((tx : Int) % 2 = 0) := by omega
          have HC := Lib.hid (need_bad hst hvb)
          have HN := Lib.hid (fun w3 h => HL1.out.stop (w3 := w3) (cnt := cnt) (D := D) (er := 8) S.out hlt (by rw [← HT.out]; unfold erA; rw [if_pos rfl, if_neg hx]) (by decide) h)
          clear hst hvb
          go_wp2_with fail
          refine HC.out.mono ?_
          rintro e w3 ⟨rfl, hok⟩
          have HN3 := Lib.hid (HN.out w3 hok)
          clear hok HN HC
          go_wp2
          exact ⟨rfl, HN3.out⟩
    · obtain rfl : k = n := by omega
      have HD := Lib.hid HL.out.done
      go_wp2
      go_end0
      exact HD.out
end Go.Proofs.Ytbpganholopjfaa
