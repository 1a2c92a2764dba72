/- The walk of Do. -/
import Derived.Test.YtbpganholopjfaaAJ
namespace Go.Proofs.Ytbpganholopjfaa
open Go.RowKit

theorem mk_func (fn : Fn) (first cap : Array Value) (w : World) : (Instr.makeFunc fn first cap).run Try.prog w = .ok (.func fn first cap) w := rfl
theorem fn_there (fn : Fn) (first cap : Array Value) (w : World) : (binOp .eql 59 (.func fn first cap) .nilFunc).run Try.prog w = .ok (.bool false) w := by kernel_rfl

/-- The world in which a Do calls its function. -/
structure DoStart (w w5 : World) (p q N cap c4 c5 mb u c6 c7 vb : Nat) (B : Nat → Nat) : Prop where
  st : DoSt w5 p q u mb N cap B B (.map []) 0 0 0
  v : w5.cell? ⟨vb, 0, none⟩ = some (.pointer (some ⟨u, 0, none⟩))
  nv : vb ≠ c4 ∧ vb ≠ c5 ∧ vb ≠ c7
  vars : DoVars w5 p q u c6 c7 c4 c5 false
  z7 : w5.frozen? ⟨c7, 0, none⟩ = false
  fr : Fr (fun i => i = p) w w5
  n : w.heap.size ≤ c4 ∧ w.heap.size ≤ c5 ∧ w.heap.size ≤ mb ∧ w.heap.size ≤ u ∧ w.heap.size ≤ c6 ∧ w.heap.size ≤ c7 ∧ w.heap.size ≤ vb
  ne : c4 ≠ mb ∧ c5 ≠ mb ∧ c6 ≠ mb ∧ c7 ≠ mb ∧ vb ≠ mb ∧ vb ≠ u ∧ c7 ≠ c4 ∧ c7 ≠ c5 ∧ c7 ≠ c6
  lt : c4 < w5.heap.size ∧ c5 < w5.heap.size ∧ mb < w5.heap.size ∧ u < w5.heap.size ∧ c6 < w5.heap.size ∧ c7 < w5.heap.size ∧ vb < w5.heap.size

theorem do_start {w w1 w2 w3 w4 w5 : World} {p q N cap c4 c5 mb u c6 c7 vb : Nat} {B : Nat → Nat} (h : ArAt w p q N cap B none)
    (h4 : c4 = w.heap.size) (h5 : c5 = c4 + 1) (hw1 : (w.alloc (.cells #[.int .i64 0] 3)).alloc (.cells #[.int .i64 0] 32) = w1)
    (hmb : mb = w1.heap.size) (hu : u = w1.heap.size + 1) (h6 : c6 = w1.heap.size + 1 + 1)
    (hw2 : ((w1.alloc (.map #[] 0)).alloc (.cells #[.pointer (some ⟨p, 0, none⟩), .pointer none, .int .i64 0, .int .i64 0, .map (some mb)] 101)).alloc (.cells #[.pointer (some ⟨u, 0, none⟩)] 92) = w2)
    (hw3 : w2.setCell ⟨p, 1, none⟩ (.pointer (some ⟨u, 0, none⟩)) = w3) (h7 : c7 = w3.heap.size) (hw4 : w3.alloc (.cells #[.bool false] 4) = w4)
    (hvb : vb = w4.heap.size) (hw5 : w4.alloc (.cells #[.pointer (some ⟨u, 0, none⟩)] 104) = w5) : DoStart w w5 p q N cap c4 c5 mb u c6 c7 vb B := by
  have hpl := h.plt
  have hql := h.b.qlt
  have hne := h.ne
  obtain ⟨a1, ha1⟩ : ∃ a, a = w.alloc (.cells #[.int .i64 0] 3) := ⟨_, rfl⟩
  obtain ⟨b1, hb1⟩ : ∃ a, a = w1.alloc (.map #[] 0) := ⟨_, rfl⟩
  obtain ⟨b2, hb2⟩ : ∃ a, a = b1.alloc (.cells #[.pointer (some ⟨p, 0, none⟩), .pointer none, .int .i64 0, .int .i64 0, .map (some mb)] 101) := ⟨_, rfl⟩
  rw [← ha1] at hw1
  rw [← hb1, ← hb2] at hw2
  have s1 : a1.heap.size = w.heap.size + 1 := by rw [ha1]; simp
  have s2 : w1.heap.size = w.heap.size + 2 := by rw [← hw1]; simp [s1]
  have s3 : b1.heap.size = w1.heap.size + 1 := by rw [hb1]; simp
  have s4 : b2.heap.size = b1.heap.size + 1 := by rw [hb2]; simp
  have s5 : w2.heap.size = b2.heap.size + 1 := by rw [← hw2]; simp
  have s6 : w3.heap.size = w2.heap.size := by rw [← hw3]; simp [World.setCell]
  have s7 : w4.heap.size = w3.heap.size + 1 := by rw [← hw4]; simp
  have s8 : w5.heap.size = w4.heap.size + 1 := by rw [← hw5]; simp
  have e4 : c4 = w.heap.size := h4
  have e5 : c5 = a1.heap.size := by omega
  have emb : mb = w1.heap.size := hmb
  have eu : u = b1.heap.size := by omega
  have e6 : c6 = b2.heap.size := by omega
  have ga : w.grownBy a1 none := by rw [ha1]; exact grown_alloc _ _ _
  have gw1 : a1.grownBy w1 none := by rw [← hw1]; exact grown_alloc _ _ _
  have gb1 : w1.grownBy b1 none := by rw [hb1]; exact grown_alloc _ _ _
  have gb2 : b1.grownBy b2 none := by rw [hb2]; exact grown_alloc _ _ _
  have gw2 : b2.grownBy w2 none := by rw [← hw2]; exact grown_alloc _ _ _
  have g3 : w2.grownBy w3 (some p) := by rw [← hw3]; exact agrown_set _ _ _ _
  have g4 : w3.grownBy w4 none := by rw [← hw4]; exact grown_alloc _ _ _
  have g5 : w4.grownBy w5 none := by rw [← hw5]; exact grown_alloc _ _ _
  have g35 : w3.grownBy w5 none := grown_trans g4 g5
  have f2 : Fr (fun i => i = p) w2 w5 := (fr_some (may := fun i => i = p) g3 (fun _ => rfl)).trans (fr_none (may := fun i => i = p) g35) (fun _ _ x => x) (fun _ _ x => x)
  have fb2 : Fr (fun i => i = p) b2 w5 := (fr_none (may := fun i => i = p) gw2).trans f2 (fun _ _ x => x) (fun _ _ x => x)
  have fb1 : Fr (fun i => i = p) b1 w5 := (fr_none (may := fun i => i = p) gb2).trans fb2 (fun _ _ x => x) (fun _ _ x => x)
  have fw1 : Fr (fun i => i = p) w1 w5 := (fr_none (may := fun i => i = p) gb1).trans fb1 (fun _ _ x => x) (fun _ _ x => x)
  have fa1 : Fr (fun i => i = p) a1 w5 := (fr_none (may := fun i => i = p) gw1).trans fw1 (fun _ _ x => x) (fun _ _ x => x)
  have fw : Fr (fun i => i = p) w w5 := (fr_none (may := fun i => i = p) ga).trans fa1 (fun _ _ x => x) (fun _ _ x => x)
  have g02 : w.grownBy w2 none := grown_trans ga (grown_trans gw1 (grown_trans gb1 (grown_trans gb2 gw2)))
  have x4 : w5.cell? ⟨c4, 0, none⟩ = some (.int .i64 0) := fa1.cell (by rw [e4, ha1, cell_alloc_new]; rfl) (by omega)
  have x5 : w5.cell? ⟨c5, 0, none⟩ = some (.int .i64 0) := fw1.cell (by rw [e5, ← hw1, cell_alloc_new]; rfl) (by omega)
  have x6 : w5.cell? ⟨c6, 0, none⟩ = some (.pointer (some ⟨u, 0, none⟩)) := f2.cell (by rw [e6, ← hw2, cell_alloc_new]; rfl) (by omega)
  have x7 : w5.cell? ⟨c7, 0, none⟩ = some (.bool false) := g5.cell (by rw [h7, ← hw4, cell_alloc_new]; rfl) (by simp)
  have xv : w5.cell? ⟨vb, 0, none⟩ = some (.pointer (some ⟨u, 0, none⟩)) := by rw [hvb, ← hw5, cell_alloc_new]; rfl
  have xu : ∀ k v, #[Value.pointer (some ⟨p, 0, none⟩), .pointer none, .int .i64 0, .int .i64 0, .map (some mb)][k]? = some v → w5.cell? ⟨u, k, none⟩ = some v := fun k v hk => fb2.cell (by rw [eu, hb2, cell_alloc_new]; exact hk) (by omega)
  have z4 : w5.frozen? ⟨c4, 0, none⟩ = false := by rw [fa1.frozen (by omega) (by omega), e4, ha1]; exact frozen_alloc_new ..
  have z5 : w5.frozen? ⟨c5, 0, none⟩ = false := by rw [fw1.frozen (by omega) (by omega), e5, ← hw1]; exact frozen_alloc_new ..
  have z7 : w5.frozen? ⟨c7, 0, none⟩ = false := by rw [World.frozen?_of_block (w := w4) (g5.block c7 (by omega) (by simp)), h7, ← hw4]; exact frozen_alloc_new ..
  have zu : ∀ k, w5.frozen? ⟨u, k, none⟩ = false := fun k => by rw [fb2.frozen (by omega) (by omega), eu, hb2]; exact frozen_alloc_new ..
  have y0 : w5.cell? ⟨p, 0, none⟩ = some (.slice (some ⟨q, 0, none⟩) N cap) := g35.cell (by rw [← hw3, aset_far _ _ _ _ _ (by omega)]; exact g02.cell h.c0 (by simp)) (by simp)
  have y1 : w5.cell? ⟨p, 1, none⟩ = some (.pointer (some ⟨u, 0, none⟩)) := g35.cell (by rw [← hw3]; exact World.cell?_setCell_same' _ _ _ (by rw [g02.cell h.c1 (by simp)]; rfl)) (by simp)
  have zp : ∀ k, w5.frozen? ⟨p, k, none⟩ = false := fun k => by
    rw [World.frozen?_of_block (w := w3) (g35.block p (by omega) (by simp)), ← hw3, World.frozen?_setCell, World.frozen?_of_block (w := w) (g02.block p (by omega) (by simp))]
    exact h.fz k
  have hm : w5.ownsMap Try.prog 3 slR mb 0 (.map []) := by
    have m0 : b1.ownsMap Try.prog 3 slR mb 0 (.map []) := by rw [hb1, emb]; exact World.ownsMap_made w1 _ _ _
    exact ((m0.kept (grown_trans gb2 gw2) (by simp)).kept g3 (by simp; omega)).kept g35 (by simp)
  exact {
    st := ⟨⟨y0, y1, zp, h.b.fr fw (fun e => hne e.symm), hne, h.hcap, h.small, h.page, h.lt⟩, xu 0 _ rfl, xu 1 _ rfl, xu 2 _ rfl, xu 3 _ rfl, xu 4 _ rfl, zu, hm, (fun kl hk => by simp [Go.Maps.has] at hk), (fun _ _ _ _ _ => rfl), by omega, by omega, by omega, by omega, by omega, h.lt⟩
    v := xv
    nv := by omega
    vars := ⟨x6, x7, ⟨0, x4⟩, ⟨0, x5⟩, z4, z5, by omega, by omega, by omega, by omega⟩
    z7 := z7
    fr := fw
    n := by omega
    ne := by omega
    lt := by omega }

/-- What a Do's function is asked. -/
def DoFn (w : World) (p q N cap : Nat) (B : Nat → Nat) (g : FuncId) (caps : Array Value) (own : Nat → Prop) (Post : World → Nat → Nat → World → (Nat → Nat) → Nat → Int → Prop) : Prop :=
  ∀ (W : World) (u vb mb : Nat), DoSt W p q u mb N cap B B (.map []) 0 0 0 → W.cell? ⟨vb, 0, none⟩ = some (.pointer (some ⟨u, 0, none⟩)) → Fr (fun i => i = p) w W → w.heap.size ≤ u → w.heap.size ≤ vb → w.heap.size ≤ mb → vb ≠ mb → vb ≠ u →
    Calls Try.prog g (#[.pointer (some ⟨vb, 0, none⟩)] ++ caps) W fun e w2 => ∃ (B' : Nat → Nat) (D : DataW Unit) (cnt rt : Nat) (fl : Int), e = (if fl = 0 then .returned (.tuple #[]) else .panicked (stopOf u)) ∧
      DoSt w2 p q u mb N cap B' B D cnt rt fl ∧ Fr (fun i => i = q ∨ i = u ∨ i = mb ∨ own i) W w2 ∧ Post W u vb w2 B' rt fl

/-- What a Do has done. -/
def DoRes (w : World) (p q N cap : Nat) (B : Nat → Nat) (own : Nat → Prop) (Post : World → Nat → Nat → World → (Nat → Nat) → Nat → Int → Prop) (e : Ending) (w' : World) : Prop :=
  ∃ (W w2 : World) (B' : Nat → Nat) (rt : Nat) (fl : Int) (u vb : Nat), e = .returned (.tuple #[.int .i64 rt, .int .i64 fl]) ∧ ArAt w' p q N cap (if fl = 0 then B' else B) none ∧
    Fr (fun i => i = p) w W ∧ Post W u vb w2 B' rt fl ∧ Fr (fun i => i = p ∨ i = q ∨ (w.heap.size ≤ i ∧ i < W.heap.size ∧ i ≠ vb)) w2 w' ∧ (w.heap.size ≤ u ∧ w.heap.size ≤ vb ∧ u < W.heap.size ∧ vb < W.heap.size) ∧ W.heap.size ≤ w2.heap.size ∧
    w'.cell? ⟨u, 0, none⟩ = some (.pointer none) ∧ w'.cell? ⟨vb, 0, none⟩ = some (.pointer (some ⟨u, 0, none⟩)) ∧ Fr (fun i => i = p ∨ i = q ∨ own i) w w'

theorem do_res {w w5 w6 w7 w' : World} {p q N cap c4 c5 mb u c6 c7 vb cnt rt : Nat} {B B' : Nat → Nat} {D : DataW Unit} {fl : Int} {own : Nat → Prop} {Post : World → Nat → Nat → World → (Nat → Nat) → Nat → Int → Prop}
    (HS : DoStart w w5 p q N cap c4 c5 mb u c6 c7 vb B) (hq : q < w.heap.size) (hpl : p < w.heap.size) (hown : ∀ i, own i → i < w.heap.size ∧ i ≠ p) (_hst : DoSt w6 p q u mb N cap B' B D cnt rt fl) (hfr : Fr (fun i => i = q ∨ i = u ∨ i = mb ∨ own i) w5 w6) (hpost : Post w5 u vb w6 B' rt fl)
    (h7 : Fr (fun i => i = c7) w6 w7) (hne : vb ≠ c4 ∧ vb ≠ c5 ∧ vb ≠ c7) (he : DoEnd w7 w' p q u c4 c5 N cap (if fl = 0 then B' else B) rt fl) : DoRes w p q N cap B own Post (.returned (.tuple #[.int .i64 rt, .int .i64 fl])) w' := by
  obtain ⟨n1, n2, n3, n4, n5, n6, n7⟩ := HS.n
  obtain ⟨l1, l2, l3, l4, l5, l6, l7⟩ := HS.lt
  obtain ⟨d1, d2, d3, d4, d5, d6, d7, d8, d9⟩ := HS.ne
  obtain ⟨e1, e2, e3⟩ := hne
  have F1 : Fr (fun i => i = p ∨ i = q ∨ (w.heap.size ≤ i ∧ i < w5.heap.size ∧ i ≠ vb)) w6 w' := h7.trans he.fr (fun i _ x => .inr (.inr (by omega))) (fun i _ x => by rcases x with x | x | x | x | x; exact .inl x; exact .inr (.inl x); all_goals exact .inr (.inr (by omega)))
  have hvb : w'.cell? ⟨vb, 0, none⟩ = some (.pointer (some ⟨u, 0, none⟩)) := by
    refine F1.cell (hfr.cell HS.v ?_) ?_
    · rintro (x | x | x | x)
      · omega
      · omega
      · omega
      · have := (hown _ x).1; omega
    · rintro (x | x | x)
      · omega
      · omega
      · exact x.2.2 rfl
  refine ⟨w5, w6, B', rt, fl, u, vb, rfl, he.ar, HS.fr, hpost, F1, ⟨by omega, by omega, by omega, by omega⟩, hfr.size, he.u0, hvb, ?_⟩
  refine HS.fr.trans (hfr.trans F1 (may'' := fun i => i = p ∨ i = q ∨ own i ∨ w.heap.size ≤ i) (fun i _ x => ?_) (fun i _ x => ?_)) (fun i _ x => .inl x) (fun i hi x => ?_)
  · rcases x with x | x | x | x
    · exact .inr (.inl x)
    · exact .inr (.inr (.inr (by omega)))
    · exact .inr (.inr (.inr (by omega)))
    · exact .inr (.inr (.inl x))
  · rcases x with x | x | x
    · exact .inl x
    · exact .inr (.inl x)
    · exact .inr (.inr (.inr x.1))
  · rcases x with x | x | x | x
    · exact .inl x
    · exact .inr (.inl x)
    · exact .inr (.inr x)
    · omega

theorem vars_after {w w5 w6 : World} {p q N cap c4 c5 mb u c6 c7 vb : Nat} {B : Nat → Nat} {own : Nat → Prop}
    (HS : DoStart w w5 p q N cap c4 c5 mb u c6 c7 vb B) (hq : q < w.heap.size) (hown : ∀ i, own i → i < w.heap.size ∧ i ≠ p) (hfr : Fr (fun i => i = q ∨ i = u ∨ i = mb ∨ own i) w5 w6) : DoVars w6 p q u c6 c7 c4 c5 false ∧ w6.frozen? ⟨c7, 0, none⟩ = false := by
  obtain ⟨n1, n2, n3, n4, n5, n6, n7⟩ := HS.n
  obtain ⟨l1, l2, l3, l4, l5, l6, l7⟩ := HS.lt
  obtain ⟨d1, d2, d3, d4, d5, d6, d7, d8, d9⟩ := HS.ne
  have hv := HS.vars
  have out : ∀ c, w.heap.size ≤ c → c ≠ u → c ≠ mb → ¬ (c = q ∨ c = u ∨ c = mb ∨ own c) := by
    rintro c h1 h2 h3 (x | x | x | x)
    · omega
    · omega
    · omega
    · have := (hown _ x).1; omega
  have o4 := out c4 n1 hv.n4.2.2.1 d1
  have o5 := out c5 n2 hv.n5.2.2 d2
  have o6 := out c6 n5 hv.n6.2.2.1 d3
  have o7 := out c7 n6 hv.n7.2.2 d4
  obtain ⟨r4, x4⟩ := hv.v4
  obtain ⟨r5, x5⟩ := hv.v5
  exact ⟨⟨hfr.cell hv.v6 o6, hfr.cell hv.v7 o7, ⟨r4, hfr.cell x4 o4⟩, ⟨r5, hfr.cell x5 o5⟩, by rw [hfr.frozen l1 o4]; exact hv.z4, by rw [hfr.frozen l2 o5]; exact hv.z5, hv.n6, hv.n7, hv.n4, hv.n5⟩, by rw [hfr.frozen l6 o7]; exact HS.z7⟩

theorem vars_came {w : World} {p q u c6 c7 c4 c5 : Nat} (hv : DoVars w p q u c6 c7 c4 c5 false) (h4 : c7 ≠ c4) (h5 : c7 ≠ c5) (h6 : c7 ≠ c6) : DoVars (w.setCell ⟨c7, 0, none⟩ (.bool true)) p q u c6 c7 c4 c5 true := by
  have F := fr_set w c7 0 (.bool true)
  obtain ⟨r4, x4⟩ := hv.v4
  obtain ⟨r5, x5⟩ := hv.v5
  exact ⟨F.cell hv.v6 h6.symm, World.cell?_setCell_same' _ _ _ (by rw [hv.v7]; rfl), ⟨r4, F.cell x4 h4.symm⟩, ⟨r5, F.cell x5 h5.symm⟩, by rw [World.frozen?_setCell]; exact hv.z4, by rw [World.frozen?_setCell]; exact hv.z5, hv.n6, hv.n7, hv.n4, hv.n5⟩

theorem st_came {w : World} {p q u mb N cap c7 cnt rt : Nat} {B B0 : Nat → Nat} {D : DataW Unit} {fl : Int} {b : Bool} (h : DoSt w p q u mb N cap B B0 D cnt rt fl) (h7 : w.cell? ⟨c7, 0, none⟩ = some (.bool b)) (hp : c7 ≠ p) (hq : c7 ≠ q) (hu : c7 ≠ u) (hm : c7 ≠ mb) : DoSt (w.setCell ⟨c7, 0, none⟩ (.bool true)) p q u mb N cap B B0 D cnt rt fl := by
  refine h.fr (fr_set w c7 0 (.bool true)) (fun i _ ho e => ?_)
  subst e
  rcases ho with e | e | e | e | ⟨kl, bc, hk, ha⟩
  · exact hp e
  · exact hq e
  · exact hu e
  · exact hm e
  · obtain ⟨pg, bk, bc', _, _, ha', hb, _⟩ := h.keys kl hk
    obtain ⟨rfl, _⟩ := slD_inj ((ha .nil).symm.trans (ha' .nil))
    have := hb.c 0 (by omega)
    rw [h7] at this
    simp at this

set_option maxRecDepth 100000 in
set_option maxHeartbeats 2000000 in
theorem do_run {w : World} {p q N cap : Nat} {B : Nat → Nat} (h : ArAt w p q N cap B none) (g : FuncId) (caps : Array Value) (own : Nat → Prop) (Post : World → Nat → Nat → World → (Nat → Nat) → Nat → Int → Prop) (hown : ∀ i, own i → i < w.heap.size ∧ i ≠ p) (hcf : ∀ args w, (callFunc g args).run Try.prog w = .ok (.enter g args) w) (hF : DoFn w p q N cap B g caps own Post) :
    Calls Try.prog 27 #[.pointer (some ⟨p, 0, none⟩), .func (.func g) #[] caps] w (DoRes w p q N cap B own Post) := by
  have H := Lib.hid h
  have HO := Lib.hid hown
  have HF := Lib.hid hF
  have hpl := h.plt
  have c1 := h.c1
  have hz := h.fz 1
  clear h hown hF
  have hmf := mk_func
  have hfn := fn_there
  have hmm := fun w => run_makeMap (P := Try.prog) 99 w
  go_enter_defers Try.func27, Try.ntmps27
  go_upto_region 5 with (fail)
  obtain ⟨c4, h4⟩ : ∃ c4, c4 = w.heap.size := ⟨_, rfl⟩
  rw [← h4]
  obtain ⟨c5, h5⟩ : ∃ c5, c5 = c4 + 1 := ⟨_, rfl⟩
  rw [← h5]
  have g1 : w.grownBy ((w.alloc (.cells #[.int .i64 0] 3)).alloc (.cells #[.int .i64 0] 32)) none := grown_trans (World.grownBy_alloc w _ none) (World.grownBy_alloc _ _ none)
  have c1' := g1.cell c1 (by simp)
  have hz' := (World.frozen?_of_block (a := ⟨p, 1, none⟩) (w := w) (g1.block p hpl (by simp))).trans hz
  have hpl' : p < ((w.alloc (.cells #[.int .i64 0] 3)).alloc (.cells #[.int .i64 0] 32)).heap.size := Nat.lt_of_lt_of_le hpl g1.size
  generalize hw1 : (w.alloc (.cells #[.int .i64 0] 3)).alloc (.cells #[.int .i64 0] 32) = w1 at g1 c1' hz' hpl' ⊢
  have HW1 := Lib.hid hw1
  have HH := Lib.hid (And.intro h4 h5)
  clear hw1 g1 h4 h5 c1 hpl hz
  go_upto_region 6 with (fail)
  obtain ⟨mb, hmb⟩ : ∃ c, c = w1.heap.size := ⟨_, rfl⟩
  obtain ⟨u, hu⟩ : ∃ c, c = w1.heap.size + 1 := ⟨_, rfl⟩
  obtain ⟨c6, h6⟩ : ∃ c, c = w1.heap.size + 1 + 1 := ⟨_, rfl⟩
  rw [← h6, ← hu, ← hmb]
  have g2 : w1.grownBy (((w1.alloc (.map #[] 0)).alloc (.cells #[.pointer (some ⟨p, 0, none⟩), .pointer none, .int .i64 0, .int .i64 0, .map (some mb)] 101)).alloc (.cells #[.pointer (some ⟨u, 0, none⟩)] 92)) none := grown_trans (grown_trans (World.grownBy_alloc w1 _ none) (World.grownBy_alloc _ _ none)) (World.grownBy_alloc _ _ none)
  have c2 := g2.cell c1' (by simp)
  have hz2 := (World.frozen?_of_block (a := ⟨p, 1, none⟩) (w := w1) (g2.block p hpl' (by simp))).trans hz'
  have x6 : (((w1.alloc (.map #[] 0)).alloc (.cells #[.pointer (some ⟨p, 0, none⟩), .pointer none, .int .i64 0, .int .i64 0, .map (some mb)] 101)).alloc (.cells #[.pointer (some ⟨u, 0, none⟩)] 92)).cell? ⟨c6, 0, none⟩ = some (.pointer (some ⟨u, 0, none⟩)) := by
    have : c6 = ((w1.alloc (.map #[] 0)).alloc (.cells #[.pointer (some ⟨p, 0, none⟩), .pointer none, .int .i64 0, .int .i64 0, .map (some mb)] 101)).heap.size := by rw [h6]; simp
    rw [this, cell_alloc_new]; rfl
  have hp6 : p ≠ c6 := by omega
  have h6p := Ne.symm hp6
  generalize hw2 : ((w1.alloc (.map #[] 0)).alloc (.cells #[.pointer (some ⟨p, 0, none⟩), .pointer none, .int .i64 0, .int .i64 0, .map (some mb)] 101)).alloc (.cells #[.pointer (some ⟨u, 0, none⟩)] 92) = w2 at g2 c2 hz2 x6 ⊢
  have HW2 := Lib.hid hw2
  have HH2 := Lib.hid (And.intro hmb (And.intro hu h6))
  clear hw2 g2 c1' hz' hpl' hmb hu h6
  go_upto_region 7 with (fail)
  have x6' : (w2.setCell ⟨p, 1, none⟩ (.pointer (some ⟨u, 0, none⟩))).cell? ⟨c6, 0, none⟩ = some (.pointer (some ⟨u, 0, none⟩)) := by rw [World.cell?_setCell_other _ _ _ _ (fun e => hp6 (congrArg Addr.block e))]; exact x6
  generalize hw3 : w2.setCell ⟨p, 1, none⟩ (.pointer (some ⟨u, 0, none⟩)) = w3 at x6' ⊢
  have HW3 := Lib.hid hw3
  clear hw3 c2 hz2 x6 hp6 h6p
  go_upto_region 8 with (fail)
  have x6 := (grown_alloc w3 (.cells #[.bool false] 4) none).cell x6' (by simp)
  obtain ⟨c7, h7⟩ : ∃ c, c = w3.heap.size := ⟨_, rfl⟩
  rw [← h7]
  generalize hw4 : w3.alloc (.cells #[.bool false] 4) = w4 at x6 ⊢
  have HW4 := Lib.hid (And.intro hw4 h7)
  clear hw4 h7 x6'
  go_upto_region 9 with (fail)
  go_wp2_with fail
  have HS : Hid (DoStart w (w4.alloc (.cells #[.pointer (some ⟨u, 0, none⟩)] 104)) p q N cap c4 c5 mb u c6 c7 w4.heap.size B) := Lib.hid (do_start H.out HH.out.1 HH.out.2 HW1.out HH2.out.1 HH2.out.2.1 HH2.out.2.2 HW2.out HW3.out HW4.out.2 HW4.out.1 rfl rfl)
  obtain ⟨vb, hvb⟩ : ∃ c, c = w4.heap.size := ⟨_, rfl⟩
  rw [← hvb] at HS ⊢
  generalize w4.alloc (.cells #[.pointer (some ⟨u, 0, none⟩)] 104) = w5 at HS ⊢
  clear x6 hvb HW1 HW2 HW3 HW4 HH HH2
  refine (HF.out w5 u vb mb HS.out.st HS.out.v HS.out.fr HS.out.n.2.2.2.1 HS.out.n.2.2.2.2.2.2 HS.out.n.2.2.1 HS.out.ne.2.2.2.2.1 HS.out.ne.2.2.2.2.2.1).mono ?_
  rintro e w6 ⟨B', D, cnt, rt, fl, he, hst, hfr, hpost⟩
  have hva := vars_after HS.out H.out.b.qlt HO.out hfr
  by_cases hfl : fl = 0
  · subst hfl
    rw [if_pos rfl] at he
    subst he
    have x7 := hva.1.v7
    have z7 := hva.2
    have HV := Lib.hid hva.1
    have HR := Lib.hid (fun w7 w' h7 he => do_res (w7 := w7) (w' := w') HS.out H.out.b.qlt H.out.plt HO.out hst hfr hpost h7 HS.out.nv he)
    have HT := Lib.hid hst
    clear hva hst hfr hpost
    go_wp2
    refine leaves_cons (f := 59) (args := #[.pointer (some ⟨c6, 0, none⟩), .pointer (some ⟨c7, 0, none⟩), .pointer (some ⟨c4, 0, none⟩), .pointer (some ⟨c5, 0, none⟩)]) (by simp) (by simp [go_sem]) ?_
    refine (do1_idle (st_came HT.out HV.out.v7 HV.out.n7.1 HV.out.n7.2.1 HV.out.n7.2.2 HS.out.ne.2.2.2.1) (vars_came HV.out HS.out.ne.2.2.2.2.2.2.1 HS.out.ne.2.2.2.2.2.2.2.1 HS.out.ne.2.2.2.2.2.2.2.2)).mono ?_
    rintro e u' w8 ⟨rfl, rfl, hde⟩
    have r4 := hde.r
    have r5 := hde.e
    simp [Leaves, settle, results, Try.results27, go_sem, r4, r5]
    exact HR.out _ _ (fr_set _ _ _ _) hde
  · rw [if_neg hfl] at he
    subst he
    have HV := Lib.hid hva.1
    have HR := Lib.hid (fun w7 w' h7 he => do_res (w7 := w7) (w' := w') HS.out H.out.b.qlt H.out.plt HO.out hst hfr hpost h7 HS.out.nv he)
    have HT := Lib.hid hst
    clear hva hst hfr hpost
    refine leaves_cons (f := 59) (args := #[.pointer (some ⟨c6, 0, none⟩), .pointer (some ⟨c7, 0, none⟩), .pointer (some ⟨c4, 0, none⟩), .pointer (some ⟨c5, 0, none⟩)]) (by simp) (by simp [go_sem]) ?_
    refine (do1_stop HT.out HV.out).mono ?_
    rintro e u' w8 ⟨rfl, rfl, hde⟩
    have r4 := hde.r
    have r5 := hde.e
    simp [Leaves, settle, results, Try.results27, go_sem, r4, r5]
    exact HR.out _ _ (fr_refl _ _) (by rw [if_neg hfl]; exact hde)
end Go.Proofs.Ytbpganholopjfaa
