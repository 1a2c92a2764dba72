/- The document's mail: its list in memory; In, Held, Waits, New. -/
import Derived.Test.YtldpljfanlhooaaMi
namespace Go.Proofs.Ytldpljfanlhooaa
open Go.RowKit
open Is

structure It where
  f : Int
  t : Int
  a : Int
  c : Int
def ic : List It → List Value
  | [] => []
  | o :: l => .int .i64 o.f :: .int .i64 o.t :: .int .i64 o.a :: .int .i64 o.c :: ic l
theorem ic_length : ∀ l, (ic l).length = l.length * 4
  | [] => rfl
  | o :: l => by simp [ic, ic_length l]; omega
theorem ic_append : ∀ a b, ic (a ++ b) = ic a ++ ic b
  | [], _ => rfl
  | x :: a, b => by simp [ic, ic_append a b]
theorem ic_at : ∀ (l : List It) (i : Nat) (h : i < l.length), (ic l)[i * 4]? = some (.int .i64 l[i].f) ∧ (ic l)[i * 4 + 1]? = some (.int .i64 l[i].t) ∧ (ic l)[i * 4 + 2]? = some (.int .i64 l[i].a) ∧ (ic l)[i * 4 + 3]? = some (.int .i64 l[i].c)
  | o :: l, 0, h => ⟨rfl, rfl, rfl, rfl⟩
  | o :: l, i + 1, h => by
    have := ic_at l i (by simpa using h)
    rw [Nat.add_mul]
    simpa [ic] using this
theorem ic_one : ∀ (l : List It), ∀ u ∈ ic l, u.oneCell' = true
  | [], u, h => by simp [ic] at h
  | o :: l, u, h => by
    simp only [ic, List.mem_cons] at h
    rcases h with rfl | rfl | rfl | rfl | h
    · rfl
    · rfl
    · rfl
    · rfl
    · exact ic_one l u h
theorem infoIt : (Try.prog.info? 70).map (fun i => (i.zero, i.size, i.bytes)) = some (some (.agg #[.int .i64 0, .int .i64 0, .int .i64 0, .int .i64 0]), 4, 32) := by kernel_rfl
def ItCells (w : World) (g o : Nat) (L : List It) : Prop := ∀ i (h : i < L.length), w.cell? ⟨g, o + i * 4, none⟩ = some (.int .i64 L[i].f) ∧ w.cell? ⟨g, o + i * 4 + 1, none⟩ = some (.int .i64 L[i].t) ∧ w.cell? ⟨g, o + i * 4 + 2, none⟩ = some (.int .i64 L[i].a) ∧ w.cell? ⟨g, o + i * 4 + 3, none⟩ = some (.int .i64 L[i].c)
/-- A slice of items that reads as a list. -/
def IRd (w : World) (v : Value) (L : List It) : Prop := ∃ A c, v = .slice A L.length c ∧ L.length ≤ c ∧ ((A = none ∧ L.length = 0 ∧ c = 0) ∨ ∃ g, A = some ⟨g, 0, none⟩ ∧ g < w.heap.size ∧ ItCells w g 0 L)
def IOwn (w : World) (base : Nat) (v : Value) (L : List It) : Prop := w.ownsRow base 70 4 v L.length (ic L)
theorem iown_nil (w : World) (base : Nat) : IOwn w base (.slice none 0 0) [] := World.ownsRow_nil _ _ _ _
theorem IOwn.kept {w w' : World} {base : Nat} {r : Option Nat} {v : Value} {L : List It} (h : IOwn w base v L) (hg : w.grownBy w' r) (hne : v.ownBlock = none ∨ v.ownBlock ≠ r) : IOwn w' base v L := World.ownsRow.kept h hg hne
theorem IOwn.grown {w w' : World} {base : Nat} {v : Value} {L : List It} (h : IOwn w base v L) (hg : w.grownBy w' none) : IOwn w' base v L := h.kept hg (oor _)
theorem IOwn.ge {w : World} {base : Nat} {v : Value} {L : List It} (h : IOwn w base v L) : ∀ q, v.ownBlock = some q → base ≤ q ∧ q < w.heap.size := fun q hq => World.ownsRow.lt h q hq
theorem IOwn.rd {w : World} {base : Nat} {v : Value} {L : List It} (h : IOwn w base v L) : IRd w v L := by
  have h' := h
  obtain ⟨h0, h⟩ := h
  rcases h with ⟨rfl, h⟩ | ⟨g, cap, cur, rfl, h1, h2, h3, h4, h5, h6⟩
  · exact ⟨none, 0, by rw [h], by omega, .inl ⟨rfl, h, rfl⟩⟩
  · refine ⟨some ⟨g, 0, none⟩, cap, rfl, h3, .inr ⟨g, rfl, (Array.getElem?_eq_some_iff.1 h2).1, fun i hi => ?_⟩⟩
    have key : ∀ j, j < L.length * 4 → w.cell? ⟨g, j, none⟩ = (ic L)[j]? := fun j hj => World.ownsRow.cellAt h' j hj
    obtain ⟨k0, k1, k2, k3⟩ := ic_at L i hi
    rw [Nat.zero_add]
    exact ⟨by rw [key _ (by omega)]; exact k0, by rw [key _ (by omega)]; exact k1, by rw [key _ (by omega)]; exact k2, by rw [key _ (by omega)]; exact k3⟩
theorem IRd.kept {w w' : World} {r : Option Nat} {v : Value} {L : List It} (h : IRd w v L) (hg : w.grownBy w' r) (hne : v.ownBlock = none ∨ v.ownBlock ≠ r) : IRd w' v L := by
  obtain ⟨A, c, rfl, h0, h⟩ := h
  refine ⟨A, c, rfl, h0, ?_⟩
  rcases h with h | ⟨g, rfl, h1, h2⟩
  · exact .inl h
  · have hr : some g ≠ r := by simpa [Value.ownBlock] using hne
    refine .inr ⟨g, rfl, Nat.lt_of_lt_of_le h1 hg.size, fun i hi => ?_⟩
    obtain ⟨a, b, c, d⟩ := h2 i hi
    exact ⟨hg.cell a hr, hg.cell b hr, hg.cell c hr, hg.cell d hr⟩
theorem IRd.lt {w : World} {v : Value} {L : List It} (h : IRd w v L) : ∀ q, v.ownBlock = some q → q < w.heap.size := by
  obtain ⟨A, c, rfl, h0, h⟩ := h
  intro q hq
  rcases h with ⟨rfl, _⟩ | ⟨g, rfl, h1, h2⟩
  · cases hq
  · simp only [Value.ownBlock, Option.some.injEq] at hq; omega
theorem it_cell {w : World} {g o : Nat} {L : List It} (h : ItCells w g o L) (j : Nat) (u : Value) (hu : (ic L)[j]? = some u) : w.cell? ⟨g, o + j, none⟩ = some u := by
  have hj : j < L.length * 4 := by rw [← ic_length]; exact (List.getElem?_eq_some_iff.1 hu).1
  have hk : j / 4 < L.length := by omega
  obtain ⟨d0, d1, d2, d3⟩ := h (j / 4) hk
  obtain ⟨k0, k1, k2, k3⟩ := ic_at L (j / 4) hk
  rcases (by omega : j = j / 4 * 4 ∨ j = j / 4 * 4 + 1 ∨ j = j / 4 * 4 + 2 ∨ j = j / 4 * 4 + 3) with e | e | e | e
  · rw [e, k0] at hu; rw [e]; rw [← hu]; exact d0
  · rw [e, k1] at hu; rw [e]; rw [← hu]; exact d1
  · rw [e, k2] at hu; rw [e]; rw [← hu]; exact d2
  · rw [e, k3] at hu; rw [e]; rw [← hu]; exact d3
/-- append of items that lie somewhere. -/
theorem iapp {w : World} {base : Nat} {v : Value} {L M : List It} (h : IOwn w base v L) (hl : L.length + M.length ≤ 100000) (hb : base ≤ w.heap.size) (g o c : Nat) (hc : ItCells w g o M) (ty : TypeId) :
    ∃ A1 c1 w', (appS #[63, 63] ty #[v, .slice (some ⟨g, o, none⟩) M.length c]).run Try.prog w = .ok (.slice A1 (L.length + M.length) c1) w' ∧ IOwn w' base (.slice A1 (L.length + M.length) c1) (L ++ M) ∧ w.grownBy w' v.ownBlock := by
  obtain ⟨i0, hi0, hz0, hz1, hz2⟩ := info_parts infoIt
  have ht := Try.underlying63
  obtain ⟨v1, w1, r1, o1, g1, -⟩ := run_append_own (P := Try.prog) w base 63 ty 70 i0 _ 4 32 ht hi0 hz0 hz1 hz2 rfl (by decide) v L.length (ic L) h ⟨g, o, none⟩ M.length c (ic M) (ic_length M)
    (fun j u hu => by rw [addr_addo]; exact it_cell hc j u hu) (ic_one M) (by simp only [maxLen]; omega) (by omega) hb
  have ho : IOwn w1 base v1 (L ++ M) := by
    unfold IOwn
    rw [List.length_append, ic_append]
    exact o1
  obtain ⟨A1, c1, e, -⟩ := ho.rd
  rw [List.length_append] at e
  subst e
  exact ⟨A1, c1, w1, r1, ho, g1⟩
theorem iapp_none {w : World} {base : Nat} {v : Value} {L : List It} (h : IOwn w base v L) (ty : TypeId) :
    (appS #[63, 63] ty #[v, .slice none 0 0]).run Try.prog w = .ok v w := by
  obtain ⟨i0, hi0, hz0, hz1, hz2⟩ := info_parts infoIt
  exact run_append_owned_none (P := Try.prog) w base 63 ty 70 i0 4 Try.underlying63 hi0 v L.length (ic L) h
/-- append of a whole slice of items. -/
theorem iapp_rd {w : World} {base : Nat} {v x : Value} {L M : List It} (h : IOwn w base v L) (hx : IRd w x M) (hl : L.length + M.length ≤ 100000) (hb : base ≤ w.heap.size) (ty : TypeId) :
    ∃ A1 c1 w', (appS #[63, 63] ty #[v, x]).run Try.prog w = .ok (.slice A1 (L.length + M.length) c1) w' ∧ IOwn w' base (.slice A1 (L.length + M.length) c1) (L ++ M) ∧ w.grownBy w' v.ownBlock := by
  obtain ⟨A, c, rfl, h0, hx⟩ := hx
  rcases hx with ⟨rfl, h1, rfl⟩ | ⟨g, rfl, h1, h2⟩
  · obtain ⟨A1, c1, e, -⟩ := h.rd
    have hM : M = [] := List.eq_nil_of_length_eq_zero h1
    subst hM e
    exact ⟨A1, c1, w, iapp_none h ty, by rw [List.append_nil]; exact h, grown_refl _ _⟩
  · exact iapp h hl hb g 0 c h2 ty

/-! ### the mail -/
/-- The document's mail at block p: L is all that is under way, K how many came. -/
structure Rm (w : World) (p n b : Nat) (v : Value) (L : List It) (K : Nat) : Prop where
  c0 : w.cell? ⟨p, 0, none⟩ = some (.int .i64 n)
  c1 : w.cell? ⟨p, 1, none⟩ = some (.int .i64 b)
  c2 : w.cell? ⟨p, 2, none⟩ = some v
  c3 : w.cell? ⟨p, 3, none⟩ = some (.int .i64 K)
  rd : IRd w v L
  np : v.ownBlock ≠ some p
  fz : ∀ k, w.frozen? ⟨p, k, none⟩ = false
  plt : p < w.heap.size
  n64 : n ≤ 64
  b64 : b ≤ 64
  l : L.length ≤ 1000
  k : K ≤ 1000
theorem Rm.kept {w w' : World} {r : Option Nat} {p n b : Nat} {v : Value} {L : List It} {K : Nat} (h : Rm w p n b v L K) (hg : w.grownBy w' r) (h1 : some p ≠ r) (h2 : v.ownBlock = none ∨ v.ownBlock ≠ r) : Rm w' p n b v L K :=
  ⟨hg.cell h.c0 h1, hg.cell h.c1 h1, hg.cell h.c2 h1, hg.cell h.c3 h1, h.rd.kept hg h2, h.np, fun k => by rw [World.frozen?_of_block (hg.block p h.plt h1)]; exact h.fz k, Nat.lt_of_lt_of_le h.plt hg.size, h.n64, h.b64, h.l, h.k⟩
theorem Rm.grown {w w' : World} {p n b : Nat} {v : Value} {L : List It} {K : Nat} (h : Rm w p n b v L K) (hg : w.grownBy w' none) : Rm w' p n b v L K := h.kept hg (by simp) (oor _)
set_option maxRecDepth 100000 in
set_option maxHeartbeats 1000000 in
theorem rin_at {w : World} {p n b : Nat} {v : Value} {L : List It} {K : Nat} (h : Rm w p n b v L K) (t : Int) :
    Calls Try.prog 37 #[.pointer (some ⟨p, 0, none⟩), .int .i64 t] w fun e w' => e = .returned (.bool (inB n t)) ∧ w = w' := by
  have c0 := h.c0
  clear h
  by_cases h1 : 0 ≤ t
  · have b1 : decide (t ≥ 0) = true := decide_eq_true h1
    have b1' : decide (0 ≤ t) = true := decide_eq_true h1
    by_cases h2 : t < n
    · have hv : inB n t = true := (inB_iff _ _).2 ⟨h1, h2⟩
      rw [hv]
      go_enter Try.func37, Try.ntmps37
      go_wp2
      go_ret
      exact ⟨rfl, rfl⟩
    · have hv : inB n t = false := by rw [Bool.eq_false_iff]; exact fun e => h2 ((inB_iff _ _).1 e).2
      rw [hv]
      go_enter Try.func37, Try.ntmps37
      go_wp2
      go_ret
      exact ⟨rfl, rfl⟩
  · have b1 : decide (t ≥ 0) = false := decide_eq_false h1
    have b1' : decide (0 ≤ t) = false := decide_eq_false h1
    have hv : inB n t = false := by rw [Bool.eq_false_iff]; exact fun e => h1 ((inB_iff _ _).1 e).1
    rw [hv]
    go_enter Try.func37, Try.ntmps37
    go_wp2
    go_ret
    exact ⟨rfl, rfl⟩
/-- What Held counts, what Waits counts, what passes. -/
def hB (f t : Int) (x : It) : Bool := x.f == f && (x.c == 0 && (decide (t < 0) || x.t == t))
def wB (t : Int) (x : It) : Bool := x.t == t && decide (x.c > 0)
def pB (f t : Int) (x : It) : Bool := x.f == f && (x.t == t && x.c == 0)
def cnt (q : It → Bool) (L : List It) : Nat := (L.filter q).length
theorem cnt_take (q : It → Bool) (L : List It) (i : Nat) (h : i < L.length) : cnt q (L.take (i + 1)) = cnt q (L.take i) + if q (L[i]'h) = true then 1 else 0 := by
  unfold cnt
  rw [List.take_succ_eq_append_getElem h, List.filter_append, List.length_append]
  congr 1
  cases hq : q (L[i]'h) <;> simp [hq]
theorem cnt_le (q : It → Bool) (L : List It) (i : Nat) : cnt q (L.take i) ≤ L.length := Nat.le_trans (List.length_filter_le _ _) (by rw [List.length_take]; omega)
set_option maxRecDepth 100000 in
set_option maxHeartbeats 2000000 in
theorem rheld_at {w : World} {p n b : Nat} {v : Value} {L : List It} {K : Nat} (h : Rm w p n b v L K) (f t : Int) :
    Calls Try.prog 38 #[.pointer (some ⟨p, 0, none⟩), .int .i64 f, .int .i64 t] w fun e w' => e = .returned (.int .i64 (cnt (hB f t) L : Nat)) ∧ w.grownBy w' none := by
  have c2 := h.c2
  have hl := h.l
  obtain ⟨A, c, rfl, h0, hr⟩ := h.rd
  have hli : (L.length : Int) ≤ 1000 := by omega
  have HR := Lib.hid hr
  have HL := Lib.hid hl
  clear h h0 hr hl
  go_enter Try.func38, Try.ntmps38
  go_wp2_with fail
  go_loopw [7, 15] (fun s i wr => ∃ k : Nat, k ≤ L.length ∧ i = .int .i64 k ∧ s = .int .i64 (cnt (hB f t) (L.take k) : Nat) ∧ w.grownBy wr none) (fun _ i _ => L.length - (intOf i).toNat)
  case atStart => exact ⟨0, by omega, rfl, rfl, grown_refl _ _⟩
  case round =>
    obtain ⟨k, hk, rfl, rfl, hg⟩ := hrel
    have HG := Lib.hid hg
    clear hg
    by_cases hlt : k < L.length
    · have hki : (k : Int) < L.length := by omega
      have HK := Lib.hid hlt
      obtain ⟨g, rfl, -, hcell⟩ := HR.out.resolve_left (by omega)
      obtain ⟨d0, d1, d2, d3⟩ := hcell k hlt
      rw [Nat.zero_add] at d0 d1 d2 d3
      have HE := Lib.hid (cnt_take (hB f t) L k hlt)
      have hcl := cnt_le (hB f t) L k
      obtain ⟨⟨xf, xt, xa, xc⟩, he⟩ : ∃ o : It, L[k]'hlt = o := ⟨_, rfl⟩
      rw [he] at d0 d1 d2 d3 HE
      simp only [] at d0 d1 d2 d3
      replace d0 := HG.out.cell d0 (by simp)
      replace d1 := HG.out.cell d1 (by simp)
      replace d2 := HG.out.cell d2 (by simp)
      replace d3 := HG.out.cell d3 (by simp)
      generalize cnt (hB f t) (L.take k) = m at *
      have hm : (m : Int) ≤ 1000 := by have := HL.out; omega
      have HG2 := Lib.hid (grown_trans HG.out (grown_alloc wr (.cells #[.int .i64 xf, .int .i64 xt, .int .i64 xa, .int .i64 xc] 70) none))
      have x0 : (wr.alloc (.cells #[.int .i64 xf, .int .i64 xt, .int .i64 xa, .int .i64 xc] 70)).cell? ⟨wr.heap.size, 0, none⟩ = some (.int .i64 xf) := by rw [cell_alloc_new]; rfl
      have x1 : (wr.alloc (.cells #[.int .i64 xf, .int .i64 xt, .int .i64 xa, .int .i64 xc] 70)).cell? ⟨wr.heap.size, 1, none⟩ = some (.int .i64 xt) := by rw [cell_alloc_new]; rfl
      have x3 : (wr.alloc (.cells #[.int .i64 xf, .int .i64 xt, .int .i64 xa, .int .i64 xc] 70)).cell? ⟨wr.heap.size, 3, none⟩ = some (.int .i64 xc) := by rw [cell_alloc_new]; rfl
      clear hcell he hlt hk hcl
      go_upto_region 5 with (fail)
      generalize wr.alloc (.cells #[.int .i64 xf, .int .i64 xt, .int .i64 xa, .int .i64 xc] 70) = w7 at *
      generalize wr.heap.size = x at *
      clear d0 d1 d2 d3 HG
      cases b1 : (xf == f) with
      | false =>
        have HE2 : Hid (cnt (hB f t) (L.take (k + 1)) = m) := Lib.hid (by rw [HE.out]; simp [hB, b1])
        go_wp2_with fail
        go_roundw
        case rel => exact ⟨k + 1, HK.out, by go_num, by rw [HE2.out], HG2.out⟩
        case measure => have := HK.out; simp [intOf]; omega
      | true =>
        cases b2 : (xc == 0) with
        | false =>
          have HE2 : Hid (cnt (hB f t) (L.take (k + 1)) = m) := Lib.hid (by rw [HE.out]; simp [hB, b2])
          go_wp2_with fail
          go_roundw
          case rel => exact ⟨k + 1, HK.out, by go_num, by rw [HE2.out], HG2.out⟩
          case measure => have := HK.out; simp [intOf]; omega
        | true =>
          cases b3 : decide (t < 0) with
          | true =>
            have HE2 : Hid (cnt (hB f t) (L.take (k + 1)) = m + 1) := Lib.hid (by rw [HE.out]; simp only [hB, b1, b2, b3]; rfl)
            go_wp2_with fail
            go_roundw
            case rel => exact ⟨k + 1, HK.out, by go_num, by rw [HE2.out]; go_num, HG2.out⟩
            case measure => have := HK.out; simp [intOf]; omega
          | false =>
            cases b4 : (xt == t) with
            | true =>
              have HE2 : Hid (cnt (hB f t) (L.take (k + 1)) = m + 1) := Lib.hid (by rw [HE.out]; simp only [hB, b1, b2, b3, b4]; rfl)
              go_wp2_with fail
              go_roundw
              case rel => exact ⟨k + 1, HK.out, by go_num, by rw [HE2.out]; go_num, HG2.out⟩
              case measure => have := HK.out; simp [intOf]; omega
            | false =>
              have HE2 : Hid (cnt (hB f t) (L.take (k + 1)) = m) := Lib.hid (by rw [HE.out]; simp only [hB, b1, b2, b3, b4]; rfl)
              go_wp2_with fail
              go_roundw
              case rel => exact ⟨k + 1, HK.out, by go_num, by rw [HE2.out], HG2.out⟩
              case measure => have := HK.out; simp [intOf]; omega
    · have hki : ¬ (k : Int) < L.length := by omega
      have HE2 : Hid (cnt (hB f t) (L.take k) = cnt (hB f t) L) := Lib.hid (by rw [List.take_of_length_le (by omega)])
      clear hlt hk
      go_wp2_with fail
      go_ret
      exact ⟨by rw [HE2.out]; rfl, HG.out⟩
set_option maxRecDepth 100000 in
set_option maxHeartbeats 2000000 in
theorem rwaits_at {w : World} {p n b : Nat} {v : Value} {L : List It} {K : Nat} (h : Rm w p n b v L K) (t : Int) :
    Calls Try.prog 41 #[.pointer (some ⟨p, 0, none⟩), .int .i64 t] w fun e w' => e = .returned (.int .i64 (cnt (wB t) L : Nat)) ∧ w.grownBy w' none := by
  have c2 := h.c2
  have hl := h.l
  obtain ⟨A, c, rfl, h0, hr⟩ := h.rd
  have hli : (L.length : Int) ≤ 1000 := by omega
  have HR := Lib.hid hr
  have HL := Lib.hid hl
  clear h h0 hr hl
  go_enter Try.func41, Try.ntmps41
  go_wp2_with fail
  go_loopw [5, 13] (fun s i wr => ∃ k : Nat, k ≤ L.length ∧ i = .int .i64 k ∧ s = .int .i64 (cnt (wB t) (L.take k) : Nat) ∧ w.grownBy wr none) (fun _ i _ => L.length - (intOf i).toNat)
  case atStart => exact ⟨0, by omega, rfl, rfl, grown_refl _ _⟩
  case round =>
    obtain ⟨k, hk, rfl, rfl, hg⟩ := hrel
    have HG := Lib.hid hg
    clear hg
    by_cases hlt : k < L.length
    · have hki : (k : Int) < L.length := by omega
      have HK := Lib.hid hlt
      obtain ⟨g, rfl, -, hcell⟩ := HR.out.resolve_left (by omega)
      obtain ⟨d0, d1, d2, d3⟩ := hcell k hlt
      rw [Nat.zero_add] at d0 d1 d2 d3
      have HE := Lib.hid (cnt_take (wB t) L k hlt)
      have hcl := cnt_le (wB t) L k
      obtain ⟨⟨xf, xt, xa, xc⟩, he⟩ : ∃ o : It, L[k]'hlt = o := ⟨_, rfl⟩
      rw [he] at d0 d1 d2 d3 HE
      simp only [] at d0 d1 d2 d3
      replace d0 := HG.out.cell d0 (by simp)
      replace d1 := HG.out.cell d1 (by simp)
      replace d2 := HG.out.cell d2 (by simp)
      replace d3 := HG.out.cell d3 (by simp)
      generalize cnt (wB t) (L.take k) = m at *
      have hm : (m : Int) ≤ 1000 := by have := HL.out; omega
      have HG2 := Lib.hid (grown_trans HG.out (grown_alloc wr (.cells #[.int .i64 xf, .int .i64 xt, .int .i64 xa, .int .i64 xc] 70) none))
      have x1 : (wr.alloc (.cells #[.int .i64 xf, .int .i64 xt, .int .i64 xa, .int .i64 xc] 70)).cell? ⟨wr.heap.size, 1, none⟩ = some (.int .i64 xt) := by rw [cell_alloc_new]; rfl
      have x3 : (wr.alloc (.cells #[.int .i64 xf, .int .i64 xt, .int .i64 xa, .int .i64 xc] 70)).cell? ⟨wr.heap.size, 3, none⟩ = some (.int .i64 xc) := by rw [cell_alloc_new]; rfl
      clear hcell he hlt hk hcl
      go_upto_region 5 with (fail)
      generalize wr.alloc (.cells #[.int .i64 xf, .int .i64 xt, .int .i64 xa, .int .i64 xc] 70) = w7 at *
      generalize wr.heap.size = x at *
      clear d0 d1 d2 d3 HG
      cases b2 : (xt == t) with
      | false =>
        have HE2 : Hid (cnt (wB t) (L.take (k + 1)) = m) := Lib.hid (by rw [HE.out]; simp [wB, b2])
        go_wp2_with fail
        go_roundw
        case rel => exact ⟨k + 1, HK.out, by go_num, by rw [HE2.out], HG2.out⟩
        case measure => have := HK.out; simp [intOf]; omega
      | true =>
        cases b3 : decide (xc > 0) with
        | true =>
          have HE2 : Hid (cnt (wB t) (L.take (k + 1)) = m + 1) := Lib.hid (by rw [HE.out]; simp only [wB, b2, b3]; rfl)
          go_wp2_with fail
          go_roundw
          case rel => exact ⟨k + 1, HK.out, by go_num, by rw [HE2.out]; go_num, HG2.out⟩
          case measure => have := HK.out; simp [intOf]; omega
        | false =>
          have HE2 : Hid (cnt (wB t) (L.take (k + 1)) = m) := Lib.hid (by rw [HE.out]; simp only [wB, b2, b3]; rfl)
          go_wp2_with fail
          go_roundw
          case rel => exact ⟨k + 1, HK.out, by go_num, by rw [HE2.out], HG2.out⟩
          case measure => have := HK.out; simp [intOf]; omega
    · have hki : ¬ (k : Int) < L.length := by omega
      have HE2 : Hid (cnt (wB t) (L.take k) = cnt (wB t) L) := Lib.hid (by rw [List.take_of_length_le (by omega)])
      clear hlt hk
      go_wp2_with fail
      go_ret
      exact ⟨by rw [HE2.out]; rfl, HG.out⟩
end Go.Proofs.Ytldpljfanlhooaa
