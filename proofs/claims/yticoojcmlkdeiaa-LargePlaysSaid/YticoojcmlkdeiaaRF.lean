/- The document's set: Drop. -/
import Derived.Test.YticoojcmlkdeiaaRE
namespace Go.Proofs.Yticoojcmlkdeiaa
open Go.RowKit
open Sl (upd)
open Lg (pgs)
open Rf (LZ bcells)

theorem Rf.bcells_one' : ∀ (l : List (Nat × Nat)), ∀ u ∈ bcells l, u.oneCell' = true
  | [], u, h => by simp [bcells] at h
  | b :: l, u, h => by
    simp only [bcells, List.mem_cons] at h
    rcases h with rfl | rfl | h
    · rfl
    · rfl
    · exact Rf.bcells_one' l u h
theorem Rf.bcells_cell {w : World} {g : Nat} {L : List (Nat × Nat)} (hc : ∀ i (h : i < L.length), w.cell? ⟨g, i * 2, none⟩ = some (.int .i64 (L[i].1 : Nat)) ∧ w.cell? ⟨g, i * 2 + 1, none⟩ = some (.int .i64 (L[i].2 : Nat))) (j : Nat) (u : Value) (h : (bcells L)[j]? = some u) : w.cell? ⟨g, j, none⟩ = some u := by
  have hj : j < L.length * 2 := by rw [← Rf.bcells_length]; exact (List.getElem?_eq_some_iff.1 h).1
  have hk : j / 2 < L.length := by omega
  obtain ⟨c0, c1⟩ := hc (j / 2) hk
  obtain ⟨d0, d1⟩ := Rf.bcells_at L (j / 2) hk
  rcases Nat.mod_two_eq_zero_or_one j with e | e
  · have ej : j / 2 * 2 = j := by omega
    rw [ej] at c0 d0
    rw [c0, ← h, d0]
  · have ej : j / 2 * 2 + 1 = j := by omega
    rw [ej] at c1 d1
    rw [c1, ← h, d1]
theorem addr_add_off (g o j : Nat) : (⟨g, o, none⟩ : Addr).add j = ⟨g, o + j, none⟩ := by unfold Addr.add; split <;> simp_all

/-- The two appends of Drop, run. -/
theorem rdel_run1 {b0 : Nat} {w : World} {r q cap key N vc g : Nat} {L : List (Nat × Nat)} {B : Nat → Nat} (h : RgAt b0 w r q cap key N (some ⟨g, 0, none⟩) vc L B) (hlen : L.length ≤ 100000) (i : Nat) (hi : i < L.length) :
    ∃ A1 k1 w1, (Builtin.append_ #[61, 61] 61 #[.slice (some ⟨w.heap.size, 0, none⟩) 0 0, .slice (some ⟨g, 0, none⟩) i vc]).run Try.prog (w.alloc (.cells #[] 70)).drew = .ok (.slice A1 i k1) w1 ∧ w1.ownsRow w.heap.size 70 2 (.slice A1 i k1) i (bcells (L.take i)) ∧ w.grownBy w1 none := by
  obtain ⟨i0, hi0, hz0, hz1, hz2⟩ := info_parts infoBlock
  have hcs : ∀ i (h : i < L.length), w.cell? ⟨g, i * 2, none⟩ = some (.int .i64 (L[i].1 : Nat)) ∧ w.cell? ⟨g, i * 2 + 1, none⟩ = some (.int .i64 (L[i].2 : Nat)) := by
    rcases h.els with h0 | ⟨g', e, _, _, hc⟩
    · omega
    · injection e with e; injection e with e; subst e; exact hc
  have hsplit : bcells L = bcells (L.take i) ++ bcells (L.drop i) := by rw [← Rf.bcells_append, List.take_append_drop]
  have gA0 := grown_alloc w (.cells #[] 70) none
  have gA := grown_drew1 gA0
  have ho : (w.alloc (.cells #[] 70)).drew.ownsRow w.heap.size 70 2 (.slice (some ⟨w.heap.size, 0, none⟩) 0 0) 0 [] :=
    (World.ownsRow_made w #[] 0 (Nat.le_refl _) (Nat.zero_le _) rfl).kept (grown_drew1 (grown_refl _ none)) (.inr (by simp [Value.ownBlock]))
  obtain ⟨v1, w1, r1, o1, g1, -⟩ := run_append_own (P := Try.prog) (w.alloc (.cells #[] 70)).drew w.heap.size 61 61 70 i0 (.agg #[.int .i64 0, .int .i64 0]) 2 16 Try.underlying61 hi0 hz0 hz1 hz2 rfl (by decide) (.slice (some ⟨w.heap.size, 0, none⟩) 0 0) 0 [] ho ⟨g, 0, none⟩ i vc (bcells (L.take i)) (by rw [Rf.bcells_length, List.length_take, Nat.min_eq_left (by omega)])
    (fun j u hu => by
      rw [addr_add_off, Nat.zero_add]
      refine gA.cell (Rf.bcells_cell hcs j u ?_) (by simp)
      rw [hsplit, List.getElem?_append_left (List.getElem?_eq_some_iff.1 hu).1]; exact hu)
    (Rf.bcells_one' _) (by simp only [maxLen]; omega) (by omega) (by simp)
  have G1 : w.grownBy w1 none := An.grown_onto gA g1 (fun q hq => by simp [Value.ownBlock] at hq; omega)
  rw [Nat.zero_add, List.nil_append] at o1
  obtain ⟨A1, k1, rfl, hk1⟩ := bown_shape o1
  exact ⟨A1, k1, w1, r1, o1, G1⟩
theorem rdel_run2 {b0 : Nat} {w w0 : World} {r q cap key N vc g k1 : Nat} {A1 : Option Addr} {L : List (Nat × Nat)} {B : Nat → Nat} (h : RgAt b0 w r q cap key N (some ⟨g, 0, none⟩) vc L B) (hlen : L.length ≤ 100000) (i : Nat) (hi : i < L.length) (ad2 : Addr) (c2 : Nat) (h2 : L.length = i + 1 ∨ ad2 = ⟨g, (i + 1) * 2, none⟩)
    (o1 : w.ownsRow w0.heap.size 70 2 (.slice A1 i k1) i (bcells (L.take i))) (G1 : w0.grownBy w none) :
    ∃ A2 k2 w2, (Builtin.append_ #[61, 61] 61 #[.slice A1 i k1, .slice (some ad2) (L.length - (i + 1)) c2]).run Try.prog w = .ok (.slice A2 (L.length - 1) k2) w2 ∧ L.length - 1 ≤ k2 ∧ BOwn w2 w0.heap.size (.slice A2 (L.length - 1) k2) (L.eraseIdx i) ∧ w0.grownBy w2 none := by
  obtain ⟨i0, hi0, hz0, hz1, hz2⟩ := info_parts infoBlock
  have hcs : ∀ i (h : i < L.length), w.cell? ⟨g, i * 2, none⟩ = some (.int .i64 (L[i].1 : Nat)) ∧ w.cell? ⟨g, i * 2 + 1, none⟩ = some (.int .i64 (L[i].2 : Nat)) := by
    rcases h.els with h0 | ⟨g', e, _, _, hc⟩
    · omega
    · injection e with e; injection e with e; subst e; exact hc
  have hsplit2 : bcells L = bcells (L.take (i + 1)) ++ bcells (L.drop (i + 1)) := by rw [← Rf.bcells_append, List.take_append_drop]
  obtain ⟨v2, w2, r2, o2, g2, -⟩ := run_append_own (P := Try.prog) w w0.heap.size 61 61 70 i0 (.agg #[.int .i64 0, .int .i64 0]) 2 16 Try.underlying61 hi0 hz0 hz1 hz2 rfl (by decide) (.slice A1 i k1) i (bcells (L.take i)) o1 ad2 (L.length - (i + 1)) c2 (bcells (L.drop (i + 1))) (by rw [Rf.bcells_length, List.length_drop])
    (fun j u hu => by
      have hj := (List.getElem?_eq_some_iff.1 hu).1
      rw [Rf.bcells_length, List.length_drop] at hj
      rcases h2 with h2 | rfl
      · omega
      · rw [addr_add_off]
        refine Rf.bcells_cell hcs _ u ?_
        have hl : (bcells (L.take (i + 1))).length = (i + 1) * 2 := by rw [Rf.bcells_length, List.length_take, Nat.min_eq_left (by omega)]
        rw [hsplit2, List.getElem?_append_right (by omega), hl, Nat.add_sub_cancel_left]; exact hu)
    (Rf.bcells_one' _) (by simp only [maxLen]; omega) (by omega) (G1.size)
  have e1 : i + (L.length - (i + 1)) = L.length - 1 := by omega
  have hel : (L.eraseIdx i).length = L.length - 1 := List.length_eraseIdx_of_lt hi
  rw [e1] at o2
  obtain ⟨A2, k2, rfl, hk2⟩ := bown_shape o2
  refine ⟨A2, k2, w2, r2, hk2, ?_, An.grown_onto G1 g2 (fun q hq => (World.ownsRow.lt o1 q hq).1)⟩
  unfold BOwn
  rw [hel, List.eraseIdx_eq_take_drop_succ, Rf.bcells_append]
  exact o2
/-- append by an equation, as one step of a region that draws. -/
theorem step_append_run {P : Program} {ops : Array Oper} {o : Oper} {a : Go.Act} {w : World} {K : Go.Act → World → Prop} {Q : Exit → Go.Act → World → Prop} {E : Prop}
    (hg : o.guard = none) (s x : Operand) (t : TypeId) (hop : o.op = Op.call { callee := Callee.builtin Builtin.append, args := #[s, x], argTypes := #[t, t] })
    (v1 v2 v' : Value) (w' : World) (hs : a.eval s = v1) (hx : a.eval x = v2) (hrun : (Builtin.append_ #[t, t] o.type #[v1, v2]).run P w = .ok v' w') (hK : K (a.put o.dst v') w') :
    if Region.wanted o (yielded ops a.tmps) = true then Oper.wp P o a w K Q else E := by
  have hw : Region.wanted o (yielded ops a.tmps) = true := by simp [Region.wanted, hg]
  rw [if_pos hw]
  unfold Oper.wp execOp
  simp only [hop, resolve, invoke, builtin, Sem.run_bind, Sem.run_pure, Result.andThen_ok, List.map_toArray, List.map_cons, List.map_nil, hs, hx, hrun]
  exact hK

theorem rat_none {b0 : Nat} {w : World} {r q cap key N : Nat} {A : Option Addr} {vc : Nat} {L : List (Nat × Nat)} {B : Nat → Nat} (h : RgAt b0 w r q cap key N A vc L B) (hlen : L.length ≤ 100000) (page : Int) (hno : ∀ i (_ : i < L.length), (L[i].1 : Int) ≠ page) :
    Calls Try.prog 74 #[.pointer (some ⟨r, 0, none⟩), .int .i64 page] w fun e w' => e = .returned (.int .i64 (-1)) ∧ w.grownBy w' none := by
  refine (rat_at h hlen page).mono ?_
  rintro e w' ⟨x, rfl, ⟨rfl, -⟩ | ⟨i, hi, -, he⟩, hg⟩
  · exact ⟨rfl, hg⟩
  · exact absurd he (hno i hi)
theorem rat_some {b0 : Nat} {w : World} {r q cap key N : Nat} {A : Option Addr} {vc : Nat} {L : List (Nat × Nat)} {Z B : Nat → Nat} (h : RgAt b0 w r q cap key N A vc L B) (hlen : L.length ≤ 100000) (hz : LZ L Z) (page : Nat) (hp : Z page ≠ 0) :
    ∃ i, ∃ hi : i < L.length, L[i]'hi = (page, Z page) ∧ Calls Try.prog 74 #[.pointer (some ⟨r, 0, none⟩), .int .i64 page] w fun e w' => e = .returned (.int .i64 i) ∧ w.grownBy w' none := by
  obtain ⟨i, hi, e⟩ := List.mem_iff_getElem.1 ((hz.mem page (Z page)).2 ⟨rfl, hp⟩)
  refine ⟨i, hi, e, (rat_at h hlen page).mono ?_⟩
  rintro e' w' ⟨x, rfl, ⟨-, hno⟩ | ⟨j, hj, rfl, he⟩, hg⟩
  · exact absurd (by rw [e]) (hno i hi)
  · obtain rfl : j = i := hz.inj hj hi (by rw [e]; exact Int.ofNat_inj.1 he)
    exact ⟨rfl, hg⟩
set_option maxRecDepth 100000 in
set_option maxHeartbeats 2000000 in
theorem rdrop_none {b0 : Nat} {w : World} {r q cap key N : Nat} {A : Option Addr} {vc : Nat} {L : List (Nat × Nat)} {B : Nat → Nat} (h : RgAt b0 w r q cap key N A vc L B) (hlen : L.length ≤ 100000) (page : Int) (hno : ∀ i (_ : i < L.length), (L[i].1 : Int) ≠ page) :
    Calls Try.prog 32 #[.pointer (some ⟨r, 0, none⟩), .int .i64 page] w fun e w' => e = .returned (.tuple #[.bool false, .int .i64 6]) ∧ w.grownBy w' none := by
  have HA := Lib.hid (rat_none h hlen page hno)
  clear h hno hlen
  go_enter Try.func32, Try.ntmps32
  go_wp2_with (go_at_call 74; (with_reducible refine HA.out.mono ?_); rintro e w' ⟨rfl, hg⟩; have HG := Lib.hid hg; clear hg)
  go_ret2
  exact ⟨rfl, HG.out⟩

/-- What the document's Drop leaves. -/
def RDr (b0 : Nat) (w w' : World) (r key N : Nat) (L : List (Nat × Nat)) (Z B : Nat → Nat) (page : Nat) (e : Ending) : Prop :=
  e = .returned (.tuple #[.bool (decide (Ar.wordAt B (Lg.grd page (Z page)) = Lg.can key page)), .int .i64 0]) ∧ w.grownBy w' (some r) ∧ ∃ q' cap' A' vc' L', RgAt b0 w' r q' cap' key N A' vc' L' (Lg.dropB page (Z page) B) ∧ LZ L' (upd Z page 0) ∧ L'.length ≤ L.length ∧ w.heap.size ≤ q' ∧ ∀ a, A' = some a → w.heap.size ≤ a.block
set_option maxRecDepth 100000 in
set_option maxHeartbeats 4000000 in
theorem rdrop_ok {b0 : Nat} {w : World} {r q cap key N : Nat} {A : Option Addr} {vc : Nat} {L : List (Nat × Nat)} {Z B : Nat → Nat} (h : RgAt b0 w r q cap key N A vc L B) (hz : LZ L Z) (hv : Lg.Inv Z N) (hlen : L.length ≤ 1000) (page : Nat) (hp : Z page ≠ 0) :
    Calls Try.prog 32 #[.pointer (some ⟨r, 0, none⟩), .int .i64 page] w fun e w' => RDr b0 w w' r key N L Z B page e := by
  obtain ⟨i, hi, hLi, hat⟩ := rat_some h (by omega) hz page hp
  have HA := Lib.hid hat
  have H := Lib.hid h
  obtain ⟨m1, m2⟩ := hv.gr page hp
  have m3 := hv.fit page hp
  have HST := Lib.hid (fun W (g : w.grownBy W none) => rstands_at (h.grown g) page (Z page) m1 m2 m3)
  have HPG := Lib.hid (fun W => rpg_at (Z page) W m1 m2)
  have hN := h.small
  have HZ := Lib.hid (hz.del hi)
  rw [hLi] at HZ
  obtain ⟨n, hn⟩ : ∃ n, Z page = n := ⟨_, rfl⟩
  rw [hn] at HST HPG m1 m2 m3 hLi
  have HN := Lib.hid hn
  have M3 := Lib.hid m3
  have hpi : (page : Int) ≤ 256 := by omega
  have hni : (n : Int) ≤ 4096 := by omega
  have hii : (i : Int) < (L.length : Int) := by omega
  have hli : (L.length : Int) ≤ 1000 := by omega
  obtain ⟨gb, rfl, hgr, hgq, hcs⟩ : ∃ g, A = some ⟨g, 0, none⟩ ∧ g ≠ r ∧ g ≠ q ∧ ∀ i (h : i < L.length), w.cell? ⟨g, i * 2, none⟩ = some (.int .i64 (L[i].1 : Nat)) ∧ w.cell? ⟨g, i * 2 + 1, none⟩ = some (.int .i64 (L[i].2 : Nat)) := by
    rcases h.els with h0 | h0
    · omega
    · exact h0
  have HD := Lib.hid (hcs i hi)
  rw [hLi] at HD
  have HI := Lib.hid hi
  obtain ⟨nl, hnl⟩ : ∃ nl, L.length = nl := ⟨_, rfl⟩
  rw [hnl] at hii hli
  have HNL := Lib.hid hnl
  have HC2 : Hid (w.cell? ⟨r, 2, none⟩ = some (.slice (some ⟨gb, 0, none⟩) nl vc)) := Lib.hid (by rw [← hnl]; exact h.c2)
  have hvc : (nl : Int) ≤ vc := by have := h.hv; omega
  clear h hz hv hlen hp m1 m2 m3 hn hat hLi hcs hnl hi
  go_enter Try.func32, Try.ntmps32
  go_upto_region 5 with ((go_at_call 74; (with_reducible refine HA.out.mono ?_); rintro e w1 ⟨rfl, hg⟩; have HG := Lib.hid hg; have c2 := HG.out.cell HC2.out (by simp); have d0 := HG.out.cell HD.out.1 (by simp); have d1 := HG.out.cell HD.out.2 (by simp); clear hg))
  obtain ⟨xb, hxb⟩ : ∃ xb, xb = w1.heap.size := ⟨_, rfl⟩
  rw [← hxb]
  have HX : Hid ((w1.alloc (.cells #[.int .i64 page, .int .i64 n] 70)).cell? ⟨xb, 0, none⟩ = some (.int .i64 page) ∧ (w1.alloc (.cells #[.int .i64 page, .int .i64 n] 70)).cell? ⟨xb, 1, none⟩ = some (.int .i64 n)) := Lib.hid ⟨by rw [hxb, cell_alloc_new]; rfl, by rw [hxb, cell_alloc_new]; rfl⟩
  have HG1 : Hid (w.grownBy (w1.alloc (.cells #[.int .i64 page, .int .i64 n] 70)) none) := Lib.hid (grown_trans HG.out (grown_alloc _ _ _))
  generalize w1.alloc (.cells #[.int .i64 page, .int .i64 n] 70) = w2 at HX HG1 ⊢
  have HXB : Hid (w.heap.size ≤ xb) := Lib.hid (by rw [hxb]; exact HG.out.size)
  have x0 := HX.out.1
  have x1 := HX.out.2
  have HS2 := Lib.hid (HST.out _ HG1.out)
  clear hxb d0 d1 c2 HG HA HD HST
  obtain ⟨st, hst⟩ : ∃ st, decide (Ar.wordAt B (Lg.grd page n) = Lg.can key page) = st := ⟨_, rfl⟩
  rw [hst] at HS2
  have HSTB := Lib.hid hst
  clear hst
  go_upto_region 6 with ((go_at_call 34; (with_reducible refine HS2.out.mono ?_); rintro e w3 ⟨rfl, hg⟩; have HG3 := Lib.hid hg; clear hg))
  have HX3 := Lib.hid (And.intro (HG3.out.cell HX.out.1 (by simp)) (HG3.out.cell HX.out.2 (by simp)))
  have HR3 := Lib.hid (H.out.grown (grown_trans HG1.out HG3.out))
  have HWG := Lib.hid (grown_trans HG1.out HG3.out)
  obtain ⟨g, hg⟩ : ∃ g, pgs n = g := ⟨_, rfl⟩
  rw [hg] at HPG M3
  have HGG := Lib.hid hg
  have HFI : Hid (∀ W, w3.grownBy W none → Calls Try.prog 69 #[.pointer (some ⟨r, 0, none⟩), .int .i64 page, .int .i64 g, .int .u8 221] W fun e w' => e = .returned (.tuple #[]) ∧ (∃ q5 cap5, RgAt b0 w' r q5 cap5 key N (some ⟨gb, 0, none⟩) vc L (Ar.setB B (page * 256) (g * 256) (fun _ => 221)) ∧ w.heap.size ≤ q5) ∧ w.grownBy w' (some r) ∧ w'.cell? ⟨xb, 0, none⟩ = some (.int .i64 page) ∧ w'.cell? ⟨xb, 1, none⟩ = some (.int .i64 n)) := Lib.hid (fun W gW => by
    have hW := HR3.out.grown gW
    have := rfill_at hW page g 221 M3.out
    refine (by simpa using this : Calls Try.prog 69 #[.pointer (some ⟨r, 0, none⟩), .int .i64 page, .int .i64 g, .int .u8 221] W fun e w' => e = .returned (.tuple #[]) ∧ Fil W w' r N (Ar.setB B (page * 256) (g * 256) (fun _ => 221))).mono ?_
    rintro e w' ⟨rfl, hf⟩
    obtain ⟨q5, cap5, h5, hq5⟩ := hW.fil hf (Ar.setB_lt hW.lt (fun _ => by decide) _ _)
    have hgw : W.grownBy w' (some r) := by obtain ⟨_, _, _, _, _, _, k5, _⟩ := hf; exact k5
    have hs := HWG.out.size
    have hs2 := gW.size
    have hrl := H.out.rlt
    have hxb := HXB.out
    have hne : xb ≠ r := by omega
    exact ⟨rfl, ⟨q5, cap5, h5, by omega⟩, grown_trans (grown_none (grown_trans HWG.out gW)) hgw, hgw.cell (gW.cell HX3.out.1 (by simp)) (some_ne hne), hgw.cell (gW.cell HX3.out.2 (by simp)) (some_ne hne)⟩)
  have HO := Lib.hid (fun W (gW : w3.grownBy W none) => And.intro (gW.cell HX3.out.1 (by simp)) (gW.cell HX3.out.2 (by simp)))
  have e0 := HX3.out
  have hg4 := grown_drew1 (grown_refl w3 none)
  clear hg x0 x1 HX HG1 HG3 HS2
  go_region_held3 (fun w' => w'.cell? ⟨xb, 0, none⟩ = some (.int .i64 page) ∧ w'.cell? ⟨xb, 1, none⟩ = some (.int .i64 n))
    (first | exact e0 | exact HS7.out | exact HO.out _ (by assumption))
    (first
    | (go_at_call 68; (with_reducible refine (HPG.out _).mono ?_); rintro e w6 ⟨rfl, rfl⟩)
    | (go_at_call 69; (with_reducible refine (HFI.out _ (by assumption)).mono ?_); rintro e w6 ⟨rfl, hf1, hf2, hf3⟩; have HF := Lib.hid (And.intro hf1 hf2); have HS7 := Lib.hid hf3; clear hf1 hf2 hf3))
  obtain ⟨⟨q5, cap5, h5, hq5⟩, hgf⟩ := HF.out
  have H5 := Lib.hid h5
  have HQ5 := Lib.hid hq5
  have HGF := Lib.hid hgf
  clear h5 hq5 hgf HF HFI HO HS7 HX3 HR3 HWG HPG hg4 e0 HC2
  go_upto_region 7 with (fail)
  obtain ⟨i1, hi1⟩ : ∃ i1, i + 1 = i1 := ⟨_, rfl⟩
  have a1 : IntKind.i64.wrap ((i : Int) + 1) = (i1 : Int) := by rw [IntKind.wrap_i64]; omega
  have t1 : (i1 : Int) ≤ nl := by omega
  have t2 : (i : Int) ≤ vc := by omega
  have t3 : (i1 : Int) ≤ vc := by omega
  have t4 : ¬ vc = 0 := by omega
  have c2 := H5.out.c2
  rw [HNL.out] at c2
  have hlen : L.length ≤ 100000 := by rw [HNL.out]; omega
  have HI1 := Lib.hid hi1
  have HFIN : Hid (∀ A2 k2 w8, L.length - 1 ≤ k2 → BOwn w8 w6.heap.size (.slice A2 (L.length - 1) k2) (L.eraseIdx i) → w6.grownBy w8 none → w8.cell? ⟨r, 2, none⟩ = some (.slice (some ⟨gb, 0, none⟩) nl vc) ∧ w8.frozen? ⟨r, 2, none⟩ = false ∧ RDr b0 w (w8.setCell ⟨r, 2, none⟩ (.slice A2 (L.length - 1) k2)) r key N L Z B page (.returned (.tuple #[.bool st, .int .i64 0]))) := Lib.hid (fun A2 k2 w8 hk2 hown hg8 => by
    have h8 := H5.out.grown hg8
    have hel : (L.eraseIdx i).length = L.length - 1 := List.length_eraseIdx_of_lt HI.out
    have hc2 := h8.c2
    rw [HNL.out] at hc2
    have hw := HGF.out.size
    have hrl := H.out.rlt
    have hql := H5.out.b.qlt
    refine ⟨hc2, h8.fz 2, by rw [← HSTB.out, HN.out], grown_trans HGF.out (grown_trans (grown_none hg8) (An.agrown_set _ _ _ _)), q5, cap5, A2, k2, L.eraseIdx i, ?_, HZ.out, by rw [hel]; omega, HQ5.out, ?_⟩
    · have hfin := h8.setl (L' := L.eraseIdx i) (A' := A2) (vc' := k2) (by rw [hel]; exact hk2) (by
        rcases els_of_own hown with h0 | ⟨ga, rfl, hga, hcs⟩
        · exact .inl h0
        · have hga' : w6.heap.size ≤ ga := hga
          have n1 : ga ≠ r := by omega
          have n2 : ga ≠ q5 := by omega
          exact .inr ⟨ga, rfl, n1, n2, hcs⟩)
      rw [hel] at hfin
      have hdb : Ar.setB B (page * 256) (g * 256) (fun _ => 221) = Lg.dropB page (Z page) B := by unfold Lg.dropB; rw [HN.out, HGG.out]
      rw [hdb] at hfin
      exact hfin
    · intro a ha
      rcases hown.2 with ⟨e, _⟩ | ⟨g', cap', cur, e, hbg, _⟩
      · injection e with e1 _ _
        rw [ha] at e1; cases e1
      · injection e with e1 _ _
        rw [ha] at e1
        injection e1 with e1
        have hbg' : w6.heap.size ≤ g' := hbg
        rw [e1]
        show w.heap.size ≤ g'
        omega)
  have HOC : Hid (∀ W, w6.grownBy W none → W.cell? ⟨r, 2, none⟩ = some (.slice (some ⟨gb, 0, none⟩) nl vc)) := Lib.hid (fun W gr => gr.cell c2 (by simp))
  by_cases hvi : vc = i1
  · obtain ⟨A1, k1, w7, ap1, own1, hg7⟩ := rdel_run1 H5.out hlen i HI.out
    obtain ⟨A2, k2, w8, ap2, hk2, hown, hg8⟩ := rdel_run2 (H5.out.grown hg7) hlen i HI.out ⟨gb, 0, none⟩ 0 (.inl (by rw [HNL.out]; omega)) own1 hg7
    obtain ⟨d8, z8, hfin⟩ := HFIN.out A2 k2 w8 hk2 hown hg8
    have HFI := Lib.hid hfin
    rw [HNL.out] at ap2 HFI
    rw [hi1] at ap2
    have AP1 := Lib.hid ap1
    have AP2 := Lib.hid ap2
    have c6 : (w6.alloc (.cells #[] 70)).cell? ⟨r, 2, none⟩ = some (.slice (some ⟨gb, 0, none⟩) nl vc) := HOC.out _ (grown_alloc w6 (.cells #[] 70) none)
    have c7 := HOC.out _ hg7
    clear hown hg8 hg7 hfin HFIN H5 ap1 ap2 hk2 hlen hi1 own1 HOC
    subst hvi
    go_region_law (first
      | (refine step_append_run rfl _ _ _ rfl (.slice (some ⟨w6.heap.size, 0, none⟩) 0 0) (.slice (some ⟨gb, 0, none⟩) i vc) _ _ rfl rfl AP1.out ?_)
      | (refine step_append_run rfl _ _ _ rfl (.slice A1 i k1) (.slice (some ⟨gb, 0, none⟩) (nl - vc) 0) _ _ rfl rfl AP2.out ?_))
    all_goals
      go_wp2
      go_ret2
      exact HFI.out
  · obtain ⟨A1, k1, w7, ap1, own1, hg7⟩ := rdel_run1 H5.out hlen i HI.out
    obtain ⟨A2, k2, w8, ap2, hk2, hown, hg8⟩ := rdel_run2 (H5.out.grown hg7) hlen i HI.out ⟨gb, i1 * 2, none⟩ (vc - i1) (.inr (by rw [hi1])) own1 hg7
    obtain ⟨d8, z8, hfin⟩ := HFIN.out A2 k2 w8 hk2 hown hg8
    have HFI := Lib.hid hfin
    rw [HNL.out] at ap2 HFI
    rw [hi1] at ap2
    have AP1 := Lib.hid ap1
    have AP2 := Lib.hid ap2
    have c6 : (w6.alloc (.cells #[] 70)).cell? ⟨r, 2, none⟩ = some (.slice (some ⟨gb, 0, none⟩) nl vc) := HOC.out _ (grown_alloc w6 (.cells #[] 70) none)
    have c7 := HOC.out _ hg7
    clear hown hg8 hg7 hfin HFIN H5 ap1 ap2 hk2 hlen hi1 own1 HOC
    go_region_law (first
      | (refine step_append_run rfl _ _ _ rfl (.slice (some ⟨w6.heap.size, 0, none⟩) 0 0) (.slice (some ⟨gb, 0, none⟩) i vc) _ _ rfl rfl AP1.out ?_)
      | (refine step_append_run rfl _ _ _ rfl (.slice A1 i k1) (.slice (some ⟨gb, i1 * 2, none⟩) (nl - i1) (vc - i1)) _ _ rfl rfl AP2.out ?_))
    all_goals
      go_wp2
      go_ret2
      exact HFI.out
end Go.Proofs.Yticoojcmlkdeiaa
