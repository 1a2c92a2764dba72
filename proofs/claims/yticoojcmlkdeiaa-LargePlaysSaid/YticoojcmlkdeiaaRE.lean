/- The document's set: Make where it goes on. -/
import Derived.Test.YticoojcmlkdeiaaRD
namespace Go.Proofs.Yticoojcmlkdeiaa
open Go.RowKit
open Sl (upd)
open Lg (pgs)
open Rf (LZ bcells)

theorem RgAt.byt {b0 : Nat} {w w' : World} {r q cap key N : Nat} {A : Option Addr} {vc : Nat} {L : List (Nat × Nat)} {B B' : Nat → Nat} (h : RgAt b0 w r q cap key N A vc L B) (hg : w.grownBy w' (some q)) (hb : An.BytesAt w' q N B') (hlt : ∀ i, B' i < 256) : RgAt b0 w' r q cap key N A vc L B' :=
  ⟨hg.cell h.c0 (some_ne h.rq.symm), hg.cell h.c1 (some_ne h.rq.symm), hg.cell h.c2 (some_ne h.rq.symm), fun k => by rw [World.frozen?_of_block (w := w) (hg.block r h.rlt (some_ne h.rq.symm))]; exact h.fz k, hb, h.hcap, h.hv,
    h.els.imp id (fun ⟨g, e, n1, n2, hc⟩ => ⟨g, e, n1, n2, fun i hi => ⟨hg.cell (hc i hi).1 (some_ne n2), hg.cell (hc i hi).2 (some_ne n2)⟩⟩), h.rq, h.r0, h.q0, h.small, hlt, h.k⟩
theorem RgAt.setl {b0 : Nat} {w : World} {r q cap key N : Nat} {A A' : Option Addr} {vc vc' : Nat} {L L' : List (Nat × Nat)} {B : Nat → Nat} (h : RgAt b0 w r q cap key N A vc L B) (hv : L'.length ≤ vc')
    (he : L'.length = 0 ∨ ∃ g, A' = some ⟨g, 0, none⟩ ∧ g ≠ r ∧ g ≠ q ∧ ∀ i (h : i < L'.length), w.cell? ⟨g, i * 2, none⟩ = some (.int .i64 (L'[i].1 : Nat)) ∧ w.cell? ⟨g, i * 2 + 1, none⟩ = some (.int .i64 (L'[i].2 : Nat))) :
    RgAt b0 (w.setCell ⟨r, 2, none⟩ (.slice A' L'.length vc')) r q cap key N A' vc' L' B := by
  have hg := An.agrown_set w r 2 (.slice A' L'.length vc')
  have ho : ∀ k x, k ≠ 2 → w.cell? ⟨r, k, none⟩ = some x → (w.setCell ⟨r, 2, none⟩ (.slice A' L'.length vc')).cell? ⟨r, k, none⟩ = some x := fun k x ne hx => by
    rw [World.cell?_setCell_other _ _ _ _ (fun e => ne (congrArg Addr.off e).symm)]; exact hx
  exact ⟨ho _ _ (by decide) h.c0, ho _ _ (by decide) h.c1, World.cell?_setCell_same' _ _ _ (by rw [h.c2]; rfl), fun k => by rw [World.frozen?_setCell]; exact h.fz k, h.b.grown hg (some_ne h.rq), h.hcap, hv,
    he.imp id (fun ⟨g, e, n1, n2, hc⟩ => ⟨g, e, n1, n2, fun i hi => ⟨hg.cell (hc i hi).1 (some_ne n1), hg.cell (hc i hi).2 (some_ne n1)⟩⟩), h.rq, h.r0, h.q0, h.small, h.lt, h.k⟩

/-- copy by an equation, as one step of a region that draws. -/
theorem step_copy_run {P : Program} {ops : Array Oper} {o : Oper} {a : Go.Act} {w : World} {K : Go.Act → World → Prop} {Q : Exit → Go.Act → World → Prop} {E : Prop}
    (hg : o.guard = none) (s x : Operand) (t : TypeId) (hop : o.op = Op.call { callee := Callee.builtin Builtin.copy, args := #[s, x], argTypes := #[t, t] })
    (v1 v2 v' : Value) (w' : World) (hs : a.eval s = v1) (hx : a.eval x = v2) (hrun : (Builtin.copy_ #[t, t] o.type #[v1, v2]).run P w = .ok v' w') (hK : K (a.put o.dst v') w') :
    if Region.wanted o (yielded ops a.tmps) = true then Oper.wp P o a w K Q else E := by
  have hw : Region.wanted o (yielded ops a.tmps) = true := by simp [Region.wanted, hg]
  rw [if_pos hw]
  unfold Oper.wp execOp
  simp only [hop, resolve, invoke, builtin, Sem.run_bind, Sem.run_pure, Result.andThen_ok, List.map_toArray, List.map_cons, List.map_nil, hs, hx, hrun]
  exact hK

/-- What the document's Make leaves. -/
def RMk (b0 : Nat) (w w' : World) (r key N : Nat) (L : List (Nat × Nat)) (Z B : Nat → Nat) (page n : Nat) (e : Ending) : Prop :=
  (e = .returned (.int .i64 7) ∧ (∃ k, Lg.Hit Z page (pgs n) k) ∧ w.grownBy w' none) ∨
  (e = .returned (.int .i64 0) ∧ (∀ k, ¬ Lg.Hit Z page (pgs n) k) ∧ w.grownBy w' (some r) ∧ ∃ q' cap' A' vc', RgAt b0 w' r q' cap' key N A' vc' (Rf.putL page n L) (Lg.makeB key page n B) ∧ w.heap.size ≤ q' ∧ ∀ a, A' = some a → w.heap.size ≤ a.block)

set_option maxRecDepth 100000 in
set_option maxHeartbeats 4000000 in
theorem rmake_main {b0 : Nat} {w : World} {r q cap key N : Nat} {A : Option Addr} {vc : Nat} {L : List (Nat × Nat)} {Z B : Nat → Nat} (h : RgAt b0 w r q cap key N A vc L B) (hz : LZ L Z) (hv : Lg.Inv Z N) (hlen : L.length ≤ 1000) (page n : Nat) (h1 : 120 < n) (h2 : n ≤ 4096) (hf : (page + pgs n) * 256 ≤ N) :
    Calls Try.prog 30 #[.pointer (some ⟨r, 0, none⟩), .int .i64 page, .int .i64 n] w fun e w' => RMk b0 w w' r key N L Z B page n e := by
  have H := Lib.hid h
  have HP := Lib.hid (fun W => rpg_at n W h1 h2)
  have c0 := h.c0
  have c2 := h.c2
  have hN := h.small
  have hg := Lg.pgs_pos n
  have hg2 := Lg.pgs_bd h2
  have HA := Lib.hid h.els
  have HEL : Hid (∀ k (h : k < L.length), 120 < L[k].2 ∧ L[k].2 ≤ 4096 ∧ (L[k].1 + pgs L[k].2) * 256 ≤ N ∧ Z L[k].1 = L[k].2) := Lib.hid (fun k hk => by
    obtain ⟨e1, e2⟩ := hz.at_ hk
    have a1 := hv.gr L[k].1 (by omega)
    have a2 := hv.fit L[k].1 (by omega)
    rw [e1] at a1 a2
    exact ⟨a1.1, a1.2, a2, e1⟩)
  have HHIT : Hid (∀ k (h : k < L.length) t, t < pgs n → L[k].1 ≤ page + t → page + t < L[k].1 + pgs L[k].2 → ∃ k, Lg.Hit Z page (pgs n) k) := Lib.hid (fun k hk t ht a1 a2 => by
    obtain ⟨e1, e2, e3, e4⟩ := HEL.out k hk
    exact ⟨L[k].1, by omega, by omega, by rw [e4]; omega⟩)
  have HFREE : Hid ((∀ k (h : k < L.length), Rf.Free page (pgs n) L[k].1 (pgs L[k].2)) → ∀ k, ¬ Lg.Hit Z page (pgs n) k) := Lib.hid (fun hfree k ⟨h1, h2, h3⟩ => by
    obtain ⟨i, hi, e⟩ := List.mem_iff_getElem.1 ((hz.mem k (Z k)).2 ⟨rfl, h1⟩)
    have f := Rf.free_all (hfree i hi) hg (Lg.pgs_pos _)
    rw [e] at f
    exact f ⟨h2, h3⟩)
  obtain ⟨z, hzz⟩ : ∃ z, z = Lg.grd page n := ⟨_, rfl⟩
  have hz8 : (page + pgs n) * 256 = z + 8 := by rw [hzz]; unfold Lg.grd; omega
  have HZ := Lib.hid hzz
  have HRUN : Hid (pgs n * 256 ≤ N ∧ (page + pgs n) * 256 ≤ N) := Lib.hid ⟨by omega, hf⟩
  obtain ⟨y, hy⟩ : ∃ y : Int, (N : Int) / 256 = y := ⟨_, rfl⟩
  have hy1 : 0 ≤ y ∧ y ≤ 256 := by omega
  obtain ⟨hy1, hy2⟩ := hy1
  have hd : decide ((page : Int) > y) = false := decide_eq_false (by omega)
  have e1 : IntKind.i64.wrap (y - page) = y - page := by rw [IntKind.wrap_i64]; omega
  have hd2 : decide (((pgs n : Nat) : Int) > y - page) = false := decide_eq_false (by omega)
  have hg0 : (((pgs n : Nat) : Int) == 0) = false := beq_false_of_ne (by omega)
  have hp0 : decide ((page : Int) < 0) = false := decide_eq_false (by omega)
  have hpi : (page : Int) ≤ 256 := by omega
  have hgi : ((pgs n : Nat) : Int) ≤ 17 := by omega
  have hni : (n : Int) ≤ 4096 := by omega
  clear h hz hv h1 h2 hf hg hg2 hzz hz8
  obtain ⟨g, hgg⟩ : ∃ g, pgs n = g := ⟨_, rfl⟩
  rw [hgg] at HP HHIT HFREE HRUN hd2 hg0 hgi
  have HGG := Lib.hid hgg
  clear hgg
  obtain ⟨nl, hnl⟩ : ∃ nl, nl = L.length := ⟨_, rfl⟩
  rw [← hnl] at c2 hlen
  have HNL := Lib.hid hnl
  clear hnl
  have hli : (nl : Int) ≤ 1000 := by omega
  clear hlen
  obtain ⟨i0, hi, hz0, hz1, hz2⟩ := info_parts infoBlock
  go_enter Try.func30, Try.ntmps30
  go_wp2_with (go_at_call 68; (with_reducible refine (HP.out _).mono ?_); rintro e w' ⟨rfl, rfl⟩)
  obtain ⟨w2, hw2⟩ : ∃ w2 : World, w2 = w := ⟨_, rfl⟩
  clear hw2
  go_loopw [8, 47] (fun s i wr => ∃ k : Nat, k ≤ nl ∧ i = .int .i64 k ∧ BOwn wr w.heap.size s (Rf.lo page (L.take k)) ∧ w.grownBy wr none ∧ ∀ j (_ : j < k) (h : j < L.length), Rf.Free page g L[j].1 (pgs L[j].2)) (fun _ i _ => nl - (intOf i).toNat)
  case atStart => exact ⟨0, by omega, rfl, World.ownsRow_nil _ _ _ _, grown_refl _ _, fun j hj => by omega⟩
  case round =>
    obtain ⟨k, hk, rfl, hown, hg, hno⟩ := hrel
    obtain ⟨A1, c1, rfl, hc1⟩ := bown_shape hown
    have HO := Lib.hid hown
    have HG := Lib.hid hg
    have HNO := Lib.hid hno
    have hlo : (Rf.lo page (L.take k)).length ≤ nl := by
      have := List.length_filter_le (fun b : Nat × Nat => decide (b.1 < page)) (L.take k)
      rw [List.length_take] at this
      unfold Rf.lo
      omega
    have hloi : ((Rf.lo page (L.take k)).length : Int) ≤ 1000 := by omega
    have hlc : ((Rf.lo page (L.take k)).length : Int) ≤ c1 := by omega
    clear hown hg hno hc1 hlo
    obtain ⟨ln, hln⟩ : ∃ ln, (Rf.lo page (L.take k)).length = ln := ⟨_, rfl⟩
    rw [hln] at HO hloi hlc ⊢
    have HLN := Lib.hid hln
    clear hln
    by_cases hlt : k < nl
    · have hkl : k < L.length := by rw [← HNL.out]; exact hlt
      obtain ⟨gb, rfl, hc⟩ : ∃ g, A = some ⟨g, 0, none⟩ ∧ ∀ i (h : i < L.length), w.cell? ⟨g, i * 2, none⟩ = some (.int .i64 (L[i].1 : Nat)) ∧ w.cell? ⟨g, i * 2 + 1, none⟩ = some (.int .i64 (L[i].2 : Nat)) := by
        rcases HA.out with h0 | ⟨g, e, _, _, h⟩
        · omega
        · exact ⟨g, e, h⟩
      have d0 := HG.out.cell (hc k hkl).1 (by simp)
      have d1 := HG.out.cell (hc k hkl).2 (by simp)
      have HE := Lib.hid (HEL.out k hkl)
      have HHK := Lib.hid (HHIT.out k hkl)
      have HT := Lib.hid (Rf.lo_take page L k hkl)
      have HNK : Hid (Rf.Free page g (L[k]'hkl).1 (pgs (L[k]'hkl).2) → ∀ j (_ : j < k + 1) (h : j < L.length), Rf.Free page g L[j].1 (pgs L[j].2)) := Lib.hid (fun hf j hj hjl => by
        by_cases e : j < k
        · exact HNO.out j e hjl
        · obtain rfl : j = k := by omega
          exact hf)
      obtain ⟨p, hp⟩ : ∃ p, (L[k]'hkl).1 = p := ⟨_, rfl⟩
      obtain ⟨m, hm⟩ : ∃ m, (L[k]'hkl).2 = m := ⟨_, rfl⟩
      have hpm : L[k]'hkl = (p, m) := by rw [← hp, ← hm]
      rw [hp] at d0 HE HHK HNK
      rw [hm] at d1 HE HHK HNK
      rw [hpm] at HT
      obtain ⟨m1, m2, m3, -⟩ := HE.out
      have HPK := Lib.hid (fun W => rpg_at m W m1 m2)
      have hpi2 : (p : Int) ≤ 256 := by omega
      have hgi2 : ((pgs m : Nat) : Int) ≤ 256 := by omega
      have hmi : (m : Int) ≤ 4096 := by omega
      clear hp hm hpm hc HE m1 m2 m3 HNO
      generalize pgs m = gk at *
      go_upto_region 10 with (fail)
      obtain ⟨xb, hxb⟩ : ∃ xb, xb = wr.heap.size := ⟨_, rfl⟩
      rw [← hxb]
      have x0 : (wr.alloc (.cells #[.int .i64 p, .int .i64 m] 70)).cell? ⟨xb, 0, none⟩ = some (.int .i64 p) := by rw [hxb, cell_alloc_new]; rfl
      have x1 : (wr.alloc (.cells #[.int .i64 p, .int .i64 m] 70)).cell? ⟨xb, 1, none⟩ = some (.int .i64 m) := by rw [hxb, cell_alloc_new]; rfl
      have HO1 : Hid (BOwn (wr.alloc (.cells #[.int .i64 p, .int .i64 m] 70)) w.heap.size (.slice A1 ln c1) (Rf.lo page (L.take k))) := Lib.hid (World.ownsRow.alloc HO.out _)
      have HG1 : Hid (w.grownBy (wr.alloc (.cells #[.int .i64 p, .int .i64 m] 70)) none) := Lib.hid (grown_trans HG.out (grown_alloc _ _ _))
      generalize wr.alloc (.cells #[.int .i64 p, .int .i64 m] 70) = w1 at x0 x1 HO1 HG1 ⊢
      clear hxb HG HO d0 d1
      have HX0 := Lib.hid x0
      have HX1 := Lib.hid x1
      go_wp2_with fail
      go_loopw [11] (fun i wi => ∃ j : Nat, j ≤ g ∧ i = .int .i64 j ∧ w1.grownBy wi none ∧ Rf.Free page j p gk) (fun i _ => g - (intOf i).toNat)
      case atStart => exact ⟨0, by omega, rfl, grown_refl _ _, fun t ht => by omega⟩
      case round =>
        obtain ⟨j, hj, rfl, hgi3, hfree⟩ := hrel
        have HGI := Lib.hid hgi3
        have HF := Lib.hid hfree
        have x0 := HGI.out.cell HX0.out (by simp)
        have x1 := HGI.out.cell HX1.out (by simp)
        clear hgi3 hfree
        by_cases hjg : j < g
        · obtain ⟨s1, hs1⟩ : ∃ s1 : Int, (page : Int) + (j : Int) = s1 := ⟨_, rfl⟩
          obtain ⟨t1, ht1⟩ : ∃ t1 : Int, (p : Int) + (gk : Int) = t1 := ⟨_, rfl⟩
          have a1 : IntKind.i64.wrap ((page : Int) + (j : Int)) = s1 := by rw [IntKind.wrap_i64]; omega
          have a2 : IntKind.i64.wrap ((p : Int) + (gk : Int)) = t1 := by rw [IntKind.wrap_i64]; omega
          have HS := Lib.hid (And.intro hs1 ht1)
          clear hs1 ht1
          go_upto_region 13 with (fail)
          by_cases hb1 : (p : Int) ≤ s1
          · have b1 : decide ((p : Int) ≤ s1) = true := decide_eq_true hb1
            by_cases hb2 : s1 < t1
            · have b2 : decide (s1 < t1) = true := decide_eq_true hb2
              have HHH := Lib.hid (HHK.out j hjg (by have := HS.out.1; omega) (by have := HS.out; omega))
              clear hb1 hb2
              go_quiet ((go_at_call 68; exact quiet_left (HPK.out _)))
              go_wp2
              go_ret
              exact .inl ⟨rfl, by rw [HGG.out]; exact HHH.out, grown_drew (grown_trans HG1.out HGI.out) _⟩
            · have b2 : decide (s1 < t1) = false := decide_eq_false hb2
              have HHF : Hid (Rf.Free page (j + 1) p gk) := Lib.hid (fun t ht => by
                by_cases e : t < j
                · exact HF.out t e
                · have := HS.out; omega)
              clear hb1 hb2
              go_quiet ((go_at_call 68; exact quiet_left (HPK.out _)))
              go_wp2
              go_roundw
              case rel => exact ⟨j + 1, by omega, by go_num, grown_drew HGI.out _, HHF.out⟩
              case measure => simp [intOf]; omega
          · have b1 : decide ((p : Int) ≤ s1) = false := decide_eq_false hb1
            have HHF : Hid (Rf.Free page (j + 1) p gk) := Lib.hid (fun t ht => by
              by_cases e : t < j
              · exact HF.out t e
              · have := HS.out; omega)
            clear hb1
            go_quiet ((go_at_call 68; exact quiet_left (HPK.out _)))
            go_wp2
            go_roundw
            case rel => exact ⟨j + 1, by omega, by go_num, grown_drew HGI.out _, HHF.out⟩
            case measure => simp [intOf]; omega
        · obtain rfl : j = g := by omega
          have HO2 : Hid (BOwn wr w.heap.size (.slice A1 ln c1) (Rf.lo page (L.take k))) := Lib.hid (World.ownsRow.kept HO1.out HGI.out (Classical.em _))
          have HG2 := Lib.hid (grown_trans HG1.out HGI.out)
          have HNX := Lib.hid (HNK.out HF.out)
          clear HO1 HG1 HGI HF HX0 HX1 HNK
          by_cases hb : p < page
          · have b1 : decide ((p : Int) < (page : Int)) = true := decide_eq_true (by omega)
            have HT2 : Hid (Rf.lo page (L.take (k + 1)) = Rf.lo page (L.take k) ++ [(p, m)]) := Lib.hid (by rw [HT.out]; exact if_pos hb)
            have HO3 : Hid (wr.ownsRow w.heap.size 70 2 (.slice A1 ln c1) ln (bcells (Rf.lo page (L.take k)))) := Lib.hid (by have := HO2.out; unfold BOwn at this; rw [HLN.out] at this; exact this)
            clear HT b1
            go_wp2_with (at_builtin; refine wpList_append_own _ rfl _ _ 61 rfl w.heap.size 70 i0 (.agg #[.int .i64 0, .int .i64 0]) 2 16 Try.underlying61 hi hz0 hz1 hz2 rfl (by decide) _ _ _ rfl (HO3.out.alloc _) ⟨wr.heap.size, 0, none⟩ 1 1 [.int .i64 p, .int .i64 m] rfl ?c1 ?c2 ?c3 ?c4 ?c5 ?c6 ?_)
            case c1 => rfl
            case c2 => exact fun j u hj => two_cells wr _ _ _ j u hj
            case c3 => exact fun u hu => by simp at hu; rcases hu with rfl | rfl <;> rfl
            case c4 => simp only [maxLen]; omega
            case c5 => omega
            case c6 => have := HG2.out.size; simp; omega
            intro v' w2 h2' h3' h4'
            have HE := Lib.hid (bonto_end (p := p) (n := m) _ HG2.out HO2.out (by rw [HLN.out]; exact h2') h3')
            clear h2' h3' h4'
            go_wp2
            go_roundw
            case rel => exact ⟨k + 1, by omega, by go_num, by rw [HT2.out]; exact HE.out.1, HE.out.2, HNX.out⟩
            case measure => simp [intOf]; omega
          · have b1 : decide ((p : Int) < (page : Int)) = false := decide_eq_false (by omega)
            have HT2 : Hid (Rf.lo page (L.take (k + 1)) = Rf.lo page (L.take k)) := Lib.hid (by rw [HT.out]; exact if_neg hb)
            clear HT b1
            go_wp2
            go_roundw
            case rel => exact ⟨k + 1, by omega, by go_num, by rw [HT2.out]; exact HO2.out, HG2.out, HNX.out⟩
            case measure => simp [intOf]; omega
    · obtain rfl : k = nl := by omega
      have htk : L.take k = L := List.take_of_length_le (by rw [HNL.out]; exact Nat.le_refl _)
      rw [htk] at HO HLN
      have HNH := Lib.hid (HFREE.out (fun i hi => HNO.out i (by rw [HNL.out]; exact hi) hi))
      have HO3 : Hid (wr.ownsRow w.heap.size 70 2 (.slice A1 ln c1) ln (bcells (Rf.lo page L))) := Lib.hid (by have := HO.out; unfold BOwn at this; rw [HLN.out] at this; exact this)
      clear htk HNO HFREE HHIT HEL
      go_wp2_with (at_builtin; refine wpList_append_own _ rfl _ _ 61 rfl w.heap.size 70 i0 (.agg #[.int .i64 0, .int .i64 0]) 2 16 Try.underlying61 hi hz0 hz1 hz2 rfl (by decide) _ _ _ rfl (HO3.out.alloc _) ⟨wr.heap.size, 0, none⟩ 1 1 [.int .i64 page, .int .i64 n] rfl ?c1 ?c2 ?c3 ?c4 ?c5 ?c6 ?_)
      case c1 => rfl
      case c2 => exact fun j u hj => two_cells wr _ _ _ j u hj
      case c3 => exact fun u hu => by simp at hu; rcases hu with rfl | rfl <;> rfl
      case c4 => simp only [maxLen]; omega
      case c5 => omega
      case c6 => have := HG.out.size; simp; omega
      intro v' w2 h2' h3' h4'
      have HE := Lib.hid (bonto_end (p := page) (n := n) _ HG.out HO.out (by rw [HLN.out]; exact h2') h3')
      clear h2' h3' h4' HO HO3 HG
      have c2 := HE.out.2.cell c2 (by simp)
      go_wp2_with fail
      obtain ⟨wx, hwx⟩ : ∃ wx : World, wx = w2 := ⟨_, rfl⟩
      clear hwx
      have hML : ((Rf.lo page L ++ [(page, n)]).length : Int) ≤ 1001 := by rw [List.length_append, HLN.out]; simp; omega
      obtain ⟨M, hM⟩ : ∃ M, Rf.lo page L ++ [(page, n)] = M := ⟨_, rfl⟩
      rw [hM] at HE hML
      have HM := Lib.hid hM
      clear hM
      go_loopw [8, 94] (fun s i wr => ∃ j : Nat, j ≤ k ∧ i = .int .i64 j ∧ BOwn wr w.heap.size s (M ++ Rf.hi page (L.take j)) ∧ w.grownBy wr none) (fun _ i _ => k - (intOf i).toNat)
      case atStart => exact ⟨0, by omega, rfl, by have := HE.out.1; simpa [Rf.hi] using this, HE.out.2⟩
      case round =>
        obtain ⟨j, hj, rfl, hown, hg⟩ := hrel
        obtain ⟨A1, c1, rfl, hc1⟩ := bown_shape hown
        have HO := Lib.hid hown
        have HG := Lib.hid hg
        have hlo : ((M ++ Rf.hi page (L.take j)).length : Int) ≤ 2001 := by
          have := List.length_filter_le (fun b : Nat × Nat => decide (page < b.1)) (L.take j)
          rw [List.length_take] at this
          rw [List.length_append]
          unfold Rf.hi
          omega
        have hlc : ((M ++ Rf.hi page (L.take j)).length : Int) ≤ c1 := by omega
        clear hown hg hc1
        obtain ⟨lm, hlm⟩ : ∃ lm, (M ++ Rf.hi page (L.take j)).length = lm := ⟨_, rfl⟩
        rw [hlm] at HO hlo hlc ⊢
        have HLM := Lib.hid hlm
        clear hlm
        have HO3 : Hid (wr.ownsRow w.heap.size 70 2 (.slice A1 lm c1) lm (bcells (M ++ Rf.hi page (L.take j)))) := Lib.hid (by have := HO.out; unfold BOwn at this; rw [HLM.out] at this; exact this)
        by_cases hlt : j < k
        · have hkl : j < L.length := by rw [← HNL.out]; exact hlt
          obtain ⟨gb, rfl, hc⟩ : ∃ g, A = some ⟨g, 0, none⟩ ∧ ∀ i (h : i < L.length), w.cell? ⟨g, i * 2, none⟩ = some (.int .i64 (L[i].1 : Nat)) ∧ w.cell? ⟨g, i * 2 + 1, none⟩ = some (.int .i64 (L[i].2 : Nat)) := by
            rcases HA.out with h0 | ⟨g, e, _, _, h⟩
            · omega
            · exact ⟨g, e, h⟩
          have d0 := HG.out.cell (hc j hkl).1 (by simp)
          have d1 := HG.out.cell (hc j hkl).2 (by simp)
          have HT := Lib.hid (Rf.hi_take page L j hkl)
          obtain ⟨p, hp⟩ : ∃ p, (L[j]'hkl).1 = p := ⟨_, rfl⟩
          obtain ⟨m, hm⟩ : ∃ m, (L[j]'hkl).2 = m := ⟨_, rfl⟩
          have hpm : L[j]'hkl = (p, m) := by rw [← hp, ← hm]
          rw [hp] at d0
          rw [hm] at d1
          rw [hpm] at HT
          clear hp hm hpm hc
          go_upto_region 22 with (fail)
          obtain ⟨xb, hxb⟩ : ∃ xb, xb = wr.heap.size := ⟨_, rfl⟩
          rw [← hxb]
          have x0 : (wr.alloc (.cells #[.int .i64 p, .int .i64 m] 70)).cell? ⟨xb, 0, none⟩ = some (.int .i64 p) := by rw [hxb, cell_alloc_new]; rfl
          have x1 : (wr.alloc (.cells #[.int .i64 p, .int .i64 m] 70)).cell? ⟨xb, 1, none⟩ = some (.int .i64 m) := by rw [hxb, cell_alloc_new]; rfl
          have HO1 : Hid (BOwn (wr.alloc (.cells #[.int .i64 p, .int .i64 m] 70)) w.heap.size (.slice A1 lm c1) (M ++ Rf.hi page (L.take j))) := Lib.hid (World.ownsRow.alloc HO.out _)
          have HO4 : Hid ((wr.alloc (.cells #[.int .i64 p, .int .i64 m] 70)).ownsRow w.heap.size 70 2 (.slice A1 lm c1) lm (bcells (M ++ Rf.hi page (L.take j)))) := Lib.hid (World.ownsRow.alloc HO3.out _)
          have HG1 : Hid (w.grownBy (wr.alloc (.cells #[.int .i64 p, .int .i64 m] 70)) none) := Lib.hid (grown_trans HG.out (grown_alloc _ _ _))
          generalize wr.alloc (.cells #[.int .i64 p, .int .i64 m] 70) = w1 at x0 x1 HO1 HO4 HG1 ⊢
          clear hxb HG HO HO3 d0 d1
          by_cases hb : page < p
          · have HT2 : Hid (M ++ Rf.hi page (L.take (j + 1)) = (M ++ Rf.hi page (L.take j)) ++ [(p, m)]) := Lib.hid (by rw [HT.out, List.append_assoc]; congr 1; exact if_pos hb)
            clear HT
            go_wp2_with (at_builtin; refine wpList_append_own _ rfl _ _ 61 rfl w.heap.size 70 i0 (.agg #[.int .i64 0, .int .i64 0]) 2 16 Try.underlying61 hi hz0 hz1 hz2 rfl (by decide) _ _ _ rfl (HO4.out.alloc _) ⟨w1.heap.size, 0, none⟩ 1 1 [.int .i64 p, .int .i64 m] rfl ?c1 ?c2 ?c3 ?c4 ?c5 ?c6 ?_)
            case c1 => rfl
            case c2 => exact fun j u hj => two_cells w1 _ _ _ j u hj
            case c3 => exact fun u hu => by simp at hu; rcases hu with rfl | rfl <;> rfl
            case c4 => simp only [maxLen]; omega
            case c5 => omega
            case c6 => have := HG1.out.size; simp; omega
            intro v' w2 h2' h3' h4'
            have HE2 := Lib.hid (bonto_end (p := p) (n := m) _ HG1.out HO1.out (by rw [HLM.out]; exact h2') h3')
            clear h2' h3' h4'
            go_wp2
            go_roundw
            case rel => exact ⟨j + 1, by omega, by go_num, by rw [HT2.out]; exact HE2.out.1, HE2.out.2⟩
            case measure => simp [intOf]; omega
          · have HT2 : Hid (M ++ Rf.hi page (L.take (j + 1)) = M ++ Rf.hi page (L.take j)) := Lib.hid (by rw [HT.out]; congr 1; exact if_neg hb)
            clear HT
            go_wp2
            go_roundw
            case rel => exact ⟨j + 1, by omega, by go_num, by rw [HT2.out]; exact HO1.out, HG1.out⟩
            case measure => simp [intOf]; omega
        · obtain rfl : j = k := by omega
          have htk : L.take j = L := List.take_of_length_le (by rw [HNL.out]; exact Nat.le_refl _)
          have HPL : Hid (M ++ Rf.hi page (L.take j) = Rf.putL page n L) := Lib.hid (by rw [htk, ← HM.out]; rfl)
          rw [HPL.out] at HO HLM
          have HEL := Lib.hid (els_of_own HO.out)
          have HR := Lib.hid (H.out.grown HG.out)
          have HFI : Hid (Calls Try.prog 69 #[.pointer (some ⟨r, 0, none⟩), .int .i64 page, .int .i64 g, .int .u8 0] wr fun e w' => e = .returned (.tuple #[]) ∧ Fil wr w' r N (Ar.setB B (page * 256) (g * 256) (fun _ => 0))) := Lib.hid (by simpa using rfill_at HR.out page g 0 HRUN.out.2)
          have HLC := Lib.hid hlc
          clear htk HPL HO3 HM hlc hlo hML c0 c2 HA HP hd hd2 hg0 hp0 hi hz0 hz1 hz2
          go_wp2_with ((go_at_call 69; (with_reducible refine HFI.out.mono ?_); rintro e w5 ⟨rfl, hfil⟩))
          have G5 : wr.grownBy w5 (some r) := by obtain ⟨_, _, _, _, _, _, k5, _⟩ := hfil; exact k5
          obtain ⟨q5, cap5, h5, hq5⟩ := HR.out.fil hfil (Ar.setB_lt H.out.lt (fun _ => by decide) _ _)
          have H5 := Lib.hid h5
          have HQ5 := Lib.hid (And.intro hq5 G5)
          have hz8 : (page + g) * 256 = z + 8 := by have := HRUN.out; rw [HZ.out]; unfold Lg.grd; rw [HGG.out]; have := Lg.pgs_pos n; rw [HGG.out] at this; omega
          have hzN0 : z + 8 ≤ N := by have := HRUN.out; omega
          have hc5 := h5.hcap
          have HZN := Lib.hid (And.intro hzN0 hz8)
          obtain ⟨s, hs⟩ : ∃ s : Int, ((page + g : Nat) : Int) = s := ⟨_, rfl⟩
          obtain ⟨t, ht⟩ : ∃ t : Int, (z : Int) + 8 = t := ⟨_, rfl⟩
          obtain ⟨v, hv⟩ : ∃ v : Int, ((page * 256 : Nat) : Int) = v := ⟨_, rfl⟩
          have a1 : IntKind.i64.wrap ((page : Int) + (g : Int)) = s := by rw [IntKind.wrap_i64]; omega
          have a2 : IntKind.i64.wrap (256 * s) = t := by rw [IntKind.wrap_i64]; omega
          have a3 : IntKind.i64.wrap (t - 8) = (z : Int) := by rw [IntKind.wrap_i64]; omega
          have a5 : IntKind.i64.wrap (256 * (page : Int)) = v := by rw [IntKind.wrap_i64]; omega
          have a6 := wrap_u v
          have a7 := u64_xor_nat key (Li.u v) H.out.k (Li.u_lt _)
          have b1 : IntKind.i64.wrap 256 = 256 := by decide
          have b2 : IntKind.i64.wrap 8 = 8 := by decide
          have ht1 : (z : Int) ≤ N := by omega
          have ht2 : (z : Int) ≤ cap5 := by omega
          have ht3 : (N : Int) ≤ cap5 := by omega
          have ht5 : ¬ cap5 = z := by omega
          obtain ⟨cn, hcn⟩ : ∃ cn, Lg.can key page = cn := ⟨_, rfl⟩
          have HCN := Lib.hid hcn
          have hcl : cn < 18446744073709551616 := by rw [← hcn]; exact Li.mix_lt _
          have HMIX : Hid (∀ W, Calls Try.prog 71 #[.int .u64 (key ^^^ Li.u v : Nat)] W fun e w' => e = .returned (.int .u64 (cn : Nat)) ∧ W = w') := Lib.hid (fun W => by rw [← hcn, ← hv]; exact rmix_at _ (Li.xor_lt H.out.k (Li.u_lt _)) W)
          have HPUT := Lib.hid (fun W => An.rput_at cn hcl W)
          have HO := Lib.hid (fun W (gr : w5.grownBy W none) => And.intro (h5.grown gr).c0 (h5.grown gr).c1)
          have HCP : Hid (∀ W, w5.grownBy W none → ∀ qp cp W', An.BytesAt W' qp 8 (Ar.byt cn) → W.grownBy W' none → ∃ w7, (∀ ty, (Builtin.copy_ #[26, 26] ty #[.slice (some ⟨q5, z, none⟩) (N - z) (cap5 - z), .slice (some ⟨qp, 0, none⟩) 8 cp]).run Try.prog W' = .ok (goInt 8) w7) ∧ RgAt b0 w7 r q5 cap5 key N A vc L (Ar.setB (Ar.setB B (page * 256) (g * 256) (fun _ => 0)) z 8 (Ar.byt cn)) ∧ wr.grownBy w7 (some r)) := Lib.hid (fun W gr qp cp W' hb hg => by
            have h6 := h5.grown (grown_trans gr hg)
            obtain ⟨w7, hcp, hb7, hg7⟩ := An.copy_run2 h6.b z (N - z) 8 (cap5 - z) (by omega) (fun _ => hzN0) (Ar.byt cn) (some ⟨qp, 0, none⟩) cp (.inr ⟨qp, 0, rfl, fun i hi => by rw [Nat.zero_add]; exact hb.c i hi⟩)
            exact ⟨w7, hcp, h6.byt hg7 hb7 (Ar.setB_lt h6.lt (Ar.byt_lt _) _ _), grown_own (grown_trans G5 (grown_none (grown_trans gr hg))) hg7 hq5⟩)
          have e0 := HO.out _ (grown_refl w5 none)
          have hg5 := grown_drew1 (grown_refl w5 none)
          clear hfil G5 h5 hq5 hz8 hzN0 hc5 hs ht hv hcn hcl
          generalize key ^^^ Li.u v = kx at *
          generalize Li.u v = u at *
          go_region_held3 (fun w' => w'.cell? ⟨r, 0, none⟩ = some (.slice (some ⟨q5, 0, none⟩) N cap5) ∧ w'.cell? ⟨r, 1, none⟩ = some (.int .u64 (key : Nat)))
            (first | exact e0 | exact HS7.out | exact HO.out _ (by assumption))
            (first
            | (refine step_copy_run rfl _ _ _ rfl _ _ _ _ rfl rfl (hcp _) ?_)
            | (go_at_call 71; (with_reducible refine (HMIX.out _).mono ?_); rintro e w6 ⟨rfl, rfl⟩)
            | (go_at_call 70; (with_reducible refine (HPUT.out _).mono ?_); rintro e w6 ⟨qp, cp, rfl, m1, m2, m3, m4⟩; have hg6 := grown_trans hg5 m4; obtain ⟨w7, hcp, hn, hgn⟩ := HCP.out _ hg5 qp cp _ m3 m4; have HN := Lib.hid (And.intro hn hgn); have HS7 := Lib.hid (And.intro hn.c0 hn.c1); clear m1 m2 m3 m4 hn hgn))
          all_goals
            have d2 := HN.out.1.c2
            have z2 := HN.out.1.fz 2
            clear HO HCP HPUT HMIX HS7 hg5 hg6 hcp e0 H5
            go_wp2
            go_ret
            have hpos : 1 ≤ (Rf.putL page n L).length := by unfold Rf.putL; simp; omega
            obtain ⟨ga, rfl, hga, hcs⟩ : ∃ ga, A1 = some ⟨ga, 0, none⟩ ∧ w.heap.size ≤ ga ∧ ∀ i (h : i < (Rf.putL page n L).length), wr.cell? ⟨ga, i * 2, none⟩ = some (.int .i64 ((Rf.putL page n L)[i].1 : Nat)) ∧ wr.cell? ⟨ga, i * 2 + 1, none⟩ = some (.int .i64 ((Rf.putL page n L)[i].2 : Nat)) := by
              rcases HEL.out with h0 | h0
              · omega
              · exact h0
            have hgr : ga < wr.heap.size := World.block_lt_of_cell? wr ⟨ga, 0 * 2, none⟩ (hcs 0 hpos).1
            have hrl := H.out.rlt
            have hq5 := HQ5.out.1
            have hwr := HG.out.size
            have hne : ga ≠ r := by omega
            have hfin := HN.out.1.setl (L' := Rf.putL page n L) (A' := some ⟨ga, 0, none⟩) (vc' := c1) (by rw [HLM.out]; have := HLC.out; omega) (.inr ⟨ga, rfl, hne, by omega, fun i hi => ⟨HN.out.2.cell (hcs i hi).1 (some_ne hne), HN.out.2.cell (hcs i hi).2 (some_ne hne)⟩⟩)
            rw [HLM.out] at hfin
            have hmk : Ar.setB (Ar.setB B (page * 256) (g * 256) (fun _ => 0)) z 8 (Ar.byt cn) = Lg.makeB key page n B := by unfold Lg.makeB; rw [Ar.setW_is, HGG.out, HCN.out, HZ.out]
            rw [hmk] at hfin
            exact .inr ⟨rfl, by rw [HGG.out]; exact HNH.out, grown_trans (grown_none HG.out) (grown_trans HN.out.2 (An.agrown_set _ _ _ _)), q5, cap5, _, c1, hfin, by omega, fun a ha => by injection ha with ha; rw [← ha]; exact hga⟩
end Go.Proofs.Yticoojcmlkdeiaa
