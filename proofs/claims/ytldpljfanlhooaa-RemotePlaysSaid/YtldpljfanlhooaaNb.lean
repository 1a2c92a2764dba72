/- The document's New, pass. -/
import Derived.Test.YtldpljfanlhooaaNa
namespace Go.Proofs.Ytldpljfanlhooaa
open Go.RowKit
open Is

set_option maxRecDepth 100000 in
set_option maxHeartbeats 2000000 in
/-- A new one. -/
theorem rnew_at (k b : Int) (w : World) : Calls Try.prog 21 #[.int .i64 k, .int .i64 b] w fun e w' => e = .returned (.pointer (some ⟨w.heap.size, 0, none⟩)) ∧ Rm w' w.heap.size (thrV k) (batV b) (.slice none 0 0) [] 0 ∧ w.grownBy w' none := by
  have hn64 := thrV_le k
  have hb64 := (batV_in b).2
  have HM : Hid (Rm (w.alloc (.cells #[.int .i64 (thrV k : Nat), .int .i64 (batV b : Nat), .slice none 0 0, .int .i64 0] 65)) w.heap.size (thrV k) (batV b) (.slice none 0 0) [] 0) := Lib.hid
    ⟨by rw [cell_alloc_new]; rfl, by rw [cell_alloc_new]; rfl, by rw [cell_alloc_new]; rfl, by rw [cell_alloc_new]; rfl, ⟨none, 0, rfl, Nat.le_refl _, .inl ⟨rfl, rfl, rfl⟩⟩, by simp [Value.ownBlock], fun j => frozen_alloc_new .., by simp, hn64, hb64, by simp, by omega⟩
  have HG := Lib.hid (grown_alloc w (.cells #[.int .i64 (thrV k : Nat), .int .i64 (batV b : Nat), .slice none 0 0, .int .i64 0] 65) none)
  have hc : (k < 0 ∧ thrV k = 0) ∨ (64 < k ∧ thrV k = 64) ∨ (0 ≤ k ∧ k ≤ 64 ∧ ((thrV k : Nat) : Int) = k) := by
    unfold thrV; split
    · exact .inl ⟨by assumption, rfl⟩
    · split
      · exact .inr (.inl ⟨by assumption, rfl⟩)
      · exact .inr (.inr ⟨by omega, by omega, by omega⟩)
  have hd : (b < 1 ∧ batV b = 1) ∨ (64 < b ∧ batV b = 64) ∨ (1 ≤ b ∧ b ≤ 64 ∧ ((batV b : Nat) : Int) = b) := by
    unfold batV; split
    · exact .inl ⟨by assumption, rfl⟩
    · split
      · exact .inr (.inl ⟨by assumption, rfl⟩)
      · exact .inr (.inr ⟨by omega, by omega, by omega⟩)
  clear hn64 hb64
  generalize thrV k = n at *
  generalize batV b = m at *
  rcases hc with ⟨h1, rfl⟩ | ⟨h1, rfl⟩ | ⟨h1, h2, rfl⟩
  all_goals rcases hd with ⟨d1, rfl⟩ | ⟨d1, rfl⟩ | ⟨d1, d2, rfl⟩
  all_goals
    go_enter Try.func21, Try.ntmps21
    go_wp2
    go_ret
    exact ⟨rfl, HM.out, HG.out⟩

/-! ### pass -/
def passR (f t : Int) : List It → Nat → List It
  | [], _ => []
  | x :: l, K => if pB f t x = true then ⟨x.f, x.t, x.a, (K + 1 : Nat)⟩ :: passR f t l (K + 1) else x :: passR f t l K
theorem passR_length (f t : Int) : ∀ (l : List It) (K : Nat), (passR f t l K).length = l.length
  | [], _ => rfl
  | x :: l, K => by
    unfold passR
    split
    · rw [List.length_cons, List.length_cons, passR_length f t l]
    · rw [List.length_cons, List.length_cons, passR_length f t l]
theorem cnt_drop (q : It → Bool) (L : List It) (i : Nat) (h : i < L.length) : cnt q (L.drop i) = (if q (L[i]'h) = true then 1 else 0) + cnt q (L.drop (i + 1)) := by
  unfold cnt
  rw [List.drop_eq_getElem_cons h, List.filter_cons]
  split
  · rw [List.length_cons]; omega
  · omega
theorem passR_drop (f t : Int) (L : List It) (i K : Nat) (h : i < L.length) : passR f t (L.drop i) K = if pB f t (L[i]'h) = true then ⟨(L[i]'h).f, (L[i]'h).t, (L[i]'h).a, (K + 1 : Nat)⟩ :: passR f t (L.drop (i + 1)) (K + 1) else (L[i]'h) :: passR f t (L.drop (i + 1)) K := by
  rw [List.drop_eq_getElem_cons h]
  rfl
/-- What a call leaves of the document's mail. -/
def RmTo (w w' : World) (p n b : Nat) (v : Value) (L' : List It) (K' : Nat) : Prop := ∃ v', Rm w' p n b v' L' K' ∧ w.grownBy w' (some p) ∧ ∀ q, v'.ownBlock = some q → v.ownBlock = some q ∨ w.heap.size ≤ q
theorem Rm.setL {w : World} {p n b : Nat} {v v' : Value} {L L' : List It} {K : Nat} (h : Rm w p n b v L K) (h1 : IRd w v' L') (h2 : v'.ownBlock ≠ some p) (h3 : L'.length ≤ 1000) : Rm (w.setCell ⟨p, 2, none⟩ v') p n b v' L' K :=
  ⟨by rw [World.cell?_setCell_other _ _ _ _ (by simp)]; exact h.c0, by rw [World.cell?_setCell_other _ _ _ _ (by simp)]; exact h.c1, World.cell?_setCell_same' _ _ _ (by rw [h.c2]; rfl), by rw [World.cell?_setCell_other _ _ _ _ (by simp)]; exact h.c3,
    h1.kept (set_grown _ _ _ _) (by cases e : v'.ownBlock with
      | none => exact .inl rfl
      | some q => exact .inr (by rw [← e]; exact h2)), h2, fun k => by rw [World.frozen?_setCell]; exact h.fz k, by have := h.plt; simpa [World.setCell] using this, h.n64, h.b64, h3, h.k⟩
theorem Rm.setK {w : World} {p n b : Nat} {v : Value} {L : List It} {K : Nat} (h : Rm w p n b v L K) {K' : Nat} (h3 : K' ≤ 1000) (z : Int) (hz : z = K') : Rm (w.setCell ⟨p, 3, none⟩ (.int .i64 z)) p n b v L K' :=
  ⟨by rw [World.cell?_setCell_other _ _ _ _ (by simp)]; exact h.c0, by rw [World.cell?_setCell_other _ _ _ _ (by simp)]; exact h.c1, by rw [World.cell?_setCell_other _ _ _ _ (by simp)]; exact h.c2, by rw [hz]; exact World.cell?_setCell_same' _ _ _ (by rw [h.c3]; rfl),
    h.rd.kept (set_grown _ _ _ _) (by cases e : v.ownBlock with
      | none => exact .inl rfl
      | some q => exact .inr (by rw [← e]; exact h.np)), h.np, fun k => by rw [World.frozen?_setCell]; exact h.fz k, by have := h.plt; simpa [World.setCell] using this, h.n64, h.b64, h.l, h3⟩
/-- How pass stands behind some items. -/
structure Ps (w wr : World) (p n b : Nat) (v : Value) (L : List It) (K : Nat) (f t : Int) (k m : Nat) (s : Value) (D : List It) : Prop where
  rm : Rm wr p n b v L (K + m)
  own : IOwn wr w.heap.size s D
  len : D.length = k
  eqv : D ++ passR f t (L.drop k) (K + m) = passR f t L K
  cnt : m + cnt (pB f t) (L.drop k) = cnt (pB f t) L
  g : w.grownBy wr (some p)
theorem cntL (q : It → Bool) (L : List It) : cnt q L ≤ L.length := List.length_filter_le _ _
theorem onto_p {w wr w1 : World} {p : Nat} {s : Value} {D : List It} (o : Obj) (h1 : w.grownBy wr (some p)) (h2 : (wr.alloc o).grownBy w1 s.ownBlock) (h3 : IOwn wr w.heap.size s D) : w.grownBy w1 (some p) := by
  have g := grown_trans h1 (grown_none (grown_alloc wr o none))
  refine ⟨h2.os.trans g.os, h2.tape.trans g.tape, h2.output.trans g.output, Nat.le_trans g.size h2.size, fun i hi hne => (h2.block i (Nat.lt_of_lt_of_le hi g.size) (fun e => ?_)).trans (g.block i hi hne)⟩
  have := (h3.ge i e.symm).1
  omega
/-- One item goes over: as it is, or as one that has come. -/
theorem Ps.step {w wr : World} {p n b : Nat} {v : Value} {L : List It} {K : Nat} {f t : Int} {k m : Nat} {s : Value} {D : List It} (h : Ps w wr p n b v L K f t k m s D) (hk : k < L.length) (hK : K + L.length ≤ 1000) (hn : s.ownBlock ≠ some p) (hv : ∀ q, v.ownBlock = some q → q < w.heap.size) (hp : p < w.heap.size) (m' : Nat) (o : It) (w9 : World)
    (hm : m' + Go.Proofs.Ytldpljfanlhooaa.cnt (pB f t) (L.drop (k + 1)) = Go.Proofs.Ytldpljfanlhooaa.cnt (pB f t) L) (ho : o :: passR f t (L.drop (k + 1)) (K + m') = passR f t (L.drop k) (K + m)) (h9 : Rm w9 p n b v L (K + m')) (hg9 : wr.grownBy w9 (some p)) (ty : TypeId) :
    ∃ A1 c1 w', (appS #[63, 63] ty #[s, .slice (some ⟨w9.heap.size, 0, none⟩) 1 1]).run Try.prog (w9.alloc (.cells #[.int .i64 o.f, .int .i64 o.t, .int .i64 o.a, .int .i64 o.c] 70)) = .ok (.slice A1 (D.length + 1) c1) w' ∧
      Ps w w' p n b v L K f t (k + 1) m' (.slice A1 (D.length + 1) c1) (D ++ [o]) := by
  have hl := h.rm.l
  have ho9 : IOwn w9 w.heap.size s D := h.own.kept hg9 (by cases e : s.ownBlock with
    | none => exact .inl rfl
    | some q => exact .inr (by rw [← e]; exact hn))
  have gg : w.grownBy w9 (some p) := grown_trans h.g hg9
  obtain ⟨A1, c1, w', hr, hown, hg⟩ := iapp (M := [o]) (ho9.grown (grown_alloc w9 (.cells #[.int .i64 o.f, .int .i64 o.t, .int .i64 o.a, .int .i64 o.c] 70) none)) (by have := h.len; simp only [List.length_singleton]; omega) (by have := gg.size; simp; omega) w9.heap.size 0 1 (fun i hi => by
    have : i = 0 := by simpa using hi
    subst this
    simp only [Nat.zero_mul, Nat.add_zero, Nat.zero_add]
    exact ⟨by rw [cell_alloc_new]; rfl, by rw [cell_alloc_new]; rfl, by rw [cell_alloc_new]; rfl, by rw [cell_alloc_new]; rfl⟩) ty
  refine ⟨A1, c1, w', hr, (h9.grown (grown_alloc _ _ _)).kept hg (fun e => ?_) ?_, hown, by rw [List.length_append, h.len]; rfl, by rw [List.append_assoc, List.singleton_append, ho]; exact h.eqv, hm, onto_p _ gg hg ho9⟩
  · have := (h.own.ge p e.symm).1
    omega
  · cases e : v.ownBlock with
    | none => exact .inl rfl
    | some q => exact .inr (fun e2 => by
        have h1 := hv q e
        have h2 := (h.own.ge q e2.symm).1
        omega)
set_option maxRecDepth 100000 in
set_option maxHeartbeats 4000000 in
theorem rpass_at {w : World} {p n b : Nat} {v : Value} {L : List It} {K : Nat} (h : Rm w p n b v L K) (hK : K + L.length ≤ 1000) (f t : Int) :
    Calls Try.prog 39 #[.pointer (some ⟨p, 0, none⟩), .int .i64 f, .int .i64 t] w fun e w' => e = .returned (.int .i64 (cnt (pB f t) L : Nat)) ∧ RmTo w w' p n b v (passR f t L K) (K + cnt (pB f t) L) := by
  have c2 := h.c2
  have hl := h.l
  have hp := h.plt
  have hvlt := h.rd.lt
  obtain ⟨A, c, rfl, h0, hr⟩ := h.rd
  have hli : (L.length : Int) ≤ 1000 := by omega
  have HR := Lib.hid hr
  have HL := Lib.hid (And.intro hl hK)
  have HV := Lib.hid (And.intro hvlt hp)
  have HPS : Hid (Ps w w p n b (.slice A L.length c) L K f t 0 0 (.slice none 0 0) []) := Lib.hid ⟨h, iown_nil _ _, rfl, rfl, by rw [List.drop_zero]; omega, grown_refl _ _⟩
  clear h h0 hr hl hvlt hp hK
  go_enter Try.func39, Try.ntmps39
  go_wp2_with fail
  go_loopw [7, 8, 16] (fun m s i wr => ∃ (k m' : Nat) (D : List It) (A1 : Option Addr) (c1 : Nat), k ≤ L.length ∧ i = .int .i64 k ∧ m = .int .i64 m' ∧ s = .slice A1 D.length c1 ∧ Ps w wr p n b (.slice A L.length c) L K f t k m' s D) (fun _ _ i _ => L.length - (intOf i).toNat)
  case atStart => exact ⟨0, 0, [], none, 0, by omega, rfl, rfl, rfl, HPS.out⟩
  case round =>
    obtain ⟨k, m, D, A1, c1, hk, rfl, rfl, rfl, hps⟩ := hrel
    have HP := Lib.hid hps
    clear hps HPS
    have hm1 : m ≤ 1000 := by have := HP.out.cnt; have := cntL (pB f t) L; have := HL.out; omega
    have hmi : (m : Int) ≤ 1000 := by omega
    have HSN : Hid ((Value.slice A1 D.length c1).ownBlock ≠ some p) := Lib.hid (fun e => by have := (HP.out.own.ge p e).1; have := HV.out.2; omega)
    clear hm1
    by_cases hlt : k < L.length
    · have hki : (k : Int) < L.length := by omega
      have HK := Lib.hid hlt
      obtain ⟨g, rfl, hgl, hcell⟩ := HR.out.resolve_left (by omega)
      have HGP : Hid (some g ≠ some p) := Lib.hid (fun e => HP.out.rm.np e)
      obtain ⟨d0, d1, d2, d3⟩ := hcell k hlt
      rw [Nat.zero_add] at d0 d1 d2 d3
      have HE := Lib.hid (cnt_drop (pB f t) L k hlt)
      have HF := Lib.hid (passR_drop f t L k (K + m) hlt)
      obtain ⟨⟨xf, xt, xa, xc⟩, he⟩ : ∃ o : It, L[k]'hlt = o := ⟨_, rfl⟩
      rw [he] at d0 d1 d2 d3 HE HF
      simp only [] at d0 d1 d2 d3 HF
      replace d0 := HP.out.g.cell d0 HGP.out
      replace d1 := HP.out.g.cell d1 HGP.out
      replace d2 := HP.out.g.cell d2 HGP.out
      replace d3 := HP.out.g.cell d3 HGP.out
      have HRM := Lib.hid (HP.out.rm.grown (grown_alloc wr (.cells #[.int .i64 xf, .int .i64 xt, .int .i64 xa, .int .i64 xc] 70) none))
      have HG7 := Lib.hid (grown_none (r := some p) (grown_alloc wr (.cells #[.int .i64 xf, .int .i64 xt, .int .i64 xa, .int .i64 xc] 70) none))
      have x0 : (wr.alloc (.cells #[.int .i64 xf, .int .i64 xt, .int .i64 xa, .int .i64 xc] 70)).cell? ⟨wr.heap.size, 0, none⟩ = some (.int .i64 xf) := by rw [cell_alloc_new]; rfl
      have x1 : (wr.alloc (.cells #[.int .i64 xf, .int .i64 xt, .int .i64 xa, .int .i64 xc] 70)).cell? ⟨wr.heap.size, 1, none⟩ = some (.int .i64 xt) := by rw [cell_alloc_new]; rfl
      have x2 : (wr.alloc (.cells #[.int .i64 xf, .int .i64 xt, .int .i64 xa, .int .i64 xc] 70)).cell? ⟨wr.heap.size, 2, none⟩ = some (.int .i64 xa) := by rw [cell_alloc_new]; rfl
      have x3 : (wr.alloc (.cells #[.int .i64 xf, .int .i64 xt, .int .i64 xa, .int .i64 xc] 70)).cell? ⟨wr.heap.size, 3, none⟩ = some (.int .i64 xc) := by rw [cell_alloc_new]; rfl
      have xz : ∀ j, (wr.alloc (.cells #[.int .i64 xf, .int .i64 xt, .int .i64 xa, .int .i64 xc] 70)).frozen? ⟨wr.heap.size, j, none⟩ = false := fun j => frozen_alloc_new ..
      have HXP : Hid (some wr.heap.size ≠ some p ∧ w.heap.size ≤ wr.heap.size) := Lib.hid ⟨fun e => by injection e with e; have := HP.out.rm.plt; omega, HP.out.g.size⟩
      clear hcell he hlt hk hgl
      go_upto_region 6 with (fail)
      generalize wr.alloc (.cells #[.int .i64 xf, .int .i64 xt, .int .i64 xa, .int .i64 xc] 70) = w7 at *
      obtain ⟨x, hx⟩ : ∃ x, wr.heap.size = x := ⟨_, rfl⟩
      have HXE := Lib.hid hx
      rw [hx] at x0 x1 x2 x3 xz HXP
      rw [hx]
      clear hx d0 d1 d2 d3
      have key : ∀ (hq : pB f t ⟨xf, xt, xa, xc⟩ = false), ∃ A2 c2 w', (appS #[63, 63] 63 #[.slice A1 D.length c1, .slice (some ⟨w7.heap.size, 0, none⟩) 1 1]).run Try.prog (w7.alloc (.cells #[.int .i64 xf, .int .i64 xt, .int .i64 xa, .int .i64 xc] 70)) = .ok (.slice A2 (D.length + 1) c2) w' ∧
          Ps w w' p n b (.slice (some ⟨g, 0, none⟩) L.length c) L K f t (k + 1) m (.slice A2 (D.length + 1) c2) (D ++ [⟨xf, xt, xa, xc⟩]) := fun hq =>
        HP.out.step HK.out HL.out.2 HSN.out HV.out.1 HV.out.2 m ⟨xf, xt, xa, xc⟩ w7 (by have h1 := HE.out; rw [hq] at h1; have h2 := HP.out.cnt; simp only [Bool.false_eq_true, if_false] at h1; omega) (by have h1 := HF.out; rw [hq] at h1; rw [h1]; rfl) HRM.out HG7.out _
      have KEY := Lib.hid key
      clear key
      have hcM := HL.out
      have HKM : Hid (K + m ≤ 1000 ∧ (pB f t ⟨xf, xt, xa, xc⟩ = true → K + m + 1 ≤ 1000)) := Lib.hid ⟨by have := HP.out.cnt; have := cntL (pB f t) L; omega, fun hq => by have := HP.out.cnt; have := cntL (pB f t) L; have h1 := HE.out; rw [hq, if_pos rfl] at h1; omega⟩
      clear hcM
      cases b1 : (xf == f) with
      | false =>
        obtain ⟨A2, c2, w', hrun, hps⟩ := KEY.out (by simp [pB, b1])
        have HP2 := Lib.hid hps
        clear hps
        go_wp2_with (at_builtin; refine wpList_append_run rfl _ _ _ rfl _ _ _ _ rfl rfl hrun ?_)
        go_roundw
        case rel => exact ⟨k + 1, m, D ++ [⟨xf, xt, xa, xc⟩], A2, c2, HK.out, by go_num, rfl, by rw [List.length_append, List.length_singleton], HP2.out⟩
        case measure => have := HK.out; simp [intOf]; omega
      | true =>
        cases b2 : (xt == t) with
        | false =>
          obtain ⟨A2, c2, w', hrun, hps⟩ := KEY.out (by simp [pB, b2])
          have HP2 := Lib.hid hps
          clear hps
          go_wp2_with (at_builtin; refine wpList_append_run rfl _ _ _ rfl _ _ _ _ rfl rfl hrun ?_)
          go_roundw
          case rel => exact ⟨k + 1, m, D ++ [⟨xf, xt, xa, xc⟩], A2, c2, HK.out, by go_num, rfl, by rw [List.length_append, List.length_singleton], HP2.out⟩
          case measure => have := HK.out; simp [intOf]; omega
        | true =>
          cases b3 : (xc == 0) with
          | false =>
            obtain ⟨A2, c2, w', hrun, hps⟩ := KEY.out (by simp [pB, b3])
            have HP2 := Lib.hid hps
            clear hps
            go_wp2_with (at_builtin; refine wpList_append_run rfl _ _ _ rfl _ _ _ _ rfl rfl hrun ?_)
            go_roundw
            case rel => exact ⟨k + 1, m, D ++ [⟨xf, xt, xa, xc⟩], A2, c2, HK.out, by go_num, rfl, by rw [List.length_append, List.length_singleton], HP2.out⟩
            case measure => have := HK.out; simp [intOf]; omega
          | true =>
            have hq : pB f t ⟨xf, xt, xa, xc⟩ = true := by simp only [pB, b1, b2, b3]; rfl
            have HQ := Lib.hid hq
            clear hq KEY
            obtain ⟨km, hkm⟩ : ∃ km, K + m = km := ⟨_, rfl⟩
            have hk1 : (km : Int) ≤ 999 := by have := HKM.out.2 HQ.out; omega
            have HKE := Lib.hid hkm
            have c3 : w7.cell? ⟨p, 3, none⟩ = some (.int .i64 km) := by rw [← hkm]; exact HRM.out.c3
            have fz := HRM.out.fz 3
            clear hkm
            go_upto_region 8 with (fail)
            have HR8 : Hid (Rm (w7.setCell ⟨p, 3, none⟩ (.int .i64 ((km : Int) + 1))) p n b (.slice (some ⟨g, 0, none⟩) L.length c) L (K + (m + 1))) := Lib.hid (HRM.out.setK (by have := HKM.out.2 HQ.out; omega) _ (by have := HKE.out; omega))
            have HG8 := Lib.hid (grown_trans HG7.out (set_grown w7 p 3 (.int .i64 ((km : Int) + 1))))
            have y0 : (w7.setCell ⟨p, 3, none⟩ (.int .i64 ((km : Int) + 1))).cell? ⟨x, 0, none⟩ = some (.int .i64 xf) := (set_grown _ _ _ _).cell x0 HXP.out.1
            have y1 : (w7.setCell ⟨p, 3, none⟩ (.int .i64 ((km : Int) + 1))).cell? ⟨x, 1, none⟩ = some (.int .i64 xt) := (set_grown _ _ _ _).cell x1 HXP.out.1
            have y2 : (w7.setCell ⟨p, 3, none⟩ (.int .i64 ((km : Int) + 1))).cell? ⟨x, 2, none⟩ = some (.int .i64 xa) := (set_grown _ _ _ _).cell x2 HXP.out.1
            have y3 : (w7.setCell ⟨p, 3, none⟩ (.int .i64 ((km : Int) + 1))).cell? ⟨x, 3, none⟩ = some (.int .i64 xc) := (set_grown _ _ _ _).cell x3 HXP.out.1
            have yz : ∀ j, (w7.setCell ⟨p, 3, none⟩ (.int .i64 ((km : Int) + 1))).frozen? ⟨x, j, none⟩ = false := fun j => by rw [World.frozen?_setCell]; exact xz j
            have yc : (w7.setCell ⟨p, 3, none⟩ (.int .i64 ((km : Int) + 1))).cell? ⟨p, 3, none⟩ = some (.int .i64 ((km : Int) + 1)) := World.cell?_setCell_same' _ _ _ (by rw [c3]; rfl)
            generalize w7.setCell ⟨p, 3, none⟩ (.int .i64 ((km : Int) + 1)) = w8 at *
            clear x0 x1 x2 x3 xz c3 fz HRM HG7
            go_upto_region 9 with (fail)
            have HR9 : Hid (Rm (w8.setCell ⟨x, 3, none⟩ (.int .i64 ((km : Int) + 1))) p n b (.slice (some ⟨g, 0, none⟩) L.length c) L (K + (m + 1))) := Lib.hid (HR8.out.kept (set_grown _ _ _ _) (fun e => HXP.out.1 e.symm) (.inr (fun e => by have h1 := HV.out.1 _ e; have := HXP.out.2; omega)))
            have HG9 : Hid (wr.grownBy (w8.setCell ⟨x, 3, none⟩ (.int .i64 ((km : Int) + 1))) (some p)) := Lib.hid (grown_own HG8.out (set_grown w8 x 3 (.int .i64 ((km : Int) + 1))) (Nat.le_of_eq HXE.out))
            have z0 : (w8.setCell ⟨x, 3, none⟩ (.int .i64 ((km : Int) + 1))).cell? ⟨x, 0, none⟩ = some (.int .i64 xf) := by rw [World.cell?_setCell_other _ _ _ _ (by simp)]; exact y0
            have z1 : (w8.setCell ⟨x, 3, none⟩ (.int .i64 ((km : Int) + 1))).cell? ⟨x, 1, none⟩ = some (.int .i64 xt) := by rw [World.cell?_setCell_other _ _ _ _ (by simp)]; exact y1
            have z2 : (w8.setCell ⟨x, 3, none⟩ (.int .i64 ((km : Int) + 1))).cell? ⟨x, 2, none⟩ = some (.int .i64 xa) := by rw [World.cell?_setCell_other _ _ _ _ (by simp)]; exact y2
            have z3 : (w8.setCell ⟨x, 3, none⟩ (.int .i64 ((km : Int) + 1))).cell? ⟨x, 3, none⟩ = some (.int .i64 ((km : Int) + 1)) := World.cell?_setCell_same' _ _ _ (by rw [y3]; rfl)
            generalize w8.setCell ⟨x, 3, none⟩ (.int .i64 ((km : Int) + 1)) = w9 at *
            clear y0 y1 y2 y3 yz yc HR8 HG8
            obtain ⟨A2, c2, w', hrun, hps⟩ := HP.out.step HK.out HL.out.2 HSN.out HV.out.1 HV.out.2 (m + 1) ⟨xf, xt, xa, (km : Int) + 1⟩ w9 (by have h1 := HE.out; rw [HQ.out, if_pos rfl] at h1; have h2 := HP.out.cnt; omega)
              (by have h1 := HF.out; rw [HQ.out, if_pos rfl] at h1; rw [h1, HKE.out, show K + (m + 1) = km + 1 from by have := HKE.out; omega]; rfl) HR9.out HG9.out 63
            have HP2 := Lib.hid hps
            clear hps
            simp only [] at hrun
            go_wp2_with (at_builtin; refine wpList_append_run rfl _ _ _ rfl _ _ _ _ rfl rfl hrun ?_)
            go_roundw
            case rel => exact ⟨k + 1, m + 1, D ++ [⟨xf, xt, xa, (km : Int) + 1⟩], A2, c2, HK.out, by go_num, by go_num, by rw [List.length_append, List.length_singleton], HP2.out⟩
            case measure => have := HK.out; simp [intOf]; omega
    · have hki : ¬ (k : Int) < L.length := by omega
      have hkL : k = L.length := by omega
      have hdr : L.drop k = [] := List.drop_of_length_le (by omega)
      have hm : m = cnt (pB f t) L := by have := HP.out.cnt; rw [hdr] at this; exact this
      have hD : D = passR f t L K := by have := HP.out.eqv; rw [hdr] at this; rw [← this]; exact (List.append_nil D).symm
      have HX : Hid (RmTo w (wr.setCell ⟨p, 2, none⟩ (.slice A1 D.length c1)) p n b (.slice A L.length c) (passR f t L K) (K + cnt (pB f t) L)) := Lib.hid (by
        have hR := HP.out.rm.setL HP.out.own.rd HSN.out (by rw [HP.out.len]; have := HL.out; omega)
        refine ⟨_, ?_, grown_trans HP.out.g (set_grown _ _ _ _), fun q hq => .inr (HP.out.own.ge q hq).1⟩
        rw [hm, hD] at hR
        rw [hD]
        exact hR)
      have c2' := HP.out.rm.c2
      have fz := HP.out.rm.fz 2
      have HM := Lib.hid hm
      clear hlt hk hkL hdr hD hm c2
      go_wp2_with fail
      go_ret
      exact ⟨by rw [HM.out]; rfl, HX.out⟩
end Go.Proofs.Ytldpljfanlhooaa
