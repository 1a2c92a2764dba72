/- The document's All. -/
import Derived.Test.YtldpljfanlhooaaNd
namespace Go.Proofs.Ytldpljfanlhooaa
open Go.RowKit
open Is

def comeL (L : List It) (t k : Nat) : List Int := (L.filter (fun x => x.t == (t : Int) && x.c == (k : Int))).map It.a
def cmL (L : List It) (t : Nat) : Nat → List Int
  | 0 => []
  | k + 1 => cmL L t k ++ comeL L t (k + 1)
def hfL (L : List It) (f t : Int) : List Int := (L.filter (pB f t)).map It.a
def hrL (L : List It) (f : Nat) : Nat → List Int
  | 0 => []
  | k + 1 => hrL L f k ++ hfL L f k
def allR (L : List It) (K n : Nat) : Nat → List Int
  | 0 => []
  | t + 1 => allR L K n t ++ cmL L t K ++ hrL L t n
theorem fm_len (q : It → Bool) (L : List It) : ((L.filter q).map It.a).length ≤ L.length := by rw [List.length_map]; exact List.length_filter_le _ _
theorem cmL_len {L : List It} (h : L.length ≤ 61) (t : Nat) : ∀ k, (cmL L t k).length ≤ 61 * k
  | 0 => by simp [cmL]
  | k + 1 => by
    have h1 := cmL_len h t k
    have h2 : (comeL L t (k + 1)).length ≤ L.length := fm_len _ _
    simp only [cmL, List.length_append]
    omega
theorem hrL_len {L : List It} (h : L.length ≤ 61) (f : Nat) : ∀ k, (hrL L f k).length ≤ 61 * k
  | 0 => by simp [hrL]
  | k + 1 => by
    have h1 := hrL_len h f k
    have h2 : (hfL L f k).length ≤ L.length := fm_len _ _
    simp only [hrL, List.length_append]
    omega
theorem allR_len {L : List It} {K n : Nat} (h : L.length ≤ 61) (hK : K ≤ 61) (hn : n ≤ 64) : ∀ t, (allR L K n t).length ≤ 7625 * t
  | 0 => by simp [allR]
  | t + 1 => by
    have h1 := allR_len h hK hn t
    have h2 := cmL_len h t K
    have h3 := hrL_len h t n
    simp only [allR, List.length_append]
    omega
theorem fm_take (q : It → Bool) (L : List It) (i : Nat) (h : i < L.length) : ((L.take (i + 1)).filter q).map It.a = ((L.take i).filter q).map It.a ++ if q (L[i]'h) = true then [(L[i]'h).a] else [] := by
  rw [List.take_succ_eq_append_getElem h, List.filter_append, List.map_append]
  congr 1
  cases hq : q (L[i]'h) <;> simp [hq]
/-- What All has gathered. -/
def Ga (w wr : World) (s : Value) (l : List Int) : Prop := Ow wr w.heap.size s l ∧ w.grownBy wr none
theorem Ga.grown {w wr w' : World} {s : Value} {l : List Int} (h : Ga w wr s l) (hg : wr.grownBy w' none) : Ga w w' s l := ⟨h.1.grown hg, grown_trans h.2 hg⟩
theorem Ga.app {w wr : World} {s : Value} {l : List Int} (h : Ga w wr s l) (hl : l.length ≤ 900000) (a : Int) (ty : TypeId) :
    ∃ A1 c1 w', (Builtin.append_ #[25, 25] ty #[s, .slice (some ⟨wr.heap.size, 0, none⟩) 1 1]).run Try.prog (wr.alloc (.cells #[.int .i64 a] 3)) = .ok (.slice A1 (l.length + 1) c1) w' ∧ Ga w w' (.slice A1 (l.length + 1) c1) (l ++ [a]) := by
  have hg := grown_alloc wr (.cells #[.int .i64 a] 3) none
  obtain ⟨v', w', hr, ho, hg2, hn⟩ := app_run (h.1.grown hg) (rd_one wr a) (by simp; omega) (by have := h.2.size; simp; omega) ty
  obtain ⟨A1, c1, hv, -⟩ := ho.rd.shape
  rw [List.length_append, List.length_singleton] at hv
  subst hv
  have g := grown_trans h.2 hg
  refine ⟨A1, c1, w', hr, ho, ⟨hg2.os.trans g.os, hg2.tape.trans g.tape, hg2.output.trans g.output, Nat.le_trans g.size hg2.size, fun i hi _ => (hg2.block i (Nat.lt_of_lt_of_le hi g.size) (fun e => ?_)).trans (g.block i hi (by simp))⟩⟩
  have := (h.1.ge i e.symm).1
  omega
set_option maxRecDepth 100000 in
set_option maxHeartbeats 8000000 in
theorem rall_at {w : World} {p n b : Nat} {v : Value} {L : List It} {K : Nat} (h : Rm w p n b v L K) (hL : L.length ≤ 61) (hK : K ≤ 61) :
    Calls Try.prog 42 #[.pointer (some ⟨p, 0, none⟩)] w fun e w' => ∃ v, e = .returned v ∧ Ga w w' v (allR L K n n) := by
  have HRM := Lib.hid h
  have hn64 := h.n64
  obtain ⟨A, c, rfl, h0, hr⟩ := h.rd
  have hli : (L.length : Int) ≤ 61 := by omega
  have hni : (n : Int) ≤ 64 := by omega
  have hKi : (K : Int) ≤ 61 := by omega
  have HR := Lib.hid hr
  have HB := Lib.hid (And.intro hL (And.intro hK hn64))
  clear h h0 hr hL hK hn64
  go_enter Try.func42, Try.ntmps42
  go_wp2_with fail
  go_loopw [3, 4] (fun s i wr => ∃ (t : Nat) (A1 : Option Addr) (c1 : Nat), i = .int .i64 t ∧ t ≤ n ∧ s = .slice A1 (allR L K n t).length c1 ∧ Ga w wr s (allR L K n t)) (fun _ i _ => n - (intOf i).toNat)
  case atStart => exact ⟨0, none, 0, rfl, by omega, rfl, ow_nil _ _, grown_refl _ _⟩
  case round =>
    obtain ⟨t, A1, c1, rfl, ht, rfl, hga⟩ := hrel
    have HGA := Lib.hid hga
    have c0 := hga.2.cell HRM.out.c0 (by simp)
    clear hga
    by_cases hlt : t < n
    · have hti : (t : Int) < n := by omega
      have HT := Lib.hid hlt
      have HBL : Hid ((allR L K n t).length ≤ 488000) := Lib.hid (by have := allR_len HB.out.1 HB.out.2.1 HB.out.2.2 t; have := HB.out; omega)
      have HAR : Hid (allR L K n (t + 1) = allR L K n t ++ cmL L t K ++ hrL L t n) := Lib.hid rfl
      generalize allR L K n t = l0 at *
      clear hlt ht
      go_wp2_with fail
      go_loopw [3, 5] (fun s i wr => ∃ (k : Nat) (A1 : Option Addr) (c1 : Nat), i = .int .i64 ((k : Int) + 1) ∧ k ≤ K ∧ s = .slice A1 (l0 ++ cmL L t k).length c1 ∧ Ga w wr s (l0 ++ cmL L t k)) (fun _ i _ => K + 1 - (intOf i).toNat)
      case atStart => exact ⟨0, A1, c1, rfl, by omega, by simp [cmL], by simp only [cmL, List.append_nil]; exact HGA.out⟩
      case round =>
        obtain ⟨k, A2, e2, rfl, hk, rfl, hga⟩ := hrel
        have HGB := Lib.hid hga
        have c3 := hga.2.cell HRM.out.c3 (by simp)
        have c2 := hga.2.cell HRM.out.c2 (by simp)
        clear hga HGA
        by_cases hlk : k < K
        · have hki : decide ((k : Int) + 1 ≤ K) = true := decide_eq_true (by omega)
          have HK := Lib.hid hlk
          have HBK : Hid ((l0 ++ cmL L t k).length ≤ 500000) := Lib.hid (by have := cmL_len HB.out.1 t k; have := HB.out; have := HBL.out; rw [List.length_append]; omega)
          have HCR : Hid (l0 ++ cmL L t (k + 1) = l0 ++ cmL L t k ++ comeL L t (k + 1)) := Lib.hid (by rw [List.append_assoc]; rfl)
          generalize l0 ++ cmL L t k = l1 at *
          have hk1 : (k : Int) ≤ 60 := by have := HB.out; omega
          clear hlk hk
          go_wp2_with fail
          go_loopw [3, 32] (fun s i wr => ∃ (i' : Nat) (A1 : Option Addr) (c1 : Nat), i = .int .i64 i' ∧ i' ≤ L.length ∧ s = .slice A1 (l1 ++ ((L.take i').filter (fun x : It => x.t == (t : Int) && x.c == ((k + 1 : Nat) : Int))).map It.a).length c1 ∧ Ga w wr s (l1 ++ ((L.take i').filter (fun x : It => x.t == (t : Int) && x.c == ((k + 1 : Nat) : Int))).map It.a)) (fun _ i _ => L.length - (intOf i).toNat)
          case atStart => exact ⟨0, A2, e2, rfl, by omega, by simp, by simp only [List.take_zero, List.filter_nil, List.map_nil, List.append_nil]; exact HGB.out⟩
          case round =>
            obtain ⟨i, A3, c4, rfl, hi, rfl, hga⟩ := hrel
            have HGC := Lib.hid hga
            clear hga HGB
            by_cases hlt : i < L.length
            · have hii : (i : Int) < L.length := by omega
              have HI := Lib.hid hlt
              obtain ⟨g, rfl, -, hcell⟩ := HR.out.resolve_left (by omega)
              obtain ⟨d0, d1, d2, d3⟩ := hcell i hlt
              rw [Nat.zero_add] at d0 d1 d2 d3
              have HFM := Lib.hid (fm_take (fun x : It => x.t == (t : Int) && x.c == ((k + 1 : Nat) : Int)) L i hlt)
              have HBM : Hid ((l1 ++ ((L.take i).filter (fun x : It => x.t == (t : Int) && x.c == ((k + 1 : Nat) : Int))).map It.a).length ≤ 600000) := Lib.hid (by
                have h1 := fm_len (fun x : It => x.t == (t : Int) && x.c == ((k + 1 : Nat) : Int)) (L.take i)
                have h2 : (L.take i).length ≤ 61 := by rw [List.length_take]; have := HB.out; omega
                rw [List.length_append]
                have := HBK.out
                omega)
              obtain ⟨⟨xf, xt, xa, xc⟩, he⟩ : ∃ o : It, L[i]'hlt = o := ⟨_, rfl⟩
              rw [he] at d0 d1 d2 d3 HFM
              simp only [] at d0 d1 d2 d3 HFM
              replace d0 := HGC.out.2.cell d0 (by simp)
              replace d1 := HGC.out.2.cell d1 (by simp)
              replace d2 := HGC.out.2.cell d2 (by simp)
              replace d3 := HGC.out.2.cell d3 (by simp)
              have HF2 : Hid (l1 ++ ((L.take (i + 1)).filter (fun x : It => x.t == (t : Int) && x.c == ((k + 1 : Nat) : Int))).map It.a = l1 ++ ((L.take i).filter (fun x : It => x.t == (t : Int) && x.c == ((k + 1 : Nat) : Int))).map It.a ++ if (fun x : It => x.t == (t : Int) && x.c == ((k + 1 : Nat) : Int)) ⟨xf, xt, xa, xc⟩ = true then [xa] else []) := Lib.hid (by rw [HFM.out, List.append_assoc])
              clear HFM
              generalize l1 ++ ((L.take i).filter (fun x : It => x.t == (t : Int) && x.c == ((k + 1 : Nat) : Int))).map It.a = l2 at *
              have HGD := Lib.hid (HGC.out.grown (grown_alloc wr (.cells #[.int .i64 xf, .int .i64 xt, .int .i64 xa, .int .i64 xc] 70) none))
              have x0 : (wr.alloc (.cells #[.int .i64 xf, .int .i64 xt, .int .i64 xa, .int .i64 xc] 70)).cell? ⟨wr.heap.size, 0, none⟩ = some (.int .i64 xf) := by rw [cell_alloc_new]; rfl
              have x1 : (wr.alloc (.cells #[.int .i64 xf, .int .i64 xt, .int .i64 xa, .int .i64 xc] 70)).cell? ⟨wr.heap.size, 1, none⟩ = some (.int .i64 xt) := by rw [cell_alloc_new]; rfl
              have x2 : (wr.alloc (.cells #[.int .i64 xf, .int .i64 xt, .int .i64 xa, .int .i64 xc] 70)).cell? ⟨wr.heap.size, 2, none⟩ = some (.int .i64 xa) := by rw [cell_alloc_new]; rfl
              have x3 : (wr.alloc (.cells #[.int .i64 xf, .int .i64 xt, .int .i64 xa, .int .i64 xc] 70)).cell? ⟨wr.heap.size, 3, none⟩ = some (.int .i64 xc) := by rw [cell_alloc_new]; rfl
              clear hcell he hlt hi
              go_upto_region 11 with (fail)
              generalize wr.alloc (.cells #[.int .i64 xf, .int .i64 xt, .int .i64 xa, .int .i64 xc] 70) = w7 at *
              generalize wr.heap.size = x at *
              clear d0 d1 d2 d3 HGC
              cases b1 : (xt == (t : Int)) with
              | false =>
                have HF3 : Hid (l2 = l1 ++ ((L.take (i + 1)).filter (fun x : It => x.t == (t : Int) && x.c == ((k + 1 : Nat) : Int))).map It.a) := Lib.hid (by rw [HF2.out, show ((fun x : It => x.t == (t : Int) && x.c == ((k + 1 : Nat) : Int))) ⟨xf, xt, xa, xc⟩ = false from by simp [b1]]; simp)
                go_wp2_with fail
                go_roundw
                case rel => exact ⟨i + 1, A3, c4, by go_num, HI.out, by rw [← HF3.out], by rw [← HF3.out]; exact HGD.out⟩
                case measure => have := HI.out; simp [intOf]; omega
              | true =>
                cases b2 : (xc == (k : Int) + 1) with
                | false =>
                  have HF3 : Hid (l2 = l1 ++ ((L.take (i + 1)).filter (fun x : It => x.t == (t : Int) && x.c == ((k + 1 : Nat) : Int))).map It.a) := Lib.hid (by rw [HF2.out, show ((fun x : It => x.t == (t : Int) && x.c == ((k + 1 : Nat) : Int))) ⟨xf, xt, xa, xc⟩ = false from by (show (xt == (t : Int) && xc == (k : Int) + 1) = false); rw [b1, b2]; rfl]; simp)
                  go_wp2_with fail
                  go_roundw
                  case rel => exact ⟨i + 1, A3, c4, by go_num, HI.out, by rw [← HF3.out], by rw [← HF3.out]; exact HGD.out⟩
                  case measure => have := HI.out; simp [intOf]; omega
                | true =>
                  have HF3 : Hid (l2 ++ [xa] = l1 ++ ((L.take (i + 1)).filter (fun x : It => x.t == (t : Int) && x.c == ((k + 1 : Nat) : Int))).map It.a) := Lib.hid (by rw [HF2.out, show ((fun x : It => x.t == (t : Int) && x.c == ((k + 1 : Nat) : Int))) ⟨xf, xt, xa, xc⟩ = true from by (show (xt == (t : Int) && xc == (k : Int) + 1) = true); rw [b1, b2]; rfl]; simp)
                  obtain ⟨A5, c5, w8, hrun, hga⟩ := HGD.out.app (by have := HBM.out; omega) xa 25
                  have HGE := Lib.hid hga
                  clear hga
                  go_wp2_with (at_builtin; refine wpList_append_run rfl _ _ _ rfl _ _ _ _ rfl rfl hrun ?_)
                  go_roundw
                  case rel => exact ⟨i + 1, A5, c5, by go_num, HI.out, by rw [← HF3.out, List.length_append, List.length_singleton], by rw [← HF3.out]; exact HGE.out⟩
                  case measure => have := HI.out; simp [intOf]; omega
            · have hii : ¬ (i : Int) < L.length := by omega
              have HTK : Hid (L.take i = L) := Lib.hid (List.take_of_length_le (by omega))
              rw [HTK.out] at HGC
              rw [HTK.out]
              clear hlt hi
              go_wp2_with fail
              go_roundw
              case rel => exact ⟨k + 1, A3, c4, by go_num, HK.out, by rw [HCR.out]; rfl, by rw [HCR.out]; exact HGC.out⟩
              case measure => have := HK.out; simp [intOf]; omega

        · have hki : decide ((k : Int) + 1 ≤ K) = false := decide_eq_false (by omega)
          have hkK : k = K := by omega
          have HL3 : Hid ((l0 ++ cmL L t k).length ≤ 500000) := Lib.hid (by have := cmL_len HB.out.1 t k; have := HB.out; have := HBL.out; rw [List.length_append]; omega)
          have HAR2 : Hid (allR L K n (t + 1) = l0 ++ cmL L t k ++ hrL L t n) := Lib.hid (by rw [hkK]; exact HAR.out)
          generalize l0 ++ cmL L t k = l3 at *
          have c0 := HGB.out.2.cell HRM.out.c0 (by simp)
          clear hlk hk hkK HAR
          go_wp2_with fail
          go_loopw [3, 8] (fun s i wr => ∃ (u : Nat) (A1 : Option Addr) (c1 : Nat), i = .int .i64 u ∧ u ≤ n ∧ s = .slice A1 (l3 ++ hrL L t u).length c1 ∧ Ga w wr s (l3 ++ hrL L t u)) (fun _ i _ => n - (intOf i).toNat)
          case atStart => exact ⟨0, A2, e2, rfl, by omega, by simp [hrL], by simp only [hrL, List.append_nil]; exact HGB.out⟩
          case round =>
            obtain ⟨u, A2, e2, rfl, hu, rfl, hga⟩ := hrel
            have HGB := Lib.hid hga
            have c0 := hga.2.cell HRM.out.c0 (by simp)
            have c2 := hga.2.cell HRM.out.c2 (by simp)
            clear hga
            by_cases hlu : u < n
            · have hui : (u : Int) < n := by omega
              have HU := Lib.hid hlu
              have HBK : Hid ((l3 ++ hrL L t u).length ≤ 560000) := Lib.hid (by have := hrL_len HB.out.1 t u; have := HB.out; have := HL3.out; rw [List.length_append]; omega)
              have HCR : Hid (l3 ++ hrL L t (u + 1) = l3 ++ hrL L t u ++ hfL L t u) := Lib.hid (by rw [List.append_assoc]; rfl)
              generalize l3 ++ hrL L t u = l1 at *
              clear hlu hu
              go_wp2_with fail
              go_loopw [3, 65] (fun s i wr => ∃ (i' : Nat) (A1 : Option Addr) (c1 : Nat), i = .int .i64 i' ∧ i' ≤ L.length ∧ s = .slice A1 (l1 ++ ((L.take i').filter (pB (t : Int) (u : Int))).map It.a).length c1 ∧ Ga w wr s (l1 ++ ((L.take i').filter (pB (t : Int) (u : Int))).map It.a)) (fun _ i _ => L.length - (intOf i).toNat)
              case atStart => exact ⟨0, A2, e2, rfl, by omega, by simp, by simp only [List.take_zero, List.filter_nil, List.map_nil, List.append_nil]; exact HGB.out⟩
              case round =>
                obtain ⟨i, A3, c4, rfl, hi, rfl, hga⟩ := hrel
                have HGC := Lib.hid hga
                clear hga HGB
                by_cases hlt : i < L.length
                · have hii : (i : Int) < L.length := by omega
                  have HI := Lib.hid hlt
                  obtain ⟨g, rfl, -, hcell⟩ := HR.out.resolve_left (by omega)
                  obtain ⟨d0, d1, d2, d3⟩ := hcell i hlt
                  rw [Nat.zero_add] at d0 d1 d2 d3
                  have HFM := Lib.hid (fm_take (pB (t : Int) (u : Int)) L i hlt)
                  have HBM : Hid ((l1 ++ ((L.take i).filter (pB (t : Int) (u : Int))).map It.a).length ≤ 600000) := Lib.hid (by
                    have h1 := fm_len (pB (t : Int) (u : Int)) (L.take i)
                    have h2 : (L.take i).length ≤ 61 := by rw [List.length_take]; have := HB.out; omega
                    rw [List.length_append]
                    have := HBK.out
                    omega)
                  obtain ⟨⟨xf, xt, xa, xc⟩, he⟩ : ∃ o : It, L[i]'hlt = o := ⟨_, rfl⟩
                  rw [he] at d0 d1 d2 d3 HFM
                  simp only [] at d0 d1 d2 d3 HFM
                  replace d0 := HGC.out.2.cell d0 (by simp)
                  replace d1 := HGC.out.2.cell d1 (by simp)
                  replace d2 := HGC.out.2.cell d2 (by simp)
                  replace d3 := HGC.out.2.cell d3 (by simp)
                  have HF2 : Hid (l1 ++ ((L.take (i + 1)).filter (pB (t : Int) (u : Int))).map It.a = l1 ++ ((L.take i).filter (pB (t : Int) (u : Int))).map It.a ++ if (pB (t : Int) (u : Int)) ⟨xf, xt, xa, xc⟩ = true then [xa] else []) := Lib.hid (by rw [HFM.out, List.append_assoc])
                  clear HFM
                  generalize l1 ++ ((L.take i).filter (pB (t : Int) (u : Int))).map It.a = l2 at *
                  have HGD := Lib.hid (HGC.out.grown (grown_alloc wr (.cells #[.int .i64 xf, .int .i64 xt, .int .i64 xa, .int .i64 xc] 70) none))
                  have x0 : (wr.alloc (.cells #[.int .i64 xf, .int .i64 xt, .int .i64 xa, .int .i64 xc] 70)).cell? ⟨wr.heap.size, 0, none⟩ = some (.int .i64 xf) := by rw [cell_alloc_new]; rfl
                  have x1 : (wr.alloc (.cells #[.int .i64 xf, .int .i64 xt, .int .i64 xa, .int .i64 xc] 70)).cell? ⟨wr.heap.size, 1, none⟩ = some (.int .i64 xt) := by rw [cell_alloc_new]; rfl
                  have x2 : (wr.alloc (.cells #[.int .i64 xf, .int .i64 xt, .int .i64 xa, .int .i64 xc] 70)).cell? ⟨wr.heap.size, 2, none⟩ = some (.int .i64 xa) := by rw [cell_alloc_new]; rfl
                  have x3 : (wr.alloc (.cells #[.int .i64 xf, .int .i64 xt, .int .i64 xa, .int .i64 xc] 70)).cell? ⟨wr.heap.size, 3, none⟩ = some (.int .i64 xc) := by rw [cell_alloc_new]; rfl
                  clear hcell he hlt hi
                  go_upto_region 20 with (fail)
                  generalize wr.alloc (.cells #[.int .i64 xf, .int .i64 xt, .int .i64 xa, .int .i64 xc] 70) = w7 at *
                  generalize wr.heap.size = x at *
                  clear d0 d1 d2 d3 HGC
                  cases b1 : (xf == (t : Int)) with
                  | false =>
                    have HF3 : Hid (l2 = l1 ++ ((L.take (i + 1)).filter (pB (t : Int) (u : Int))).map It.a) := Lib.hid (by rw [HF2.out, show ((pB (t : Int) (u : Int))) ⟨xf, xt, xa, xc⟩ = false from by simp [pB, b1]]; simp)
                    go_wp2_with fail
                    go_roundw
                    case rel => exact ⟨i + 1, A3, c4, by go_num, HI.out, by rw [← HF3.out], by rw [← HF3.out]; exact HGD.out⟩
                    case measure => have := HI.out; simp [intOf]; omega
                  | true =>
                    cases b2 : (xt == (u : Int)) with
                    | false =>
                      have HF3 : Hid (l2 = l1 ++ ((L.take (i + 1)).filter (pB (t : Int) (u : Int))).map It.a) := Lib.hid (by rw [HF2.out, show ((pB (t : Int) (u : Int))) ⟨xf, xt, xa, xc⟩ = false from by simp [pB, b2]]; simp)
                      go_wp2_with fail
                      go_roundw
                      case rel => exact ⟨i + 1, A3, c4, by go_num, HI.out, by rw [← HF3.out], by rw [← HF3.out]; exact HGD.out⟩
                      case measure => have := HI.out; simp [intOf]; omega
                    | true =>
                      cases b3 : (xc == 0) with
                      | false =>
                        have HF3 : Hid (l2 = l1 ++ ((L.take (i + 1)).filter (pB (t : Int) (u : Int))).map It.a) := Lib.hid (by rw [HF2.out, show ((pB (t : Int) (u : Int))) ⟨xf, xt, xa, xc⟩ = false from by simp [pB, b3]]; simp)
                        go_wp2_with fail
                        go_roundw
                        case rel => exact ⟨i + 1, A3, c4, by go_num, HI.out, by rw [← HF3.out], by rw [← HF3.out]; exact HGD.out⟩
                        case measure => have := HI.out; simp [intOf]; omega
                      | true =>
                        have HF3 : Hid (l2 ++ [xa] = l1 ++ ((L.take (i + 1)).filter (pB (t : Int) (u : Int))).map It.a) := Lib.hid (by rw [HF2.out, show ((pB (t : Int) (u : Int))) ⟨xf, xt, xa, xc⟩ = true from by (show (xf == (t : Int) && (xt == (u : Int) && xc == 0)) = true); rw [b1, b2, b3]; rfl]; simp)
                        obtain ⟨A5, c5, w8, hrun, hga⟩ := HGD.out.app (by have := HBM.out; omega) xa 25
                        have HGE := Lib.hid hga
                        clear hga
                        go_wp2_with (at_builtin; refine wpList_append_run rfl _ _ _ rfl _ _ _ _ rfl rfl hrun ?_)
                        go_roundw
                        case rel => exact ⟨i + 1, A5, c5, by go_num, HI.out, by rw [← HF3.out, List.length_append, List.length_singleton], by rw [← HF3.out]; exact HGE.out⟩
                        case measure => have := HI.out; simp [intOf]; omega
                · have hii : ¬ (i : Int) < L.length := by omega
                  have HTK : Hid (L.take i = L) := Lib.hid (List.take_of_length_le (by omega))
                  rw [HTK.out] at HGC
                  rw [HTK.out]
                  clear hlt hi
                  go_wp2_with fail
                  go_roundw
                  case rel => exact ⟨u + 1, A3, c4, by go_num, HU.out, by rw [HCR.out]; rfl, by rw [HCR.out]; exact HGC.out⟩
                  case measure => have := HU.out; simp [intOf]; omega

            · have hui : ¬ (u : Int) < n := by omega
              have HX : Hid (Ga w wr (.slice A2 (l3 ++ hrL L t u).length e2) (allR L K n (t + 1)) ∧ (l3 ++ hrL L t u).length = (allR L K n (t + 1)).length) := Lib.hid (by
                have e : u = n := by omega
                have h := HGB.out
                rw [e] at h ⊢
                rw [HAR2.out]
                exact ⟨h, rfl⟩)
              clear hlu hu
              go_wp2_with fail
              go_roundw
              case rel => exact ⟨t + 1, A2, e2, by go_num, HT.out, by rw [← HX.out.2], by have h := HX.out.1; rw [HX.out.2] at h ⊢; exact h⟩
              case measure => have := HT.out; simp [intOf]; omega
    · have hti : ¬ (t : Int) < n := by omega
      have HX : Hid (Ga w wr (.slice A1 (allR L K n t).length c1) (allR L K n n)) := Lib.hid (by
        have e : t = n := by omega
        have h := HGA.out
        rw [e] at h ⊢
        exact h)
      clear hlt ht
      go_wp2_with fail
      go_ret
      exact ⟨_, rfl, HX.out⟩
end Go.Proofs.Ytldpljfanlhooaa
