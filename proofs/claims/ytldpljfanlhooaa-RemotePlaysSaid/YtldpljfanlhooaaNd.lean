/- The document's first, Next. -/
import Derived.Test.YtldpljfanlhooaaNc
import Derived.BigRegion
namespace Go.Proofs.Ytldpljfanlhooaa
open Go.RowKit
open Is

/-- The first one of k that has come to t: none (-1), or j. -/
def Fst (L : List It) (t : Int) (k : Nat) (r : Int) : Prop :=
  (r = -1 ∧ ∀ i (h : i < L.length), i < k → wB t L[i] = false) ∨ ∃ j : Nat, r = j ∧ j < k ∧ ∃ h : j < L.length, wB t (L[j]'h) = true ∧ ∀ i (hi : i < L.length), i < k → wB t L[i] = true → (L[j]'h).c ≤ L[i].c
theorem fst_no {L : List It} {t : Int} {k : Nat} {r : Int} (h : Fst L t k r) (hk : k < L.length) (hn : wB t (L[k]'hk) = false) : Fst L t (k + 1) r := by
  rcases h with ⟨h1, h2⟩ | ⟨j, h1, h2, h3, h4, h5⟩
  · refine .inl ⟨h1, fun i hi h => ?_⟩
    by_cases e : i = k
    · subst e; exact hn
    · exact h2 i hi (by omega)
  · refine .inr ⟨j, h1, by omega, h3, h4, fun i hi h hw => ?_⟩
    by_cases e : i = k
    · subst e; rw [hn] at hw; cases hw
    · exact h5 i hi (by omega) hw
theorem fst_yes {L : List It} {t : Int} {k : Nat} (h : Fst L t k (-1)) (hk : k < L.length) (hn : wB t (L[k]'hk) = true) : Fst L t (k + 1) k := by
  rcases h with ⟨h1, h2⟩ | ⟨j, h1, _⟩
  · refine .inr ⟨k, rfl, by omega, hk, hn, fun i hi h hw => ?_⟩
    by_cases e : i = k
    · subst e; exact Int.le_refl _
    · rw [h2 i hi (by omega)] at hw; cases hw
  · omega
theorem fst_less {L : List It} {t : Int} {k j : Nat} (h : Fst L t k j) (hj : j < L.length) (hk : k < L.length) (hn : wB t (L[k]'hk) = true) (hl : (L[k]'hk).c < (L[j]'hj).c) : Fst L t (k + 1) k := by
  rcases h with ⟨h1, h2⟩ | ⟨j', h1, h2, h3, h4, h5⟩
  · omega
  · have : j' = j := by omega
    subst this
    refine .inr ⟨k, rfl, by omega, hk, hn, fun i hi h hw => ?_⟩
    by_cases e : i = k
    · subst e; exact Int.le_refl _
    · have := h5 i hi (by omega) hw; omega
theorem fst_keep {L : List It} {t : Int} {k j : Nat} (h : Fst L t k j) (hj : j < L.length) (hk : k < L.length) (hl : ¬ (L[k]'hk).c < (L[j]'hj).c) : Fst L t (k + 1) j := by
  rcases h with ⟨h1, h2⟩ | ⟨j', h1, h2, h3, h4, h5⟩
  · omega
  · have : j' = j := by omega
    subst this
    refine .inr ⟨j', rfl, by omega, hj, h4, fun i hi h hw => ?_⟩
    by_cases e : i = k
    · subst e; omega
    · exact h5 i hi (by omega) hw
set_option maxRecDepth 100000 in
set_option maxHeartbeats 4000000 in
theorem rfirst_at {w : World} {p n b : Nat} {v : Value} {L : List It} {K : Nat} (h : Rm w p n b v L K) (t : Int) :
    Calls Try.prog 40 #[.pointer (some ⟨p, 0, none⟩), .int .i64 t] w fun e w' => (∃ r, e = .returned (.int .i64 r) ∧ Fst L t L.length r) ∧ w.grownBy w' none := by
  have c2 := h.c2
  have hl := h.l
  obtain ⟨A, c, rfl, h0, hr⟩ := h.rd
  have hli : (L.length : Int) ≤ 1000 := by omega
  have HR := Lib.hid hr
  have HC2 := Lib.hid c2
  have HL := Lib.hid hl
  clear h h0 hr hl
  go_enter Try.func40, Try.ntmps40
  go_wp2_with fail
  go_loopw [5, 13] (fun s i wr => ∃ (k : Nat) (r : Int), k ≤ L.length ∧ i = .int .i64 k ∧ s = .int .i64 r ∧ Fst L t k r ∧ w.grownBy wr none) (fun _ i _ => L.length - (intOf i).toNat)
  case atStart => exact ⟨0, -1, by omega, rfl, rfl, .inl ⟨rfl, fun i _ h => by omega⟩, grown_refl _ _⟩
  case round =>
    obtain ⟨k, r, hk, rfl, rfl, hf, hg⟩ := hrel
    have HG := Lib.hid hg
    have HF := Lib.hid hf
    clear hg hf c2
    by_cases hlt : k < L.length
    · have hki : (k : Int) < L.length := by omega
      have HK := Lib.hid hlt
      obtain ⟨g, rfl, -, hcell⟩ := HR.out.resolve_left (by omega)
      obtain ⟨d0, d1, d2, d3⟩ := hcell k hlt
      rw [Nat.zero_add] at d0 d1 d2 d3
      have HNO : Hid (wB t (L[k]'hlt) = false → Fst L t (k + 1) r) := Lib.hid (fun hn => fst_no HF.out hlt hn)
      obtain ⟨⟨xf, xt, xa, xc⟩, he⟩ : ∃ o : It, L[k]'hlt = o := ⟨_, rfl⟩
      have HLK : Hid (L[k]'HK.out = ⟨xf, xt, xa, xc⟩) := Lib.hid he
      rw [he] at d0 d1 d2 d3 HNO
      simp only [] at d0 d1 d2 d3
      replace d0 := HG.out.cell d0 (by simp)
      replace d1 := HG.out.cell d1 (by simp)
      replace d2 := HG.out.cell d2 (by simp)
      replace d3 := HG.out.cell d3 (by simp)
      have HG2 := Lib.hid (grown_trans HG.out (grown_alloc wr (.cells #[.int .i64 xf, .int .i64 xt, .int .i64 xa, .int .i64 xc] 70) none))
      have x1 : (wr.alloc (.cells #[.int .i64 xf, .int .i64 xt, .int .i64 xa, .int .i64 xc] 70)).cell? ⟨wr.heap.size, 1, none⟩ = some (.int .i64 xt) := by rw [cell_alloc_new]; rfl
      have x3 : (wr.alloc (.cells #[.int .i64 xf, .int .i64 xt, .int .i64 xa, .int .i64 xc] 70)).cell? ⟨wr.heap.size, 3, none⟩ = some (.int .i64 xc) := by rw [cell_alloc_new]; rfl
      have HCE := Lib.hid hcell
      clear hcell he hlt hk
      go_upto_region 5 with (fail)
      generalize wr.alloc (.cells #[.int .i64 xf, .int .i64 xt, .int .i64 xa, .int .i64 xc] 70) = w7 at *
      generalize wr.heap.size = x at *
      clear d0 d1 d2 d3 HG
      have c27 := HG2.out.cell HC2.out (by simp)
      cases b1 : (xt == t) with
      | false =>
        have HF2 := Lib.hid (HNO.out (by simp [wB, b1]))
        clear c27
        go_quiet (fail)
        rename Nat => nq
        go_wp2_with fail
        go_roundw
        case rel => exact ⟨k + 1, r, HK.out, by go_num, rfl, HF2.out, grown_drew HG2.out nq⟩
        case measure => have := HK.out; simp [intOf]; omega
      | true =>
        cases b2 : decide (xc > 0) with
        | false =>
          have HF2 := Lib.hid (HNO.out (by simp only [wB, b1, b2]; rfl))
          have b2' : decide (0 < xc) = false := b2
          clear c27
          go_quiet (fail)
          rename Nat => nq
          go_wp2_with fail
          go_roundw
          case rel => exact ⟨k + 1, r, HK.out, by go_num, rfl, HF2.out, grown_drew HG2.out nq⟩
          case measure => have := HK.out; simp [intOf]; omega
        | true =>
          have HW : Hid (wB t (L[k]'HK.out) = true) := Lib.hid (by rw [HLK.out]; simp only [wB, b1, b2]; rfl)
          have b2' : decide (0 < xc) = true := b2
          rcases HF.out with ⟨h1, h2⟩ | ⟨j, h1, h2, h3, h4, h5⟩
          · have HF2 : Hid (Fst L t (k + 1) k) := Lib.hid (fst_yes (by rw [← h1]; exact HF.out) HK.out HW.out)
            have b3 : decide (r < 0) = true := decide_eq_true (by omega)
            clear c27 h1 h2
            go_quiet (fail)
            rename Nat => nq
            go_wp2_with fail
            go_roundw
            case rel => exact ⟨k + 1, k, HK.out, by go_num, rfl, HF2.out, grown_drew HG2.out nq⟩
            case measure => have := HK.out; simp [intOf]; omega
          · subst h1
            obtain ⟨e0, e1, e2, e3⟩ := HCE.out j h3
            rw [Nat.zero_add] at e3
            obtain ⟨yc, hyc⟩ : ∃ yc, (L[j]'h3).c = yc := ⟨_, rfl⟩
            rw [hyc] at e3
            replace e3 := HG2.out.cell e3 (by simp)
            have hj : (j : Int) < L.length := by omega
            have HJ := Lib.hid (And.intro h2 h3)
            have HYC : Hid ((L[j]'HJ.out.2).c = yc) := Lib.hid hyc
            have b3 : decide ((j : Int) < 0) = false := decide_eq_false (by omega)
            clear h2 h4 h5 e0 e1 e2 hyc
            by_cases hlc : xc < yc
            · have b4 : decide (xc < yc) = true := decide_eq_true hlc
              have HF2 : Hid (Fst L t (k + 1) k) := Lib.hid (fst_less HF.out HJ.out.2 HK.out HW.out (by rw [HLK.out, HYC.out]; exact hlc))
              clear hlc h3
              go_quiet (fail)
              rename Nat => nq
              go_wp2_with fail
              go_roundw
              case rel => exact ⟨k + 1, k, HK.out, by go_num, rfl, HF2.out, grown_drew HG2.out nq⟩
              case measure => have := HK.out; simp [intOf]; omega
            · have b4 : decide (xc < yc) = false := decide_eq_false hlc
              have HF2 : Hid (Fst L t (k + 1) j) := Lib.hid (fst_keep HF.out HJ.out.2 HK.out (by rw [HLK.out, HYC.out]; exact hlc))
              clear hlc h3
              go_quiet (fail)
              rename Nat => nq
              go_wp2_with fail
              go_roundw
              case rel => exact ⟨k + 1, j, HK.out, by go_num, rfl, HF2.out, grown_drew HG2.out nq⟩
              case measure => have := HK.out; simp [intOf]; omega
    · have hki : ¬ (k : Int) < L.length := by omega
      have HX : Hid (Fst L t L.length r) := Lib.hid (by have e : k = L.length := by omega
                                                        rw [← e]; exact HF.out)
      clear hlt hk
      go_wp2_with fail
      go_ret
      exact ⟨⟨r, rfl, HX.out⟩, HG.out⟩
attribute [local go_sem ↓] appS_of
/-- The list without one. -/
theorem er_split (L : List It) (j : Nat) : L.eraseIdx j = L.take j ++ L.drop (j + 1) := List.eraseIdx_eq_take_drop_succ ..
def NxTo (w w' : World) (p n b : Nat) (v : Value) (L : List It) (K : Nat) (t : Int) (e : Ending) : Prop :=
  (e = .returned (.tuple #[.int .i64 0, .bool false]) ∧ Fst L t L.length (-1) ∧ RmTo w w' p n b v L K) ∨ ∃ (j : Nat) (h : j < L.length), e = .returned (.tuple #[.int .i64 (L[j]'h).a, .bool true]) ∧ Fst L t L.length j ∧ RmTo w w' p n b v (L.eraseIdx j) K
theorem rer_run {w : World} {p n b g c j : Nat} {L : List It} {K : Nat} (h : Rm w p n b (.slice (some ⟨g, 0, none⟩) L.length c) L K) (hcell : ItCells w g 0 L) (hj : j < L.length) (ad : Addr) (c2 : Nat) (i1 : Nat) (hi : j + 1 = i1) (h2 : L.length = i1 ∧ ad = ⟨g, 0, none⟩ ∨ ad = ⟨g, i1 * 4, none⟩) :
    ∃ A1 k1 w1 A2 k2 w2, (appS #[63, 63] 63 #[.slice (some ⟨w.heap.size, 0, none⟩) 0 0, .slice (some ⟨g, 0, none⟩) j c]).run Try.prog (w.alloc (.cells #[] 70)).drew = .ok (.slice A1 j k1) w1 ∧
      w.grownBy w1 none ∧ (appS #[63, 63] 63 #[.slice A1 j k1, .slice (some ad) (L.length - i1) c2]).run Try.prog w1 = .ok (.slice A2 (L.length - 1) k2) w2 ∧
      w2.cell? ⟨p, 2, none⟩ = some (.slice (some ⟨g, 0, none⟩) L.length c) ∧ w2.frozen? ⟨p, 2, none⟩ = false ∧ RmTo w (w2.setCell ⟨p, 2, none⟩ (.slice A2 (L.length - 1) k2)) p n b (.slice (some ⟨g, 0, none⟩) L.length c) (L.eraseIdx j) K := by
  have gA := grown_drew1 (grown_alloc w (.cells #[] 70) none)
  have hl := h.l
  have o0 : IOwn (w.alloc (.cells #[] 70)).drew w.heap.size (.slice (some ⟨w.heap.size, 0, none⟩) 0 0) [] :=
    (show IOwn (w.alloc (.cells #[] 70)) w.heap.size (.slice (some ⟨w.heap.size, 0, none⟩) 0 0) [] from World.ownsRow_made w #[] 0 (Nat.le_refl _) (Nat.zero_le _) rfl).grown (grown_drew1 (grown_refl _ none))
  have hlt : (L.take j).length = j := by rw [List.length_take]; omega
  obtain ⟨A1, k1, w1, r1, o1, g1⟩ := iapp (M := L.take j) o0 (by simp only [List.length_nil]; omega) (by simp) g 0 c (fun i hi => by
    obtain ⟨a1, a2, a3, a4⟩ := hcell i (by omega)
    simp only [List.getElem_take]
    exact ⟨gA.cell a1 (by simp), gA.cell a2 (by simp), gA.cell a3 (by simp), gA.cell a4 (by simp)⟩) 63
  simp only [List.length_nil, Nat.zero_add, List.nil_append, hlt] at r1 o1
  have G1 : w.grownBy w1 none := grown_own gA g1 (Nat.le_refl _)
  have hdl : (L.drop i1).length = L.length - i1 := List.length_drop
  have hcd : ∀ o, (L.length = i1 ∧ o = 0 ∨ o = i1 * 4) → ItCells w1 g o (L.drop i1) := fun o ho i hi' => by
    rcases ho with ⟨e, _⟩ | e
    · omega
    · subst e
      obtain ⟨a1, a2, a3, a4⟩ := hcell (i1 + i) (by omega)
      simp only [List.getElem_drop]
      rw [show i1 * 4 + i * 4 = 0 + (i1 + i) * 4 by omega]
      exact ⟨G1.cell a1 (by simp), G1.cell a2 (by simp), G1.cell a3 (by simp), G1.cell a4 (by simp)⟩
  obtain ⟨o, had, ho⟩ : ∃ o, ad = ⟨g, o, none⟩ ∧ (L.length = i1 ∧ o = 0 ∨ o = i1 * 4) := by
    rcases h2 with ⟨e1, e2⟩ | e
    · exact ⟨0, e2, .inl ⟨e1, rfl⟩⟩
    · exact ⟨_, e, .inr rfl⟩
  subst had
  obtain ⟨A2, k2, w2, r2, o2, g2⟩ := iapp (M := L.drop i1) o1 (by omega) G1.size g o c2 (hcd o ho) 63
  rw [hlt, hdl, show j + (L.length - i1) = L.length - 1 by omega] at o2
  rw [hdl, hlt, show j + (L.length - i1) = L.length - 1 by omega] at r2
  have G2 : w.grownBy w2 none := by
    refine ⟨g2.os.trans G1.os, g2.tape.trans G1.tape, g2.output.trans G1.output, Nat.le_trans G1.size g2.size, fun i hi _ => (g2.block i (Nat.lt_of_lt_of_le hi G1.size) (fun e => ?_)).trans (G1.block i hi (by simp))⟩
    have := (o1.ge i e.symm).1
    omega
  have R2 := h.grown G2
  have he : L.take j ++ L.drop i1 = L.eraseIdx j := by rw [← hi]; exact (er_split L j).symm
  rw [he] at o2
  exact ⟨A1, k1, w1, A2, k2, w2, r1, G1, r2, R2.c2, R2.fz 2, _, R2.setL o2.rd (fun e => by have := (o2.ge p e).1; have := h.plt; omega) (by rw [← he, List.length_append, hlt, hdl]; omega), grown_trans (grown_none G2) (set_grown _ _ _ _), fun q hq => .inr (o2.ge q hq).1⟩
set_option maxRecDepth 100000 in
set_option maxHeartbeats 4000000 in
theorem rnext_at {w : World} {p n b : Nat} {v : Value} {L : List It} {K : Nat} (h : Rm w p n b v L K) (t : Int) :
    Calls Try.prog 27 #[.pointer (some ⟨p, 0, none⟩), .int .i64 t] w fun e w' => NxTo w w' p n b v L K t e := by
  have HFI := Lib.hid (rfirst_at h t)
  have HRM := Lib.hid h
  obtain ⟨A, c, rfl, h0, hr⟩ := h.rd
  have hl := h.l
  have hli : (L.length : Int) ≤ 1000 := by omega
  have HR := Lib.hid (And.intro h0 hr)
  clear h h0 hr hl
  go_enter Try.func27, Try.ntmps27
  go_wp2_with fail
  refine HFI.out.mono ?_
  rintro e w1 ⟨⟨r, rfl, hf⟩, hg⟩
  have HF := Lib.hid hf
  have HG := Lib.hid hg
  have HR1 := Lib.hid (HRM.out.grown hg)
  clear hg HFI
  rcases hf with ⟨h1, -⟩ | ⟨j, h1, -, hj, -, -⟩
  · have hd : decide (r < 0) = true := decide_eq_true (by omega)
    have HX : Hid (NxTo w w1 p n b (.slice A L.length c) L K t (.returned (.tuple #[.int .i64 0, .bool false]))) := Lib.hid (.inl ⟨rfl, by rw [← h1]; exact HF.out, _, HR1.out, grown_none HG.out, fun _ hq => .inl hq⟩)
    clear h1
    go_wp2
    go_ret2
    exact HX.out
  · subst h1
    have hd : decide ((j : Int) < 0) = false := decide_eq_false (by omega)
    have hji : (j : Int) < L.length := by omega
    obtain ⟨h0, hr⟩ := HR.out
    obtain ⟨g, rfl, -, hcell⟩ := hr.resolve_left (by omega)
    have HC1 : Hid (ItCells w1 g 0 L) := Lib.hid (fun i hi => by
      obtain ⟨a1, a2, a3, a4⟩ := hcell i hi
      exact ⟨HG.out.cell a1 (by simp), HG.out.cell a2 (by simp), HG.out.cell a3 (by simp), HG.out.cell a4 (by simp)⟩)
    have hca := (HC1.out j hj).2.2.1
    rw [Nat.zero_add] at hca
    have c2 := HR1.out.c2
    have HFIN : Hid (∀ w3, RmTo w1 w3 p n b (.slice (some ⟨g, 0, none⟩) L.length c) (L.eraseIdx j) K → NxTo w w3 p n b (.slice (some ⟨g, 0, none⟩) L.length c) L K t (.returned (.tuple #[.int .i64 (L[j]'hj).a, .bool true]))) :=
      Lib.hid (fun w3 hto => .inr ⟨j, hj, rfl, HF.out, RmTo.trans (grown_none HG.out) (fun _ hq => .inl hq) hto⟩)
    generalize (L[j]'hj).a = a at *
    obtain ⟨i1, hi1⟩ : ∃ i1, j + 1 = i1 := ⟨_, rfl⟩
    have hi1z : IntKind.i64.wrap ((j : Int) + 1) = (i1 : Int) := by rw [IntKind.wrap_i64]; omega
    have hi1z' : ((j : Int) + 1) = (i1 : Int) := by omega
    have hi1l : (i1 : Int) ≤ L.length := by omega
    have HJ := Lib.hid hj
    have HI1 := Lib.hid hi1
    have H0 := Lib.hid h0
    have hlc : (L.length : Int) ≤ c := by omega
    go_upto_region 5 with (fail)
    by_cases hvi : c = i1
    · obtain ⟨A1, k1, w3, A2, k2, w4, r1, G1, r2, d2, z2, hto⟩ := rer_run HR1.out HC1.out hj ⟨g, 0, none⟩ 0 i1 hi1 (.inl ⟨by omega, rfl⟩)
      have HX := Lib.hid (HFIN.out _ hto)
      have c3 := G1.cell c2 (by simp)
      have cA := (grown_alloc w1 (.cells #[] 70) none).cell c2 (by simp)
      clear hto G1 HFIN hr hcell hj hi1 h0
      subst hvi

      go_region
      all_goals
        go_wp2
        go_ret2
        exact HX.out
    · obtain ⟨A1, k1, w3, A2, k2, w4, r1, G1, r2, d2, z2, hto⟩ := rer_run HR1.out HC1.out hj ⟨g, i1 * 4, none⟩ (c - i1) i1 hi1 (.inr rfl)
      have HX := Lib.hid (HFIN.out _ hto)
      have c3 := G1.cell c2 (by simp)
      have cA := (grown_alloc w1 (.cells #[] 70) none).cell c2 (by simp)
      clear hto G1 HFIN hr hcell hj hi1 h0
      go_region
      all_goals
        go_wp2
        go_ret2
        exact HX.out
end Go.Proofs.Ytldpljfanlhooaa
