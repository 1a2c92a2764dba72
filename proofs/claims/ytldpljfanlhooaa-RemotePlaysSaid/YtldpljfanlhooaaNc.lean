/- The document's Post, Send. -/
import Derived.Test.YtldpljfanlhooaaNb
import Derived.Deep.CutBlock
namespace Go.Proofs.Ytldpljfanlhooaa
open Go.RowKit
open Is

def postL (b : Nat) (L : List It) (K : Nat) (f t a : Int) : List It := if b ≤ cnt (hB f t) (L ++ [⟨f, t, a, 0⟩]) then passR f t (L ++ [⟨f, t, a, 0⟩]) K else L ++ [⟨f, t, a, 0⟩]
def postK (b : Nat) (L : List It) (K : Nat) (f t a : Int) : Nat := if b ≤ cnt (hB f t) (L ++ [⟨f, t, a, 0⟩]) then K + cnt (pB f t) (L ++ [⟨f, t, a, 0⟩]) else K
theorem rmto_refl {w : World} {p n b : Nat} {v : Value} {L : List It} {K : Nat} (h : Rm w p n b v L K) : RmTo w w p n b v L K := ⟨v, h, grown_refl _ _, fun _ hq => .inl hq⟩
theorem RmTo.trans {w w1 w2 : World} {p n b : Nat} {v v1 : Value} {L' : List It} {K' : Nat} (h1 : w.grownBy w1 (some p)) (hv : ∀ q, v1.ownBlock = some q → v.ownBlock = some q ∨ w.heap.size ≤ q) (h : RmTo w1 w2 p n b v1 L' K') : RmTo w w2 p n b v L' K' := by
  obtain ⟨v', hr, hg, hq⟩ := h
  refine ⟨v', hr, grown_trans h1 hg, fun q e => ?_⟩
  rcases hq q e with h2 | h2
  · exact hv q h2
  · exact .inr (Nat.le_trans h1.size h2)
set_option maxRecDepth 100000 in
set_option maxHeartbeats 4000000 in
theorem rpost_at {w : World} {p n b : Nat} {v : Value} {L : List It} {K : Nat} (h : Rm w p n b v L K) (hL : L.length + 1 + K ≤ 1000) (f t a : Int) :
    Calls Try.prog 23 #[.pointer (some ⟨p, 0, none⟩), .int .i64 f, .int .i64 t, .int .i64 a] w fun e w' => e = .returned (.bool (okB n f t)) ∧ RmTo w w' p n b v (if okB n f t = true then postL b L K f t a else L) (if okB n f t = true then postK b L K f t a else K) := by
  have HI := Lib.hid (fun t => rin_at h t)
  cases hok : okB n f t with
  | false =>
    have HX := Lib.hid (rmto_refl h)
    cases hf : inB n f with
    | false =>
      clear hok h
      go_enter Try.func23, Try.ntmps23
      go_wp2_with (go_at_call 37; refine (HI.out _).mono ?_; rintro e w' ⟨rfl, rfl⟩)
      go_ret
      exact ⟨rfl, HX.out⟩
    | true =>
      cases ht : inB n t with
      | false =>
        clear hok h
        go_enter Try.func23, Try.ntmps23
        go_wp2_with (go_at_call 37; refine (HI.out _).mono ?_; rintro e w' ⟨rfl, rfl⟩)
        go_ret
        exact ⟨rfl, HX.out⟩
      | true =>
        have he : (f == t) = true := by
          unfold okB at hok
          rw [hf, ht] at hok
          simpa using hok
        clear hok h
        go_enter Try.func23, Try.ntmps23
        go_wp2_with (go_at_call 37; refine (HI.out _).mono ?_; rintro e w' ⟨rfl, rfl⟩)
        go_ret
        exact ⟨rfl, HX.out⟩
  | true =>
    have hf : inB n f = true := by cases e : inB n f with
      | true => rfl
      | false => unfold okB at hok; rw [e] at hok; cases hok
    have ht : inB n t = true := by cases e : inB n t with
      | true => rfl
      | false => unfold okB at hok; rw [e, hf] at hok; cases hok
    have he : (f == t) = false := by unfold okB at hok; rw [ht, hf] at hok; simpa using hok
    have ga := grown_alloc w (.cells #[] 70) none
    have own0 : IOwn (w.alloc (.cells #[] 70)) w.heap.size (.slice (some ⟨w.heap.size, 0, none⟩) 0 0) [] := World.ownsRow_made w #[] 0 (Nat.le_refl _) (Nat.zero_le _) rfl
    obtain ⟨A1, c1, w1, r1, o1, g1⟩ := iapp_rd own0 (h.rd.kept ga (oor _)) (by simp only [List.length_nil]; omega) (by simp) 63
    simp only [List.length_nil, Nat.zero_add, List.nil_append] at r1 o1
    have G1 : w.grownBy w1 none := grown_own ga g1 (Nat.le_refl _)
    have hs1 := G1.size
    obtain ⟨A2, k2, w2, r2, o2, g2⟩ := iapp (M := [⟨f, t, a, 0⟩]) (o1.grown (grown_alloc w1 (.cells #[.int .i64 f, .int .i64 t, .int .i64 a, .int .i64 0] 70) none)) (by simp only [List.length_singleton]; omega) (by simp; omega) w1.heap.size 0 1 (fun i hi => by
      have : i = 0 := by simpa using hi
      subst this
      simp only [Nat.zero_mul, Nat.add_zero, Nat.zero_add]
      exact ⟨by rw [cell_alloc_new]; rfl, by rw [cell_alloc_new]; rfl, by rw [cell_alloc_new]; rfl, by rw [cell_alloc_new]; rfl⟩) 63
    rw [List.length_singleton] at r2 o2
    have G2 : w.grownBy w2 none := by
      have g3 := grown_trans G1 (grown_alloc w1 (.cells #[.int .i64 f, .int .i64 t, .int .i64 a, .int .i64 0] 70) none)
      refine ⟨g2.os.trans g3.os, g2.tape.trans g3.tape, g2.output.trans g3.output, Nat.le_trans g3.size g2.size, fun i hi _ => (g2.block i (Nat.lt_of_lt_of_le hi g3.size) (fun e => ?_)).trans (g3.block i hi (by simp))⟩
      have := (o1.ge i e.symm).1
      omega
    have hne : (Value.slice A2 (L.length + 1) k2).ownBlock ≠ some p := fun e => by have := (o2.ge p e).1; have := h.plt; omega
    have R2 := h.grown G2
    have HR3 := Lib.hid (R2.setL o2.rd hne (by simp only [List.length_append, List.length_singleton]; omega))
    have HG3 : Hid (w.grownBy (w2.setCell ⟨p, 2, none⟩ (.slice A2 (L.length + 1) k2)) (some p)) := Lib.hid (grown_trans (grown_none G2) (set_grown _ _ _ _))
    have HV3 : Hid (∀ q, (Value.slice A2 (L.length + 1) k2).ownBlock = some q → v.ownBlock = some q ∨ w.heap.size ≤ q) := Lib.hid (fun q hq => .inr (o2.ge q hq).1)
    have c2 := h.c2
    have c2A := ga.cell c2 (by simp)
    have fz := R2.fz 2
    have c22 := R2.c2
    obtain ⟨Av, cv, hve, -, -⟩ := h.rd
    subst hve
    clear ga own0 o1 g1 G1 hs1 o2 g2 G2 hne R2 h
    have HLL := Lib.hid hL
    clear hok hL
    go_enter Try.func23, Try.ntmps23
    go_upto_region 4 with (first
      | (go_at_call 37; refine (HI.out _).mono ?_; rintro e w' ⟨rfl, rfl⟩)
      | (at_builtin; first | (refine wpList_append_run rfl _ _ _ rfl _ _ _ _ rfl rfl r1 ?_) | (refine wpList_append_run rfl _ _ _ rfl _ _ _ _ rfl rfl r2 ?_)))
    generalize w2.setCell ⟨p, 2, none⟩ (.slice A2 (L.length + 1) k2) = w3 at *
    clear r1 r2 c2 c22 c2A fz HI
    have HLN : Hid ((L ++ [(⟨f, t, a, 0⟩ : It)]).length = L.length + 1) := Lib.hid (by rw [List.length_append, List.length_singleton])
    have HPL : Hid (postL b L K f t a = if b ≤ cnt (hB f t) (L ++ [⟨f, t, a, 0⟩]) then passR f t (L ++ [⟨f, t, a, 0⟩]) K else L ++ [⟨f, t, a, 0⟩]) := Lib.hid rfl
    have HPK : Hid (postK b L K f t a = if b ≤ cnt (hB f t) (L ++ [⟨f, t, a, 0⟩]) then K + cnt (pB f t) (L ++ [⟨f, t, a, 0⟩]) else K) := Lib.hid rfl
    generalize L ++ [(⟨f, t, a, 0⟩ : It)] = M at *
    have HH := Lib.hid (fun W (g : w3.grownBy W none) => rheld_at (HR3.out.grown g) f t)
    have hg1 := grown_drew1 (grown_refl w3 none)
    have y1 := HR3.out.c1
    obtain ⟨hc, hhc⟩ : ∃ hc, cnt (hB f t) M = hc := ⟨_, rfl⟩
    have HHC := Lib.hid hhc
    rw [hhc] at HH
    clear hhc
    go_cut [47] from 39 to 51 (fun s W => s = .bool (decide (b ≤ hc)) ∧ w3.grownBy W none)
    case first =>
      go_region_held3 (fun w' => w'.cell? ⟨p, 1, none⟩ = some (.int .i64 b))
        (first | exact y1 | exact HS.out)
        (first
        | (go_at_call 38; (with_reducible refine (HH.out _ (by assumption)).mono ?_); rintro e w4 ⟨rfl, hg4⟩; have HG4 := Lib.hid (grown_trans hg1 hg4); have HS : Hid (w4.cell? ⟨p, 1, none⟩ = some (.int .i64 b)) := Lib.hid (HG4.out.cell y1 (by simp)); clear hg4))
      all_goals
        go_wp2
        go_meet
        exact ⟨rfl, HG4.out⟩
    case rest =>
      obtain ⟨rfl, hg⟩ := hcut
      obtain ⟨w5, rfl⟩ : ∃ w5 : World, w5 = wc := ⟨_, rfl⟩
      have HR5 := Lib.hid (HR3.out.grown hg)
      have HG5 := Lib.hid (grown_trans HG3.out (grown_none hg))
      clear hg hg1 y1 HH HR3
      by_cases hb : b ≤ hc
      · have hd : decide ((hc : Int) ≥ b) = true := decide_eq_true (by omega)
        have hd' : decide (b ≤ hc) = true := decide_eq_true hb
        have HPA := Lib.hid (rpass_at HR5.out (by have := HLN.out; have := HLL.out; omega) f t)
        have HE : Hid (postL b L K f t a = passR f t M K ∧ postK b L K f t a = K + cnt (pB f t) M) := Lib.hid ⟨by rw [HPL.out, HHC.out, if_pos hb], by rw [HPK.out, HHC.out, if_pos hb]⟩
        go_wp2_with fail
        refine HPA.out.mono ?_
        rintro e w6 ⟨rfl, hto⟩
        have HTO := Lib.hid (RmTo.trans HG5.out HV3.out hto)
        clear hto
        go_wp2
        go_ret
        exact ⟨rfl, by rw [HE.out.1, HE.out.2]; exact HTO.out⟩
      · have hd : decide ((hc : Int) ≥ b) = false := decide_eq_false (by omega)
        have hd' : decide (b ≤ hc) = false := decide_eq_false hb
        have HE : Hid (postL b L K f t a = M ∧ postK b L K f t a = K) := Lib.hid ⟨by rw [HPL.out, HHC.out, if_neg hb], by rw [HPK.out, HHC.out, if_neg hb]⟩
        go_wp2
        go_ret
        exact ⟨rfl, by rw [HE.out.1, HE.out.2]; exact ⟨_, HR5.out, HG5.out, HV3.out⟩⟩
/-! ### Send -/
def sendL (f : Int) (L : List It) (K : Nat) : Nat → List It × Nat × Nat
  | 0 => (L, K, 0)
  | k + 1 => (passR f k (sendL f L K k).1 (sendL f L K k).2.1, (sendL f L K k).2.1 + cnt (pB f k) (sendL f L K k).1, (sendL f L K k).2.2 + cnt (pB f k) (sendL f L K k).1)
theorem cnt_pass (f t : Int) : ∀ (L : List It) (K : Nat), cnt (fun x => x.c == 0) (passR f t L K) + cnt (pB f t) L = cnt (fun x => x.c == 0) L
  | [], _ => rfl
  | x :: l, K => by
    unfold passR
    have i1 := cnt_pass f t l (K + 1)
    have i2 := cnt_pass f t l K
    unfold cnt at i1 i2 ⊢
    by_cases h : pB f t x = true
    · rw [if_pos h]
      have h0 : (x.c == 0) = true := by unfold pB at h; rw [Bool.and_eq_true, Bool.and_eq_true] at h; exact h.2.2
      have h1 : (((K + 1 : Nat) : Int) == 0) = false := by rw [beq_eq_false_iff_ne]; omega
      simp only [List.filter_cons, h, h0, h1, if_true, Bool.false_eq_true, if_false, List.length_cons]
      omega
    · rw [if_neg h]
      simp only [List.filter_cons, h, Bool.false_eq_true, if_false]
      split
      · rw [List.length_cons, List.length_cons]; omega
      · omega
theorem sendL_len (f : Int) (L : List It) (K : Nat) : ∀ k, (sendL f L K k).1.length = L.length
  | 0 => rfl
  | k + 1 => by show (passR f k _ _).length = _; rw [passR_length, sendL_len f L K k]
theorem sendL_cnt (f : Int) (L : List It) (K : Nat) : ∀ k, (sendL f L K k).2.1 + cnt (fun x => x.c == 0) (sendL f L K k).1 = K + cnt (fun x => x.c == 0) L ∧ (sendL f L K k).2.1 = K + (sendL f L K k).2.2
  | 0 => ⟨rfl, rfl⟩
  | k + 1 => by
    obtain ⟨h1, h2⟩ := sendL_cnt f L K k
    have := cnt_pass f k (sendL f L K k).1 (sendL f L K k).2.1
    show (sendL f L K k).2.1 + cnt (pB f k) (sendL f L K k).1 + cnt (fun x => x.c == 0) (passR f k (sendL f L K k).1 (sendL f L K k).2.1) = _ ∧ (sendL f L K k).2.1 + cnt (pB f k) (sendL f L K k).1 = K + ((sendL f L K k).2.2 + cnt (pB f k) (sendL f L K k).1)
    omega
set_option maxRecDepth 100000 in
set_option maxHeartbeats 4000000 in
theorem rsend_at {w : World} {p n b : Nat} {v : Value} {L : List It} {K : Nat} (h : Rm w p n b v L K) (hL : L.length + K ≤ 500) (f : Int) :
    Calls Try.prog 25 #[.pointer (some ⟨p, 0, none⟩), .int .i64 f] w fun e w' => e = .returned (.int .i64 ((sendL f L K n).2.2 : Nat)) ∧ RmTo w w' p n b v (sendL f L K n).1 (sendL f L K n).2.1 := by
  have hn64 := h.n64
  have hni : (n : Int) ≤ 64 := by omega
  have HLL := Lib.hid hL
  have H0 := Lib.hid (rmto_refl h)
  clear hn64 hL h
  go_enter Try.func25, Try.ntmps25
  go_wp2_with fail
  go_loopw [5, 6] (fun s i wr => ∃ k : Nat, k ≤ n ∧ i = .int .i64 k ∧ s = .int .i64 ((sendL f L K k).2.2 : Nat) ∧ RmTo w wr p n b v (sendL f L K k).1 (sendL f L K k).2.1) (fun _ i _ => n - (intOf i).toNat)
  case atStart => exact ⟨0, by omega, rfl, rfl, H0.out⟩
  case round =>
    obtain ⟨k, hk, rfl, rfl, hto⟩ := hrel
    obtain ⟨v1, hr, hg, hv⟩ := hto
    have HR := Lib.hid hr
    have HG := Lib.hid (And.intro hg hv)
    have c0 := hr.c0
    have HB : Hid ((sendL f L K k).2.1 + (sendL f L K k).1.length ≤ 1000 ∧ (sendL f L K k).2.2 ≤ 500) := Lib.hid (by
      have h1 := sendL_len f L K k
      obtain ⟨h2, h3⟩ := sendL_cnt f L K k
      have h4 := cntL (fun x => x.c == 0) L
      have := HLL.out
      omega)
    clear hr hg hv
    by_cases hlt : k < n
    · have hki : (k : Int) < n := by omega
      have HK := Lib.hid hlt
      have HPA := Lib.hid (rpass_at HR.out HB.out.1 f k)
      have HE1 : Hid ((sendL f L K (k + 1)).2.2 = (sendL f L K k).2.2 + cnt (pB f k) (sendL f L K k).1) := Lib.hid rfl
      have HE2 : Hid ((sendL f L K (k + 1)).1 = passR f k (sendL f L K k).1 (sendL f L K k).2.1 ∧ (sendL f L K (k + 1)).2.1 = (sendL f L K k).2.1 + cnt (pB f k) (sendL f L K k).1) := Lib.hid ⟨rfl, rfl⟩
      have HC := Lib.hid (cntL (pB f k) (sendL f L K k).1)
      generalize (sendL f L K k).1 = M at *
      generalize (sendL f L K k).2.1 = K1 at *
      generalize (sendL f L K k).2.2 = m at *
      generalize cnt (pB f k) M = c at *
      have h5 : (m : Int) ≤ 500 := by have := HB.out.2; omega
      have h6 : (c : Int) ≤ 1000 := by have := HB.out.1; have := HC.out; omega
      clear hlt hk
      go_wp2_with fail
      refine HPA.out.mono ?_
      rintro e w6 ⟨rfl, hto⟩
      have HTO := Lib.hid (RmTo.trans HG.out.1 HG.out.2 hto)
      clear hto
      go_wp2
      go_roundw
      case rel => exact ⟨k + 1, HK.out, by go_num, by rw [HE1.out]; go_num, by rw [HE2.out.1, HE2.out.2]; exact HTO.out⟩
      case measure => have := HK.out; simp [intOf]; omega
    · have hki : ¬ (k : Int) < n := by omega
      have hkn : k = n := by omega
      have HX : Hid ((sendL f L K k).2.2 = (sendL f L K n).2.2 ∧ RmTo w wr p n b v (sendL f L K n).1 (sendL f L K n).2.1) := Lib.hid (by
        have e : sendL f L K n = sendL f L K k := by rw [hkn]
        rw [e]
        exact ⟨rfl, v1, HR.out, HG.out.1, HG.out.2⟩)
      clear hlt hk hkn
      go_wp2
      go_ret
      exact ⟨by rw [HX.out.1]; rfl, HX.out.2⟩
end Go.Proofs.Ytldpljfanlhooaa
