/- The law's Same. -/
import Derived.Test.YtldpljfanlhooaaNg
import Derived.BigQuiet
namespace Go.Proofs.Ytldpljfanlhooaa
open Go.RowKit
open Is

set_option maxRecDepth 100000 in
set_option maxHeartbeats 8000000 in
theorem same12_at {w w0 : World} {A : Mb} {p j k : Nat} {v : Value} {L : List It} {K : Nat} {C : Nat → List Int} {H : Int → Int → List Int} {X : Option Nat} (h : PSt w w0 A p j k v L K C H X) (hj : j ≤ 60) :
    Calls Try.prog 28 #[.pointer (some ⟨A.p, 0, none⟩), .pointer (some ⟨p, 0, none⟩)] w0 fun e w' => e = .returned (.bool true) ∧ w0.grownBy w' none := by
  have HS := Lib.hid h
  have HT := Lib.hid (fun d => thr_k (h.ml.grown (grown_drew (grown_refl w0 none) d)))
  have c0 := h.rm.c0
  have hn64 := h.rm.n64
  have hni : (A.n : Int) ≤ 64 := by omega
  have HN := Lib.hid hn64
  have HL : Hid (L.length ≤ 61 ∧ K ≤ 61) := Lib.hid ⟨by have := h.lj; omega, by have := h.cj; omega⟩
  have hbb : ((A.n : Int) != (A.n : Int)) = false := by simp
  clear h hj hn64
  go_enter Try.func28, Try.ntmps28
  go_upto_region 1 with (fail)
  go_quiet ((go_at_call 33; (with_reducible exact quiet_left (HT.out _))))
  rename Nat => nq
  have HG1 := Lib.hid (grown_drew (grown_refl w0 none) nq)
  obtain ⟨w2, hw2⟩ : ∃ w2 : World, w2 = w0.drewN nq := ⟨_, rfl⟩
  rw [← hw2] at HG1
  rw [← hw2]
  clear hw2 HT c0
  go_wp2_with fail
  go_loopw [5] (fun i W => ∃ q : Nat, i = .int .i64 ((q : Int) - 1) ∧ q ≤ A.n + 2 ∧ w0.grownBy W none) (fun i _ => A.n + 2 - (intOf i + 1).toNat)
  case atStart => exact ⟨0, rfl, by omega, HG1.out⟩
  case round =>
    obtain ⟨q, rfl, hq, hg⟩ := hrel
    have HG := Lib.hid hg
    have c0 := hg.cell HS.out.rm.c0 (by simp)
    clear hg
    obtain ⟨t, ht⟩ : ∃ t : Int, (q : Int) - 1 = t := ⟨_, rfl⟩
    rw [ht]
    have HTQ := Lib.hid ht
    by_cases hlt : q < A.n + 2
    · have hd : decide (t ≤ (A.n : Int)) = true := decide_eq_true (by omega)
      have ht1 : -1 ≤ t := by omega
      have ht2 : t ≤ 64 := by have := HN.out; omega
      have HWF : Hid (WF t) := Lib.hid ⟨by omega, by omega⟩
      have HQ := Lib.hid hlt
      obtain ⟨z1, hz1⟩ : ∃ z : Nat, waitsV A.n C t = z := ⟨_, rfl⟩
      obtain ⟨z2, hz2⟩ : ∃ z : Nat, heldN H t A.n = z := ⟨_, rfl⟩
      have HW1 : Hid (∀ W, w0.grownBy W none → Calls Try.prog 31 #[.pointer (some ⟨A.p, 0, none⟩), .int .i64 t] W fun e w' => e = .returned (.int .i64 z1) ∧ W = w') := Lib.hid (fun W g => by rw [← hz1]; exact waits_k (HS.out.ml.grown g) t)
      have HW2 : Hid (∀ W, w0.grownBy W none → Calls Try.prog 41 #[.pointer (some ⟨p, 0, none⟩), .int .i64 t] W fun e w' => e = .returned (.int .i64 z1) ∧ W.grownBy w' none) := Lib.hid (fun W g => by rw [← hz1, ← HS.out.br.waits]; exact rwaits_at (HS.out.rm.grown g) t)
      have HH1 : Hid (∀ W, w0.grownBy W none → Calls Try.prog 32 #[.pointer (some ⟨A.p, 0, none⟩), .int .i64 t] W fun e w' => e = .returned (.int .i64 z2) ∧ W = w') := Lib.hid (fun W g => by rw [← hz2]; exact held_k (HS.out.ml.grown g) HWF.out)
      have HH2 : Hid (∀ W, w0.grownBy W none → Calls Try.prog 38 #[.pointer (some ⟨p, 0, none⟩), .int .i64 t, .int .i64 (-1)] W fun e w' => e = .returned (.int .i64 z2) ∧ W.grownBy w' none) := Lib.hid (fun W g => by rw [← hz2, ← HS.out.br.held]; exact rheld_at (HS.out.rm.grown g) t (-1))
      have b1 : ((z1 : Int) != z1) = false := by simp
      have b2 : ((z2 : Int) != z2) = false := by simp
      clear hz1 hz2 hlt hq ht
      go_wp2_with fail
      refine (HW1.out _ HG.out).mono ?_
      rintro e w3 ⟨rfl, rfl⟩
      go_wp2_with fail
      refine (HW2.out _ HG.out).mono ?_
      rintro e w3 ⟨rfl, hg⟩
      have HG3 := Lib.hid (grown_trans HG.out hg)
      clear hg
      go_wp2_with fail
      refine (HH1.out _ HG3.out).mono ?_
      rintro e w4 ⟨rfl, rfl⟩
      go_wp2_with fail
      refine (HH2.out _ HG3.out).mono ?_
      rintro e w4 ⟨rfl, hg⟩
      have HG4 := Lib.hid (grown_trans HG3.out hg)
      clear hg c0
      go_wp2
      go_roundw
      case rel => exact ⟨q + 1, vint (by have := HTQ.out; omega), by have := HQ.out; omega, HG4.out⟩
      case measure => have := HQ.out; have := HTQ.out; simp [intOf]; omega
    · have hd : decide (t ≤ (A.n : Int)) = false := decide_eq_false (by omega)
      have HA := Lib.hid (all_k (HS.out.ml.grown HG.out))
      have HBA := Lib.hid (HS.out.br.all A.n)
      clear hlt hq ht
      go_wp2_with fail
      refine HA.out.mono ?_
      rintro e w3 ⟨v1, rfl, ho, hg⟩
      have HG3 := Lib.hid (grown_trans HG.out hg)
      have HO1 := Lib.hid ho.rd
      obtain ⟨Av, cv, rfl, -, -⟩ := ho.rd.shape
      clear ho hg HA c0
      go_wp2_with fail
      refine (rall_at (HS.out.rm.grown HG3.out) HL.out.1 HL.out.2).mono ?_
      rintro e w4 ⟨v2, rfl, ho, hg⟩
      have HG4 := Lib.hid (grown_trans HG3.out hg)
      have HO3 := Lib.hid (HO1.out.grown hg)
      rw [HBA.out] at ho
      have HO2 := Lib.hid ho.rd
      obtain ⟨Aw, cw, rfl, -, -⟩ := ho.rd.shape
      have HLEN : Hid ((allL A.n C H A.n).length ≤ 488000) := Lib.hid (by rw [← HBA.out]; have := allR_len HL.out.1 HL.out.2 HN.out A.n; have := HN.out; omega)
      clear ho hg HO1 HBA
      generalize allL A.n C H A.n = l at *
      have hll : (l.length : Int) ≤ 488000 := by have := HLEN.out; omega
      have hb3 : ((l.length : Int) != (l.length : Int)) = false := by simp
      go_wp2_with fail
      go_loopw [51] (fun i W => ∃ q : Nat, i = .int .i64 q ∧ q ≤ l.length ∧ w4.grownBy W none) (fun i _ => l.length - (intOf i).toNat)
      case atStart => exact ⟨0, rfl, by omega, grown_refl _ _⟩
      case round =>
        obtain ⟨i, rfl, hi, hg⟩ := hrel
        have HG5 := Lib.hid hg
        clear hg
        by_cases hlt : i < l.length
        · have hii : (i : Int) < l.length := by omega
          have HI := Lib.hid hlt
          obtain ⟨A1, c1, e1, -, h1⟩ := (HO3.out.grown HG5.out).shape
          obtain ⟨g1, o1, rfl, -, -, k1⟩ := h1.resolve_left (by omega)
          injection e1 with e1 e2 e3
          subst e1
          obtain ⟨A2, c2, e1, -, h2⟩ := (HO2.out.grown HG5.out).shape
          obtain ⟨g2, o2, rfl, -, -, k2⟩ := h2.resolve_left (by omega)
          injection e1 with e1 e4 e5
          subst e1
          have d1 := k1 i hlt
          have d2 := k2 i hlt
          generalize l[i] = y at *
          have hyy : (y != y) = false := by simp
          clear h1 k1 h2 k2 hlt hi
          go_upto_region 14 with (fail)
          go_quiet (fail)
          rename Nat => n2
          go_wp2_with fail
          go_roundw
          case rel => exact ⟨i + 1, by go_num, HI.out, grown_drew HG5.out n2⟩
          case measure => have := HI.out; simp [intOf]; omega
        · have hii : ¬ (i : Int) < l.length := by omega
          clear hlt hi
          go_wp2
          go_ret
          exact ⟨rfl, grown_trans HG4.out HG5.out⟩
theorem ps_same {w wr : World} {A : Mb} {p j : Nat} (h : PS w wr A p j none) (hj : j ≤ 60) :
    Calls Try.prog 28 #[.pointer (some ⟨A.p, 0, none⟩), .pointer (some ⟨p, 0, none⟩)] wr fun e w' => e = .returned (.bool true) ∧ wr.grownBy w' none := by
  obtain ⟨k, v, L, K, C, H, h⟩ := h
  exact same12_at h hj
end Go.Proofs.Ytldpljfanlhooaa
