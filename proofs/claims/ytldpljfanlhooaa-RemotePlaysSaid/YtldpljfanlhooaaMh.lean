/- The walk of RemoteCounts. -/
import Derived.Test.YtldpljfanlhooaaMg
import Derived.Test.YtldpljfanlhooaaAs
import Derived.Deep.CutBlock
namespace Go.Proofs.Ytldpljfanlhooaa
open Go.RowKit
open Is

/-- How the law stands behind some calls: P were posted, T taken. -/
def Cnt (w wr : World) (A : Mb) (j : Nat) (P T : Nat) : Prop := ∃ k C H, k ≤ j ∧ P ≤ j ∧ tot A.n C H + T = P ∧ MlK (fun i => i < w.heap.size) wr A k C H ∧ FrN (fun i => i < w.heap.size) w wr
theorem Cnt.grown {w wr w' : World} {A : Mb} {j P T : Nat} (h : Cnt w wr A j P T) (g : wr.grownBy w' none) : Cnt w w' A j P T := by
  obtain ⟨k, C, H, h1, h2, h3, h4, h5⟩ := h
  exact ⟨k, C, H, h1, h2, h3, h4.grown g, h5.trans (frN_grown g (fun i hi => ⟨h4.nlt i hi, by simp⟩))⟩
theorem Cnt.le {w wr : World} {A : Mb} {j P T : Nat} (h : Cnt w wr A j P T) : Cnt w wr A (j + 1) P T := by
  obtain ⟨k, C, H, h1, h2, h3⟩ := h
  exact ⟨k, C, H, by omega, by omega, h3⟩
theorem Cnt.to {w wr : World} {A : Mb} {j j' P T : Nat} (h : Cnt w wr A j P T) (hj : j ≤ j') : Cnt w wr A j' P T := by
  obtain ⟨k, C, H, h1, h2, h3⟩ := h
  exact ⟨k, C, H, by omega, by omega, h3⟩
theorem sumN_le {g : Nat → Nat} : ∀ {n k : Nat}, k ≤ n → sumN g k ≤ sumN g n
  | 0, k, h => by rw [show k = 0 by omega]; exact Nat.le_refl _
  | n + 1, k, h => by
    by_cases e : k = n + 1
    · rw [e]; exact Nat.le_refl _
    · have := sumN_le (g := g) (n := n) (k := k) (by omega)
      simp only [sumN]
      omega
theorem Cnt.fr {w wr : World} {A : Mb} {j P T : Nat} (h : Cnt w wr A j P T) : FrN (fun i => i < w.heap.size) w wr := by obtain ⟨k, C, H, _, _, _, _, h5⟩ := h; exact h5
theorem Cnt.bd {w wr : World} {A : Mb} {j P T : Nat} (h : Cnt w wr A j P T) : P ≤ j ∧ T ≤ P := by obtain ⟨k, C, H, h1, h2, h3, _⟩ := h; omega
theorem cnt_post {w wr : World} {A : Mb} {j P T : Nat} (h : Cnt w wr A j P T) (hj : j < 60) {f t : Int} (hf : WF f) (ht : WF t) (a : Int) :
    Calls Try.prog 22 #[.pointer (some ⟨A.p, 0, none⟩), .int .i64 f, .int .i64 t, .int .i64 a] wr fun e w' =>
      (e = .returned (.int .i64 0) ∧ Cnt w w' A (j + 1) (P + 1) T) ∨ (e = .returned (.int .i64 1) ∧ Cnt w w' A (j + 1) P T) := by
  obtain ⟨k, C, H, h1, h2, h3, h4, h5⟩ := h
  refine (post_k h4 (by omega) hf ht a).mono ?_
  rintro e w' ⟨he, hm, hfr⟩
  cases hok : okB A.n f t with
  | true =>
    rw [hok] at he hm
    exact .inl ⟨he, k + 1, _, _, by omega, by omega, by have := tot_post (b := A.b) hok C H a; simp only [if_true]; omega, hm, h5.trans hfr⟩
  | false =>
    rw [hok] at he hm
    exact .inr ⟨he, k + 1, _, _, by omega, by omega, h3, hm, h5.trans hfr⟩
theorem cnt_send {w wr : World} {A : Mb} {j P T : Nat} (h : Cnt w wr A j P T) (hj : j < 60) {f : Int} (hf : WF f) :
    Calls Try.prog 24 #[.pointer (some ⟨A.p, 0, none⟩), .int .i64 f] wr fun e w' => (∃ z, e = .returned (.int .i64 z)) ∧ Cnt w w' A (j + 1) P T := by
  obtain ⟨k, C, H, h1, h2, h3, h4, h5⟩ := h
  refine (send_k h4 (by omega) hf).mono ?_
  rintro e w' ⟨he, hm, hfr⟩
  exact ⟨⟨_, he⟩, k + 1, _, _, by omega, by omega, by rw [tot_send C h4.2.1 A.n (Nat.le_refl _)]; exact h3, hm, h5.trans hfr⟩
theorem cnt_next {w wr : World} {A : Mb} {j P T : Nat} (h : Cnt w wr A j P T) (t : Int) :
    Calls Try.prog 26 #[.pointer (some ⟨A.p, 0, none⟩), .int .i64 t] wr fun e w' =>
      (∃ x, e = .returned (.tuple #[.int .i64 x, .bool true]) ∧ Cnt w w' A (j + 1) P (T + 1)) ∨ (e = .returned (.tuple #[.int .i64 0, .bool false]) ∧ Cnt w w' A (j + 1) P T) := by
  obtain ⟨k, C, H, h1, h2, h3, h4, h5⟩ := h
  refine (next_k h4 t).mono ?_
  rintro e w' ⟨he, hm, hfr⟩
  cases hv : nextV A.n C t with
  | none =>
    rw [hv] at he
    have hc : nextC A.n C t = C := by
      unfold nextV at hv
      unfold nextC
      split
      · rename_i h1
        rw [if_pos h1] at hv
        have : C t.toNat = [] := by simpa using hv
        rw [this]
        funext i
        by_cases hi : i = t.toNat
        · subst hi; rw [up_same, this]; rfl
        · rw [up_other _ _ hi]
      · rfl
    rw [hc] at hm
    exact .inr ⟨he, k, _, _, by omega, by omega, h3, hm, h5.trans hfr⟩
  | some x =>
    rw [hv] at he
    refine .inl ⟨x, he, k, _, _, by omega, by omega, ?_, hm, h5.trans hfr⟩
    unfold nextV at hv
    split at hv
    · rename_i h1
      obtain ⟨xs, hc⟩ : ∃ xs, C t.toNat = x :: xs := by
        cases hc : C t.toNat with
        | nil => rw [hc] at hv; cases hv
        | cons y ys => rw [hc] at hv; injection hv with hv; exact ⟨ys, by rw [hv]⟩
      have ht := (inB_iff _ _).1 h1
      have := tot_next (n := A.n) (t := t.toNat) (by omega) hc H
      unfold nextC
      rw [if_pos h1, hc]
      show tot A.n (up C t.toNat xs) H + (T + 1) = P
      omega
    · cases hv
set_option maxRecDepth 100000 in
set_option maxHeartbeats 8000000 in
theorem remoteCounts_walk (k0 : Nat) (hk0 : k0 < 256) (b0 : Int) (A0 : Option Addr) (len cap : Nat) (O : Nat → Cl12) (w : World) (hlen : len ≤ 9223372036854775807) (hO : Calls12 w A0 len O) :
    Calls Try.prog 9 #[.int .u8 k0, .int .i64 b0, .slice A0 len cap] w fun e w' => e = .returned (.bool true) ∧ w.grownBy w' none := by
  have HO := Lib.hid hO
  have hli : (len : Int) ≤ 9223372036854775807 := by omega
  have HLI := Lib.hid hlen
  obtain ⟨m, hm⟩ : ∃ m : Nat, k0 % 6 = m := ⟨_, rfl⟩
  have hm6 : m < 6 := by omega
  have e1 : ((k0 : Nat) : Int) % 6 = (m : Int) := by omega
  have hki0 : (0 : Int) ≤ k0 ∧ (k0 : Int) ≤ 255 := by omega
  have HNW := Lib.hid (fun W => new_k m b0 W)
  have htv : thrV (m : Int) = m := by unfold thrV; rw [if_neg (by omega), if_neg (by omega), Int.toNat_natCast]
  rw [htv] at HNW
  obtain ⟨hk1, hk2⟩ := hki0
  generalize ((k0 : Nat) : Int) = kk0 at *
  have HM6 := Lib.hid hm6
  clear hO hlen hm htv hk0 hm6
  go_enter Try.func9, Try.ntmps9
  go_wp2_with fail
  refine (HNW.out w).mono ?_
  rintro e w1 ⟨A, rfl, hn, -, hml, hg⟩
  have HC0 : Hid (Cnt w w1 A 0 0 0) := Lib.hid ⟨0, _, _, by omega, by omega, by
    have h0 : ∀ (g : Nat → Nat) n, (∀ i, g i = 0) → sumN g n = 0 := fun g n hg => by
      induction n with
      | zero => rfl
      | succ n ih => simp only [sumN]; rw [ih, hg]
    unfold tot
    rw [h0 _ _ (fun i => by simp only [List.length_nil]; rw [h0 _ _ (fun _ => rfl)])], hml, frN_grown hg (fun i hi => ⟨hi, by simp⟩)⟩
  have HAN : Hid (A.n = m) := Lib.hid hn
  clear hml hg hn HNW
  go_upto_block 0 with (fail)
  go_cut [9, 10] from 11 to 66 (fun s9 s10 W => ∃ P T : Nat, s9 = .int .i64 P ∧ s10 = .int .i64 T ∧ Cnt w W A 60 P T)
  case first =>
    go_wp2_with fail
    go_loopw [9, 10, 25] (fun p t i wr => ∃ j P T : Nat, j ≤ len ∧ j ≤ 60 ∧ i = .int .i64 j ∧ p = .int .i64 P ∧ t = .int .i64 T ∧ Cnt w wr A j P T) (fun _ _ i _ => len - (intOf i).toNat)
    case atStart => exact ⟨0, 0, 0, by omega, by omega, rfl, rfl, rfl, HC0.out⟩
    case round =>
      obtain ⟨j, P, T, hj, hj60, rfl, rfl, rfl, hc⟩ := hrel
      have HC := Lib.hid hc
      clear hc HC0
      by_cases hlt : j < len
      · have hji : (j : Int) < len := by omega
        obtain ⟨c, off, rfl, hcb, hcc⟩ := HO.out.resolve_left (by omega)
        obtain ⟨ck, cf, ct, ca, wf, wt⟩ := hcc j hlt
        replace ck := HC.out.fr.cell ck hcb
        replace cf := HC.out.fr.cell cf hcb
        replace ct := HC.out.fr.cell ct hcb
        replace ca := HC.out.fr.cell ca hcb
        obtain ⟨⟨kk, f, t, a⟩, he⟩ : ∃ t : Cl12, O j = t := ⟨_, rfl⟩
        rw [he] at ck cf ct ca wf wt
        have HWF : Hid (WF f ∧ WF t) := Lib.hid ⟨wf, wt⟩
        have HJ : Hid (j < len ∧ j ≤ 60) := Lib.hid ⟨hlt, hj60⟩
        simp only [] at ck cf ct ca
        have hb := HC.out.bd
        have hP : (P : Int) ≤ 60 := by omega
        have hT : (T : Int) ≤ 60 := by omega
        have HC1 : Hid (Cnt w (wr.alloc (.cells #[.int .i64 kk, .int .i64 f, .int .i64 t, .int .i64 a] 47)) A j P T) := Lib.hid (HC.out.grown (grown_alloc _ _ _))
        have x0 : (wr.alloc (.cells #[.int .i64 kk, .int .i64 f, .int .i64 t, .int .i64 a] 47)).cell? ⟨wr.heap.size, 0, none⟩ = some (.int .i64 kk) := by rw [cell_alloc_new]; rfl
        have x1 : (wr.alloc (.cells #[.int .i64 kk, .int .i64 f, .int .i64 t, .int .i64 a] 47)).cell? ⟨wr.heap.size, 1, none⟩ = some (.int .i64 f) := by rw [cell_alloc_new]; rfl
        have x2 : (wr.alloc (.cells #[.int .i64 kk, .int .i64 f, .int .i64 t, .int .i64 a] 47)).cell? ⟨wr.heap.size, 2, none⟩ = some (.int .i64 t) := by rw [cell_alloc_new]; rfl
        have x3 : (wr.alloc (.cells #[.int .i64 kk, .int .i64 f, .int .i64 t, .int .i64 a] 47)).cell? ⟨wr.heap.size, 3, none⟩ = some (.int .i64 a) := by rw [cell_alloc_new]; rfl
        clear hcc hcb he wf wt hb hlt hj hj60
        by_cases h60 : j < 60
        · have hd : decide ((j : Int) ≥ 60) = false := decide_eq_false (by omega)
          have hd' : decide ((60 : Int) ≤ j) = false := decide_eq_false (by omega)
          have H60 := Lib.hid h60
          clear h60
          go_upto_region 8 with (fail)
          generalize wr.alloc (.cells #[.int .i64 kk, .int .i64 f, .int .i64 t, .int .i64 a] 47) = w2 at *
          generalize wr.heap.size = x at *
          clear ck cf ct ca HC
          rcases (by omega : (kk = 0 ∨ kk = 1 ∨ kk = 2 ∨ kk = 3) ∨ kk = 4 ∨ (kk ≠ 0 ∧ kk ≠ 1 ∧ kk ≠ 2 ∧ kk ≠ 3 ∧ kk ≠ 4)) with hkk | rfl | ⟨n0, n1, n2, n3, n4⟩
          · have HPO := Lib.hid (cnt_post HC1.out H60.out HWF.out.1 HWF.out.2 a)
            rcases hkk with rfl | rfl | rfl | rfl
            all_goals
              go_wp2_with fail
              refine HPO.out.mono ?_
              rintro e w3 (⟨rfl, hc⟩ | ⟨rfl, hc⟩)
              · have HC3 := Lib.hid hc
                clear hc HPO HC1
                go_wp2
                go_roundw
                case rel => exact ⟨j + 1, P + 1, T, by have := HJ.out; omega, by have := H60.out; omega, by go_num, by go_num, rfl, HC3.out⟩
                case measure => have := HJ.out; simp [intOf]; omega
              · have HC3 := Lib.hid hc
                clear hc HPO HC1
                go_wp2
                go_roundw
                case rel => exact ⟨j + 1, P, T, by have := HJ.out; omega, by have := H60.out; omega, by go_num, rfl, rfl, HC3.out⟩
                case measure => have := HJ.out; simp [intOf]; omega
          · have HSE := Lib.hid (cnt_send HC1.out H60.out HWF.out.1)
            go_wp2_with fail
            refine HSE.out.mono ?_
            rintro e w3 ⟨⟨z, rfl⟩, hc⟩
            have HC3 := Lib.hid hc
            clear hc HSE HC1
            go_wp2
            go_roundw
            case rel => exact ⟨j + 1, P, T, by have := HJ.out; omega, by have := H60.out; omega, by go_num, rfl, rfl, HC3.out⟩
            case measure => have := HJ.out; simp [intOf]; omega
          · have e0 : (kk == 0) = false := by simpa using n0
            have e1 : (kk == 1) = false := by simpa using n1
            have e2 : (kk == 2) = false := by simpa using n2
            have e3 : (kk == 3) = false := by simpa using n3
            have e4 : (kk == 4) = false := by simpa using n4
            have HNX := Lib.hid (cnt_next HC1.out t)
            clear n0 n1 n2 n3 n4
            go_wp2_with fail
            refine HNX.out.mono ?_
            rintro e w3 (⟨y, rfl, hc⟩ | ⟨rfl, hc⟩)
            · have HC3 := Lib.hid hc
              clear hc HNX HC1
              go_wp2
              go_roundw
              case rel => exact ⟨j + 1, P, T + 1, by have := HJ.out; omega, by have := H60.out; omega, by go_num, rfl, by go_num, HC3.out⟩
              case measure => have := HJ.out; simp [intOf]; omega
            · have HC3 := Lib.hid hc
              clear hc HNX HC1
              go_wp2
              go_roundw
              case rel => exact ⟨j + 1, P, T, by have := HJ.out; omega, by have := H60.out; omega, by go_num, rfl, rfl, HC3.out⟩
              case measure => have := HJ.out; simp [intOf]; omega
        · have hd : decide ((j : Int) ≥ 60) = true := decide_eq_true (by omega)
          have hd' : decide ((60 : Int) ≤ j) = true := decide_eq_true (by omega)
          have HC6 := Lib.hid (HC1.out.to HJ.out.2)
          clear h60 x0 x1 x2 x3 HC
          go_wp2
          go_meet
          exact ⟨P, T, rfl, rfl, HC6.out⟩
      · have hji : ¬ (j : Int) < len := by omega
        have HC6 := Lib.hid (HC.out.to hj60)
        clear hlt hj hj60 HC
        go_wp2
        go_meet
        exact ⟨P, T, rfl, rfl, HC6.out⟩
  case rest =>
    obtain ⟨P, T, rfl, rfl, hc⟩ := hcut
    have HC := Lib.hid hc
    obtain ⟨k, C, H, h1, h2, h3, hml, hfr⟩ := hc
    have HML := Lib.hid hml
    have HFR := Lib.hid hfr
    have HT : Hid (tot A.n C H + T = P ∧ P ≤ 60) := Lib.hid ⟨h3, by omega⟩
    have hP : (P : Int) ≤ 60 := by omega
    have hT : (T : Int) ≤ 60 := by omega
    clear h1 h2 h3 hml hfr HC0 HC
    obtain ⟨w2, rfl⟩ : ∃ w2 : World, w2 = wc := ⟨_, rfl⟩
    go_wp2_with fail
    go_loop [15, 16] (fun s i => ∃ q : Nat, q ≤ m ∧ i = .int .i64 q ∧ s = .int .i64 (sumN (fun t => (C t).length + sumN (fun j => (H t j).length) A.n) q : Nat)) (fun _ i => m - (intOf i).toNat)
    case atStart => exact ⟨0, by omega, rfl, rfl⟩
    case round =>
      obtain ⟨q, hq, rfl, rfl⟩ := hrel
      by_cases hlt : q < m
      · have hqi : (q : Int) < m := by omega
        have HQ : Hid (q < m ∧ m < 6) := Lib.hid ⟨hlt, HM6.out⟩
        have HWA := Lib.hid (waits_k HML.out (q : Int))
        have HHE := Lib.hid (held_k HML.out (t := (q : Int)) ⟨by omega, by have := HM6.out; omega⟩)
        have hwv : waitsV A.n C (q : Int) = (C q).length := by
          unfold waitsV
          rw [if_pos ((inB_iff _ _).2 ⟨by omega, by have := HAN.out; omega⟩), Int.toNat_natCast]
        rw [hwv] at HWA
        rw [heldN_sum] at HHE
        have HE : Hid (sumN (fun t => (C t).length + sumN (fun j => (H t j).length) A.n) (q + 1) = sumN (fun t => (C t).length + sumN (fun j => (H t j).length) A.n) q + ((C q).length + sumN (fun j => (H q j).length) A.n)) := Lib.hid rfl
        have hle := sumN_le (g := fun t => (C t).length + sumN (fun j => (H t j).length) A.n) (n := A.n) (k := q + 1) (by have := HAN.out; omega)
        rw [HE.out] at hle
        have ht2 : sumN (fun t => (C t).length + sumN (fun j => (H t j).length) A.n) A.n = tot A.n C H := rfl
        rw [ht2] at hle
        have ht3 := HT.out
        generalize sumN (fun t => (C t).length + sumN (fun j => (H t j).length) A.n) q = s at *
        generalize sumN (fun j => (H q j).length) A.n = hs at *
        generalize (C q).length = cs at *
        have b1 : (s : Int) ≤ 60 := by omega
        have b2 : (hs : Int) ≤ 60 := by omega
        have b3 : (cs : Int) ≤ 60 := by omega
        clear hle ht2 ht3 hwv hlt hq
        go_wp2_with fail
        refine HWA.out.mono ?_
        rintro e w' ⟨rfl, rfl⟩
        go_wp2_with fail
        refine HHE.out.mono ?_
        rintro e w' ⟨rfl, rfl⟩
        clear HWA HHE
        go_wp2
        go_round
        case rel => exact ⟨q + 1, by have := HQ.out; omega, by go_num, by rw [HE.out]; go_num⟩
        case measure => have := HQ.out; simp [intOf]; omega
      · have hqm : q = m := by omega
        have hqi : ¬ (q : Int) < m := by omega
        have ht2 : sumN (fun t => (C t).length + sumN (fun j => (H t j).length) A.n) q = tot A.n C H := by rw [hqm, ← HAN.out]; rfl
        rw [ht2]
        have HAL := Lib.hid (all_k HML.out)
        have hlen : (allL A.n C H A.n).length = tot A.n C H := allL_tot _ _ _
        have ht3 := HT.out
        have hsub : IntKind.i64.wrap ((P : Int) - T) = ((tot A.n C H : Nat) : Int) := by rw [IntKind.wrap_i64]; omega
        have hbb : (((tot A.n C H : Nat) : Int) == ((tot A.n C H : Nat) : Int)) = true := by simp
        generalize tot A.n C H = tt at *
        clear ht2 ht3 hqm hlt hq
        go_wp2_with fail
        refine HAL.out.mono ?_
        rintro e w3 ⟨v, rfl, ho, hg⟩
        obtain ⟨Av, capv, rfl, -, -⟩ := ho.rd.shape
        have HF3 : Hid (FrN (fun i => i < w.heap.size) w w3) := Lib.hid (HFR.out.trans (frN_grown hg (fun i hi => ⟨HML.out.nlt i hi, by simp⟩)))
        rw [hlen]
        clear ho hg hlen HAL
        go_wp2_with fail
        refine (awake12_at w3).mono ?_
        rintro e w4 ⟨rfl, hg⟩
        have HF4 : Hid (FrN (fun i => i < w.heap.size) w w4) := Lib.hid (HF3.out.trans (frN_grown hg (fun i hi => ⟨Nat.lt_of_lt_of_le hi HF3.out.size, by simp⟩)))
        clear hg
        go_wp2
        go_ret
        exact ⟨rfl, grown_of_below (HF4.out.below (fun i hi => hi))⟩
end Go.Proofs.Ytldpljfanlhooaa
