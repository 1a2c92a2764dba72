/- The walk of RemotePlays. -/
import Derived.Test.YtldpljfanlhooaaNh
import Derived.Test.YtldpljfanlhooaaAs
import Derived.Deep.CutBlock
namespace Go.Proofs.Ytldpljfanlhooaa
open Go.RowKit
open Is

/-- The number of threads that the law takes. -/
def thr6 (a : Int) : Int := if a > 6 ∧ a < 64 then 6 else a
set_option maxRecDepth 100000 in
set_option maxHeartbeats 16000000 in
theorem remotePlays_walk (a0 b0 : Int) (A0 : Option Addr) (len cap : Nat) (O : Nat → Cl12) (w : World) (hlen : len ≤ 9223372036854775807) (hO : Calls12 w A0 len O) :
    Calls Try.prog 6 #[.int .i64 a0, .int .i64 b0, .slice A0 len cap] w fun e w' => e = .returned (.bool true) ∧ w.grownBy w' none := by
  have HO := Lib.hid hO
  have hli : (len : Int) ≤ 9223372036854775807 := by omega
  have HLI := Lib.hid hlen
  have HNW := Lib.hid (fun W => ps_new (thr6 a0) b0 W)
  clear hO hlen
  go_enter Try.func6, Try.ntmps6
  go_upto_region 1 with (fail)
  go_cut [20] from 15 to 20 (fun s W => s = .bool (decide (6 < a0 ∧ a0 < 64)) ∧ W = w)
  case first =>
    by_cases h1 : 6 < a0
    · have b1 : decide (a0 > 6) = true := decide_eq_true h1
      have b1' : decide (6 < a0) = true := decide_eq_true h1
      by_cases h2 : a0 < 64
      · have b2 : decide (a0 < 64) = true := decide_eq_true h2
        have HE : Hid (decide (6 < a0 ∧ a0 < 64) = true) := Lib.hid (decide_eq_true ⟨h1, h2⟩)
        clear h1 h2
        go_wp2
        go_meet
        exact ⟨by rw [HE.out], rfl⟩
      · have b2 : decide (a0 < 64) = false := decide_eq_false h2
        have HE : Hid (decide (6 < a0 ∧ a0 < 64) = false) := Lib.hid (decide_eq_false (fun h => h2 h.2))
        clear h1 h2
        go_wp2
        go_meet
        exact ⟨by rw [HE.out], rfl⟩
    · have b1 : decide (a0 > 6) = false := decide_eq_false h1
      have b1' : decide (6 < a0) = false := decide_eq_false h1
      have HE : Hid (decide (6 < a0 ∧ a0 < 64) = false) := Lib.hid (decide_eq_false (fun h => h1 h.1))
      clear h1
      go_wp2
      go_meet
      exact ⟨by rw [HE.out], rfl⟩
  case rest =>
    obtain ⟨rfl, hw0⟩ := hcut
    obtain rfl := hw0.symm
    clear hw0
    have HB : Hid (decide (6 < a0 ∧ a0 < 64) = true → thr6 a0 = 6) := Lib.hid (fun h => if_pos (of_decide_eq_true h))
    have HB' : Hid (decide (6 < a0 ∧ a0 < 64) = false → thr6 a0 = a0) := Lib.hid (fun h => if_neg (of_decide_eq_false h))
    generalize decide (6 < a0 ∧ a0 < 64) = bb at *
    go_upto_if 20 with (fail)
    go_cut [0] (fun s W => s = .int .i64 (thr6 a0) ∧ W = w)
    case first =>
      cases bb with
      | true =>
        go_wp2
        go_meet
        exact ⟨by rw [HB.out trivial], rfl⟩
      | false =>
        go_wp2
        go_meet
        exact ⟨by rw [HB'.out trivial], rfl⟩
    case rest =>
    obtain ⟨rfl, hw0⟩ := hcut
    obtain rfl := hw0.symm
    clear hw0 HB HB'
    generalize thr6 a0 = k0 at *
    go_wp2_with fail
    refine (HNW.out w).mono ?_
    rintro e w1 ⟨A, rfl, hnew⟩
    go_wp2_with fail
    refine hnew.mono ?_
    rintro e w2 ⟨p, rfl, hps⟩
    have HC0 := Lib.hid hps
    clear hps hnew HNW
    go_upto_block 0 with (fail)
    go_cut [] from 9 to 97 (fun W => PS w W A p 60 none)
    case first =>
      go_wp2_with fail
      go_loopw [29] (fun i wr => ∃ j : Nat, j ≤ len ∧ j ≤ 60 ∧ i = .int .i64 j ∧ PS w wr A p j none) (fun i _ => len - (intOf i).toNat)
      case atStart => exact ⟨0, by omega, by omega, rfl, HC0.out⟩
      case round =>
        obtain ⟨j, hj, hj60, rfl, hc⟩ := hrel
        have HC := Lib.hid hc
        clear hc HC0
        by_cases hlt : j < len
        · have hji : (j : Int) < len := by omega
          obtain ⟨c, off, rfl, hcb, hcc⟩ := HO.out.resolve_left (by omega)
          obtain ⟨ck, cf, ct, ca, wf, wt⟩ := hcc j hlt
          replace ck := HC.out.fr.cell ck hcb
          replace cf := HC.out.fr.cell cf hcb
          replace ct := HC.out.fr.cell ct hcb
          replace ca := HC.out.fr.cell ca hcb
          obtain ⟨⟨kk, f, t, a⟩, he⟩ : ∃ t : Cl12, O j = t := ⟨_, rfl⟩
          rw [he] at ck cf ct ca wf wt
          have HWF : Hid (WF f ∧ WF t) := Lib.hid ⟨wf, wt⟩
          have HJ : Hid (j < len ∧ j ≤ 60) := Lib.hid ⟨hlt, hj60⟩
          simp only [] at ck cf ct ca
          have HC1 : Hid (PS w (wr.alloc (.cells #[.int .i64 kk, .int .i64 f, .int .i64 t, .int .i64 a] 47)) A p j none) := Lib.hid (HC.out.grown (grown_alloc _ _ _))
          have HCX : Hid (PS w (wr.alloc (.cells #[.int .i64 kk, .int .i64 f, .int .i64 t, .int .i64 a] 47)) A p j (some wr.heap.size)) := Lib.hid (HC.out.ext (grown_alloc _ _ _) (Nat.le_refl _) (by simp))
          have HXP : Hid (wr.heap.size < (wr.alloc (.cells #[.int .i64 kk, .int .i64 f, .int .i64 t, .int .i64 a] 47)).heap.size ∧ p ≠ wr.heap.size) := Lib.hid ⟨by simp, by have := HC.out.plt; omega⟩
          have x0 : (wr.alloc (.cells #[.int .i64 kk, .int .i64 f, .int .i64 t, .int .i64 a] 47)).cell? ⟨wr.heap.size, 0, none⟩ = some (.int .i64 kk) := by rw [cell_alloc_new]; rfl
          have x1 : (wr.alloc (.cells #[.int .i64 kk, .int .i64 f, .int .i64 t, .int .i64 a] 47)).cell? ⟨wr.heap.size, 1, none⟩ = some (.int .i64 f) := by rw [cell_alloc_new]; rfl
          have x2 : (wr.alloc (.cells #[.int .i64 kk, .int .i64 f, .int .i64 t, .int .i64 a] 47)).cell? ⟨wr.heap.size, 2, none⟩ = some (.int .i64 t) := by rw [cell_alloc_new]; rfl
          have x3 : (wr.alloc (.cells #[.int .i64 kk, .int .i64 f, .int .i64 t, .int .i64 a] 47)).cell? ⟨wr.heap.size, 3, none⟩ = some (.int .i64 a) := by rw [cell_alloc_new]; rfl
          clear hcc hcb he wf wt hlt hj hj60
          by_cases h60 : j < 60
          · have hd : decide ((j : Int) ≥ 60) = false := decide_eq_false (by omega)
            have hd' : decide ((60 : Int) ≤ j) = false := decide_eq_false (by omega)
            have H60 := Lib.hid h60
            clear h60
            go_upto_region 8 with (fail)
            generalize wr.alloc (.cells #[.int .i64 kk, .int .i64 f, .int .i64 t, .int .i64 a] 47) = w3 at *
            generalize wr.heap.size = x at *
            clear ck cf ct ca HC
            rcases (by omega : (kk = 0 ∨ kk = 1 ∨ kk = 2 ∨ kk = 3) ∨ kk = 4 ∨ (kk = 5 ∨ kk = 6) ∨ (kk ≠ 0 ∧ kk ≠ 1 ∧ kk ≠ 2 ∧ kk ≠ 3 ∧ kk ≠ 4 ∧ kk ≠ 5 ∧ kk ≠ 6)) with hkk | rfl | hkk | ⟨n0, n1, n2, n3, n4, n5, n6⟩
            · have HPO := Lib.hid (fun W (g : w3.grownBy W none) => ps_post (HCX.out.grown g) ⟨Nat.lt_of_lt_of_le HXP.out.1 g.size, HXP.out.2⟩ H60.out HWF.out.1 HWF.out.2 a)
              have hg1 := grown_drew1 (grown_refl w3 none)
              rcases hkk with rfl | rfl | rfl | rfl
              all_goals
                go_upto_region 13 with (fail)
                go_region_held3 (fun w' => w'.cell? ⟨x, 1, none⟩ = some (.int .i64 f) ∧ w'.cell? ⟨x, 2, none⟩ = some (.int .i64 t) ∧ w'.cell? ⟨x, 3, none⟩ = some (.int .i64 a))
                  (first | exact ⟨x1, x2, x3⟩ | exact HS.out)
                  (first
                  | (go_at_call 22; (with_reducible refine (HPO.out _ (by assumption)).mono ?_); rintro e w4 ⟨z, o, rfl, hz, hcl, hnx⟩; have ho : (o != o) = false := (by simp); have HNX := Lib.hid hnx; have HS : Hid (w4.cell? ⟨x, 1, none⟩ = some (.int .i64 f) ∧ w4.cell? ⟨x, 2, none⟩ = some (.int .i64 t) ∧ w4.cell? ⟨x, 3, none⟩ = some (.int .i64 a)) := Lib.hid ⟨hcl _ _ x1, hcl _ _ x2, hcl _ _ x3⟩; clear hcl hnx)
                  | (go_at_call 23; (with_reducible refine (HNX.out _ (grown_refl _ none)).mono ?_); rintro e w5 ⟨rfl, hcl, hps⟩; have HC3 := Lib.hid hps; have HS := Lib.hid (And.intro (hcl _ _ HS.out.1) (And.intro (hcl _ _ HS.out.2.1) (hcl _ _ HS.out.2.2))); clear hps hcl))
                all_goals
                  go_wp2
                  go_roundw
                  case rel => exact ⟨j + 1, by have := HJ.out; omega, by have := H60.out; omega, by go_num, HC3.out⟩
                  case measure => have := HJ.out; simp [intOf]; omega
            · have HPO := Lib.hid (fun W (g : w3.grownBy W none) => ps_send (HCX.out.grown g) ⟨Nat.lt_of_lt_of_le HXP.out.1 g.size, HXP.out.2⟩ H60.out HWF.out.1)
              have hg1 := grown_drew1 (grown_refl w3 none)
              go_upto_region 16 with (fail)
              go_region_held3 (fun w' => w'.cell? ⟨x, 1, none⟩ = some (.int .i64 f))
                (first | exact x1 | exact HS.out)
                (first
                | (go_at_call 24; (with_reducible refine (HPO.out _ (by assumption)).mono ?_); rintro e w4 ⟨z, rfl, hcl, hnx⟩; have hzz : (z != z) = false := (by simp); have HNX := Lib.hid hnx; have HS : Hid (w4.cell? ⟨x, 1, none⟩ = some (.int .i64 f)) := Lib.hid (hcl _ _ x1); clear hcl hnx)
                | (go_at_call 25; (with_reducible refine (HNX.out _ (grown_refl _ none)).mono ?_); rintro e w5 ⟨rfl, hcl, hps⟩; have HC3 := Lib.hid hps; have HS := Lib.hid (hcl _ _ HS.out); clear hps hcl))
              all_goals
                go_wp2
                go_roundw
                case rel => exact ⟨j + 1, by have := HJ.out; omega, by have := H60.out; omega, by go_num, HC3.out⟩
                case measure => have := HJ.out; simp [intOf]; omega
            · have HNX := Lib.hid (ps_next HCX.out t)
              rcases hkk with rfl | rfl
              all_goals
                go_wp2_with fail
                refine HNX.out.mono ?_
                rintro e w4 ⟨z, o, rfl, hcl, hnx⟩
                replace x0 := hcl _ _ x0
                replace x1 := hcl _ _ x1
                replace x2 := hcl _ _ x2
                replace x3 := hcl _ _ x3
                have hz : (z != z) = false := by simp
                have ho : (o != o) = false := by simp
                clear hcl
                go_wp2_with fail
                refine hnx.mono ?_
                rintro e w5 ⟨rfl, hps⟩
                have HC3 := Lib.hid hps
                clear hps hnx
                go_wp2
                go_roundw
                case rel => exact ⟨j + 1, by have := HJ.out; omega, by have := H60.out; omega, by go_num, HC3.out⟩
                case measure => have := HJ.out; simp [intOf]; omega
            · have e0 : (kk == 0) = false := by simpa using n0
              have e1 : (kk == 1) = false := by simpa using n1
              have e2 : (kk == 2) = false := by simpa using n2
              have e3 : (kk == 3) = false := by simpa using n3
              have e4 : (kk == 4) = false := by simpa using n4
              have e5 : (kk == 5) = false := by simpa using n5
              have e6 : (kk == 6) = false := by simpa using n6
              have HC3 := Lib.hid (HC1.out.more (Nat.le_succ j))
              clear n0 n1 n2 n3 n4 n5 n6
              go_wp2
              go_roundw
              case rel => exact ⟨j + 1, by have := HJ.out; omega, by have := H60.out; omega, by go_num, HC3.out⟩
              case measure => have := HJ.out; simp [intOf]; omega
          · have hd : decide ((j : Int) ≥ 60) = true := decide_eq_true (by omega)
            have hd' : decide ((60 : Int) ≤ j) = true := decide_eq_true (by omega)
            have HC6 := Lib.hid (HC1.out.more HJ.out.2)
            clear h60 x0 x1 x2 x3 HC
            go_wp2
            go_meet
            exact HC6.out
        · have hji : ¬ (j : Int) < len := by omega
          have HC6 := Lib.hid (HC.out.more hj60)
          clear hlt hj hj60 HC
          go_wp2
          go_meet
          exact HC6.out
    case rest =>
      have HC := Lib.hid hcut
      obtain ⟨w5, rfl⟩ : ∃ w5 : World, w5 = wc := ⟨_, rfl⟩
      clear hcut HC0 HO
      go_wp2_with fail
      refine (ps_same HC.out (Nat.le_refl _)).mono ?_
      rintro e w6 ⟨rfl, hg⟩
      have HG6 := Lib.hid hg
      clear hg
      go_wp2_with fail
      refine (awake12_at w6).mono ?_
      rintro e w7 ⟨rfl, hg⟩
      have HF : Hid (FrN (fun i => i < w.heap.size) w w7) := Lib.hid (HC.out.fr.trans (frN_grown (grown_trans HG6.out hg) (fun i hi => ⟨Nat.lt_of_lt_of_le hi HC.out.fr.size, by simp⟩)))
      clear hg
      go_wp2
      go_ret
      exact ⟨rfl, grown_of_below (HF.out.below (fun i hi => hi))⟩
end Go.Proofs.Ytldpljfanlhooaa
