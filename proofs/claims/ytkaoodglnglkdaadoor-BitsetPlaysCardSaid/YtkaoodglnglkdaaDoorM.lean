/- The walk of the law BitsetPlays. -/
import Derived.Test.YtkaoodglnglkdaaDoorL
namespace Go.Proofs.YtkaoodglnglkdaaDoor
open Go.RowKit

set_option maxRecDepth 100000 in
set_option maxHeartbeats 8000000 in
theorem plays_walk (n : Int) (A : Option Addr) (len cap : Nat) (K I : Nat → Int) (V : Nat → Bool) (w : World) (hT : Tab w) (hlen : len ≤ 9223372036854775807) (hcap : len ≤ cap) (hA : OpsAt w A len K I V) :
    Calls Tryd.prog 3 #[.int .i64 n, .slice A len cap] w fun e w' => e = .returned (.bool true) ∧ w.grownBy w' none := by
  have HT := Lib.hid hT
  have HA := Lib.hid hA
  have hpos := hT.pos
  clear hT hA
  go_enter Tryd.func3, Tryd.ntmps3
  go_upto_region 1 with (fail)
  go_cut [0] (fun s0 wx => ∃ m : Int, s0 = .int .i64 m ∧ wx = w)
  case first =>
    go_wp2
    go_meet
    exact ⟨_, rfl, rfl⟩
  case rest =>
  obtain ⟨m, rfl, rfl⟩ := hcut
  obtain ⟨w0, rfl⟩ : ∃ w0 : World, w0 = wc := ⟨_, rfl⟩
  go_wp2_with fail
  refine (new_at m _).mono ?_
  rintro e w1 ⟨p, q, qc, rfl, hs, hp, hq, hg⟩
  have HS := Lib.hid hs
  have HG := Lib.hid hg
  clear hs hg
  go_wp2_with fail
  refine (refnew_at m _).mono ?_
  rintro e w2 ⟨rfl, hw2⟩
  have hN := clampN_le m
  generalize clampN m = N at *
  obtain ⟨b, hb⟩ : ∃ b, b = w1.heap.size := ⟨_, rfl⟩
  have HPL : Hid (Pl w0 w2 p q N qc (zeros N) b (fun _ => false)) := by
    subst hw2
    have hg2 := World.grownBy_alloc w1 (.cells (madeCells (Value.bool false).cells N) 4) none
    have hp1 : p < w1.heap.size := World.block_lt_of_cell? w1 ⟨p, 0, none⟩ HS.out.c0
    have hq1 := HS.out.qlt
    have hsz := HG.out.size
    exact {
      set := HS.out.grown hg2 (by simp) (by simp)
      ref := {
        row := fun i hi => by rw [hb, cell_alloc_new]; exact made_cell _ rfl _ _ hi
        fz := fun i => by rw [hb]; exact frozen_alloc_new ..
        blt := by rw [hb]; simp
        small := hN }
      hold := fun j => by rw [zeros_bit]; simp
      hp := hp
      hq := hq
      hb := by omega
      pb := by omega
      qb := by omega
      grow := grown_trans HG.out hg2 }
  rw [← hb]
  clear hb hw2 HS HG hp hq
  have HCA : Hid (∀ k : Nat, k < len → ∃ b off, A = some ⟨b, off, none⟩ ∧ b < w0.heap.size ∧ w0.cell? ⟨b, off + k * 3, none⟩ = some (.int .i64 (K k)) ∧ w0.cell? ⟨b, off + k * 3 + 1, none⟩ = some (.int .i64 (I k)) ∧ w0.cell? ⟨b, off + k * 3 + 2, none⟩ = some (.bool (V k))) := fun k hk => by
    rcases HA.out with h | ⟨b, off, h1, h2, h3⟩
    · omega
    · exact ⟨b, off, h1, h2, h3 k hk⟩
  have hsa : len = 0 ∨ ∃ b off, A = some ⟨b, off, none⟩ := by
    rcases HA.out with h | ⟨b, off, h1, h2, h3⟩
    · exact Or.inl h
    · exact Or.inr ⟨b, off, h1⟩
  clear HA
  rcases hsa with ha | ⟨ba, oa, rfl⟩
  case' inl =>
    have HEA : Hid (len = 0) := ha
    clear ha
  case' inr => have HEA : Hid True := trivial
  all_goals
    go_wp2_with fail
    go_loopw [5, 22] (fun s5 i wr => ∃ (k : Nat) (p q qc : Nat) (ws : List Nat) (f : Nat → Bool), k ≤ len ∧ i = .int .i64 k ∧ s5 = .pointer (some ⟨p, 0, none⟩) ∧ Pl w0 wr p q N qc ws b f) (fun _ i _ => len - (intOf i).toNat)
    case atStart => exact ⟨0, p, q, qc, zeros N, fun _ => false, Nat.zero_le _, rfl, rfl, HPL.out⟩
    case round =>
      clear HPL
      obtain ⟨k, p1, q1, qc1, ws, f, hk, rfl, rfl, hpl⟩ := hrel
      have HPL := Lib.hid hpl
      clear hpl
      by_cases hkn : k < len
      · obtain ⟨b', off', e1, hb', hc0, hc1, hc2⟩ := HCA.out k hkn
        first
        | (exfalso; have h0 := HEA.out; omega)
        | (obtain ⟨rfl, rfl⟩ : b' = ba ∧ off' = oa := by injection e1 with e1; injection e1 with e2 e3; exact ⟨e2.symm, e3.symm⟩
           clear e1
           have d0 := HPL.out.grow.cell hc0 (by simp)
           have d1 := HPL.out.grow.cell hc1 (by simp)
           have d2 := HPL.out.grow.cell hc2 (by simp)
           clear hc0 hc1 hc2
           generalize K k = kk at *
           generalize I k = ii at *
           generalize V k = vv at *
           obtain ⟨wo, rfl⟩ : ∃ wo : World, wo = wr := ⟨_, rfl⟩
           go_upto_region 5 with (fail)
           go_cut [7, 8] (fun s7 s8 wx => ∃ ob : Nat, wo.heap.size ≤ ob ∧ s7 = .int .i64 k ∧ s8 = .pointer (some ⟨ob, 0, none⟩) ∧ wx.cell? ⟨ob, 0, none⟩ = some (.int .i64 kk) ∧ wx.cell? ⟨ob, 1, none⟩ = some (.int .i64 ii) ∧ wx.cell? ⟨ob, 2, none⟩ = some (.bool vv) ∧ wo.grownBy wx none)
           case first =>
             go_wp2
             go_meet
             exact ⟨wo.heap.size, Nat.le_refl _, rfl, rfl, by rw [cell_alloc_new]; rfl, by rw [cell_alloc_new]; rfl, by rw [cell_alloc_new]; rfl, World.grownBy_alloc _ _ _⟩
           case rest =>
             obtain ⟨ob, hob, rfl, rfl, o0, o1, o2, hgo⟩ := hcut
             have hobq : q1 < ob := Nat.lt_of_lt_of_le HPL.out.set.qlt hob
             clear hob
             have HP3 := Lib.hid (HPL.out.grown hgo)
             clear HPL hgo d0 d1 d2
             obtain ⟨w3, rfl⟩ : ∃ w3 : World, w3 = wc := ⟨_, rfl⟩
             by_cases h60 : 60 ≤ k
             · have h60' : (60 : Int) ≤ k := by omega
               go_wp2_with (first
                 | (go_at_call 14; refine (lawsame_at HP3.out.set HP3.out.ref HP3.out.hold).mono ?_; rintro e w' ⟨rfl, g⟩; have HG9 := Lib.hid (grown_trans HP3.out.grow g); clear g)
                 | (go_at_call 15; refine (awake_at _ (HT.out.grown HG9.out (by simp))).mono ?_; rintro e w' ⟨rfl, g⟩; have HG10 := Lib.hid (grown_trans HG9.out g); clear g))
               go_ret
               exact ⟨rfl, HG10.out⟩
             · have h60' : ¬ (60 : Int) ≤ k := by omega
               obtain ⟨bin, hbin⟩ : ∃ bin, bin = decide (0 ≤ ii ∧ ii < N) := ⟨_, rfl⟩
               have HBIN := Lib.hid hbin
               clear hbin
               go_upto_region 7 with (fail)
               go_cut [9] (fun s9 wx => s9 = .bool bin ∧ wx = w3)
               case first =>
                 by_cases h0 : 0 ≤ ii
                 · obtain ⟨i, rfl⟩ : ∃ i : Nat, ii = i := ⟨ii.toNat, by omega⟩
                   by_cases h1 : i < N
                   · have h1' : (i : Int) < N := by omega
                     obtain rfl : bin = true := by rw [HBIN.out]; simp; omega
                     go_wp2
                     go_meet
                     exact ⟨rfl, rfl⟩
                   · have h1' : decide (i < N) = false := by simpa using h1
                     obtain rfl : bin = false := by rw [HBIN.out]; simp; omega
                     go_wp2
                     go_meet
                     exact ⟨rfl, rfl⟩
                 · have h0' : decide (0 ≤ ii) = false := by simpa using h0
                   obtain rfl : bin = false := by rw [HBIN.out]; simp; omega
                   go_wp2
                   go_meet
                   exact ⟨rfl, rfl⟩
               case rest =>
                 obtain ⟨rfl, rfl⟩ := hcut
                 obtain ⟨w3, rfl⟩ : ∃ w3 : World, w3 = wc := ⟨_, rfl⟩
                 have HT3 := Lib.hid (HT.out.grown HP3.out.grow (by simp))
                 by_cases c0 : kk = 0 ∨ kk = 1 ∨ kk = 2
                 · rcases c0 with rfl | rfl | rfl
                   all_goals
                     cases bin with
                     | true =>
                       have hin : 0 ≤ ii ∧ ii < N := by simpa using HBIN.out
                       obtain ⟨i, rfl⟩ : ∃ i : Nat, ii = i := ⟨ii.toNat, by omega⟩
                       have hiN : i < N := by omega
                       have hiN' : (i : Int) < N := by omega
                       clear hin
                       go_wp2_with (go_at_call 9; refine (put_in HP3.out.set i vv (by omega) (by omega)).mono ?_; rintro e w4 ⟨rfl, g1, g2⟩; rw [Int.toNat_natCast] at g1; have G1 := Lib.hid g1; have G2 := Lib.hid g2; have u1 := g2.cell o1 (fun x => by have y := Option.some.inj x; dsimp only at y; omega); have u2 := g2.cell o2 (fun x => by have y := Option.some.inj x; dsimp only at y; omega); have u3 := (HP3.out.ref.grown g2 (fun x => HP3.out.qb (Option.some.inj x).symm)).row i hiN; have u4 := (HP3.out.ref.grown g2 (fun x => HP3.out.qb (Option.some.inj x).symm)).fz i; clear g1 g2)
                       go_roundw
                       case rel => exact ⟨k + 1, p1, q1, qc1, _, _, by omega, by go_num, rfl, HP3.out.put i vv hiN G1.out G2.out⟩
                       case measure => simp [intOf]; omega
                     | false =>
                       have hin : ¬ (0 ≤ ii ∧ ii < N) := by simpa using HBIN.out
                       have HIN := Lib.hid hin
                       clear hin
                       go_wp2_with (go_at_call 9; refine (put_out HP3.out.set ii vv HIN.out).mono ?_; rintro e w' ⟨rfl, rfl⟩)
                       go_roundw
                       case rel => exact ⟨k + 1, p1, q1, qc1, _, _, by omega, by go_num, rfl, HP3.out⟩
                       case measure => simp [intOf]; omega
                 · have n0 : (kk == 0) = false := by simp; omega
                   have n1 : (kk == 1) = false := by simp; omega
                   have n2 : (kk == 2) = false := by simp; omega
                   clear c0
                   by_cases c3 : kk = 3
                   · subst c3
                     clear n0 n1 n2
                     rcases next_cases ii vv HP3.out.hold with ⟨j, hj1, hj2⟩ | ⟨hj1, hj2⟩
                     all_goals
                       have J1 := Lib.hid hj1
                       have J2 := Lib.hid hj2
                       clear hj1 hj2
                       go_wp2_with (first
                         | (go_at_call 10; refine (next_at HP3.out.set HT3.out ii vv).mono ?_; rintro e w' ⟨hn, rfl⟩; obtain rfl := J1.out _ hn; clear hn)
                         | (go_at_call 11; refine (refnext_at HP3.out.ref ii vv).mono ?_; rintro e w' ⟨hn, rfl⟩; obtain rfl := J2.out _ hn; clear hn))
                       go_roundw
                       case rel => exact ⟨k + 1, p1, q1, qc1, _, _, by omega, by go_num, rfl, HP3.out⟩
                       case measure => simp [intOf]; omega
                   · have n3 : (kk == 3) = false := by simp; omega
                     clear c3
                     by_cases c4 : kk = 4
                     · subst c4
                       clear n0 n1 n2 n3
                       cases bin with
                       | true =>
                         have hin : 0 ≤ ii ∧ ii < N := by simpa using HBIN.out
                         obtain ⟨i, rfl⟩ : ∃ i : Nat, ii = i := ⟨ii.toNat, by omega⟩
                         have hiN : i < N := by omega
                         have hiN' : (i : Int) < N := by omega
                         clear hin
                         have hcell := HP3.out.ref.row i hiN
                         have hv := has_true HP3.out.hold hiN
                         generalize f i = y at *
                         have HV := Lib.hid hv
                         clear hv
                         have hyy : (y != y) = false := by simp
                         go_wp2_with (go_at_call 12; refine (has_at HP3.out.set i).mono ?_; rintro e w' ⟨he, rfl⟩; rw [HV.out] at he; obtain rfl := he)
                         go_roundw
                         case rel => exact ⟨k + 1, p1, q1, qc1, _, _, by omega, by go_num, rfl, HP3.out⟩
                         case measure => simp [intOf]; omega
                       | false =>
                         have hin : ¬ (0 ≤ ii ∧ ii < N) := by simpa using HBIN.out
                         have HV := Lib.hid (has_false HP3.out.hold hin)
                         clear hin
                         go_wp2_with (go_at_call 12; refine (has_at HP3.out.set ii).mono ?_; rintro e w' ⟨he, rfl⟩; rw [HV.out] at he; obtain rfl := he)
                         go_roundw
                         case rel => exact ⟨k + 1, p1, q1, qc1, _, _, by omega, by go_num, rfl, HP3.out⟩
                         case measure => simp [intOf]; omega
                     · have n4 : (kk == 4) = false := by simp; omega
                       clear c4
                       by_cases c5 : kk = 5
                       · subst c5
                         clear n0 n1 n2 n3 n4
                         by_cases hN0 : 0 < N
                         · go_wp2_with fail
                           refine (copy_at HP3.out.set).mono ?_
                           rintro e w4 ⟨p2, q2, qc2, rfl, hs2, hp2, hq2, hg2⟩
                           have HS2 := Lib.hid hs2
                           have HG2 := Lib.hid hg2
                           have HO2 := Lib.hid (HP3.out.set.grown hg2 (by simp) (by simp))
                           clear hs2 hg2
                           go_wp2_with fail
                           refine (has_at HO2.out 0).mono ?_
                           rintro e w' ⟨he, rfl⟩
                           obtain ⟨y, hy⟩ : ∃ y, y = (decide ((0 : Int) ≤ 0) && M.bit ws (0 : Int).toNat) := ⟨_, rfl⟩
                           rw [← hy] at he
                           clear hy
                           obtain rfl := he
                           go_wp2_with fail
                           refine (put_in HO2.out 0 (!y) (by omega) (by omega)).mono ?_
                           rintro e w5 ⟨rfl, g1, g2⟩
                           have G2 := Lib.hid g2
                           clear g1 g2
                           go_wp2
                           go_roundw
                           case rel => exact ⟨k + 1, p2, q2, qc2, ws, f, by omega, by go_num, rfl, HP3.out.copy HS2.out hp2 hq2 HG2.out G2.out⟩
                           case measure => simp [intOf]; omega
                         · go_wp2_with fail
                           refine (copy_at HP3.out.set).mono ?_
                           rintro e w4 ⟨p2, q2, qc2, rfl, hs2, hp2, hq2, hg2⟩
                           have HS2 := Lib.hid hs2
                           have HG2 := Lib.hid hg2
                           have HO2 := Lib.hid (HP3.out.set.grown hg2 (by simp) (by simp))
                           clear hs2 hg2
                           go_wp2_with fail
                           refine (has_at HO2.out 0).mono ?_
                           rintro e w' ⟨he, rfl⟩
                           obtain ⟨y, hy⟩ : ∃ y, y = (decide ((0 : Int) ≤ 0) && M.bit ws (0 : Int).toNat) := ⟨_, rfl⟩
                           rw [← hy] at he
                           clear hy
                           obtain rfl := he
                           go_wp2_with fail
                           refine (put_out HO2.out 0 (!y) (by omega)).mono ?_
                           rintro e w5 ⟨rfl, rfl⟩
                           go_wp2
                           go_roundw
                           case rel => exact ⟨k + 1, p2, q2, qc2, ws, f, by omega, by go_num, rfl, HP3.out.copy HS2.out hp2 hq2 HG2.out (grown_refl _ _)⟩
                           case measure => simp [intOf]; omega
                       · have n5 : (kk == 5) = false := by simp; omega
                         clear c5
                         go_wp2
                         go_roundw
                         case rel => exact ⟨k + 1, p1, q1, qc1, _, _, by omega, by go_num, rfl, HP3.out⟩
                         case measure => simp [intOf]; omega)
      · obtain rfl : k = len := by omega
        go_wp2_with (first
          | (go_at_call 14; refine (lawsame_at HPL.out.set HPL.out.ref HPL.out.hold).mono ?_; rintro e w' ⟨rfl, g⟩; have HG9 := Lib.hid (grown_trans HPL.out.grow g); clear g)
          | (go_at_call 15; refine (awake_at _ (HT.out.grown HG9.out (by simp))).mono ?_; rintro e w' ⟨rfl, g⟩; have HG10 := Lib.hid (grown_trans HG9.out g); clear g))
        go_ret
        exact ⟨rfl, HG10.out⟩
end Go.Proofs.YtkaoodglnglkdaaDoor
