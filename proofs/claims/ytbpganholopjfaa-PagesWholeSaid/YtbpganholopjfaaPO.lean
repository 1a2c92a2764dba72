/- The walk of the law PagesWhole. -/
import Derived.Test.YtbpganholopjfaaPM
namespace Go.Proofs.Ytbpganholopjfaa
open Go.RowKit

theorem field_run (a b c d : Int) (w : World) : (Instr.field 76 (.agg #[.int .i64 a, .int .i64 b, .int .i64 c, .int .i64 d]) 3).run Try.prog w = .ok (.int .i64 d) w := by kernel_rfl
theorem runs_bd {R : Nat → Pg.Row} {n : Nat} (h : Pg.Ok R n) (j : Nat) (hj : j ≤ n) : 0 ≤ Pg.runs R j ∧ Pg.runs R j ≤ n := by
  obtain ⟨ov, h1, h2, _, _⟩ := Pg.runs_cov h j hj
  have := Pg.cnt_le R 0 n 0 j
  omega

set_option maxRecDepth 100000 in
set_option maxHeartbeats 8000000 in
theorem pwhole_walk (n0 : Int) (A : Option Addr) (len lcap : Nat) (O : Nat → POp) (w : World) (hn0 : 0 ≤ n0) (hn1 : n0 ≤ 255) (hlen : len ≤ 9223372036854775807) (hcap : len ≤ lcap) (hA : POpsAt w A len O) :
    Calls Try.prog 9 #[.int .u8 n0, .slice A len lcap] w fun e w' => e = .returned (.bool true) ∧ w.grownBy w' none := by
  have HA := Lib.hid hA
  clear hA
  obtain ⟨m, hm, hm40⟩ := pmod n0 40 hn0 (by omega)
  have HM := Lib.hid hm
  have hm40' : m < 40 := by omega
  clear hm
  go_enter Try.func9, Try.ntmps9
  go_upto_region 1 with (fail)
  go_cut [5] (fun s5 wx => s5 = .int .i64 m ∧ wx = w)
  case first =>
    go_wp2
    go_meet
    exact ⟨vint HM.out.symm, rfl⟩
  case rest =>
  obtain ⟨rfl, rfl⟩ := hcut
  clear HM
  obtain ⟨w0, rfl⟩ : ∃ w0 : World, w0 = wc := ⟨_, rfl⟩
  go_wp2_with fail
  refine (pnew_mid m w0 (by omega)).mono ?_
  rintro e w1 ⟨p, q, cap, rfl, ht, hp, hq, hg⟩
  have HT := Lib.hid ht
  have HG := Lib.hid hg
  clear ht hg
  go_wp2_with fail
  refine (rnew_mid m w1 (by omega)).mono ?_
  rintro e w2 ⟨b, bc, rfl, _, hb, hr, hg⟩
  have hpl := HT.out.plt
  have hql := HT.out.rows.qlt
  have HP : Hid (Pp w0 w2 p q m cap b (fun _ => Pg.zero)) := ⟨HT.out.grown hg (by simp) (by simp), hr, by omega, by omega, hq, grown_trans HG.out hg⟩
  clear hr hg hp hq hb hpl hql HT HG
  have HCA : Hid (∀ k : Nat, k < len → ∃ bb off, A = some ⟨bb, off, none⟩ ∧ bb < w0.heap.size ∧ POpAt w0 bb (off + k * 8) (O k)) := fun k hk => by
    rcases HA.out with h | ⟨bb, off, h1, h2, h3⟩
    · omega
    · exact ⟨bb, off, h1, h2, h3 k hk⟩
  have hsa : len = 0 ∨ ∃ bb off, A = some ⟨bb, off, none⟩ := by
    rcases HA.out with h | ⟨bb, off, h1, h2, h3⟩
    · exact Or.inl h
    · exact Or.inr ⟨bb, off, h1⟩
  clear HA
  rcases hsa with ha | ⟨ba, oa, rfl⟩
  case' inl =>
    have HEA : Hid (len = 0) := ha
    clear ha
  case' inr => have HEA : Hid True := trivial
  all_goals
    go_wp2_with fail
    go_loopw [7, 26] (fun s7 i wr => ∃ (k b bc : Nat) (R : Nat → Pg.Row), k ≤ len ∧ i = .int .i64 k ∧ s7 = .slice (some ⟨b, 0, none⟩) m bc ∧ Pp w0 wr p q m cap b R) (fun _ i _ => len - (intOf i).toNat)
    case atStart => exact ⟨0, b, bc, _, Nat.zero_le _, rfl, rfl, HP.out⟩
    case round =>
      clear HP
      obtain ⟨k, b1, bc1, R, hk, rfl, rfl, hpp⟩ := hrel
      have HPP := Lib.hid hpp
      clear hpp
      by_cases hkn : k < len
      · obtain ⟨b', off', e1, hb', hop⟩ := HCA.out k hkn
        first
        | (exfalso; have h0 := HEA.out; omega)
        | (obtain ⟨rfl, rfl⟩ : b' = ba ∧ off' = oa := by injection e1 with e1; injection e1 with e2 e3; exact ⟨e2.symm, e3.symm⟩
           clear e1
           have d0 := HPP.out.grow.cell hop.c0 (by simp)
           have d1 := HPP.out.grow.cell hop.c1 (by simp)
           have d2 := HPP.out.grow.cell hop.c2 (by simp)
           have d3 := HPP.out.grow.cell hop.c3 (by simp)
           have d4 := HPP.out.grow.cell hop.c4 (by simp)
           have d5 := HPP.out.grow.cell hop.c5 (by simp)
           have d6 := HPP.out.grow.cell hop.c6 (by simp)
           have d7 := HPP.out.grow.cell hop.c7 (by simp)
           have HLE := Lib.hid hop.le
           clear hop
           generalize O k = x at *
           obtain ⟨kk, aa, ll, hh, ⟨ra, rb, rc, rd⟩⟩ := x
           dsimp only at d0 d1 d2 d3 d4 d5 d6 d7
           simp only at HLE
           obtain ⟨wo, rfl⟩ : ∃ wo : World, wo = wr := ⟨_, rfl⟩
           go_upto_region 5 with (fail)
           go_cut [8, 9] (fun s8 s9 wx => ∃ ob : Nat, s8 = .int .i64 k ∧ s9 = .pointer (some ⟨ob, 0, none⟩) ∧ wx.cell? ⟨ob, 0, none⟩ = some (.int .i64 kk) ∧ wx.cell? ⟨ob, 1, none⟩ = some (.int .i64 aa) ∧ wx.cell? ⟨ob, 2, none⟩ = some (.int .i64 ll) ∧ wx.cell? ⟨ob, 3, none⟩ = some (.int .i64 hh) ∧ wx.cell? ⟨ob, 4, none⟩ = some (.int .i64 ra) ∧ wx.cell? ⟨ob, 5, none⟩ = some (.int .i64 rb) ∧ wx.cell? ⟨ob, 6, none⟩ = some (.int .i64 rc) ∧ wx.cell? ⟨ob, 7, none⟩ = some (.int .i64 rd) ∧ wo.grownBy wx none)
           case first =>
             go_wp2
             go_meet
             exact ⟨wo.heap.size, rfl, rfl, by rw [cell_alloc_new]; rfl, by rw [cell_alloc_new]; rfl, by rw [cell_alloc_new]; rfl, by rw [cell_alloc_new]; rfl, by rw [cell_alloc_new]; rfl, by rw [cell_alloc_new]; rfl, by rw [cell_alloc_new]; rfl, by rw [cell_alloc_new]; rfl, grown_alloc _ _ _⟩
           case rest =>
             obtain ⟨ob, rfl, rfl, o0, o1, o2, o3, o4, o5, o6, o7, hgo⟩ := hcut
             have HP3 := Lib.hid (HPP.out.grown hgo)
             clear HPP hgo d0 d1 d2 d3 d4 d5 d6 d7
             obtain ⟨w3, rfl⟩ : ∃ w3 : World, w3 = wc := ⟨_, rfl⟩
             by_cases h20 : k < 40
             · have h20' : (k : Int) < 40 := by omega
               go_wp2_with fail
               refine (step_at HP3.out.tab HP3.out.rows HP3.out.bp HP3.out.bq kk aa ll hh ra rb rc rd HLE.out).mono ?_
               rintro e w4 ⟨b2, bc2, R2, rfl, ht, hr, h1, h2, hg⟩
               have HP4 := Lib.hid (HP3.out.step ht hr h1 h2 hg)
               clear ht hr h1 h2 hg
               go_wp2_with fail
               go_roundw
               case rel => exact ⟨k + 1, b2, bc2, R2, by omega, by go_num, rfl, HP4.out⟩
               case measure => simp [intOf]; omega
             · have h20' : ¬ (k : Int) < 40 := by omega
               go_wp2_with fail
               go_roundw
               case rel => exact ⟨k + 1, b1, bc1, R, by omega, by go_num, rfl, HP3.out⟩
               case measure => simp [intOf]; omega)
      · obtain rfl : k = len := by omega
        clear HCA HEA hkn
        obtain ⟨w3, rfl⟩ : ∃ w3 : World, w3 = wr := ⟨_, rfl⟩
        have HALL := Lib.hid (Pg.runs_all HPP.out.tab.ok)
        go_wp2_with fail
        refine (count_at HPP.out.tab 0 m 0).mono ?_
        rintro e w4 ⟨rfl, hg⟩
        have HP4 := Lib.hid (HPP.out.grown hg)
        clear hg HPP
        have hcm := Pg.cnt_le R 0 m 0 m
        generalize Pg.cnt R 0 m 0 m = c at *
        go_wp2_with fail
        go_loopw [12, 13] (fun s12 i wr => ∃ j : Nat, j ≤ m ∧ i = .int .i64 j ∧ s12 = .int .i64 ((c : Int) + Pg.runs R j) ∧ Pp w0 wr p q m cap b1 R) (fun _ i _ => m - (intOf i).toNat)
        case atStart => exact ⟨0, Nat.zero_le _, rfl, vint (by show (c : Int) = c + 0; omega), HP4.out⟩
        case round =>
          clear HP4
          obtain ⟨j, hj, rfl, rfl, hpp⟩ := hrel
          have HP := Lib.hid hpp
          clear hpp
          by_cases hlt : j < m
          · have hlt' : (j : Int) < m := by omega
            have HROW := Lib.hid (fun (W : World) (g : wr.grownBy W none) => prow_any (HP.out.tab.grown g (by simp) (by simp)) j (R j) (getR_in hlt))
            have HS : Hid (Pg.runs R (j + 1) = Pg.runs R j + if Pg.isHead (R j) = true then (R j).r else 0) := rfl
            obtain ⟨hb1, hb2⟩ := runs_bd HP.out.tab.ok j (by omega)
            rcases HP.out.tab.ok j hlt with hz | ⟨h0, h1, h2, h3, _⟩ | ⟨ht, i, hi1, hi2, hi3⟩
            · have HHD := Lib.hid (head_none (.pointer (some ⟨p, 0, none⟩)) j wr (by
                have := prow_at HP.out.tab j
                rwa [getR_in hlt, hz] at this))
              rw [hz] at HROW HS
              simp only [Pg.zero] at HROW
              have HN := Lib.hid (show Pg.runs R (j + 1) = Pg.runs R j by rw [HS.out]; simp [Pg.head_zero])
              clear hz HS
              generalize Pg.runs R j = y at *
              go_wp2_with fail
              refine HHD.out.mono ?_
              rintro e w5 ⟨rfl, hg⟩
              have HG5 := Lib.hid hg
              clear hg
              go_wp2_with fail
              refine (HROW.out _ HG5.out).mono ?_
              rintro e w6 ⟨rfl, hg⟩
              have HP6 := Lib.hid (HP.out.grown (grown_trans HG5.out hg))
              clear hg HHD HROW
              go_wp2_with fail
              go_roundw
              case rel => exact ⟨j + 1, by omega, by go_num, vint (by rw [HN.out]), HP6.out.grown (grown_alloc _ _ _)⟩
              case measure => simp [intOf]; omega
            · have HHD := Lib.hid (head_owner HP.out.tab j j hlt (Nat.le_refl _) h0 (by omega))
              have HN := Lib.hid (show Pg.runs R (j + 1) = Pg.runs R j + (R j).r by rw [HS.out, if_pos h0])
              have hk0 := (Pg.isHead_iff _).1 h0
              have HXZ := Lib.hid (nz_row (x := R j) (by cases hz : Pg.isZero (R j) with | false => rfl | true => rw [(Pg.isZero_iff _).1 hz, Pg.head_zero] at h0; cases h0))
              clear HS
              generalize Pg.runs R j = y at *
              generalize R j = x at *
              obtain ⟨xa, xb, xc, xd⟩ := x
              simp only at h1 h2 h3 HROW HN hk0 HXZ
              have hk3 : (xa == 3) = false := by simp; omega
              have hxa0 : ¬ xa = 0 := by omega
              clear hk0 h0
              have hd1 : decide ((xd : Int) ≤ 0) = false := by simp; omega
              have hfl := field_run xa xb xc xd
              go_wp2_with fail
              refine HHD.out.mono ?_
              rintro e w5 ⟨rfl, hg⟩
              have HG5 := Lib.hid hg
              clear hg
              go_wp2_with fail
              refine (HROW.out _ HG5.out).mono ?_
              rintro e w6 ⟨rfl, hg⟩
              have HG6 := Lib.hid (grown_trans HG5.out hg)
              clear hg HHD
              go_wp2_with fail
              refine (HROW.out _ (grown_trans HG6.out (grown_alloc _ _ _))).mono ?_
              rintro e w7 ⟨rfl, hg⟩
              have f0 := new_cell hg (by simp) 0 (v := .int .i64 xa) rfl
              have f1 := new_cell hg (by simp) 1 (v := .int .i64 xb) rfl
              have f2 := new_cell hg (by simp) 2 (v := .int .i64 xc) rfl
              have f3 := new_cell hg (by simp) 3 (v := .int .i64 xd) rfl
              have HP7 := Lib.hid (HP.out.grown (grown_trans HG6.out (grown_trans (grown_alloc _ _ _) hg)))
              clear hg
              go_wp2_with fail
              go_roundw
              case rel => exact ⟨j + 1, by omega, by go_num, vint (by rw [HN.out]; omega), HP7.out⟩
              case measure => simp [intOf]; omega
            · have HHD := Lib.hid (head_owner HP.out.tab j i hlt (by omega) hi2 hi3)
              have HN := Lib.hid (show Pg.runs R (j + 1) = Pg.runs R j by rw [HS.out, ht]; simp [Pg.head_tail])
              obtain ⟨g1, g2, g3, _⟩ := HP.out.tab.ok.headr (by omega) hi2
              have HROWI := Lib.hid (fun (W : World) (g : wr.grownBy W none) => prow_any (HP.out.tab.grown g (by simp) (by simp)) i (R i) (getR_in (by omega)))
              rw [ht] at HROW
              simp only [Pg.tail] at HROW
              clear HS ht hi2
              generalize Pg.runs R j = y at *
              generalize R i = x at *
              obtain ⟨xa, xb, xc, xd⟩ := x
              simp only at hi3 g1 g2 g3 HROWI
              have hij : ¬ (j : Int) < i := by omega
              have hij2 : ((i : Int) == j) = false := by simp; omega
              have hd1 : decide (xd ≤ (j : Int) - i) = false := by simp; omega
              have hfl := field_run xa xb xc xd
              have hj256 : j ≤ 256 := by omega
              have hi256 : i ≤ 256 := by omega
              go_wp2_with fail
              refine HHD.out.mono ?_
              rintro e w5 ⟨rfl, hg⟩
              have HG5 := Lib.hid hg
              clear hg
              go_wp2_with fail
              refine (HROW.out _ HG5.out).mono ?_
              rintro e w6 ⟨rfl, hg⟩
              have HG6 := Lib.hid (grown_trans HG5.out hg)
              clear hg HHD
              go_wp2_with fail
              refine (HROWI.out _ (grown_trans HG6.out (grown_alloc _ _ _))).mono ?_
              rintro e w7 ⟨rfl, hg⟩
              have f0 := new_cell hg (by simp) 0 (v := .int .i64 3) rfl
              have f1 := new_cell hg (by simp) 1 (v := .int .i64 0) rfl
              have f2 := new_cell hg (by simp) 2 (v := .int .i64 0) rfl
              have f3 := new_cell hg (by simp) 3 (v := .int .i64 0) rfl
              have HP7 := Lib.hid (HP.out.grown (grown_trans HG6.out (grown_trans (grown_alloc _ _ _) hg)))
              clear hg
              go_wp2_with fail
              go_roundw
              case rel => exact ⟨j + 1, by omega, by go_num, vint (by rw [HN.out]), HP7.out⟩
              case measure => simp [intOf]; omega
          · obtain rfl : j = m := by omega
            have hall : (c : Int) + Pg.runs R j = j := by have := HALL.out; omega
            rw [hall]
            clear hall
            go_wp2_with fail
            refine (plen_at HP.out.tab).mono ?_
            rintro e w' ⟨rfl, rfl⟩
            go_wp2_with fail
            refine (pawake_at wr).mono ?_
            rintro e w12 ⟨rfl, hg⟩
            have HG := Lib.hid (grown_trans HP.out.grow hg)
            clear hg
            go_wp2
            go_ret
            exact ⟨rfl, HG.out⟩
end Go.Proofs.Ytbpganholopjfaa
