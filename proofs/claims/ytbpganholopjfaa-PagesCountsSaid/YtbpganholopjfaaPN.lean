/- The walk of the law PagesCounts. -/
import Derived.Test.YtbpganholopjfaaPM
namespace Go.Proofs.Ytbpganholopjfaa
open Go.RowKit

/-- Mapping as many as there are behind one another at most. -/
theorem map_long {w : World} {p q n cap : Nat} {R : Nat → Pg.Row} (h : TabAt w p q n cap R) (lo hi : Int) (a b c : Int) (m : Nat) (hm : Pg.may ⟨a, b, c, m⟩ = true) (hl : Pg.Longest (Pg.Fr R n lo hi) m) :
    Calls Try.prog 37 #[.pointer (some ⟨p, 0, none⟩), .int .i64 lo, .int .i64 hi, .agg #[.int .i64 a, .int .i64 b, .int .i64 c, .int .i64 m]] w fun e w' => ∃ at_ : Nat, e = .returned (.tuple #[.int .i64 at_, .int .i64 0]) ∧ at_ + m ≤ n ∧ Pg.clr (Pg.lay R at_ ⟨a, b, c, m⟩) at_ m = R ∧ TabAt w' p q n cap (Pg.lay R at_ ⟨a, b, c, m⟩) ∧ w.grownBy w' (some q) := by
  obtain ⟨_, h1, h2⟩ := (Pg.may_iff _).1 hm
  simp only at h1 h2
  obtain ⟨k0, hk0⟩ := hl.1 (by omega)
  refine (map_at h lo hi a b c m).mono ?_
  intro e w' hr
  cases hr with
  | arg ha hg => exact absurd (hm.symm.trans ha) (by simp)
  | full ha hf hg =>
    rcases hf with ⟨k, hk, _⟩ | ⟨_, hf⟩
    · omega
    · exact absurd hk0 (hf k0)
  | ok ha a2 hf hn ht hg =>
    simp only [Int.toNat_natCast] at hf hn
    refine ⟨a2, rfl, by omega, ?_, ht, hg⟩
    rcases hf with ⟨k, hk, hrun, _⟩ | ⟨hx, _⟩
    · obtain rfl : a2 = k := by omega
      funext i
      unfold Pg.clr Pg.lay
      by_cases e : a2 ≤ i ∧ i < a2 + m
      · rw [if_pos e]
        exact ((Pg.isZero_iff _).1 (hrun i e.1 e.2).2.2.2).symm
      · rw [if_neg e, if_neg (by omega), if_neg (by simp only; omega)]
    · omega
theorem map_more {w : World} {p q n cap : Nat} {R : Nat → Pg.Row} (h : TabAt w p q n cap R) (lo hi : Int) (a b c : Int) (m : Nat) (hm : Pg.may ⟨a, b, c, m + 1⟩ = true) (hl : Pg.Longest (Pg.Fr R n lo hi) m) :
    Calls Try.prog 37 #[.pointer (some ⟨p, 0, none⟩), .int .i64 lo, .int .i64 hi, .agg #[.int .i64 a, .int .i64 b, .int .i64 c, .int .i64 (m + 1)]] w fun e w' => e = .returned (.tuple #[.int .i64 0, .int .i64 5]) ∧ w.grownBy w' none := by
  refine map_noplace h lo hi ⟨a, b, c, m + 1⟩ hm (.inr ⟨rfl, fun k hr => ?_⟩)
  have e : (((m : Int) + 1).toNat) = m + 1 := by omega
  simp only [e] at hr
  exact hl.2 k hr

set_option maxRecDepth 100000 in
set_option maxHeartbeats 8000000 in
theorem pcounts_walk (n0 : Int) (A : Option Addr) (len lcap : Nat) (O : Nat → POp) (lo hi kind : Int) (w : World) (hn0 : 0 ≤ n0) (hn1 : n0 ≤ 255) (hlen : len ≤ 9223372036854775807) (hcap : len ≤ lcap) (hA : POpsAt w A len O) :
    Calls Try.prog 7 #[.int .u8 n0, .slice A len lcap, .int .i64 lo, .int .i64 hi, .int .i64 kind] w fun e w' => e = .returned (.bool true) ∧ w.grownBy w' none := by
  have HA := Lib.hid hA
  clear hA
  obtain ⟨m, hm, hm30⟩ := pmod n0 30 hn0 (by omega)
  have HM := Lib.hid hm
  have hm30' : m < 30 := by omega
  clear hm
  go_enter Try.func7, Try.ntmps7
  go_upto_region 1 with (fail)
  go_cut [11] (fun s5 wx => s5 = .int .i64 m ∧ wx = w)
  case first =>
    go_wp2
    go_meet
    exact ⟨vint HM.out.symm, rfl⟩
  case rest =>
  obtain ⟨rfl, rfl⟩ := hcut
  clear HM
  obtain ⟨w0, rfl⟩ : ∃ w0 : World, w0 = wc := ⟨_, rfl⟩
  go_wp2_with fail
  refine (pnew_mid m w0 (by omega)).mono ?_
  rintro e w1 ⟨p, q, cap, rfl, ht, hp, hq, hg⟩
  have HT := Lib.hid ht
  have HG := Lib.hid hg
  clear ht hg
  go_wp2_with fail
  refine (rnew_mid m w1 (by omega)).mono ?_
  rintro e w2 ⟨b, bc, rfl, _, hb, hr, hg⟩
  have hpl := HT.out.plt
  have hql := HT.out.rows.qlt
  have HP : Hid (Pp w0 w2 p q m cap b (fun _ => Pg.zero)) := ⟨HT.out.grown hg (by simp) (by simp), hr, by omega, by omega, hq, grown_trans HG.out hg⟩
  clear hr hg hp hq hb hpl hql HT HG
  have HCA : Hid (∀ k : Nat, k < len → ∃ bb off, A = some ⟨bb, off, none⟩ ∧ bb < w0.heap.size ∧ POpAt w0 bb (off + k * 8) (O k)) := fun k hk => by
    rcases HA.out with h | ⟨bb, off, h1, h2, h3⟩
    · omega
    · exact ⟨bb, off, h1, h2, h3 k hk⟩
  have hsa : len = 0 ∨ ∃ bb off, A = some ⟨bb, off, none⟩ := by
    rcases HA.out with h | ⟨bb, off, h1, h2, h3⟩
    · exact Or.inl h
    · exact Or.inr ⟨bb, off, h1⟩
  clear HA
  rcases hsa with ha | ⟨ba, oa, rfl⟩
  case' inl =>
    have HEA : Hid (len = 0) := ha
    clear ha
  case' inr => have HEA : Hid True := trivial
  all_goals
    go_wp2_with fail
    go_loopw [13, 32] (fun s7 i wr => ∃ (k b bc : Nat) (R : Nat → Pg.Row), k ≤ len ∧ i = .int .i64 k ∧ s7 = .slice (some ⟨b, 0, none⟩) m bc ∧ Pp w0 wr p q m cap b R) (fun _ i _ => len - (intOf i).toNat)
    case atStart => exact ⟨0, b, bc, _, Nat.zero_le _, rfl, rfl, HP.out⟩
    case round =>
      clear HP
      obtain ⟨k, b1, bc1, R, hk, rfl, rfl, hpp⟩ := hrel
      have HPP := Lib.hid hpp
      clear hpp
      by_cases hkn : k < len
      · obtain ⟨b', off', e1, hb', hop⟩ := HCA.out k hkn
        first
        | (exfalso; have h0 := HEA.out; omega)
        | (obtain ⟨rfl, rfl⟩ : b' = ba ∧ off' = oa := by injection e1 with e1; injection e1 with e2 e3; exact ⟨e2.symm, e3.symm⟩
           clear e1
           have d0 := HPP.out.grow.cell hop.c0 (by simp)
           have d1 := HPP.out.grow.cell hop.c1 (by simp)
           have d2 := HPP.out.grow.cell hop.c2 (by simp)
           have d3 := HPP.out.grow.cell hop.c3 (by simp)
           have d4 := HPP.out.grow.cell hop.c4 (by simp)
           have d5 := HPP.out.grow.cell hop.c5 (by simp)
           have d6 := HPP.out.grow.cell hop.c6 (by simp)
           have d7 := HPP.out.grow.cell hop.c7 (by simp)
           have HLE := Lib.hid hop.le
           clear hop
           generalize O k = x at *
           obtain ⟨kk, aa, ll, hh, ⟨ra, rb, rc, rd⟩⟩ := x
           dsimp only at d0 d1 d2 d3 d4 d5 d6 d7
           simp only at HLE
           obtain ⟨wo, rfl⟩ : ∃ wo : World, wo = wr := ⟨_, rfl⟩
           go_upto_region 5 with (fail)
           go_cut [14, 15] (fun s8 s9 wx => ∃ ob : Nat, s8 = .int .i64 k ∧ s9 = .pointer (some ⟨ob, 0, none⟩) ∧ wx.cell? ⟨ob, 0, none⟩ = some (.int .i64 kk) ∧ wx.cell? ⟨ob, 1, none⟩ = some (.int .i64 aa) ∧ wx.cell? ⟨ob, 2, none⟩ = some (.int .i64 ll) ∧ wx.cell? ⟨ob, 3, none⟩ = some (.int .i64 hh) ∧ wx.cell? ⟨ob, 4, none⟩ = some (.int .i64 ra) ∧ wx.cell? ⟨ob, 5, none⟩ = some (.int .i64 rb) ∧ wx.cell? ⟨ob, 6, none⟩ = some (.int .i64 rc) ∧ wx.cell? ⟨ob, 7, none⟩ = some (.int .i64 rd) ∧ wo.grownBy wx none)
           case first =>
             go_wp2
             go_meet
             exact ⟨wo.heap.size, rfl, rfl, by rw [cell_alloc_new]; rfl, by rw [cell_alloc_new]; rfl, by rw [cell_alloc_new]; rfl, by rw [cell_alloc_new]; rfl, by rw [cell_alloc_new]; rfl, by rw [cell_alloc_new]; rfl, by rw [cell_alloc_new]; rfl, by rw [cell_alloc_new]; rfl, grown_alloc _ _ _⟩
           case rest =>
             obtain ⟨ob, rfl, rfl, o0, o1, o2, o3, o4, o5, o6, o7, hgo⟩ := hcut
             have HP3 := Lib.hid (HPP.out.grown hgo)
             clear HPP hgo d0 d1 d2 d3 d4 d5 d6 d7
             obtain ⟨w3, rfl⟩ : ∃ w3 : World, w3 = wc := ⟨_, rfl⟩
             by_cases h20 : k < 20
             · have h20' : (k : Int) < 20 := by omega
               go_wp2_with fail
               refine (step_at HP3.out.tab HP3.out.rows HP3.out.bp HP3.out.bq kk aa ll hh ra rb rc rd HLE.out).mono ?_
               rintro e w4 ⟨b2, bc2, R2, rfl, ht, hr, h1, h2, hg⟩
               have HP4 := Lib.hid (HP3.out.step ht hr h1 h2 hg)
               clear ht hr h1 h2 hg
               go_wp2_with fail
               go_roundw
               case rel => exact ⟨k + 1, b2, bc2, R2, by omega, by go_num, rfl, HP4.out⟩
               case measure => simp [intOf]; omega
             · have h20' : ¬ (k : Int) < 20 := by omega
               go_wp2_with fail
               go_roundw
               case rel => exact ⟨k + 1, b1, bc1, R, by omega, by go_num, rfl, HP3.out⟩
               case measure => simp [intOf]; omega)
      · obtain rfl : k = len := by omega
        clear HCA HEA hkn
        obtain ⟨w3, rfl⟩ : ∃ w3 : World, w3 = wr := ⟨_, rfl⟩
        go_wp2_with fail
        refine (rlongest_at b1 m bc1 R lo hi w3 (by omega) HPP.out.rows).mono ?_
        rintro e w' ⟨most, rfl, hl, rfl⟩
        have hml : most ≤ m := Pg.longest_le hl (fun i h => h.1)
        have HL := Lib.hid hl
        clear hl
        go_wp2_with fail
        refine (count_at HPP.out.tab lo hi kind).mono ?_
        rintro e w4 ⟨rfl, hg⟩
        have HP4 := Lib.hid (HPP.out.grown hg)
        clear hg HPP
        go_wp2_with fail
        refine (rcount_at b1 m bc1 R lo hi kind w4 (by omega) HP4.out.rows).mono ?_
        rintro e w5 ⟨rfl, hg⟩
        have HP5 := Lib.hid (HP4.out.grown hg)
        clear hg HP4
        generalize Pg.cnt R lo hi kind m = c at *
        have hcc : ((c : Int) != c) = false := by simp
        go_wp2_with fail
        refine (longest_at HP5.out.tab lo hi).mono ?_
        rintro e w6 ⟨most2, rfl, hl2, _, hg⟩
        obtain rfl := Pg.longest_uniq hl2 HL.out
        have HP6 := Lib.hid (HP5.out.grown hg)
        clear hg HP5 hl2
        have hmm : ((most2 : Int) != most2) = false := by simp
        go_wp2_with fail
        refine (pcopy_at HP6.out.tab).mono ?_
        rintro e w7 ⟨p2, q2, cap2, rfl, ht, _, _, hg⟩
        have HT7 := Lib.hid ht
        have HP7 := Lib.hid (HP6.out.grown hg)
        have hqw : q2 < w7.heap.size := ht.rows.qlt
        have HQ := Lib.hid (show w6.heap.size ≤ q2 by assumption)
        have HQ6 := Lib.hid HP6.out.tab.rows.qlt
        clear hg HP6 ht
        go_wp2_with fail
        refine (map_more HT7.out lo hi 1 0 0 most2 ((Pg.may_iff _).2 ⟨rfl, by simp only; omega, by simp only; omega⟩) HL.out).mono ?_
        rintro e w8 ⟨rfl, hg⟩
        have HP8 := Lib.hid (HP7.out.grown hg)
        clear hg HP7 HT7
        by_cases hm0 : most2 = 0
        · subst hm0
          go_wp2_with fail
          refine (map_arg p w8 lo hi 2 0 0 0 rfl).mono ?_
          rintro e w9 ⟨rfl, hg⟩
          have HP9 := Lib.hid (HP8.out.grown hg)
          clear hg HP8
          go_wp2_with fail
          refine (pawake_at w9).mono ?_
          rintro e w10 ⟨rfl, hg⟩
          have HG := Lib.hid (grown_trans HP9.out.grow hg)
          clear hg
          go_wp2
          go_ret
          exact ⟨rfl, HG.out⟩
        · have hm0' : ((most2 : Int) == 0) = false := by simp; omega
          go_wp2_with fail
          refine (map_long HP8.out.tab lo hi 2 0 0 most2 ((Pg.may_iff _).2 ⟨rfl, by simp only; omega, by simp only; omega⟩) HL.out).mono ?_
          rintro e w9 ⟨a2, rfl, ha2, hclr, ht, hg⟩
          have HC := Lib.hid hclr
          have HT := Lib.hid ht
          have HG9 := Lib.hid hg
          have HR9 := Lib.hid (HP8.out.rows.grown hg (fun e => HP8.out.bq (Option.some.inj e)))
          clear hclr ht hg
          go_wp2_with fail
          refine (unmap_core HT.out a2 (by omega) (by simp [Pg.lay]; rfl) most2 (by simp [Pg.lay])).mono ?_
          rintro e w10 ⟨rfl, ht, hg⟩
          rw [HC.out] at ht
          have HT10 := Lib.hid ht
          have HG10 := Lib.hid (grown_own HP8.out.grow (grown_trans HG9.out hg) HP8.out.hq)
          have HR10 := Lib.hid (HR9.out.grown hg (fun e => HP8.out.bq (Option.some.inj e)))
          clear ht hg HC HT HR9 HG9 HP8
          go_wp2_with fail
          refine (psame_at HT10.out HR10.out).mono ?_
          rintro e w11 ⟨rfl, hg⟩
          have HG11 := Lib.hid (grown_trans HG10.out hg)
          clear hg HT10 HR10 HG10
          go_wp2_with fail
          refine (pawake_at w11).mono ?_
          rintro e w12 ⟨rfl, hg⟩
          have HG := Lib.hid (grown_trans HG11.out hg)
          clear hg
          go_wp2
          go_ret
          exact ⟨rfl, HG.out⟩
end Go.Proofs.Ytbpganholopjfaa
