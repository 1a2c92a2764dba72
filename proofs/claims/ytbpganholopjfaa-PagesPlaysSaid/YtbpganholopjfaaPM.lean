/- The walk of the law PagesPlays. -/
import Derived.Test.YtbpganholopjfaaPL
namespace Go.Proofs.Ytbpganholopjfaa
open Go.RowKit

/-- A call of the law's. -/
structure POp where
  k : Int
  a : Int
  l : Int
  h : Int
  row : Pg.Row

/-- How an argument that is a slice of calls stands. -/
structure POpAt (w : World) (b o : Nat) (x : POp) : Prop where
  c0 : w.cell? ⟨b, o, none⟩ = some (.int .i64 x.k)
  c1 : w.cell? ⟨b, o + 1, none⟩ = some (.int .i64 x.a)
  c2 : w.cell? ⟨b, o + 2, none⟩ = some (.int .i64 x.l)
  c3 : w.cell? ⟨b, o + 3, none⟩ = some (.int .i64 x.h)
  c4 : w.cell? ⟨b, o + 4, none⟩ = some (.int .i64 x.row.k)
  c5 : w.cell? ⟨b, o + 5, none⟩ = some (.int .i64 x.row.c)
  c6 : w.cell? ⟨b, o + 6, none⟩ = some (.int .i64 x.row.o)
  c7 : w.cell? ⟨b, o + 7, none⟩ = some (.int .i64 x.row.r)
  le : x.a ≤ 9223372036854775807
def POpsAt (w : World) (A : Option Addr) (len : Nat) (O : Nat → POp) : Prop := len = 0 ∨ ∃ b off, A = some ⟨b, off, none⟩ ∧ b < w.heap.size ∧ ∀ i, i < len → POpAt w b (off + i * 8) (O i)

/-- A table and the reference's rows that are alike, of the call's own. -/
structure Pp (w0 w : World) (p q m cap b : Nat) (R : Nat → Pg.Row) : Prop where
  tab : TabAt w p q m cap R
  rows : RowsAt w b m R
  bp : b ≠ p
  bq : b ≠ q
  hq : w0.heap.size ≤ q
  grow : w0.grownBy w none
theorem Pp.grown {w0 w w' : World} {p q m cap b : Nat} {R : Nat → Pg.Row} (h : Pp w0 w p q m cap b R) (g : w.grownBy w' none) : Pp w0 w' p q m cap b R :=
  ⟨h.tab.grown g (by simp) (by simp), h.rows.grown g (by simp), h.bp, h.bq, h.hq, grown_trans h.grow g⟩
theorem Pp.step {w0 w w' : World} {p q m cap b b2 : Nat} {R R2 : Nat → Pg.Row} (h : Pp w0 w p q m cap b R) (ht : TabAt w' p q m cap R2) (hr : RowsAt w' b2 m R2) (h1 : b2 ≠ p) (h2 : b2 ≠ q) (g : w.grownBy w' (some q)) : Pp w0 w' p q m cap b2 R2 :=
  ⟨ht, hr, h1, h2, h.hq, grown_own h.grow g h.hq⟩
/-- It is its own copy from now on, and the elder one is written into. -/
theorem Pp.copy {w0 w w1 w2 : World} {p q m cap b p2 q2 cap2 : Nat} {R : Nat → Pg.Row} (h : Pp w0 w p q m cap b R) (ht : TabAt w1 p2 q2 m cap2 R) (hp : w.heap.size ≤ p2) (hq : w.heap.size ≤ q2) (g1 : w.grownBy w1 none) (g2 : w1.grownBy w2 (some q)) : Pp w0 w2 p2 q2 m cap2 b R := by
  have hql := h.tab.rows.qlt
  have hbl := h.rows.qlt
  exact ⟨ht.grown g2 (by simp; omega) (by simp; omega), (h.rows.grown g1 (by simp)).grown g2 (fun e => h.bq (Option.some.inj e)), by omega, by omega, Nat.le_trans h.grow.size hq, grown_own (grown_trans h.grow g1) g2 h.hq⟩

theorem pmod (n0 k : Int) (_h0 : 0 ≤ n0) (hk : 0 < k) : ∃ m : Nat, (m : Int) = n0 % k ∧ (m : Int) < k := ⟨(n0 % k).toNat, by have := Int.emod_nonneg n0 (show k ≠ 0 by omega); omega, by have := Int.emod_nonneg n0 (show k ≠ 0 by omega); have := Int.emod_lt_of_pos n0 hk; omega⟩

set_option maxRecDepth 100000 in
set_option maxHeartbeats 8000000 in
theorem pplays_walk (n0 : Int) (A : Option Addr) (len lcap : Nat) (O : Nat → POp) (w : World) (hn0 : 0 ≤ n0) (hn1 : n0 ≤ 255) (hlen : len ≤ 9223372036854775807) (hcap : len ≤ lcap) (hA : POpsAt w A len O) :
    Calls Try.prog 6 #[.int .u8 n0, .slice A len lcap] w fun e w' => e = .returned (.bool true) ∧ w.grownBy w' none := by
  have HA := Lib.hid hA
  clear hA
  obtain ⟨m, hm, hm40⟩ := pmod n0 40 hn0 (by omega)
  have HM := Lib.hid hm
  clear hm
  go_enter Try.func6, Try.ntmps6
  go_upto_region 1 with (fail)
  go_cut [5] (fun s5 wx => s5 = .int .i64 m ∧ wx = w)
  case first =>
    go_wp2
    go_meet
    exact ⟨vint HM.out.symm, rfl⟩
  case rest =>
  obtain ⟨rfl, rfl⟩ := hcut
  have hm40' : m < 40 := by omega
  clear HM
  obtain ⟨w0, rfl⟩ : ∃ w0 : World, w0 = wc := ⟨_, rfl⟩
  go_wp2_with fail
  refine (pnew_mid m w0 (by omega)).mono ?_
  rintro e w1 ⟨p, q, cap, rfl, ht, hp, hq, hg⟩
  have HT := Lib.hid ht
  have HG := Lib.hid hg
  clear ht hg
  go_wp2_with fail
  refine (rnew_mid m w1 (by omega)).mono ?_
  rintro e w2 ⟨b, bc, rfl, _, hb, hr, hg⟩
  have hpl := HT.out.plt
  have hql := HT.out.rows.qlt
  have HP : Hid (Pp w0 w2 p q m cap b (fun _ => Pg.zero)) := ⟨HT.out.grown hg (by simp) (by simp), hr, by omega, by omega, hq, grown_trans HG.out hg⟩
  clear hr hg hp hq hb hpl hql HT HG
  have HCA : Hid (∀ k : Nat, k < len → ∃ bb off, A = some ⟨bb, off, none⟩ ∧ bb < w0.heap.size ∧ POpAt w0 bb (off + k * 8) (O k)) := fun k hk => by
    rcases HA.out with h | ⟨bb, off, h1, h2, h3⟩
    · omega
    · exact ⟨bb, off, h1, h2, h3 k hk⟩
  have hsa : len = 0 ∨ ∃ bb off, A = some ⟨bb, off, none⟩ := by
    rcases HA.out with h | ⟨bb, off, h1, h2, h3⟩
    · exact Or.inl h
    · exact Or.inr ⟨bb, off, h1⟩
  clear HA
  rcases hsa with ha | ⟨ba, oa, rfl⟩
  case' inl =>
    have HEA : Hid (len = 0) := ha
    clear ha
  case' inr => have HEA : Hid True := trivial
  all_goals
    go_wp2_with fail
    go_loopw [6, 7, 22] (fun s6 s7 i wr => ∃ (k p q cap b bc : Nat) (R : Nat → Pg.Row), k ≤ len ∧ i = .int .i64 k ∧ s6 = .pointer (some ⟨p, 0, none⟩) ∧ s7 = .slice (some ⟨b, 0, none⟩) m bc ∧ Pp w0 wr p q m cap b R) (fun _ _ i _ => len - (intOf i).toNat)
    case atStart => exact ⟨0, p, q, cap, b, bc, _, Nat.zero_le _, rfl, rfl, rfl, HP.out⟩
    case round =>
      clear HP
      obtain ⟨k, p1, q1, cap1, b1, bc1, R, hk, rfl, rfl, rfl, hpp⟩ := hrel
      have HPP := Lib.hid hpp
      clear hpp
      by_cases hkn : k < len
      · obtain ⟨b', off', e1, hb', hop⟩ := HCA.out k hkn
        first
        | (exfalso; have h0 := HEA.out; omega)
        | (obtain ⟨rfl, rfl⟩ : b' = ba ∧ off' = oa := by injection e1 with e1; injection e1 with e2 e3; exact ⟨e2.symm, e3.symm⟩
           clear e1
           have d0 := HPP.out.grow.cell hop.c0 (by simp)
           have d1 := HPP.out.grow.cell hop.c1 (by simp)
           have d2 := HPP.out.grow.cell hop.c2 (by simp)
           have d3 := HPP.out.grow.cell hop.c3 (by simp)
           have d4 := HPP.out.grow.cell hop.c4 (by simp)
           have d5 := HPP.out.grow.cell hop.c5 (by simp)
           have d6 := HPP.out.grow.cell hop.c6 (by simp)
           have d7 := HPP.out.grow.cell hop.c7 (by simp)
           have HLE := Lib.hid hop.le
           clear hop
           generalize O k = x at *
           obtain ⟨kk, aa, ll, hh, ⟨ra, rb, rc, rd⟩⟩ := x
           dsimp only at d0 d1 d2 d3 d4 d5 d6 d7
           simp only at HLE
           obtain ⟨wo, rfl⟩ : ∃ wo : World, wo = wr := ⟨_, rfl⟩
           go_upto_region 5 with (fail)
           go_cut [8, 9] (fun s8 s9 wx => ∃ ob : Nat, s8 = .int .i64 k ∧ s9 = .pointer (some ⟨ob, 0, none⟩) ∧ ob ≠ q1 ∧ wx.cell? ⟨ob, 0, none⟩ = some (.int .i64 kk) ∧ wx.cell? ⟨ob, 1, none⟩ = some (.int .i64 aa) ∧ wx.cell? ⟨ob, 2, none⟩ = some (.int .i64 ll) ∧ wx.cell? ⟨ob, 3, none⟩ = some (.int .i64 hh) ∧ wx.cell? ⟨ob, 4, none⟩ = some (.int .i64 ra) ∧ wx.cell? ⟨ob, 5, none⟩ = some (.int .i64 rb) ∧ wx.cell? ⟨ob, 6, none⟩ = some (.int .i64 rc) ∧ wx.cell? ⟨ob, 7, none⟩ = some (.int .i64 rd) ∧ wo.grownBy wx none)
           case first =>
             go_wp2
             go_meet
             exact ⟨wo.heap.size, rfl, rfl, by have := HPP.out.tab.rows.qlt; omega, by rw [cell_alloc_new]; rfl, by rw [cell_alloc_new]; rfl, by rw [cell_alloc_new]; rfl, by rw [cell_alloc_new]; rfl, by rw [cell_alloc_new]; rfl, by rw [cell_alloc_new]; rfl, by rw [cell_alloc_new]; rfl, by rw [cell_alloc_new]; rfl, grown_alloc _ _ _⟩
           case rest =>
             obtain ⟨ob, rfl, rfl, hobq, o0, o1, o2, o3, o4, o5, o6, o7, hgo⟩ := hcut
             have HP3 := Lib.hid (HPP.out.grown hgo)
             clear HPP hgo d0 d1 d2 d3 d4 d5 d6 d7
             obtain ⟨w3, rfl⟩ : ∃ w3 : World, w3 = wc := ⟨_, rfl⟩
             by_cases h40 : 40 ≤ k
             · have h40' : (40 : Int) ≤ k := by omega
               go_wp2_with fail
               refine (psame_at HP3.out.tab HP3.out.rows).mono ?_
               rintro e w4 ⟨rfl, hg⟩
               have HG4 := Lib.hid (grown_trans HP3.out.grow hg)
               clear hg
               go_wp2_with fail
               refine (pawake_at w4).mono ?_
               rintro e w5 ⟨rfl, hg⟩
               have HG5 := Lib.hid (grown_trans HG4.out hg)
               clear hg
               go_wp2
               go_ret
               exact ⟨rfl, HG5.out⟩
             · have h40' : ¬ (40 : Int) ≤ k := by omega
               by_cases c6 : kk = 6
               · subst c6
                 go_wp2_with fail
                 refine (pcopy_at HP3.out.tab).mono ?_
                 rintro e w4 ⟨p2, q2, cap2, rfl, ht, hp2, hq2, hg⟩
                 have HT2 := Lib.hid ht
                 have HG4 := Lib.hid hg
                 have HPQ := Lib.hid (And.intro hp2 hq2)
                 clear ht hg hp2 hq2
                 go_wp2_with fail
                 refine (map_two (HP3.out.tab.grown HG4.out (by simp) (by simp)) 0 m 1 0 0 1).mono ?_
                 rintro e w5 ⟨x, er, rfl, hmr⟩
                 have HG5 := Lib.hid hmr.grown
                 clear hmr
                 go_wp2_with fail
                 go_roundw
                 case rel => exact ⟨k + 1, p2, q2, cap2, b1, bc1, R, by omega, by go_num, rfl, rfl, HP3.out.copy HT2.out HPQ.out.1 HPQ.out.2 HG4.out HG5.out⟩
                 case measure => simp [intOf]; omega
               · have n6 : (kk == 6) = false := by simpa using c6
                 clear c6
                 go_wp2_with fail
                 refine (step_at HP3.out.tab HP3.out.rows HP3.out.bp HP3.out.bq kk aa ll hh ra rb rc rd HLE.out).mono ?_
                 rintro e w4 ⟨b2, bc2, R2, rfl, ht, hr, h1, h2, hg⟩
                 have HP4 := Lib.hid (HP3.out.step ht hr h1 h2 hg)
                 clear ht hr h1 h2 hg
                 go_wp2_with fail
                 refine (psame_at HP4.out.tab HP4.out.rows).mono ?_
                 rintro e w5 ⟨rfl, hg⟩
                 have HP5 := Lib.hid (HP4.out.grown hg)
                 clear hg
                 go_wp2_with fail
                 go_roundw
                 case rel => exact ⟨k + 1, p1, q1, cap1, b2, bc2, R2, by omega, by go_num, rfl, rfl, HP5.out⟩
                 case measure => simp [intOf]; omega)
      · obtain rfl : k = len := by omega
        go_wp2_with fail
        refine (psame_at HPP.out.tab HPP.out.rows).mono ?_
        rintro e w4 ⟨rfl, hg⟩
        have HG4 := Lib.hid (grown_trans HPP.out.grow hg)
        clear hg
        go_wp2_with fail
        refine (pawake_at w4).mono ?_
        rintro e w5 ⟨rfl, hg⟩
        have HG5 := Lib.hid (grown_trans HG4.out hg)
        clear hg
        go_wp2
        go_ret
        exact ⟨rfl, HG5.out⟩
end Go.Proofs.Ytbpganholopjfaa
