/- The walks of the reference's Lay and Clear; of the law's ours and Same. -/
import Derived.Test.YtbpganholopjfaaPG
namespace Go.Proofs.Ytbpganholopjfaa
open Go.RowKit

/-- Rows of which m from a on are x. -/
def fillK (R : Nat → Pg.Row) (a m : Nat) (x : Pg.Row) : Nat → Pg.Row := fun i => if a ≤ i ∧ i < a + m then x else R i
theorem fillK_zero (R : Nat → Pg.Row) (a : Nat) (x : Pg.Row) : fillK R a 0 x = R := by
  funext i
  unfold fillK
  rw [if_neg (by omega)]
theorem fillK_succ (R : Nat → Pg.Row) (a m : Nat) (x : Pg.Row) (i : Nat) : fillK R a (m + 1) x i = if i = a + m then x else fillK R a m x i := by
  unfold fillK
  by_cases g : i = a + m
  · rw [if_pos g, if_pos (by omega)]
  · rw [if_neg g]
    by_cases k : a ≤ i ∧ i < a + m
    · rw [if_pos k, if_pos (by omega)]
    · rw [if_neg k, if_neg (by omega)]
theorem fillK_lay (R : Nat → Pg.Row) (a m : Nat) (x : Pg.Row) (h : (m : Int) = x.r) (i : Nat) : Pg.lay R a x i = if i = a then x else fillK R a m Pg.tail i := by
  unfold Pg.lay fillK
  by_cases g : i = a
  · rw [if_pos g, if_pos g]
  · rw [if_neg g, if_neg g]
    by_cases k : a ≤ i ∧ i < a + m
    · rw [if_pos k, if_pos (by omega)]
    · rw [if_neg k, if_neg (by omega)]

set_option maxRecDepth 100000 in
set_option maxHeartbeats 4000000 in
theorem rlay_at (q n cap at_ m : Nat) (R : Nat → Pg.Row) (a b c : Int) (w : World) (hn : n ≤ 256) (h1 : 1 ≤ m) (hm : at_ + m ≤ n) (hrow : RowsAt w q n R) :
    Calls Try.prog 69 #[.slice (some ⟨q, 0, none⟩) n cap, .int .i64 at_, .agg #[.int .i64 a, .int .i64 b, .int .i64 c, .int .i64 m]] w fun e w' => PRows w w' n (Pg.lay R at_ ⟨a, b, c, m⟩) e := by
  have HR := Lib.hid hrow
  clear hrow
  obtain ⟨i0, hi, hz0, hz1, hz2⟩ := info_parts infoRRow
  have hat : at_ ≤ 256 := by omega
  have hm2 : m ≤ 256 := by omega
  have hat3 : (at_ : Int) < n := by omega
  go_enter Try.func69, Try.ntmps69
  go_upto_region 0 with (fail)
  go_cut [5, 6] (fun s5 s6 wx => s5 = .pointer (some ⟨w.heap.size, 0, none⟩) ∧ s6 = .slice none 0 0 ∧ wx.cell? ⟨w.heap.size, 0, none⟩ = some (.int .i64 a) ∧ wx.cell? ⟨w.heap.size, 1, none⟩ = some (.int .i64 b) ∧ wx.cell? ⟨w.heap.size, 2, none⟩ = some (.int .i64 c) ∧ wx.cell? ⟨w.heap.size, 3, none⟩ = some (.int .i64 m) ∧ w.heap.size < wx.heap.size ∧ w.grownBy wx none)
  case first =>
    go_wp2
    go_meet
    exact ⟨rfl, rfl, by rw [cell_alloc_new]; rfl, by rw [cell_alloc_new]; rfl, by rw [cell_alloc_new]; rfl, by rw [cell_alloc_new]; rfl, by simp, grown_alloc _ _ _⟩
  case rest =>
  obtain ⟨rfl, rfl, e0, e1, e2, e3, hsz, hgb⟩ := hcut
  have HGB := Lib.hid hgb
  have HR2 := Lib.hid (HR.out.grown hgb (by simp))
  obtain ⟨ob, hob⟩ : ∃ ob, ob = w.heap.size := ⟨_, rfl⟩
  rw [← hob] at e0 e1 e2 e3 hsz ⊢
  have HOB := Lib.hid hob
  have hql := HR.out.qlt
  clear hgb hob HR
  obtain ⟨w0, rfl⟩ : ∃ w0 : World, w0 = wc := ⟨_, rfl⟩
  go_wp2_with (at_builtin; refine wpList_append_own _ rfl _ _ 68 rfl w0.heap.size 71 i0 (.agg #[.int .i64 0, .int .i64 0, .int .i64 0, .int .i64 0]) 4 32 Try.underlying68 hi hz0 hz1 hz2 rfl (by decide) _ _ _ rfl (World.ownsRow_made w0 #[] 0 (Nat.le_refl _) (Nat.zero_le _) rfl) ⟨q, 0, none⟩ n cap (rcells R n) rfl ?c1 ?c2 ?c3 ?c4 ?c5 ?c6 ?_)
  case c1 => exact rcells_length R n
  case c2 =>
    intro j u hj
    have hj' : j < n * 4 := by
      have := (List.getElem?_eq_some_iff.1 hj).1
      rwa [rcells_length] at this
    rw [rcells_at R n j hj'] at hj
    rw [addr_add]
    have h2 := (grown_alloc w0 (.cells #[] 71) none).cell (HR2.out.cell j hj') (by simp)
    rw [← hj]
    exact h2
  case c3 => exact rcells_one R n
  case c4 => simp only [maxLen]; omega
  case c5 => omega
  case c6 => simp
  intro v' w1 hown hgrow hiff
  have hv : v' ≠ .slice none 0 0 := fun e => hiff e
  obtain ⟨q1, cap1, hv1, k1, k2, k3, k4⟩ := prows_end _ w0 w1 n R v' (by simpa using hown) (grown_own (grown_alloc w0 _ none) hgrow (Nat.le_refl _)) hv
  obtain rfl : v' = .slice (some ⟨q1, 0, none⟩) n cap1 := by injection hv1
  clear hown hgrow hiff hv hv1 hz0 hz1 hz2 hi
  have e3' := k4.cell e3 (by simp)
  have e0' := k4.cell e0 (by simp)
  have e1' := k4.cell e1 (by simp)
  have e2' := k4.cell e2 (by simp)
  have K := Lib.hid (And.intro k1 (And.intro k2 (And.intro k3 k4)))
  have hoq : ob ≠ q1 := by omega
  have hk1 : (n : Int) ≤ cap1 := by omega
  have hq1 := k2
  clear k1 k2 k3 k4 e0 e1 e2 e3
  obtain ⟨w2, rfl⟩ : ∃ w2 : World, w2 = w1 := ⟨_, rfl⟩
  go_wp2_with fail
  go_loopw [8] (fun i wr => ∃ k : Nat, k ≤ m ∧ i = .int .i64 ((at_ : Int) + k) ∧ RowsAt wr q1 n (fillK R at_ k Pg.tail) ∧ w2.grownBy wr (some q1)) (fun i _ => at_ + m - (intOf i).toNat)
  case atStart => exact ⟨0, Nat.zero_le _, vint (by omega), by rw [fillK_zero]; exact K.out.2.2.1, grown_refl _ _⟩
  case round =>
    obtain ⟨k, hk, rfl, hr, hg⟩ := hrel
    have HRK := Lib.hid hr
    have HG := Lib.hid hg
    have f3 := hg.cell e3' (by simp; omega)
    clear hr hg
    have hk256 : k ≤ 256 := by omega
    by_cases hlt : k < m
    · have hlt' : (at_ : Int) + k < at_ + m := by omega
      have hj : at_ + k < n := by omega
      have hj' : (at_ : Int) + k < n := by omega
      have d0 := HRK.out.c0 _ hj
      have d1 := HRK.out.c1 _ hj
      have d2 := HRK.out.c2 _ hj
      have d3 := HRK.out.c3 _ hj
      have z0 := HRK.out.fz
      have HRN := Lib.hid (rows_set HRK.out (at_ + k) hj Pg.tail (fillK R at_ (k + 1) Pg.tail) (fun i _ => fillK_succ _ _ _ _ i))
      have HGN := Lib.hid (grown_trans HG.out (grown_setRow wr q1 (at_ + k) Pg.tail))
      go_wp2
      go_roundw
      case rel => exact ⟨k + 1, by omega, vint (by omega), HRN.out, HGN.out⟩
      case measure => simp [intOf]; omega
    · obtain rfl : k = m := by omega
      have hlt' : ¬ (at_ : Int) + k < at_ + k := by omega
      have f0 := HG.out.cell e0' (by simp; omega)
      have f1 := HG.out.cell e1' (by simp; omega)
      have f2 := HG.out.cell e2' (by simp; omega)
      have hj : at_ < n := by omega
      have d0 := HRK.out.c0 _ hj
      have d1 := HRK.out.c1 _ hj
      have d2 := HRK.out.c2 _ hj
      have d3 := HRK.out.c3 _ hj
      have z0 := HRK.out.fz
      have HRN := Lib.hid (rows_set HRK.out at_ hj ⟨a, b, c, k⟩ (Pg.lay R at_ ⟨a, b, c, k⟩) (fun i _ => fillK_lay R at_ k ⟨a, b, c, k⟩ rfl i))
      have HGN := Lib.hid (grown_own HGB.out (grown_own K.out.2.2.2 (grown_trans HG.out (grown_setRow wr q1 at_ ⟨a, b, c, k⟩)) K.out.2.1 |> grown_none (r := some q1)) (Nat.le_trans HGB.out.size K.out.2.1))
      go_wp2
      go_ret
      exact ⟨q1, cap1, rfl, K.out.1, Nat.le_trans HGB.out.size K.out.2.1, HRN.out, HGN.out⟩

set_option maxRecDepth 100000 in
set_option maxHeartbeats 4000000 in
theorem rclear_at (q n cap at_ m : Nat) (R : Nat → Pg.Row) (w : World) (hn : n ≤ 256) (h1 : 1 ≤ m) (hm : at_ + m ≤ n) (hmr : (R at_).r = m) (hrow : RowsAt w q n R) :
    Calls Try.prog 71 #[.slice (some ⟨q, 0, none⟩) n cap, .int .i64 at_] w fun e w' => PRows w w' n (Pg.clr R at_ m) e := by
  have HR := Lib.hid hrow
  clear hrow
  obtain ⟨i0, hi, hz0, hz1, hz2⟩ := info_parts infoRRow
  have hat : at_ ≤ 256 := by omega
  have hm2 : m ≤ 256 := by omega
  have hat3 : (at_ : Int) < n := by omega
  have HMR := Lib.hid hmr
  clear hmr
  go_enter Try.func71, Try.ntmps71
  obtain ⟨w0, rfl⟩ : ∃ w0 : World, w0 = w := ⟨_, rfl⟩
  go_wp2_with (at_builtin; refine wpList_append_own _ rfl _ _ 68 rfl w0.heap.size 71 i0 (.agg #[.int .i64 0, .int .i64 0, .int .i64 0, .int .i64 0]) 4 32 Try.underlying68 hi hz0 hz1 hz2 rfl (by decide) _ _ _ rfl (World.ownsRow_made w0 #[] 0 (Nat.le_refl _) (Nat.zero_le _) rfl) ⟨q, 0, none⟩ n cap (rcells R n) rfl ?c1 ?c2 ?c3 ?c4 ?c5 ?c6 ?_)
  case c1 => exact rcells_length R n
  case c2 =>
    intro j u hj
    have hj' : j < n * 4 := by
      have := (List.getElem?_eq_some_iff.1 hj).1
      rwa [rcells_length] at this
    rw [rcells_at R n j hj'] at hj
    rw [addr_add]
    have h2 := (grown_alloc w0 (.cells #[] 71) none).cell (HR.out.cell j hj') (by simp)
    rw [← hj]
    exact h2
  case c3 => exact rcells_one R n
  case c4 => simp only [maxLen]; omega
  case c5 => omega
  case c6 => simp
  intro v' w1 hown hgrow hiff
  have hv : v' ≠ .slice none 0 0 := fun e => hiff e
  obtain ⟨q1, cap1, hv1, k1, k2, k3, k4⟩ := prows_end _ w0 w1 n R v' (by simpa using hown) (grown_own (grown_alloc w0 _ none) hgrow (Nat.le_refl _)) hv
  obtain rfl : v' = .slice (some ⟨q1, 0, none⟩) n cap1 := by injection hv1
  clear hown hgrow hiff hv hv1 hz0 hz1 hz2 hi
  have e3 := k4.cell (HR.out.c3 at_ (by omega)) (by simp)
  rw [HMR.out] at e3
  have K := Lib.hid (And.intro k1 (And.intro k2 (And.intro k3 k4)))
  have hk1 : (n : Int) ≤ cap1 := by omega
  clear k1 k2 k3 k4
  obtain ⟨w2, rfl⟩ : ∃ w2 : World, w2 = w1 := ⟨_, rfl⟩
  go_wp2_with fail
  go_loopw [7] (fun i wr => ∃ k : Nat, k ≤ m ∧ i = .int .i64 ((at_ : Int) + k) ∧ RowsAt wr q1 n (fillK R at_ k Pg.zero) ∧ w2.grownBy wr (some q1)) (fun i _ => at_ + m - (intOf i).toNat)
  case atStart => exact ⟨0, Nat.zero_le _, vint (by omega), by rw [fillK_zero]; exact K.out.2.2.1, grown_refl _ _⟩
  case round =>
    obtain ⟨k, hk, rfl, hr, hg⟩ := hrel
    have HRK := Lib.hid hr
    have HG := Lib.hid hg
    clear hr hg
    have hk256 : k ≤ 256 := by omega
    by_cases hlt : k < m
    · have hlt' : (at_ : Int) + k < at_ + m := by omega
      have hj : at_ + k < n := by omega
      have hj' : (at_ : Int) + k < n := by omega
      have d0 := HRK.out.c0 _ hj
      have d1 := HRK.out.c1 _ hj
      have d2 := HRK.out.c2 _ hj
      have d3 := HRK.out.c3 _ hj
      have z0 := HRK.out.fz
      have HRN := Lib.hid (rows_set HRK.out (at_ + k) hj Pg.zero (fillK R at_ (k + 1) Pg.zero) (fun i _ => fillK_succ _ _ _ _ i))
      have HGN := Lib.hid (grown_trans HG.out (grown_setRow wr q1 (at_ + k) Pg.zero))
      go_wp2
      go_roundw
      case rel => exact ⟨k + 1, by omega, vint (by omega), HRN.out, HGN.out⟩
      case measure => simp [intOf]; omega
    · obtain rfl : k = m := by omega
      have hlt' : ¬ (at_ : Int) + k < at_ + k := by omega
      have HGN := Lib.hid (grown_own K.out.2.2.2 HG.out K.out.2.1)
      go_wp2
      go_ret
      exact ⟨q1, cap1, rfl, K.out.1, K.out.2.1, HRK.out, HGN.out⟩

set_option maxHeartbeats 1000000 in
theorem ours_at (a b c d : Int) (w : World) :
    Calls Try.prog 66 #[.agg #[.int .i64 a, .int .i64 b, .int .i64 c, .int .i64 d]] w fun e w' => e = .returned (.agg #[.int .i64 a, .int .i64 b, .int .i64 c, .int .i64 d]) ∧ w.grownBy w' none := by
  go_enter Try.func66, Try.ntmps66
  go_wp2
  exact bodyPost_ret (v := .agg #[.int .i64 a, .int .i64 b, .int .i64 c, .int .i64 d]) (by simp [results, Try.results66, go_sem]) rfl ⟨rfl, grown_trans (grown_alloc _ _ _) (grown_alloc _ _ _)⟩
end Go.Proofs.Ytbpganholopjfaa
