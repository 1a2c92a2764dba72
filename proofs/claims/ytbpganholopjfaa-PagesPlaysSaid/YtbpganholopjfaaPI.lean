/- The walk of the law's Same: of a table and rows that are alike. -/
import Derived.Test.YtbpganholopjfaaPH
namespace Go.Proofs.Ytbpganholopjfaa
open Go.RowKit

/-- Rows of the reference's, at block b. -/
theorem prow_any {w : World} {p q n cap : Nat} {R : Nat → Pg.Row} (h : TabAt w p q n cap R) (i : Int) (x : Pg.Row) (hx : getR R n i = x) :
    Calls Try.prog 48 #[.pointer (some ⟨p, 0, none⟩), .int .i64 i] w fun e w' => e = .returned (.agg #[.int .i64 x.k, .int .i64 x.c, .int .i64 x.o, .int .i64 x.r]) ∧ w.grownBy w' none := by
  subst hx; exact prow_at h i

set_option maxRecDepth 100000 in
set_option maxHeartbeats 4000000 in
theorem psame_at {w : World} {p q n cap b bc : Nat} {R : Nat → Pg.Row} (h : TabAt w p q n cap R) (hb : RowsAt w b n R) :
    Calls Try.prog 39 #[.pointer (some ⟨p, 0, none⟩), .slice (some ⟨b, 0, none⟩) n bc] w fun e w' => e = .returned (.bool true) ∧ w.grownBy w' none := by
  have H := Lib.hid h
  have HB := Lib.hid hb
  have hn := h.small
  clear h hb
  go_enter Try.func39, Try.ntmps39
  go_wp2_with (go_at_call 47; refine (plen_at H.out).mono ?_; rintro e w' ⟨rfl, rfl⟩)
  go_loopw [14] (fun i wr => ∃ k : Nat, k ≤ n ∧ i = .int .i64 k ∧ w.grownBy wr none) (fun i _ => n - (intOf i).toNat)
  case atStart => exact ⟨0, Nat.zero_le _, rfl, grown_refl _ _⟩
  case round =>
    obtain ⟨k, hk, rfl, hg⟩ := hrel
    have HG := Lib.hid hg
    clear hg
    by_cases hlt : k < n
    · obtain ⟨w1, rfl⟩ : ∃ w1 : World, w1 = wr := ⟨_, rfl⟩
      have HRK := HB.out.grown HG.out (by simp)
      have d0 := HRK.c0 _ hlt
      have d1 := HRK.c1 _ hlt
      have d2 := HRK.c2 _ hlt
      have d3 := HRK.c3 _ hlt
      have HROW := Lib.hid (fun (W : World) (g : w.grownBy W none) => prow_any (H.out.grown g (by simp) (by simp)) k (R k) (getR_in hlt))
      clear HRK
      generalize R k = x at *
      obtain ⟨xa, xb, xc, xd⟩ := x
      dsimp only at d0 d1 d2 d3
      simp only at HROW
      go_upto_region 5 with (fail)
      go_cut [5, 6] (fun s5 s6 wx => s5 = .int .i64 k ∧ s6 = .pointer (some ⟨w1.heap.size, 0, none⟩) ∧ wx.cell? ⟨w1.heap.size, 0, none⟩ = some (.int .i64 xa) ∧ wx.cell? ⟨w1.heap.size, 1, none⟩ = some (.int .i64 xb) ∧ wx.cell? ⟨w1.heap.size, 2, none⟩ = some (.int .i64 xc) ∧ wx.cell? ⟨w1.heap.size, 3, none⟩ = some (.int .i64 xd) ∧ w1.grownBy wx none)
      case first =>
        go_wp2
        go_meet
        exact ⟨rfl, rfl, by rw [cell_alloc_new]; rfl, by rw [cell_alloc_new]; rfl, by rw [cell_alloc_new]; rfl, by rw [cell_alloc_new]; rfl, grown_alloc _ _ _⟩
      case rest =>
      obtain ⟨rfl, rfl, e0, e1, e2, e3, hgb⟩ := hcut
      have HGB := Lib.hid (grown_trans HG.out hgb)
      clear hgb d0 d1 d2 d3
      generalize w1.heap.size = ob at *
      obtain ⟨w2, rfl⟩ : ∃ w2 : World, w2 = wc := ⟨_, rfl⟩
      go_upto_region 6 with (fail)
      go_cut [24] (fun s wx => s = .bool false ∧ w.grownBy wx none)
      case first =>
        go_region_with (first
          | (go_at_call 48; (refine (HROW.out _ ?_).mono ?_; (focus (first | exact grown_drew1 HGB.out | exact grown_trans (grown_drew1 HGB.out) HG4.out)); rintro e w3 ⟨rfl, hg3⟩; have f0 := hg3.cell e0 (by simp); have f1 := hg3.cell e1 (by simp); have f2 := hg3.cell e2 (by simp); have f3 := hg3.cell e3 (by simp); have HG3 := Lib.hid hg3; clear hg3))
          | (go_at_call 66; refine (ours_at xa xb xc xd _).mono ?_; rintro e w4 ⟨rfl, hg4⟩; have HG4 := Lib.hid hg4; clear hg4))
        all_goals
          go_wp2
          go_meet
          exact ⟨rfl, by first | exact grown_trans (grown_trans (grown_drew1 HGB.out) HG3.out) HG4.out | exact grown_trans (grown_trans (grown_drew1 HGB.out) HG4.out) HG3.out⟩
      case rest =>
        obtain ⟨rfl, hg⟩ := hcut
        have HG2 := Lib.hid hg
        clear hg
        go_wp2_with fail
        go_roundw
        case rel => exact ⟨k + 1, by omega, by go_num, HG2.out⟩
        case measure => simp [intOf]; omega
    · obtain rfl : k = n := by omega
      have HR1 := Lib.hid (fun (W : World) (g : w.grownBy W none) => prow_any (H.out.grown g (by simp) (by simp)) (-1) Pg.zero (getR_out (by omega)))
      have HR2 := Lib.hid (fun (W : World) (g : w.grownBy W none) => prow_any (H.out.grown g (by simp) (by simp)) k Pg.zero (getR_out (by omega)))
      simp only [Pg.zero] at HR1 HR2
      go_wp2_with fail
      refine (HR1.out _ HG.out).mono ?_
      rintro e w1 ⟨rfl, hg1⟩
      have HG1 := Lib.hid (grown_trans HG.out hg1)
      clear hg1
      go_wp2_with fail
      refine (HR2.out _ HG1.out).mono ?_
      rintro e w2 ⟨rfl, hg2⟩
      have HG2 := Lib.hid (grown_trans HG1.out hg2)
      clear hg2
      go_wp2
      go_ret
      exact ⟨rfl, HG2.out⟩
end Go.Proofs.Ytbpganholopjfaa
