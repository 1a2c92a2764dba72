/- The walk of the law's step at the other calls: Unmap, Head, nothing. -/
import Derived.Test.YtbpganholopjfaaPK
namespace Go.Proofs.Ytbpganholopjfaa
open Go.RowKit

set_option maxRecDepth 100000 in
set_option maxHeartbeats 8000000 in
theorem step_other {w : World} {p q n cap b bc : Nat} {R : Nat → Pg.Row} (h : TabAt w p q n cap R) (hb : RowsAt w b n R) (hbp : b ≠ p) (hbq : b ≠ q) (kk at_ lo hi ra rb rc rd : Int) (hk : ¬ (kk = 0 ∨ kk = 1 ∨ kk = 2 ∨ kk = 3 ∨ kk = 4 ∨ kk = 5)) :
    Calls Try.prog 38 #[.pointer (some ⟨p, 0, none⟩), .slice (some ⟨b, 0, none⟩) n bc, .agg #[.int .i64 kk, .int .i64 at_, .int .i64 lo, .int .i64 hi, .int .i64 ra, .int .i64 rb, .int .i64 rc, .int .i64 rd]] w (StepRes w p q n cap) := by
  have H := Lib.hid h
  have HB := Lib.hid hb
  have HBP := Lib.hid hbp
  have HBQ := Lib.hid hbq
  have hn := h.small
  have hbl := hb.qlt
  have hpl := h.plt
  have hql := h.rows.qlt
  have hobq : some w.heap.size ≠ some q := by simp; omega
  have hpw : p < w.heap.size := hpl
  have hqw : q < w.heap.size := hql
  clear h hb hbp hbq
  have n0 : (kk == 0) = false := by simp; omega
  have n1 : (kk == 1) = false := by simp; omega
  have n2 : (kk == 2) = false := by simp; omega
  have n3 : (kk == 3) = false := by simp; omega
  have n4 : (kk == 4) = false := by simp; omega
  have n5 : (kk == 5) = false := by simp; omega
  clear hk
  go_enter Try.func38, Try.ntmps38
  go_upto_region 0 with (fail)
  go_cut [5, 6, 7] (fun s5 s6 s7 wx => s5 = .pointer (some ⟨w.heap.size, 0, none⟩) ∧ s6 = .slice none 0 0 ∧ s7 = .bool false ∧ wx.cell? ⟨w.heap.size, 0, none⟩ = some (.int .i64 kk) ∧ wx.cell? ⟨w.heap.size, 1, none⟩ = some (.int .i64 at_) ∧ w.heap.size < wx.heap.size ∧ w.grownBy wx none)
  case first =>
    go_wp2
    go_meet
    exact ⟨rfl, rfl, rfl, by rw [cell_alloc_new]; rfl, by rw [cell_alloc_new]; rfl, by simp, grown_alloc _ _ _⟩
  case rest =>
  obtain ⟨rfl, rfl, rfl, e0, e1, hsz, hgb⟩ := hcut
  have HG := Lib.hid hgb
  have HT := Lib.hid (H.out.grown hgb (by simp) (by simp))
  have HBR := Lib.hid (HB.out.grown hgb (by simp))
  clear hgb
  obtain ⟨ob, hob⟩ : ∃ ob, ob = w.heap.size := ⟨_, rfl⟩
  rw [← hob] at e0 e1 hsz hobq ⊢
  clear hob
  obtain ⟨w0, rfl⟩ : ∃ w0 : World, w0 = wc := ⟨_, rfl⟩
  go_wp2
  go_ret2
  exact ⟨b, bc, R, rfl, HT.out, HBR.out, HBP.out, HBQ.out, grown_none HG.out⟩

set_option maxRecDepth 100000 in
set_option maxHeartbeats 8000000 in
theorem step_unmap_no {w : World} {p q n cap b bc : Nat} {R : Nat → Pg.Row} (h : TabAt w p q n cap R) (hb : RowsAt w b n R) (hbp : b ≠ p) (hbq : b ≠ q) (kk at_ lo hi ra rb rc rd : Int) (hk : kk = 3 ∨ kk = 4) (hh : Pg.isHead (getR R n at_) = false) :
    Calls Try.prog 38 #[.pointer (some ⟨p, 0, none⟩), .slice (some ⟨b, 0, none⟩) n bc, .agg #[.int .i64 kk, .int .i64 at_, .int .i64 lo, .int .i64 hi, .int .i64 ra, .int .i64 rb, .int .i64 rc, .int .i64 rd]] w (StepRes w p q n cap) := by
  have H := Lib.hid h
  have HB := Lib.hid hb
  have HBP := Lib.hid hbp
  have HBQ := Lib.hid hbq
  have hn := h.small
  have hbl := hb.qlt
  have hpl := h.plt
  have hql := h.rows.qlt
  have hobq : some w.heap.size ≠ some q := by simp; omega
  have hpw : p < w.heap.size := hpl
  have hqw : q < w.heap.size := hql
  clear h hb hbp hbq
  have HH := Lib.hid hh
  clear hh
  go_enter Try.func38, Try.ntmps38
  go_upto_region 0 with (fail)
  go_cut [5, 6, 7] (fun s5 s6 s7 wx => s5 = .pointer (some ⟨w.heap.size, 0, none⟩) ∧ s6 = .slice none 0 0 ∧ s7 = .bool false ∧ wx.cell? ⟨w.heap.size, 0, none⟩ = some (.int .i64 kk) ∧ wx.cell? ⟨w.heap.size, 1, none⟩ = some (.int .i64 at_) ∧ w.heap.size < wx.heap.size ∧ w.grownBy wx none)
  case first =>
    go_wp2
    go_meet
    exact ⟨rfl, rfl, rfl, by rw [cell_alloc_new]; rfl, by rw [cell_alloc_new]; rfl, by simp, grown_alloc _ _ _⟩
  case rest =>
  obtain ⟨rfl, rfl, rfl, e0, e1, hsz, hgb⟩ := hcut
  have HG := Lib.hid hgb
  have HT := Lib.hid (H.out.grown hgb (by simp) (by simp))
  have HBR := Lib.hid (HB.out.grown hgb (by simp))
  clear hgb
  obtain ⟨ob, hob⟩ : ∃ ob, ob = w.heap.size := ⟨_, rfl⟩
  rw [← hob] at e0 e1 hsz hobq ⊢
  clear hob
  obtain ⟨w0, rfl⟩ : ∃ w0 : World, w0 = wc := ⟨_, rfl⟩
  have HU := Lib.hid (fun W (g : w0.grownBy W none) => unmap_other (HT.out.grown g (by simp) (by simp)) at_ HH.out)
  rcases hk with rfl | rfl
  all_goals
    go_wp2_with fail
    refine (HU.out _ (grown_refl _ _)).mono ?_
    rintro e w1 ⟨rfl, hg⟩
    have HG1 := Lib.hid hg
    have f1 := hg.cell e1 (by simp)
    clear hg
    have HF := Lib.hid (show StepRes w p q n cap (.returned (.tuple #[.slice (some ⟨b, 0, none⟩) n bc, .bool true])) w1 from ⟨b, bc, R, rfl, HT.out.grown HG1.out (by simp) (by simp), HBR.out.grown HG1.out (by simp), HBP.out, HBQ.out, grown_none (grown_trans HG.out HG1.out)⟩)
    by_cases h0 : at_ < 0
    · have h0' : decide (at_ < 0) = true := by simpa using h0
      go_wp2
      go_ret2
      exact HF.out
    · have h0' : decide (at_ < 0) = false := by simpa using h0
      by_cases h1 : (n : Int) ≤ at_
      · have h1' : decide ((n : Int) ≤ at_) = true := by simpa using h1
        go_wp2
        go_ret2
        exact HF.out
      · have h1' : decide ((n : Int) ≤ at_) = false := by simpa using h1
        obtain ⟨i, rfl⟩ : ∃ i : Nat, at_ = i := ⟨at_.toNat, by omega⟩
        have hin : i < n := by omega
        have hin' : (i : Int) < n := by omega
        have h1'' : decide (n ≤ i) = false := by simp; omega
        have hh := HH.out
        rw [getR_in hin] at hh
        have HFH := Lib.hid (fun W => first_head (R i) W)
        rw [hh] at HFH
        have d0 := HBR.out.grown HG1.out (by simp) |>.c0 i hin
        clear hh HU HH
        generalize R i = x at *
        obtain ⟨xa, xb, xc, xd⟩ := x
        simp only at d0 HFH
        go_wp2_with (go_at_call 70; refine (HFH.out _).mono ?_; rintro e w' ⟨rfl, rfl⟩)
        go_ret2
        exact HF.out

set_option maxRecDepth 100000 in
set_option maxHeartbeats 8000000 in
theorem step_unmap_yes {w : World} {p q n cap b bc : Nat} {R : Nat → Pg.Row} (h : TabAt w p q n cap R) (hb : RowsAt w b n R) (hbp : b ≠ p) (hbq : b ≠ q) (kk at_ lo hi ra rb rc rd : Int) (hk : kk = 3 ∨ kk = 4) (i : Nat) (hia : at_ = i) (hin : i < n) (hh : Pg.isHead (R i) = true) (m : Nat) (hmr : (R i).r = m) :
    Calls Try.prog 38 #[.pointer (some ⟨p, 0, none⟩), .slice (some ⟨b, 0, none⟩) n bc, .agg #[.int .i64 kk, .int .i64 at_, .int .i64 lo, .int .i64 hi, .int .i64 ra, .int .i64 rb, .int .i64 rc, .int .i64 rd]] w (StepRes w p q n cap) := by
  have H := Lib.hid h
  have HB := Lib.hid hb
  have HBP := Lib.hid hbp
  have HBQ := Lib.hid hbq
  have hn := h.small
  have hbl := hb.qlt
  have hpl := h.plt
  have hql := h.rows.qlt
  have hobq : some w.heap.size ≠ some q := by simp; omega
  have hpw : p < w.heap.size := hpl
  have hqw : q < w.heap.size := hql
  clear h hb hbp hbq
  have HH := Lib.hid hh
  have HMR := Lib.hid hmr
  have HIA := Lib.hid hia
  clear hia
  have hin' : (i : Int) < n := by omega
  have h1'' : decide (n ≤ i) = false := by simp; omega
  have h1' : decide ((n : Int) ≤ i) = false := by simp; omega
  obtain ⟨r1, r2, r3, _⟩ := H.out.ok.headr hin hh
  rw [hmr] at r1 r2 r3
  have hm1 : 1 ≤ m := by omega
  have hmn : i + m ≤ n := by omega
  clear hh hmr r1 r2 r3
  go_enter Try.func38, Try.ntmps38
  go_upto_region 0 with (fail)
  go_cut [5, 6, 7] (fun s5 s6 s7 wx => s5 = .pointer (some ⟨w.heap.size, 0, none⟩) ∧ s6 = .slice none 0 0 ∧ s7 = .bool false ∧ wx.cell? ⟨w.heap.size, 0, none⟩ = some (.int .i64 kk) ∧ wx.cell? ⟨w.heap.size, 1, none⟩ = some (.int .i64 at_) ∧ w.heap.size < wx.heap.size ∧ w.grownBy wx none)
  case first =>
    go_wp2
    go_meet
    exact ⟨rfl, rfl, rfl, by rw [cell_alloc_new]; rfl, by rw [cell_alloc_new]; rfl, by simp, grown_alloc _ _ _⟩
  case rest =>
  obtain ⟨rfl, rfl, rfl, e0, e1, hsz, hgb⟩ := hcut
  have HG := Lib.hid hgb
  have HT := Lib.hid (H.out.grown hgb (by simp) (by simp))
  have HBR := Lib.hid (HB.out.grown hgb (by simp))
  clear hgb
  obtain ⟨ob, hob⟩ : ∃ ob, ob = w.heap.size := ⟨_, rfl⟩
  rw [← hob] at e0 e1 hsz hobq ⊢
  clear hob
  obtain ⟨w0, rfl⟩ : ∃ w0 : World, w0 = wc := ⟨_, rfl⟩
  obtain rfl := HIA.out
  have HU := Lib.hid (unmap_core HT.out i hin HH.out m HMR.out)
  rcases hk with rfl | rfl
  all_goals
    go_wp2_with fail
    refine HU.out.mono ?_
    rintro e w1 ⟨rfl, ht, hg⟩
    have HG1 := Lib.hid hg
    have HT1 := Lib.hid ht
    have f1 := hg.cell e1 hobq
    have HB1 := Lib.hid (HBR.out.grown hg (fun x => HBQ.out (Option.some.inj x)))
    clear hg ht HU
    have HFH := Lib.hid (fun W => first_head (R i) W)
    rw [HH.out] at HFH
    have d0 := HB1.out.c0 i hin
    obtain ⟨xk, hxk⟩ : ∃ xk, xk = (R i).k := ⟨_, rfl⟩
    rw [← hxk] at d0 HFH
    clear hxk
    go_wp2_with fail
    refine (HFH.out _).mono ?_
    rintro e w' ⟨rfl, rfl⟩
    clear HFH
    go_wp2_with fail
    refine (rclear_at b n bc i m R w1 hn hm1 hmn HMR.out HB1.out).mono ?_
    rintro e w2 ⟨b2, bc2, rfl, _, hb2, hrow, hg⟩
    have HG2 := Lib.hid hg
    have HROW := Lib.hid hrow
    have HSZ := Lib.hid (Nat.le_trans HG.out.size (Nat.le_trans HG1.out.size hb2))
    clear hg hrow hb2
    go_wp2
    go_ret2
    have hsz2 := HSZ.out
    exact ⟨b2, bc2, _, rfl, HT1.out.grown HG2.out (by simp) (by simp), HROW.out, by omega, by omega, grown_trans (grown_none HG.out) (grown_trans HG1.out (grown_none HG2.out))⟩

set_option maxRecDepth 100000 in
set_option maxHeartbeats 8000000 in
theorem step_head {w : World} {p q n cap b bc : Nat} {R : Nat → Pg.Row} (h : TabAt w p q n cap R) (hb : RowsAt w b n R) (hbp : b ≠ p) (hbq : b ≠ q) (kk at_ lo hi ra rb rc rd : Int) (hk : kk = 5) (hat : at_ ≤ 9223372036854775807) :
    Calls Try.prog 38 #[.pointer (some ⟨p, 0, none⟩), .slice (some ⟨b, 0, none⟩) n bc, .agg #[.int .i64 kk, .int .i64 at_, .int .i64 lo, .int .i64 hi, .int .i64 ra, .int .i64 rb, .int .i64 rc, .int .i64 rd]] w (StepRes w p q n cap) := by
  have H := Lib.hid h
  have HB := Lib.hid hb
  have HBP := Lib.hid hbp
  have HBQ := Lib.hid hbq
  have hn := h.small
  have hbl := hb.qlt
  have hpl := h.plt
  have hql := h.rows.qlt
  have hobq : some w.heap.size ≠ some q := by simp; omega
  have hpw : p < w.heap.size := hpl
  have hqw : q < w.heap.size := hql
  clear h hb hbp hbq
  have HAT := Lib.hid hat
  have HK5 := Lib.hid hk
  clear hat hk
  go_enter Try.func38, Try.ntmps38
  go_upto_region 0 with (fail)
  go_cut [5, 6, 7] (fun s5 s6 s7 wx => s5 = .pointer (some ⟨w.heap.size, 0, none⟩) ∧ s6 = .slice none 0 0 ∧ s7 = .bool false ∧ wx.cell? ⟨w.heap.size, 0, none⟩ = some (.int .i64 kk) ∧ wx.cell? ⟨w.heap.size, 1, none⟩ = some (.int .i64 at_) ∧ w.heap.size < wx.heap.size ∧ w.grownBy wx none)
  case first =>
    go_wp2
    go_meet
    exact ⟨rfl, rfl, rfl, by rw [cell_alloc_new]; rfl, by rw [cell_alloc_new]; rfl, by simp, grown_alloc _ _ _⟩
  case rest =>
  obtain ⟨rfl, rfl, rfl, e0, e1, hsz, hgb⟩ := hcut
  have HG := Lib.hid hgb
  have HT := Lib.hid (H.out.grown hgb (by simp) (by simp))
  have HBR := Lib.hid (HB.out.grown hgb (by simp))
  clear hgb
  obtain ⟨ob, hob⟩ : ∃ ob, ob = w.heap.size := ⟨_, rfl⟩
  rw [← hob] at e0 e1 hsz hobq ⊢
  clear hob
  obtain ⟨w0, rfl⟩ : ∃ w0 : World, w0 = wc := ⟨_, rfl⟩
  obtain rfl := HK5.out
  by_cases hz : Pg.isZero (getR R n at_) = true
  · have HZ := Lib.hid hz
    have HHD := Lib.hid (fun W (g : w0.grownBy W none) => head_none (.pointer (some ⟨p, 0, none⟩)) at_ W (by
      have := prow_at (HT.out.grown g (by simp) (by simp)) at_
      rwa [(Pg.isZero_iff _).1 HZ.out] at this))
    clear hz
    go_wp2_with fail
    refine (HHD.out _ (grown_refl _ _)).mono ?_
    rintro e w1 ⟨rfl, hg⟩
    have HG1 := Lib.hid hg
    have f1 := hg.cell e1 (by simp)
    clear hg HHD
    go_wp2_with fail
    refine (rhead_at b n bc R at_ w1 hn HAT.out (HBR.out.grown HG1.out (by simp))).mono ?_
    rintro e w2 ⟨x, rfl, hx, hg⟩
    have HG2 := Lib.hid (grown_trans HG1.out hg)
    obtain rfl : x = -1 := by
      rcases hx with ⟨k, hxk, h1, h2, h3, h4⟩ | ⟨hx, _⟩
      · exfalso
        have hok := HT.out.ok
        by_cases hin : 0 ≤ at_ ∧ at_ < n
        · obtain ⟨i, rfl⟩ : ∃ i : Nat, at_ = i := ⟨at_.toNat, by omega⟩
          have hz := HZ.out
          rw [getR_in (by omega)] at hz
          exact Pg.owner_zero hok (by omega) hz (by omega) h2 h4
        · obtain ⟨_, _, r3, _⟩ := hok.headr h1 h2
          omega
      · exact hx
    clear hx hg
    go_wp2
    go_ret2
    exact ⟨b, bc, R, rfl, HT.out.grown HG2.out (by simp) (by simp), HBR.out.grown HG2.out (by simp), HBP.out, HBQ.out, grown_none (grown_trans HG.out HG2.out)⟩
  · have hz : Pg.isZero (getR R n at_) = false := by simpa using hz
    have hin : 0 ≤ at_ ∧ at_ < n := by
      by_cases x : 0 ≤ at_ ∧ at_ < n
      · exact x
      · rw [getR_out x] at hz; cases hz
    obtain ⟨i, rfl⟩ : ∃ i : Nat, at_ = i := ⟨at_.toNat, by omega⟩
    have hin' : i < n := by omega
    rw [getR_in hin'] at hz
    have HHD := Lib.hid (head_some HT.out i hin' hz)
    clear hz hin
    go_wp2_with fail
    refine HHD.out.mono ?_
    rintro e w1 ⟨k, rfl, k1, k2, k3, hg⟩
    have HG1 := Lib.hid hg
    have HK := Lib.hid (And.intro k1 (And.intro k2 k3))
    have f1 := hg.cell e1 (by simp)
    clear hg HHD k1 k2 k3
    go_wp2_with fail
    refine (rhead_at b n bc R i w1 hn HAT.out (HBR.out.grown HG1.out (by simp))).mono ?_
    rintro e w2 ⟨x, rfl, hx, hg⟩
    have HG2 := Lib.hid (grown_trans HG1.out hg)
    obtain rfl : x = k := by
      obtain ⟨k1, k2, k3⟩ := HK.out
      rcases hx with ⟨j, hxj, h1, h2, h3, h4⟩ | ⟨_, hx⟩
      · rw [hxj, Pg.owner_uniq HT.out.ok hin' k1 k2 k3 (by omega) h2 h4]
      · exact absurd ⟨k2, by omega, k3⟩ (hx k (by omega))
    clear hx hg HK
    go_wp2
    go_ret2
    exact ⟨b, bc, R, rfl, HT.out.grown HG2.out (by simp) (by simp), HBR.out.grown HG2.out (by simp), HBP.out, HBQ.out, grown_none (grown_trans HG.out HG2.out)⟩

/-- One call, whatever it is. -/
theorem step_at {w : World} {p q n cap b bc : Nat} {R : Nat → Pg.Row} (h : TabAt w p q n cap R) (hb : RowsAt w b n R) (hbp : b ≠ p) (hbq : b ≠ q) (kk at_ lo hi ra rb rc rd : Int) (hat : at_ ≤ 9223372036854775807) :
    Calls Try.prog 38 #[.pointer (some ⟨p, 0, none⟩), .slice (some ⟨b, 0, none⟩) n bc, .agg #[.int .i64 kk, .int .i64 at_, .int .i64 lo, .int .i64 hi, .int .i64 ra, .int .i64 rb, .int .i64 rc, .int .i64 rd]] w (StepRes w p q n cap) := by
  by_cases h0 : kk = 0 ∨ kk = 1 ∨ kk = 2
  · exact step_map h hb hbp hbq kk at_ lo hi ra rb rc rd h0
  · by_cases h3 : kk = 3 ∨ kk = 4
    · cases hh : Pg.isHead (getR R n at_) with
      | false => exact step_unmap_no h hb hbp hbq kk at_ lo hi ra rb rc rd h3 hh
      | true =>
        have hin : 0 ≤ at_ ∧ at_ < n := by
          by_cases x : 0 ≤ at_ ∧ at_ < n
          · exact x
          · rw [getR_out x] at hh; cases hh
        obtain ⟨i, rfl⟩ : ∃ i : Nat, at_ = i := ⟨at_.toNat, by omega⟩
        have hin' : i < n := by omega
        rw [getR_in hin'] at hh
        have hr := (h.ok.headr hin' hh).1
        exact step_unmap_yes h hb hbp hbq kk i lo hi ra rb rc rd h3 i rfl hin' hh (R i).r.toNat (by omega)
    · by_cases h5 : kk = 5
      · exact step_head h hb hbp hbq kk at_ lo hi ra rb rc rd h5 hat
      · exact step_other h hb hbp hbq kk at_ lo hi ra rb rc rd (by omega)
end Go.Proofs.Ytbpganholopjfaa
