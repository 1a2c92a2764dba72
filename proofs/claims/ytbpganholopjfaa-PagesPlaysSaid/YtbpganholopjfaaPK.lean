/- The walk of the law's step: one call, of a table and of the reference's rows. -/
import Derived.Test.YtbpganholopjfaaPJ
import Derived.Deep.RegionHeld3
namespace Go.Proofs.Ytbpganholopjfaa
open Go.RowKit

/-- What a step answers and leaves: both have the same rows as before. -/
def StepRes (w : World) (p q n cap : Nat) (e : Ending) (w' : World) : Prop :=
  ∃ b bc R, e = .returned (.tuple #[.slice (some ⟨b, 0, none⟩) n bc, .bool true]) ∧ TabAt w' p q n cap R ∧ RowsAt w' b n R ∧ b ≠ p ∧ b ≠ q ∧ w.grownBy w' (some q)

theorem MapRes.grown {w : World} {p q n cap : Nat} {R : Nat → Pg.Row} {lo hi : Int} {x : Pg.Row} {e : Ending} {w' : World} (h : MapRes w p q n cap R lo hi x e w') : w.grownBy w' (some q) := by
  cases h with
  | arg _ hg => exact grown_none hg
  | full _ _ hg => exact grown_none hg
  | ok _ _ _ _ _ hg => exact hg
theorem map_two {w : World} {p q n cap : Nat} {R : Nat → Pg.Row} (h : TabAt w p q n cap R) (lo hi : Int) (a b c d : Int) :
    Calls Try.prog 37 #[.pointer (some ⟨p, 0, none⟩), .int .i64 lo, .int .i64 hi, .agg #[.int .i64 a, .int .i64 b, .int .i64 c, .int .i64 d]] w fun e w' => ∃ x er, e = .returned (.tuple #[.int .i64 x, .int .i64 er]) ∧ MapRes w p q n cap R lo hi ⟨a, b, c, d⟩ (.returned (.tuple #[.int .i64 x, .int .i64 er])) w' := by
  refine (map_at h lo hi a b c d).mono ?_
  intro e w' hr
  cases hr with
  | arg ha hg => exact ⟨_, _, rfl, .arg ha hg⟩
  | full ha hf hg => exact ⟨_, _, rfl, .full ha hf hg⟩
  | ok ha a2 hf hn ht hg => exact ⟨_, _, rfl, .ok ha a2 hf hn ht hg⟩

set_option maxRecDepth 100000 in
set_option maxHeartbeats 8000000 in
theorem step_map {w : World} {p q n cap b bc : Nat} {R : Nat → Pg.Row} (h : TabAt w p q n cap R) (hb : RowsAt w b n R) (hbp : b ≠ p) (hbq : b ≠ q) (kk at_ lo hi ra rb rc rd : Int) (hk : kk = 0 ∨ kk = 1 ∨ kk = 2) :
    Calls Try.prog 38 #[.pointer (some ⟨p, 0, none⟩), .slice (some ⟨b, 0, none⟩) n bc, .agg #[.int .i64 kk, .int .i64 at_, .int .i64 lo, .int .i64 hi, .int .i64 ra, .int .i64 rb, .int .i64 rc, .int .i64 rd]] w (StepRes w p q n cap) := by
  have H := Lib.hid h
  have HB := Lib.hid hb
  have HBP := Lib.hid hbp
  have HBQ := Lib.hid hbq
  have hn := h.small
  have hbl := hb.qlt
  have hpl := h.plt
  have hql := h.rows.qlt
  have hobq : some w.heap.size ≠ some q := by simp; omega
  have hpw : p < w.heap.size := hpl
  have hqw : q < w.heap.size := hql
  clear h hb hbp hbq
  go_enter Try.func38, Try.ntmps38
  go_upto_region 0 with (fail)
  go_cut [5, 6, 7] (fun s5 s6 s7 wx => s5 = .pointer (some ⟨w.heap.size, 0, none⟩) ∧ s6 = .slice none 0 0 ∧ s7 = .bool false ∧ wx.cell? ⟨w.heap.size, 0, none⟩ = some (.int .i64 kk) ∧ wx.cell? ⟨w.heap.size, 2, none⟩ = some (.int .i64 lo) ∧ wx.cell? ⟨w.heap.size, 3, none⟩ = some (.int .i64 hi) ∧ wx.cell? ⟨w.heap.size, 4, none⟩ = some (.int .i64 ra) ∧ wx.cell? ⟨w.heap.size, 5, none⟩ = some (.int .i64 rb) ∧ wx.cell? ⟨w.heap.size, 6, none⟩ = some (.int .i64 rc) ∧ wx.cell? ⟨w.heap.size, 7, none⟩ = some (.int .i64 rd) ∧ w.heap.size < wx.heap.size ∧ w.grownBy wx none)
  case first =>
    go_wp2
    go_meet
    exact ⟨rfl, rfl, rfl, by rw [cell_alloc_new]; rfl, by rw [cell_alloc_new]; rfl, by rw [cell_alloc_new]; rfl, by rw [cell_alloc_new]; rfl, by rw [cell_alloc_new]; rfl, by rw [cell_alloc_new]; rfl, by rw [cell_alloc_new]; rfl, by simp, grown_alloc _ _ _⟩
  case rest =>
  obtain ⟨rfl, rfl, rfl, e0, e2, e3, e4, e5, e6, e7, hsz, hgb⟩ := hcut
  have HG := Lib.hid hgb
  have HT := Lib.hid (H.out.grown hgb (by simp) (by simp))
  have HBR := Lib.hid (HB.out.grown hgb (by simp))
  clear hgb
  obtain ⟨ob, hob⟩ : ∃ ob, ob = w.heap.size := ⟨_, rfl⟩
  rw [← hob] at e0 e2 e3 e4 e5 e6 e7 hsz hobq ⊢
  clear hob
  obtain ⟨w0, rfl⟩ : ∃ w0 : World, w0 = wc := ⟨_, rfl⟩
  rcases hk with rfl | rfl | rfl
  all_goals
    go_upto_region 5 with (fail)
    go_cut [8, 9] (fun s8 s9 wx => ∃ (x er : Int) (wb : World), s8 = .int .i64 x ∧ s9 = .int .i64 er ∧ w0.grownBy wb none ∧ MapRes wb p q n cap R lo hi ⟨ra, rb, rc, rd⟩ (.returned (.tuple #[.int .i64 x, .int .i64 er])) wx)
    case first =>
      have hgr := grown_refl w0 none
      go_region_held3 (fun w' => w'.cell? ⟨ob, 2, none⟩ = some (.int .i64 lo) ∧ w'.cell? ⟨ob, 3, none⟩ = some (.int .i64 hi) ∧ w'.cell? ⟨ob, 4, none⟩ = some (.int .i64 ra) ∧ w'.cell? ⟨ob, 5, none⟩ = some (.int .i64 rb) ∧ w'.cell? ⟨ob, 6, none⟩ = some (.int .i64 rc) ∧ w'.cell? ⟨ob, 7, none⟩ = some (.int .i64 rd))
        (first | exact ⟨e2, e3, e4, e5, e6, e7⟩ | exact ⟨hg4.cell e2 (by simp), hg4.cell e3 (by simp), hg4.cell e4 (by simp), hg4.cell e5 (by simp), hg4.cell e6 (by simp), hg4.cell e7 (by simp)⟩ | exact ⟨hm.grown.cell (hg4.cell e2 (by simp)) hobq, hm.grown.cell (hg4.cell e3 (by simp)) hobq, hm.grown.cell (hg4.cell e4 (by simp)) hobq, hm.grown.cell (hg4.cell e5 (by simp)) hobq, hm.grown.cell (hg4.cell e6 (by simp)) hobq, hm.grown.cell (hg4.cell e7 (by simp)) hobq⟩)
        (first
        | (go_at_call 66; refine (ours_at ra rb rc rd _).mono ?_; rintro e w4 ⟨rfl, hg4⟩)
        | (go_at_call 37; refine (map_two (HT.out.grown (grown_trans (grown_drew1 hgr) hg4) (by simp) (by simp)) lo hi ra rb rc rd).mono ?_; rintro e w5 ⟨x, er, rfl, hm⟩))
      all_goals
        go_wp2
        go_meet
        exact ⟨x, er, w4, rfl, rfl, grown_trans (grown_drew1 hgr) hg4, hm⟩
    case rest =>
      obtain ⟨x, er, wb, rfl, rfl, hgb, hm⟩ := hcut
      have f4 := (grown_trans (grown_none hgb) hm.grown).cell e4 hobq
      have f5 := (grown_trans (grown_none hgb) hm.grown).cell e5 hobq
      have f6 := (grown_trans (grown_none hgb) hm.grown).cell e6 hobq
      have f7 := (grown_trans (grown_none hgb) hm.grown).cell e7 hobq
      have f2 := (grown_trans (grown_none hgb) hm.grown).cell e2 hobq
      have f3 := (grown_trans (grown_none hgb) hm.grown).cell e3 hobq
      have HGW := Lib.hid (grown_trans (grown_none HG.out) (grown_trans (grown_none hgb) hm.grown))
      have HBW := Lib.hid (HBR.out.grown (grown_trans (grown_none hgb) hm.grown) (fun x => HBQ.out (Option.some.inj x)))
      have HTB := Lib.hid (HT.out.grown hgb (by simp) (by simp))
      clear e0 e2 e3 e4 e5 e6 e7 hobq HG HT HBR
      obtain ⟨w6, rfl⟩ : ∃ w6 : World, w6 = wc := ⟨_, rfl⟩
      cases hm with
      | arg hmay hg =>
        have HTW := Lib.hid (HTB.out.grown hg (by simp) (by simp))
        have HM := Lib.hid (fun W => may_at ra rb rc rd false W hmay.symm)
        clear hmay hg hgb
        go_wp2_with fail
        refine (HM.out _).mono ?_
        rintro e w7 ⟨rfl, hg⟩
        have HG7 := Lib.hid hg
        clear hg
        go_wp2
        go_ret2
        exact ⟨b, bc, R, rfl, HTW.out.grown HG7.out (by simp) (by simp), HBW.out.grown HG7.out (by simp), HBP.out, HBQ.out, grown_trans HGW.out (grown_none HG7.out)⟩
      | full hmay hp hg =>
        have HTW := Lib.hid (HTB.out.grown hg (by simp) (by simp))
        have HM := Lib.hid (fun W => may_at ra rb rc rd true W hmay.symm)
        obtain ⟨_, hr1, hr2⟩ := (Pg.may_iff _).1 hmay
        simp only at hr1 hr2
        obtain ⟨m, rfl⟩ : ∃ m : Nat, rd = m := ⟨rd.toNat, by omega⟩
        simp only [Int.toNat_natCast] at hp
        have HP := Lib.hid hp
        clear hmay hg hgb hp
        go_wp2_with fail
        refine (HM.out _).mono ?_
        rintro e w7 ⟨rfl, hg⟩
        have HG7 := Lib.hid hg
        have g2 := hg.cell f2 (by simp)
        have g3 := hg.cell f3 (by simp)
        have g7 := hg.cell f7 (by simp)
        clear hg f2 f3 f4 f5 f6 f7
        go_wp2_with fail
        refine (place_at b n bc m R lo hi w7 hn (by omega) (by omega) (HBW.out.grown HG7.out (by simp))).mono ?_
        rintro e w8 ⟨x, rfl, hx, rfl⟩
        obtain rfl := Pg.place_uniq hx HP.out
        clear hx
        go_wp2
        go_ret2
        exact ⟨b, bc, R, rfl, HTW.out.grown HG7.out (by simp) (by simp), HBW.out.grown HG7.out (by simp), HBP.out, HBQ.out, grown_trans HGW.out (grown_none HG7.out)⟩
      | ok hmay a2 hp hn2 ht hg =>
        have HTW := Lib.hid ht
        have HM := Lib.hid (fun W => may_at ra rb rc rd true W hmay.symm)
        obtain ⟨_, hr1, hr2⟩ := (Pg.may_iff _).1 hmay
        simp only at hr1 hr2 hn2
        obtain ⟨m, rfl⟩ : ∃ m : Nat, rd = m := ⟨rd.toNat, by omega⟩
        simp only [Int.toNat_natCast] at hp
        have HP := Lib.hid hp
        have hn3 : a2 + m ≤ n := by omega
        clear hmay hg hgb hp ht hn2
        go_wp2_with fail
        refine (HM.out _).mono ?_
        rintro e w7 ⟨rfl, hg⟩
        have HG7 := Lib.hid hg
        have g2 := hg.cell f2 (by simp)
        have g3 := hg.cell f3 (by simp)
        have g4 := hg.cell f4 (by simp)
        have g5 := hg.cell f5 (by simp)
        have g6 := hg.cell f6 (by simp)
        have g7 := hg.cell f7 (by simp)
        clear hg f2 f3 f4 f5 f6 f7
        go_wp2_with fail
        refine (place_at b n bc m R lo hi w7 hn (by omega) (by omega) (HBW.out.grown HG7.out (by simp))).mono ?_
        rintro e w8 ⟨x, rfl, hx, rfl⟩
        obtain rfl := Pg.place_uniq hx HP.out
        clear hx
        go_wp2_with fail
        refine (rlay_at b n bc a2 m R ra rb rc w7 hn (by omega) hn3 (HBW.out.grown HG7.out (by simp))).mono ?_
        rintro e w9 ⟨b2, bc2, rfl, _, hb2, hrow, hg⟩
        have HG9 := Lib.hid hg
        have HROW := Lib.hid hrow
        have HSZ := Lib.hid (Nat.le_trans HGW.out.size (Nat.le_trans HG7.out.size hb2))
        clear hg hrow hb2
        go_wp2
        go_ret2
        have hT := HTW.out.grown (grown_trans HG7.out HG9.out) (by simp) (by simp)
        have hsz := HSZ.out
        exact ⟨b2, bc2, _, rfl, hT, HROW.out, by omega, by omega, grown_trans HGW.out (grown_none (grown_trans HG7.out HG9.out))⟩
end Go.Proofs.Ytbpganholopjfaa
