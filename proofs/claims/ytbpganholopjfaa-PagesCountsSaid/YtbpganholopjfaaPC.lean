/- The walks of a table's Head, Map, Unmap. -/
import Derived.Test.YtbpganholopjfaaPS
import Derived.RegionTactic
import Derived.Deep.RegionWith
namespace Go.Proofs.Ytbpganholopjfaa
open Go.RowKit

set_option maxRecDepth 100000 in
set_option maxHeartbeats 1000000 in
theorem head_none (v : Value) (i : Int) (w : World)
    (hr : Calls Try.prog 48 #[v, .int .i64 i] w fun e w' => e = .returned (rv Pg.zero) ∧ w.grownBy w' none) :
    Calls Try.prog 46 #[v, .int .i64 i] w fun e w' => e = .returned (.tuple #[.int .i64 0, .bool false]) ∧ w.grownBy w' none := by
  have HR := Lib.hid hr
  clear hr
  go_enter Try.func46, Try.ntmps46
  go_wp2_with (go_at_call 48; refine HR.out.mono ?_; rintro e w1 ⟨rfl, hg⟩; have HG := Lib.hid hg; clear hg; simp only [rv, Pg.zero])
  go_ret2
  exact ⟨rfl, HG.out⟩

/-- What Head answers of a page that belongs to one. -/
def HeadRes (R : Nat → Pg.Row) (i : Nat) (w : World) (e : Ending) (w' : World) : Prop :=
  ∃ k : Nat, e = .returned (.tuple #[.int .i64 k, .bool true]) ∧ k ≤ i ∧ Pg.isHead (R k) = true ∧ (i : Int) < k + (R k).r ∧ w.grownBy w' none

set_option maxRecDepth 100000 in
set_option maxHeartbeats 2000000 in
theorem head_some {w : World} {p q n cap : Nat} {R : Nat → Pg.Row} (h : TabAt w p q n cap R) (i : Nat) (hi : i < n) (hz : Pg.isZero (R i) = false) :
    Calls Try.prog 46 #[.pointer (some ⟨p, 0, none⟩), .int .i64 i] w (HeadRes R i w) := by
  obtain ⟨k, hk1, hk2, hk3, hk4⟩ := Pg.owner h.ok hi hz
  have HR := Lib.hid (prow_at h i)
  have HX := Lib.hid (nz_row hz)
  have H := Lib.hid h
  have hn := h.small
  have HK2 := Lib.hid hk2
  have HK4 := Lib.hid hk4
  have HGI := Lib.hid (getR_in (R := R) hi)
  clear h hz hk2 hk4
  go_enter Try.func46, Try.ntmps46
  go_upto_region 1 with (fail)
  go_cut [10] (fun s wx => s = .bool false ∧ w.grownBy wx none)
  case first =>
    go_wp2_with fail
    refine HR.out.mono ?_
    rintro e w1 ⟨rfl, hg⟩
    have HG := Lib.hid hg
    clear hg
    rw [HGI.out]
    simp only [rv]
    generalize R i = x at *
    obtain ⟨xk, xc, xo, xr⟩ := x
    go_wp2
    all_goals
      first
      | (go_meet; exact ⟨rfl, HG.out⟩)
      | (exfalso; exact HX.out ⟨‹xk = 0›, ‹xc = 0›, ‹xo = 0›, ‹xr = 0›⟩)
  case rest =>
    obtain ⟨rfl, hg⟩ := hcut
    have HG := Lib.hid hg
    clear hg
    go_wp2_with fail
    go_loopw [1] (fun a wr => ∃ j : Nat, k ≤ j ∧ j ≤ i ∧ a = .int .i64 j ∧ w.grownBy wr none) (fun a _ => (intOf a).toNat)
    case atStart => exact ⟨i, hk1, Nat.le_refl _, rfl, HG.out⟩
    case round =>
      clear HG
      obtain ⟨j, hj1, hj2, rfl, hg⟩ := hrel
      have HT := Lib.hid (H.out.grown hg (by simp) (by simp))
      have HG := Lib.hid hg
      clear hg
      have hjn : j < n := by omega
      have c := HT.out.c
      have d0 := HT.out.rows.c0 j hjn
      have d1 := HT.out.rows.c1 j hjn
      have d2 := HT.out.rows.c2 j hjn
      have d3 := HT.out.rows.c3 j hjn
      by_cases hjk : j = k
      · subst hjk
        have HK := Lib.hid (fun W => heads_at (R j) W)
        rw [HK2.out] at HK
        have HHD := HK2
        clear HK2
        have HE := Lib.hid (show HeadRes R i w (.returned (.tuple #[.int .i64 j, .bool true])) = HeadRes R i w (.returned (.tuple #[.int .i64 j, .bool true])) from rfl)
        have HF : Hid (∀ W, w.grownBy W none → HeadRes R i w (.returned (.tuple #[.int .i64 j, .bool true])) W) := fun W hW => ⟨j, rfl, hj2, HHD.out, hk3, hW⟩
        clear HHD HK4 hk3 HE
        generalize R j = x at *
        obtain ⟨xk, xc, xo, xr⟩ := x
        simp only [rv] at HK
        go_wp2_with (go_at_call 64; refine (HK.out _).mono ?_; rintro e w1 ⟨rfl, hg⟩; have HG1 := Lib.hid hg; clear hg)
        go_ret2
        exact HF.out _ (grown_trans HG.out HG1.out)
      · have HK := Lib.hid (fun W => heads_at (R j) W)
        rw [HK4.out j (by omega) hj2] at HK
        have hj1' : (1 : Int) ≤ j := by omega
        clear HK4 HK2
        generalize R j = x at *
        obtain ⟨xk, xc, xo, xr⟩ := x
        simp only [rv] at HK
        go_wp2_with (go_at_call 64; refine (HK.out _).mono ?_; rintro e w1 ⟨rfl, hg⟩; have HG1 := Lib.hid hg; clear hg)
        go_roundw
        case rel => exact ⟨j - 1, by omega, by omega, vint (by omega), grown_trans HG.out HG1.out⟩
        case measure => simp [intOf]; omega

/-- What Map answers and leaves: of what may not be; of no room; of the first room. -/
inductive MapRes (w : World) (p q n cap : Nat) (R : Nat → Pg.Row) (lo hi : Int) (x : Pg.Row) : Ending → World → Prop
  | arg {w' : World} (h : Pg.may x = false) (hg : w.grownBy w' none) : MapRes w p q n cap R lo hi x (.returned (.tuple #[.int .i64 0, .int .i64 1])) w'
  | full {w' : World} (h : Pg.may x = true) (hp : Pg.Place (Pg.Fr R n lo hi) x.r.toNat (-1)) (hg : w.grownBy w' none) : MapRes w p q n cap R lo hi x (.returned (.tuple #[.int .i64 0, .int .i64 5])) w'
  | ok {w' : World} (h : Pg.may x = true) (at_ : Nat) (hp : Pg.Place (Pg.Fr R n lo hi) x.r.toNat at_) (hn : at_ + x.r ≤ n) (ht : TabAt w' p q n cap (Pg.lay R at_ x)) (hg : w.grownBy w' (some q)) : MapRes w p q n cap R lo hi x (.returned (.tuple #[.int .i64 at_, .int .i64 0])) w'

set_option maxRecDepth 100000 in
set_option maxHeartbeats 4000000 in
theorem map_go {w : World} {p q n cap : Nat} {R : Nat → Pg.Row} (h : TabAt w p q n cap R) (lo hi : Int) (a b c d : Int) (hmay : Pg.may ⟨a, b, c, d⟩ = true) :
    Calls Try.prog 37 #[.pointer (some ⟨p, 0, none⟩), .int .i64 lo, .int .i64 hi, .agg #[.int .i64 a, .int .i64 b, .int .i64 c, .int .i64 d]] w (MapRes w p q n cap R lo hi ⟨a, b, c, d⟩) := by
  obtain ⟨hh, h1, h2⟩ := (Pg.may_iff _).1 hmay
  simp only at h1 h2
  have HMAY := Lib.hid hmay
  clear hmay
  have HS := Lib.hid (fun (W : World) (g : w.grownBy W none) => stretch_at (h.grown g (by simp) (by simp)) lo hi d h1 h2)
  have H := Lib.hid h
  have hok := Lib.hid h.ok
  have hcap := h.hcap
  have HK := Lib.hid (fun W => heads_at ⟨a, b, c, d⟩ W)
  rw [hh] at HK
  simp only [rv] at HK
  have HHH := Lib.hid hh
  clear h hh
  go_enter Try.func37, Try.ntmps37
  go_wp2_with fail
  refine (HK.out _).mono ?_
  rintro e w1 ⟨rfl, hg⟩
  have HG := Lib.hid hg
  have e0 := new_cell hg (by simp) 0 (v := .int .i64 a) rfl
  have e1 := new_cell hg (by simp) 1 (v := .int .i64 b) rfl
  have e2 := new_cell hg (by simp) 2 (v := .int .i64 c) rfl
  have e3 := new_cell hg (by simp) 3 (v := .int .i64 d) rfl
  clear hg
  go_wp2_with fail
  refine (HS.out _ (grown_trans (grown_alloc _ _ _) HG.out)).mono ?_
  rintro e w2 ⟨at_, most, rfl, hf, hg⟩
  have HFD := Lib.hid hf
  have hle := hf.le
  clear hf
  have HG2 := Lib.hid (grown_trans (grown_trans (grown_alloc _ _ _) HG.out) hg)
  have f0 := hg.cell e0 (by simp)
  have f1 := hg.cell e1 (by simp)
  have f2 := hg.cell e2 (by simp)
  have f3 := hg.cell e3 (by simp)
  have HT := Lib.hid (H.out.grown HG2.out (by simp) (by simp))
  have c2 := HT.out.c
  have hob := HT.out.rows.qlt
  have hn256 := H.out.small
  have HQ := Lib.hid (show q < w.heap.size from H.out.rows.qlt)
  clear hg e0 e1 e2 e3 H HS HK HG
  by_cases hlt : (most : Int) < d
  · have HFULL := Lib.hid (MapRes.full (w := w) (p := p) (q := q) (n := n) (cap := cap) (R := R) (lo := lo) (hi := hi) (x := ⟨a, b, c, d⟩) HMAY.out (Pg.found_none HFD.out (by show most < d.toNat; omega)) HG2.out)
    clear HFD
    go_wp2
    go_ret2
    exact HFULL.out
  obtain rfl : most = d.toNat := by omega
  have hrun := (HFD.out.best (by omega)).1
  have hat : at_ + d ≤ n := by
    have := (hrun (at_ + d.toNat - 1) (by omega) (by omega)).1
    omega
  have hz := Lib.hid (show ∀ i : Nat, at_ ≤ i → (i : Int) < at_ + d → R i = Pg.zero from fun i x y => (Pg.isZero_iff _).1 (hrun i x (by omega)).2.2.2)
  have HPL := Lib.hid (Pg.found_place HFD.out (by omega))
  have hdd : ((d.toNat : Nat) : Int) = d := by omega
  rw [hdd]
  clear hrun HFD hdd hlt hle
  have ha : (at_ : Int) < n := by omega
  obtain ⟨w3, rfl⟩ : ∃ w3 : World, w3 = w2 := ⟨_, rfl⟩
  go_upto_region 8 with (fail)
  go_cut [] (fun wx => ∃ W, wx = World.drew W ∧ W = setRow w3 q at_ ⟨a, b, c, d⟩)
  case first =>
    have d0 := HT.out.rows.c0 at_ (by omega)
    have d1 := HT.out.rows.c1 at_ (by omega)
    have d2 := HT.out.rows.c2 at_ (by omega)
    have d3 := HT.out.rows.c3 at_ (by omega)
    have z0 := HT.out.rows.fz
    go_region
    go_wp2
    go_meet
    exact ⟨_, rfl, rfl⟩
  case rest =>
    obtain ⟨W, hw1, hw2⟩ := hcut
    have hgW := grown_setRow w3 q at_ ⟨a, b, c, d⟩
    have HR := Lib.hid (rows_set HT.out.rows at_ (by omega) ⟨a, b, c, d⟩ (layK R at_ ⟨a, b, c, d⟩ 0) (fun i _ => layK_zero _ _ _ i))
    rw [← hw2] at hgW HR
    have hgX : w3.grownBy wc (some q) := by rw [hw1]; exact grown_drew1 hgW
    have HRX := Lib.hid (show RowsAt wc q n (layK R at_ ⟨a, b, c, d⟩ 0) by rw [hw1]; exact HR.out.drew)
    have hq := HQ.out
    have hne : w.heap.size ≠ q := by omega
    have hnp := HT.out.ne
    have f3' := hgX.cell f3 (by simp; omega)
    have c2' := hgX.cell c2 (by simpa using hnp)
    have HG3 := Lib.hid hgX
    clear hw1 hw2 hgW HR hgX f0 f1 f2 f3 c2 HT
    have HG30 := Lib.hid (grown_trans (grown_none HG2.out) HG3.out)
    go_wp2_with fail
    go_loopw [51] (fun i wr => ∃ k : Nat, (k : Int) ≤ d - 1 ∧ i = .int .i64 k ∧ RowsAt wr q n (layK R at_ ⟨a, b, c, d⟩ k) ∧ wc.grownBy wr (some q)) (fun i _ => d.toNat - (intOf i).toNat)
    case atStart => exact ⟨0, by omega, rfl, HRX.out, grown_refl _ _⟩
    case round =>
      clear HRX
      obtain ⟨k, hk, rfl, hr, hg⟩ := hrel
      have HR := Lib.hid hr
      have HG := Lib.hid hg
      have c3 := hg.cell c2' (by simpa using hnp)
      clear hr hg f3' c2'
      by_cases hlt : (k : Int) < d - 1
      · have hj : at_ + 1 + k < n := by omega
        have hj' : (at_ : Int) + 1 + k < n := by omega
        obtain ⟨wo, rfl⟩ : ∃ wo : World, wo = wr := ⟨_, rfl⟩
        have d0 := HR.out.c0 _ hj
        have d1 := HR.out.c1 _ hj
        have d2 := HR.out.c2 _ hj
        have d3 := HR.out.c3 _ hj
        have z0 := HR.out.fz
        have ha2 : at_ ≤ 256 := by omega
        have hk2 : k ≤ 256 := by omega
        have HRN := Lib.hid (rows_set HR.out (at_ + 1 + k) hj Pg.tail (layK R at_ ⟨a, b, c, d⟩ (k + 1)) (fun i _ => layK_succ _ _ _ _ i))
        have HGN := Lib.hid (grown_trans HG.out (grown_setRow wo q (at_ + 1 + k) Pg.tail))
        go_wp2
        go_roundw
        case rel => exact ⟨k + 1, by omega, by go_num, HRN.out, HGN.out⟩
        case measure => simp [intOf]; omega
      · have HE := Lib.hid (layK_all R at_ ⟨a, b, c, d⟩ k (by show (k : Int) = d - 1; omega))
        have HM : Hid (Pg.may ⟨a, b, c, d⟩ = true) := (Pg.may_iff _).2 ⟨HHH.out, h1, h2⟩
        go_wp2
        go_ret2
        exact MapRes.ok HMAY.out at_ HPL.out hat ⟨c3, HE.out ▸ HR.out, hnp, hcap, hn256, Pg.ok_lay hok.out HM.out hat hz.out⟩ (grown_trans HG30.out HG.out)

set_option maxRecDepth 100000 in
set_option maxHeartbeats 2000000 in
theorem map_arg (p : Nat) (w : World) (lo hi : Int) (a b c d : Int) (h : Pg.may ⟨a, b, c, d⟩ = false) :
    Calls Try.prog 37 #[.pointer (some ⟨p, 0, none⟩), .int .i64 lo, .int .i64 hi, .agg #[.int .i64 a, .int .i64 b, .int .i64 c, .int .i64 d]] w fun e w' => e = .returned (.tuple #[.int .i64 0, .int .i64 1]) ∧ w.grownBy w' none := by
  have HK := Lib.hid (fun W => heads_at ⟨a, b, c, d⟩ W)
  simp only [rv] at HK
  have hm : ¬ (Pg.isHead ⟨a, b, c, d⟩ = true ∧ 1 ≤ d ∧ d ≤ 256) := fun x => by rw [(Pg.may_iff _).2 x] at h; cases h
  clear h
  generalize Pg.isHead ⟨a, b, c, d⟩ = hd at *
  cases hd with
  | false =>
    clear hm
    go_enter Try.func37, Try.ntmps37
    go_wp2_with fail
    refine (HK.out _).mono ?_
    rintro e w1 ⟨rfl, hg⟩
    have HG := Lib.hid (grown_trans (grown_alloc _ _ _) hg)
    clear hg
    go_wp2
    go_ret2
    exact ⟨rfl, HG.out⟩
  | true =>
    have hm' : d < 1 ∨ 256 < d := by
      by_cases x : d < 1
      · exact .inl x
      · exact .inr (by have : ¬ (1 ≤ d ∧ d ≤ 256) := fun y => hm ⟨rfl, y⟩; omega)
    clear hm
    by_cases x : d < 1
    · clear hm'
      go_enter Try.func37, Try.ntmps37
      go_wp2_with fail
      refine (HK.out _).mono ?_
      rintro e w1 ⟨rfl, hg⟩
      have HG := Lib.hid (grown_trans (grown_alloc _ _ _) hg)
      have e3 := new_cell hg (by simp) 3 (v := .int .i64 d) rfl
      clear hg
      go_wp2
      go_ret2
      exact ⟨rfl, HG.out⟩
    · have y : 256 < d := by omega
      clear hm'
      go_enter Try.func37, Try.ntmps37
      go_wp2_with fail
      refine (HK.out _).mono ?_
      rintro e w1 ⟨rfl, hg⟩
      have HG := Lib.hid (grown_trans (grown_alloc _ _ _) hg)
      have e3 := new_cell hg (by simp) 3 (v := .int .i64 d) rfl
      clear hg
      go_wp2
      go_ret2
      exact ⟨rfl, HG.out⟩
set_option maxHeartbeats 1000000 in
theorem map_nil (w : World) (lo hi : Int) (a b c d : Int) :
    Calls Try.prog 37 #[.pointer none, .int .i64 lo, .int .i64 hi, .agg #[.int .i64 a, .int .i64 b, .int .i64 c, .int .i64 d]] w fun e w' => e = .returned (.tuple #[.int .i64 0, .int .i64 2]) ∧ w.grownBy w' none := by
  go_enter Try.func37, Try.ntmps37
  go_wp2
  go_ret2
  exact ⟨rfl, grown_alloc _ _ _⟩


theorem map_at {w : World} {p q n cap : Nat} {R : Nat → Pg.Row} (h : TabAt w p q n cap R) (lo hi : Int) (a b c d : Int) :
    Calls Try.prog 37 #[.pointer (some ⟨p, 0, none⟩), .int .i64 lo, .int .i64 hi, .agg #[.int .i64 a, .int .i64 b, .int .i64 c, .int .i64 d]] w (MapRes w p q n cap R lo hi ⟨a, b, c, d⟩) := by
  by_cases hm : Pg.may ⟨a, b, c, d⟩ = true
  · exact map_go h lo hi a b c d hm
  · have hm : Pg.may ⟨a, b, c, d⟩ = false := by simpa using hm
    exact (map_arg p w lo hi a b c d hm).mono fun _ _ ⟨he, hg⟩ => he ▸ MapRes.arg hm hg
end Go.Proofs.Ytbpganholopjfaa
