/- The walk of a region's Find; Owner, Config, Arena, Pages; what is not there. -/
import Derived.Test.YtgnfcklippjeeaaGreatNC
namespace Go.Proofs.YtgnfcklippjeeaaGreat
open Go.RowKit
open Sl (Cls bs upd)
open Lg (pgs)

set_option maxRecDepth 100000 in
set_option maxHeartbeats 1000000 in
theorem find_c1 {w : World} {A : Rp} {V : St} {cnt : Nat} (h : RnAt w A V cnt) {a page : Int} (hp : pgV a = page)
    (HS : Hid (∀ W, w.grownBy W none → Calls Tryz.prog 63 #[.pointer (some ⟨A.p, 0, none⟩), .int .i64 page] W fun e w' => e = .returned (.pointer none) ∧ W.grownBy w' none))
    (HH : Hid (∀ W, w.grownBy W none → Calls Tryz.prog 81 #[.pointer (some ⟨A.pt, 0, none⟩), .int .i64 page] W fun e w' => e = .returned (.tuple #[.int .i64 0, .bool false]) ∧ W.grownBy w' none)) :
    Calls Tryz.prog 27 #[.pointer (some ⟨A.p, 0, none⟩), .int .i64 a] w fun e w' => e = .returned (fndV none) ∧ w.grownBy w' none := by
  have HPg := Lib.hid (fun W => pageOf_at a W)
  rw [hp] at HPg
  have m0 := grown_alloc w (.cells #[.int .i64 0, .int .i64 0, .int .i64 0, .int .i64 0, .int .i64 0, .bool false] 37) none
  have HC4 := Lib.hid (fun W (g1 : w.grownBy W none) => (h.grown g1).c4)
  clear h hp
  go_enter Tryz.func27, Tryz.ntmps27
  go_wp2_with fail
  refine (HPg.out _).mono ?_
  rintro e w1 ⟨rfl, m1⟩
  have n1 := grown_trans m0 m1
  go_wp2_with fail
  refine (HS.out _ n1).mono ?_
  rintro e w2 ⟨rfl, m2⟩
  have n2 := grown_trans n1 m2
  have c4 := HC4.out _ n2
  go_wp2_with fail
  refine (HH.out _ n2).mono ?_
  rintro e w3 ⟨rfl, m3⟩
  have mm := grown_trans (grown_trans m1 m2) m3
  have HE := Lib.hid (grown_trans n2 m3)
  clear m0 m1 m2 m3 n1 n2 c4 HPg HS HH HC4
  have z0 := new_cell (v := .int .i64 0) mm (by simp) 0 rfl
  have z1 := new_cell (v := .int .i64 0) mm (by simp) 1 rfl
  have z2 := new_cell (v := .int .i64 0) mm (by simp) 2 rfl
  have z3 := new_cell (v := .int .i64 0) mm (by simp) 3 rfl
  have z4 := new_cell (v := .int .i64 0) mm (by simp) 4 rfl
  have z5 := new_cell (v := .bool false) mm (by simp) 5 rfl
  have zf : ∀ k, w3.frozen? ⟨w.heap.size, k, none⟩ = false := fun k => by rw [World.frozen?_of_block (mm.block w.heap.size (by simp) (by simp))]; exact frozen_alloc_new ..
  obtain ⟨q, hq⟩ : ∃ q, w.heap.size = q := ⟨_, rfl⟩
  have HQ := Lib.hid hq
  rw [hq] at z0 z1 z2 z3 z4 z5 zf ⊢
  clear hq
  clear mm
  go_wp2
  exact bodyPost_ret (v := fndV none) (by simp [results, Tryz.results27, go_sem, fndV, pc0, World.cell?_setCell_same', z0, z1, z2, z3, z4, z5]) rfl ⟨rfl, grown_own HE.out (grown_trans (grown_trans (grown_trans (grown_trans (grown_trans (An.agrown_set w3 q 0 _) (An.agrown_set _ q 1 _)) (An.agrown_set _ q 2 _)) (An.agrown_set _ q 3 _)) (An.agrown_set _ q 4 _)) (An.agrown_set _ q 5 _)) (Nat.le_of_eq HQ.out)⟩
set_option maxRecDepth 100000 in
set_option maxHeartbeats 1000000 in
theorem find_c2 {w : World} {A : Rp} {V : St} {cnt : Nat} (h : RnAt w A V cnt) {a page k : Int} {x : Option Pc} (hp : pgV a = page)
    (HS : Hid (∀ W, w.grownBy W none → Calls Tryz.prog 63 #[.pointer (some ⟨A.p, 0, none⟩), .int .i64 page] W fun e w' => e = .returned (.pointer none) ∧ W.grownBy w' none))
    (HH : Hid (∀ W, w.grownBy W none → Calls Tryz.prog 81 #[.pointer (some ⟨A.pt, 0, none⟩), .int .i64 page] W fun e w' => e = .returned (.tuple #[.int .i64 k, .bool true]) ∧ W.grownBy w' none))
    (HG : Hid (∀ W, w.grownBy W none → Calls Tryz.prog 82 #[.pointer (some ⟨A.p, 0, none⟩), .int .i64 k] W fun e w' => e = .returned (fndV x) ∧ W.grownBy w' none)) :
    Calls Tryz.prog 27 #[.pointer (some ⟨A.p, 0, none⟩), .int .i64 a] w fun e w' => e = .returned (fndV x) ∧ w.grownBy w' none := by
  obtain ⟨x0, x1, x2, x3, x4, x5, b, hx⟩ : ∃ x0 x1 x2 x3 x4 : Int, ∃ x5 b : Bool, fndV x = .tuple #[.agg #[.int .i64 x0, .int .i64 x1, .int .i64 x2, .int .i64 x3, .int .i64 x4, .bool x5], .bool b] := by
    cases x with
    | none => exact ⟨_, _, _, _, _, _, _, rfl⟩
    | some p => exact ⟨_, _, _, _, _, _, _, rfl⟩
  rw [hx] at HG ⊢
  clear hx
  have HPg := Lib.hid (fun W => pageOf_at a W)
  rw [hp] at HPg
  have m0 := grown_alloc w (.cells #[.int .i64 0, .int .i64 0, .int .i64 0, .int .i64 0, .int .i64 0, .bool false] 37) none
  have HC4 := Lib.hid (fun W (g1 : w.grownBy W none) => (h.grown g1).c4)
  clear h hp
  go_enter Tryz.func27, Tryz.ntmps27
  go_wp2_with fail
  refine (HPg.out _).mono ?_
  rintro e w1 ⟨rfl, m1⟩
  have n1 := grown_trans m0 m1
  go_wp2_with fail
  refine (HS.out _ n1).mono ?_
  rintro e w2 ⟨rfl, m2⟩
  have n2 := grown_trans n1 m2
  have c4 := HC4.out _ n2
  go_wp2_with fail
  refine (HH.out _ n2).mono ?_
  rintro e w3 ⟨rfl, m3⟩
  have n3 := grown_trans n2 m3
  go_wp2_with fail
  refine (HG.out _ n3).mono ?_
  rintro e w4 ⟨rfl, m4⟩
  have mm := grown_trans (grown_trans (grown_trans m1 m2) m3) m4
  have HE := Lib.hid (grown_trans n3 m4)
  clear m0 m1 m2 m3 m4 n1 n2 n3 c4 HPg HS HH HC4 HG
  have z0 := new_cell (v := .int .i64 0) mm (by simp) 0 rfl
  have z1 := new_cell (v := .int .i64 0) mm (by simp) 1 rfl
  have z2 := new_cell (v := .int .i64 0) mm (by simp) 2 rfl
  have z3 := new_cell (v := .int .i64 0) mm (by simp) 3 rfl
  have z4 := new_cell (v := .int .i64 0) mm (by simp) 4 rfl
  have z5 := new_cell (v := .bool false) mm (by simp) 5 rfl
  have zf : ∀ k, w4.frozen? ⟨w.heap.size, k, none⟩ = false := fun k => by rw [World.frozen?_of_block (mm.block w.heap.size (by simp) (by simp))]; exact frozen_alloc_new ..
  obtain ⟨q, hq⟩ : ∃ q, w.heap.size = q := ⟨_, rfl⟩
  have HQ := Lib.hid hq
  rw [hq] at z0 z1 z2 z3 z4 z5 zf ⊢
  clear hq
  clear mm
  go_wp2
  exact bodyPost_ret (v := .tuple #[.agg #[.int .i64 x0, .int .i64 x1, .int .i64 x2, .int .i64 x3, .int .i64 x4, .bool x5], .bool b]) (by simp [results, Tryz.results27, go_sem, World.cell?_setCell_same', z0, z1, z2, z3, z4, z5]) rfl ⟨rfl, grown_own HE.out (grown_trans (grown_trans (grown_trans (grown_trans (grown_trans (An.agrown_set w4 q 0 _) (An.agrown_set _ q 1 _)) (An.agrown_set _ q 2 _)) (An.agrown_set _ q 3 _)) (An.agrown_set _ q 4 _)) (An.agrown_set _ q 5 _)) (Nat.le_of_eq HQ.out)⟩
set_option maxRecDepth 100000 in
set_option maxHeartbeats 1000000 in
theorem find_c3 {w : World} {A : Rp} {V : St} {cnt : Nat} (h : RnAt w A V cnt) {x g : Nat} {d : Sd} (hl : V.L g = some d) (hg : x / 256 = g) :
    Calls Tryz.prog 27 #[.pointer (some ⟨A.p, 0, none⟩), .int .i64 x] w fun e w' => e = .returned (fndV (some (spc g d (x % 256 / d.s)))) ∧ w.grownBy w' none := by
  obtain ⟨hm, _, hd⟩ := h.ok.sl g d hl
  have hx : x < 65536 := by have := h.ok.mn; have := h.ok.n256; omega
  have hp : pgV (x : Int) = (g : Int) := by unfold pgV; rw [if_neg (by omega)]; omega
  have hk : x % 256 / d.s < d.n := (slot_lt hd.c x).1
  have HS := Lib.hid (fun W (g1 : w.grownBy W none) => slots_some (h.grown g1) hl)
  have HC := Lib.hid (fun W (g1 : w.grownBy W none) => sclass_own ((h.grown g1).sl g d hl).own)
  have HT : Hid (∀ W, Calls Tryz.prog 78 #[.int .i64 x, .int .i64 (d.c : Nat)] W fun e w' => e = .returned (.tuple #[.int .i64 ((x : Int) / 256), .int .i64 ((x % 256 / d.s : Nat) : Int)]) ∧ W.grownBy w' none) := Lib.hid (fun W => by
    refine (slot_yes x W hd.c.cl hx).mono ?_
    rintro e w' ⟨he, hd'⟩
    refine ⟨he.trans ?_, drew_grownBy hd'⟩
    rw [show ((x : Nat) : Int) % 256 / (d.s : Nat) = ((x % 256 / d.s : Nat) : Int) from by simp])
  have HQP := Lib.hid (fun W (g1 : w.grownBy W none) => slotPlace_at (h.grown g1) hl hk)
  simp only [nmOf] at HC
  obtain ⟨x0, x1, x2, x3, x4, x5, hx'⟩ : ∃ x0 x1 x2 x3 x4 : Int, ∃ x5 : Bool, pcv (spc g d (x % 256 / d.s)) = .agg #[.int .i64 x0, .int .i64 x1, .int .i64 x2, .int .i64 x3, .int .i64 x4, .bool x5] := ⟨_, _, _, _, _, _, rfl⟩
  unfold fndV
  simp only []
  rw [hx'] at HQP ⊢
  have HPg := Lib.hid (fun W => pageOf_at (x : Int) W)
  rw [hp] at HPg
  have m0 := grown_alloc w (.cells #[.int .i64 0, .int .i64 0, .int .i64 0, .int .i64 0, .int .i64 0, .bool false] 37) none
  clear h hx' hp hk hd hm hl hg hx
  generalize ((x % 256 / d.s : Nat) : Int) = y at *
  generalize ((x : Int) / 256) = y2 at *
  generalize ((x : Nat) : Int) = a at *
  generalize ((d.c : Nat) : Int) = c at *
  go_enter Tryz.func27, Tryz.ntmps27
  go_wp2_with fail
  refine (HPg.out _).mono ?_
  rintro e w1 ⟨rfl, m1⟩
  have n1 := grown_trans m0 m1
  go_wp2_with fail
  refine (HS.out _ n1).mono ?_
  rintro e w2 ⟨rfl, m2⟩
  have n2 := grown_trans n1 m2
  go_wp2_with fail
  refine (HC.out _ n2).mono ?_
  rintro e w3 ⟨rfl, rfl⟩
  go_wp2_with fail
  refine (HT.out _).mono ?_
  rintro e w3 ⟨rfl, m3⟩
  have n3 := grown_trans n2 m3
  go_wp2_with fail
  refine (HQP.out _ n3).mono ?_
  rintro e w4 ⟨rfl, m4⟩
  have mm := grown_trans (grown_trans (grown_trans m1 m2) m3) m4
  have HE := Lib.hid (grown_trans n3 m4)
  clear m0 m1 m2 m3 m4 n1 n2 n3 HPg HS HC HT HQP
  have z0 := new_cell (v := .int .i64 0) mm (by simp) 0 rfl
  have z1 := new_cell (v := .int .i64 0) mm (by simp) 1 rfl
  have z2 := new_cell (v := .int .i64 0) mm (by simp) 2 rfl
  have z3 := new_cell (v := .int .i64 0) mm (by simp) 3 rfl
  have z4 := new_cell (v := .int .i64 0) mm (by simp) 4 rfl
  have z5 := new_cell (v := .bool false) mm (by simp) 5 rfl
  have zf : ∀ k, w4.frozen? ⟨w.heap.size, k, none⟩ = false := fun k => by rw [World.frozen?_of_block (mm.block w.heap.size (by simp) (by simp))]; exact frozen_alloc_new ..
  obtain ⟨q, hq⟩ : ∃ q, w.heap.size = q := ⟨_, rfl⟩
  have HQ := Lib.hid hq
  rw [hq] at z0 z1 z2 z3 z4 z5 zf ⊢
  clear hq
  clear mm
  go_wp2
  exact bodyPost_ret (v := .tuple #[.agg #[.int .i64 x0, .int .i64 x1, .int .i64 x2, .int .i64 x3, .int .i64 x4, .bool x5], .bool true]) (by simp [results, Tryz.results27, go_sem, World.cell?_setCell_same', z0, z1, z2, z3, z4, z5]) rfl ⟨rfl, grown_own HE.out (grown_trans (grown_trans (grown_trans (grown_trans (grown_trans (An.agrown_set w4 q 0 _) (An.agrown_set _ q 1 _)) (An.agrown_set _ q 2 _)) (An.agrown_set _ q 3 _)) (An.agrown_set _ q 4 _)) (An.agrown_set _ q 5 _)) (Nat.le_of_eq HQ.out)⟩

theorem pgV_in {x : Nat} (h : x < 65536) : pgV (x : Int) = ((x / 256 : Nat) : Int) := by unfold pgV; rw [if_neg (by omega)]; omega
theorem RnAt.n256 {w : World} {A : Rp} {V : St} {cnt : Nat} (h : RnAt w A V cnt) : V.n * 256 ≤ 65536 := by have := h.ok.n256; omega
theorem RnAt.head0 {w : World} {A : Rp} {V : St} {cnt : Nat} (h : RnAt w A V cnt) (page : Int) (hr : V.row page = Pg.zero) :
    Calls Tryz.prog 81 #[.pointer (some ⟨A.pt, 0, none⟩), .int .i64 page] w fun e w' => e = .returned (.tuple #[.int .i64 0, .bool false]) ∧ w.grownBy w' none := by
  refine Pt.head_none _ page w ?_
  have := Pt.prow_at h.tab page
  unfold St.row at hr
  rw [hr] at this
  exact this
/-- Find, of whatever byte. -/
theorem find_at {w : World} {A : Rp} {V : St} {cnt : Nat} (h : RnAt w A V cnt) {a : Int} {x : Option Pc} (hx : V.At a x) :
    Calls Tryz.prog 27 #[.pointer (some ⟨A.p, 0, none⟩), .int .i64 a] w fun e w' => e = .returned (fndV x) ∧ w.grownBy w' none := by
  have h64 := h.n256
  cases hx with
  | out ho =>
    have hpw : WF (pgV a) ∧ ∀ g : Nat, pgV a = g → V.n ≤ g := by
      unfold pgV
      split
      · exact ⟨⟨by omega, by omega⟩, fun g e => by omega⟩
      · exact ⟨⟨by omega, by omega⟩, fun g e => by omega⟩
    refine find_c1 h rfl (Lib.hid fun W g1 => slots_none (h.grown g1) _ hpw.1 (fun g e => ?_)) (Lib.hid fun W g1 => (h.grown g1).head0 _ ?_)
    · cases hl : V.L g with
      | none => rfl
      | some d => have := (h.ok.sl g d hl).1; have := h.ok.mn; have := hpw.2 g e; omega
    · refine Pt.getR_out (fun hh => ?_)
      have := hpw.2 (pgV a).toNat (by omega)
      omega
  | none g y e hg hn hl hz =>
    subst e
    have hp : pgV (y : Int) = (g : Int) := by rw [pgV_in (by omega), hg]
    have hwf : WF (g : Int) := ⟨by omega, by omega⟩
    have HS : Hid (∀ W, w.grownBy W none → Calls Tryz.prog 63 #[.pointer (some ⟨A.p, 0, none⟩), .int .i64 (g : Int)] W fun e w' => e = .returned (.pointer none) ∧ W.grownBy w' none) :=
      Lib.hid fun W g1 => slots_none (h.grown g1) _ hwf (fun g' e => by rw [← (show g = g' by omega)]; exact hl)
    rcases h.ok.other hn hl hz with hr | ⟨k, hk, hk4, hkr⟩
    · exact find_c1 h hp HS (Lib.hid fun W g1 => (h.grown g1).head0 _ (by rw [V.row_in hn]; exact hr))
    · refine find_c2 h (k := k) hp HS (Lib.hid fun W g1 => Pt.head_owner (h.grown g1).tab g k hn hk ((Pg.isHead_iff _).2 (.inr (.inr hk4))) hkr) (Lib.hid fun W g1 => greatPlace_none (h.grown g1) _ ⟨by omega, by omega⟩ ?_)
      rw [zV_in]
      rcases Nat.eq_zero_or_pos (V.Z k) with e | e
      · exact e
      · have := (h.ok.gr k (by omega)).2.2.2
        rw [this] at hk4
        simp [grow] at hk4
  | slot g d y e hg hn hl => subst e; exact find_c3 h hl hg
  | great g h0 y e hg hn hl hz =>
    subst e
    have hp : pgV (y : Int) = (g : Int) := by rw [pgV_in (by omega), hg]
    have hwf : WF (g : Int) := ⟨by omega, by omega⟩
    obtain ⟨z1, z2, z3⟩ := hz
    have hr := (h.ok.gr h0 z1).2.2.2
    refine find_c2 h (k := h0) hp (Lib.hid fun W g1 => slots_none (h.grown g1) _ hwf (fun g' e => by rw [← (show g = g' by omega)]; exact hl))
      (Lib.hid fun W g1 => Pt.head_owner (h.grown g1).tab g h0 hn z2 (by rw [hr]; rfl) (by rw [hr]; simp only [grow]; omega)) (Lib.hid fun W g1 => greatPlace_some (h.grown g1) z1)
end Go.Proofs.YtgnfcklippjeeaaGreat
