/- The walks of a region's slots, slotPlace, greatPlace, Find. -/
import Derived.Test.YtgnfcklippjeeaaGreatNB
namespace Go.Proofs.YtgnfcklippjeeaaGreat
open Go.RowKit
open Sl (Cls bs upd)
open Lg (pgs)

/-- What a slab says of itself. -/
theorem spage_own {w : World} {X : Pl} {Y : Nm} {f : Int} (h : Own w X Y f) : Calls Tryz.prog 138 #[.pointer (some ⟨X.p, 0, none⟩)] w fun e w' => e = .returned (.int .i64 (Y.g : Nat)) ∧ w = w' := by
  have c2 := h.c2
  clear h
  go_enter Tryz.func138, Tryz.ntmps138
  go_wp2
  go_ret
  exact ⟨rfl, rfl⟩
theorem sclass_own {w : World} {X : Pl} {Y : Nm} {f : Int} (h : Own w X Y f) : Calls Tryz.prog 79 #[.pointer (some ⟨X.p, 0, none⟩)] w fun e w' => e = .returned (.int .i64 (Y.c : Nat)) ∧ w = w' := by
  have c3 := h.c3
  clear h
  go_enter Tryz.func79, Tryz.ntmps79
  go_wp2
  go_ret
  exact ⟨rfl, rfl⟩
theorem sowner_own {w : World} {X : Pl} {Y : Nm} {f : Int} (h : Own w X Y f) : Calls Tryz.prog 91 #[.pointer (some ⟨X.p, 0, none⟩)] w fun e w' => e = .returned (.int .i64 Y.o) ∧ w = w' := by
  have c4 := h.c4
  clear h
  go_enter Tryz.func91, Tryz.ntmps91
  go_wp2
  go_ret
  exact ⟨rfl, rfl⟩

/-- A page's row, as the table tells it. -/
def St.row (V : St) (page : Int) : Pg.Row := Pt.getR V.R V.n page
theorem RnAt.row {w : World} {A : Rp} {V : St} {cnt : Nat} (h : RnAt w A V cnt) (page : Int) {a b c d : Int} (hr : V.row page = ⟨a, b, c, d⟩) :
    Calls Tryz.prog 34 #[.pointer (some ⟨A.pt, 0, none⟩), .int .i64 page] w fun e w' => e = .returned (.agg #[.int .i64 a, .int .i64 b, .int .i64 c, .int .i64 d]) ∧ w.grownBy w' none := by
  have := Pt.prow_at h.tab page
  unfold St.row at hr
  rw [hr] at this
  exact this
theorem St.row_in {V : St} {g : Nat} (h : g < V.n) : V.row (g : Int) = V.R g := Pt.getR_in h

set_option maxRecDepth 100000 in
set_option maxHeartbeats 1000000 in
theorem slots_none {w : World} {A : Rp} {V : St} {cnt : Nat} (h : RnAt w A V cnt) (page : Int) (hw : WF page) (hl : ∀ g : Nat, page = g → V.L g = none) :
    Calls Tryz.prog 63 #[.pointer (some ⟨A.p, 0, none⟩), .int .i64 page] w fun e w' => e = .returned (.pointer none) ∧ w.grownBy w' none := by
  have hrun := h.look page hw
  rw [A.sp_none hl] at hrun
  have c6 := h.c6
  clear h hw hl
  go_enter Tryz.func63, Tryz.ntmps63
  go_wp2
  go_ret
  exact ⟨rfl, grown_refl _ _⟩
set_option maxRecDepth 100000 in
set_option maxHeartbeats 1000000 in
theorem slots_some {w : World} {A : Rp} {V : St} {cnt : Nat} (h : RnAt w A V cnt) {g : Nat} {d : Sd} (hl : V.L g = some d) :
    Calls Tryz.prog 63 #[.pointer (some ⟨A.p, 0, none⟩), .int .i64 g] w fun e w' => e = .returned (.pointer (some ⟨(A.xs g).p, 0, none⟩)) ∧ w.grownBy w' none := by
  obtain ⟨hg, hr, _⟩ := h.ok.sl g d hl
  have hn : g < V.n := by have := h.ok.mn; omega
  have hrun := h.look g ⟨by omega, by have := h.ok.n256; omega⟩
  rw [A.sp_some hl] at hrun
  have c6 := h.c6
  have HR := Lib.hid (fun W (g1 : w.grownBy W none) => (h.grown g1).row (g : Int) (a := 1) (b := (d.c : Nat)) (c := (d.o : Nat)) (d := 1) (by rw [V.row_in hn, hr]; rfl))
  have HC := Lib.hid (fun W (g1 : w.grownBy W none) => sclass_own ((h.grown g1).sl g d hl).own)
  have HO := Lib.hid (fun W (g1 : w.grownBy W none) => sowner_own ((h.grown g1).sl g d hl).own)
  have HS := Lib.hid (fun W => slotsRow_at (d.c : Nat) (d.o : Nat) W)
  simp only [nmOf] at HC HO
  have c4 := h.c4
  clear h hr hn hg hl
  generalize ((d.c : Nat) : Int) = c at *
  generalize ((d.o : Nat) : Int) = o at *
  go_enter Tryz.func63, Tryz.ntmps63
  go_wp2_with fail
  refine (HR.out _ (grown_refl _ _)).mono ?_
  rintro e w1 ⟨rfl, m1⟩
  go_wp2_with fail
  refine (HC.out _ m1).mono ?_
  rintro e w2 ⟨rfl, rfl⟩
  go_wp2_with fail
  refine (HO.out _ m1).mono ?_
  rintro e w2 ⟨rfl, rfl⟩
  go_wp2_with fail
  refine (HS.out _).mono ?_
  rintro e w2 ⟨rfl, m2⟩
  have HG := Lib.hid (grown_trans m1 m2)
  clear m1 m2 c4 c6 HR HC HO HS
  go_wp2
  go_ret
  exact ⟨rfl, HG.out⟩

/-- A place as a value. -/
def pcv (p : Pc) : Value := .agg #[.int .i64 (p.g : Nat), .int .i64 (p.k : Nat), .int .i64 (p.b : Nat), .int .i64 (p.z : Nat), .int .i64 (p.st : Nat), .bool p.gr]
def pc0 : Value := .agg #[.int .i64 0, .int .i64 0, .int .i64 0, .int .i64 0, .int .i64 0, .bool false]
def fndV : Option Pc → Value
  | none => .tuple #[pc0, .bool false]
  | some p => .tuple #[pcv p, .bool true]

set_option maxRecDepth 100000 in
set_option maxHeartbeats 1000000 in
theorem slotPlace_at {w : World} {A : Rp} {V : St} {cnt : Nat} (h : RnAt w A V cnt) {g k : Nat} {d : Sd} (hl : V.L g = some d) (hk : k < d.n) :
    Calls Tryz.prog 80 #[.pointer (some ⟨(A.xs g).p, 0, none⟩), .int .i64 k] w fun e w' => e = .returned (pcv (spc g d k)) ∧ w.grownBy w' none := by
  obtain ⟨hg, _, hd⟩ := h.ok.sl g d hl
  have hs := h.sl g d hl
  have HP := Lib.hid (fun W (g1 : w.grownBy W none) => spage_own (hs.grown g1).own)
  have HC := Lib.hid (fun W (g1 : w.grownBy W none) => sclass_own (hs.grown g1).own)
  have HB := Lib.hid (fun W => cbase_at hs.ok (k : Int) W)
  have HR := Lib.hid (fun W => room_at hs.ok W)
  have HT := Lib.hid (fun W (g1 : w.grownBy W none) => state_in (hs.grown g1) (k := k) hk (hd.st k))
  rw [baseV_in (show k < (nmOf A V g d).n from hk)] at HB
  simp only [nmOf] at HP HC HB HR HT
  unfold pcv spc
  simp only []
  clear h hs hl hg hd hk
  generalize ((bs g d.s k : Nat) : Int) = b at *
  generalize ((d.r : Nat) : Int) = r at *
  generalize ((d.S k : Nat) : Int) = s at *
  generalize ((d.c : Nat) : Int) = c at *
  go_enter Tryz.func80, Tryz.ntmps80
  go_wp2_with fail
  have m0 := grown_alloc w (.cells #[.int .i64 0, .int .i64 0, .int .i64 0, .int .i64 0, .int .i64 0, .bool false] 37) none
  refine (HP.out _ m0).mono ?_
  rintro e w1 ⟨rfl, rfl⟩
  go_wp2_with fail
  refine (HC.out _ m0).mono ?_
  rintro e w1 ⟨rfl, rfl⟩
  go_wp2_with fail
  refine (HB.out _).mono ?_
  rintro e w1 ⟨rfl, rfl⟩
  go_wp2_with fail
  refine (HR.out _).mono ?_
  rintro e w1 ⟨rfl, rfl⟩
  go_wp2_with fail
  refine (HT.out _ m0).mono ?_
  rintro e w1 ⟨rfl, rfl⟩
  go_wp2
  exact bodyPost_ret (v := .agg #[.int .i64 g, .int .i64 k, .int .i64 b, .int .i64 r, .int .i64 s, .bool false]) (by simp [results, Tryz.results80, go_sem]) rfl ⟨rfl, grown_alloc _ _ _⟩

set_option maxRecDepth 100000 in
set_option maxHeartbeats 1000000 in
theorem greatPlace_none {w : World} {A : Rp} {V : St} {cnt : Nat} (h : RnAt w A V cnt) (page : Int) (hw : WF page) (hz : zV V.Z page = 0) :
    Calls Tryz.prog 82 #[.pointer (some ⟨A.p, 0, none⟩), .int .i64 page] w fun e w' => e = .returned (fndV none) ∧ w.grownBy w' none := by
  obtain ⟨E, hE⟩ := h.lg
  have HS := Lib.hid (fun W (g1 : w.grownBy W none) => lsize_at (hE.grown g1) page hw)
  rw [hz] at HS
  simp only [Rp.lp] at HS
  have HP := Lib.hid (fun W => pages_no 0 W (by omega))
  have m0 := grown_alloc w (.cells #[.int .i64 0, .int .i64 0, .int .i64 0, .int .i64 0, .int .i64 0, .bool false] 37) none
  have c7 := (h.grown m0).c7
  clear h hE hw hz
  go_enter Tryz.func82, Tryz.ntmps82
  go_wp2_with fail
  refine (HS.out _ m0).mono ?_
  rintro e w1 ⟨rfl, rfl⟩
  go_wp2_with fail
  refine (HP.out _).mono ?_
  rintro e w1 ⟨rfl, rfl⟩
  go_wp2
  exact bodyPost_ret (v := fndV none) (by simp [results, Tryz.results82, go_sem, fndV, pc0]) rfl ⟨rfl, grown_alloc _ _ _⟩
set_option maxRecDepth 100000 in
set_option maxHeartbeats 1000000 in
theorem greatPlace_some {w : World} {A : Rp} {V : St} {cnt : Nat} (h : RnAt w A V cnt) {g : Nat} (hz : V.Z g ≠ 0) :
    Calls Tryz.prog 82 #[.pointer (some ⟨A.p, 0, none⟩), .int .i64 g] w fun e w' => e = .returned (fndV (some (gpc g (V.Z g)))) ∧ w.grownBy w' none := by
  obtain ⟨h1, h2, h3, hr⟩ := h.ok.gr g hz
  have hn : g < V.n := by have := h.ok.mn; have := Lg.pgs_pos (V.Z g); omega
  have hgn := h.ok.n256
  obtain ⟨E, hE⟩ := h.lg
  have HS := Lib.hid (fun W (g1 : w.grownBy W none) => lsize_at (hE.grown g1) (g : Int) ⟨by omega, by omega⟩)
  rw [zV_in] at HS
  simp only [Rp.lp] at HS
  have HP := Lib.hid (fun W => cpages_at (V.Z g) W h1 h2)
  have HR := Lib.hid (fun W (g1 : w.grownBy W none) => (h.grown g1).row (g : Int) (a := 2) (b := 0) (c := 0) (d := (pgs (V.Z g) : Nat)) (by rw [V.row_in hn, hr]; rfl))
  have HG := Lib.hid (fun W => greatRow_at (pgs (V.Z g) : Nat) W)
  have m0 := grown_alloc w (.cells #[.int .i64 0, .int .i64 0, .int .i64 0, .int .i64 0, .int .i64 0, .bool false] 37) none
  have c7 := (h.grown m0).c7
  have c4 := (h.grown m0).c4
  have hm : (g : Int) * 256 = ((g * 256 : Nat) : Int) := by omega
  have hg1 : (g : Int) ≤ 256 := by omega
  unfold fndV pcv gpc
  simp only []
  clear h hE hz h1 h2 h3 hr hn hgn
  generalize ((V.Z g : Nat) : Int) = z at *
  generalize ((pgs (V.Z g) : Nat) : Int) = r at *
  generalize ((g * 256 : Nat) : Int) = b at *
  go_enter Tryz.func82, Tryz.ntmps82
  go_wp2_with fail
  refine (HS.out _ m0).mono ?_
  rintro e w1 ⟨rfl, rfl⟩
  go_wp2_with fail
  refine (HP.out _).mono ?_
  rintro e w1 ⟨rfl, rfl⟩
  go_wp2_with fail
  refine (HR.out _ m0).mono ?_
  rintro e w1 ⟨rfl, m1⟩
  go_wp2_with fail
  refine (HG.out _).mono ?_
  rintro e w2 ⟨rfl, m2⟩
  have HE := Lib.hid (grown_trans (grown_trans m0 m1) m2)
  have mm := grown_trans m1 m2
  have z0 := new_cell (v := .int .i64 0) mm (by simp) 0 rfl
  have z1 := new_cell (v := .int .i64 0) mm (by simp) 1 rfl
  have z2 := new_cell (v := .int .i64 0) mm (by simp) 2 rfl
  have z3 := new_cell (v := .int .i64 0) mm (by simp) 3 rfl
  have z4 := new_cell (v := .int .i64 0) mm (by simp) 4 rfl
  have z5 := new_cell (v := .bool false) mm (by simp) 5 rfl
  have zf : ∀ k, w2.frozen? ⟨w.heap.size, k, none⟩ = false := fun k => by rw [World.frozen?_of_block (mm.block w.heap.size (by simp) (by simp))]; exact frozen_alloc_new ..
  clear mm
  clear m0 m1 m2 c4 c7 HS HP HR HG
  obtain ⟨q, hq⟩ : ∃ q, w.heap.size = q := ⟨_, rfl⟩
  have HQ := Lib.hid hq
  rw [hq] at z0 z1 z2 z3 z4 z5 zf ⊢
  clear hq
  go_wp2
  exact bodyPost_ret (v := .tuple #[.agg #[.int .i64 g, .int .i64 0, .int .i64 b, .int .i64 z, .int .i64 1, .bool true], .bool true]) (by simp [results, Tryz.results82, go_sem, World.cell?_setCell_same', z0, z1, z2, z3, z4, z5]) rfl ⟨rfl, grown_own HE.out (grown_trans (grown_trans (grown_trans (grown_trans (grown_trans (An.agrown_set w2 q 0 _) (An.agrown_set _ q 1 _)) (An.agrown_set _ q 2 _)) (An.agrown_set _ q 3 _)) (An.agrown_set _ q 4 _)) (An.agrown_set _ q 5 _)) (Nat.le_of_eq HQ.out)⟩
end Go.Proofs.YtgnfcklippjeeaaGreat
