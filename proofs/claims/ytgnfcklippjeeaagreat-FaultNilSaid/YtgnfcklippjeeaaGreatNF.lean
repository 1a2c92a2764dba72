/- The walks of a region's Take, Drop, Give. -/
import Derived.Test.YtgnfcklippjeeaaGreatNE
namespace Go.Proofs.YtgnfcklippjeeaaGreat
open Go.RowKit
open Sl (Cls bs upd FOk LnkIs)
open Lg (pgs)

theorem fok_lto {A : Rp} {V : St} {g : Nat} {d : Sd} (h : FOk d.n d.S d.f) : toV (nmOf A V g d) d.f = lto g d.s d.f := by
  unfold toV lto nmOf
  rcases h with e | ⟨k, hk, e, _⟩
  · rw [e, if_neg (by simp [isK]), if_neg (by omega)]
  · rw [e, if_pos (isK_of hk), if_pos (by omega)]
theorem RnAt.take_slab {w : World} {A : Rp} {V : St} {cnt g k : Nat} {d : Sd} {x : Int} (h : RnAt w A V cnt) (hl : V.L g = some d) (hf : d.f = (k : Int)) (hk : k < d.n) (h0 : d.S k = 0) (hx : LnkIs V.key g d.s d.n d.S V.B k x) (h2 : x ≠ -2) :
    Calls Tryz.prog 87 #[.pointer (some ⟨(A.xs g).p, 0, none⟩)] w fun e w' => e = .returned (.tuple #[.int .i64 k, .int .i64 0]) ∧ RnAt w' A (V.take g d k x) cnt ∧ Fr (A.may V.L) w w' := by
  have hs := h.sl g d hl
  rw [hf] at hs
  refine (take_core hs hk h0 (next_ok hs hk hx h2)).mono ?_
  rintro e w' ⟨he, hs', hfr⟩
  exact ⟨he, ⟨h.toRnW.slab hl hfr hs', h.ok.take hl (hx.fok h2)⟩, hfr.wide (fun i hi => slab_may h.lab hl hi)⟩
theorem RnAt.take_slab_no {w : World} {A : Rp} {V : St} {cnt g k : Nat} {d : Sd} (h : RnAt w A V cnt) (hl : V.L g = some d) (hf : d.f = (k : Int)) (hk : k < d.n) (hx : LnkIs V.key g d.s d.n d.S V.B k (-2)) :
    Calls Tryz.prog 87 #[.pointer (some ⟨(A.xs g).p, 0, none⟩)] w fun e w' => e = .returned (.tuple #[.int .i64 0, .int .i64 4]) ∧ w.grownBy w' none := by
  have hs := h.sl g d hl
  rw [hf] at hs
  exact take_form hs hk (next_no hs (h.ok.sl g d hl).2.2.st hk hx)
theorem RnAt.take_slab_none {w : World} {A : Rp} {V : St} {cnt g : Nat} {d : Sd} (h : RnAt w A V cnt) (hl : V.L g = some d) (hf : d.f = -1) :
    Calls Tryz.prog 87 #[.pointer (some ⟨(A.xs g).p, 0, none⟩)] w fun e w' => e = .returned (.tuple #[.int .i64 0, .int .i64 5]) ∧ w.grownBy w' none := by
  have hs := h.sl g d hl
  rw [hf] at hs
  exact (take_none hs).mono fun _ _ ⟨he, hw⟩ => ⟨he, hw ▸ grown_refl _ _⟩
/-- Does a slot's canary stand? -/
def St.std (V : St) (g : Nat) (d : Sd) (k : Nat) : Bool := decide (Ar.wordAt V.B (bs g d.s k + d.r) = Sl.can V.key g d.s k)
theorem RnAt.drop_slab {w : World} {A : Rp} {V : St} {cnt g k : Nat} {d : Sd} (h : RnAt w A V cnt) (hl : V.L g = some d) (hk : k < d.n) (h1 : d.S k = 1) :
    Calls Tryz.prog 66 #[.pointer (some ⟨(A.xs g).p, 0, none⟩), .int .i64 k] w fun e w' => e = .returned (.tuple #[.bool (V.std g d k), .int .i64 0]) ∧ RnAt w' A (V.drop g d k) cnt ∧ Fr (A.may V.L) w w' := by
  refine (drop_core (h.sl g d hl) (h.ok.sl g d hl).2.2.st hk h1).mono ?_
  rintro e w' ⟨he, hs', hfr⟩
  exact ⟨he, ⟨h.toRnW.slab (d' := { d with S := upd d.S k 2 }) hl hfr hs', h.ok.drop hl h1⟩, hfr.wide (fun i hi => slab_may h.lab hl hi)⟩
theorem RnAt.drop_slab_no {w : World} {A : Rp} {V : St} {cnt g k : Nat} {d : Sd} (h : RnAt w A V cnt) (hl : V.L g = some d) (hk : k < d.n) (h1 : d.S k ≠ 1) :
    Calls Tryz.prog 66 #[.pointer (some ⟨(A.xs g).p, 0, none⟩), .int .i64 k] w fun e w' => e = .returned (.tuple #[.bool false, .int .i64 8]) ∧ w = w' := by
  refine drop_bad _ 8 k w (by omega) ?_
  have := wrong_at (h.sl g d hl) (h.ok.sl g d hl).2.2.st (k : Int) 1
  unfold wrV at this
  rw [if_pos (isK_of (show k < (nmOf A V g d).n from hk)), if_neg (by rw [stV_in (show k < (nmOf A V g d).n from hk)]; omega)] at this
  exact this
theorem RnAt.give_slab {w : World} {A : Rp} {V : St} {cnt g k : Nat} {d : Sd} (h : RnAt w A V cnt) (hl : V.L g = some d) (hk : k < d.n) (h1 : d.S k = 2) :
    Calls Tryz.prog 69 #[.pointer (some ⟨(A.xs g).p, 0, none⟩), .int .i64 k] w fun e w' => e = .returned (.int .i64 0) ∧ RnAt w' A (V.give g d k) cnt ∧ Fr (A.may V.L) w w' := by
  refine (give_core (h.sl g d hl) (h.ok.sl g d hl).2.2.st hk h1).mono ?_
  rintro e w' ⟨he, hs', hfr⟩
  rw [fok_lto (h.ok.sl g d hl).2.2.f] at hs'
  exact ⟨he, ⟨h.toRnW.slab (d' := { d with S := upd d.S k 0, f := k }) hl hfr hs', h.ok.give hl hk⟩, hfr.wide (fun i hi => slab_may h.lab hl hi)⟩
theorem RnAt.give_slab_no {w : World} {A : Rp} {V : St} {cnt g k : Nat} {d : Sd} (h : RnAt w A V cnt) (hl : V.L g = some d) (hk : k < d.n) (h1 : d.S k ≠ 2) :
    Calls Tryz.prog 69 #[.pointer (some ⟨(A.xs g).p, 0, none⟩), .int .i64 k] w fun e w' => e = .returned (.int .i64 8) ∧ w = w' := by
  refine give_bad _ 8 k w (by omega) ?_
  have := wrong_at (h.sl g d hl) (h.ok.sl g d hl).2.2.st (k : Int) 2
  unfold wrV at this
  rw [if_pos (isK_of (show k < (nmOf A V g d).n from hk)), if_neg (by rw [stV_in (show k < (nmOf A V g d).n from hk)]; omega)] at this
  exact this

/-! Take -/
theorem field_base (x0 x1 x2 x3 x4 : Int) (b : Bool) (w : World) : (Instr.field 37 (.agg #[.int .i64 x0, .int .i64 x1, .int .i64 x2, .int .i64 x3, .int .i64 x4, .bool b]) 2).run Tryz.prog w = .ok (.int .i64 x2) w := by kernel_rfl
set_option maxRecDepth 100000 in
set_option maxHeartbeats 1000000 in
theorem rtake_none {w : World} {A : Rp} {V : St} {cnt : Nat} (h : RnAt w A V cnt) (page : Int) (hw : WF page) (hl : ∀ g : Nat, page = g → V.L g = none) :
    Calls Tryz.prog 29 #[.pointer (some ⟨A.p, 0, none⟩), .int .i64 page] w fun e w' => e = .returned (.tuple #[.int .i64 0, .int .i64 6]) ∧ w.grownBy w' none := by
  have HS := Lib.hid (slots_none h page hw hl)
  clear h hw hl
  go_enter Tryz.func29, Tryz.ntmps29
  go_wp2_with fail
  refine HS.out.mono ?_
  rintro e w1 ⟨rfl, m1⟩
  go_wp2
  go_ret2
  exact ⟨rfl, m1⟩
set_option maxRecDepth 100000 in
set_option maxHeartbeats 1000000 in
theorem rtake_err {w : World} {A : Rp} {V : St} {cnt g : Nat} {d : Sd} (er : Int) (hz : er ≠ 0) (h : RnAt w A V cnt) (hl : V.L g = some d)
    (hT : ∀ W, w.grownBy W none → Calls Tryz.prog 87 #[.pointer (some ⟨(A.xs g).p, 0, none⟩)] W fun e w' => e = .returned (.tuple #[.int .i64 0, .int .i64 er]) ∧ W.grownBy w' none) :
    Calls Tryz.prog 29 #[.pointer (some ⟨A.p, 0, none⟩), .int .i64 g] w fun e w' => e = .returned (.tuple #[.int .i64 0, .int .i64 er]) ∧ w.grownBy w' none := by
  have HS := Lib.hid (slots_some h hl)
  have HT := Lib.hid hT
  have hz' : (er != 0) = true := by simpa using hz
  clear h hl hT hz
  go_enter Tryz.func29, Tryz.ntmps29
  go_wp2_with fail
  refine HS.out.mono ?_
  rintro e w1 ⟨rfl, m1⟩
  go_wp2_with fail
  refine (HT.out _ m1).mono ?_
  rintro e w2 ⟨rfl, m2⟩
  have HG := Lib.hid (grown_trans m1 m2)
  clear m1 m2
  go_wp2
  go_ret2
  exact ⟨rfl, HG.out⟩
set_option maxRecDepth 100000 in
set_option maxHeartbeats 1000000 in
theorem rtake_ok {w : World} {A : Rp} {V : St} {cnt g k : Nat} {d : Sd} {x : Int} (h : RnAt w A V cnt) (hl : V.L g = some d) (hf : d.f = (k : Int)) (hk : k < d.n) (h0 : d.S k = 0) (hx : LnkIs V.key g d.s d.n d.S V.B k x) (h2 : x ≠ -2) :
    Calls Tryz.prog 29 #[.pointer (some ⟨A.p, 0, none⟩), .int .i64 g] w fun e w' => e = .returned (.tuple #[.int .i64 (bs g d.s k : Nat), .int .i64 0]) ∧ RnAt w' A (V.take g d k x) cnt ∧ Fr (A.may V.L) w w' := by
  have HS := Lib.hid (slots_some h hl)
  have HT := Lib.hid (fun W (g1 : w.grownBy W none) => (h.grown g1).take_slab hl hf hk h0 hx h2)
  have HP := Lib.hid (fun W (hW : RnAt W A (V.take g d k x) cnt) => slotPlace_at hW (St.set_same _ _ _) hk)
  clear h hl hf hk h0 hx h2
  unfold pcv spc at HP
  simp only [] at HP
  generalize ((bs g d.s k : Nat) : Int) = b at *
  have hfd := field_base
  go_enter Tryz.func29, Tryz.ntmps29
  go_wp2_with fail
  refine HS.out.mono ?_
  rintro e w1 ⟨rfl, m1⟩
  go_wp2_with fail
  refine (HT.out _ m1).mono ?_
  rintro e w2 ⟨rfl, hr, hfr⟩
  have HR := Lib.hid hr
  have HF := Lib.hid ((fr_none (may := A.may V.L) m1).trans hfr)
  clear m1 hr hfr HS HT
  go_wp2_with fail
  refine (HP.out _ HR.out).mono ?_
  rintro e w3 ⟨rfl, m3⟩
  have HR3 := Lib.hid (HR.out.grown m3)
  have HF3 := Lib.hid (HF.out.trans (fr_none m3))
  clear m3 HR HF HP
  go_wp2
  go_ret2
  exact ⟨rfl, HR3.out, HF3.out⟩

/-! Drop -/
theorem place_new (w : World) (x0 x1 x2 x3 x4 : Int) (b : Bool) (t : TypeId) :
    (w.alloc (.cells #[.int .i64 x0, .int .i64 x1, .int .i64 x2, .int .i64 x3, .int .i64 x4, .bool b] t)).cell? ⟨w.heap.size, 0, none⟩ = some (.int .i64 x0) ∧
    (w.alloc (.cells #[.int .i64 x0, .int .i64 x1, .int .i64 x2, .int .i64 x3, .int .i64 x4, .bool b] t)).cell? ⟨w.heap.size, 1, none⟩ = some (.int .i64 x1) := ⟨by rw [cell_alloc_new]; rfl, by rw [cell_alloc_new]; rfl⟩
theorem at_wf {V : St} {a : Int} (_ : V.Ok) (x : Option Pc) (_ : V.At a x) : True := trivial
set_option maxRecDepth 100000 in
set_option maxHeartbeats 1000000 in
theorem rdrop_no {w : World} {A : Rp} {V : St} {cnt : Nat} {a : Int} {x : Option Pc} (h : RnAt w A V cnt) (hx : V.At a x) (hn : ∀ p, x = some p → (p.b : Int) ≠ a) :
    Calls Tryz.prog 17 #[.pointer (some ⟨A.p, 0, none⟩), .int .i64 a] w fun e w' => e = .returned (.tuple #[.bool false, .int .i64 6]) ∧ w.grownBy w' none := by
  have HF := find_at h hx
  cases x with
  | none =>
    unfold fndV pc0 at HF
    simp only [] at HF
    have HF := Lib.hid HF
    clear h hx hn
    go_enter Tryz.func17, Tryz.ntmps17
    go_wp2_with fail
    refine HF.out.mono ?_
    rintro e w1 ⟨rfl, m1⟩
    go_wp2
    go_ret2
    exact ⟨rfl, grown_trans m1 (grown_alloc _ _ _)⟩
  | some p =>
    have hb := hn p rfl
    unfold fndV pcv at HF
    simp only [] at HF
    have hb' : ((p.b : Int) != a) = true := by simpa using hb
    have HF := Lib.hid HF
    clear h hx hn hb
    generalize ((p.b : Nat) : Int) = b at *
    go_enter Tryz.func17, Tryz.ntmps17
    go_wp2_with fail
    refine HF.out.mono ?_
    rintro e w1 ⟨rfl, m1⟩
    go_wp2
    go_ret2
    exact ⟨rfl, grown_trans m1 (grown_alloc _ _ _)⟩
set_option maxRecDepth 100000 in
set_option maxHeartbeats 2000000 in
theorem rdrop_core {w : World} {A : Rp} {V : St} {cnt g k : Nat} {d : Sd} {R : World → Prop} {bo : Bool} {er : Int} (h : RnAt w A V cnt) (hl : V.L g = some d) (hk : k < d.n)
    (hD : ∀ W, w.grownBy W none → Calls Tryz.prog 66 #[.pointer (some ⟨(A.xs g).p, 0, none⟩), .int .i64 k] W fun e w' => e = .returned (.tuple #[.bool bo, .int .i64 er]) ∧ R w' ∧ Fr (A.may V.L) W w') :
    Calls Tryz.prog 17 #[.pointer (some ⟨A.p, 0, none⟩), .int .i64 (bs g d.s k : Nat)] w fun e w' => e = .returned (.tuple #[.bool bo, .int .i64 er]) ∧ R w' ∧ Fr (A.may V.L) w w' := by
  obtain ⟨hgm, _, hd⟩ := h.ok.sl g d hl
  have hgn : g < V.n := by have := h.ok.mn; omega
  obtain ⟨e1, e2⟩ := Sl.bs_slot hd.c g hk
  have HF := find_at h (V := V) (a := (bs g d.s k : Nat)) (.slot g d _ rfl e1 hgn hl)
  rw [e2] at HF
  unfold fndV pcv spc at HF
  simp only [] at HF
  have HF := Lib.hid HF
  have HS := Lib.hid (fun W (g1 : w.grownBy W none) => slots_some (h.grown g1) hl)
  have HD := Lib.hid hD
  have HM := Lib.hid (fun i (hi : A.may V.L i) => h.may_lt hi)
  clear h hl hk hD hgm hd hgn e1 e2
  generalize ((bs g d.s k : Nat) : Int) = b at *
  generalize ((d.S k : Nat) : Int) = st at *
  generalize ((d.r : Nat) : Int) = sz at *
  go_enter Tryz.func17, Tryz.ntmps17
  go_wp2_with fail
  refine HF.out.mono ?_
  rintro e w1 ⟨rfl, m1⟩
  go_upto_region 7 with (fail)
  have m2 := grown_alloc w1 (.cells #[.int .i64 g, .int .i64 k, .int .i64 b, .int .i64 sz, .int .i64 st, .bool false] 37) none
  obtain ⟨e0, e1⟩ := place_new w1 g k b sz st false 37
  have HQ := Lib.hid (fun W (g1 : (w1.alloc (.cells #[.int .i64 g, .int .i64 k, .int .i64 b, .int .i64 sz, .int .i64 st, .bool false] 37)).grownBy W none) => And.intro (g1.cell e0 (by simp)) (g1.cell e1 (by simp)))
  have HQ2 := Lib.hid (fun W W' (g1 : (w1.alloc (.cells #[.int .i64 g, .int .i64 k, .int .i64 b, .int .i64 sz, .int .i64 st, .bool false] 37)).grownBy W none) (hfr : Fr (A.may V.L) W W') =>
    have nq : ¬ A.may V.L w1.heap.size := fun hi => by have := HM.out _ hi; have := m1.size; omega
    And.intro (hfr.cell (g1.cell e0 (by simp)) nq) (hfr.cell (g1.cell e1 (by simp)) nq))
  have HG := Lib.hid (grown_trans m1 m2)
  clear m1 m2 HF HM
  generalize w1.alloc (.cells #[.int .i64 g, .int .i64 k, .int .i64 b, .int .i64 sz, .int .i64 st, .bool false] 37) = w2 at *
  generalize w1.heap.size = q at *
  have hg1 := grown_drew1 (grown_refl w2 none)
  go_region_held3 (fun w' => w'.cell? ⟨q, 0, none⟩ = some (.int .i64 g) ∧ w'.cell? ⟨q, 1, none⟩ = some (.int .i64 k))
    (first | exact ⟨e0, e1⟩ | exact HQ.out _ (by assumption) | exact HS3.out)
    (first
    | (go_at_call 63; refine (HS.out _ (grown_trans HG.out (by assumption))).mono ?_; rintro e w3 ⟨rfl, m⟩; have hg2 := grown_trans (by assumption : w2.grownBy _ none) m; clear m)
    | (go_at_call 66; refine (HD.out _ (grown_trans HG.out (by assumption))).mono ?_; rintro e w3 ⟨rfl, k3, k4⟩; have HS3 := Lib.hid (HQ2.out _ _ (by assumption) k4); have K := Lib.hid (And.intro k3 ((fr_none (may := A.may V.L) (grown_trans HG.out (by assumption))).trans k4)); clear k3 k4))
  all_goals
    go_wp2
    go_ret2
    exact ⟨rfl, K.out⟩
end Go.Proofs.YtgnfcklippjeeaaGreat
