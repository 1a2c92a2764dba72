/- Merged texts: GA GB GC. -/
import Derived.Test.YtgnfcklippjeeaaGreatK4
import Derived.Maps.RangeWalk
import Derived.Maps.OwnOps
import Derived.Maps.OwnSet
/- A set of great blocks in the world; the walks of pages, guard, canary, stands, meets, Size. -/
namespace Go.Proofs.YtgnfcklippjeeaaGreat
open Go.RowKit
open Go.Maps (Keyed)
open Sl (upd)

namespace Lg
/-- How many pages a great block takes. -/
def pgs (n : Nat) : Nat := (n + 263) / 256
theorem pgs_bd {n : Nat} (h : n ≤ 4096) : pgs n ≤ 17 := by unfold pgs; omega
theorem pgs_pos (n : Nat) : 1 ≤ pgs n := by unfold pgs; omega
/-- The blocks: how many bytes the one has that begins there; 0: none does. -/
structure Inv (Z : Nat → Nat) (N : Nat) : Prop where
  gr : ∀ k, Z k ≠ 0 → 120 < Z k ∧ Z k ≤ 4096
  fit : ∀ k, Z k ≠ 0 → (k + pgs (Z k)) * 256 ≤ N
  ap : ∀ j k, Z j ≠ 0 → Z k ≠ 0 → j ≠ k → j + pgs (Z j) ≤ k ∨ k + pgs (Z k) ≤ j
/-- Has one of these blocks one of so many pages? -/
def Hit (Z : Nat → Nat) (page run k : Nat) : Prop := Z k ≠ 0 ∧ k < page + run ∧ page < k + pgs (Z k)
def grd (page n : Nat) : Nat := (page + pgs n) * 256 - 8
def can (key page : Nat) : Nat := Li.mix (key ^^^ Li.u ((page * 256 : Nat) : Int))
theorem Inv.put {Z : Nat → Nat} {N page n : Nat} (h : Inv Z N) (h1 : 120 < n) (h2 : n ≤ 4096) (hf : (page + pgs n) * 256 ≤ N) (hm : ∀ k, ¬ Hit Z page (pgs n) k) : Inv (upd Z page n) N where
  gr := fun k hk => by
    by_cases e : k = page
    · subst e; rw [Sl.upd_same]; exact ⟨h1, h2⟩
    · rw [Sl.upd_other e] at hk ⊢; exact h.gr k hk
  fit := fun k hk => by
    by_cases e : k = page
    · subst e; rw [Sl.upd_same]; exact hf
    · rw [Sl.upd_other e] at hk ⊢; exact h.fit k hk
  ap := fun j k hj hk hjk => by
    by_cases e : j = page
    · subst e
      rw [Sl.upd_other (Ne.symm hjk)] at hk ⊢
      rw [Sl.upd_same]
      have := hm k
      unfold Hit at this
      omega
    · rw [Sl.upd_other e] at hj ⊢
      by_cases e2 : k = page
      · subst e2
        rw [Sl.upd_same]
        have := hm j
        unfold Hit at this
        omega
      · rw [Sl.upd_other e2] at hk ⊢
        exact h.ap j k hj hk hjk
theorem Inv.del {Z : Nat → Nat} {N page : Nat} (h : Inv Z N) : Inv (upd Z page 0) N where
  gr := fun k hk => by
    by_cases e : k = page
    · subst e; rw [Sl.upd_same] at hk; omega
    · rw [Sl.upd_other e] at hk ⊢; exact h.gr k hk
  fit := fun k hk => by
    by_cases e : k = page
    · subst e; rw [Sl.upd_same] at hk; omega
    · rw [Sl.upd_other e] at hk ⊢; exact h.fit k hk
  ap := fun j k hj hk hjk => by
    by_cases e : j = page
    · subst e; rw [Sl.upd_same] at hj; omega
    · by_cases e2 : k = page
      · subst e2; rw [Sl.upd_same] at hk; omega
      · rw [Sl.upd_other e] at hj ⊢
        rw [Sl.upd_other e2] at hk ⊢
        exact h.ap j k hj hk hjk
theorem Inv.nil (N : Nat) : Inv (fun _ => 0) N := ⟨fun _ h => absurd rfl h, fun _ h => absurd rfl h, fun _ _ h => absurd rfl h⟩
end Lg
open Lg (pgs)

theorem kint : Keyed Tryz.prog 3 := Go.Maps.int_keyed Tryz.underlying3
/-- How the set's map reads. -/
structure MapIs (D : DataW Unit) (Z : Nat → Nat) : Prop where
  h1 : ∀ k : Nat, Z k ≠ 0 → Go.Maps.has D (.int .i64 k) = true
  h0 : ∀ kl, Go.Maps.has D kl = true → ∃ k : Nat, kl = .int .i64 k ∧ Z k ≠ 0
  at_ : ∀ k : Nat, Z k ≠ 0 → ∀ zd, D.atKey (.int .i64 k) zd = .lit (.int .i64 (Z k : Nat))
theorem MapIs.no {D : DataW Unit} {Z : Nat → Nat} (h : MapIs D Z) {x : Int} (hx : ∀ k : Nat, x = k → Z k = 0) : Go.Maps.has D (.int .i64 x) = false := by
  cases hh : Go.Maps.has D (.int .i64 x) with
  | false => rfl
  | true =>
    obtain ⟨k, e, hk⟩ := h.h0 _ hh
    injection e with _ e
    exact absurd (hx k e) hk
theorem mapIs_nil : MapIs (.map []) (fun _ => 0) := ⟨fun _ h => absurd rfl h, fun kl h => by simp [Go.Maps.has_eq] at h, fun _ h => absurd rfl h⟩
theorem intlit_ne {a b : Int} (h : a ≠ b) : (Lit.int .i64 a) ≠ .int .i64 b := fun e => h (by injection e)
theorem MapIs.put {D : DataW Unit} {Z : Nat → Nat} (h : MapIs D Z) (hD : Go.Maps.IsMap D) {k n : Nat} (hk : k ≤ 65536) (hn : n ≠ 0) : MapIs (D.put (.int .i64 k) (.lit (.int .i64 (n : Nat)))) (upd Z k n) := by
  have hkl : WideAt.IsKeyLit (.int .i64 (k : Int)) := kint.key (Go.Maps.keyOf_int_mk Tryz.underlying3 (WalkArith.wf_i64 (by omega)))
  refine ⟨fun j hj => ?_, fun kl hkl' => ?_, fun j hj zd => ?_⟩
  · by_cases e : j = k
    · subst e; exact Go.Maps.has_put_same hD hkl _
    · rw [Sl.upd_other e] at hj
      rw [Go.Maps.has_put_other (intlit_ne (by omega))]
      exact h.h1 j hj
  · by_cases e : kl = .int .i64 (k : Int)
    · exact ⟨k, e, by rw [Sl.upd_same]; exact hn⟩
    · rw [Go.Maps.has_put_other e] at hkl'
      obtain ⟨j, e2, hj⟩ := h.h0 kl hkl'
      exact ⟨j, e2, by rw [Sl.upd_other (fun x => e (by rw [e2, x]))]; exact hj⟩
  · by_cases e : j = k
    · subst e; rw [Go.Maps.atKey_put_same hD hkl, Sl.upd_same]
    · rw [Sl.upd_other e] at hj ⊢
      rw [Go.Maps.atKey_put_other (intlit_ne (by omega))]
      exact h.at_ j hj zd
theorem MapIs.del {D : DataW Unit} {Z : Nat → Nat} (h : MapIs D Z) (k : Nat) : MapIs (D.del (.int .i64 k)) (upd Z k 0) := by
  refine ⟨fun j hj => ?_, fun kl hkl' => ?_, fun j hj zd => ?_⟩
  · by_cases e : j = k
    · subst e; rw [Sl.upd_same] at hj; omega
    · rw [Sl.upd_other e] at hj
      rw [Go.Maps.has_del_other (intlit_ne (by omega))]
      exact h.h1 j hj
  · by_cases e : kl = .int .i64 (k : Int)
    · rw [e, Go.Maps.has_del_same] at hkl'; cases hkl'
    · rw [Go.Maps.has_del_other e] at hkl'
      obtain ⟨j, e2, hj⟩ := h.h0 kl hkl'
      exact ⟨j, e2, by rw [Sl.upd_other (fun x => e (by rw [e2, x]))]; exact hj⟩
  · by_cases e : j = k
    · subst e; rw [Sl.upd_same] at hj; omega
    · rw [Sl.upd_other e] at hj ⊢
      rw [Go.Maps.atKey_del_other (intlit_ne (by omega))]
      exact h.at_ j hj zd

/-- Where a set's parts lie, and its numbers. -/
structure Lp where
  p : Nat
  pa : Nat
  qa : Nat
  mb : Nat
  key : Nat
  N : Nat
  cap : Nat
/-- A set of great blocks. -/
structure LgAt (w : World) (X : Lp) (cnt : Nat) (D : DataW Unit) (Z B : Nat → Nat) : Prop where
  c0 : w.cell? ⟨X.p, 0, none⟩ = some (.pointer (some ⟨X.pa, 0, none⟩))
  c1 : w.cell? ⟨X.p, 1, none⟩ = some (.int .u64 (X.key : Nat))
  c2 : w.cell? ⟨X.p, 2, none⟩ = some (.map (some X.mb))
  ar : An.ArAt w X.pa X.qa X.N X.cap B none
  map : w.ownsMap Tryz.prog 3 (plainElem Tryz.prog 3) X.mb cnt D
  is : MapIs D Z
  inv : Lg.Inv Z X.N
  ap : X.p ≠ X.qa ∧ X.p ≠ X.mb ∧ X.pa ≠ X.mb ∧ X.qa ≠ X.mb
  k : X.key < 18446744073709551616
theorem LgAt.grown {w w' : World} {X : Lp} {cnt : Nat} {D : DataW Unit} {Z B : Nat → Nat} (h : LgAt w X cnt D Z B) (hg : w.grownBy w' none) : LgAt w' X cnt D Z B :=
  ⟨hg.cell h.c0 (by simp), hg.cell h.c1 (by simp), hg.cell h.c2 (by simp), h.ar.grown hg (by simp) (by simp), h.map.kept hg (by simp), h.is, h.inv, h.ap, h.k⟩
theorem LgAt.arena {w w' : World} {X : Lp} {cnt : Nat} {D : DataW Unit} {Z B B' : Nat → Nat} (h : LgAt w X cnt D Z B) (hg : w.grownBy w' (some X.qa)) (ha : An.ArAt w' X.pa X.qa X.N X.cap B' none) : LgAt w' X cnt D Z B' :=
  ⟨hg.cell h.c0 (some_ne h.ap.1), hg.cell h.c1 (some_ne h.ap.1), hg.cell h.c2 (some_ne h.ap.1), ha, h.map.kept hg (some_ne h.ap.2.2.2.symm), h.is, h.inv, h.ap, h.k⟩
theorem LgAt.turn {w w' : World} {X : Lp} {cnt cnt' : Nat} {D D' : DataW Unit} {Z Z' B : Nat → Nat} (h : LgAt w X cnt D Z B) (hg : w.grownBy w' (some X.mb)) (hm : w'.ownsMap Tryz.prog 3 (plainElem Tryz.prog 3) X.mb cnt' D') (hi : MapIs D' Z') (hv : Lg.Inv Z' X.N) : LgAt w' X cnt' D' Z' B :=
  ⟨hg.cell h.c0 (some_ne h.ap.2.1), hg.cell h.c1 (some_ne h.ap.2.1), hg.cell h.c2 (some_ne h.ap.2.1), h.ar.grown hg (some_ne h.ap.2.2.1) (some_ne h.ap.2.2.2), hm, hi, hv, h.ap, h.k⟩
def Lp.may (X : Lp) (i : Nat) : Prop := i = X.qa ∨ i = X.mb

theorem cpages_at (n : Nat) (w : World) (h1 : 120 < n) (h2 : n ≤ 4096) : Calls Tryz.prog 88 #[.int .i64 n] w fun e w' => e = .returned (.tuple #[.int .i64 (pgs n : Nat), .bool true]) ∧ w = w' := by
  have := pages_yes n w h1 h2
  exact this
set_option maxHeartbeats 400000 in
theorem lpages_at (n : Nat) (w : World) (h1 : 120 < n) (h2 : n ≤ 4096) :
    Calls Tryz.prog 133 #[.int .i64 n] w fun e w' => e = .returned (.int .i64 (pgs n : Nat)) ∧ w = w' := by
  have HP := Lib.hid (cpages_at n w h1 h2)
  clear h1 h2
  go_enter Tryz.func133, Tryz.ntmps133
  go_wp2_with (go_at_call 88; refine HP.out.mono ?_; rintro e w' ⟨rfl, rfl⟩)
  go_ret
  exact ⟨rfl, rfl⟩
set_option maxHeartbeats 400000 in
theorem lguard_at (page n : Nat) (w : World) (h1 : 120 < n) (h2 : n ≤ 4096) (hp : page ≤ 65536) :
    Calls Tryz.prog 151 #[.int .i64 page, .int .i64 n] w fun e w' => e = .returned (.int .i64 (Lg.grd page n : Nat)) ∧ w = w' := by
  have HP := Lib.hid (lpages_at n w h1 h2)
  have hb := Lg.pgs_bd h2
  have hb1 := Lg.pgs_pos n
  have e1 : ((page : Nat) : Int) + (pgs n : Nat) = ((page + pgs n : Nat) : Int) := by omega
  have e2 : ((page + pgs n : Nat) : Int) * 256 - 8 = ((Lg.grd page n : Nat) : Int) := by unfold Lg.grd; omega
  have hb2 : ((page + pgs n : Nat) : Int) ≤ 65553 ∧ 1 ≤ ((page + pgs n : Nat) : Int) := by omega
  obtain ⟨hb3, hb4⟩ := hb2
  clear h1 h2 hb hb1
  generalize ((Lg.grd page n : Nat) : Int) = y at *
  generalize ((page + pgs n : Nat) : Int) = x at *
  generalize pgs n = z at *
  go_enter Tryz.func151, Tryz.ntmps151
  go_wp2_with (go_at_call 133; refine HP.out.mono ?_; rintro e w' ⟨rfl, rfl⟩)
  go_ret
  exact ⟨rfl, rfl⟩
set_option maxHeartbeats 400000 in
theorem lcan_at {w : World} {p key : Nat} (page : Nat) (c1 : w.cell? ⟨p, 1, none⟩ = some (.int .u64 (key : Nat))) (hk : key < 18446744073709551616) (hp : page ≤ 65536) :
    Calls Tryz.prog 152 #[.pointer (some ⟨p, 0, none⟩), .int .i64 page] w fun e w' => e = .returned (.int .u64 (Lg.can key page : Nat)) ∧ w.grownBy w' none := by
  have HC : Hid (∀ W, Calls Tryz.prog 149 #[.agg #[.int .u64 (key : Nat)], .int .i64 ((page * 256 : Nat) : Int)] W fun e w' => e = .returned (.int .u64 (Lg.can key page : Nat)) ∧ W.grownBy w' none) := Lib.hid (fun W => canary_at key hk _ W)
  have e1 : ((page : Nat) : Int) * 256 = ((page * 256 : Nat) : Int) := by omega
  clear hk
  generalize ((page * 256 : Nat) : Int) = x at *
  generalize Lg.can key page = z at *
  go_enter Tryz.func152, Tryz.ntmps152
  go_wp2_with (go_at_call 149; refine (HC.out _).mono ?_; rintro e w2 ⟨rfl, hg⟩; have HG := Lib.hid hg; clear hg)
  go_ret
  exact ⟨rfl, HG.out⟩
theorem grd_ok {N page n : Nat} (hf : (page + pgs n) * 256 ≤ N) : Lg.grd page n + 8 ≤ N ∧ Lg.grd page n % 8 = 0 := by
  have := Lg.pgs_pos n
  unfold Lg.grd
  omega
set_option maxRecDepth 100000 in
set_option maxHeartbeats 1000000 in
theorem lstands_at {w : World} {X : Lp} {cnt : Nat} {D : DataW Unit} {Z B : Nat → Nat} (h : LgAt w X cnt D Z B) {page n : Nat} (h1 : 120 < n) (h2 : n ≤ 4096) (hf : (page + pgs n) * 256 ≤ X.N) :
    Calls Tryz.prog 126 #[.pointer (some ⟨X.p, 0, none⟩), .int .i64 page, .int .i64 n] w fun e w' => e = .returned (.bool (decide (Ar.wordAt B (Lg.grd page n) = Lg.can X.key page))) ∧ w.grownBy w' none := by
  have hpg : page ≤ 65536 := by have := h.ar.small; omega
  have c0 := h.c0
  have HG := Lib.hid (fun W => lguard_at page n W h1 h2 hpg)
  obtain ⟨g1, g2⟩ := grd_ok hf
  have HW : Hid (∀ d, Calls Tryz.prog 174 #[.pointer (some ⟨X.pa, 0, none⟩), .int .i64 (Lg.grd page n : Nat)] (w.drewN d) fun e w' => e = .returned (.tuple #[.int .u64 (Ar.wordAt B (Lg.grd page n) : Nat), .int .i64 0]) ∧ w.drewN d = w') := Lib.hid (fun d => word_in (h.grown (grown_drew (grown_refl w none) d)).ar g1 g2)
  have HC := Lib.hid (fun d => lcan_at (w := w.drewN d) page (by simpa using h.c1) h.k hpg)
  have HE : Hid ((((Ar.wordAt B (Lg.grd page n) : Nat) : Int) == ((Lg.can X.key page : Nat) : Int)) = decide (Ar.wordAt B (Lg.grd page n) = Lg.can X.key page)) := Lib.hid (by
    by_cases e : Ar.wordAt B (Lg.grd page n) = Lg.can X.key page
    · rw [e]; simp
    · rw [show decide _ = false from by simpa using e]
      simp only [beq_eq_false_iff_ne]
      omega)
  clear h h1 h2 hf hpg g1 g2
  generalize decide (Ar.wordAt B (Lg.grd page n) = Lg.can X.key page) = b at *
  generalize Ar.wordAt B (Lg.grd page n) = x at *
  generalize Lg.can X.key page = y at *
  generalize Lg.grd page n = z at *
  go_enter Tryz.func126, Tryz.ntmps126
  go_upto_region 1 with (fail)
  go_quiet (first
    | (go_at_call 151; exact quiet_left (HG.out _))
    | (go_at_call 174; exact quiet_left (HW.out _)))
  rename_i nq
  have HCC := Lib.hid (HC.out nq)
  have hg0 := grown_drew (grown_refl w none) nq
  clear HG HW HC c0
  generalize w.drewN nq = w1 at *
  go_wp2_with fail
  refine HCC.out.mono ?_
  rintro e w2 ⟨rfl, hg⟩
  have HGG := Lib.hid (grown_trans hg0 hg)
  clear hg hg0
  go_wp2
  go_ret
  exact ⟨ret_bool HE.out, HGG.out⟩
end Go.Proofs.YtgnfcklippjeeaaGreat

/- The walks of a set's New, Size, meets, Make. -/
namespace Go.Proofs.YtgnfcklippjeeaaGreat
open Go.RowKit
open Go.Maps (Keyed)
open Sl (upd)
open Lg (pgs)

theorem lit_inj {a b : Int} (h : (DataW.lit (.int .i64 a) : DataW Unit) = .lit (.int .i64 b)) : a = b := by cases h; rfl
theorem zero_int (w : World) : (zeroValue 3).run Tryz.prog w = .ok (.int .i64 0) w := by kernel_rfl
/-- How many bytes the block has that begins there. -/
def zV (Z : Nat → Nat) (page : Int) : Nat := if 0 ≤ page then Z page.toNat else 0
theorem zV_in (Z : Nat → Nat) (k : Nat) : zV Z (k : Int) = Z k := by unfold zV; rw [if_pos (by omega), Int.toNat_natCast]
def WF (x : Int) : Prop := -9223372036854775808 ≤ x ∧ x ≤ 9223372036854775807
theorem LgAt.look {w : World} {X : Lp} {cnt : Nat} {D : DataW Unit} {Z B : Nat → Nat} (h : LgAt w X cnt D Z B) (page : Int) (hw : WF page) :
    (Instr.lookup 179 (.map (some X.mb)) (.int .i64 page) true).run Tryz.prog w = .ok (.tuple #[.int .i64 (zV Z page : Nat), .bool (decide (zV Z page ≠ 0))]) w ∧
    (Instr.lookup 179 (.map (some X.mb)) (.int .i64 page) false).run Tryz.prog w = .ok (.int .i64 (zV Z page : Nat)) w := by
  have hkey := Go.Maps.keyOf_int_mk (P := Tryz.prog) Tryz.underlying3 (a := page) (WalkArith.wf_i64 hw)
  obtain ⟨v, ps, hrun, hv⟩ := h.map.look_ok kint Tryz.underlying179 (zero_int w) (plainElem_int Tryz.underlying3 (by decide)) hkey
  obtain ⟨c, rfl, hc, hwc⟩ := plainElem_int_inv Tryz.underlying3 hv
  obtain ⟨c2, hrun2, hat2, _⟩ := h.map.lookup_int kint Tryz.underlying179 Tryz.underlying3 (zero_int w) hkey
  have hc' := congrArg Prod.fst hc
  simp only at hc'
  rw [hc'] at hat2
  have e2 : c = c2 := lit_inj hat2
  subst e2
  by_cases hz : zV Z page = 0
  · have hno : Go.Maps.has D (.int .i64 page) = false := h.is.no (fun k e => by subst e; rw [zV_in] at hz; exact hz)
    rw [Go.Maps.atKey_of_not_has hno] at hc'
    have ec : c = 0 := (lit_inj hc').symm
    rw [hrun, hrun2, hno, hz, ec]
    exact ⟨rfl, rfl⟩
  · have hp : 0 ≤ page := by unfold zV at hz; split at hz; assumption; exact absurd rfl hz
    obtain ⟨k, rfl⟩ : ∃ k : Nat, page = k := ⟨page.toNat, by omega⟩
    rw [zV_in] at hz ⊢
    rw [h.is.at_ k hz] at hc'
    have ec : c = (Z k : Nat) := (lit_inj hc').symm
    rw [hrun, hrun2, h.is.h1 k hz, ec]
    exact ⟨by rw [show decide (Z k ≠ 0) = true by simpa using hz], rfl⟩
theorem LgAt.store {w : World} {X : Lp} {cnt : Nat} {D : DataW Unit} {Z B : Nat → Nat} (h : LgAt w X cnt D Z B) {page n : Nat} (h1 : 120 < n) (h2 : n ≤ 4096) (hf : (page + pgs n) * 256 ≤ X.N) (hm : ∀ k, ¬ Lg.Hit Z page (pgs n) k) (hcnt : cnt ≤ 100000) :
    ∃ w' D', (Instr.mapUpdate 179 (.map (some X.mb)) (.int .i64 page) (.int .i64 n)).run Tryz.prog w = .ok () w' ∧ LgAt w' X (cnt + 1) D' (upd Z page n) B ∧ w.grownBy w' (some X.mb) := by
  have hp : page ≤ 65536 := by have := h.ar.small; omega
  have hkey := Go.Maps.keyOf_int_mk (P := Tryz.prog) Tryz.underlying3 (a := (page : Int)) (WalkArith.wf_i64 (by omega))
  obtain ⟨w', hrun, hown, hg⟩ := h.map.update kint Tryz.underlying179 (by simp only [maxLen]; omega) hkey (plainElem_int (H := Unit) Tryz.underlying3 (a := (n : Int)) (WalkArith.wf_i64 (by omega)))
  exact ⟨w', _, hrun, h.turn hg hown (h.is.put h.map.isMap hp (by omega)) (h.inv.put h1 h2 hf hm), hg⟩

set_option maxHeartbeats 400000 in
theorem lnew_nil (k : Nat) (w : World) :
    Calls Tryz.prog 76 #[.pointer none, .agg #[.int .u64 k]] w fun e w' => e = .returned (.pointer none) ∧ w.grownBy w' none := by
  go_enter Tryz.func76, Tryz.ntmps76
  go_wp2
  go_ret
  exact ⟨rfl, grown_alloc _ _ _⟩
/-- A new set. -/
def LgMade (w w' : World) (pa qa N cap key : Nat) (B : Nat → Nat) (e : Ending) : Prop :=
  ∃ p mb, e = .returned (.pointer (some ⟨p, 0, none⟩)) ∧ LgAt w' ⟨p, pa, qa, mb, key, N, cap⟩ 0 (.map []) (fun _ => 0) B ∧ w.heap.size ≤ p ∧ w.heap.size ≤ mb ∧ w.grownBy w' none
set_option maxHeartbeats 1000000 in
theorem lnew_at {w : World} {pa qa N cap key : Nat} {B : Nat → Nat} (h : An.ArAt w pa qa N cap B none) (hk : key < 18446744073709551616) :
    Calls Tryz.prog 76 #[.pointer (some ⟨pa, 0, none⟩), .agg #[.int .u64 key]] w fun e w' => LgMade w w' pa qa N cap key B e := by
  have H := Lib.hid h
  have HK := Lib.hid hk
  clear h hk
  have hmmk := @run_makeMap Tryz.prog
  go_enter Tryz.func76, Tryz.ntmps76
  go_wp2
  go_ret
  have s1 : (w.alloc (.cells #[.int .u64 key] 107)).heap.size = w.heap.size + 1 := by simp
  have s2 : ((w.alloc (.cells #[.int .u64 key] 107)).alloc (.map #[] 0)).heap.size = w.heap.size + 1 + 1 := by simp
  have g2 := grown_trans (grown_alloc w (.cells #[.int .u64 key] 107) none) (grown_alloc (w.alloc (.cells #[.int .u64 key] 107)) (.map #[] 0) none)
  have hmm := World.ownsMap_made (H := Unit) (w.alloc (.cells #[.int .u64 key] 107)) Tryz.prog 3 (plainElem Tryz.prog 3)
  rw [s1] at hmm
  have hpl := H.out.plt
  have hql := H.out.b.qlt
  generalize (w.alloc (.cells #[.int .u64 key] 107)).alloc (.map #[] 0) = w2 at *
  have g3 := grown_alloc w2 (.cells #[.pointer (some ⟨pa, 0, none⟩), .int .u64 key, .map (some (w.heap.size + 1))] 181) none
  refine ⟨w.heap.size + 1 + 1, w.heap.size + 1, rfl, ⟨?_, ?_, ?_, H.out.grown (grown_trans g2 g3) (by simp) (by simp), hmm.kept g3 (by simp), mapIs_nil, Lg.Inv.nil _, ⟨?_, ?_, ?_, ?_⟩, HK.out⟩, by omega, by omega, grown_trans g2 g3⟩
  · show (w2.alloc _).cell? ⟨w.heap.size + 1 + 1, 0, none⟩ = _
    rw [← s2, cell_alloc_new]; rfl
  · show (w2.alloc _).cell? ⟨w.heap.size + 1 + 1, 1, none⟩ = _
    rw [← s2, cell_alloc_new]; rfl
  · show (w2.alloc _).cell? ⟨w.heap.size + 1 + 1, 2, none⟩ = _
    rw [← s2, cell_alloc_new]; rfl
  · show w.heap.size + 1 + 1 ≠ qa; omega
  · show w.heap.size + 1 + 1 ≠ w.heap.size + 1; omega
  · show pa ≠ w.heap.size + 1; omega
  · show qa ≠ w.heap.size + 1; omega

theorem lsize_nil (page : Int) (w : World) :
    Calls Tryz.prog 141 #[.pointer none, .int .i64 page] w fun e w' => e = .returned (.int .i64 0) ∧ w = w' := by
  go_enter Tryz.func141, Tryz.ntmps141
  go_wp2
  go_ret
  exact ⟨rfl, rfl⟩
set_option maxHeartbeats 400000 in
theorem lsize_at {w : World} {X : Lp} {cnt : Nat} {D : DataW Unit} {Z B : Nat → Nat} (h : LgAt w X cnt D Z B) (page : Int) (hw : WF page) :
    Calls Tryz.prog 141 #[.pointer (some ⟨X.p, 0, none⟩), .int .i64 page] w fun e w' => e = .returned (.int .i64 (zV Z page : Nat)) ∧ w = w' := by
  have hrun := (h.look page hw).2
  have c2 := h.c2
  clear h hw
  go_enter Tryz.func141, Tryz.ntmps141
  go_wp2
  go_ret
  exact ⟨rfl, rfl⟩

/-- Does the set have one of these pages? -/
def Meets (w w' : World) (Z : Nat → Nat) (page run : Nat) (e : Ending) : Prop := ∃ b : Bool, e = .returned (.bool b) ∧ (b = true ↔ ∃ k, Lg.Hit Z page run k) ∧ w.grownBy w' none
set_option maxRecDepth 100000 in
set_option maxHeartbeats 4000000 in
theorem meets_at {w : World} {X : Lp} {cnt : Nat} {D : DataW Unit} {Z B : Nat → Nat} (h : LgAt w X cnt D Z B) (page run : Nat) (hp : page ≤ 65536) (hr : run ≤ 65536) :
    Calls Tryz.prog 150 #[.pointer (some ⟨X.p, 0, none⟩), .int .i64 page, .int .i64 run] w fun e w' => Meets w w' Z page run e := by
  have c2 := h.c2
  have hown := h.map
  have HI := Lib.hid h.is
  have HV := Lib.hid h.inv
  have HN := Lib.hid h.ar.small
  obtain ⟨s, hs⟩ : ∃ s : Int, (page : Int) + (run : Int) = s := ⟨_, rfl⟩
  have hs1 : 0 ≤ s ∧ s ≤ 131072 := by omega
  obtain ⟨hs1, hs2⟩ := hs1
  have HS := Lib.hid hs
  clear h
  go_enter Tryz.func150, Tryz.ntmps150
  go_wp2_with (at_range; refine wpList_range_own _ rfl _ 179 rfl 3 3 kint Tryz.underlying179 (plainElem Tryz.prog 3) X.mb cnt D rfl hown ?_; intro w1 hrg1 hg1 hs1)
  go_frame
  obtain ⟨r, hr'⟩ : ∃ r, r = w.heap.size := ⟨_, rfl⟩
  rw [← hr'] at hrg1 ⊢
  have HRG := Lib.hid hrg1
  have HG1 := Lib.hid hg1
  have HRR := Lib.hid hr'
  clear hown c2 hrg1 hg1 hr'
  go_loopw [14] (fun _ wr => ∃ left c1, wr.ranges Tryz.prog 3 (plainElem Tryz.prog 3) X.mb r cnt D left c1 ∧ (∀ kl, left kl = true → Go.Maps.has D kl = true) ∧ w.grownBy wr none ∧ (∀ k : Nat, left (.int .i64 k) = false → ¬ Lg.Hit Z page run k)) (fun _ wr => wr.rangeLeft X.mb r)
  case atStart => exact ⟨_, _, HRG.out, fun _ h => h, HG1.out, fun k hk hh => by rw [HI.out.h1 k hh.1] at hk; cases hk⟩
  case round =>
    clear HRG HG1
    obtain ⟨left, c1, hrg, hsub, hg, hno⟩ := hrel
    have HSub := Lib.hid hsub
    have HG := Lib.hid hg
    have HNo := Lib.hid hno
    have HM := Lib.hid hrg.left_eq
    clear hsub hg hno
    go_wp2_with (at_next; refine wpList_next_ranges_ii _ rfl _ rfl 3 3 .i64 .i64 kint Tryz.underlying3 Tryz.underlying3 X.mb r cnt D left c1 rfl hrg ?_ ?_)
    · intro hc0 hl0
      have HF : Hid (¬ ∃ k, Lg.Hit Z page run k) := Lib.hid (fun ⟨k, hk⟩ => HNo.out k (hl0 _) hk)
      clear hc0 hl0 hrg
      go_wp2
      go_ret
      exact ⟨false, rfl, ⟨(fun h => nomatch h), fun h => absurd h HF.out⟩, HG.out⟩
    · intro x c w2 c2 hwx hwc hlx hat hrg2 hlt hgr hsz hen
      obtain ⟨k, ek, hk⟩ := HI.out.h0 _ (HSub.out _ hlx)
      obtain rfl : x = k := by injection ek
      have ec := (hat .nil).symm.trans (HI.out.at_ k hk .nil)
      obtain rfl : c = (Z k : Nat) := lit_inj ec
      have hz := HV.out.gr k hk
      have hfit := HV.out.fit k hk
      have hb17 := Lg.pgs_bd hz.2
      have HRG2 := Lib.hid hrg2
      have HLT := Lib.hid hlt
      have HG2 := Lib.hid (grown_own HG.out hgr (Nat.le_of_eq HRR.out.symm))
      have HP := Lib.hid (fun W => lpages_at (Z k) W hz.1 hz.2)
      have HZ := Lib.hid hk
      obtain ⟨t, ht⟩ : ∃ t : Int, (k : Int) + (pgs (Z k) : Nat) = t := ⟨_, rfl⟩
      have hk1 : (k : Int) ≤ 65536 := by have := HN.out; omega
      have ht1 : t ≤ 131072 := by omega
      have ht0 : 0 ≤ t := by omega
      have HT := Lib.hid ht
      have HD : Hid (Lg.Hit Z page run k ↔ (k : Int) < s ∧ (page : Int) < t) := Lib.hid (by have := HS.out; unfold Lg.Hit; omega)
      have HL2 : Hid (∀ z, (left z && !z.sameKey (.int .i64 (k : Int))) = true → Go.Maps.has D z = true) := Lib.hid (fun z hz => HSub.out z (by simp at hz; exact hz.1))
      have HNo2 : Hid (¬ Lg.Hit Z page run k → ∀ j : Nat, (left (.int .i64 j) && !(Lit.int .i64 (j : Int)).sameKey (.int .i64 (k : Int))) = false → ¬ Lg.Hit Z page run j) := Lib.hid (fun h0 j hj => by
        by_cases e : j = k
        · subst e; exact h0
        · rw [Go.Maps.sameKey_ne (intlit_ne (by omega))] at hj
          exact HNo.out j (by simpa using hj))
      clear hrg hwx hwc hlx hat hrg2 hlt hgr hsz ek hk ec hz hfit hb17 HSub HNo HG
      generalize pgs (Z k) = pz at *
      generalize Z k = zk at *
      by_cases a1 : (k : Int) < s
      · by_cases a2 : (page : Int) < t
        · go_wp2_with (go_at_call 133; refine (HP.out _).mono ?_; rintro e w' ⟨rfl, rfl⟩)
          go_ret
          exact ⟨true, rfl, ⟨fun _ => ⟨k, HD.out.2 ⟨a1, a2⟩⟩, fun _ => rfl⟩, HG2.out⟩
        · go_wp2_with (go_at_call 133; refine (HP.out _).mono ?_; rintro e w' ⟨rfl, rfl⟩)
          go_roundw
          case rel => exact ⟨_, _, HRG2.out, HL2.out, HG2.out, HNo2.out (fun h => by have := (HD.out.1 h).2; omega)⟩
          case measure => rw [HRG2.out.left_eq, HM.out]; exact HLT.out
      · go_wp2
        go_roundw
        case rel => exact ⟨_, _, HRG2.out, HL2.out, HG2.out, HNo2.out (fun h => by have := (HD.out.1 h).1; omega)⟩
        case measure => rw [HRG2.out.left_eq, HM.out]; exact HLT.out

set_option maxHeartbeats 400000 in
theorem lmake_nil (page n : Int) (w : World) :
    Calls Tryz.prog 90 #[.pointer none, .int .i64 page, .int .i64 n] w fun e w' => e = .returned (.int .i64 2) ∧ w = w' := by
  go_enter Tryz.func90, Tryz.ntmps90
  go_wp2
  go_ret
  exact ⟨rfl, rfl⟩
set_option maxRecDepth 100000 in
set_option maxHeartbeats 1000000 in
theorem lmake_arg (p : Nat) (w : World) (page n : Int) (hb : page < 0 ∨ n ≤ 120 ∨ 4096 < n) :
    Calls Tryz.prog 90 #[.pointer (some ⟨p, 0, none⟩), .int .i64 page, .int .i64 n] w fun e w' => e = .returned (.int .i64 1) ∧ w = w' := by
  by_cases hn : n ≤ 120 ∨ 4096 < n
  · have HP := Lib.hid (pages_no n w hn)
    clear hb hn
    go_enter Tryz.func90, Tryz.ntmps90
    go_wp2_with (go_at_call 88; refine HP.out.mono ?_; rintro e w' ⟨rfl, rfl⟩)
    go_ret
    exact ⟨rfl, rfl⟩
  · obtain ⟨m, rfl⟩ : ∃ m : Nat, n = m := ⟨n.toNat, by omega⟩
    have HP := Lib.hid (cpages_at m w (by omega) (by omega))
    have hp : page < 0 := by omega
    clear hb hn
    go_enter Tryz.func90, Tryz.ntmps90
    go_wp2_with (go_at_call 88; refine HP.out.mono ?_; rintro e w' ⟨rfl, rfl⟩)
    go_ret
    exact ⟨rfl, rfl⟩
set_option maxRecDepth 100000 in
set_option maxHeartbeats 1000000 in
theorem lmake_range {w : World} {X : Lp} {cnt : Nat} {D : DataW Unit} {Z B : Nat → Nat} (h : LgAt w X cnt D Z B) (page : Int) (n : Nat) (h1 : 120 < n) (h2 : n ≤ 4096) (hp : 0 ≤ page) (hf : (X.N : Int) / 256 - (pgs n : Nat) < page) :
    Calls Tryz.prog 90 #[.pointer (some ⟨X.p, 0, none⟩), .int .i64 page, .int .i64 n] w fun e w' => e = .returned (.int .i64 3) ∧ w = w' := by
  have HP := Lib.hid (cpages_at n w h1 h2)
  have HL := Lib.hid (An.alen_core X.pa X.qa X.N X.cap w h.ar.c0)
  have c0 := h.c0
  have hN := h.ar.small
  have hb := Lg.pgs_bd h2
  clear h h1 h2
  obtain ⟨y, hy⟩ : ∃ y : Int, (X.N : Int) / 256 = y := ⟨_, rfl⟩
  have hy1 : 0 ≤ y ∧ y ≤ 256 := by omega
  obtain ⟨hy1, hy2⟩ := hy1
  rw [hy] at hf
  generalize pgs n = r at *
  go_enter Tryz.func90, Tryz.ntmps90
  go_wp2_with (first
    | (go_at_call 88; refine HP.out.mono ?_; rintro e w' ⟨rfl, rfl⟩)
    | (go_at_call 24; refine HL.out.mono ?_; rintro e w' ⟨rfl, rfl⟩))
  go_ret
  exact ⟨rfl, rfl⟩
set_option maxRecDepth 100000 in
set_option maxHeartbeats 2000000 in
theorem lmake_there {w : World} {X : Lp} {cnt : Nat} {D : DataW Unit} {Z B : Nat → Nat} (h : LgAt w X cnt D Z B) (page n : Nat) (h1 : 120 < n) (h2 : n ≤ 4096) (hf : (page + pgs n) * 256 ≤ X.N) (hm : ∃ k, Lg.Hit Z page (pgs n) k) :
    Calls Tryz.prog 90 #[.pointer (some ⟨X.p, 0, none⟩), .int .i64 page, .int .i64 n] w fun e w' => e = .returned (.int .i64 7) ∧ w.grownBy w' none := by
  have HP := Lib.hid (cpages_at n w h1 h2)
  have HL := Lib.hid (An.alen_core X.pa X.qa X.N X.cap w h.ar.c0)
  have c0 := h.c0
  have hN := h.ar.small
  have hb := Lg.pgs_bd h2
  have HMe := Lib.hid (meets_at h page (pgs n) (by omega) (by omega))
  have HH := Lib.hid hm
  obtain ⟨y, hy⟩ : ∃ y : Int, (X.N : Int) / 256 = y := ⟨_, rfl⟩
  have hy1 : 0 ≤ y ∧ y ≤ 256 ∧ (page : Int) ≤ y - (pgs n : Nat) := by omega
  obtain ⟨hy1, hy2, hy3⟩ := hy1
  clear h h1 h2 hm hf
  generalize pgs n = r at *
  go_enter Tryz.func90, Tryz.ntmps90
  go_wp2_with (first
    | (go_at_call 88; refine HP.out.mono ?_; rintro e w' ⟨rfl, rfl⟩)
    | (go_at_call 24; refine HL.out.mono ?_; rintro e w' ⟨rfl, rfl⟩))
  refine HMe.out.mono ?_
  rintro e w1 ⟨b, rfl, hb1, hg⟩
  obtain rfl : b = true := hb1.2 HH.out
  have HG := Lib.hid hg
  clear hb1 hg
  go_wp2
  go_ret
  exact ⟨rfl, HG.out⟩
/-- The bytes behind a Make. -/
def Lg.makeB (key page n : Nat) (B : Nat → Nat) : Nat → Nat := Ar.setW (Ar.setB B (page * 256) (pgs n * 256) (fun _ => 0)) (Lg.grd page n) (Lg.can key page)
set_option maxRecDepth 100000 in
set_option maxHeartbeats 4000000 in
theorem lmake_ok {w : World} {X : Lp} {cnt : Nat} {D : DataW Unit} {Z B : Nat → Nat} (h : LgAt w X cnt D Z B) (page n : Nat) (h1 : 120 < n) (h2 : n ≤ 4096) (hf : (page + pgs n) * 256 ≤ X.N) (hm : ∀ k, ¬ Lg.Hit Z page (pgs n) k) (hcnt : cnt ≤ 100000) :
    Calls Tryz.prog 90 #[.pointer (some ⟨X.p, 0, none⟩), .int .i64 page, .int .i64 n] w fun e w' => e = .returned (.int .i64 0) ∧ (∃ D', LgAt w' X (cnt + 1) D' (upd Z page n) (Lg.makeB X.key page n B)) ∧ Fr X.may w w' := by
  have HP := Lib.hid (cpages_at n w h1 h2)
  have HL := Lib.hid (An.alen_core X.pa X.qa X.N X.cap w h.ar.c0)
  have c0 := h.c0
  have hN := h.ar.small
  have hb := Lg.pgs_bd h2
  have hpg : page ≤ 65536 := by omega
  have HMe := Lib.hid (meets_at h page (pgs n) (by omega) (by omega))
  obtain ⟨y, hy⟩ : ∃ y : Int, (X.N : Int) / 256 = y := ⟨_, rfl⟩
  have hy1 : 0 ≤ y ∧ y ≤ 256 ∧ (page : Int) ≤ y - (pgs n : Nat) := by omega
  obtain ⟨hy1, hy2, hy3⟩ := hy1
  have H := Lib.hid h
  have HM := Lib.hid (And.intro h1 (And.intro h2 (And.intro hf (And.intro hm hcnt))))
  have e1 : ((page : Nat) : Int) * 256 = ((page * 256 : Nat) : Int) := by omega
  have e2 : ((pgs n : Nat) : Int) * 256 = ((pgs n * 256 : Nat) : Int) := by omega
  have HGd := Lib.hid (fun W => lguard_at page n W h1 h2 hpg)
  have hx1 : page * 256 + pgs n * 256 ≤ X.N := by omega
  have HFi : Hid (∀ W cnt D Z, LgAt W X cnt D Z B → Calls Tryz.prog 129 #[.pointer (some ⟨X.pa, 0, none⟩), .int .i64 ((page * 256 : Nat) : Int), .int .i64 ((pgs n * 256 : Nat) : Int), .int .u8 0] W fun e w' => e = .returned (.int .i64 0) ∧ LgAt w' X cnt D Z (Ar.setB B (page * 256) (pgs n * 256) (fun _ => 0)) ∧ W.grownBy w' (some X.qa)) := Lib.hid (fun W cnt D Z hW => (An.fill_good hW.ar (page * 256) (pgs n * 256) 0 hx1 (by omega)).mono fun _ _ ⟨he, ha, hg⟩ => ⟨he, hW.arena hg ha, hg⟩)
  have HTB : Hid (Ar.setW (Ar.setB B (page * 256) (pgs n * 256) (fun _ => 0)) (Lg.grd page n) (Lg.can X.key page) = Lg.makeB X.key page n B) := Lib.hid rfl
  have HGR := Lib.hid (grd_ok hf)
  clear h h1 h2 hm hf hcnt hx1
  generalize Lg.makeB X.key page n B = B' at *
  generalize page * 256 = u at *
  generalize pgs n * 256 = v at *
  go_enter Tryz.func90, Tryz.ntmps90
  go_wp2_with (first
    | (go_at_call 88; refine HP.out.mono ?_; rintro e w' ⟨rfl, rfl⟩)
    | (go_at_call 24; refine HL.out.mono ?_; rintro e w' ⟨rfl, rfl⟩))
  refine HMe.out.mono ?_
  rintro e w1 ⟨b, rfl, hb1, hg⟩
  obtain rfl : b = false := by
    cases b with
    | false => rfl
    | true => obtain ⟨k, hk⟩ := hb1.1 rfl; exact absurd hk (HM.out.2.2.2.1 k)
  have H1 := Lib.hid (H.out.grown hg)
  have HF1 := Lib.hid (fr_none (may := X.may) hg)
  clear hb1 hg HMe HL HP c0 hy hy1 hy2 hy3
  obtain ⟨w2, D2, hrun, h2, hg2⟩ := H1.out.store HM.out.1 HM.out.2.1 HM.out.2.2.1 HM.out.2.2.2.1 HM.out.2.2.2.2
  have H2 := Lib.hid h2
  have HF2 := Lib.hid (HF1.out.trans (fr_some (may := X.may) hg2 (fun _ => .inr rfl)))
  have c2 := H1.out.c2
  have d0 := h2.c0
  clear h2 hg2
  have HF3' := Lib.hid (HFi.out w2 _ _ _ H2.out)
  go_upto_region 11 with (fail)
  go_wp2_with fail
  refine HF3'.out.mono ?_
  rintro e w3 ⟨rfl, ha3, hg3⟩
  have H3 := Lib.hid ha3
  have HF3 := Lib.hid (HF2.out.trans (fr_some (may := X.may) hg3 (fun _ => .inl rfl)))
  clear ha3 hg3
  go_upto_region 12 with (fail)
  clear hrun c2 d0 HFi HF3' H2 HF2 HF1 H1 e1 e2
  have HC := Lib.hid (fun W (g : w3.grownBy W none) => lcan_at (w := W) page (H3.out.grown g).c1 H3.out.k hpg)
  have HW : Hid (∀ W, w3.grownBy W none → Calls Tryz.prog 147 #[.pointer (some ⟨X.pa, 0, none⟩), .int .i64 (Lg.grd page n : Nat), .int .u64 (Lg.can X.key page : Nat)] W fun e w' => e = .returned (.int .i64 0) ∧ LgAt w' X (cnt + 1) D2 (upd Z page n) B' ∧ W.grownBy w' (some X.qa)) := Lib.hid (fun W g => by
    have hW := H3.out.grown g
    refine (setword_in hW.ar HGR.out.1 HGR.out.2).mono ?_
    rintro e w' ⟨he, ha, hg⟩
    have := hW.arena hg ha
    rw [HTB.out] at this
    exact ⟨he, this, hg⟩)
  have HO := Lib.hid (fun W (g : w3.grownBy W none) => (H3.out.grown g).c0)
  have e0 := HO.out _ (grown_refl w3 none)
  have hg0 := grown_drew1 (grown_refl w3 none)
  generalize Lg.can X.key page = z at *
  generalize Lg.grd page n = g at *
  go_region_held3 (fun w' => w'.cell? ⟨X.p, 0, none⟩ = some (.pointer (some ⟨X.pa, 0, none⟩)))
    (first | exact e0 | exact HO.out _ (by assumption) | exact HS4.out)
    (first
    | (go_at_call 151; refine (HGd.out _).mono ?_; rintro e w' ⟨rfl, rfl⟩)
    | (go_at_call 152; refine (HC.out _ (by assumption)).mono ?_; rintro e w4 ⟨rfl, m⟩; have hg1 := grown_trans hg0 m; clear m)
    | (go_at_call 147; refine (HW.out _ (by assumption)).mono ?_; rintro e w5 ⟨rfl, k3, k4⟩; have K := Lib.hid (And.intro k3 (grown_trans (grown_none hg1) k4)); have HS4 := Lib.hid k3.c0; clear k3 k4))
  all_goals
    go_wp2
    go_ret
    exact ⟨rfl, ⟨D2, K.out.1⟩, HF3.out.trans (fr_some K.out.2 (fun _ => .inl rfl))⟩
end Go.Proofs.YtgnfcklippjeeaaGreat

/- The walks of a set's Drop, Check; the law's awake; the law LargeNil. -/
namespace Go.Proofs.YtgnfcklippjeeaaGreat
open Go.RowKit
open Go.Maps (Keyed)
open Sl (upd)
open Lg (pgs)

set_option maxHeartbeats 400000 in
theorem ldrop_nil (page : Int) (w : World) :
    Calls Tryz.prog 68 #[.pointer none, .int .i64 page] w fun e w' => e = .returned (.tuple #[.bool false, .int .i64 2]) ∧ w = w' := by
  go_enter Tryz.func68, Tryz.ntmps68
  go_wp2
  go_ret2
  exact ⟨rfl, rfl⟩
set_option maxHeartbeats 400000 in
theorem ldrop_none {w : World} {X : Lp} {cnt : Nat} {D : DataW Unit} {Z B : Nat → Nat} (h : LgAt w X cnt D Z B) (page : Int) (hw : WF page) (hz : zV Z page = 0) :
    Calls Tryz.prog 68 #[.pointer (some ⟨X.p, 0, none⟩), .int .i64 page] w fun e w' => e = .returned (.tuple #[.bool false, .int .i64 6]) ∧ w = w' := by
  have hrun := (h.look page hw).1
  rw [hz, show decide ((0 : Nat) ≠ 0) = false from rfl] at hrun
  have c2 := h.c2
  clear h hw hz
  go_enter Tryz.func68, Tryz.ntmps68
  go_wp2
  go_ret2
  exact ⟨rfl, rfl⟩
/-- The bytes behind a Drop. -/
def Lg.dropB (page n : Nat) (B : Nat → Nat) : Nat → Nat := Ar.setB B (page * 256) (pgs n * 256) (fun _ => 221)
set_option maxRecDepth 100000 in
set_option maxHeartbeats 4000000 in
theorem ldrop_ok {w : World} {X : Lp} {cnt : Nat} {D : DataW Unit} {Z B : Nat → Nat} (h : LgAt w X cnt D Z B) (page : Nat) (hz : Z page ≠ 0) :
    Calls Tryz.prog 68 #[.pointer (some ⟨X.p, 0, none⟩), .int .i64 page] w fun e w' => e = .returned (.tuple #[.bool (decide (Ar.wordAt B (Lg.grd page (Z page)) = Lg.can X.key page)), .int .i64 0]) ∧ (∃ D', LgAt w' X cnt D' (upd Z page 0) (Lg.dropB page (Z page) B)) ∧ Fr X.may w w' := by
  obtain ⟨h1, h2⟩ := h.inv.gr page hz
  have hf := h.inv.fit page hz
  have hN := h.ar.small
  have hb := Lg.pgs_bd h2
  have hpg : page ≤ 65536 := by omega
  have hrun := (h.look page ⟨by omega, by omega⟩).1
  rw [zV_in, show decide (Z page ≠ 0) = true by simpa using hz] at hrun
  have c2 := h.c2
  have HSt := Lib.hid (lstands_at h h1 h2 hf)
  have HPg := Lib.hid (fun W => lpages_at (Z page) W h1 h2)
  have H := Lib.hid h
  have hkey := Go.Maps.keyOf_int_mk (P := Tryz.prog) Tryz.underlying3 (a := (page : Int)) (WalkArith.wf_i64 (by omega))
  have e1 : IntKind.i64.wrap (((page : Nat) : Int) * 256) = ((page * 256 : Nat) : Int) := by rw [IntKind.wrap_i64]; omega
  have e2 : IntKind.i64.wrap (((pgs (Z page) : Nat) : Int) * 256) = ((pgs (Z page) * 256 : Nat) : Int) := by rw [IntKind.wrap_i64]; omega
  have hx1 : page * 256 + pgs (Z page) * 256 ≤ X.N := by omega
  have HTB : Hid (Ar.setB B (page * 256) (pgs (Z page) * 256) (fun _ => 221) = Lg.dropB page (Z page) B) := Lib.hid rfl
  have HI : Hid (∀ D, MapIs D Z → MapIs (D.del (.int .i64 page)) (upd Z page 0)) := Lib.hid (fun D h => h.del page)
  have HV : Hid (Lg.Inv (upd Z page 0) X.N) := Lib.hid h.inv.del
  clear h h1 h2 hf hz
  generalize upd Z page 0 = Z' at *
  generalize decide (Ar.wordAt B (Lg.grd page (Z page)) = Lg.can X.key page) = b at *
  generalize Lg.dropB page (Z page) B = B' at *
  generalize pgs (Z page) * 256 = v at *
  generalize page * 256 = u at *
  generalize pgs (Z page) = pz at *
  generalize Z page = zk at *
  go_enter Tryz.func68, Tryz.ntmps68
  go_wp2_with fail
  refine HSt.out.mono ?_
  rintro e w1 ⟨rfl, hg⟩
  have H1 := Lib.hid (H.out.grown hg)
  have HF1 := Lib.hid (fr_none (may := X.may) hg)
  have c3 := H1.out.c2
  have hown := H1.out.map
  clear hg HSt H hrun c2
  go_wp2_with (at_delete; refine wpList_delete_own _ rfl _ _ 179 3 rfl 3 kint Tryz.underlying179 (plainElem Tryz.prog 3) X.mb cnt D rfl hown _ _ rfl hkey ?_)
  intro w2 hown2 hturn
  have hg2 := hturn.grown
  have H2 := Lib.hid (H1.out.turn hg2 hown2 (HI.out _ H1.out.is) HV.out)
  have HF2 := Lib.hid (HF1.out.trans (fr_some (may := X.may) hg2 (fun _ => .inr rfl)))
  clear hown hown2 hturn hg2 c3 hkey H1 HF1
  have HFi : Hid (∀ W, w2.grownBy W none → Calls Tryz.prog 129 #[.pointer (some ⟨X.pa, 0, none⟩), .int .i64 (u : Nat), .int .i64 (v : Nat), .int .u8 221] W fun e w' => e = .returned (.int .i64 0) ∧ LgAt w' X cnt (D.del (.int .i64 page)) Z' B' ∧ W.grownBy w' (some X.qa)) := Lib.hid (fun W g => by
    refine (An.fill_good (H2.out.grown g).ar u v 221 hx1 (by omega)).mono ?_
    rintro e w' ⟨he, ha, hg⟩
    have := (H2.out.grown g).arena hg ha
    rw [HTB.out] at this
    exact ⟨he, this, hg⟩)
  have HO := Lib.hid (fun W (g : w2.grownBy W none) => (H2.out.grown g).c0)
  have e0 := HO.out _ (grown_refl w2 none)
  have hg0 := grown_drew1 (grown_refl w2 none)
  go_upto_region 8 with (fail)
  go_region_held3 (fun w' => w'.cell? ⟨X.p, 0, none⟩ = some (.pointer (some ⟨X.pa, 0, none⟩)))
    (first | exact e0 | exact HO.out _ (by assumption) | exact HS4.out)
    (first
    | (go_at_call 133; refine (HPg.out _).mono ?_; rintro e w' ⟨rfl, rfl⟩)
    | (go_at_call 129; refine (HFi.out _ (by assumption)).mono ?_; rintro e w5 ⟨rfl, k3, k4⟩; have K := Lib.hid (And.intro k3 (grown_trans (grown_none hg0) k4)); have HS4 := Lib.hid k3.c0; clear k3 k4))
  all_goals
    go_wp2
    go_ret2
    exact ⟨rfl, ⟨_, K.out.1⟩, HF2.out.trans (fr_some K.out.2 (fun _ => .inl rfl))⟩

set_option maxHeartbeats 400000 in
theorem lcheck_nil (w : World) :
    Calls Tryz.prog 65 #[.pointer none] w fun e w' => e = .returned (.int .i64 2) ∧ w = w' := by
  go_enter Tryz.func65, Tryz.ntmps65
  go_wp2
  go_ret
  exact ⟨rfl, rfl⟩
/-- Do all canaries stand? -/
def Lg.All (key : Nat) (Z B : Nat → Nat) : Prop := ∀ k, Z k ≠ 0 → Ar.wordAt B (Lg.grd k (Z k)) = Lg.can key k
def Chk (w w' : World) (key : Nat) (Z B : Nat → Nat) (e : Ending) : Prop := ∃ x : Int, e = .returned (.int .i64 x) ∧ (x = 0 ∨ x = 4) ∧ (x = 0 ↔ Lg.All key Z B) ∧ w.grownBy w' none
set_option maxRecDepth 100000 in
set_option maxHeartbeats 4000000 in
theorem lcheck_at {w : World} {X : Lp} {cnt : Nat} {D : DataW Unit} {Z B : Nat → Nat} (h : LgAt w X cnt D Z B) :
    Calls Tryz.prog 65 #[.pointer (some ⟨X.p, 0, none⟩)] w fun e w' => Chk w w' X.key Z B e := by
  have c2 := h.c2
  have hown := h.map
  have H := Lib.hid h
  clear h
  go_enter Tryz.func65, Tryz.ntmps65
  go_wp2_with (at_range; refine wpList_range_own _ rfl _ 179 rfl 3 3 kint Tryz.underlying179 (plainElem Tryz.prog 3) X.mb cnt D rfl hown ?_; intro w1 hrg1 hg1 hs1)
  go_frame
  obtain ⟨r, hr'⟩ : ∃ r, r = w.heap.size := ⟨_, rfl⟩
  rw [← hr'] at hrg1 ⊢
  have HRG := Lib.hid hrg1
  have HG1 := Lib.hid hg1
  have HRR := Lib.hid hr'
  clear hown c2 hrg1 hg1 hr' hs1
  go_loopw [12] (fun _ wr => ∃ left c1, wr.ranges Tryz.prog 3 (plainElem Tryz.prog 3) X.mb r cnt D left c1 ∧ (∀ kl, left kl = true → Go.Maps.has D kl = true) ∧ w.grownBy wr none ∧ (∀ k : Nat, Z k ≠ 0 → left (.int .i64 k) = false → Ar.wordAt B (Lg.grd k (Z k)) = Lg.can X.key k)) (fun _ wr => wr.rangeLeft X.mb r)
  case atStart => exact ⟨_, _, HRG.out, fun _ h => h, HG1.out, fun k hz hk => by rw [H.out.is.h1 k hz] at hk; cases hk⟩
  case round =>
    clear HRG HG1
    obtain ⟨left, c1, hrg, hsub, hg, hno⟩ := hrel
    have HSub := Lib.hid hsub
    have HG := Lib.hid hg
    have HNo := Lib.hid hno
    have HM := Lib.hid hrg.left_eq
    clear hsub hg hno
    go_wp2_with (at_next; refine wpList_next_ranges_ii _ rfl _ rfl 3 3 .i64 .i64 kint Tryz.underlying3 Tryz.underlying3 X.mb r cnt D left c1 rfl hrg ?_ ?_)
    · intro hc0 hl0
      have HF : Hid (Lg.All X.key Z B) := Lib.hid (fun k hk => HNo.out k hk (hl0 _))
      clear hc0 hl0 hrg
      go_wp2
      go_ret
      exact ⟨0, rfl, .inl rfl, ⟨fun _ => HF.out, fun _ => rfl⟩, HG.out⟩
    · intro x c w2 c2 hwx hwc hlx hat hrg2 hlt hgr hsz hen
      obtain ⟨k, ek, hk⟩ := H.out.is.h0 _ (HSub.out _ hlx)
      obtain rfl : x = k := by injection ek
      have ec := (hat .nil).symm.trans (H.out.is.at_ k hk .nil)
      obtain rfl : c = (Z k : Nat) := lit_inj ec
      have HRG2 := Lib.hid hrg2
      have HLT := Lib.hid hlt
      have HG2 := Lib.hid (grown_own HG.out hgr (Nat.le_of_eq HRR.out.symm))
      have HSt := Lib.hid (lstands_at (H.out.grown HG2.out) (H.out.inv.gr k hk).1 (H.out.inv.gr k hk).2 (H.out.inv.fit k hk))
      have HZ := Lib.hid hk
      have HL2 : Hid (∀ z, (left z && !z.sameKey (.int .i64 (k : Int))) = true → Go.Maps.has D z = true) := Lib.hid (fun z hz => HSub.out z (by simp at hz; exact hz.1))
      have HNo2 : Hid (Ar.wordAt B (Lg.grd k (Z k)) = Lg.can X.key k → ∀ j : Nat, Z j ≠ 0 → (left (.int .i64 j) && !(Lit.int .i64 (j : Int)).sameKey (.int .i64 (k : Int))) = false → Ar.wordAt B (Lg.grd j (Z j)) = Lg.can X.key j) := Lib.hid (fun h0 j hz hj => by
        by_cases e : j = k
        · subst e; exact h0
        · rw [Go.Maps.sameKey_ne (intlit_ne (by omega))] at hj
          exact HNo.out j hz (by simpa using hj))
      clear hrg hwx hwc hlx hat hrg2 hlt hgr hsz ek hk ec HSub HNo HG
      by_cases a1 : Ar.wordAt B (Lg.grd k (Z k)) = Lg.can X.key k
      · rw [show decide (Ar.wordAt B (Lg.grd k (Z k)) = Lg.can X.key k) = true by simpa using a1] at HSt
        have HA := Lib.hid a1
        clear a1
        go_wp2_with fail
        refine HSt.out.mono ?_
        rintro e w3 ⟨rfl, hg⟩
        have HG3 := Lib.hid (grown_trans HG2.out hg)
        have HRG3 := Lib.hid (HRG2.out.kept hg (by simp) (by simp))
        clear hg HSt
        go_wp2
        go_roundw
        case rel => exact ⟨_, _, HRG3.out, HL2.out, HG3.out, HNo2.out HA.out⟩
        case measure => rw [HRG3.out.left_eq, HM.out]; exact HLT.out
      · rw [show decide (Ar.wordAt B (Lg.grd k (Z k)) = Lg.can X.key k) = false by simpa using a1] at HSt
        have HA := Lib.hid a1
        clear a1
        go_wp2_with fail
        refine HSt.out.mono ?_
        rintro e w3 ⟨rfl, hg⟩
        have HG3 := Lib.hid (grown_trans HG2.out hg)
        clear hg HSt
        go_wp2
        go_ret
        exact ⟨4, rfl, .inr rfl, ⟨fun h => by omega, fun h => absurd (h k HZ.out) HA.out⟩, HG3.out⟩

theorem hit_free {page run k : Nat} : ¬ Lg.Hit (fun _ => 0) page run k := fun h => h.1 rfl
end Go.Proofs.YtgnfcklippjeeaaGreat
