/- A set of great blocks in the world; the walks of pages, guard, canary, stands, meets, Size. -/
import Derived.Test.YticoojcmlkdeiaaSE
import Derived.Maps.RangeWalk
import Derived.Maps.OwnOps
namespace Go.Proofs.Yticoojcmlkdeiaa
open Go.RowKit
open Go.Maps (Keyed)
open Sl (upd)

namespace Lg
/-- How many pages a great block takes. -/
def pgs (n : Nat) : Nat := (n + 263) / 256
theorem pgs_bd {n : Nat} (h : n ≤ 4096) : pgs n ≤ 17 := by unfold pgs; omega
theorem pgs_pos (n : Nat) : 1 ≤ pgs n := by unfold pgs; omega
/-- The blocks: how many bytes the one has that begins there; 0: none does. -/
structure Inv (Z : Nat → Nat) (N : Nat) : Prop where
  gr : ∀ k, Z k ≠ 0 → 120 < Z k ∧ Z k ≤ 4096
  fit : ∀ k, Z k ≠ 0 → (k + pgs (Z k)) * 256 ≤ N
  ap : ∀ j k, Z j ≠ 0 → Z k ≠ 0 → j ≠ k → j + pgs (Z j) ≤ k ∨ k + pgs (Z k) ≤ j
/-- Has one of these blocks one of so many pages? -/
def Hit (Z : Nat → Nat) (page run k : Nat) : Prop := Z k ≠ 0 ∧ k < page + run ∧ page < k + pgs (Z k)
def grd (page n : Nat) : Nat := (page + pgs n) * 256 - 8
def can (key page : Nat) : Nat := Li.mix (key ^^^ Li.u ((page * 256 : Nat) : Int))
theorem Inv.put {Z : Nat → Nat} {N page n : Nat} (h : Inv Z N) (h1 : 120 < n) (h2 : n ≤ 4096) (hf : (page + pgs n) * 256 ≤ N) (hm : ∀ k, ¬ Hit Z page (pgs n) k) : Inv (upd Z page n) N where
  gr := fun k hk => by
    by_cases e : k = page
    · subst e; rw [Sl.upd_same]; exact ⟨h1, h2⟩
    · rw [Sl.upd_other e] at hk ⊢; exact h.gr k hk
  fit := fun k hk => by
    by_cases e : k = page
    · subst e; rw [Sl.upd_same]; exact hf
    · rw [Sl.upd_other e] at hk ⊢; exact h.fit k hk
  ap := fun j k hj hk hjk => by
    by_cases e : j = page
    · subst e
      rw [Sl.upd_other (Ne.symm hjk)] at hk ⊢
      rw [Sl.upd_same]
      have := hm k
      unfold Hit at this
      omega
    · rw [Sl.upd_other e] at hj ⊢
      by_cases e2 : k = page
      · subst e2
        rw [Sl.upd_same]
        have := hm j
        unfold Hit at this
        omega
      · rw [Sl.upd_other e2] at hk ⊢
        exact h.ap j k hj hk hjk
theorem Inv.del {Z : Nat → Nat} {N page : Nat} (h : Inv Z N) : Inv (upd Z page 0) N where
  gr := fun k hk => by
    by_cases e : k = page
    · subst e; rw [Sl.upd_same] at hk; omega
    · rw [Sl.upd_other e] at hk ⊢; exact h.gr k hk
  fit := fun k hk => by
    by_cases e : k = page
    · subst e; rw [Sl.upd_same] at hk; omega
    · rw [Sl.upd_other e] at hk ⊢; exact h.fit k hk
  ap := fun j k hj hk hjk => by
    by_cases e : j = page
    · subst e; rw [Sl.upd_same] at hj; omega
    · by_cases e2 : k = page
      · subst e2; rw [Sl.upd_same] at hk; omega
      · rw [Sl.upd_other e] at hj ⊢
        rw [Sl.upd_other e2] at hk ⊢
        exact h.ap j k hj hk hjk
theorem Inv.nil (N : Nat) : Inv (fun _ => 0) N := ⟨fun _ h => absurd rfl h, fun _ h => absurd rfl h, fun _ _ h => absurd rfl h⟩
end Lg
open Lg (pgs)

theorem kint : Keyed Try.prog 3 := Go.Maps.int_keyed Try.underlying3
/-- How the set's map reads. -/
structure MapIs (D : DataW Unit) (Z : Nat → Nat) : Prop where
  h1 : ∀ k : Nat, Z k ≠ 0 → Go.Maps.has D (.int .i64 k) = true
  h0 : ∀ kl, Go.Maps.has D kl = true → ∃ k : Nat, kl = .int .i64 k ∧ Z k ≠ 0
  at_ : ∀ k : Nat, Z k ≠ 0 → ∀ zd, D.atKey (.int .i64 k) zd = .lit (.int .i64 (Z k : Nat))
theorem MapIs.no {D : DataW Unit} {Z : Nat → Nat} (h : MapIs D Z) {x : Int} (hx : ∀ k : Nat, x = k → Z k = 0) : Go.Maps.has D (.int .i64 x) = false := by
  cases hh : Go.Maps.has D (.int .i64 x) with
  | false => rfl
  | true =>
    obtain ⟨k, e, hk⟩ := h.h0 _ hh
    injection e with _ e
    exact absurd (hx k e) hk
theorem mapIs_nil : MapIs (.map []) (fun _ => 0) := ⟨fun _ h => absurd rfl h, fun kl h => by simp [Go.Maps.has_eq] at h, fun _ h => absurd rfl h⟩
theorem intlit_ne {a b : Int} (h : a ≠ b) : (Lit.int .i64 a) ≠ .int .i64 b := fun e => h (by injection e)
theorem MapIs.put {D : DataW Unit} {Z : Nat → Nat} (h : MapIs D Z) (hD : Go.Maps.IsMap D) {k n : Nat} (hk : k ≤ 65536) (hn : n ≠ 0) : MapIs (D.put (.int .i64 k) (.lit (.int .i64 (n : Nat)))) (upd Z k n) := by
  have hkl : WideAt.IsKeyLit (.int .i64 (k : Int)) := kint.key (Go.Maps.keyOf_int_mk Try.underlying3 (WalkArith.wf_i64 (by omega)))
  refine ⟨fun j hj => ?_, fun kl hkl' => ?_, fun j hj zd => ?_⟩
  · by_cases e : j = k
    · subst e; exact Go.Maps.has_put_same hD hkl _
    · rw [Sl.upd_other e] at hj
      rw [Go.Maps.has_put_other (intlit_ne (by omega))]
      exact h.h1 j hj
  · by_cases e : kl = .int .i64 (k : Int)
    · exact ⟨k, e, by rw [Sl.upd_same]; exact hn⟩
    · rw [Go.Maps.has_put_other e] at hkl'
      obtain ⟨j, e2, hj⟩ := h.h0 kl hkl'
      exact ⟨j, e2, by rw [Sl.upd_other (fun x => e (by rw [e2, x]))]; exact hj⟩
  · by_cases e : j = k
    · subst e; rw [Go.Maps.atKey_put_same hD hkl, Sl.upd_same]
    · rw [Sl.upd_other e] at hj ⊢
      rw [Go.Maps.atKey_put_other (intlit_ne (by omega))]
      exact h.at_ j hj zd
theorem MapIs.del {D : DataW Unit} {Z : Nat → Nat} (h : MapIs D Z) (k : Nat) : MapIs (D.del (.int .i64 k)) (upd Z k 0) := by
  refine ⟨fun j hj => ?_, fun kl hkl' => ?_, fun j hj zd => ?_⟩
  · by_cases e : j = k
    · subst e; rw [Sl.upd_same] at hj; omega
    · rw [Sl.upd_other e] at hj
      rw [Go.Maps.has_del_other (intlit_ne (by omega))]
      exact h.h1 j hj
  · by_cases e : kl = .int .i64 (k : Int)
    · rw [e, Go.Maps.has_del_same] at hkl'; cases hkl'
    · rw [Go.Maps.has_del_other e] at hkl'
      obtain ⟨j, e2, hj⟩ := h.h0 kl hkl'
      exact ⟨j, e2, by rw [Sl.upd_other (fun x => e (by rw [e2, x]))]; exact hj⟩
  · by_cases e : j = k
    · subst e; rw [Sl.upd_same] at hj; omega
    · rw [Sl.upd_other e] at hj ⊢
      rw [Go.Maps.atKey_del_other (intlit_ne (by omega))]
      exact h.at_ j hj zd

/-- Where a set's parts lie, and its numbers. -/
structure Lp where
  p : Nat
  pa : Nat
  qa : Nat
  mb : Nat
  key : Nat
  N : Nat
  cap : Nat
/-- A set of great blocks. -/
structure LgAt (w : World) (X : Lp) (cnt : Nat) (D : DataW Unit) (Z B : Nat → Nat) : Prop where
  c0 : w.cell? ⟨X.p, 0, none⟩ = some (.pointer (some ⟨X.pa, 0, none⟩))
  c1 : w.cell? ⟨X.p, 1, none⟩ = some (.int .u64 (X.key : Nat))
  c2 : w.cell? ⟨X.p, 2, none⟩ = some (.map (some X.mb))
  ar : An.ArAt w X.pa X.qa X.N X.cap B none
  map : w.ownsMap Try.prog 3 (plainElem Try.prog 3) X.mb cnt D
  is : MapIs D Z
  inv : Lg.Inv Z X.N
  ap : X.p ≠ X.qa ∧ X.p ≠ X.mb ∧ X.pa ≠ X.mb ∧ X.qa ≠ X.mb
  k : X.key < 18446744073709551616
theorem LgAt.grown {w w' : World} {X : Lp} {cnt : Nat} {D : DataW Unit} {Z B : Nat → Nat} (h : LgAt w X cnt D Z B) (hg : w.grownBy w' none) : LgAt w' X cnt D Z B :=
  ⟨hg.cell h.c0 (by simp), hg.cell h.c1 (by simp), hg.cell h.c2 (by simp), h.ar.grown hg (by simp) (by simp), h.map.kept hg (by simp), h.is, h.inv, h.ap, h.k⟩
theorem LgAt.arena {w w' : World} {X : Lp} {cnt : Nat} {D : DataW Unit} {Z B B' : Nat → Nat} (h : LgAt w X cnt D Z B) (hg : w.grownBy w' (some X.qa)) (ha : An.ArAt w' X.pa X.qa X.N X.cap B' none) : LgAt w' X cnt D Z B' :=
  ⟨hg.cell h.c0 (some_ne h.ap.1), hg.cell h.c1 (some_ne h.ap.1), hg.cell h.c2 (some_ne h.ap.1), ha, h.map.kept hg (some_ne h.ap.2.2.2.symm), h.is, h.inv, h.ap, h.k⟩
theorem LgAt.turn {w w' : World} {X : Lp} {cnt cnt' : Nat} {D D' : DataW Unit} {Z Z' B : Nat → Nat} (h : LgAt w X cnt D Z B) (hg : w.grownBy w' (some X.mb)) (hm : w'.ownsMap Try.prog 3 (plainElem Try.prog 3) X.mb cnt' D') (hi : MapIs D' Z') (hv : Lg.Inv Z' X.N) : LgAt w' X cnt' D' Z' B :=
  ⟨hg.cell h.c0 (some_ne h.ap.2.1), hg.cell h.c1 (some_ne h.ap.2.1), hg.cell h.c2 (some_ne h.ap.2.1), h.ar.grown hg (some_ne h.ap.2.2.1) (some_ne h.ap.2.2.2), hm, hi, hv, h.ap, h.k⟩
def Lp.may (X : Lp) (i : Nat) : Prop := i = X.qa ∨ i = X.mb

theorem cpages_at (n : Nat) (w : World) (h1 : 120 < n) (h2 : n ≤ 4096) : Calls Try.prog 63 #[.int .i64 n] w fun e w' => e = .returned (.tuple #[.int .i64 (pgs n : Nat), .bool true]) ∧ w = w' := by
  have := pages_yes n w h1 h2
  exact this
set_option maxHeartbeats 400000 in
theorem lpages_at (n : Nat) (w : World) (h1 : 120 < n) (h2 : n ≤ 4096) :
    Calls Try.prog 73 #[.int .i64 n] w fun e w' => e = .returned (.int .i64 (pgs n : Nat)) ∧ w = w' := by
  have HP := Lib.hid (cpages_at n w h1 h2)
  clear h1 h2
  go_enter Try.func73, Try.ntmps73
  go_wp2_with (go_at_call 63; refine HP.out.mono ?_; rintro e w' ⟨rfl, rfl⟩)
  go_ret
  exact ⟨rfl, rfl⟩
set_option maxHeartbeats 400000 in
theorem lguard_at (page n : Nat) (w : World) (h1 : 120 < n) (h2 : n ≤ 4096) (hp : page ≤ 65536) :
    Calls Try.prog 66 #[.int .i64 page, .int .i64 n] w fun e w' => e = .returned (.int .i64 (Lg.grd page n : Nat)) ∧ w = w' := by
  have HP := Lib.hid (lpages_at n w h1 h2)
  have hb := Lg.pgs_bd h2
  have hb1 := Lg.pgs_pos n
  have e1 : ((page : Nat) : Int) + (pgs n : Nat) = ((page + pgs n : Nat) : Int) := by omega
  have e2 : ((page + pgs n : Nat) : Int) * 256 - 8 = ((Lg.grd page n : Nat) : Int) := by unfold Lg.grd; omega
  have hb2 : ((page + pgs n : Nat) : Int) ≤ 65553 ∧ 1 ≤ ((page + pgs n : Nat) : Int) := by omega
  obtain ⟨hb3, hb4⟩ := hb2
  clear h1 h2 hb hb1
  generalize ((Lg.grd page n : Nat) : Int) = y at *
  generalize ((page + pgs n : Nat) : Int) = x at *
  generalize pgs n = z at *
  go_enter Try.func66, Try.ntmps66
  go_wp2_with (go_at_call 73; refine HP.out.mono ?_; rintro e w' ⟨rfl, rfl⟩)
  go_ret
  exact ⟨rfl, rfl⟩
set_option maxHeartbeats 400000 in
theorem lcan_at {w : World} {p key : Nat} (page : Nat) (c1 : w.cell? ⟨p, 1, none⟩ = some (.int .u64 (key : Nat))) (hk : key < 18446744073709551616) (hp : page ≤ 65536) :
    Calls Try.prog 67 #[.pointer (some ⟨p, 0, none⟩), .int .i64 page] w fun e w' => e = .returned (.int .u64 (Lg.can key page : Nat)) ∧ w.grownBy w' none := by
  have HC : Hid (∀ W, Calls Try.prog 47 #[.agg #[.int .u64 (key : Nat)], .int .i64 ((page * 256 : Nat) : Int)] W fun e w' => e = .returned (.int .u64 (Lg.can key page : Nat)) ∧ W.grownBy w' none) := Lib.hid (fun W => canary_at key hk _ W)
  have e1 : ((page : Nat) : Int) * 256 = ((page * 256 : Nat) : Int) := by omega
  clear hk
  generalize ((page * 256 : Nat) : Int) = x at *
  generalize Lg.can key page = z at *
  go_enter Try.func67, Try.ntmps67
  go_wp2_with (go_at_call 47; refine (HC.out _).mono ?_; rintro e w2 ⟨rfl, hg⟩; have HG := Lib.hid hg; clear hg)
  go_ret
  exact ⟨rfl, HG.out⟩
theorem grd_ok {N page n : Nat} (hf : (page + pgs n) * 256 ≤ N) : Lg.grd page n + 8 ≤ N ∧ Lg.grd page n % 8 = 0 := by
  have := Lg.pgs_pos n
  unfold Lg.grd
  omega
set_option maxRecDepth 100000 in
set_option maxHeartbeats 1000000 in
theorem lstands_at {w : World} {X : Lp} {cnt : Nat} {D : DataW Unit} {Z B : Nat → Nat} (h : LgAt w X cnt D Z B) {page n : Nat} (h1 : 120 < n) (h2 : n ≤ 4096) (hf : (page + pgs n) * 256 ≤ X.N) :
    Calls Try.prog 72 #[.pointer (some ⟨X.p, 0, none⟩), .int .i64 page, .int .i64 n] w fun e w' => e = .returned (.bool (decide (Ar.wordAt B (Lg.grd page n) = Lg.can X.key page))) ∧ w.grownBy w' none := by
  have hpg : page ≤ 65536 := by have := h.ar.small; omega
  have c0 := h.c0
  have HG := Lib.hid (fun W => lguard_at page n W h1 h2 hpg)
  obtain ⟨g1, g2⟩ := grd_ok hf
  have HW : Hid (∀ d, Calls Try.prog 79 #[.pointer (some ⟨X.pa, 0, none⟩), .int .i64 (Lg.grd page n : Nat)] (w.drewN d) fun e w' => e = .returned (.tuple #[.int .u64 (Ar.wordAt B (Lg.grd page n) : Nat), .int .i64 0]) ∧ w.drewN d = w') := Lib.hid (fun d => word_in (h.grown (grown_drew (grown_refl w none) d)).ar g1 g2)
  have HC := Lib.hid (fun d => lcan_at (w := w.drewN d) page (by simpa using h.c1) h.k hpg)
  have HE : Hid ((((Ar.wordAt B (Lg.grd page n) : Nat) : Int) == ((Lg.can X.key page : Nat) : Int)) = decide (Ar.wordAt B (Lg.grd page n) = Lg.can X.key page)) := Lib.hid (by
    by_cases e : Ar.wordAt B (Lg.grd page n) = Lg.can X.key page
    · rw [e]; simp
    · rw [show decide _ = false from by simpa using e]
      simp only [beq_eq_false_iff_ne]
      omega)
  clear h h1 h2 hf hpg g1 g2
  generalize decide (Ar.wordAt B (Lg.grd page n) = Lg.can X.key page) = b at *
  generalize Ar.wordAt B (Lg.grd page n) = x at *
  generalize Lg.can X.key page = y at *
  generalize Lg.grd page n = z at *
  go_enter Try.func72, Try.ntmps72
  go_upto_region 1 with (fail)
  go_quiet (first
    | (go_at_call 66; exact quiet_left (HG.out _))
    | (go_at_call 79; exact quiet_left (HW.out _)))
  rename_i nq
  have HCC := Lib.hid (HC.out nq)
  have hg0 := grown_drew (grown_refl w none) nq
  clear HG HW HC c0
  generalize w.drewN nq = w1 at *
  go_wp2_with fail
  refine HCC.out.mono ?_
  rintro e w2 ⟨rfl, hg⟩
  have HGG := Lib.hid (grown_trans hg0 hg)
  clear hg hg0
  go_wp2
  go_ret
  exact ⟨ret_bool HE.out, HGG.out⟩
end Go.Proofs.Yticoojcmlkdeiaa
