/- The walks of a set's Drop, Check; the law's awake; the law LargeNil. -/
import Derived.Test.YticoojcmlkdeiaaGB
namespace Go.Proofs.Yticoojcmlkdeiaa
open Go.RowKit
open Go.Maps (Keyed)
open Sl (upd)
open Lg (pgs)

set_option maxHeartbeats 400000 in
theorem ldrop_nil (page : Int) (w : World) :
    Calls Try.prog 31 #[.pointer none, .int .i64 page] w fun e w' => e = .returned (.tuple #[.bool false, .int .i64 2]) ∧ w = w' := by
  go_enter Try.func31, Try.ntmps31
  go_wp2
  go_ret2
  exact ⟨rfl, rfl⟩
set_option maxHeartbeats 400000 in
theorem ldrop_none {w : World} {X : Lp} {cnt : Nat} {D : DataW Unit} {Z B : Nat → Nat} (h : LgAt w X cnt D Z B) (page : Int) (hw : WF page) (hz : zV Z page = 0) :
    Calls Try.prog 31 #[.pointer (some ⟨X.p, 0, none⟩), .int .i64 page] w fun e w' => e = .returned (.tuple #[.bool false, .int .i64 6]) ∧ w = w' := by
  have hrun := (h.look page hw).1
  rw [hz, show decide ((0 : Nat) ≠ 0) = false from rfl] at hrun
  have c2 := h.c2
  clear h hw hz
  go_enter Try.func31, Try.ntmps31
  go_wp2
  go_ret2
  exact ⟨rfl, rfl⟩
/-- The bytes behind a Drop. -/
def Lg.dropB (page n : Nat) (B : Nat → Nat) : Nat → Nat := Ar.setB B (page * 256) (pgs n * 256) (fun _ => 221)
set_option maxRecDepth 100000 in
set_option maxHeartbeats 4000000 in
theorem ldrop_ok {w : World} {X : Lp} {cnt : Nat} {D : DataW Unit} {Z B : Nat → Nat} (h : LgAt w X cnt D Z B) (page : Nat) (hz : Z page ≠ 0) :
    Calls Try.prog 31 #[.pointer (some ⟨X.p, 0, none⟩), .int .i64 page] w fun e w' => e = .returned (.tuple #[.bool (decide (Ar.wordAt B (Lg.grd page (Z page)) = Lg.can X.key page)), .int .i64 0]) ∧ (∃ D', LgAt w' X cnt D' (upd Z page 0) (Lg.dropB page (Z page) B)) ∧ Fr X.may w w' := by
  obtain ⟨h1, h2⟩ := h.inv.gr page hz
  have hf := h.inv.fit page hz
  have hN := h.ar.small
  have hb := Lg.pgs_bd h2
  have hpg : page ≤ 65536 := by omega
  have hrun := (h.look page ⟨by omega, by omega⟩).1
  rw [zV_in, show decide (Z page ≠ 0) = true by simpa using hz] at hrun
  have c2 := h.c2
  have HSt := Lib.hid (lstands_at h h1 h2 hf)
  have HPg := Lib.hid (fun W => lpages_at (Z page) W h1 h2)
  have H := Lib.hid h
  have hkey := Go.Maps.keyOf_int_mk (P := Try.prog) Try.underlying3 (a := (page : Int)) (WalkArith.wf_i64 (by omega))
  have e1 : IntKind.i64.wrap (((page : Nat) : Int) * 256) = ((page * 256 : Nat) : Int) := by rw [IntKind.wrap_i64]; omega
  have e2 : IntKind.i64.wrap (((pgs (Z page) : Nat) : Int) * 256) = ((pgs (Z page) * 256 : Nat) : Int) := by rw [IntKind.wrap_i64]; omega
  have hx1 : page * 256 + pgs (Z page) * 256 ≤ X.N := by omega
  have HTB : Hid (Ar.setB B (page * 256) (pgs (Z page) * 256) (fun _ => 221) = Lg.dropB page (Z page) B) := Lib.hid rfl
  have HI : Hid (∀ D, MapIs D Z → MapIs (D.del (.int .i64 page)) (upd Z page 0)) := Lib.hid (fun D h => h.del page)
  have HV : Hid (Lg.Inv (upd Z page 0) X.N) := Lib.hid h.inv.del
  clear h h1 h2 hf hz
  generalize upd Z page 0 = Z' at *
  generalize decide (Ar.wordAt B (Lg.grd page (Z page)) = Lg.can X.key page) = b at *
  generalize Lg.dropB page (Z page) B = B' at *
  generalize pgs (Z page) * 256 = v at *
  generalize page * 256 = u at *
  generalize pgs (Z page) = pz at *
  generalize Z page = zk at *
  go_enter Try.func31, Try.ntmps31
  go_wp2_with fail
  refine HSt.out.mono ?_
  rintro e w1 ⟨rfl, hg⟩
  have H1 := Lib.hid (H.out.grown hg)
  have HF1 := Lib.hid (fr_none (may := X.may) hg)
  have c3 := H1.out.c2
  have hown := H1.out.map
  clear hg HSt H hrun c2
  go_wp2_with (at_delete; refine wpList_delete_own _ rfl _ _ 96 3 rfl 3 kint Try.underlying96 (plainElem Try.prog 3) X.mb cnt D rfl hown _ _ rfl hkey ?_)
  intro w2 hown2 hturn
  have hg2 := hturn.grown
  have H2 := Lib.hid (H1.out.turn hg2 hown2 (HI.out _ H1.out.is) HV.out)
  have HF2 := Lib.hid (HF1.out.trans (fr_some (may := X.may) hg2 (fun _ => .inr rfl)))
  clear hown hown2 hturn hg2 c3 hkey H1 HF1
  have HFi : Hid (∀ W, w2.grownBy W none → Calls Try.prog 38 #[.pointer (some ⟨X.pa, 0, none⟩), .int .i64 (u : Nat), .int .i64 (v : Nat), .int .u8 221] W fun e w' => e = .returned (.int .i64 0) ∧ LgAt w' X cnt (D.del (.int .i64 page)) Z' B' ∧ W.grownBy w' (some X.qa)) := Lib.hid (fun W g => by
    refine (An.fill_good (H2.out.grown g).ar u v 221 hx1 (by omega)).mono ?_
    rintro e w' ⟨he, ha, hg⟩
    have := (H2.out.grown g).arena hg ha
    rw [HTB.out] at this
    exact ⟨he, this, hg⟩)
  have HO := Lib.hid (fun W (g : w2.grownBy W none) => (H2.out.grown g).c0)
  have e0 := HO.out _ (grown_refl w2 none)
  have hg0 := grown_drew1 (grown_refl w2 none)
  go_upto_region 8 with (fail)
  go_region_held3 (fun w' => w'.cell? ⟨X.p, 0, none⟩ = some (.pointer (some ⟨X.pa, 0, none⟩)))
    (first | exact e0 | exact HO.out _ (by assumption) | exact HS4.out)
    (first
    | (go_at_call 73; refine (HPg.out _).mono ?_; rintro e w' ⟨rfl, rfl⟩)
    | (go_at_call 38; refine (HFi.out _ (by assumption)).mono ?_; rintro e w5 ⟨rfl, k3, k4⟩; have K := Lib.hid (And.intro k3 (grown_trans (grown_none hg0) k4)); have HS4 := Lib.hid k3.c0; clear k3 k4))
  all_goals
    go_wp2
    go_ret2
    exact ⟨rfl, ⟨_, K.out.1⟩, HF2.out.trans (fr_some K.out.2 (fun _ => .inl rfl))⟩

set_option maxHeartbeats 400000 in
theorem lcheck_nil (w : World) :
    Calls Try.prog 36 #[.pointer none] w fun e w' => e = .returned (.int .i64 2) ∧ w = w' := by
  go_enter Try.func36, Try.ntmps36
  go_wp2
  go_ret
  exact ⟨rfl, rfl⟩
/-- Do all canaries stand? -/
def Lg.All (key : Nat) (Z B : Nat → Nat) : Prop := ∀ k, Z k ≠ 0 → Ar.wordAt B (Lg.grd k (Z k)) = Lg.can key k
def Chk (w w' : World) (key : Nat) (Z B : Nat → Nat) (e : Ending) : Prop := ∃ x : Int, e = .returned (.int .i64 x) ∧ (x = 0 ∨ x = 4) ∧ (x = 0 ↔ Lg.All key Z B) ∧ w.grownBy w' none
set_option maxRecDepth 100000 in
set_option maxHeartbeats 4000000 in
theorem lcheck_at {w : World} {X : Lp} {cnt : Nat} {D : DataW Unit} {Z B : Nat → Nat} (h : LgAt w X cnt D Z B) :
    Calls Try.prog 36 #[.pointer (some ⟨X.p, 0, none⟩)] w fun e w' => Chk w w' X.key Z B e := by
  have c2 := h.c2
  have hown := h.map
  have H := Lib.hid h
  clear h
  go_enter Try.func36, Try.ntmps36
  go_wp2_with (at_range; refine wpList_range_own _ rfl _ 96 rfl 3 3 kint Try.underlying96 (plainElem Try.prog 3) X.mb cnt D rfl hown ?_; intro w1 hrg1 hg1 hs1)
  go_frame
  obtain ⟨r, hr'⟩ : ∃ r, r = w.heap.size := ⟨_, rfl⟩
  rw [← hr'] at hrg1 ⊢
  have HRG := Lib.hid hrg1
  have HG1 := Lib.hid hg1
  have HRR := Lib.hid hr'
  clear hown c2 hrg1 hg1 hr' hs1
  go_loopw [12] (fun _ wr => ∃ left c1, wr.ranges Try.prog 3 (plainElem Try.prog 3) X.mb r cnt D left c1 ∧ (∀ kl, left kl = true → Go.Maps.has D kl = true) ∧ w.grownBy wr none ∧ (∀ k : Nat, Z k ≠ 0 → left (.int .i64 k) = false → Ar.wordAt B (Lg.grd k (Z k)) = Lg.can X.key k)) (fun _ wr => wr.rangeLeft X.mb r)
  case atStart => exact ⟨_, _, HRG.out, fun _ h => h, HG1.out, fun k hz hk => by rw [H.out.is.h1 k hz] at hk; cases hk⟩
  case round =>
    clear HRG HG1
    obtain ⟨left, c1, hrg, hsub, hg, hno⟩ := hrel
    have HSub := Lib.hid hsub
    have HG := Lib.hid hg
    have HNo := Lib.hid hno
    have HM := Lib.hid hrg.left_eq
    clear hsub hg hno
    go_wp2_with (at_next; refine wpList_next_ranges_ii _ rfl _ rfl 3 3 .i64 .i64 kint Try.underlying3 Try.underlying3 X.mb r cnt D left c1 rfl hrg ?_ ?_)
    · intro hc0 hl0
      have HF : Hid (Lg.All X.key Z B) := Lib.hid (fun k hk => HNo.out k hk (hl0 _))
      clear hc0 hl0 hrg
      go_wp2
      go_ret
      exact ⟨0, rfl, .inl rfl, ⟨fun _ => HF.out, fun _ => rfl⟩, HG.out⟩
    · intro x c w2 c2 hwx hwc hlx hat hrg2 hlt hgr hsz hen
      obtain ⟨k, ek, hk⟩ := H.out.is.h0 _ (HSub.out _ hlx)
      obtain rfl : x = k := by injection ek
      have ec := (hat .nil).symm.trans (H.out.is.at_ k hk .nil)
      obtain rfl : c = (Z k : Nat) := lit_inj ec
      have HRG2 := Lib.hid hrg2
      have HLT := Lib.hid hlt
      have HG2 := Lib.hid (grown_own HG.out hgr (Nat.le_of_eq HRR.out.symm))
      have HSt := Lib.hid (lstands_at (H.out.grown HG2.out) (H.out.inv.gr k hk).1 (H.out.inv.gr k hk).2 (H.out.inv.fit k hk))
      have HZ := Lib.hid hk
      have HL2 : Hid (∀ z, (left z && !z.sameKey (.int .i64 (k : Int))) = true → Go.Maps.has D z = true) := Lib.hid (fun z hz => HSub.out z (by simp at hz; exact hz.1))
      have HNo2 : Hid (Ar.wordAt B (Lg.grd k (Z k)) = Lg.can X.key k → ∀ j : Nat, Z j ≠ 0 → (left (.int .i64 j) && !(Lit.int .i64 (j : Int)).sameKey (.int .i64 (k : Int))) = false → Ar.wordAt B (Lg.grd j (Z j)) = Lg.can X.key j) := Lib.hid (fun h0 j hz hj => by
        by_cases e : j = k
        · subst e; exact h0
        · rw [Go.Maps.sameKey_ne (intlit_ne (by omega))] at hj
          exact HNo.out j hz (by simpa using hj))
      clear hrg hwx hwc hlx hat hrg2 hlt hgr hsz ek hk ec HSub HNo HG
      by_cases a1 : Ar.wordAt B (Lg.grd k (Z k)) = Lg.can X.key k
      · rw [show decide (Ar.wordAt B (Lg.grd k (Z k)) = Lg.can X.key k) = true by simpa using a1] at HSt
        have HA := Lib.hid a1
        clear a1
        go_wp2_with fail
        refine HSt.out.mono ?_
        rintro e w3 ⟨rfl, hg⟩
        have HG3 := Lib.hid (grown_trans HG2.out hg)
        have HRG3 := Lib.hid (HRG2.out.kept hg (by simp) (by simp))
        clear hg HSt
        go_wp2
        go_roundw
        case rel => exact ⟨_, _, HRG3.out, HL2.out, HG3.out, HNo2.out HA.out⟩
        case measure => rw [HRG3.out.left_eq, HM.out]; exact HLT.out
      · rw [show decide (Ar.wordAt B (Lg.grd k (Z k)) = Lg.can X.key k) = false by simpa using a1] at HSt
        have HA := Lib.hid a1
        clear a1
        go_wp2_with fail
        refine HSt.out.mono ?_
        rintro e w3 ⟨rfl, hg⟩
        have HG3 := Lib.hid (grown_trans HG2.out hg)
        clear hg HSt
        go_wp2
        go_ret
        exact ⟨4, rfl, .inr rfl, ⟨fun h => by omega, fun h => absurd (h k HZ.out) HA.out⟩, HG3.out⟩

theorem hit_free {page run k : Nat} : ¬ Lg.Hit (fun _ => 0) page run k := fun h => h.1 rfl
set_option maxRecDepth 100000 in
set_option maxHeartbeats 2000000 in
theorem lawake_at (w : World) :
    Calls Try.prog 37 #[] w fun e w' => e = .returned (.bool true) ∧ w.grownBy w' none := by
  go_enter Try.func37, Try.ntmps37
  go_wp2_with fail
  refine (An.anew_at 4 4 w (by omega) (.inr (.inl (by omega)))).mono ?_
  rintro e w1 ⟨pa, qa, acap, rfl, ha, h1, h2, hg⟩
  have HA := Lib.hid ha
  have HP := Lib.hid (And.intro h1 h2)
  have HG := Lib.hid hg
  clear ha h1 h2 hg
  go_wp2_with fail
  refine (new_at 0 w1).mono ?_
  rintro e w2 ⟨rfl, hg⟩
  have HA2 := Lib.hid (HA.out.grown hg (by simp) (by simp))
  have HG2 := Lib.hid (grown_trans HG.out hg)
  clear hg HA HG
  have HN := Lib.hid (lnew_at HA2.out (keyOf_lt 0))
  generalize keyOf 0 = key at *
  go_wp2_with fail
  refine HN.out.mono ?_
  rintro e w3 ⟨p, mb, rfl, hl, hp, hmb, hg⟩
  have HL := Lib.hid hl
  have HG3 := Lib.hid (grown_trans HG2.out hg)
  have HPM := Lib.hid (And.intro hp (Nat.le_trans HG2.out.size hmb))
  clear hl hp hmb hg HN HA2 HG2
  have HMk : Hid (Calls Try.prog 29 #[.pointer (some ⟨p, 0, none⟩), .int .i64 1, .int .i64 300] w3 _) := Lib.hid (lmake_ok HL.out 1 300 (by omega) (by omega) (by show (1 + (300 + 263) / 256) * 256 ≤ 4 * 256; omega) (fun k => hit_free) (by omega))
  go_wp2_with fail
  refine HMk.out.mono ?_
  rintro e w4 ⟨rfl, ⟨D, hl⟩, hf⟩
  have HL4 := Lib.hid hl
  have HG4 := Lib.hid (hf.grown HG3.out (fun i hi hm => by rcases hm with e | e; (have := HP.out.2; simp only at e; omega); (have := HPM.out.2; simp only at e; omega)))
  have HSz := Lib.hid (lsize_at hl 1 ⟨by omega, by omega⟩)
  rw [show zV (upd (fun _ => 0) 1 300) 1 = 300 from rfl] at HSz
  have HM2 : Hid (Calls Try.prog 29 #[.pointer (some ⟨p, 0, none⟩), .int .i64 2, .int .i64 200] w4 _) := Lib.hid (lmake_there hl 2 200 (by omega) (by omega) (by show (2 + (200 + 263) / 256) * 256 ≤ 4 * 256; omega) ⟨1, by decide, by decide, by decide⟩)
  clear hl hf HMk HG3 HL
  go_wp2_with (first
    | (go_at_call 35; refine HSz.out.mono ?_; rintro e w' ⟨rfl, rfl⟩)
    | (go_at_call 29; refine HM2.out.mono ?_; rintro e w5 ⟨rfl, hg⟩; have HE := Lib.hid (grown_trans HG4.out hg); clear hg))
  go_ret
  exact ⟨rfl, HE.out⟩

set_option maxHeartbeats 400000 in
theorem lall_nil (w : World) :
    Calls Try.prog 33 #[.pointer none] w fun e w' => e = .returned (.slice none 0 0) ∧ w = w' := by
  go_enter Try.func33, Try.ntmps33
  go_wp2
  go_ret
  exact ⟨rfl, rfl⟩
set_option maxRecDepth 100000 in
set_option maxHeartbeats 2000000 in
theorem largeNil_walk (page n : Int) (w : World) :
    Calls Try.prog 9 #[.int .i64 page, .int .i64 n] w fun e w' => e = .returned (.bool true) ∧ w.grownBy w' none := by
  go_enter Try.func9, Try.ntmps9
  go_wp2_with fail
  refine (new_at 1 w).mono ?_
  rintro e w1 ⟨rfl, hg⟩
  have HG1 := Lib.hid hg
  clear hg
  go_wp2_with fail
  refine (lnew_nil _ _).mono ?_
  rintro e w2 ⟨rfl, hg⟩
  have HG2 := Lib.hid (grown_trans HG1.out hg)
  clear hg HG1
  go_wp2_with (first
    | (go_at_call 31; refine (ldrop_nil _ _).mono ?_; rintro e w' ⟨rfl, rfl⟩)
    | (go_at_call 29; refine (lmake_nil _ _ _).mono ?_; rintro e w' ⟨rfl, rfl⟩)
    | (go_at_call 35; refine (lsize_nil _ _).mono ?_; rintro e w' ⟨rfl, rfl⟩)
    | (go_at_call 33; refine (lall_nil _).mono ?_; rintro e w' ⟨rfl, rfl⟩)
    | (go_at_call 36; refine (lcheck_nil _).mono ?_; rintro e w' ⟨rfl, rfl⟩)
    | (go_at_call 37; refine (lawake_at _).mono ?_; rintro e w7 ⟨rfl, hg⟩; have HE := Lib.hid (grown_trans HG2.out hg); clear hg))
  go_ret
  exact ⟨rfl, HE.out⟩
end Go.Proofs.Yticoojcmlkdeiaa
