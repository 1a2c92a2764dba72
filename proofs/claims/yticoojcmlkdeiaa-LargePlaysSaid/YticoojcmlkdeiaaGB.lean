/- The walks of a set's New, Size, meets, Make. -/
import Derived.Test.YticoojcmlkdeiaaGA
import Derived.Maps.OwnSet
namespace Go.Proofs.Yticoojcmlkdeiaa
open Go.RowKit
open Go.Maps (Keyed)
open Sl (upd)
open Lg (pgs)

theorem lit_inj {a b : Int} (h : (DataW.lit (.int .i64 a) : DataW Unit) = .lit (.int .i64 b)) : a = b := by cases h; rfl
theorem zero_int (w : World) : (zeroValue 3).run Try.prog w = .ok (.int .i64 0) w := by kernel_rfl
/-- How many bytes the block has that begins there. -/
def zV (Z : Nat → Nat) (page : Int) : Nat := if 0 ≤ page then Z page.toNat else 0
theorem zV_in (Z : Nat → Nat) (k : Nat) : zV Z (k : Int) = Z k := by unfold zV; rw [if_pos (by omega), Int.toNat_natCast]
def WF (x : Int) : Prop := -9223372036854775808 ≤ x ∧ x ≤ 9223372036854775807
theorem LgAt.look {w : World} {X : Lp} {cnt : Nat} {D : DataW Unit} {Z B : Nat → Nat} (h : LgAt w X cnt D Z B) (page : Int) (hw : WF page) :
    (Instr.lookup 96 (.map (some X.mb)) (.int .i64 page) true).run Try.prog w = .ok (.tuple #[.int .i64 (zV Z page : Nat), .bool (decide (zV Z page ≠ 0))]) w ∧
    (Instr.lookup 96 (.map (some X.mb)) (.int .i64 page) false).run Try.prog w = .ok (.int .i64 (zV Z page : Nat)) w := by
  have hkey := Go.Maps.keyOf_int_mk (P := Try.prog) Try.underlying3 (a := page) (WalkArith.wf_i64 hw)
  obtain ⟨v, ps, hrun, hv⟩ := h.map.look_ok kint Try.underlying96 (zero_int w) (plainElem_int Try.underlying3 (by decide)) hkey
  obtain ⟨c, rfl, hc, hwc⟩ := plainElem_int_inv Try.underlying3 hv
  obtain ⟨c2, hrun2, hat2, _⟩ := h.map.lookup_int kint Try.underlying96 Try.underlying3 (zero_int w) hkey
  have hc' := congrArg Prod.fst hc
  simp only at hc'
  rw [hc'] at hat2
  have e2 : c = c2 := lit_inj hat2
  subst e2
  by_cases hz : zV Z page = 0
  · have hno : Go.Maps.has D (.int .i64 page) = false := h.is.no (fun k e => by subst e; rw [zV_in] at hz; exact hz)
    rw [Go.Maps.atKey_of_not_has hno] at hc'
    have ec : c = 0 := (lit_inj hc').symm
    rw [hrun, hrun2, hno, hz, ec]
    exact ⟨rfl, rfl⟩
  · have hp : 0 ≤ page := by unfold zV at hz; split at hz; assumption; exact absurd rfl hz
    obtain ⟨k, rfl⟩ : ∃ k : Nat, page = k := ⟨page.toNat, by omega⟩
    rw [zV_in] at hz ⊢
    rw [h.is.at_ k hz] at hc'
    have ec : c = (Z k : Nat) := (lit_inj hc').symm
    rw [hrun, hrun2, h.is.h1 k hz, ec]
    exact ⟨by rw [show decide (Z k ≠ 0) = true by simpa using hz], rfl⟩
theorem LgAt.store {w : World} {X : Lp} {cnt : Nat} {D : DataW Unit} {Z B : Nat → Nat} (h : LgAt w X cnt D Z B) {page n : Nat} (h1 : 120 < n) (h2 : n ≤ 4096) (hf : (page + pgs n) * 256 ≤ X.N) (hm : ∀ k, ¬ Lg.Hit Z page (pgs n) k) (hcnt : cnt ≤ 100000) :
    ∃ w' D', (Instr.mapUpdate 96 (.map (some X.mb)) (.int .i64 page) (.int .i64 n)).run Try.prog w = .ok () w' ∧ LgAt w' X (cnt + 1) D' (upd Z page n) B ∧ w.grownBy w' (some X.mb) := by
  have hp : page ≤ 65536 := by have := h.ar.small; omega
  have hkey := Go.Maps.keyOf_int_mk (P := Try.prog) Try.underlying3 (a := (page : Int)) (WalkArith.wf_i64 (by omega))
  obtain ⟨w', hrun, hown, hg⟩ := h.map.update kint Try.underlying96 (by simp only [maxLen]; omega) hkey (plainElem_int (H := Unit) Try.underlying3 (a := (n : Int)) (WalkArith.wf_i64 (by omega)))
  exact ⟨w', _, hrun, h.turn hg hown (h.is.put h.map.isMap hp (by omega)) (h.inv.put h1 h2 hf hm), hg⟩

set_option maxHeartbeats 400000 in
theorem lnew_nil (k : Nat) (w : World) :
    Calls Try.prog 28 #[.pointer none, .agg #[.int .u64 k]] w fun e w' => e = .returned (.pointer none) ∧ w.grownBy w' none := by
  go_enter Try.func28, Try.ntmps28
  go_wp2
  go_ret
  exact ⟨rfl, grown_alloc _ _ _⟩
/-- A new set. -/
def LgMade (w w' : World) (pa qa N cap key : Nat) (B : Nat → Nat) (e : Ending) : Prop :=
  ∃ p mb, e = .returned (.pointer (some ⟨p, 0, none⟩)) ∧ LgAt w' ⟨p, pa, qa, mb, key, N, cap⟩ 0 (.map []) (fun _ => 0) B ∧ w.heap.size ≤ p ∧ w.heap.size ≤ mb ∧ w.grownBy w' none
set_option maxHeartbeats 1000000 in
theorem lnew_at {w : World} {pa qa N cap key : Nat} {B : Nat → Nat} (h : An.ArAt w pa qa N cap B none) (hk : key < 18446744073709551616) :
    Calls Try.prog 28 #[.pointer (some ⟨pa, 0, none⟩), .agg #[.int .u64 key]] w fun e w' => LgMade w w' pa qa N cap key B e := by
  have H := Lib.hid h
  have HK := Lib.hid hk
  clear h hk
  have hmmk := @run_makeMap Try.prog
  go_enter Try.func28, Try.ntmps28
  go_wp2
  go_ret
  have s1 : (w.alloc (.cells #[.int .u64 key] 52)).heap.size = w.heap.size + 1 := by simp
  have s2 : ((w.alloc (.cells #[.int .u64 key] 52)).alloc (.map #[] 0)).heap.size = w.heap.size + 1 + 1 := by simp
  have g2 := grown_trans (grown_alloc w (.cells #[.int .u64 key] 52) none) (grown_alloc (w.alloc (.cells #[.int .u64 key] 52)) (.map #[] 0) none)
  have hmm := World.ownsMap_made (H := Unit) (w.alloc (.cells #[.int .u64 key] 52)) Try.prog 3 (plainElem Try.prog 3)
  rw [s1] at hmm
  have hpl := H.out.plt
  have hql := H.out.b.qlt
  generalize (w.alloc (.cells #[.int .u64 key] 52)).alloc (.map #[] 0) = w2 at *
  have g3 := grown_alloc w2 (.cells #[.pointer (some ⟨pa, 0, none⟩), .int .u64 key, .map (some (w.heap.size + 1))] 98) none
  refine ⟨w.heap.size + 1 + 1, w.heap.size + 1, rfl, ⟨?_, ?_, ?_, H.out.grown (grown_trans g2 g3) (by simp) (by simp), hmm.kept g3 (by simp), mapIs_nil, Lg.Inv.nil _, ⟨?_, ?_, ?_, ?_⟩, HK.out⟩, by omega, by omega, grown_trans g2 g3⟩
  · show (w2.alloc _).cell? ⟨w.heap.size + 1 + 1, 0, none⟩ = _
    rw [← s2, cell_alloc_new]; rfl
  · show (w2.alloc _).cell? ⟨w.heap.size + 1 + 1, 1, none⟩ = _
    rw [← s2, cell_alloc_new]; rfl
  · show (w2.alloc _).cell? ⟨w.heap.size + 1 + 1, 2, none⟩ = _
    rw [← s2, cell_alloc_new]; rfl
  · show w.heap.size + 1 + 1 ≠ qa; omega
  · show w.heap.size + 1 + 1 ≠ w.heap.size + 1; omega
  · show pa ≠ w.heap.size + 1; omega
  · show qa ≠ w.heap.size + 1; omega

theorem lsize_nil (page : Int) (w : World) :
    Calls Try.prog 35 #[.pointer none, .int .i64 page] w fun e w' => e = .returned (.int .i64 0) ∧ w = w' := by
  go_enter Try.func35, Try.ntmps35
  go_wp2
  go_ret
  exact ⟨rfl, rfl⟩
set_option maxHeartbeats 400000 in
theorem lsize_at {w : World} {X : Lp} {cnt : Nat} {D : DataW Unit} {Z B : Nat → Nat} (h : LgAt w X cnt D Z B) (page : Int) (hw : WF page) :
    Calls Try.prog 35 #[.pointer (some ⟨X.p, 0, none⟩), .int .i64 page] w fun e w' => e = .returned (.int .i64 (zV Z page : Nat)) ∧ w = w' := by
  have hrun := (h.look page hw).2
  have c2 := h.c2
  clear h hw
  go_enter Try.func35, Try.ntmps35
  go_wp2
  go_ret
  exact ⟨rfl, rfl⟩

/-- Does the set have one of these pages? -/
def Meets (w w' : World) (Z : Nat → Nat) (page run : Nat) (e : Ending) : Prop := ∃ b : Bool, e = .returned (.bool b) ∧ (b = true ↔ ∃ k, Lg.Hit Z page run k) ∧ w.grownBy w' none
set_option maxRecDepth 100000 in
set_option maxHeartbeats 4000000 in
theorem meets_at {w : World} {X : Lp} {cnt : Nat} {D : DataW Unit} {Z B : Nat → Nat} (h : LgAt w X cnt D Z B) (page run : Nat) (hp : page ≤ 65536) (hr : run ≤ 65536) :
    Calls Try.prog 65 #[.pointer (some ⟨X.p, 0, none⟩), .int .i64 page, .int .i64 run] w fun e w' => Meets w w' Z page run e := by
  have c2 := h.c2
  have hown := h.map
  have HI := Lib.hid h.is
  have HV := Lib.hid h.inv
  have HN := Lib.hid h.ar.small
  obtain ⟨s, hs⟩ : ∃ s : Int, (page : Int) + (run : Int) = s := ⟨_, rfl⟩
  have hs1 : 0 ≤ s ∧ s ≤ 131072 := by omega
  obtain ⟨hs1, hs2⟩ := hs1
  have HS := Lib.hid hs
  clear h
  go_enter Try.func65, Try.ntmps65
  go_wp2_with (at_range; refine wpList_range_own _ rfl _ 96 rfl 3 3 kint Try.underlying96 (plainElem Try.prog 3) X.mb cnt D rfl hown ?_; intro w1 hrg1 hg1 hs1)
  go_frame
  obtain ⟨r, hr'⟩ : ∃ r, r = w.heap.size := ⟨_, rfl⟩
  rw [← hr'] at hrg1 ⊢
  have HRG := Lib.hid hrg1
  have HG1 := Lib.hid hg1
  have HRR := Lib.hid hr'
  clear hown c2 hrg1 hg1 hr'
  go_loopw [14] (fun _ wr => ∃ left c1, wr.ranges Try.prog 3 (plainElem Try.prog 3) X.mb r cnt D left c1 ∧ (∀ kl, left kl = true → Go.Maps.has D kl = true) ∧ w.grownBy wr none ∧ (∀ k : Nat, left (.int .i64 k) = false → ¬ Lg.Hit Z page run k)) (fun _ wr => wr.rangeLeft X.mb r)
  case atStart => exact ⟨_, _, HRG.out, fun _ h => h, HG1.out, fun k hk hh => by rw [HI.out.h1 k hh.1] at hk; cases hk⟩
  case round =>
    clear HRG HG1
    obtain ⟨left, c1, hrg, hsub, hg, hno⟩ := hrel
    have HSub := Lib.hid hsub
    have HG := Lib.hid hg
    have HNo := Lib.hid hno
    have HM := Lib.hid hrg.left_eq
    clear hsub hg hno
    go_wp2_with (at_next; refine wpList_next_ranges_ii _ rfl _ rfl 3 3 .i64 .i64 kint Try.underlying3 Try.underlying3 X.mb r cnt D left c1 rfl hrg ?_ ?_)
    · intro hc0 hl0
      have HF : Hid (¬ ∃ k, Lg.Hit Z page run k) := Lib.hid (fun ⟨k, hk⟩ => HNo.out k (hl0 _) hk)
      clear hc0 hl0 hrg
      go_wp2
      go_ret
      exact ⟨false, rfl, ⟨(fun h => nomatch h), fun h => absurd h HF.out⟩, HG.out⟩
    · intro x c w2 c2 hwx hwc hlx hat hrg2 hlt hgr hsz hen
      obtain ⟨k, ek, hk⟩ := HI.out.h0 _ (HSub.out _ hlx)
      obtain rfl : x = k := by injection ek
      have ec := (hat .nil).symm.trans (HI.out.at_ k hk .nil)
      obtain rfl : c = (Z k : Nat) := lit_inj ec
      have hz := HV.out.gr k hk
      have hfit := HV.out.fit k hk
      have hb17 := Lg.pgs_bd hz.2
      have HRG2 := Lib.hid hrg2
      have HLT := Lib.hid hlt
      have HG2 := Lib.hid (grown_own HG.out hgr (Nat.le_of_eq HRR.out.symm))
      have HP := Lib.hid (fun W => lpages_at (Z k) W hz.1 hz.2)
      have HZ := Lib.hid hk
      obtain ⟨t, ht⟩ : ∃ t : Int, (k : Int) + (pgs (Z k) : Nat) = t := ⟨_, rfl⟩
      have hk1 : (k : Int) ≤ 65536 := by have := HN.out; omega
      have ht1 : t ≤ 131072 := by omega
      have ht0 : 0 ≤ t := by omega
      have HT := Lib.hid ht
      have HD : Hid (Lg.Hit Z page run k ↔ (k : Int) < s ∧ (page : Int) < t) := Lib.hid (by have := HS.out; unfold Lg.Hit; omega)
      have HL2 : Hid (∀ z, (left z && !z.sameKey (.int .i64 (k : Int))) = true → Go.Maps.has D z = true) := Lib.hid (fun z hz => HSub.out z (by simp at hz; exact hz.1))
      have HNo2 : Hid (¬ Lg.Hit Z page run k → ∀ j : Nat, (left (.int .i64 j) && !(Lit.int .i64 (j : Int)).sameKey (.int .i64 (k : Int))) = false → ¬ Lg.Hit Z page run j) := Lib.hid (fun h0 j hj => by
        by_cases e : j = k
        · subst e; exact h0
        · rw [Go.Maps.sameKey_ne (intlit_ne (by omega))] at hj
          exact HNo.out j (by simpa using hj))
      clear hrg hwx hwc hlx hat hrg2 hlt hgr hsz ek hk ec hz hfit hb17 HSub HNo HG
      generalize pgs (Z k) = pz at *
      generalize Z k = zk at *
      by_cases a1 : (k : Int) < s
      · by_cases a2 : (page : Int) < t
        · go_wp2_with (go_at_call 73; refine (HP.out _).mono ?_; rintro e w' ⟨rfl, rfl⟩)
          go_ret
          exact ⟨true, rfl, ⟨fun _ => ⟨k, HD.out.2 ⟨a1, a2⟩⟩, fun _ => rfl⟩, HG2.out⟩
        · go_wp2_with (go_at_call 73; refine (HP.out _).mono ?_; rintro e w' ⟨rfl, rfl⟩)
          go_roundw
          case rel => exact ⟨_, _, HRG2.out, HL2.out, HG2.out, HNo2.out (fun h => by have := (HD.out.1 h).2; omega)⟩
          case measure => rw [HRG2.out.left_eq, HM.out]; exact HLT.out
      · go_wp2
        go_roundw
        case rel => exact ⟨_, _, HRG2.out, HL2.out, HG2.out, HNo2.out (fun h => by have := (HD.out.1 h).1; omega)⟩
        case measure => rw [HRG2.out.left_eq, HM.out]; exact HLT.out

set_option maxHeartbeats 400000 in
theorem lmake_nil (page n : Int) (w : World) :
    Calls Try.prog 29 #[.pointer none, .int .i64 page, .int .i64 n] w fun e w' => e = .returned (.int .i64 2) ∧ w = w' := by
  go_enter Try.func29, Try.ntmps29
  go_wp2
  go_ret
  exact ⟨rfl, rfl⟩
set_option maxRecDepth 100000 in
set_option maxHeartbeats 1000000 in
theorem lmake_arg (p : Nat) (w : World) (page n : Int) (hb : page < 0 ∨ n ≤ 120 ∨ 4096 < n) :
    Calls Try.prog 29 #[.pointer (some ⟨p, 0, none⟩), .int .i64 page, .int .i64 n] w fun e w' => e = .returned (.int .i64 1) ∧ w = w' := by
  by_cases hn : n ≤ 120 ∨ 4096 < n
  · have HP := Lib.hid (pages_no n w hn)
    clear hb hn
    go_enter Try.func29, Try.ntmps29
    go_wp2_with (go_at_call 63; refine HP.out.mono ?_; rintro e w' ⟨rfl, rfl⟩)
    go_ret
    exact ⟨rfl, rfl⟩
  · obtain ⟨m, rfl⟩ : ∃ m : Nat, n = m := ⟨n.toNat, by omega⟩
    have HP := Lib.hid (cpages_at m w (by omega) (by omega))
    have hp : page < 0 := by omega
    clear hb hn
    go_enter Try.func29, Try.ntmps29
    go_wp2_with (go_at_call 63; refine HP.out.mono ?_; rintro e w' ⟨rfl, rfl⟩)
    go_ret
    exact ⟨rfl, rfl⟩
set_option maxRecDepth 100000 in
set_option maxHeartbeats 1000000 in
theorem lmake_range {w : World} {X : Lp} {cnt : Nat} {D : DataW Unit} {Z B : Nat → Nat} (h : LgAt w X cnt D Z B) (page : Int) (n : Nat) (h1 : 120 < n) (h2 : n ≤ 4096) (hp : 0 ≤ page) (hf : (X.N : Int) / 256 - (pgs n : Nat) < page) :
    Calls Try.prog 29 #[.pointer (some ⟨X.p, 0, none⟩), .int .i64 page, .int .i64 n] w fun e w' => e = .returned (.int .i64 3) ∧ w = w' := by
  have HP := Lib.hid (cpages_at n w h1 h2)
  have HL := Lib.hid (An.alen_core X.pa X.qa X.N X.cap w h.ar.c0)
  have c0 := h.c0
  have hN := h.ar.small
  have hb := Lg.pgs_bd h2
  clear h h1 h2
  obtain ⟨y, hy⟩ : ∃ y : Int, (X.N : Int) / 256 = y := ⟨_, rfl⟩
  have hy1 : 0 ≤ y ∧ y ≤ 256 := by omega
  obtain ⟨hy1, hy2⟩ := hy1
  rw [hy] at hf
  generalize pgs n = r at *
  go_enter Try.func29, Try.ntmps29
  go_wp2_with (first
    | (go_at_call 63; refine HP.out.mono ?_; rintro e w' ⟨rfl, rfl⟩)
    | (go_at_call 64; refine HL.out.mono ?_; rintro e w' ⟨rfl, rfl⟩))
  go_ret
  exact ⟨rfl, rfl⟩
set_option maxRecDepth 100000 in
set_option maxHeartbeats 2000000 in
theorem lmake_there {w : World} {X : Lp} {cnt : Nat} {D : DataW Unit} {Z B : Nat → Nat} (h : LgAt w X cnt D Z B) (page n : Nat) (h1 : 120 < n) (h2 : n ≤ 4096) (hf : (page + pgs n) * 256 ≤ X.N) (hm : ∃ k, Lg.Hit Z page (pgs n) k) :
    Calls Try.prog 29 #[.pointer (some ⟨X.p, 0, none⟩), .int .i64 page, .int .i64 n] w fun e w' => e = .returned (.int .i64 7) ∧ w.grownBy w' none := by
  have HP := Lib.hid (cpages_at n w h1 h2)
  have HL := Lib.hid (An.alen_core X.pa X.qa X.N X.cap w h.ar.c0)
  have c0 := h.c0
  have hN := h.ar.small
  have hb := Lg.pgs_bd h2
  have HMe := Lib.hid (meets_at h page (pgs n) (by omega) (by omega))
  have HH := Lib.hid hm
  obtain ⟨y, hy⟩ : ∃ y : Int, (X.N : Int) / 256 = y := ⟨_, rfl⟩
  have hy1 : 0 ≤ y ∧ y ≤ 256 ∧ (page : Int) ≤ y - (pgs n : Nat) := by omega
  obtain ⟨hy1, hy2, hy3⟩ := hy1
  clear h h1 h2 hm hf
  generalize pgs n = r at *
  go_enter Try.func29, Try.ntmps29
  go_wp2_with (first
    | (go_at_call 63; refine HP.out.mono ?_; rintro e w' ⟨rfl, rfl⟩)
    | (go_at_call 64; refine HL.out.mono ?_; rintro e w' ⟨rfl, rfl⟩))
  refine HMe.out.mono ?_
  rintro e w1 ⟨b, rfl, hb1, hg⟩
  obtain rfl : b = true := hb1.2 HH.out
  have HG := Lib.hid hg
  clear hb1 hg
  go_wp2
  go_ret
  exact ⟨rfl, HG.out⟩
/-- The bytes behind a Make. -/
def Lg.makeB (key page n : Nat) (B : Nat → Nat) : Nat → Nat := Ar.setW (Ar.setB B (page * 256) (pgs n * 256) (fun _ => 0)) (Lg.grd page n) (Lg.can key page)
set_option maxRecDepth 100000 in
set_option maxHeartbeats 4000000 in
theorem lmake_ok {w : World} {X : Lp} {cnt : Nat} {D : DataW Unit} {Z B : Nat → Nat} (h : LgAt w X cnt D Z B) (page n : Nat) (h1 : 120 < n) (h2 : n ≤ 4096) (hf : (page + pgs n) * 256 ≤ X.N) (hm : ∀ k, ¬ Lg.Hit Z page (pgs n) k) (hcnt : cnt ≤ 100000) :
    Calls Try.prog 29 #[.pointer (some ⟨X.p, 0, none⟩), .int .i64 page, .int .i64 n] w fun e w' => e = .returned (.int .i64 0) ∧ (∃ D', LgAt w' X (cnt + 1) D' (upd Z page n) (Lg.makeB X.key page n B)) ∧ Fr X.may w w' := by
  have HP := Lib.hid (cpages_at n w h1 h2)
  have HL := Lib.hid (An.alen_core X.pa X.qa X.N X.cap w h.ar.c0)
  have c0 := h.c0
  have hN := h.ar.small
  have hb := Lg.pgs_bd h2
  have hpg : page ≤ 65536 := by omega
  have HMe := Lib.hid (meets_at h page (pgs n) (by omega) (by omega))
  obtain ⟨y, hy⟩ : ∃ y : Int, (X.N : Int) / 256 = y := ⟨_, rfl⟩
  have hy1 : 0 ≤ y ∧ y ≤ 256 ∧ (page : Int) ≤ y - (pgs n : Nat) := by omega
  obtain ⟨hy1, hy2, hy3⟩ := hy1
  have H := Lib.hid h
  have HM := Lib.hid (And.intro h1 (And.intro h2 (And.intro hf (And.intro hm hcnt))))
  have e1 : ((page : Nat) : Int) * 256 = ((page * 256 : Nat) : Int) := by omega
  have e2 : ((pgs n : Nat) : Int) * 256 = ((pgs n * 256 : Nat) : Int) := by omega
  have HGd := Lib.hid (fun W => lguard_at page n W h1 h2 hpg)
  have hx1 : page * 256 + pgs n * 256 ≤ X.N := by omega
  have HFi : Hid (∀ W cnt D Z, LgAt W X cnt D Z B → Calls Try.prog 38 #[.pointer (some ⟨X.pa, 0, none⟩), .int .i64 ((page * 256 : Nat) : Int), .int .i64 ((pgs n * 256 : Nat) : Int), .int .u8 0] W fun e w' => e = .returned (.int .i64 0) ∧ LgAt w' X cnt D Z (Ar.setB B (page * 256) (pgs n * 256) (fun _ => 0)) ∧ W.grownBy w' (some X.qa)) := Lib.hid (fun W cnt D Z hW => (An.fill_good hW.ar (page * 256) (pgs n * 256) 0 hx1 (by omega)).mono fun _ _ ⟨he, ha, hg⟩ => ⟨he, hW.arena hg ha, hg⟩)
  have HTB : Hid (Ar.setW (Ar.setB B (page * 256) (pgs n * 256) (fun _ => 0)) (Lg.grd page n) (Lg.can X.key page) = Lg.makeB X.key page n B) := Lib.hid rfl
  have HGR := Lib.hid (grd_ok hf)
  clear h h1 h2 hm hf hcnt hx1
  generalize Lg.makeB X.key page n B = B' at *
  generalize page * 256 = u at *
  generalize pgs n * 256 = v at *
  go_enter Try.func29, Try.ntmps29
  go_wp2_with (first
    | (go_at_call 63; refine HP.out.mono ?_; rintro e w' ⟨rfl, rfl⟩)
    | (go_at_call 64; refine HL.out.mono ?_; rintro e w' ⟨rfl, rfl⟩))
  refine HMe.out.mono ?_
  rintro e w1 ⟨b, rfl, hb1, hg⟩
  obtain rfl : b = false := by
    cases b with
    | false => rfl
    | true => obtain ⟨k, hk⟩ := hb1.1 rfl; exact absurd hk (HM.out.2.2.2.1 k)
  have H1 := Lib.hid (H.out.grown hg)
  have HF1 := Lib.hid (fr_none (may := X.may) hg)
  clear hb1 hg HMe HL HP c0 hy hy1 hy2 hy3
  obtain ⟨w2, D2, hrun, h2, hg2⟩ := H1.out.store HM.out.1 HM.out.2.1 HM.out.2.2.1 HM.out.2.2.2.1 HM.out.2.2.2.2
  have H2 := Lib.hid h2
  have HF2 := Lib.hid (HF1.out.trans (fr_some (may := X.may) hg2 (fun _ => .inr rfl)))
  have c2 := H1.out.c2
  have d0 := h2.c0
  clear h2 hg2
  have HF3' := Lib.hid (HFi.out w2 _ _ _ H2.out)
  go_upto_region 11 with (fail)
  go_wp2_with fail
  refine HF3'.out.mono ?_
  rintro e w3 ⟨rfl, ha3, hg3⟩
  have H3 := Lib.hid ha3
  have HF3 := Lib.hid (HF2.out.trans (fr_some (may := X.may) hg3 (fun _ => .inl rfl)))
  clear ha3 hg3
  go_upto_region 12 with (fail)
  clear hrun c2 d0 HFi HF3' H2 HF2 HF1 H1 e1 e2
  have HC := Lib.hid (fun W (g : w3.grownBy W none) => lcan_at (w := W) page (H3.out.grown g).c1 H3.out.k hpg)
  have HW : Hid (∀ W, w3.grownBy W none → Calls Try.prog 45 #[.pointer (some ⟨X.pa, 0, none⟩), .int .i64 (Lg.grd page n : Nat), .int .u64 (Lg.can X.key page : Nat)] W fun e w' => e = .returned (.int .i64 0) ∧ LgAt w' X (cnt + 1) D2 (upd Z page n) B' ∧ W.grownBy w' (some X.qa)) := Lib.hid (fun W g => by
    have hW := H3.out.grown g
    refine (setword_in hW.ar HGR.out.1 HGR.out.2).mono ?_
    rintro e w' ⟨he, ha, hg⟩
    have := hW.arena hg ha
    rw [HTB.out] at this
    exact ⟨he, this, hg⟩)
  have HO := Lib.hid (fun W (g : w3.grownBy W none) => (H3.out.grown g).c0)
  have e0 := HO.out _ (grown_refl w3 none)
  have hg0 := grown_drew1 (grown_refl w3 none)
  generalize Lg.can X.key page = z at *
  generalize Lg.grd page n = g at *
  go_region_held3 (fun w' => w'.cell? ⟨X.p, 0, none⟩ = some (.pointer (some ⟨X.pa, 0, none⟩)))
    (first | exact e0 | exact HO.out _ (by assumption) | exact HS4.out)
    (first
    | (go_at_call 66; refine (HGd.out _).mono ?_; rintro e w' ⟨rfl, rfl⟩)
    | (go_at_call 67; refine (HC.out _ (by assumption)).mono ?_; rintro e w4 ⟨rfl, m⟩; have hg1 := grown_trans hg0 m; clear m)
    | (go_at_call 45; refine (HW.out _ (by assumption)).mono ?_; rintro e w5 ⟨rfl, k3, k4⟩; have K := Lib.hid (And.intro k3 (grown_trans (grown_none hg1) k4)); have HS4 := Lib.hid k3.c0; clear k3 k4))
  all_goals
    go_wp2
    go_ret
    exact ⟨rfl, ⟨D2, K.out.1⟩, HF3.out.trans (fr_some K.out.2 (fun _ => .inl rfl))⟩
end Go.Proofs.Yticoojcmlkdeiaa
