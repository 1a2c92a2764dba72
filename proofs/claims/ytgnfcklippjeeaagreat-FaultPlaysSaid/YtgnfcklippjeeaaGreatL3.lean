/- Merged texts: NJ NK NL. -/
import Derived.Test.YtgnfcklippjeeaaGreatK7
/- The walks of a region's New, Config, Owner, Count, Home. -/
namespace Go.Proofs.YtgnfcklippjeeaaGreat
open Go.RowKit
open Go.Maps (Keyed)
open Sl (Cls bs upd FOk LnkIs)
open Lg (pgs)

/-! New -/
/-- May an arena be parted so? -/
def Parts (m M : Int) : Prop := 0 ≤ m ∧ 0 ≤ M ∧ (0 < m ∨ 0 < M) ∧ m + M ≤ 256
theorem cfg_new (w : World) (m M : Int) (s : Nat) (t : TypeId) :
    (w.alloc (.cells #[.int .i64 m, .int .i64 M, .int .u64 s] t)).cell? ⟨w.heap.size, 0, none⟩ = some (.int .i64 m) ∧ (w.alloc (.cells #[.int .i64 m, .int .i64 M, .int .u64 s] t)).cell? ⟨w.heap.size, 1, none⟩ = some (.int .i64 M) ∧ (w.alloc (.cells #[.int .i64 m, .int .i64 M, .int .u64 s] t)).cell? ⟨w.heap.size, 2, none⟩ = some (.int .u64 s) :=
  ⟨by rw [cell_alloc_new]; rfl, by rw [cell_alloc_new]; rfl, by rw [cell_alloc_new]; rfl⟩
set_option maxRecDepth 100000 in
set_option maxHeartbeats 1000000 in
theorem parts_yes {m M : Int} (s : Nat) (w : World) (h : Parts m M) :
    Calls Tryz.prog 72 #[.agg #[.int .i64 m, .int .i64 M, .int .u64 s]] w fun e w' => e = .returned (.bool true) ∧ w.grownBy w' none := by
  obtain ⟨h1, h2, h3, h4⟩ := h
  have h5 : 0 < max m M := by omega
  have h6 : M ≤ 256 - m := by omega
  have h7 : IntKind.i64.wrap (256 - m) = 256 - m := by rw [IntKind.wrap_i64]; omega
  obtain ⟨x, hx⟩ : ∃ x, max m M = x := ⟨_, rfl⟩
  clear h3 h4
  go_enter Tryz.func72, Tryz.ntmps72
  go_wp2
  go_ret
  exact ⟨rfl, grown_alloc _ _ _⟩
set_option maxRecDepth 100000 in
set_option maxHeartbeats 1000000 in
theorem parts_no {m M : Int} (s : Nat) (w : World) (hm : WF m) (h : ¬ Parts m M) :
    Calls Tryz.prog 72 #[.agg #[.int .i64 m, .int .i64 M, .int .u64 s]] w fun e w' => e = .returned (.bool false) ∧ w.grownBy w' none := by
  unfold Parts at h
  unfold WF at hm
  by_cases h1 : 0 ≤ m
  · by_cases h2 : 0 ≤ M
    · by_cases h3 : 0 < max m M
      · have h6 : decide (M ≤ 256 - m) = false := by simp; omega
        have h7 : IntKind.i64.wrap (256 - m) = 256 - m := by rw [IntKind.wrap_i64]; omega
        clear h hm
        go_enter Tryz.func72, Tryz.ntmps72
        go_wp2
        go_ret
        exact ⟨rfl, grown_alloc _ _ _⟩
      · have h6 : decide (0 < max m M) = false := by simp; omega
        clear h hm h3
        go_enter Tryz.func72, Tryz.ntmps72
        go_wp2
        go_ret
        exact ⟨rfl, grown_alloc _ _ _⟩
    · have h6 : decide (0 ≤ M) = false := by simpa using h2
      clear h hm h2
      go_enter Tryz.func72, Tryz.ntmps72
      go_wp2
      go_ret
      exact ⟨rfl, grown_alloc _ _ _⟩
  · have h6 : decide (0 ≤ m) = false := by simpa using h1
    clear h hm h1
    go_enter Tryz.func72, Tryz.ntmps72
    go_wp2
    go_ret
    exact ⟨rfl, grown_alloc _ _ _⟩
set_option maxRecDepth 100000 in
set_option maxHeartbeats 1000000 in
theorem rgnew_no {m M : Int} (s : Nat) (w : World) (hm : WF m) (h : ¬ Parts m M) :
    Calls Tryz.prog 22 #[.agg #[.int .i64 m, .int .i64 M, .int .u64 s]] w fun e w' => e = .returned (.tuple #[.pointer none, .int .i64 1]) ∧ w.grownBy w' none := by
  have HP := Lib.hid (fun W => parts_no (m := m) (M := M) s W hm h)
  clear hm h
  go_enter Tryz.func22, Tryz.ntmps22
  go_wp2_with fail
  refine (HP.out _).mono ?_
  rintro e w1 ⟨rfl, m1⟩
  have HE := Lib.hid (grown_trans (grown_alloc _ _ _) m1)
  clear m1
  go_wp2
  go_ret2
  exact ⟨rfl, HE.out⟩
/-- A new region. -/
def RnMade (w w' : World) (m M s : Nat) (e : Ending) : Prop :=
  ∃ A : Rp, e = .returned (.tuple #[.pointer (some ⟨A.p, 0, none⟩), .int .i64 0]) ∧ RnAt w' A (St.new m (m + M) (keyOf s)) 0 ∧ w.grownBy w' none ∧ w.heap.size ≤ A.p ∧ (∀ i, A.may (fun _ => none) i → w.heap.size ≤ i)
/-- Blocks that are seven others. -/
structure Seven (lo hi pa qa pt qt mb pg mg : Nat) : Prop where
  a : lo ≤ pa ∧ lo ≤ qa ∧ lo ≤ pt ∧ lo ≤ qt ∧ lo ≤ mb ∧ lo ≤ pg ∧ lo ≤ mg
  b : pa < hi ∧ qa < hi ∧ pt < hi ∧ qt < hi ∧ mb < hi ∧ pg < hi ∧ mg < hi
  c : pa ≠ qa ∧ pa ≠ pt ∧ pa ≠ qt ∧ pa ≠ mb ∧ pa ≠ pg ∧ pa ≠ mg
  d : qa ≠ pt ∧ qa ≠ qt ∧ qa ≠ mb ∧ qa ≠ pg ∧ qa ≠ mg
  e : pt ≠ qt ∧ pt ≠ mb ∧ pt ≠ pg ∧ pt ≠ mg
  f : qt ≠ mb ∧ qt ≠ pg ∧ qt ≠ mg
  g : mb ≠ pg ∧ mb ≠ mg ∧ pg ≠ mg
theorem rn_made {w W : World} {m M s pa qa acap pt qt tcap mb pg mg : Nat} (hm : m + M ≤ 256) (h1 : 1 ≤ m + M) (hg : w.grownBy W none) (har : An.ArAt W pa qa ((m + M) * 256) acap (fun _ => 0) none) (ht : Pt.TabAt W pt qt (m + M) tcap (fun _ => Pg.zero))
    (hmp : W.ownsMap Tryz.prog 3 ptrElem mb 0 (.map [])) (hl : LgAt W ⟨pg, pa, qa, mg, keyOf s, (m + M) * 256, acap⟩ 0 (.map []) (fun _ => 0) (fun _ => 0)) (h7 : Seven w.heap.size W.heap.size pa qa pt qt mb pg mg) :
    RnMade w (W.alloc (.cells #[.int .i64 m, .int .i64 M, .int .u64 s, .pointer (some ⟨pa, 0, none⟩), .pointer (some ⟨pt, 0, none⟩), .int .u64 (keyOf s : Nat), .map (some mb), .pointer (some ⟨pg, 0, none⟩)] 111)) m M s (.returned (.tuple #[.pointer (some ⟨W.heap.size, 0, none⟩), .int .i64 0])) := by
  have ga := grown_alloc W (.cells #[.int .i64 m, .int .i64 M, .int .u64 s, .pointer (some ⟨pa, 0, none⟩), .pointer (some ⟨pt, 0, none⟩), .int .u64 (keyOf s : Nat), .map (some mb), .pointer (some ⟨pg, 0, none⟩)] 111) none
  obtain ⟨⟨a1, a2, a3, a4, a5, a6, a7⟩, ⟨b1, b2, b3, b4, b5, b6, b7⟩, ⟨c1, c2, c3, c4, c5, c6⟩, ⟨d1, d2, d3, d4, d5⟩, ⟨e1, e2, e3, e4⟩, ⟨f1, f2, f3⟩, ⟨g1, g2, g3⟩⟩ := h7
  have hs := hg.size
  have n1 := Nat.ne_of_lt b1
  have n2 := Nat.ne_of_lt b2
  have n3 := Nat.ne_of_lt b3
  have n4 := Nat.ne_of_lt b4
  have n5 := Nat.ne_of_lt b5
  have n6 := Nat.ne_of_lt b6
  have n7 := Nat.ne_of_lt b7
  refine ⟨⟨W.heap.size, pa, qa, pt, qt, mb, pg, mg, acap, tcap, s, fun _ => ⟨0, 0, 0, 0, 0, 0, 0⟩, fun i => if i = W.heap.size then 0 else if i = pa then 1 else if i = qa then 2 else if i = pt then 3 else if i = qt then 4 else if i = mb then 5 else if i = pg then 6 else 7⟩, rfl, ⟨⟨?_, ?_, ?_, ?_, ?_, ?_, ?_, ?_, har.grown ga (by simp) (by simp), ht.grown ga (by simp) (by simp), ⟨.map [], hmp.kept ga (by simp), mapIs_nil⟩, ⟨.map [], hl.grown ga⟩, (fun k d h => nomatch h), ⟨?_, ?_, ?_, ?_, ?_, ?_, ?_, ?_, (fun k d h => nomatch h)⟩⟩, St.ok_new h1 hm (Nat.le_add_right _ _) (keyOf_lt s)⟩, grown_trans hg ga, hs, ?_⟩
  · rw [cell_alloc_new]; rfl
  · rw [cell_alloc_new]
    show some (Value.int .i64 (M : Int)) = some (.int .i64 (((m + M : Nat) : Int) - (m : Int)))
    rw [show ((m + M : Nat) : Int) - (m : Int) = (M : Int) by omega]
  · rw [cell_alloc_new]; rfl
  · rw [cell_alloc_new]; rfl
  · rw [cell_alloc_new]; rfl
  · rw [cell_alloc_new]; rfl
  · rw [cell_alloc_new]; rfl
  · rw [cell_alloc_new]; rfl
  · simp only; rw [if_pos trivial]
  · simp only; rw [if_neg n1, if_pos trivial]
  · simp only; rw [if_neg n2, if_neg c1.symm, if_pos trivial]
  · simp only; rw [if_neg n3, if_neg c2.symm, if_neg d1.symm, if_pos trivial]
  · simp only; rw [if_neg n4, if_neg c3.symm, if_neg d2.symm, if_neg e1.symm, if_pos trivial]
  · simp only; rw [if_neg n5, if_neg c4.symm, if_neg d3.symm, if_neg e2.symm, if_neg f1.symm, if_pos trivial]
  · simp only; rw [if_neg n6, if_neg c5.symm, if_neg d4.symm, if_neg e3.symm, if_neg f2.symm, if_neg g1.symm, if_pos trivial]
  · simp only; rw [if_neg n7, if_neg c6.symm, if_neg d5.symm, if_neg e4.symm, if_neg f3.symm, if_neg g2.symm, if_neg g3.symm]
  · rintro i (rfl | rfl | rfl | rfl | ⟨k, d, hk, _⟩)
    · exact a2
    · exact a4
    · exact a5
    · exact a7
    · cases hk
set_option maxRecDepth 100000 in
set_option maxHeartbeats 2000000 in
theorem rgnew_yes {m M : Nat} (s : Nat) (w : World) (h : Parts m M) :
    Calls Tryz.prog 22 #[.agg #[.int .i64 m, .int .i64 M, .int .u64 s]] w fun e w' => RnMade w w' m M s e := by
  have HP := Lib.hid (fun W => parts_yes (m := m) (M := M) s W h)
  have hs : ((m : Nat) : Int) + (M : Nat) = ((m + M : Nat) : Int) := by omega
  have HN : Hid (m + M ≤ 256 ∧ 1 ≤ m + M) := Lib.hid (by unfold Parts at h; omega)
  have hn : ((m + M : Nat) : Int) ≤ 256 := by have := HN.out; omega
  have hwr : IntKind.i64.wrap ((m + M : Nat) : Int) = ((m + M : Nat) : Int) := by rw [IntKind.wrap_i64]; omega
  have HNN : Hid (((m + M : Nat) : Int) = ((m + M : Nat) : Int)) := Lib.hid rfl
  have HL := Lib.hid (fun W => new_at s W)
  have m0 := grown_alloc w (.cells #[.int .i64 m, .int .i64 M, .int .u64 s] 60) none
  have HCF := Lib.hid (cfg_new w m M s 60)
  clear h
  generalize hnn : ((m + M : Nat) : Int) = nn at hs hn hwr HNN
  have HNN2 := Lib.hid hnn
  clear hnn HNN
  go_enter Tryz.func22, Tryz.ntmps22
  go_wp2_with fail
  refine (HP.out _).mono ?_
  rintro e w1 ⟨rfl, m1⟩
  go_upto_region 3 with (fail)
  have HG := Lib.hid (grown_trans m0 m1)
  have HT : Hid (∀ W, w1.grownBy W none → W.cell? ⟨w.heap.size, 0, none⟩ = some (.int .i64 m) ∧ W.cell? ⟨w.heap.size, 1, none⟩ = some (.int .i64 M) ∧ W.cell? ⟨w.heap.size, 2, none⟩ = some (.int .u64 s)) := Lib.hid (fun W g1 => ⟨g1.cell (m1.cell HCF.out.1 (by simp)) (by simp), g1.cell (m1.cell HCF.out.2.1 (by simp)) (by simp), g1.cell (m1.cell HCF.out.2.2 (by simp)) (by simp)⟩)
  clear m0 m1 HCF HP
  generalize w.heap.size = q at *
  obtain ⟨e0, e1, e2⟩ := HT.out _ (grown_refl w1 none)
  have hg1 := grown_drew1 (grown_refl w1 none)
  go_cut [4, 5] (fun n t5 W => n = .int .i64 nn ∧ ∃ b, t5 = .pointer (some ⟨b, 0, none⟩) ∧ W.cell? ⟨b, 0, none⟩ = some (.int .u64 (keyOf s : Nat)) ∧ w1.heap.size ≤ b ∧ w1.grownBy W none)
  case first =>
    go_region_held3 (fun w' => w'.cell? ⟨q, 0, none⟩ = some (.int .i64 m) ∧ w'.cell? ⟨q, 1, none⟩ = some (.int .i64 M) ∧ w'.cell? ⟨q, 2, none⟩ = some (.int .u64 s))
      (first | exact ⟨e0, e1, e2⟩ | exact HT.out _ (by repeat (first | assumption | exact grown_refl _ _ | refine grown_drew1 ?_ | refine grown_trans ?_ (grown_alloc _ _ _) | refine grown_own ?_ (An.agrown_set _ _ _ _) (by simp; try omega))))
      (first
      | (go_at_call 73; refine (HL.out _).mono ?_; rintro e w3 ⟨rfl, mm⟩; have hg2 := grown_trans (show w1.grownBy _ none from (by repeat (first | assumption | exact grown_refl _ _ | refine grown_drew1 ?_ | refine grown_trans ?_ (grown_alloc _ _ _) | refine grown_own ?_ (An.agrown_set _ _ _ _) (by simp; try omega)))) mm; (try have hz : w3.cell? ⟨w1.heap.size, 0, none⟩ = some (.int .u64 0) := mm.cell (by first | (simp; done) | (rw [show ((w1.alloc (.cells #[.int .u64 0] 107)).drew).cell? = (w1.alloc (.cells #[.int .u64 0] 107)).cell? from rfl, cell_alloc_new]; rfl)) (by simp)); (try have hzf : ∀ k, w3.frozen? ⟨w1.heap.size, k, none⟩ = false := fun k => by rw [World.frozen?_of_block (mm.block w1.heap.size (by simp) (by simp))]; first | (simp; done) | exact frozen_alloc_new w1 #[.int .u64 0] 107 k); clear mm))
    all_goals
      go_wp2
      go_meet
      first
      | exact ⟨rfl, w3.heap.size, rfl, by rw [cell_alloc_new]; rfl, hg2.size, grown_trans hg2 (grown_alloc _ _ _)⟩
      | exact ⟨rfl, w1.heap.size, rfl, World.cell?_setCell_same' _ _ _ (by rw [hz]; rfl), Nat.le_refl _, grown_own hg2 (An.agrown_set _ _ _ _) (Nat.le_refl _)⟩
  case rest =>
    obtain ⟨rfl, b, rfl, hb, hbs, hg⟩ := hcut
    obtain ⟨w2, rfl⟩ : ∃ w2 : World, w2 = wc := ⟨_, rfl⟩
    obtain ⟨e0, e1, e2⟩ := HT.out _ hg
    have HQ := Lib.hid (And.intro e0 (And.intro e1 (And.intro e2 hb)))
    have HB := Lib.hid hbs
    have HG2 := Lib.hid (grown_trans HG.out hg)
    have HA : Hid (Calls Tryz.prog 74 #[.int .i64 nn] w2 fun e w' => An.AMade w2 w' ((m + M) * 256) (fun _ => 0) e) := Lib.hid (An.anew_at nn (m + M) w2 HN.out.1 (.inr (.inl ⟨by have := HNN2.out; omega, hn, HNN2.out⟩)))
    clear HT hg hg1 HL HG hbs hb e0 e1 e2 hs hwr
    go_wp2_with fail
    refine HA.out.mono ?_
    rintro e w3 ⟨pa, qa, acap, rfl, ha, ha1, ha2, hg⟩
    have HAR := Lib.hid ha
    have HA12 := Lib.hid (And.intro ha1 ha2)
    have HG3 := Lib.hid (grown_trans HG2.out hg)
    have HGW := Lib.hid HG2.out
    have HQ3 : Hid (∀ W, w3.grownBy W none → W.cell? ⟨q, 0, none⟩ = some (.int .i64 m) ∧ W.cell? ⟨q, 1, none⟩ = some (.int .i64 M) ∧ W.cell? ⟨q, 2, none⟩ = some (.int .u64 s) ∧ W.cell? ⟨b, 0, none⟩ = some (.int .u64 (keyOf s : Nat))) := Lib.hid (fun W g1 => ⟨g1.cell (hg.cell HQ.out.1 (by simp)) (by simp), g1.cell (hg.cell HQ.out.2.1 (by simp)) (by simp), g1.cell (hg.cell HQ.out.2.2.1 (by simp)) (by simp), g1.cell (hg.cell HQ.out.2.2.2 (by simp)) (by simp)⟩)
    have HPN : Hid (∀ W, Calls Tryz.prog 75 #[.int .i64 nn] W fun e w' => Pt.PMade W w' (m + M) (fun _ => Pg.zero) e) := Lib.hid (fun W => by have := Pt.pnew_mid (m + M) W HN.out.1; rw [HNN2.out] at this; exact this)
    have HLN := Lib.hid (fun W (g1 : w3.grownBy W none) => lnew_at (HAR.out.grown g1 (by simp) (by simp)) (keyOf_lt s))
    obtain ⟨e0, e1, e2, e3⟩ := HQ3.out _ (grown_refl w3 none)
    clear ha ha1 ha2 hg HA HQ
    have hmmk := @run_makeMap Tryz.prog
    have hg1 := grown_drew1 (grown_refl w3 none)
    go_upto_region 5 with (fail)
    go_region_held3 (fun w' => w'.cell? ⟨q, 0, none⟩ = some (.int .i64 m) ∧ w'.cell? ⟨q, 1, none⟩ = some (.int .i64 M) ∧ w'.cell? ⟨q, 2, none⟩ = some (.int .u64 s) ∧ w'.cell? ⟨b, 0, none⟩ = some (.int .u64 (keyOf s : Nat)))
      (first | exact ⟨e0, e1, e2, e3⟩ | exact HQ3.out _ (by repeat (first | assumption | exact grown_refl _ _ | refine grown_drew1 ?_ | refine grown_trans ?_ (grown_alloc _ _ _) | refine grown_own ?_ (An.agrown_set _ _ _ _) (by simp; try omega))))
      (first
      | (go_at_call 75; refine (HPN.out _).mono ?_; rintro e w4 ⟨pt, qt, tcap, rfl, p1, p2, p3, p4⟩; have hgp := grown_trans (show w3.grownBy _ none from (by repeat (first | assumption | exact grown_refl _ _ | refine grown_drew1 ?_ | refine grown_trans ?_ (grown_alloc _ _ _) | refine grown_own ?_ (An.agrown_set _ _ _ _) (by simp; try omega)))) p4)
      | (go_at_call 76; refine (HLN.out _ (by repeat (first | assumption | exact grown_refl _ _ | refine grown_drew1 ?_ | refine grown_trans ?_ (grown_alloc _ _ _) | refine grown_own ?_ (An.agrown_set _ _ _ _) (by simp; try omega)))).mono ?_; rintro e w5 ⟨pg, mg, rfl, l1, l2, l3, l4⟩; have hgl := grown_trans (show w3.grownBy _ none from (by repeat (first | assumption | exact grown_refl _ _ | refine grown_drew1 ?_ | refine grown_trans ?_ (grown_alloc _ _ _) | refine grown_own ?_ (An.agrown_set _ _ _ _) (by simp; try omega)))) l4))
    all_goals
      have h0 := HN.out
      have ar3 := HAR.out
      have s3 := HG3.out.size
      have x1 := ar3.plt
      have x2 := ar3.b.qlt
      have x3 := ar3.ne
      have x4 := p1.plt
      have x5 := p1.rows.qlt
      have x6 := p1.ne
      have x7 := World.block_lt_of_cell? w5 ⟨pg, 0, none⟩ l1.c0
      have x8 := l1.map.lt
      have x9 := l1.ap.2.1
      have s4 := hgp.size
      have s5 := l4.size
      have y := HA12.out
      have y2 := HGW.out.size
      have hsz : ∀ W : World, W.drew.heap.size = W.heap.size := fun _ => rfl
      have hal : ∀ (W : World) o, (W.alloc o).heap.size = W.heap.size + 1 := fun W o => by simp
      have s6 := p4.size
      simp only [hsz, hal] at p2 p3 l2 l3 s5 s6
      clear hsz hal
      go_wp2
      go_ret2
      first
      | exact rn_made h0.1 h0.2 (grown_trans HG3.out hgl) (ar3.grown hgl (by simp) (by simp)) (p1.grown (grown_trans (grown_alloc _ _ _) l4) (by simp) (by simp)) ((World.ownsMap_made w4 _ _ _).kept l4 (by simp)) l1 ⟨by omega, by omega, by omega, by omega, by omega, by omega, by omega⟩
      | exact rn_made h0.1 h0.2 (grown_trans HG3.out hgl) (ar3.grown hgl (by simp) (by simp)) (p1.grown l4 (by simp) (by simp)) ((World.ownsMap_made w3 _ _ _).kept (grown_trans (show (w3.alloc (.map #[] 0)).grownBy w4 none from ⟨p4.os, p4.tape, p4.output, p4.size, p4.block⟩) l4) (by simp)) l1 ⟨by omega, by omega, by omega, by omega, by omega, by omega, by omega⟩
      | (have hx := rn_made h0.1 h0.2 (grown_trans (grown_trans HG3.out hgl) (grown_alloc _ _ none)) ((ar3.grown hgl (by simp) (by simp)).grown (grown_alloc _ _ none) (by simp) (by simp)) ((p1.grown l4 (by simp) (by simp)).grown (grown_alloc _ _ none) (by simp) (by simp)) (World.ownsMap_made w5 _ _ _) (l1.grown (grown_alloc _ _ none)) ⟨by omega, by rw [show (w5.alloc (.map #[] 0)).heap.size = w5.heap.size + 1 by simp]; omega, by omega, by omega, by omega, by omega, by omega⟩; rw [show (w5.alloc (.map #[] 0)).heap.size = w5.heap.size + 1 by simp] at hx; exact hx)
end Go.Proofs.YtgnfcklippjeeaaGreat

/- The walks of what a nil region answers, of Config, Arena, Pages; chapter 9's example; the walk of RegionNew. -/
namespace Go.Proofs.YtgnfcklippjeeaaGreat
open Go.RowKit
open Go.Maps (Keyed)
open Sl (Cls bs upd FOk LnkIs)
open Lg (pgs)

set_option maxRecDepth 100000 in
set_option maxHeartbeats 1000000 in
theorem rnil_open (c o : Int) (w : World) : Calls Tryz.prog 28 #[.pointer none, .int .i64 c, .int .i64 o] w fun e w' => e = .returned (.tuple #[.int .i64 0, .int .i64 2]) ∧ w.grownBy w' none := by
  go_enter Tryz.func28, Tryz.ntmps28
  go_wp2
  go_ret2
  exact ⟨rfl, grown_refl _ _⟩
set_option maxRecDepth 100000 in
set_option maxHeartbeats 1000000 in
theorem rnil_take (p : Int) (w : World) : Calls Tryz.prog 29 #[.pointer none, .int .i64 p] w fun e w' => e = .returned (.tuple #[.int .i64 0, .int .i64 2]) ∧ w.grownBy w' none := by
  go_enter Tryz.func29, Tryz.ntmps29
  go_wp2
  go_ret2
  exact ⟨rfl, grown_refl _ _⟩
set_option maxRecDepth 100000 in
set_option maxHeartbeats 1000000 in
theorem rnil_drop (a : Int) (w : World) : Calls Tryz.prog 17 #[.pointer none, .int .i64 a] w fun e w' => e = .returned (.tuple #[.bool false, .int .i64 2]) ∧ w.grownBy w' none := by
  go_enter Tryz.func17, Tryz.ntmps17
  go_wp2
  go_ret2
  exact ⟨rfl, grown_refl _ _⟩
set_option maxRecDepth 100000 in
set_option maxHeartbeats 1000000 in
theorem rnil_give (a : Int) (w : World) : Calls Tryz.prog 18 #[.pointer none, .int .i64 a] w fun e w' => e = .returned (.int .i64 2) ∧ w.grownBy w' none := by
  go_enter Tryz.func18, Tryz.ntmps18
  go_wp2
  go_ret
  exact ⟨rfl, grown_refl _ _⟩
set_option maxRecDepth 100000 in
set_option maxHeartbeats 1000000 in
theorem rnil_shut (a : Int) (w : World) : Calls Tryz.prog 19 #[.pointer none, .int .i64 a] w fun e w' => e = .returned (.int .i64 2) ∧ w.grownBy w' none := by
  go_enter Tryz.func19, Tryz.ntmps19
  go_wp2
  go_ret
  exact ⟨rfl, grown_refl _ _⟩
set_option maxRecDepth 100000 in
set_option maxHeartbeats 1000000 in
theorem rnil_great (a : Int) (w : World) : Calls Tryz.prog 30 #[.pointer none, .int .i64 a] w fun e w' => e = .returned (.tuple #[.int .i64 0, .int .i64 2]) ∧ w.grownBy w' none := by
  go_enter Tryz.func30, Tryz.ntmps30
  go_wp2
  go_ret2
  exact ⟨rfl, grown_refl _ _⟩
set_option maxRecDepth 100000 in
set_option maxHeartbeats 1000000 in
theorem rnil_owner (a : Int) (w : World) : Calls Tryz.prog 32 #[.pointer none, .int .i64 a] w fun e w' => e = .returned (.int .i64 0) ∧ w.grownBy w' none := by
  go_enter Tryz.func32, Tryz.ntmps32
  go_wp2
  go_ret
  exact ⟨rfl, grown_refl _ _⟩
set_option maxRecDepth 100000 in
set_option maxHeartbeats 1000000 in
theorem rnil_slots (a : Int) (w : World) : Calls Tryz.prog 63 #[.pointer none, .int .i64 a] w fun e w' => e = .returned (.pointer none) ∧ w.grownBy w' none := by
  go_enter Tryz.func63, Tryz.ntmps63
  go_wp2
  go_ret
  exact ⟨rfl, grown_refl _ _⟩
set_option maxRecDepth 100000 in
set_option maxHeartbeats 1000000 in
theorem rnil_arena (w : World) : Calls Tryz.prog 13 #[.pointer none] w fun e w' => e = .returned (.pointer none) ∧ w.grownBy w' none := by
  go_enter Tryz.func13, Tryz.ntmps13
  go_wp2
  go_ret
  exact ⟨rfl, grown_refl _ _⟩
set_option maxRecDepth 100000 in
set_option maxHeartbeats 1000000 in
theorem rnil_pages (w : World) : Calls Tryz.prog 20 #[.pointer none] w fun e w' => e = .returned (.pointer none) ∧ w.grownBy w' none := by
  go_enter Tryz.func20, Tryz.ntmps20
  go_wp2
  go_ret
  exact ⟨rfl, grown_refl _ _⟩
set_option maxRecDepth 100000 in
set_option maxHeartbeats 1000000 in
theorem rnil_check (w : World) : Calls Tryz.prog 15 #[.pointer none] w fun e w' => e = .returned (.int .i64 2) ∧ w.grownBy w' none := by
  go_enter Tryz.func15, Tryz.ntmps15
  go_wp2
  go_ret
  exact ⟨rfl, grown_refl _ _⟩
set_option maxRecDepth 100000 in
set_option maxHeartbeats 1000000 in
theorem rnil_config (w : World) : Calls Tryz.prog 25 #[.pointer none] w fun e w' => e = .returned (.agg #[.int .i64 0, .int .i64 0, .int .u64 0]) ∧ w.grownBy w' none := by
  go_enter Tryz.func25, Tryz.ntmps25
  go_wp2
  exact bodyPost_ret (v := .agg #[.int .i64 0, .int .i64 0, .int .u64 0]) (by simp [results, Tryz.results25, go_sem]) rfl ⟨rfl, grown_alloc _ _ _⟩
set_option maxRecDepth 100000 in
set_option maxHeartbeats 1000000 in
theorem rnil_find (a : Int) (w : World) : Calls Tryz.prog 27 #[.pointer none, .int .i64 a] w fun e w' => e = .returned (fndV none) ∧ w.grownBy w' none := by
  go_enter Tryz.func27, Tryz.ntmps27
  go_wp2
  exact bodyPost_ret (v := fndV none) (by simp [results, Tryz.results27, go_sem, fndV, pc0]) rfl ⟨rfl, grown_alloc _ _ _⟩
set_option maxRecDepth 100000 in
set_option maxHeartbeats 1000000 in
theorem rnil_count (a x : Int) (w : World) : Calls Tryz.prog 33 #[.pointer none, .int .i64 a, .int .i64 x] w fun e w' => e = .returned (.int .i64 0) ∧ w.grownBy w' none := by
  go_enter Tryz.func33, Tryz.ntmps33
  go_wp2_with fail
  refine (rnil_slots a w).mono ?_
  rintro e w1 ⟨rfl, m1⟩
  go_wp2_with fail
  refine (count_nil x _).mono ?_
  rintro e w2 ⟨rfl, rfl⟩
  go_wp2
  go_ret
  exact ⟨rfl, m1⟩
theorem cfg_field0 (a b c : Int) (w : World) : (Instr.field 60 (.agg #[.int .i64 a, .int .i64 b, .int .u64 c]) 0).run Tryz.prog w = .ok (.int .i64 a) w := by kernel_rfl
set_option maxRecDepth 100000 in
set_option maxHeartbeats 1000000 in
theorem rnil_home (c o : Int) (w : World) : Calls Tryz.prog 31 #[.pointer none, .int .i64 c, .int .i64 o] w fun e w' => e = .returned (.tuple #[.int .i64 0, .bool false]) ∧ w.grownBy w' none := by
  go_enter Tryz.func31, Tryz.ntmps31
  have hfd := cfg_field0 0 0 0
  go_wp2_with fail
  refine (rnil_config w).mono ?_
  rintro e w1 ⟨rfl, m1⟩
  have HG := Lib.hid m1
  clear m1
  go_wp2_with fail
  go_loop [8, 12] (fun c i => i = .int .i64 0) (fun _ _ => 0)
  case atStart => rfl
  case round =>
    obtain rfl := hrel
    go_wp2
    go_ret2
    exact ⟨rfl, HG.out⟩
set_option maxRecDepth 100000 in
set_option maxHeartbeats 1000000 in
theorem rnil_live (w : World) : Calls Tryz.prog 12 #[.pointer none] w fun e w' => e = .returned (.slice none 0 0) ∧ w.grownBy w' none := by
  go_enter Tryz.func12, Tryz.ntmps12
  have hfd := cfg_field0 0 0 0
  go_wp2_with fail
  refine (rnil_config w).mono ?_
  rintro e w1 ⟨rfl, m1⟩
  have HG := Lib.hid m1
  clear m1
  go_wp2_with fail
  go_loop [3, 4, 8] (fun l c i => i = .int .i64 0 ∧ l = .slice none 0 0) (fun _ _ _ => 0)
  case atStart => exact ⟨rfl, rfl⟩
  case round =>
    obtain ⟨rfl, rfl⟩ := hrel
    go_wp2
    go_ret
    exact ⟨rfl, HG.out⟩
set_option maxRecDepth 100000 in
set_option maxHeartbeats 1000000 in
theorem config_at {w : World} {A : Rp} {V : St} {cnt : Nat} (h : RnW w A V cnt) : Calls Tryz.prog 25 #[.pointer (some ⟨A.p, 0, none⟩)] w fun e w' => e = .returned (.agg #[.int .i64 (V.m : Nat), .int .i64 ((V.n : Int) - (V.m : Int)), .int .u64 (A.seed : Nat)]) ∧ w.grownBy w' none := by
  have g0 := grown_alloc w (.cells #[.int .i64 0, .int .i64 0, .int .u64 0] 60) none
  have c0 := (h.grown g0).c0
  have c1 := (h.grown g0).c1
  have c2 := (h.grown g0).c2
  clear h g0
  generalize ((V.n : Int) - (V.m : Int)) = z at *
  go_enter Tryz.func25, Tryz.ntmps25
  go_wp2
  exact bodyPost_ret (v := .agg #[.int .i64 (V.m : Nat), .int .i64 z, .int .u64 (A.seed : Nat)]) (by simp [results, Tryz.results25, go_sem]) rfl ⟨rfl, grown_alloc _ _ _⟩
set_option maxRecDepth 100000 in
set_option maxHeartbeats 1000000 in
theorem arena_at {w : World} {A : Rp} {V : St} {cnt : Nat} (h : RnW w A V cnt) : Calls Tryz.prog 13 #[.pointer (some ⟨A.p, 0, none⟩)] w fun e w' => e = .returned (.pointer (some ⟨A.pa, 0, none⟩)) ∧ w = w' := by
  have c3 := h.c3
  clear h
  go_enter Tryz.func13, Tryz.ntmps13
  go_wp2
  go_ret
  exact ⟨rfl, rfl⟩
set_option maxRecDepth 100000 in
set_option maxHeartbeats 1000000 in
theorem pages_at {w : World} {A : Rp} {V : St} {cnt : Nat} (h : RnW w A V cnt) : Calls Tryz.prog 20 #[.pointer (some ⟨A.p, 0, none⟩)] w fun e w' => e = .returned (.pointer (some ⟨A.pt, 0, none⟩)) ∧ w = w' := by
  have c4 := h.c4
  clear h
  go_enter Tryz.func20, Tryz.ntmps20
  go_wp2
  go_ret
  exact ⟨rfl, rfl⟩
def partsB (m M : Int) : Bool := (decide (0 ≤ m) && (decide (0 ≤ M) && (decide (m ≤ 256) && (decide (M ≤ 256) && (decide (1 ≤ m + M) && decide (m + M ≤ 256))))))
theorem partsB_iff (m M : Int) : partsB m M = true ↔ Parts m M := by
  unfold partsB Parts
  simp only [Bool.and_eq_true, decide_eq_true_eq]
  omega
set_option maxRecDepth 100000 in
set_option maxHeartbeats 1000000 in
theorem rmay_at (m M : Int) (w : World) (hm : WF m) (hM : WF M) : Calls Tryz.prog 23 #[.int .i64 m, .int .i64 M] w fun e w' => e = .returned (.bool (partsB m M)) ∧ w = w' := by
  unfold WF at hm hM
  have body : ∀ b : Bool, ((decide (0 ≤ m) && (decide (0 ≤ M) && (decide (m ≤ 256) && (decide (M ≤ 256) && (decide (1 ≤ m + M) && decide (m + M ≤ 256)))))) = b) → Calls Tryz.prog 23 #[.int .i64 m, .int .i64 M] w fun e w' => e = .returned (.bool b) ∧ w = w' := by
    intro b hb
    by_cases h1 : 0 ≤ m
    · by_cases h2 : 0 ≤ M
      · by_cases h3 : m ≤ 256
        · by_cases h4 : M ≤ 256
          · have h7 : IntKind.i64.wrap (m + M) = m + M := by rw [IntKind.wrap_i64]; omega
            by_cases h5 : 1 ≤ m + M
            · have HB := Lib.hid (show decide (m + M ≤ 256) = b by simpa [h1, h2, h3, h4, h5] using hb)
              clear hb hm hM
              go_enter Tryz.func23, Tryz.ntmps23
              go_wp2
              go_ret
              exact ⟨ret_bool HB.out, rfl⟩
            · have HB := Lib.hid (show false = b by simpa [h1, h2, h3, h4, h5] using hb)
              have d5 : decide (1 ≤ m + M) = false := by simpa using h5
              clear hb hm hM h5
              go_enter Tryz.func23, Tryz.ntmps23
              go_wp2
              go_ret
              exact ⟨ret_bool HB.out, rfl⟩
          · have HB := Lib.hid (show false = b by simpa [h1, h2, h3, h4] using hb)
            have d5 : decide (M ≤ 256) = false := by simpa using h4
            clear hb hm hM h4
            go_enter Tryz.func23, Tryz.ntmps23
            go_wp2
            go_ret
            exact ⟨ret_bool HB.out, rfl⟩
        · have HB := Lib.hid (show false = b by simpa [h1, h2, h3] using hb)
          have d5 : decide (m ≤ 256) = false := by simpa using h3
          clear hb hm hM h3
          go_enter Tryz.func23, Tryz.ntmps23
          go_wp2
          go_ret
          exact ⟨ret_bool HB.out, rfl⟩
      · have HB := Lib.hid (show false = b by simpa [h1, h2] using hb)
        have d5 : decide (0 ≤ M) = false := by simpa using h2
        clear hb hm hM h2
        go_enter Tryz.func23, Tryz.ntmps23
        go_wp2
        go_ret
        exact ⟨ret_bool HB.out, rfl⟩
    · have HB := Lib.hid (show false = b by simpa [h1] using hb)
      have d5 : decide (0 ≤ m) = false := by simpa using h1
      clear hb hm hM h1
      go_enter Tryz.func23, Tryz.ntmps23
      go_wp2
      go_ret
      exact ⟨ret_bool HB.out, rfl⟩
  exact body _ rfl
end Go.Proofs.YtgnfcklippjeeaaGreat

/- Chapter 9's example, and the walk of RegionNew. -/
namespace Go.Proofs.YtgnfcklippjeeaaGreat
open Go.RowKit
open Go.Maps (Keyed)
open Sl (Cls bs upd FOk LnkIs)
open Lg (pgs)

/-- A region that is at hand, all of it younger than a world. -/
structure RnY (w0 w : World) (A : Rp) (V : St) (cnt : Nat) : Prop where
  at_ : RnAt w A V cnt
  may : ∀ i, A.may V.L i → w0.heap.size ≤ i
  all : w0.grownBy w none
theorem RnY.grown {w0 w w' : World} {A : Rp} {V : St} {cnt : Nat} (h : RnY w0 w A V cnt) (hg : w.grownBy w' none) : RnY w0 w' A V cnt := ⟨h.at_.grown hg, h.may, grown_trans h.all hg⟩
theorem RnY.step {w0 w w' : World} {A A' : Rp} {V V' : St} {cnt cnt' : Nat} (h : RnY w0 w A V cnt) (hr : RnAt w' A' V' cnt') (hf : Fr (A.may V.L) w w') (hm : ∀ i, A'.may V'.L i → A.may V.L i ∨ w.heap.size ≤ i) : RnY w0 w' A' V' cnt' :=
  ⟨hr, fun i hi => (hm i hi).elim (h.may i) (Nat.le_trans h.all.size), hf.grown h.all (fun i hi hx => by have := h.may i hx; omega)⟩
theorem may_set {A : Rp} {V : St} {g i : Nat} {d d' : Sd} (hl : V.L g = some d) (h : A.may (V.set g (some d')) i) : A.may V.L i := by
  rcases h with h | h | h | h | ⟨k, e, hk, hi⟩
  · exact .inl h
  · exact .inr (.inl h)
  · exact .inr (.inr (.inl h))
  · exact .inr (.inr (.inr (.inl h)))
  · by_cases x : k = g
    · subst x; exact .inr (.inr (.inr (.inr ⟨k, d, hl, hi⟩)))
    · rw [St.set_other x] at hk; exact .inr (.inr (.inr (.inr ⟨k, e, hk, hi⟩)))
theorem may_unset {A : Rp} {V : St} {g i : Nat} (h : A.may (V.set g none) i) : A.may V.L i := by
  rcases h with h | h | h | h | ⟨k, e, hk, hi⟩
  · exact .inl h
  · exact .inr (.inl h)
  · exact .inr (.inr (.inl h))
  · exact .inr (.inr (.inr (.inl h)))
  · by_cases x : k = g
    · subst x; rw [St.set_same] at hk; cases hk
    · rw [St.set_other x] at hk; exact .inr (.inr (.inr (.inr ⟨k, e, hk, hi⟩)))
theorem RnY.open_ {w0 w w' : World} {A : Rp} {V : St} {cnt p c s n r o : Nat} (h : RnY w0 w A V cnt) (ho : OpenRes w w' A V cnt p c s n r o) : ∃ X, RnY w0 w' (A.with p X) (V.open_ p c s n r o) (cnt + 1) := by
  obtain ⟨X, h1, h2, h3⟩ := ho
  exact ⟨X, h.step h1 h2 (fun i hi => with_may h3 hi)⟩
theorem rnew_y {w w' : World} {m M s : Nat} {e : Ending} (h : RnMade w w' m M s e) : ∃ A : Rp, e = .returned (.tuple #[.pointer (some ⟨A.p, 0, none⟩), .int .i64 0]) ∧ RnY w w' A (St.new m (m + M) (keyOf s)) 0 ∧ w.heap.size ≤ A.p := by
  obtain ⟨A, h1, h2, h3, h4, h5⟩ := h
  exact ⟨A, h1, ⟨h2, h5, h3⟩, h4⟩
theorem RnY.take {w0 w : World} {A : Rp} {V : St} {cnt g k : Nat} {d : Sd} {x : Int} (h : RnY w0 w A V cnt) (hl : V.L g = some d) (hf : d.f = (k : Int)) (hk : k < d.n) (h0 : d.S k = 0) (hx : LnkIs V.key g d.s d.n d.S V.B k x) (h2 : x ≠ -2) :
    Calls Tryz.prog 29 #[.pointer (some ⟨A.p, 0, none⟩), .int .i64 g] w fun e w' => e = .returned (.tuple #[.int .i64 (bs g d.s k : Nat), .int .i64 0]) ∧ RnY w0 w' A (V.take g d k x) cnt :=
  (rtake_ok h.at_ hl hf hk h0 hx h2).mono fun _ _ ⟨he, hr, hfr⟩ => ⟨he, h.step hr hfr (fun _ hi => .inl (may_set hl hi))⟩

/-! The first two slots of a new page of slots of class 1. -/
def d1 (o : Nat) : Sd := ⟨1, 32, 8, 24, o, fun _ => 0, 0⟩
theorem cls1 : Cls 1 32 8 24 := .inr (.inl ⟨rfl, rfl, rfl, rfl⟩)
theorem place0 {m n key : Nat} (hm : 1 ≤ m) (hn : m ≤ n) : (St.new m n key).Place 1 ((0 : Nat) : Int) :=
  .inl ⟨0, rfl, fun i _ h2 => ⟨by show i < n; omega, by omega, by show (i : Int) < (m : Nat); omega, rfl⟩, fun j hj => by omega⟩
theorem open_L (V : St) (p c s n r o : Nat) : (V.open_ p c s n r o).L p = some ⟨c, s, n, r, o, fun _ => 0, 0⟩ := St.set_same V p _
theorem take_L (V : St) (g : Nat) (d : Sd) (k : Nat) (x : Int) : (V.take g d k x).L g = some { d with S := upd d.S k 1, f := x } := St.set_same V g _
theorem link0 (V : St) (o : Nat) : LnkIs V.key 0 32 8 (fun _ => 0) (V.open_ 0 1 32 8 24 o).B 0 1 :=
  .inr (.inl ⟨1, by omega, rfl, by omega, rfl, Sl.layF_word (g := 0) (k := 0) cls1 (by omega) (by omega)⟩)
theorem link1 (V : St) (o : Nat) : LnkIs V.key 0 32 8 (upd (fun _ => 0) 0 1) ((V.open_ 0 1 32 8 24 o).take 0 (d1 o) 0 1).B 1 2 := by
  refine .inr (.inl ⟨2, by omega, rfl, by omega, rfl, ?_⟩)
  have e : Ar.wordAt ((V.open_ 0 1 32 8 24 o).take 0 (d1 o) 0 1).B (bs 0 32 1) = Ar.wordAt (V.open_ 0 1 32 8 24 o).B (bs 0 32 1) :=
    Ar.wordAt_congr (fun i h1 h2 => Sl.takeB_out cls1 (.inr (by simp only [bs] at *; show bs 0 32 0 + 32 ≤ i; simp only [bs]; omega)))
  rw [e]
  exact Sl.layF_word (g := 0) (k := 1) cls1 (by omega) (by omega)
set_option maxRecDepth 100000 in
set_option maxHeartbeats 2000000 in
theorem awake9_at (w : World) :
    Calls Tryz.prog 16 #[] w fun e w' => e = .returned (.bool true) ∧ w.grownBy w' none := by
  have HN : Hid (Calls Tryz.prog 22 #[.agg #[.int .i64 2, .int .i64 0, .int .u64 0]] w fun e w' => RnMade w w' 2 0 0 e) := Lib.hid (rgnew_yes (m := 2) (M := 0) 0 w ⟨by omega, by omega, by omega, by omega⟩)
  go_enter Tryz.func16, Tryz.ntmps16
  go_wp2_with fail
  refine HN.out.mono ?_
  rintro e w1 hm
  obtain ⟨A, rfl, hy, _⟩ := rnew_y hm
  have HY := Lib.hid hy
  clear hm hy HN
  generalize keyOf 0 = key at *
  have HO : Hid (Calls Tryz.prog 28 #[.pointer (some ⟨A.p, 0, none⟩), .int .i64 1, .int .i64 3] w1 fun e w' => e = .returned (.tuple #[.int .i64 0, .int .i64 0]) ∧ OpenRes w1 w' A (St.new 2 2 key) 0 0 1 32 8 24 3) :=
    Lib.hid (ropen_ok (c := 1) (o := 3) HY.out.at_ cls1 (by omega) (place0 (by omega) (by omega)) (by omega))
  go_wp2_with fail
  refine HO.out.mono ?_
  rintro e w2 ⟨rfl, ho⟩
  obtain ⟨X, hy⟩ := HY.out.open_ ho
  have HY2 := Lib.hid hy
  have hp : (A.with 0 X).p = A.p := rfl
  clear ho hy HY HO
  have HT : Hid (Calls Tryz.prog 29 #[.pointer (some ⟨A.p, 0, none⟩), .int .i64 0] w2 fun e w' => e = .returned (.tuple #[.int .i64 0, .int .i64 0]) ∧ RnY w w' (A.with 0 X) (((St.new 2 2 key).open_ 0 1 32 8 24 3).take 0 (d1 3) 0 1) 1) :=
    Lib.hid (HY2.out.take (g := 0) (k := 0) (d := d1 3) (x := 1) (open_L _ _ _ _ _ _ _) rfl (by show 0 < 8; omega) rfl (link0 _ _) (by omega))
  go_wp2_with fail
  refine HT.out.mono ?_
  rintro e w3 ⟨rfl, hy⟩
  have HY3 := Lib.hid hy
  clear hy HT HY2
  have HT : Hid (Calls Tryz.prog 29 #[.pointer (some ⟨A.p, 0, none⟩), .int .i64 0] w3 fun e w' => e = .returned (.tuple #[.int .i64 32, .int .i64 0]) ∧ RnY w w' (A.with 0 X) ((((St.new 2 2 key).open_ 0 1 32 8 24 3).take 0 (d1 3) 0 1).take 0 { d1 3 with S := upd (fun _ => 0) 0 1, f := 1 } 1 2) 1) :=
    Lib.hid (HY3.out.take (g := 0) (k := 1) (d := { d1 3 with S := upd (fun _ => 0) 0 1, f := 1 }) (x := 2) (take_L _ _ _ _ _) rfl (by show 1 < 8; omega) rfl (link1 _ _) (by omega))
  go_wp2_with fail
  refine HT.out.mono ?_
  rintro e w4 ⟨rfl, hy⟩
  have HY4 := Lib.hid hy
  clear hy HT HY3
  have HF : Hid (Calls Tryz.prog 27 #[.pointer (some ⟨A.p, 0, none⟩), .int .i64 40] w4 fun e w' => e = .returned (.tuple #[.agg #[.int .i64 0, .int .i64 1, .int .i64 32, .int .i64 24, .int .i64 1, .bool false], .bool true]) ∧ w4.grownBy w' none) :=
    Lib.hid (find_at HY4.out.at_ (.slot 0 _ 40 rfl (by omega) (by show 0 < 2; omega) (take_L _ _ _ _ _)))
  go_wp2_with fail
  refine HF.out.mono ?_
  rintro e w5 ⟨rfl, hg⟩
  have HE := Lib.hid (grown_trans (grown_trans HY4.out.all hg) (grown_alloc _ (.cells #[.int .i64 0, .int .i64 1, .int .i64 32, .int .i64 24, .int .i64 1, .bool false] 37) _))
  clear hg HF HY4
  go_wp2
  go_ret
  exact ⟨rfl, HE.out⟩
set_option maxRecDepth 100000 in
set_option maxHeartbeats 4000000 in
theorem regionNew_walk (m M a : Int) (w : World) (hm : WF m) (hM : WF M) :
    Calls Tryz.prog 5 #[.int .i64 m, .int .i64 M, .int .i64 a] w fun e w' => e = .returned (.bool true) ∧ w.grownBy w' none := by
  have hmay := fun W => rmay_at m M W hm hM
  by_cases hp : Parts m M
  · rw [(partsB_iff m M).2 hp] at hmay
    have HM := Lib.hid hmay
    obtain ⟨k, hk⟩ : ∃ k : Nat, m = k := ⟨m.toNat, by have := hp.1; omega⟩
    obtain ⟨l, hl⟩ : ∃ l : Nat, M = l := ⟨M.toNat, by have := hp.2.1; omega⟩
    subst hk
    subst hl
    have HN := Lib.hid (rgnew_yes 0 w hp)
    have hs : ((k : Nat) : Int) + (l : Nat) = ((k + l : Nat) : Int) := by omega
    have h256 : k + l ≤ 256 := by unfold Parts at hp; omega
    have hw1 : IntKind.i64.wrap ((k + l : Nat) : Int) = ((k + l : Nat) : Int) := by rw [IntKind.wrap_i64]; omega
    have hw2 : 256 * ((k + l : Nat) : Int) = (((k + l) * 256 : Nat) : Int) := by omega
    have hw3 : IntKind.i64.wrap (((k + l) * 256 : Nat) : Int) = (((k + l) * 256 : Nat) : Int) := by rw [IntKind.wrap_i64]; omega
    clear hm hM hmay hp h256
    go_enter Tryz.func5, Tryz.ntmps5
    go_wp2_with fail
    refine HN.out.mono ?_
    rintro e w1 hmd
    obtain ⟨A, rfl, hy, _⟩ := rnew_y hmd
    have HY := Lib.hid hy
    clear hmd hy HN
    go_wp2_with fail
    refine (HM.out _).mono ?_
    rintro e w2 ⟨rfl, rfl⟩
    have HAr := Lib.hid (arena_at HY.out.at_.toRnW)
    have HLn := Lib.hid (fun W (g1 : w1.grownBy W none) => An.alen_core A.pa A.qa ((k + l) * 256) A.acap W (HY.out.grown g1).at_.ar.c0)
    have HCf := Lib.hid (config_at HY.out.at_.toRnW)
    have HPg := Lib.hid (fun W (g1 : w1.grownBy W none) => pages_at (HY.out.grown g1).at_.toRnW)
    have HPL := Lib.hid (fun W (g1 : w1.grownBy W none) => Pt.plen_at (HY.out.grown g1).at_.tab)
    have hfd : Hid (∀ b c w, (Instr.field 60 (.agg #[.int .i64 (k : Nat), .int .i64 b, .int .u64 c]) 0).run Tryz.prog w = .ok (.int .i64 (k : Nat)) w) := Lib.hid (fun b c w => cfg_field0 k b c w)
    simp only [St.new] at HCf HPL
    have hfd1 := hfd.out (((k + l : Nat) : Int) - (k : Nat)) (A.seed : Nat)
    generalize (((k + l) * 256 : Nat) : Int) = nb at *
    generalize ((k + l : Nat) : Int) = nn at *
    generalize ((k : Nat) : Int) = kk at *
    generalize ((l : Nat) : Int) = ll at *
    generalize nn - kk = z at *
    generalize ((A.seed : Nat) : Int) = sd at *
    go_wp2_with fail
    refine HAr.out.mono ?_
    rintro e w2 ⟨rfl, rfl⟩
    go_wp2_with fail
    refine (HLn.out _ (grown_refl _ _)).mono ?_
    rintro e w2 ⟨rfl, rfl⟩
    go_wp2_with fail
    refine HCf.out.mono ?_
    rintro e w2 ⟨rfl, g2⟩
    go_wp2_with fail
    refine (HPg.out _ g2).mono ?_
    rintro e w3 ⟨rfl, rfl⟩
    go_wp2_with fail
    refine (HPL.out _ g2).mono ?_
    rintro e w3 ⟨rfl, rfl⟩
    have HG := Lib.hid (grown_trans HY.out.all g2)
    clear g2 HAr HLn HCf HPg HPL HY hfd hfd1
    go_wp2_with fail
    refine (rnil_find a _).mono ?_
    unfold fndV pc0
    simp only []
    rintro e wz ⟨rfl, hg⟩
    have HG := Lib.hid (grown_trans HG.out hg)
    clear hg
    go_wp2_with fail
    refine (rnil_open 0 0 _).mono ?_
    rintro e wz ⟨rfl, hg⟩
    have HG := Lib.hid (grown_trans (grown_trans HG.out (grown_alloc _ _ _)) hg)
    clear hg
    go_wp2_with fail
    refine (rnil_take a _).mono ?_
    rintro e wz ⟨rfl, hg⟩
    have HG := Lib.hid (grown_trans HG.out hg)
    clear hg
    go_wp2_with fail
    refine (rnil_drop a _).mono ?_
    rintro e wz ⟨rfl, hg⟩
    have HG := Lib.hid (grown_trans HG.out hg)
    clear hg
    go_wp2_with fail
    refine (rnil_great a _).mono ?_
    rintro e wz ⟨rfl, hg⟩
    have HG := Lib.hid (grown_trans HG.out hg)
    clear hg
    go_wp2_with fail
    refine (rnil_home 0 0 _).mono ?_
    rintro e wz ⟨rfl, hg⟩
    have HG := Lib.hid (grown_trans HG.out hg)
    clear hg
    go_wp2_with fail
    refine (rnil_give a _).mono ?_
    rintro e wz ⟨rfl, hg⟩
    have HG := Lib.hid (grown_trans HG.out hg)
    clear hg
    go_wp2_with fail
    refine (rnil_shut a _).mono ?_
    rintro e wz ⟨rfl, hg⟩
    have HG := Lib.hid (grown_trans HG.out hg)
    clear hg
    go_wp2_with fail
    refine (rnil_live _).mono ?_
    rintro e wz ⟨rfl, hg⟩
    have HG := Lib.hid (grown_trans HG.out hg)
    clear hg
    go_wp2_with fail
    refine (rnil_owner a _).mono ?_
    rintro e wz ⟨rfl, hg⟩
    have HG := Lib.hid (grown_trans HG.out hg)
    clear hg
    go_wp2_with fail
    refine (rnil_count a 0 _).mono ?_
    rintro e wz ⟨rfl, hg⟩
    have HG := Lib.hid (grown_trans HG.out hg)
    clear hg
    go_wp2_with fail
    refine (rnil_arena _).mono ?_
    rintro e wz ⟨rfl, hg⟩
    have HG := Lib.hid (grown_trans HG.out hg)
    clear hg
    go_wp2_with fail
    refine (rnil_pages _).mono ?_
    rintro e wz ⟨rfl, hg⟩
    have HG := Lib.hid (grown_trans HG.out hg)
    clear hg
    go_wp2_with fail
    refine (rnil_check _).mono ?_
    rintro e wz ⟨rfl, hg⟩
    have HG := Lib.hid (grown_trans HG.out hg)
    clear hg
    go_wp2_with fail
    refine (awake9_at _).mono ?_
    rintro e wz ⟨rfl, hg⟩
    have HG := Lib.hid (grown_trans HG.out hg)
    clear hg
    go_wp2
    go_ret
    exact ⟨rfl, HG.out⟩
  · have hpb : partsB m M = false := by
      cases h : partsB m M with
      | false => rfl
      | true => exact absurd ((partsB_iff m M).1 h) hp
    rw [hpb] at hmay
    have HM := Lib.hid hmay
    have HN := Lib.hid (rgnew_no 0 w hm hp)
    clear hm hM hmay hp hpb
    go_enter Tryz.func5, Tryz.ntmps5
    go_wp2_with fail
    refine HN.out.mono ?_
    rintro e w1 ⟨rfl, hg⟩
    have HG := Lib.hid hg
    clear hg HN
    go_wp2_with fail
    refine (HM.out _).mono ?_
    rintro e w2 ⟨rfl, rfl⟩
    go_wp2_with fail
    refine (rnil_find a _).mono ?_
    unfold fndV pc0
    simp only []
    rintro e wz ⟨rfl, hg⟩
    have HG := Lib.hid (grown_trans HG.out hg)
    clear hg
    go_wp2_with fail
    refine (rnil_open 0 0 _).mono ?_
    rintro e wz ⟨rfl, hg⟩
    have HG := Lib.hid (grown_trans (grown_trans HG.out (grown_alloc _ _ _)) hg)
    clear hg
    go_wp2_with fail
    refine (rnil_take a _).mono ?_
    rintro e wz ⟨rfl, hg⟩
    have HG := Lib.hid (grown_trans HG.out hg)
    clear hg
    go_wp2_with fail
    refine (rnil_drop a _).mono ?_
    rintro e wz ⟨rfl, hg⟩
    have HG := Lib.hid (grown_trans HG.out hg)
    clear hg
    go_wp2_with fail
    refine (rnil_great a _).mono ?_
    rintro e wz ⟨rfl, hg⟩
    have HG := Lib.hid (grown_trans HG.out hg)
    clear hg
    go_wp2_with fail
    refine (rnil_home 0 0 _).mono ?_
    rintro e wz ⟨rfl, hg⟩
    have HG := Lib.hid (grown_trans HG.out hg)
    clear hg
    go_wp2_with fail
    refine (rnil_give a _).mono ?_
    rintro e wz ⟨rfl, hg⟩
    have HG := Lib.hid (grown_trans HG.out hg)
    clear hg
    go_wp2_with fail
    refine (rnil_shut a _).mono ?_
    rintro e wz ⟨rfl, hg⟩
    have HG := Lib.hid (grown_trans HG.out hg)
    clear hg
    go_wp2_with fail
    refine (rnil_live _).mono ?_
    rintro e wz ⟨rfl, hg⟩
    have HG := Lib.hid (grown_trans HG.out hg)
    clear hg
    go_wp2_with fail
    refine (rnil_owner a _).mono ?_
    rintro e wz ⟨rfl, hg⟩
    have HG := Lib.hid (grown_trans HG.out hg)
    clear hg
    go_wp2_with fail
    refine (rnil_count a 0 _).mono ?_
    rintro e wz ⟨rfl, hg⟩
    have HG := Lib.hid (grown_trans HG.out hg)
    clear hg
    go_wp2_with fail
    refine (rnil_arena _).mono ?_
    rintro e wz ⟨rfl, hg⟩
    have HG := Lib.hid (grown_trans HG.out hg)
    clear hg
    go_wp2_with fail
    refine (rnil_pages _).mono ?_
    rintro e wz ⟨rfl, hg⟩
    have HG := Lib.hid (grown_trans HG.out hg)
    clear hg
    go_wp2_with fail
    refine (rnil_check _).mono ?_
    rintro e wz ⟨rfl, hg⟩
    have HG := Lib.hid (grown_trans HG.out hg)
    clear hg
    go_wp2_with fail
    refine (awake9_at _).mono ?_
    rintro e wz ⟨rfl, hg⟩
    have HG := Lib.hid (grown_trans HG.out hg)
    clear hg
    go_wp2
    go_ret
    exact ⟨rfl, HG.out⟩
end Go.Proofs.YtgnfcklippjeeaaGreat
