/- The walks of a region's New, Config, Owner, Count, Home. -/
import Derived.Test.YtgnfcklippjeeaaGreatNI
namespace Go.Proofs.YtgnfcklippjeeaaGreat
open Go.RowKit
open Go.Maps (Keyed)
open Sl (Cls bs upd FOk LnkIs)
open Lg (pgs)

/-! New -/
/-- May an arena be parted so? -/
def Parts (m M : Int) : Prop := 0 ≤ m ∧ 0 ≤ M ∧ (0 < m ∨ 0 < M) ∧ m + M ≤ 256
theorem cfg_new (w : World) (m M : Int) (s : Nat) (t : TypeId) :
    (w.alloc (.cells #[.int .i64 m, .int .i64 M, .int .u64 s] t)).cell? ⟨w.heap.size, 0, none⟩ = some (.int .i64 m) ∧ (w.alloc (.cells #[.int .i64 m, .int .i64 M, .int .u64 s] t)).cell? ⟨w.heap.size, 1, none⟩ = some (.int .i64 M) ∧ (w.alloc (.cells #[.int .i64 m, .int .i64 M, .int .u64 s] t)).cell? ⟨w.heap.size, 2, none⟩ = some (.int .u64 s) :=
  ⟨by rw [cell_alloc_new]; rfl, by rw [cell_alloc_new]; rfl, by rw [cell_alloc_new]; rfl⟩
set_option maxRecDepth 100000 in
set_option maxHeartbeats 1000000 in
theorem parts_yes {m M : Int} (s : Nat) (w : World) (h : Parts m M) :
    Calls Tryz.prog 72 #[.agg #[.int .i64 m, .int .i64 M, .int .u64 s]] w fun e w' => e = .returned (.bool true) ∧ w.grownBy w' none := by
  obtain ⟨h1, h2, h3, h4⟩ := h
  have h5 : 0 < max m M := by omega
  have h6 : M ≤ 256 - m := by omega
  have h7 : IntKind.i64.wrap (256 - m) = 256 - m := by rw [IntKind.wrap_i64]; omega
  obtain ⟨x, hx⟩ : ∃ x, max m M = x := ⟨_, rfl⟩
  clear h3 h4
  go_enter Tryz.func72, Tryz.ntmps72
  go_wp2
  go_ret
  exact ⟨rfl, grown_alloc _ _ _⟩
set_option maxRecDepth 100000 in
set_option maxHeartbeats 1000000 in
theorem parts_no {m M : Int} (s : Nat) (w : World) (hm : WF m) (h : ¬ Parts m M) :
    Calls Tryz.prog 72 #[.agg #[.int .i64 m, .int .i64 M, .int .u64 s]] w fun e w' => e = .returned (.bool false) ∧ w.grownBy w' none := by
  unfold Parts at h
  unfold WF at hm
  by_cases h1 : 0 ≤ m
  · by_cases h2 : 0 ≤ M
    · by_cases h3 : 0 < max m M
      · have h6 : decide (M ≤ 256 - m) = false := by simp; omega
        have h7 : IntKind.i64.wrap (256 - m) = 256 - m := by rw [IntKind.wrap_i64]; omega
        clear h hm
        go_enter Tryz.func72, Tryz.ntmps72
        go_wp2
        go_ret
        exact ⟨rfl, grown_alloc _ _ _⟩
      · have h6 : decide (0 < max m M) = false := by simp; omega
        clear h hm h3
        go_enter Tryz.func72, Tryz.ntmps72
        go_wp2
        go_ret
        exact ⟨rfl, grown_alloc _ _ _⟩
    · have h6 : decide (0 ≤ M) = false := by simpa using h2
      clear h hm h2
      go_enter Tryz.func72, Tryz.ntmps72
      go_wp2
      go_ret
      exact ⟨rfl, grown_alloc _ _ _⟩
  · have h6 : decide (0 ≤ m) = false := by simpa using h1
    clear h hm h1
    go_enter Tryz.func72, Tryz.ntmps72
    go_wp2
    go_ret
    exact ⟨rfl, grown_alloc _ _ _⟩
set_option maxRecDepth 100000 in
set_option maxHeartbeats 1000000 in
theorem rgnew_no {m M : Int} (s : Nat) (w : World) (hm : WF m) (h : ¬ Parts m M) :
    Calls Tryz.prog 22 #[.agg #[.int .i64 m, .int .i64 M, .int .u64 s]] w fun e w' => e = .returned (.tuple #[.pointer none, .int .i64 1]) ∧ w.grownBy w' none := by
  have HP := Lib.hid (fun W => parts_no (m := m) (M := M) s W hm h)
  clear hm h
  go_enter Tryz.func22, Tryz.ntmps22
  go_wp2_with fail
  refine (HP.out _).mono ?_
  rintro e w1 ⟨rfl, m1⟩
  have HE := Lib.hid (grown_trans (grown_alloc _ _ _) m1)
  clear m1
  go_wp2
  go_ret2
  exact ⟨rfl, HE.out⟩
/-- A new region. -/
def RnMade (w w' : World) (m M s : Nat) (e : Ending) : Prop :=
  ∃ A : Rp, e = .returned (.tuple #[.pointer (some ⟨A.p, 0, none⟩), .int .i64 0]) ∧ RnAt w' A (St.new m (m + M) (keyOf s)) 0 ∧ w.grownBy w' none ∧ w.heap.size ≤ A.p ∧ (∀ i, A.may (fun _ => none) i → w.heap.size ≤ i)
/-- Blocks that are seven others. -/
structure Seven (lo hi pa qa pt qt mb pg mg : Nat) : Prop where
  a : lo ≤ pa ∧ lo ≤ qa ∧ lo ≤ pt ∧ lo ≤ qt ∧ lo ≤ mb ∧ lo ≤ pg ∧ lo ≤ mg
  b : pa < hi ∧ qa < hi ∧ pt < hi ∧ qt < hi ∧ mb < hi ∧ pg < hi ∧ mg < hi
  c : pa ≠ qa ∧ pa ≠ pt ∧ pa ≠ qt ∧ pa ≠ mb ∧ pa ≠ pg ∧ pa ≠ mg
  d : qa ≠ pt ∧ qa ≠ qt ∧ qa ≠ mb ∧ qa ≠ pg ∧ qa ≠ mg
  e : pt ≠ qt ∧ pt ≠ mb ∧ pt ≠ pg ∧ pt ≠ mg
  f : qt ≠ mb ∧ qt ≠ pg ∧ qt ≠ mg
  g : mb ≠ pg ∧ mb ≠ mg ∧ pg ≠ mg
theorem rn_made {w W : World} {m M s pa qa acap pt qt tcap mb pg mg : Nat} (hm : m + M ≤ 256) (h1 : 1 ≤ m + M) (hg : w.grownBy W none) (har : An.ArAt W pa qa ((m + M) * 256) acap (fun _ => 0) none) (ht : Pt.TabAt W pt qt (m + M) tcap (fun _ => Pg.zero))
    (hmp : W.ownsMap Tryz.prog 3 ptrElem mb 0 (.map [])) (hl : LgAt W ⟨pg, pa, qa, mg, keyOf s, (m + M) * 256, acap⟩ 0 (.map []) (fun _ => 0) (fun _ => 0)) (h7 : Seven w.heap.size W.heap.size pa qa pt qt mb pg mg) :
    RnMade w (W.alloc (.cells #[.int .i64 m, .int .i64 M, .int .u64 s, .pointer (some ⟨pa, 0, none⟩), .pointer (some ⟨pt, 0, none⟩), .int .u64 (keyOf s : Nat), .map (some mb), .pointer (some ⟨pg, 0, none⟩)] 111)) m M s (.returned (.tuple #[.pointer (some ⟨W.heap.size, 0, none⟩), .int .i64 0])) := by
  have ga := grown_alloc W (.cells #[.int .i64 m, .int .i64 M, .int .u64 s, .pointer (some ⟨pa, 0, none⟩), .pointer (some ⟨pt, 0, none⟩), .int .u64 (keyOf s : Nat), .map (some mb), .pointer (some ⟨pg, 0, none⟩)] 111) none
  obtain ⟨⟨a1, a2, a3, a4, a5, a6, a7⟩, ⟨b1, b2, b3, b4, b5, b6, b7⟩, ⟨c1, c2, c3, c4, c5, c6⟩, ⟨d1, d2, d3, d4, d5⟩, ⟨e1, e2, e3, e4⟩, ⟨f1, f2, f3⟩, ⟨g1, g2, g3⟩⟩ := h7
  have hs := hg.size
  have n1 := Nat.ne_of_lt b1
  have n2 := Nat.ne_of_lt b2
  have n3 := Nat.ne_of_lt b3
  have n4 := Nat.ne_of_lt b4
  have n5 := Nat.ne_of_lt b5
  have n6 := Nat.ne_of_lt b6
  have n7 := Nat.ne_of_lt b7
  refine ⟨⟨W.heap.size, pa, qa, pt, qt, mb, pg, mg, acap, tcap, s, fun _ => ⟨0, 0, 0, 0, 0, 0, 0⟩, fun i => if i = W.heap.size then 0 else if i = pa then 1 else if i = qa then 2 else if i = pt then 3 else if i = qt then 4 else if i = mb then 5 else if i = pg then 6 else 7⟩, rfl, ⟨⟨?_, ?_, ?_, ?_, ?_, ?_, ?_, ?_, har.grown ga (by simp) (by simp), ht.grown ga (by simp) (by simp), ⟨.map [], hmp.kept ga (by simp), mapIs_nil⟩, ⟨.map [], hl.grown ga⟩, (fun k d h => nomatch h), ⟨?_, ?_, ?_, ?_, ?_, ?_, ?_, ?_, (fun k d h => nomatch h)⟩⟩, St.ok_new h1 hm (Nat.le_add_right _ _) (keyOf_lt s)⟩, grown_trans hg ga, hs, ?_⟩
  · rw [cell_alloc_new]; rfl
  · rw [cell_alloc_new]
    show some (Value.int .i64 (M : Int)) = some (.int .i64 (((m + M : Nat) : Int) - (m : Int)))
    rw [show ((m + M : Nat) : Int) - (m : Int) = (M : Int) by omega]
  · rw [cell_alloc_new]; rfl
  · rw [cell_alloc_new]; rfl
  · rw [cell_alloc_new]; rfl
  · rw [cell_alloc_new]; rfl
  · rw [cell_alloc_new]; rfl
  · rw [cell_alloc_new]; rfl
  · simp only; rw [if_pos trivial]
  · simp only; rw [if_neg n1, if_pos trivial]
  · simp only; rw [if_neg n2, if_neg c1.symm, if_pos trivial]
  · simp only; rw [if_neg n3, if_neg c2.symm, if_neg d1.symm, if_pos trivial]
  · simp only; rw [if_neg n4, if_neg c3.symm, if_neg d2.symm, if_neg e1.symm, if_pos trivial]
  · simp only; rw [if_neg n5, if_neg c4.symm, if_neg d3.symm, if_neg e2.symm, if_neg f1.symm, if_pos trivial]
  · simp only; rw [if_neg n6, if_neg c5.symm, if_neg d4.symm, if_neg e3.symm, if_neg f2.symm, if_neg g1.symm, if_pos trivial]
  · simp only; rw [if_neg n7, if_neg c6.symm, if_neg d5.symm, if_neg e4.symm, if_neg f3.symm, if_neg g2.symm, if_neg g3.symm]
  · rintro i (rfl | rfl | rfl | rfl | ⟨k, d, hk, _⟩)
    · exact a2
    · exact a4
    · exact a5
    · exact a7
    · cases hk
set_option maxRecDepth 100000 in
set_option maxHeartbeats 2000000 in
theorem rgnew_yes {m M : Nat} (s : Nat) (w : World) (h : Parts m M) :
    Calls Tryz.prog 22 #[.agg #[.int .i64 m, .int .i64 M, .int .u64 s]] w fun e w' => RnMade w w' m M s e := by
  have HP := Lib.hid (fun W => parts_yes (m := m) (M := M) s W h)
  have hs : ((m : Nat) : Int) + (M : Nat) = ((m + M : Nat) : Int) := by omega
  have HN : Hid (m + M ≤ 256 ∧ 1 ≤ m + M) := Lib.hid (by unfold Parts at h; omega)
  have hn : ((m + M : Nat) : Int) ≤ 256 := by have := HN.out; omega
  have hwr : IntKind.i64.wrap ((m + M : Nat) : Int) = ((m + M : Nat) : Int) := by rw [IntKind.wrap_i64]; omega
  have HNN : Hid (((m + M : Nat) : Int) = ((m + M : Nat) : Int)) := Lib.hid rfl
  have HL := Lib.hid (fun W => new_at s W)
  have m0 := grown_alloc w (.cells #[.int .i64 m, .int .i64 M, .int .u64 s] 60) none
  have HCF := Lib.hid (cfg_new w m M s 60)
  clear h
  generalize hnn : ((m + M : Nat) : Int) = nn at hs hn hwr HNN
  have HNN2 := Lib.hid hnn
  clear hnn HNN
  go_enter Tryz.func22, Tryz.ntmps22
  go_wp2_with fail
  refine (HP.out _).mono ?_
  rintro e w1 ⟨rfl, m1⟩
  go_upto_region 3 with (fail)
  have HG := Lib.hid (grown_trans m0 m1)
  have HT : Hid (∀ W, w1.grownBy W none → W.cell? ⟨w.heap.size, 0, none⟩ = some (.int .i64 m) ∧ W.cell? ⟨w.heap.size, 1, none⟩ = some (.int .i64 M) ∧ W.cell? ⟨w.heap.size, 2, none⟩ = some (.int .u64 s)) := Lib.hid (fun W g1 => ⟨g1.cell (m1.cell HCF.out.1 (by simp)) (by simp), g1.cell (m1.cell HCF.out.2.1 (by simp)) (by simp), g1.cell (m1.cell HCF.out.2.2 (by simp)) (by simp)⟩)
  clear m0 m1 HCF HP
  generalize w.heap.size = q at *
  obtain ⟨e0, e1, e2⟩ := HT.out _ (grown_refl w1 none)
  have hg1 := grown_drew1 (grown_refl w1 none)
  go_cut [4, 5] (fun n t5 W => n = .int .i64 nn ∧ ∃ b, t5 = .pointer (some ⟨b, 0, none⟩) ∧ W.cell? ⟨b, 0, none⟩ = some (.int .u64 (keyOf s : Nat)) ∧ w1.heap.size ≤ b ∧ w1.grownBy W none)
  case first =>
    go_region_held3 (fun w' => w'.cell? ⟨q, 0, none⟩ = some (.int .i64 m) ∧ w'.cell? ⟨q, 1, none⟩ = some (.int .i64 M) ∧ w'.cell? ⟨q, 2, none⟩ = some (.int .u64 s))
      (first | exact ⟨e0, e1, e2⟩ | exact HT.out _ (by repeat (first | assumption | exact grown_refl _ _ | refine grown_drew1 ?_ | refine grown_trans ?_ (grown_alloc _ _ _) | refine grown_own ?_ (An.agrown_set _ _ _ _) (by simp; try omega))))
      (first
      | (go_at_call 73; refine (HL.out _).mono ?_; rintro e w3 ⟨rfl, mm⟩; have hg2 := grown_trans (show w1.grownBy _ none from (by repeat (first | assumption | exact grown_refl _ _ | refine grown_drew1 ?_ | refine grown_trans ?_ (grown_alloc _ _ _) | refine grown_own ?_ (An.agrown_set _ _ _ _) (by simp; try omega)))) mm; (try have hz : w3.cell? ⟨w1.heap.size, 0, none⟩ = some (.int .u64 0) := mm.cell (by first | (simp; done) | (rw [show ((w1.alloc (.cells #[.int .u64 0] 107)).drew).cell? = (w1.alloc (.cells #[.int .u64 0] 107)).cell? from rfl, cell_alloc_new]; rfl)) (by simp)); (try have hzf : ∀ k, w3.frozen? ⟨w1.heap.size, k, none⟩ = false := fun k => by rw [World.frozen?_of_block (mm.block w1.heap.size (by simp) (by simp))]; first | (simp; done) | exact frozen_alloc_new w1 #[.int .u64 0] 107 k); clear mm))
    all_goals
      go_wp2
      go_meet
      first
      | exact ⟨rfl, w3.heap.size, rfl, by rw [cell_alloc_new]; rfl, hg2.size, grown_trans hg2 (grown_alloc _ _ _)⟩
      | exact ⟨rfl, w1.heap.size, rfl, World.cell?_setCell_same' _ _ _ (by rw [hz]; rfl), Nat.le_refl _, grown_own hg2 (An.agrown_set _ _ _ _) (Nat.le_refl _)⟩
  case rest =>
    obtain ⟨rfl, b, rfl, hb, hbs, hg⟩ := hcut
    obtain ⟨w2, rfl⟩ : ∃ w2 : World, w2 = wc := ⟨_, rfl⟩
    obtain ⟨e0, e1, e2⟩ := HT.out _ hg
    have HQ := Lib.hid (And.intro e0 (And.intro e1 (And.intro e2 hb)))
    have HB := Lib.hid hbs
    have HG2 := Lib.hid (grown_trans HG.out hg)
    have HA : Hid (Calls Tryz.prog 74 #[.int .i64 nn] w2 fun e w' => An.AMade w2 w' ((m + M) * 256) (fun _ => 0) e) := Lib.hid (An.anew_at nn (m + M) w2 HN.out.1 (.inr (.inl ⟨by have := HNN2.out; omega, hn, HNN2.out⟩)))
    clear HT hg hg1 HL HG hbs hb e0 e1 e2 hs hwr
    go_wp2_with fail
    refine HA.out.mono ?_
    rintro e w3 ⟨pa, qa, acap, rfl, ha, ha1, ha2, hg⟩
    have HAR := Lib.hid ha
    have HA12 := Lib.hid (And.intro ha1 ha2)
    have HG3 := Lib.hid (grown_trans HG2.out hg)
    have HGW := Lib.hid HG2.out
    have HQ3 : Hid (∀ W, w3.grownBy W none → W.cell? ⟨q, 0, none⟩ = some (.int .i64 m) ∧ W.cell? ⟨q, 1, none⟩ = some (.int .i64 M) ∧ W.cell? ⟨q, 2, none⟩ = some (.int .u64 s) ∧ W.cell? ⟨b, 0, none⟩ = some (.int .u64 (keyOf s : Nat))) := Lib.hid (fun W g1 => ⟨g1.cell (hg.cell HQ.out.1 (by simp)) (by simp), g1.cell (hg.cell HQ.out.2.1 (by simp)) (by simp), g1.cell (hg.cell HQ.out.2.2.1 (by simp)) (by simp), g1.cell (hg.cell HQ.out.2.2.2 (by simp)) (by simp)⟩)
    have HPN : Hid (∀ W, Calls Tryz.prog 75 #[.int .i64 nn] W fun e w' => Pt.PMade W w' (m + M) (fun _ => Pg.zero) e) := Lib.hid (fun W => by have := Pt.pnew_mid (m + M) W HN.out.1; rw [HNN2.out] at this; exact this)
    have HLN := Lib.hid (fun W (g1 : w3.grownBy W none) => lnew_at (HAR.out.grown g1 (by simp) (by simp)) (keyOf_lt s))
    obtain ⟨e0, e1, e2, e3⟩ := HQ3.out _ (grown_refl w3 none)
    clear ha ha1 ha2 hg HA HQ
    have hmmk := @run_makeMap Tryz.prog
    have hg1 := grown_drew1 (grown_refl w3 none)
    go_upto_region 5 with (fail)
    go_region_held3 (fun w' => w'.cell? ⟨q, 0, none⟩ = some (.int .i64 m) ∧ w'.cell? ⟨q, 1, none⟩ = some (.int .i64 M) ∧ w'.cell? ⟨q, 2, none⟩ = some (.int .u64 s) ∧ w'.cell? ⟨b, 0, none⟩ = some (.int .u64 (keyOf s : Nat)))
      (first | exact ⟨e0, e1, e2, e3⟩ | exact HQ3.out _ (by repeat (first | assumption | exact grown_refl _ _ | refine grown_drew1 ?_ | refine grown_trans ?_ (grown_alloc _ _ _) | refine grown_own ?_ (An.agrown_set _ _ _ _) (by simp; try omega))))
      (first
      | (go_at_call 75; refine (HPN.out _).mono ?_; rintro e w4 ⟨pt, qt, tcap, rfl, p1, p2, p3, p4⟩; have hgp := grown_trans (show w3.grownBy _ none from (by repeat (first | assumption | exact grown_refl _ _ | refine grown_drew1 ?_ | refine grown_trans ?_ (grown_alloc _ _ _) | refine grown_own ?_ (An.agrown_set _ _ _ _) (by simp; try omega)))) p4)
      | (go_at_call 76; refine (HLN.out _ (by repeat (first | assumption | exact grown_refl _ _ | refine grown_drew1 ?_ | refine grown_trans ?_ (grown_alloc _ _ _) | refine grown_own ?_ (An.agrown_set _ _ _ _) (by simp; try omega)))).mono ?_; rintro e w5 ⟨pg, mg, rfl, l1, l2, l3, l4⟩; have hgl := grown_trans (show w3.grownBy _ none from (by repeat (first | assumption | exact grown_refl _ _ | refine grown_drew1 ?_ | refine grown_trans ?_ (grown_alloc _ _ _) | refine grown_own ?_ (An.agrown_set _ _ _ _) (by simp; try omega)))) l4))
    all_goals
      have h0 := HN.out
      have ar3 := HAR.out
      have s3 := HG3.out.size
      have x1 := ar3.plt
      have x2 := ar3.b.qlt
      have x3 := ar3.ne
      have x4 := p1.plt
      have x5 := p1.rows.qlt
      have x6 := p1.ne
      have x7 := World.block_lt_of_cell? w5 ⟨pg, 0, none⟩ l1.c0
      have x8 := l1.map.lt
      have x9 := l1.ap.2.1
      have s4 := hgp.size
      have s5 := l4.size
      have y := HA12.out
      have y2 := HGW.out.size
      have hsz : ∀ W : World, W.drew.heap.size = W.heap.size := fun _ => rfl
      have hal : ∀ (W : World) o, (W.alloc o).heap.size = W.heap.size + 1 := fun W o => by simp
      have s6 := p4.size
      simp only [hsz, hal] at p2 p3 l2 l3 s5 s6
      clear hsz hal
      go_wp2
      go_ret2
      first
      | exact rn_made h0.1 h0.2 (grown_trans HG3.out hgl) (ar3.grown hgl (by simp) (by simp)) (p1.grown (grown_trans (grown_alloc _ _ _) l4) (by simp) (by simp)) ((World.ownsMap_made w4 _ _ _).kept l4 (by simp)) l1 ⟨by omega, by omega, by omega, by omega, by omega, by omega, by omega⟩
      | exact rn_made h0.1 h0.2 (grown_trans HG3.out hgl) (ar3.grown hgl (by simp) (by simp)) (p1.grown l4 (by simp) (by simp)) ((World.ownsMap_made w3 _ _ _).kept (grown_trans (show (w3.alloc (.map #[] 0)).grownBy w4 none from ⟨p4.os, p4.tape, p4.output, p4.size, p4.block⟩) l4) (by simp)) l1 ⟨by omega, by omega, by omega, by omega, by omega, by omega, by omega⟩
      | (have hx := rn_made h0.1 h0.2 (grown_trans (grown_trans HG3.out hgl) (grown_alloc _ _ none)) ((ar3.grown hgl (by simp) (by simp)).grown (grown_alloc _ _ none) (by simp) (by simp)) ((p1.grown l4 (by simp) (by simp)).grown (grown_alloc _ _ none) (by simp) (by simp)) (World.ownsMap_made w5 _ _ _) (l1.grown (grown_alloc _ _ none)) ⟨by omega, by rw [show (w5.alloc (.map #[] 0)).heap.size = w5.heap.size + 1 by simp]; omega, by omega, by omega, by omega, by omega, by omega⟩; rw [show (w5.alloc (.map #[] 0)).heap.size = w5.heap.size + 1 by simp] at hx; exact hx)
end Go.Proofs.YtgnfcklippjeeaaGreat
