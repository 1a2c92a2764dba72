/- The document's ledger: Took. -/
import Derived.Test.YtgnfcklippjeeaaGreatPD
namespace Go.Proofs.YtgnfcklippjeeaaGreat
open Go.RowKit
open Sl (Cls bs upd)
open Lg (pgs)
open Rf (LZ)

set_option maxRecDepth 100000 in
set_option maxHeartbeats 2000000 in
theorem dtook_no {w : World} {T : Nat → Nat} {D : Dp} {V : St} {l q cap : Nat} {G : Nat → Bool} (h : DrAt w T D V) (hd : DlAt w l D.p q (V.n * 256) cap G) {a : Int} {x : Option Pc} (hx : V.At a x) (hn : ∀ p, lvV x = some p → (p.b : Int) ≠ a) :
    Calls Tryz.prog 38 #[.pointer (some ⟨l, 0, none⟩), .int .i64 a] w fun e w' => e = .returned (.int .i64 6) ∧ w.grownBy w' none := by
  have c0 := hd.c0
  have HF := dfind_at h hx
  obtain ⟨x0, x1, x2, x3, x4, x5, b, hs, hnone, hsome⟩ := fndV_shape x
  rw [hs] at HF
  have HF := Lib.hid HF
  have hbb : b = false ∨ (b = true ∧ (x2 != a) = true) ∨ (b = true ∧ (x2 != a) = false ∧ (x4 != 1) = true) := by
    cases x with
    | none => exact .inl (hnone rfl)
    | some p =>
      obtain ⟨k1, k2, k3⟩ := hsome p rfl
      have k4 : x2 = (p.b : Nat) := by simp [pcv] at k3; omega
      by_cases e : x2 = a
      · refine .inr (.inr ⟨k1, by simpa using e, ?_⟩)
        have : p.st ≠ 1 := fun hst => hn p (by simp [lvV, hst]) (by omega)
        simp; omega
      · exact .inr (.inl ⟨k1, by simpa using e⟩)
  clear h hd hx hn hs hnone hsome
  rcases hbb with rfl | ⟨rfl, f2⟩ | ⟨rfl, f2, f4⟩
  all_goals
    go_enter Tryz.func38, Tryz.ntmps38
    go_wp2_with fail
    refine HF.out.mono ?_
    rintro e w1 ⟨rfl, m1⟩
    go_wp2
    go_ret
    exact ⟨rfl, grown_trans m1 (grown_alloc _ _ _)⟩
theorem gcut_zero (G : Nat → Bool) (a : Nat) : gcut G a (a + 0) = G := by
  funext i
  unfold gcut
  have : (decide (a ≤ i) && decide (i < a + 0)) = false := by
    by_cases h : a ≤ i
    · rw [decide_eq_false (show ¬ i < a + 0 by omega)]; simp
    · rw [decide_eq_false h]; rfl
  rw [this]; simp
theorem gcut_succ (G : Nat → Bool) (a k : Nat) : (fun i => if i = a + k then false else gcut G a (a + k) i) = gcut G a (a + (k + 1)) := by
  funext i
  unfold gcut
  by_cases e : i = a + k
  · rw [if_pos e, decide_eq_true (show a ≤ i by omega), decide_eq_true (show i < a + (k + 1) by omega)]; simp
  · rw [if_neg e]
    by_cases h : i < a + k
    · rw [decide_eq_true h, decide_eq_true (show i < a + (k + 1) by omega)]
    · rw [decide_eq_false h, decide_eq_false (show ¬ i < a + (k + 1) by omega)]
set_option maxRecDepth 100000 in
set_option maxHeartbeats 4000000 in
theorem dtook_ok {w : World} {T : Nat → Nat} {D : Dp} {V : St} {l q cap : Nat} {G : Nat → Bool} (h : DrAt w T D V) (hd : DlAt w l D.p q (V.n * 256) cap G) {p : Pc} (hx : V.At (p.b : Nat) (some p)) (hst : p.st = 1) (hz : p.z ≤ 4096) (hg : p.gr = true → 120 < p.z) (hin : p.b + bytV p ≤ V.n * 256) :
    Calls Tryz.prog 38 #[.pointer (some ⟨l, 0, none⟩), .int .i64 (p.b : Nat)] w fun e w' => e = .returned (.int .i64 0) ∧ DlAt w' l D.p q (V.n * 256) cap (gcut G p.b (p.b + bytV p)) ∧ w.grownBy w' (some q) := by
  have c0 := hd.c0
  have HF := Lib.hid (dfind_at h hx)
  have HBY := Lib.hid (fun W => dbytes_at p hz hg W)
  have HD := Lib.hid hd
  have hn := h.ok.n256
  have hlt : q < w.heap.size := hd.v.qlt
  obtain ⟨pg, pk, a, z, st, gr⟩ := p
  unfold fndV pcv at HF
  unfold pcv at HBY
  simp only [] at HF HBY hst hin ⊢
  subst hst
  obtain ⟨B, hB⟩ : ∃ B, bytV ⟨pg, pk, a, z, 1, gr⟩ = B := ⟨_, rfl⟩
  rw [hB] at HBY hin ⊢
  have hNi : ((V.n * 256 : Nat) : Int) ≤ 65536 := by omega
  have hai : (a : Int) ≤ 65536 := by omega
  have hBi : (B : Int) ≤ 65536 := by omega
  have HIN := Lib.hid hin
  clear h hd hx hz hg hB hin hn
  generalize V.n * 256 = N at *
  go_enter Tryz.func38, Tryz.ntmps38
  go_wp2_with fail
  refine HF.out.mono ?_
  rintro e w1 ⟨rfl, m1⟩
  obtain ⟨xb, hxb⟩ : ∃ xb, xb = w1.heap.size := ⟨_, rfl⟩
  go_upto_region 4 with (fail)
  have ga := grown_alloc w1 (.cells #[.int .i64 pg, .int .i64 pk, .int .i64 a, .int .i64 z, .int .i64 1, .bool gr] 101) none
  obtain ⟨w2, hw2⟩ : ∃ w2 : World, w2 = w1.alloc (.cells #[.int .i64 pg, .int .i64 pk, .int .i64 a, .int .i64 z, .int .i64 1, .bool gr] 101) := ⟨_, rfl⟩
  have HC : Hid (∀ W, w2.grownBy W (some q) → W.cell? ⟨xb, 0, none⟩ = some (.int .i64 pg) ∧ W.cell? ⟨xb, 1, none⟩ = some (.int .i64 pk) ∧ W.cell? ⟨xb, 2, none⟩ = some (.int .i64 a) ∧ W.cell? ⟨xb, 3, none⟩ = some (.int .i64 z) ∧ W.cell? ⟨xb, 4, none⟩ = some (.int .i64 1) ∧ W.cell? ⟨xb, 5, none⟩ = some (.bool gr)) := Lib.hid (fun W gr' => by
    have hq : some xb ≠ some q := some_ne (by have := m1.size; omega)
    rw [hw2] at gr'
    subst hxb
    refine ⟨gr'.cell ?_ hq, gr'.cell ?_ hq, gr'.cell ?_ hq, gr'.cell ?_ hq, gr'.cell ?_ hq, gr'.cell ?_ hq⟩ <;> (rw [cell_alloc_new]; rfl))
  have HG2 : Hid (w.grownBy w2 none) := Lib.hid (by rw [hw2]; exact grown_trans m1 ga)
  rw [← hw2, ← hxb]
  clear ga m1 hw2 hxb HF c0
  simp only [Int.ofNat_one] at HBY
  have HD2 := Lib.hid (HD.out.grown HG2.out)
  go_wp2_with fail
  obtain ⟨w3, hw3⟩ : ∃ w3 : World, w3 = w2 := ⟨_, rfl⟩
  clear hw3
  go_loopw [7] (fun i wr => ∃ k : Nat, k ≤ B ∧ i = .int .i64 k ∧ DlAt wr l D.p q N cap (gcut G a (a + k)) ∧ w2.grownBy wr (some q)) (fun i _ => B - (intOf i).toNat)
  case atStart => exact ⟨0, by omega, rfl, by rw [gcut_zero]; exact HD2.out, grown_refl _ _⟩
  case round =>
    obtain ⟨k, hk, rfl, hdk, hgk⟩ := hrel
    have HDK := Lib.hid hdk
    have HGK := Lib.hid hgk
    obtain ⟨y0, y1, y2, y3, y4, y5⟩ := HC.out _ hgk
    clear hdk hgk
    by_cases hkb : k < B
    · have hki : (k : Int) < (B : Int) := by omega
      obtain ⟨t, ht⟩ : ∃ t : Nat, a + k = t := ⟨_, rfl⟩
      have e1 : IntKind.i64.wrap ((a : Int) + (k : Int)) = (t : Int) := by rw [IntKind.wrap_i64]; omega
      have htn : (t : Int) < (N : Int) := by have := HIN.out; omega
      have HS : Hid (∀ W, wr.grownBy W none → W.cell? ⟨l, 1, none⟩ = some (.slice (some ⟨q, 0, none⟩) N cap) ∧ W.cell? ⟨q, t, none⟩ = some (.bool (gcut G a (a + k) t)) ∧ W.frozen? ⟨q, t, none⟩ = false ∧ DlAt (W.setCell ⟨q, t, none⟩ (.bool false)) l D.p q N cap (gcut G a (a + (k + 1))) ∧ w2.grownBy (W.setCell ⟨q, t, none⟩ (.bool false)) (some q)) := Lib.hid (fun W gr' => by
        have hW := HDK.out.grown gr'
        refine ⟨hW.c1, hW.v.c t (by omega), hW.v.fz t, ?_, grown_trans (grown_trans HGK.out (grown_none gr')) (An.agrown_set _ _ _ _)⟩
        rw [← gcut_succ, ht]
        have := hW.set t false
        rw [ht] at this
        exact this)
      clear ht hkb
      go_upto_region 7 with ((go_at_call 95; (with_reducible refine (HBY.out _).mono ?_); rintro e w4 ⟨rfl, m4⟩; obtain ⟨d1, d2, z2, hl, hgl⟩ := HS.out _ m4; have HR := Lib.hid (And.intro hl hgl); clear m4 hl hgl))
      clear y0 y1 y2 y3 y4 y5
      go_wp2
      go_roundw
      case rel => exact ⟨k + 1, by omega, by go_num, HR.out⟩
      case measure => simp [intOf]; omega
    · obtain rfl : k = B := by omega
      have hki : ¬ (k : Int) < (k : Int) := by omega
      go_wp2_with (go_at_call 95; (with_reducible refine (HBY.out _).mono ?_); rintro e w4 ⟨rfl, m4⟩; have HR := Lib.hid (And.intro (HDK.out.grown m4) (grown_trans (grown_none HG2.out) (grown_trans HGK.out (grown_none m4)))); clear m4)
      go_ret
      exact ⟨rfl, HR.out⟩
end Go.Proofs.YtgnfcklippjeeaaGreat
