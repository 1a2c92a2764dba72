/- The walks of a region's Drop of a great block, Give, Shut; a slab's Count. -/
import Derived.Test.YtgnfcklippjeeaaGreatNF
namespace Go.Proofs.YtgnfcklippjeeaaGreat
open Go.RowKit
open Go.Maps (Keyed)
open Sl (Cls bs upd FOk LnkIs)
open Lg (pgs)

/-- Does a great block's canary stand? -/
def St.gstd (V : St) (p : Nat) : Bool := decide (Ar.wordAt V.B (Lg.grd p (V.Z p)) = Lg.can V.key p)
theorem lp_may {A : Rp} {V : St} {i : Nat} (h : (A.lp V).may i) : A.may V.L i := by
  unfold Lp.may Rp.lp at h
  rcases h with h | h
  · exact .inl h
  · exact .inr (.inr (.inr (.inl h)))
/-- A great block's rows are free. -/
theorem RnAt.unmap_great {w : World} {A : Rp} {V : St} {cnt g : Nat} (h : RnAt w A V cnt) (hz : V.Z g ≠ 0) :
    Calls Tryz.prog 67 #[.pointer (some ⟨A.pt, 0, none⟩), .int .i64 g] w fun e w' => e = .returned (.int .i64 0) ∧ RnW w' A { V with R := Pg.clr V.R g (pgs (V.Z g)) } cnt ∧ Fr (A.may V.L) w w' := by
  obtain ⟨h1, h2, h3, hr⟩ := h.ok.gr g hz
  have hn : g < V.n := by have := h.ok.mn; have := Lg.pgs_pos (V.Z g); omega
  have := Pt.unmap_first h.tab g hn (by rw [hr]; rfl)
  rw [show (V.R g).r.toNat = pgs (V.Z g) by rw [hr]; exact Int.toNat_natCast _] at this
  exact this.mono fun _ _ ⟨he, ht, hg⟩ => ⟨he, h.toRnW.table hg ht, fr_some hg (fun _ => .inr (.inl rfl))⟩
theorem drop_large {w : World} {A : Rp} {V : St} {cnt g : Nat} {R' : Nat → Pg.Row} (h : RnW w A { V with R := R' } cnt) (hz : V.Z g ≠ 0) :
    Calls Tryz.prog 68 #[.pointer (some ⟨A.pg, 0, none⟩), .int .i64 g] w fun e w' => e = .returned (.tuple #[.bool (V.gstd g), .int .i64 0]) ∧ RnW w' A { V with B := Lg.dropB g (V.Z g) V.B, R := R', Z := upd V.Z g 0 } cnt ∧ Fr (A.may V.L) w w' := by
  obtain ⟨E, hE⟩ := h.lg
  have h := h
  refine (ldrop_ok hE g hz).mono ?_
  rintro e w' ⟨he, hl, hf⟩
  exact ⟨he, h.large (Nat.le_refl _) hf hl, hf.wide (fun i hi => lp_may (V := { V with R := R' }) hi)⟩

set_option maxRecDepth 100000 in
set_option maxHeartbeats 2000000 in
theorem rdrop_great {w : World} {A : Rp} {V : St} {cnt g : Nat} (h : RnAt w A V cnt) (hz : V.Z g ≠ 0) :
    Calls Tryz.prog 17 #[.pointer (some ⟨A.p, 0, none⟩), .int .i64 ((g * 256 : Nat) : Int)] w fun e w' => e = .returned (.tuple #[.bool (V.gstd g), .int .i64 0]) ∧ RnAt w' A (V.gdrop g) cnt ∧ Fr (A.may V.L) w w' := by
  obtain ⟨h1, h2, h3, hr⟩ := h.ok.gr g hz
  have hgn : g < V.n := by have := h.ok.mn; have := Lg.pgs_pos (V.Z g); omega
  have hgr : V.Gr g g := ⟨hz, Nat.le_refl _, by have := Lg.pgs_pos (V.Z g); omega⟩
  have HF := find_at h (V := V) (a := ((g * 256 : Nat) : Int)) (.great g g _ rfl (by omega) hgn (h.ok.sl_gr hgr) hgr)
  unfold fndV pcv gpc at HF
  simp only [] at HF
  have HF := Lib.hid HF
  have HU := Lib.hid (fun W (g1 : w.grownBy W none) => (h.grown g1).unmap_great hz)
  have HD := Lib.hid (fun W (hW : RnW W A { V with R := Pg.clr V.R g (pgs (V.Z g)) } cnt) => drop_large hW hz)
  have HOK := Lib.hid (h.ok.gdrop hz)
  have HM := Lib.hid (fun i (hi : A.may V.L i) => h.may_lt hi)
  have HC4 := Lib.hid (fun W (g1 : w.grownBy W none) => (h.grown g1).c4)
  have HNP := Lib.hid (h.lab.not_may h.lab.p (.inl rfl))
  clear h hz h1 h2 h3 hr hgn hgr
  generalize ((g * 256 : Nat) : Int) = b at *
  generalize ((V.Z g : Nat) : Int) = z at *
  generalize V.gstd g = bo at *
  go_enter Tryz.func17, Tryz.ntmps17
  go_wp2_with fail
  refine HF.out.mono ?_
  rintro e w1 ⟨rfl, m1⟩
  go_upto_region 8 with (fail)
  have m2 := grown_alloc w1 (.cells #[.int .i64 g, .int .i64 0, .int .i64 b, .int .i64 z, .int .i64 1, .bool true] 37) none
  obtain ⟨e0, _⟩ := place_new w1 g 0 b z 1 true 37
  have HG := Lib.hid (grown_trans m1 m2)
  have nq : Hid (¬ A.may V.L w1.heap.size) := Lib.hid (fun hi => by have := HM.out _ hi; have := m1.size; omega)
  have HE0 := Lib.hid e0
  clear m1 m2 HF HM
  generalize w1.alloc (.cells #[.int .i64 g, .int .i64 0, .int .i64 b, .int .i64 z, .int .i64 1, .bool true] 37) = w2 at *
  generalize w1.heap.size = q at *
  have e4 := HC4.out _ HG.out
  have HS2 : Hid (∀ W W', w2.grownBy W none → Fr (A.may V.L) W W' → W'.cell? ⟨A.p, 4, none⟩ = some (.pointer (some ⟨A.pt, 0, none⟩)) ∧ W'.cell? ⟨q, 0, none⟩ = some (.int .i64 g)) := Lib.hid (fun W W' g1 hf => ⟨hf.cell (HC4.out _ (grown_trans HG.out g1)) HNP.out, hf.cell (g1.cell HE0.out (by simp)) nq.out⟩)
  have hg1 := grown_drew1 (grown_refl w2 none)
  go_cut [] (fun W => RnW W A { V with R := Pg.clr V.R g (pgs (V.Z g)) } cnt ∧ Fr (A.may V.L) w W ∧ W.cell? ⟨q, 0, none⟩ = some (.int .i64 g))
  case first =>
    go_region_held3 (fun w' => w'.cell? ⟨A.p, 4, none⟩ = some (.pointer (some ⟨A.pt, 0, none⟩)) ∧ w'.cell? ⟨q, 0, none⟩ = some (.int .i64 g))
      (first | exact ⟨e4, e0⟩ | exact HS3.out)
      (first
      | (go_at_call 67; refine (HU.out _ (grown_trans HG.out (by assumption))).mono ?_; rintro e w3 ⟨rfl, k3, k4⟩; have HS3 := Lib.hid (HS2.out _ _ (by assumption) k4); have K := Lib.hid (And.intro k3 (And.intro ((fr_none (may := A.may V.L) (grown_trans HG.out (by assumption))).trans k4) HS3.out.2)); clear k3 k4))
    all_goals
      go_wp2
      go_meet
      exact K.out
  case rest =>
    obtain ⟨hw3, hf3, hq3⟩ := hcut
    obtain ⟨w3, rfl⟩ : ∃ w3 : World, w3 = wc := ⟨_, rfl⟩
    have e7 := hw3.c7
    have HW := Lib.hid hw3
    have HF3 := Lib.hid hf3
    have HE3 := Lib.hid hq3
    have HD2 := Lib.hid (fun W (g1 : w3.grownBy W none) => HD.out _ (HW.out.grown g1))
    have HS4 : Hid (∀ W W', w3.grownBy W none → Fr (A.may V.L) W W' → W'.cell? ⟨A.p, 7, none⟩ = some (.pointer (some ⟨A.pg, 0, none⟩)) ∧ W'.cell? ⟨q, 0, none⟩ = some (.int .i64 g)) := Lib.hid (fun W W' g1 hf => ⟨hf.cell (HW.out.grown g1).c7 HNP.out, hf.cell (g1.cell HE3.out (by simp)) nq.out⟩)
    clear hw3 hf3 hg1 HU HS2 HC4 e4 e0 HE0 HD HG
    have hg1 := grown_drew1 (grown_refl w3 none)
    go_upto_region 9 with (fail)
    go_region_held3 (fun w' => w'.cell? ⟨A.p, 7, none⟩ = some (.pointer (some ⟨A.pg, 0, none⟩)) ∧ w'.cell? ⟨q, 0, none⟩ = some (.int .i64 g))
      (first | exact ⟨e7, hq3⟩ | exact HS3.out)
      (first
      | (go_at_call 68; refine (HD2.out _ (by assumption)).mono ?_; rintro e w4 ⟨rfl, k3, k4⟩; have HS3 := Lib.hid (HS4.out _ _ (by assumption) k4); have K := Lib.hid (And.intro k3 (HF3.out.trans ((fr_none (may := A.may V.L) (by assumption)).trans k4))); clear k3 k4))
    all_goals
      go_wp2
      go_ret2
      exact ⟨rfl, ⟨K.out.1, HOK.out⟩, K.out.2⟩

/-! Give -/
set_option maxRecDepth 100000 in
set_option maxHeartbeats 1000000 in
theorem rgive_no {w : World} {A : Rp} {V : St} {cnt : Nat} {a : Int} {x : Option Pc} (h : RnAt w A V cnt) (hx : V.At a x) (hn : ∀ p, x = some p → (p.b : Int) ≠ a ∨ p.gr = true) :
    Calls Tryz.prog 18 #[.pointer (some ⟨A.p, 0, none⟩), .int .i64 a] w fun e w' => e = .returned (.int .i64 6) ∧ w.grownBy w' none := by
  have HF := find_at h hx
  cases x with
  | none =>
    unfold fndV pc0 at HF
    simp only [] at HF
    have HF := Lib.hid HF
    clear h hx hn
    go_enter Tryz.func18, Tryz.ntmps18
    go_wp2_with fail
    refine HF.out.mono ?_
    rintro e w1 ⟨rfl, m1⟩
    go_wp2
    go_ret
    exact ⟨rfl, grown_trans m1 (grown_alloc _ _ _)⟩
  | some p =>
    have hb := hn p rfl
    unfold fndV pcv at HF
    simp only [] at HF
    by_cases hb1 : (p.b : Int) = a
    · have hgr : p.gr = true := hb.resolve_left (fun x => x hb1)
      rw [hgr, hb1] at HF
      have HF := Lib.hid HF
      clear h hx hn hb hb1 hgr
      go_enter Tryz.func18, Tryz.ntmps18
      go_wp2_with fail
      refine HF.out.mono ?_
      rintro e w1 ⟨rfl, m1⟩
      go_wp2
      go_ret
      exact ⟨rfl, grown_trans m1 (grown_alloc _ _ _)⟩
    · have hb' : ((p.b : Int) != a) = true := by simpa using hb1
      have HF := Lib.hid HF
      clear h hx hn hb hb1
      generalize ((p.b : Nat) : Int) = b at *
      go_enter Tryz.func18, Tryz.ntmps18
      go_wp2_with fail
      refine HF.out.mono ?_
      rintro e w1 ⟨rfl, m1⟩
      go_wp2
      go_ret
      exact ⟨rfl, grown_trans m1 (grown_alloc _ _ _)⟩
set_option maxRecDepth 100000 in
set_option maxHeartbeats 2000000 in
theorem rgive_core {w : World} {A : Rp} {V : St} {cnt g k : Nat} {d : Sd} {R : World → Prop} {er : Int} (h : RnAt w A V cnt) (hl : V.L g = some d) (hk : k < d.n)
    (hD : ∀ W, w.grownBy W none → Calls Tryz.prog 69 #[.pointer (some ⟨(A.xs g).p, 0, none⟩), .int .i64 k] W fun e w' => e = .returned (.int .i64 er) ∧ R w' ∧ Fr (A.may V.L) W w') :
    Calls Tryz.prog 18 #[.pointer (some ⟨A.p, 0, none⟩), .int .i64 (bs g d.s k : Nat)] w fun e w' => e = .returned (.int .i64 er) ∧ R w' ∧ Fr (A.may V.L) w w' := by
  obtain ⟨hgm, _, hd⟩ := h.ok.sl g d hl
  have hgn : g < V.n := by have := h.ok.mn; omega
  obtain ⟨e1, e2⟩ := Sl.bs_slot hd.c g hk
  have HF := find_at h (V := V) (a := (bs g d.s k : Nat)) (.slot g d _ rfl e1 hgn hl)
  rw [e2] at HF
  unfold fndV pcv spc at HF
  simp only [] at HF
  have HF := Lib.hid HF
  have HS := Lib.hid (fun W (g1 : w.grownBy W none) => slots_some (h.grown g1) hl)
  have HD := Lib.hid hD
  have HM := Lib.hid (fun i (hi : A.may V.L i) => h.may_lt hi)
  clear h hl hk hD hgm hd hgn e1 e2
  generalize ((bs g d.s k : Nat) : Int) = b at *
  generalize ((d.S k : Nat) : Int) = st at *
  generalize ((d.r : Nat) : Int) = sz at *
  go_enter Tryz.func18, Tryz.ntmps18
  go_wp2_with fail
  refine HF.out.mono ?_
  rintro e w1 ⟨rfl, m1⟩
  go_upto_region 6 with (fail)
  have m2 := grown_alloc w1 (.cells #[.int .i64 g, .int .i64 k, .int .i64 b, .int .i64 sz, .int .i64 st, .bool false] 37) none
  obtain ⟨e0, e1⟩ := place_new w1 g k b sz st false 37
  have HQ := Lib.hid (fun W (g1 : (w1.alloc (.cells #[.int .i64 g, .int .i64 k, .int .i64 b, .int .i64 sz, .int .i64 st, .bool false] 37)).grownBy W none) => And.intro (g1.cell e0 (by simp)) (g1.cell e1 (by simp)))
  have HQ2 := Lib.hid (fun W W' (g1 : (w1.alloc (.cells #[.int .i64 g, .int .i64 k, .int .i64 b, .int .i64 sz, .int .i64 st, .bool false] 37)).grownBy W none) (hfr : Fr (A.may V.L) W W') =>
    have nq : ¬ A.may V.L w1.heap.size := fun hi => by have := HM.out _ hi; have := m1.size; omega
    And.intro (hfr.cell (g1.cell e0 (by simp)) nq) (hfr.cell (g1.cell e1 (by simp)) nq))
  have HG := Lib.hid (grown_trans m1 m2)
  clear m1 m2 HF HM
  generalize w1.alloc (.cells #[.int .i64 g, .int .i64 k, .int .i64 b, .int .i64 sz, .int .i64 st, .bool false] 37) = w2 at *
  generalize w1.heap.size = q at *
  have hg1 := grown_drew1 (grown_refl w2 none)
  go_region_held3 (fun w' => w'.cell? ⟨q, 0, none⟩ = some (.int .i64 g) ∧ w'.cell? ⟨q, 1, none⟩ = some (.int .i64 k))
    (first | exact ⟨e0, e1⟩ | exact HQ.out _ (by assumption) | exact HS3.out)
    (first
    | (go_at_call 63; refine (HS.out _ (grown_trans HG.out (by assumption))).mono ?_; rintro e w3 ⟨rfl, m⟩; have hg2 := grown_trans (by assumption : w2.grownBy _ none) m; clear m)
    | (go_at_call 69; refine (HD.out _ (grown_trans HG.out (by assumption))).mono ?_; rintro e w3 ⟨rfl, k3, k4⟩; have HS3 := Lib.hid (HQ2.out _ _ (by assumption) k4); have K := Lib.hid (And.intro k3 ((fr_none (may := A.may V.L) (grown_trans HG.out (by assumption))).trans k4)); clear k3 k4))
  all_goals
    go_wp2
    go_ret
    exact ⟨rfl, K.out⟩

/-! Count -/
/-- How many of the first k slots are in a state. -/
def cntS (S : Nat → Nat) (x : Int) : Nat → Nat
  | 0 => 0
  | k + 1 => cntS S x k + if ((S k : Nat) : Int) = x then 1 else 0
theorem cntS_le (S : Nat → Nat) (x : Int) : ∀ k, cntS S x k ≤ k
  | 0 => Nat.le_refl _
  | k + 1 => by have := cntS_le S x k; simp only [cntS]; split <;> omega
theorem cntS_zero {S : Nat → Nat} {x : Int} : ∀ {n : Nat}, cntS S x n = 0 ↔ ∀ k, k < n → ((S k : Nat) : Int) ≠ x
  | 0 => by simp [cntS]
  | n + 1 => by
    simp only [cntS]
    constructor
    · intro h k hk
      by_cases e : ((S n : Nat) : Int) = x
      · rw [if_pos e] at h; omega
      · rcases Nat.lt_or_ge k n with h1 | h1
        · rw [if_neg e] at h; exact (cntS_zero (n := n)).1 (by omega) k h1
        · rw [show k = n by omega]; exact e
    · intro h
      rw [(cntS_zero (n := n)).2 (fun k hk => h k (by omega)), if_neg (h n (by omega))]
set_option maxRecDepth 100000 in
set_option maxHeartbeats 1000000 in
theorem scount_at {w : World} {X : Pl} {Y : Nm} {S : Nat → Nat} {f : Int} {B : Nat → Nat} (h : SlAt w X Y S f B) (hst : ∀ k, S k ≤ 2) (x : Int) :
    Calls Tryz.prog 70 #[.pointer (some ⟨X.p, 0, none⟩), .int .i64 x] w fun e w' => e = .returned (.int .i64 (cntS S x Y.n : Nat)) ∧ w = w' := by
  have HN := Lib.hid (slots_at h)
  have hn := h.ok.c.facts.n16
  have HS := Lib.hid (fun k (hk : k < Y.n) => state_in h hk (hst k))
  clear h hst
  go_enter Tryz.func70, Tryz.ntmps70
  go_wp2_with (go_at_call 135; refine HN.out.mono ?_; rintro e w' ⟨rfl, rfl⟩)
  clear HN
  go_loop [5, 9] (fun c i => ∃ m : Nat, m ≤ Y.n ∧ c = .int .i64 (cntS S x m : Nat) ∧ i = .int .i64 m) (fun _ i => Y.n - (intOf i).toNat)
  case atStart => exact ⟨0, Nat.zero_le _, rfl, rfl⟩
  case round =>
    obtain ⟨m, hm, rfl, rfl⟩ := hrel
    by_cases hlt : m < Y.n
    · have HT := Lib.hid (HS.out m hlt)
      have hle := cntS_le S x m
      obtain ⟨v, hv⟩ : ∃ v : Nat, S m = v := ⟨_, rfl⟩
      rw [hv] at HT
      have HNX : Hid (cntS S x (m + 1) = cntS S x m + if ((v : Nat) : Int) = x then 1 else 0) := Lib.hid (by rw [← hv]; rfl)
      clear hv
      generalize cntS S x m = c at *
      by_cases e : ((v : Nat) : Int) = x
      · have e1 : (((v : Nat) : Int) == x) = true := by simpa using e
        have HC2 : Hid (cntS S x (m + 1) = c + 1) := Lib.hid (by rw [HNX.out, if_pos e])
        clear e HNX
        go_wp2_with (go_at_call 118; refine HT.out.mono ?_; rintro e w' ⟨rfl, rfl⟩)
        go_round
        case rel => exact ⟨m + 1, by omega, by have := HC2.out; go_num, by go_num⟩
        case measure => simp [intOf]; omega
      · have e1 : (((v : Nat) : Int) == x) = false := by simpa using e
        have HC2 : Hid (cntS S x (m + 1) = c) := Lib.hid (by rw [HNX.out, if_neg e]; rfl)
        clear e HNX
        go_wp2_with (go_at_call 118; refine HT.out.mono ?_; rintro e w' ⟨rfl, rfl⟩)
        go_round
        case rel => exact ⟨m + 1, by omega, by have := HC2.out; go_num, by go_num⟩
        case measure => simp [intOf]; omega
    · obtain rfl : m = Y.n := by omega
      go_wp2
      go_ret
      exact ⟨rfl, rfl⟩
end Go.Proofs.YtgnfcklippjeeaaGreat
