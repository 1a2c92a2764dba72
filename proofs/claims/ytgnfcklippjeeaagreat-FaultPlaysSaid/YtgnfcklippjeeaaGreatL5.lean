/- Merged texts: OU NM NN OV OW QA. -/
import Derived.Test.YtgnfcklippjeeaaGreatL1
import Derived.Test.YtgnfcklippjeeaaGreatL3
import Derived.Test.YtgnfcklippjeeaaGreatK9
import Derived.Deep.RegionLaw
/- The document's region: the walks of Owner, Home. -/
namespace Go.Proofs.YtgnfcklippjeeaaGreat
open Go.RowKit
open Sl (Cls bs upd LnkIs)
open Lg (pgs)
open Rf (LZ)

/-- Whose the page of slots is that a byte lies in. -/
inductive OwnIs (V : St) (a : Int) : Int → Prop
  | out (h : a < 0 ∨ (V.n * 256 : Nat) ≤ a) : OwnIs V a (-1)
  | none (g x : Nat) (e : a = x) (hg : x / 256 = g) (hn : g < V.n) (hl : V.L g = .none) : OwnIs V a (-1)
  | some (g x : Nat) (d : Sd) (e : a = x) (hg : x / 256 = g) (hn : g < V.n) (hl : V.L g = some d) : OwnIs V a (d.o : Nat)
theorem own_ex (V : St) (a : Int) : ∃ y, OwnIs V a y := by
  by_cases h : a < 0 ∨ (V.n * 256 : Nat) ≤ a
  · exact ⟨_, .out h⟩
  · obtain ⟨x, rfl⟩ : ∃ x : Nat, a = x := ⟨a.toNat, by omega⟩
    have hn : x / 256 < V.n := by omega
    cases hl : V.L (x / 256) with
    | none => exact ⟨_, .none _ x rfl rfl hn hl⟩
    | some d => exact ⟨_, .some _ x d rfl rfl hn hl⟩
set_option maxRecDepth 100000 in
set_option maxHeartbeats 1000000 in
theorem downer_at {w : World} {T : Nat → Nat} {D : Dp} {V : St} (h : DrW w T D V) (hn : V.n ≤ 256) {a y : Int} (hy : OwnIs V a y) :
    Calls Tryz.prog 59 #[.pointer (some ⟨D.p, 0, none⟩), .int .i64 a] w fun e w' => e = .returned (.int .i64 y) ∧ w = w' := by
  obtain ⟨q, cap, b1, b2, b3, b4⟩ := h.bt
  cases hy with
  | out ha =>
    have hd : decide (a < 0) = true ∨ (decide (a < 0) = false ∧ decide (a ≥ ((V.n * 256 : Nat) : Int)) = true) := by
      by_cases h0 : a < 0
      · exact .inl (decide_eq_true h0)
      · exact .inr ⟨decide_eq_false h0, decide_eq_true (by omega)⟩
    clear h ha b2 b3 b4
    generalize V.n * 256 = N at *
    rcases hd with e0 | ⟨e0, e1⟩
    · go_enter Tryz.func59, Tryz.ntmps59
      go_wp2
      go_ret
      exact ⟨rfl, rfl⟩
    · go_enter Tryz.func59, Tryz.ntmps59
      go_wp2
      go_ret
      exact ⟨rfl, rfl⟩
  | none g x e hg hgn hl =>
    subst e
    obtain ⟨ql, cl, l1, l2⟩ := h.look hgn
    rw [D.ptr_none hl] at l2
    have e0 : decide ((x : Int) < 0) = false := decide_eq_false (by omega)
    have e1 : decide (V.n * 256 ≤ x) = false := decide_eq_false (by omega)
    have e1' : ¬ V.n * 256 ≤ x := by omega
    have e2 : (x : Int).tdiv 256 = (g : Int) := by rw [Int.tdiv_eq_ediv_of_nonneg (by omega)]; omega
    have hgi : (g : Int) < (V.n : Int) := by omega
    have hx3 : (x : Int) ≤ 65536 := by omega
    clear h hl b2 b3 b4 hg
    generalize V.n * 256 = N at *
    generalize V.n = n at *
    go_enter Tryz.func59, Tryz.ntmps59
    go_wp2
    go_ret
    exact ⟨rfl, rfl⟩
  | some g x d e hg hgn hl =>
    subst e
    obtain ⟨ql, cl, l1, l2⟩ := h.look hgn
    rw [D.ptr_some hl] at l2
    obtain ⟨-, w2, -⟩ := h.wr g d hl
    have e0 : decide ((x : Int) < 0) = false := decide_eq_false (by omega)
    have e1 : decide (V.n * 256 ≤ x) = false := decide_eq_false (by omega)
    have e1' : ¬ V.n * 256 ≤ x := by omega
    have e2 : (x : Int).tdiv 256 = (g : Int) := by rw [Int.tdiv_eq_ediv_of_nonneg (by omega)]; omega
    have hgi : (g : Int) < (V.n : Int) := by omega
    have hx3 : (x : Int) ≤ 65536 := by omega
    clear h hl b2 b3 b4 hg
    generalize V.n * 256 = N at *
    generalize V.n = n at *
    generalize D.ws g = ws at *
    go_enter Tryz.func59, Tryz.ntmps59
    go_wp2
    go_ret
    exact ⟨rfl, rfl⟩

/-- A page of slots of a class and an owner that has a free one. -/
def HomP (V : St) (c o : Int) (g : Nat) : Prop := ∃ d, V.L g = some d ∧ ((d.c : Nat) : Int) = c ∧ ((d.o : Nat) : Int) = o ∧ 0 < cntS d.S 0 d.n
inductive HomeIs (V : St) (c o : Int) : Int → Prop
  | yes (g : Nat) (hg : g < V.m) (h : HomP V c o g) (hn : ∀ j, j < g → ¬ HomP V c o j) : HomeIs V c o (g : Nat)
  | no (hn : ∀ g, ¬ HomP V c o g) : HomeIs V c o (-1)
theorem least_ex {P : Nat → Prop} (h : ∃ n, P n) : ∃ n, P n ∧ ∀ j, j < n → ¬ P j := by
  classical
  obtain ⟨n, hn⟩ := h
  induction n using Nat.strongRecOn with
  | ind n ih =>
    by_cases e : ∃ j, j < n ∧ P j
    · obtain ⟨j, hj, hp⟩ := e
      exact ih j hj hp
    · exact ⟨n, hn, fun j hj hp => e ⟨j, hj, hp⟩⟩
theorem home_ex {V : St} (ok : V.Ok) (c o : Int) : ∃ y, HomeIs V c o y := by
  classical
  by_cases h : ∃ g, HomP V c o g
  · obtain ⟨g, h1, h2⟩ := least_ex h
    obtain ⟨d, hd, _⟩ := id h1
    exact ⟨_, .yes g (ok.sl g d hd).1 h1 h2⟩
  · exact ⟨_, .no (fun g hg => h ⟨g, hg⟩)⟩
theorem HomeIs.uniq {V : St} {c o x y : Int} (hx : HomeIs V c o x) (hy : HomeIs V c o y) : x = y := by
  cases hx with
  | yes g hg h hn =>
    cases hy with
    | yes k hk h' hn' =>
      rcases Nat.lt_trichotomy g k with e | e | e
      · exact absurd h (hn' g e)
      · rw [e]
      · exact absurd h' (hn k e)
    | no hn' => exact absurd h (hn' g)
  | no hn =>
    cases hy with
    | yes k hk h' hn' => exact absurd h' (hn k)
    | no hn' => rfl
set_option maxRecDepth 100000 in
set_option maxHeartbeats 2000000 in
theorem dhome_at {w : World} {T : Nat → Nat} {D : Dp} {V : St} (h : DrAt w T D V) {c o y : Int} (hy : HomeIs V c o y) :
    Calls Tryz.prog 58 #[.pointer (some ⟨D.p, 0, none⟩), .int .i64 c, .int .i64 o] w fun e w' => e = .returned (.int .i64 y) ∧ w = w' := by
  obtain ⟨ql, cl, l1, l2, l3, l4, l5, l6⟩ := h.ls
  have HL := Lib.hid l6
  have hn := h.ok.n256
  have hni : (V.n : Int) ≤ 256 := by omega
  have HU := Lib.hid (fun y' (hy' : HomeIs V c o y') => HomeIs.uniq hy' hy)
  have HM := Lib.hid (fun g (hg : HomP V c o g) => show g < V.m from by obtain ⟨d, hd, _⟩ := hg; exact (h.ok.sl g d hd).1)
  have HN : Hid (∀ g, V.n ≤ g → ¬ HomP V c o g) := Lib.hid (fun g hg ⟨d, hd, _⟩ => by have := (h.ok.sl g d hd).1; have := h.ok.mn; omega)
  have HP : Hid (∀ g d, V.L g = some d → w.cell? ⟨D.ws g, 0, none⟩ = some (.pointer (some ⟨D.xs g, 0, none⟩)) ∧ w.cell? ⟨D.ws g, 1, none⟩ = some (.int .i64 (d.o : Nat)) ∧ w.cell? ⟨D.xs g, 3, none⟩ = some (.int .i64 (d.c : Nat)) ∧ Calls Tryz.prog 114 #[.pointer (some ⟨D.xs g, 0, none⟩), .int .i64 0] w fun e w' => e = .returned (.int .i64 (cntS d.S 0 d.n : Nat)) ∧ w = w') := Lib.hid (fun g d hl => by
    obtain ⟨q, cap, A, ac, B, s1, -, -⟩ := h.sl g d hl
    have hd := (h.ok.sl g d hl).2.2
    exact ⟨(h.wr g d hl).1, (h.wr g d hl).2.1, s1.c3, dcount_at s1.c4 s1.st hd.c.facts.n16 0⟩)
  have HCL := Lib.hid (fun k d (hl : V.L k = some d) => (h.ok.sl k d hl).2.2.c.facts.n16)
  clear h hy hn l2 l3 l4 l5 l6
  go_enter Tryz.func58, Tryz.ntmps58
  go_wp2_with fail
  obtain ⟨w2, hw2⟩ : ∃ w2 : World, w2 = w := ⟨_, rfl⟩
  clear hw2
  go_loopw [14] (fun i wr => ∃ k : Nat, k ≤ V.n ∧ i = .int .i64 k ∧ wr = w ∧ ∀ j, j < k → ¬ HomP V c o j) (fun i _ => V.n - (intOf i).toNat)
  case atStart => exact ⟨0, by omega, rfl, rfl, fun j hj => by omega⟩
  case round =>
    obtain ⟨k, hk, rfl, rfl, hno⟩ := hrel
    have HO := Lib.hid hno
    clear hno
    by_cases hlt : k < V.n
    · have d0 := HL.out k hlt
      have hlti : (k : Int) < (V.n : Int) := by omega
      have HNX : Hid (¬ HomP V c o k → ∀ j, j < k + 1 → ¬ HomP V c o j) := Lib.hid (fun hf j hj => by
        by_cases e : j < k
        · exact HO.out j e
        · obtain rfl : j = k := by omega
          exact hf)
      cases hl : V.L k with
      | none =>
        rw [D.ptr_none hl] at d0
        have HX := Lib.hid (HNX.out (fun ⟨d, hd, _⟩ => by rw [hl] at hd; cases hd))
        clear hl HNX
        go_wp2
        go_roundw
        case rel => exact ⟨k + 1, by omega, by go_num, trivial, HX.out⟩
        case measure => simp [intOf]; omega
      | some d =>
        rw [D.ptr_some hl] at d0
        obtain ⟨p1, p2, p3, p4⟩ := HP.out k d hl
        have HCT := Lib.hid p4
        have HYES : Hid (((d.c : Nat) : Int) = c → ((d.o : Nat) : Int) = o → 0 < cntS d.S 0 d.n → y = (k : Nat)) := Lib.hid (fun h1 h2 h3 => (HU.out _ (.yes k (HM.out k ⟨d, hl, h1, h2, h3⟩) ⟨d, hl, h1, h2, h3⟩ HO.out)).symm)
        have HNOT : Hid ((((d.c : Nat) : Int) = c → ((d.o : Nat) : Int) = o → ¬ 0 < cntS d.S 0 d.n) → ∀ j, j < k + 1 → ¬ HomP V c o j) := Lib.hid (fun hf => HNX.out (fun ⟨d', hd', h1, h2, h3⟩ => by rw [hl] at hd'; cases hd'; exact hf h1 h2 h3))
        have hct : ((cntS d.S 0 d.n : Nat) : Int) ≤ 65536 := by have := cntS_le d.S 0 d.n; have := HCL.out k d hl; omega
        clear hl HNX p4
        generalize cntS d.S 0 d.n = cn at *
        generalize ((d.c : Nat) : Int) = dc at *
        generalize ((d.o : Nat) : Int) = dd at *
        generalize D.ws k = ws at *
        generalize D.xs k = xs at *
        by_cases h1 : dc = c
        · have f1 : (dc == c) = true := by simpa using h1
          have H1 := Lib.hid h1
          clear h1
          by_cases h2 : dd = o
          · have f2 : (dd == o) = true := by simpa using h2
            have H2 := Lib.hid h2
            clear h2
            by_cases h3 : 0 < cn
            · have f3 : decide ((cn : Int) > 0) = true := decide_eq_true (by omega)
              have HY := Lib.hid (HYES.out H1.out H2.out h3)
              clear HYES HNOT
              go_wp2_with (go_at_call 114; (with_reducible refine HCT.out.mono ?_); rintro e w' ⟨rfl, rfl⟩)
              go_ret
              exact ⟨by rw [HY.out]; rfl, rfl⟩
            · have f3 : decide ((cn : Int) > 0) = false := decide_eq_false (by omega)
              have HX := Lib.hid (HNOT.out (fun _ _ => h3))
              have f4 : cn = 0 := by omega
              clear HYES HNOT h3
              go_wp2_with (go_at_call 114; (with_reducible refine HCT.out.mono ?_); rintro e w' ⟨rfl, rfl⟩)
              go_roundw
              case rel => exact ⟨k + 1, by omega, by go_num, trivial, HX.out⟩
              case measure => simp [intOf]; omega
          · have f2 : (dd == o) = false := by simpa using h2
            have HX := Lib.hid (HNOT.out (fun _ h => absurd h h2))
            clear HYES HNOT h2
            go_wp2
            go_roundw
            case rel => exact ⟨k + 1, by omega, by go_num, trivial, HX.out⟩
            case measure => simp [intOf]; omega
        · have f1 : (dc == c) = false := by simpa using h1
          have HX := Lib.hid (HNOT.out (fun h => absurd h h1))
          clear HYES HNOT h1
          go_wp2
          go_roundw
          case rel => exact ⟨k + 1, by omega, by go_num, trivial, HX.out⟩
          case measure => simp [intOf]; omega
    · have hkn : k = V.n := by omega
      have HY := Lib.hid (HU.out _ (.no (fun g hg => by
        by_cases e : g < k
        · exact HO.out g e hg
        · exact HN.out g (by omega) hg)))
      subst hkn
      go_wp2
      go_ret
      exact ⟨by rw [← HY.out]; rfl, rfl⟩
end Go.Proofs.YtgnfcklippjeeaaGreat

/- The walks of a region's Owner, Count, Home. -/
namespace Go.Proofs.YtgnfcklippjeeaaGreat
open Go.RowKit
open Sl (Cls bs upd)
open Lg (pgs)

theorem St.Ok.l_in {V : St} (h : V.Ok) {g : Nat} {d : Sd} (hl : V.L g = some d) : g < V.n := by have := (h.sl g d hl).1; have := h.mn; omega
theorem pgV_wf (a : Int) : WF (pgV a) := by unfold pgV; split <;> constructor <;> omega
set_option maxRecDepth 100000 in
set_option maxHeartbeats 1000000 in
theorem rowner_none {w : World} {A : Rp} {V : St} {cnt : Nat} (h : RnAt w A V cnt) {a : Int} (hl : ∀ g : Nat, pgV a = g → V.L g = none) :
    Calls Tryz.prog 32 #[.pointer (some ⟨A.p, 0, none⟩), .int .i64 a] w fun e w' => e = .returned (.int .i64 (-1)) ∧ w.grownBy w' none := by
  have HPg := Lib.hid (fun W => pageOf_at a W)
  have HS := Lib.hid (fun W (g1 : w.grownBy W none) => slots_none (h.grown g1) (pgV a) (pgV_wf a) hl)
  clear h hl
  generalize pgV a = page at *
  go_enter Tryz.func32, Tryz.ntmps32
  go_wp2_with fail
  refine (HPg.out _).mono ?_
  rintro e w1 ⟨rfl, m1⟩
  go_wp2_with fail
  refine (HS.out _ m1).mono ?_
  rintro e w2 ⟨rfl, m2⟩
  have HE := Lib.hid (grown_trans m1 m2)
  clear m1 m2
  go_wp2
  go_ret
  exact ⟨rfl, HE.out⟩
set_option maxRecDepth 100000 in
set_option maxHeartbeats 1000000 in
theorem rowner_some {w : World} {A : Rp} {V : St} {cnt g : Nat} {d : Sd} (h : RnAt w A V cnt) {a : Int} (hp : pgV a = (g : Nat)) (hl : V.L g = some d) :
    Calls Tryz.prog 32 #[.pointer (some ⟨A.p, 0, none⟩), .int .i64 a] w fun e w' => e = .returned (.int .i64 (d.o : Nat)) ∧ w.grownBy w' none := by
  have HPg := Lib.hid (fun W => pageOf_at a W)
  rw [hp] at HPg
  have HS := Lib.hid (fun W (g1 : w.grownBy W none) => slots_some (h.grown g1) hl)
  have HO := Lib.hid (fun W (g1 : w.grownBy W none) => sowner_own ((h.grown g1).sl g d hl).own)
  simp only [nmOf] at HO
  clear h hl hp
  generalize ((d.o : Nat) : Int) = o at *
  go_enter Tryz.func32, Tryz.ntmps32
  go_wp2_with fail
  refine (HPg.out _).mono ?_
  rintro e w1 ⟨rfl, m1⟩
  go_wp2_with fail
  refine (HS.out _ m1).mono ?_
  rintro e w2 ⟨rfl, m2⟩
  have n2 := grown_trans m1 m2
  go_wp2_with fail
  refine (HO.out _ n2).mono ?_
  rintro e w3 ⟨rfl, rfl⟩
  have HE := Lib.hid n2
  clear m1 m2 n2
  go_wp2
  go_ret
  exact ⟨rfl, HE.out⟩
theorem rowner_at {w : World} {A : Rp} {V : St} {cnt : Nat} (h : RnAt w A V cnt) {a y : Int} (hy : OwnIs V a y) :
    Calls Tryz.prog 32 #[.pointer (some ⟨A.p, 0, none⟩), .int .i64 a] w fun e w' => e = .returned (.int .i64 y) ∧ w.grownBy w' none := by
  have hn := h.ok.n256
  cases hy with
  | out ha =>
    refine rowner_none h (fun g hg => ?_)
    cases hl : V.L g with
    | none => rfl
    | some d =>
      have := h.ok.l_in hl
      unfold pgV at hg
      split at hg <;> omega
  | none g x e hg hgn hl =>
    subst e
    refine rowner_none h (fun k hk => ?_)
    rw [pgV_in (by omega)] at hk
    have : k = g := by omega
    rw [this]; exact hl
  | some g x d e hg hgn hl =>
    subst e
    exact rowner_some h (by rw [pgV_in (by omega), hg]) hl
set_option maxRecDepth 100000 in
set_option maxHeartbeats 1000000 in
theorem rcount_some {w : World} {A : Rp} {V : St} {cnt g : Nat} {d : Sd} (h : RnAt w A V cnt) (hl : V.L g = some d) (x : Int) :
    Calls Tryz.prog 33 #[.pointer (some ⟨A.p, 0, none⟩), .int .i64 g, .int .i64 x] w fun e w' => e = .returned (.int .i64 (cntS d.S x d.n : Nat)) ∧ w.grownBy w' none := by
  have HS := Lib.hid (fun W (g1 : w.grownBy W none) => slots_some (h.grown g1) hl)
  have HC := Lib.hid (fun W (g1 : w.grownBy W none) => (h.grown g1).count_slab hl x)
  clear h hl
  go_enter Tryz.func33, Tryz.ntmps33
  go_wp2_with fail
  refine (HS.out _ (grown_refl _ _)).mono ?_
  rintro e w1 ⟨rfl, m1⟩
  go_wp2_with fail
  refine (HC.out _ m1).mono ?_
  rintro e w2 ⟨rfl, rfl⟩
  have HE := Lib.hid m1
  clear m1
  go_wp2
  go_ret
  exact ⟨rfl, HE.out⟩
end Go.Proofs.YtgnfcklippjeeaaGreat

/- The walk of a region's Home. -/
namespace Go.Proofs.YtgnfcklippjeeaaGreat
open Go.RowKit
open Sl (Cls bs upd)
open Lg (pgs)

theorem hom_row {V : St} (ok : V.Ok) {c o : Int} {g : Nat} (hg : g < V.n) (hr : V.R g = ⟨1, c, o, 1⟩) : ∃ d, V.L g = some d ∧ ((d.c : Nat) : Int) = c ∧ ((d.o : Nat) : Int) = o := by
  obtain ⟨d, hd⟩ := Option.ne_none_iff_exists'.1 (ok.k1 g hg (by rw [hr]))
  have h := (ok.sl g d hd).2.1
  rw [hr] at h
  injection h with _ h1 h2 _
  exact ⟨d, hd, h1.symm, h2.symm⟩
theorem row_hom {V : St} (ok : V.Ok) {c o : Int} {g : Nat} (h : HomP V c o g) : V.R g = ⟨1, c, o, 1⟩ := by
  obtain ⟨d, hd, h1, h2, _⟩ := h
  rw [(ok.sl g d hd).2.1, ← h1, ← h2]
  rfl
/-- What Home answers. -/
def homV (y : Int) : Value := if y < 0 then .tuple #[.int .i64 0, .bool false] else .tuple #[.int .i64 y, .bool true]
set_option maxRecDepth 100000 in
set_option maxHeartbeats 2000000 in
theorem rhome_at {w : World} {A : Rp} {V : St} {cnt : Nat} (h : RnAt w A V cnt) {c o y : Int} (hy : HomeIs V c o y) :
    Calls Tryz.prog 31 #[.pointer (some ⟨A.p, 0, none⟩), .int .i64 c, .int .i64 o] w fun e w' => e = .returned (homV y) ∧ w.grownBy w' none := by
  have hn := h.ok.n256
  have hmn := h.ok.mn
  have H := Lib.hid h
  have HCF := Lib.hid (config_at h.toRnW)
  have HU := Lib.hid (fun y' (hy' : HomeIs V c o y') => HomeIs.uniq hy' hy)
  have hmi : ((V.m : Nat) : Int) ≤ 256 := by omega
  have HGT : Hid (∀ g, V.m ≤ g → ¬ HomP V c o g) := Lib.hid (fun g hg ⟨d, hd, _⟩ => by have := (h.ok.sl g d hd).1; omega)
  have HMN := Lib.hid hmn
  have HSR := Lib.hid (fun W => slotsRow_at c o W)
  have HC4 := Lib.hid (fun W (g1 : w.grownBy W none) => (h.grown g1).c4)
  have hfd := cfg_field0 ((V.m : Nat) : Int) ((V.n : Int) - (V.m : Int)) (A.seed : Nat)
  clear h hy hn hmn
  generalize (V.n : Int) - (V.m : Int) = mg at *
  go_enter Tryz.func31, Tryz.ntmps31
  go_wp2_with fail
  refine HCF.out.mono ?_
  rintro e w1 ⟨rfl, m1⟩
  have HG1 := Lib.hid m1
  clear m1
  go_wp2_with fail
  obtain ⟨w2, hw2⟩ : ∃ w2 : World, w2 = w1 := ⟨_, rfl⟩
  rw [← hw2] at HG1 ⊢
  clear hw2
  go_loopw [8, 12] (fun _ i wr => ∃ k : Nat, k ≤ V.m ∧ i = .int .i64 k ∧ w.grownBy wr none ∧ ∀ j, j < k → ¬ HomP V c o j) (fun _ i _ => V.m - (intOf i).toNat)
  case atStart => exact ⟨0, by omega, rfl, HG1.out, fun j hj => by omega⟩
  case round =>
    obtain ⟨k, hk, rfl, hg, hno⟩ := hrel
    have HO := Lib.hid hno
    have HG := Lib.hid hg
    clear hno hg
    by_cases hlt : k < V.m
    · have hki : (k : Int) < ((V.m : Nat) : Int) := by omega
      have hkn : k < V.n := by have := HMN.out; omega
      have c4 := HC4.out _ HG.out
      have HNX : Hid (¬ HomP V c o k → ∀ j, j < k + 1 → ¬ HomP V c o j) := Lib.hid (fun hf j hj => by
        by_cases e : j < k
        · exact HO.out j e
        · obtain rfl : j = k := by omega
          exact hf)
      by_cases e : V.R k = ⟨1, c, o, 1⟩
      · obtain ⟨d, hd, h1, h2⟩ := hom_row H.out.ok hkn e
        have HROW := Lib.hid (fun W (g1 : w.grownBy W none) => (H.out.grown g1).row (k : Int) (a := 1) (b := c) (c := o) (d := 1) (by rw [V.row_in hkn, e]))
        have HCT := Lib.hid (fun W (g1 : w.grownBy W none) => rcount_some (H.out.grown g1) hd 0)
        have HYES : Hid (0 < cntS d.S 0 d.n → y = (k : Nat)) := Lib.hid (fun h3 => (HU.out _ (.yes k hlt ⟨d, hd, h1, h2, h3⟩ HO.out)).symm)
        have HNOT : Hid (¬ 0 < cntS d.S 0 d.n → ∀ j, j < k + 1 → ¬ HomP V c o j) := Lib.hid (fun hf => HNX.out (fun ⟨d', hd', _, _, h3⟩ => by rw [hd] at hd'; cases hd'; exact hf h3))
        have hct : ((cntS d.S 0 d.n : Nat) : Int) ≤ 65536 := by have := cntS_le d.S 0 d.n; have := (H.out.ok.sl k d hd).2.2.c.facts.n16; omega
        clear e hd h1 h2 HNX hlt hkn
        generalize cntS d.S 0 d.n = cn at *
        go_wp2_with fail
        refine (HROW.out _ HG.out).mono ?_
        rintro e w3 ⟨rfl, m3⟩
        go_wp2_with fail
        refine (HSR.out _).mono ?_
        rintro e w4 ⟨rfl, m4⟩
        have HG4 := Lib.hid (grown_trans (grown_trans HG.out m3) m4)
        clear m3 m4
        by_cases h3 : 0 < cn
        · have f3 : decide ((cn : Int) > 0) = true := decide_eq_true (by omega)
          have HY := Lib.hid (HYES.out h3)
          clear HYES HNOT
          go_wp2_with fail
          refine (HCT.out _ HG4.out).mono ?_
          rintro e w5 ⟨rfl, m5⟩
          have HE := Lib.hid (grown_trans HG4.out m5)
          clear m5
          go_wp2
          go_ret2
          exact ⟨by rw [HY.out]; unfold homV; rw [if_neg (by omega)]; rfl, HE.out⟩
        · have f3 : decide ((cn : Int) > 0) = false := decide_eq_false (by omega)
          have f4 : cn = 0 := by omega
          have HX := Lib.hid (HNOT.out h3)
          clear HYES HNOT h3
          go_wp2_with fail
          refine (HCT.out _ HG4.out).mono ?_
          rintro e w5 ⟨rfl, m5⟩
          have HE := Lib.hid (grown_trans HG4.out m5)
          clear m5
          go_wp2
          go_roundw
          case rel => exact ⟨k + 1, by omega, by go_num, HE.out, HX.out⟩
          case measure => simp [intOf]; omega
      · have HX := Lib.hid (HNX.out (fun hh => e (row_hom H.out.ok hh)))
        obtain ⟨r1, r2, r3, r4, hR⟩ : ∃ r1 r2 r3 r4 : Int, V.R k = ⟨r1, r2, r3, r4⟩ := ⟨_, _, _, _, rfl⟩
        have HROW := Lib.hid (fun W (g1 : w.grownBy W none) => (H.out.grown g1).row (k : Int) (a := r1) (b := r2) (c := r3) (d := r4) (by rw [V.row_in hkn, hR]))
        have hne : ¬ (r1 = 1 ∧ r2 = c ∧ r3 = o ∧ r4 = 1) := fun ⟨a1, a2, a3, a4⟩ => e (by rw [hR, a1, a2, a3, a4])
        clear e hR HNX hkn
        go_wp2_with fail
        refine (HROW.out _ HG.out).mono ?_
        rintro e w3 ⟨rfl, m3⟩
        go_wp2_with fail
        refine (HSR.out _).mono ?_
        rintro e w4 ⟨rfl, m4⟩
        have HG4 := Lib.hid (grown_trans (grown_trans HG.out m3) m4)
        clear m3 m4
        go_wp2_with fail
        all_goals exact ⟨⟨k + 1, by omega, by go_num, HG4.out, HX.out⟩, by simp [intOf]; omega⟩
    · obtain rfl : k = V.m := by omega
      have HY := Lib.hid (HU.out _ (.no (fun g hg => by
        by_cases e : g < V.m
        · exact HO.out g e hg
        · exact HGT.out g (by omega) hg)))
      go_wp2
      go_ret2
      exact ⟨by rw [← HY.out]; rfl, HG.out⟩
end Go.Proofs.YtgnfcklippjeeaaGreat

/- The document's region: the walk of New. -/
namespace Go.Proofs.YtgnfcklippjeeaaGreat
open Go.RowKit
open Sl (Cls bs upd)
open Lg (pgs)
open Rf (LZ)

/-- makeSlice by an equation, as one step of a region that draws. -/
theorem step_make_run {P : Program} {ops : Array Oper} {o : Oper} {a : Go.Act} {w : World} {K : Go.Act → World → Prop} {Q : Exit → Go.Act → World → Prop} {E : Prop}
    (hg : o.guard = none) (t : TypeId) (s x : Operand) (hop : o.op = Op.makeSlice t s x)
    (v1 v2 v' : Value) (w' : World) (hs : a.eval s = v1) (hx : a.eval x = v2) (hrun : (Instr.makeSlice t v1 v2).run P w = .ok v' w') (hK : K (a.put o.dst v') w') :
    if Region.wanted o (yielded ops a.tmps) = true then Oper.wp P o a w K Q else E := by
  have hw : Region.wanted o (yielded ops a.tmps) = true := by simp [Region.wanted, hg]
  rw [if_pos hw]
  unfold Oper.wp execOp
  simp only [hop, Sem.run_bind, Sem.run_pure, Result.andThen_ok, hs, hx, hrun]
  exact hK
def zeroPtrs (n : Nat) : Array Value := madeCells (Value.pointer none).cells n
theorem zeroPtrs_at (n k : Nat) (h : k < n) : (zeroPtrs n)[k]? = some (.pointer none) := by
  simp [zeroPtrs, madeCells, Value.cells, h, Nat.mod_one]
theorem ptrs_new (w : World) (t : TypeId) (n : Nat) : ValsAt (w.alloc (.cells (zeroPtrs n) t)) w.heap.size n (fun _ => .pointer none) where
  c := fun i hi => by rw [cell_alloc_new]; exact zeroPtrs_at n _ hi
  fz := fun k => frozen_alloc_new ..
  qlt := by simp
theorem make_ptrs (w : World) (n : Nat) (hn : n ≤ 65536) : (Instr.makeSlice 43 (.int .i64 (n : Int)) (.int .i64 (n : Int))).run Tryz.prog w =
    .ok (.slice (some ⟨w.heap.size, 0, none⟩) n n) (w.alloc (.cells (zeroPtrs n) 167)) := by
  obtain ⟨i0, hi, hz0, hz1, hz2⟩ := info_parts infoSlabP
  have h := run_make (P := Tryz.prog) w 43 167 i0 (.pointer none) Tryz.underlying43 hi hz0 .i64 .i64 n n (by omega) (Int.le_refl _) (by rw [hz2]; omega) (by omega)
  rw [hz1, Nat.mul_one, Int.toNat_natCast] at h
  exact h
set_option maxHeartbeats 1000000 in
theorem rkey_at (s : Nat) (w : World) :
    Calls Tryz.prog 101 #[.int .u64 s] w fun e w' => e = .returned (.int .u64 (keyOf s : Nat)) ∧ w = w' := by
  have e1 := wrap_seed s
  have HM : Hid (∀ w, Calls Tryz.prog 156 #[.int .u64 (Li.sum s 11400714819323198485 : Nat)] w fun e w' => e = .returned (.int .u64 (keyOf s : Nat)) ∧ w = w') := fun w => rmix_at _ (Li.sum_lt _ _) w
  generalize keyOf s = key at *
  generalize Li.sum s 11400714819323198485 = y at *
  go_enter Tryz.func101, Tryz.ntmps101
  go_wp2_with (go_at_call 156; refine (HM.out _).mono ?_; rintro e w' ⟨rfl, rfl⟩)
  go_ret
  exact ⟨rfl, rfl⟩
/-- A new region of the document's, its set not there yet. -/
def RNw (w w' : World) (m n key : Nat) (v : Value) : Prop := ∃ p qb cb qr cr ql cl, v = .pointer (some ⟨p, 0, none⟩) ∧ w'.cell? ⟨p, 0, none⟩ = some (.int .i64 (m : Nat)) ∧ w'.cell? ⟨p, 1, none⟩ = some (.int .u64 (key : Nat)) ∧ w'.cell? ⟨p, 2, none⟩ = some (.slice (some ⟨qb, 0, none⟩) (n * 256) cb) ∧ w'.cell? ⟨p, 3, none⟩ = some (.slice (some ⟨qr, 0, none⟩) n cr) ∧ w'.cell? ⟨p, 4, none⟩ = some (.slice (some ⟨ql, 0, none⟩) n cl) ∧ w'.cell? ⟨p, 5, none⟩ = some (.pointer none) ∧
  (∀ k, w'.frozen? ⟨p, k, none⟩ = false) ∧ An.BytesAt w' qb (n * 256) (fun _ => 0) ∧ Pt.RowsAt w' qr n (fun _ => Pg.zero) ∧ ValsAt w' ql n (fun _ => .pointer none) ∧ n * 256 ≤ cb ∧ n ≤ cr ∧ n ≤ cl ∧ w.heap.size ≤ p ∧ w.heap.size ≤ qb ∧ w.heap.size ≤ qr ∧ w.heap.size ≤ ql ∧ qb < p ∧ qr < p ∧ ql < p ∧ w.grownBy w' none
theorem rnw_made {w W : World} {m n key qb cb qr cr ql cl : Nat} (hg : w.grownBy W none) (hb : An.BytesAt W qb (n * 256) (fun _ => 0)) (hr : Pt.RowsAt W qr n (fun _ => Pg.zero)) (hl : ValsAt W ql n (fun _ => .pointer none)) (c1 : n * 256 ≤ cb) (c2 : n ≤ cr) (c3 : n ≤ cl) (s1 : w.heap.size ≤ qb) (s2 : w.heap.size ≤ qr) (s3 : w.heap.size ≤ ql) :
    RNw w (W.alloc (.cells #[.int .i64 (m : Nat), .int .u64 (key : Nat), .slice (some ⟨qb, 0, none⟩) (n * 256) cb, .slice (some ⟨qr, 0, none⟩) n cr, .slice (some ⟨ql, 0, none⟩) n cl, .pointer none] 46)) m n key (.pointer (some ⟨W.heap.size, 0, none⟩)) := by
  have ga := grown_alloc W (.cells #[.int .i64 (m : Nat), .int .u64 (key : Nat), .slice (some ⟨qb, 0, none⟩) (n * 256) cb, .slice (some ⟨qr, 0, none⟩) n cr, .slice (some ⟨ql, 0, none⟩) n cl, .pointer none] 46) none
  refine ⟨W.heap.size, qb, cb, qr, cr, ql, cl, rfl, ?_, ?_, ?_, ?_, ?_, ?_, fun k => frozen_alloc_new .., hb.grown ga (by simp), hr.grown ga (by simp), hl.grown ga (by simp), c1, c2, c3, hg.size, s1, s2, s3, hb.qlt, hr.qlt, hl.qlt, grown_trans hg ga⟩ <;> (rw [cell_alloc_new]; rfl)
theorem hal (W : World) (o : Obj) : (W.alloc o).heap.size = W.heap.size + 1 := by simp
theorem rnw_1 {w w3 : World} {m n key qr cr : Nat} (r1 : n ≤ cr) (r2 : ((w.alloc (.cells (An.zeroBytes (n * 256)) 5))).drew.heap.size ≤ qr) (r3 : Pt.RowsAt w3 qr n (fun _ => Pg.zero)) (r4 : ((w.alloc (.cells (An.zeroBytes (n * 256)) 5))).drew.grownBy w3 none) :
    RNw w ((w3.alloc (.cells (zeroPtrs n) 167)).alloc (.cells #[.int .i64 (m : Nat), .int .u64 (key : Nat), .slice (some ⟨w.heap.size, 0, none⟩) (n * 256) (n * 256), .slice (some ⟨qr, 0, none⟩) n cr, .slice (some ⟨w3.heap.size, 0, none⟩) n n, .pointer none] 46)) m n key (.pointer (some ⟨w3.heap.size + 1, 0, none⟩)) := by
  have hx := undrew r4
  have s4 := hx.size
  have s2 : ((w.alloc (.cells (An.zeroBytes (n * 256)) 5))).heap.size ≤ qr := r2
  try simp only [hal] at s4 s2
  have h := rnw_made (w := w) (W := (w3.alloc (.cells (zeroPtrs n) 167))) (m := m) (key := key) (qb := w.heap.size) (ql := w3.heap.size) (cb := n * 256) (cl := n) (cr := cr) (grown_trans (grown_trans (grown_alloc _ _ _) hx) (grown_alloc _ _ _)) (((An.bytes_new w 5 (n * 256)).grown (r := none) hx (by simp)).grown (r := none) (grown_alloc _ _ none) (by simp)) (r3.grown (r := none) (grown_alloc _ _ none) (by simp)) (ptrs_new w3 167 n) (Nat.le_refl _) r1 (Nat.le_refl _) (by omega) (by omega) (by omega)
  try simp only [hal] at h
  exact h
theorem rnw_2 {w w3 : World} {m n key qr cr : Nat} (r1 : n ≤ cr) (r2 : (((w.alloc (.cells (An.zeroBytes (n * 256)) 5)).alloc (.cells (zeroPtrs n) 167))).drew.heap.size ≤ qr) (r3 : Pt.RowsAt w3 qr n (fun _ => Pg.zero)) (r4 : (((w.alloc (.cells (An.zeroBytes (n * 256)) 5)).alloc (.cells (zeroPtrs n) 167))).drew.grownBy w3 none) :
    RNw w (w3.alloc (.cells #[.int .i64 (m : Nat), .int .u64 (key : Nat), .slice (some ⟨w.heap.size, 0, none⟩) (n * 256) (n * 256), .slice (some ⟨qr, 0, none⟩) n cr, .slice (some ⟨w.heap.size + 1, 0, none⟩) n n, .pointer none] 46)) m n key (.pointer (some ⟨w3.heap.size, 0, none⟩)) := by
  have hx := undrew r4
  have s4 := hx.size
  have s2 : (((w.alloc (.cells (An.zeroBytes (n * 256)) 5)).alloc (.cells (zeroPtrs n) 167))).heap.size ≤ qr := r2
  try simp only [hal] at s4 s2
  have h := rnw_made (w := w) (W := w3) (m := m) (key := key) (qb := w.heap.size) (ql := w.heap.size + 1) (cb := n * 256) (cl := n) (cr := cr) (grown_trans (grown_trans (grown_alloc _ _ _) (grown_alloc _ _ _)) hx) (((An.bytes_new w 5 (n * 256)).grown (r := none) (grown_alloc _ _ none) (by simp)).grown (r := none) hx (by simp)) r3 (by have h := ((ptrs_new (w.alloc (.cells (An.zeroBytes (n * 256)) 5)) 167 n).grown (r := none) hx (by simp)); rwa [hal] at h) (Nat.le_refl _) r1 (Nat.le_refl _) (by omega) (by omega) (by omega)
  try simp only [hal] at h
  exact h
theorem rnw_3 {w w3 : World} {m n key qr cr : Nat} (r1 : n ≤ cr) (r2 : (w).drew.heap.size ≤ qr) (r3 : Pt.RowsAt w3 qr n (fun _ => Pg.zero)) (r4 : (w).drew.grownBy w3 none) :
    RNw w (((w3.alloc (.cells (An.zeroBytes (n * 256)) 5)).alloc (.cells (zeroPtrs n) 167)).alloc (.cells #[.int .i64 (m : Nat), .int .u64 (key : Nat), .slice (some ⟨w3.heap.size, 0, none⟩) (n * 256) (n * 256), .slice (some ⟨qr, 0, none⟩) n cr, .slice (some ⟨w3.heap.size + 1, 0, none⟩) n n, .pointer none] 46)) m n key (.pointer (some ⟨w3.heap.size + 1 + 1, 0, none⟩)) := by
  have hx := undrew r4
  have s4 := hx.size
  have s2 : (w).heap.size ≤ qr := r2
  try simp only [hal] at s4 s2
  have h := rnw_made (w := w) (W := ((w3.alloc (.cells (An.zeroBytes (n * 256)) 5)).alloc (.cells (zeroPtrs n) 167))) (m := m) (key := key) (qb := w3.heap.size) (ql := w3.heap.size + 1) (cb := n * 256) (cl := n) (cr := cr) (grown_trans hx (grown_trans (grown_alloc _ _ _) (grown_alloc _ _ _))) ((An.bytes_new w3 5 (n * 256)).grown (r := none) (grown_alloc _ _ none) (by simp)) ((r3.grown (r := none) (grown_alloc _ _ none) (by simp)).grown (r := none) (grown_alloc _ _ none) (by simp)) (by have h := (ptrs_new (w3.alloc (.cells (An.zeroBytes (n * 256)) 5)) 167 n); rwa [hal] at h) (Nat.le_refl _) r1 (Nat.le_refl _) (by omega) (by omega) (by omega)
  try simp only [hal] at h
  exact h
theorem rnw_4 {w w3 : World} {m n key qr cr : Nat} (r1 : n ≤ cr) (r2 : (w).drew.heap.size ≤ qr) (r3 : Pt.RowsAt w3 qr n (fun _ => Pg.zero)) (r4 : (w).drew.grownBy w3 none) :
    RNw w (((w3.alloc (.cells (zeroPtrs n) 167)).alloc (.cells (An.zeroBytes (n * 256)) 5)).alloc (.cells #[.int .i64 (m : Nat), .int .u64 (key : Nat), .slice (some ⟨w3.heap.size + 1, 0, none⟩) (n * 256) (n * 256), .slice (some ⟨qr, 0, none⟩) n cr, .slice (some ⟨w3.heap.size, 0, none⟩) n n, .pointer none] 46)) m n key (.pointer (some ⟨w3.heap.size + 1 + 1, 0, none⟩)) := by
  have hx := undrew r4
  have s4 := hx.size
  have s2 : (w).heap.size ≤ qr := r2
  try simp only [hal] at s4 s2
  have h := rnw_made (w := w) (W := ((w3.alloc (.cells (zeroPtrs n) 167)).alloc (.cells (An.zeroBytes (n * 256)) 5))) (m := m) (key := key) (qb := w3.heap.size + 1) (ql := w3.heap.size) (cb := n * 256) (cl := n) (cr := cr) (grown_trans hx (grown_trans (grown_alloc _ _ _) (grown_alloc _ _ _))) (by have h := (An.bytes_new (w3.alloc (.cells (zeroPtrs n) 167)) 5 (n * 256)); rwa [hal] at h) ((r3.grown (r := none) (grown_alloc _ _ none) (by simp)).grown (r := none) (grown_alloc _ _ none) (by simp)) ((ptrs_new w3 167 n).grown (r := none) (grown_alloc _ _ none) (by simp)) (Nat.le_refl _) r1 (Nat.le_refl _) (by omega) (by omega) (by omega)
  try simp only [hal] at h
  exact h
theorem rnw_5 {w w3 : World} {m n key qr cr : Nat} (r1 : n ≤ cr) (r2 : (((w.alloc (.cells (zeroPtrs n) 167)).alloc (.cells (An.zeroBytes (n * 256)) 5))).drew.heap.size ≤ qr) (r3 : Pt.RowsAt w3 qr n (fun _ => Pg.zero)) (r4 : (((w.alloc (.cells (zeroPtrs n) 167)).alloc (.cells (An.zeroBytes (n * 256)) 5))).drew.grownBy w3 none) :
    RNw w (w3.alloc (.cells #[.int .i64 (m : Nat), .int .u64 (key : Nat), .slice (some ⟨w.heap.size + 1, 0, none⟩) (n * 256) (n * 256), .slice (some ⟨qr, 0, none⟩) n cr, .slice (some ⟨w.heap.size, 0, none⟩) n n, .pointer none] 46)) m n key (.pointer (some ⟨w3.heap.size, 0, none⟩)) := by
  have hx := undrew r4
  have s4 := hx.size
  have s2 : (((w.alloc (.cells (zeroPtrs n) 167)).alloc (.cells (An.zeroBytes (n * 256)) 5))).heap.size ≤ qr := r2
  try simp only [hal] at s4 s2
  have h := rnw_made (w := w) (W := w3) (m := m) (key := key) (qb := w.heap.size + 1) (ql := w.heap.size) (cb := n * 256) (cl := n) (cr := cr) (grown_trans (grown_trans (grown_alloc _ _ _) (grown_alloc _ _ _)) hx) (by have h := ((An.bytes_new (w.alloc (.cells (zeroPtrs n) 167)) 5 (n * 256)).grown (r := none) hx (by simp)); rwa [hal] at h) r3 (((ptrs_new w 167 n).grown (r := none) (grown_alloc _ _ none) (by simp)).grown (r := none) hx (by simp)) (Nat.le_refl _) r1 (Nat.le_refl _) (by omega) (by omega) (by omega)
  try simp only [hal] at h
  exact h
theorem rnw_6 {w w3 : World} {m n key qr cr : Nat} (r1 : n ≤ cr) (r2 : ((w.alloc (.cells (zeroPtrs n) 167))).drew.heap.size ≤ qr) (r3 : Pt.RowsAt w3 qr n (fun _ => Pg.zero)) (r4 : ((w.alloc (.cells (zeroPtrs n) 167))).drew.grownBy w3 none) :
    RNw w ((w3.alloc (.cells (An.zeroBytes (n * 256)) 5)).alloc (.cells #[.int .i64 (m : Nat), .int .u64 (key : Nat), .slice (some ⟨w3.heap.size, 0, none⟩) (n * 256) (n * 256), .slice (some ⟨qr, 0, none⟩) n cr, .slice (some ⟨w.heap.size, 0, none⟩) n n, .pointer none] 46)) m n key (.pointer (some ⟨w3.heap.size + 1, 0, none⟩)) := by
  have hx := undrew r4
  have s4 := hx.size
  have s2 : ((w.alloc (.cells (zeroPtrs n) 167))).heap.size ≤ qr := r2
  try simp only [hal] at s4 s2
  have h := rnw_made (w := w) (W := (w3.alloc (.cells (An.zeroBytes (n * 256)) 5))) (m := m) (key := key) (qb := w3.heap.size) (ql := w.heap.size) (cb := n * 256) (cl := n) (cr := cr) (grown_trans (grown_trans (grown_alloc _ _ _) hx) (grown_alloc _ _ _)) (An.bytes_new w3 5 (n * 256)) (r3.grown (r := none) (grown_alloc _ _ none) (by simp)) (((ptrs_new w 167 n).grown (r := none) hx (by simp)).grown (r := none) (grown_alloc _ _ none) (by simp)) (Nat.le_refl _) r1 (Nat.le_refl _) (by omega) (by omega) (by omega)
  try simp only [hal] at h
  exact h
end Go.Proofs.YtgnfcklippjeeaaGreat

/- The document's region: the walk of New, its first part. -/
namespace Go.Proofs.YtgnfcklippjeeaaGreat
open Go.RowKit
open Sl (Cls bs upd)
open Lg (pgs)
open Rf (LZ)

theorem rnew_mid2 (n : Nat) (hn : n ≤ 256) (w : World) : Calls Tryz.prog 102 #[.int .i64 (n : Nat)] w fun e w' => Pt.PRows w w' n (fun _ => Pg.zero) e := Pt.rnew_mid n w hn
/-- Labels of a new region's blocks. -/
def newT (T : Nat → Nat) (s : Nat) (D : Dp) : Nat → Nat := fun i => if i < s then T i else if i = D.p then 3 else if i = D.g then 4 else 2
theorem newT_old (T : Nat → Nat) {s i : Nat} (D : Dp) (h : i < s) : newT T s D i = T i := if_pos h
theorem newT_data (T : Nat → Nat) {s i : Nat} {D : Dp} (h : s ≤ i) (h1 : i ≠ D.p) (h2 : i ≠ D.g) : newT T s D i = 2 := by unfold newT; rw [if_neg (by omega), if_neg h1, if_neg h2]
def DNewR (w w' : World) (m n key : Nat) (e : Ending) : Prop := ∃ D : Dp, e = .returned (.pointer (some ⟨D.p, 0, none⟩)) ∧ (∀ T, DrAt w' (newT T w.heap.size D) D (St.new m n key)) ∧ w.grownBy w' none
theorem rnw_end {w wx : World} {m n key : Nat} {p qb cb qr cr ql cl : Nat} (h1 : 1 ≤ n) (h2 : n ≤ 256) (hm : m ≤ n) (hk : key < 18446744073709551616)
    (c0 : wx.cell? ⟨p, 0, none⟩ = some (.int .i64 (m : Nat))) (c1 : wx.cell? ⟨p, 1, none⟩ = some (.int .u64 (key : Nat))) (c2 : wx.cell? ⟨p, 2, none⟩ = some (.slice (some ⟨qb, 0, none⟩) (n * 256) cb)) (c3 : wx.cell? ⟨p, 3, none⟩ = some (.slice (some ⟨qr, 0, none⟩) n cr)) (c4 : wx.cell? ⟨p, 4, none⟩ = some (.slice (some ⟨ql, 0, none⟩) n cl)) (c5 : wx.cell? ⟨p, 5, none⟩ = some (.pointer none))
    (fz : ∀ k, wx.frozen? ⟨p, k, none⟩ = false) (hb : An.BytesAt wx qb (n * 256) (fun _ => 0)) (hr : Pt.RowsAt wx qr n (fun _ => Pg.zero)) (hl : ValsAt wx ql n (fun _ => .pointer none)) (d1 : n * 256 ≤ cb) (d2 : n ≤ cr) (d3 : n ≤ cl) (s0 : w.heap.size ≤ p) (s1 : w.heap.size ≤ qb) (s2 : w.heap.size ≤ qr) (s3 : w.heap.size ≤ ql) (l1 : qb < p) (l2 : qr < p) (l3 : ql < p) (hg : w.grownBy wx none) :
    DNewR w ((wx.alloc (.cells #[.slice (some ⟨qb, 0, none⟩) (n * 256) cb, .int .u64 (key : Nat), .slice none 0 0] 158)).setCell ⟨p, 5, none⟩ (.pointer (some ⟨wx.heap.size, 0, none⟩))) m n key (.returned (.pointer (some ⟨p, 0, none⟩))) := by
  have ga := grown_alloc wx (.cells #[.slice (some ⟨qb, 0, none⟩) (n * 256) cb, .int .u64 (key : Nat), .slice none 0 0] 158) none
  have gs := An.agrown_set (wx.alloc (.cells #[.slice (some ⟨qb, 0, none⟩) (n * 256) cb, .int .u64 (key : Nat), .slice none 0 0] 158)) p 5 (.pointer (some ⟨wx.heap.size, 0, none⟩))
  have hp : p < wx.heap.size := World.block_lt_of_cell? wx ⟨p, 0, none⟩ c0
  have hN : n * 256 ≤ 65536 := by omega
  refine ⟨⟨p, wx.heap.size, fun _ => 0, fun _ => 0⟩, rfl, fun T => ⟨?_, St.ok_new h1 h2 hm hk⟩, grown_own (grown_trans hg ga) gs s0⟩
  have tp : newT T w.heap.size ⟨p, wx.heap.size, fun _ => 0, fun _ => 0⟩ p = 3 := by unfold newT; rw [if_neg (by omega), if_pos rfl]
  have tg : newT T w.heap.size ⟨p, wx.heap.size, fun _ => 0, fun _ => 0⟩ wx.heap.size = 4 := by
    unfold newT
    have := hg.size
    show (if wx.heap.size < w.heap.size then _ else if wx.heap.size = p then 3 else if wx.heap.size = wx.heap.size then 4 else 2) = 4
    rw [if_neg (by omega), if_neg (by omega), if_pos rfl]
  have td : ∀ {q}, w.heap.size ≤ q → q < p → newT T w.heap.size ⟨p, wx.heap.size, fun _ => 0, fun _ => 0⟩ q = 2 := fun {q} a b => newT_data T a (show q ≠ p by omega) (show q ≠ wx.heap.size by omega)
  have kc : ∀ {q o : Nat} {v}, q ≠ p → wx.cell? ⟨q, o, none⟩ = some v → _ := fun {q o v} hq hc => gs.cell (ga.cell hc (by simp)) (some_ne hq)
  exact
  { c0 := setc_other (by decide) (ga.cell c0 (by simp))
    c1 := setc_other (by decide) (ga.cell c1 (by simp))
    bt := ⟨qb, cb, setc_other (by decide) (ga.cell c2 (by simp)), d1, (hb.grown ga (by simp)).grown gs (some_ne (by omega)), td s1 l1⟩
    rw_ := ⟨qr, cr, setc_other (by decide) (ga.cell c3 (by simp)), d2, (hr.grown ga (by simp)).grown gs (some_ne (by omega)), td s2 l2⟩
    ls := ⟨ql, cl, setc_other (by decide) (ga.cell c4 (by simp)), d3, td s3 l3, ((hl.grown ga (by simp)).grown gs (some_ne (by omega))).qlt, ((hl.grown ga (by simp)).grown gs (some_ne (by omega))).fz, fun k hk => ((hl.grown ga (by simp)).grown gs (some_ne (by omega))).c k hk⟩
    c5 := World.cell?_setCell_same' _ _ _ (by rw [ga.cell c5 (by simp)]; rfl)
    fz := fun k => by rw [World.frozen?_setCell, World.frozen?_of_block (w := wx) (ga.block p hp (by simp))]; exact fz k
    wr := fun k d hk => nomatch hk
    sl := fun k d hk => nomatch hk
    gr := ⟨qb, cb, none, 0, [], fun _ => 0, ⟨gs.cell (by rw [cell_alloc_new]; rfl) (some_ne (show wx.heap.size ≠ p by omega)), gs.cell (by rw [cell_alloc_new]; rfl) (some_ne (show wx.heap.size ≠ p by omega)), gs.cell (by rw [cell_alloc_new]; rfl) (some_ne (show wx.heap.size ≠ p by omega)), fun k => by rw [World.frozen?_setCell]; exact frozen_alloc_new .., (hb.grown ga (by simp)).grown gs (some_ne (by omega)), d1, Nat.le_refl _, .inl rfl, (show qb ≠ wx.heap.size by omega), Nat.zero_le _, Nat.zero_le _, hN, fun _ => (show 0 < 256 by omega), hk⟩, Rf.lz_nil, td s1 l1, fun h => absurd rfl h⟩
    tp := tp
    tg := tg
    tx := fun k d hk => nomatch hk }
set_option maxRecDepth 100000 in
set_option maxHeartbeats 4000000 in
theorem drnew_at {m M : Nat} (s : Nat) (w : World) (h1 : 1 ≤ m + M) (h2 : m + M ≤ 256) :
    Calls Tryz.prog 48 #[.int .i64 m, .int .i64 M, .int .u64 s] w fun e w' => DNewR w w' m (m + M) (keyOf s) e := by
  obtain ⟨n, hn⟩ : ∃ n, m + M = n := ⟨_, rfl⟩
  have e1 : IntKind.i64.wrap ((m : Int) + (M : Int)) = (n : Int) := by rw [IntKind.wrap_i64]; omega
  have e2 : IntKind.i64.wrap (256 * (n : Int)) = ((n * 256 : Nat) : Int) := by rw [IntKind.wrap_i64]; omega
  have hn2 : n ≤ 256 := by omega
  have hN : n * 256 ≤ 65536 := by omega
  have hni : (n : Int) ≤ 256 := by omega
  have HK := Lib.hid (rkey_at s)
  have HR := Lib.hid (rnew_mid2 n hn2)
  have hb : ∀ W : World, (Instr.makeSlice 24 (.int .i64 ((n * 256 : Nat) : Int)) (.int .i64 ((n * 256 : Nat) : Int))).run Tryz.prog W = .ok (.slice (some ⟨W.heap.size, 0, none⟩) (n * 256) (n * 256)) (W.alloc (.cells (An.zeroBytes (n * 256)) 5)) := fun W => An.make_bytes W (n * 256) hN
  have hp : ∀ W : World, (Instr.makeSlice 43 (.int .i64 (n : Int)) (.int .i64 (n : Int))).run Tryz.prog W = .ok (.slice (some ⟨W.heap.size, 0, none⟩) n n) (W.alloc (.cells (zeroPtrs n) 167)) := fun W => make_ptrs W n (by omega)
  have HEND := Lib.hid (fun (wx : World) p qb cb qr cr ql cl => rnw_end (w := w) (wx := wx) (m := m) (n := n) (key := keyOf s) (p := p) (qb := qb) (cb := cb) (qr := qr) (cr := cr) (ql := ql) (cl := cl) (by omega) hn2 (by omega) (keyOf_lt s))
  rw [hn]
  clear h1 h2 hn hn2 hN
  generalize ((n * 256 : Nat) : Int) = N at *
  go_enter Tryz.func48, Tryz.ntmps48
  go_upto_region 2 with (fail)
  go_cut [8] (fun s8 wx => RNw w wx m n (keyOf s) s8)
  case first =>
    clear HEND
    go_region_law (first
      | (go_simp; go_at_call 101; (with_reducible refine (HK.out _).mono ?_); rintro e w3 ⟨rfl, rfl⟩)
      | (go_simp; go_at_call 102; (with_reducible refine (HR.out _).mono ?_); rintro e w3 ⟨qr, cr, rfl, r1, r2, r3, r4⟩))
    all_goals go_wp2
    all_goals go_meet
    all_goals first
      | with_reducible exact rnw_1 r1 r2 r3 r4
      | with_reducible exact rnw_2 r1 r2 r3 r4
      | with_reducible exact rnw_3 r1 r2 r3 r4
      | with_reducible exact rnw_4 r1 r2 r3 r4
      | with_reducible exact rnw_5 r1 r2 r3 r4
      | with_reducible exact rnw_6 r1 r2 r3 r4
  case rest =>
    obtain ⟨p, qb, cb, qr, cr, ql, cl, rfl, c0, c1, c2, c3, c4, c5, fz, hB, hR, hL, d1, d2, d3, s0, s1, s2, s3, l1, l2, l3, hg⟩ := hcut
    have HE := Lib.hid (HEND.out wc.drew p qb cb qr cr ql cl (by simpa using c0) (by simpa using c1) (by simpa using c2) (by simpa using c3) (by simpa using c4) (by simpa using c5) fz (hB.grown (grown_drew1 (grown_refl wc none)) (by simp)) (hR.grown (grown_drew1 (grown_refl wc none)) (by simp)) (hL.grown (grown_drew1 (grown_refl wc none)) (by simp)) d1 d2 d3 s0 s1 s2 s3 l1 l2 l3 (grown_drew1 hg))
    have hp : p < wc.heap.size := World.block_lt_of_cell? wc ⟨p, 0, none⟩ c0
    have ga := grown_alloc wc (.cells #[.slice (some ⟨qb, 0, none⟩) (n * 256) cb, .int .u64 (keyOf s : Nat), .slice none 0 0] 158) none
    have c5' := ga.cell c5 (by simp)
    have z5' : (wc.alloc (.cells #[.slice (some ⟨qb, 0, none⟩) (n * 256) cb, .int .u64 (keyOf s : Nat), .slice none 0 0] 158)).frozen? ⟨p, 5, none⟩ = false := by
      rw [World.frozen?_of_block (w := wc) (ga.block p hp (by simp))]; exact fz 5
    clear HEND HK HR hb hp fz hB hR hL d1 d2 d3 s0 s1 s2 s3 l1 l2 l3 hg ga
    go_upto_region 3 with (fail)
    go_region_law (fail)
    all_goals
      go_wp2
      go_ret
      exact HE.out
end Go.Proofs.YtgnfcklippjeeaaGreat

/- The law's like, of places that are the same. -/
namespace Go.Proofs.YtgnfcklippjeeaaGreat
open Go.RowKit

set_option maxRecDepth 100000 in
set_option maxHeartbeats 1000000 in
theorem like_yes (x0 x1 x2 x3 x4 : Int) (x5 : Bool) (w : World) :
    Calls Tryz.prog 57 #[.agg #[.int .i64 x0, .int .i64 x1, .int .i64 x2, .int .i64 x3, .int .i64 x4, .bool x5], .agg #[.int .i64 x0, .int .i64 x1, .int .i64 x2, .int .i64 x3, .int .i64 x4, .bool x5]] w fun e w' => e = .returned (.bool true) ∧ w.grownBy w' none := by
  go_enter Tryz.func57, Tryz.ntmps57
  go_wp2
  go_ret
  exact ⟨by try rfl, grown_trans (grown_alloc _ _ _) (grown_alloc _ _ _)⟩
end Go.Proofs.YtgnfcklippjeeaaGreat
