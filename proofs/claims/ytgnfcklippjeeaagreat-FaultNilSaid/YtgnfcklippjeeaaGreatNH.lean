/- The walks of a region's Shut, Great, Open. -/
import Derived.Test.YtgnfcklippjeeaaGreatNG
namespace Go.Proofs.YtgnfcklippjeeaaGreat
open Go.RowKit
open Go.Maps (Keyed)
open Sl (Cls bs upd FOk LnkIs)
open Lg (pgs)

/-! Where so many pages are free. -/
/-- The first one of so many free pages of the manual region; -1: there are none. -/
def St.Place (V : St) (run : Nat) (x : Int) : Prop := Pg.Place (Pg.Fr V.R V.n 0 (V.m : Nat)) run x
theorem St.place_ex (V : St) (run : Nat) : ∃ x, V.Place run x := by
  classical
  by_cases h : ∃ k, Pg.Run (Pg.Fr V.R V.n 0 (V.m : Nat)) k run
  · have hb : ∃ k, Pg.Run (Pg.Fr V.R V.n 0 (V.m : Nat)) k run ∧ ∀ j, j < k → ¬ Pg.Run (Pg.Fr V.R V.n 0 (V.m : Nat)) j run := by
      obtain ⟨k, hk⟩ := h
      induction k using Nat.strongRecOn with
      | ind k ih =>
        by_cases h2 : ∃ j, j < k ∧ Pg.Run (Pg.Fr V.R V.n 0 (V.m : Nat)) j run
        · obtain ⟨j, h3, h4⟩ := h2
          exact ih j h3 h4
        · exact ⟨k, hk, fun j h3 h4 => h2 ⟨j, h3, h4⟩⟩
    obtain ⟨k, h1, h2⟩ := hb
    exact ⟨k, .inl ⟨k, rfl, h1, h2⟩⟩
  · exact ⟨-1, .inr ⟨rfl, fun k hk => h ⟨k, hk⟩⟩⟩
theorem St.place_nat {V : St} {run : Nat} {x : Int} (h : V.Place run x) : x = -1 ∨ ∃ p : Nat, x = p := by
  rcases h with ⟨k, e, _⟩ | ⟨e, _⟩
  · exact .inr ⟨k, e⟩
  · exact .inl e
theorem St.place_room {V : St} {run p : Nat} (h : V.Place run (p : Int)) (h1 : 1 ≤ run) (h2 : run ≤ 256) : V.Room p run := by
  rcases h with ⟨k, e, hr, _⟩ | ⟨e, _⟩
  · have : p = k := by omega
    subst this
    have hl := hr (p + run - 1) (by omega) (by omega)
    unfold Pg.Fr at hl
    exact ⟨by omega, h1, h2, fun i a b => (Pg.isZero_iff _).1 (hr i a b).2.2.2⟩
  · omega
theorem srow_may (c o : Nat) : Pg.may (srow c o) = true := rfl
theorem grow_may {r : Nat} (h1 : 1 ≤ r) (h2 : r ≤ 256) : Pg.may (grow r) = true := (Pg.may_iff _).2 ⟨rfl, by simp [grow]; omega, by simp [grow]; omega⟩
theorem RnW.map_none {w : World} {A : Rp} {V : St} {cnt run : Nat} {a b c : Int} (h : RnW w A V cnt) (hm : Pg.may ⟨a, b, c, (run : Nat)⟩ = true) (hp : V.Place run (-1)) :
    Calls Tryz.prog 84 #[.pointer (some ⟨A.pt, 0, none⟩), .int .i64 0, .int .i64 (V.m : Nat), .agg #[.int .i64 a, .int .i64 b, .int .i64 c, .int .i64 (run : Nat)]] w fun e w' => e = .returned (.tuple #[.int .i64 0, .int .i64 5]) ∧ w.grownBy w' none :=
  Pt.map_noplace h.tab 0 (V.m : Nat) ⟨a, b, c, (run : Nat)⟩ hm (by unfold St.Place at hp; simpa using hp)
theorem RnW.map_ok {w : World} {A : Rp} {V : St} {cnt run p : Nat} {a b c : Int} (h : RnW w A V cnt) (hm : Pg.may ⟨a, b, c, (run : Nat)⟩ = true) (hp : V.Place run (p : Int)) :
    Calls Tryz.prog 84 #[.pointer (some ⟨A.pt, 0, none⟩), .int .i64 0, .int .i64 (V.m : Nat), .agg #[.int .i64 a, .int .i64 b, .int .i64 c, .int .i64 (run : Nat)]] w fun e w' => e = .returned (.tuple #[.int .i64 p, .int .i64 0]) ∧ RnW w' A { V with R := Pg.lay V.R p ⟨a, b, c, (run : Nat)⟩ } cnt ∧ Fr (A.may V.L) w w' :=
  (Pt.map_place h.tab 0 (V.m : Nat) ⟨a, b, c, (run : Nat)⟩ hm p (by unfold St.Place at hp; simpa using hp)).mono fun _ _ ⟨he, _, ht, hg⟩ => ⟨he, h.table hg ht, fr_some hg (fun _ => .inr (.inl rfl))⟩

/-! Shut -/
set_option maxRecDepth 100000 in
set_option maxHeartbeats 1000000 in
theorem rshut_none {w : World} {A : Rp} {V : St} {cnt : Nat} (h : RnAt w A V cnt) (page : Int) (hw : WF page) (hl : ∀ g : Nat, page = g → V.L g = none) :
    Calls Tryz.prog 19 #[.pointer (some ⟨A.p, 0, none⟩), .int .i64 page] w fun e w' => e = .returned (.int .i64 6) ∧ w.grownBy w' none := by
  have HS := Lib.hid (slots_none h page hw hl)
  clear h hw hl
  go_enter Tryz.func19, Tryz.ntmps19
  go_wp2_with fail
  refine HS.out.mono ?_
  rintro e w1 ⟨rfl, m1⟩
  go_wp2
  go_ret
  exact ⟨rfl, m1⟩
theorem RnAt.count_slab {w : World} {A : Rp} {V : St} {cnt g : Nat} {d : Sd} (h : RnAt w A V cnt) (hl : V.L g = some d) (x : Int) :
    Calls Tryz.prog 70 #[.pointer (some ⟨(A.xs g).p, 0, none⟩), .int .i64 x] w fun e w' => e = .returned (.int .i64 (cntS d.S x d.n : Nat)) ∧ w = w' :=
  scount_at (h.sl g d hl) (h.ok.sl g d hl).2.2.st x
set_option maxRecDepth 100000 in
set_option maxHeartbeats 1000000 in
theorem rshut_busy {w : World} {A : Rp} {V : St} {cnt g : Nat} {d : Sd} (h : RnAt w A V cnt) (hl : V.L g = some d) (hb : 0 < cntS d.S 1 d.n ∨ 0 < cntS d.S 2 d.n) :
    Calls Tryz.prog 19 #[.pointer (some ⟨A.p, 0, none⟩), .int .i64 g] w fun e w' => e = .returned (.int .i64 8) ∧ w.grownBy w' none := by
  have HS := Lib.hid (slots_some h hl)
  have HC1 := Lib.hid (fun W (g1 : w.grownBy W none) => (h.grown g1).count_slab hl 1)
  have HC2 := Lib.hid (fun W (g1 : w.grownBy W none) => (h.grown g1).count_slab hl 2)
  clear h hl
  generalize cntS d.S 1 d.n = c1 at *
  generalize cntS d.S 2 d.n = c2 at *
  by_cases h1 : 0 < c1
  · have h1' : (0 : Int) < (c1 : Nat) := by omega
    clear hb h1
    go_enter Tryz.func19, Tryz.ntmps19
    go_wp2_with fail
    refine HS.out.mono ?_
    rintro e w1 ⟨rfl, m1⟩
    go_wp2_with fail
    refine (HC1.out _ m1).mono ?_
    rintro e w2 ⟨rfl, rfl⟩
    go_wp2
    go_ret
    exact ⟨rfl, m1⟩
  · have h2' : (0 : Int) < (c2 : Nat) := by omega
    obtain rfl : c1 = 0 := by omega
    clear hb h1
    go_enter Tryz.func19, Tryz.ntmps19
    go_wp2_with fail
    refine HS.out.mono ?_
    rintro e w1 ⟨rfl, m1⟩
    go_wp2_with fail
    refine (HC1.out _ m1).mono ?_
    rintro e w2 ⟨rfl, rfl⟩
    go_wp2_with fail
    refine (HC2.out _ m1).mono ?_
    rintro e w2 ⟨rfl, rfl⟩
    go_wp2
    go_ret
    exact ⟨rfl, m1⟩
theorem RnAt.del_run {w : World} {A : Rp} {V : St} {cnt g : Nat} (h : RnAt w A V cnt) (hg : g < 256) (ty : TypeId) :
    ∃ w', (Builtin.delete_ #[108, 3] ty #[.map (some A.pm), .int .i64 g]).run Tryz.prog w = .ok (.tuple #[]) w' ∧ RnW w' A { V with L := V.set g none } cnt ∧ w.grownBy w' (some A.pm) := by
  obtain ⟨D, hown, his⟩ := h.mp
  have hkey := Go.Maps.keyOf_int_mk (P := Tryz.prog) Tryz.underlying3 (a := (g : Int)) (WalkArith.wf_i64 ⟨by omega, by omega⟩)
  obtain ⟨w', hrun, ho, ht⟩ := hown.drop kint Tryz.underlying108 hkey ty
  exact ⟨w', hrun, h.toRnW.unset ht.grown ⟨_, ho, his.del g⟩, ht.grown⟩
theorem RnW.unmap_slab {w : World} {A : Rp} {V : St} {cnt g : Nat} {d : Sd} (ok : V.Ok) (hl : V.L g = some d) (h : RnW w A { V with L := V.set g none } cnt) :
    Calls Tryz.prog 67 #[.pointer (some ⟨A.pt, 0, none⟩), .int .i64 g] w fun e w' => e = .returned (.int .i64 0) ∧ RnW w' A (V.shut g) cnt ∧ w.grownBy w' (some A.qt) := by
  obtain ⟨hg, hr, _⟩ := ok.sl g d hl
  have hn : g < V.n := by have := ok.mn; omega
  have := Pt.unmap_first h.tab g hn (by show Pg.isHead (V.R g) = true; rw [hr]; rfl)
  rw [show (({ V with L := V.set g none } : St).R g).r.toNat = 1 by show (V.R g).r.toNat = 1; rw [hr]; rfl] at this
  exact this.mono fun _ _ ⟨he, ht, hgr⟩ => ⟨he, h.table hgr ht, hgr⟩
set_option maxRecDepth 100000 in
set_option maxHeartbeats 1000000 in
theorem rshut_ok {w : World} {A : Rp} {V : St} {cnt g : Nat} {d : Sd} (h : RnAt w A V cnt) (hl : V.L g = some d) (h1 : cntS d.S 1 d.n = 0) (h2 : cntS d.S 2 d.n = 0) :
    Calls Tryz.prog 19 #[.pointer (some ⟨A.p, 0, none⟩), .int .i64 g] w fun e w' => e = .returned (.int .i64 0) ∧ RnAt w' A (V.shut g) cnt ∧ Fr (A.may V.L) w w' := by
  have HS := Lib.hid (slots_some h hl)
  have HC1 := Lib.hid (fun W (g1 : w.grownBy W none) => (h.grown g1).count_slab hl 1)
  have HC2 := Lib.hid (fun W (g1 : w.grownBy W none) => (h.grown g1).count_slab hl 2)
  rw [h1] at HC1
  rw [h2] at HC2
  have hg256 : g < 256 := by have := (h.ok.sl g d hl).1; have := h.ok.mn; have := h.ok.n256; omega
  have HD := Lib.hid (fun W (g1 : w.grownBy W none) ty => (h.grown g1).del_run hg256 ty)
  have HU := Lib.hid (fun W (hW : RnW W A { V with L := V.set g none } cnt) => hW.unmap_slab h.ok hl)
  have HOK := Lib.hid (h.ok.shut hl)
  have HC6 := Lib.hid (fun W (g1 : w.grownBy W none) => (h.grown g1).c6)
  clear h hl h1 h2 hg256
  go_enter Tryz.func19, Tryz.ntmps19
  go_wp2_with fail
  refine HS.out.mono ?_
  rintro e w1 ⟨rfl, m1⟩
  go_wp2_with fail
  refine (HC1.out _ m1).mono ?_
  rintro e w2 ⟨rfl, rfl⟩
  go_wp2_with fail
  refine (HC2.out _ m1).mono ?_
  rintro e w2 ⟨rfl, rfl⟩
  have e6 := HC6.out _ m1
  obtain ⟨w2, hrun, hr2, hg2⟩ := HD.out _ m1 0
  have HR2 := Lib.hid hr2
  have e4 := hr2.c4
  have HF2 := Lib.hid ((fr_none (may := A.may V.L) m1).trans (fr_some hg2 (fun _ => .inr (.inr (.inl rfl)))))
  clear hr2 hg2 HS HC1 HC2 HC6 HD
  go_wp2_with fail
  refine (HU.out _ HR2.out).mono ?_
  rintro e w3 ⟨rfl, hr3, hg3⟩
  have HE := Lib.hid (And.intro (RnAt.mk hr3 HOK.out) (HF2.out.trans (fr_some (may := A.may V.L) hg3 (fun _ => .inr (.inl rfl)))))
  clear hr3 hg3 HU HR2 HF2 m1
  go_wp2
  go_ret
  exact ⟨rfl, HE.out⟩

/-! Great -/
set_option maxRecDepth 100000 in
set_option maxHeartbeats 1000000 in
theorem rgreat_arg {w : World} {A : Rp} (n : Int) (hn : n ≤ 120 ∨ 4096 < n) :
    Calls Tryz.prog 30 #[.pointer (some ⟨A.p, 0, none⟩), .int .i64 n] w fun e w' => e = .returned (.tuple #[.int .i64 0, .int .i64 1]) ∧ w = w' := by
  have HP := Lib.hid (pages_no n w hn)
  clear hn
  go_enter Tryz.func30, Tryz.ntmps30
  go_wp2_with fail
  refine HP.out.mono ?_
  rintro e w1 ⟨rfl, rfl⟩
  go_wp2
  go_ret2
  exact ⟨rfl, rfl⟩
set_option maxRecDepth 100000 in
set_option maxHeartbeats 2000000 in
theorem rgreat_full {w : World} {A : Rp} {V : St} {cnt : Nat} (h : RnAt w A V cnt) {n : Nat} (h1 : 120 < n) (h2 : n ≤ 4096) (hp : V.Place (pgs n) (-1)) :
    Calls Tryz.prog 30 #[.pointer (some ⟨A.p, 0, none⟩), .int .i64 n] w fun e w' => e = .returned (.tuple #[.int .i64 0, .int .i64 5]) ∧ w.grownBy w' none := by
  have HP := Lib.hid (cpages_at n w h1 h2)
  have HG := Lib.hid (fun W => greatRow_at (pgs n : Nat) W)
  have HM := Lib.hid (fun W (g1 : w.grownBy W none) => (h.grown g1).toRnW.map_none (grow_may (Lg.pgs_pos n) (by have := Lg.pgs_bd h2; omega)) hp)
  have HC := Lib.hid (fun W (g1 : w.grownBy W none) => And.intro (h.grown g1).c4 (h.grown g1).c0)
  obtain ⟨e4, e0⟩ := HC.out _ (grown_refl w none)
  have hg1 := grown_drew1 (grown_refl w none)
  clear h hp h1 h2
  generalize ((pgs n : Nat) : Int) = r at *
  go_enter Tryz.func30, Tryz.ntmps30
  go_wp2_with fail
  refine HP.out.mono ?_
  rintro e w1 ⟨rfl, rfl⟩
  go_upto_region 6 with (fail)
  go_cut [8, 9] (fun a b W => a = .int .i64 0 ∧ b = .int .i64 5 ∧ w.grownBy W none)
  case first =>
    go_region_held3 (fun w' => w'.cell? ⟨A.p, 4, none⟩ = some (.pointer (some ⟨A.pt, 0, none⟩)) ∧ w'.cell? ⟨A.p, 0, none⟩ = some (.int .i64 (V.m : Nat)))
      (first | exact ⟨e4, e0⟩ | exact HC.out _ (by assumption))
      (first
      | (go_at_call 89; refine (HG.out _).mono ?_; rintro e w3 ⟨rfl, m⟩; have hg2 := grown_trans (by assumption : w.grownBy _ none) m; clear m)
      | (go_at_call 84; refine (HM.out _ (by assumption)).mono ?_; rintro e w3 ⟨rfl, m⟩; have hg3 := grown_trans (by assumption : w.grownBy _ none) m; clear m))
    all_goals
      go_wp2
      go_meet
      exact ⟨rfl, rfl, by assumption⟩
  case rest =>
    obtain ⟨rfl, rfl, hg⟩ := hcut
    have HE := Lib.hid hg
    clear hg hg1 HC HG HM e4 e0 HP
    go_wp2
    go_ret2
    exact ⟨rfl, HE.out⟩
theorem make_large {w : World} {A : Rp} {V : St} {cnt p n : Nat} {R' : Nat → Pg.Row} (ok : V.Ok) (h : RnW w A { V with R := R' } cnt) (h1 : 120 < n) (h2 : n ≤ 4096) (hp : V.Room p (pgs n)) (hcnt : cnt ≤ 100000) :
    Calls Tryz.prog 90 #[.pointer (some ⟨A.pg, 0, none⟩), .int .i64 p, .int .i64 n] w fun e w' => e = .returned (.int .i64 0) ∧ RnW w' A { V with B := Lg.makeB V.key p n V.B, R := R', Z := upd V.Z p n } (cnt + 1) ∧ Fr (A.may V.L) w w' := by
  obtain ⟨E, hE⟩ := h.lg
  have hin := hp.in_
  have hmn := ok.mn
  refine (lmake_ok hE p n h1 h2 ?_ ?_ hcnt).mono ?_
  · show (p + pgs n) * 256 ≤ V.n * 256
    exact Nat.mul_le_mul_right _ (by omega)
  · rintro k ⟨hk1, hk2, hk3⟩
    have hk1' : V.Z k ≠ 0 := hk1
    have hk3' : p < k + pgs (V.Z k) := hk3
    by_cases e : k ≤ p
    · exact (ok.room_l hp (Nat.le_refl p) (by have := hp.run1; omega)).2.2 k ⟨hk1', e, hk3'⟩
    · exact hk1' (ok.room_l hp (by omega) hk2).2.1
  · rintro e w' ⟨he, hl, hf⟩
    exact ⟨he, h.large (Nat.le_succ _) hf hl, hf.wide (fun i hi => lp_may (V := { V with R := R' }) hi)⟩
set_option maxRecDepth 100000 in
set_option maxHeartbeats 2000000 in
theorem rgreat_ok {w : World} {A : Rp} {V : St} {cnt p : Nat} (h : RnAt w A V cnt) {n : Nat} (h1 : 120 < n) (h2 : n ≤ 4096) (hp : V.Place (pgs n) (p : Int)) (hcnt : cnt ≤ 100000) :
    Calls Tryz.prog 30 #[.pointer (some ⟨A.p, 0, none⟩), .int .i64 n] w fun e w' => e = .returned (.tuple #[.int .i64 ((p * 256 : Nat) : Int), .int .i64 0]) ∧ RnAt w' A (V.great p n) (cnt + 1) ∧ Fr (A.may V.L) w w' := by
  have hroom := St.place_room hp (Lg.pgs_pos n) (by have := Lg.pgs_bd h2; omega)
  have HP := Lib.hid (cpages_at n w h1 h2)
  have HG := Lib.hid (fun W => greatRow_at (pgs n : Nat) W)
  have HM := Lib.hid (fun W (g1 : w.grownBy W none) => (h.grown g1).toRnW.map_ok (grow_may (Lg.pgs_pos n) (by have := Lg.pgs_bd h2; omega)) hp)
  have HC := Lib.hid (fun W (g1 : w.grownBy W none) => And.intro (h.grown g1).c4 (h.grown g1).c0)
  have HL := Lib.hid (fun W (hW : RnW W A { V with R := Pg.lay V.R p (grow (pgs n)) } cnt) => make_large h.ok hW h1 h2 hroom hcnt)
  have HOK := Lib.hid (h.ok.great h1 h2 hroom)
  have hb : (p : Int) * 256 = ((p * 256 : Nat) : Int) := by omega
  have hp256 : (p : Int) ≤ 256 := by have := hroom.in_; have := h.ok.mn; have := h.ok.n256; omega
  obtain ⟨e4, e0⟩ := HC.out _ (grown_refl w none)
  have hg1 := grown_drew1 (grown_refl w none)
  have HGR : Hid (Pg.lay V.R p ⟨2, 0, 0, (pgs n : Nat)⟩ = Pg.lay V.R p (grow (pgs n))) := Lib.hid rfl
  rw [HGR.out] at HM
  clear h hp h1 h2 hcnt hroom HGR
  generalize ((p * 256 : Nat) : Int) = b at *
  generalize ((pgs n : Nat) : Int) = r at *
  go_enter Tryz.func30, Tryz.ntmps30
  go_wp2_with fail
  refine HP.out.mono ?_
  rintro e w1 ⟨rfl, rfl⟩
  go_upto_region 6 with (fail)
  go_cut [8, 9] (fun a b W => a = .int .i64 p ∧ b = .int .i64 0 ∧ RnW W A { V with R := Pg.lay V.R p (grow (pgs n)) } cnt ∧ Fr (A.may V.L) w W)
  case first =>
    go_region_held3 (fun w' => w'.cell? ⟨A.p, 4, none⟩ = some (.pointer (some ⟨A.pt, 0, none⟩)) ∧ w'.cell? ⟨A.p, 0, none⟩ = some (.int .i64 (V.m : Nat)))
      (first | exact ⟨e4, e0⟩ | exact HC.out _ (by assumption) | exact HS3.out)
      (first
      | (go_at_call 89; refine (HG.out _).mono ?_; rintro e w3 ⟨rfl, m⟩; have hg2 := grown_trans (by assumption : w.grownBy _ none) m; clear m)
      | (go_at_call 84; refine (HM.out _ (by assumption)).mono ?_; rintro e w3 ⟨rfl, k3, k4⟩; have HS3 := Lib.hid (And.intro k3.c4 k3.c0); have K := Lib.hid (And.intro k3 ((fr_none (may := A.may V.L) (by assumption : w.grownBy _ none)).trans k4)); clear k3 k4))
    all_goals
      go_wp2
      go_meet
      exact ⟨rfl, rfl, K.out⟩
  case rest =>
    obtain ⟨rfl, rfl, hw3, hf3⟩ := hcut
    obtain ⟨w3, rfl⟩ : ∃ w3 : World, w3 = wc := ⟨_, rfl⟩
    have HW := Lib.hid hw3
    have HF := Lib.hid hf3
    have e7 := hw3.c7
    have HLL := Lib.hid (HL.out _ HW.out)
    clear hw3 hf3 hg1 HC HG HM e4 e0 HP HL
    go_wp2_with fail
    refine HLL.out.mono ?_
    rintro e w4 ⟨rfl, hr4, hf4⟩
    have HE := Lib.hid (And.intro (RnAt.mk hr4 HOK.out) (HF.out.trans hf4))
    clear hr4 hf4 HLL e7 HF HW
    go_wp2
    go_ret2
    exact ⟨rfl, HE.out⟩

/-! Open -/
set_option maxRecDepth 100000 in
set_option maxHeartbeats 1000000 in
theorem ropen_arg (p : Nat) (w : World) (c o : Int) (hb : No c ∨ o < 0 ∨ 64 ≤ o) :
    Calls Tryz.prog 28 #[.pointer (some ⟨p, 0, none⟩), .int .i64 c, .int .i64 o] w fun e w' => e = .returned (.tuple #[.int .i64 0, .int .i64 1]) ∧ w = w' := by
  rcases cls c with ⟨s, n, r, hc⟩ | hc
  · have ho : o < 0 ∨ 64 ≤ o := hb.resolve_left (fun x => by unfold No at x; unfold Cl at hc; omega)
    obtain ⟨c', s', n', r', e, hc'⟩ : ∃ c' s' n' r' : Nat, c = c' ∧ Cls c' s' n' r' := by
      unfold Cl at hc
      obtain ⟨s', n', r', h⟩ := Sl.cls_of c.toNat (by omega)
      exact ⟨c.toNat, s', n', r', by omega, h⟩
    subst e
    have HI := Lib.hid (isClass_yes hc' w)
    clear hb hc hc'
    by_cases h0 : o < 0
    · have h0' : decide (o < 0) = true := by simpa using h0
      clear h0 ho
      go_enter Tryz.func28, Tryz.ntmps28
      go_wp2_with fail
      refine HI.out.mono ?_
      rintro e w1 ⟨rfl, rfl⟩
      go_wp2
      go_ret2
      exact ⟨rfl, rfl⟩
    · have h0' : decide (o < 0) = false := by simpa using h0
      have h1' : decide (64 ≤ o) = true := by simp; omega
      clear h0 ho
      go_enter Tryz.func28, Tryz.ntmps28
      go_wp2_with fail
      refine HI.out.mono ?_
      rintro e w1 ⟨rfl, rfl⟩
      go_wp2
      go_ret2
      exact ⟨rfl, rfl⟩
  · have HI := Lib.hid (isClass_no c hc w)
    clear hb hc
    go_enter Tryz.func28, Tryz.ntmps28
    go_wp2_with fail
    refine HI.out.mono ?_
    rintro e w1 ⟨rfl, rfl⟩
    go_wp2
    go_ret2
    exact ⟨rfl, rfl⟩
end Go.Proofs.YtgnfcklippjeeaaGreat
