/- The walks of a region's Open, where there is a free page. -/
import Derived.Test.YtgnfcklippjeeaaGreatNH
namespace Go.Proofs.YtgnfcklippjeeaaGreat
open Go.RowKit
open Go.Maps (Keyed)
open Sl (Cls bs upd FOk LnkIs)
open Lg (pgs)

set_option maxRecDepth 100000 in
set_option maxHeartbeats 2000000 in
theorem ropen_full {w : World} {A : Rp} {V : St} {cnt c s n r o : Nat} (h : RnAt w A V cnt) (hc : Cls c s n r) (ho : o < 64) (hp : V.Place 1 (-1)) :
    Calls Tryz.prog 28 #[.pointer (some ⟨A.p, 0, none⟩), .int .i64 (c : Nat), .int .i64 (o : Nat)] w fun e w' => e = .returned (.tuple #[.int .i64 0, .int .i64 5]) ∧ w.grownBy w' none := by
  have HI := Lib.hid (isClass_yes hc w)
  have HG := Lib.hid (fun W => slotsRow_at (c : Nat) (o : Nat) W)
  have HM := Lib.hid (fun W (g1 : w.grownBy W none) => (h.grown g1).toRnW.map_none (run := 1) (a := 1) (b := (c : Nat)) (c := (o : Nat)) (srow_may c o) hp)
  have HC := Lib.hid (fun W (g1 : w.grownBy W none) => And.intro (h.grown g1).c4 (h.grown g1).c0)
  have h0 : decide ((o : Int) < 0) = false := by simp
  have h1 : decide (64 ≤ (o : Int)) = false := by simp; omega
  obtain ⟨e4, e0⟩ := HC.out _ (grown_refl w none)
  have hg1 := grown_drew1 (grown_refl w none)
  clear h hp hc ho
  generalize ((o : Nat) : Int) = ov at *
  generalize ((c : Nat) : Int) = cv at *
  go_enter Tryz.func28, Tryz.ntmps28
  go_wp2_with fail
  refine HI.out.mono ?_
  rintro e w1 ⟨rfl, rfl⟩
  go_upto_region 5 with (fail)
  go_cut [8, 9] (fun a b W => a = .int .i64 0 ∧ b = .int .i64 5 ∧ w.grownBy W none)
  case first =>
    go_region_held3 (fun w' => w'.cell? ⟨A.p, 4, none⟩ = some (.pointer (some ⟨A.pt, 0, none⟩)) ∧ w'.cell? ⟨A.p, 0, none⟩ = some (.int .i64 (V.m : Nat)))
      (first | exact ⟨e4, e0⟩ | exact HC.out _ (by assumption))
      (first
      | (go_at_call 85; refine (HG.out _).mono ?_; rintro e w3 ⟨rfl, m⟩; have hg2 := grown_trans (by assumption : w.grownBy _ none) m; clear m)
      | (go_at_call 84; refine (HM.out _ (by assumption)).mono ?_; rintro e w3 ⟨rfl, m⟩; have hg3 := grown_trans (by assumption : w.grownBy _ none) m; clear m))
    all_goals
      go_wp2
      go_meet
      exact ⟨rfl, rfl, by assumption⟩
  case rest =>
    obtain ⟨rfl, rfl, hg⟩ := hcut
    have HE := Lib.hid hg
    clear hg hg1 HC HG HM e4 e0 HI
    go_wp2
    go_ret2
    exact ⟨rfl, HE.out⟩

/-- A slab is made over a page that was mapped. -/
theorem RnW.make_slab {w : World} {A : Rp} {V : St} {cnt p c s n r o : Nat} {R' : Nat → Pg.Row} (ok : V.Ok) (h : RnW w A { V with R := R' } cnt) (hc : Cls c s n r) (hp : p < V.n) :
    Calls Tryz.prog 86 #[.pointer (some ⟨A.pa, 0, none⟩), .agg #[.int .u64 (V.key : Nat)], .int .i64 p, .int .i64 (c : Nat), .int .i64 (o : Nat)] w fun e w' =>
      ∃ X : Pl, e = .returned (.tuple #[.pointer (some ⟨X.p, 0, none⟩), .int .i64 0]) ∧ X.pa = A.pa ∧ X.qa = A.qa ∧ SlAt w' X (nmOf A V p ⟨c, s, n, r, o, fun _ => 0, 0⟩) (fun _ => 0) 0 (Sl.layF V.key p s n (fun _ => true) V.B) ∧ Fresh w.heap.size X ∧
        RnW w' A { V with B := Sl.layF V.key p s n (fun _ => true) V.B, R := R' } cnt ∧ Fr (fun i => i = A.qa) w w' := by
  have hn := ok.n256
  have := smk_ok (Y := nmOf A V p ⟨c, s, n, r, o, fun _ => 0, 0⟩) h.ar ⟨hc, by show p * 256 + 256 ≤ V.n * 256; omega, by show V.n * 256 ≤ 65536; omega, ok.key⟩
  refine this.mono ?_
  rintro e w' ⟨X, he, h1, h2, hs, x1, x2, x3, x4, x5, hf⟩
  refine ⟨X, he, h1, h2, hs, ⟨x1, x4, x5, x2, x3⟩, ?_, hf⟩
  have har := hs.ar
  rw [h1, h2] at har
  exact h.bytes hf har
/-- .. and laid into the map. -/
theorem RnW.store_new {w : World} {A : Rp} {V : St} {cnt g s : Nat} {X : Pl} {d : Sd} (h : RnW w A V cnt) (ho : Old A V.L s) (hX : Fresh s X) (hl : V.L g = none) (hs : SlAt w X (nmOf A V g d) d.S d.f V.B) (hpa : X.pa = A.pa) (hqa : X.qa = A.qa) (hg : g < 256) (hcnt : cnt ≤ 100000) :
    ∃ w', (Instr.mapUpdate 108 (.map (some A.pm)) (.int .i64 g) (.pointer (some ⟨X.p, 0, none⟩))).run Tryz.prog w = .ok () w' ∧ RnW w' (A.with g X) { V with L := V.set g (some d) } (cnt + 1) ∧ w.grownBy w' (some A.pm) := by
  obtain ⟨D, hown, his⟩ := h.mp
  have hkey := Go.Maps.keyOf_int_mk (P := Tryz.prog) Tryz.underlying3 (a := (g : Int)) (WalkArith.wf_i64 ⟨by omega, by omega⟩)
  obtain ⟨w', hrun, ho2, hgr⟩ := hown.update kint Tryz.underlying108 (val := .pointer (some ⟨X.p, 0, none⟩)) (d := .lit (.int .i64 ((X.p + 1 : Nat) : Int))) (ps := []) (by simp only [maxLen]; omega) hkey rfl
  exact ⟨w', hrun, h.new ho hX hl hs hpa hqa hgr ⟨_, ho2, his.put hown.isMap (by omega) (by omega)⟩, hgr⟩
/-- Behind an Open. -/
def OpenRes (w w' : World) (A : Rp) (V : St) (cnt p c s n r o : Nat) : Prop := ∃ X : Pl, RnAt w' (A.with p X) (V.open_ p c s n r o) (cnt + 1) ∧ Fr (A.may V.L) w w' ∧ Fresh w.heap.size X
theorem with_may {A : Rp} {V : St} {p s i : Nat} {X : Pl} {d : Sd} (hX : Fresh s X) (h : (A.with p X).may (V.set p (some d)) i) : A.may V.L i ∨ s ≤ i := by
  rcases h with rfl | rfl | rfl | rfl | ⟨k, e, hk, hi⟩
  · exact .inl (.inl rfl)
  · exact .inl (.inr (.inl rfl))
  · exact .inl (.inr (.inr (.inl rfl)))
  · exact .inl (.inr (.inr (.inr (.inl rfl))))
  · by_cases x : k = p
    · subst x
      rw [with_xs] at hi
      have := hX.p; have := hX.ql; have := hX.qh
      rcases hi with rfl | rfl | rfl <;> exact .inr (by omega)
    · rw [St.set_other x] at hk
      rw [with_xo A X x] at hi
      exact .inl (.inr (.inr (.inr (.inr ⟨k, e, hk, hi⟩))))
set_option maxRecDepth 100000 in
set_option maxHeartbeats 4000000 in
theorem ropen_ok {w : World} {A : Rp} {V : St} {cnt p c s n r o : Nat} (h : RnAt w A V cnt) (hc : Cls c s n r) (ho : o < 64) (hp : V.Place 1 (p : Int)) (hcnt : cnt ≤ 100000) :
    Calls Tryz.prog 28 #[.pointer (some ⟨A.p, 0, none⟩), .int .i64 (c : Nat), .int .i64 (o : Nat)] w fun e w' => e = .returned (.tuple #[.int .i64 p, .int .i64 0]) ∧ OpenRes w w' A V cnt p c s n r o := by
  have hroom := St.place_room hp (by omega) (by omega)
  have hpn : p < V.n := by have := hroom.in_; have := h.ok.mn; omega
  have hp256 : p < 256 := by have := h.ok.n256; omega
  have hln := (h.ok.room_l hroom (Nat.le_refl p) (by omega)).1
  have HI := Lib.hid (isClass_yes hc w)
  have HG := Lib.hid (fun W => slotsRow_at (c : Nat) (o : Nat) W)
  have HM : Hid (∀ W, w.grownBy W none → Calls Tryz.prog 84 #[.pointer (some ⟨A.pt, 0, none⟩), .int .i64 0, .int .i64 (V.m : Nat), .agg #[.int .i64 1, .int .i64 (c : Nat), .int .i64 (o : Nat), .int .i64 1]] W fun e w' => e = .returned (.tuple #[.int .i64 p, .int .i64 0]) ∧ RnW w' A { V with R := Pg.lay V.R p (srow c o) } cnt ∧ Fr (A.may V.L) W w') :=
    Lib.hid (fun W (g1 : w.grownBy W none) => (h.grown g1).toRnW.map_ok (run := 1) (a := 1) (b := (c : Nat)) (c := (o : Nat)) (srow_may c o) hp)
  have HC := Lib.hid (fun W (g1 : w.grownBy W none) => And.intro (h.grown g1).c4 (h.grown g1).c0)
  have HS := Lib.hid (fun W (hW : RnW W A { V with R := Pg.lay V.R p (srow c o) } cnt) => hW.make_slab (o := o) h.ok hc hpn)
  have HOK := Lib.hid (h.ok.open_ hroom hc ho)
  have HLN := Lib.hid hln
  have HCN := Lib.hid hcnt
  have HP256 := Lib.hid hp256
  have HLAB := Lib.hid h.lab
  have h0 : decide ((o : Int) < 0) = false := by simp
  have h1 : decide (64 ≤ (o : Int)) = false := by simp; omega
  obtain ⟨e4, e0⟩ := HC.out _ (grown_refl w none)
  have hg1 := grown_drew1 (grown_refl w none)
  clear h hp hc ho hroom hpn hp256 hln hcnt
  generalize ((o : Nat) : Int) = ov at *
  generalize ((c : Nat) : Int) = cv at *
  go_enter Tryz.func28, Tryz.ntmps28
  go_wp2_with fail
  refine HI.out.mono ?_
  rintro e w1 ⟨rfl, rfl⟩
  go_upto_region 5 with (fail)
  go_cut [8, 9] (fun a b W => a = .int .i64 p ∧ b = .int .i64 0 ∧ RnW W A { V with R := Pg.lay V.R p (srow c o) } cnt ∧ Fr (A.may V.L) w W)
  case first =>
    go_region_held3 (fun w' => w'.cell? ⟨A.p, 4, none⟩ = some (.pointer (some ⟨A.pt, 0, none⟩)) ∧ w'.cell? ⟨A.p, 0, none⟩ = some (.int .i64 (V.m : Nat)))
      (first | exact ⟨e4, e0⟩ | exact HC.out _ (by assumption) | exact HS3.out)
      (first
      | (go_at_call 85; refine (HG.out _).mono ?_; rintro e w3 ⟨rfl, m⟩; have hg2 := grown_trans (by assumption : w.grownBy _ none) m; clear m)
      | (go_at_call 84; refine (HM.out _ (by assumption)).mono ?_; rintro e w3 ⟨rfl, k3, k4⟩; have HS3 := Lib.hid (And.intro k3.c4 k3.c0); have K := Lib.hid (And.intro k3 ((fr_none (may := A.may V.L) (by assumption : w.grownBy _ none)).trans k4)); clear k3 k4))
    all_goals
      go_wp2
      go_meet
      exact ⟨rfl, rfl, K.out⟩
  case rest =>
    obtain ⟨rfl, rfl, hw3, hf3⟩ := hcut
    obtain ⟨w3, rfl⟩ : ∃ w3 : World, w3 = wc := ⟨_, rfl⟩
    have HW := Lib.hid hw3
    have HF := Lib.hid hf3
    have HC3 := Lib.hid (fun W (hW : RnW W A { V with R := Pg.lay V.R p (srow c o) } cnt) => And.intro hW.c3 (And.intro hW.c5 hW.c6))
    obtain ⟨e3, e5, e6⟩ := HC3.out _ hw3
    have HSS := Lib.hid (fun W (g1 : w3.grownBy W none) => HS.out _ (HW.out.grown g1))
    have HST : Hid (∀ W W' X, w3.grownBy W none → Fresh W.heap.size X → X.pa = A.pa → X.qa = A.qa → SlAt W' X (nmOf A V p ⟨c, s, n, r, o, fun _ => 0, 0⟩) (fun _ => 0) 0 (Sl.layF V.key p s n (fun _ => true) V.B) → RnW W' A { V with B := Sl.layF V.key p s n (fun _ => true) V.B, R := Pg.lay V.R p (srow c o) } cnt →
        ∃ w', (Instr.mapUpdate 108 (.map (some A.pm)) (.int .i64 p) (.pointer (some ⟨X.p, 0, none⟩))).run Tryz.prog W' = .ok () w' ∧ RnW w' (A.with p X) { V with B := Sl.layF V.key p s n (fun _ => true) V.B, R := Pg.lay V.R p (srow c o), L := V.set p (some ⟨c, s, n, r, o, fun _ => 0, 0⟩) } (cnt + 1) ∧ W'.grownBy w' (some A.pm)) := Lib.hid (fun W W' X g1 hX e1 e2 hs hr => by
      have hold : Old A V.L W.heap.size := (HW.out.grown g1).old
      exact hr.store_new (s := W.heap.size) (d := ⟨c, s, n, r, o, fun _ => 0, 0⟩) hold hX HLN.out hs e1 e2 HP256.out HCN.out)
    have HOUT : Hid (∀ W W' w' X, w3.grownBy W none → Fresh W.heap.size X → Fr (fun i => i = A.qa) W W' → RnW w' (A.with p X) { V with B := Sl.layF V.key p s n (fun _ => true) V.B, R := Pg.lay V.R p (srow c o), L := V.set p (some ⟨c, s, n, r, o, fun _ => 0, 0⟩) } (cnt + 1) → W'.grownBy w' (some A.pm) → OpenRes w w' A V cnt p c s n r o) := Lib.hid (fun W W' w' X g1 hX hf hr hg => by
      refine ⟨X, ⟨hr, HOK.out⟩, ((HF.out.trans (fr_none g1)).trans (hf.wide (fun i hi => .inl hi))).trans (fr_some hg (fun _ => .inr (.inr (.inl rfl)))), ?_⟩
      have a1 := HF.out.size
      have a2 := g1.size
      exact ⟨by have := hX.p; omega, by have := hX.ql; omega, by have := hX.qh; omega, by have := hX.pl; omega, by have := hX.ph; omega⟩)
    clear hw3 hf3 hg1 HC HG HM e4 e0 HI HS HOK HLN HCN HP256 HF
    have hg1 := grown_drew1 (grown_refl w3 none)
    go_upto_region 8 with (fail)
    go_region_held3 (fun w' => w'.cell? ⟨A.p, 3, none⟩ = some (.pointer (some ⟨A.pa, 0, none⟩)) ∧ w'.cell? ⟨A.p, 5, none⟩ = some (.int .u64 (V.key : Nat)) ∧ w'.cell? ⟨A.p, 6, none⟩ = some (.map (some A.pm)))
      (first | exact ⟨e3, e5, e6⟩ | exact HC3.out _ (HW.out.grown (by assumption)) | exact HS4.out | exact HS5.out)
      (first
      | (go_at_call 86; refine (HSS.out _ (by assumption)).mono ?_; rintro e w4 ⟨X, rfl, k1, k2, k3, k4, k5, k6⟩; obtain ⟨w5, hrun, hr5, hg5⟩ := HST.out _ _ X (by assumption) k4 k1 k2 k3 k5; have HS4 := Lib.hid (And.intro k5.c3 (And.intro k5.c5 k5.c6)); have HS5 := Lib.hid (And.intro hr5.c3 (And.intro hr5.c5 hr5.c6)); have K := Lib.hid (HOUT.out _ _ _ X (by assumption) k4 k6 hr5 hg5); clear k1 k2 k3 k4 k5 k6 hr5 hg5))
    all_goals
      go_wp2
      go_ret2
      exact ⟨rfl, K.out⟩
end Go.Proofs.YtgnfcklippjeeaaGreat
