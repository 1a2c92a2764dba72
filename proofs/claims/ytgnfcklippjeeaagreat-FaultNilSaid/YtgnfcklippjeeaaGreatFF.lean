/- Chapter 10's example, and the walk of FaultNil. -/
import Derived.Test.YtgnfcklippjeeaaGreatFE
namespace Go.Proofs.YtgnfcklippjeeaaGreat
open Go.RowKit
open Go.Maps (Keyed)
open Sl (Cls bs upd FOk LnkIs)
open Lg (pgs)

theorem RF.take {w0 w : World} {A : Rp} {V : St} {cnt b0 c2 g k : Nat} {F : Fp} {G : Nat → Bool} {rv : Value} {N : List Rep} {d : Sd} {x : Int} (h : RF w0 w A V cnt b0 F c2 G rv N) (hl : V.L g = some d) (hf : d.f = (k : Int)) (hk : k < d.n) (h0 : d.S k = 0) (hx : LnkIs V.key g d.s d.n d.S V.B k x) (h2 : x ≠ -2) :
    Calls Tryz.prog 29 #[.pointer (some ⟨A.p, 0, none⟩), .int .i64 g] w fun e w' => e = .returned (.tuple #[.int .i64 (bs g d.s k : Nat), .int .i64 0]) ∧ RF w0 w' A (V.take g d k x) cnt b0 F c2 G rv N :=
  (rtake_ok h.y.at_ hl hf hk h0 hx h2).mono fun _ _ ⟨he, hr, hfr⟩ => ⟨he, h.region (h.y.step hr hfr (fun _ hi => .inl (may_set hl hi))) hfr (fun _ hi => .inl (any_set hl hi)) rfl⟩
theorem RF.drop {w0 w : World} {A : Rp} {V : St} {cnt b0 c2 g k : Nat} {F : Fp} {G : Nat → Bool} {rv : Value} {N : List Rep} {d : Sd} (h : RF w0 w A V cnt b0 F c2 G rv N) (hl : V.L g = some d) (hk : k < d.n) (h1 : d.S k = 1) :
    Calls Tryz.prog 17 #[.pointer (some ⟨A.p, 0, none⟩), .int .i64 (bs g d.s k : Nat)] w fun e w' => e = .returned (.tuple #[.bool (V.std g d k), .int .i64 0]) ∧ RF w0 w' A (V.drop g d k) cnt b0 F c2 G rv N :=
  (rdrop_core (R := fun W => RnAt W A (V.drop g d k) cnt) h.y.at_ hl hk (fun _ g1 => (h.y.at_.grown g1).drop_slab hl hk h1)).mono fun _ _ ⟨he, hr, hfr⟩ => ⟨he, h.region (h.y.step hr hfr (fun _ hi => .inl (may_set hl hi))) hfr (fun _ hi => .inl (any_set hl hi)) rfl⟩
theorem RF.give {w0 w : World} {A : Rp} {V : St} {cnt b0 c2 g k : Nat} {F : Fp} {G : Nat → Bool} {rv : Value} {N : List Rep} {d : Sd} (h : RF w0 w A V cnt b0 F c2 G rv N) (hl : V.L g = some d) (hk : k < d.n) (h1 : d.S k = 2) :
    Calls Tryz.prog 18 #[.pointer (some ⟨A.p, 0, none⟩), .int .i64 (bs g d.s k : Nat)] w fun e w' => e = .returned (.int .i64 0) ∧ RF w0 w' A (V.give g d k) cnt b0 F c2 G rv N :=
  (rgive_core (R := fun W => RnAt W A (V.give g d k) cnt) h.y.at_ hl hk (fun _ g1 => (h.y.at_.grown g1).give_slab hl hk h1)).mono fun _ _ ⟨he, hr, hfr⟩ => ⟨he, h.region (h.y.step hr hfr (fun _ hi => .inl (may_set hl hi))) hfr (fun _ hi => .inl (any_set hl hi)) rfl⟩

/-! The states of the example. -/
def e1 (key : Nat) : St := (St.new 1 1 key).open_ 0 1 32 8 24 0
def e2 (key : Nat) : St := (e1 key).take 0 (d1 0) 0 1
def da : Sd := { d1 0 with S := upd (fun _ => 0) 0 1, f := 1 }
def e3 (key : Nat) : St := (e2 key).take 0 da 1 2
def db : Sd := { da with S := upd da.S 1 1, f := 2 }
def e4 (key : Nat) : St := (e3 key).drop 0 db 1
def dc : Sd := { db with S := upd db.S 1 2 }
def e5 (key : Nat) : St := (e4 key).give 0 dc 1
def dd : Sd := { dc with S := upd dc.S 1 0, f := 1 }
def e6 (key : Nat) : St := (e5 key).take 0 dd 1 2
def de : Sd := { dd with S := upd dd.S 1 1, f := 2 }
theorem drop_L (V : St) (g : Nat) (d : Sd) (k : Nat) : (V.drop g d k).L g = some { d with S := upd d.S k 2 } := St.set_same V g _
theorem give_L (V : St) (g : Nat) (d : Sd) (k : Nat) : (V.give g d k).L g = some { d with S := upd d.S k 0, f := k } := St.set_same V g _
theorem e1L (key : Nat) : (e1 key).L 0 = some (d1 0) := open_L _ _ _ _ _ _ _
theorem e2L (key : Nat) : (e2 key).L 0 = some da := take_L _ _ _ _ _
theorem e3L (key : Nat) : (e3 key).L 0 = some db := take_L _ _ _ _ _
theorem e4L (key : Nat) : (e4 key).L 0 = some dc := drop_L _ _ _ _
theorem e5L (key : Nat) : (e5 key).L 0 = some dd := give_L _ _ _ _
theorem e6L (key : Nat) : (e6 key).L 0 = some de := take_L _ _ _ _ _
theorem db1 : db.S 1 = 1 := rfl
theorem dc1 : dc.S 1 = 2 := rfl
theorem dd1 : dd.S 1 = 0 := rfl
theorem dd2 : dd.S 2 = 0 := rfl
theorem lk5 (key : Nat) : LnkIs (e5 key).key 0 dd.s dd.n dd.S (e5 key).B 1 2 := by
  refine .inr (.inl ⟨2, by show 2 < 8; omega, rfl, by omega, dd2, ?_⟩)
  exact Ar.wordAt_setW _ _ _ (Li.lk_lt _ _ (by decide))
theorem gcut_f (lo hi : Nat) : gcut (fun _ => false) lo hi = fun _ => false := by funext k; rfl
theorem gcut_32 : gcut (gput (fun _ => false) 32) 32 64 = fun _ => false := by
  funext k
  unfold gcut gput
  by_cases e : k = 32
  · subst e; rfl
  · rw [if_neg e]; rfl
set_option maxRecDepth 100000 in
set_option maxHeartbeats 4000000 in
theorem awake10_at (w : World) :
    Calls Tryz.prog 46 #[] w fun e w' => e = .returned (.bool true) ∧ w.grownBy w' none := by
  have HN : Hid (Calls Tryz.prog 22 #[.agg #[.int .i64 1, .int .i64 0, .int .u64 0]] w fun e w' => RnMade w w' 1 0 0 e) := Lib.hid (rgnew_yes (m := 1) (M := 0) 0 w ⟨by omega, by omega, by omega, by omega⟩)
  go_enter Tryz.func46, Tryz.ntmps46
  go_wp2_with fail
  refine HN.out.mono ?_
  rintro e w1 hm
  obtain ⟨A, rfl, hy, _⟩ := rnew_y hm
  have HY := Lib.hid hy
  clear hm hy HN
  generalize keyOf 0 = key at *
  go_wp2_with fail
  refine (fnew_at A.p w1).mono ?_
  rintro e w2 hm
  obtain ⟨F, rfl, hr⟩ := RF.new HY.out hm
  have HR := Lib.hid hr
  clear hr hm HY
  generalize w2.heap.size = b0 at *
  have HO : Hid (Calls Tryz.prog 28 #[.pointer (some ⟨A.p, 0, none⟩), .int .i64 1, .int .i64 0] w2 fun e w' => e = .returned (.tuple #[.int .i64 0, .int .i64 0]) ∧ OpenRes w2 w' A (St.new 1 1 key) 0 0 1 32 8 24 0) :=
    Lib.hid (ropen_ok (c := 1) (o := 0) HR.out.y.at_ cls1 (by omega) (place0 (by omega) (by omega)) (by omega))
  go_wp2_with fail
  refine HO.out.mono ?_
  rintro e w3 ⟨rfl, X, h1, h2, h3⟩
  have HR3 : Hid (RF w w3 (A.with 0 X) (e1 key) 1 b0 F 0 (fun _ => false) (.slice none 0 0) []) := Lib.hid (HR.out.region (HR.out.y.step h1 h2 (fun i hi => with_may h3 hi)) h2 (fun i hi => with_any h3 hi) rfl)
  clear h1 h2 h3 HO HR
  have HT : Hid (Calls Tryz.prog 29 #[.pointer (some ⟨A.p, 0, none⟩), .int .i64 0] w3 fun e w' => e = .returned (.tuple #[.int .i64 0, .int .i64 0]) ∧ RF w w' (A.with 0 X) (e2 key) 1 b0 F 0 (fun _ => false) (.slice none 0 0) []) :=
    Lib.hid (HR3.out.take (g := 0) (k := 0) (d := d1 0) (x := 1) (e1L key) rfl (by show 0 < 8; omega) rfl (link0 _ _) (by omega))
  go_wp2_with fail
  refine HT.out.mono ?_
  rintro e w4 ⟨rfl, hy⟩
  have HR4 := Lib.hid hy
  clear hy HT HR3
  have HT : Hid (Calls Tryz.prog 29 #[.pointer (some ⟨A.p, 0, none⟩), .int .i64 0] w4 fun e w' => e = .returned (.tuple #[.int .i64 32, .int .i64 0]) ∧ RF w w' (A.with 0 X) (e3 key) 1 b0 F 0 (fun _ => false) (.slice none 0 0) []) :=
    Lib.hid (HR4.out.take (g := 0) (k := 1) (d := da) (x := 2) (e2L key) rfl (by show 1 < 8; omega) rfl (link1 _ _) (by omega))
  go_wp2_with fail
  refine HT.out.mono ?_
  rintro e w5 ⟨rfl, hy⟩
  have HR5 := Lib.hid hy
  clear hy HT HR4
  have HK : Hid (Calls Tryz.prog 37 #[.pointer (some ⟨F.p, 0, none⟩), .int .i64 0] w5 fun e w' => e = .returned (.int .i64 0) ∧ RF w w' (A.with 0 X) (e3 key) 1 b0 F 0 (fun _ => false) (.slice none 0 0) []) := Lib.hid (by
    have := HR5.out.took (a := 0) (.slot 0 db 0 rfl (by omega) (by show 0 < 1; omega) (e3L key)) (p := spc 0 db 0) rfl rfl
    rw [gcut_f] at this
    exact this.mono fun _ _ ⟨he, hr, _⟩ => ⟨he, hr⟩)
  go_wp2_with fail
  refine HK.out.mono ?_
  rintro e w6 ⟨rfl, hy⟩
  have HR6 := Lib.hid hy
  clear hy HK HR5
  have HK : Hid (Calls Tryz.prog 37 #[.pointer (some ⟨F.p, 0, none⟩), .int .i64 32] w6 fun e w' => e = .returned (.int .i64 0) ∧ RF w w' (A.with 0 X) (e3 key) 1 b0 F 0 (fun _ => false) (.slice none 0 0) []) := Lib.hid (by
    have := HR6.out.took (a := 32) (.slot 0 db 32 rfl (by omega) (by show 0 < 1; omega) (e3L key)) (p := spc 0 db 1) rfl rfl
    rw [gcut_f] at this
    exact this.mono fun _ _ ⟨he, hr, _⟩ => ⟨he, hr⟩)
  go_wp2_with fail
  refine HK.out.mono ?_
  rintro e w7 ⟨rfl, hy⟩
  have HR7 := Lib.hid hy
  clear hy HK HR6
  have HD : Hid (∃ b : Bool, Calls Tryz.prog 17 #[.pointer (some ⟨A.p, 0, none⟩), .int .i64 32] w7 fun e w' => e = .returned (.tuple #[.bool b, .int .i64 0]) ∧ RF w w' (A.with 0 X) (e4 key) 1 b0 F 0 (fun _ => false) (.slice none 0 0) []) :=
    Lib.hid ⟨_, HR7.out.drop (g := 0) (k := 1) (d := db) (e3L key) (by show 1 < 8; omega) db1⟩
  obtain ⟨bo, hd⟩ := HD.out
  have HD2 := Lib.hid hd
  clear HD hd
  go_wp2_with fail
  refine HD2.out.mono ?_
  rintro e w8 ⟨rfl, hy⟩
  have HR8 := Lib.hid hy
  clear hy HD2 HR7
  have HP : Hid (Calls Tryz.prog 39 #[.pointer (some ⟨F.p, 0, none⟩), .int .i64 32] w8 fun e w' => e = .returned (.int .i64 0) ∧ RF w w' (A.with 0 X) (e4 key) 1 b0 F 1 (gput (fun _ => false) 32) (.slice none 0 0) []) := Lib.hid (by
    have := HR8.out.dropped (a := 32) (.slot 0 dc 32 rfl (by omega) (by show 0 < 1; omega) (e4L key)) (by show 32 < 1 * 256; omega) (fun p hp => by cases hp) (by omega)
    exact this.mono fun _ _ ⟨he, hr, _⟩ => ⟨he, hr⟩)
  go_wp2_with fail
  refine HP.out.mono ?_
  rintro e w9 ⟨rfl, hy⟩
  have HR9 := Lib.hid hy
  clear hy HP HR8
  have HF : Hid (Calls Tryz.prog 42 #[.pointer (some ⟨F.p, 0, none⟩), .int .i64 32] w9 fun e w' => e = .returned (.int .i64 5) ∧ w9.grownBy w' none) :=
    Lib.hid (HR9.out.fault (a := 32) (.slot 0 dc 32 rfl (by omega) (by show 0 < 1; omega) (e4L key)))
  go_wp2_with fail
  refine HF.out.mono ?_
  rintro e w10 ⟨rfl, hg⟩
  have HR10 := Lib.hid (HR9.out.grown hg)
  clear hg HF HR9
  have HG : Hid (Calls Tryz.prog 18 #[.pointer (some ⟨A.p, 0, none⟩), .int .i64 32] w10 fun e w' => e = .returned (.int .i64 0) ∧ RF w w' (A.with 0 X) (e5 key) 1 b0 F 1 (gput (fun _ => false) 32) (.slice none 0 0) []) :=
    Lib.hid (HR10.out.give (g := 0) (k := 1) (d := dc) (e4L key) (by show 1 < 8; omega) dc1)
  go_wp2_with fail
  refine HG.out.mono ?_
  rintro e w11 ⟨rfl, hy⟩
  have HR11 := Lib.hid hy
  clear hy HG HR10
  have HT : Hid (Calls Tryz.prog 29 #[.pointer (some ⟨A.p, 0, none⟩), .int .i64 0] w11 fun e w' => e = .returned (.tuple #[.int .i64 32, .int .i64 0]) ∧ RF w w' (A.with 0 X) (e6 key) 1 b0 F 1 (gput (fun _ => false) 32) (.slice none 0 0) []) :=
    Lib.hid (HR11.out.take (g := 0) (k := 1) (d := dd) (x := 2) (e5L key) rfl (by show 1 < 8; omega) dd1 (lk5 key) (by omega))
  go_wp2_with fail
  refine HT.out.mono ?_
  rintro e w12 ⟨rfl, hy⟩
  have HR12 := Lib.hid hy
  clear hy HT HR11
  have HK : Hid (Calls Tryz.prog 37 #[.pointer (some ⟨F.p, 0, none⟩), .int .i64 32] w12 fun e w' => e = .returned (.int .i64 0) ∧ RF w w' (A.with 0 X) (e6 key) 1 b0 F 1 (fun _ => false) (.slice none 0 0) []) := Lib.hid (by
    have := HR12.out.took (a := 32) (.slot 0 de 32 rfl (by omega) (by show 0 < 1; omega) (e6L key)) (p := spc 0 de 1) rfl rfl
    rw [show gcut (gput (fun _ => false) 32) (spc 0 de 1).b (endV (spc 0 de 1)) = gcut (gput (fun _ => false) 32) 32 64 from rfl, gcut_32] at this
    exact this.mono fun _ _ ⟨he, hr, _⟩ => ⟨he, hr⟩)
  go_wp2_with fail
  refine HK.out.mono ?_
  rintro e w13 ⟨rfl, hy⟩
  have HR13 := Lib.hid hy
  clear hy HK HR12
  have HF : Hid (Calls Tryz.prog 42 #[.pointer (some ⟨F.p, 0, none⟩), .int .i64 32] w13 fun e w' => e = .returned (.int .i64 0) ∧ w13.grownBy w' none) :=
    Lib.hid (HR13.out.fault (a := 32) (.slot 0 de 32 rfl (by omega) (by show 0 < 1; omega) (e6L key)))
  go_wp2_with fail
  refine HF.out.mono ?_
  rintro e w14 ⟨rfl, hg⟩
  have HR14 := Lib.hid (HR13.out.grown hg)
  clear hg HF HR13
  have HF : Hid (Calls Tryz.prog 42 #[.pointer (some ⟨F.p, 0, none⟩), .int .i64 40] w14 fun e w' => e = .returned (.int .i64 4) ∧ w14.grownBy w' none) :=
    Lib.hid (HR14.out.fault (a := 40) (.slot 0 de 40 rfl (by omega) (by show 0 < 1; omega) (e6L key)))
  go_wp2_with fail
  refine HF.out.mono ?_
  rintro e w15 ⟨rfl, hg⟩
  have HE := Lib.hid (grown_trans HR14.out.y.all hg)
  clear hg HF HR14
  go_wp2
  go_ret
  exact ⟨rfl, HE.out⟩
set_option maxRecDepth 100000 in
set_option maxHeartbeats 1000000 in
theorem faultNil_walk (a f : Int) (w : World) :
    Calls Tryz.prog 9 #[.int .i64 a, .int .i64 f] w fun e w' => e = .returned (.bool true) ∧ w.grownBy w' none := by
  go_enter Tryz.func9, Tryz.ntmps9
  go_wp2_with fail
  refine (fnew_nil w).mono ?_
  rintro e w1 ⟨rfl, rfl⟩
  go_wp2_with fail
  refine (fnil_note 1 a f w).mono ?_
  rintro e w1 ⟨rfl, rfl⟩
  go_wp2_with fail
  refine (fnil_took a w).mono ?_
  rintro e w1 ⟨rfl, rfl⟩
  go_wp2_with fail
  refine (fnil_dropped a w).mono ?_
  rintro e w1 ⟨rfl, rfl⟩
  go_wp2_with fail
  refine (fnil_fault a w).mono ?_
  rintro e w1 ⟨rfl, hg⟩
  go_wp2_with fail
  refine (fnil_reports _).mono ?_
  rintro e w2 ⟨rfl, rfl⟩
  go_wp2_with fail
  refine (fnil_gone _).mono ?_
  rintro e w2 ⟨rfl, rfl⟩
  go_wp2_with fail
  refine (awake10_at _).mono ?_
  rintro e w2 ⟨rfl, hg2⟩
  have HE := Lib.hid (grown_trans hg hg2)
  clear hg hg2
  go_wp2
  go_ret
  exact ⟨rfl, HE.out⟩
end Go.Proofs.YtgnfcklippjeeaaGreat
