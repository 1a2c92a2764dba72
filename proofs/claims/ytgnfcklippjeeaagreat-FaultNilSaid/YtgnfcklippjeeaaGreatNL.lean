/- Chapter 9's example, and the walk of RegionNew. -/
import Derived.Test.YtgnfcklippjeeaaGreatNK
namespace Go.Proofs.YtgnfcklippjeeaaGreat
open Go.RowKit
open Go.Maps (Keyed)
open Sl (Cls bs upd FOk LnkIs)
open Lg (pgs)

/-- A region that is at hand, all of it younger than a world. -/
structure RnY (w0 w : World) (A : Rp) (V : St) (cnt : Nat) : Prop where
  at_ : RnAt w A V cnt
  may : ∀ i, A.may V.L i → w0.heap.size ≤ i
  all : w0.grownBy w none
theorem RnY.grown {w0 w w' : World} {A : Rp} {V : St} {cnt : Nat} (h : RnY w0 w A V cnt) (hg : w.grownBy w' none) : RnY w0 w' A V cnt := ⟨h.at_.grown hg, h.may, grown_trans h.all hg⟩
theorem RnY.step {w0 w w' : World} {A A' : Rp} {V V' : St} {cnt cnt' : Nat} (h : RnY w0 w A V cnt) (hr : RnAt w' A' V' cnt') (hf : Fr (A.may V.L) w w') (hm : ∀ i, A'.may V'.L i → A.may V.L i ∨ w.heap.size ≤ i) : RnY w0 w' A' V' cnt' :=
  ⟨hr, fun i hi => (hm i hi).elim (h.may i) (Nat.le_trans h.all.size), hf.grown h.all (fun i hi hx => by have := h.may i hx; omega)⟩
theorem may_set {A : Rp} {V : St} {g i : Nat} {d d' : Sd} (hl : V.L g = some d) (h : A.may (V.set g (some d')) i) : A.may V.L i := by
  rcases h with h | h | h | h | ⟨k, e, hk, hi⟩
  · exact .inl h
  · exact .inr (.inl h)
  · exact .inr (.inr (.inl h))
  · exact .inr (.inr (.inr (.inl h)))
  · by_cases x : k = g
    · subst x; exact .inr (.inr (.inr (.inr ⟨k, d, hl, hi⟩)))
    · rw [St.set_other x] at hk; exact .inr (.inr (.inr (.inr ⟨k, e, hk, hi⟩)))
theorem may_unset {A : Rp} {V : St} {g i : Nat} (h : A.may (V.set g none) i) : A.may V.L i := by
  rcases h with h | h | h | h | ⟨k, e, hk, hi⟩
  · exact .inl h
  · exact .inr (.inl h)
  · exact .inr (.inr (.inl h))
  · exact .inr (.inr (.inr (.inl h)))
  · by_cases x : k = g
    · subst x; rw [St.set_same] at hk; cases hk
    · rw [St.set_other x] at hk; exact .inr (.inr (.inr (.inr ⟨k, e, hk, hi⟩)))
theorem RnY.open_ {w0 w w' : World} {A : Rp} {V : St} {cnt p c s n r o : Nat} (h : RnY w0 w A V cnt) (ho : OpenRes w w' A V cnt p c s n r o) : ∃ X, RnY w0 w' (A.with p X) (V.open_ p c s n r o) (cnt + 1) := by
  obtain ⟨X, h1, h2, h3⟩ := ho
  exact ⟨X, h.step h1 h2 (fun i hi => with_may h3 hi)⟩
theorem rnew_y {w w' : World} {m M s : Nat} {e : Ending} (h : RnMade w w' m M s e) : ∃ A : Rp, e = .returned (.tuple #[.pointer (some ⟨A.p, 0, none⟩), .int .i64 0]) ∧ RnY w w' A (St.new m (m + M) (keyOf s)) 0 ∧ w.heap.size ≤ A.p := by
  obtain ⟨A, h1, h2, h3, h4, h5⟩ := h
  exact ⟨A, h1, ⟨h2, h5, h3⟩, h4⟩
theorem RnY.take {w0 w : World} {A : Rp} {V : St} {cnt g k : Nat} {d : Sd} {x : Int} (h : RnY w0 w A V cnt) (hl : V.L g = some d) (hf : d.f = (k : Int)) (hk : k < d.n) (h0 : d.S k = 0) (hx : LnkIs V.key g d.s d.n d.S V.B k x) (h2 : x ≠ -2) :
    Calls Tryz.prog 29 #[.pointer (some ⟨A.p, 0, none⟩), .int .i64 g] w fun e w' => e = .returned (.tuple #[.int .i64 (bs g d.s k : Nat), .int .i64 0]) ∧ RnY w0 w' A (V.take g d k x) cnt :=
  (rtake_ok h.at_ hl hf hk h0 hx h2).mono fun _ _ ⟨he, hr, hfr⟩ => ⟨he, h.step hr hfr (fun _ hi => .inl (may_set hl hi))⟩

/-! The first two slots of a new page of slots of class 1. -/
def d1 (o : Nat) : Sd := ⟨1, 32, 8, 24, o, fun _ => 0, 0⟩
theorem cls1 : Cls 1 32 8 24 := .inr (.inl ⟨rfl, rfl, rfl, rfl⟩)
theorem place0 {m n key : Nat} (hm : 1 ≤ m) (hn : m ≤ n) : (St.new m n key).Place 1 ((0 : Nat) : Int) :=
  .inl ⟨0, rfl, fun i _ h2 => ⟨by show i < n; omega, by omega, by show (i : Int) < (m : Nat); omega, rfl⟩, fun j hj => by omega⟩
theorem open_L (V : St) (p c s n r o : Nat) : (V.open_ p c s n r o).L p = some ⟨c, s, n, r, o, fun _ => 0, 0⟩ := St.set_same V p _
theorem take_L (V : St) (g : Nat) (d : Sd) (k : Nat) (x : Int) : (V.take g d k x).L g = some { d with S := upd d.S k 1, f := x } := St.set_same V g _
theorem link0 (V : St) (o : Nat) : LnkIs V.key 0 32 8 (fun _ => 0) (V.open_ 0 1 32 8 24 o).B 0 1 :=
  .inr (.inl ⟨1, by omega, rfl, by omega, rfl, Sl.layF_word (g := 0) (k := 0) cls1 (by omega) (by omega)⟩)
theorem link1 (V : St) (o : Nat) : LnkIs V.key 0 32 8 (upd (fun _ => 0) 0 1) ((V.open_ 0 1 32 8 24 o).take 0 (d1 o) 0 1).B 1 2 := by
  refine .inr (.inl ⟨2, by omega, rfl, by omega, rfl, ?_⟩)
  have e : Ar.wordAt ((V.open_ 0 1 32 8 24 o).take 0 (d1 o) 0 1).B (bs 0 32 1) = Ar.wordAt (V.open_ 0 1 32 8 24 o).B (bs 0 32 1) :=
    Ar.wordAt_congr (fun i h1 h2 => Sl.takeB_out cls1 (.inr (by simp only [bs] at *; show bs 0 32 0 + 32 ≤ i; simp only [bs]; omega)))
  rw [e]
  exact Sl.layF_word (g := 0) (k := 1) cls1 (by omega) (by omega)
set_option maxRecDepth 100000 in
set_option maxHeartbeats 2000000 in
theorem awake9_at (w : World) :
    Calls Tryz.prog 16 #[] w fun e w' => e = .returned (.bool true) ∧ w.grownBy w' none := by
  have HN : Hid (Calls Tryz.prog 22 #[.agg #[.int .i64 2, .int .i64 0, .int .u64 0]] w fun e w' => RnMade w w' 2 0 0 e) := Lib.hid (rgnew_yes (m := 2) (M := 0) 0 w ⟨by omega, by omega, by omega, by omega⟩)
  go_enter Tryz.func16, Tryz.ntmps16
  go_wp2_with fail
  refine HN.out.mono ?_
  rintro e w1 hm
  obtain ⟨A, rfl, hy, _⟩ := rnew_y hm
  have HY := Lib.hid hy
  clear hm hy HN
  generalize keyOf 0 = key at *
  have HO : Hid (Calls Tryz.prog 28 #[.pointer (some ⟨A.p, 0, none⟩), .int .i64 1, .int .i64 3] w1 fun e w' => e = .returned (.tuple #[.int .i64 0, .int .i64 0]) ∧ OpenRes w1 w' A (St.new 2 2 key) 0 0 1 32 8 24 3) :=
    Lib.hid (ropen_ok (c := 1) (o := 3) HY.out.at_ cls1 (by omega) (place0 (by omega) (by omega)) (by omega))
  go_wp2_with fail
  refine HO.out.mono ?_
  rintro e w2 ⟨rfl, ho⟩
  obtain ⟨X, hy⟩ := HY.out.open_ ho
  have HY2 := Lib.hid hy
  have hp : (A.with 0 X).p = A.p := rfl
  clear ho hy HY HO
  have HT : Hid (Calls Tryz.prog 29 #[.pointer (some ⟨A.p, 0, none⟩), .int .i64 0] w2 fun e w' => e = .returned (.tuple #[.int .i64 0, .int .i64 0]) ∧ RnY w w' (A.with 0 X) (((St.new 2 2 key).open_ 0 1 32 8 24 3).take 0 (d1 3) 0 1) 1) :=
    Lib.hid (HY2.out.take (g := 0) (k := 0) (d := d1 3) (x := 1) (open_L _ _ _ _ _ _ _) rfl (by show 0 < 8; omega) rfl (link0 _ _) (by omega))
  go_wp2_with fail
  refine HT.out.mono ?_
  rintro e w3 ⟨rfl, hy⟩
  have HY3 := Lib.hid hy
  clear hy HT HY2
  have HT : Hid (Calls Tryz.prog 29 #[.pointer (some ⟨A.p, 0, none⟩), .int .i64 0] w3 fun e w' => e = .returned (.tuple #[.int .i64 32, .int .i64 0]) ∧ RnY w w' (A.with 0 X) ((((St.new 2 2 key).open_ 0 1 32 8 24 3).take 0 (d1 3) 0 1).take 0 { d1 3 with S := upd (fun _ => 0) 0 1, f := 1 } 1 2) 1) :=
    Lib.hid (HY3.out.take (g := 0) (k := 1) (d := { d1 3 with S := upd (fun _ => 0) 0 1, f := 1 }) (x := 2) (take_L _ _ _ _ _) rfl (by show 1 < 8; omega) rfl (link1 _ _) (by omega))
  go_wp2_with fail
  refine HT.out.mono ?_
  rintro e w4 ⟨rfl, hy⟩
  have HY4 := Lib.hid hy
  clear hy HT HY3
  have HF : Hid (Calls Tryz.prog 27 #[.pointer (some ⟨A.p, 0, none⟩), .int .i64 40] w4 fun e w' => e = .returned (.tuple #[.agg #[.int .i64 0, .int .i64 1, .int .i64 32, .int .i64 24, .int .i64 1, .bool false], .bool true]) ∧ w4.grownBy w' none) :=
    Lib.hid (find_at HY4.out.at_ (.slot 0 _ 40 rfl (by omega) (by show 0 < 2; omega) (take_L _ _ _ _ _)))
  go_wp2_with fail
  refine HF.out.mono ?_
  rintro e w5 ⟨rfl, hg⟩
  have HE := Lib.hid (grown_trans (grown_trans HY4.out.all hg) (grown_alloc _ (.cells #[.int .i64 0, .int .i64 1, .int .i64 32, .int .i64 24, .int .i64 1, .bool false] 37) _))
  clear hg HF HY4
  go_wp2
  go_ret
  exact ⟨rfl, HE.out⟩
set_option maxRecDepth 100000 in
set_option maxHeartbeats 4000000 in
theorem regionNew_walk (m M a : Int) (w : World) (hm : WF m) (hM : WF M) :
    Calls Tryz.prog 5 #[.int .i64 m, .int .i64 M, .int .i64 a] w fun e w' => e = .returned (.bool true) ∧ w.grownBy w' none := by
  have hmay := fun W => rmay_at m M W hm hM
  by_cases hp : Parts m M
  · rw [(partsB_iff m M).2 hp] at hmay
    have HM := Lib.hid hmay
    obtain ⟨k, hk⟩ : ∃ k : Nat, m = k := ⟨m.toNat, by have := hp.1; omega⟩
    obtain ⟨l, hl⟩ : ∃ l : Nat, M = l := ⟨M.toNat, by have := hp.2.1; omega⟩
    subst hk
    subst hl
    have HN := Lib.hid (rgnew_yes 0 w hp)
    have hs : ((k : Nat) : Int) + (l : Nat) = ((k + l : Nat) : Int) := by omega
    have h256 : k + l ≤ 256 := by unfold Parts at hp; omega
    have hw1 : IntKind.i64.wrap ((k + l : Nat) : Int) = ((k + l : Nat) : Int) := by rw [IntKind.wrap_i64]; omega
    have hw2 : 256 * ((k + l : Nat) : Int) = (((k + l) * 256 : Nat) : Int) := by omega
    have hw3 : IntKind.i64.wrap (((k + l) * 256 : Nat) : Int) = (((k + l) * 256 : Nat) : Int) := by rw [IntKind.wrap_i64]; omega
    clear hm hM hmay hp h256
    go_enter Tryz.func5, Tryz.ntmps5
    go_wp2_with fail
    refine HN.out.mono ?_
    rintro e w1 hmd
    obtain ⟨A, rfl, hy, _⟩ := rnew_y hmd
    have HY := Lib.hid hy
    clear hmd hy HN
    go_wp2_with fail
    refine (HM.out _).mono ?_
    rintro e w2 ⟨rfl, rfl⟩
    have HAr := Lib.hid (arena_at HY.out.at_.toRnW)
    have HLn := Lib.hid (fun W (g1 : w1.grownBy W none) => An.alen_core A.pa A.qa ((k + l) * 256) A.acap W (HY.out.grown g1).at_.ar.c0)
    have HCf := Lib.hid (config_at HY.out.at_.toRnW)
    have HPg := Lib.hid (fun W (g1 : w1.grownBy W none) => pages_at (HY.out.grown g1).at_.toRnW)
    have HPL := Lib.hid (fun W (g1 : w1.grownBy W none) => Pt.plen_at (HY.out.grown g1).at_.tab)
    have hfd : Hid (∀ b c w, (Instr.field 60 (.agg #[.int .i64 (k : Nat), .int .i64 b, .int .u64 c]) 0).run Tryz.prog w = .ok (.int .i64 (k : Nat)) w) := Lib.hid (fun b c w => cfg_field0 k b c w)
    simp only [St.new] at HCf HPL
    have hfd1 := hfd.out (((k + l : Nat) : Int) - (k : Nat)) (A.seed : Nat)
    generalize (((k + l) * 256 : Nat) : Int) = nb at *
    generalize ((k + l : Nat) : Int) = nn at *
    generalize ((k : Nat) : Int) = kk at *
    generalize ((l : Nat) : Int) = ll at *
    generalize nn - kk = z at *
    generalize ((A.seed : Nat) : Int) = sd at *
    go_wp2_with fail
    refine HAr.out.mono ?_
    rintro e w2 ⟨rfl, rfl⟩
    go_wp2_with fail
    refine (HLn.out _ (grown_refl _ _)).mono ?_
    rintro e w2 ⟨rfl, rfl⟩
    go_wp2_with fail
    refine HCf.out.mono ?_
    rintro e w2 ⟨rfl, g2⟩
    go_wp2_with fail
    refine (HPg.out _ g2).mono ?_
    rintro e w3 ⟨rfl, rfl⟩
    go_wp2_with fail
    refine (HPL.out _ g2).mono ?_
    rintro e w3 ⟨rfl, rfl⟩
    have HG := Lib.hid (grown_trans HY.out.all g2)
    clear g2 HAr HLn HCf HPg HPL HY hfd hfd1
    go_wp2_with fail
    refine (rnil_find a _).mono ?_
    unfold fndV pc0
    simp only []
    rintro e wz ⟨rfl, hg⟩
    have HG := Lib.hid (grown_trans HG.out hg)
    clear hg
    go_wp2_with fail
    refine (rnil_open 0 0 _).mono ?_
    rintro e wz ⟨rfl, hg⟩
    have HG := Lib.hid (grown_trans (grown_trans HG.out (grown_alloc _ _ _)) hg)
    clear hg
    go_wp2_with fail
    refine (rnil_take a _).mono ?_
    rintro e wz ⟨rfl, hg⟩
    have HG := Lib.hid (grown_trans HG.out hg)
    clear hg
    go_wp2_with fail
    refine (rnil_drop a _).mono ?_
    rintro e wz ⟨rfl, hg⟩
    have HG := Lib.hid (grown_trans HG.out hg)
    clear hg
    go_wp2_with fail
    refine (rnil_great a _).mono ?_
    rintro e wz ⟨rfl, hg⟩
    have HG := Lib.hid (grown_trans HG.out hg)
    clear hg
    go_wp2_with fail
    refine (rnil_home 0 0 _).mono ?_
    rintro e wz ⟨rfl, hg⟩
    have HG := Lib.hid (grown_trans HG.out hg)
    clear hg
    go_wp2_with fail
    refine (rnil_give a _).mono ?_
    rintro e wz ⟨rfl, hg⟩
    have HG := Lib.hid (grown_trans HG.out hg)
    clear hg
    go_wp2_with fail
    refine (rnil_shut a _).mono ?_
    rintro e wz ⟨rfl, hg⟩
    have HG := Lib.hid (grown_trans HG.out hg)
    clear hg
    go_wp2_with fail
    refine (rnil_live _).mono ?_
    rintro e wz ⟨rfl, hg⟩
    have HG := Lib.hid (grown_trans HG.out hg)
    clear hg
    go_wp2_with fail
    refine (rnil_owner a _).mono ?_
    rintro e wz ⟨rfl, hg⟩
    have HG := Lib.hid (grown_trans HG.out hg)
    clear hg
    go_wp2_with fail
    refine (rnil_count a 0 _).mono ?_
    rintro e wz ⟨rfl, hg⟩
    have HG := Lib.hid (grown_trans HG.out hg)
    clear hg
    go_wp2_with fail
    refine (rnil_arena _).mono ?_
    rintro e wz ⟨rfl, hg⟩
    have HG := Lib.hid (grown_trans HG.out hg)
    clear hg
    go_wp2_with fail
    refine (rnil_pages _).mono ?_
    rintro e wz ⟨rfl, hg⟩
    have HG := Lib.hid (grown_trans HG.out hg)
    clear hg
    go_wp2_with fail
    refine (rnil_check _).mono ?_
    rintro e wz ⟨rfl, hg⟩
    have HG := Lib.hid (grown_trans HG.out hg)
    clear hg
    go_wp2_with fail
    refine (awake9_at _).mono ?_
    rintro e wz ⟨rfl, hg⟩
    have HG := Lib.hid (grown_trans HG.out hg)
    clear hg
    go_wp2
    go_ret
    exact ⟨rfl, HG.out⟩
  · have hpb : partsB m M = false := by
      cases h : partsB m M with
      | false => rfl
      | true => exact absurd ((partsB_iff m M).1 h) hp
    rw [hpb] at hmay
    have HM := Lib.hid hmay
    have HN := Lib.hid (rgnew_no 0 w hm hp)
    clear hm hM hmay hp hpb
    go_enter Tryz.func5, Tryz.ntmps5
    go_wp2_with fail
    refine HN.out.mono ?_
    rintro e w1 ⟨rfl, hg⟩
    have HG := Lib.hid hg
    clear hg HN
    go_wp2_with fail
    refine (HM.out _).mono ?_
    rintro e w2 ⟨rfl, rfl⟩
    go_wp2_with fail
    refine (rnil_find a _).mono ?_
    unfold fndV pc0
    simp only []
    rintro e wz ⟨rfl, hg⟩
    have HG := Lib.hid (grown_trans HG.out hg)
    clear hg
    go_wp2_with fail
    refine (rnil_open 0 0 _).mono ?_
    rintro e wz ⟨rfl, hg⟩
    have HG := Lib.hid (grown_trans (grown_trans HG.out (grown_alloc _ _ _)) hg)
    clear hg
    go_wp2_with fail
    refine (rnil_take a _).mono ?_
    rintro e wz ⟨rfl, hg⟩
    have HG := Lib.hid (grown_trans HG.out hg)
    clear hg
    go_wp2_with fail
    refine (rnil_drop a _).mono ?_
    rintro e wz ⟨rfl, hg⟩
    have HG := Lib.hid (grown_trans HG.out hg)
    clear hg
    go_wp2_with fail
    refine (rnil_great a _).mono ?_
    rintro e wz ⟨rfl, hg⟩
    have HG := Lib.hid (grown_trans HG.out hg)
    clear hg
    go_wp2_with fail
    refine (rnil_home 0 0 _).mono ?_
    rintro e wz ⟨rfl, hg⟩
    have HG := Lib.hid (grown_trans HG.out hg)
    clear hg
    go_wp2_with fail
    refine (rnil_give a _).mono ?_
    rintro e wz ⟨rfl, hg⟩
    have HG := Lib.hid (grown_trans HG.out hg)
    clear hg
    go_wp2_with fail
    refine (rnil_shut a _).mono ?_
    rintro e wz ⟨rfl, hg⟩
    have HG := Lib.hid (grown_trans HG.out hg)
    clear hg
    go_wp2_with fail
    refine (rnil_live _).mono ?_
    rintro e wz ⟨rfl, hg⟩
    have HG := Lib.hid (grown_trans HG.out hg)
    clear hg
    go_wp2_with fail
    refine (rnil_owner a _).mono ?_
    rintro e wz ⟨rfl, hg⟩
    have HG := Lib.hid (grown_trans HG.out hg)
    clear hg
    go_wp2_with fail
    refine (rnil_count a 0 _).mono ?_
    rintro e wz ⟨rfl, hg⟩
    have HG := Lib.hid (grown_trans HG.out hg)
    clear hg
    go_wp2_with fail
    refine (rnil_arena _).mono ?_
    rintro e wz ⟨rfl, hg⟩
    have HG := Lib.hid (grown_trans HG.out hg)
    clear hg
    go_wp2_with fail
    refine (rnil_pages _).mono ?_
    rintro e wz ⟨rfl, hg⟩
    have HG := Lib.hid (grown_trans HG.out hg)
    clear hg
    go_wp2_with fail
    refine (rnil_check _).mono ?_
    rintro e wz ⟨rfl, hg⟩
    have HG := Lib.hid (grown_trans HG.out hg)
    clear hg
    go_wp2_with fail
    refine (awake9_at _).mono ?_
    rintro e wz ⟨rfl, hg⟩
    have HG := Lib.hid (grown_trans HG.out hg)
    clear hg
    go_wp2
    go_ret
    exact ⟨rfl, HG.out⟩
end Go.Proofs.YtgnfcklippjeeaaGreat
