/- LargePlays: the walk. -/
import Derived.Test.YticoojcmlkdeiaaRM
namespace Go.Proofs.Yticoojcmlkdeiaa
open Go.RowKit
open Sl (upd)
open Lg (pgs)
open Rf (LZ)

theorem pl8_late {w0 wb w3 : World} {X : Lp} (hy : LgY w0 w3 X 0 (fun _ => 0) (fun _ => 0)) (hg : (((wb.alloc (.cells (An.zeroBytes X.N) 5)).alloc (.cells #[.slice (some ⟨wb.heap.size, 0, none⟩) X.N X.N, .int .u64 (X.key : Nat), .slice none 0 0] 63)).drew).grownBy w3 none) (h0 : w0.heap.size ≤ wb.heap.size) (hq : ¬ X.may wb.heap.size) (hr : ¬ X.may (wb.heap.size + 1)) (hp : X.p ≠ wb.heap.size + 1) (hpa : X.pa < wb.heap.size) :
    PL8 w0 w3 X (wb.heap.size + 1) 0 wb.heap.size X.N 0 none [] (fun _ => 0) (fun _ => 0) := by
  obtain ⟨D, hd⟩ := hy.at_
  have e1 : (wb.alloc (.cells (An.zeroBytes X.N) 5)).heap.size = wb.heap.size + 1 := by simp
  have hc : ∀ k v, (#[.slice (some ⟨wb.heap.size, 0, none⟩) X.N X.N, .int .u64 (X.key : Nat), .slice none 0 0] : Array Value)[k]? = some v → w3.cell? ⟨wb.heap.size + 1, k, none⟩ = some v := fun k v hv => by
    refine hg.cell ?_ (by simp)
    rw [← e1]
    show ((wb.alloc (.cells (An.zeroBytes X.N) 5)).alloc _).cell? _ = _
    rw [cell_alloc_new]
    exact hv
  have hb : An.BytesAt w3 wb.heap.size X.N (fun _ => 0) := (((An.bytes_new wb 5 X.N).grown (grown_alloc _ _ none) (by simp)).drew).grown hg (by simp)
  refine ⟨hy, ⟨hc 0 _ rfl, hc 1 _ rfl, hc 2 _ rfl, fun k => ?_, hb, Nat.le_refl _, Nat.zero_le _, .inl rfl, by omega, by omega, h0, hd.ar.small, fun _ => by decide, hd.k⟩, Rf.lz_nil, hp, by omega, hr, hq, fun a e => by cases e⟩
  rw [World.frozen?_of_block (hg.block (wb.heap.size + 1) (by simp) (by simp)), ← e1]
  exact frozen_alloc_new ..

set_option maxRecDepth 100000 in
set_option maxHeartbeats 8000000 in
theorem lplays_walk (seed pg : Nat) (A0 : Option Addr) (len lcap : Nat) (O : Nat → LOp) (w : World) (hpg : pg < 256) (hlen : len ≤ 9223372036854775807) (hA : LOpsAt w A0 len O) :
    Calls Try.prog 7 #[.int .u64 seed, .int .u8 pg, .slice A0 len lcap] w fun e w' => e = .returned (.bool true) ∧ w.grownBy w' none := by
  have HA := Lib.hid hA
  obtain ⟨nn, hnn⟩ : ∃ nn : Nat, pg % 12 = nn := ⟨_, rfl⟩
  have hn12 : nn < 12 := by omega
  have e1 : ((pg : Nat) : Int) % 12 = (nn : Int) := by omega
  have hpi : (pg : Int) ≤ 255 := by omega
  have hni : (nn : Int) ≤ 11 := by omega
  have HN12 := Lib.hid hn12
  have hli : (len : Int) ≤ 9223372036854775807 := by omega
  clear hA hnn hn12 hpg hlen
  go_enter Try.func7, Try.ntmps7
  go_upto_region 1 with (fail)
  go_cut [7] from 25 to 27 (fun s7 wx => s7 = .int .i64 (nn : Nat) ∧ wx = w)
  case first =>
    go_wp2
    go_meet
    exact ⟨by rw [e1], rfl⟩
  case rest =>
  obtain ⟨rfl, rfl⟩ := hcut
  obtain ⟨w, rfl⟩ : ∃ w : World, w = wc := ⟨_, rfl⟩
  clear e1
  go_wp2_with fail
  refine (An.anew_at nn nn w (by have := HN12.out; omega) (.inr (.inl (by omega)))).mono ?_
  rintro e w1 ⟨pa, qa, acap, rfl, ha, h1, h2, hg⟩
  have HAr := Lib.hid ha
  have HPQ := Lib.hid (And.intro h1 h2)
  have HG := Lib.hid hg
  clear ha h1 h2 hg
  go_wp2_with fail
  refine (new_at seed w1).mono ?_
  rintro e w2 ⟨rfl, hg⟩
  have HA2 := Lib.hid (HAr.out.grown hg (by simp) (by simp))
  have HG2 := Lib.hid (grown_trans HG.out hg)
  have HW2 := Lib.hid hg.size
  have hkl := keyOf_lt seed
  have HQL := Lib.hid (And.intro HAr.out.plt HAr.out.b.qlt)
  clear hg HAr HG
  generalize keyOf seed = key at *
  have HKL := Lib.hid hkl
  clear hkl
  go_upto_region 3 with (fail)
  obtain ⟨xb, hxb⟩ : ∃ xb, xb = w2.heap.size := ⟨_, rfl⟩
  rw [← hxb]
  have x0 : (w2.alloc (.cells #[.int .u64 (key : Nat)] 52)).cell? ⟨xb, 0, none⟩ = some (.int .u64 (key : Nat)) := by rw [hxb, cell_alloc_new]; rfl
  have HAB := Lib.hid (HA2.out.grown (grown_alloc w2 (.cells #[.int .u64 (key : Nat)] 52) none) (by simp) (by simp))
  have HGB := Lib.hid (grown_trans HG2.out (grown_alloc w2 (.cells #[.int .u64 (key : Nat)] 52) none))
  have HSB := Lib.hid (And.intro HQL.out (Nat.le_trans HW2.out (grown_alloc w2 (.cells #[.int .u64 (key : Nat)] 52) none).size))
  generalize w2.alloc (.cells #[.int .u64 (key : Nat)] 52) = wb at x0 HAB HGB HSB ⊢
  clear hxb HA2 HG2 HW2 HQL
  obtain ⟨N, hN⟩ : ∃ N, nn * 256 = N := ⟨_, rfl⟩
  rw [hN] at HAB
  have HN := Lib.hid hN
  have a1 : IntKind.i64.wrap (256 * (nn : Int)) = (N : Int) := by rw [IntKind.wrap_i64]; omega
  have hNs : N ≤ 65536 := by omega
  have HNW : Hid (∀ W, wb.grownBy W none → Calls Try.prog 28 #[.pointer (some ⟨pa, 0, none⟩), .agg #[.int .u64 (key : Nat)]] W fun e w' => ∃ X : Lp, e = .returned (.pointer (some ⟨X.p, 0, none⟩)) ∧ X.pa = pa ∧ X.N = N ∧ X.key = key ∧ LgY w w' X 0 (fun _ => 0) (fun _ => 0) ∧ wb.grownBy w' none ∧ W.grownBy w' none ∧ w'.cell? ⟨xb, 0, none⟩ = some (.int .u64 (key : Nat)) ∧ (∀ q, wb.heap.size ≤ q → q < W.heap.size → ¬ X.may q) ∧ W.heap.size ≤ X.p ∧ X.pa < wb.heap.size) := Lib.hid (fun W gW => by
    refine (lnew_at (HAB.out.grown gW (by simp) (by simp)) HKL.out).mono ?_
    rintro e w' ⟨p, mb, rfl, hl, hp, hmb, hg⟩
    have s1 := HSB.out
    have s2 := HPQ.out
    have s3 := gW.size
    have s4 := HGB.out.size
    refine ⟨⟨p, pa, qa, mb, key, N, acap⟩, rfl, rfl, rfl, rfl, ⟨⟨_, hl⟩, s2.2, by show w.heap.size ≤ mb; omega, grown_trans HGB.out (grown_trans gW hg)⟩, grown_trans gW hg, hg, hg.cell (gW.cell x0 (by simp)) (by simp), fun q hq1 hq2 => ?_, hp, by show pa < wb.heap.size; omega⟩
    unfold Lp.may
    show ¬ (q = qa ∨ q = mb)
    omega)
  have g1 : wb.grownBy wb.drew none := grown_drew1 (grown_refl wb none)
  have g3 : wb.grownBy (((wb.alloc (.cells (An.zeroBytes N) 5)).alloc (.cells #[.slice (some ⟨wb.heap.size, 0, none⟩) N N, .int .u64 (key : Nat), .slice none 0 0] 63)).drew) none := grown_drew1 (grown_trans (grown_alloc _ _ none) (grown_alloc _ _ _))
  have g2 : wb.grownBy ((wb.alloc (.cells (An.zeroBytes N) 5)).drew) none := grown_drew1 (grown_alloc _ _ _)
  have hmk : (Instr.makeSlice 26 (.int .i64 (N : Int)) (.int .i64 (N : Int))).run Try.prog wb.drew = .ok (.slice (some ⟨wb.heap.size, 0, none⟩) N N) ((wb.alloc (.cells (An.zeroBytes N) 5)).drew) := An.make_bytes wb.drew N hNs
  have x2 : (wb.alloc (.cells (An.zeroBytes N) 5)).cell? ⟨xb, 0, none⟩ = some (.int .u64 (key : Nat)) := (grown_alloc wb _ none).cell x0 (by simp)
  have x5 : ((wb.alloc (.cells (An.zeroBytes N) 5)).alloc (.cells #[.slice (some ⟨wb.heap.size, 0, none⟩) N N, .int .u64 (key : Nat), .slice none 0 0] 63)).cell? ⟨xb, 0, none⟩ = some (.int .u64 (key : Nat)) := (grown_alloc _ _ none).cell x2 (by simp)
  have HNS := Lib.hid hNs
  have HBZ : Hid (An.BytesAt ((wb.alloc (.cells (An.zeroBytes N) 5)).drew) wb.heap.size N (fun _ => 0)) := Lib.hid (An.bytes_new wb 5 N).drew
  clear hN hNs
  go_cut [10, 11] from 32 to 41 (fun v10 v11 W => ∃ (X : Lp) (r q cap : Nat), v10 = .pointer (some ⟨X.p, 0, none⟩) ∧ v11 = .pointer (some ⟨r, 0, none⟩) ∧ X.pa = pa ∧ X.N = N ∧ PL8 w W X r 0 q cap 0 none [] (fun _ => 0) (fun _ => 0))
  case first =>
    go_region_law (go_simp; go_wp2_with (go_at_call 28; (with_reducible refine (HNW.out _ (by assumption)).mono ?_); rintro e w3 ⟨X, rfl, hpa, hXN, hXk, hy, hgb, hgW, x3, hmay, hpp, hpaa⟩; have hmk3 := An.make_bytes w3 N HNS.out; have x4 := (grown_alloc w3 (.cells (An.zeroBytes N) 5) none).cell x3 (by simp); have HY := Lib.hid (And.intro hy (And.intro hgb (And.intro hgW (And.intro hmay (And.intro hpp hpaa))))); have HX := Lib.hid (And.intro hpa (And.intro hXN hXk)); clear hy hgb hgW hmay hpa hXN hXk hpp hpaa))
    all_goals
      go_wp2
      go_meet
      obtain ⟨hpa, hXN, hXk⟩ := HX.out
      obtain ⟨hy, hgb, hgW, hmay, hpp, hpaa⟩ := HY.out
      subst hXN
      subst hXk
      have hs0 := HGB.out.size
      have hs1 := hgb.size
      have hs2 := hgW.size
      first
      | exact ⟨X, w3.heap.size, wb.heap.size, X.N, rfl, rfl, hpa, rfl, pl8_start hy (HBZ.out.grown hgW (by simp)) hs0 (hmay _ (Nat.le_refl _) (by simp))⟩
      | exact ⟨X, (w3.alloc (.cells (An.zeroBytes X.N) 5)).heap.size, w3.heap.size, X.N, rfl, by simp, hpa, rfl, pl8_start (hy.grown (grown_alloc _ _ none)) (An.bytes_new w3 5 X.N) (by omega) (hy.not_may (Nat.le_refl _))⟩
      | exact ⟨X, wb.heap.size + 1, wb.heap.size, X.N, rfl, rfl, hpa, rfl, pl8_late hy hgW hs0 (hmay _ (Nat.le_refl _) (by simp; omega)) (hmay _ (Nat.le_succ _) (by simp)) (by have := hpp; simp at this; omega) hpaa⟩
  case rest =>
  obtain ⟨X, r, q, cap, rfl, rfl, rfl, rfl, hp8⟩ := hcut
  have HP8 := Lib.hid hp8
  clear hp8 x0 HAB HGB HSB HNW g1 g2 g3 hmk x2 x5 HBZ a1 HNS
  go_wp2_with fail
  refine ploop HP8 (Lib.hid HN.out.symm) HA ?_
  intro x w5 hX
  obtain ⟨u, rfl⟩ := frame_plays hX.size hX.defers
  have HXX := Lib.hid hX.fr
  clear hX HP8
  go_wp2_with fail
  refine (lawake_at _).mono ?_
  rintro e w6 ⟨rfl, hg⟩
  have HG6 := Lib.hid (grown_trans HXX.out hg)
  clear hg
  go_wp2
  go_ret
  exact ⟨rfl, HG6.out⟩
end Go.Proofs.Yticoojcmlkdeiaa
