/- The walk of QuarPlays. -/
import Derived.Test.YtldpljfanlhooaaF
import Derived.Test.YtldpljfanlhooaaAr
import Derived.Deep.CutBlock
import Derived.BigRegion
import Derived.Deep.RegionLaw
namespace Go.Proofs.Ytldpljfanlhooaa
open Go.RowKit
open Is

attribute [local go_sem ↓] appS_of
/-- How the law stands: its list v, and the quarantine at p. -/
structure PlW (w0 wr : World) (p m : Nat) (v : Value) (W : List Int) : Prop where
  rd : Rd wr v W
  ne : ∀ q, v.ownBlock = some q → q ≠ p
  qu : Qu wr p m W
  g : w0.grownBy wr none
  pw : w0.heap.size ≤ p
theorem PlW.grown {w0 wr w' : World} {p m : Nat} {v : Value} {W : List Int} (h : PlW w0 wr p m v W) (g : wr.grownBy w' none) : PlW w0 w' p m v W :=
  ⟨h.rd.grown g, h.ne, h.qu.grown g, grown_trans h.g g, h.pw⟩
/-- Behind a Put and the document's. -/
theorem PlW.put {w0 wr w1 w2 : World} {p m : Nat} {v v' : Value} {W W' : List Int} (h : PlW w0 wr p m v W) (hq : Qu w1 p m W') (hg : wr.grownBy w1 (some p)) (hr : Rd w2 v' W') (hn : ∀ q, v'.ownBlock = some q → w1.heap.size ≤ q) (hg2 : w1.grownBy w2 none) : PlW w0 w2 p m v' W' :=
  ⟨hr, fun q e => by have := hn q e; have := hq.lt; omega, hq.grown hg2, grown_trans (grown_own h.g hg h.pw) hg2, h.pw⟩

/-- append onto what is the call's own leaves all that was there before. -/
theorem fresh_app {w0 w w' : World} {base : Nat} {v v' : Value} {xs ys : List Int} (h : w0.grownBy w none) (hv : Ow w base v xs) (ha : App w w' base v v' xs ys) (hb : w0.heap.size ≤ base) : w0.grownBy w' none := by
  refine ⟨ha.grown.os.trans h.os, ha.grown.tape.trans h.tape, ha.grown.output.trans h.output, Nat.le_trans h.size ha.grown.size, fun i hi _ => ?_⟩
  refine (ha.grown.block i (Nat.lt_of_lt_of_le hi h.size) (fun e => ?_)).trans (h.block i hi (by simp))
  have := (hv.ge i e.symm).1
  omega
theorem rd_ne {w w' : World} {g n c sz : Nat} {xs : List Int} (h : Rd w (.slice (some ⟨g, 0, none⟩) n c) xs) (hg : w.grownBy w' (some sz)) (hne : g ≠ sz) : Rd w' (.slice (some ⟨g, 0, none⟩) n c) xs :=
  h.kept hg (.inr (fun e => hne (Option.some.inj e)))
/-- The first of a list with one more. -/
theorem put_head {m : Nat} {W : List Int} {a y : Int} (h : putO m W a = some y) : ∀ (h0 : 0 < ([] ++ W ++ [a]).length), ([] ++ W ++ [a])[0] = y := by
  intro h0
  unfold putO at h
  split at h
  · have e : ([] ++ W ++ [a]) = W ++ [a] := rfl
    simp only [e]
    cases W with
    | nil => simpa using h
    | cons x t => simpa using h
  · cases h

/-- What both appends of '[]int{}, w.., a' make, in one of the orders: W1 the world ahead of the first, W2 the one ahead of the second, x what is appended last. -/
def TwoApps (w4 W1 : World) (W2 : World → World) (v1 v2 : Value) (x : World → Value) (n1 : Nat) (y : Int) : Prop :=
  ∃ v6 w6 g o c w7, (appS #[25, 25] 25 #[v1, v2]).run Try.prog W1 = .ok v6 w6 ∧ (appS #[25, 25] 25 #[v6, x w6]).run Try.prog (W2 w6) = .ok (.slice (some ⟨g, o, none⟩) n1 c) w7 ∧
    w7.cell? ⟨g, o, none⟩ = some (.int .i64 y) ∧ w4.grownBy w6 none ∧ w4.grownBy w7 none
theorem two_apps {w4 W1 : World} {W2 : World → World} {v1 v2 : Value} {x : World → Value} {W : List Int} {a y : Int} (h1 : w4.grownBy W1 none) (hv : Ow W1 w4.heap.size v1 []) (hr : Rd W1 v2 W) (hW : W.length ≤ 64)
    (h2 : ∀ w6 v6, Ow w6 w4.heap.size v6 W → W1.grownBy w6 v1.ownBlock → (∀ q, v6.ownBlock = some q → v1.ownBlock = some q ∨ W1.heap.size ≤ q) → w6.grownBy (W2 w6) none ∧ Rd (W2 w6) (x w6) [a])
    (hy : ∀ (h0 : 0 < ([] ++ W ++ [a]).length), ([] ++ W ++ [a])[0] = y) : TwoApps w4 W1 W2 v1 v2 x (W.length + 1) y := by
  obtain ⟨v6, w6, r1, a1⟩ := app_run hv hr (by simp; omega) h1.size 25
  have g6 := fresh_app h1 hv a1 (Nat.le_refl _)
  obtain ⟨k1, k2⟩ := h2 w6 v6 a1.own a1.grown a1.new
  have o6 := a1.own.grown k1
  have g6' := grown_trans g6 k1
  obtain ⟨v7, w7, r2, a2⟩ := app_run o6 k2 (by simp; omega) g6'.size 25
  have g7 := fresh_app g6' o6 a2 (Nat.le_refl _)
  obtain ⟨A7, c7, rfl, _, hsh⟩ := a2.own.rd.shape
  have hl : ([] ++ W ++ [a]).length = W.length + 1 := by simp
  obtain ⟨g, o, rfl, _, _, hc⟩ := hsh.resolve_left (by omega)
  have c0 := hc 0 (by omega)
  rw [hy (by omega), Nat.add_zero] at c0
  rw [hl] at r2
  exact ⟨v6, w6, g, o, c7, w7, r1, r2, c0, g6, g7⟩
theorem orderA {w4 : World} {v2 : Value} {W : List Int} {a y : Int} (hr : ∀ W', w4.grownBy W' none → Rd W' v2 W) (hW : W.length ≤ 64) (hy : ∀ (h0 : 0 < ([] ++ W ++ [a]).length), ([] ++ W ++ [a])[0] = y) :
    TwoApps w4 (w4.alloc (.cells #[] 3)).drew (fun w6 => w6.alloc (.cells #[.int .i64 a] 3)) (.slice (some ⟨w4.heap.size, 0, none⟩) 0 0) v2 (fun w6 => .slice (some ⟨w6.heap.size, 0, none⟩) 1 1) (W.length + 1) y :=
  two_apps (grown_drew1 (grown_alloc _ _ _)) (ow_empty w4 _ (Nat.le_refl _)).drew (hr _ (grown_drew1 (grown_alloc _ _ _))) hW (fun w6 _ _ _ _ => ⟨grown_alloc _ _ _, rd_one w6 a⟩) hy
theorem orderB {w4 : World} {v2 : Value} {W : List Int} {a y : Int} (hr : ∀ W', w4.grownBy W' none → Rd W' v2 W) (hW : W.length ≤ 64) (hy : ∀ (h0 : 0 < ([] ++ W ++ [a]).length), ([] ++ W ++ [a])[0] = y) :
    TwoApps w4 ((w4.alloc (.cells #[] 3)).alloc (.cells #[.int .i64 a] 3)).drew (fun w6 => w6) (.slice (some ⟨w4.heap.size, 0, none⟩) 0 0) v2 (fun _ => .slice (some ⟨w4.heap.size + 1, 0, none⟩) 1 1) (W.length + 1) y :=
  two_apps (grown_drew1 (grown_trans (grown_alloc _ _ _) (grown_alloc _ _ _))) ((ow_empty w4 _ (Nat.le_refl _)).grown (grown_alloc _ _ _)).drew (hr _ (grown_drew1 (grown_trans (grown_alloc _ _ _) (grown_alloc _ _ _)))) hW
    (fun _ _ _ g _ => ⟨grown_refl _ _, rd_ne (by have := (rd_one (w4.alloc (.cells #[] 3)) a).drew; simpa using this) g (by show w4.heap.size + 1 ≠ w4.heap.size; omega)⟩) hy
theorem orderC {w4 : World} {v2 : Value} {W : List Int} {a y : Int} (hr : ∀ W', w4.grownBy W' none → Rd W' v2 W) (hW : W.length ≤ 64) (hy : ∀ (h0 : 0 < ([] ++ W ++ [a]).length), ([] ++ W ++ [a])[0] = y) :
    TwoApps w4 ((w4.alloc (.cells #[.int .i64 a] 3)).alloc (.cells #[] 3)).drew (fun w6 => w6) (.slice (some ⟨w4.heap.size + 1, 0, none⟩) 0 0) v2 (fun _ => .slice (some ⟨w4.heap.size, 0, none⟩) 1 1) (W.length + 1) y :=
  two_apps (grown_drew1 (grown_trans (grown_alloc _ _ _) (grown_alloc _ _ _))) (by have := (ow_empty (w4.alloc (.cells #[.int .i64 a] 3)) w4.heap.size (by simp)).drew; simpa using this) (hr _ (grown_drew1 (grown_trans (grown_alloc _ _ _) (grown_alloc _ _ _)))) hW
    (fun _ _ _ g _ => ⟨grown_refl _ _, rd_ne ((rd_one w4 a).grown (grown_alloc _ _ _)).drew g (by show w4.heap.size ≠ w4.heap.size + 1; omega)⟩) hy

set_option maxRecDepth 100000 in
set_option maxHeartbeats 8000000 in
theorem quarPlays_walk (k0 : Int) (A : Option Addr) (len cap : Nat) (O : Nat → Op11) (w : World) (hlen : len ≤ 9223372036854775807) (hO : Ops11 w A len O) :
    Calls Try.prog 3 #[.int .i64 k0, .slice A len cap] w fun e w' => e = .returned (.bool true) ∧ w.grownBy w' none := by
  have HO := Lib.hid hO
  have HNQ := Lib.hid (fun W => new_qu k0 W)
  have HRM := Lib.hid (fun W => rmost_at k0 W)
  have hli : (len : Int) ≤ 9223372036854775807 := by omega
  have HLI := Lib.hid hlen
  clear hO hlen
  go_enter Try.func3, Try.ntmps3
  go_wp2_with fail
  refine (HNQ.out w).mono ?_
  rintro e w1 ⟨p, rfl, hq, hp, hg⟩
  obtain ⟨m, hm⟩ : ∃ m, mostV k0 = m := ⟨_, rfl⟩
  rw [hm] at hq HRM
  have HP : Hid (p < w1.heap.size ∧ w.heap.size ≤ p ∧ m ≤ 64) := Lib.hid ⟨hq.lt, hp, by have := mostV_le k0; omega⟩
  have HW : Hid (PlW w w1 p m (.slice none 0 0) []) := Lib.hid ⟨rd_nil _, fun q e => (by cases e), hq, hg, hp⟩
  clear hq hp hg hm HNQ
  go_wp2_with fail
  go_loopw [6, 22] (fun v i wr => ∃ k : Nat, k ≤ len ∧ k ≤ 150 ∧ i = .int .i64 k ∧ ∃ W, PlW w wr p m v W) (fun _ i _ => len - (intOf i).toNat)
  case atStart => exact ⟨0, by omega, by omega, rfl, [], HW.out⟩
  case round =>
    obtain ⟨k, hk, hk150, rfl, W, hr⟩ := hrel
    have HR := Lib.hid hr
    obtain ⟨vA, vc, rfl, hvc, hvs⟩ := hr.rd.shape
    clear hr
    by_cases hlt : k < len
    · by_cases h150 : k < 150
      · have hki : (k : Int) < len := by omega
        have hd150 : decide ((k : Int) ≥ 150) = false := decide_eq_false (by omega)
        have hd150' : decide ((150 : Int) ≤ k) = false := decide_eq_false (by omega)
        obtain ⟨c, off, rfl, _, hc⟩ := HO.out.resolve_left (by omega)
        obtain ⟨ck, ca⟩ := hc k hlt
        replace ck := HR.out.g.cell ck (by simp)
        replace ca := HR.out.g.cell ca (by simp)
        obtain ⟨⟨kk, a⟩, ht⟩ : ∃ t : Op11, O k = t := ⟨_, rfl⟩
        rw [ht] at ck ca
        have HK : Hid (k < len ∧ k < 150) := Lib.hid ⟨hlt, h150⟩
        have HV := Lib.hid hvs
        have HL : Hid (W.length ≤ m ∧ m ≤ 64) := Lib.hid HR.out.qu.le
        clear hc ht hlt h150 hk hk150 hvs hvc
        simp only [] at ck ca
        obtain ⟨n, hn⟩ : ∃ n, W.length = n := ⟨_, rfl⟩
        have HN := Lib.hid hn
        rw [hn] at HL
        rw [hn]
        have hn64 : (n : Int) ≤ 64 := by have := HL.out; omega
        clear hn
        have HG1 : Hid (wr.grownBy (wr.alloc (.cells #[.int .i64 kk, .int .i64 a] 27)) none) := Lib.hid (grown_alloc _ _ _)
        have x0 : (wr.alloc (.cells #[.int .i64 kk, .int .i64 a] 27)).cell? ⟨wr.heap.size, 0, none⟩ = some (.int .i64 kk) := by rw [cell_alloc_new]; rfl
        have x1 : (wr.alloc (.cells #[.int .i64 kk, .int .i64 a] 27)).cell? ⟨wr.heap.size, 1, none⟩ = some (.int .i64 a) := by rw [cell_alloc_new]; rfl
        have HLT : Hid (∀ q, (Value.slice vA n vc).ownBlock = some q → q ≠ wr.heap.size) := Lib.hid (fun q e => by have := HR.out.rd.lt q (by rw [HN.out]; exact e); omega)
        have HPX : Hid (p ≠ wr.heap.size) := Lib.hid (by have := HR.out.qu.lt; omega)
        go_upto_region 7 with (fail)
        generalize wr.alloc (.cells #[.int .i64 kk, .int .i64 a] 27) = w2 at *
        generalize wr.heap.size = qx at *
        have HR2 : Hid (PlW w w2 p m (.slice vA n vc) W) := Lib.hid (by rw [← HN.out]; exact HR.out.grown HG1.out)
        clear ck ca HR HW
        go_upto_block 2 with (fail)
        go_cut [6] from 29 to 134 (fun v W' => ∃ W2, PlW w W' p m v W2)
        case first =>
          rcases (by omega : kk = 0 ∨ kk = 1 ∨ kk = 2 ∨ kk = 3 ∨ kk = 4 ∨ (kk ≠ 0 ∧ kk ≠ 1 ∧ kk ≠ 2 ∧ kk ≠ 3 ∧ kk ≠ 4)) with rfl | rfl | rfl | rfl | rfl | hkk
          · have HPU : Hid (Calls Try.prog 11 #[.pointer (some ⟨p, 0, none⟩), .int .i64 a] w2 fun e w' => e = .returned (outV (putO m W a)) ∧ Qu w' p m (putL m W a) ∧ w2.grownBy w' (some p)) := Lib.hid (put_qu HR2.out.qu a)
            cases ho : putO m W a with
            | none =>
              rw [ho] at HPU
              have HO1 := Lib.hid ho
              clear ho
              go_wp2_with fail
              refine HPU.out.mono ?_
              rintro e w3 ⟨rfl, hq, hg⟩
              unfold outV
              have HRP := Lib.hid (fun W' (g : w3.grownBy W' none) => rput_at ((HR2.out.rd.kept hg (by
                cases e : (Value.slice vA n vc).ownBlock with
                | none => exact .inl rfl
                | some q => exact .inr (fun e2 => HR2.out.ne q e (Option.some.inj e2)))).grown g) m (by rw [HN.out]; have := HL.out; omega) a)
              have y1 := hg.cell x1 (some_ne (Ne.symm HPX.out))
              have HQ := Lib.hid (And.intro hq hg)
              have hg1 := grown_drew1 (grown_refl w3 none)
              clear hq hg HPU x0 x1
              go_upto_region 12 with (fail)
              go_region_held3 (fun w' => w'.cell? ⟨qx, 1, none⟩ = some (.int .i64 a))
                (first | exact y1 | exact HS.out)
                (first
                | (go_at_call 13; (with_reducible refine (HRM.out _).mono ?_); rintro e w' ⟨rfl, rfl⟩)
                | (go_at_call 12; (with_reducible refine (HRP.out _ (by assumption)).mono ?_); rintro e w4 ⟨v5, rfl, k1, k2, k3⟩; rw [HO1.out]; have HK1 := Lib.hid (And.intro k1 (And.intro k2 (grown_trans hg1 k3))); have HS : Hid (w4.cell? ⟨qx, 1, none⟩ = some (.int .i64 a)) := Lib.hid (k3.cell y1 (by simp)); clear k1 k2 k3))
              have z1 := HS.out
              have hbb : (((if (none : Option Int).isSome = true then (1 : Int) else 0)) == 1) = false := by decide
              clear y1 hg1 HRP
              go_upto_region 13 with (fail)
              go_quiet (fail)
              rename Nat => nq
              go_wp2
              go_meet
              exact ⟨_, (HR2.out.put HQ.out.1 HQ.out.2 HK1.out.1 HK1.out.2.1 HK1.out.2.2).grown (grown_drew (grown_refl _ none) nq)⟩
            | some y =>
              rw [ho] at HPU
              have HO1 := Lib.hid ho
              have HY := Lib.hid (put_head ho)
              clear ho
              go_wp2_with fail
              refine HPU.out.mono ?_
              rintro e w3 ⟨rfl, hq, hg⟩
              unfold outV
              have HRP := Lib.hid (fun W' (g : w3.grownBy W' none) => rput_at ((HR2.out.rd.kept hg (by
                cases e : (Value.slice vA n vc).ownBlock with
                | none => exact .inl rfl
                | some q => exact .inr (fun e2 => HR2.out.ne q e (Option.some.inj e2)))).grown g) m (by rw [HN.out]; have := HL.out; omega) a)
              have hne : (Value.slice vA n vc).ownBlock = none ∨ (Value.slice vA n vc).ownBlock ≠ some p := by
                cases e : (Value.slice vA n vc).ownBlock with
                | none => exact .inl rfl
                | some q => exact .inr (fun e2 => HR2.out.ne q e (Option.some.inj e2))
              have HRD := Lib.hid (HR2.out.rd.kept hg hne)
              have y1 := hg.cell x1 (some_ne (Ne.symm HPX.out))
              have HQ := Lib.hid (And.intro hq hg)
              have hg1 := grown_drew1 (grown_refl w3 none)
              clear hq hg HPU x0 x1 hne
              go_upto_region 12 with (fail)
              go_region_held3 (fun w' => w'.cell? ⟨qx, 1, none⟩ = some (.int .i64 a))
                (first | exact y1 | exact HS.out)
                (first
                | (go_at_call 13; (with_reducible refine (HRM.out _).mono ?_); rintro e w' ⟨rfl, rfl⟩)
                | (go_at_call 12; (with_reducible refine (HRP.out _ (by assumption)).mono ?_); rintro e w4 ⟨v5, rfl, k1, k2, k3⟩; rw [HO1.out]; have HK1 := Lib.hid (And.intro k1 (And.intro k2 (grown_trans hg1 k3))); have HS : Hid (w4.cell? ⟨qx, 1, none⟩ = some (.int .i64 a)) := Lib.hid (k3.cell y1 (by simp)); clear k1 k2 k3))
              have z1 := HS.out
              have hbb : (((if (some y : Option Int).isSome = true then (1 : Int) else 0)) == 1) = true := by simp
              have HRD4 := Lib.hid (HRD.out.grown HK1.out.2.2)
              clear y1 hg1 HRP HRD HS
              go_upto_region 13 with (fail)
              have HX : Hid (∀ w7, w4.grownBy w7 none → ∃ W2, PlW w w7 p m v5 W2) := Lib.hid (fun w7 g7 => ⟨_, (HR2.out.put HQ.out.1 HQ.out.2 HK1.out.1 HK1.out.2.1 HK1.out.2.2).grown g7⟩)
              have HRW := Lib.hid (fun W' (g : w4.grownBy W' none) => HRD4.out.grown g)
              have HLN : Hid (W.length ≤ 64) := Lib.hid (by rw [HN.out]; have := HL.out; omega)
              obtain ⟨vA6, wA6, gA, oA, cA, wA7, rA1, rA2, xA7, kA6, kA7⟩ := orderA HRW.out HLN.out HY.out
              obtain ⟨vB6, wB6, gB, oB, cB, wB7, rB1, rB2, xB7, kB6, kB7⟩ := orderB HRW.out HLN.out HY.out
              obtain ⟨vC6, wC6, gC, oC, cC, wC7, rC1, rC2, xC7, kC6, kC7⟩ := orderC HRW.out HLN.out HY.out
              rw [HN.out] at rA2 rB2 rC2
              obtain ⟨n1, hn1⟩ : ∃ n1, n + 1 = n1 := ⟨_, rfl⟩
              rw [hn1] at rA2 rB2 rC2
              have hn1' : (0 : Int) < n1 := by omega
              have ZA1 : (w4.alloc (.cells #[] 3)).drew.cell? ⟨qx, 1, none⟩ = some (.int .i64 a) := (grown_alloc w4 _ none).cell z1 (by simp)
              have ZB1 : ((w4.alloc (.cells #[] 3)).alloc (.cells #[.int .i64 a] 3)).drew.cell? ⟨qx, 1, none⟩ = some (.int .i64 a) := (grown_trans (grown_alloc w4 _ none) (grown_alloc _ _ none)).cell z1 (by simp)
              have ZC0 : (w4.alloc (.cells #[.int .i64 a] 3)).drew.cell? ⟨qx, 1, none⟩ = some (.int .i64 a) := (grown_alloc w4 _ none).cell z1 (by simp)
              have ZC1 : ((w4.alloc (.cells #[.int .i64 a] 3)).alloc (.cells #[] 3)).drew.cell? ⟨qx, 1, none⟩ = some (.int .i64 a) := (grown_trans (grown_alloc w4 _ none) (grown_alloc _ _ none)).cell z1 (by simp)
              have ZA6 := kA6.cell z1 (by simp)
              have ZA6' := (grown_alloc wA6 (.cells #[.int .i64 a] 3) none).cell ZA6 (by simp)
              have ZA7 := kA7.cell z1 (by simp)
              have ZB6 := kB6.cell z1 (by simp)
              have ZB7 := kB7.cell z1 (by simp)
              have ZC6 := kC6.cell z1 (by simp)
              have ZC7 := kC7.cell z1 (by simp)
              have HGA := Lib.hid kA7
              have HGB := Lib.hid kB7
              have HGC := Lib.hid kC7
              clear hn1 kA6 kA7 kB6 kB7 kC6 kC7 HL HQ HK1 HR2 HRD4 HRW HY
              go_region
              all_goals
                go_wp2
                go_meet
                first | exact HX.out _ HGA.out | exact HX.out _ HGB.out | exact HX.out _ HGC.out
          · have HPU : Hid (Calls Try.prog 11 #[.pointer (some ⟨p, 0, none⟩), .int .i64 a] w2 fun e w' => e = .returned (outV (putO m W a)) ∧ Qu w' p m (putL m W a) ∧ w2.grownBy w' (some p)) := Lib.hid (put_qu HR2.out.qu a)
            cases ho : putO m W a with
            | none =>
              rw [ho] at HPU
              have HO1 := Lib.hid ho
              clear ho
              go_wp2_with fail
              refine HPU.out.mono ?_
              rintro e w3 ⟨rfl, hq, hg⟩
              unfold outV
              have HRP := Lib.hid (fun W' (g : w3.grownBy W' none) => rput_at ((HR2.out.rd.kept hg (by
                cases e : (Value.slice vA n vc).ownBlock with
                | none => exact .inl rfl
                | some q => exact .inr (fun e2 => HR2.out.ne q e (Option.some.inj e2)))).grown g) m (by rw [HN.out]; have := HL.out; omega) a)
              have y1 := hg.cell x1 (some_ne (Ne.symm HPX.out))
              have HQ := Lib.hid (And.intro hq hg)
              have hg1 := grown_drew1 (grown_refl w3 none)
              clear hq hg HPU x0 x1
              go_upto_region 12 with (fail)
              go_region_held3 (fun w' => w'.cell? ⟨qx, 1, none⟩ = some (.int .i64 a))
                (first | exact y1 | exact HS.out)
                (first
                | (go_at_call 13; (with_reducible refine (HRM.out _).mono ?_); rintro e w' ⟨rfl, rfl⟩)
                | (go_at_call 12; (with_reducible refine (HRP.out _ (by assumption)).mono ?_); rintro e w4 ⟨v5, rfl, k1, k2, k3⟩; rw [HO1.out]; have HK1 := Lib.hid (And.intro k1 (And.intro k2 (grown_trans hg1 k3))); have HS : Hid (w4.cell? ⟨qx, 1, none⟩ = some (.int .i64 a)) := Lib.hid (k3.cell y1 (by simp)); clear k1 k2 k3))
              have z1 := HS.out
              have hbb : (((if (none : Option Int).isSome = true then (1 : Int) else 0)) == 1) = false := by decide
              clear y1 hg1 HRP
              go_upto_region 13 with (fail)
              go_quiet (fail)
              rename Nat => nq
              go_wp2
              go_meet
              exact ⟨_, (HR2.out.put HQ.out.1 HQ.out.2 HK1.out.1 HK1.out.2.1 HK1.out.2.2).grown (grown_drew (grown_refl _ none) nq)⟩
            | some y =>
              rw [ho] at HPU
              have HO1 := Lib.hid ho
              have HY := Lib.hid (put_head ho)
              clear ho
              go_wp2_with fail
              refine HPU.out.mono ?_
              rintro e w3 ⟨rfl, hq, hg⟩
              unfold outV
              have HRP := Lib.hid (fun W' (g : w3.grownBy W' none) => rput_at ((HR2.out.rd.kept hg (by
                cases e : (Value.slice vA n vc).ownBlock with
                | none => exact .inl rfl
                | some q => exact .inr (fun e2 => HR2.out.ne q e (Option.some.inj e2)))).grown g) m (by rw [HN.out]; have := HL.out; omega) a)
              have hne : (Value.slice vA n vc).ownBlock = none ∨ (Value.slice vA n vc).ownBlock ≠ some p := by
                cases e : (Value.slice vA n vc).ownBlock with
                | none => exact .inl rfl
                | some q => exact .inr (fun e2 => HR2.out.ne q e (Option.some.inj e2))
              have HRD := Lib.hid (HR2.out.rd.kept hg hne)
              have y1 := hg.cell x1 (some_ne (Ne.symm HPX.out))
              have HQ := Lib.hid (And.intro hq hg)
              have hg1 := grown_drew1 (grown_refl w3 none)
              clear hq hg HPU x0 x1 hne
              go_upto_region 12 with (fail)
              go_region_held3 (fun w' => w'.cell? ⟨qx, 1, none⟩ = some (.int .i64 a))
                (first | exact y1 | exact HS.out)
                (first
                | (go_at_call 13; (with_reducible refine (HRM.out _).mono ?_); rintro e w' ⟨rfl, rfl⟩)
                | (go_at_call 12; (with_reducible refine (HRP.out _ (by assumption)).mono ?_); rintro e w4 ⟨v5, rfl, k1, k2, k3⟩; rw [HO1.out]; have HK1 := Lib.hid (And.intro k1 (And.intro k2 (grown_trans hg1 k3))); have HS : Hid (w4.cell? ⟨qx, 1, none⟩ = some (.int .i64 a)) := Lib.hid (k3.cell y1 (by simp)); clear k1 k2 k3))
              have z1 := HS.out
              have hbb : (((if (some y : Option Int).isSome = true then (1 : Int) else 0)) == 1) = true := by simp
              have HRD4 := Lib.hid (HRD.out.grown HK1.out.2.2)
              clear y1 hg1 HRP HRD HS
              go_upto_region 13 with (fail)
              have HX : Hid (∀ w7, w4.grownBy w7 none → ∃ W2, PlW w w7 p m v5 W2) := Lib.hid (fun w7 g7 => ⟨_, (HR2.out.put HQ.out.1 HQ.out.2 HK1.out.1 HK1.out.2.1 HK1.out.2.2).grown g7⟩)
              have HRW := Lib.hid (fun W' (g : w4.grownBy W' none) => HRD4.out.grown g)
              have HLN : Hid (W.length ≤ 64) := Lib.hid (by rw [HN.out]; have := HL.out; omega)
              obtain ⟨vA6, wA6, gA, oA, cA, wA7, rA1, rA2, xA7, kA6, kA7⟩ := orderA HRW.out HLN.out HY.out
              obtain ⟨vB6, wB6, gB, oB, cB, wB7, rB1, rB2, xB7, kB6, kB7⟩ := orderB HRW.out HLN.out HY.out
              obtain ⟨vC6, wC6, gC, oC, cC, wC7, rC1, rC2, xC7, kC6, kC7⟩ := orderC HRW.out HLN.out HY.out
              rw [HN.out] at rA2 rB2 rC2
              obtain ⟨n1, hn1⟩ : ∃ n1, n + 1 = n1 := ⟨_, rfl⟩
              rw [hn1] at rA2 rB2 rC2
              have hn1' : (0 : Int) < n1 := by omega
              have ZA1 : (w4.alloc (.cells #[] 3)).drew.cell? ⟨qx, 1, none⟩ = some (.int .i64 a) := (grown_alloc w4 _ none).cell z1 (by simp)
              have ZB1 : ((w4.alloc (.cells #[] 3)).alloc (.cells #[.int .i64 a] 3)).drew.cell? ⟨qx, 1, none⟩ = some (.int .i64 a) := (grown_trans (grown_alloc w4 _ none) (grown_alloc _ _ none)).cell z1 (by simp)
              have ZC0 : (w4.alloc (.cells #[.int .i64 a] 3)).drew.cell? ⟨qx, 1, none⟩ = some (.int .i64 a) := (grown_alloc w4 _ none).cell z1 (by simp)
              have ZC1 : ((w4.alloc (.cells #[.int .i64 a] 3)).alloc (.cells #[] 3)).drew.cell? ⟨qx, 1, none⟩ = some (.int .i64 a) := (grown_trans (grown_alloc w4 _ none) (grown_alloc _ _ none)).cell z1 (by simp)
              have ZA6 := kA6.cell z1 (by simp)
              have ZA6' := (grown_alloc wA6 (.cells #[.int .i64 a] 3) none).cell ZA6 (by simp)
              have ZA7 := kA7.cell z1 (by simp)
              have ZB6 := kB6.cell z1 (by simp)
              have ZB7 := kB7.cell z1 (by simp)
              have ZC6 := kC6.cell z1 (by simp)
              have ZC7 := kC7.cell z1 (by simp)
              have HGA := Lib.hid kA7
              have HGB := Lib.hid kB7
              have HGC := Lib.hid kC7
              clear hn1 kA6 kA7 kB6 kB7 kC6 kC7 HL HQ HK1 HR2 HRD4 HRW HY
              go_region
              all_goals
                go_wp2
                go_meet
                first | exact HX.out _ HGA.out | exact HX.out _ HGB.out | exact HX.out _ HGC.out
          · have HPU : Hid (Calls Try.prog 11 #[.pointer (some ⟨p, 0, none⟩), .int .i64 a] w2 fun e w' => e = .returned (outV (putO m W a)) ∧ Qu w' p m (putL m W a) ∧ w2.grownBy w' (some p)) := Lib.hid (put_qu HR2.out.qu a)
            cases ho : putO m W a with
            | none =>
              rw [ho] at HPU
              have HO1 := Lib.hid ho
              clear ho
              go_wp2_with fail
              refine HPU.out.mono ?_
              rintro e w3 ⟨rfl, hq, hg⟩
              unfold outV
              have HRP := Lib.hid (fun W' (g : w3.grownBy W' none) => rput_at ((HR2.out.rd.kept hg (by
                cases e : (Value.slice vA n vc).ownBlock with
                | none => exact .inl rfl
                | some q => exact .inr (fun e2 => HR2.out.ne q e (Option.some.inj e2)))).grown g) m (by rw [HN.out]; have := HL.out; omega) a)
              have y1 := hg.cell x1 (some_ne (Ne.symm HPX.out))
              have HQ := Lib.hid (And.intro hq hg)
              have hg1 := grown_drew1 (grown_refl w3 none)
              clear hq hg HPU x0 x1
              go_upto_region 12 with (fail)
              go_region_held3 (fun w' => w'.cell? ⟨qx, 1, none⟩ = some (.int .i64 a))
                (first | exact y1 | exact HS.out)
                (first
                | (go_at_call 13; (with_reducible refine (HRM.out _).mono ?_); rintro e w' ⟨rfl, rfl⟩)
                | (go_at_call 12; (with_reducible refine (HRP.out _ (by assumption)).mono ?_); rintro e w4 ⟨v5, rfl, k1, k2, k3⟩; rw [HO1.out]; have HK1 := Lib.hid (And.intro k1 (And.intro k2 (grown_trans hg1 k3))); have HS : Hid (w4.cell? ⟨qx, 1, none⟩ = some (.int .i64 a)) := Lib.hid (k3.cell y1 (by simp)); clear k1 k2 k3))
              have z1 := HS.out
              have hbb : (((if (none : Option Int).isSome = true then (1 : Int) else 0)) == 1) = false := by decide
              clear y1 hg1 HRP
              go_upto_region 13 with (fail)
              go_quiet (fail)
              rename Nat => nq
              go_wp2
              go_meet
              exact ⟨_, (HR2.out.put HQ.out.1 HQ.out.2 HK1.out.1 HK1.out.2.1 HK1.out.2.2).grown (grown_drew (grown_refl _ none) nq)⟩
            | some y =>
              rw [ho] at HPU
              have HO1 := Lib.hid ho
              have HY := Lib.hid (put_head ho)
              clear ho
              go_wp2_with fail
              refine HPU.out.mono ?_
              rintro e w3 ⟨rfl, hq, hg⟩
              unfold outV
              have HRP := Lib.hid (fun W' (g : w3.grownBy W' none) => rput_at ((HR2.out.rd.kept hg (by
                cases e : (Value.slice vA n vc).ownBlock with
                | none => exact .inl rfl
                | some q => exact .inr (fun e2 => HR2.out.ne q e (Option.some.inj e2)))).grown g) m (by rw [HN.out]; have := HL.out; omega) a)
              have hne : (Value.slice vA n vc).ownBlock = none ∨ (Value.slice vA n vc).ownBlock ≠ some p := by
                cases e : (Value.slice vA n vc).ownBlock with
                | none => exact .inl rfl
                | some q => exact .inr (fun e2 => HR2.out.ne q e (Option.some.inj e2))
              have HRD := Lib.hid (HR2.out.rd.kept hg hne)
              have y1 := hg.cell x1 (some_ne (Ne.symm HPX.out))
              have HQ := Lib.hid (And.intro hq hg)
              have hg1 := grown_drew1 (grown_refl w3 none)
              clear hq hg HPU x0 x1 hne
              go_upto_region 12 with (fail)
              go_region_held3 (fun w' => w'.cell? ⟨qx, 1, none⟩ = some (.int .i64 a))
                (first | exact y1 | exact HS.out)
                (first
                | (go_at_call 13; (with_reducible refine (HRM.out _).mono ?_); rintro e w' ⟨rfl, rfl⟩)
                | (go_at_call 12; (with_reducible refine (HRP.out _ (by assumption)).mono ?_); rintro e w4 ⟨v5, rfl, k1, k2, k3⟩; rw [HO1.out]; have HK1 := Lib.hid (And.intro k1 (And.intro k2 (grown_trans hg1 k3))); have HS : Hid (w4.cell? ⟨qx, 1, none⟩ = some (.int .i64 a)) := Lib.hid (k3.cell y1 (by simp)); clear k1 k2 k3))
              have z1 := HS.out
              have hbb : (((if (some y : Option Int).isSome = true then (1 : Int) else 0)) == 1) = true := by simp
              have HRD4 := Lib.hid (HRD.out.grown HK1.out.2.2)
              clear y1 hg1 HRP HRD HS
              go_upto_region 13 with (fail)
              have HX : Hid (∀ w7, w4.grownBy w7 none → ∃ W2, PlW w w7 p m v5 W2) := Lib.hid (fun w7 g7 => ⟨_, (HR2.out.put HQ.out.1 HQ.out.2 HK1.out.1 HK1.out.2.1 HK1.out.2.2).grown g7⟩)
              have HRW := Lib.hid (fun W' (g : w4.grownBy W' none) => HRD4.out.grown g)
              have HLN : Hid (W.length ≤ 64) := Lib.hid (by rw [HN.out]; have := HL.out; omega)
              obtain ⟨vA6, wA6, gA, oA, cA, wA7, rA1, rA2, xA7, kA6, kA7⟩ := orderA HRW.out HLN.out HY.out
              obtain ⟨vB6, wB6, gB, oB, cB, wB7, rB1, rB2, xB7, kB6, kB7⟩ := orderB HRW.out HLN.out HY.out
              obtain ⟨vC6, wC6, gC, oC, cC, wC7, rC1, rC2, xC7, kC6, kC7⟩ := orderC HRW.out HLN.out HY.out
              rw [HN.out] at rA2 rB2 rC2
              obtain ⟨n1, hn1⟩ : ∃ n1, n + 1 = n1 := ⟨_, rfl⟩
              rw [hn1] at rA2 rB2 rC2
              have hn1' : (0 : Int) < n1 := by omega
              have ZA1 : (w4.alloc (.cells #[] 3)).drew.cell? ⟨qx, 1, none⟩ = some (.int .i64 a) := (grown_alloc w4 _ none).cell z1 (by simp)
              have ZB1 : ((w4.alloc (.cells #[] 3)).alloc (.cells #[.int .i64 a] 3)).drew.cell? ⟨qx, 1, none⟩ = some (.int .i64 a) := (grown_trans (grown_alloc w4 _ none) (grown_alloc _ _ none)).cell z1 (by simp)
              have ZC0 : (w4.alloc (.cells #[.int .i64 a] 3)).drew.cell? ⟨qx, 1, none⟩ = some (.int .i64 a) := (grown_alloc w4 _ none).cell z1 (by simp)
              have ZC1 : ((w4.alloc (.cells #[.int .i64 a] 3)).alloc (.cells #[] 3)).drew.cell? ⟨qx, 1, none⟩ = some (.int .i64 a) := (grown_trans (grown_alloc w4 _ none) (grown_alloc _ _ none)).cell z1 (by simp)
              have ZA6 := kA6.cell z1 (by simp)
              have ZA6' := (grown_alloc wA6 (.cells #[.int .i64 a] 3) none).cell ZA6 (by simp)
              have ZA7 := kA7.cell z1 (by simp)
              have ZB6 := kB6.cell z1 (by simp)
              have ZB7 := kB7.cell z1 (by simp)
              have ZC6 := kC6.cell z1 (by simp)
              have ZC7 := kC7.cell z1 (by simp)
              have HGA := Lib.hid kA7
              have HGB := Lib.hid kB7
              have HGC := Lib.hid kC7
              clear hn1 kA6 kA7 kB6 kB7 kC6 kC7 HL HQ HK1 HR2 HRD4 HRW HY
              go_region
              all_goals
                go_wp2
                go_meet
                first | exact HX.out _ HGA.out | exact HX.out _ HGB.out | exact HX.out _ HGC.out
          · have HT : Hid (Calls Try.prog 14 #[.pointer (some ⟨p, 0, none⟩)] w2 fun e w' => e = .returned (outV W.head?) ∧ Qu w' p m W.tail ∧ w2.grownBy w' (some p)) := Lib.hid (take_qu HR2.out.qu)
            have hne : (Value.slice vA n vc).ownBlock = none ∨ (Value.slice vA n vc).ownBlock ≠ some p := by
              cases e : (Value.slice vA n vc).ownBlock with
              | none => exact .inl rfl
              | some q => exact .inr (fun e2 => HR2.out.ne q e (Option.some.inj e2))
            have HNE := Lib.hid hne
            have hrd := HR2.out.rd
            clear hne
            cases W with
            | nil =>
              have hn0 : 0 = n := HN.out
              subst hn0
              clear x0 x1 hrd
              go_wp2_with fail
              refine HT.out.mono ?_
              rintro e w3 ⟨rfl, hq, hg⟩
              have HX : Hid (PlW w w3 p m (.slice vA 0 vc) []) := Lib.hid ⟨HR2.out.rd.kept hg HNE.out, HR2.out.ne, hq, grown_own HR2.out.g hg HR2.out.pw, HR2.out.pw⟩
              clear hq hg
              rw [show outV (([] : List Int).head?) = .tuple #[.int .i64 0, .bool false] from rfl]
              go_wp2
              go_meet
              exact ⟨_, HX.out⟩
            | cons y t =>
              have hn0 : t.length + 1 = n := HN.out
              obtain ⟨gA, oA, rfl, cy⟩ : ∃ g o, vA = some ⟨g, o, none⟩ ∧ w2.cell? ⟨g, o, none⟩ = some (.int .i64 y) := by
                rcases hrd with ⟨_, h⟩ | ⟨g, o, c, e, _, _, h⟩
                · cases h
                · injection e with e1 e2 e3
                  exact ⟨g, o, e1, by have := h 0 (by simp); rwa [Nat.add_zero] at this⟩
              have hpos : (0 : Int) < n := by omega
              have hpos' : decide ((n : Int) > 0) = true := decide_eq_true (by omega)
              have htl := fun W => tl_run (some ⟨gA, oA, none⟩) n vc (by omega) W
              have HG : Hid (gA ≠ p) := Lib.hid (HR2.out.ne gA rfl)
              clear hn0 hrd x0 x1
              go_wp2_with fail
              refine HT.out.mono ?_
              rintro e w3 ⟨rfl, hq, hg⟩
              have HX : Hid (PlW w w3 p m (.slice (tlA (some ⟨gA, oA, none⟩) vc) (n - 1) (vc - 1)) t) := Lib.hid ⟨(HR2.out.rd.kept hg HNE.out).tl, fun q e => HR2.out.ne q (tl_own _ _ _ n _ q e), hq, grown_own HR2.out.g hg HR2.out.pw, HR2.out.pw⟩
              have cy3 := hg.cell cy (some_ne HG.out)
              clear hq hg cy
              rw [show outV ((y :: t).head?) = .tuple #[.int .i64 y, .bool true] from rfl]
              generalize Value.slice (tlA (some ⟨gA, oA, none⟩) vc) (n - 1) (vc - 1) = tl at *
              go_wp2
              go_meet
              exact ⟨_, HX.out⟩
          · have HH : Hid (Calls Try.prog 15 #[.pointer (some ⟨p, 0, none⟩), .int .i64 a] w2 fun e w' => e = .returned (.bool (W.any (· == a))) ∧ w2.grownBy w' none) := Lib.hid (has_qu HR2.out.qu a)
            have HSH := Lib.hid HR2.out.rd.sh
            clear x0
            go_wp2_with fail
            go_loop [15, 117] (fun b i => ∃ j : Nat, j ≤ n ∧ i = .int .i64 j ∧ b = .bool ((W.take j).any (· == a))) (fun _ i => n - (intOf i).toNat)
            case atStart => exact ⟨0, by omega, rfl, rfl⟩
            case round =>
              obtain ⟨j, hj, rfl, rfl⟩ := hrel
              by_cases hjn : j < n
              · have hji : (j : Int) < n := by omega
                have hjl : j < W.length := by rw [HN.out]; exact hjn
                obtain ⟨A9, c9, e9, h9⟩ := HSH.out
                obtain ⟨g9, o9, e8, h8⟩ := h9.resolve_left (by omega)
                injection e9 with e7 _ _
                rw [e8] at e7
                subst e7
                have cj := h8 j hjl
                have HE : Hid ((W.take (j + 1)).any (· == a) = ((W.take j).any (· == a) || (W[j] == a))) := Lib.hid (by rw [List.take_succ_eq_append_getElem hjl, List.any_append]; simp)
                obtain ⟨x, hx⟩ : ∃ x, W[j] = x := ⟨_, rfl⟩
                rw [hx] at cj HE
                have HJ : Hid (j < n ∧ n ≤ 64) := Lib.hid ⟨hjn, by omega⟩
                clear hx h8 h9 e8 hjl hjn hj
                cases hb : (W.take j).any (· == a) with
                | true =>
                  have HE2 : Hid ((W.take (j + 1)).any (· == a) = true) := Lib.hid (by rw [HE.out, hb]; rfl)
                  clear hb HE
                  go_wp2
                  go_round
                  case rel => exact ⟨j + 1, by have := HJ.out; omega, by go_num, by rw [HE2.out]⟩
                  case measure => have := HJ.out; simp [intOf]; omega
                | false =>
                  by_cases hxa : x = a
                  · have hbb : (x == a) = true := by simpa using hxa
                    have HE2 : Hid ((W.take (j + 1)).any (· == a) = true) := Lib.hid (by rw [HE.out, hb, hbb]; rfl)
                    clear hb HE hxa
                    go_wp2
                    go_round
                    case rel => exact ⟨j + 1, by have := HJ.out; omega, by go_num, by rw [HE2.out]⟩
                    case measure => have := HJ.out; simp [intOf]; omega
                  · have hbb : (x == a) = false := by simpa using hxa
                    have HE2 : Hid ((W.take (j + 1)).any (· == a) = false) := Lib.hid (by rw [HE.out, hb, hbb]; rfl)
                    clear hb HE hxa
                    go_wp2
                    go_round
                    case rel => exact ⟨j + 1, by have := HJ.out; omega, by go_num, by rw [HE2.out]⟩
                    case measure => have := HJ.out; simp [intOf]; omega
              · have hjn2 : j = n := by omega
                have hji : ¬ (j : Int) < n := by omega
                have HE2 : Hid ((W.take j).any (· == a) = W.any (· == a)) := Lib.hid (by rw [hjn2, ← HN.out, List.take_length])
                rw [HE2.out]
                obtain ⟨bb, hbb⟩ : ∃ bb, W.any (· == a) = bb := ⟨_, rfl⟩
                rw [hbb] at HH
                rw [hbb]
                have hb2 : (bb != bb) = false := by cases bb <;> rfl
                clear hjn hj hjn2 HE2 hbb
                go_wp2_with fail
                refine HH.out.mono ?_
                rintro e w3 ⟨rfl, hg⟩
                have HX := Lib.hid (HR2.out.grown hg)
                clear hg HH
                cases bb
                · go_wp2
                  go_meet
                  exact ⟨_, HX.out⟩
                · go_wp2
                  go_meet
                  exact ⟨_, HX.out⟩
          · obtain ⟨k0', k1', k2', k3', k4'⟩ := hkk
            have e0 : (kk == 0) = false := by simpa using k0'
            have e1 : (kk == 1) = false := by simpa using k1'
            have e2 : (kk == 2) = false := by simpa using k2'
            have e3 : (kk == 3) = false := by simpa using k3'
            have e4 : (kk == 4) = false := by simpa using k4'
            clear k0' k1' k2' k3' k4' x1
            go_wp2
            go_meet
            exact ⟨_, HR2.out⟩
        case rest =>
          obtain ⟨W2, hw2⟩ := hcut
          have HW := Lib.hid hw2
          obtain ⟨wA, wc2, rfl, _, _⟩ := hw2.rd.shape
          clear hw2 HR2 x0 x1 HLT HPX HV HN HL
          obtain ⟨w3, rfl⟩ : ∃ w3 : World, w3 = wc := ⟨_, rfl⟩
          obtain ⟨n2, hn2⟩ : ∃ n2, W2.length = n2 := ⟨_, rfl⟩
          have HN2 := Lib.hid hn2
          have HLN := Lib.hid (len_qu HW.out.qu)
          have hb : (((n2 : Nat) : Int) != n2) = false := by simp
          rw [hn2] at HLN
          rw [hn2]
          clear hn2
          go_wp2_with fail
          refine HLN.out.mono ?_
          rintro e w' ⟨rfl, rfl⟩
          clear HLN
          go_wp2_with fail
          refine (all_qu HW.out.qu).mono ?_
          rintro e w4 ⟨v7, rfl, hr7, -, hg7⟩
          have HG7 := Lib.hid hg7
          have HS := Lib.hid (same_at hr7.sh (HW.out.rd.grown hg7).sh (by have := HW.out.qu.le; omega))
          rw [HN2.out] at HS
          clear hr7 hg7
          go_wp2_with fail
          refine HS.out.mono ?_
          rintro e w5 ⟨rfl, hg5⟩
          have HWN := Lib.hid (HW.out.grown (grown_trans HG7.out hg5))
          rw [HN2.out] at HWN
          clear hg5 HS
          go_wp2
          go_roundw
          case rel => exact ⟨k + 1, by have := HK.out; omega, by have := HK.out; omega, by go_num, _, HWN.out⟩
          case measure => have := HK.out; simp [intOf]; omega
      · have hki : (k : Int) < len := by omega
        have hd150 : decide ((k : Int) ≥ 150) = true := decide_eq_true (by omega)
        have hd150' : decide ((150 : Int) ≤ k) = true := decide_eq_true (by omega)
        obtain ⟨c, off, rfl, _, hc⟩ := HO.out.resolve_left (by omega)
        obtain ⟨ck, ca⟩ := hc k hlt
        replace ck := HR.out.g.cell ck (by simp)
        replace ca := HR.out.g.cell ca (by simp)
        obtain ⟨⟨kk, a⟩, ht⟩ : ∃ t : Op11, O k = t := ⟨_, rfl⟩
        rw [ht] at ck ca
        simp only [] at ck ca
        have HG1 : Hid (w.grownBy (wr.alloc (.cells #[.int .i64 kk, .int .i64 a] 27)) none) := Lib.hid (grown_trans HR.out.g (grown_alloc _ _ _))
        clear hc ht hlt h150 hk hk150 hvs hvc HW HR
        go_wp2_with fail
        refine (awake11_at _).mono ?_
        rintro e w5 ⟨rfl, hg⟩
        have HG5 := Lib.hid (grown_trans HG1.out hg)
        clear hg
        go_wp2
        go_ret
        exact ⟨rfl, HG5.out⟩
    · obtain rfl : k = len := by omega
      have hki : ¬ (k : Int) < k := by omega
      have HG1 := Lib.hid HR.out.g
      clear hlt hk hk150 hvs hvc HW HR HO
      go_wp2_with fail
      refine (awake11_at _).mono ?_
      rintro e w5 ⟨rfl, hg⟩
      have HG5 := Lib.hid (grown_trans HG1.out hg)
      clear hg
      go_wp2
      go_ret
      exact ⟨rfl, HG5.out⟩
end Go.Proofs.Ytldpljfanlhooaa
