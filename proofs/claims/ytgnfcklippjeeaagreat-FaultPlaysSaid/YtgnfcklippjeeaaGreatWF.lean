/- The walk of FaultPlays. -/
import Derived.Test.YtgnfcklippjeeaaGreatWE
import Derived.Test.YtgnfcklippjeeaaGreatRG
import Derived.Deep.RegionHeld3
import Derived.Deep.RegionLaw
import Derived.Deep.DeepCutAuto
import Derived.Deep.CutBlock
namespace Go.Proofs.YtgnfcklippjeeaaGreat
open Go.RowKit

/-- What a round of the law begins with. -/
def Fp9 (w wr : World) (pp m n b0 : Nat) (F : Fp) (l qg cap bN : Nat) (s : Value) (k : Nat) : Prop := ∃ A D T V cnt c2 G rv M U, Fq w wr A D T V cnt pp b0 F c2 G G rv M l qg cap bN s M U ∧ V.m = m ∧ V.n = n ∧ cnt ≤ k ∧ c2 ≤ k ∧ (∀ i, n * 256 ≤ i → G i = false) ∧ M.length ≤ k
theorem Fp9.all {w wr : World} {pp m n b0 l qg cap bN k : Nat} {F : Fp} {s : Value} (h : Fp9 w wr pp m n b0 F l qg cap bN s k) : w.grownBy wr none := by
  obtain ⟨A, D, T, V, cnt, c2, G, rv, M, U, h1, _⟩ := h
  exact h1.fx.pr.y.all
/-- Both Faults answer the same. -/
theorem both_fault {w0 w : World} {A : Rp} {D : Dp} {T : Nat → Nat} {V : St} {cnt pp b0 : Nat} {F : Fp} {c2 : Nat} {G : Nat → Bool} {rv : Value} {N : List Rep} {l qg cap bN : Nat} {s : Value} {M : List Rep} {U : Nat → Nat} (h : Fq w0 w A D T V cnt pp b0 F c2 G G rv N l qg cap bN s M U) (a : Int) :
    ∃ f : Int, (∀ W, w.grownBy W none → Calls Tryz.prog 42 #[.pointer (some ⟨F.p, 0, none⟩), .int .i64 a] W fun e w' => e = .returned (.int .i64 f) ∧ W.grownBy w' none) ∧ ∀ W, w.grownBy W none → Calls Tryz.prog 43 #[.pointer (some ⟨l, 0, none⟩), .int .i64 a] W fun e w' => e = .returned (.int .i64 f) ∧ W.grownBy w' none := by
  obtain ⟨x, hx⟩ := V.at_ex a
  exact ⟨fltV V G a x, fun W g => (h.grown g).fx.rf.fault hx, fun W g => dfault_at (h.grown g).fx.pr.d (h.grown g).dl hx⟩
set_option maxRecDepth 100000 in
set_option maxHeartbeats 16000000 in
theorem faultPlays_walk (k0 k1 : Nat) (hk0 : k0 < 256) (hk1 : k1 < 256) (A0 : Option Addr) (len cap0 : Nat) (O : Nat → Lop2) (A1 : Option Addr) (len1 cap1 : Nat) (f1 : Nat → Int) (w : World) (hlen : len ≤ 9223372036854775807) (hO : L2At w A0 len O) (hlen1 : len1 ≤ 9223372036854775807) (hI : I64At w A1 len1 f1) :
    Calls Tryz.prog 7 #[.int .u8 k0, .int .u8 k1, .slice A0 len cap0, .slice A1 len1 cap1] w fun e w' => e = .returned (.bool true) ∧ w.grownBy w' none := by
  obtain ⟨m, hm⟩ : ∃ m : Nat, k0 % 7 = m := ⟨_, rfl⟩
  obtain ⟨M0, hM0⟩ : ∃ M0 : Nat, 1 + k1 % 3 = M0 := ⟨_, rfl⟩
  have e1 : ((k0 : Nat) : Int) % 7 = (m : Int) := by omega
  have e2 : ((k1 : Nat) : Int) % 3 = ((M0 - 1 : Nat) : Int) := by omega
  obtain ⟨m1, hm1⟩ : ∃ m1 : Int, ((M0 - 1 : Nat) : Int) = m1 := ⟨_, rfl⟩
  have e3 : IntKind.i64.wrap (1 + m1) = (M0 : Int) := by rw [IntKind.wrap_i64]; omega
  rw [hm1] at e2
  have HMK : Hid (∀ W : World, Calls Tryz.prog 10 #[.int .i64 m, .int .i64 M0, .int .u64 3] W fun e w' => ∃ A D T pp, e = .returned (.pointer (some ⟨pp, 0, none⟩)) ∧ PrAt W w' A D T (St.new m (m + M0) (keyOf 3)) (St.new m (m + M0) (keyOf 3)) 0 pp ∧ W.heap.size ≤ pp) := Lib.hid (fun W => make9_at (m := m) (M := M0) 3 W (by omega) (by omega))
  have HO := Lib.hid hO
  have HI := Lib.hid (And.intro hI hlen1)
  have hli : (len : Int) ≤ 9223372036854775807 := by omega
  have hli1 : (len1 : Int) ≤ 9223372036854775807 := by omega
  obtain ⟨n, hn⟩ : ∃ n : Nat, m + M0 = n := ⟨_, rfl⟩
  have HN : Hid (m ≤ n ∧ n ≤ 9) := Lib.hid (by omega)
  rw [hn] at HMK
  clear hO hI hlen hlen1 hm hM0 hm1 hn
  go_enter Tryz.func7, Tryz.ntmps7
  go_wp2_with fail
  refine (HMK.out _).mono ?_
  rintro e w1 ⟨A, D, T, pp, rfl, hpr, hpp⟩
  have HP1 := Lib.hid hpr
  have q0 := hpr.c0
  have q1 := hpr.c1
  clear hpr hpp HMK e1 e2 e3
  go_upto_region 4 with (fail)
  go_cut [10, 11] (fun x y W => ∃ F b0 l qg cap bN, x = .pointer (some ⟨F.p, 0, none⟩) ∧ y = .pointer (some ⟨l, 0, none⟩) ∧ Fp9 w W pp m n b0 F l qg cap bN (.slice none 0 0) 0)
  case first =>
    have hg1 := grown_drew1 (grown_refl w1 none)
    go_region_held3 (fun w' => w'.cell? ⟨pp, 0, none⟩ = some (.pointer (some ⟨A.p, 0, none⟩)) ∧ w'.cell? ⟨pp, 1, none⟩ = some (.pointer (some ⟨D.p, 0, none⟩)))
      (first | exact ⟨q0, q1⟩ | exact HS2.out | exact HS3.out)
      (first
      | (go_at_call 35; refine (fnew_at A.p _).mono ?_; rintro e w2 hmd; obtain ⟨F, rfl, hfx, g2⟩ := fx_new (HP1.out.grown (by assumption)) hmd; have HF2 := Lib.hid hfx; have HS2 : Hid (w2.cell? ⟨pp, 0, none⟩ = some (.pointer (some ⟨A.p, 0, none⟩)) ∧ w2.cell? ⟨pp, 1, none⟩ = some (.pointer (some ⟨D.p, 0, none⟩))) := Lib.hid ⟨hfx.pr.c0, hfx.pr.c1⟩; have HG2 := Lib.hid g2; have HDN := Lib.hid (dlnew_at hfx.pr.d); clear hfx g2 hmd)
      | (go_at_call 36; refine HDN.out.mono ?_; rintro e w3 hdn; obtain ⟨l, qg, cap, U, rfl, hfq, g3⟩ := fq_new HF2.out (fun i hi => if_neg (by have := HG2.out.size; omega)) hdn; have HQ := Lib.hid hfq; have HS3 : Hid (w3.cell? ⟨pp, 0, none⟩ = some (.pointer (some ⟨A.p, 0, none⟩)) ∧ w3.cell? ⟨pp, 1, none⟩ = some (.pointer (some ⟨D.p, 0, none⟩))) := Lib.hid ⟨hfq.fx.pr.c0, hfq.fx.pr.c1⟩; clear hfq g3 hdn))
    all_goals
      go_wp2
      go_meet
      exact ⟨F, _, l, qg, cap, _, rfl, rfl, A, D, _, _, 0, 0, _, _, [], U, HQ.out, rfl, rfl, by omega, by omega, fun _ _ => rfl, by simp⟩
  case rest =>
  obtain ⟨F, b0, l, qg, cap, bN, rfl, rfl, hb0⟩ := hcut
  obtain ⟨w3, rfl⟩ : ∃ w3 : World, w3 = wc := ⟨_, rfl⟩
  have HB0 := Lib.hid hb0
  clear hb0 q0 q1 HP1
  obtain ⟨i0, hi, hz0, hz1, hz2⟩ := info_parts infoReport
  go_upto_block 0 with (fail)
  go_cut [12] (fun s W => ∃ k, k ≤ 30 ∧ Fp9 w W pp m n b0 F l qg cap bN s k)
  case first =>
   go_wp2_with fail
   obtain ⟨w4, hw4⟩ : ∃ w4 : World, w4 = w3 := ⟨_, rfl⟩
   clear hw4
   go_loopw [12, 46] (fun s i wr => ∃ k : Nat, k ≤ len ∧ k ≤ 30 ∧ i = .int .i64 k ∧ Fp9 w wr pp m n b0 F l qg cap bN s k) (fun _ i _ => len - (intOf i).toNat)
   case atStart => exact ⟨0, by omega, by omega, rfl, HB0.out⟩
   case round =>
     obtain ⟨k, hk, hk30, rfl, hb⟩ := hrel
     have HB := Lib.hid hb
     clear hb
     by_cases hlt : k < len ∧ k < 30
     · obtain ⟨hlt, h30⟩ := hlt
       obtain ⟨b, off, hA0, hcl, hc8, hrow⟩ : ∃ b off, A0 = some ⟨b, off, none⟩ ∧ LCells wr b (off + k * 9) (O k).o ∧ wr.cell? ⟨b, off + k * 9 + 8, none⟩ = some (.int .i64 (O k).own) ∧ LRows w (O k).o := by
         rcases HO.out with h0 | ⟨b, off, e, _, h⟩
         · omega
         · exact ⟨b, off, e, (h k hlt).1.grown HB.out.all, HB.out.all.cell (h k hlt).2.1 (by simp), (h k hlt).2.2⟩
       subst hA0
       have HRW := Lib.hid hrow
       obtain ⟨t, ht⟩ : ∃ t, O k = t := ⟨_, rfl⟩
       rw [ht] at hcl hc8 HRW
       obtain ⟨c0, c1, c2, c3, c4, c5, c6, c7⟩ := hcl
       have hki : (k : Int) < len := by omega
       have hk30i : decide ((30 : Int) ≤ k) = false := decide_eq_false (by omega)
       have hk30n : decide (30 ≤ k) = false := decide_eq_false (by omega)
       have hk30b : (k : Int) ≤ 30 := by omega
       have HLT : Hid (k < len ∧ k < 30) := Lib.hid ⟨hlt, h30⟩
       clear ht hrow hk hlt h30 hk30
       obtain ⟨A, D, T, V, cnt, cc2, G, rv, M, U, hfq, hVm, hVn, hcn, hc2, hgn, hML⟩ := HB.out
       have HGA := Lib.hid (grown_alloc wr (.cells #[.int .i64 t.o.k, .int .i64 t.o.c, .int .i64 t.o.o, .int .i64 t.o.p, .int .i64 t.o.a, .int .i64 t.o.n, .bool t.o.b, .slice t.o.bA t.o.bl t.o.bc, .int .i64 t.own] 85) none)
       have HQ := Lib.hid (hfq.grown HGA.out)
       have HX := Lib.hid (And.intro hVm (And.intro hVn (And.intro hcn (And.intro hc2 (And.intro hgn hML)))))
       have HOB : Hid (∀ i, (wr.alloc (.cells #[.int .i64 t.o.k, .int .i64 t.o.c, .int .i64 t.o.o, .int .i64 t.o.p, .int .i64 t.o.a, .int .i64 t.o.n, .bool t.o.b, .slice t.o.bA t.o.bl t.o.bc, .int .i64 t.own] 85)).cell? ⟨wr.heap.size, i, none⟩ = (#[.int .i64 t.o.k, .int .i64 t.o.c, .int .i64 t.o.o, .int .i64 t.o.p, .int .i64 t.o.a, .int .i64 t.o.n, .bool t.o.b, .slice t.o.bA t.o.bl t.o.bc, .int .i64 t.own] : Array Value)[i]?) := Lib.hid (fun i => cell_alloc_new _ _ _ _)
       have HNE : Hid (wr.heap.size ≠ F.p ∧ wr.heap.size ≠ F.mb ∧ wr.heap.size ≠ qg ∧ ∀ q, rv.ownBlock = some q → q ≠ wr.heap.size) := Lib.hid ⟨by have := hfq.fx.l.plt; omega, by have := hfq.fx.l.mlt; omega, by have := hfq.dl.v.qlt; omega, fun q hq => by have := hfq.fx.l.mlt' q hq; omega⟩
       clear hfq hVm hVn hcn hc2 hgn hML HB
       go_upto_region 9 with (fail)
       generalize wr.alloc (.cells #[.int .i64 t.o.k, .int .i64 t.o.c, .int .i64 t.o.o, .int .i64 t.o.p, .int .i64 t.o.a, .int .i64 t.o.n, .bool t.o.b, .slice t.o.bA t.o.bl t.o.bc, .int .i64 t.own] 85) = w5 at *
       generalize wr.heap.size = ob at *
       have z0 : w5.cell? ⟨ob, 0, none⟩ = some (.int .i64 t.o.k) := (HOB.out 0).trans rfl
       have z1 : w5.cell? ⟨ob, 1, none⟩ = some (.int .i64 t.o.c) := (HOB.out 1).trans rfl
       have z2 : w5.cell? ⟨ob, 2, none⟩ = some (.int .i64 t.o.o) := (HOB.out 2).trans rfl
       have z3 : w5.cell? ⟨ob, 3, none⟩ = some (.int .i64 t.o.p) := (HOB.out 3).trans rfl
       have z4 : w5.cell? ⟨ob, 4, none⟩ = some (.int .i64 t.o.a) := (HOB.out 4).trans rfl
       have z5 : w5.cell? ⟨ob, 5, none⟩ = some (.int .i64 t.o.n) := (HOB.out 5).trans rfl
       have z6 : w5.cell? ⟨ob, 6, none⟩ = some (.bool t.o.b) := (HOB.out 6).trans rfl
       have z7 : w5.cell? ⟨ob, 7, none⟩ = some (.slice t.o.bA t.o.bl t.o.bc) := (HOB.out 7).trans rfl
       have z8 : w5.cell? ⟨ob, 8, none⟩ = some (.int .i64 t.own) := (HOB.out 8).trans rfl
       clear c0 c1 c2 c3 c4 c5 c6 c7 hc8
       by_cases h1 : t.own = 1
       · rw [h1] at z8
         clear h1
         have HBF := Lib.hid (fun W (g : w5.grownBy W none) => both_took (HQ.out.grown g) t.o.a)
         go_upto_region 14 with (fail)
         have hg1 := grown_drew1 (grown_refl w5 none)
         go_region_held3 (fun w' => w'.cell? ⟨ob, 4, none⟩ = some (.int .i64 t.o.a))
           (first | exact z4 | exact HS6.out | exact HS7.out)
           (first
           | (go_at_call 37; obtain ⟨er, G', hgn, hc, hd⟩ := HBF.out _ (by assumption); refine hc.mono ?_; rintro e w6 ⟨rfl, hfr, c3, hc3, hq6⟩; have HG6 := Lib.hid (by assumption : w5.grownBy _ none); have HS6 : Hid (w6.cell? ⟨ob, 4, none⟩ = some (.int .i64 t.o.a)) := Lib.hid (hfr.cell (HG6.out.cell z4 (by simp)) HNE.out.2.1); have HC3 := Lib.hid (And.intro hc3 hgn); have HD := Lib.hid (hd w6 c3 hq6); clear hc hd hfr hc3 hq6 hgn)
           | (go_at_call 38; refine HD.out.mono ?_; rintro e w7 ⟨rfl, hfr, hq7⟩; have HS7 : Hid (w7.cell? ⟨ob, 4, none⟩ = some (.int .i64 t.o.a)) := Lib.hid (hfr.cell HS6.out HNE.out.2.2.1); have HQ7 := Lib.hid hq7; clear hfr hq7))
         all_goals
           go_wp2
           go_roundw
           case rel => exact ⟨k + 1, by have := HLT.out; omega, by have := HLT.out; omega, by go_num, A, D, T, V, cnt, c3, G', rv, M, U, HQ7.out, HX.out.1, HX.out.2.1, by have := HX.out; omega, by have := HX.out; have := HC3.out.1; omega, fun i hi => HC3.out.2 i (by have := HX.out.2.1; rw [this]; exact hi) (HX.out.2.2.2.2.1 i hi), by have := HX.out; omega⟩
           case measure => have := HLT.out; simp [intOf]; omega
       by_cases h2 : t.own = 2
       · rw [h2] at z8
         clear h1 h2
         have HBF := Lib.hid (fun W (g : w5.grownBy W none) => both_dropped (HQ.out.grown g) (by have := HX.out; have := HLT.out; omega) t.o.a)
         go_upto_region 17 with (fail)
         have hg1 := grown_drew1 (grown_refl w5 none)
         go_region_held3 (fun w' => w'.cell? ⟨ob, 4, none⟩ = some (.int .i64 t.o.a))
           (first | exact z4 | exact HS6.out | exact HS7.out)
           (first
           | (go_at_call 39; obtain ⟨er, G', hgn, hc, hd⟩ := HBF.out _ (by assumption); refine hc.mono ?_; rintro e w6 ⟨rfl, hfr, c3, hc3, hq6⟩; have HG6 := Lib.hid (by assumption : w5.grownBy _ none); have HS6 : Hid (w6.cell? ⟨ob, 4, none⟩ = some (.int .i64 t.o.a)) := Lib.hid (hfr.cell (HG6.out.cell z4 (by simp)) HNE.out.2.1); have HC3 := Lib.hid (And.intro hc3 hgn); have HD := Lib.hid (hd w6 c3 hq6); clear hc hd hfr hc3 hq6 hgn)
           | (go_at_call 40; refine HD.out.mono ?_; rintro e w7 ⟨rfl, hfr, hq7⟩; have HS7 : Hid (w7.cell? ⟨ob, 4, none⟩ = some (.int .i64 t.o.a)) := Lib.hid (hfr.cell HS6.out HNE.out.2.2.1); have HQ7 := Lib.hid hq7; clear hfr hq7))
         all_goals
           go_wp2
           go_roundw
           case rel => exact ⟨k + 1, by have := HLT.out; omega, by have := HLT.out; omega, by go_num, A, D, T, V, cnt, c3, G', rv, M, U, HQ7.out, HX.out.1, HX.out.2.1, by have := HX.out; omega, by have := HX.out; have := HC3.out.1; omega, fun i hi => HC3.out.2 i (by have := HX.out.2.1; rw [this]; exact hi) (HX.out.2.2.2.2.1 i hi), by have := HX.out; omega⟩
           case measure => have := HLT.out; simp [intOf]; omega
       have d1 : (t.own == 1) = false := by simpa using h1
       have d2 : (t.own == 2) = false := by simpa using h2
       by_cases h3 : t.own = 3
       · rw [h3] at z8 d1 d2
         clear h1 h2 h3
         obtain ⟨r, hr⟩ : ∃ r : Rep, r = ⟨t.o.o, t.o.a, t.o.n⟩ := ⟨_, rfl⟩
         have hrt : r.t = t.o.o := by rw [hr]
         have hra : r.a = t.o.a := by rw [hr]
         have hrf : r.f = t.o.n := by rw [hr]
         by_cases hn0 : t.o.n = 0
         · rw [hn0] at z5
           have HNO := Lib.hid (note_no (p := F.p) w5 t.o.o t.o.a)
           clear hr hrt hra hrf hn0
           go_wp2_with fail
           refine HNO.out.mono ?_
           rintro e w6 ⟨rfl, rfl⟩
           go_wp2
           go_roundw
           case rel => exact ⟨k + 1, by have := HLT.out; omega, by have := HLT.out; omega, by go_num, A, D, T, V, cnt, cc2, G, rv, M, U, HQ.out, HX.out.1, HX.out.2.1, by have := HX.out; omega, by have := HX.out; omega, HX.out.2.2.2.2.1, by have := HX.out; omega⟩
           case measure => have := HLT.out; simp [intOf]; omega
         · have hnb : (t.o.n != 0) = true := by simpa using hn0
           have HNO := Lib.hid (fq_note HQ.out (by have := HX.out; have := HLT.out; omega) r (by rw [hrf]; exact hn0))
           rw [hrt, hra, hrf] at HNO
           have HR := Lib.hid (And.intro hrt (And.intro hra hrf))
           clear hr hrt hra hrf hn0
           go_wp2_with fail
           refine HNO.out.mono ?_
           rintro e w6 ⟨rfl, hfr6, rv', T', U', hfq6⟩
           have HQ6 := Lib.hid hfq6
           have hob : ¬ (ob = F.p ∨ rv.ownBlock = some ob) := fun e => by
             rcases e with e | e
             · exact HNE.out.1 e
             · exact HNE.out.2.2.2 ob e rfl
           have y2 := hfr6.cell z2 hob
           have y4 := hfr6.cell z4 hob
           have y5 := hfr6.cell z5 hob
           have hown := hfq6.nt
           obtain ⟨As, cs, rfl, hcs⟩ := bown_shape hown
           obtain ⟨ln, hln⟩ : ∃ ln, M.length = ln := ⟨_, rfl⟩
           have HLN := Lib.hid hln
           have HO6 : Hid (w6.ownsRow bN 89 3 (.slice As ln cs) ln (rcell3 M)) := Lib.hid (by rw [hln] at hown; exact hown)
           rw [hln] at HQ6 HQ hcs ⊢
           have hli2 : (ln : Int) ≤ 1000 := by have := HX.out; have := HLT.out; omega
           have hlc : (ln : Int) ≤ cs := by omega
           have HBN := Lib.hid hfq6.bs
           clear hfr6 hfq6 hob hown hln hcs z0 z1 z2 z3 z4 z5 z6 z7 z8 HNO
           go_wp2_with (at_builtin; refine wpList_append_own_at _ rfl _ _ 83 rfl bN 89 i0 (.agg #[.int .i64 0, .int .i64 0, .int .i64 0]) 3 24 Tryz.underlying83 hi hz0 hz1 hz2 rfl (by decide) _ _ _ rfl (HO6.out.alloc _) ⟨w6.heap.size, 0, none⟩ 1 1 [.int .i64 t.o.o, .int .i64 t.o.a, .int .i64 t.o.n] rfl ?c1 ?c2 ?c3 ?c4 ?c5 ?c6 ?_)
           case c1 => rfl
           case c2 => exact fun j u hj => three_cells w6 _ _ _ _ j u hj
           case c3 => exact fun u hu => by simp at hu; rcases hu with rfl | rfl | rfl <;> rfl
           case c4 => simp only [maxLen]; omega
           case c5 => omega
           case c6 => have := HBN.out; simp; omega
           intro v' w7 h2' h3' h4' h5'
           have HFIN : Hid (∃ T3 U3, Fq w w7 A D T3 V cnt pp b0 F cc2 G G rv' (M ++ [r]) l qg cap bN v' (M ++ [r]) U3) := Lib.hid (by
             refine fq_list HQ6.out (ronto (by rw [HLN.out, HR.out.1, HR.out.2.1, HR.out.2.2]; exact h2')) (agrown_own h3' (grown_refl w6 none)) (fun q hq => ?_)
             rcases h5' with e | e
             · rw [e] at hq; exact .inl hq
             · rw [e] at hq; injection hq with hq; subst hq; exact .inr (by simp))
           clear h2' h3' h4' h5'
           go_wp2
           go_roundw
           case rel =>
             obtain ⟨T3, U3, hfin⟩ := HFIN.out
             exact ⟨k + 1, by have := HLT.out; omega, by have := HLT.out; omega, by go_num, A, D, T3, V, cnt, cc2, G, rv', M ++ [r], U3, hfin, HX.out.1, HX.out.2.1, by have := HX.out; omega, by have := HX.out; omega, HX.out.2.2.2.2.1, by have := HX.out; simp; omega⟩
           case measure => have := HLT.out; simp [intOf]; omega
       · have d3 : (t.own == 3) = false := by simpa using h3
         have HST := Lib.hid (fq_step HQ.out (by have := HX.out; have := HLT.out; omega) HRW.out)
         unfold Lop.v opV at HST
         clear h1 h2 h3
         go_wp2_with fail
         refine HST.out.mono ?_
         rintro e w6 ⟨rfl, A', D', T', V', hm', hn', hfq⟩
         have HQ6 := Lib.hid hfq
         have HV' := Lib.hid (And.intro hm' hn')
         clear hm' hn' hfq
         go_wp2
         go_roundw
         case rel => exact ⟨k + 1, by have := HLT.out; omega, by have := HLT.out; omega, by go_num, A', D', T', V', cnt + 1, cc2, G, rv, M, U, HQ6.out, HV'.out.1.trans HX.out.1, HV'.out.2.trans HX.out.2.1, by have := HX.out; omega, by have := HX.out; omega, HX.out.2.2.2.2.1, by have := HX.out; omega⟩
         case measure => have := HLT.out; simp [intOf]; omega
     · by_cases hkl : k < len
       · obtain rfl : k = 30 := by omega
         obtain ⟨b, off, hA0, hcl, hc8⟩ : ∃ b off, A0 = some ⟨b, off, none⟩ ∧ LCells wr b (off + 30 * 9) (O 30).o ∧ wr.cell? ⟨b, off + 30 * 9 + 8, none⟩ = some (.int .i64 (O 30).own) := by
           rcases HO.out with h0 | ⟨b, off, e, _, h⟩
           · omega
           · exact ⟨b, off, e, (h 30 hkl).1.grown HB.out.all, HB.out.all.cell (h 30 hkl).2.1 (by simp)⟩
         subst hA0
         obtain ⟨t, ht⟩ : ∃ t, O 30 = t := ⟨_, rfl⟩
         rw [ht] at hcl hc8
         obtain ⟨c0, c1, c2, c3, c4, c5, c6, c7⟩ := hcl
         have hki : (30 : Int) < len := by omega
         have hkn : 30 < len := hkl
         have HFIN : Hid (Fp9 w (wr.alloc (.cells #[.int .i64 t.o.k, .int .i64 t.o.c, .int .i64 t.o.o, .int .i64 t.o.p, .int .i64 t.o.a, .int .i64 t.o.n, .bool t.o.b, .slice t.o.bA t.o.bl t.o.bc, .int .i64 t.own] 85)) pp m n b0 F l qg cap bN _ 30) := Lib.hid (by
           obtain ⟨A, D, T, V, cnt, cc2, G, rv, M, U, h1, h2⟩ := HB.out
           exact ⟨A, D, T, V, cnt, cc2, G, rv, M, U, h1.grown (grown_alloc _ _ _), h2⟩)
         clear ht hk hlt HB
         go_wp2
         go_meet
         exact ⟨30, by omega, HFIN.out⟩
       · obtain rfl : k = len := by omega
         have hki : ¬ (k : Int) < k := by omega
         have HK : Hid (k ≤ 30) := Lib.hid hk30
         clear hk hlt hkl hk30
         go_wp2
         go_meet
         exact ⟨k, HK.out, HB.out⟩
  case rest =>
  obtain ⟨k, hk30, hb⟩ := hcut
  obtain ⟨w4, rfl⟩ : ∃ w4 : World, w4 = wc := ⟨_, rfl⟩
  obtain ⟨A, D, T, V, cnt, cc2, G, rv, M, U, hfq, hVm, hVn, -, -, hgn, hML⟩ := hb
  obtain ⟨As, cs, rfl, hcs⟩ := bown_shape hfq.nt
  have HQ := Lib.hid hfq
  have HNT := Lib.hid (own_rl hfq.nt)
  have HGN := Lib.hid hgn
  have HML : Hid (M.length ≤ 30) := Lib.hid (by omega)
  have d1 := hfq.dl.c1
  rw [hVn] at d1
  obtain ⟨N, hNN⟩ : ∃ N, n * 256 = N := ⟨_, rfl⟩
  have HNN : Hid (n * 256 = N ∧ N ≤ 2304 ∧ V.n = n) := Lib.hid ⟨hNN, by have := HN.out; omega, hVn⟩
  rw [hNN] at d1
  have hNi : (N : Int) ≤ 2304 := by have := HNN.out; omega
  have HD1 := Lib.hid d1
  have HALL := Lib.hid hfq.fx.pr.y.all
  obtain ⟨ln, hln⟩ : ∃ ln, M.length = ln := ⟨_, rfl⟩
  have HLN : Hid (M.length = ln ∧ ln ≤ 30) := Lib.hid ⟨hln, by omega⟩
  rw [hln] at hcs HNT HQ ⊢
  have hlni : (ln : Int) ≤ 30 := by have := HLN.out; omega
  have hlnc : (ln : Int) ≤ cs := by omega
  clear hk30 hfq hVm hVn hgn hML hNN hln hcs HB0 hi hz0 hz1 hz2
  obtain ⟨i1, hi, hz0, hz1, hz2⟩ := info_parts infoInt9
  go_wp2_with fail
  obtain ⟨w5, hw5⟩ : ∃ w5 : World, w5 = w4 := ⟨_, rfl⟩
  clear hw5 d1
  go_loopw [15, 122] (fun s i wx => ∃ a : Nat, a ≤ N ∧ i = .int .i64 a ∧ w4.grownBy wx none ∧ IntsOwn wx w4.heap.size s (goneL G a)) (fun _ i _ => N - (intOf i).toNat)
  case atStart => exact ⟨0, by omega, rfl, grown_refl _ _, World.ownsRow_nil _ _ _ _⟩
  case round =>
    obtain ⟨a, ha, rfl, hg, hown⟩ := hrel
    obtain ⟨Ag, cg, rfl, hcg⟩ := bown_shape hown
    have HG := Lib.hid hg
    have HO2 := Lib.hid hown
    have hll := goneL_len G a
    obtain ⟨gn, hgn⟩ : ∃ gn, (goneL G a).length = gn := ⟨_, rfl⟩
    have HGNL := Lib.hid hgn
    rw [hgn] at hcg hll HO2 ⊢
    have hgi : (gn : Int) ≤ 2304 := by omega
    have hgc : (gn : Int) ≤ cg := by omega
    clear hg hown hgn hcg
    by_cases han : a < N
    · have hai : (a : Int) < N := by omega
      have hai2 : (a : Int) ≤ 2304 := by omega
      have HA : Hid (a < N ∧ gn ≤ a) := Lib.hid ⟨han, hll⟩
      have cq := HG.out.cell (HQ.out.dl.v.c a (by rw [HNN.out.2.2, HNN.out.1]; exact han)) (by simp)
      obtain ⟨f, hf1, hf2⟩ := both_fault HQ.out (a : Int)
      have HF1 := Lib.hid hf1
      have HF2 := Lib.hid hf2
      have HGS : Hid (goneL G (a + 1) = if G a = true then goneL G a ++ [(a : Int)] else goneL G a) := Lib.hid rfl
      clear hf1 hf2 ha han hll
      cases hG : G a with
      | true =>
        rw [hG] at cq HGS
        have HGS2 : Hid (goneL G (a + 1) = goneL G a ++ [(a : Int)]) := Lib.hid (HGS.out.trans (if_pos rfl))
        have HO3 : Hid (wr.ownsRow w4.heap.size 3 1 (.slice Ag gn cg) gn ((goneL G a).map fun x => Value.int .i64 x)) := Lib.hid (by have := HO2.out; unfold IntsOwn at this; rw [HGNL.out] at this; exact this)
        clear hG HGS
        go_wp2_with (at_builtin; refine wpList_append_own _ rfl _ _ 78 rfl w4.heap.size 3 i1 (.int .i64 0) 1 8 Tryz.underlying78 hi hz0 hz1 hz2 rfl (by decide) _ _ _ rfl (HO3.out.alloc _) ⟨wr.heap.size, 0, none⟩ 1 1 [.int .i64 a] rfl ?c1 ?c2 ?c3 ?c4 ?c5 ?c6 ?_)
        case c1 => rfl
        case c2 => exact fun j u hj => one_cell wr _ _ j u hj
        case c3 => exact fun u hu => by simp at hu; rcases hu with rfl; rfl
        case c4 => have := HA.out; simp only [maxLen]; omega
        case c5 => have := HA.out; omega
        case c6 => have := HG.out.size; simp; omega
        intro v' w6 h2' h3' h4'
        have HE := Lib.hid (ionto_end (x := (a : Int)) _ HG.out HO2.out (by rw [HGNL.out]; exact h2') h3')
        clear h2' h3' h4'
        go_wp2_with fail
        refine (HF1.out _ HE.out.2).mono ?_
        rintro e w7 ⟨rfl, m7⟩
        have HG7 := Lib.hid (grown_trans HE.out.2 m7)
        have HO7 : Hid (IntsOwn w7 w4.heap.size v' (goneL G a ++ [(a : Int)])) := Lib.hid (World.ownsRow.kept HE.out.1 m7 (Classical.em _))
        clear m7
        go_wp2_with fail
        refine (HF2.out _ HG7.out).mono ?_
        rintro e w8 ⟨rfl, m8⟩
        have HG8 := Lib.hid (grown_trans HG7.out m8)
        have HO8 : Hid (IntsOwn w8 w4.heap.size v' (goneL G (a + 1))) := Lib.hid (by rw [HGS2.out]; exact World.ownsRow.kept HO7.out m8 (Classical.em _))
        clear m8
        go_wp2
        go_roundw
        case rel => exact ⟨a + 1, by have := HA.out; omega, by go_num, HG8.out, HO8.out⟩
        case measure => have := HA.out; simp [intOf]; omega
      | false =>
        rw [hG] at cq HGS
        have HGS2 : Hid (goneL G (a + 1) = goneL G a) := Lib.hid (HGS.out.trans (if_neg (by simp)))
        clear hG HGS
        go_wp2_with fail
        refine (HF1.out _ HG.out).mono ?_
        rintro e w7 ⟨rfl, m7⟩
        have HG7 := Lib.hid (grown_trans HG.out m7)
        have HO7 : Hid (IntsOwn w7 w4.heap.size (.slice Ag gn cg) (goneL G a)) := Lib.hid (World.ownsRow.kept HO2.out m7 (Classical.em _))
        clear m7
        go_wp2_with fail
        refine (HF2.out _ HG7.out).mono ?_
        rintro e w8 ⟨rfl, m8⟩
        have HG8 := Lib.hid (grown_trans HG7.out m8)
        have HO8 : Hid (IntsOwn w8 w4.heap.size (.slice Ag gn cg) (goneL G (a + 1))) := Lib.hid (by rw [HGS2.out]; exact World.ownsRow.kept HO7.out m8 (Classical.em _))
        clear m8
        go_wp2
        go_roundw
        case rel => exact ⟨a + 1, by have := HA.out; omega, by go_num, HG8.out, HO8.out⟩
        case measure => have := HA.out; simp [intOf]; omega
    · obtain rfl : a = N := by omega
      have hai : ¬ (a : Int) < a := by omega
      have HGO := Lib.hid ((HQ.out.grown HG.out).fx.l)
      have HGA := Lib.hid (gone_all HGO.out (n := a) (by have := HNN.out; omega) (fun i hi => HGN.out i (by have := HNN.out; omega)))
      clear ha han
      go_wp2_with fail
      refine HGA.out.mono ?_
      rintro e w6 ⟨v1, rfl, hrow, g6⟩
      obtain ⟨Ah, ch, rfl, hch⟩ := bown_shape hrow
      have HG6 := Lib.hid (grown_trans HG.out g6)
      have HI1 := Lib.hid (ints_of_own (w := w6) (zs := goneL G a) hrow)
      have HI2 : Hid ((goneL G a).length = 0 ∨ ∃ g, Ag = some ⟨g, 0, none⟩ ∧ w4.heap.size ≤ g ∧ ∀ i (h : i < (goneL G a).length), w6.cell? ⟨g, i, none⟩ = some (.int .i64 (goneL G a)[i])) := Lib.hid ((ints_of_own HO2.out).imp id (fun ⟨g, e, h1, h2⟩ => ⟨g, e, h1, fun i hi => g6.cell (h2 i hi) (by simp)⟩))
      rw [HGNL.out] at hch ⊢
      have hgch : (gn : Int) ≤ ch := by omega
      have HRP := Lib.hid (reports_at (HQ.out.grown HG6.out).fx.l (by have := HML.out; omega) HQ.out.rn)
      clear hrow g6 hch HGA
      go_wp2_with fail
      refine HRP.out.mono ?_
      rintro e w7 ⟨v2, rfl, hrl, g7⟩
      obtain ⟨Ar, cr, rfl, hcr, hre⟩ := hrl
      have HG7 := Lib.hid (grown_trans HG6.out g7)
      have HJ1 : Hid (∀ wx, w7.grownBy wx none → ∀ i, i < gn → ∃ (g1 g2 : Nat) (z : Int), Ah = some ⟨g1, 0, none⟩ ∧ Ag = some ⟨g2, 0, none⟩ ∧ wx.cell? ⟨g1, i, none⟩ = some (.int .i64 z) ∧ wx.cell? ⟨g2, i, none⟩ = some (.int .i64 z)) := Lib.hid (fun wx gx i hi => by
        obtain ⟨g1, e1, -, h1⟩ := HI1.out.resolve_left (by rw [HGNL.out]; omega)
        obtain ⟨g2, e2, -, h2⟩ := HI2.out.resolve_left (by rw [HGNL.out]; omega)
        have hi' : i < (goneL G a).length := by rw [HGNL.out]; exact hi
        exact ⟨g1, g2, _, e1, e2, gx.cell (g7.cell (h1 i hi') (by simp)) (by simp), gx.cell (g7.cell (h2 i hi') (by simp)) (by simp)⟩)
      rw [HLN.out.1] at hcr hre ⊢
      have HRE := Lib.hid hre
      have hlcr : (ln : Int) ≤ cr := by omega
      have HJ2 : Hid (∀ wx, w7.grownBy wx none → ∀ i, i < ln → ∃ (g1 g2 : Nat) (x y z : Int), Ar = some ⟨g1, 0, none⟩ ∧ As = some ⟨g2, 0, none⟩ ∧ (wx.cell? ⟨g1, i * 3, none⟩ = some (.int .i64 x) ∧ wx.cell? ⟨g1, i * 3 + 1, none⟩ = some (.int .i64 y) ∧ wx.cell? ⟨g1, i * 3 + 2, none⟩ = some (.int .i64 z)) ∧ wx.cell? ⟨g2, i * 3, none⟩ = some (.int .i64 x) ∧ wx.cell? ⟨g2, i * 3 + 1, none⟩ = some (.int .i64 y) ∧ wx.cell? ⟨g2, i * 3 + 2, none⟩ = some (.int .i64 z)) := Lib.hid (fun wx gx i hi => by
        have hi' : i < M.length := by rw [HLN.out.1]; exact hi
        obtain ⟨g1, e1, h1⟩ := HRE.out.resolve_left (by omega)
        obtain ⟨A9, c9, e9, -, h9⟩ := HNT.out
        injection e9 with e9 _ _
        obtain ⟨g2, e2, h2⟩ := h9.resolve_left (by have := HLN.out; omega)
        obtain ⟨u0, u1, u2⟩ := rcell3_at M i hi'
        have gg := grown_trans HG7.out gx
        exact ⟨g1, g2, _, _, _, e1, e9.trans e2, ⟨gx.cell (h1 _ _ u0) (by simp), gx.cell (h1 _ _ u1) (by simp), gx.cell (h1 _ _ u2) (by simp)⟩, gg.cell (h2 _ _ u0) (by simp), gg.cell (h2 _ _ u1) (by simp), gg.cell (h2 _ _ u2) (by simp)⟩)
      have HAW := Lib.hid (fun W => awake10_at W)
      clear g7 hcr hre HRP
      go_wp2_with fail
      obtain ⟨w8, hw8⟩ : ∃ w8 : World, w8 = w7 := ⟨_, rfl⟩
      clear hw8
      go_loopw [158] (fun i wx => ∃ j : Nat, j ≤ gn ∧ i = .int .i64 j ∧ w7.grownBy wx none) (fun i _ => gn - (intOf i).toNat)
      case atStart => exact ⟨0, by omega, rfl, grown_refl _ _⟩
      case round =>
        obtain ⟨j, hj, rfl, hgx⟩ := hrel
        have HGX := Lib.hid hgx
        clear hgx
        by_cases hjl : j < gn
        · obtain ⟨g1, g2, z, rfl, rfl, x1, x2⟩ := HJ1.out _ HGX.out j hjl
          have hji : (j : Int) < gn := by omega
          have hji2 : (j : Int) ≤ 2304 := by omega
          have HJL : Hid (j < gn) := Lib.hid hjl
          clear hj hjl
          go_upto_region 39 with (fail)
          go_quiet (fail)
          go_wp2
          go_roundw
          case rel => exact ⟨j + 1, by have := HJL.out; omega, by go_num, grown_drew HGX.out _⟩
          case measure => have := HJL.out; simp [intOf]; omega
        · obtain rfl : j = gn := by omega
          have hji : ¬ (j : Int) < j := by omega
          clear hj hjl
          go_wp2_with fail
          obtain ⟨w9, rfl⟩ : ∃ w9 : World, w9 = wr := ⟨_, rfl⟩
          go_loopw [173] (fun i wx => ∃ j : Nat, j ≤ ln ∧ i = .int .i64 j ∧ w7.grownBy wx none) (fun i _ => ln - (intOf i).toNat)
          case atStart => exact ⟨0, by omega, rfl, HGX.out⟩
          case round =>
            obtain ⟨j2, hj2, rfl, hgx⟩ := hrel
            have HGX2 := Lib.hid hgx
            clear hgx
            by_cases hjl2 : j2 < ln
            · obtain ⟨g1, g2, x, y, z, rfl, rfl, ⟨x1, x2, x3⟩, y1, y2, y3⟩ := HJ2.out _ HGX2.out j2 hjl2
              have hji2 : (j2 : Int) < ln := by omega
              have hji3 : (j2 : Int) ≤ 30 := by omega
              have HJL : Hid (j2 < ln) := Lib.hid hjl2
              clear hj2 hjl2
              go_upto_region 45 with (fail)
              go_quiet (fail)
              go_wp2
              go_roundw
              case rel => exact ⟨j2 + 1, by have := HJL.out; omega, by go_num, grown_drew HGX2.out _⟩
              case measure => have := HJL.out; simp [intOf]; omega
            · obtain rfl : j2 = ln := by omega
              have hji2 : ¬ (j2 : Int) < j2 := by omega
              have HGL := Lib.hid (grown_trans HG7.out HGX2.out)
              clear hj2 hjl2
              go_wp2_with fail
              obtain ⟨w10, rfl⟩ : ∃ w10 : World, w10 = wr := ⟨_, rfl⟩
              go_loopw [188] (fun i wx => ∃ j : Nat, j ≤ len1 ∧ i = .int .i64 j ∧ w10.grownBy wx none) (fun i _ => len1 - (intOf i).toNat)
              case atStart => exact ⟨0, by omega, rfl, grown_refl _ _⟩
              case round =>
                obtain ⟨j3, hj3, rfl, hgx⟩ := hrel
                have HGX3 := Lib.hid hgx
                clear hgx
                by_cases hjl3 : j3 < len1
                · obtain ⟨b1, o1, hA1, -, hc1⟩ := HI.out.1.resolve_left (by omega)
                  subst hA1
                  have HG3 := Lib.hid (grown_trans HGL.out HGX3.out)
                  have c1 := HG3.out.cell (HALL.out.cell (hc1 j3 hjl3) (by simp)) (by simp)
                  obtain ⟨ka, hka⟩ : ∃ ka, f1 j3 = ka := ⟨_, rfl⟩
                  rw [hka] at c1
                  obtain ⟨f, hf1, hf2⟩ := both_fault HQ.out ka
                  have HF1 := Lib.hid hf1
                  have HF2 := Lib.hid hf2
                  have hji : (j3 : Int) < len1 := by omega
                  have HJL : Hid (j3 < len1) := Lib.hid hjl3
                  clear hf1 hf2 hka hc1 hj3 hjl3
                  by_cases h8 : j3 < 8
                  · have e8 : decide ((j3 : Int) < 8) = true := decide_eq_true (by omega)
                    clear h8
                    go_wp2_with fail
                    refine (HF1.out _ HG3.out).mono ?_
                    rintro e w11 ⟨rfl, m11⟩
                    have HG11 := Lib.hid (grown_trans HG3.out m11)
                    have HX11 := Lib.hid (grown_trans HGX3.out m11)
                    clear m11
                    go_wp2_with fail
                    refine (HF2.out _ HG11.out).mono ?_
                    rintro e w12 ⟨rfl, m12⟩
                    have HX12 := Lib.hid (grown_trans HX11.out m12)
                    clear m12
                    go_wp2
                    go_roundw
                    case rel => exact ⟨j3 + 1, by have := HJL.out; omega, by go_num, HX12.out⟩
                    case measure => have := HJL.out; simp [intOf]; omega
                  · have e8 : decide ((j3 : Int) < 8) = false := decide_eq_false (by omega)
                    clear h8
                    go_wp2
                    go_roundw
                    case rel => exact ⟨j3 + 1, by have := HJL.out; omega, by go_num, HGX3.out⟩
                    case measure => have := HJL.out; simp [intOf]; omega
                · obtain rfl : j3 = len1 := by omega
                  have hji : ¬ (j3 : Int) < j3 := by omega
                  have HGF := Lib.hid (grown_trans HALL.out (grown_trans HGL.out HGX3.out))
                  clear hj3 hjl3
                  go_wp2_with fail
                  refine (HAW.out _).mono ?_
                  rintro e w11 ⟨rfl, m11⟩
                  have HE := Lib.hid (grown_trans HGF.out m11)
                  clear m11
                  go_wp2
                  go_ret
                  exact ⟨rfl, HE.out⟩
end Go.Proofs.YtgnfcklippjeeaaGreat
