/- The walk of RegionApart. -/
import Derived.Test.YtgnfcklippjeeaaGreatTP
import Derived.Test.YtgnfcklippjeeaaGreatVB
import Derived.Test.YtgnfcklippjeeaaGreatVF
import Derived.Test.YtgnfcklippjeeaaGreatVG
import Derived.Deep.RegionHeld3
import Derived.Deep.RegionLaw
import Derived.Deep.DeepCutAuto
namespace Go.Proofs.YtgnfcklippjeeaaGreat
open Go.RowKit

/-- The pair while live blocks are written. -/
structure Wrt (w w7 wr : World) (A : Rp) (D : Dp) (L : List Pc) (pp m n cnt : Nat) (T : Nat → Nat) (V : St) : Prop where
  pr : PrAt w wr A D T V V cnt pp
  m : V.m = m
  n : V.n = n
  wh : V.Whole
  lv : ∀ q, q ∈ L → Lv V q
  fr : Fr (fun i => i = A.qa ∨ i = D.p) w7 wr
set_option maxRecDepth 100000 in
set_option maxHeartbeats 8000000 in
theorem regionApart_walk (k0 s : Nat) (hk0 : k0 < 256) (A0 : Option Addr) (len cap : Nat) (O : Nat → Lop) (bA : Option Addr) (bl bc : Nat) (bS : Nat → Nat) (w : World) (hlen : len ≤ 9223372036854775807) (hO : LopsAt w A0 len O) (hbc : bl ≤ bc) (hbl : bl ≤ 9223372036854775807) (hb : ByArg w bA bl bS) (hbS : ∀ i, bS i < 256) :
    Calls Tryz.prog 3 #[.int .u8 k0, .int .u64 s, .slice A0 len cap, .slice bA bl bc] w fun e w' => e = .returned (.bool true) ∧ w.grownBy w' none := by
  obtain ⟨m, hm⟩ : ∃ m : Nat, 1 + k0 % 9 = m := ⟨_, rfl⟩
  have hmb : 1 ≤ m ∧ m ≤ 9 := by omega
  have e1 : ((k0 : Nat) : Int) % 9 = ((m - 1 : Nat) : Int) := by omega
  have e2 : IntKind.i64.wrap (1 + ((m - 1 : Nat) : Int)) = (m : Int) := by rw [IntKind.wrap_i64]; omega
  have HMK : Hid (∀ W : World, Calls Tryz.prog 10 #[.int .i64 m, .int .i64 2, .int .u64 s] W fun e w' => ∃ A D T pp, e = .returned (.pointer (some ⟨pp, 0, none⟩)) ∧ PrAt W w' A D T (St.new m (m + 2) (keyOf s)) (St.new m (m + 2) (keyOf s)) 0 pp ∧ W.heap.size ≤ pp) := Lib.hid (fun W => make9_at (m := m) (M := 2) s W (by omega) (by omega))
  have HO := Lib.hid hO
  have HBB := Lib.hid (And.intro hbc (And.intro hbl (And.intro hb hbS)))
  have HMB := Lib.hid hmb
  have hli : (len : Int) ≤ 9223372036854775807 := by omega
  have HLI := Lib.hid hlen
  obtain ⟨m1, hm1⟩ : ∃ m1 : Int, ((m - 1 : Nat) : Int) = m1 := ⟨_, rfl⟩
  rw [hm1] at e1 e2
  clear hO hmb hm hm1 hlen hbc hbl hb hbS
  go_enter Tryz.func3, Tryz.ntmps3
  go_wp2_with fail
  refine (HMK.out _).mono ?_
  rintro e w1 ⟨A, D, T, pp, rfl, hpr, hpp⟩
  have HB1 : Hid (Both9 St.Whole w w1 pp m (m + 2) 0) := Lib.hid ⟨A, D, T, _, hpr, rfl, rfl, whole_new _ _ _⟩
  clear hpr hpp HMK e1 e2
  go_wp2_with fail
  obtain ⟨w2, hw2⟩ : ∃ w2 : World, w2 = w1 := ⟨_, rfl⟩
  clear hw2
  go_loopw [31] (fun i wr => ∃ k : Nat, k ≤ len ∧ k ≤ 30 ∧ i = .int .i64 k ∧ Both9 St.Whole w wr pp m (m + 2) k) (fun i _ => len - (intOf i).toNat)
  case atStart => exact ⟨0, by omega, by omega, rfl, HB1.out⟩
  case round =>
    obtain ⟨k, hk, hk30, rfl, hb⟩ := hrel
    have HB := Lib.hid hb
    clear hb
    by_cases hlt : k < len ∧ k < 30
    · obtain ⟨hlt, h30⟩ := hlt
      obtain ⟨b, off, hA0, hcl, hrow⟩ : ∃ b off, A0 = some ⟨b, off, none⟩ ∧ LCells wr b (off + k * 8) (O k) ∧ LRows w (O k) := by
        rcases HO.out with h0 | ⟨b, off, e, _, h⟩
        · omega
        · exact ⟨b, off, e, (h k hlt).1.grown HB.out.all, (h k hlt).2⟩
      subst hA0
      have HRW := Lib.hid hrow
      obtain ⟨t, ht⟩ : ∃ t, O k = t := ⟨_, rfl⟩
      rw [ht] at hcl HRW
      obtain ⟨c0, c1, c2, c3, c4, c5, c6, c7⟩ := hcl
      have hki : (k : Int) < len := by omega
      have hk30i : decide ((30 : Int) ≤ k) = false := decide_eq_false (by omega)
      have hk30n : decide (30 ≤ k) = false := decide_eq_false (by omega)
      have hk30b : (k : Int) ≤ 30 := by omega
      have HLT : Hid (k < len ∧ k < 30) := Lib.hid ⟨hlt, h30⟩
      clear ht hrow hk hlt h30 hk30
      have HG1 : Hid (wr.grownBy (wr.alloc (.cells #[.int .i64 t.k, .int .i64 t.c, .int .i64 t.o, .int .i64 t.p, .int .i64 t.a, .int .i64 t.n, .bool t.b, .slice t.bA t.bl t.bc] 28)) none) := Lib.hid (grown_alloc _ _ _)
      have HST : Hid (Calls Tryz.prog 11 #[.pointer (some ⟨pp, 0, none⟩), t.v, .bool false] (wr.alloc (.cells #[.int .i64 t.k, .int .i64 t.c, .int .i64 t.o, .int .i64 t.p, .int .i64 t.a, .int .i64 t.n, .bool t.b, .slice t.bA t.bl t.bc] 28)) fun e w' => e = .returned (.bool true) ∧ Both9 St.Whole w w' pp m (m + 2) (k + 1)) :=
        Lib.hid (both9_step keeps_whole (HB.out.grown HG1.out) (by have := HLT.out; omega) HRW.out false (.inl rfl))
      have HBG := Lib.hid (HB.out.grown HG1.out)
      unfold Lop.v opV at HST
      go_upto_region 9 with (fail)
      go_cut [46] from 32 to 146 (fun s wx => s = .bool false ∧ Both9 St.Whole w wx pp m (m + 2) (k + 1))
      case first =>
        by_cases h8 : t.k = 8
        · have d : (t.k != 8) = false := by simp [h8]
          have HX : Hid (Both9 St.Whole w (wr.alloc (.cells #[.int .i64 t.k, .int .i64 t.c, .int .i64 t.o, .int .i64 t.p, .int .i64 t.a, .int .i64 t.n, .bool t.b, .slice t.bA t.bl t.bc] 28)) pp m (m + 2) (k + 1)) := Lib.hid (by
            obtain ⟨A, D, T, V, h1, h2⟩ := HBG.out
            exact ⟨A, D, T, V, h1.mono (by omega), h2⟩)
          clear h8 HST
          go_wp2
          go_meet
          exact ⟨rfl, HX.out⟩
        · have d : (t.k != 8) = true := by simpa using h8
          clear h8
          go_wp2_with fail
          refine HST.out.mono ?_
          rintro e w3 ⟨rfl, hb⟩
          have HBN := Lib.hid hb
          clear hb
          go_wp2
          go_meet
          exact ⟨rfl, HBN.out⟩
      case rest =>
      obtain ⟨rfl, hb6⟩ := hcut
      obtain ⟨w6, rfl⟩ : ∃ w6 : World, w6 = wc := ⟨_, rfl⟩
      obtain ⟨A, D, T, V, hpr, hVm, hVn, hwh⟩ := hb6
      have HPR := Lib.hid hpr
      have q0 := hpr.c0
      have HVM := Lib.hid (And.intro hVm (And.intro hVn hwh))
      have HLV := Lib.hid (live9_at HPR.out.y.at_)
      have HMEM : Hid (∀ q, q ∈ lvL V V.m ↔ Lv V q) := Lib.hid (fun q => mem_live HPR.out.d.ok)
      have HLEN := Lib.hid (lvL_len HPR.out.d.ok V.m)
      obtain ⟨L, hL⟩ : ∃ L, lvL V V.m = L := ⟨_, rfl⟩
      rw [hL] at HLV HMEM HLEN
      clear hL hpr hVm hVn hwh c0 c1 c2 c3 c4 c5 c6 c7 HST HBG HG1 HRW HB
      go_wp2_with fail
      refine HLV.out.mono ?_
      rintro e w7 ⟨v7, rfl, g7, hown, -⟩
      obtain ⟨A1, cc, rfl, hcc⟩ := bown_shape hown
      have HEL := Lib.hid (pown_elems hown)
      have HW7 : Hid (Wrt w w7 w7 A D L pp m (m + 2) (k + 1) T V) := Lib.hid ⟨HPR.out.grown g7, HVM.out.1, HVM.out.2.1, HVM.out.2.2, fun q hq => (HMEM.out q).1 hq, fr_refl _ _⟩
      have HAB : Hid (A.qa < w6.heap.size ∧ D.p < w6.heap.size ∧ w6.heap.size ≤ w7.heap.size) := Lib.hid ⟨HPR.out.y.at_.toRnW.may_lt (.inl rfl), HPR.out.d.toDrW.plt, g7.size⟩
      have HDQ : Hid (A.qa ≠ pp ∧ D.p ≠ pp) := Lib.hid ⟨fun e => by
        have h1 := HPR.out.any _ (Rp.any_may (i := A.qa) (.inl rfl))
        have h2 := HPR.out.tp
        rw [e] at h1; omega, fun e => by
        have h1 := HPR.out.d.tp
        have h2 := HPR.out.tp
        rw [e] at h1; omega⟩
      clear hown g7 HLV q0
      obtain ⟨nl, hnl⟩ : ∃ nl, L.length = nl := ⟨_, rfl⟩
      have HNL : Hid (L.length = nl ∧ nl ≤ 144) := Lib.hid ⟨hnl, by have := HLEN.out; have := HVM.out.1; have := HMB.out; omega⟩
      have hni : (nl : Int) ≤ 144 := by have := HNL.out; omega
      rw [hnl]
      rw [hnl] at hcc
      clear hnl HLEN hcc HMEM HPR HVM
      go_wp2_with fail
      go_loopw [53] (fun i wx => ∃ j : Nat, j ≤ nl ∧ i = .int .i64 j ∧ ∃ T' V', Wrt w w7 wx A D L pp m (m + 2) (k + 1) T' V') (fun i _ => nl - (intOf i).toNat)
      case atStart => exact ⟨0, by omega, rfl, T, V, HW7.out⟩
      case round =>
        obtain ⟨j, hj, rfl, T', V', hw⟩ := hrel
        have HW := Lib.hid hw
        clear hw
        by_cases hjl : j < nl
        · have hkl : j < L.length := by rw [HNL.out.1]; exact hjl
          obtain ⟨gq, rfl, hgb, hglt, hcl⟩ := HEL.out.resolve_left (by rw [HNL.out.1]; omega)
          have hnq : ¬ (gq = A.qa ∨ gq = D.p) := by have := HAB.out; omega
          have hji : (j : Int) < nl := by omega
          have hj144 : (j : Int) ≤ 144 := by omega
          obtain ⟨u0, u1, u2, u3, u4, u5⟩ := pcells_at L j hkl
          have c0 := HW.out.fr.cell (hcl _ _ u0) hnq
          have c1 := HW.out.fr.cell (hcl _ _ u1) hnq
          have c2 := HW.out.fr.cell (hcl _ _ u2) hnq
          have c3 := HW.out.fr.cell (hcl _ _ u3) hnq
          have c4 := HW.out.fr.cell (hcl _ _ u4) hnq
          have c5 := HW.out.fr.cell (hcl _ _ u5) hnq
          have hpl : Lv V' (L[j]'hkl) := HW.out.lv _ (List.getElem_mem hkl)
          obtain ⟨p, hp⟩ : ∃ p, L[j]'hkl = p := ⟨_, rfl⟩
          rw [hp] at c0 c1 c2 c3 c4 c5 hpl
          have HPL := Lib.hid hpl
          have HFIT := Lib.hid (hpl.fit HW.out.pr.d.ok)
          have HJ : Hid (j < nl) := Lib.hid hjl
          clear u0 u1 u2 u3 u4 u5 hcl hp hpl hjl hj hkl hgb hglt hnq
          obtain ⟨pb, hpb⟩ : ∃ pb, p.b = pb := ⟨_, rfl⟩
          obtain ⟨pz, hpz⟩ : ∃ pz, p.z = pz := ⟨_, rfl⟩
          have HPB := Lib.hid (And.intro hpb hpz)
          rw [hpb] at c2
          rw [hpz] at c3
          clear hpb hpz
          generalize ((p.g : Nat) : Int) = pg at *
          generalize ((p.k : Nat) : Int) = pk at *
          generalize ((p.st : Nat) : Int) = ps at *
          generalize p.gr = pr at *
          have HX := Lib.hid (sx_alloc wr (.int .i64 pg) (.int .i64 pk) (.int .i64 (pb : Nat)) (.int .i64 (pz : Nat)) (.int .i64 ps) (.bool pr) 37)
          have HGA := Lib.hid (grown_alloc wr (.cells #[.int .i64 pg, .int .i64 pk, .int .i64 (pb : Nat), .int .i64 (pz : Nat), .int .i64 ps, .bool pr] 37) none)
          have HQX : Hid (wr.heap.size ≠ A.qa ∧ wr.heap.size ≠ D.p) := Lib.hid (by have := HAB.out; have := HW.out.fr.size; omega)
          have HN64 : Hid (V'.n * 256 ≤ 65536 ∧ pb + pz ≤ V'.n * 256) := Lib.hid (by have := HW.out.pr.d.ok.n256; have := HFIT.out; have := HPB.out; have := HW.out.pr.d.ok.mn; omega)
          have HWG := Lib.hid (HW.out.pr.grown HGA.out)
          have q0 := HWG.out.c0
          have q1 := HWG.out.c1
          go_upto_region 14 with (fail)
          generalize wr.alloc (.cells #[.int .i64 pg, .int .i64 pk, .int .i64 (pb : Nat), .int .i64 (pz : Nat), .int .i64 ps, .bool pr] 37) = w8 at *
          generalize wr.heap.size = qx at *
          have x2 := HX.out.2.2.1
          have x3 := HX.out.2.2.2.1
          clear c0 c1 c2 c3 c4 c5
          go_upto_if 62 with (fail)
          go_cut [15] from 54 to 98 (fun s wx => wx = w8 ∧ ∃ M : Nat, M ≤ pz ∧ M ≤ bl ∧ s = .slice bA M bc)
          case first =>
            by_cases hz : pz < bl
            · have d1 : decide ((pz : Int) < bl) = true := decide_eq_true (by omega)
              have d2 : decide (pz < bl) = true := decide_eq_true hz
              obtain ⟨xb, xo, hbA, -⟩ := HBB.out.2.2.1.resolve_left (by omega)
              subst hbA
              have d3 : (pz : Int) ≤ bc := by have := HBB.out.1; omega
              have d4 : pz ≤ bc := by have := HBB.out.1; omega
              have HZ : Hid (pz ≤ bl) := Lib.hid (by omega)
              go_wp2
              go_meet
              exact ⟨rfl, pz, Nat.le_refl _, HZ.out, rfl⟩
            · have d1 : decide ((pz : Int) < bl) = false := decide_eq_false (by omega)
              have d2 : decide (pz < bl) = false := decide_eq_false hz
              have HZ : Hid (bl ≤ pz) := Lib.hid (by omega)
              go_wp2
              go_meet
              exact ⟨rfl, bl, HZ.out, Nat.le_refl _, rfl⟩
          case rest =>
          obtain ⟨hwc, M, hM1, hM2, rfl⟩ := hcut
          subst hwc
          have HMM : Hid (M ≤ pz ∧ M ≤ bl) := Lib.hid ⟨hM1, hM2⟩
          clear hM1 hM2
          have HBY : Hid (∀ W, w.grownBy W none → M = 0 ∨ ∃ b off, bA = some ⟨b, off, none⟩ ∧ ∀ i, i < M → W.cell? ⟨b, off + i, none⟩ = some (.int .u8 (bS i : Nat))) := Lib.hid (fun W g => by
            rcases HBB.out.2.2.1 with h | ⟨b, off, e, _, h⟩
            · exact .inl (by have := HMM.out; omega)
            · exact .inr ⟨b, off, e, fun i hi => g.cell (h i (by have := HMM.out; omega)) (by simp)⟩)
          have HSTO : Hid (∀ W, wc.grownBy W none → Calls Tryz.prog 14 #[.pointer (some ⟨A.pa, 0, none⟩), .int .i64 (pb : Nat), .slice bA M bc] W fun e w' => e = .returned (.int .i64 0) ∧ An.ArAt w' A.pa A.qa (V'.n * 256) A.acap (Ar.setB V'.B pb M bS) none ∧ W.grownBy w' (some A.qa)) := Lib.hid (fun W g =>
            An.store_good (HWG.out.grown g).y.at_.ar pb M bc bA bS (by have := HMM.out; have := HN64.out; omega) HBB.out.2.2.2 (HBY.out W (HWG.out.grown g).y.all))
          have HAR := Lib.hid (fun W (g : wc.grownBy W none) => arena_at (HWG.out.grown g).y.at_.toRnW)
          have hg1 := grown_drew1 (grown_refl wc none)
          go_upto_region 17 with (fail)
          go_region_held3 (fun w' => w'.cell? ⟨pp, 0, none⟩ = some (.pointer (some ⟨A.p, 0, none⟩)) ∧ w'.cell? ⟨qx, 2, none⟩ = some (.int .i64 (pb : Nat)))
            (first | exact ⟨q0, x2⟩ | exact HS6.out)
            (first
            | (go_at_call 13; refine (HAR.out _ (by assumption)).mono ?_; rintro e w9 ⟨rfl, hw9⟩; subst hw9)
            | (go_at_call 14; refine (HSTO.out _ (by assumption)).mono ?_; rintro e w9 ⟨rfl, har, hgs⟩; have HG9 := Lib.hid (by assumption : wc.grownBy _ none); have HS6 : Hid (w9.cell? ⟨pp, 0, none⟩ = some (.pointer (some ⟨A.p, 0, none⟩)) ∧ w9.cell? ⟨qx, 2, none⟩ = some (.int .i64 (pb : Nat))) := Lib.hid ⟨hgs.cell (HG9.out.cell q0 (by simp)) (by have := HDQ.out; simpa using fun e => this.1 e.symm), hgs.cell (HG9.out.cell x2 (by simp)) (by have := HQX.out; simpa using this.1)⟩; have HS9 := Lib.hid (pr_store (HWG.out.grown HG9.out) har hgs HBB.out.2.2.2); have HF9 : Hid (Fr (fun i => i = A.qa ∨ i = D.p) w7 w9) := Lib.hid (((HW.out.fr.trans (fr_none HGA.out)).trans (fr_none HG9.out)).trans (fr_some hgs (fun _ => .inl rfl))); clear har hgs))
          all_goals
            obtain ⟨p0, p2⟩ := HS6.out
            have p1 := HS9.out.c1
            obtain ⟨qd, cd, e1, e2, e3, -⟩ := HS9.out.d.bt
            have HBT := Lib.hid (And.intro e2 e3)
            obtain ⟨T9, HS9⟩ : ∃ T9, Hid (PrAt w w9 A D T9 (V'.write pb M bS) V' (k + 1) pp) := ⟨_, HS9⟩
            clear e2 e3
            obtain ⟨N, hN⟩ : ∃ N, V'.n * 256 = N := ⟨_, rfl⟩
            rw [hN] at e1 HBT HN64
            have HNN := Lib.hid hN
            have hN64 : N ≤ 65536 := HN64.out.1
            have hNi : (N : Int) ≤ 65536 := by omega
            clear hN
            obtain ⟨i0, hi, hz0, hz1, hz2⟩ := info_parts An.infoByte
            have e1' := (grown_alloc w9 (.cells #[] 5) none).cell e1 (by simp)
            have p1' := (grown_alloc w9 (.cells #[] 5) none).cell p1 (by simp)
            have p2' := (grown_alloc w9 (.cells #[] 5) none).cell p2 (by simp)
            clear q0 q1 x2 x3
            go_wp2_with (at_builtin; refine wpList_append_own _ rfl _ _ 24 rfl w9.heap.size 5 i0 (.int .u8 0) 1 1 Tryz.underlying24 hi hz0 hz1 hz2 rfl (by decide) _ _ _ rfl (World.ownsRow_made w9 #[] 0 (Nat.le_refl _) (Nat.zero_le _) rfl) ⟨qd, 0, none⟩ N cd (An.bvals V'.B N) rfl ?c1 ?c2 ?c3 ?c4 ?c5 ?c6 ?_)
            case c1 => rw [An.bvals_length, Nat.mul_one]
            case c2 =>
              intro u v hv
              have hv' : u < N := by
                have := (List.getElem?_eq_some_iff.1 hv).1
                rwa [An.bvals_length] at this
              rw [An.bvals_at V'.B N u hv'] at hv
              have h2 := (grown_alloc w9 (.cells #[] 5) none).cell (HBT.out.2.c u hv') (by simp)
              rw [← hv, An.aaddr_add]
              exact h2
            case c3 => exact An.bvals_one V'.B N
            case c4 => simp only [maxLen]; omega
            case c5 => omega
            case c6 => simp
            intro v' w10 hown hgrow hiff
            have hv : v' ≠ .slice none 0 0 := fun e => hiff e
            obtain ⟨qn, cn, rfl, k1, k2, k3, k4⟩ := An.bytesNew_val (An.bytes_end w9 w10 N V'.B v' (by simpa using hown) (grown_own (grown_alloc w9 _ none) hgrow (Nat.le_refl _)) hv)
            clear hown hgrow hiff hv hi hz0 hz1 hz2
            obtain ⟨w11, hrun, hb11, hg11⟩ := An.copy_run2 k3 pb (N - pb) M (cn - pb) (by have := HMM.out; have := HN64.out; omega) (by have := HMM.out; have := HN64.out; omega) bS bA bc (HBY.out w10 (grown_trans HS9.out.y.all k4))
            have hrun := hrun 3
            have HK := Lib.hid (And.intro k1 (And.intro k2 (And.intro hb11 (grown_own k4 hg11 k2))))
            have hpbN : (pb : Int) ≤ N := by have := HN64.out; omega
            have hpb64 : (pb : Int) ≤ 65536 := by omega
            have hNc : (N : Int) ≤ cn := by omega
            have hca : ¬ cn = pb := by have := HN64.out; have := HFIT.out; have := HPB.out; omega
            have r1 := k4.cell p1 (by simp)
            have r2 := k4.cell p2 (by simp)
            have s1 := HK.out.2.2.2.cell p1 (by simp)
            have s2 := HK.out.2.2.2.cell e1 (by simp)
            have zD : w11.frozen? ⟨D.p, 2, none⟩ = false := by rw [World.frozen?_of_block (w := w9) (HK.out.2.2.2.block D.p HS9.out.d.toDrW.plt (by simp))]; exact HS9.out.d.fz 2
            have HDS : Hid (PrAt w (w11.setCell ⟨D.p, 2, none⟩ (.slice (some ⟨qn, 0, none⟩) N cn)) A D (relab T9 w9.heap.size) (V'.write pb M bS) { V' with B := Ar.setB V'.B pb M bS } (k + 1) pp) := Lib.hid (by
              have hh := HK.out
              rw [← HNN.out] at hh ⊢
              exact pr_dstore HS9.out hh.2.2.2 hh.2.2.1 hh.1 hh.2.1 (fun i => Ar.setB_lt HW.out.pr.d.ok.lt HBB.out.2.2.2 _ _ _))
            have HWN : Hid (∃ T2 V2, Wrt w w7 (w11.setCell ⟨D.p, 2, none⟩ (.slice (some ⟨qn, 0, none⟩) N cn)) A D L pp m (m + 2) (k + 1) T2 V2) := Lib.hid ⟨_, V'.write pb M bS, HDS.out, HW.out.m, HW.out.n, by
                have := St.Whole.write HW.out.pr.d.ok HW.out.wh HPL.out (m := M) (W := bS) (by have := HMM.out; have := HPB.out; omega)
                rw [HPB.out.1] at this
                exact this, fun q hq => (lv_write q).2 (HW.out.lv q hq), (HF9.out.trans (fr_none HK.out.2.2.2)).trans (fr_some (An.agrown_set w11 D.p 2 _) (fun _ => .inr rfl))⟩
            clear k1 k2 k3 k4 hb11 hg11 HDS
            go_wp2
            go_roundw
            case rel => exact ⟨j + 1, by have := HJ.out; omega, by go_num, HWN.out⟩
            case measure => have := HJ.out; simp [intOf]; omega
        · obtain rfl : j = nl := by omega
          have hji : ¬ (j : Int) < j := by omega
          have q0 := HW.out.pr.c0
          have HLV := Lib.hid (live9_at HW.out.pr.y.at_)
          have HAP := Lib.hid (lvL_apart HW.out.pr.d.ok)
          have HMEM : Hid (∀ q, q ∈ lvL V' V'.m → Lv V' q) := Lib.hid (fun q => (mem_live HW.out.pr.d.ok).1)
          have HLEN := Lib.hid (lvL_len HW.out.pr.d.ok V'.m)
          obtain ⟨L2, hL⟩ : ∃ L2, lvL V' V'.m = L2 := ⟨_, rfl⟩
          rw [hL] at HLV HMEM HLEN HAP
          clear hL hj hjl HEL
          have f3 : IntKind.i64.wrap (256 * (m : Int)) = ((256 * m : Nat) : Int) := by have := HMB.out; rw [IntKind.wrap_i64]; omega
          obtain ⟨M, hM⟩ : ∃ M : Nat, 256 * m = M := ⟨_, rfl⟩
          rw [hM] at f3
          have HM : Hid (M = V'.m * 256 ∧ M ≤ 2304) := Lib.hid (by have := HW.out.m; have := HMB.out; omega)
          clear hM
          go_wp2_with fail
          refine HLV.out.mono ?_
          rintro e w12 ⟨v12, rfl, g12, hown, -⟩
          obtain ⟨A2, c2, rfl, hcc⟩ := bown_shape hown
          have HEL := Lib.hid (pown_elems hown)
          have HG12 := Lib.hid g12
          clear hown g12 HLV q0
          obtain ⟨n2, hn2⟩ : ∃ n2, L2.length = n2 := ⟨_, rfl⟩
          have HN2 : Hid (L2.length = n2 ∧ n2 ≤ 144) := Lib.hid ⟨hn2, by have := HLEN.out; have := HW.out.m; have := HMB.out; omega⟩
          have hni2 : (n2 : Int) ≤ 144 := by have := HN2.out; omega
          rw [hn2]
          rw [hn2] at hcc
          clear hn2 HLEN hcc
          go_wp2_with fail
          go_loopw [17, 105] (fun e i wx => ∃ j2 : Nat, j2 ≤ n2 ∧ i = .int .i64 j2 ∧ w12.grownBy wx none ∧ ∃ ev : Nat, e = .int .i64 ev ∧ ∀ q, q ∈ L2.drop j2 → ev ≤ q.b) (fun _ i _ => n2 - (intOf i).toNat)
          case atStart => exact ⟨0, by omega, rfl, grown_refl _ _, 0, rfl, fun _ _ => Nat.zero_le _⟩
          case round =>
            obtain ⟨j2, hj2, rfl, hg2, ev, rfl, hev⟩ := hrel
            have HG2 := Lib.hid hg2
            have HEV := Lib.hid hev
            clear hg2 hev
            by_cases hjl2 : j2 < n2
            · have hkl : j2 < L2.length := by rw [HN2.out.1]; exact hjl2
              obtain ⟨gq, rfl, hgb, hglt, hcl⟩ := HEL.out.resolve_left (by rw [HN2.out.1]; omega)
              have hji2 : (j2 : Int) < n2 := by omega
              have hj144 : (j2 : Int) ≤ 144 := by omega
              obtain ⟨u0, u1, u2, u3, u4, u5⟩ := pcells_at L2 j2 hkl
              have c0 := HG2.out.cell (hcl _ _ u0) (by simp)
              have c1 := HG2.out.cell (hcl _ _ u1) (by simp)
              have c2 := HG2.out.cell (hcl _ _ u2) (by simp)
              have c3 := HG2.out.cell (hcl _ _ u3) (by simp)
              have c4 := HG2.out.cell (hcl _ _ u4) (by simp)
              have c5 := HG2.out.cell (hcl _ _ u5) (by simp)
              have hfit := (HMEM.out _ (List.getElem_mem hkl)).fit HW.out.pr.d.ok
              have hevp := HEV.out (L2[j2]'hkl) (by rw [List.drop_eq_getElem_cons hkl]; exact List.mem_cons_self)
              have HAFT : Hid (∀ q, q ∈ L2.drop (j2 + 1) → (L2[j2]'hkl).b + (L2[j2]'hkl).z ≤ q.b) := Lib.hid (fun q hq => drop_after HAP.out hkl hq)
              obtain ⟨p, hp⟩ : ∃ p, L2[j2]'hkl = p := ⟨_, rfl⟩
              rw [hp] at c0 c1 c2 c3 c4 c5 hfit hevp HAFT
              have HJ : Hid (j2 < n2) := Lib.hid hjl2
              clear u0 u1 u2 u3 u4 u5 hcl hp hjl2 hj2 hkl hgb hglt
              obtain ⟨pb, hpb⟩ : ∃ pb, p.b = pb := ⟨_, rfl⟩
              obtain ⟨pz, hpz⟩ : ∃ pz, p.z = pz := ⟨_, rfl⟩
              obtain ⟨f1, f2, f4, f5, f6⟩ := hfit
              rw [f4] at c4
              rw [hpb] at c2 f1 f2 hevp HAFT
              rw [hpz] at c3 f2 f5 HAFT
              have hmm := HM.out
              obtain ⟨e2, he2⟩ : ∃ e2, pb + pz = e2 := ⟨_, rfl⟩
              rw [he2] at f2 HAFT
              have d1 : decide ((pb : Int) < (ev : Int)) = false := decide_eq_false (by omega)
              have d2 : decide (pb < ev) = false := decide_eq_false (by omega)
              have d3 : ((pb : Nat) : Int) % 16 = 0 := by omega
              have d4 : IntKind.i64.wrap ((pb : Int) + (pz : Int)) = (e2 : Int) := by rw [IntKind.wrap_i64]; omega
              have d5 : decide ((M : Int) < (e2 : Int)) = false := decide_eq_false (by omega)
              have d6 : decide (M < e2) = false := decide_eq_false (by omega)
              generalize ((p.g : Nat) : Int) = pg at *
              generalize ((p.k : Nat) : Int) = pk at *
              generalize p.gr = pr at *
              clear hpb hpz f1 f2 f4 f5 f6 he2 hevp hmm
              have HGA := Lib.hid (grown_trans HG2.out (grown_alloc wr (.cells #[.int .i64 pg, .int .i64 pk, .int .i64 (pb : Nat), .int .i64 (pz : Nat), .int .i64 1, .bool pr] 37) none))
              have hx := sx_alloc wr (.int .i64 pg) (.int .i64 pk) (.int .i64 (pb : Nat)) (.int .i64 (pz : Nat)) (.int .i64 1) (.bool pr) 37
              obtain ⟨x0, x1, x2, x3, x4, x5⟩ := hx
              go_wp2
              go_roundw
              case rel => exact ⟨j2 + 1, by have := HJ.out; omega, by go_num, HGA.out, e2, rfl, HAFT.out⟩
              case measure => have := HJ.out; simp [intOf]; omega
            · obtain rfl : j2 = n2 := by omega
              have hji2 : ¬ (j2 : Int) < j2 := by omega
              have HPE := Lib.hid ((HW.out.pr.grown HG12.out).grown HG2.out)
              have q2 := HPE.out.c0
              have HCK := Lib.hid (rcheck_at HPE.out.y.at_ HW.out.wh)
              clear hj2 hjl2
              go_wp2_with fail
              refine HCK.out.mono ?_
              rintro e w13 ⟨rfl, m13⟩
              have HPF := Lib.hid (HPE.out.grown m13)
              clear m13
              go_wp2
              go_roundw
              case rel => exact ⟨k + 1, by have := HLT.out; omega, by have := HLT.out; omega, by go_num, A, D, T', V', HPF.out, HW.out.m, HW.out.n, HW.out.wh⟩
              case measure => have := HLT.out; simp [intOf]; omega
    · have HAW := Lib.hid (fun W => awake9_at W)
      have HALL := Lib.hid HB.out.all
      by_cases hkl : k < len
      · obtain rfl : k = 30 := by omega
        obtain ⟨b, off, hA0, hcl⟩ : ∃ b off, A0 = some ⟨b, off, none⟩ ∧ LCells wr b (off + 30 * 8) (O 30) := by
          rcases HO.out with h0 | ⟨b, off, e, _, h⟩
          · omega
          · exact ⟨b, off, e, (h 30 hkl).1.grown HB.out.all⟩
        subst hA0
        obtain ⟨t, ht⟩ : ∃ t, O 30 = t := ⟨_, rfl⟩
        rw [ht] at hcl
        obtain ⟨c0, c1, c2, c3, c4, c5, c6, c7⟩ := hcl
        have hki : (30 : Int) < len := by omega
        have hkn : 30 < len := hkl
        have HGA := Lib.hid (grown_trans HALL.out (grown_alloc wr (.cells #[.int .i64 t.k, .int .i64 t.c, .int .i64 t.o, .int .i64 t.p, .int .i64 t.a, .int .i64 t.n, .bool t.b, .slice t.bA t.bl t.bc] 28) none))
        clear ht hk hlt
        go_wp2_with fail
        refine (HAW.out _).mono ?_
        rintro e w8 ⟨rfl, m8⟩
        have HE := Lib.hid (grown_trans HGA.out m8)
        clear m8
        go_wp2
        go_ret
        exact ⟨rfl, HE.out⟩
      · obtain rfl : k = len := by omega
        have hki : ¬ (k : Int) < k := by omega
        clear hk hlt hkl
        go_wp2_with fail
        refine (HAW.out _).mono ?_
        rintro e w8 ⟨rfl, m8⟩
        have HE := Lib.hid (grown_trans HALL.out m8)
        clear m8
        go_wp2
        go_ret
        exact ⟨rfl, HE.out⟩
end Go.Proofs.YtgnfcklippjeeaaGreat
