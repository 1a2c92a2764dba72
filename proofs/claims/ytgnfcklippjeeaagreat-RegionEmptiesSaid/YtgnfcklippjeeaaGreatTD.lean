/- The walk of RegionEmpties. -/
import Derived.Test.YtgnfcklippjeeaaGreatTB
import Derived.Test.YtgnfcklippjeeaaGreatVB
import Derived.Test.YtgnfcklippjeeaaGreatVD
import Derived.Deep.RegionHeld3
import Derived.Deep.RegionLaw
import Derived.Deep.DeepCutAuto
namespace Go.Proofs.YtgnfcklippjeeaaGreat
open Go.RowKit

/-- Both gone on: less than the state V is there. -/
structure Went (w0 w4 wr : World) (A : Rp) (V V' : St) (cnt : Nat) : Prop where
  y : RnY w0 wr A V' cnt
  m : V'.m = V.m
  n : V'.n = V.n
  low : V'.Low
  may : ∀ i, A.may V'.L i → A.may V.L i
  fr : Fr (A.may V.L) w4 wr
theorem Went.next {w0 w4 wr w' : World} {A : Rp} {V V' V2 : St} {cnt : Nat} (h : Went w0 w4 wr A V V' cnt) (k : Less w0 wr w' A V' V2 cnt) : Went w0 w4 w' A V V2 cnt :=
  ⟨k.y, k.m.trans h.m, k.n.trans h.n, k.low h.low, fun i hi => h.may i (k.may i hi), h.fr.trans (k.fr.wide (fun i hi => h.may i hi))⟩
theorem Went.grown {w0 w4 wr w' : World} {A : Rp} {V V' : St} {cnt : Nat} (h : Went w0 w4 wr A V V' cnt) (g : wr.grownBy w' none) : Went w0 w4 w' A V V' cnt :=
  ⟨h.y.grown g, h.m, h.n, h.low, h.may, h.fr.trans (fr_none g)⟩
theorem drop_mem {L : List Pc} (hL : L.Pairwise (fun p q => p.b < q.b)) {k : Nat} (hk : k < L.length) (q : Pc) : (q ∈ L.drop k ∧ q.b ≠ L[k].b) ↔ q ∈ L.drop (k + 1) := by
  have hd : L.drop k = L[k] :: L.drop (k + 1) := List.drop_eq_getElem_cons hk
  have hp : (L.drop k).Pairwise (fun p q => p.b < q.b) := hL.sublist (List.drop_sublist k L)
  rw [hd] at hp ⊢
  have hlt := (List.pairwise_cons.1 hp).1
  constructor
  · rintro ⟨h1, h2⟩
    rcases List.mem_cons.1 h1 with rfl | h
    · exact absurd rfl h2
    · exact h
  · intro h
    exact ⟨List.mem_cons_of_mem _ h, by have := hlt q h; omega⟩
set_option maxRecDepth 100000 in
set_option maxHeartbeats 8000000 in
theorem regionEmpties_walk (k0 s : Nat) (hk0 : k0 < 256) (A0 : Option Addr) (len cap : Nat) (O : Nat → Lop) (w : World) (hlen : len ≤ 9223372036854775807) (hO : LopsAt w A0 len O) :
    Calls Tryz.prog 4 #[.int .u8 k0, .int .u64 s, .slice A0 len cap] w fun e w' => e = .returned (.bool true) ∧ w.grownBy w' none := by
  obtain ⟨m, hm⟩ : ∃ m : Nat, 1 + k0 % 9 = m := ⟨_, rfl⟩
  have hmb : 1 ≤ m ∧ m ≤ 9 := by omega
  have e1 : ((k0 : Nat) : Int) % 9 = ((m - 1 : Nat) : Int) := by omega
  have e2 : IntKind.i64.wrap (1 + ((m - 1 : Nat) : Int)) = (m : Int) := by rw [IntKind.wrap_i64]; omega
  have HMK : Hid (∀ W : World, Calls Tryz.prog 10 #[.int .i64 m, .int .i64 1, .int .u64 s] W fun e w' => ∃ A D T pp, e = .returned (.pointer (some ⟨pp, 0, none⟩)) ∧ PrAt W w' A D T (St.new m (m + 1) (keyOf s)) (St.new m (m + 1) (keyOf s)) 0 pp ∧ W.heap.size ≤ pp) := Lib.hid (fun W => make9_at (m := m) (M := 1) s W (by omega) (by omega))
  have HO := Lib.hid hO
  have HMB := Lib.hid hmb
  have hli : (len : Int) ≤ 9223372036854775807 := by omega
  have HLI := Lib.hid hlen
  obtain ⟨m1, hm1⟩ : ∃ m1 : Int, ((m - 1 : Nat) : Int) = m1 := ⟨_, rfl⟩
  rw [hm1] at e1 e2
  clear hO hmb hm hm1 hlen
  go_enter Tryz.func4, Tryz.ntmps4
  go_wp2_with fail
  refine (HMK.out _).mono ?_
  rintro e w1 ⟨A, D, T, pp, rfl, hpr, hpp⟩
  have HB1 := Lib.hid (both9_new hpr)
  clear hpr hpp HMK e1 e2
  go_wp2_with fail
  obtain ⟨w2, hw2⟩ : ∃ w2 : World, w2 = w1 := ⟨_, rfl⟩
  clear hw2
  go_loopw [29] (fun i wr => ∃ k : Nat, k ≤ len ∧ i = .int .i64 k ∧ ∃ cnt, cnt ≤ 30 ∧ cnt ≤ k ∧ Both9 St.Low w wr pp m (m + 1) cnt) (fun i _ => len - (intOf i).toNat)
  case atStart => exact ⟨0, by omega, rfl, 0, by omega, by omega, HB1.out⟩
  case round =>
    obtain ⟨k, hk, rfl, cnt, hc1, hc2, hb⟩ := hrel
    have HB := Lib.hid hb
    have HKK := Lib.hid (And.intro hk (And.intro hc1 hc2))
    clear hb
    by_cases hlt : k < len
    · obtain ⟨b, off, hA0, hcl⟩ : ∃ b off, A0 = some ⟨b, off, none⟩ ∧ LCells wr b (off + k * 8) (O k) ∧ LRows w (O k) := by
        rcases HO.out with h0 | ⟨b, off, e, _, h⟩
        · omega
        · exact ⟨b, off, e, (h k hlt).1.grown HB.out.all, (h k hlt).2⟩
      subst hA0
      obtain ⟨hcl, hrow⟩ := hcl
      have HRW := Lib.hid hrow
      obtain ⟨t, ht⟩ : ∃ t, O k = t := ⟨_, rfl⟩
      rw [ht] at hcl HRW
      obtain ⟨c0, c1, c2, c3, c4, c5, c6, c7⟩ := hcl
      have hki : (k : Int) < len := by omega
      clear ht hrow hk hc1 hc2
      have HG1 : Hid (wr.grownBy (wr.alloc (.cells #[.int .i64 t.k, .int .i64 t.c, .int .i64 t.o, .int .i64 t.p, .int .i64 t.a, .int .i64 t.n, .bool t.b, .slice t.bA t.bl t.bc] 28)) none) := Lib.hid (grown_alloc _ _ _)
      have HST : Hid (cnt ≤ 100000 → Calls Tryz.prog 11 #[.pointer (some ⟨pp, 0, none⟩), t.v, .bool false] (wr.alloc (.cells #[.int .i64 t.k, .int .i64 t.c, .int .i64 t.o, .int .i64 t.p, .int .i64 t.a, .int .i64 t.n, .bool t.b, .slice t.bA t.bl t.bc] 28)) fun e w' => e = .returned (.bool true) ∧ Both9 St.Low w w' pp m (m + 1) (cnt + 1)) :=
        Lib.hid (fun hc => both9_step keeps_low (HB.out.grown HG1.out) hc HRW.out false (.inl rfl))
      unfold Lop.v opV at HST
      by_cases h30 : k < 30
      · have d : decide ((k : Int) < 30) = true := decide_eq_true (by omega)
        have HS := Lib.hid (HST.out (by have := HKK.out; omega))
        have HLT : Hid (k < 30 ∧ k < len) := Lib.hid ⟨h30, hlt⟩
        clear HST h30 hlt
        go_wp2_with fail
        refine HS.out.mono ?_
        rintro e w3 ⟨rfl, hb⟩
        have HBN := Lib.hid hb
        clear hb
        go_wp2
        go_roundw
        case rel => exact ⟨k + 1, by have := HLT.out; omega, by go_num, cnt + 1, by have := HLT.out; have := HKK.out; omega, by have := HKK.out; omega, HBN.out⟩
        case measure => have := HLT.out; simp [intOf]; omega
      · have d : decide ((k : Int) < 30) = false := decide_eq_false (by omega)
        have HLT : Hid (k < len) := Lib.hid hlt
        clear HST h30 hlt
        go_wp2
        go_roundw
        case rel => exact ⟨k + 1, by have := HLT.out; omega, by go_num, cnt, by have := HKK.out; omega, by have := HKK.out; omega, HB.out.grown HG1.out⟩
        case measure => have := HLT.out; simp [intOf]; omega
    · have hki : ¬ (k : Int) < len := by omega
      obtain ⟨w3, rfl⟩ : ∃ w3 : World, w3 = wr := ⟨_, rfl⟩
      obtain ⟨A, D, T, V, hpr, hVm, hVn, hlow⟩ := HB.out
      have HPR := Lib.hid hpr
      have q0 := hpr.c0
      have HLOW := Lib.hid hlow
      have HVM := Lib.hid (And.intro hVm hVn)
      have HALL := Lib.hid HB.out.all
      clear hpr hVm hVn hlow HB HB1 hlt hk hc1 hc2 HO
      have HTP : Hid (¬ A.may V.L pp) := Lib.hid (fun hm => by
        have h1 := HPR.out.any pp (Rp.any_may hm)
        have h2 := HPR.out.tp
        omega)
      have HMS : Hid (∀ i, A.may V.L i → i < w3.heap.size) := Lib.hid (fun i hi => HPR.out.y.at_.toRnW.may_lt hi)
      have HLV := Lib.hid (live9_at HPR.out.y.at_)
      have HRISE := Lib.hid (lvL_rise HPR.out.d.ok V.m)
      have HMEM : Hid (∀ q, q ∈ lvL V V.m ↔ Lv V q) := Lib.hid (fun q => mem_live HPR.out.d.ok)
      have HLEN := Lib.hid (lvL_len HPR.out.d.ok V.m)
      obtain ⟨L, hL⟩ : ∃ L, lvL V V.m = L := ⟨_, rfl⟩
      rw [hL] at HLV HRISE HMEM HLEN
      clear hL
      go_wp2_with fail
      refine HLV.out.mono ?_
      rintro e w4 ⟨v4, rfl, g4, hown, -⟩
      obtain ⟨A1, cc, rfl, hcc⟩ := bown_shape hown
      have HEL := Lib.hid (pown_elems hown)
      have HG4 := Lib.hid g4
      have q4 := g4.cell q0 (by simp)
      have HW4 : Hid (Went w w4 w4 A V V cnt) := Lib.hid ⟨HPR.out.y.grown g4, rfl, rfl, HLOW.out, fun _ hi => hi, fr_refl _ _⟩
      clear hown g4 HLV q0
      obtain ⟨nl, hnl⟩ : ∃ nl, L.length = nl := ⟨_, rfl⟩
      have HNL : Hid (L.length = nl ∧ nl ≤ 144) := Lib.hid ⟨hnl, by have := HLEN.out; have := HVM.out; have := HMB.out; omega⟩
      have hni : (nl : Int) ≤ 144 := by have := HNL.out; omega
      rw [hnl]
      rw [hnl] at hcc
      clear hnl HLEN hcc
      go_wp2_with fail
      go_loopw [49] (fun i wx => ∃ k : Nat, k ≤ nl ∧ i = .int .i64 k ∧ ∃ V', Went w w4 wx A V V' cnt ∧ ∀ q, Lv V' q ↔ q ∈ L.drop k) (fun i _ => nl - (intOf i).toNat)
      case atStart => exact ⟨0, by omega, rfl, V, HW4.out, fun q => by rw [List.drop_zero]; exact (HMEM.out q).symm⟩
      case round =>
        obtain ⟨k, hk, rfl, V', hw, hlv⟩ := hrel
        have HW := Lib.hid hw
        have HLV := Lib.hid hlv
        clear hw hlv
        by_cases hlt : k < nl
        · have hkl : k < L.length := by rw [HNL.out.1]; exact hlt
          obtain ⟨gq, rfl, hgb, hglt, hcl⟩ := HEL.out.resolve_left (by rw [HNL.out.1]; omega)
          have HNQ : Hid (¬ A.may V.L gq) := Lib.hid (fun hm => by have := HMS.out gq hm; omega)
          have hke : (k : Int) < nl := by omega
          have hki : (k : Int) ≤ 144 := by omega
          obtain ⟨u0, u1, u2, u3, u4, u5⟩ := pcells_at L k hkl
          have c0 := HW.out.fr.cell (hcl _ _ u0) HNQ.out
          have c1 := HW.out.fr.cell (hcl _ _ u1) HNQ.out
          have c2 := HW.out.fr.cell (hcl _ _ u2) HNQ.out
          have c3 := HW.out.fr.cell (hcl _ _ u3) HNQ.out
          have c4 := HW.out.fr.cell (hcl _ _ u4) HNQ.out
          have c5 := HW.out.fr.cell (hcl _ _ u5) HNQ.out
          have q5 := HW.out.fr.cell q4 HTP.out
          have HDM := Lib.hid (drop_mem HRISE.out hkl)
          have hpl : Lv V' (L[k]'hkl) := (HLV.out _).2 (by rw [List.drop_eq_getElem_cons hkl]; exact List.mem_cons_self)
          obtain ⟨p, hp⟩ : ∃ p, L[k]'hkl = p := ⟨_, rfl⟩
          rw [hp] at c0 c1 c2 c3 c4 c5 HDM hpl
          have HPL := Lib.hid hpl
          have HLT : Hid (k < nl) := Lib.hid hlt
          clear u0 u1 u2 u3 u4 u5 hcl hp hpl hlt hk hkl hgb hglt
          have HDR : Hid (∀ W, wr.grownBy W none → Calls Tryz.prog 17 #[.pointer (some ⟨A.p, 0, none⟩), .int .i64 (p.b : Nat)] W fun e w' => ∃ (bo : Bool) (V2 : St), e = .returned (.tuple #[.bool bo, .int .i64 0]) ∧ Less w W w' A V' V2 cnt ∧ ∀ q, Lv V2 q ↔ Lv V' q ∧ q.b ≠ p.b) := Lib.hid (fun W g => drop_live (HW.out.y.grown g) HPL.out)
          generalize hpb : ((p.b : Nat) : Int) = pb at *
          generalize hpg : ((p.g : Nat) : Int) = pg at *
          generalize hpk : ((p.k : Nat) : Int) = pk at *
          generalize hpz : ((p.z : Nat) : Int) = pz at *
          generalize hps : ((p.st : Nat) : Int) = ps at *
          generalize hpr : p.gr = pr at *
          clear hpb hpg hpk hpz hps hpr
          have HX := Lib.hid (sx_alloc wr (.int .i64 pg) (.int .i64 pk) (.int .i64 pb) (.int .i64 pz) (.int .i64 ps) (.bool pr) 37)
          have HGA := Lib.hid (grown_alloc wr (.cells #[.int .i64 pg, .int .i64 pk, .int .i64 pb, .int .i64 pz, .int .i64 ps, .bool pr] 37) none)
          have HSZ : Hid (∀ i, A.may V'.L i → i ≠ wr.heap.size) := Lib.hid (fun i hi => by have := HMS.out i (HW.out.may i hi); have := HW.out.fr.size; have := HG4.out.size; omega)
          have HPP : Hid (¬ A.may V'.L pp) := Lib.hid (fun hm => HTP.out (HW.out.may pp hm))
          have q6 := HGA.out.cell q5 (by simp)
          go_upto_region 14 with (fail)
          generalize wr.alloc (.cells #[.int .i64 pg, .int .i64 pk, .int .i64 pb, .int .i64 pz, .int .i64 ps, .bool pr] 37) = w5 at *
          generalize wr.heap.size = qx at *
          have x2 := HX.out.2.2.1
          have hg1 := grown_drew1 (grown_refl w5 none)
          go_region_held3 (fun w' => w'.cell? ⟨pp, 0, none⟩ = some (.pointer (some ⟨A.p, 0, none⟩)) ∧ w'.cell? ⟨qx, 2, none⟩ = some (.int .i64 pb))
            (first | exact ⟨q6, x2⟩ | exact HS6.out)
            (first
            | (go_at_call 17; refine (HDR.out _ (grown_trans HGA.out (by assumption))).mono ?_; rintro e w6 ⟨bo, V2, rfl, hless, hlv2⟩; have HG6 := Lib.hid (by assumption : w5.grownBy _ none); have HS6 : Hid (w6.cell? ⟨pp, 0, none⟩ = some (.pointer (some ⟨A.p, 0, none⟩)) ∧ w6.cell? ⟨qx, 2, none⟩ = some (.int .i64 pb)) := Lib.hid ⟨hless.fr.cell (HG6.out.cell q6 (by simp)) HPP.out, hless.fr.cell (HG6.out.cell x2 (by simp)) (fun hm => HSZ.out _ hm rfl)⟩; have HWN := Lib.hid (((HW.out.grown HGA.out).grown HG6.out).next hless); have HLN := Lib.hid hlv2; clear hless hlv2))
          all_goals
            go_wp2
            go_roundw
            case rel => exact ⟨k + 1, by have := HLT.out; omega, by go_num, V2, HWN.out, fun q => by rw [HLN.out q, HLV.out q]; exact HDM.out q⟩
            case measure => have := HLT.out; simp [intOf]; omega
        · obtain rfl : k = nl := by omega
          have hki : ¬ (k : Int) < k := by omega
          have HNO : Hid (Nobody V') := Lib.hid (fun q hq => by
            have := (HLV.out q).1 hq
            rw [List.drop_of_length_le (by rw [HNL.out.1]; exact Nat.le_refl _)] at this
            cases this)
          have hmul : IntKind.i64.wrap (256 * (m : Int)) = ((256 * m : Nat) : Int) := by have := HMB.out; rw [IntKind.wrap_i64]; omega
          obtain ⟨M, hM⟩ : ∃ M : Nat, 256 * m = M := ⟨_, rfl⟩
          rw [hM] at hmul
          have HM : Hid (M = V.m * 256 ∧ M = 256 * m ∧ M ≤ 2304 ∧ V.m = m) := Lib.hid (by have := HVM.out; have := HMB.out; omega)
          have q5 := HW.out.fr.cell q4 HTP.out
          clear hM hk hlt HLV HEL HRISE HMEM
          go_wp2_with fail
          obtain ⟨w5, rfl⟩ : ∃ w5 : World, w5 = wr := ⟨_, rfl⟩
          go_loopw [15] (fun i wx => ∃ a : Nat, a % 16 = 0 ∧ a ≤ M ∧ i = .int .i64 a ∧ ∃ V2, Went w w4 wx A V V2 cnt ∧ Nobody V2 ∧ HeldFrom V2 (a : Int)) (fun i _ => M - (intOf i).toNat)
          case atStart => exact ⟨0, by omega, by omega, rfl, V', HW.out, HNO.out, fun g d k _ _ _ => by omega⟩
          case round =>
            obtain ⟨a, ha16, ha, rfl, V2, hw2, hno2, hh2⟩ := hrel
            have HW2 := Lib.hid hw2
            have HNO2 := Lib.hid hno2
            have HH2 := Lib.hid hh2
            have q6 := hw2.fr.cell q4 HTP.out
            clear hw2 hno2 hh2
            by_cases hlt : a < M
            · have hai : (a : Int) < M := by omega
              have hmi : (M : Int) ≤ 2304 := by have := HM.out; omega
              have HGV := Lib.hid (give_next HW2.out.y HNO2.out ha16 HH2.out)
              have HAA : Hid (a % 16 = 0 ∧ a < M ∧ M % 16 = 0) := Lib.hid ⟨ha16, hlt, by have := HM.out; omega⟩
              clear ha16 ha hlt
              go_wp2_with fail
              refine HGV.out.mono ?_
              rintro e w7 ⟨er, V3, rfl, hless, hno3, hh3⟩
              have HW3 := Lib.hid (HW2.out.next hless)
              have HX3 := Lib.hid (And.intro hno3 hh3)
              clear hless hno3 hh3
              go_wp2
              go_roundw
              case rel => exact ⟨a + 16, by have := HAA.out; omega, by have := HAA.out; omega, by go_num, V3, HW3.out, HX3.out.1, HX3.out.2⟩
              case measure => have := HAA.out; simp [intOf]; omega
            · obtain rfl : a = M := by omega
              have hai : ¬ (a : Int) < a := by omega
              have HID : Hid (Idle V2) := Lib.hid (fun g d hl k hk => nobody_zero HW2.out.y.at_.ok HNO2.out (by rw [HW2.out.m, ← HM.out.1]; exact HH2.out) hl hk)
              have HZ : Hid (∀ g, V2.Z g = 0) := Lib.hid (nobody_z HNO2.out)
              clear ha16 ha hlt HH2 HNO2
              go_wp2_with fail
              obtain ⟨w6, rfl⟩ : ∃ w6 : World, w6 = wr := ⟨_, rfl⟩
              go_loopw [16] (fun i wx => ∃ p : Nat, p ≤ m ∧ i = .int .i64 p ∧ ∃ V3, Went w w4 wx A V V3 cnt ∧ (∀ g, V3.Z g = 0) ∧ Idle V3 ∧ ∀ g, g < p → V3.L g = none) (fun i _ => m - (intOf i).toNat)
              case atStart => exact ⟨0, by omega, rfl, V2, HW2.out, HZ.out, HID.out, fun g hg => by omega⟩
              case round =>
                obtain ⟨p, hp, rfl, V3, hw3, hz3, hi3, hl3⟩ := hrel
                have HW3 := Lib.hid hw3
                have HX3 := Lib.hid (And.intro hz3 (And.intro hi3 hl3))
                have q7 := hw3.fr.cell q4 HTP.out
                clear hw3 hz3 hi3 hl3
                by_cases hlt : p < m
                · have hpi : (p : Int) < m := by omega
                  have hmi : (m : Int) ≤ 9 := by have := HMB.out; omega
                  have HSH := Lib.hid (shut_next HW3.out.y HX3.out.1 HX3.out.2.1 (p := p) (by have := HMB.out; omega) HX3.out.2.2)
                  have HPM : Hid (p < m) := Lib.hid hlt
                  clear hp hlt
                  go_wp2_with fail
                  refine HSH.out.mono ?_
                  rintro e w8 ⟨er, V4, rfl, her, hless, hz4, hi4, hl4⟩
                  have HW4' := Lib.hid (HW3.out.next hless)
                  have HX4 := Lib.hid (And.intro hz4 (And.intro hi4 hl4))
                  clear hless hz4 hi4 hl4
                  rcases her with rfl | rfl
                  · go_wp2
                    go_roundw
                    case rel => exact ⟨p + 1, by have := HPM.out; omega, by go_num, V4, HW4'.out, HX4.out.1, HX4.out.2.1, HX4.out.2.2⟩
                    case measure => have := HPM.out; simp [intOf]; omega
                  · go_wp2
                    go_roundw
                    case rel => exact ⟨p + 1, by have := HPM.out; omega, by go_num, V4, HW4'.out, HX4.out.1, HX4.out.2.1, HX4.out.2.2⟩
                    case measure => have := HPM.out; simp [intOf]; omega
                · obtain rfl : p = m := by omega
                  have hpi : ¬ (p : Int) < p := by omega
                  obtain ⟨w7, rfl⟩ : ∃ w7 : World, w7 = wr := ⟨_, rfl⟩
                  have HPG := Lib.hid (pages_at HW3.out.y.at_.toRnW)
                  have HCT : Hid (Calls Tryz.prog 21 #[.pointer (some ⟨A.pt, 0, none⟩), .int .i64 0, .int .i64 p, .int .i64 0] w7 fun e w' => e = .returned (.int .i64 p) ∧ w7.grownBy w' none) := Lib.hid (by
                    have key := Pt.count_at HW3.out.y.at_.tab 0 (p : Int) 0
                    have hvm := HVM.out
                    have e1 := HW3.out.m
                    have e2 := HW3.out.n
                    rw [cnt_free V3.n (fun g hg => by rw [all_free HW3.out.y.at_.ok HW3.out.low (fun j hj => HX3.out.2.2 j (by omega)) HX3.out.1 hg]; rfl)] at key
                    rw [show min V3.n p = p by omega] at key
                    exact key)
                  have HLE : Hid (∀ W, w7.grownBy W none → Calls Tryz.prog 12 #[.pointer (some ⟨A.p, 0, none⟩)] W fun e w' => e = .returned (.slice none 0 0) ∧ W.grownBy w' none) := Lib.hid (fun W g => by
                    refine (live9_at (HW3.out.y.grown g).at_).mono ?_
                    rintro e w' ⟨v, rfl, g', ho, hn⟩
                    have : lvL V3 V3.m = [] := lvL_nil HW3.out.y.at_.ok (fun q hq => by
                      cases hq with
                      | slot g d k hl hk h1 => have := HX3.out.2.1 g d hl k hk; omega
                      | great g hz => exact hz (HX3.out.1 g))
                    rw [hn this]
                    exact ⟨rfl, g'⟩)
                  have HAW := Lib.hid (fun W => awake9_at W)
                  have hbp : (((p : Nat) : Int) == (p : Int)) = true := by simp
                  clear hp hlt q5 q6
                  go_wp2_with fail
                  refine HPG.out.mono ?_
                  rintro e w8 ⟨rfl, rfl⟩
                  go_wp2_with fail
                  refine HCT.out.mono ?_
                  rintro e w8 ⟨rfl, m8⟩
                  have HG8 := Lib.hid m8
                  have q8 := m8.cell q7 (by simp)
                  clear m8
                  go_wp2_with fail
                  refine (HLE.out _ HG8.out).mono ?_
                  rintro e w9 ⟨rfl, m9⟩
                  have HG9 := Lib.hid (grown_trans HG8.out m9)
                  clear m9
                  go_wp2_with fail
                  refine (HAW.out w9).mono ?_
                  rintro e w10 ⟨rfl, m10⟩
                  have HE := Lib.hid (grown_trans (grown_trans HW3.out.y.all HG9.out) m10)
                  clear m10
                  go_wp2
                  go_ret
                  exact ⟨rfl, HE.out⟩
end Go.Proofs.YtgnfcklippjeeaaGreat
