/- The walk of RegionPlaces. -/
import Derived.Test.YtgnfcklippjeeaaGreatTB
import Derived.Test.YtgnfcklippjeeaaGreatL3
import Derived.Test.YtgnfcklippjeeaaGreatK7
import Derived.Deep.RegionHeld3
import Derived.Deep.RegionLaw
import Derived.Deep.DeepCutAuto
namespace Go.Proofs.YtgnfcklippjeeaaGreat
open Go.RowKit

theorem row_field0 (a b c d : Int) (w : World) : (Instr.field 75 (.agg #[.int .i64 a, .int .i64 b, .int .i64 c, .int .i64 d]) 0).run Tryz.prog w = .ok (.int .i64 a) w := by kernel_rfl
set_option maxRecDepth 100000 in
set_option maxHeartbeats 8000000 in
theorem regionPlaces_walk (k0 s : Nat) (hk0 : k0 < 256) (A0 : Option Addr) (len cap : Nat) (O : Nat → Lop) (w : World) (hlen : len ≤ 9223372036854775807) (hO : LopsAt w A0 len O) :
    Calls Tryz.prog 6 #[.int .u8 k0, .int .u64 s, .slice A0 len cap] w fun e w' => e = .returned (.bool true) ∧ w.grownBy w' none := by
  obtain ⟨m, hm⟩ : ∃ m : Nat, 1 + k0 % 6 = m := ⟨_, rfl⟩
  have hmb : 1 ≤ m ∧ m ≤ 6 := by omega
  have e1 : ((k0 : Nat) : Int) % 6 = ((m - 1 : Nat) : Int) := by omega
  have e2 : IntKind.i64.wrap (1 + ((m - 1 : Nat) : Int)) = (m : Int) := by rw [IntKind.wrap_i64]; omega
  have HMK : Hid (∀ W : World, Calls Tryz.prog 10 #[.int .i64 m, .int .i64 1, .int .u64 s] W fun e w' => ∃ A D T pp, e = .returned (.pointer (some ⟨pp, 0, none⟩)) ∧ PrAt W w' A D T (St.new m (m + 1) (keyOf s)) (St.new m (m + 1) (keyOf s)) 0 pp ∧ W.heap.size ≤ pp) := Lib.hid (fun W => make9_at (m := m) (M := 1) s W (by omega) (by omega))
  have HO := Lib.hid hO
  have HMB := Lib.hid hmb
  have hli : (len : Int) ≤ 9223372036854775807 := by omega
  have HLI := Lib.hid hlen
  obtain ⟨m1, hm1⟩ : ∃ m1 : Int, ((m - 1 : Nat) : Int) = m1 := ⟨_, rfl⟩
  rw [hm1] at e1 e2
  clear hO hmb hm hm1 hlen
  go_enter Tryz.func6, Tryz.ntmps6
  go_wp2_with fail
  refine (HMK.out _).mono ?_
  rintro e w1 ⟨A, D, T, pp, rfl, hpr, hpp⟩
  have HB1 := Lib.hid (both9_new hpr)
  clear hpr hpp HMK e1 e2
  go_wp2_with fail
  obtain ⟨w2, hw2⟩ : ∃ w2 : World, w2 = w1 := ⟨_, rfl⟩
  clear hw2
  go_loopw [28] (fun i wr => ∃ k : Nat, k ≤ len ∧ i = .int .i64 k ∧ ∃ cnt, cnt ≤ 30 ∧ cnt ≤ k ∧ Both9 St.Low w wr pp m (m + 1) cnt) (fun i _ => len - (intOf i).toNat)
  case atStart => exact ⟨0, by omega, rfl, 0, by omega, by omega, HB1.out⟩
  case round =>
    obtain ⟨k, hk, rfl, cnt, hc1, hc2, hb⟩ := hrel
    have HB := Lib.hid hb
    have HKK := Lib.hid (And.intro hk (And.intro hc1 hc2))
    clear hb
    by_cases hlt : k < len
    · obtain ⟨b, off, hA0, hcl⟩ : ∃ b off, A0 = some ⟨b, off, none⟩ ∧ LCells wr b (off + k * 8) (O k) ∧ LRows w (O k) := by
        rcases HO.out with h0 | ⟨b, off, e, _, h⟩
        · omega
        · exact ⟨b, off, e, (h k hlt).1.grown HB.out.all, (h k hlt).2⟩
      subst hA0
      obtain ⟨hcl, hrow⟩ := hcl
      have HRW := Lib.hid hrow
      obtain ⟨t, ht⟩ : ∃ t, O k = t := ⟨_, rfl⟩
      rw [ht] at hcl HRW
      obtain ⟨c0, c1, c2, c3, c4, c5, c6, c7⟩ := hcl
      have hki : (k : Int) < len := by omega
      clear ht hrow hk hc1 hc2
      have HG1 : Hid (wr.grownBy (wr.alloc (.cells #[.int .i64 t.k, .int .i64 t.c, .int .i64 t.o, .int .i64 t.p, .int .i64 t.a, .int .i64 t.n, .bool t.b, .slice t.bA t.bl t.bc] 28)) none) := Lib.hid (grown_alloc _ _ _)
      have HST : Hid (cnt ≤ 100000 → Calls Tryz.prog 11 #[.pointer (some ⟨pp, 0, none⟩), t.v, .bool false] (wr.alloc (.cells #[.int .i64 t.k, .int .i64 t.c, .int .i64 t.o, .int .i64 t.p, .int .i64 t.a, .int .i64 t.n, .bool t.b, .slice t.bA t.bl t.bc] 28)) fun e w' => e = .returned (.bool true) ∧ Both9 St.Low w w' pp m (m + 1) (cnt + 1)) :=
        Lib.hid (fun hc => both9_step keeps_low (HB.out.grown HG1.out) hc HRW.out false (.inl rfl))
      unfold Lop.v opV at HST
      by_cases h30 : k < 30
      · have d : decide ((k : Int) < 30) = true := decide_eq_true (by omega)
        have HS := Lib.hid (HST.out (by have := HKK.out; omega))
        have HLT : Hid (k < 30 ∧ k < len) := Lib.hid ⟨h30, hlt⟩
        clear HST h30 hlt
        go_wp2_with fail
        refine HS.out.mono ?_
        rintro e w3 ⟨rfl, hb⟩
        have HBN := Lib.hid hb
        clear hb
        go_wp2
        go_roundw
        case rel => exact ⟨k + 1, by have := HLT.out; omega, by go_num, cnt + 1, by have := HLT.out; have := HKK.out; omega, by have := HKK.out; omega, HBN.out⟩
        case measure => have := HLT.out; simp [intOf]; omega
      · have d : decide ((k : Int) < 30) = false := decide_eq_false (by omega)
        have HLT : Hid (k < len) := Lib.hid hlt
        clear HST h30 hlt
        go_wp2
        go_roundw
        case rel => exact ⟨k + 1, by have := HLT.out; omega, by go_num, cnt, by have := HKK.out; omega, by have := HKK.out; omega, HB.out.grown HG1.out⟩
        case measure => have := HLT.out; simp [intOf]; omega
    · have hki : ¬ (k : Int) < len := by omega
      obtain ⟨w3, rfl⟩ : ∃ w3 : World, w3 = wr := ⟨_, rfl⟩
      obtain ⟨A, D, T, V, hpr, hVm, hVn, hlow⟩ := HB.out
      have HPR := Lib.hid hpr
      have q0 := hpr.c0
      have HLOW := Lib.hid hlow
      have HVM := Lib.hid (And.intro hVm hVn)
      have HALL := Lib.hid HB.out.all
      clear hpr hVm hVn hlow HB HB1 hlt hk hc1 hc2 HO
      have f1 : IntKind.i64.wrap ((m : Int) + 1) = ((m + 1 : Nat) : Int) := by have := HMB.out; rw [IntKind.wrap_i64]; omega
      obtain ⟨N, hN⟩ : ∃ N : Nat, 256 * (m + 1) = N := ⟨_, rfl⟩
      have f2 : IntKind.i64.wrap (256 * ((m + 1 : Nat) : Int)) = (N : Int) := by have := HMB.out; rw [IntKind.wrap_i64]; omega
      have f3 : IntKind.i64.wrap (256 * (m : Int)) = ((256 * m : Nat) : Int) := by have := HMB.out; rw [IntKind.wrap_i64]; omega
      obtain ⟨M, hM⟩ : ∃ M : Nat, 256 * m = M := ⟨_, rfl⟩
      rw [hM] at f3
      obtain ⟨mm, hmm⟩ : ∃ mm : Nat, m + 1 = mm := ⟨_, rfl⟩
      rw [hmm] at f1 f2
      have HN : Hid (N = V.n * 256 ∧ M = V.m * 256 ∧ N ≤ 1792) := Lib.hid (by have := HVM.out; have := HMB.out; omega)
      clear hN hM hmm
      go_wp2_with fail
      go_loopw [11] (fun i wx => ∃ a : Nat, a ≤ N ∧ i = .int .i64 a ∧ w3.grownBy wx none) (fun i _ => N - (intOf i).toNat)
      case atStart => exact ⟨0, by omega, rfl, grown_refl _ _⟩
      case round =>
        obtain ⟨a, ha, rfl, hg⟩ := hrel
        have HG := Lib.hid hg
        have q0 := hg.cell q0 (by simp)
        clear hg
        by_cases hlt : a < N
        · have hai : (a : Int) < N := by omega
          have hni : (N : Int) ≤ 1792 := by have := HN.out; omega
          obtain ⟨g, hgg⟩ : ∃ g : Nat, a / 256 = g := ⟨_, rfl⟩
          have e3 : ((a : Nat) : Int) / 256 = (g : Int) := by omega
          obtain ⟨x, hx⟩ := V.at_ex (a : Int)
          have hfl := row_field0
          have HF := Lib.hid (fun W (g : w3.grownBy W none) => find_at (HPR.out.grown g).y.at_ hx)
          have HPG := Lib.hid (fun W (g : w3.grownBy W none) => pages_at (HPR.out.grown g).y.at_.toRnW)
          have HRR : Hid (∀ W, w3.grownBy W none → Calls Tryz.prog 34 #[.pointer (some ⟨A.pt, 0, none⟩), .int .i64 g] W fun e w' => e = .returned (Pt.rv (V.R g)) ∧ W.grownBy w' none) := Lib.hid (fun W gr => by
            have key := Pt.prow_at (HPR.out.grown gr).y.at_.tab (g : Int)
            rw [Pt.getR_in (by have := HN.out; omega)] at key
            exact key)
          have HLT : Hid (a < N ∧ a / 256 = g) := Lib.hid ⟨hlt, hgg⟩
          clear hlt ha hgg
          cases x with
          | none =>
            have hz := hx.free HPR.out.d.ok HLOW.out (a := a) (by have := HN.out; have := HLT.out; omega)
            rw [HLT.out.2] at hz
            rw [hz] at HRR
            unfold Pt.rv Pg.zero at HRR
            unfold fndV pc0 at HF
            simp only at HF
            clear hx hz
            go_wp2_with fail
            refine (HF.out _ HG.out).mono ?_
            rintro e w4 ⟨rfl, m4⟩
            have HG4 := Lib.hid (grown_trans (grown_trans HG.out m4) (grown_alloc w4 (.cells #[.int .i64 0, .int .i64 0, .int .i64 0, .int .i64 0, .int .i64 0, .bool false] 37) none))
            have q0' := HG4.out.cell (HPR.out.c0) (by simp)
            clear m4
            go_wp2_with fail
            refine (HPG.out _ HG4.out).mono ?_
            rintro e w5 ⟨rfl, rfl⟩
            go_wp2_with fail
            refine (HRR.out _ HG4.out).mono ?_
            rintro e w6 ⟨rfl, m6⟩
            have HG6 := Lib.hid (grown_trans HG4.out m6)
            clear m6
            go_wp2
            go_roundw
            case rel => exact ⟨a + 1, by have := HLT.out; omega, by go_num, HG6.out⟩
            case measure => have := HLT.out; simp [intOf]; omega
          | some p =>
            have hk := hx.kind HPR.out.d.ok
            rw [HLT.out.2] at hk
            obtain ⟨-, -, hbd, hbm⟩ := hx.bd HPR.out.d.ok
            have hag := hx.again HPR.out.d.ok
            have HF2 := Lib.hid (fun W (g : w3.grownBy W none) => find_at (HPR.out.grown g).y.at_ hag)
            unfold fndV pcv at HF HF2
            simp only at HF HF2
            unfold Pt.rv at HRR
            have hkd : ((V.R g).k == 0) = false := by simpa using hk
            have hlt1 : decide ((a : Int) < (p.b : Nat)) = false := decide_eq_false (by omega)
            have HAM : Hid (a < M) := Lib.hid (by
              have hb := HN.out
              cases hx with
              | slot g' d x e hg hn hl => have := (HPR.out.d.ok.sl g' d hl).1; omega
              | great g' h x e hg hn hl hz => have := (HPR.out.d.ok.gr h hz.1).2.2.1; have := hz.2.2; omega)
            have hgm : decide ((M : Int) ≤ a) = false := decide_eq_false (by have := HAM.out; omega)
            have hgm2 : decide (M ≤ a) = false := decide_eq_false (by have := HAM.out; omega)
            generalize (V.R g).k = kk at *
            generalize (V.R g).c = kc at *
            generalize (V.R g).o = ko at *
            generalize (V.R g).r = kr at *
            generalize ((p.b : Nat) : Int) = pb at *
            generalize ((p.g : Nat) : Int) = pg at *
            generalize ((p.k : Nat) : Int) = pk at *
            generalize ((p.z : Nat) : Int) = pz at *
            generalize ((p.st : Nat) : Int) = ps at *
            generalize p.gr = pr at *
            clear hx hk hbd hbm hag
            go_wp2_with fail
            refine (HF.out _ HG.out).mono ?_
            rintro e w4 ⟨rfl, m4⟩
            have HG4 := Lib.hid (grown_trans (grown_trans HG.out m4) (grown_alloc w4 (.cells #[.int .i64 pg, .int .i64 pk, .int .i64 pb, .int .i64 pz, .int .i64 ps, .bool pr] 37) none))
            have HX4 := Lib.hid (sx_alloc w4 (.int .i64 pg) (.int .i64 pk) (.int .i64 pb) (.int .i64 pz) (.int .i64 ps) (.bool pr) 37)
            have q0' := HG4.out.cell (HPR.out.c0) (by simp)
            clear m4
            go_wp2_with fail
            refine (HPG.out _ HG4.out).mono ?_
            rintro e w5 ⟨rfl, rfl⟩
            go_wp2_with fail
            refine (HRR.out _ HG4.out).mono ?_
            rintro e w6 ⟨rfl, m6⟩
            have HG6 := Lib.hid (grown_trans HG4.out m6)
            have HX6 := Lib.hid (sx_keep HX4.out m6)
            clear m6 HX4
            generalize w4.heap.size = qx at *
            have HCL : Hid (∀ W, w6.grownBy W none → W.cell? ⟨pp, 0, none⟩ = some (.pointer (some ⟨A.p, 0, none⟩)) ∧ W.cell? ⟨qx, 2, none⟩ = some (.int .i64 pb)) := Lib.hid (fun W g => ⟨g.cell (HG6.out.cell HPR.out.c0 (by simp)) (by simp), g.cell HX6.out.2.2.1 (by simp)⟩)
            clear q0'
            go_upto_region 19 with (fail)
            go_cut [15, 16] from 42 to 103 (fun s bb W => bb = .bool true ∧ ∃ q, s = .pointer (some ⟨q, 0, none⟩) ∧ w6.grownBy W none ∧ Sx W q (.int .i64 pg) (.int .i64 pk) (.int .i64 pb) (.int .i64 pz) (.int .i64 ps) (.bool pr))
            case first =>
              have hg1 := grown_drew1 (grown_alloc w6 (.cells #[.int .i64 0, .int .i64 0, .int .i64 0, .int .i64 0, .int .i64 0, .bool false] 37) none)
              have hg2 := grown_drew1 (grown_refl w6 none)
              obtain ⟨p0, p1⟩ := HCL.out _ hg1
              obtain ⟨p2, p3⟩ := HCL.out _ hg2
              have HF3 := Lib.hid (HF2.out _ (grown_trans HG6.out hg1))
              have HF4 := Lib.hid (HF2.out _ (grown_trans HG6.out hg2))
              have HNN := Lib.hid (alloc6 w6 37)
              go_region_law (first
                | (go_simp; go_at_call 27; (with_reducible refine HF3.out.mono ?_); rintro e w7 ⟨rfl, m⟩; have hg4 := grown_trans hg1 m; obtain ⟨⟨s0, t0⟩, ⟨s1, t1⟩, ⟨s2, t2⟩, ⟨s3, t3⟩, ⟨s4, t4⟩, ⟨s5, t5⟩⟩ := keep6 HNN.out m; have H6 := Lib.hid (keep6 HNN.out m); clear m)
                | (go_simp; go_at_call 27; (with_reducible refine HF4.out.mono ?_); rintro e w7 ⟨rfl, m⟩; have hg4 := grown_trans hg2 m; clear m))
              all_goals
                go_wp2
                go_meet
                refine ⟨rfl, _, rfl, ?_, ?_⟩
                · first
                  | with_reducible exact grown6 hg4 (Nat.le_refl _) _ _ _ _ _ _
                  | with_reducible exact grown_trans hg4 (grown_alloc _ _ _)
                · first
                  | with_reducible exact sx_set H6.out _ _ _ _ _ _
                  | with_reducible exact sx_alloc _ _ _ _ _ _ _ _
            case rest =>
              obtain ⟨rfl, q7, rfl, hg7, hx7⟩ := hcut
              obtain ⟨w7, rfl⟩ : ∃ w7 : World, w7 = wc := ⟨_, rfl⟩
              obtain ⟨a0, a1, a2, a3, a4, a5⟩ := sx_keep HX6.out hg7
              obtain ⟨b0, b1, b2, b3, b4, b5⟩ := hx7
              have HG7 := Lib.hid (grown_trans HG6.out hg7)
              clear hg7 HX6 HG6 HCL
              go_wp2
              go_roundw
              case rel => exact ⟨a + 1, by have := HLT.out; omega, by go_num, HG7.out⟩
              case measure => have := HLT.out; simp [intOf]; omega
        · have hai : ¬ (a : Int) < N := by omega
          have HGW := Lib.hid (grown_trans HALL.out HG.out)
          have HAW := Lib.hid (awake9_at wr)
          clear hlt ha
          go_wp2_with fail
          refine HAW.out.mono ?_
          rintro e w8 ⟨rfl, m8⟩
          have HE := Lib.hid (grown_trans HGW.out m8)
          clear m8
          go_wp2
          go_ret
          exact ⟨rfl, HE.out⟩
end Go.Proofs.YtgnfcklippjeeaaGreat
