/- The walk of FaultExact. -/
import Derived.Test.YtgnfcklippjeeaaGreatTP
import Derived.Test.YtgnfcklippjeeaaGreatWB
import Derived.Test.YtgnfcklippjeeaaGreatL4
import Derived.Test.YtgnfcklippjeeaaGreatPE
import Derived.Deep.RegionHeld3
import Derived.Deep.RegionLaw
import Derived.Deep.DeepCutAuto
namespace Go.Proofs.YtgnfcklippjeeaaGreat
open Go.RowKit

theorem flt_facts {V : St} (ok : V.Ok) {G : Nat → Bool} {a : Nat} {x : Option Pc} (hx : V.At (a : Int) x) (ha : a < V.n * 256) (hhi : ∀ i, V.m * 256 ≤ i → G i = false) (hJ : ∀ p, Lv V p → G p.b = false) :
    ((fltV V G a x) == 0) = hasB (lvL V V.m) (a : Int) ∧ (fltV V G a x = 5 → G a = true) ∧ (G a = true → fltV V G a x = 5 ∨ fltV V G a x = 4) := by
  have hlive : ∀ q, q ∈ lvL V V.m → q.b = a → lvV x = some q := fun q hq e => by
    have hl := (mem_live ok).1 hq
    obtain ⟨h1, h2⟩ := hl.at_ ok
    rw [e] at h1
    rw [hx.uniq ok h1]
    exact lv_lvV h2
  unfold fltV
  rw [if_neg (by omega)]
  by_cases hm : ((V.m * 256 : Nat) : Int) ≤ a
  · rw [if_pos hm]
    refine ⟨?_, fun h => absurd h (by decide), fun h => ?_⟩
    · rw [hasB_no (fun q hq e => ?_)]
      · decide
      · have h1 := ((mem_live ok).1 hq).page ok
        have h2 := ((mem_live ok).1 hq).low ok
        omega
    · rw [hhi a (by omega)] at h; cases h
  · rw [if_neg hm]
    cases hv : lvV x with
    | none =>
      simp only []
      rw [Int.toNat_natCast]
      have hno : hasB (lvL V V.m) (a : Int) = false := hasB_no (fun q hq e => by rw [hlive q hq (by omega)] at hv; cases hv)
      rw [hno]
      cases hG : G a with
      | true => exact ⟨by decide, fun _ => rfl, fun _ => .inl rfl⟩
      | false => exact ⟨by decide, fun h => absurd h (by decide), fun h => by cases h⟩
    | some p =>
      have hp := at_lv ok hx hv
      simp only []
      unfold wiV
      by_cases e : (p.b : Int) = a
      · rw [if_pos e, hasB_yes ((mem_live ok).2 hp) e]
        have hg := hJ p hp
        rw [show p.b = a by omega] at hg
        rw [hg]
        exact ⟨by decide, fun h => absurd h (by decide), fun h => by cases h⟩
      · rw [if_neg e, hasB_no (fun q hq e2 => e (by
          have := hlive q hq (by omega)
          rw [hv] at this
          injection this with this
          rw [this]; exact e2))]
        exact ⟨by decide, fun h => absurd h (by decide), fun _ => .inr rfl⟩
/-- What a round of the law begins with. -/
def Fx9 (w wr : World) (pp m b0 : Nat) (F : Fp) (qw k : Nat) : Prop := ∃ A D T V c2 G, FwAt w wr A D T V k pp b0 F c2 G qw ((m + 1) * 256) G ∧ V.m = m ∧ V.n = m + 1 ∧ c2 ≤ 150 * k ∧ (∀ i, m * 256 ≤ i → G i = false) ∧ ∀ p, Lv V p → G p.b = false
theorem Fx9.all {w wr : World} {pp m b0 qw k : Nat} {F : Fp} (h : Fx9 w wr pp m b0 F qw k) : w.grownBy wr none := by
  obtain ⟨A, D, T, V, c2, G, h1, _⟩ := h
  exact h1.pr.y.all
set_option maxRecDepth 100000 in
set_option maxHeartbeats 16000000 in
theorem faultExact_walk (k0 : Nat) (hk0 : k0 < 256) (A0 : Option Addr) (len cap : Nat) (O : Nat → Lop) (w : World) (hlen : len ≤ 9223372036854775807) (hO : LopsAt w A0 len O) :
    Calls Tryz.prog 8 #[.int .u8 k0, .slice A0 len cap] w fun e w' => e = .returned (.bool true) ∧ w.grownBy w' none := by
  obtain ⟨m, hm⟩ : ∃ m : Nat, 1 + k0 % 6 = m := ⟨_, rfl⟩
  have hmb : 1 ≤ m ∧ m ≤ 6 := by omega
  have e1 : ((k0 : Nat) : Int) % 6 = ((m - 1 : Nat) : Int) := by omega
  have e2 : IntKind.i64.wrap (1 + ((m - 1 : Nat) : Int)) = (m : Int) := by rw [IntKind.wrap_i64]; omega
  have HMK : Hid (∀ W : World, Calls Tryz.prog 10 #[.int .i64 m, .int .i64 1, .int .u64 5] W fun e w' => ∃ A D T pp, e = .returned (.pointer (some ⟨pp, 0, none⟩)) ∧ PrAt W w' A D T (St.new m (m + 1) (keyOf 5)) (St.new m (m + 1) (keyOf 5)) 0 pp ∧ W.heap.size ≤ pp) := Lib.hid (fun W => make9_at (m := m) (M := 1) 5 W (by omega) (by omega))
  have HO := Lib.hid hO
  have HMB := Lib.hid hmb
  have hli : (len : Int) ≤ 9223372036854775807 := by omega
  obtain ⟨m1, hm1⟩ : ∃ m1 : Int, ((m - 1 : Nat) : Int) = m1 := ⟨_, rfl⟩
  rw [hm1] at e1 e2
  obtain ⟨N, hN⟩ : ∃ N : Nat, (m + 1) * 256 = N := ⟨_, rfl⟩
  have HN : Hid ((m + 1) * 256 = N ∧ N ≤ 1792) := Lib.hid ⟨hN, by omega⟩
  have hmk := fun W : World => make_bools W N (by omega)
  have hNi : (N : Int) ≤ 1792 := by omega
  clear hO hmb hm hm1 hlen hN
  go_enter Tryz.func8, Tryz.ntmps8
  go_wp2_with fail
  refine (HMK.out _).mono ?_
  rintro e w1 ⟨A, D, T, pp, rfl, hpr, hpp⟩
  have HP1 := Lib.hid hpr
  have HNW := Lib.hid (fnew_at A.p w1)
  have q0 := hpr.c0
  clear hpr hpp HMK e1 e2
  go_wp2_with fail
  refine HNW.out.mono ?_
  rintro e w2 hmd
  obtain ⟨F, rfl, hfx, g2⟩ := fx_new HP1.out hmd
  have HF2 := Lib.hid hfx
  have q1 := hfx.pr.c1
  obtain ⟨qd, cd, d0, -, -, -⟩ := hfx.pr.d.bt
  have d1 : w2.cell? ⟨D.p, 2, none⟩ = some (.slice (some ⟨qd, 0, none⟩) N cd) := by rw [← HN.out.1]; exact d0
  clear d0
  have HB0 : Hid (Fx9 w (w2.alloc (.cells (zeroBools N) 4)) pp m w2.heap.size F w2.heap.size 0) := Lib.hid (by
    have hg := grown_alloc w2 (.cells (zeroBools N) 4) none
    have hs := g2.size
    have hs0 := HP1.out.y.all.size
    have hpl := HP1.out.plt
    have hv := bools_new w2 4 N
    rw [← HN.out.1] at hv hg ⊢
    refine ⟨A, D, _, _, 0, fun _ => false, ⟨hfx.grown hg, hv, if_neg (by omega), by omega, by omega, ?_, ?_⟩, rfl, rfl, by omega, fun _ _ => rfl, fun _ _ => rfl⟩
    · have := hfx.l.plt; omega
    · have := hfx.l.mlt; omega)
  obtain ⟨b0, hb0⟩ : ∃ b0, w2.heap.size = b0 := ⟨_, rfl⟩
  rw [hb0] at HB0
  have HBX : Hid (∃ qw, qw = b0) := Lib.hid ⟨_, rfl⟩
  clear hfx g2 hmd HNW q0 HP1
  have hb0' := hb0
  go_wp2_with fail
  try rw [hb0]
  obtain ⟨w3, hw3⟩ : ∃ w3 : World, w3 = w2.alloc (.cells (zeroBools N) 4) := ⟨_, rfl⟩
  rw [← hw3] at HB0 ⊢
  clear hw3 q1 d1 hmk hb0 hb0' HF2
  obtain ⟨qw, hqw⟩ : ∃ qw, b0 = qw := ⟨_, rfl⟩
  have HB0' : Hid (Fx9 w w3 pp m b0 F qw 0) := Lib.hid (by rw [← hqw]; exact HB0.out)
  rw [hqw]
  clear HB0 hqw HBX
  go_loopw [44] (fun i wr => ∃ k : Nat, k ≤ len ∧ k ≤ 30 ∧ i = .int .i64 k ∧ Fx9 w wr pp m b0 F qw k) (fun i _ => len - (intOf i).toNat)
  case atStart => exact ⟨0, by omega, by omega, rfl, HB0'.out⟩
  case round =>
    obtain ⟨k, hk, hk30, rfl, hb⟩ := hrel
    have HB := Lib.hid hb
    clear hb
    by_cases hlt : k < len ∧ k < 30
    · obtain ⟨hlt, h30⟩ := hlt
      obtain ⟨b, off, hA0, hcl, hrow⟩ : ∃ b off, A0 = some ⟨b, off, none⟩ ∧ LCells wr b (off + k * 8) (O k) ∧ LRows w (O k) := by
        rcases HO.out with h0 | ⟨b, off, e, _, h⟩
        · omega
        · exact ⟨b, off, e, (h k hlt).1.grown HB.out.all, (h k hlt).2⟩
      subst hA0
      have HRW := Lib.hid hrow
      obtain ⟨t, ht⟩ : ∃ t, O k = t := ⟨_, rfl⟩
      rw [ht] at hcl HRW
      obtain ⟨c0, c1, c2, c3, c4, c5, c6, c7⟩ := hcl
      have hki : (k : Int) < len := by omega
      have hk30i : decide ((30 : Int) ≤ k) = false := decide_eq_false (by omega)
      have hk30n : decide (30 ≤ k) = false := decide_eq_false (by omega)
      have hk30b : (k : Int) ≤ 30 := by omega
      have HLT : Hid (k < len ∧ k < 30) := Lib.hid ⟨hlt, h30⟩
      clear ht hrow hk hlt h30 hk30
      obtain ⟨A, D, T, V, g2, G, hfw, hVm, hVn, hc2, hhi, hlv⟩ := HB.out
      have HGA := Lib.hid (grown_alloc wr (.cells #[.int .i64 t.k, .int .i64 t.c, .int .i64 t.o, .int .i64 t.p, .int .i64 t.a, .int .i64 t.n, .bool t.b, .slice t.bA t.bl t.bc] 28) none)
      have HFW := Lib.hid (hfw.grown HGA.out)
      have HX := Lib.hid (And.intro hVm (And.intro hVn (And.intro hc2 (And.intro hhi hlv))))
      have HOB : Hid (∀ i, (wr.alloc (.cells #[.int .i64 t.k, .int .i64 t.c, .int .i64 t.o, .int .i64 t.p, .int .i64 t.a, .int .i64 t.n, .bool t.b, .slice t.bA t.bl t.bc] 28)).cell? ⟨wr.heap.size, i, none⟩ = (#[.int .i64 t.k, .int .i64 t.c, .int .i64 t.o, .int .i64 t.p, .int .i64 t.a, .int .i64 t.n, .bool t.b, .slice t.bA t.bl t.bc] : Array Value)[i]?) := Lib.hid (fun i => cell_alloc_new _ _ _ _)
      have q0 := HFW.out.pr.c0
      have HLV := Lib.hid (live9_at HFW.out.pr.y.at_)
      clear hfw hVm hVn hc2 hhi hlv HB
      go_wp2_with fail
      refine HLV.out.mono ?_
      rintro e w5 ⟨v1, rfl, g5, hown, -⟩
      obtain ⟨hls, hlb⟩ := pown_ls hown (lvS_len2 HFW.out.pr.d.ok)
      generalize wr.alloc (.cells #[.int .i64 t.k, .int .i64 t.c, .int .i64 t.o, .int .i64 t.p, .int .i64 t.a, .int .i64 t.n, .bool t.b, .slice t.bA t.bl t.bc] 28) = w4 at *
      generalize wr.heap.size = ob at *
      have z0 : w5.cell? ⟨ob, 0, none⟩ = some (.int .i64 t.k) := g5.cell ((HOB.out 0).trans rfl) (by simp)
      have z1 : w5.cell? ⟨ob, 1, none⟩ = some (.int .i64 t.c) := g5.cell ((HOB.out 1).trans rfl) (by simp)
      have z2 : w5.cell? ⟨ob, 2, none⟩ = some (.int .i64 t.o) := g5.cell ((HOB.out 2).trans rfl) (by simp)
      have z3 : w5.cell? ⟨ob, 3, none⟩ = some (.int .i64 t.p) := g5.cell ((HOB.out 3).trans rfl) (by simp)
      have z4 : w5.cell? ⟨ob, 4, none⟩ = some (.int .i64 t.a) := g5.cell ((HOB.out 4).trans rfl) (by simp)
      have z5 : w5.cell? ⟨ob, 5, none⟩ = some (.int .i64 t.n) := g5.cell ((HOB.out 5).trans rfl) (by simp)
      have z6 : w5.cell? ⟨ob, 6, none⟩ = some (.bool t.b) := g5.cell ((HOB.out 6).trans rfl) (by simp)
      have z7 : w5.cell? ⟨ob, 7, none⟩ = some (.slice t.bA t.bl t.bc) := g5.cell ((HOB.out 7).trans rfl) (by simp)
      have HLS := Lib.hid hls
      have HLB := Lib.hid hlb
      have HM1 : Hid (∀ q, q ∈ lvL V V.m ↔ Lv V q) := Lib.hid (fun q => mem_live HFW.out.pr.d.ok)
      obtain ⟨T5, hT5⟩ : ∃ T5 : Nat → Nat, T5 = fun i => if i < w4.heap.size then T i else 0 := ⟨_, rfl⟩
      have HF5 : Hid (FwAt w w5 A D T5 V k pp b0 F g2 G qw ((m + 1) * 256) G) := Lib.hid ((HFW.out.relab (fun i hi => by rw [hT5]; exact if_pos hi)).grown g5)
      have HT5 : Hid (∀ q, v1.ownBlock = some q → T5 q = 0) := Lib.hid (fun q hq => by rw [hT5]; exact if_neg (by have := hlb q hq; omega))
      clear hT5
      have HST := Lib.hid (fw_step HF5.out (by have := HLT.out; omega) HRW.out)
      unfold Lop.v opV at HST
      clear hown hls hlb g5 HLV q0 c0 c1 c2 c3 c4 c5 c6 c7
      obtain ⟨L1, hL1⟩ : ∃ L1, lvL V V.m = L1 := ⟨_, rfl⟩
      rw [hL1] at HLS HM1
      have HN1 : Hid (L1.length ≤ 96) := Lib.hid (by have := lvL_len HFW.out.pr.d.ok V.m; rw [hL1] at this; have := HX.out.1; have := HMB.out; omega)
      clear hL1
      go_wp2_with fail
      refine HST.out.mono ?_
      rintro e w6 ⟨rfl, A', D', T', V', hVm', hVn', hfw', hfr⟩
      have HF6 := Lib.hid hfw'
      have HVV : Hid (V'.m = m ∧ V'.n = m + 1) := Lib.hid ⟨hVm'.trans HX.out.1, hVn'.trans HX.out.2.1⟩
      have HL6 : Hid (LsAt w6 v1 L1) := Lib.hid (HLS.out.fr hfr (fun q hq => by have h0 := HT5.out q hq; show ¬ (T5 q = 1 ∨ 3 ≤ T5 q); omega))
      have HLV := Lib.hid (live9_at HF6.out.pr.y.at_)
      have q0 := hfw'.pr.c0
      clear hVm' hVn' hfw' hfr HST HF5 HT5 HLS z0 z1 z2 z3 z4 z5 z6 z7
      go_wp2_with fail
      refine HLV.out.mono ?_
      rintro e w7 ⟨v2, rfl, g7, hown, -⟩
      obtain ⟨hls, hlb⟩ := pown_ls hown (lvS_len2 HF6.out.pr.d.ok)
      have HF7 := Lib.hid (HF6.out.grown g7)
      have HL17 : Hid (LsAt w7 v1 L1) := Lib.hid (HL6.out.fr (may := fun _ => False) (fr_none g7) (fun _ _ h => h))
      have HM2 : Hid (∀ q, q ∈ lvL V' V'.m ↔ Lv V' q) := Lib.hid (fun q => mem_live HF6.out.pr.d.ok)
      have HN2 : Hid ((lvL V' V'.m).length ≤ 96) := Lib.hid (by have := lvL_len HF6.out.pr.d.ok V'.m; have := HVV.out.1; have := HMB.out; omega)
      obtain ⟨L2, hL2⟩ : ∃ L2, lvL V' V'.m = L2 := ⟨_, rfl⟩
      rw [hL2] at hls HM2 HN2
      have HL27 := Lib.hid hls
      have HB2 : Hid (∀ q, v2.ownBlock = some q → q ≠ F.mb ∧ q ≠ qw) := Lib.hid (fun q hq => by have := hlb q hq; have := HF6.out.l.mlt; have := HF6.out.wv.qlt; omega)
      have HB1 : Hid (∀ q, v1.ownBlock = some q → q ≠ F.mb ∧ q ≠ qw) := Lib.hid (fun q hq => by have := HLB.out q hq; have := HFW.out.l.mlt; have := HFW.out.wv.qlt; omega)
      clear hown hls hlb g7 hL2 HLV q0 HLB HL6
      obtain ⟨A1, cc1, rfl, hcc1, -, hel1⟩ := HL17.out
      obtain ⟨A2, cc2, rfl, hcc2, -, hel2⟩ := HL27.out
      have HEL1 := Lib.hid hel1
      have HEL2 := Lib.hid hel2
      clear hel1 hel2
      obtain ⟨n1, hn1⟩ : ∃ n1, L1.length = n1 := ⟨_, rfl⟩
      obtain ⟨n2, hn2⟩ : ∃ n2, L2.length = n2 := ⟨_, rfl⟩
      have HNL : Hid (L1.length = n1 ∧ L2.length = n2 ∧ n1 ≤ 96 ∧ n2 ≤ 96) := Lib.hid ⟨hn1, hn2, by have := HN1.out; omega, by have := HN2.out; omega⟩
      rw [hn1] at hcc1 HL17 HB1 ⊢
      rw [hn2] at hcc2 HL27 HB2 ⊢
      have hni1 : (n1 : Int) ≤ 96 := by have := HNL.out; omega
      have hni2 : (n2 : Int) ≤ 96 := by have := HNL.out; omega
      have HFR : Hid (∀ wx, Fr (fun i => i = F.mb ∨ i = qw) w7 wx → LsAt wx (.slice A1 n1 cc1) L1 ∧ LsAt wx (.slice A2 n2 cc2) L2) := Lib.hid (fun wx h => ⟨HL17.out.fr h (fun q hq => by have := HB1.out q hq; omega), HL27.out.fr h (fun q hq => by have := HB2.out q hq; omega)⟩)
      clear hn1 hn2 HN1 HN2 hcc1 hcc2
      go_wp2_with fail
      go_loopw [67] (fun i wx => ∃ j : Nat, j ≤ n1 ∧ i = .int .i64 j ∧ Fr (fun i => i = F.mb ∨ i = qw) w7 wx ∧ ∃ c3 G2, FwAt w wx A' D' T' V' (k + 1) pp b0 F c3 G2 qw ((m + 1) * 256) G2 ∧ c3 ≤ 150 * k + j ∧ (∀ i, m * 256 ≤ i → G2 i = false) ∧ ∀ p, Lv V' p → (∃ q, q ∈ L1 ∧ q.b = p.b) → G2 p.b = false) (fun i _ => n1 - (intOf i).toNat)
      case atStart => exact ⟨0, by omega, rfl, fr_refl _ _, g2, G, HF7.out, HX.out.2.2.1, HX.out.2.2.2.1, fun p hp ⟨q, hq, e⟩ => by rw [← e]; exact HX.out.2.2.2.2 q ((HM1.out q).1 hq)⟩
      case round =>
        obtain ⟨j, hj, rfl, hfr, c3, G2, hfw, hc3, hhi, hkk⟩ := hrel
        have HFR2 := Lib.hid hfr
        have HFW2 := Lib.hid hfw
        have HY := Lib.hid (And.intro hc3 (And.intro hhi hkk))
        clear hfr hfw hc3 hhi hkk
        by_cases hjl : j < n1
        · have hkl : j < L1.length := by rw [HNL.out.1]; exact hjl
          obtain ⟨gq, rfl, -, hcl⟩ := HEL1.out.resolve_left (by rw [HNL.out.1]; omega)
          have hnq : ¬ (gq = F.mb ∨ gq = qw) := by have := HB1.out gq rfl; omega
          have hji : (j : Int) < n1 := by omega
          have hj96 : (j : Int) ≤ 96 := by omega
          obtain ⟨u0, u1, u2, u3, u4, u5⟩ := pcells_at L1 j hkl
          have c0 := HFR2.out.cell (hcl _ _ u0) hnq
          have c1 := HFR2.out.cell (hcl _ _ u1) hnq
          have c2 := HFR2.out.cell (hcl _ _ u2) hnq
          have c3' := HFR2.out.cell (hcl _ _ u3) hnq
          have c4 := HFR2.out.cell (hcl _ _ u4) hnq
          have c5 := HFR2.out.cell (hcl _ _ u5) hnq
          have HPL := Lib.hid (List.getElem_mem hkl)
          obtain ⟨p, hp⟩ : ∃ p, L1[j]'hkl = p := ⟨_, rfl⟩
          rw [hp] at c0 c1 c2 c3' c4 c5 HPL
          have HJ : Hid (j < n1) := Lib.hid hjl
          clear u0 u1 u2 u3 u4 u5 hcl hp hjl hj hkl hnq
          have hpage := ((HM1.out p).1 HPL.out).page HFW.out.pr.d.ok
          have hplow := ((HM1.out p).1 HPL.out).low HFW.out.pr.d.ok
          obtain ⟨pb, hpb⟩ : ∃ pb, p.b = pb := ⟨_, rfl⟩
          have HPB : Hid (p.b = pb ∧ pb < m * 256 ∧ pb < N ∧ pb < 1792) := Lib.hid ⟨hpb, by have := HX.out.1; omega, by have := HX.out.1; have := HN.out; omega, by have := HX.out.1; have := HN.out; omega⟩
          rw [hpb] at c2
          clear hpb hpage hplow
          generalize ((p.g : Nat) : Int) = pg at *
          generalize ((p.k : Nat) : Int) = pk at *
          generalize ((p.z : Nat) : Int) = pz at *
          generalize ((p.st : Nat) : Int) = ps at *
          generalize p.gr = pr at *
          have HX2 := Lib.hid (sx_alloc wr (.int .i64 pg) (.int .i64 pk) (.int .i64 (pb : Nat)) (.int .i64 pz) (.int .i64 ps) (.bool pr) 37)
          have HGB := Lib.hid (grown_alloc wr (.cells #[.int .i64 pg, .int .i64 pk, .int .i64 (pb : Nat), .int .i64 pz, .int .i64 ps, .bool pr] 37) none)
          have HBX : Hid (wr.heap.size ≠ qw ∧ wr.heap.size ≠ F.mb) := Lib.hid (by have := HFW2.out.wv.qlt; have := HFW2.out.l.mlt; omega)
          go_upto_region 17 with (fail)
          generalize wr.alloc (.cells #[.int .i64 pg, .int .i64 pk, .int .i64 (pb : Nat), .int .i64 pz, .int .i64 ps, .bool pr] 37) = w8 at *
          generalize wr.heap.size = bx at *
          have x2 := HX2.out.2.2.1
          have HF8 := Lib.hid (HFW2.out.grown HGB.out)
          have HFR8 := Lib.hid (HFR2.out.trans (fr_none HGB.out))
          have HHS := Lib.hid (has_at (HFR.out w8 HFR8.out).2 (pb : Int))
          clear c0 c1 c2 c3' c4 c5
          go_wp2_with fail
          refine HHS.out.mono ?_
          rintro e w9 ⟨rfl, m9⟩
          have HF9 := Lib.hid (HF8.out.grown m9)
          have HFR9 := Lib.hid (HFR8.out.trans (fr_none m9))
          have x2' := m9.cell x2 (by simp)
          clear m9 HHS
          cases hh : hasB L2 (pb : Int) with
          | true =>
            clear hh
            go_wp2
            go_roundw
            case rel => exact ⟨j + 1, by have := HJ.out; omega, by go_num, HFR9.out, c3, G2, HF9.out, by have := HY.out; omega, HY.out.2.1, HY.out.2.2⟩
            case measure => have := HJ.out; simp [intOf]; omega
          | false =>
            have HHH := Lib.hid hh
            have hpbN : (pb : Int) < N := by have := HPB.out; omega
            have hpb64 : (pb : Int) < 1792 := by have := HPB.out; omega
            have zq := HF9.out.wv.fz pb
            have cq := HF9.out.wv.c pb (by rw [HN.out.1]; exact HPB.out.2.2.1)
            have HFS := Lib.hid (HF9.out.set pb true)
            have HFRS : Hid (Fr (fun i => i = F.mb ∨ i = qw) w7 (w9.setCell ⟨qw, pb, none⟩ (.bool true))) := Lib.hid (HFR9.out.trans (fr_some (An.agrown_set w9 qw pb _) (fun _ => .inr rfl)))
            have x3 : (w9.setCell ⟨qw, pb, none⟩ (.bool true)).cell? ⟨bx, 2, none⟩ = some (.int .i64 (pb : Nat)) := (An.agrown_set w9 qw pb (.bool true)).cell x2' (by have := HBX.out; simpa using this.1)
            have HDR : Hid (Calls Tryz.prog 39 #[.pointer (some ⟨F.p, 0, none⟩), .int .i64 (pb : Nat)] (w9.setCell ⟨qw, pb, none⟩ (.bool true)) fun e w' => e = .returned (.int .i64 0) ∧ RF w w' A' V' (k + 1) b0 F (c3 + 1) (gput G2 pb) (.slice none 0 0) [] ∧ Fr (fun i => i = F.mb) (w9.setCell ⟨qw, pb, none⟩ (.bool true)) w') := Lib.hid (by
              obtain ⟨x, hx⟩ := V'.at_ex (pb : Int)
              refine HFS.out.rf.dropped hx (by have := HPB.out; have := HVV.out; omega) (fun q hq e => ?_) (by have := HY.out.1; have := HJ.out; have := HNL.out; have := HLT.out; omega)
              have hl := at_lv HFS.out.pr.d.ok hx hq
              exact hasB_f HHH.out ((HM2.out q).2 hl) (by omega))
            clear hh x2
            go_wp2_with fail
            refine HDR.out.mono ?_
            rintro e w10 ⟨rfl, hrf, hfm⟩
            have HF10 := Lib.hid (HFS.out.ledger hrf.l hfm)
            have HFR10 : Hid (Fr (fun i => i = F.mb ∨ i = qw) w7 w10) := Lib.hid (HFRS.out.trans (hfm.wide (fun _ h => .inl h)))
            clear hrf hfm
            go_wp2
            go_roundw
            case rel =>
              refine ⟨j + 1, by have := HJ.out; omega, by go_num, HFR10.out, c3 + 1, gput G2 pb, HF10.out, by have := HY.out; omega, fun i hi => ?_, fun q hq hqq => ?_⟩
              · have : i ≠ pb := by have := HPB.out; omega
                unfold gput
                rw [if_neg this]
                exact HY.out.2.1 i hi
              · have : q.b ≠ pb := fun e => hasB_f HHH.out ((HM2.out q).2 hq) (by omega)
                unfold gput
                rw [if_neg this]
                exact HY.out.2.2 q hq hqq
            case measure => have := HJ.out; simp [intOf]; omega
        · obtain rfl : j = n1 := by omega
          have hji : ¬ (j : Int) < j := by omega
          clear hj hjl
          go_wp2_with fail
          obtain ⟨w8, rfl⟩ : ∃ w8 : World, w8 = wr := ⟨_, rfl⟩
          go_loopw [88] (fun i wx => ∃ i2 : Nat, i2 ≤ n2 ∧ i = .int .i64 i2 ∧ Fr (fun i => i = F.mb ∨ i = qw) w7 wx ∧ ∃ G3, FwAt w wx A' D' T' V' (k + 1) pp b0 F c3 G3 qw ((m + 1) * 256) G3 ∧ (∀ i, m * 256 ≤ i → G3 i = false) ∧ (∀ p, Lv V' p → (∃ q, q ∈ L1 ∧ q.b = p.b) → G3 p.b = false) ∧ ∀ i (hi : i < L2.length), i < i2 → G3 L2[i].b = false) (fun i _ => n2 - (intOf i).toNat)
          case atStart => exact ⟨0, by omega, rfl, HFR2.out, G2, HFW2.out, HY.out.2.1, HY.out.2.2, fun i hi h => by omega⟩
          case round =>
            obtain ⟨i2, hi2, rfl, hfr, G3, hfw, hhi, hkk, hdd⟩ := hrel
            have HFR3 := Lib.hid hfr
            have HFW3 := Lib.hid hfw
            have HZ := Lib.hid (And.intro hhi (And.intro hkk hdd))
            clear hfr hfw hhi hkk hdd
            by_cases hjl : i2 < n2
            · have hkl : i2 < L2.length := by rw [HNL.out.2.1]; exact hjl
              obtain ⟨gq, rfl, -, hcl⟩ := HEL2.out.resolve_left (by rw [HNL.out.2.1]; omega)
              have hnq : ¬ (gq = F.mb ∨ gq = qw) := by have := HB2.out gq rfl; omega
              have hji2 : (i2 : Int) < n2 := by omega
              have hj96 : (i2 : Int) ≤ 96 := by omega
              obtain ⟨u0, u1, u2, u3, u4, u5⟩ := pcells_at L2 i2 hkl
              have c0 := HFR3.out.cell (hcl _ _ u0) hnq
              have c1 := HFR3.out.cell (hcl _ _ u1) hnq
              have c2 := HFR3.out.cell (hcl _ _ u2) hnq
              have c3' := HFR3.out.cell (hcl _ _ u3) hnq
              have c4 := HFR3.out.cell (hcl _ _ u4) hnq
              have c5 := HFR3.out.cell (hcl _ _ u5) hnq
              have HPL : Hid (Lv V' (L2[i2]'hkl)) := Lib.hid ((HM2.out _).1 (List.getElem_mem hkl))
              have HNX : Hid (∀ G4 : Nat → Bool, (∀ i, G3 i = false → G4 i = false) → G4 (L2[i2]'hkl).b = false → ∀ i (hi : i < L2.length), i < i2 + 1 → G4 L2[i].b = false) := Lib.hid (fun G4 h1 h2 i hi hii => by
                by_cases e : i < i2
                · exact h1 _ (HZ.out.2.2 i hi e)
                · obtain rfl : i = i2 := by omega
                  exact h2)
              obtain ⟨p, hp⟩ : ∃ p, L2[i2]'hkl = p := ⟨_, rfl⟩
              rw [hp] at c0 c1 c2 c3' c4 c5 HPL HNX
              have HJ : Hid (i2 < n2) := Lib.hid hjl
              clear u0 u1 u2 u3 u4 u5 hcl hp hjl hi2 hkl hnq
              have HEV := Lib.hid (endV_is HPL.out)
              have HBV := Lib.hid (bytV_in HFW3.out.pr.d.ok HPL.out)
              have hz4096 := (HPL.out.at_ HFW3.out.pr.d.ok).1.bd HFW3.out.pr.d.ok
              obtain ⟨pb, hpb⟩ : ∃ pb, p.b = pb := ⟨_, rfl⟩
              obtain ⟨pz, hpz⟩ : ∃ pz, p.z = pz := ⟨_, rfl⟩
              obtain ⟨pr, hpr⟩ : ∃ pr, p.gr = pr := ⟨_, rfl⟩
              obtain ⟨nn, hnn⟩ : ∃ nn, bytV p = nn := ⟨_, rfl⟩
              have hnv : nn = if pr = true then (pz + 263) / 256 * 256 else pz + 8 := by rw [← hnn, ← hpr, ← hpz]; rfl
              rw [hpb] at c2 HEV HBV HNX
              rw [hnn] at HEV HBV
              rw [hpz] at c3'
              rw [hpr] at c5
              have HPB : Hid (p.b = pb ∧ pb + nn ≤ N ∧ pb + nn ≤ 1792 ∧ nn ≤ 5000 ∧ pz ≤ 4096) := Lib.hid ⟨hpb, by have := HBV.out; have := HVV.out; have := HN.out; omega, by have := HBV.out; have := HVV.out; have := HN.out; omega, HBV.out.2, by have := hz4096.2.1; omega⟩
              have HNV := Lib.hid hnv
              have hpzi : (pz : Int) ≤ 4096 := by have := HPB.out; omega
              clear hpb hpz hpr hnn hnv hz4096
              generalize ((p.g : Nat) : Int) = pg at *
              generalize ((p.k : Nat) : Int) = pk at *
              generalize ((p.st : Nat) : Int) = ps at *
              have HX2 := Lib.hid (sx_alloc wr (.int .i64 pg) (.int .i64 pk) (.int .i64 (pb : Nat)) (.int .i64 (pz : Nat)) (.int .i64 ps) (.bool pr) 37)
              have HGB := Lib.hid (grown_alloc wr (.cells #[.int .i64 pg, .int .i64 pk, .int .i64 (pb : Nat), .int .i64 (pz : Nat), .int .i64 ps, .bool pr] 37) none)
              have HBX : Hid (wr.heap.size ≠ qw ∧ wr.heap.size ≠ F.mb) := Lib.hid (by have := HFW3.out.wv.qlt; have := HFW3.out.l.mlt; omega)
              go_upto_region 25 with (fail)
              generalize wr.alloc (.cells #[.int .i64 pg, .int .i64 pk, .int .i64 (pb : Nat), .int .i64 (pz : Nat), .int .i64 ps, .bool pr] 37) = w9 at *
              generalize wr.heap.size = bx at *
              have x2 := HX2.out.2.2.1
              have HF9 := Lib.hid (HFW3.out.grown HGB.out)
              have HFR9 := Lib.hid (HFR3.out.trans (fr_none HGB.out))
              have HHS := Lib.hid (has_at (HFR.out w9 HFR9.out).1 (pb : Int))
              clear c0 c1 c2 c3' c4 c5
              go_wp2_with fail
              refine HHS.out.mono ?_
              rintro e w10 ⟨rfl, m10⟩
              have HF10 := Lib.hid (HF9.out.grown m10)
              have HFR10 := Lib.hid (HFR9.out.trans (fr_none m10))
              have HX10 := Lib.hid (sx_keep HX2.out m10)
              clear m10 HHS x2
              cases hh : hasB L1 (pb : Int) with
              | true =>
                have HGN : Hid (G3 pb = false) := Lib.hid (by
                  obtain ⟨q, hq, e⟩ := hasB_t hh
                  have := HZ.out.2.1 p HPL.out ⟨q, hq, by have := HPB.out; omega⟩
                  rw [HPB.out.1] at this
                  exact this)
                clear hh
                go_wp2
                go_roundw
                case rel => exact ⟨i2 + 1, by have := HJ.out; omega, by go_num, HFR10.out, G3, HF10.out, HZ.out.1, HZ.out.2.1, HNX.out G3 (fun _ h => h) HGN.out⟩
                case measure => have := HJ.out; simp [intOf]; omega
              | false =>
                clear hh
                have x2 := HX10.out.2.2.1
                have HTK : Hid (Calls Tryz.prog 37 #[.pointer (some ⟨F.p, 0, none⟩), .int .i64 (pb : Nat)] w10 fun e w' => e = .returned (.int .i64 0) ∧ RF w w' A' V' (k + 1) b0 F c3 (gcut G3 pb (pb + nn)) (.slice none 0 0) [] ∧ Fr (fun i => i = F.mb) w10 w') := Lib.hid (by
                  obtain ⟨h1, h2⟩ := HPL.out.at_ HF10.out.pr.d.ok
                  have key := HF10.out.rf.took h1 (lv_lvV h2) rfl
                  rw [HEV.out, HPB.out.1] at key
                  exact key)
                go_wp2_with fail
                refine HTK.out.mono ?_
                rintro e w11 ⟨rfl, hrf, hfm⟩
                have HF11 := Lib.hid (HF10.out.ledger hrf.l hfm)
                have HFR11 : Hid (Fr (fun i => i = F.mb ∨ i = qw) w7 w11) := Lib.hid (HFR10.out.trans (hfm.wide (fun _ h => .inl h)))
                have HX11 : Hid (Sx w11 bx (.int .i64 pg) (.int .i64 pk) (.int .i64 (pb : Nat)) (.int .i64 (pz : Nat)) (.int .i64 ps) (.bool pr)) := Lib.hid (by
                  obtain ⟨s0, s1, s2, s3, s4, s5⟩ := HX10.out
                  have hn : ¬ bx = F.mb := HBX.out.2
                  exact ⟨hfm.cell s0 hn, hfm.cell s1 hn, hfm.cell s2 hn, hfm.cell s3 hn, hfm.cell s4 hn, hfm.cell s5 hn⟩)
                obtain ⟨y0, y1, y2, y3, y4, y5⟩ := HX11.out
                clear hrf hfm HTK x2 HX10 HFR10 HF10
                have a1 : IntKind.i64.wrap ((pz : Int) + 8) = ((pz + 8 : Nat) : Int) := by rw [IntKind.wrap_i64]; omega
                obtain ⟨z8, hz8⟩ : ∃ z8, pz + 8 = z8 := ⟨_, rfl⟩
                rw [hz8] at a1
                have hz8i : (z8 : Int) ≤ 4104 := by omega
                have a2 : IntKind.i64.wrap ((z8 : Int) + 255) = ((z8 + 255 : Nat) : Int) := by rw [IntKind.wrap_i64]; omega
                obtain ⟨z9, hz9⟩ : ∃ z9, z8 + 255 = z9 := ⟨_, rfl⟩
                rw [hz9] at a2
                have hz9i : (z9 : Int) ≤ 4359 := by omega
                have a3 : ((z9 : Nat) : Int) / 256 = ((z9 / 256 : Nat) : Int) := by omega
                obtain ⟨z10, hz10⟩ : ∃ z10, z9 / 256 = z10 := ⟨_, rfl⟩
                rw [hz10] at a3
                have hz10i : (z10 : Int) ≤ 18 := by omega
                have a4 : IntKind.i64.wrap (256 * (z10 : Int)) = ((z10 * 256 : Nat) : Int) := by rw [IntKind.wrap_i64]; omega
                have a4' : IntKind.i64.wrap ((z10 : Int) * 256) = ((z10 * 256 : Nat) : Int) := by rw [IntKind.wrap_i64]; omega
                obtain ⟨z11, hz11⟩ : ∃ z11, z10 * 256 = z11 := ⟨_, rfl⟩
                rw [hz11] at a4 a4'
                have HNN : Hid (nn = if pr = true then z11 else z8) := Lib.hid (by
                  rw [HNV.out]
                  cases pr with
                  | true => rw [if_pos rfl, if_pos rfl]; omega
                  | false => rw [if_neg (by simp), if_neg (by simp)]; omega)
                clear hz8 hz9 hz10 hz11
                go_upto_if 106 with (fail)
                go_cut [16] from 89 to 130 (fun s wx => wx = w11 ∧ s = .int .i64 nn)
                case first =>
                  cases pr with
                  | true =>
                    have HE : Hid (nn = z11) := Lib.hid (HNN.out.trans (if_pos rfl))
                    go_wp2
                    go_meet
                    exact ⟨rfl, by rw [HE.out]⟩
                  | false =>
                    have HE : Hid (nn = z8) := Lib.hid (HNN.out.trans (if_neg (by simp)))
                    go_wp2
                    go_meet
                    exact ⟨rfl, by rw [HE.out]⟩
                case rest =>
                obtain ⟨hwc, rfl⟩ := hcut
                subst hwc
                have b1 : IntKind.i64.wrap ((pb : Int) + (nn : Int)) = ((pb + nn : Nat) : Int) := by have := HPB.out; rw [IntKind.wrap_i64]; omega
                obtain ⟨pe, hpe⟩ : ∃ pe, pb + nn = pe := ⟨_, rfl⟩
                have HPE : Hid (pb + nn = pe ∧ pe ≤ N ∧ pe ≤ 1792) := Lib.hid ⟨hpe, by have := HPB.out; omega, by have := HPB.out; omega⟩
                rw [hpe] at b1 HF11
                clear hpe a1 a2 a3 a4 a4'
                go_wp2_with fail
                obtain ⟨w12, rfl⟩ : ∃ w12 : World, w12 = wc := ⟨_, rfl⟩
                have hpei : (pe : Int) ≤ 1792 := by have := HPE.out; omega
                go_loopw [17] (fun i wx => ∃ x : Nat, pb ≤ x ∧ x ≤ pe ∧ i = .int .i64 x ∧ Fr (fun i => i = F.mb ∨ i = qw) w7 wx ∧ Fr (fun i => i = qw) w12 wx ∧ FwAt w wx A' D' T' V' (k + 1) pp b0 F c3 (gcut G3 pb pe) qw ((m + 1) * 256) (gcut G3 pb x)) (fun i _ => pe - (intOf i).toNat)
                case atStart => exact ⟨pb, Nat.le_refl _, by have := HPE.out; omega, rfl, HFR11.out, fr_refl _ _, by
                  have e : gcut G3 pb pb = G3 := by have := gcut_zero G3 pb; rw [Nat.add_zero] at this; exact this
                  rw [e]; exact HF11.out⟩
                case round =>
                  obtain ⟨x, hx1, hx2, rfl, hfr4, hfr5, hfw4⟩ := hrel
                  have HFR4 := Lib.hid hfr4
                  have HFR5 := Lib.hid hfr5
                  have HFW4 := Lib.hid hfw4
                  have w2' := hfr5.cell y2 HBX.out.1
                  clear hfr4 hfr5 hfw4
                  by_cases hxl : x < pe
                  · have d1 : (x : Int) < N := by have := HPE.out; omega
                    have d2 : (x : Int) < pe := by omega
                    have d1n : x < N := by have := HPE.out; omega
                    have hxi : (x : Int) ≤ 1792 := by omega
                    have zq := HFW4.out.wv.fz x
                    have cq := HFW4.out.wv.c x (by rw [HN.out.1]; exact d1n)
                    have HFS := Lib.hid (HFW4.out.set x false)
                    have HXX : Hid (pb ≤ x ∧ x < pe) := Lib.hid ⟨hx1, hxl⟩
                    have HFRS : Hid (Fr (fun i => i = F.mb ∨ i = qw) w7 (wr.setCell ⟨qw, x, none⟩ (.bool false)) ∧ Fr (fun i => i = qw) w12 (wr.setCell ⟨qw, x, none⟩ (.bool false))) := Lib.hid ⟨HFR4.out.trans (fr_some (An.agrown_set wr qw x _) (fun _ => .inr rfl)), HFR5.out.trans (fr_some (An.agrown_set wr qw x _) (fun _ => rfl))⟩
                    clear hx1 hx2 hxl
                    go_wp2
                    go_roundw
                    case rel => exact ⟨x + 1, by have := HXX.out; omega, by have := HXX.out; omega, by go_num, HFRS.out.1, HFRS.out.2, by
                      have e : (fun i => if i = x then false else gcut G3 pb x i) = gcut G3 pb (x + 1) := by
                        have h := gcut_succ G3 pb (x - pb)
                        have hh := HXX.out
                        rw [show pb + (x - pb) = x by omega, show pb + (x - pb + 1) = x + 1 by omega] at h
                        exact h
                      rw [← e]; exact HFS.out⟩
                    case measure => have := HXX.out; simp [intOf]; omega
                  · obtain rfl : x = pe := by omega
                    have d2 : ¬ (x : Int) < x := by omega
                    have HG4 : Hid (∀ i, G3 i = false → gcut G3 pb x i = false) := Lib.hid (fun i h => by unfold gcut; rw [h]; rfl)
                    have HGP : Hid (gcut G3 pb x pb = false) := Lib.hid (by
                      have hh := HPE.out
                      have hpos : 0 < nn := by have := HNV.out; split at this <;> omega
                      rw [gcut_at]
                      simp
                      intro _
                      omega)
                    clear hx1 hx2 hxl
                    by_cases d1 : (x : Int) < N
                    · go_wp2
                      go_roundw
                      case rel => exact ⟨i2 + 1, by have := HJ.out; omega, by go_num, HFR4.out, gcut G3 pb x, HFW4.out, fun i hi => HG4.out i (HZ.out.1 i hi), fun q hq hqq => HG4.out _ (HZ.out.2.1 q hq hqq), HNX.out _ HG4.out HGP.out⟩
                      case measure => have := HJ.out; simp [intOf]; omega
                    · go_wp2
                      go_roundw
                      case rel => exact ⟨i2 + 1, by have := HJ.out; omega, by go_num, HFR4.out, gcut G3 pb x, HFW4.out, fun i hi => HG4.out i (HZ.out.1 i hi), fun q hq hqq => HG4.out _ (HZ.out.2.1 q hq hqq), HNX.out _ HG4.out HGP.out⟩
                      case measure => have := HJ.out; simp [intOf]; omega
            · obtain rfl : i2 = n2 := by omega
              have hji2 : ¬ (i2 : Int) < i2 := by omega
              have HFIN : Hid (∀ p, Lv V' p → G3 p.b = false) := Lib.hid (fun p hp => by
                obtain ⟨i, hi, rfl⟩ := List.mem_iff_getElem.1 ((HM2.out p).2 hp)
                exact HZ.out.2.2 i hi (by rw [← HNL.out.2.1]; exact hi))
              clear hi2 hjl
              go_wp2
              go_roundw
              case rel => exact ⟨k + 1, by have := HLT.out; omega, by have := HLT.out; omega, by go_num, A', D', T', V', c3, G3, HFW3.out, HVV.out.1, HVV.out.2, by have := HY.out.1; have := HNL.out; omega, HZ.out.1, HFIN.out⟩
              case measure => have := HLT.out; simp [intOf]; omega
    · obtain ⟨A, D, T, V, g2, G, hfw, hVm, hVn, hc2, hhi, hlv⟩ := HB.out
      have HX := Lib.hid (And.intro hVm (And.intro hVn (And.intro hc2 (And.intro hhi hlv))))
      have HALL := Lib.hid HB.out.all
      by_cases hkl : k < len
      · obtain rfl : k = 30 := by omega
        obtain ⟨b, off, hA0, hcl⟩ : ∃ b off, A0 = some ⟨b, off, none⟩ ∧ LCells wr b (off + 30 * 8) (O 30) := by
          rcases HO.out with h0 | ⟨b, off, e, _, h⟩
          · omega
          · exact ⟨b, off, e, (h 30 hkl).1.grown HALL.out⟩
        subst hA0
        obtain ⟨t, ht⟩ : ∃ t, O 30 = t := ⟨_, rfl⟩
        rw [ht] at hcl
        obtain ⟨c0, c1, c2, c3, c4, c5, c6, c7⟩ := hcl
        have hki : (30 : Int) < len := by omega
        have hkn : 30 < len := hkl
        have HFE := Lib.hid (hfw.grown (grown_alloc wr (.cells #[.int .i64 t.k, .int .i64 t.c, .int .i64 t.o, .int .i64 t.p, .int .i64 t.a, .int .i64 t.n, .bool t.b, .slice t.bA t.bl t.bc] 28) none))
        clear ht hk hlt hfw hVm hVn hc2 hhi hlv HB
        have q0 := HFE.out.pr.c0
        have HLV := Lib.hid (live9_at HFE.out.pr.y.at_)
        go_wp2_with fail
        refine HLV.out.mono ?_
        rintro e w5 ⟨v3, rfl, g5, hown, -⟩
        obtain ⟨hls, -⟩ := pown_ls hown (lvS_len2 HFE.out.pr.d.ok)
        have HF5 := Lib.hid (HFE.out.grown g5)
        have HL3 := Lib.hid hls
        have HAW := Lib.hid (fun W => awake10_at W)
        clear hown hls g5 HLV q0
        go_wp2_with fail
        obtain ⟨w6, hw6⟩ : ∃ w6 : World, w6 = w5 := ⟨_, rfl⟩
        clear hw6
        go_loopw [139] (fun i wx => ∃ a : Nat, a ≤ N ∧ i = .int .i64 a ∧ w5.grownBy wx none) (fun i _ => N - (intOf i).toNat)
        case atStart => exact ⟨0, by omega, rfl, grown_refl _ _⟩
        case round =>
          obtain ⟨a, ha, rfl, hg⟩ := hrel
          have HG := Lib.hid hg
          clear hg
          by_cases han : a < N
          · have hai : (a : Int) < N := by omega
            have hai2 : (a : Int) ≤ 1792 := by omega
            have HNN : Hid (V.n * 256 = N ∧ V.m = m ∧ a < N) := Lib.hid ⟨by rw [HX.out.2.1]; exact HN.out.1, HX.out.1, han⟩
            obtain ⟨x, hx⟩ := V.at_ex (a : Int)
            have HFA := Lib.hid ((HF5.out.grown HG.out).rf.fault hx)
            obtain ⟨f1, f2, f3⟩ := flt_facts HF5.out.pr.d.ok (G := G) hx (by have := HNN.out; omega) (fun i hi => HX.out.2.2.2.1 i (by have := HNN.out; omega)) HX.out.2.2.2.2
            have HHS := Lib.hid (fun W (g : w5.grownBy W none) => has_at (HL3.out.fr (may := fun _ => False) (fr_none g) (fun _ _ h => h)) (a : Int))
            have cq := HF5.out.wv.c a (by rw [HN.out.1]; exact han)
            obtain ⟨f, hf⟩ : ∃ f, fltV V G a x = f := ⟨_, rfl⟩
            obtain ⟨hb, hhb⟩ : ∃ hb, hasB (lvL V V.m) (a : Int) = hb := ⟨_, rfl⟩
            rw [hf] at HFA f1 f2 f3
            rw [hhb] at f1 HHS
            have F23 := Lib.hid (And.intro f2 f3)
            obtain ⟨ga, hga⟩ : ∃ ga, G a = ga := ⟨_, rfl⟩
            rw [hga] at cq F23
            clear hx hf hhb f2 f3 hga ha han
            go_wp2_with fail
            refine HFA.out.mono ?_
            rintro e w7 ⟨rfl, m7⟩
            have HG7 := Lib.hid (grown_trans HG.out m7)
            clear m7
            go_wp2_with fail
            refine (HHS.out _ HG7.out).mono ?_
            rintro e w8 ⟨rfl, m8⟩
            have HG8 := Lib.hid (grown_trans HG7.out m8)
            have cq := HG8.out.cell cq (by simp)
            clear m8
            cases ga with
            | true =>
              rcases F23.out.2 rfl with rfl | rfl
              · have hbf : hb = false := by rw [← f1]; decide
                subst hbf
                clear f1
                go_wp2
                go_roundw
                case rel => exact ⟨a + 1, by have := HNN.out; omega, by go_num, HG8.out⟩
                case measure => have := HNN.out; simp [intOf]; omega
              · have hbf : hb = false := by rw [← f1]; decide
                subst hbf
                clear f1
                go_wp2
                go_roundw
                case rel => exact ⟨a + 1, by have := HNN.out; omega, by go_num, HG8.out⟩
                case measure => have := HNN.out; simp [intOf]; omega
            | false =>
              have f5 : (f == 5) = false := by
                have : f ≠ 5 := fun e => by have := F23.out.1 e; cases this
                simpa using this
              go_wp2
              go_roundw
              case rel => exact ⟨a + 1, by have := HNN.out; omega, by go_num, HG8.out⟩
              case measure => have := HNN.out; simp [intOf]; omega
          · obtain rfl : a = N := by omega
            have hai : ¬ (a : Int) < a := by omega
            have HGF := Lib.hid (grown_trans HF5.out.pr.y.all HG.out)
            clear ha han
            go_wp2_with fail
            refine (HAW.out _).mono ?_
            rintro e w8 ⟨rfl, m8⟩
            have HE := Lib.hid (grown_trans HGF.out m8)
            clear m8
            go_wp2
            go_ret
            exact ⟨rfl, HE.out⟩
      · obtain rfl : k = len := by omega
        have hki : ¬ (k : Int) < k := by omega
        have HFE := Lib.hid hfw
        clear hk hlt hkl hfw hVm hVn hc2 hhi hlv HB
        have q0 := HFE.out.pr.c0
        have HLV := Lib.hid (live9_at HFE.out.pr.y.at_)
        go_wp2_with fail
        refine HLV.out.mono ?_
        rintro e w5 ⟨v3, rfl, g5, hown, -⟩
        obtain ⟨hls, -⟩ := pown_ls hown (lvS_len2 HFE.out.pr.d.ok)
        have HF5 := Lib.hid (HFE.out.grown g5)
        have HL3 := Lib.hid hls
        have HAW := Lib.hid (fun W => awake10_at W)
        clear hown hls g5 HLV q0
        go_wp2_with fail
        obtain ⟨w6, hw6⟩ : ∃ w6 : World, w6 = w5 := ⟨_, rfl⟩
        clear hw6
        go_loopw [139] (fun i wx => ∃ a : Nat, a ≤ N ∧ i = .int .i64 a ∧ w5.grownBy wx none) (fun i _ => N - (intOf i).toNat)
        case atStart => exact ⟨0, by omega, rfl, grown_refl _ _⟩
        case round =>
          obtain ⟨a, ha, rfl, hg⟩ := hrel
          have HG := Lib.hid hg
          clear hg
          by_cases han : a < N
          · have hai : (a : Int) < N := by omega
            have hai2 : (a : Int) ≤ 1792 := by omega
            have HNN : Hid (V.n * 256 = N ∧ V.m = m ∧ a < N) := Lib.hid ⟨by rw [HX.out.2.1]; exact HN.out.1, HX.out.1, han⟩
            obtain ⟨x, hx⟩ := V.at_ex (a : Int)
            have HFA := Lib.hid ((HF5.out.grown HG.out).rf.fault hx)
            obtain ⟨f1, f2, f3⟩ := flt_facts HF5.out.pr.d.ok (G := G) hx (by have := HNN.out; omega) (fun i hi => HX.out.2.2.2.1 i (by have := HNN.out; omega)) HX.out.2.2.2.2
            have HHS := Lib.hid (fun W (g : w5.grownBy W none) => has_at (HL3.out.fr (may := fun _ => False) (fr_none g) (fun _ _ h => h)) (a : Int))
            have cq := HF5.out.wv.c a (by rw [HN.out.1]; exact han)
            obtain ⟨f, hf⟩ : ∃ f, fltV V G a x = f := ⟨_, rfl⟩
            obtain ⟨hb, hhb⟩ : ∃ hb, hasB (lvL V V.m) (a : Int) = hb := ⟨_, rfl⟩
            rw [hf] at HFA f1 f2 f3
            rw [hhb] at f1 HHS
            have F23 := Lib.hid (And.intro f2 f3)
            obtain ⟨ga, hga⟩ : ∃ ga, G a = ga := ⟨_, rfl⟩
            rw [hga] at cq F23
            clear hx hf hhb f2 f3 hga ha han
            go_wp2_with fail
            refine HFA.out.mono ?_
            rintro e w7 ⟨rfl, m7⟩
            have HG7 := Lib.hid (grown_trans HG.out m7)
            clear m7
            go_wp2_with fail
            refine (HHS.out _ HG7.out).mono ?_
            rintro e w8 ⟨rfl, m8⟩
            have HG8 := Lib.hid (grown_trans HG7.out m8)
            have cq := HG8.out.cell cq (by simp)
            clear m8
            cases ga with
            | true =>
              rcases F23.out.2 rfl with rfl | rfl
              · have hbf : hb = false := by rw [← f1]; decide
                subst hbf
                clear f1
                go_wp2
                go_roundw
                case rel => exact ⟨a + 1, by have := HNN.out; omega, by go_num, HG8.out⟩
                case measure => have := HNN.out; simp [intOf]; omega
              · have hbf : hb = false := by rw [← f1]; decide
                subst hbf
                clear f1
                go_wp2
                go_roundw
                case rel => exact ⟨a + 1, by have := HNN.out; omega, by go_num, HG8.out⟩
                case measure => have := HNN.out; simp [intOf]; omega
            | false =>
              have f5 : (f == 5) = false := by
                have : f ≠ 5 := fun e => by have := F23.out.1 e; cases this
                simpa using this
              go_wp2
              go_roundw
              case rel => exact ⟨a + 1, by have := HNN.out; omega, by go_num, HG8.out⟩
              case measure => have := HNN.out; simp [intOf]; omega
          · obtain rfl : a = N := by omega
            have hai : ¬ (a : Int) < a := by omega
            have HGF := Lib.hid (grown_trans HF5.out.pr.y.all HG.out)
            clear ha han
            go_wp2_with fail
            refine (HAW.out _).mono ?_
            rintro e w8 ⟨rfl, m8⟩
            have HE := Lib.hid (grown_trans HGF.out m8)
            clear m8
            go_wp2
            go_ret
            exact ⟨rfl, HE.out⟩
end Go.Proofs.YtgnfcklippjeeaaGreat
