/- The walks of liveFrom and Live. -/
import Derived.Test.YtgnfcklippjeeaaGreatVA
import Derived.Test.YtgnfcklippjeeaaGreatQ1
import Derived.Test.YtgnfcklippjeeaaGreatL5
namespace Go.Proofs.YtgnfcklippjeeaaGreat
open Go.RowKit
open Sl (Cls bs upd LnkIs)
open Lg (pgs)

theorem pcv_one (p : Pc) : pcells [p] = [.int .i64 (p.g : Nat), .int .i64 (p.k : Nat), .int .i64 (p.b : Nat), .int .i64 (p.z : Nat), .int .i64 (p.st : Nat), .bool p.gr] := rfl
theorem pown_made (w : World) {base : Nat} (hb : base ≤ w.heap.size) (p : Pc) : POwn (w.alloc (.cells #[.int .i64 (p.g : Nat), .int .i64 (p.k : Nat), .int .i64 (p.b : Nat), .int .i64 (p.z : Nat), .int .i64 (p.st : Nat), .bool p.gr] 37)) base (.slice (some ⟨w.heap.size, 0, none⟩) 1 1) [p] :=
  ⟨by simp [pcells], .inr ⟨w.heap.size, 1, _, rfl, hb, heap_alloc_new w _, Nat.le_refl _, by simp [maxLen], rfl, rfl⟩⟩
theorem sla_page {w : World} {A : Rp} {V : St} {cnt g : Nat} {d : Sd} (h : RnAt w A V cnt) (hl : V.L g = some d) (k : Nat) :
    Calls Tryz.prog 118 #[.pointer (some ⟨(A.xs g).p, 0, none⟩), .int .i64 k] w fun e w' => e = .returned (.int .i64 (if k < d.n then ((d.S k : Nat) : Int) else -1)) ∧ w = w' := by
  have hd := (h.ok.sl g d hl).2.2
  have key := state_at (h.sl g d hl) hd.st (k : Int)
  by_cases hk : k < d.n
  · rw [if_pos hk]
    rw [stV_in (show k < (nmOf A V g d).n from hk)] at key
    exact key
  · rw [if_neg hk]
    rw [stV_out (by unfold isK; simp [nmOf]; omega)] at key
    exact key
set_option maxRecDepth 100000 in
set_option maxHeartbeats 4000000 in
theorem liveFrom_at {w : World} {A : Rp} {V : St} {cnt g : Nat} (h : RnAt w A V cnt) (hg : g < 256) :
    Calls Tryz.prog 60 #[.pointer (some ⟨A.p, 0, none⟩), .int .i64 g] w fun e w' => PList w w' (lvP V g) e := by
  have hwg : WF (g : Int) := ⟨by omega, by omega⟩
  obtain ⟨i0, hi, hz0, hz1, hz2⟩ := info_parts infoPlace
  by_cases hz : V.Z g ≠ 0
  · have HG := Lib.hid (greatPlace_some h hz)
    have hL : lvP V g = [gpc g (V.Z g)] := if_pos hz
    rw [hL]
    generalize gpc g (V.Z g) = p at *
    unfold fndV pcv at HG
    simp only at HG
    have HO := Lib.hid (fun (W : World) (g1 : w.grownBy W none) => pown_made W (base := w.heap.size) g1.size p)
    clear h hz hL
    generalize hpg : ((p.g : Nat) : Int) = pg at *
    generalize hpk : ((p.k : Nat) : Int) = pk at *
    generalize hpb : ((p.b : Nat) : Int) = pb at *
    generalize hpz : ((p.z : Nat) : Int) = pz at *
    generalize hps : ((p.st : Nat) : Int) = ps at *
    generalize hpr : p.gr = pr at *
    clear hpg hpk hpb hpz hps hpr
    go_enter Tryz.func60, Tryz.ntmps60
    go_wp2_with fail
    refine HG.out.mono ?_
    rintro e w1 ⟨rfl, m1⟩
    have ga := grown_trans m1 (grown_alloc w1 (.cells #[.int .i64 pg, .int .i64 pk, .int .i64 pb, .int .i64 pz, .int .i64 ps, .bool pr] 37) none)
    obtain ⟨a0, a1, a2, a3, a4, a5⟩ := sx_alloc w1 (.int .i64 pg) (.int .i64 pk) (.int .i64 pb) (.int .i64 pz) (.int .i64 ps) (.bool pr) 37
    have HGA := Lib.hid ga
    clear m1 ga
    go_wp2
    go_ret
    have key := HO.out _ HGA.out
    rw [hal] at key
    exact ⟨.slice (some ⟨w1.heap.size + 1, 0, none⟩) 1 1, rfl, grown_trans HGA.out (grown_alloc _ _ _), key, fun x => nomatch x⟩
  · have hz0' : V.Z g = 0 := Classical.not_not.1 hz
    have HG := Lib.hid (greatPlace_none h (g : Int) hwg (by unfold zV; rw [if_pos (by omega)]; exact hz0'))
    unfold fndV pc0 at HG
    simp only at HG
    have H := Lib.hid h
    cases hl : V.L g with
    | none =>
      have hL : lvP V g = [] := by unfold lvP; rw [if_neg hz, hl]
      rw [hL]
      have HS := Lib.hid (fun W (g1 : w.grownBy W none) => slots_none (h.grown g1) (g : Int) hwg (fun j hj => (by rw [show j = g by omega]; exact hl)))
      have HT := Lib.hid (fun W => state_nil 0 W)
      clear h hz hz0' hL hl hwg
      go_enter Tryz.func60, Tryz.ntmps60
      go_wp2_with fail
      refine HG.out.mono ?_
      rintro e w1 ⟨rfl, m1⟩
      have HGA := Lib.hid (grown_trans m1 (grown_alloc w1 (.cells #[.int .i64 0, .int .i64 0, .int .i64 0, .int .i64 0, .int .i64 0, .bool false] 37) none))
      clear m1
      go_wp2_with fail
      refine (HS.out _ HGA.out).mono ?_
      rintro e w2 ⟨rfl, m2⟩
      have HG2 := Lib.hid (grown_trans HGA.out m2)
      clear m2
      go_wp2_with fail
      obtain ⟨w3, hw3⟩ : ∃ w3 : World, w3 = w2 := ⟨_, rfl⟩
      clear hw3
      go_loopw [7, 9] (fun s i wr => s = .slice none 0 0 ∧ i = .int .i64 0 ∧ wr = w2) (fun _ _ _ => 0)
      case atStart => exact ⟨rfl, rfl, rfl⟩
      case round =>
        obtain ⟨rfl, rfl, rfl⟩ := hrel
        go_wp2_with fail
        refine (HT.out _).mono ?_
        rintro e w5 ⟨rfl, rfl⟩
        go_wp2
        go_ret
        refine ⟨_, rfl, HG2.out, ?_, fun _ => ?_⟩
        · exact World.ownsRow_nil _ _ _ _
        · rfl
    | some d =>
      have hL : lvP V g = lvS g d d.n := by unfold lvP; rw [if_neg hz, hl]
      rw [hL]
      have hd := (h.ok.sl g d hl).2.2
      have HS := Lib.hid (fun W (g1 : w.grownBy W none) => slots_some (h.grown g1) hl)
      have HT := Lib.hid (fun W (g1 : w.grownBy W none) k => sla_page (h.grown g1) hl k)
      have HP := Lib.hid (fun W (g1 : w.grownBy W none) k (hk : k < d.n) => slotPlace_at (h.grown g1) hl hk)
      have hn : d.n ≤ 16 := by have hc := hd.c; rcases hc with ⟨_, _, h, _⟩ | ⟨_, _, h, _⟩ | ⟨_, _, h, _⟩ | ⟨_, _, h, _⟩ <;> omega
      have HN := Lib.hid hn
      have HST := Lib.hid hd.st
      clear h hz hz0' hL hl hwg hd hn
      go_enter Tryz.func60, Tryz.ntmps60
      go_wp2_with fail
      refine HG.out.mono ?_
      rintro e w1 ⟨rfl, m1⟩
      have HGA := Lib.hid (grown_trans m1 (grown_alloc w1 (.cells #[.int .i64 0, .int .i64 0, .int .i64 0, .int .i64 0, .int .i64 0, .bool false] 37) none))
      clear m1
      go_wp2_with fail
      refine (HS.out _ HGA.out).mono ?_
      rintro e w2 ⟨rfl, m2⟩
      have HG2 := Lib.hid (grown_trans HGA.out m2)
      clear m2
      go_wp2_with fail
      obtain ⟨w3, hw3⟩ : ∃ w3 : World, w3 = w2 := ⟨_, rfl⟩
      clear hw3
      go_loopw [7, 9] (fun s i wr => ∃ k : Nat, k ≤ d.n ∧ i = .int .i64 k ∧ w.grownBy wr none ∧ POwn wr w.heap.size s (lvS g d k) ∧ (lvS g d k = [] → s = .slice none 0 0)) (fun _ i _ => d.n - (intOf i).toNat)
      case atStart => exact ⟨0, by omega, rfl, HG2.out, World.ownsRow_nil _ _ _ _, fun _ => rfl⟩
      case round =>
        obtain ⟨k, hk, rfl, hg1, hown, hnil⟩ := hrel
        obtain ⟨A1, cc, rfl, hc1⟩ := bown_shape hown
        have HG3 := Lib.hid hg1
        have HNIL := Lib.hid hnil
        have hll := lvS_len g d k
        obtain ⟨ln, hln⟩ : ∃ ln, (lvS g d k).length = ln := ⟨_, rfl⟩
        rw [hln] at hc1 hll hown HNIL ⊢
        have HO := Lib.hid hown
        have HLN := Lib.hid hln
        have hli : (ln : Int) ≤ 16 := by have := HN.out; omega
        have hlc : (ln : Int) ≤ cc := by omega
        have HK : Hid (k ≤ d.n ∧ ln ≤ k) := Lib.hid ⟨hk, hll⟩
        clear hg1 hown hnil hln hll hc1
        by_cases hlt : k < d.n
        · have HTT : Hid (∀ W, w.grownBy W none → Calls Tryz.prog 118 #[.pointer (some ⟨(A.xs g).p, 0, none⟩), .int .i64 k] W fun e w' => e = .returned (.int .i64 (d.S k : Nat)) ∧ W = w') := Lib.hid (fun W g1 => by
            have key := HT.out W g1 k
            rw [if_pos hlt] at key
            exact key)
          have HPP := Lib.hid (fun W g1 => HP.out W g1 k hlt)
          have HS2 : Hid (lvS g d (k + 1) = if d.S k = 1 then lvS g d k ++ [spc g d k] else lvS g d k) := Lib.hid rfl
          have ex : (((d.S k : Nat) : Int) != -1) = true := bne_iff_ne.2 (by omega)
          obtain ⟨y, hy⟩ : ∃ y, d.S k = y := ⟨_, rfl⟩
          have HLT : Hid (k < d.n) := Lib.hid hlt
          have hk16 : (k : Int) ≤ 16 := by have := HN.out; omega
          rw [hy] at HTT HS2 ex
          clear hk hlt hy
          generalize hyi : ((y : Nat) : Int) = yi at *
          go_wp2_with fail
          refine (HTT.out _ HG3.out).mono ?_
          rintro e w5 ⟨rfl, rfl⟩
          go_wp2_with fail
          refine (HTT.out _ HG3.out).mono ?_
          rintro e w5 ⟨rfl, rfl⟩
          by_cases h1 : y = 1
          · subst h1
            obtain rfl : yi = 1 := by omega
            have HS3 : Hid (lvS g d (k + 1) = lvS g d k ++ [spc g d k]) := Lib.hid (by rw [HS2.out]; exact if_pos rfl)
            clear HS2 hyi
            obtain ⟨p, hp⟩ : ∃ p, spc g d k = p := ⟨_, rfl⟩
            rw [hp] at HPP HS3
            clear hp
            unfold pcv at HPP
            obtain ⟨pg, hpg⟩ : ∃ pg : Int, ((p.g : Nat) : Int) = pg := ⟨_, rfl⟩
            obtain ⟨pk, hpk⟩ : ∃ pk : Int, ((p.k : Nat) : Int) = pk := ⟨_, rfl⟩
            obtain ⟨pb, hpb⟩ : ∃ pb : Int, ((p.b : Nat) : Int) = pb := ⟨_, rfl⟩
            obtain ⟨pz, hpz⟩ : ∃ pz : Int, ((p.z : Nat) : Int) = pz := ⟨_, rfl⟩
            obtain ⟨ps, hps⟩ : ∃ ps : Int, ((p.st : Nat) : Int) = ps := ⟨_, rfl⟩
            obtain ⟨pr, hpr⟩ : ∃ pr, p.gr = pr := ⟨_, rfl⟩
            have HPC : Hid (pcells [p] = [.int .i64 pg, .int .i64 pk, .int .i64 pb, .int .i64 pz, .int .i64 ps, .bool pr]) := Lib.hid (by rw [pcv_one, hpg, hpk, hpb, hpz, hps, hpr])
            rw [hpg, hpk, hpb, hpz, hps, hpr] at HPP
            clear hpg hpk hpb hpz hps hpr
            go_wp2_with fail
            refine (HPP.out _ HG3.out).mono ?_
            rintro e w5 ⟨rfl, m5⟩
            have HG5 := Lib.hid (grown_trans HG3.out m5)
            have HO5 : Hid (POwn w5 w.heap.size (.slice A1 ln cc) (lvS g d k)) := Lib.hid (World.ownsRow.kept HO.out m5 (Classical.em _))
            have HO6 : Hid (w5.ownsRow w.heap.size 37 6 (.slice A1 ln cc) ln (pcells (lvS g d k))) := Lib.hid (by have := HO5.out; unfold POwn at this; rw [HLN.out] at this; exact this)
            clear m5
            go_wp2_with (at_builtin; refine wpList_append_own _ rfl _ _ 30 rfl w.heap.size 37 i0 (.agg #[.int .i64 0, .int .i64 0, .int .i64 0, .int .i64 0, .int .i64 0, .bool false]) 6 48 Tryz.underlying30 hi hz0 hz1 hz2 rfl (by decide) _ _ _ rfl (HO6.out.alloc _) ⟨w5.heap.size, 0, none⟩ 1 1 [.int .i64 pg, .int .i64 pk, .int .i64 pb, .int .i64 pz, .int .i64 ps, .bool pr] rfl ?c1 ?c2 ?c3 ?c4 ?c5 ?c6 ?_)
            case c1 => rfl
            case c2 => exact fun j u hj => six_cells w5 _ _ _ _ _ _ _ j u hj
            case c3 => exact fun u hu => by simp at hu; rcases hu with rfl | rfl | rfl | rfl | rfl | rfl <;> rfl
            case c4 => simp only [maxLen]; omega
            case c5 => omega
            case c6 => have := HG5.out.size; simp; omega
            intro v' w6 h2' h3' h4'
            have HE := Lib.hid (ponto_end (p := p) _ HG5.out HO5.out (by rw [HLN.out, HPC.out]; exact h2') h3')
            clear h2' h3' h4'
            go_wp2
            go_roundw
            case rel => exact ⟨k + 1, by have := HLT.out; omega, by go_num, HE.out.2, by rw [HS3.out]; exact HE.out.1, fun x => by rw [HS3.out] at x; simp at x⟩
            case measure => have := HLT.out; simp [intOf]; omega
          · have hy1 : (yi == 1) = false := by simpa using (by omega : yi ≠ 1)
            have HS3 : Hid (lvS g d (k + 1) = lvS g d k) := Lib.hid (by rw [HS2.out]; exact if_neg h1)
            clear HS2 hyi h1
            go_wp2
            go_roundw
            case rel => exact ⟨k + 1, by have := HLT.out; omega, by go_num, HG3.out, by rw [HS3.out]; exact HO.out, by rw [HS3.out]; exact HNIL.out⟩
            case measure => have := HLT.out; simp [intOf]; omega
        · obtain rfl : k = d.n := by omega
          have HTT : Hid (Calls Tryz.prog 118 #[.pointer (some ⟨(A.xs g).p, 0, none⟩), .int .i64 (d.n : Nat)] wr fun e w' => e = .returned (.int .i64 (-1)) ∧ wr = w') := Lib.hid (by
            have key := HT.out wr HG3.out d.n
            rw [if_neg hlt] at key
            exact key)
          clear hk hlt
          go_wp2_with fail
          refine HTT.out.mono ?_
          rintro e w5 ⟨rfl, rfl⟩
          go_wp2
          go_ret
          exact ⟨_, rfl, HG3.out, HO.out, HNIL.out⟩
theorem grown_onto' {a b c : World} {r : Option Nat} (h : a.grownBy b none) (k : b.grownBy c r) (hq : ∀ q, r = some q → a.heap.size ≤ q) : a.grownBy c none := by
  cases r with
  | none => exact grown_trans h k
  | some q => exact grown_own h k (hq q rfl)
theorem cfg_field0' (a b c : Int) (w : World) : (Instr.field 60 (.agg #[.int .i64 a, .int .i64 b, .int .u64 c]) 0).run Tryz.prog w = .ok (.int .i64 a) w := by kernel_rfl
set_option maxRecDepth 100000 in
set_option maxHeartbeats 4000000 in
theorem live9_at {w : World} {A : Rp} {V : St} {cnt : Nat} (h : RnAt w A V cnt) :
    Calls Tryz.prog 12 #[.pointer (some ⟨A.p, 0, none⟩)] w fun e w' => PList w w' (lvL V V.m) e := by
  have HC := Lib.hid (config_at h.toRnW)
  have hf := cfg_field0'
  have hm : V.m ≤ 256 := by have := h.ok.n256; have := h.ok.mn; omega
  have HL : Hid (∀ W, w.grownBy W none → ∀ g, g < V.m → Calls Tryz.prog 60 #[.pointer (some ⟨A.p, 0, none⟩), .int .i64 g] W fun e w' => PList W w' (lvP V g) e) := Lib.hid (fun W g1 g hg => liveFrom_at (h.grown g1) (by omega))
  have HLEN := Lib.hid (fun g => And.intro (lvL_len h.ok g) (lvP_len h.ok g))
  obtain ⟨i0, hi, hz0, hz1, hz2⟩ := info_parts infoPlace
  obtain ⟨m, hmm⟩ : ∃ m, V.m = m := ⟨_, rfl⟩
  rw [hmm] at HC hm HL ⊢
  have hmi : (m : Int) ≤ 256 := by omega
  have HM := Lib.hid hm
  obtain ⟨z, hz⟩ : ∃ z : Int, (V.n : Int) - (m : Int) = z := ⟨_, rfl⟩
  rw [hz] at HC
  clear h hmm hm hz
  go_enter Tryz.func12, Tryz.ntmps12
  go_wp2_with fail
  refine HC.out.mono ?_
  rintro e w1 ⟨rfl, m1⟩
  have HG1 := Lib.hid m1
  clear m1 HC
  go_wp2_with fail
  obtain ⟨w3, hw3⟩ : ∃ w3 : World, w3 = w1 := ⟨_, rfl⟩
  clear hw3
  go_loopw [3, 8] (fun s i wr => ∃ k : Nat, k ≤ m ∧ i = .int .i64 k ∧ w.grownBy wr none ∧ POwn wr w.heap.size s (lvL V k) ∧ (lvL V k = [] → s = .slice none 0 0)) (fun _ i _ => m - (intOf i).toNat)
  case atStart => exact ⟨0, by omega, rfl, HG1.out, World.ownsRow_nil _ _ _ _, fun _ => rfl⟩
  case round =>
    obtain ⟨k, hk, rfl, hg1, hown, hnil⟩ := hrel
    obtain ⟨A1, cc, rfl, hc1⟩ := bown_shape hown
    have HG3 := Lib.hid hg1
    have HNIL := Lib.hid hnil
    have hll := (HLEN.out k).1
    obtain ⟨ln, hln⟩ : ∃ ln, (lvL V k).length = ln := ⟨_, rfl⟩
    rw [hln] at hc1 hll hown HNIL ⊢
    have HO := Lib.hid hown
    have HLN := Lib.hid hln
    have hli : (ln : Int) ≤ 4096 := by have := HM.out; omega
    have hlc : (ln : Int) ≤ cc := by omega
    have HK : Hid (k ≤ m ∧ ln ≤ 4096) := Lib.hid ⟨hk, by omega⟩
    clear hg1 hown hnil hln hll hc1
    by_cases hlt : k < m
    · have hki : (k : Int) < m := by omega
      have HLF := Lib.hid (HL.out _ HG3.out k hlt)
      have HLT : Hid (k < m) := Lib.hid hlt
      have HS : Hid (lvL V (k + 1) = lvL V k ++ lvP V k) := Lib.hid rfl
      have HP16 := Lib.hid (HLEN.out k).2
      obtain ⟨L, hL⟩ : ∃ L, lvP V k = L := ⟨_, rfl⟩
      rw [hL] at HLF HS HP16
      clear hk hlt hL
      go_wp2_with fail
      refine HLF.out.mono ?_
      rintro e w5 ⟨v5, rfl, m5, hown5, hnil5⟩
      have HG5 := Lib.hid (grown_trans HG3.out m5)
      have HO5 : Hid (POwn w5 w.heap.size (.slice A1 ln cc) (lvL V k)) := Lib.hid (World.ownsRow.kept HO.out m5 (Classical.em _))
      have HO6 : Hid (w5.ownsRow w.heap.size 37 6 (.slice A1 ln cc) ln (pcells (lvL V k))) := Lib.hid (by have := HO5.out; unfold POwn at this; rw [HLN.out] at this; exact this)
      clear m5
      cases L with
      | nil =>
        obtain rfl := hnil5 rfl
        clear hown5 hnil5
        have HS3 : Hid (lvL V (k + 1) = lvL V k) := Lib.hid (by rw [HS.out, List.append_nil])
        go_wp2_with (at_builtin; refine wpList_append_own_none rfl _ _ 30 rfl w.heap.size 37 i0 6 Tryz.underlying30 hi _ _ _ rfl HO6.out rfl ?_)
        go_wp2
        go_roundw
        case rel => exact ⟨k + 1, by have := HLT.out; omega, by go_num, HG5.out, by rw [HS3.out]; exact HO5.out, by rw [HS3.out]; exact HNIL.out⟩
        case measure => have := HLT.out; simp [intOf]; omega
      | cons p l =>
        obtain ⟨A5, c5, rfl, hc5⟩ := bown_shape hown5
        obtain ⟨g5, rfl, -, -, hcl⟩ := (pown_elems hown5).resolve_left (by simp)
        have HCL := Lib.hid hcl
        obtain ⟨l5, hl5⟩ : ∃ l5, (p :: l).length = l5 := ⟨_, rfl⟩
        rw [hl5] at HP16 hc5 ⊢
        have HL5 := Lib.hid hl5
        have hl16 : (l5 : Int) ≤ 16 := by have := HP16.out; omega
        have hlc5 : (l5 : Int) ≤ c5 := by omega
        have HNE : Hid (lvL V (k + 1) ≠ []) := Lib.hid (by rw [HS.out]; simp)
        clear hown5 hnil5 hcl hl5 hc5
        go_wp2_with (at_builtin; refine wpList_append_own _ rfl _ _ 30 rfl w.heap.size 37 i0 (.agg #[.int .i64 0, .int .i64 0, .int .i64 0, .int .i64 0, .int .i64 0, .bool false]) 6 48 Tryz.underlying30 hi hz0 hz1 hz2 rfl (by decide) _ _ _ rfl HO6.out ⟨g5, 0, none⟩ l5 c5 (pcells (p :: l)) rfl ?c1 ?c2 ?c3 ?c4 ?c5 ?c6 ?_)
        case c1 => rw [pcells_length, HL5.out]
        case c2 => exact fun j u hj => by rw [An.aaddr_add]; exact HCL.out j u hj
        case c3 => exact pcells_cell _
        case c4 => simp only [maxLen]; omega
        case c5 => omega
        case c6 => have := HG5.out.size; omega
        intro v' w6 h2' h3' h4'
        have HE : Hid (POwn w6 w.heap.size v' (lvL V (k + 1)) ∧ w.grownBy w6 none) := Lib.hid ⟨by
            unfold POwn
            rw [HS.out, List.length_append, pcells_append, HLN.out, HL5.out]
            exact h2', grown_onto' HG5.out h3' (fun q hq => (World.ownsRow.lt HO6.out q hq).1)⟩
        clear h2' h3' h4'
        go_wp2
        go_roundw
        case rel => exact ⟨k + 1, by have := HLT.out; omega, by go_num, HE.out.2, HE.out.1, fun x => absurd x HNE.out⟩
        case measure => have := HLT.out; simp [intOf]; omega
    · obtain rfl : k = m := by omega
      have hki : ¬ (k : Int) < k := by omega
      clear hk hlt
      go_wp2
      go_ret
      exact ⟨_, rfl, HG3.out, HO.out, HNIL.out⟩
end Go.Proofs.YtgnfcklippjeeaaGreat
