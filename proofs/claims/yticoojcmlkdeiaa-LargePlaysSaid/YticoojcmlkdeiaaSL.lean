/- The walk of the law SlabApart. -/
import Derived.Test.YticoojcmlkdeiaaSK
import Derived.Laws.BytesArg
import Derived.RegionTactic
import Derived.ChangeAlike
import Derived.BigRegion
namespace Go.Proofs.Yticoojcmlkdeiaa
open Go.RowKit
open Sl (Cls bs upd)

/-- Bytes that came in. -/
def BArg (w : World) (A : Option Addr) (n : Nat) (S : Nat → Nat) : Prop := n = 0 ∨ ∃ b off, A = some ⟨b, off, none⟩ ∧ ∀ i, i < n → w.cell? ⟨b, off + i, none⟩ = some (.int .u8 (S i : Nat))
theorem BArg.grown {w w' : World} {A : Option Addr} {n : Nat} {S : Nat → Nat} (h : BArg w A n S) (hg : w.grownBy w' none) : BArg w' A n S := h.imp id (fun ⟨b, off, e, h⟩ => ⟨b, off, e, fun i hi => hg.cell (h i hi) (by simp)⟩)
theorem BArg.less {w : World} {A : Option Addr} {n m : Nat} {S : Nat → Nat} (h : BArg w A n S) (hm : m ≤ n) : BArg w A m S := by
  rcases h with h | ⟨b, off, e, h⟩
  · exact .inl (by omega)
  · exact .inr ⟨b, off, e, fun i hi => h i (by omega)⟩
theorem conv_zero (w : World) (q n c : Nat) (B : Nat → Nat) (hb : An.BytesAt w q n B) (he : ∀ i, i < n → B i = 0) : (convert 26 9 (.slice (some ⟨q, 0, none⟩) n c)).run Try.prog w = .ok (.string (strOfNums ((List.range n).map fun _ => (0 : Int)))) w := by
  refine run_convert_bytes_arg w 26 5 Try.underlying26 (by kernel_rfl) q 0 n c _ (by simp) (fun i hi => ?_) 9 (by kernel_rfl)
  rw [Nat.zero_add, hb.c i hi, he i hi]
  simp [List.getD, hi]
theorem Young.write {w0 w : World} {X : Pl} {Y : Nm} {S : Nat → Nat} {F : List Nat} {B : Nat → Nat} {k n c : Nat} {A : Option Addr} {V : Nat → Nat} (h : Young w0 w X Y S F B) (hk : k < Y.n) (hS : S k = 1) (hn : n ≤ Y.r) (hV : ∀ i, V i < 256) (hA : BArg w A n V) :
    Calls Try.prog 19 #[.pointer (some ⟨X.pa, 0, none⟩), .int .i64 (bs Y.g Y.s k : Nat), .slice A n c] w fun e w' => e = .returned (.int .i64 0) ∧ Young w0 w' X Y S F (Ar.setB B (bs Y.g Y.s k) n V) ∧ Fr X.may w w' := by
  have hb := bs_bd h.at_.ok hk
  have hr := h.at_.ok.c.facts.rs
  refine (An.store_good h.at_.ar (bs Y.g Y.s k) n c A V (by omega) hV hA).mono ?_
  rintro e w' ⟨he, ha, hg⟩
  have hf : Fr X.may w w' := fr_some hg (fun _ => .inr (.inl rfl))
  exact ⟨he, h.step (h.at_.arena hg ha) (h.inv.write h.at_.ok.c hk hS hn) hf, hf⟩
def ARel (w wr : World) (pp : Nat) (X : Pl) (Y : Nm) : Prop := ∃ S F B, Young w wr X Y S F B ∧ Pair wr pp X
set_option maxRecDepth 100000 in
set_option maxHeartbeats 40000000 in
theorem slabApart_cls {c s n r : Nat} (seed : Nat) (cl : Int) (A bA : Option Addr) (len cap bl bc : Nat) (O : Nat → SOp) (V : Nat → Nat) (w : World) (hcl : cl % 4 = (c : Int)) (hc : Cls c s n r) (hm : len ≤ 9223372036854775807) (hO : SOpsAt w A len O)
    (hbl : bl ≤ bc) (hV : ∀ i, V i < 256) (hB : BArg w bA bl V) :
    Calls Try.prog 4 #[.int .u64 seed, .int .i64 cl, .slice A len cap, .slice bA bl bc] w fun e w' => e = .returned (.bool true) ∧ w.grownBy w' none := by
  have e1 : bits .and .i64 cl 3 = (c : Int) := (i64_and3 cl).trans hcl
  have HM := Lib.hid (pmake_at seed 1 w hc (by omega))
  have HO := Lib.hid hO
  have HV := Lib.hid (And.intro hV hB)
  have HCl := Lib.hid hc
  have HSz := Lib.hid (fun w => rsize_at hc w)
  have HSs := Lib.hid (fun w => rslots_at hc w)
  have hr8 := hc.facts.rs
  have hs128 := hc.facts.s128
  have hs16 := hc.facts.s16
  have hn16 := hc.facts.n16
  clear hc hcl hO hV hB
  go_enter Try.func4, Try.ntmps4
  go_wp2_with fail
  refine HM.out.mono ?_
  rintro e w1 ⟨pp, acap, X, B, rfl, hp0, hp1, hy, hpp, hnm⟩
  have HR := Lib.hid (show ARel w w1 pp X (nm seed c s n r acap) from ⟨_, _, _, hy, ⟨hp0, hp1, hnm⟩⟩)
  clear hp0 hp1 hy hpp hnm HM
  go_wp2_with fail
  obtain ⟨w2, rfl⟩ : ∃ w2 : World, w2 = w1 := ⟨_, rfl⟩
  go_loopw [3, 32] (fun vb i wr => ∃ m l cc : Nat, m ≤ len ∧ i = .int .i64 m ∧ vb = .slice bA l cc ∧ l ≤ bl ∧ l ≤ cc ∧ ARel w wr pp X (nm seed c s n r acap)) (fun _ i _ => len - (intOf i).toNat)
  case atStart => exact ⟨0, bl, bc, Nat.zero_le _, rfl, rfl, Nat.le_refl _, hbl, HR.out⟩
  case round =>
    clear HR e1
    obtain ⟨m, l, cc, hm', rfl, rfl, hl1, hl2, hr⟩ := hrel
    obtain ⟨S, F, B', hy, hp⟩ := hr
    have HY := Lib.hid hy
    have HP := Lib.hid hp
    clear hy hp
    by_cases hlt : m < len
    ·
      obtain ⟨b, off, rfl, hO⟩ := HO.out.resolve_left (by omega)
      have hg := HY.out.all
      obtain ⟨d0, d1, d2, d3⟩ := (hO m hlt).grown hg
      clear hg hO
      generalize O m = t at *
      obtain ⟨tk, tn, ta, tA, tl, tc⟩ := t
      simp only at d0 d1 d2 d3
      go_upto_region 8 with (fail)
      have hg3 := grown_alloc wr (.cells #[.int .i64 tk, .int .i64 tn, .int .i64 ta, .slice tA tl tc] 28) none
      have o0 : (wr.alloc (.cells #[.int .i64 tk, .int .i64 tn, .int .i64 ta, .slice tA tl tc] 28)).cell? ⟨wr.heap.size, 0, none⟩ = some (.int .i64 tk) := by rw [cell_alloc_new]; rfl
      have o1 : (wr.alloc (.cells #[.int .i64 tk, .int .i64 tn, .int .i64 ta, .slice tA tl tc] 28)).cell? ⟨wr.heap.size, 1, none⟩ = some (.int .i64 tn) := by rw [cell_alloc_new]; rfl
      have HY2 := Lib.hid (HY.out.grown hg3)
      have HP2 := Lib.hid (HP.out.grown hg3)
      have HNO := Lib.hid HY.out.at_.new_ne
      clear d0 d1 d2 d3 hg3 HY HP
      generalize wr.alloc (.cells #[.int .i64 tk, .int .i64 tn, .int .i64 ta, .slice tA tl tc] 28) = w3 at *
      generalize wr.heap.size = ob at *
      by_cases h40 : 40 ≤ m
      · clear o0 o1
        have HQ0 := Lib.hid (fun d => count_at (HY2.out.at_.grown (grown_drew (grown_refl w3 none) d)) HY2.out.inv.st 0)
        have HQ1 := Lib.hid (fun d => count_at (HY2.out.at_.grown (grown_drew (grown_refl w3 none) d)) HY2.out.inv.st 1)
        have HQ2 := Lib.hid (fun d => count_at (HY2.out.at_.grown (grown_drew (grown_refl w3 none) d)) HY2.out.inv.st 2)
        have hall : Sl.cnt S 0 n + Sl.cnt S 1 n + Sl.cnt S 2 n = n := Sl.cnt_all HY2.out.inv.st n
        rw [show (nm seed c s n r acap).n = n from rfl] at HQ0 HQ1 HQ2
        have q1 : IntKind.i64.wrap ((Sl.cnt S 0 n : Nat) + (Sl.cnt S 1 n : Nat)) = ((Sl.cnt S 0 n + Sl.cnt S 1 n : Nat) : Int) := by rw [IntKind.wrap_i64]; omega
        have q2 : IntKind.i64.wrap (((Sl.cnt S 0 n + Sl.cnt S 1 n : Nat) : Int) + (Sl.cnt S 2 n : Nat)) = (n : Int) := by rw [IntKind.wrap_i64]; omega
        have p1 := HP2.out.2.1
        have HA := Lib.hid HY2.out.all
        clear hall
        generalize ((Sl.cnt S 0 n + Sl.cnt S 1 n : Nat) : Int) = c01 at *
        generalize Sl.cnt S 0 n = c0 at *
        generalize Sl.cnt S 1 n = c1 at *
        generalize Sl.cnt S 2 n = c2 at *
        go_upto_region 31 with (fail)
        go_quiet (first
          | (go_at_call 20; (with_reducible exact quiet_left (HQ0.out _)))
          | (go_at_call 20; (with_reducible exact quiet_left (HQ1.out _)))
          | (go_at_call 20; (with_reducible exact quiet_left (HQ2.out _))))
        rename_i nq
        have HA2 := Lib.hid (grown_trans HA.out (grown_drew (grown_refl w3 none) nq))
        clear HQ0 HQ1 HQ2 q1 q2 p1 HA
        generalize w3.drewN nq = wF at *
        go_wp2_with (first
          | (go_at_call 21; refine (HSs.out _).mono ?_; rintro e w' ⟨rfl, rfl⟩)
          | (go_at_call 15; refine (sawake_at _).mono ?_; rintro e w7 ⟨rfl, hg⟩; have HE := Lib.hid (grown_trans HA2.out hg); clear hg))
        go_ret
        exact ⟨rfl, HE.out⟩
      ·
        have p1 := HP2.out.2.1
        have HSt := Lib.hid (fun d => state_at (HY2.out.at_.grown (grown_drew (grown_refl w3 none) d)) HY2.out.inv.st tn)
        obtain ⟨st, hst⟩ : ∃ st, stV (nm seed c s n r acap) S tn = st := ⟨_, rfl⟩
        rw [hst] at HSt
        have HST := Lib.hid hst
        clear hst
        go_upto_region 9 with (fail)
        go_quiet ((go_at_call 16; exact quiet_left (HSt.out _)))
        rename_i nq
        have g3 := grown_drew (grown_refl w3 none) nq
        have HY3 := Lib.hid (HY2.out.grown g3)
        have HP3 := Lib.hid (HP2.out.grown g3)
        replace o0 := g3.cell o0 (by simp)
        replace o1 := g3.cell o1 (by simp)
        replace p1 := HP3.out.2.1
        clear HSt g3 HY2 HP2
        generalize w3.drewN nq = w3 at *
        by_cases hk2 : tk ≤ 2
        ·
          cases F with
          | nil =>
            have HT := Lib.hid HY3.out.take0
            go_wp2_with fail
            refine HT.out.mono ?_
            rintro e w4 ⟨rfl, rfl⟩
            clear HT p1 o1 o0 HST
            go_wp2
            go_roundw
            case rel => exact ⟨m + 1, l, cc, by omega, by go_num, rfl, hl1, hl2, _, _, _, HY3.out, HP3.out⟩
            case measure => simp [intOf]; omega
          | cons k t =>
            have HK := Lib.hid (HY3.out.inv.fr k (by simp))
            have HT := Lib.hid HY3.out.take
            obtain ⟨x, hx⟩ : ∃ x : Nat, ((bs (nm seed c s n r acap).g (nm seed c s n r acap).s k : Nat) : Int) = (x : Int) := ⟨_, rfl⟩
            have hxb : x + s ≤ 512 ∧ 256 ≤ x := by
              have h1 := Sl.bs_hi HCl.out 1 HK.out.1
              have h2 := Sl.bs_lo 1 s k
              have h3 : ((bs 1 s k : Nat) : Int) = (x : Int) := hx
              omega
            have ex : ((s : Nat) : Int) * (k : Nat) = (x : Int) - 256 := by
              rw [← hx]
              show _ = ((1 * 256 + k * s : Nat) : Int) - 256
              rw [Int.mul_comm]
              have : ((k * s : Nat) : Int) = (k : Int) * s := by simp
              omega
            obtain ⟨y, hy⟩ : ∃ y : Int, ((s : Nat) : Int) * (k : Nat) = y := ⟨_, rfl⟩
            have ey : 256 + y = (x : Int) := by omega
            have hy0 : -9223372036854775808 ≤ y ∧ y ≤ 9223372036854775807 := by omega
            have er : ((s : Nat) : Int) - 8 = (r : Int) := by omega
            have HX := Lib.hid hx
            clear ex hx
            go_wp2_with fail
            refine HT.out.mono ?_
            rintro e w4 ⟨rfl, hyy, hf⟩
            have HY4 := Lib.hid hyy
            have HP4 := Lib.hid (HP3.out.fr hf)
            have q0 := HP4.out.1
            clear hyy hf HT p1 o1 o0 HST
            go_wp2_with fail
            refine (HSz.out _).mono ?_
            rintro e w' ⟨rfl, rfl⟩
            go_wp2_with fail
            refine (HSz.out _).mono ?_
            rintro e w' ⟨rfl, rfl⟩
            have HLo := Lib.hid (An.aload_good HY4.out.at_.ar x r (by show x + r ≤ 768; omega))
            go_wp2_with fail
            refine HLo.out.mono ?_
            rintro e w5 ⟨q5, cap5, rfl, k1, k2, k3, k4⟩
            have HY5 := Lib.hid (HY4.out.grown k4)
            have HP5 := Lib.hid (HP4.out.grown k4)
            have HB5 := Lib.hid k3
            have HZ5 : Hid (∀ i, i < r → Sl.takeB (nm seed c s n r acap).key (nm seed c s n r acap).g (nm seed c s n r acap).s (nm seed c s n r acap).r k B' (x + i) = 0) := Lib.hid (fun i hi => by
              have h3 : bs 1 s k = x := by have : ((bs 1 s k : Nat) : Int) = (x : Int) := HX.out; omega
              rw [← h3]
              exact Sl.takeB_in hi)
            clear k1 k2 k3 k4 q0 HLo HY4 HP4 ey hy0 hy
            go_upto_region 16 with (fail)
            have g6 : w5.grownBy ((w5.alloc (.cells (An.zeroBytes r) 5)).drew) none := grown_drew1 (grown_alloc _ _ _)
            have hc1 := conv_zero w5.drew q5 r cap5 _ HB5.out.drew HZ5.out
            have hc2 := conv_zero ((w5.alloc (.cells (An.zeroBytes r) 5)).drew) q5 r cap5 _ (HB5.out.grown g6 (by simp)) HZ5.out
            have hc3 := conv_zero ((w5.alloc (.cells (An.zeroBytes r) 5)).drew) w5.heap.size r r _ (An.bytes_new w5 5 r).drew (fun _ _ => rfl)
            have hmk : (Instr.makeSlice 26 (.int .i64 (r : Int)) (.int .i64 (r : Int))).run Try.prog w5.drew = .ok (.slice (some ⟨w5.heap.size, 0, none⟩) r r) ((w5.alloc (.cells (An.zeroBytes r) 5)).drew) := An.make_bytes w5.drew r (by omega)
            have HY6 := Lib.hid (HY5.out.grown g6)
            have HP6 := Lib.hid (HP5.out.grown g6)
            clear g6 HY5 HP5 HB5 HZ5
            generalize strOfNums ((List.range r).map fun _ => (0 : Int)) = str at *
            go_cut [82] (fun v W => v = .bool false ∧ Young w W X (nm seed c s n r acap) (upd S k 1) t (Sl.takeB (nm seed c s n r acap).key (nm seed c s n r acap).g (nm seed c s n r acap).s (nm seed c s n r acap).r k B') ∧ Pair W pp X)
            case first =>
              go_region
              all_goals
                go_wp2
                go_meet
                exact ⟨rfl, HY6.out, HP6.out⟩
            case rest =>
              obtain ⟨rfl, hy6, hp6⟩ := hcut
              clear hc1 hc2 hc3 hmk HY6 HP6
              have HY6 := Lib.hid hy6
              have HP6 := Lib.hid hp6
              clear hy6 hp6
              by_cases hbig : r < l
              · have hbA : ∃ b off, bA = some ⟨b, off, none⟩ := by
                  rcases HV.out.2 with h | ⟨b, off, e, _⟩
                  · omega
                  · exact ⟨b, off, e⟩
                obtain ⟨bb, boff, rfl⟩ := hbA
                have hrc : (r : Int) ≤ cc := by omega
                have HSt := Lib.hid (HY6.out.write (k := k) (n := r) (c := cc) (A := some ⟨bb, boff, none⟩) (V := V) HK.out.1 (Sl.upd_same _ _ _) (Nat.le_refl _) HV.out.1 ((HV.out.2.grown HY6.out.all).less (by omega)))
                rw [show ((bs (nm seed c s n r acap).g (nm seed c s n r acap).s k : Nat) : Int) = (x : Int) from HX.out] at HSt
                have q0 := HP6.out.1
                go_wp2_with fail
                refine HSt.out.mono ?_
                rintro e w7 ⟨rfl, hy, hf⟩
                have HY7 := Lib.hid hy
                have HP7 := Lib.hid (HP6.out.fr hf)
                clear hy hf HSt q0
                have p2 := HP7.out.2.1
                have HC := Lib.hid HY7.out.check
                go_wp2_with fail
                refine HC.out.mono ?_
                rintro e w9 ⟨rfl, hg⟩
                have HY9 := Lib.hid (HY7.out.grown hg)
                have HP9 := Lib.hid (HP7.out.grown hg)
                clear hg HC p2
                go_wp2
                go_roundw
                case rel => exact ⟨m + 1, r, cc, by omega, by go_num, rfl, by omega, by omega, _, _, _, HY9.out, HP9.out⟩
                case measure => simp [intOf]; omega
              ·
                have HSt := Lib.hid (HY6.out.write (k := k) (n := l) (c := cc) (A := bA) (V := V) HK.out.1 (Sl.upd_same _ _ _) (by show l ≤ r; omega) HV.out.1 ((HV.out.2.grown HY6.out.all).less hl1))
                rw [show ((bs (nm seed c s n r acap).g (nm seed c s n r acap).s k : Nat) : Int) = (x : Int) from HX.out] at HSt
                have q0 := HP6.out.1
                go_wp2_with fail
                refine HSt.out.mono ?_
                rintro e w7 ⟨rfl, hy, hf⟩
                have HY7 := Lib.hid hy
                have HP7 := Lib.hid (HP6.out.fr hf)
                clear hy hf HSt q0
                have p2 := HP7.out.2.1
                have HC := Lib.hid HY7.out.check
                go_wp2_with fail
                refine HC.out.mono ?_
                rintro e w9 ⟨rfl, hg⟩
                have HY9 := Lib.hid (HY7.out.grown hg)
                have HP9 := Lib.hid (HP7.out.grown hg)
                clear hg HC p2
                go_wp2
                go_roundw
                case rel => exact ⟨m + 1, l, cc, by omega, by go_num, rfl, by omega, by omega, _, _, _, HY9.out, HP9.out⟩
                case measure => simp [intOf]; omega
        · by_cases hk4 : tk ≤ 4
          ·
            have HYd := Lib.hid (HY3.out.grown (grown_drew1 (grown_refl w3 none)))
            have HPd := Lib.hid (HP3.out.grown (grown_drew1 (grown_refl w3 none)))
            have HO1 := Lib.hid ((grown_drew1 (grown_refl w3 none)).cell o1 (by simp))
            by_cases hn : isK (nm seed c s n r acap).n tn = true ∧ stV (nm seed c s n r acap) S tn = 1
            · obtain ⟨hk, hs⟩ := hn
              have hsv : (st == 1) = true := by rw [← HST.out, hs]; rfl
              obtain ⟨j, rfl, hj⟩ := isK_t hk
              rw [stV_in hj] at hs
              have HD := Lib.hid (HYd.out.drop hj (by omega))
              clear hk hs HST hj
              go_upto_region 22 with (fail)
              go_region_held3 (fun w' => w'.cell? ⟨pp, 1, none⟩ = some (.pointer (some ⟨X.p, 0, none⟩)) ∧ w'.cell? ⟨ob, 1, none⟩ = some (.int .i64 (j : Nat)))
                (first | exact ⟨p1, o1⟩ | exact HS4.out)
                (first
                | (go_at_call 12; refine HD.out.mono ?_; rintro e w4 ⟨rfl, hy, hf⟩; have HY4 := Lib.hid hy; have HP4 := Lib.hid (HPd.out.fr hf); have HS4 := Lib.hid (And.intro HP4.out.2.1 (hf.cell HO1.out HNO.out)); clear hy hf))
              clear HD p1 o1 o0
              have p2 := HP4.out.2.1
              have HC := Lib.hid HY4.out.check
              go_wp2_with fail
              refine HC.out.mono ?_
              rintro e w9 ⟨rfl, hg⟩
              have HY9 := Lib.hid (HY4.out.grown hg)
              have HP9 := Lib.hid (HP4.out.grown hg)
              clear hg HC p2
              go_wp2
              go_roundw
              case rel => exact ⟨m + 1, l, cc, by omega, by go_num, rfl, hl1, hl2, _, _, _, HY9.out, HP9.out⟩
              case measure => simp [intOf]; omega
            · obtain ⟨er, hz, hd⟩ := HYd.out.drop_no hn
              have hsv : (st == 1) = false := by
                rw [← HST.out]
                simp only [beq_eq_false_iff_ne]
                exact fun e => hn (by
                  refine ⟨?_, e⟩
                  cases hk : isK (nm seed c s n r acap).n tn with
                  | true => rfl
                  | false => rw [stV_out hk] at e; omega)
              have HD := Lib.hid hd
              have hz' : (er == 0) = false := by simpa using hz
              clear hd hz hn HST
              go_upto_region 22 with (fail)
              go_region_held3 (fun w' => w'.cell? ⟨pp, 1, none⟩ = some (.pointer (some ⟨X.p, 0, none⟩)) ∧ w'.cell? ⟨ob, 1, none⟩ = some (.int .i64 tn))
                (first | exact ⟨p1, o1⟩ | exact HS4.out)
                (first
                | (go_at_call 12; refine HD.out.mono ?_; rintro e w4 ⟨rfl, rfl⟩; have HS4 := Lib.hid (And.intro HPd.out.2.1 HO1.out)))
              clear HD p1 o1 o0
              have p2 := HPd.out.2.1
              have HC := Lib.hid HYd.out.check
              go_wp2_with fail
              refine HC.out.mono ?_
              rintro e w9 ⟨rfl, hg⟩
              have HY9 := Lib.hid (HYd.out.grown hg)
              have HP9 := Lib.hid (HPd.out.grown hg)
              clear hg HC p2
              go_wp2
              go_roundw
              case rel => exact ⟨m + 1, l, cc, by omega, by go_num, rfl, hl1, hl2, _, _, _, HY9.out, HP9.out⟩
              case measure => simp [intOf]; omega
          ·
            have HYd := Lib.hid (HY3.out.grown (grown_drew1 (grown_refl w3 none)))
            have HPd := Lib.hid (HP3.out.grown (grown_drew1 (grown_refl w3 none)))
            have HO1 := Lib.hid ((grown_drew1 (grown_refl w3 none)).cell o1 (by simp))
            by_cases hn : isK (nm seed c s n r acap).n tn = true ∧ stV (nm seed c s n r acap) S tn = 2
            · obtain ⟨hk, hs⟩ := hn
              have hsv : (st == 2) = true := by rw [← HST.out, hs]; rfl
              obtain ⟨j, rfl, hj⟩ := isK_t hk
              rw [stV_in hj] at hs
              have HD := Lib.hid (HYd.out.give hj (by omega))
              clear hk hs HST hj
              go_upto_region 25 with (fail)
              go_region_held3 (fun w' => w'.cell? ⟨pp, 1, none⟩ = some (.pointer (some ⟨X.p, 0, none⟩)) ∧ w'.cell? ⟨ob, 1, none⟩ = some (.int .i64 (j : Nat)))
                (first | exact ⟨p1, o1⟩ | exact HS4.out)
                (first
                | (go_at_call 13; refine HD.out.mono ?_; rintro e w4 ⟨rfl, hy, hf⟩; have HY4 := Lib.hid hy; have HP4 := Lib.hid (HPd.out.fr hf); have HS4 := Lib.hid (And.intro HP4.out.2.1 (hf.cell HO1.out HNO.out)); clear hy hf))
              clear HD p1 o1 o0
              have p2 := HP4.out.2.1
              have HC := Lib.hid HY4.out.check
              go_wp2_with fail
              refine HC.out.mono ?_
              rintro e w9 ⟨rfl, hg⟩
              have HY9 := Lib.hid (HY4.out.grown hg)
              have HP9 := Lib.hid (HP4.out.grown hg)
              clear hg HC p2
              go_wp2
              go_roundw
              case rel => exact ⟨m + 1, l, cc, by omega, by go_num, rfl, hl1, hl2, _, _, _, HY9.out, HP9.out⟩
              case measure => simp [intOf]; omega
            · obtain ⟨er, hz, hd⟩ := HYd.out.give_no hn
              have hsv : (st == 2) = false := by
                rw [← HST.out]
                simp only [beq_eq_false_iff_ne]
                exact fun e => hn (by
                  refine ⟨?_, e⟩
                  cases hk : isK (nm seed c s n r acap).n tn with
                  | true => rfl
                  | false => rw [stV_out hk] at e; omega)
              have HD := Lib.hid hd
              have hz' : (er == 0) = false := by simpa using hz
              clear hd hz hn HST
              go_upto_region 25 with (fail)
              go_region_held3 (fun w' => w'.cell? ⟨pp, 1, none⟩ = some (.pointer (some ⟨X.p, 0, none⟩)) ∧ w'.cell? ⟨ob, 1, none⟩ = some (.int .i64 tn))
                (first | exact ⟨p1, o1⟩ | exact HS4.out)
                (first
                | (go_at_call 13; refine HD.out.mono ?_; rintro e w4 ⟨rfl, rfl⟩; have HS4 := Lib.hid (And.intro HPd.out.2.1 HO1.out)))
              clear HD p1 o1 o0
              have p2 := HPd.out.2.1
              have HC := Lib.hid HYd.out.check
              go_wp2_with fail
              refine HC.out.mono ?_
              rintro e w9 ⟨rfl, hg⟩
              have HY9 := Lib.hid (HYd.out.grown hg)
              have HP9 := Lib.hid (HPd.out.grown hg)
              clear hg HC p2
              go_wp2
              go_roundw
              case rel => exact ⟨m + 1, l, cc, by omega, by go_num, rfl, hl1, hl2, _, _, _, HY9.out, HP9.out⟩
              case measure => simp [intOf]; omega
    · obtain rfl : m = len := by omega
      have HQ0 := Lib.hid (fun d => count_at (HY.out.at_.grown (grown_drew (grown_refl wr none) d)) HY.out.inv.st 0)
      have HQ1 := Lib.hid (fun d => count_at (HY.out.at_.grown (grown_drew (grown_refl wr none) d)) HY.out.inv.st 1)
      have HQ2 := Lib.hid (fun d => count_at (HY.out.at_.grown (grown_drew (grown_refl wr none) d)) HY.out.inv.st 2)
      have hall : Sl.cnt S 0 n + Sl.cnt S 1 n + Sl.cnt S 2 n = n := Sl.cnt_all HY.out.inv.st n
      rw [show (nm seed c s n r acap).n = n from rfl] at HQ0 HQ1 HQ2
      have q1 : IntKind.i64.wrap ((Sl.cnt S 0 n : Nat) + (Sl.cnt S 1 n : Nat)) = ((Sl.cnt S 0 n + Sl.cnt S 1 n : Nat) : Int) := by rw [IntKind.wrap_i64]; omega
      have q2 : IntKind.i64.wrap (((Sl.cnt S 0 n + Sl.cnt S 1 n : Nat) : Int) + (Sl.cnt S 2 n : Nat)) = (n : Int) := by rw [IntKind.wrap_i64]; omega
      have p1 := HP.out.2.1
      have HA := Lib.hid HY.out.all
      clear hall
      generalize ((Sl.cnt S 0 n + Sl.cnt S 1 n : Nat) : Int) = c01 at *
      generalize Sl.cnt S 0 n = c0 at *
      generalize Sl.cnt S 1 n = c1 at *
      generalize Sl.cnt S 2 n = c2 at *
      go_upto_region 31 with (fail)
      go_quiet (first
        | (go_at_call 20; (with_reducible exact quiet_left (HQ0.out _)))
        | (go_at_call 20; (with_reducible exact quiet_left (HQ1.out _)))
        | (go_at_call 20; (with_reducible exact quiet_left (HQ2.out _))))
      rename_i nq
      have HA2 := Lib.hid (grown_trans HA.out (grown_drew (grown_refl wr none) nq))
      clear HQ0 HQ1 HQ2 q1 q2 p1 HA
      generalize wr.drewN nq = wF at *
      go_wp2_with (first
        | (go_at_call 21; refine (HSs.out _).mono ?_; rintro e w' ⟨rfl, rfl⟩)
        | (go_at_call 15; refine (sawake_at _).mono ?_; rintro e w7 ⟨rfl, hg⟩; have HE := Lib.hid (grown_trans HA2.out hg); clear hg))
      go_ret
      exact ⟨rfl, HE.out⟩

theorem slabApart_walk (seed : Nat) (cl : Int) (A bA : Option Addr) (len cap bl bc : Nat) (O : Nat → SOp) (V : Nat → Nat) (w : World) (hm : len ≤ 9223372036854775807) (hO : SOpsAt w A len O)
    (hbl : bl ≤ bc) (hV : ∀ i, V i < 256) (hB : BArg w bA bl V) :
    Calls Try.prog 4 #[.int .u64 seed, .int .i64 cl, .slice A len cap, .slice bA bl bc] w fun e w' => e = .returned (.bool true) ∧ w.grownBy w' none := by
  obtain ⟨s, n, r, hc⟩ := Sl.cls_of (cl % 4).toNat (by omega)
  exact slabApart_cls seed cl A bA len cap bl bc O V w (by omega) hc hm hO hbl hV hB
end Go.Proofs.Yticoojcmlkdeiaa
