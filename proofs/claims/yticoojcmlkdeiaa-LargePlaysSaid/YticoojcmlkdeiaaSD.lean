/- The walks of a slab's Count, led, Check's question, every, Check. -/
import Derived.Test.YticoojcmlkdeiaaSC
import Derived.Deep.LoopGhost
namespace Go.Proofs.Yticoojcmlkdeiaa
open Go.RowKit
open Sl (Cls bs)

set_option maxRecDepth 100000 in
set_option maxHeartbeats 1000000 in
theorem count_at {w : World} {X : Pl} {Y : Nm} {S : Nat → Nat} {f : Int} {B : Nat → Nat} (h : SlAt w X Y S f B) (hS : ∀ k, S k ≤ 2) (x : Int) :
    Calls Try.prog 20 #[.pointer (some ⟨X.p, 0, none⟩), .int .i64 x] w fun e w' => e = .returned (.int .i64 (Sl.cnt S x Y.n : Nat)) ∧ w = w' := by
  have HN := Lib.hid (slots_at h)
  have HS : Hid (∀ m, m < Y.n → Calls Try.prog 16 #[.pointer (some ⟨X.p, 0, none⟩), .int .i64 m] w fun e w' => e = .returned (.int .i64 (S m : Nat)) ∧ w = w') := Lib.hid (fun m hm => state_in h hm (hS m))
  have hn := h.ok.c.facts.n16
  clear h hS
  go_enter Try.func20, Try.ntmps20
  go_wp2_with fail
  refine HN.out.mono ?_
  rintro e w' ⟨rfl, rfl⟩
  clear HN
  go_wp2_with fail
  go_loop [5, 9] (fun c i => ∃ m : Nat, m ≤ Y.n ∧ i = .int .i64 m ∧ c = .int .i64 (Sl.cnt S x m : Nat)) (fun _ i => Y.n - (intOf i).toNat)
  case atStart => exact ⟨0, Nat.zero_le _, rfl, rfl⟩
  case round =>
    obtain ⟨m, hm, rfl, rfl⟩ := hrel
    have hcl := Sl.cnt_le S x m
    by_cases hlt : m < Y.n
    · have HT := Lib.hid (HS.out m hlt)
      by_cases e : ((S m : Nat) : Int) = x
      · have he : (((S m : Nat) : Int) == x) = true := by simpa using e
        have HC : Hid (Sl.cnt S x (m + 1) = Sl.cnt S x m + 1) := Lib.hid (by simp only [Sl.cnt]; rw [if_pos e])
        clear e
        generalize S m = y at *
        go_wp2_with (go_at_call 16; refine HT.out.mono ?_; rintro e w' ⟨rfl, rfl⟩)
        go_round
        case rel => exact ⟨m + 1, by omega, by go_num, vint (by rw [HC.out]; omega)⟩
        case measure => simp [intOf]; omega
      · have he : (((S m : Nat) : Int) == x) = false := by simpa using e
        have HC : Hid (Sl.cnt S x (m + 1) = Sl.cnt S x m) := Lib.hid (by simp only [Sl.cnt]; rw [if_neg e]; omega)
        clear e
        generalize S m = y at *
        go_wp2_with (go_at_call 16; refine HT.out.mono ?_; rintro e w' ⟨rfl, rfl⟩)
        go_round
        case rel => exact ⟨m + 1, by omega, by go_num, vint (by rw [HC.out])⟩
        case measure => simp [intOf]; omega
    · obtain rfl : m = Y.n := by omega
      go_wp2
      go_ret
      exact ⟨rfl, rfl⟩

/-- The slots that links lead to. -/
def Led (w w' : World) (n : Nat) (F : List Nat) (e : Ending) : Prop :=
  ∃ p q, e = .returned (.tuple #[.pointer (some ⟨p, 0, none⟩), .bool true]) ∧ Row w' p q n (fun k => decide (k ∈ F)) ∧ w.heap.size ≤ p ∧ w.heap.size ≤ q ∧ w.grownBy w' none
theorem bnew_row (n : Nat) (hn : n ≤ 65536) (w : World) :
    Calls Try.prog 88 #[.int .i64 n] w fun e w' => ∃ p q, e = .returned (.pointer (some ⟨p, 0, none⟩)) ∧ Row w' p q n (fun _ => false) ∧ w.heap.size ≤ p ∧ w.heap.size ≤ q ∧ p ≠ q ∧ w.grownBy w' none := by
  have hc : Bs.clampN (n : Int) = n := by unfold Bs.clampN; rw [if_neg (by omega), if_pos (by omega), Int.toNat_natCast]
  refine (Bs.new_at (n : Int) w).mono ?_
  rintro e w' ⟨p, q, cap, he, hs, h1, h2, hg⟩
  rw [hc] at hs
  exact ⟨p, q, he, ⟨cap, _, hs, fun k _ => Bs.zeros_bit n k⟩, h1, h2, hs.ne, hg⟩

set_option maxRecDepth 100000 in
set_option maxHeartbeats 2000000 in
theorem led_at {w : World} {X : Pl} {Y : Nm} {S : Nat → Nat} {F : List Nat} {B : Nat → Nat} (h : SlAt w X Y S (Sl.fst F) B) (hI : Sl.Inv Y.key Y.g Y.s Y.n Y.r S F B) :
    Calls Try.prog 52 #[.pointer (some ⟨X.p, 0, none⟩)] w fun e w' => Led w w' Y.n F e := by
  have HN := Lib.hid (slots_at h)
  have hn := h.ok.c.facts.n16
  have HC7 := Lib.hid (fun W (g : w.grownBy W none) => (h.own.grown g (by simp)).c7)
  have HT := Lib.hid (fun W (g : w.grownBy W none) k => sthere_at (h.grown g) k)
  have HX := Lib.hid (fun W (g : w.grownBy W none) k t pre (e : F = pre ++ k :: t) => next_at (h.grown g) (k := k) (t := t) (pre := pre) (by rw [← e]; exact hI))
  have HF := Lib.hid hI.fr
  have HND := Lib.hid hI.nd
  clear h hI
  go_enter Try.func52, Try.ntmps52
  go_wp2_with fail
  refine HN.out.mono ?_
  rintro e w' ⟨rfl, rfl⟩
  clear HN
  go_wp2_with fail
  refine (bnew_row Y.n (by omega) w).mono ?_
  rintro e w1 ⟨p, q, rfl, hr, hp, hq, hpq, hg⟩
  have c7 := HC7.out _ hg
  have HR := Lib.hid hr
  have HG := Lib.hid hg
  have HPQ := Lib.hid (And.intro hp (And.intro hq hpq))
  clear hr hg hp hq hpq
  generalize hf : Sl.fst F = f0 at *
  have HF0 := Lib.hid hf
  clear hf
  go_wp2_with fail
  go_loopg [5, 6] F.length (fun gk v u wr => ∃ pre t, F = pre ++ t ∧ t.length = gk ∧ v = .int .i64 (Sl.fst t) ∧ u = .bool true ∧ Row wr p q Y.n (fun k => decide (k ∈ pre)) ∧ w.grownBy wr none)
  case atStart => exact ⟨[], F, rfl, rfl, by rw [HF0.out], rfl, HR.out.congr (fun k _ => by simp), HG.out⟩
  case round =>
    obtain ⟨pre, t, hE, ht, rfl, rfl, hrow, hg⟩ := hrel
    have HE := Lib.hid hE
    have HG' := Lib.hid hg
    have HRR := Lib.hid hrow
    clear hE hg hrow
    cases t with
    | nil =>
      have hT := HT.out _ HG'.out (-1)
      rw [show isK Y.n (-1) = false by simp [isK]] at hT
      have HTT := Lib.hid hT
      clear hT
      rw [show Sl.fst [] = -1 from rfl]
      go_wp2_with (go_at_call 40; refine HTT.out.mono ?_; rintro e w' ⟨rfl, rfl⟩)
      go_ret2
      exact ⟨p, q, rfl, by have := HE.out; rw [List.append_nil] at this; subst this; exact HRR.out, HPQ.out.1, HPQ.out.2.1, HG'.out⟩
    | cons k t =>
      have hk := (HF.out k (by rw [HE.out]; simp)).1
      have hT := HT.out _ HG'.out (k : Int)
      rw [isK_of hk] at hT
      have HTT := Lib.hid hT
      clear hT
      have hH := HRR.out.has hk
      rw [show decide (k ∈ pre) = false from by
        have := HND.out
        rw [HE.out, List.nodup_append] at this
        simp only [decide_eq_false_iff_not]
        intro hm
        exact this.2.2 k hm k (by simp) rfl] at hH
      have HHH := Lib.hid hH
      clear hH
      have HPP := Lib.hid (HRR.out.put hk true)
      rw [show Sl.fst (k :: t) = (k : Int) from rfl]
      go_wp2_with (first
        | (go_at_call 40; refine HTT.out.mono ?_; rintro e w' ⟨rfl, rfl⟩)
        | (go_at_call 55; refine HHH.out.mono ?_; rintro e w' ⟨rfl, rfl⟩))
      refine HPP.out.mono ?_
      rintro e w2 ⟨rfl, hr2, hg2⟩
      have HR2 := Lib.hid hr2
      have HG2 := Lib.hid (grown_own HG'.out hg2 HPQ.out.2.1)
      clear hr2 hg2 HPP HHH HTT
      go_wp2_with fail
      refine (HX.out _ HG2.out k t pre HE.out).mono ?_
      rintro e w3 ⟨rfl, hg3⟩
      have HR3 := Lib.hid (HR2.out.grown hg3 (by simp) (by simp))
      have HG3 := Lib.hid (grown_trans HG2.out hg3)
      clear hg3 HR2 HG2
      go_wp2
      go_roundg t.length
      case measure => simp at ht; omega
      case rel => exact ⟨pre ++ [k], t, by rw [HE.out]; simp, rfl, rfl, rfl, HR3.out.congr (fun j _ => by by_cases e : j = k <;> simp [e]), HG3.out⟩

/-- What Check asks of a slot. -/
def Asked (w : World) (X : Pl) (cs cl p : Nat) : Prop := w.cell? ⟨cs, 0, none⟩ = some (.pointer (some ⟨X.p, 0, none⟩)) ∧ w.cell? ⟨cl, 0, none⟩ = some (.pointer (some ⟨p, 0, none⟩))
theorem Asked.grown {w w' : World} {X : Pl} {cs cl p : Nat} (h : Asked w X cs cl p) (hg : w.grownBy w' none) : Asked w' X cs cl p := ⟨hg.cell h.1 (by simp), hg.cell h.2 (by simp)⟩
set_option maxRecDepth 100000 in
set_option maxHeartbeats 1000000 in
theorem ask_at {w : World} {X : Pl} {Y : Nm} {S : Nat → Nat} {F : List Nat} {B : Nat → Nat} {f : Int} {cs cl p q k : Nat} (h : SlAt w X Y S f B) (hI : Sl.Inv Y.key Y.g Y.s Y.n Y.r S F B) (hA : Asked w X cs cl p) (hr : Row w p q Y.n (fun k => decide (k ∈ F))) (hk : k < Y.n) :
    Calls Try.prog 54 #[.int .i64 k, .pointer (some ⟨cs, 0, none⟩), .pointer (some ⟨cl, 0, none⟩)] w fun e w' => e = .returned (.bool true) ∧ w.grownBy w' none := by
  obtain ⟨a1, a2⟩ := hA
  have HT := state_in h hk (hI.st k)
  rcases (by have := hI.st k; omega : S k = 0 ∨ S k = 1 ∨ S k = 2) with e | e | e
  · rw [e] at HT
    have HT := Lib.hid HT
    have HH := hr.has hk
    rw [show decide (k ∈ F) = true by simpa using hI.al k hk e] at HH
    have HH := Lib.hid HH
    clear h hI hr hk e
    go_enter Try.func54, Try.ntmps54
    go_wp2_with (first
      | (go_at_call 16; refine HT.out.mono ?_; rintro e w' ⟨rfl, rfl⟩)
      | (go_at_call 55; refine HH.out.mono ?_; rintro e w' ⟨rfl, rfl⟩))
    go_ret
    exact ⟨rfl, grown_refl _ _⟩
  · rw [e] at HT
    have HT := Lib.hid HT
    have HH := Lib.hid (stands_at h hk (hI.lv k hk e))
    clear h hI hr hk e
    go_enter Try.func54, Try.ntmps54
    go_wp2_with (first
      | (go_at_call 16; refine HT.out.mono ?_; rintro e w' ⟨rfl, rfl⟩)
      | (go_at_call 49; refine HH.out.mono ?_; rintro e w2 ⟨rfl, hg⟩; have HG := Lib.hid hg; clear hg))
    go_ret
    exact ⟨rfl, HG.out⟩
  · rw [e] at HT
    have HT := Lib.hid HT
    have HH := Lib.hid (gone_at h hk (hI.hd k hk e))
    clear h hI hr hk e
    go_enter Try.func54, Try.ntmps54
    go_wp2_with (first
      | (go_at_call 16; refine HT.out.mono ?_; rintro e w' ⟨rfl, rfl⟩)
      | (go_at_call 56; refine HH.out.mono ?_; rintro e w2 ⟨rfl, hg⟩; have HG := Lib.hid hg; clear hg))
    go_ret
    exact ⟨rfl, HG.out⟩

theorem mk_func (fn : Fn) (first cap : Array Value) (w : World) : (Instr.makeFunc fn first cap).run Try.prog w = .ok (.func fn first cap) w := rfl
theorem call_ask (args : Array Value) (w : World) : (callFunc 54 args).run Try.prog w = .ok (.enter 54 args) w := by
  kernel_rfl
set_option maxRecDepth 100000 in
set_option maxHeartbeats 1000000 in
theorem every_at {w : World} {X : Pl} {Y : Nm} {S : Nat → Nat} {f : Int} {B : Nat → Nat} {cs cl : Nat} (h : SlAt w X Y S f B)
    (hA : ∀ W, w.grownBy W none → ∀ k, k < Y.n → Calls Try.prog 54 #[.int .i64 k, .pointer (some ⟨cs, 0, none⟩), .pointer (some ⟨cl, 0, none⟩)] W fun e w' => e = .returned (.bool true) ∧ W.grownBy w' none) :
    Calls Try.prog 53 #[.pointer (some ⟨X.p, 0, none⟩), .func (.func 54) #[] #[.pointer (some ⟨cs, 0, none⟩), .pointer (some ⟨cl, 0, none⟩)]] w fun e w' => e = .returned (.bool true) ∧ w.grownBy w' none := by
  have HN := Lib.hid (slots_at h)
  have hn := h.ok.c.facts.n16
  have HA := Lib.hid hA
  have hca := call_ask
  clear h hA
  go_enter Try.func53, Try.ntmps53
  go_wp2_with fail
  refine HN.out.mono ?_
  rintro e w' ⟨rfl, rfl⟩
  clear HN
  go_wp2_with fail
  go_loopw [8] (fun i wr => ∃ m : Nat, m ≤ Y.n ∧ i = .int .i64 m ∧ w.grownBy wr none) (fun i _ => Y.n - (intOf i).toNat)
  case atStart => exact ⟨0, Nat.zero_le _, rfl, grown_refl _ _⟩
  case round =>
    obtain ⟨m, hm, rfl, hg⟩ := hrel
    have HG := Lib.hid hg
    clear hg
    by_cases hlt : m < Y.n
    · have HT := Lib.hid (HA.out _ HG.out m hlt)
      go_wp2_with fail
      refine HT.out.mono ?_
      rintro e w2 ⟨rfl, hg2⟩
      have HG2 := Lib.hid (grown_trans HG.out hg2)
      clear hg2 HT
      go_wp2
      go_roundw
      case rel => exact ⟨m + 1, by omega, by go_num, HG2.out⟩
      case measure => simp [intOf]; omega
    · obtain rfl : m = Y.n := by omega
      go_wp2
      go_ret
      exact ⟨rfl, HG.out⟩

set_option maxHeartbeats 400000 in
theorem check_nil (w : World) :
    Calls Try.prog 14 #[.pointer none] w fun e w' => e = .returned (.int .i64 2) ∧ w.grownBy w' none := by
  go_enter Try.func14, Try.ntmps14
  go_wp2
  go_ret
  exact ⟨rfl, grown_alloc _ _ _⟩
set_option maxRecDepth 100000 in
set_option maxHeartbeats 1000000 in
/-- Check, of a slab that is whole. -/
theorem check_at {w : World} {X : Pl} {Y : Nm} {S : Nat → Nat} {F : List Nat} {B : Nat → Nat} (h : SlAt w X Y S (Sl.fst F) B) (hI : Sl.Inv Y.key Y.g Y.s Y.n Y.r S F B) :
    Calls Try.prog 14 #[.pointer (some ⟨X.p, 0, none⟩)] w fun e w' => e = .returned (.int .i64 0) ∧ w.grownBy w' none := by
  have HL := Lib.hid (fun W (g : w.grownBy W none) => led_at (h.grown g) hI)
  have HQ := Lib.hid (fun W (g : w.grownBy W none) cs cl p q (hA : Asked W X cs cl p) (hr : Row W p q Y.n (fun k => decide (k ∈ F))) => every_at (h.grown g) (cs := cs) (cl := cl) (fun W2 g2 k hk => ask_at (h.grown (grown_trans g g2)) hI (hA.grown g2) (hr.grown g2 (by simp) (by simp)) hk))
  have hmf := mk_func
  clear h hI
  have hs0 : (w.alloc (.cells #[.pointer (some ⟨X.p, 0, none⟩)] 32)).cell? ⟨w.heap.size, 0, none⟩ = some (.pointer (some ⟨X.p, 0, none⟩)) := by rw [cell_alloc_new]; rfl
  have HG0 := Lib.hid (grown_alloc w (.cells #[.pointer (some ⟨X.p, 0, none⟩)] 32) none)
  go_enter Try.func14, Try.ntmps14
  go_upto_region 1 with (fail)
  generalize w.alloc (.cells #[.pointer (some ⟨X.p, 0, none⟩)] 32) = w1 at *
  generalize w.heap.size = cs at *
  go_wp2_with fail
  refine (HL.out _ HG0.out).mono ?_
  rintro e w2 ⟨p, q, rfl, hr, hp, hq, hg⟩
  have hs2 := hg.cell hs0 (by simp)
  have HG2 := Lib.hid (grown_trans HG0.out hg)
  have HR := Lib.hid hr
  clear hr hp hq hg hs0 HL HG0
  go_upto_region 4 with (fail)
  have hg3 := grown_alloc w2 (.cells #[.pointer (some ⟨p, 0, none⟩)] 77) none
  have hs3 := hg3.cell hs2 (by simp)
  have hl3 : (w2.alloc (.cells #[.pointer (some ⟨p, 0, none⟩)] 77)).cell? ⟨w2.heap.size, 0, none⟩ = some (.pointer (some ⟨p, 0, none⟩)) := by rw [cell_alloc_new]; rfl
  have HG3 := Lib.hid (grown_trans HG2.out hg3)
  have HE := Lib.hid (HQ.out _ HG3.out cs w2.heap.size p q ⟨hs3, hl3⟩ (HR.out.grown hg3 (by simp) (by simp)))
  clear hg3 hl3 hs2 HQ HR HG2
  generalize w2.alloc (.cells #[.pointer (some ⟨p, 0, none⟩)] 77) = w3 at *
  generalize w2.heap.size = cl at *
  go_wp2_with fail
  refine HE.out.mono ?_
  rintro e w4 ⟨rfl, hg4⟩
  have HG4 := Lib.hid (grown_trans HG3.out hg4)
  clear hg4 HE HG3 hs3
  go_wp2
  go_ret
  exact ⟨rfl, HG4.out⟩
end Go.Proofs.Yticoojcmlkdeiaa
