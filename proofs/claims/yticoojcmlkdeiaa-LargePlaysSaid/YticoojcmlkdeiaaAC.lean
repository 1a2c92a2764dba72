/- The walks of an arena outside of a Do: New, Load, Copy, Store, Fill, SetWord. -/
import Derived.Test.YticoojcmlkdeiaaAB
import Derived.Deep.QuietTactic
import Derived.BigQuiet
namespace Go.Proofs.Yticoojcmlkdeiaa.An
open Go.RowKit

/-- A new arena of the call's own. -/
def AMade (w w' : World) (n : Nat) (B : Nat → Nat) (e : Ending) : Prop :=
  ∃ p q cap, e = .returned (.pointer (some ⟨p, 0, none⟩)) ∧ ArAt w' p q n cap B none ∧ w.heap.size ≤ p ∧ w.heap.size ≤ q ∧ w.grownBy w' none

theorem amade_end (w w1 : World) (q n cap : Nat) (B : Nat → Nat) (hb : BytesAt w1 q n B) (hq : w.heap.size ≤ q) (hg : w.grownBy w1 none) (hcap : n ≤ cap) (hn : n ≤ 65536) (hp : n % 256 = 0) (hB : ∀ i, B i < 256) :
    AMade w (w1.alloc (.cells #[.slice (some ⟨q, 0, none⟩) n cap, .pointer none] 93)) n B (.returned (.pointer (some ⟨w1.heap.size, 0, none⟩))) := by
  have g := grown_alloc w1 (.cells #[.slice (some ⟨q, 0, none⟩) n cap, .pointer none] 93) none
  refine ⟨w1.heap.size, q, cap, rfl, ⟨?_, ?_, fun k => frozen_alloc_new .., hb.grown g (by simp), by have := hb.qlt; omega, hcap, hn, hp, hB⟩, hg.size, hq, grown_trans hg g⟩
  · rw [cell_alloc_new]; rfl
  · rw [cell_alloc_new]; rfl

theorem clampA_is (n : Int) : ∃ k : Nat, k ≤ 256 ∧ ((n < 0 ∧ k = 0) ∨ (0 ≤ n ∧ n ≤ 256 ∧ (k : Int) = n) ∨ (256 < n ∧ k = 256)) := by
  by_cases h : n < 0
  · exact ⟨0, by omega, .inl ⟨h, rfl⟩⟩
  · by_cases h2 : n ≤ 256
    · exact ⟨n.toNat, by omega, .inr (.inl ⟨by omega, h2, by omega⟩)⟩
    · exact ⟨256, by omega, .inr (.inr ⟨by omega, rfl⟩)⟩
set_option maxHeartbeats 800000 in
theorem anew_at (n : Int) (N : Nat) (w : World) (hN : N ≤ 256) (h : (n < 0 ∧ N = 0) ∨ (0 ≤ n ∧ n ≤ 256 ∧ (N : Int) = n) ∨ (256 < n ∧ N = 256)) :
    Calls Try.prog 23 #[.int .i64 n] w fun e w' => AMade w w' (N * 256) (fun _ => 0) e := by
  have H := Lib.hid h
  have hmk := make_bytes w (N * 256) (by omega)
  rw [show ((N * 256 : Nat) : Int) = (N : Int) * 256 by omega] at hmk
  have HM := amade_end w _ _ (N * 256) (N * 256) _ (bytes_new w 5 (N * 256)) (Nat.le_refl _) (grown_alloc _ _ _) (Nat.le_refl _) (by omega) (by omega) (fun _ => by omega)
  rw [show (w.alloc (.cells (zeroBytes (N * 256)) 5)).heap.size = w.heap.size + 1 by simp] at HM
  have HM := Lib.hid HM
  clear h
  generalize zeroBytes (N * 256) = z at *
  go_enter Try.func23, Try.ntmps23
  go_upto_region 1 with (fail)
  go_cut [0] (fun s wx => s = .int .i64 N ∧ wx = w)
  case first =>
    by_cases h0 : n < 0
    · go_wp2
      go_meet
      exact ⟨vint (by have := H.out; omega), rfl⟩
    · by_cases h1 : n ≤ 256
      · have h0' : 0 ≤ n := by omega
        go_wp2
        go_meet
        exact ⟨vint (by have := H.out; omega), rfl⟩
      · have h0' : 0 ≤ n := by omega
        go_wp2
        go_meet
        exact ⟨vint (by have := H.out; omega), rfl⟩
  case rest =>
    obtain ⟨rfl, rfl⟩ := hcut
    have hN2 : (N : Int) ≤ 256 := by omega
    go_wp2
    go_ret
    exact HM.out

set_option maxHeartbeats 800000 in
theorem aload_nil (at_ n : Int) (w : World) :
    Calls Try.prog 18 #[.pointer none, .int .i64 at_, .int .i64 n] w fun e w' => e = .returned (.tuple #[.slice none 0 0, .int .i64 2]) ∧ w = w' := by
  go_enter Try.func18, Try.ntmps18
  go_wp2_with (go_at_call 57; refine (bounds_nil at_ n _).mono ?_; rintro e w' ⟨rfl, rfl⟩)
  go_ret2
  exact ⟨rfl, rfl⟩
set_option maxHeartbeats 800000 in
theorem aload_bad (p q N cap : Nat) (at_ n : Int) (w : World) (h0 : w.cell? ⟨p, 0, none⟩ = some (.slice (some ⟨q, 0, none⟩) N cap)) (hN : N ≤ 65536) (hn : n ≤ 9223372036854775807) (hb : inB N at_ n = false) :
    Calls Try.prog 18 #[.pointer (some ⟨p, 0, none⟩), .int .i64 at_, .int .i64 n] w fun e w' => e = .returned (.tuple #[.slice none 0 0, .int .i64 3]) ∧ w = w' := by
  have HC := bounds_at p q N cap at_ n w h0 hN hn
  rw [hb] at HC
  have HC := Lib.hid HC
  clear hb hn
  go_enter Try.func18, Try.ntmps18
  go_wp2_with (go_at_call 57; refine HC.out.mono ?_; rintro e w' ⟨rfl, rfl⟩)
  go_ret2
  exact ⟨rfl, rfl⟩
/-- Bytes of the call's own, and no error. -/
def LoadRes (w w' : World) (n : Nat) (B : Nat → Nat) (e : Ending) : Prop :=
  ∃ q cap, e = .returned (.tuple #[.slice (some ⟨q, 0, none⟩) n cap, .int .i64 0]) ∧ n ≤ cap ∧ w.heap.size ≤ q ∧ BytesAt w' q n B ∧ w.grownBy w' none
set_option maxHeartbeats 1000000 in
theorem aload_good {w : World} {p q N cap : Nat} {B : Nat → Nat} {wk : Option Addr} (h : ArAt w p q N cap B wk) (at_ n : Nat) (hb : at_ + n ≤ N) :
    Calls Try.prog 18 #[.pointer (some ⟨p, 0, none⟩), .int .i64 at_, .int .i64 n] w fun e w' => LoadRes w w' n (fun i => B (at_ + i)) e := by
  have hN := h.small
  have hcap := h.hcap
  have h0 := h.c0
  have HC := bounds_at p q N cap at_ n w h0 hN (by omega)
  rw [(inB_iff _ _ _).2 (by omega : (0 : Int) ≤ at_ ∧ (0 : Int) ≤ n ∧ (at_ : Int) + n ≤ N)] at HC
  have HC := Lib.hid HC
  have HCL := Lib.hid (fun o c (ho : 0 < n → o = at_) => bclone_at q o n c (fun i => B (at_ + i)) w (by omega) (fun i hi => by rw [ho (by omega)]; exact h.b.c _ (by omega)))
  have hat : at_ ≤ 65536 := by omega
  have hn2 : n ≤ 65536 := by omega
  have hin : (at_ : Int) + n ≤ cap := by omega
  have q4 : at_ + n - at_ = n := by omega
  clear h
  by_cases hca : cap = at_
  · have HCA := Lib.hid hca
    have hn0 : n = 0 := by omega
    subst hn0
    subst hca
    go_enter Try.func18, Try.ntmps18
    go_wp2_with (first
      | (go_at_call 57; refine HC.out.mono ?_; rintro e w' ⟨rfl, rfl⟩)
      | (go_at_call 58; refine (HCL.out 0 _ (fun h => by omega)).mono ?_; rintro e w' ⟨q1, cap1, rfl, k1, k2, k3, k4⟩; have K := Lib.hid (And.intro k1 (And.intro k2 (And.intro k3 k4))); clear k1 k2 k3 k4))
    go_ret2
    exact ⟨q1, cap1, rfl, K.out⟩
  · go_enter Try.func18, Try.ntmps18
    go_wp2_with (first
      | (go_at_call 57; refine HC.out.mono ?_; rintro e w' ⟨rfl, rfl⟩)
      | (go_at_call 58; refine (HCL.out at_ _ (fun _ => rfl)).mono ?_; rintro e w' ⟨q1, cap1, rfl, k1, k2, k3, k4⟩; have K := Lib.hid (And.intro k1 (And.intro k2 (And.intro k3 k4))); clear k1 k2 k3 k4))
    go_ret2
    exact ⟨q1, cap1, rfl, K.out⟩

/-- The part of an arena that is written into. -/
def OpenRes (q at_ n : Nat) (e : Ending) : Prop := ∃ o c, e = .returned (.slice (some ⟨q, o, none⟩) n c) ∧ (0 < n → o = at_)
set_option maxHeartbeats 1000000 in
theorem open_none {w : World} {p q N cap : Nat} {B : Nat → Nat} (h : ArAt w p q N cap B none) (at_ n : Nat) (hb : at_ + n ≤ N) :
    Calls Try.prog 59 #[.pointer (some ⟨p, 0, none⟩), .int .i64 at_, .int .i64 n] w fun e w' => OpenRes q at_ n e ∧ w = w' := by
  have hN := h.small
  have hcap := h.hcap
  have h0 := h.c0
  have h1 := h.c1
  have hat : at_ ≤ 65536 := by omega
  have hn2 : n ≤ 65536 := by omega
  have hin : (at_ : Int) + n ≤ cap := by omega
  have q4 : at_ + n - at_ = n := by omega
  clear h
  by_cases hca : cap = at_
  · have hn0 : n = 0 := by omega
    subst hn0
    subst hca
    go_enter Try.func59, Try.ntmps59
    go_wp2
    go_ret
    exact ⟨⟨0, _, rfl, fun h => by omega⟩, rfl⟩
  · go_enter Try.func59, Try.ntmps59
    go_wp2
    go_ret
    exact ⟨⟨at_, cap - at_, congrArg (fun x => Ending.returned (Value.slice (some ⟨q, at_, none⟩) x (cap - at_))) q4, fun _ => rfl⟩, rfl⟩
end Go.Proofs.Yticoojcmlkdeiaa.An
