/- The document's set: Make where it refuses. -/
import Derived.Test.YticoojcmlkdeiaaRB
namespace Go.Proofs.Yticoojcmlkdeiaa
open Go.RowKit
open Sl (upd)
open Lg (pgs)
open Rf (LZ)

set_option maxRecDepth 100000 in
set_option maxHeartbeats 2000000 in
theorem rmake_arg (r : Nat) (w : World) (page n : Int) (hb : page < 0 ∨ n ≤ 120 ∨ 4096 < n) :
    Calls Try.prog 30 #[.pointer (some ⟨r, 0, none⟩), .int .i64 page, .int .i64 n] w fun e w' => e = .returned (.int .i64 1) ∧ w = w' := by
  by_cases hn : n ≤ 120 ∨ 4096 < n
  · have HP := Lib.hid (fun W => rpages_no n W hn)
    clear hb hn
    go_enter Try.func30, Try.ntmps30
    go_wp2_with (go_at_call 68; (with_reducible refine (HP.out _).mono ?_); rintro e w' ⟨rfl, rfl⟩)
    go_ret
    exact ⟨rfl, rfl⟩
  · obtain ⟨m, rfl⟩ : ∃ m : Nat, n = m := ⟨n.toNat, by omega⟩
    have HP := Lib.hid (fun W => rpg_at m W (by omega) (by omega))
    have hp : page < 0 := by omega
    have hg := Lg.pgs_pos m
    have hd : decide (page < 0) = true := decide_eq_true hp
    clear hb hn
    generalize pgs m = g at *
    have hg0 : (((g : Nat) : Int) == 0) = false := by simp; omega
    clear hg
    go_enter Try.func30, Try.ntmps30
    go_wp2_with (go_at_call 68; (with_reducible refine (HP.out _).mono ?_); rintro e w' ⟨rfl, rfl⟩)
    go_ret
    exact ⟨rfl, rfl⟩
set_option maxRecDepth 100000 in
set_option maxHeartbeats 2000000 in
theorem rmake_range {b0 : Nat} {w : World} {r q cap key N : Nat} {A : Option Addr} {vc : Nat} {L : List (Nat × Nat)} {B : Nat → Nat} (h : RgAt b0 w r q cap key N A vc L B) (page : Int) (n : Nat) (h1 : 120 < n) (h2 : n ≤ 4096) (hp : 0 ≤ page) (hf : (N : Int) / 256 - (pgs n : Nat) < page) :
    Calls Try.prog 30 #[.pointer (some ⟨r, 0, none⟩), .int .i64 page, .int .i64 n] w fun e w' => e = .returned (.int .i64 3) ∧ w = w' := by
  have HP := Lib.hid (fun W => rpg_at n W h1 h2)
  have c0 := h.c0
  have hN := h.small
  have hg := Lg.pgs_pos n
  have hg2 := Lg.pgs_bd h2
  clear h h1 h2
  obtain ⟨y, hy⟩ : ∃ y : Int, (N : Int) / 256 = y := ⟨_, rfl⟩
  have hy1 : 0 ≤ y ∧ y ≤ 256 := by omega
  obtain ⟨hy1, hy2⟩ := hy1
  rw [hy] at hf
  have hy3 : (N : Int).tdiv 256 = y := by rw [Int.tdiv_eq_ediv_of_nonneg (by omega)]; exact hy
  generalize pgs n = g at *
  have hg0 : (((g : Nat) : Int) == 0) = false := by simp; omega
  have hg3 : (g : Int) ≤ 17 := by omega
  have hp0 : decide (page < 0) = false := by simp; omega
  clear hg hg2
  by_cases hb : y < page
  · have hd : decide (page > y) = true := decide_eq_true hb
    go_enter Try.func30, Try.ntmps30
    go_wp2_with (go_at_call 68; (with_reducible refine (HP.out _).mono ?_); rintro e w' ⟨rfl, rfl⟩)
    go_ret
    exact ⟨rfl, rfl⟩
  · have hd : decide (page > y) = false := decide_eq_false (by omega)
    have e1 : IntKind.i64.wrap (y - page) = y - page := by rw [IntKind.wrap_i64]; omega
    have hd2 : decide ((g : Int) > y - page) = true := decide_eq_true (by omega)
    go_enter Try.func30, Try.ntmps30
    go_wp2_with (go_at_call 68; (with_reducible refine (HP.out _).mono ?_); rintro e w' ⟨rfl, rfl⟩)
    go_ret
    exact ⟨rfl, rfl⟩
end Go.Proofs.Yticoojcmlkdeiaa
