/- The walks of a table's part, stretch, Longest, Count. -/
import Derived.Test.YtbpganholopjfaaPA
import Derived.Deep.DeepCutAuto
import Derived.LoopTactic
namespace Go.Proofs.Ytbpganholopjfaa
open Go.RowKit

theorem prow_at {w : World} {p q n cap : Nat} {R : Nat → Pg.Row} (h : TabAt w p q n cap R) (i : Int) :
    Calls Try.prog 48 #[.pointer (some ⟨p, 0, none⟩), .int .i64 i] w fun e w' => e = .returned (rv (getR R n i)) ∧ w.grownBy w' none := by
  by_cases h0 : i < 0
  · rw [getR_out (by omega)]; exact prow_neg _ i w h0
  · by_cases h1 : (n : Int) ≤ i
    · rw [getR_out (by omega)]
      exact prow_out _ i n w (by omega) h1 (fun W g => plen_at (h.grown g (by simp) (by simp)))
    · obtain ⟨k, rfl⟩ : ∃ k : Nat, i = k := ⟨i.toNat, by omega⟩
      have hk : k < n := by omega
      rw [getR_in hk]
      exact prow_core p q n cap k _ _ _ _ w hk h.c (h.rows.c0 k hk) (h.rows.c1 k hk) (h.rows.c2 k hk) (h.rows.c3 k hk)

/-- L, M: where a part begins and ends. -/
def Part (n : Nat) (lo hi L M : Int) : Prop := ((lo < 0 ∧ L = 0) ∨ (0 ≤ lo ∧ L = lo)) ∧ ((hi ≤ n ∧ M = hi) ∨ (n < hi ∧ M = n))
theorem part_ex (n : Nat) (lo hi : Int) : ∃ L M, Part n lo hi L M := by
  refine ⟨if lo < 0 then 0 else lo, if hi ≤ n then hi else n, ?_, ?_⟩ <;> split <;> omega
theorem vint {a b : Int} (h : a = b) : Value.int .i64 a = .int .i64 b := by rw [h]

set_option maxHeartbeats 400000 in
theorem part_none (v : Value) (n : Nat) (lo hi : Int) (L M : Int) (w : World) (hP : Part n lo hi L M)
    (hl : Calls Try.prog 47 #[v] w fun e w' => e = .returned (.int .i64 n) ∧ w = w') (h : M ≤ L) :
    Calls Try.prog 73 #[v, .int .i64 lo, .int .i64 hi] w fun e w' => e = .returned (.tuple #[.slice none 0 0, .int .i64 0]) ∧ w = w' := by
  have HP := Lib.hid hP
  have HL := Lib.hid hl
  clear hP hl
  go_enter Try.func73, Try.ntmps73
  go_upto_region 1 with (fail)
  go_cut [1, 2] (fun s1 s2 wx => s1 = .int .i64 L ∧ s2 = .int .i64 M ∧ wx = w)
  case first =>
    go_wp2_with (go_at_call 47; refine HL.out.mono ?_; rintro e w' ⟨rfl, rfl⟩)
    all_goals
      go_meet
      have hp := HP.out
      unfold Part at hp
      exact ⟨vint (by omega), vint (by omega), rfl⟩
  case rest =>
    obtain ⟨rfl, rfl, rfl⟩ := hcut
    clear HP
    go_wp2
    go_ret2
    exact ⟨rfl, rfl⟩
set_option maxHeartbeats 400000 in
theorem part_some (p q n cap : Nat) (lo hi : Int) (L M : Nat) (w : World) (hP : Part n lo hi L M) (hc : n ≤ cap)
    (h0 : w.cell? ⟨p, 0, none⟩ = some (.slice (some ⟨q, 0, none⟩) n cap)) (h : L < M) (hM : M ≤ n) :
    Calls Try.prog 73 #[.pointer (some ⟨p, 0, none⟩), .int .i64 lo, .int .i64 hi] w fun e w' => e = .returned (.tuple #[.slice (some ⟨q, L * 4, none⟩) (M - L) (cap - L), .int .i64 L]) ∧ w = w' := by
  have HP := Lib.hid hP
  have hd : ¬ (M : Int) ≤ L := by omega
  have hcl : ¬ cap = L := by omega
  clear hP
  go_enter Try.func73, Try.ntmps73
  go_upto_region 1 with (fail)
  go_cut [1, 2] (fun s1 s2 wx => s1 = .int .i64 L ∧ s2 = .int .i64 M ∧ wx = w)
  case first =>
    go_wp2_with (go_at_call 47; refine (plen_core p q n cap _ h0).mono ?_; rintro e w' ⟨rfl, rfl⟩)
    all_goals
      go_meet
      have hp := HP.out
      unfold Part at hp
      exact ⟨vint (by omega), vint (by omega), rfl⟩
  case rest =>
    obtain ⟨rfl, rfl, rfl⟩ := hcut
    clear HP
    have hM1 : (M : Int) ≤ n := by omega
    have hM2 : (M : Int) ≤ cap := by omega
    have hM3 : (L : Int) ≤ M := by omega
    go_wp2
    go_ret2
    exact ⟨rfl, rfl⟩

/-- The rows of a part, from L up to but not M. -/
structure PartAt (w : World) (q L m : Nat) (R : Nat → Pg.Row) : Prop where
  c0 : ∀ i, i < m → w.cell? ⟨q, L * 4 + i * 4, none⟩ = some (.int .i64 (R (L + i)).k)
  c1 : ∀ i, i < m → w.cell? ⟨q, L * 4 + i * 4 + 1, none⟩ = some (.int .i64 (R (L + i)).c)
  c2 : ∀ i, i < m → w.cell? ⟨q, L * 4 + i * 4 + 2, none⟩ = some (.int .i64 (R (L + i)).o)
  c3 : ∀ i, i < m → w.cell? ⟨q, L * 4 + i * 4 + 3, none⟩ = some (.int .i64 (R (L + i)).r)
theorem RowsAt.part {w : World} {q n L m : Nat} {R : Nat → Pg.Row} (h : RowsAt w q n R) (hm : L + m ≤ n) : PartAt w q L m R where
  c0 := fun i hi => by have := h.c0 (L + i) (by omega); rwa [show (L + i) * 4 = L * 4 + i * 4 by omega] at this
  c1 := fun i hi => by have := h.c1 (L + i) (by omega); rwa [show (L + i) * 4 = L * 4 + i * 4 by omega] at this
  c2 := fun i hi => by have := h.c2 (L + i) (by omega); rwa [show (L + i) * 4 = L * 4 + i * 4 by omega] at this
  c3 := fun i hi => by have := h.c3 (L + i) (by omega); rwa [show (L + i) * 4 = L * 4 + i * 4 by omega] at this
theorem PartAt.grown {w w' : World} {q L m : Nat} {R : Nat → Pg.Row} {r : Option Nat} (h : PartAt w q L m R) (hg : w.grownBy w' r) (hr : some q ≠ r) : PartAt w' q L m R where
  c0 := fun i hi => hg.cell (h.c0 i hi) hr
  c1 := fun i hi => hg.cell (h.c1 i hi) hr
  c2 := fun i hi => hg.cell (h.c2 i hi) hr
  c3 := fun i hi => hg.cell (h.c3 i hi) hr

/-- How many of the first i rows behind L are of that kind. -/
def cntFrom (R : Nat → Pg.Row) (kind : Int) (L : Nat) : Nat → Nat
  | 0 => 0
  | e + 1 => cntFrom R kind L e + if (R (L + e)).k = kind then 1 else 0
theorem cntFrom_le (R : Nat → Pg.Row) (kind : Int) (L : Nat) : ∀ e, cntFrom R kind L e ≤ e
  | 0 => Nat.le_refl _
  | e + 1 => by have := cntFrom_le R kind L e; simp only [cntFrom]; split <;> omega

set_option maxRecDepth 100000 in
set_option maxHeartbeats 1000000 in
theorem count_core (v : Value) (lo hi kind : Int) (q L m cap : Nat) (R : Nat → Pg.Row) (w : World) (hm : m ≤ 256) (hpt : PartAt w q L m R)
    (hp : Calls Try.prog 73 #[v, .int .i64 lo, .int .i64 hi] w fun e w' => e = .returned (.tuple #[.slice (some ⟨q, L * 4, none⟩) m cap, .int .i64 L]) ∧ w = w') :
    Calls Try.prog 42 #[v, .int .i64 lo, .int .i64 hi, .int .i64 kind] w fun e w' => e = .returned (.int .i64 (cntFrom R kind L m : Nat)) ∧ w.grownBy w' none := by
  have HP := Lib.hid hp
  have HPT := Lib.hid hpt
  clear hp hpt
  have hg0 := Lib.hid (grown_refl w none)
  go_enter Try.func42, Try.ntmps42
  go_wp2_with (go_at_call 73; refine HP.out.mono ?_; rintro e w' ⟨rfl, rfl⟩)
  go_loopw [9, 23] (fun c i wr => ∃ k : Nat, k ≤ m ∧ i = .int .i64 k ∧ c = .int .i64 (cntFrom R kind L k : Nat) ∧ w.grownBy wr none) (fun _ i _ => m - (intOf i).toNat)
  case atStart => exact ⟨0, Nat.zero_le _, rfl, rfl, grown_refl _ _⟩
  case round =>
    obtain ⟨k, hk, rfl, rfl, hg⟩ := hrel
    have HG := Lib.hid hg
    clear hg
    have hb := cntFrom_le R kind L k
    by_cases hlt : k < m
    · have d0 := HG.out.cell (HPT.out.c0 k hlt) (by simp)
      have d1 := HG.out.cell (HPT.out.c1 k hlt) (by simp)
      have d2 := HG.out.cell (HPT.out.c2 k hlt) (by simp)
      have d3 := HG.out.cell (HPT.out.c3 k hlt) (by simp)
      have HS : Hid (cntFrom R kind L (k + 1) = cntFrom R kind L k + if (R (L + k)).k = kind then 1 else 0) := rfl
      generalize R (L + k) = x at *
      obtain ⟨a, b, c, d⟩ := x
      dsimp only at d0 d1 d2 d3
      generalize cntFrom R kind L k = y at *
      by_cases hkd : a = kind
      · have hkd' : (a == kind) = true := by simpa using hkd
        have HK := Lib.hid hkd
        clear hkd
        go_wp2
        go_roundw
        case rel => exact ⟨k + 1, by omega, by go_num, by rw [HS.out]; simp [HK.out], grown_trans HG.out (grown_alloc _ _ _)⟩
        case measure => simp [intOf]; omega
      · have hkd' : (a == kind) = false := by simpa using hkd
        have HK := Lib.hid hkd
        clear hkd
        go_wp2
        go_roundw
        case rel => exact ⟨k + 1, by omega, by go_num, by rw [HS.out]; simp [HK.out], grown_trans HG.out (grown_alloc _ _ _)⟩
        case measure => simp [intOf]; omega
    · obtain rfl : k = m := by omega
      go_wp2
      go_ret
      exact ⟨rfl, HG.out⟩
end Go.Proofs.Ytbpganholopjfaa
