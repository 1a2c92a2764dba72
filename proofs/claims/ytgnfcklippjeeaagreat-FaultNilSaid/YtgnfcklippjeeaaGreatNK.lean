/- The walks of what a nil region answers, of Config, Arena, Pages; chapter 9's example; the walk of RegionNew. -/
import Derived.Test.YtgnfcklippjeeaaGreatNJ
namespace Go.Proofs.YtgnfcklippjeeaaGreat
open Go.RowKit
open Go.Maps (Keyed)
open Sl (Cls bs upd FOk LnkIs)
open Lg (pgs)

set_option maxRecDepth 100000 in
set_option maxHeartbeats 1000000 in
theorem rnil_open (c o : Int) (w : World) : Calls Tryz.prog 28 #[.pointer none, .int .i64 c, .int .i64 o] w fun e w' => e = .returned (.tuple #[.int .i64 0, .int .i64 2]) ∧ w.grownBy w' none := by
  go_enter Tryz.func28, Tryz.ntmps28
  go_wp2
  go_ret2
  exact ⟨rfl, grown_refl _ _⟩
set_option maxRecDepth 100000 in
set_option maxHeartbeats 1000000 in
theorem rnil_take (p : Int) (w : World) : Calls Tryz.prog 29 #[.pointer none, .int .i64 p] w fun e w' => e = .returned (.tuple #[.int .i64 0, .int .i64 2]) ∧ w.grownBy w' none := by
  go_enter Tryz.func29, Tryz.ntmps29
  go_wp2
  go_ret2
  exact ⟨rfl, grown_refl _ _⟩
set_option maxRecDepth 100000 in
set_option maxHeartbeats 1000000 in
theorem rnil_drop (a : Int) (w : World) : Calls Tryz.prog 17 #[.pointer none, .int .i64 a] w fun e w' => e = .returned (.tuple #[.bool false, .int .i64 2]) ∧ w.grownBy w' none := by
  go_enter Tryz.func17, Tryz.ntmps17
  go_wp2
  go_ret2
  exact ⟨rfl, grown_refl _ _⟩
set_option maxRecDepth 100000 in
set_option maxHeartbeats 1000000 in
theorem rnil_give (a : Int) (w : World) : Calls Tryz.prog 18 #[.pointer none, .int .i64 a] w fun e w' => e = .returned (.int .i64 2) ∧ w.grownBy w' none := by
  go_enter Tryz.func18, Tryz.ntmps18
  go_wp2
  go_ret
  exact ⟨rfl, grown_refl _ _⟩
set_option maxRecDepth 100000 in
set_option maxHeartbeats 1000000 in
theorem rnil_shut (a : Int) (w : World) : Calls Tryz.prog 19 #[.pointer none, .int .i64 a] w fun e w' => e = .returned (.int .i64 2) ∧ w.grownBy w' none := by
  go_enter Tryz.func19, Tryz.ntmps19
  go_wp2
  go_ret
  exact ⟨rfl, grown_refl _ _⟩
set_option maxRecDepth 100000 in
set_option maxHeartbeats 1000000 in
theorem rnil_great (a : Int) (w : World) : Calls Tryz.prog 30 #[.pointer none, .int .i64 a] w fun e w' => e = .returned (.tuple #[.int .i64 0, .int .i64 2]) ∧ w.grownBy w' none := by
  go_enter Tryz.func30, Tryz.ntmps30
  go_wp2
  go_ret2
  exact ⟨rfl, grown_refl _ _⟩
set_option maxRecDepth 100000 in
set_option maxHeartbeats 1000000 in
theorem rnil_owner (a : Int) (w : World) : Calls Tryz.prog 32 #[.pointer none, .int .i64 a] w fun e w' => e = .returned (.int .i64 0) ∧ w.grownBy w' none := by
  go_enter Tryz.func32, Tryz.ntmps32
  go_wp2
  go_ret
  exact ⟨rfl, grown_refl _ _⟩
set_option maxRecDepth 100000 in
set_option maxHeartbeats 1000000 in
theorem rnil_slots (a : Int) (w : World) : Calls Tryz.prog 63 #[.pointer none, .int .i64 a] w fun e w' => e = .returned (.pointer none) ∧ w.grownBy w' none := by
  go_enter Tryz.func63, Tryz.ntmps63
  go_wp2
  go_ret
  exact ⟨rfl, grown_refl _ _⟩
set_option maxRecDepth 100000 in
set_option maxHeartbeats 1000000 in
theorem rnil_arena (w : World) : Calls Tryz.prog 13 #[.pointer none] w fun e w' => e = .returned (.pointer none) ∧ w.grownBy w' none := by
  go_enter Tryz.func13, Tryz.ntmps13
  go_wp2
  go_ret
  exact ⟨rfl, grown_refl _ _⟩
set_option maxRecDepth 100000 in
set_option maxHeartbeats 1000000 in
theorem rnil_pages (w : World) : Calls Tryz.prog 20 #[.pointer none] w fun e w' => e = .returned (.pointer none) ∧ w.grownBy w' none := by
  go_enter Tryz.func20, Tryz.ntmps20
  go_wp2
  go_ret
  exact ⟨rfl, grown_refl _ _⟩
set_option maxRecDepth 100000 in
set_option maxHeartbeats 1000000 in
theorem rnil_check (w : World) : Calls Tryz.prog 15 #[.pointer none] w fun e w' => e = .returned (.int .i64 2) ∧ w.grownBy w' none := by
  go_enter Tryz.func15, Tryz.ntmps15
  go_wp2
  go_ret
  exact ⟨rfl, grown_refl _ _⟩
set_option maxRecDepth 100000 in
set_option maxHeartbeats 1000000 in
theorem rnil_config (w : World) : Calls Tryz.prog 25 #[.pointer none] w fun e w' => e = .returned (.agg #[.int .i64 0, .int .i64 0, .int .u64 0]) ∧ w.grownBy w' none := by
  go_enter Tryz.func25, Tryz.ntmps25
  go_wp2
  exact bodyPost_ret (v := .agg #[.int .i64 0, .int .i64 0, .int .u64 0]) (by simp [results, Tryz.results25, go_sem]) rfl ⟨rfl, grown_alloc _ _ _⟩
set_option maxRecDepth 100000 in
set_option maxHeartbeats 1000000 in
theorem rnil_find (a : Int) (w : World) : Calls Tryz.prog 27 #[.pointer none, .int .i64 a] w fun e w' => e = .returned (fndV none) ∧ w.grownBy w' none := by
  go_enter Tryz.func27, Tryz.ntmps27
  go_wp2
  exact bodyPost_ret (v := fndV none) (by simp [results, Tryz.results27, go_sem, fndV, pc0]) rfl ⟨rfl, grown_alloc _ _ _⟩
set_option maxRecDepth 100000 in
set_option maxHeartbeats 1000000 in
theorem rnil_count (a x : Int) (w : World) : Calls Tryz.prog 33 #[.pointer none, .int .i64 a, .int .i64 x] w fun e w' => e = .returned (.int .i64 0) ∧ w.grownBy w' none := by
  go_enter Tryz.func33, Tryz.ntmps33
  go_wp2_with fail
  refine (rnil_slots a w).mono ?_
  rintro e w1 ⟨rfl, m1⟩
  go_wp2_with fail
  refine (count_nil x _).mono ?_
  rintro e w2 ⟨rfl, rfl⟩
  go_wp2
  go_ret
  exact ⟨rfl, m1⟩
theorem cfg_field0 (a b c : Int) (w : World) : (Instr.field 60 (.agg #[.int .i64 a, .int .i64 b, .int .u64 c]) 0).run Tryz.prog w = .ok (.int .i64 a) w := by kernel_rfl
set_option maxRecDepth 100000 in
set_option maxHeartbeats 1000000 in
theorem rnil_home (c o : Int) (w : World) : Calls Tryz.prog 31 #[.pointer none, .int .i64 c, .int .i64 o] w fun e w' => e = .returned (.tuple #[.int .i64 0, .bool false]) ∧ w.grownBy w' none := by
  go_enter Tryz.func31, Tryz.ntmps31
  have hfd := cfg_field0 0 0 0
  go_wp2_with fail
  refine (rnil_config w).mono ?_
  rintro e w1 ⟨rfl, m1⟩
  have HG := Lib.hid m1
  clear m1
  go_wp2_with fail
  go_loop [8, 12] (fun c i => i = .int .i64 0) (fun _ _ => 0)
  case atStart => rfl
  case round =>
    obtain rfl := hrel
    go_wp2
    go_ret2
    exact ⟨rfl, HG.out⟩
set_option maxRecDepth 100000 in
set_option maxHeartbeats 1000000 in
theorem rnil_live (w : World) : Calls Tryz.prog 12 #[.pointer none] w fun e w' => e = .returned (.slice none 0 0) ∧ w.grownBy w' none := by
  go_enter Tryz.func12, Tryz.ntmps12
  have hfd := cfg_field0 0 0 0
  go_wp2_with fail
  refine (rnil_config w).mono ?_
  rintro e w1 ⟨rfl, m1⟩
  have HG := Lib.hid m1
  clear m1
  go_wp2_with fail
  go_loop [3, 4, 8] (fun l c i => i = .int .i64 0 ∧ l = .slice none 0 0) (fun _ _ _ => 0)
  case atStart => exact ⟨rfl, rfl⟩
  case round =>
    obtain ⟨rfl, rfl⟩ := hrel
    go_wp2
    go_ret
    exact ⟨rfl, HG.out⟩
set_option maxRecDepth 100000 in
set_option maxHeartbeats 1000000 in
theorem config_at {w : World} {A : Rp} {V : St} {cnt : Nat} (h : RnW w A V cnt) : Calls Tryz.prog 25 #[.pointer (some ⟨A.p, 0, none⟩)] w fun e w' => e = .returned (.agg #[.int .i64 (V.m : Nat), .int .i64 ((V.n : Int) - (V.m : Int)), .int .u64 (A.seed : Nat)]) ∧ w.grownBy w' none := by
  have g0 := grown_alloc w (.cells #[.int .i64 0, .int .i64 0, .int .u64 0] 60) none
  have c0 := (h.grown g0).c0
  have c1 := (h.grown g0).c1
  have c2 := (h.grown g0).c2
  clear h g0
  generalize ((V.n : Int) - (V.m : Int)) = z at *
  go_enter Tryz.func25, Tryz.ntmps25
  go_wp2
  exact bodyPost_ret (v := .agg #[.int .i64 (V.m : Nat), .int .i64 z, .int .u64 (A.seed : Nat)]) (by simp [results, Tryz.results25, go_sem]) rfl ⟨rfl, grown_alloc _ _ _⟩
set_option maxRecDepth 100000 in
set_option maxHeartbeats 1000000 in
theorem arena_at {w : World} {A : Rp} {V : St} {cnt : Nat} (h : RnW w A V cnt) : Calls Tryz.prog 13 #[.pointer (some ⟨A.p, 0, none⟩)] w fun e w' => e = .returned (.pointer (some ⟨A.pa, 0, none⟩)) ∧ w = w' := by
  have c3 := h.c3
  clear h
  go_enter Tryz.func13, Tryz.ntmps13
  go_wp2
  go_ret
  exact ⟨rfl, rfl⟩
set_option maxRecDepth 100000 in
set_option maxHeartbeats 1000000 in
theorem pages_at {w : World} {A : Rp} {V : St} {cnt : Nat} (h : RnW w A V cnt) : Calls Tryz.prog 20 #[.pointer (some ⟨A.p, 0, none⟩)] w fun e w' => e = .returned (.pointer (some ⟨A.pt, 0, none⟩)) ∧ w = w' := by
  have c4 := h.c4
  clear h
  go_enter Tryz.func20, Tryz.ntmps20
  go_wp2
  go_ret
  exact ⟨rfl, rfl⟩
def partsB (m M : Int) : Bool := (decide (0 ≤ m) && (decide (0 ≤ M) && (decide (m ≤ 256) && (decide (M ≤ 256) && (decide (1 ≤ m + M) && decide (m + M ≤ 256))))))
theorem partsB_iff (m M : Int) : partsB m M = true ↔ Parts m M := by
  unfold partsB Parts
  simp only [Bool.and_eq_true, decide_eq_true_eq]
  omega
set_option maxRecDepth 100000 in
set_option maxHeartbeats 1000000 in
theorem rmay_at (m M : Int) (w : World) (hm : WF m) (hM : WF M) : Calls Tryz.prog 23 #[.int .i64 m, .int .i64 M] w fun e w' => e = .returned (.bool (partsB m M)) ∧ w = w' := by
  unfold WF at hm hM
  have body : ∀ b : Bool, ((decide (0 ≤ m) && (decide (0 ≤ M) && (decide (m ≤ 256) && (decide (M ≤ 256) && (decide (1 ≤ m + M) && decide (m + M ≤ 256)))))) = b) → Calls Tryz.prog 23 #[.int .i64 m, .int .i64 M] w fun e w' => e = .returned (.bool b) ∧ w = w' := by
    intro b hb
    by_cases h1 : 0 ≤ m
    · by_cases h2 : 0 ≤ M
      · by_cases h3 : m ≤ 256
        · by_cases h4 : M ≤ 256
          · have h7 : IntKind.i64.wrap (m + M) = m + M := by rw [IntKind.wrap_i64]; omega
            by_cases h5 : 1 ≤ m + M
            · have HB := Lib.hid (show decide (m + M ≤ 256) = b by simpa [h1, h2, h3, h4, h5] using hb)
              clear hb hm hM
              go_enter Tryz.func23, Tryz.ntmps23
              go_wp2
              go_ret
              exact ⟨ret_bool HB.out, rfl⟩
            · have HB := Lib.hid (show false = b by simpa [h1, h2, h3, h4, h5] using hb)
              have d5 : decide (1 ≤ m + M) = false := by simpa using h5
              clear hb hm hM h5
              go_enter Tryz.func23, Tryz.ntmps23
              go_wp2
              go_ret
              exact ⟨ret_bool HB.out, rfl⟩
          · have HB := Lib.hid (show false = b by simpa [h1, h2, h3, h4] using hb)
            have d5 : decide (M ≤ 256) = false := by simpa using h4
            clear hb hm hM h4
            go_enter Tryz.func23, Tryz.ntmps23
            go_wp2
            go_ret
            exact ⟨ret_bool HB.out, rfl⟩
        · have HB := Lib.hid (show false = b by simpa [h1, h2, h3] using hb)
          have d5 : decide (m ≤ 256) = false := by simpa using h3
          clear hb hm hM h3
          go_enter Tryz.func23, Tryz.ntmps23
          go_wp2
          go_ret
          exact ⟨ret_bool HB.out, rfl⟩
      · have HB := Lib.hid (show false = b by simpa [h1, h2] using hb)
        have d5 : decide (0 ≤ M) = false := by simpa using h2
        clear hb hm hM h2
        go_enter Tryz.func23, Tryz.ntmps23
        go_wp2
        go_ret
        exact ⟨ret_bool HB.out, rfl⟩
    · have HB := Lib.hid (show false = b by simpa [h1] using hb)
      have d5 : decide (0 ≤ m) = false := by simpa using h1
      clear hb hm hM h1
      go_enter Tryz.func23, Tryz.ntmps23
      go_wp2
      go_ret
      exact ⟨ret_bool HB.out, rfl⟩
  exact body _ rfl
end Go.Proofs.YtgnfcklippjeeaaGreat
