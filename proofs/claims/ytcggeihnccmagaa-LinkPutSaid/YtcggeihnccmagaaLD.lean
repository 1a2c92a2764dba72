/- The walks of the laws of package link. -/
import Derived.Test.YtcggeihnccmagaaLC
namespace Go.Proofs.Ytcggeihnccmagaa
open Go.RowKit

set_option maxRecDepth 100000 in
set_option maxHeartbeats 4000000 in
theorem linkPut_walk (s : Nat) (a n : Int) (w : World) :
    Calls Try.prog 8 #[.int .u64 s, .int .i64 a, .int .i64 n] w fun e w' => e = .returned (.bool true) ∧ w.grownBy w' none := by
  have e1 := wrap_u a
  have e2 := u64_xor_nat (keyOf s) (Li.u a) (keyOf_lt s) (Li.u_lt a)
  have HN := Lib.hid (fun w => new_at s w)
  have HK := Lib.hid (fun w => rkey_at s w)
  have HP := Lib.hid (fun w => put_at (keyOf s) a n w)
  have HR := Lib.hid (fun w => rput_at (keyOf s) a n w)
  have HC := Lib.hid (fun w => canary_at (keyOf s) (keyOf_lt s) a w)
  have HM := Lib.hid (fun w => rmix_at (keyOf s ^^^ Li.u a) (Li.xor_lt (keyOf_lt s) (Li.u_lt a)) w)
  generalize Li.put (keyOf s) a n = p at *
  generalize Li.mix (keyOf s ^^^ Li.u a) = z at *
  generalize keyOf s ^^^ Li.u a = x at *
  generalize Li.u a = y at *
  generalize keyOf s = key at *
  go_enter Try.func8, Try.ntmps8
  go_wp2_with fail
  refine (HN.out _).mono ?_
  rintro e w1 ⟨rfl, hg1⟩
  have HG1 := Lib.hid hg1
  clear hg1
  go_upto_region 2 with (fail)
  have c0 : (w1.alloc (.cells #[.int .u64 (key : Nat)] 34)).cell? ⟨w1.heap.size, 0, none⟩ = some (.int .u64 (key : Nat)) := by rw [cell_alloc_new]; rfl
  have HG2 := Lib.hid (grown_trans HG1.out (grown_alloc w1 (.cells #[.int .u64 (key : Nat)] 34) none))
  generalize w1.alloc (.cells #[.int .u64 (key : Nat)] 34) = w2 at *
  generalize w1.heap.size = ob at *
  clear HG1 HN
  have hgr := grown_refl w2 none
  go_region_held3 (fun w' => w'.cell? ⟨ob, 0, none⟩ = some (.int .u64 (key : Nat)))
    (first | exact c0 | exact y0 | exact z0 | exact v0)
    (first
    | (go_at_call 25; refine (HK.out _).mono ?_; rintro e w' ⟨rfl, rfl⟩)
    | (go_at_call 26; refine (HP.out _).mono ?_; rintro e w3 ⟨rfl, m⟩; have m3 := grown_trans (grown_drew1 hgr) m; have y0 := m3.cell c0 (by simp); clear m)
    | (go_at_call 27; refine (HR.out _).mono ?_; rintro e w' ⟨rfl, rfl⟩)
    | (go_at_call 28; refine (HC.out _).mono ?_; rintro e w4 ⟨rfl, m⟩; have m4 := grown_trans m3 m; have z0 := m4.cell c0 (by simp); clear m)
    | (go_at_call 29; refine (HM.out _).mono ?_; rintro e w' ⟨rfl, rfl⟩)
    | (go_at_call 30; refine (lawake_at _).mono ?_; rintro e w5 ⟨rfl, m⟩; have m5 := grown_trans m4 m; have v0 := m5.cell c0 (by simp); clear m))
  have HE := Lib.hid (grown_trans HG2.out m5)
  clear m3 m4 m5 y0 z0 v0 c0 hgr HP HR HC HM HG2 HK
  go_wp2
  go_ret
  exact ⟨rfl, HE.out⟩

theorem bad_put (k : Nat) (a n : Int) (w : World) (h : a < 0 ∨ n < -1 ∨ 2147483647 < n) :
    Calls Try.prog 26 #[.agg #[.int .u64 k], .int .i64 a, .int .i64 n] w fun e w' => e = .returned (.int .u64 0) ∧ w.grownBy w' none := put_out k a n w h
set_option maxRecDepth 100000 in
set_option maxHeartbeats 4000000 in
theorem linkBack_out (k : Nat) (a n : Int) (w : World) (h : a < 0 ∨ n < -1 ∨ 2147483647 < n) :
    Calls Try.prog 9 #[.int .u64 k, .int .i64 a, .int .i64 n] w fun e w' => e = .returned (.bool true) ∧ w.grownBy w' none := by
  have HP := Lib.hid (fun w => put_out k a n w h)
  rcases (by omega : a < 0 ∨ (¬ a < 0 ∧ n < -1) ∨ (¬ a < 0 ∧ ¬ n < -1 ∧ n > 2147483647)) with h0 | ⟨h0, h1⟩ | ⟨h0, h1, h2⟩
  all_goals
    clear h
    go_enter Try.func9, Try.ntmps9
    go_upto_region 2 with (fail)
    have c0 : (w.alloc (.cells #[.int .u64 (k : Nat)] 34)).cell? ⟨w.heap.size, 0, none⟩ = some (.int .u64 (k : Nat)) := by rw [cell_alloc_new]; rfl
    have HG2 := Lib.hid (grown_alloc w (.cells #[.int .u64 (k : Nat)] 34) none)
    generalize w.alloc (.cells #[.int .u64 (k : Nat)] 34) = w2 at *
    generalize w.heap.size = ob at *
    go_wp2_with fail
    refine (HP.out _).mono ?_
    rintro e w3 ⟨rfl, m⟩
    have HG3 := Lib.hid (grown_trans HG2.out m)
    clear m c0 HG2 HP
    go_wp2_with fail
    refine (lawake_at _).mono ?_
    rintro e w4 ⟨rfl, m⟩
    have HG4 := Lib.hid (grown_trans HG3.out m)
    clear m HG3
    go_wp2
    go_ret
    exact ⟨rfl, HG4.out⟩
set_option maxRecDepth 100000 in
set_option maxHeartbeats 4000000 in
theorem linkBack_in (k : Nat) (a n : Int) (w : World) (h0 : ¬ a < 0) (h1 : ¬ n < -1) (h2 : ¬ n > 2147483647) :
    Calls Try.prog 9 #[.int .u64 k, .int .i64 a, .int .i64 n] w fun e w' => e = .returned (.bool true) ∧ w.grownBy w' none := by
  obtain ⟨p, hp⟩ : ∃ p : Nat, n + 1 = p := ⟨(n + 1).toNat, by omega⟩
  have HP := Lib.hid (fun w => put_in k p a n w h0 h1 h2 hp)
  have HG : Hid (∀ w, Calls Try.prog 31 #[.agg #[.int .u64 k], .int .i64 a, .int .u64 (Li.lk k a p : Nat)] w fun e w' => e = .returned (.tuple #[.int .i64 n, .bool true]) ∧ w.grownBy w' none) := fun w => by
    have t := get_some k (Li.lk k a p) a w h0 (Li.lk_lt k a (by omega)) (by rw [Li.bare_lk]; omega)
    have e : (p : Int) - 1 = n := by omega
    rw [Li.bare_lk, e] at t
    exact t
  clear hp
  generalize Li.lk k a p = l at *
  go_enter Try.func9, Try.ntmps9
  go_upto_region 2 with (fail)
  have c0 : (w.alloc (.cells #[.int .u64 (k : Nat)] 34)).cell? ⟨w.heap.size, 0, none⟩ = some (.int .u64 (k : Nat)) := by rw [cell_alloc_new]; rfl
  have HG2 := Lib.hid (grown_alloc w (.cells #[.int .u64 (k : Nat)] 34) none)
  generalize w.alloc (.cells #[.int .u64 (k : Nat)] 34) = w2 at *
  generalize w.heap.size = ob at *
  go_upto_region 4 with (fail)
  have hgr := grown_refl w2 none
  go_region_held3 (fun w' => w'.cell? ⟨ob, 0, none⟩ = some (.int .u64 (k : Nat)))
    (first | exact c0 | exact y0 | exact z0)
    (first
    | (go_at_call 26; refine (HP.out _).mono ?_; rintro e w3 ⟨rfl, m⟩; have m3 := grown_trans (grown_drew1 hgr) m; have y0 := m3.cell c0 (by simp); clear m)
    | (go_at_call 31; refine (HG.out _).mono ?_; rintro e w4 ⟨rfl, m⟩; have m4 := grown_trans m3 m; have z0 := m4.cell c0 (by simp); clear m))
  have HG4 := Lib.hid (grown_trans HG2.out m4)
  clear m3 m4 y0 z0 c0 hgr HP HG HG2
  go_wp2_with fail
  refine (lawake_at _).mono ?_
  rintro e w5 ⟨rfl, m⟩
  have HG5 := Lib.hid (grown_trans HG4.out m)
  clear m HG4
  go_wp2
  go_ret
  exact ⟨rfl, HG5.out⟩
theorem linkBack_walk (k : Nat) (a n : Int) (w : World) :
    Calls Try.prog 9 #[.int .u64 k, .int .i64 a, .int .i64 n] w fun e w' => e = .returned (.bool true) ∧ w.grownBy w' none := by
  by_cases h : a < 0 ∨ n < -1 ∨ 2147483647 < n
  · exact linkBack_out k a n w h
  · exact linkBack_in k a n w (by omega) (by omega) (by omega)
end Go.Proofs.Ytcggeihnccmagaa
