/- The walks of slices.Equal over words, and of bitset.Same. -/
import Derived.Test.YtkaoodglnglkdaaDoorD
namespace Go.Proofs.YtkaoodglnglkdaaDoor
open Go.RowKit

theorem quiet_same {P : Program} {f : FuncId} {args : Array Value} {w : World} {n : Nat} {v : Value}
    (h : Calls P f args (w.drewN n) fun e w' => e = .returned v ∧ w.drewN n = w') : Calls P f args (w.drewN n) fun e w'' => e = .returned v ∧ ∃ m, w'' = w.drewN m :=
  h.mono fun _ _ ⟨he, hm⟩ => ⟨he, n, hm.symm⟩

set_option maxHeartbeats 1000000 in
theorem equal_at (qa ca qb cb len : Nat) (A B : List Nat) (b : Bool) (w : World) (hlen : len ≤ 1024)
    (ha : ∀ k, k < len → w.cell? ⟨qa, k, none⟩ = some (.int .u64 (A.getD k 0 : Nat))) (hb : ∀ k, k < len → w.cell? ⟨qb, k, none⟩ = some (.int .u64 (B.getD k 0 : Nat)))
    (hr : b = true ↔ ∀ k, k < len → A.getD k 0 = B.getD k 0) :
    Calls Tryd.prog 26 #[.slice (some ⟨qa, 0, none⟩) len ca, .slice (some ⟨qb, 0, none⟩) len cb] w fun e w' => e = .returned (.bool b) ∧ ∃ d, w' = w.drewN d := by
  have HA := Lib.hid ha
  have HB := Lib.hid hb
  have HR := Lib.hid hr
  clear ha hb hr
  go_enter Tryd.func26, Tryd.ntmps26
  go_wp2
  go_loopw [13] (fun i wr => ∃ k d : Nat, k ≤ len ∧ i = .int .i64 k ∧ wr = w.drewN d ∧ ∀ j, j < k → A.getD j 0 = B.getD j 0) (fun i _ => len - (intOf i).toNat)
  case atStart => exact ⟨0, 0, Nat.zero_le _, rfl, rfl, fun j hj => by omega⟩
  case round =>
    obtain ⟨k, d, hk, rfl, rfl, hp⟩ := hrel
    have HP := Lib.hid hp
    clear hp
    by_cases hkl : k < len
    · have h1 := HA.out k hkl
      have h2 := HB.out k hkl
      obtain ⟨x, hx⟩ : ∃ x, x = A.getD k 0 := ⟨_, rfl⟩
      obtain ⟨y, hy⟩ : ∃ y, y = B.getD k 0 := ⟨_, rfl⟩
      rw [← hx] at h1
      rw [← hy] at h2
      have HX := Lib.hid hx
      have HY := Lib.hid hy
      clear hx hy
      by_cases hxy : x = y
      · subst hxy
        go_wp2
        go_quiet (fail)
        go_wp2
        go_roundw
        case rel => exact ⟨k + 1, _, by omega, by go_num, rfl, fun j hj => by
          by_cases e : j = k
          · subst e; rw [← HX.out, ← HY.out]
          · exact HP.out j (by omega)⟩
        case measure => simp [intOf]; omega
      · have hne : (((x : Nat) : Int) == y) = false := by simp; omega
        have hne2 : (((x : Nat) : Int) != y) = true := by simp; omega
        have HN := Lib.hid hxy
        clear hxy
        go_wp2
        go_quiet (fail)
        go_wp2
        go_ret
        refine ⟨ret_bool ?_, _, World.drewN_drewN _ _ _⟩
        cases b
        · rfl
        · exact absurd (by rw [HX.out, HY.out]; exact HR.out.1 rfl k hkl) HN.out
    · obtain rfl : k = len := by omega
      go_wp2
      go_ret
      refine ⟨ret_bool (HR.out.2 HP.out).symm, _, rfl⟩

set_option maxHeartbeats 1000000 in
/-- Same, of rows of unlike lengths; whatever rows they are. -/
theorem same_len (u v : Value) (n m : Int) (w : World) (hu : Calls Tryd.prog 17 #[u] w fun e w' => e = .returned (.int .i64 n) ∧ w = w')
    (hv : Calls Tryd.prog 17 #[v] w fun e w' => e = .returned (.int .i64 m) ∧ w = w') (hne : n ≠ m) :
    Calls Tryd.prog 16 #[u, v] w fun e w' => e = .returned (.bool false) ∧ ∃ d, w' = w.drewN d := by
  have HU := Lib.hid hu
  have HV := Lib.hid hv
  have hb : (n != m) = true := by simp [hne]
  clear hu hv hne
  go_enter Tryd.func16, Tryd.ntmps16
  go_wp2_with fail
  refine HU.out.mono ?_
  rintro e w' ⟨rfl, rfl⟩
  go_wp2_with fail
  refine HV.out.mono ?_
  rintro e w' ⟨rfl, rfl⟩
  go_wp2
  go_ret
  exact ⟨rfl, 0, rfl⟩
set_option maxHeartbeats 1000000 in
/-- Same, of rows without bits. -/
theorem same_none (u v : Value) (w : World) (hu : ∀ d, Calls Tryd.prog 17 #[u] (w.drewN d) fun e w' => e = .returned (.int .i64 0) ∧ w.drewN d = w')
    (hv : Calls Tryd.prog 17 #[v] w fun e w' => e = .returned (.int .i64 0) ∧ w = w') :
    Calls Tryd.prog 16 #[u, v] w fun e w' => e = .returned (.bool true) ∧ ∃ d, w' = w.drewN d := by
  have HU := Lib.hid hu
  have HV := Lib.hid hv
  clear hu hv
  go_enter Tryd.func16, Tryd.ntmps16
  go_wp2_with fail
  refine (HU.out 0).mono ?_
  rintro e w' ⟨rfl, rfl⟩
  go_wp2_with fail
  refine HV.out.mono ?_
  rintro e w' ⟨rfl, rfl⟩
  go_wp2_with fail
  go_quiet (exact quiet_same (HU.out _))
  go_wp2
  go_ret
  exact ⟨rfl, _, rfl⟩
set_option maxHeartbeats 1000000 in
/-- Same, of rows of one length that have bits. -/
theorem same_words (p1 q1 c1 p2 q2 c2 : Nat) (n : Int) (len : Nat) (b : Bool) (w : World) (hn : (n == 0) = false)
    (h1 : w.cell? ⟨p1, 1, none⟩ = some (.slice (some ⟨q1, 0, none⟩) len c1)) (h2 : w.cell? ⟨p2, 1, none⟩ = some (.slice (some ⟨q2, 0, none⟩) len c2))
    (hu : ∀ d, Calls Tryd.prog 17 #[.pointer (some ⟨p1, 0, none⟩)] (w.drewN d) fun e w' => e = .returned (.int .i64 n) ∧ w.drewN d = w')
    (hv : Calls Tryd.prog 17 #[.pointer (some ⟨p2, 0, none⟩)] w fun e w' => e = .returned (.int .i64 n) ∧ w = w')
    (he : ∀ d, Calls Tryd.prog 26 #[.slice (some ⟨q1, 0, none⟩) len c1, .slice (some ⟨q2, 0, none⟩) len c2] (w.drewN d) fun e w' => e = .returned (.bool b) ∧ ∃ m, w' = (w.drewN d).drewN m) :
    Calls Tryd.prog 16 #[.pointer (some ⟨p1, 0, none⟩), .pointer (some ⟨p2, 0, none⟩)] w fun e w' => e = .returned (.bool b) ∧ ∃ d, w' = w.drewN d := by
  have HU := Lib.hid hu
  have HV := Lib.hid hv
  have HE := Lib.hid he
  clear hu hv he
  go_enter Tryd.func16, Tryd.ntmps16
  go_wp2_with fail
  refine (HU.out 0).mono ?_
  rintro e w' ⟨rfl, rfl⟩
  go_wp2_with fail
  refine HV.out.mono ?_
  rintro e w' ⟨rfl, rfl⟩
  go_wp2_with fail
  go_quiet (first
    | (go_at_call 17; exact quiet_same (HU.out _))
    | (go_at_call 26; exact Calls.quiet_of (HE.out _)))
  go_wp2
  go_ret
  exact ⟨rfl, _, rfl⟩
theorem SetAt.drewN {w : World} {p q n cap : Nat} {ws : List Nat} (h : SetAt w p q n cap ws) (d : Nat) : SetAt (w.drewN d) p q n cap ws :=
  ⟨h.c0, h.c1, h.row, h.fz, h.ne, h.qlt, h.hcap, h.len, h.small, h.lt, h.top⟩
/-- Same: as many bits, and the same words. -/
theorem same_at {w : World} {p1 q1 n1 c1 p2 q2 n2 c2 : Nat} {A B : List Nat} (h1 : SetAt w p1 q1 n1 c1 A) (h2 : SetAt w p2 q2 n2 c2 B) (b : Bool) (hb : b = true ↔ n1 = n2 ∧ ∀ k, k < A.length → A.getD k 0 = B.getD k 0) :
    Calls Tryd.prog 16 #[.pointer (some ⟨p1, 0, none⟩), .pointer (some ⟨p2, 0, none⟩)] w fun e w' => e = .returned (.bool b) ∧ ∃ d, w' = w.drewN d := by
  by_cases hn : n1 = n2
  · subst hn
    have hl : B.length = A.length := by rw [h1.len, h2.len]
    by_cases h0 : n1 = 0
    · subst h0
      obtain rfl : b = true := hb.2 ⟨rfl, fun k hk => by have := h1.len; omega⟩
      exact same_none _ _ w (fun d => len_at (h1.drewN d)) (len_at h2)
    · have r2 := h2.row
      have t2 := h2.c1
      rw [hl] at r2 t2
      have hs := h1.small
      have hll := h1.len
      exact same_words p1 q1 c1 p2 q2 c2 n1 A.length b w (by simp; omega) h1.c1 t2 (fun d => len_at (h1.drewN d)) (len_at h2)
        (fun d => equal_at q1 c1 q2 c2 A.length A B b (w.drewN d) (by omega) h1.row r2 (by rw [hb]; simp))
  · obtain rfl : b = false := by cases b; rfl; exact absurd (hb.1 rfl).1 hn
    exact same_len _ _ n1 n2 w (len_at h1) (len_at h2) (by omega)
end Go.Proofs.YtkaoodglnglkdaaDoor
