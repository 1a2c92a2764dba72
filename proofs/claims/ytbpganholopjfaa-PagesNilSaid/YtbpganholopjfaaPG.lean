/- The walks of the reference's Count, Longest, Head, Lay, Clear. -/
import Derived.Test.YtbpganholopjfaaPF
namespace Go.Proofs.Ytbpganholopjfaa
open Go.RowKit

set_option maxRecDepth 100000 in
set_option maxHeartbeats 2000000 in
theorem rcount_at (q n cap : Nat) (R : Nat → Pg.Row) (lo hi kind : Int) (w : World) (hn : n ≤ 256) (hrow : RowsAt w q n R) :
    Calls Try.prog 43 #[.slice (some ⟨q, 0, none⟩) n cap, .int .i64 lo, .int .i64 hi, .int .i64 kind] w fun e w' => e = .returned (.int .i64 (Pg.cnt R lo hi kind n : Nat)) ∧ w.grownBy w' none := by
  have HR := Lib.hid hrow
  clear hrow
  go_enter Try.func43, Try.ntmps43
  go_wp2_with fail
  go_loopw [9, 14] (fun c i wr => ∃ k : Nat, k ≤ n ∧ i = .int .i64 k ∧ c = .int .i64 (Pg.cnt R lo hi kind k : Nat) ∧ w.grownBy wr none) (fun _ i _ => n - (intOf i).toNat)
  case atStart => exact ⟨0, Nat.zero_le _, rfl, rfl, grown_refl _ _⟩
  case round =>
    obtain ⟨k, hk, rfl, rfl, hg⟩ := hrel
    have HG := Lib.hid hg
    clear hg
    have hb := Pg.cnt_le R lo hi kind k
    by_cases hlt : k < n
    · have HRK := HR.out.grown HG.out (by simp)
      have d0 := HRK.c0 _ hlt
      have d1 := HRK.c1 _ hlt
      have d2 := HRK.c2 _ hlt
      have d3 := HRK.c3 _ hlt
      have HS : Hid (Pg.cnt R lo hi kind (k + 1) = Pg.cnt R lo hi kind k + if lo ≤ k ∧ (k : Int) < hi ∧ (R k).k = kind then 1 else 0) := rfl
      clear HRK
      generalize R k = x at *
      obtain ⟨a, b, c, d⟩ := x
      dsimp only at d0 d1 d2 d3
      generalize Pg.cnt R lo hi kind k = y at *
      by_cases hio : lo ≤ (k : Int) ∧ (k : Int) < hi
      · have HI := Lib.hid (fun W => in_at k lo hi true W ⟨fun _ => hio, fun _ => rfl⟩)
        have HIO := Lib.hid hio
        clear hio
        by_cases hkd : a = kind
        · have hkd' : (a == kind) = true := by simpa using hkd
          have HK := Lib.hid hkd
          clear hkd
          go_wp2_with (go_at_call 74; refine (HI.out _).mono ?_; rintro e w' ⟨rfl, rfl⟩)
          go_roundw
          case rel => exact ⟨k + 1, by omega, by go_num, by rw [HS.out, if_pos ⟨HIO.out.1, HIO.out.2, HK.out⟩]; go_num, grown_trans HG.out (grown_alloc _ _ _)⟩
          case measure => simp [intOf]; omega
        · have hkd' : (a == kind) = false := by simpa using hkd
          have HK := Lib.hid hkd
          clear hkd
          go_wp2_with (go_at_call 74; refine (HI.out _).mono ?_; rintro e w' ⟨rfl, rfl⟩)
          go_roundw
          case rel => exact ⟨k + 1, by omega, by go_num, by rw [HS.out, if_neg (fun x => HK.out x.2.2)]; rfl, grown_trans HG.out (grown_alloc _ _ _)⟩
          case measure => simp [intOf]; omega
      · have HI := Lib.hid (fun W => in_at k lo hi false W ⟨(fun h => by cases h), fun h => absurd h hio⟩)
        have HIO := Lib.hid hio
        clear hio
        go_wp2_with (go_at_call 74; refine (HI.out _).mono ?_; rintro e w' ⟨rfl, rfl⟩)
        go_roundw
        case rel => exact ⟨k + 1, by omega, by go_num, by rw [HS.out, if_neg (fun x => HIO.out ⟨x.1, x.2.1⟩)]; rfl, grown_trans HG.out (grown_alloc _ _ _)⟩
        case measure => simp [intOf]; omega
    · obtain rfl : k = n := by omega
      go_wp2
      go_ret
      exact ⟨rfl, HG.out⟩

/-- What the reference's Longest answers. -/
def RLongRes (F : Nat → Prop) (w : World) (e : Ending) (w' : World) : Prop := ∃ m : Nat, e = .returned (.int .i64 m) ∧ Pg.Longest F m ∧ w = w'
set_option maxRecDepth 100000 in
set_option maxHeartbeats 2000000 in
theorem rlongest_at (q n cap : Nat) (R : Nat → Pg.Row) (lo hi : Int) (w : World) (hn : n ≤ 256) (hrow : RowsAt w q n R) :
    Calls Try.prog 41 #[.slice (some ⟨q, 0, none⟩) n cap, .int .i64 lo, .int .i64 hi] w (RLongRes (Pg.Fr R n lo hi) w) := by
  have HR := Lib.hid hrow
  clear hrow
  go_enter Try.func41, Try.ntmps41
  go_wp2_with fail
  go_loop [7] (fun i => ∃ k : Nat, k ≤ n ∧ i = .int .i64 k ∧ (0 < k → ∃ j, Pg.Run (Pg.Fr R n lo hi) j k)) (fun i => n - (intOf i).toNat)
  case atStart => exact ⟨0, Nat.zero_le _, rfl, fun h => by omega⟩
  case round =>
    obtain ⟨k, hk, rfl, hrun⟩ := hrel
    have HRUN := Lib.hid hrun
    clear hrun
    by_cases hlt : k < n
    · have HP := place_at q n cap (k + 1) R lo hi w hn (by omega) (by omega) HR.out
      rw [show ((k + 1 : Nat) : Int) = (k : Int) + 1 by omega] at HP
      have HP := Lib.hid HP
      have hk256 : k ≤ 256 := by omega
      go_wp2_with fail
      refine HP.out.mono ?_
      rintro e w' ⟨x, rfl, hx, rfl⟩
      have HX := Lib.hid hx
      by_cases h0 : 0 ≤ x
      · have h0' : decide (0 ≤ x) = true := by simpa using h0
        clear hx
        go_wp2_with fail
        go_round
        case rel => exact ⟨k + 1, by omega, by go_num, fun _ => by
          rcases HX.out with ⟨j, _, hj, _⟩ | ⟨hx, _⟩
          · exact ⟨j, hj⟩
          · omega⟩
        case measure => simp [intOf]; omega
      · have h0' : decide (0 ≤ x) = false := by simpa using h0
        clear hx
        go_wp2_with fail
        go_ret
        exact ⟨k, rfl, ⟨HRUN.out, fun j hr => by
          rcases HX.out with ⟨i, hi, _⟩ | ⟨_, hx⟩
          · omega
          · exact hx j hr⟩, rfl⟩
    · obtain rfl : k = n := by omega
      go_wp2_with fail
      go_ret
      exact ⟨k, rfl, ⟨HRUN.out, fun j hr => by have := (hr (j + k) (by omega) (by omega)).1; omega⟩, rfl⟩

/-- The page that a page belongs to, -1: none. -/
def Own (R : Nat → Pg.Row) (n : Nat) (i x : Int) : Prop :=
  (∃ k : Nat, x = k ∧ k < n ∧ Pg.isHead (R k) = true ∧ (k : Int) ≤ i ∧ i < k + (R k).r) ∨ (x = -1 ∧ ∀ k, k < n → ¬ (Pg.isHead (R k) = true ∧ (k : Int) ≤ i ∧ i < k + (R k).r))
def OwnRes (R : Nat → Pg.Row) (n : Nat) (i : Int) (w : World) (e : Ending) (w' : World) : Prop := ∃ x : Int, e = .returned (.int .i64 x) ∧ Own R n i x ∧ w.grownBy w' none
set_option maxRecDepth 100000 in
set_option maxHeartbeats 2000000 in
theorem rhead_at (q n cap : Nat) (R : Nat → Pg.Row) (i : Int) (w : World) (hn : n ≤ 256) (hi : i ≤ 9223372036854775807) (hrow : RowsAt w q n R) :
    Calls Try.prog 72 #[.slice (some ⟨q, 0, none⟩) n cap, .int .i64 i] w (OwnRes R n i w) := by
  have HR := Lib.hid hrow
  clear hrow
  go_enter Try.func72, Try.ntmps72
  go_wp2_with fail
  go_loopw [9] (fun a wr => ∃ k : Nat, k ≤ n ∧ a = .int .i64 k ∧ (∀ j, j < k → ¬ (Pg.isHead (R j) = true ∧ (j : Int) ≤ i ∧ i < j + (R j).r)) ∧ w.grownBy wr none) (fun a _ => n - (intOf a).toNat)
  case atStart => exact ⟨0, Nat.zero_le _, rfl, (fun j h => by omega), grown_refl _ _⟩
  case round =>
    obtain ⟨k, hk, rfl, hno, hg⟩ := hrel
    have HG := Lib.hid hg
    have HNO := Lib.hid hno
    clear hg hno
    by_cases hlt : k < n
    · have HRK := HR.out.grown HG.out (by simp)
      have d0 := HRK.c0 _ hlt
      have d1 := HRK.c1 _ hlt
      have d2 := HRK.c2 _ hlt
      have d3 := HRK.c3 _ hlt
      have HF := Lib.hid (fun W => first_head (R k) W)
      have HNXT : Hid (¬ (Pg.isHead (R k) = true ∧ (k : Int) ≤ i ∧ i < k + (R k).r) → ∀ j, j < k + 1 → ¬ (Pg.isHead (R j) = true ∧ (j : Int) ≤ i ∧ i < j + (R j).r)) := fun h j hj => by
        by_cases e : j = k
        · subst e; exact h
        · exact HNO.out j (by omega)
      have HYES : Hid (Pg.isHead (R k) = true ∧ (k : Int) ≤ i ∧ i < k + (R k).r → Own R n i k) := fun h => .inl ⟨k, rfl, hlt, h⟩
      clear HRK
      generalize R k = x at *
      obtain ⟨a, b, c, d⟩ := x
      dsimp only at d0 d1 d2 d3
      simp only at HF
      generalize Pg.isHead ⟨a, b, c, d⟩ = hd at *
      have hk256 : k ≤ 256 := by omega
      cases hd with
      | false =>
        have HN := Lib.hid (HNXT.out (fun x => by cases x.1))
        clear HNXT HYES
        go_wp2_with (go_at_call 70; refine (HF.out _).mono ?_; rintro e w' ⟨rfl, rfl⟩)
        go_roundw
        case rel => exact ⟨k + 1, by omega, by go_num, HN.out, grown_trans HG.out (grown_alloc _ _ _)⟩
        case measure => simp [intOf]; omega
      | true =>
        by_cases h1 : (k : Int) ≤ i
        · have h1' : decide ((k : Int) ≤ i) = true := by simpa using h1
          have hsub : (0 : Int) ≤ i - k := by omega
          have hsub2 : i - k ≤ 9223372036854775807 := by omega
          by_cases h2 : i - k < d
          · have h2' : decide (i - (k : Int) < d) = true := by simpa using h2
            have HY := Lib.hid (HYES.out ⟨rfl, h1, by show i < k + d; omega⟩)
            clear HNXT HYES
            go_wp2_with (go_at_call 70; refine (HF.out _).mono ?_; rintro e w' ⟨rfl, rfl⟩)
            go_ret
            exact ⟨k, rfl, HY.out, grown_trans HG.out (grown_alloc _ _ _)⟩
          · have h2' : decide (i - (k : Int) < d) = false := by simpa using h2
            have HN := Lib.hid (HNXT.out (fun x => by have h3 : i < k + d := x.2.2; omega))
            clear HNXT HYES h2
            go_wp2_with (go_at_call 70; refine (HF.out _).mono ?_; rintro e w' ⟨rfl, rfl⟩)
            go_roundw
            case rel => exact ⟨k + 1, by omega, by go_num, HN.out, grown_trans HG.out (grown_alloc _ _ _)⟩
            case measure => simp [intOf]; omega
        · have h1' : decide ((k : Int) ≤ i) = false := by simpa using h1
          have HN := Lib.hid (HNXT.out (fun x => h1 x.2.1))
          clear HNXT HYES h1
          go_wp2_with (go_at_call 70; refine (HF.out _).mono ?_; rintro e w' ⟨rfl, rfl⟩)
          go_roundw
          case rel => exact ⟨k + 1, by omega, by go_num, HN.out, grown_trans HG.out (grown_alloc _ _ _)⟩
          case measure => simp [intOf]; omega
    · obtain rfl : k = n := by omega
      go_wp2_with fail
      go_ret
      exact ⟨-1, rfl, .inr ⟨rfl, HNO.out⟩, HG.out⟩
end Go.Proofs.Ytbpganholopjfaa
