/- The walks of the reference's In, First, May, New, Place, Head. -/
import Derived.Test.YtbpganholopjfaaPE
namespace Go.Proofs.Ytbpganholopjfaa
open Go.RowKit

set_option maxHeartbeats 400000 in
theorem in_at (k lo hi : Int) (b : Bool) (w : World) (hb : b = true ↔ lo ≤ k ∧ k < hi) :
    Calls Try.prog 74 #[.int .i64 k, .int .i64 lo, .int .i64 hi] w fun e w' => e = .returned (.bool b) ∧ w = w' := by
  cases b with
  | true =>
    obtain ⟨h1, h2⟩ := hb.1 rfl
    clear hb
    go_enter Try.func74, Try.ntmps74
    go_wp2
    go_ret
    exact ⟨rfl, rfl⟩
  | false =>
    have h : ¬ (lo ≤ k ∧ k < hi) := fun x => by have := hb.2 x; cases this
    clear hb
    by_cases h1 : lo ≤ k
    · have h2 : decide (k < hi) = false := by simp; omega
      clear h
      go_enter Try.func74, Try.ntmps74
      go_wp2
      go_ret
      exact ⟨rfl, rfl⟩
    · have h2 : decide (lo ≤ k) = false := by simp; omega
      clear h h1
      go_enter Try.func74, Try.ntmps74
      go_wp2
      go_ret
      exact ⟨rfl, rfl⟩

set_option maxHeartbeats 400000 in
theorem first_at (a : Int) (h : Bool) (w : World) (hh : h = (a == 1 || (a == 2 || a == 4))) :
    Calls Try.prog 70 #[.int .i64 a] w fun e w' => e = .returned (.bool h) ∧ w = w' := by
  have HH := Lib.hid hh
  clear hh
  by_cases h1 : a = 1
  · subst h1
    go_enter Try.func70, Try.ntmps70
    go_wp2
    go_ret
    exact ⟨ret_bool (by rw [HH.out]; rfl), rfl⟩
  · by_cases h2 : a = 2
    · subst h2
      go_enter Try.func70, Try.ntmps70
      go_wp2
      go_ret
      exact ⟨ret_bool (by rw [HH.out]; rfl), rfl⟩
    · have n1 : (a == 1) = false := by simpa using h1
      have n2 : (a == 2) = false := by simpa using h2
      have n4 : (a == 4) = h := by rw [HH.out]; simp [n1, n2]
      clear HH
      go_enter Try.func70, Try.ntmps70
      go_wp2
      go_ret
      exact ⟨rfl, rfl⟩
theorem first_head (x : Pg.Row) (w : World) : Calls Try.prog 70 #[.int .i64 x.k] w fun e w' => e = .returned (.bool (Pg.isHead x)) ∧ w = w' := first_at x.k _ w rfl

set_option maxHeartbeats 800000 in
theorem may_at (a b c d : Int) (m : Bool) (w : World) (hm : m = Pg.may ⟨a, b, c, d⟩) :
    Calls Try.prog 67 #[.agg #[.int .i64 a, .int .i64 b, .int .i64 c, .int .i64 d]] w fun e w' => e = .returned (.bool m) ∧ w.grownBy w' none := by
  have HF := Lib.hid (fun W => first_head ⟨a, b, c, d⟩ W)
  have HM := Lib.hid hm
  clear hm
  simp only [Pg.may] at HM
  generalize Pg.isHead ⟨a, b, c, d⟩ = h at *
  cases h with
  | false =>
    obtain rfl : m = false := HM.out
    clear HM
    go_enter Try.func67, Try.ntmps67
    go_wp2_with (go_at_call 70; refine (HF.out _).mono ?_; rintro e w' ⟨rfl, rfl⟩)
    go_ret
    exact ⟨rfl, grown_alloc _ _ _⟩
  | true =>
    by_cases h1 : 1 ≤ d
    · have h1' : decide (1 ≤ d) = true := by simpa using h1
      by_cases h2 : d ≤ 256
      · have h2' : decide (d ≤ 256) = true := by simpa using h2
        obtain rfl : m = true := by rw [HM.out]; simp [h1, h2]
        clear HM
        go_enter Try.func67, Try.ntmps67
        go_wp2_with (go_at_call 70; refine (HF.out _).mono ?_; rintro e w' ⟨rfl, rfl⟩)
        go_ret
        exact ⟨rfl, grown_alloc _ _ _⟩
      · have h2' : decide (d ≤ 256) = false := by simpa using h2
        obtain rfl : m = false := by rw [HM.out]; simp [h2]
        clear HM h2
        go_enter Try.func67, Try.ntmps67
        go_wp2_with (go_at_call 70; refine (HF.out _).mono ?_; rintro e w' ⟨rfl, rfl⟩)
        go_ret
        exact ⟨rfl, grown_alloc _ _ _⟩
    · have h1' : decide (1 ≤ d) = false := by simpa using h1
      obtain rfl : m = false := by rw [HM.out]; simp [h1]
      clear HM h1
      go_enter Try.func67, Try.ntmps67
      go_wp2_with (go_at_call 70; refine (HF.out _).mono ?_; rintro e w' ⟨rfl, rfl⟩)
      go_ret
      exact ⟨rfl, grown_alloc _ _ _⟩

/-- New rows of the call's own. -/
theorem rnew_rows (w : World) (n : Nat) : PRows w (w.alloc (.cells (zeroRows n) 71)) n (fun _ => Pg.zero) (.returned (.slice (some ⟨w.heap.size, 0, none⟩) n n)) :=
  ⟨_, n, rfl, Nat.le_refl _, Nat.le_refl _, rows_new w _ n, grown_alloc _ _ _⟩

set_option maxHeartbeats 800000 in
theorem rnew_neg (n : Int) (w : World) (h : n < 0) :
    Calls Try.prog 35 #[.int .i64 n] w fun e w' => PRows w w' 0 (fun _ => Pg.zero) e := by
  have hmk : (Instr.makeSlice 68 (.int .i64 0) (.int .i64 0)).run Try.prog w = .ok (.slice (some ⟨w.heap.size, 0, none⟩) 0 0) (w.alloc (.cells (zeroRows 0) 71)) := make_rrows w 0 (by omega)
  have HM := Lib.hid (rnew_rows w 0)
  generalize zeroRows 0 = z at *
  go_enter Try.func35, Try.ntmps35
  go_wp2
  go_ret
  exact HM.out
set_option maxHeartbeats 800000 in
theorem rnew_big (n : Int) (w : World) (h : 256 < n) :
    Calls Try.prog 35 #[.int .i64 n] w fun e w' => PRows w w' 256 (fun _ => Pg.zero) e := by
  have hmk : (Instr.makeSlice 68 (.int .i64 256) (.int .i64 256)).run Try.prog w = .ok (.slice (some ⟨w.heap.size, 0, none⟩) 256 256) (w.alloc (.cells (zeroRows 256) 71)) := make_rrows w 256 (by omega)
  have HM := Lib.hid (rnew_rows w 256)
  have h0 : ¬ n < 0 := by omega
  generalize zeroRows 256 = z at *
  go_enter Try.func35, Try.ntmps35
  go_wp2
  go_ret
  exact HM.out
set_option maxHeartbeats 800000 in
theorem rnew_mid (n : Nat) (w : World) (h : n ≤ 256) :
    Calls Try.prog 35 #[.int .i64 n] w fun e w' => PRows w w' n (fun _ => Pg.zero) e := by
  have hmk := make_rrows w n h
  have HM := Lib.hid (rnew_rows w n)
  have h0 : ¬ (n : Int) < 0 := by omega
  have h1 : ¬ 256 < (n : Int) := by omega
  generalize zeroRows n = z at *
  go_enter Try.func35, Try.ntmps35
  go_wp2
  go_ret
  exact HM.out
theorem rnew_at (n : Int) (w : World) : Calls Try.prog 35 #[.int .i64 n] w fun e w' => PRows w w' (clamp256 n) (fun _ => Pg.zero) e := by
  rcases clamp256_is n with ⟨h, e⟩ | ⟨h0, h1, e⟩ | ⟨h, e⟩
  · rw [e]; exact rnew_neg n w h
  · obtain ⟨k, rfl⟩ : ∃ k : Nat, n = k := ⟨n.toNat, by omega⟩
    rw [show clamp256 (k : Int) = k by omega]
    exact rnew_mid k w (by omega)
  · rw [e]; exact rnew_big n w h

/-- What Place answers. -/
def PlaceRes (F : Nat → Prop) (m : Nat) (w : World) (e : Ending) (w' : World) : Prop := ∃ x : Int, e = .returned (.int .i64 x) ∧ Pg.Place F m x ∧ w = w'

set_option maxRecDepth 100000 in
set_option maxHeartbeats 4000000 in
theorem place_at (q n cap m : Nat) (R : Nat → Pg.Row) (lo hi : Int) (w : World) (hn : n ≤ 256) (hm1 : 1 ≤ m) (hm : m ≤ 257) (hrow : RowsAt w q n R) :
    Calls Try.prog 68 #[.slice (some ⟨q, 0, none⟩) n cap, .int .i64 lo, .int .i64 hi, .int .i64 m] w (PlaceRes (Pg.Fr R n lo hi) m w) := by
  have HR := Lib.hid hrow
  clear hrow
  go_enter Try.func68, Try.ntmps68
  go_wp2_with fail
  go_loop [9, 10, 11, 14] (fun _ _ _ i => ∃ k : Nat, k ≤ n ∧ i = .int .i64 k ∧ ∀ j, j < k → ¬ Pg.Run (Pg.Fr R n lo hi) j m) (fun _ _ _ i => n - (intOf i).toNat)
  case atStart => exact ⟨0, Nat.zero_le _, rfl, fun j hj => by omega⟩
  case round =>
    obtain ⟨k, hk, rfl, hno⟩ := hrel
    have HNO := Lib.hid hno
    clear hno
    by_cases hlt : k < n
    · obtain ⟨b0, hb0⟩ : ∃ b0 : Bool, b0 = true ↔ (m : Int) ≤ n - k := ⟨decide ((m : Int) ≤ n - k), by simp⟩
      have HB0 := Lib.hid hb0
      clear hb0
      go_upto_region 4 with (fail)
      go_cut [10] (fun s wx => s = .bool b0 ∧ wx = w)
      case first =>
        have hk2 : k ≤ 256 := by omega
        go_wp2
        go_meet
        exact ⟨by congr 1; rw [Bool.eq_iff_iff, HB0.out]; simp, rfl⟩
      case rest =>
        obtain ⟨rfl, rfl⟩ := hcut
        go_wp2_with fail
        go_loop [10, 11] (fun s i => ∃ (j : Nat) (b : Bool), j ≤ m ∧ i = .int .i64 ((k : Int) + j) ∧ s = .bool b ∧ (b = true → k + m ≤ n ∧ ∀ x, k ≤ x → x < k + j → Pg.Fr R n lo hi x) ∧ (b = false → ¬ Pg.Run (Pg.Fr R n lo hi) k m)) (fun _ i => k + m - (intOf i).toNat)
        case atStart => exact ⟨0, b0, Nat.zero_le _, vint (by omega), rfl, fun h => ⟨by have := HB0.out.1 h; omega, fun x _ _ => by omega⟩, fun h hr => by
          have := (hr (k + m - 1) (by omega) (by omega)).1
          have := HB0.out.2 (by omega)
          rw [h] at this
          cases this⟩
        case round =>
          obtain ⟨j, b, hj, rfl, rfl, hyes, hnob⟩ := hrel
          have HY := Lib.hid hyes
          have HN := Lib.hid hnob
          clear hyes hnob
          have hk2 : k ≤ 256 := by omega
          have hj2 : j ≤ 257 := by omega
          cases b with
          | false =>
            have HX := Lib.hid (HN.out rfl)
            go_wp2
            go_round
            case rel => exact ⟨k + 1, by omega, by go_num, fun j hj => by
              by_cases e : j = k
              · subst e; exact HX.out
              · exact HNO.out j (by omega)⟩
            case measure => simp [intOf]; omega
          | true =>
            by_cases hjm : j < m
            · have hjm' : (k : Int) + j < k + m := by omega
              obtain ⟨hkm, hall⟩ := HY.out rfl
              have HA := Lib.hid hall
              clear hall
              have hx : k + j < n := by omega
              have hx' : (k : Int) + j < n := by omega
              by_cases hio : lo ≤ (k : Int) + j ∧ (k : Int) + j < hi
              · have HI := Lib.hid (in_at ((k : Int) + j) lo hi true wc ⟨fun _ => hio, fun _ => rfl⟩)
                have d0 := HR.out.c0 _ hx
                have d1 := HR.out.c1 _ hx
                have d2 := HR.out.c2 _ hx
                have d3 := HR.out.c3 _ hx
                have HIO := Lib.hid hio
                clear hio
                by_cases hz : Pg.isZero (R (k + j)) = true
                · have HF := Lib.hid (show Pg.Fr R n lo hi (k + j) from ⟨hx, by have := HIO.out.1; omega, by have := HIO.out.2; omega, hz⟩)
                  have hx0 := (Pg.isZero_iff _).1 hz
                  rw [hx0] at d0 d1 d2 d3
                  clear hx0 hz
                  simp only [Pg.zero] at d0 d1 d2 d3
                  go_wp2_with (go_at_call 74; refine HI.out.mono ?_; rintro e w' ⟨rfl, rfl⟩)
                  go_round
                  case rel => exact ⟨j + 1, true, by omega, vint (by omega), rfl, fun _ => ⟨hkm, fun x h1 h2 => by
                    by_cases e : x = k + j
                    · subst e; exact HF.out
                    · exact HA.out x h1 (by omega)⟩, fun h => by cases h⟩
                  case measure => simp [intOf]; omega
                · have HZ := Lib.hid (show ¬ Pg.Run (Pg.Fr R n lo hi) k m from fun hr => hz (hr (k + j) (by omega) (by omega)).2.2.2)
                  have HX := Lib.hid (nz_row (x := R (k + j)) (by simpa using hz))
                  clear hz
                  generalize R (k + j) = x at *
                  obtain ⟨xk, xc, xo, xr⟩ := x
                  dsimp only at d0 d1 d2 d3
                  go_wp2_with (go_at_call 74; refine HI.out.mono ?_; rintro e w' ⟨rfl, rfl⟩)
                  all_goals
                    first
                    | (exfalso; exact HX.out ⟨‹xk = 0›, ‹xc = 0›, ‹xo = 0›, ‹xr = 0›⟩)
                    | (go_round
                       case rel => exact ⟨j + 1, false, by omega, vint (by omega), rfl, (fun h => by cases h), fun _ => HZ.out⟩
                       case measure => simp [intOf]; omega)
              · have HI := Lib.hid (in_at ((k : Int) + j) lo hi false wc ⟨(fun h => by cases h), fun h => absurd h hio⟩)
                have HZ := Lib.hid (show ¬ Pg.Run (Pg.Fr R n lo hi) k m from fun hr => hio (by have := hr (k + j) (by omega) (by omega); have h1 := this.2.1; have h2 := this.2.2.1; omega))
                clear hio
                go_wp2_with (go_at_call 74; refine HI.out.mono ?_; rintro e w' ⟨rfl, rfl⟩)
                go_round
                case rel => exact ⟨j + 1, false, by omega, vint (by omega), rfl, (fun h => by cases h), fun _ => HZ.out⟩
                case measure => simp [intOf]; omega
            · obtain rfl : j = m := by omega
              obtain ⟨hkm, hall⟩ := HY.out rfl
              have HA := Lib.hid hall
              clear hall
              have hjm' : ¬ (k : Int) + j < k + j := by omega
              go_wp2
              go_ret
              exact ⟨k, rfl, .inl ⟨k, rfl, fun i h1 h2 => HA.out i h1 h2, HNO.out⟩, rfl⟩
    · obtain rfl : k = n := by omega
      go_wp2
      go_ret
      exact ⟨-1, rfl, .inr ⟨rfl, fun j hr => by
        by_cases hjk : j < k
        · exact HNO.out j hjk hr
        · have := (hr j (Nat.le_refl _) (by omega)).1
          omega⟩, rfl⟩
end Go.Proofs.Ytbpganholopjfaa
