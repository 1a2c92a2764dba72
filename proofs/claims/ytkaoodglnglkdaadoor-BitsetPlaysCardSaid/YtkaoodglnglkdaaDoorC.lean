/- The walks of bitset's alike, Count and Next. -/
import Derived.Test.YtkaoodglnglkdaaDoorB
import Derived.Deep.DeepCutAuto
namespace Go.Proofs.YtkaoodglnglkdaaDoor
open Go.RowKit

set_option maxHeartbeats 400000 in
theorem alike_t (p q k cap len : Nat) (x : Nat) (w : World) (h1 : w.cell? ⟨p, 1, none⟩ = some (.slice (some ⟨q, 0, none⟩) len cap)) (hk : k < len) (hc : w.cell? ⟨q, k, none⟩ = some (.int .u64 x)) :
    Calls Tryd.prog 21 #[.pointer (some ⟨p, 0, none⟩), .int .i64 k, .bool true] w fun e w' => e = .returned (.int .u64 x) ∧ w = w' := by
  go_enter Tryd.func21, Tryd.ntmps21
  go_wp2
  go_ret
  exact ⟨rfl, rfl⟩
set_option maxHeartbeats 400000 in
theorem alike_f (p q k cap len : Nat) (x : Nat) (w : World) (hx : x < 18446744073709551616) (h1 : w.cell? ⟨p, 1, none⟩ = some (.slice (some ⟨q, 0, none⟩) len cap)) (hk : k < len) (hc : w.cell? ⟨q, k, none⟩ = some (.int .u64 x)) :
    Calls Tryd.prog 21 #[.pointer (some ⟨p, 0, none⟩), .int .i64 k, .bool false] w fun e w' => e = .returned (.int .u64 (18446744073709551615 - x : Nat)) ∧ w = w' := by
  have hm : IntKind.u64.max = ((18446744073709551615 : Nat) : Int) := by decide
  have hs : IntKind.u64.signed = false := rfl
  have key : bits .xor .u64 IntKind.u64.max x = ((18446744073709551615 - x : Nat) : Int) := by
    rw [hm, u64_xor_nat _ _ (by decide) hx]
    refine congrArg Int.ofNat ?_
    apply Nat.eq_of_testBit_eq
    intro i
    rw [Nat.testBit_xor, M.testBit_not x i hx, M.all64, Nat.testBit_two_pow_sub_one]
    by_cases e : i < 64
    · simp [e]
    · have : x.testBit i = false := Nat.testBit_lt_two_pow (Nat.lt_of_lt_of_le hx (Nat.pow_le_pow_right (n := 2) (by decide) (show 64 ≤ i by omega)))
      simp [e, this]
  have KEY := Lib.hid key
  clear key hm
  go_enter Tryd.func21, Tryd.ntmps21
  go_wp2
  go_ret
  refine ⟨?_, rfl⟩
  rw [← KEY.out]
  rfl
/-- alike: word k with a 1 for each bit that is v. -/
theorem alike_at {w : World} {p q n cap : Nat} {ws : List Nat} (h : SetAt w p q n cap ws) (k : Nat) (hk : k < ws.length) (v : Bool) :
    Calls Tryd.prog 21 #[.pointer (some ⟨p, 0, none⟩), .int .i64 k, .bool v] w fun e w' => e = .returned (.int .u64 (M.alike (ws.getD k 0) v : Nat)) ∧ w = w' := by
  cases v
  · exact alike_f p q k cap ws.length _ w (h.lt k) h.c1 hk (h.row k hk)
  · exact alike_t p q k cap ws.length _ w h.c1 hk (h.row k hk)

set_option maxHeartbeats 400000 in
theorem count_nil (w : World) :
    Calls Tryd.prog 18 #[.pointer none] w fun e w' => e = .returned (.int .i64 0) ∧ w = w' := by
  go_enter Tryd.func18, Tryd.ntmps18
  go_wp2
  go_ret
  exact ⟨rfl, rfl⟩
set_option maxHeartbeats 400000 in
theorem count_core (p q cap len : Nat) (ws : List Nat) (w : World) (hlen : len ≤ 1024) (h1 : w.cell? ⟨p, 1, none⟩ = some (.slice (some ⟨q, 0, none⟩) len cap))
    (hrow : ∀ k, k < len → w.cell? ⟨q, k, none⟩ = some (.int .u64 (ws.getD k 0 : Nat))) (hlt : ∀ k, ws.getD k 0 < 18446744073709551616) :
    Calls Tryd.prog 18 #[.pointer (some ⟨p, 0, none⟩)] w fun e w' => e = .returned (.int .i64 (M.sumTo ws len : Nat)) ∧ w = w' := by
  have HR := Lib.hid hrow
  clear hrow
  have HLT := Lib.hid hlt
  clear hlt
  go_enter Tryd.func18, Tryd.ntmps18
  go_wp2
  go_loop [3, 12] (fun c i => ∃ k : Nat, k ≤ len ∧ i = .int .i64 k ∧ c = .int .i64 (M.sumTo ws k : Nat)) (fun _ i => len - (intOf i).toNat)
  case atStart => exact ⟨0, Nat.zero_le _, rfl, rfl⟩
  case round =>
    obtain ⟨k, hk, rfl, rfl⟩ := hrel
    have hs1 := M.sumTo_le ws k
    have hs2 : M.sumTo ws (k + 1) = M.sumTo ws k + M.cnt (ws.getD k 0) 64 := rfl
    have hs3 := M.sumTo_le ws (k + 1)
    have hb : k < len → ((M.sumTo ws k : Nat) : Int) + (M.cnt (ws.getD k 0) 64 : Nat) ≤ 65536 := by omega
    have hb0 : ((M.sumTo ws k : Nat) : Int) ≤ 65536 := by omega
    have HS := Lib.hid hs2
    clear hs1 hs2 hs3
    by_cases hlt : k < len
    · have hb := hb hlt
      have hcell := HR.out k hlt
      have hx := HLT.out k
      generalize ws.getD k 0 = x at *
      generalize hc : M.cnt x 64 = c at *
      have HC := Lib.hid hc
      clear hc
      go_wp2_with (go_at_call 27; refine (ones x _ hx).mono ?_; rintro e w' ⟨rfl, rfl⟩; rw [HC.out])
      go_round
      case rel => exact ⟨k + 1, by omega, by go_num, by rw [HS.out]; go_num⟩
      case measure => simp [intOf]; omega
    · clear hb
      obtain rfl : k = len := by omega
      go_wp2
      go_ret
      exact ⟨rfl, rfl⟩
theorem count_at {w : World} {p q n cap : Nat} {ws : List Nat} (h : SetAt w p q n cap ws) :
    Calls Tryd.prog 18 #[.pointer (some ⟨p, 0, none⟩)] w fun e w' => e = .returned (.int .i64 (M.tot ws n : Nat)) ∧ w = w' := by
  have hs := h.small
  have hl := h.len
  rw [← M.sumTo_all ws n h.len h.top]
  exact count_core p q cap ws.length ws w (by omega) h.c1 h.row h.lt

/-- What Next answers, from bit f on. -/
def NextIs (ws : List Nat) (n f : Nat) (v : Bool) (e : Ending) : Prop :=
  (∃ j, M.First ws n f v j ∧ e = .returned (.tuple #[.int .i64 j, .bool true])) ∨ ((∀ i, f ≤ i → i < n → M.bit ws i = !v) ∧ e = .returned (.tuple #[.int .i64 0, .bool false]))

set_option maxHeartbeats 400000 in
/-- Next, where there is no first bit to look at. -/
theorem next_out (u : Value) (f : Int) (v : Bool) (w : World)
    (hl : ∀ g : Int, (0 ≤ f → g = f) → (f < 0 → g = 0) → Calls Tryd.prog 20 #[u, .int .i64 g] w fun e w' => e = .returned (.bool false) ∧ w = w') :
    Calls Tryd.prog 10 #[u, .int .i64 f, .bool v] w fun e w' => e = .returned (.tuple #[.int .i64 0, .bool false]) ∧ w = w' := by
  by_cases h0 : 0 ≤ f
  · have HL := Lib.hid (hl f (fun _ => rfl) (fun _ => by omega))
    clear hl
    go_enter Tryd.func10, Tryd.ntmps10
    go_wp2_with (go_at_call 20; refine HL.out.mono ?_; rintro e w' ⟨rfl, rfl⟩)
    go_ret2
    exact ⟨rfl, rfl⟩
  · have HL := Lib.hid (hl 0 (fun _ => by omega) (fun _ => rfl))
    clear hl
    have h1 : f < 0 := by omega
    go_enter Tryd.func10, Tryd.ntmps10
    go_wp2_with (go_at_call 20; refine HL.out.mono ?_; rintro e w' ⟨rfl, rfl⟩)
    go_ret2
    exact ⟨rfl, rfl⟩

theorem look_int (x f : Nat) (v : Bool) (A : Nat) (hx : x < 18446744073709551616) (hA : A = 2 ^ f - 1) (hf : f < 64) :
    bits .andNot .u64 (M.alike x v : Nat) (A : Nat) = ((M.look x v f : Nat) : Int) := by
  subst hA
  have := M.pow_lt f hf
  exact andNot_c _ _ _ _ (M.alike_lt x v hx) (by omega) rfl rfl

set_option maxHeartbeats 1000000 in
theorem next_core (p q n cap len : Nat) (ws : List Nat) (f : Int) (k0 : Nat) (v : Bool) (w : World) (hk0 : 0 ≤ f → f = k0) (hk1 : f < 0 → k0 = 0) (hlen : len ≤ 1024) (hn : n ≤ 65536) (hfl : k0 / 64 < len)
    (h1 : w.cell? ⟨p, 1, none⟩ = some (.slice (some ⟨q, 0, none⟩) len cap))
    (hlt : ∀ k, ws.getD k 0 < 18446744073709551616)
    (hal : ∀ (k : Nat) (I : Int), I = k → k < len → Calls Tryd.prog 21 #[.pointer (some ⟨p, 0, none⟩), .int .i64 I, .bool v] w fun e w' => e = .returned (.int .u64 (M.alike (ws.getD k 0) v : Nat)) ∧ w = w')
    (hin : ∀ i : Int, 0 ≤ i → i < n → Calls Tryd.prog 20 #[.pointer (some ⟨p, 0, none⟩), .int .i64 i] w fun e w' => e = .returned (.bool true) ∧ w = w')
    (hout : ∀ i : Int, ¬ (0 ≤ i ∧ i < n) → Calls Tryd.prog 20 #[.pointer (some ⟨p, 0, none⟩), .int .i64 i] w fun e w' => e = .returned (.bool false) ∧ w = w')
    (hT : Tab w) (hnl : n ≤ 64 * len) (hk0n : k0 < n) :
    Calls Tryd.prog 10 #[.pointer (some ⟨p, 0, none⟩), .int .i64 f, .bool v] w fun e w' => NextIs ws n k0 v e ∧ w = w' := by
  have HLT := Lib.hid hlt
  have HAL := Lib.hid hal
  have HIN := Lib.hid hin
  have HOUT := Lib.hid hout
  have HT := Lib.hid hT
  clear hlt hal hin hout hT
  have HK0 := Lib.hid hk0
  have HK1 := Lib.hid hk1
  clear hk0 hk1
  go_enter Tryd.func10, Tryd.ntmps10
  go_upto_region 1 with (fail)
  go_cut [1] (fun s1 wx => s1 = .int .i64 k0 ∧ wx = w)
  case first =>
    by_cases hf : 0 ≤ f
    · obtain rfl := HK0.out hf
      go_wp2
      go_meet
      exact ⟨rfl, rfl⟩
    · have hf' : f < 0 := by omega
      obtain rfl := HK1.out hf'
      go_wp2
      go_meet
      exact ⟨rfl, rfl⟩
  case rest =>
    obtain ⟨rfl, rfl⟩ := hcut
    have hm64 : k0 % 64 < 64 := Nat.mod_lt _ (by decide)
    have hpw := M.pow_lt (k0 % 64) hm64
    have hpos : 1 ≤ 2 ^ (k0 % 64) := Nat.one_le_two_pow
    have hah : IntKind.u64.wrap (IntKind.u64.wrap (2 ^ (k0 % 64)) - 1) = ((2 ^ (k0 % 64) - 1 : Nat) : Int) := by
      have e1 : IntKind.u64.wrap ((2 : Int) ^ (k0 % 64)) = ((2 ^ (k0 % 64) : Nat) : Int) := wrap_c _ _ hpw (by simp)
      rw [e1]
      exact wrap_c _ _ (by omega) (by omega)
    obtain ⟨A0, hA0⟩ : ∃ A0, A0 = 2 ^ (k0 % 64) - 1 := ⟨_, rfl⟩
    rw [← hA0] at hah
    have HA0 := Lib.hid hA0
    clear hA0 hpw hpos hm64
    have hfl' : (k0 : Int) / 64 < len := by omega
    go_wp2_with (go_at_call 20; refine (HIN.out _ (by omega) (by omega)).mono ?_; rintro e w' ⟨rfl, rfl⟩)
    clear hah
    go_loop [9, 32] (fun a i => ∃ k A : Nat, k ≤ len - k0 / 64 ∧ i = .int .i64 k ∧ a = .int .u64 A ∧ A = 2 ^ (M.ahead k0 k) - 1 ∧ M.Gone ws n k0 v (k0 / 64 + k)) (fun _ i => len - (intOf i).toNat)
    case atStart => exact ⟨0, A0, Nat.zero_le _, rfl, rfl, HA0.out, M.gone_zero ws n k0 v⟩
    case round =>
      obtain ⟨k, A, hk, rfl, rfl, hA, hg⟩ := hrel
      have hx := HLT.out (k0 / 64 + k)
      have hX := look_int (ws.getD (k0 / 64 + k) 0) (M.ahead k0 k) v A hx hA (M.ahead_lt k0 k)
      have hXlt := M.look_lt (ws.getD (k0 / 64 + k) 0) (M.ahead k0 k) v hx
      have HNX := Lib.hid (M.gone_word ws n k0 k v HLT.out hg)
      have HLW := Lib.hid (fun c => M.low_word ws n k0 k c v HLT.out hg)
      have HG := Lib.hid hg
      clear hg hA
      obtain ⟨Y, hY⟩ : ∃ Y, Y = M.alike (ws.getD (k0 / 64 + k) 0) v := ⟨_, rfl⟩
      rw [← hY] at hX
      have HY := Lib.hid hY
      clear hY hx
      generalize M.look (ws.getD (k0 / 64 + k) 0) v (M.ahead k0 k) = X at *
      by_cases hkl : k0 / 64 + k < len
      · have hkl' : (k : Int) < len - k0 / 64 := by omega
        by_cases hz : X = 0
        · have HN := Lib.hid (HNX.out hz)
          clear HNX HLW
          subst hz
          clear hXlt
          go_wp2_with (go_at_call 21; refine (HAL.out (k0 / 64 + k) _ (by omega) hkl).mono ?_; rintro e w' ⟨rfl, rfl⟩; rw [← HY.out])
          go_round
          case rel => exact ⟨k + 1, 0, by omega, by go_num, rfl, rfl, HN.out⟩
          case measure => simp [intOf]; omega
        · have hz' : (((X : Nat) : Int) == 0) = false := by simp; omega
          have hl := M.ctz_low X hXlt hz
          obtain ⟨c, hc⟩ : ∃ c, c = Lib.ctz 64 X := ⟨_, rfl⟩
          rw [← hc] at hl
          obtain ⟨hc64, hl1, hl2⟩ := hl
          have HW := Lib.hid (HLW.out c hc64 hl1 hl2)
          have HC := Lib.hid hc
          have HZ := Lib.hid hz
          clear HNX HLW hl1 hl2 hc hz
          have hc64' : (c : Int) < 64 := by omega
          have hi0 : (0 : Int) ≤ (k0 / 64 + k) * 64 + c := by omega
          have hi1 : ((k0 : Int) / 64 + k) * 64 + c < 65536 := by omega
          by_cases hin : 64 * (k0 / 64 + k) + c < n
          · go_wp2_with (first
              | (go_at_call 21; refine (HAL.out (k0 / 64 + k) _ (by omega) hkl).mono ?_; rintro e w' ⟨rfl, rfl⟩; rw [← HY.out])
              | (go_at_call 22; refine (tz X hXlt HZ.out _ HT.out).mono ?_; rintro e w' ⟨rfl, rfl⟩; rw [← HC.out])
              | (go_at_call 20; refine (HIN.out _ (by omega) (by omega)).mono ?_; rintro e w' ⟨rfl, rfl⟩))
            go_ret2
            refine ⟨Or.inl ⟨64 * (k0 / 64 + k) + c, ⟨HW.out.1, hin, HW.out.2.1, fun i g1 g2 => HW.out.2.2 i g1 g2 (by omega)⟩, ?_⟩, rfl⟩
            refine congrArg (fun z => Ending.returned (Value.tuple #[Value.int IntKind.i64 z, Value.bool true])) ?_
            omega
          · go_wp2_with (first
              | (go_at_call 21; refine (HAL.out (k0 / 64 + k) _ (by omega) hkl).mono ?_; rintro e w' ⟨rfl, rfl⟩; rw [← HY.out])
              | (go_at_call 22; refine (tz X hXlt HZ.out _ HT.out).mono ?_; rintro e w' ⟨rfl, rfl⟩; rw [← HC.out])
              | (go_at_call 20; refine (HOUT.out _ (by omega)).mono ?_; rintro e w' ⟨rfl, rfl⟩))
            go_round
            case rel => exact ⟨k + 1, 0, by omega, by go_num, rfl, rfl, fun i g1 g2 g3 => HW.out.2.2 i g1 (by omega) g3⟩
            case measure => simp [intOf]; omega
      · have hkl' : ¬ (k : Int) < len - k0 / 64 := by omega
        go_wp2
        go_ret2
        exact ⟨Or.inr ⟨fun i g1 g2 => HG.out i g1 (by omega) g2, rfl⟩, rfl⟩
/-- Next, of a row that has a bit to look at. -/
theorem next_in {w : World} {p q n cap : Nat} {ws : List Nat} (h : SetAt w p q n cap ws) (hT : Tab w) (f : Int) (k0 : Nat) (v : Bool) (hk0 : 0 ≤ f → f = k0) (hk1 : f < 0 → k0 = 0) (hk : k0 < n) :
    Calls Tryd.prog 10 #[.pointer (some ⟨p, 0, none⟩), .int .i64 f, .bool v] w fun e w' => NextIs ws n k0 v e ∧ w = w' := by
  have hs := h.small
  have hl := h.len
  exact next_core p q n cap ws.length ws f k0 v w hk0 hk1 (by omega) hs (by omega) h.c1 h.lt (fun k I hI hk => by subst hI; exact alike_at h k hk v)
    (fun i h0 h1 => there_in h i h0 h1) (fun i hi => there_out h i hi) hT (by omega) hk
/-- Next of any row, from whatever bit on. -/
theorem next_at {w : World} {p q n cap : Nat} {ws : List Nat} (h : SetAt w p q n cap ws) (hT : Tab w) (f : Int) (v : Bool) :
    Calls Tryd.prog 10 #[.pointer (some ⟨p, 0, none⟩), .int .i64 f, .bool v] w fun e w' => NextIs ws n f.toNat v e ∧ w = w' := by
  by_cases hk : f.toNat < n
  · exact next_in h hT f f.toNat v (by omega) (by omega) hk
  · refine (next_out _ f v w (fun g h0 h1 => there_out h g ?_)).mono ?_
    · by_cases hf : 0 ≤ f
      · rw [h0 hf]; omega
      · rw [h1 (by omega)]; omega
    · rintro e w' ⟨he, hw⟩
      exact ⟨Or.inr ⟨fun i g1 g2 => by omega, he⟩, hw⟩
theorem next_nil (f : Int) (v : Bool) (w : World) :
    Calls Tryd.prog 10 #[.pointer none, .int .i64 f, .bool v] w fun e w' => e = .returned (.tuple #[.int .i64 0, .bool false]) ∧ w = w' :=
  next_out _ f v w (fun g _ _ => there_nil g w)
end Go.Proofs.YtkaoodglnglkdaaDoor
