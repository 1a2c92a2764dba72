/- The walks of what reads: math/bits.OnesCount64 and TrailingZeros64, and of bitset the methods Len, there, Has, alike. -/
import Derived.Test.YtkaoodglnglkdaaDoorRows
import Derived.Test.YtkaoodglnglkdaaDoorMath
import Derived.WalkKit
import Derived.WalkSpells
import Derived.WalkLawsBesides
import Derived.Lib.TrailingZeros
import Derived.Lib.Hide
import Derived.Laws.Bits64b
import Derived.Laws.BitsAllLaws
import Derived.Laws.Bits128
namespace Go.Proofs.YtkaoodglnglkdaaDoor
open Go.RowKit

theorem ret_int {k : IntKind} {a b : Int} (h : a = b) : Ending.returned (.int k a) = .returned (.int k b) := by rw [h]
theorem ret_bool {a b : Bool} (h : a = b) : Ending.returned (.bool a) = .returned (.bool b) := by rw [h]

theorem and_c (x c : Nat) (X C : Int) (hx : x < 18446744073709551616) (hc : c < 18446744073709551616) (h1 : X = x) (h2 : C = c) : bits .and .u64 X C = ((x &&& c : Nat) : Int) := by
  rw [h1, h2]; exact bits_and_u64_nat x c hx hc
theorem or_c (x c : Nat) (X C : Int) (hx : x < 18446744073709551616) (hc : c < 18446744073709551616) (h1 : X = x) (h2 : C = c) : bits .or .u64 X C = ((x ||| c : Nat) : Int) := by
  rw [h1, h2]; exact u64_or_nat x c hx hc
theorem andNot_c (x c : Nat) (X C : Int) (hx : x < 18446744073709551616) (hc : c < 18446744073709551616) (h1 : X = x) (h2 : C = c) : bits .andNot .u64 X C = ((x &&& (18446744073709551615 - c) : Nat) : Int) := by
  rw [h1, h2]; exact u64_andNot_nat x c hx hc
theorem wrap_c (x : Nat) (X : Int) (hx : x < 18446744073709551616) (h1 : X = x) : IntKind.u64.wrap X = (x : Int) := by
  rw [h1, IntKind.wrap_u64]; omega

set_option maxHeartbeats 400000 in
theorem ones_core (x A B C D E F : Nat) (w : World)
    (h1 : IntKind.u64.wrap (bits .and .u64 (x / 2) 6148914691236517205 + bits .and .u64 x 6148914691236517205) = A)
    (h2 : IntKind.u64.wrap (bits .and .u64 (A / 4) 3689348814741910323 + bits .and .u64 A 3689348814741910323) = B)
    (h3 : bits .and .u64 (IntKind.u64.wrap (B / 16 + B)) 1085102592571150095 = C)
    (h4 : IntKind.u64.wrap (C + C / 256) = D) (h5 : IntKind.u64.wrap (D + D / 65536) = E) (h6 : IntKind.u64.wrap (E + E / 4294967296) = F) (hF : (F : Int) < 9223372036854775808) :
    Calls Tryd.prog 27 #[.int .u64 x] w fun e w' => e = .returned (.int .i64 (F % 128 : Nat)) ∧ w = w' := by
  go_enter Tryd.func27, Tryd.ntmps27
  go_wp2
  go_ret
  exact ⟨ret_int (by rw [i64_and127]; omega), rfl⟩

theorem ones (x : Nat) (w : World) (hx : x < 18446744073709551616) :
    Calls Tryd.prog 27 #[.int .u64 x] w fun e w' => e = .returned (.int .i64 (M.cnt x 64 : Nat)) ∧ w = w' := by
  obtain ⟨l1, l2, l3, D, E, F, hD, hE, hF, lD, lE, lF, hc⟩ := M.sw_cnt x hx
  rw [← hc]
  refine ones_core x (M.sw1 x) (M.sw2 (M.sw1 x)) (M.sw3 (M.sw2 (M.sw1 x))) D E F w ?_ ?_ ?_ ?_ ?_ ?_ (by omega)
  · have a1 : bits .and .u64 ((x : Int) / 2) 6148914691236517205 = ((x / 2 &&& 6148914691236517205 : Nat) : Int) := and_c (x / 2) _ _ _ (by omega) (by decide) (by omega) rfl
    have a2 : bits .and .u64 (x : Int) 6148914691236517205 = ((x &&& 6148914691236517205 : Nat) : Int) := and_c x _ _ _ hx (by decide) rfl rfl
    rw [a1, a2]
    exact wrap_c _ _ l1 (by unfold M.sw1; omega)
  · have a1 : bits .and .u64 ((M.sw1 x : Int) / 4) 3689348814741910323 = ((M.sw1 x / 4 &&& 3689348814741910323 : Nat) : Int) := and_c (M.sw1 x / 4) _ _ _ (by omega) (by decide) (by omega) rfl
    have a2 : bits .and .u64 (M.sw1 x : Int) 3689348814741910323 = ((M.sw1 x &&& 3689348814741910323 : Nat) : Int) := and_c (M.sw1 x) _ _ _ l1 (by decide) rfl rfl
    rw [a1, a2]
    exact wrap_c _ _ l2 (by unfold M.sw2; omega)
  · rw [wrap_c _ _ l3 (by omega)]
    exact and_c _ 1085102592571150095 _ _ l3 (by decide) rfl rfl
  · exact wrap_c _ _ lD (by omega)
  · exact wrap_c _ _ lE (by omega)
  · exact wrap_c _ _ (by omega) (by omega)

/-- The table of math/bits stands where its initialiser lays it. -/
def Tab (w : World) : Prop := ∀ j, j < 64 → w.cell? ⟨0, j, none⟩ = some (.int .u8 (Lib.deBruijn64tab.getD j 0 : Nat))

set_option maxHeartbeats 400000 in
theorem tz_core (x k idx : Nat) (w : World) (hx0 : ((x : Int) == 0) = false)
    (key : IntKind.u64.wrap (bits BinOp.and IntKind.u64 (x : Int) (IntKind.u64.wrap (-(x : Int))) * 285870213051353865) / 288230376151711744 = (idx : Int))
    (hi : idx < 64) (hk : k < 64) (hcell : w.cell? ⟨0, idx, none⟩ = some (.int .u8 k)) :
    Calls Tryd.prog 22 #[.int .u64 x] w fun e w' => e = .returned (.int .i64 k) ∧ w = w' := by
  go_enter Tryd.func22, Tryd.ntmps22
  go_wp2_with (simp only [key])
  go_ret
  exact ⟨rfl, rfl⟩
set_option maxHeartbeats 400000 in
theorem tz_zero (w : World) :
    Calls Tryd.prog 22 #[.int .u64 0] w fun e w' => e = .returned (.int .i64 64) ∧ w = w' := by
  go_enter Tryd.func22, Tryd.ntmps22
  go_wp2
  go_ret
  exact ⟨rfl, rfl⟩
theorem tz_key (x a : Nat) (hx : x < 18446744073709551616) (hx0 : x ≠ 0) (hlow : x &&& (18446744073709551616 - x) = a) :
    IntKind.u64.wrap (bits BinOp.and IntKind.u64 (x : Int) (IntKind.u64.wrap (-(x : Int))) * 285870213051353865) / 288230376151711744 = ((a * 285870213051353865 % 18446744073709551616 / 288230376151711744 : Nat) : Int) := by
  have e1 : IntKind.u64.wrap (-(x : Int)) = ((18446744073709551616 - x : Nat) : Int) := by rw [IntKind.wrap_u64]; omega
  rw [e1, bits_and_u64_nat x _ hx (by omega), hlow, IntKind.wrap_u64]
  omega
theorem tz (x : Nat) (hx : x < 18446744073709551616) (hx0 : x ≠ 0) (w : World) (hT : Tab w) :
    Calls Tryd.prog 22 #[.int .u64 x] w fun e w' => e = .returned (.int .i64 (Lib.ctz 64 x : Nat)) ∧ w = w' := by
  obtain ⟨hlow, hk⟩ := Lib.lowest_bit 64 x hx0 hx
  obtain ⟨hi, htab⟩ := Lib.deBruijn64_at _ hk
  have hcell := hT _ hi
  rw [htab] at hcell
  exact tz_core x _ _ w (by simp; omega) (tz_key x _ hx hx0 hlow) hi hk hcell

/-- A row of n bits: the object at block p, its words at block q. -/
structure SetAt (w : World) (p q n cap : Nat) (ws : List Nat) : Prop where
  c0 : w.cell? ⟨p, 0, none⟩ = some (.int .i64 n)
  c1 : w.cell? ⟨p, 1, none⟩ = some (.slice (some ⟨q, 0, none⟩) ws.length cap)
  row : ∀ k, k < ws.length → w.cell? ⟨q, k, none⟩ = some (.int .u64 (ws.getD k 0 : Nat))
  fz : ∀ k, w.frozen? ⟨q, k, none⟩ = false
  ne : p ≠ q
  qlt : q < w.heap.size
  hcap : ws.length ≤ cap
  len : ws.length = (n + 63) / 64
  small : n ≤ 65536
  lt : ∀ k, ws.getD k 0 < 18446744073709551616
  top : ∀ i, n ≤ i → M.bit ws i = false

set_option maxHeartbeats 400000 in
theorem len_nil (w : World) :
    Calls Tryd.prog 17 #[.pointer none] w fun e w' => e = .returned (.int .i64 0) ∧ w = w' := by
  go_enter Tryd.func17, Tryd.ntmps17
  go_wp2
  go_ret
  exact ⟨rfl, rfl⟩
set_option maxHeartbeats 400000 in
theorem len_core (p : Nat) (n : Int) (w : World) (h0 : w.cell? ⟨p, 0, none⟩ = some (.int .i64 n)) :
    Calls Tryd.prog 17 #[.pointer (some ⟨p, 0, none⟩)] w fun e w' => e = .returned (.int .i64 n) ∧ w = w' := by
  go_enter Tryd.func17, Tryd.ntmps17
  go_wp2
  go_ret
  exact ⟨rfl, rfl⟩
theorem len_at {w : World} {p q n cap : Nat} {ws : List Nat} (h : SetAt w p q n cap ws) :
    Calls Tryd.prog 17 #[.pointer (some ⟨p, 0, none⟩)] w fun e w' => e = .returned (.int .i64 n) ∧ w = w' := len_core p n w h.c0

set_option maxHeartbeats 400000 in
/-- there, of a number below 0: of whatever row. -/
theorem there_neg (v : Value) (i : Int) (w : World) (hi : i < 0) :
    Calls Tryd.prog 20 #[v, .int .i64 i] w fun e w' => e = .returned (.bool false) ∧ w = w' := by
  have hd : decide (0 ≤ i) = false := by simp; omega
  go_enter Tryd.func20, Tryd.ntmps20
  go_wp2
  go_ret
  exact ⟨rfl, rfl⟩
set_option maxHeartbeats 400000 in
theorem there_core (v : Value) (i n : Int) (b : Bool) (w : World) (hi : 0 ≤ i) (hb : decide (i < n) = b)
    (hl : Calls Tryd.prog 17 #[v] w fun e w' => e = .returned (.int .i64 n) ∧ w = w') :
    Calls Tryd.prog 20 #[v, .int .i64 i] w fun e w' => e = .returned (.bool b) ∧ w = w' := by
  have hd : decide (0 ≤ i) = true := by simp; omega
  have HL := Lib.hid hl
  clear hl
  have HB := Lib.hid hb
  clear hb
  go_enter Tryd.func20, Tryd.ntmps20
  go_wp2_with (go_at_call 17; refine HL.out.mono ?_; rintro e w' ⟨rfl, rfl⟩)
  go_ret
  exact ⟨ret_bool HB.out, rfl⟩
theorem there_in {w : World} {p q n cap : Nat} {ws : List Nat} (h : SetAt w p q n cap ws) (i : Int) (h0 : 0 ≤ i) (hi : i < n) :
    Calls Tryd.prog 20 #[.pointer (some ⟨p, 0, none⟩), .int .i64 i] w fun e w' => e = .returned (.bool true) ∧ w = w' :=
  there_core _ i n true w h0 (by simp; omega) (len_at h)
theorem there_out {w : World} {p q n cap : Nat} {ws : List Nat} (h : SetAt w p q n cap ws) (i : Int) (hi : ¬ (0 ≤ i ∧ i < n)) :
    Calls Tryd.prog 20 #[.pointer (some ⟨p, 0, none⟩), .int .i64 i] w fun e w' => e = .returned (.bool false) ∧ w = w' := by
  by_cases h0 : 0 ≤ i
  · exact there_core _ i n false w h0 (by simp; omega) (len_at h)
  · exact there_neg _ i w (by omega)
theorem there_nil (i : Int) (w : World) :
    Calls Tryd.prog 20 #[.pointer none, .int .i64 i] w fun e w' => e = .returned (.bool false) ∧ w = w' := by
  by_cases h0 : 0 ≤ i
  · exact there_core _ i 0 false w h0 (by simp; omega) (len_nil w)
  · exact there_neg _ i w (by omega)

set_option maxHeartbeats 400000 in
theorem has_out (v : Value) (i : Int) (w : World)
    (hl : Calls Tryd.prog 20 #[v, .int .i64 i] w fun e w' => e = .returned (.bool false) ∧ w = w') :
    Calls Tryd.prog 12 #[v, .int .i64 i] w fun e w' => e = .returned (.bool false) ∧ w = w' := by
  have HL := Lib.hid hl
  clear hl
  go_enter Tryd.func12, Tryd.ntmps12
  go_wp2_with (go_at_call 20; refine HL.out.mono ?_; rintro e w' ⟨rfl, rfl⟩)
  go_ret
  exact ⟨rfl, rfl⟩
set_option maxHeartbeats 400000 in
theorem has_core (p q len cap i x : Nat) (b : Bool) (w : World) (hil : i / 64 < len) (hi : (i : Int) ≤ 65536) (h1 : w.cell? ⟨p, 1, none⟩ = some (.slice (some ⟨q, 0, none⟩) len cap))
    (hc : w.cell? ⟨q, i / 64, none⟩ = some (.int .u64 x))
    (hb : (bits .and .u64 ((x : Int) / 2 ^ (i % 64)) 1 == 1) = b)
    (hl : Calls Tryd.prog 20 #[.pointer (some ⟨p, 0, none⟩), .int .i64 i] w fun e w' => e = .returned (.bool true) ∧ w = w') :
    Calls Tryd.prog 12 #[.pointer (some ⟨p, 0, none⟩), .int .i64 i] w fun e w' => e = .returned (.bool b) ∧ w = w' := by
  have HL := Lib.hid hl
  clear hl
  have HB := Lib.hid hb
  clear hb
  go_enter Tryd.func12, Tryd.ntmps12
  go_wp2_with (go_at_call 20; refine HL.out.mono ?_; rintro e w' ⟨rfl, rfl⟩)
  go_ret
  exact ⟨ret_bool HB.out, rfl⟩
end Go.Proofs.YtkaoodglnglkdaaDoor
