/- The walks of what reads: math/bits.OnesCount64 and TrailingZeros64, and of bitset the methods Len, there, Has, alike. -/
import Derived.Test.YticoojcmlkdeiaaRows
import Derived.Test.YticoojcmlkdeiaaMath
import Derived.WalkKit
import Derived.WalkSpells
import Derived.WalkLawsBesides
import Derived.Lib.TrailingZeros
import Derived.Lib.Hide
import Derived.Laws.Bits64b
import Derived.Laws.BitsAllLaws
import Derived.Laws.Bits128
namespace Go.Proofs.Yticoojcmlkdeiaa.Bs
open Go.RowKit

theorem ret_int {k : IntKind} {a b : Int} (h : a = b) : Ending.returned (.int k a) = .returned (.int k b) := by rw [h]
theorem ret_bool {a b : Bool} (h : a = b) : Ending.returned (.bool a) = .returned (.bool b) := by rw [h]

theorem and_c (x c : Nat) (X C : Int) (hx : x < 18446744073709551616) (hc : c < 18446744073709551616) (h1 : X = x) (h2 : C = c) : bits .and .u64 X C = ((x &&& c : Nat) : Int) := by
  rw [h1, h2]; exact bits_and_u64_nat x c hx hc
theorem or_c (x c : Nat) (X C : Int) (hx : x < 18446744073709551616) (hc : c < 18446744073709551616) (h1 : X = x) (h2 : C = c) : bits .or .u64 X C = ((x ||| c : Nat) : Int) := by
  rw [h1, h2]; exact u64_or_nat x c hx hc
theorem andNot_c (x c : Nat) (X C : Int) (hx : x < 18446744073709551616) (hc : c < 18446744073709551616) (h1 : X = x) (h2 : C = c) : bits .andNot .u64 X C = ((x &&& (18446744073709551615 - c) : Nat) : Int) := by
  rw [h1, h2]; exact u64_andNot_nat x c hx hc
theorem wrap_c (x : Nat) (X : Int) (hx : x < 18446744073709551616) (h1 : X = x) : IntKind.u64.wrap X = (x : Int) := by
  rw [h1, IntKind.wrap_u64]; omega

theorem tz_key (x a : Nat) (hx : x < 18446744073709551616) (hx0 : x ≠ 0) (hlow : x &&& (18446744073709551616 - x) = a) :
    IntKind.u64.wrap (bits BinOp.and IntKind.u64 (x : Int) (IntKind.u64.wrap (-(x : Int))) * 285870213051353865) / 288230376151711744 = ((a * 285870213051353865 % 18446744073709551616 / 288230376151711744 : Nat) : Int) := by
  have e1 : IntKind.u64.wrap (-(x : Int)) = ((18446744073709551616 - x : Nat) : Int) := by rw [IntKind.wrap_u64]; omega
  rw [e1, bits_and_u64_nat x _ hx (by omega), hlow, IntKind.wrap_u64]
  omega
/-- A row of n bits: the object at block p, its words at block q. -/
structure SetAt (w : World) (p q n cap : Nat) (ws : List Nat) : Prop where
  c0 : w.cell? ⟨p, 0, none⟩ = some (.int .i64 n)
  c1 : w.cell? ⟨p, 1, none⟩ = some (.slice (some ⟨q, 0, none⟩) ws.length cap)
  row : ∀ k, k < ws.length → w.cell? ⟨q, k, none⟩ = some (.int .u64 (ws.getD k 0 : Nat))
  fz : ∀ k, w.frozen? ⟨q, k, none⟩ = false
  ne : p ≠ q
  qlt : q < w.heap.size
  hcap : ws.length ≤ cap
  len : ws.length = (n + 63) / 64
  small : n ≤ 65536
  lt : ∀ k, ws.getD k 0 < 18446744073709551616
  top : ∀ i, n ≤ i → M.bit ws i = false

set_option maxHeartbeats 400000 in
theorem len_nil (w : World) :
    Calls Try.prog 91 #[.pointer none] w fun e w' => e = .returned (.int .i64 0) ∧ w = w' := by
  go_enter Try.func91, Try.ntmps91
  go_wp2
  go_ret
  exact ⟨rfl, rfl⟩
set_option maxHeartbeats 400000 in
theorem len_core (p : Nat) (n : Int) (w : World) (h0 : w.cell? ⟨p, 0, none⟩ = some (.int .i64 n)) :
    Calls Try.prog 91 #[.pointer (some ⟨p, 0, none⟩)] w fun e w' => e = .returned (.int .i64 n) ∧ w = w' := by
  go_enter Try.func91, Try.ntmps91
  go_wp2
  go_ret
  exact ⟨rfl, rfl⟩
theorem len_at {w : World} {p q n cap : Nat} {ws : List Nat} (h : SetAt w p q n cap ws) :
    Calls Try.prog 91 #[.pointer (some ⟨p, 0, none⟩)] w fun e w' => e = .returned (.int .i64 n) ∧ w = w' := len_core p n w h.c0

set_option maxHeartbeats 400000 in
/-- there, of a number below 0: of whatever row. -/
theorem there_neg (v : Value) (i : Int) (w : World) (hi : i < 0) :
    Calls Try.prog 82 #[v, .int .i64 i] w fun e w' => e = .returned (.bool false) ∧ w = w' := by
  have hd : decide (0 ≤ i) = false := by simp; omega
  go_enter Try.func82, Try.ntmps82
  go_wp2
  go_ret
  exact ⟨rfl, rfl⟩
set_option maxHeartbeats 400000 in
theorem there_core (v : Value) (i n : Int) (b : Bool) (w : World) (hi : 0 ≤ i) (hb : decide (i < n) = b)
    (hl : Calls Try.prog 91 #[v] w fun e w' => e = .returned (.int .i64 n) ∧ w = w') :
    Calls Try.prog 82 #[v, .int .i64 i] w fun e w' => e = .returned (.bool b) ∧ w = w' := by
  have hd : decide (0 ≤ i) = true := by simp; omega
  have HL := Lib.hid hl
  clear hl
  have HB := Lib.hid hb
  clear hb
  go_enter Try.func82, Try.ntmps82
  go_wp2_with (go_at_call 91; refine HL.out.mono ?_; rintro e w' ⟨rfl, rfl⟩)
  go_ret
  exact ⟨ret_bool HB.out, rfl⟩
theorem there_in {w : World} {p q n cap : Nat} {ws : List Nat} (h : SetAt w p q n cap ws) (i : Int) (h0 : 0 ≤ i) (hi : i < n) :
    Calls Try.prog 82 #[.pointer (some ⟨p, 0, none⟩), .int .i64 i] w fun e w' => e = .returned (.bool true) ∧ w = w' :=
  there_core _ i n true w h0 (by simp; omega) (len_at h)
theorem there_out {w : World} {p q n cap : Nat} {ws : List Nat} (h : SetAt w p q n cap ws) (i : Int) (hi : ¬ (0 ≤ i ∧ i < n)) :
    Calls Try.prog 82 #[.pointer (some ⟨p, 0, none⟩), .int .i64 i] w fun e w' => e = .returned (.bool false) ∧ w = w' := by
  by_cases h0 : 0 ≤ i
  · exact there_core _ i n false w h0 (by simp; omega) (len_at h)
  · exact there_neg _ i w (by omega)
theorem there_nil (i : Int) (w : World) :
    Calls Try.prog 82 #[.pointer none, .int .i64 i] w fun e w' => e = .returned (.bool false) ∧ w = w' := by
  by_cases h0 : 0 ≤ i
  · exact there_core _ i 0 false w h0 (by simp; omega) (len_nil w)
  · exact there_neg _ i w (by omega)

set_option maxHeartbeats 400000 in
theorem has_out (v : Value) (i : Int) (w : World)
    (hl : Calls Try.prog 82 #[v, .int .i64 i] w fun e w' => e = .returned (.bool false) ∧ w = w') :
    Calls Try.prog 55 #[v, .int .i64 i] w fun e w' => e = .returned (.bool false) ∧ w = w' := by
  have HL := Lib.hid hl
  clear hl
  go_enter Try.func55, Try.ntmps55
  go_wp2_with (go_at_call 82; refine HL.out.mono ?_; rintro e w' ⟨rfl, rfl⟩)
  go_ret
  exact ⟨rfl, rfl⟩
set_option maxHeartbeats 400000 in
theorem has_core (p q len cap i x : Nat) (b : Bool) (w : World) (hil : i / 64 < len) (hi : (i : Int) ≤ 65536) (h1 : w.cell? ⟨p, 1, none⟩ = some (.slice (some ⟨q, 0, none⟩) len cap))
    (hc : w.cell? ⟨q, i / 64, none⟩ = some (.int .u64 x))
    (hb : (bits .and .u64 ((x : Int) / 2 ^ (i % 64)) 1 == 1) = b)
    (hl : Calls Try.prog 82 #[.pointer (some ⟨p, 0, none⟩), .int .i64 i] w fun e w' => e = .returned (.bool true) ∧ w = w') :
    Calls Try.prog 55 #[.pointer (some ⟨p, 0, none⟩), .int .i64 i] w fun e w' => e = .returned (.bool b) ∧ w = w' := by
  have HL := Lib.hid hl
  clear hl
  have HB := Lib.hid hb
  clear hb
  go_enter Try.func55, Try.ntmps55
  go_wp2_with (go_at_call 82; refine HL.out.mono ?_; rintro e w' ⟨rfl, rfl⟩)
  go_ret
  exact ⟨ret_bool HB.out, rfl⟩
end Go.Proofs.Yticoojcmlkdeiaa.Bs
