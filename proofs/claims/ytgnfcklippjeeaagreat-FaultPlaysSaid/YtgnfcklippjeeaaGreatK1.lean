/- Merged texts: Grown LA AM CA CB CC LB LC. -/
import Derived.Test.YtgnfcklippjeeaaGreatRows
import Derived.WalkKit
import Derived.WalkSpells
import Derived.WalkLawsBesides
import Derived.Laws.MakeOwn
import Derived.Outline
import Derived.LoopTactic
import Derived.BigQuiet
import Derived.Lib.Hide
import Derived.Laws.Bits64
import Derived.Laws.BitsAllLaws
import Derived.Deep.RegionHeld3
import Derived.Deep.DeepCutAuto
/- Frames: what a call leaves of the world that it was begun in. Small facts on results. -/
namespace Go.Proofs.YtgnfcklippjeeaaGreat
open Go.RowKit

theorem vint {a b : Int} (h : a = b) : Value.int .i64 a = .int .i64 b := by rw [h]
theorem vu64 {a b : Int} (h : a = b) : Value.int .u64 a = .int .u64 b := by rw [h]
theorem ret_int {k : IntKind} {a b : Int} (h : a = b) : Ending.returned (.int k a) = .returned (.int k b) := by rw [h]
theorem ret_bool {a b : Bool} (h : a = b) : Ending.returned (.bool a) = .returned (.bool b) := by rw [h]
theorem quiet_left {P : Program} {f : FuncId} {args : Array Value} {w : World} {n : Nat} {v : Value}
    (h : Calls P f args (w.drewN n) fun e w' => e = .returned v ∧ w.drewN n = w') : Calls P f args (w.drewN n) fun e w'' => e = .returned v ∧ ∃ m, w'' = w.drewN m :=
  h.mono fun _ _ ⟨he, hm⟩ => ⟨he, n, hm.symm⟩

theorem grown_refl (w : World) (r : Option Nat) : w.grownBy w r := ⟨rfl, rfl, rfl, Nat.le_refl _, fun _ _ _ => rfl⟩
theorem grown_trans {a b c : World} {r : Option Nat} (h : a.grownBy b r) (k : b.grownBy c r) : a.grownBy c r :=
  ⟨k.os.trans h.os, k.tape.trans h.tape, k.output.trans h.output, Nat.le_trans h.size k.size, fun i hi hr => (k.block i (Nat.lt_of_lt_of_le hi h.size) hr).trans (h.block i hi hr)⟩
theorem grown_own {a b c : World} {r : Option Nat} {q : Nat} (h : a.grownBy b r) (k : b.grownBy c (some q)) (hq : a.heap.size ≤ q) : a.grownBy c r :=
  ⟨k.os.trans h.os, k.tape.trans h.tape, k.output.trans h.output, Nat.le_trans h.size k.size, fun i hi hr => (k.block i (Nat.lt_of_lt_of_le hi h.size) (fun e => by injection e; omega)).trans (h.block i hi hr)⟩
theorem grown_none {a b : World} {r : Option Nat} (h : a.grownBy b none) : a.grownBy b r := ⟨h.os, h.tape, h.output, h.size, fun i hi _ => h.block i hi (by simp)⟩
theorem grown_below {a b : World} (h : a.grownBy b none) : Below a.heap.size a b := ⟨h.os, h.tape, h.output, h.size, fun i hi => h.block i hi (by simp)⟩
theorem grown_of_below {a b : World} (h : Below a.heap.size a b) : a.grownBy b none := ⟨h.os, h.tape, h.output, h.size, fun i hi _ => h.block i hi⟩
theorem grown_drew {a b : World} {r : Option Nat} (h : a.grownBy b r) (d : Nat) : a.grownBy (b.drewN d) r := ⟨h.os, h.tape, h.output, h.size, h.block⟩
theorem grown_drewN {a b : World} {d : Nat} {r : Option Nat} (h : (a.drewN d).grownBy b r) : a.grownBy b r := ⟨h.os, h.tape, h.output, h.size, h.block⟩
theorem grown_alloc (w : World) (o : Obj) (r : Option Nat) : w.grownBy (w.alloc o) r := World.grownBy_alloc _ _ _
theorem cell_alloc_new (w : World) (cs : Array Value) (t : TypeId) (k : Nat) : (w.alloc (.cells cs t)).cell? ⟨w.heap.size, k, none⟩ = cs[k]? := by
  have h : (w.alloc (.cells cs t)).heap[w.heap.size]? = some (.cells cs t) := heap_alloc_new w _
  simp only [World.cell?, h]
  rfl
theorem frozen_alloc_new (w : World) (cs : Array Value) (t : TypeId) (k : Nat) : (w.alloc (.cells cs t)).frozen? ⟨w.heap.size, k, none⟩ = false := by
  have h : (w.alloc (.cells cs t)).heap[w.heap.size]? = some (.cells cs t) := heap_alloc_new w _
  simp only [World.frozen?, h]
  simp

theorem new_cell {w w1 : World} {cs : Array Value} {t : TypeId} {r : Option Nat} (hg : (w.alloc (.cells cs t)).grownBy w1 r) (hr : some w.heap.size ≠ r) (k : Nat) {v : Value} (hk : cs[k]? = some v) : w1.cell? ⟨w.heap.size, k, none⟩ = some v :=
  hg.cell (by rw [cell_alloc_new]; exact hk) hr

theorem grown_drew1 {a b : World} {r : Option Nat} (h : a.grownBy b r) : a.grownBy b.drew r := ⟨h.os, h.tape, h.output, h.size, h.block⟩
theorem drew_grown {P : Program} {f : FuncId} {args : Array Value} {w : World} {v : Value} (h : Calls P f args w fun e w' => e = .returned v ∧ ∃ d, w' = w.drewN d) : Calls P f args w fun e w' => e = .returned v ∧ w.grownBy w' none :=
  h.mono fun _ _ ⟨he, d, hd⟩ => ⟨he, hd ▸ grown_drew (grown_refl _ _) d⟩
end Go.Proofs.YtgnfcklippjeeaaGreat

/- Plain facts on numbers of 64 bits, and the walks of what mixes them. -/
namespace Go.Proofs.YtgnfcklippjeeaaGreat
open Go.RowKit
namespace Li

/-- To mix. -/
def m1 (x : Nat) : Nat := (x ^^^ x / 1073741824) * 13787848793156543929 % 18446744073709551616
def m2 (x : Nat) : Nat := (x ^^^ x / 134217728) * 10723151780598845931 % 18446744073709551616
def m3 (x : Nat) : Nat := x ^^^ x / 2147483648
def mix (x : Nat) : Nat := m3 (m2 (m1 x))
theorem m1_lt (x : Nat) : m1 x < 18446744073709551616 := Nat.mod_lt _ (by decide)
theorem m2_lt (x : Nat) : m2 x < 18446744073709551616 := Nat.mod_lt _ (by decide)
theorem xor_lt {a b : Nat} (ha : a < 18446744073709551616) (hb : b < 18446744073709551616) : a ^^^ b < 18446744073709551616 := Nat.xor_lt_two_pow (n := 64) ha hb
theorem m3_lt {x : Nat} (h : x < 18446744073709551616) : m3 x < 18446744073709551616 := xor_lt h (Nat.lt_of_le_of_lt (Nat.div_le_self _ _) h)
theorem mix_lt (x : Nat) : mix x < 18446744073709551616 := m3_lt (m2_lt _)

/-- The sum of a number of 64 bits and a place, as 64 bits. -/
def sum (k : Nat) (a : Int) : Nat := (((k : Int) + a) % 18446744073709551616).toNat
theorem sum_lt (k : Nat) (a : Int) : sum k a < 18446744073709551616 := by unfold sum; omega
theorem sum_int (k : Nat) (a : Int) : ((sum k a : Nat) : Int) = ((k : Int) + a) % 18446744073709551616 := by unfold sum; omega
/-- A place as 64 bits. -/
def u (a : Int) : Nat := (a % 18446744073709551616).toNat
theorem u_lt (a : Int) : u a < 18446744073709551616 := by unfold u; omega
theorem u_int (a : Int) : ((u a : Nat) : Int) = a % 18446744073709551616 := by unfold u; omega

def mark : Nat := 6510516211317473280
/-- Whether a link may be asked for. -/
def may (a n : Int) : Bool := decide (0 ≤ a) && (decide (-1 ≤ n) && decide (n ≤ 2147483647))
theorem may_iff (a n : Int) : may a n = true ↔ 0 ≤ a ∧ -1 ≤ n ∧ n ≤ 2147483647 := by simp [may]
/-- A link: under the mask lies p, the next plus 1. -/
def lk (k : Nat) (a : Int) (p : Nat) : Nat := (mark ^^^ p) ^^^ mix (sum k a)
def put (k : Nat) (a n : Int) : Nat := if may a n = true then lk k a (n + 1).toNat else 0
theorem lk_lt (k : Nat) (a : Int) {p : Nat} (h : p < 18446744073709551616) : lk k a p < 18446744073709551616 := xor_lt (xor_lt (by unfold mark; omega) h) (mix_lt _)
theorem put_lt (k : Nat) (a n : Int) : put k a n < 18446744073709551616 := by
  unfold put
  split
  · rename_i h
    have := (may_iff a n).1 h
    exact lk_lt k a (by omega)
  · omega
/-- What lies under the mask. -/
def bare (k : Nat) (a : Int) (w : Nat) : Nat := (w ^^^ mix (sum k a)) ^^^ mark
theorem bare_lt (k : Nat) (a : Int) {w : Nat} (h : w < 18446744073709551616) : bare k a w < 18446744073709551616 := xor_lt (xor_lt h (mix_lt _)) (by unfold mark; omega)
theorem bare_lk (k : Nat) (a : Int) (p : Nat) : bare k a (lk k a p) = p := by
  unfold bare lk
  rw [Nat.xor_assoc (mark ^^^ p), Nat.xor_self, Nat.xor_zero, Nat.xor_comm mark p, Nat.xor_assoc, Nat.xor_self, Nat.xor_zero]
theorem lk_bare (k : Nat) (a : Int) (w : Nat) : lk k a (bare k a w) = w := by
  unfold bare lk
  rw [Nat.xor_comm (w ^^^ mix (sum k a)) mark, ← Nat.xor_assoc mark mark, Nat.xor_self, Nat.zero_xor, Nat.xor_assoc, Nat.xor_self, Nat.xor_zero]
theorem bare_xor (k : Nat) (a : Int) (w t : Nat) : bare k a (w ^^^ t) = bare k a w ^^^ t := by
  unfold bare
  rw [Nat.xor_assoc w t, Nat.xor_comm t, ← Nat.xor_assoc, Nat.xor_assoc _ t, Nat.xor_comm t, ← Nat.xor_assoc]
theorem lk_inj {k : Nat} {a : Int} {p q : Nat} (h : lk k a p = lk k a q) : p = q := by rw [← bare_lk k a p, h, bare_lk]

/-- Beside 5A5A in the highest bits a number of the lowest 48 is added as it is laid on. -/
theorem mark_add (p : Nat) (h : p < 281474976710656) : mark + p = mark ^^^ p := by
  have e : mark = 2 ^ 48 * 23130 := by decide
  apply Nat.eq_of_testBit_eq
  intro j
  rw [Nat.testBit_xor, e, Nat.testBit_two_pow_mul_add _ (by simpa using h), Nat.testBit_two_pow_mul]
  by_cases hj : j < 48
  · simp [hj, Nat.not_le.2 hj]
  · have hb : p.testBit j = false := Nat.testBit_lt_two_pow (Nat.lt_of_lt_of_le (by simpa using h) (Nat.pow_le_pow_right (by decide) (by omega : 48 ≤ j)))
    simp [hj, Nat.not_lt.1 hj, hb]
/-- A number of the lowest 32 bits with a bit from the 48th on turned is great. -/
theorem turned_big (p j : Nat) (hp : p < 4294967296) (hj : 48 ≤ j) : 2147483648 < p ^^^ 2 ^ j := by
  have hb : p.testBit j = false := Nat.testBit_lt_two_pow (Nat.lt_of_lt_of_le (by simpa using hp) (Nat.pow_le_pow_right (by decide) (by omega : 32 ≤ j)))
  have ht : (p ^^^ 2 ^ j).testBit j = true := by rw [Nat.testBit_xor, hb, Nat.testBit_two_pow_self]; rfl
  have hge := Nat.ge_two_pow_of_testBit ht
  have h48 : 2 ^ 48 ≤ 2 ^ j := Nat.pow_le_pow_right (by decide) hj
  have : (2147483648 : Nat) < 2 ^ 48 := by decide
  omega
end Li
end Go.Proofs.YtgnfcklippjeeaaGreat

/- Plain facts on bytes and words, of no program: eight bytes as a number, by or of shifts, and by Horner; a number's bytes. -/
namespace Go.Proofs.YtgnfcklippjeeaaGreat
namespace Ar

/-- The number of the first k bytes. -/
def wsum (B : Nat → Nat) : Nat → Nat
  | 0 => 0
  | k + 1 => wsum B k + B k * 256 ^ k
theorem wsum_lt {B : Nat → Nat} (h : ∀ i, B i < 256) : ∀ k, wsum B k < 256 ^ k
  | 0 => by simp [wsum]
  | k + 1 => by
    have h1 := wsum_lt h k
    have h2 := h k
    have h3 : B k * 256 ^ k ≤ 255 * 256 ^ k := Nat.mul_le_mul_right _ (by omega)
    simp only [wsum, Nat.pow_succ]
    omega
/-- By Horner, from the last byte on. -/
def hor (B : Nat → Nat) : Nat → Nat
  | 0 => 0
  | m + 1 => hor B m * 256 + B (7 - m)
theorem hor_lt {B : Nat → Nat} (h : ∀ i, B i < 256) : ∀ m, hor B m < 256 ^ m
  | 0 => by simp [hor]
  | m + 1 => by
    have h1 := hor_lt h m
    have h2 := h (7 - m)
    simp only [hor, Nat.pow_succ]
    omega
theorem hor_all (B : Nat → Nat) : hor B 8 = wsum B 8 := by
  simp only [hor, wsum]
  simp
  omega
/-- A number's byte. -/
def byt (v i : Nat) : Nat := v / 256 ^ i % 256
theorem byt_lt (v i : Nat) : byt v i < 256 := Nat.mod_lt _ (by decide)
theorem pow_le (k : Nat) (h : k ≤ 8) : 256 ^ k ≤ 18446744073709551616 := by
  have : 256 ^ k ≤ 256 ^ 8 := Nat.pow_le_pow_right (by decide) h
  exact Nat.le_trans this (by decide)
theorem two_pow (k : Nat) : 2 ^ (8 * k) = 256 ^ k := by rw [Nat.pow_mul]
theorem or_add (B : Nat → Nat) (h : ∀ i, B i < 256) (k : Nat) : wsum B k ||| (B k * 256 ^ k) = wsum B (k + 1) := by
  have h1 : wsum B k < 2 ^ (8 * k) := by rw [two_pow]; exact wsum_lt h k
  have h2 := Nat.two_pow_add_eq_or_of_lt h1 (B k)
  rw [two_pow] at h2
  rw [Nat.or_comm, Nat.mul_comm (B k), ← h2]
  simp only [wsum, Nat.mul_comm (B k)]
  omega

/-- Bytes of which eight, from a place on, are a number's. -/
def setW (B : Nat → Nat) (a v : Nat) : Nat → Nat := fun i => if a ≤ i ∧ i < a + 8 then byt v (i - a) else B i
/-- Bytes of which m, from a place on, are another list's. -/
def setB (B : Nat → Nat) (a m : Nat) (S : Nat → Nat) : Nat → Nat := fun i => if a ≤ i ∧ i < a + m then S (i - a) else B i
theorem setB_lt {B S : Nat → Nat} (h : ∀ i, B i < 256) (g : ∀ i, S i < 256) (a m i : Nat) : setB B a m S i < 256 := by unfold setB; split; exact g _; exact h _
theorem setW_is (B : Nat → Nat) (a v : Nat) : setW B a v = setB B a 8 (byt v) := rfl
def wordAt (B : Nat → Nat) (a : Nat) : Nat := wsum (fun i => B (a + i)) 8
end Ar
end Go.Proofs.YtgnfcklippjeeaaGreat

/- The walks of package class and of its reference, and of the law's awake. -/
namespace Go.Proofs.YtgnfcklippjeeaaGreat
open Go.RowKit

/-- The classes: a slot's bytes, slots in a page, a block's bytes. -/
def Cl (c s n r : Int) : Prop := (c = 0 ∧ s = 16 ∧ n = 16 ∧ r = 8) ∨ (c = 1 ∧ s = 32 ∧ n = 8 ∧ r = 24) ∨ (c = 2 ∧ s = 64 ∧ n = 4 ∧ r = 56) ∨ (c = 3 ∧ s = 128 ∧ n = 2 ∧ r = 120)
def No (c : Int) : Prop := c < 0 ∨ 4 ≤ c
theorem cls (c : Int) : (∃ s n r, Cl c s n r) ∨ No c := by
  by_cases h : c < 0 ∨ 4 ≤ c
  · exact .inr h
  · rcases (by omega : c = 0 ∨ c = 1 ∨ c = 2 ∨ c = 3) with rfl | rfl | rfl | rfl
    · exact .inl ⟨16, 16, 8, .inl ⟨rfl, rfl, rfl, rfl⟩⟩
    · exact .inl ⟨32, 8, 24, .inr (.inl ⟨rfl, rfl, rfl, rfl⟩)⟩
    · exact .inl ⟨64, 4, 56, .inr (.inr (.inl ⟨rfl, rfl, rfl, rfl⟩))⟩
    · exact .inl ⟨128, 2, 120, .inr (.inr (.inr ⟨rfl, rfl, rfl, rfl⟩))⟩

/-- A number that is of no class is none of 0 to 3. -/
structure Ne4 (c : Int) : Prop where
  n0 : c ≠ 0
  n1 : c ≠ 1
  n2 : c ≠ 2
  n3 : c ≠ 3
theorem No.ne {c : Int} (h : No c) : Ne4 c := by unfold No at h; exact ⟨by omega, by omega, by omega, by omega⟩

theorem there_no (c : Int) (w : World) (h : No c) :
    Calls Tryz.prog 137 #[.int .i64 c] w fun e w' => e = .returned (.bool false) ∧ w = w' := by
  unfold No at h
  by_cases h0 : c < 0
  · have h1 : decide (c ≥ 0) = false := by simpa using h0
    clear h h0
    go_enter Tryz.func137, Tryz.ntmps137
    go_wp2
    go_ret
    exact ⟨rfl, rfl⟩
  · have h1 : decide (c ≥ 0) = true := by simp; omega
    have h2 : decide (c < 4) = false := by simp; omega
    clear h h0
    go_enter Tryz.func137, Tryz.ntmps137
    go_wp2
    go_ret
    exact ⟨rfl, rfl⟩
theorem there_yes {c s n r : Int} (w : World) (h : Cl c s n r) :
    Calls Tryz.prog 137 #[.int .i64 c] w fun e w' => e = .returned (.bool true) ∧ w = w' := by
  rcases h with ⟨rfl, rfl, rfl, rfl⟩ | ⟨rfl, rfl, rfl, rfl⟩ | ⟨rfl, rfl, rfl, rfl⟩ | ⟨rfl, rfl, rfl, rfl⟩
  all_goals
    go_enter Tryz.func137, Tryz.ntmps137
    go_wp2
    go_ret
    exact ⟨rfl, rfl⟩

set_option maxHeartbeats 800000 in
theorem size_yes {c s n r : Int} (w : World) (h : Cl c s n r) :
    Calls Tryz.prog 131 #[.int .i64 c] w fun e w' => e = .returned (.int .i64 s) ∧ w = w' := by
  have Hthere := Lib.hid (fun w => there_yes w h)
  rcases h with ⟨rfl, rfl, rfl, rfl⟩ | ⟨rfl, rfl, rfl, rfl⟩ | ⟨rfl, rfl, rfl, rfl⟩ | ⟨rfl, rfl, rfl, rfl⟩
  all_goals
    go_enter Tryz.func131, Tryz.ntmps131
    go_wp2_with ((go_at_call 137; refine (Hthere.out _).mono ?_; rintro e w' ⟨rfl, rfl⟩))
    go_ret
    exact ⟨rfl, rfl⟩
set_option maxHeartbeats 800000 in
theorem size_no (c : Int) (w : World) (h : No c) :
    Calls Tryz.prog 131 #[.int .i64 c] w fun e w' => e = .returned (.int .i64 0) ∧ w = w' := by
  have Hthere := Lib.hid (fun w => there_no c w h)
  clear h
  go_enter Tryz.func131, Tryz.ntmps131
  go_wp2_with ((go_at_call 137; refine (Hthere.out _).mono ?_; rintro e w' ⟨rfl, rfl⟩))
  go_ret
  exact ⟨rfl, rfl⟩

set_option maxHeartbeats 800000 in
theorem slots_yes {c s n r : Int} (w : World) (h : Cl c s n r) :
    Calls Tryz.prog 142 #[.int .i64 c] w fun e w' => e = .returned (.int .i64 n) ∧ w = w' := by
  have Hthere := Lib.hid (fun w => there_yes w h)
  have Hsize := Lib.hid (fun w => size_yes w h)
  rcases h with ⟨rfl, rfl, rfl, rfl⟩ | ⟨rfl, rfl, rfl, rfl⟩ | ⟨rfl, rfl, rfl, rfl⟩ | ⟨rfl, rfl, rfl, rfl⟩
  all_goals
    go_enter Tryz.func142, Tryz.ntmps142
    go_wp2_with (first | (go_at_call 137; refine (Hthere.out _).mono ?_; rintro e w' ⟨rfl, rfl⟩) | (go_at_call 131; refine (Hsize.out _).mono ?_; rintro e w' ⟨rfl, rfl⟩))
    go_ret
    exact ⟨rfl, rfl⟩
set_option maxHeartbeats 800000 in
theorem slots_no (c : Int) (w : World) (h : No c) :
    Calls Tryz.prog 142 #[.int .i64 c] w fun e w' => e = .returned (.int .i64 0) ∧ w = w' := by
  have Hthere := Lib.hid (fun w => there_no c w h)
  have Hsize := Lib.hid (fun w => size_no c w h)
  clear h
  go_enter Tryz.func142, Tryz.ntmps142
  go_wp2_with (first | (go_at_call 137; refine (Hthere.out _).mono ?_; rintro e w' ⟨rfl, rfl⟩) | (go_at_call 131; refine (Hsize.out _).mono ?_; rintro e w' ⟨rfl, rfl⟩))
  go_ret
  exact ⟨rfl, rfl⟩

set_option maxHeartbeats 800000 in
theorem room_yes {c s n r : Int} (w : World) (h : Cl c s n r) :
    Calls Tryz.prog 140 #[.int .i64 c] w fun e w' => e = .returned (.int .i64 r) ∧ w = w' := by
  have Hthere := Lib.hid (fun w => there_yes w h)
  have Hsize := Lib.hid (fun w => size_yes w h)
  rcases h with ⟨rfl, rfl, rfl, rfl⟩ | ⟨rfl, rfl, rfl, rfl⟩ | ⟨rfl, rfl, rfl, rfl⟩ | ⟨rfl, rfl, rfl, rfl⟩
  all_goals
    go_enter Tryz.func140, Tryz.ntmps140
    go_wp2_with (first | (go_at_call 137; refine (Hthere.out _).mono ?_; rintro e w' ⟨rfl, rfl⟩) | (go_at_call 131; refine (Hsize.out _).mono ?_; rintro e w' ⟨rfl, rfl⟩))
    go_ret
    exact ⟨rfl, rfl⟩
set_option maxHeartbeats 800000 in
theorem room_no (c : Int) (w : World) (h : No c) :
    Calls Tryz.prog 140 #[.int .i64 c] w fun e w' => e = .returned (.int .i64 0) ∧ w = w' := by
  have Hthere := Lib.hid (fun w => there_no c w h)
  have Hsize := Lib.hid (fun w => size_no c w h)
  clear h
  go_enter Tryz.func140, Tryz.ntmps140
  go_wp2_with (first | (go_at_call 137; refine (Hthere.out _).mono ?_; rintro e w' ⟨rfl, rfl⟩) | (go_at_call 131; refine (Hsize.out _).mono ?_; rintro e w' ⟨rfl, rfl⟩))
  go_ret
  exact ⟨rfl, rfl⟩

set_option maxHeartbeats 800000 in
theorem rsize_yes {c s n r : Int} (w : World) (h : Cl c s n r) :
    Calls Tryz.prog 103 #[.int .i64 c] w fun e w' => e = .returned (.int .i64 s) ∧ w = w' := by
  rcases h with ⟨rfl, rfl, rfl, rfl⟩ | ⟨rfl, rfl, rfl, rfl⟩ | ⟨rfl, rfl, rfl, rfl⟩ | ⟨rfl, rfl, rfl, rfl⟩
  all_goals
    go_enter Tryz.func103, Tryz.ntmps103
    go_wp2
    go_ret
    exact ⟨rfl, rfl⟩
set_option maxHeartbeats 800000 in
theorem rsize_no (c : Int) (w : World) (h : No c) :
    Calls Tryz.prog 103 #[.int .i64 c] w fun e w' => e = .returned (.int .i64 0) ∧ w = w' := by
  obtain ⟨n0, n1, n2, n3⟩ := h.ne
  have e0 : (c == 0) = false := by simpa using n0
  have e1 : (c == 1) = false := by simpa using n1
  have e2 : (c == 2) = false := by simpa using n2
  have e3 : (c == 3) = false := by simpa using n3
  clear h n0 n1 n2 n3
  go_enter Tryz.func103, Tryz.ntmps103
  go_wp2
  go_ret
  exact ⟨rfl, rfl⟩

end Go.Proofs.YtgnfcklippjeeaaGreat

/- The walks of the reference's Slots, of Of, of Pages, and of the reference's. -/
namespace Go.Proofs.YtgnfcklippjeeaaGreat
open Go.RowKit

set_option maxHeartbeats 1000000 in
theorem rslots_0 (w : World) :
    Calls Tryz.prog 158 #[.int .i64 0] w fun e w' => e = .returned (.int .i64 16) ∧ w = w' := by
  have HS := Lib.hid (fun w => rsize_yes (c := 0) (s := 16) (n := 16) (r := 8) w (.inl ⟨rfl, rfl, rfl, rfl⟩))
  go_enter Tryz.func158, Tryz.ntmps158
  go_wp2
  go_loop [3] (fun i => ∃ k : Nat, k ≤ 16 ∧ i = .int .i64 k) (fun i => 16 - (intOf i).toNat)
  case atStart => exact ⟨0, by omega, rfl⟩
  case round =>
    obtain ⟨k, hk, rfl⟩ := hrel
    by_cases hlt : k < 16
    · have b1 : ((k : Int) + 1) * 16 ≤ 256 := by omega
      go_wp2_with (go_at_call 103; refine (HS.out _).mono ?_; rintro e w' ⟨rfl, rfl⟩)
      go_round
      case rel => exact ⟨k + 1, by omega, by go_num⟩
      case measure => simp [intOf]; omega
    · obtain rfl : k = 16 := by omega
      go_wp2_with (go_at_call 103; refine (HS.out _).mono ?_; rintro e w' ⟨rfl, rfl⟩)
      go_ret
      exact ⟨rfl, rfl⟩

set_option maxHeartbeats 1000000 in
theorem rslots_1 (w : World) :
    Calls Tryz.prog 158 #[.int .i64 1] w fun e w' => e = .returned (.int .i64 8) ∧ w = w' := by
  have HS := Lib.hid (fun w => rsize_yes (c := 1) (s := 32) (n := 8) (r := 24) w (.inr (.inl ⟨rfl, rfl, rfl, rfl⟩)))
  go_enter Tryz.func158, Tryz.ntmps158
  go_wp2
  go_loop [3] (fun i => ∃ k : Nat, k ≤ 8 ∧ i = .int .i64 k) (fun i => 8 - (intOf i).toNat)
  case atStart => exact ⟨0, by omega, rfl⟩
  case round =>
    obtain ⟨k, hk, rfl⟩ := hrel
    by_cases hlt : k < 8
    · have b1 : ((k : Int) + 1) * 32 ≤ 256 := by omega
      go_wp2_with (go_at_call 103; refine (HS.out _).mono ?_; rintro e w' ⟨rfl, rfl⟩)
      go_round
      case rel => exact ⟨k + 1, by omega, by go_num⟩
      case measure => simp [intOf]; omega
    · obtain rfl : k = 8 := by omega
      go_wp2_with (go_at_call 103; refine (HS.out _).mono ?_; rintro e w' ⟨rfl, rfl⟩)
      go_ret
      exact ⟨rfl, rfl⟩

set_option maxHeartbeats 1000000 in
theorem rslots_2 (w : World) :
    Calls Tryz.prog 158 #[.int .i64 2] w fun e w' => e = .returned (.int .i64 4) ∧ w = w' := by
  have HS := Lib.hid (fun w => rsize_yes (c := 2) (s := 64) (n := 4) (r := 56) w (.inr (.inr (.inl ⟨rfl, rfl, rfl, rfl⟩))))
  go_enter Tryz.func158, Tryz.ntmps158
  go_wp2
  go_loop [3] (fun i => ∃ k : Nat, k ≤ 4 ∧ i = .int .i64 k) (fun i => 4 - (intOf i).toNat)
  case atStart => exact ⟨0, by omega, rfl⟩
  case round =>
    obtain ⟨k, hk, rfl⟩ := hrel
    by_cases hlt : k < 4
    · have b1 : ((k : Int) + 1) * 64 ≤ 256 := by omega
      go_wp2_with (go_at_call 103; refine (HS.out _).mono ?_; rintro e w' ⟨rfl, rfl⟩)
      go_round
      case rel => exact ⟨k + 1, by omega, by go_num⟩
      case measure => simp [intOf]; omega
    · obtain rfl : k = 4 := by omega
      go_wp2_with (go_at_call 103; refine (HS.out _).mono ?_; rintro e w' ⟨rfl, rfl⟩)
      go_ret
      exact ⟨rfl, rfl⟩

set_option maxHeartbeats 1000000 in
theorem rslots_3 (w : World) :
    Calls Tryz.prog 158 #[.int .i64 3] w fun e w' => e = .returned (.int .i64 2) ∧ w = w' := by
  have HS := Lib.hid (fun w => rsize_yes (c := 3) (s := 128) (n := 2) (r := 120) w (.inr (.inr (.inr ⟨rfl, rfl, rfl, rfl⟩))))
  go_enter Tryz.func158, Tryz.ntmps158
  go_wp2
  go_loop [3] (fun i => ∃ k : Nat, k ≤ 2 ∧ i = .int .i64 k) (fun i => 2 - (intOf i).toNat)
  case atStart => exact ⟨0, by omega, rfl⟩
  case round =>
    obtain ⟨k, hk, rfl⟩ := hrel
    by_cases hlt : k < 2
    · have b1 : ((k : Int) + 1) * 128 ≤ 256 := by omega
      go_wp2_with (go_at_call 103; refine (HS.out _).mono ?_; rintro e w' ⟨rfl, rfl⟩)
      go_round
      case rel => exact ⟨k + 1, by omega, by go_num⟩
      case measure => simp [intOf]; omega
    · obtain rfl : k = 2 := by omega
      go_wp2_with (go_at_call 103; refine (HS.out _).mono ?_; rintro e w' ⟨rfl, rfl⟩)
      go_ret
      exact ⟨rfl, rfl⟩

theorem rslots_yes {c s n r : Int} (w : World) (h : Cl c s n r) :
    Calls Tryz.prog 158 #[.int .i64 c] w fun e w' => e = .returned (.int .i64 n) ∧ w = w' := by
  rcases h with ⟨rfl, rfl, rfl, rfl⟩ | ⟨rfl, rfl, rfl, rfl⟩ | ⟨rfl, rfl, rfl, rfl⟩ | ⟨rfl, rfl, rfl, rfl⟩
  · exact rslots_0 w
  · exact rslots_1 w
  · exact rslots_2 w
  · exact rslots_3 w
set_option maxHeartbeats 1000000 in
theorem rslots_no (c : Int) (w : World) (h : No c) :
    Calls Tryz.prog 158 #[.int .i64 c] w fun e w' => e = .returned (.int .i64 0) ∧ w = w' := by
  have HS := Lib.hid (fun w => rsize_no c w h)
  clear h
  go_enter Tryz.func158, Tryz.ntmps158
  go_wp2
  go_loop [3] (fun i => i = .int .i64 0) (fun i => 0)
  case atStart => rfl
  case round =>
    subst hrel
    go_wp2_with (go_at_call 103; refine (HS.out _).mono ?_; rintro e w' ⟨rfl, rfl⟩)
    go_ret
    exact ⟨rfl, rfl⟩

/-- The class of so many bytes. -/
def ofV (n : Int) : Int := if n ≤ 8 then 0 else if n ≤ 24 then 1 else if n ≤ 56 then 2 else 3
theorem ofV_val (n : Int) : (n ≤ 8 ∧ ofV n = 0) ∨ (8 < n ∧ n ≤ 24 ∧ ofV n = 1) ∨ (24 < n ∧ n ≤ 56 ∧ ofV n = 2) ∨ (56 < n ∧ ofV n = 3) := by
  unfold ofV; split <;> (try split) <;> (try split) <;> omega
def ofR (n : Int) : Value := if n ≤ 120 then .tuple #[.int .i64 (ofV n), .bool true] else .tuple #[.int .i64 0, .bool false]
theorem ofR_yes {n c : Int} (h : n ≤ 120) (hv : ofV n = c) : ofR n = .tuple #[.int .i64 c, .bool true] := by unfold ofR; rw [if_pos h, hv]
theorem ofR_no {n : Int} (h : 120 < n) : ofR n = .tuple #[.int .i64 0, .bool false] := by unfold ofR; rw [if_neg (by omega)]
def rofV (n : Int) : Int := if 1 ≤ n ∧ n ≤ 120 then ofV n else -1
theorem rofV_yes {n c : Int} (h : 1 ≤ n ∧ n ≤ 120) (hv : ofV n = c) : rofV n = c := by unfold rofV; rw [if_pos h, hv]
theorem rofV_no {n : Int} (h : n < 1 ∨ 120 < n) : rofV n = -1 := by unfold rofV; rw [if_neg (by omega)]

theorem pg_eq (n : Nat) : ((n : Int) + 8 + 256 - 1) / 256 = ((n + 263) / 256 : Nat) := by omega
set_option maxHeartbeats 1000000 in
theorem pages_no (n : Int) (w : World) (h : n ≤ 120 ∨ 4096 < n) :
    Calls Tryz.prog 88 #[.int .i64 n] w fun e w' => e = .returned (.tuple #[.int .i64 0, .bool false]) ∧ w = w' := by
  have H3 := Lib.hid (fun w => room_yes (c := 3) (s := 128) (n := 2) (r := 120) w (.inr (.inr (.inr ⟨rfl, rfl, rfl, rfl⟩))))
  by_cases h0 : n ≤ 120
  · clear h
    go_enter Tryz.func88, Tryz.ntmps88
    go_wp2_with (go_at_call 140; refine (H3.out _).mono ?_; rintro e w' ⟨rfl, rfl⟩)
    go_ret2
    exact ⟨rfl, rfl⟩
  · have h1 : n > 4096 := by omega
    clear h
    go_enter Tryz.func88, Tryz.ntmps88
    go_wp2_with (go_at_call 140; refine (H3.out _).mono ?_; rintro e w' ⟨rfl, rfl⟩)
    go_ret2
    exact ⟨rfl, rfl⟩
set_option maxHeartbeats 1000000 in
theorem pages_yes (n : Nat) (w : World) (h : 120 < n) (h2 : n ≤ 4096) :
    Calls Tryz.prog 88 #[.int .i64 n] w fun e w' => e = .returned (.tuple #[.int .i64 ((n + 263) / 256 : Nat), .bool true]) ∧ w = w' := by
  have H3 := Lib.hid (fun w => room_yes (c := 3) (s := 128) (n := 2) (r := 120) w (.inr (.inr (.inr ⟨rfl, rfl, rfl, rfl⟩))))
  have h0 : ¬ (n : Int) ≤ 120 := by omega
  have h1 : ¬ (n : Int) > 4096 := by omega
  go_enter Tryz.func88, Tryz.ntmps88
  go_wp2_with (go_at_call 140; refine (H3.out _).mono ?_; rintro e w' ⟨rfl, rfl⟩)
  go_ret2
  exact ⟨congrArg (fun x => Ending.returned (.tuple #[.int .i64 x, .bool true])) (pg_eq n), rfl⟩

set_option maxHeartbeats 1000000 in
theorem rpages_no (n : Int) (w : World) (h : n ≤ 120 ∨ 4096 < n) :
    Calls Tryz.prog 115 #[.int .i64 n] w fun e w' => e = .returned (.int .i64 0) ∧ w = w' := by
  by_cases h0 : n < 121
  · clear h
    go_enter Tryz.func115, Tryz.ntmps115
    go_wp2
    go_ret
    exact ⟨rfl, rfl⟩
  · have h1 : n > 4096 := by omega
    clear h
    go_enter Tryz.func115, Tryz.ntmps115
    go_wp2
    go_ret
    exact ⟨rfl, rfl⟩
set_option maxHeartbeats 1000000 in
theorem rpages_yes (n : Nat) (w : World) (h : 120 < n) (h2 : n ≤ 4096) :
    Calls Tryz.prog 115 #[.int .i64 n] w fun e w' => e = .returned (.int .i64 ((n + 263) / 256 : Nat)) ∧ w = w' := by
  have h0 : ¬ (n : Int) < 121 := by omega
  have h1 : ¬ (n : Int) > 4096 := by omega
  have H0 := Lib.hid h0
  have H1 := Lib.hid h1
  go_enter Tryz.func115, Tryz.ntmps115
  go_wp2
  clear h0 h1
  go_loop [3] (fun i => ∃ k : Nat, 1 ≤ k ∧ k ≤ (n + 263) / 256 ∧ i = .int .i64 k) (fun i => 40 - (intOf i).toNat)
  case atStart => exact ⟨1, by omega, by omega, rfl⟩
  case round =>
    obtain ⟨k, hk1, hk, rfl⟩ := hrel
    by_cases hlt : 256 * (k : Int) < n + 8
    · go_wp2
      go_round
      case rel => exact ⟨k + 1, by omega, by omega, by go_num⟩
      case measure => simp [intOf]; omega
    · have hk2 : k = (n + 263) / 256 := by omega
      have HK := Lib.hid hk2
      have hk17 : k ≤ 17 := by omega
      clear hk2 hk
      go_wp2
      go_ret
      exact ⟨ret_int (congrArg Int.ofNat HK.out), rfl⟩
end Go.Proofs.YtgnfcklippjeeaaGreat

/- The walks of Base and Slot, and of the law's awake. -/
namespace Go.Proofs.YtgnfcklippjeeaaGreat
open Go.RowKit

set_option maxHeartbeats 1000000 in
theorem base_out (page c k m : Int) (w : World) (hS : ∀ w, Calls Tryz.prog 142 #[.int .i64 c] w fun e w' => e = .returned (.int .i64 m) ∧ w = w') (h : page < 0 ∨ 255 < page ∨ k < 0 ∨ m ≤ k) :
    Calls Tryz.prog 139 #[.int .i64 page, .int .i64 c, .int .i64 k] w fun e w' => e = .returned (.int .i64 (-1)) ∧ w = w' := by
  have HS := Lib.hid hS
  clear hS
  by_cases h0 : page < 0
  · clear h
    go_enter Tryz.func139, Tryz.ntmps139
    go_wp2
    go_ret
    exact ⟨rfl, rfl⟩
  · by_cases h1 : page ≥ 256
    · clear h
      go_enter Tryz.func139, Tryz.ntmps139
      go_wp2
      go_ret
      exact ⟨rfl, rfl⟩
    · by_cases h2 : k < 0
      · clear h
        go_enter Tryz.func139, Tryz.ntmps139
        go_wp2
        go_ret
        exact ⟨rfl, rfl⟩
      · have h3 : k ≥ m := by omega
        clear h
        go_enter Tryz.func139, Tryz.ntmps139
        go_wp2_with (go_at_call 142; refine (HS.out _).mono ?_; rintro e w' ⟨rfl, rfl⟩)
        go_ret
        exact ⟨rfl, rfl⟩
theorem base_no (page c k : Int) (w : World) (h : No c) :
    Calls Tryz.prog 139 #[.int .i64 page, .int .i64 c, .int .i64 k] w fun e w' => e = .returned (.int .i64 (-1)) ∧ w = w' :=
  base_out page c k 0 w (fun w => slots_no c w h) (by omega)
theorem base_off {c s n r : Int} (page k : Int) (w : World) (h : Cl c s n r) (ho : page < 0 ∨ 255 < page ∨ k < 0 ∨ n ≤ k) :
    Calls Tryz.prog 139 #[.int .i64 page, .int .i64 c, .int .i64 k] w fun e w' => e = .returned (.int .i64 (-1)) ∧ w = w' :=
  base_out page c k n w (fun w => slots_yes w h) ho
set_option maxRecDepth 100000 in
set_option maxHeartbeats 2000000 in
theorem base_core {c s n r : Int} (page k : Int) (w : World) (h : Cl c s n r) (h0 : ¬ page < 0) (h1 : ¬ page ≥ 256) (h2 : ¬ k < 0) (h3 : ¬ k ≥ n) :
    Calls Tryz.prog 139 #[.int .i64 page, .int .i64 c, .int .i64 k] w fun e w' => e = .returned (.int .i64 (page * 256 + k * s)) ∧ w = w' := by
  have HL := Lib.hid (fun w => slots_yes w h)
  have HS := Lib.hid (fun w => size_yes w h)
  rcases h with ⟨rfl, rfl, rfl, rfl⟩ | ⟨rfl, rfl, rfl, rfl⟩ | ⟨rfl, rfl, rfl, rfl⟩ | ⟨rfl, rfl, rfl, rfl⟩
  all_goals
    go_enter Tryz.func139, Tryz.ntmps139
    go_wp2_with (first
      | (go_at_call 142; refine (HL.out _).mono ?_; rintro e w' ⟨rfl, rfl⟩)
      | (go_at_call 131; refine (HS.out _).mono ?_; rintro e w' ⟨rfl, rfl⟩))
    go_ret
    exact ⟨rfl, rfl⟩

set_option maxHeartbeats 1000000 in
theorem slot_out (at_ c : Int) (w : World) (h : at_ < 0 ∨ 65535 < at_) :
    Calls Tryz.prog 78 #[.int .i64 at_, .int .i64 c] w fun e w' => e = .returned (.tuple #[.int .i64 (-1), .int .i64 (-1)]) ∧ w = w' := by
  by_cases h0 : at_ < 0
  · clear h
    go_enter Tryz.func78, Tryz.ntmps78
    go_wp2
    go_ret2
    exact ⟨rfl, rfl⟩
  · have h1 : at_ ≥ 65536 := by omega
    clear h
    go_enter Tryz.func78, Tryz.ntmps78
    go_wp2
    go_ret2
    exact ⟨rfl, rfl⟩
set_option maxHeartbeats 1000000 in
theorem slot_no (at_ c : Int) (w : World) (h : No c) :
    Calls Tryz.prog 78 #[.int .i64 at_, .int .i64 c] w fun e w' => e = .returned (.tuple #[.int .i64 (-1), .int .i64 (-1)]) ∧ w = w' := by
  by_cases ho : at_ < 0 ∨ 65535 < at_
  · exact slot_out at_ c w ho
  · have HT := Lib.hid (fun w => there_no c w h)
    have h0 : ¬ at_ < 0 := by omega
    have h1 : ¬ at_ ≥ 65536 := by omega
    clear h ho
    go_enter Tryz.func78, Tryz.ntmps78
    go_wp2_with (go_at_call 137; refine (HT.out _).mono ?_; rintro e w' ⟨rfl, rfl⟩)
    go_ret2
    exact ⟨rfl, rfl⟩
set_option maxHeartbeats 2000000 in
theorem slot_core {c s n r : Int} (at_ : Int) (w : World) (h : Cl c s n r) (h0 : ¬ at_ < 0) (h1 : at_ < 65536) :
    Calls Tryz.prog 78 #[.int .i64 at_, .int .i64 c] w fun e w' => e = .returned (.tuple #[.int .i64 (at_ / 256), .int .i64 (at_ % 256 / s)]) ∧ ∃ d, w' = w.drewN d := by
  have HT := Lib.hid (fun w => there_yes w h)
  have HS := Lib.hid (fun w => size_yes w h)
  have hs : 0 < s ∧ s ≤ 128 := by unfold Cl at h; omega
  obtain ⟨hs0, hs1⟩ := hs
  clear h
  go_enter Tryz.func78, Tryz.ntmps78
  go_wp2_with (go_at_call 137; refine (HT.out _).mono ?_; rintro e w' ⟨rfl, rfl⟩)
  go_quiet ((go_at_call 131; exact quiet_left (HS.out _)))
  go_wp2
  go_ret2
  exact ⟨rfl, _, rfl⟩
theorem slot_yes {c s n r : Int} (at_ : Nat) (w : World) (h : Cl c s n r) (ha : at_ < 65536) :
    Calls Tryz.prog 78 #[.int .i64 at_, .int .i64 c] w fun e w' => e = .returned (.tuple #[.int .i64 (at_ / 256 : Int), .int .i64 (at_ % 256 / s : Int)]) ∧ ∃ d, w' = w.drewN d :=
  slot_core at_ w h (by omega) (by omega)

end Go.Proofs.YtgnfcklippjeeaaGreat

/- The walks of what mixes, of package link and of its reference. -/
namespace Go.Proofs.YtgnfcklippjeeaaGreat
open Go.RowKit

theorem mix_step1 (x : Nat) (hx : x < 18446744073709551616) : IntKind.u64.wrap (bits .xor .u64 (x : Int) ((x : Int) / 1073741824) * 13787848793156543929) = (Li.m1 x : Nat) := mixStep_u64 x 1073741824 13787848793156543929 hx
theorem mix_step2 (x : Nat) (hx : x < 18446744073709551616) : IntKind.u64.wrap (bits .xor .u64 (x : Int) ((x : Int) / 134217728) * 10723151780598845931) = (Li.m2 x : Nat) := mixStep_u64 x 134217728 10723151780598845931 hx
theorem mix_step3 (x : Nat) (hx : x < 18446744073709551616) : bits .xor .u64 (x : Int) ((x : Int) / 2147483648) = (Li.m3 x : Nat) := xorShift_u64 x 2147483648 hx
theorem wrap_div (x d : Nat) (hx : x < 18446744073709551616) : IntKind.u64.wrap ((x : Int) / (d : Int)) = (x : Int) / (d : Int) := by
  have h : x / d ≤ x := Nat.div_le_self _ _
  have e : (x : Int) / (d : Int) = ((x / d : Nat) : Int) := by simp
  rw [e]
  clear e
  generalize x / d = q at *
  rw [IntKind.wrap_u64]
  omega

set_option maxRecDepth 100000 in
set_option maxHeartbeats 1000000 in
theorem mix_at (x : Nat) (hx : x < 18446744073709551616) (w : World) :
    Calls Tryz.prog 136 #[.int .u64 x] w fun e w' => e = .returned (.int .u64 (Li.mix x : Nat)) ∧ w = w' := by
  have e1 := mix_step1 x hx
  have e2 := mix_step2 (Li.m1 x) (Li.m1_lt x)
  have e3 := mix_step3 (Li.m2 (Li.m1 x)) (Li.m2_lt _)
  have hm : Li.m3 (Li.m2 (Li.m1 x)) = Li.mix x := rfl
  rw [hm] at e3
  clear hx hm
  generalize Li.mix x = z at *
  generalize Li.m2 (Li.m1 x) = y2 at *
  generalize Li.m1 x = y1 at *
  go_enter Tryz.func136, Tryz.ntmps136
  go_wp2
  go_ret
  exact ⟨rfl, rfl⟩
set_option maxRecDepth 100000 in
set_option maxHeartbeats 1000000 in
theorem rmix_at (x : Nat) (hx : x < 18446744073709551616) (w : World) :
    Calls Tryz.prog 156 #[.int .u64 x] w fun e w' => e = .returned (.int .u64 (Li.mix x : Nat)) ∧ w = w' := by
  have e1 := mix_step1 x hx
  have e2 := mix_step2 (Li.m1 x) (Li.m1_lt x)
  have e3 := mix_step3 (Li.m2 (Li.m1 x)) (Li.m2_lt _)
  have hm : Li.m3 (Li.m2 (Li.m1 x)) = Li.mix x := rfl
  have d1 : IntKind.u64.wrap ((x : Int) / 1073741824) = (x : Int) / 1073741824 := wrap_div x 1073741824 hx
  have d2 : IntKind.u64.wrap ((Li.m1 x : Int) / 134217728) = (Li.m1 x : Int) / 134217728 := wrap_div _ 134217728 (Li.m1_lt x)
  have d3 : IntKind.u64.wrap ((Li.m2 (Li.m1 x) : Int) / 2147483648) = (Li.m2 (Li.m1 x) : Int) / 2147483648 := wrap_div _ 2147483648 (Li.m2_lt _)
  rw [hm] at e3
  clear hx hm
  generalize Li.mix x = z at *
  generalize Li.m2 (Li.m1 x) = y2 at *
  generalize Li.m1 x = y1 at *
  go_enter Tryz.func156, Tryz.ntmps156
  go_wp2
  go_ret
  exact ⟨rfl, rfl⟩

theorem wrap_sum (k : Nat) (a : Int) : IntKind.u64.wrap ((k : Int) + IntKind.u64.wrap a) = (Li.sum k a : Nat) := by
  rw [IntKind.wrap_u64, IntKind.wrap_u64, Li.sum_int]; omega
theorem wrap_u (a : Int) : IntKind.u64.wrap a = (Li.u a : Nat) := by rw [IntKind.wrap_u64, Li.u_int]

/-- The key of a seed. -/
def keyOf (s : Nat) : Nat := Li.mix (Li.sum s 11400714819323198485)
theorem keyOf_lt (s : Nat) : keyOf s < 18446744073709551616 := Li.mix_lt _
theorem wrap_seed (s : Nat) : IntKind.u64.wrap ((s : Int) + 11400714819323198485) = (Li.sum s 11400714819323198485 : Nat) := by
  rw [IntKind.wrap_u64, Li.sum_int]

set_option maxRecDepth 100000 in
set_option maxHeartbeats 1000000 in
theorem new_at (s : Nat) (w : World) :
    Calls Tryz.prog 73 #[.int .u64 s] w fun e w' => e = .returned (.agg #[.int .u64 (keyOf s : Nat)]) ∧ w.grownBy w' none := by
  have e1 := wrap_seed s
  have HM : Hid (∀ w, Calls Tryz.prog 136 #[.int .u64 (Li.sum s 11400714819323198485 : Nat)] w fun e w' => e = .returned (.int .u64 (keyOf s : Nat)) ∧ w = w') := fun w => mix_at _ (Li.sum_lt _ _) w
  generalize keyOf s = key at *
  generalize Li.sum s 11400714819323198485 = y at *
  go_enter Tryz.func73, Tryz.ntmps73
  go_wp2_with (go_at_call 136; refine (HM.out _).mono ?_; rintro e w' ⟨rfl, rfl⟩)
  exact bodyPost_ret (v := .agg #[.int .u64 key]) (by simp [results, Tryz.results73, go_sem]) rfl ⟨rfl, grown_alloc _ _ _⟩
set_option maxRecDepth 100000 in
set_option maxHeartbeats 1000000 in
theorem mask_at (k : Nat) (a : Int) (w : World) :
    Calls Tryz.prog 191 #[.agg #[.int .u64 k], .int .i64 a] w fun e w' => e = .returned (.int .u64 (Li.mix (Li.sum k a) : Nat)) ∧ w.grownBy w' none := by
  have e1 := wrap_sum k a
  have HM : Hid (∀ w, Calls Tryz.prog 136 #[.int .u64 (Li.sum k a : Nat)] w fun e w' => e = .returned (.int .u64 (Li.mix (Li.sum k a) : Nat)) ∧ w = w') := fun w => mix_at _ (Li.sum_lt _ _) w
  generalize Li.mix (Li.sum k a) = z at *
  generalize Li.sum k a = y at *
  go_enter Tryz.func191, Tryz.ntmps191
  go_wp2_with (go_at_call 136; refine (HM.out _).mono ?_; rintro e w' ⟨rfl, rfl⟩)
  go_ret
  exact ⟨rfl, grown_alloc _ _ _⟩
set_option maxRecDepth 100000 in
set_option maxHeartbeats 1000000 in
theorem canary_at (k : Nat) (hk : k < 18446744073709551616) (a : Int) (w : World) :
    Calls Tryz.prog 149 #[.agg #[.int .u64 k], .int .i64 a] w fun e w' => e = .returned (.int .u64 (Li.mix (k ^^^ Li.u a) : Nat)) ∧ w.grownBy w' none := by
  have e1 := wrap_u a
  have e2 := u64_xor_nat k (Li.u a) hk (Li.u_lt a)
  have HM : Hid (∀ w, Calls Tryz.prog 136 #[.int .u64 (k ^^^ Li.u a : Nat)] w fun e w' => e = .returned (.int .u64 (Li.mix (k ^^^ Li.u a) : Nat)) ∧ w = w') := fun w => mix_at _ (Li.xor_lt hk (Li.u_lt a)) w
  clear hk
  generalize Li.mix (k ^^^ Li.u a) = z at *
  generalize k ^^^ Li.u a = y at *
  generalize Li.u a = y0 at *
  go_enter Tryz.func149, Tryz.ntmps149
  go_wp2_with (go_at_call 136; refine (HM.out _).mono ?_; rintro e w' ⟨rfl, rfl⟩)
  go_ret
  exact ⟨rfl, grown_alloc _ _ _⟩
end Go.Proofs.YtgnfcklippjeeaaGreat

/- The walks of links: Put, Get, the reference's Put, the law's awake. -/
namespace Go.Proofs.YtgnfcklippjeeaaGreat
open Go.RowKit

theorem may_no {a n : Int} (h : Li.may a n = false) : a < 0 ∨ n < -1 ∨ 2147483647 < n := by
  by_cases h1 : a < 0 ∨ n < -1 ∨ 2147483647 < n
  · exact h1
  · have := (Li.may_iff a n).2 (by omega)
    rw [h] at this
    cases this
theorem put_no {k : Nat} {a n : Int} (h : Li.may a n = false) : Li.put k a n = 0 := by unfold Li.put; rw [if_neg (by rw [h]; simp)]
theorem put_yes {k : Nat} {a : Int} (p : Nat) (h : Li.may a ((p : Int) - 1) = true) : Li.put k a ((p : Int) - 1) = Li.lk k a p := by
  unfold Li.put
  rw [if_pos h]
  congr 1
  omega

set_option maxRecDepth 100000 in
set_option maxHeartbeats 1000000 in
theorem put_out (k : Nat) (a n : Int) (w : World) (h : a < 0 ∨ n < -1 ∨ 2147483647 < n) :
    Calls Tryz.prog 177 #[.agg #[.int .u64 k], .int .i64 a, .int .i64 n] w fun e w' => e = .returned (.int .u64 0) ∧ w.grownBy w' none := by
  by_cases h0 : a < 0
  · clear h
    go_enter Tryz.func177, Tryz.ntmps177
    go_wp2
    go_ret
    exact ⟨rfl, grown_alloc _ _ _⟩
  · by_cases h1 : n < -1
    · clear h
      go_enter Tryz.func177, Tryz.ntmps177
      go_wp2
      go_ret
      exact ⟨rfl, grown_alloc _ _ _⟩
    · have h2 : n > 2147483647 := by omega
      clear h
      go_enter Tryz.func177, Tryz.ntmps177
      go_wp2
      go_ret
      exact ⟨rfl, grown_alloc _ _ _⟩
set_option maxRecDepth 100000 in
set_option maxHeartbeats 2000000 in
theorem put_in (k p : Nat) (a n : Int) (w : World) (h0 : ¬ a < 0) (h1 : ¬ n < -1) (h2 : ¬ n > 2147483647) (hp : n + 1 = p) :
    Calls Tryz.prog 177 #[.agg #[.int .u64 k], .int .i64 a, .int .i64 n] w fun e w' => e = .returned (.int .u64 (Li.lk k a p : Nat)) ∧ w.grownBy w' none := by
  have hpl : p < 18446744073709551616 := by omega
  have e1 : IntKind.u64.wrap (n + 1) = (p : Nat) := by rw [hp, IntKind.wrap_u64]; omega
  have e2 : bits .xor .u64 6510516211317473280 (p : Int) = (Li.mark ^^^ p : Nat) := u64_xor_nat Li.mark p (by decide) hpl
  have e3 : bits .xor .u64 ((Li.mark ^^^ p : Nat) : Int) (Li.mix (Li.sum k a) : Nat) = (Li.lk k a p : Nat) := u64_xor_nat _ _ (Li.xor_lt (by decide) hpl) (Li.mix_lt _)
  have HM := Lib.hid (fun w => mask_at k a w)
  clear hp hpl
  generalize Li.lk k a p = r at *
  generalize Li.mix (Li.sum k a) = z at *
  generalize Li.mark ^^^ p = y at *
  go_enter Tryz.func177, Tryz.ntmps177
  go_wp2_with (go_at_call 191; refine (HM.out _).mono ?_; rintro e w' ⟨rfl, hg⟩)
  go_ret
  exact ⟨rfl, grown_trans (grown_alloc _ _ _) hg⟩
/-- Put. -/
theorem put_at (k : Nat) (a n : Int) (w : World) :
    Calls Tryz.prog 177 #[.agg #[.int .u64 k], .int .i64 a, .int .i64 n] w fun e w' => e = .returned (.int .u64 (Li.put k a n : Nat)) ∧ w.grownBy w' none := by
  by_cases h : Li.may a n = true
  · obtain ⟨h0, h1, h2⟩ := (Li.may_iff a n).1 h
    unfold Li.put
    rw [if_pos h]
    exact put_in k _ a n w (by omega) (by omega) (by omega) (by omega)
  · have h : Li.may a n = false := by simpa using h
    rw [put_no h]
    exact put_out k a n w (may_no h)

set_option maxRecDepth 100000 in
set_option maxHeartbeats 1000000 in
theorem rput_out (k : Nat) (a n : Int) (w : World) (h : a < 0 ∨ n < -1 ∨ 2147483647 < n) :
    Calls Tryz.prog 185 #[.int .u64 k, .int .i64 a, .int .i64 n] w fun e w' => e = .returned (.int .u64 0) ∧ w = w' := by
  by_cases h0 : a < 0
  · clear h
    go_enter Tryz.func185, Tryz.ntmps185
    go_wp2
    go_ret
    exact ⟨rfl, rfl⟩
  · by_cases h1 : n < -1
    · clear h
      go_enter Tryz.func185, Tryz.ntmps185
      go_wp2
      go_ret
      exact ⟨rfl, rfl⟩
    · have h2 : n > 2147483647 := by omega
      clear h
      go_enter Tryz.func185, Tryz.ntmps185
      go_wp2
      go_ret
      exact ⟨rfl, rfl⟩
set_option maxRecDepth 100000 in
set_option maxHeartbeats 2000000 in
theorem rput_in (k p : Nat) (a n : Int) (w : World) (h0 : ¬ a < 0) (h1 : ¬ n < -1) (h2 : ¬ n > 2147483647) (hp : n + 1 = p) :
    Calls Tryz.prog 185 #[.int .u64 k, .int .i64 a, .int .i64 n] w fun e w' => e = .returned (.int .u64 (Li.lk k a p : Nat)) ∧ w = w' := by
  have hpl : p < 281474976710656 := by omega
  have e1 : IntKind.u64.wrap (n + 1) = (p : Nat) := by rw [hp, IntKind.wrap_u64]; omega
  have e2 : IntKind.u64.wrap (6510516211317473280 + (p : Int)) = (Li.mark ^^^ p : Nat) := by
    rw [IntKind.wrap_u64, ← Li.mark_add p hpl]; unfold Li.mark; omega
  have e3 : bits .xor .u64 ((Li.mark ^^^ p : Nat) : Int) (Li.mix (Li.sum k a) : Nat) = (Li.lk k a p : Nat) := u64_xor_nat _ _ (Li.xor_lt (by decide) (by omega)) (Li.mix_lt _)
  have e4 := wrap_sum k a
  have HM : Hid (∀ w, Calls Tryz.prog 156 #[.int .u64 (Li.sum k a : Nat)] w fun e w' => e = .returned (.int .u64 (Li.mix (Li.sum k a) : Nat)) ∧ w = w') := fun w => rmix_at _ (Li.sum_lt _ _) w
  clear hp hpl
  generalize Li.lk k a p = r at *
  generalize Li.mix (Li.sum k a) = z at *
  generalize Li.sum k a = s at *
  generalize Li.mark ^^^ p = y at *
  go_enter Tryz.func185, Tryz.ntmps185
  go_wp2_with (go_at_call 156; refine (HM.out _).mono ?_; rintro e w' ⟨rfl, rfl⟩)
  go_ret
  exact ⟨rfl, rfl⟩
theorem rput_at (k : Nat) (a n : Int) (w : World) :
    Calls Tryz.prog 185 #[.int .u64 k, .int .i64 a, .int .i64 n] w fun e w' => e = .returned (.int .u64 (Li.put k a n : Nat)) ∧ w = w' := by
  by_cases h : Li.may a n = true
  · obtain ⟨h0, h1, h2⟩ := (Li.may_iff a n).1 h
    unfold Li.put
    rw [if_pos h]
    exact rput_in k _ a n w (by omega) (by omega) (by omega) (by omega)
  · have h : Li.may a n = false := by simpa using h
    rw [put_no h]
    exact rput_out k a n w (may_no h)

set_option maxRecDepth 100000 in
set_option maxHeartbeats 1000000 in
theorem get_neg (k W : Nat) (a : Int) (w : World) (h : a < 0) :
    Calls Tryz.prog 179 #[.agg #[.int .u64 k], .int .i64 a, .int .u64 W] w fun e w' => e = .returned (.tuple #[.int .i64 0, .bool false]) ∧ w.grownBy w' none := by
  go_enter Tryz.func179, Tryz.ntmps179
  go_wp2
  go_ret2
  exact ⟨rfl, grown_alloc _ _ _⟩
theorem bare_int (k W : Nat) (a : Int) (hW : W < 18446744073709551616) : bits .xor .u64 (W : Int) (Li.mix (Li.sum k a) : Nat) = (W ^^^ Li.mix (Li.sum k a) : Nat) ∧ bits .xor .u64 ((W ^^^ Li.mix (Li.sum k a) : Nat) : Int) 6510516211317473280 = (Li.bare k a W : Nat) :=
  ⟨u64_xor_nat _ _ hW (Li.mix_lt _), u64_xor_nat _ Li.mark (Li.xor_lt hW (Li.mix_lt _)) (by decide)⟩
set_option maxRecDepth 100000 in
set_option maxHeartbeats 2000000 in
theorem get_none (k W : Nat) (a : Int) (w : World) (h : ¬ a < 0) (hW : W < 18446744073709551616) (hb : 2147483648 < Li.bare k a W) :
    Calls Tryz.prog 179 #[.agg #[.int .u64 k], .int .i64 a, .int .u64 W] w fun e w' => e = .returned (.tuple #[.int .i64 0, .bool false]) ∧ w.grownBy w' none := by
  obtain ⟨e1, e2⟩ := bare_int k W a hW
  have HM := Lib.hid (fun w => mask_at k a w)
  have hb' : (Li.bare k a W : Int) > 2147483648 := by omega
  clear hb hW
  generalize Li.bare k a W = b at *
  generalize Li.mix (Li.sum k a) = z at *
  generalize W ^^^ z = y at *
  go_enter Tryz.func179, Tryz.ntmps179
  go_wp2_with (go_at_call 191; refine (HM.out _).mono ?_; rintro e w' ⟨rfl, hg⟩)
  go_ret2
  exact ⟨rfl, grown_trans (grown_alloc _ _ _) hg⟩
set_option maxRecDepth 100000 in
set_option maxHeartbeats 2000000 in
theorem get_some (k W : Nat) (a : Int) (w : World) (h : ¬ a < 0) (hW : W < 18446744073709551616) (hb : Li.bare k a W ≤ 2147483648) :
    Calls Tryz.prog 179 #[.agg #[.int .u64 k], .int .i64 a, .int .u64 W] w fun e w' => e = .returned (.tuple #[.int .i64 (Li.bare k a W - 1), .bool true]) ∧ w.grownBy w' none := by
  obtain ⟨e1, e2⟩ := bare_int k W a hW
  have HM := Lib.hid (fun w => mask_at k a w)
  have hb' : (Li.bare k a W : Int) ≤ 2147483648 := by omega
  have hb0 : 0 ≤ (Li.bare k a W : Int) := by omega
  clear hb hW
  generalize (Li.bare k a W : Int) = b at *
  generalize Li.mix (Li.sum k a) = z at *
  generalize W ^^^ z = y at *
  go_enter Tryz.func179, Tryz.ntmps179
  go_wp2_with (go_at_call 191; refine (HM.out _).mono ?_; rintro e w' ⟨rfl, hg⟩)
  go_ret2
  exact ⟨rfl, grown_trans (grown_alloc _ _ _) hg⟩

theorem key0 : keyOf 0 = 16294208416658607535 := by decide +kernel
end Go.Proofs.YtgnfcklippjeeaaGreat
