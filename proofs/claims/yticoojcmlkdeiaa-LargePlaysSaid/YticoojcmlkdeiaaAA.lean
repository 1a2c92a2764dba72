/- The walks of what reads an arena: Len, bounds, wordBounds, num.Get, Word. -/
import Derived.Test.YticoojcmlkdeiaaGrown
import Derived.Test.YticoojcmlkdeiaaAM
import Derived.LoopTactic
import Derived.Laws.Bits64b
import Derived.Laws.BitsAllLaws
namespace Go.Proofs.Yticoojcmlkdeiaa.An
open Go.RowKit

theorem vint {a b : Int} (h : a = b) : Value.int .i64 a = .int .i64 b := by rw [h]

/-- n bytes at block q. -/
structure BytesAt (w : World) (q n : Nat) (B : Nat → Nat) : Prop where
  c : ∀ i, i < n → w.cell? ⟨q, i, none⟩ = some (.int .u8 (B i : Nat))
  fz : ∀ k, w.frozen? ⟨q, k, none⟩ = false
  qlt : q < w.heap.size
theorem BytesAt.grown {w w' : World} {q n : Nat} {B : Nat → Nat} {r : Option Nat} (h : BytesAt w q n B) (hg : w.grownBy w' r) (hr : some q ≠ r) : BytesAt w' q n B where
  c := fun i hi => hg.cell (h.c i hi) hr
  fz := fun k => by rw [World.frozen?_of_block (w := w) (hg.block q h.qlt hr)]; exact h.fz k
  qlt := Nat.lt_of_lt_of_le h.qlt hg.size
theorem BytesAt.drew {w : World} {q n : Nat} {B : Nat → Nat} (h : BytesAt w q n B) : BytesAt w.drew q n B := ⟨h.c, h.fz, h.qlt⟩

/-- An arena: the object at block p, its bytes at block q, the Do that is under way. -/
structure ArAt (w : World) (p q n cap : Nat) (B : Nat → Nat) (wk : Option Addr) : Prop where
  c0 : w.cell? ⟨p, 0, none⟩ = some (.slice (some ⟨q, 0, none⟩) n cap)
  c1 : w.cell? ⟨p, 1, none⟩ = some (.pointer wk)
  fz : ∀ k, w.frozen? ⟨p, k, none⟩ = false
  b : BytesAt w q n B
  ne : p ≠ q
  hcap : n ≤ cap
  small : n ≤ 65536
  page : n % 256 = 0
  lt : ∀ i, B i < 256
theorem ArAt.plt {w : World} {p q n cap : Nat} {B : Nat → Nat} {wk : Option Addr} (h : ArAt w p q n cap B wk) : p < w.heap.size := World.block_lt_of_cell? w ⟨p, 0, none⟩ h.c0
theorem ArAt.grown {w w' : World} {p q n cap : Nat} {B : Nat → Nat} {wk : Option Addr} {r : Option Nat} (h : ArAt w p q n cap B wk) (hg : w.grownBy w' r) (hp : some p ≠ r) (hq : some q ≠ r) : ArAt w' p q n cap B wk where
  c0 := hg.cell h.c0 hp
  c1 := hg.cell h.c1 hp
  fz := fun k => by rw [World.frozen?_of_block (w := w) (hg.block p h.plt hp)]; exact h.fz k
  b := h.b.grown hg hq
  ne := h.ne
  hcap := h.hcap
  small := h.small
  page := h.page
  lt := h.lt

set_option maxHeartbeats 400000 in
theorem alen_nil (w : World) :
    Calls Try.prog 64 #[.pointer none] w fun e w' => e = .returned (.int .i64 0) ∧ w = w' := by
  go_enter Try.func64, Try.ntmps64
  go_wp2
  go_ret
  exact ⟨rfl, rfl⟩
set_option maxHeartbeats 400000 in
theorem alen_core (p q n cap : Nat) (w : World) (h0 : w.cell? ⟨p, 0, none⟩ = some (.slice (some ⟨q, 0, none⟩) n cap)) :
    Calls Try.prog 64 #[.pointer (some ⟨p, 0, none⟩)] w fun e w' => e = .returned (.int .i64 n) ∧ w = w' := by
  go_enter Try.func64, Try.ntmps64
  go_wp2
  go_ret
  exact ⟨rfl, rfl⟩

set_option maxHeartbeats 400000 in
theorem bounds_nil (at_ n : Int) (w : World) :
    Calls Try.prog 57 #[.pointer none, .int .i64 at_, .int .i64 n] w fun e w' => e = .returned (.int .i64 2) ∧ w = w' := by
  go_enter Try.func57, Try.ntmps57
  go_wp2
  go_ret
  exact ⟨rfl, rfl⟩
/-- Are there such bytes? -/
def inB (N : Nat) (at_ n : Int) : Bool := decide (0 ≤ at_) && (decide (0 ≤ n) && decide (at_ + n ≤ N))
theorem inB_iff (N : Nat) (at_ n : Int) : inB N at_ n = true ↔ 0 ≤ at_ ∧ 0 ≤ n ∧ at_ + n ≤ N := by simp [inB]

set_option maxHeartbeats 800000 in
theorem bounds_at (p q N cap : Nat) (at_ n : Int) (w : World) (h0 : w.cell? ⟨p, 0, none⟩ = some (.slice (some ⟨q, 0, none⟩) N cap)) (hN : N ≤ 65536) (hn : n ≤ 9223372036854775807) :
    Calls Try.prog 57 #[.pointer (some ⟨p, 0, none⟩), .int .i64 at_, .int .i64 n] w fun e w' => e = .returned (.int .i64 (if inB N at_ n = true then 0 else 3)) ∧ w = w' := by
  by_cases h1 : at_ < 0
  · have hb : inB N at_ n = false := by cases h : inB N at_ n with | false => rfl | true => have := (inB_iff _ _ _).1 h; omega
    rw [hb]
    have h1' : decide (at_ < 0) = true := by simpa using h1
    clear hb
    go_enter Try.func57, Try.ntmps57
    go_wp2
    go_ret
    exact ⟨rfl, rfl⟩
  · have h1' : decide (at_ < 0) = false := by simpa using h1
    by_cases h2 : n < 0
    · have hb : inB N at_ n = false := by cases h : inB N at_ n with | false => rfl | true => have := (inB_iff _ _ _).1 h; omega
      rw [hb]
      have h2' : decide (n < 0) = true := by simpa using h2
      clear hb
      go_enter Try.func57, Try.ntmps57
      go_wp2
      go_ret
      exact ⟨rfl, rfl⟩
    · have h2' : decide (n < 0) = false := by simpa using h2
      have b1 : -9223372036854775808 ≤ (N : Int) - n := by omega
      have b2 : (N : Int) - n ≤ 9223372036854775807 := by omega
      by_cases h3 : (N : Int) - n < at_
      · have hb : inB N at_ n = false := by cases h : inB N at_ n with | false => rfl | true => have := (inB_iff _ _ _).1 h; omega
        rw [hb]
        have h3' : decide ((N : Int) - n < at_) = true := by simpa using h3
        clear hb
        go_enter Try.func57, Try.ntmps57
        go_wp2
        go_ret
        exact ⟨rfl, rfl⟩
      · have hb : inB N at_ n = true := (inB_iff _ _ _).2 (by omega)
        rw [hb]
        have h3' : decide ((N : Int) - n < at_) = false := by simpa using h3
        clear hb
        go_enter Try.func57, Try.ntmps57
        go_wp2
        go_ret
        exact ⟨rfl, rfl⟩

/-- What is wrong with the word at a place. -/
def wbE (N : Nat) (at_ : Int) : Int := if inB N at_ 8 = true then (if at_ % 8 = 0 then 0 else 1) else 3
set_option maxHeartbeats 800000 in
theorem wbounds_nil (at_ : Int) (w : World) :
    Calls Try.prog 85 #[.pointer none, .int .i64 at_] w fun e w' => e = .returned (.int .i64 2) ∧ w = w' := by
  go_enter Try.func85, Try.ntmps85
  go_wp2_with (go_at_call 57; refine (bounds_nil at_ 8 _).mono ?_; rintro e w' ⟨rfl, rfl⟩)
  go_ret
  exact ⟨rfl, rfl⟩
set_option maxHeartbeats 800000 in
theorem wbounds_at (p q N cap : Nat) (at_ : Int) (w : World) (h0 : w.cell? ⟨p, 0, none⟩ = some (.slice (some ⟨q, 0, none⟩) N cap)) (hN : N ≤ 65536) :
    Calls Try.prog 85 #[.pointer (some ⟨p, 0, none⟩), .int .i64 at_] w fun e w' => e = .returned (.int .i64 (wbE N at_)) ∧ w = w' := by
  have HC := bounds_at p q N cap at_ 8 w h0 hN (by omega)
  unfold wbE
  by_cases hb : inB N at_ 8 = true
  · rw [if_pos hb] at HC ⊢
    have HC := Lib.hid HC
    obtain ⟨b1, _, b3⟩ := (inB_iff _ _ _).1 hb
    clear hb
    by_cases hm : at_ % 8 = 0
    · rw [if_pos hm]
      have hm' : (at_ % 8 != 0) = false := by simpa using hm
      have HMM := Lib.hid hm
      clear hm
      go_enter Try.func85, Try.ntmps85
      go_wp2_with (go_at_call 57; refine HC.out.mono ?_; rintro e w' ⟨rfl, rfl⟩)
      go_ret
      exact ⟨rfl, rfl⟩
    · rw [if_neg hm]
      have hm' : (at_ % 8 != 0) = true := by simpa using hm
      have HMM := Lib.hid hm
      clear hm
      go_enter Try.func85, Try.ntmps85
      go_wp2_with (go_at_call 57; refine HC.out.mono ?_; rintro e w' ⟨rfl, rfl⟩)
      go_ret
      exact ⟨rfl, rfl⟩
  · rw [if_neg hb] at HC ⊢
    have HC := Lib.hid HC
    clear hb
    go_enter Try.func85, Try.ntmps85
    go_wp2_with (go_at_call 57; refine HC.out.mono ?_; rintro e w' ⟨rfl, rfl⟩)
    go_ret
    exact ⟨rfl, rfl⟩

theorem or_c (x c : Nat) (X C : Int) (hx : x < 18446744073709551616) (hc : c < 18446744073709551616) (h1 : X = x) (h2 : C = c) : bits .or .u64 X C = ((x ||| c : Nat) : Int) := by
  rw [h1, h2]; exact u64_or_nat x c hx hc
theorem get_step (B : Nat → Nat) (h : ∀ i, B i < 256) (k : Nat) (hk : k < 8) : bits BinOp.or IntKind.u64 ((Ar.wsum B k : Nat) : Int) (IntKind.u64.wrap (((B k : Nat) : Int) * 2 ^ (8 * k))) = ((Ar.wsum B (k + 1) : Nat) : Int) := by
  have h1 := Ar.wsum_lt h k
  have h2 := Ar.pow_le k (by omega)
  have h3 := Ar.wsum_lt h (k + 1)
  have h4 := Ar.pow_le (k + 1) (by omega)
  have h5 : B k * 256 ^ k < 18446744073709551616 := by simp only [Ar.wsum] at h3; omega
  have e1 : (((B k : Nat) : Int) * 2 ^ (8 * k)) = ((B k * 256 ^ k : Nat) : Int) := by
    rw [← Ar.two_pow]; simp
  have e2 : IntKind.u64.wrap (((B k : Nat) : Int) * 2 ^ (8 * k)) = ((B k * 256 ^ k : Nat) : Int) := by
    rw [e1, IntKind.wrap_u64]; omega
  rw [or_c _ _ _ _ (by omega) h5 rfl e2, Ar.or_add B h k]
theorem vu64 {a b : Int} (h : a = b) : Value.int .u64 a = .int .u64 b := by rw [h]

set_option maxRecDepth 100000 in
set_option maxHeartbeats 1000000 in
theorem get_at (q o cap : Nat) (B : Nat → Nat) (w : World) (hB : ∀ i, B i < 256) (hc : ∀ i, i < 8 → w.cell? ⟨q, o + i, none⟩ = some (.int .u8 (B i : Nat))) :
    Calls Try.prog 99 #[.slice (some ⟨q, o, none⟩) 8 cap] w fun e w' => e = .returned (.int .u64 (Ar.wsum B 8 : Nat)) ∧ w = w' := by
  have HB := Lib.hid hB
  have HC := Lib.hid hc
  clear hB hc
  go_enter Try.func99, Try.ntmps99
  go_wp2_with fail
  go_loop [3, 8] (fun v i => ∃ k : Nat, k ≤ 8 ∧ i = .int .i64 k ∧ v = .int .u64 (Ar.wsum B k : Nat)) (fun _ i => 8 - (intOf i).toNat)
  case atStart => exact ⟨0, by omega, rfl, rfl⟩
  case round =>
    obtain ⟨k, hk, rfl, rfl⟩ := hrel
    by_cases hlt : k < 8
    · have d0 := HC.out k hlt
      have hb := HB.out k
      have HS := Lib.hid (get_step B HB.out k hlt)
      go_wp2
      go_round
      case rel => exact ⟨k + 1, by omega, by go_num, vu64 HS.out⟩
      case measure => simp [intOf]; omega
    · obtain rfl : k = 8 := by omega
      go_wp2
      go_ret
      exact ⟨rfl, rfl⟩

set_option maxHeartbeats 800000 in
theorem word_nil (at_ : Int) (w : World) :
    Calls Try.prog 79 #[.pointer none, .int .i64 at_] w fun e w' => e = .returned (.tuple #[.int .u64 0, .int .i64 2]) ∧ w = w' := by
  go_enter Try.func79, Try.ntmps79
  go_wp2_with (go_at_call 85; refine (wbounds_nil at_ _).mono ?_; rintro e w' ⟨rfl, rfl⟩)
  go_ret2
  exact ⟨rfl, rfl⟩
/-- The word at a place; 0, if it may not be asked for. -/
def wordV (B : Nat → Nat) (N : Nat) (at_ : Int) : Nat := if wbE N at_ = 0 then Ar.wordAt B at_.toNat else 0
theorem wbE_zero {N : Nat} {at_ : Int} (h : wbE N at_ = 0) : 0 ≤ at_ ∧ at_ + 8 ≤ N ∧ at_ % 8 = 0 := by
  unfold wbE at h
  split at h
  · rename_i hb
    obtain ⟨h1, _, h3⟩ := (inB_iff _ _ _).1 hb
    split at h
    · exact ⟨h1, h3, by assumption⟩
    · omega
  · omega
theorem wbE_val (N : Nat) (at_ : Int) : wbE N at_ = 0 ∨ wbE N at_ = 1 ∨ wbE N at_ = 3 := by
  unfold wbE
  split
  · split
    · exact .inl rfl
    · exact .inr (.inl rfl)
  · exact .inr (.inr rfl)

set_option maxHeartbeats 1000000 in
theorem word_bad (p q N cap : Nat) (at_ er : Int) (w : World) (h0 : w.cell? ⟨p, 0, none⟩ = some (.slice (some ⟨q, 0, none⟩) N cap)) (hN : N ≤ 65536) (he : wbE N at_ = er) (hz : er ≠ 0) :
    Calls Try.prog 79 #[.pointer (some ⟨p, 0, none⟩), .int .i64 at_] w fun e w' => e = .returned (.tuple #[.int .u64 0, .int .i64 er]) ∧ w = w' := by
  have HC := wbounds_at p q N cap at_ w h0 hN
  rw [he] at HC
  have HC := Lib.hid HC
  have hz' : (er != 0) = true := by simpa using hz
  clear he hz
  go_enter Try.func79, Try.ntmps79
  go_wp2_with (go_at_call 85; refine HC.out.mono ?_; rintro e w' ⟨rfl, rfl⟩)
  go_ret2
  exact ⟨rfl, rfl⟩
set_option maxHeartbeats 1000000 in
theorem word_good (p q N cap at_ : Nat) (B : Nat → Nat) (w : World) (h0 : w.cell? ⟨p, 0, none⟩ = some (.slice (some ⟨q, 0, none⟩) N cap)) (hN : N ≤ 65536) (hcap : N ≤ cap) (hB : ∀ i, B i < 256) (hb : BytesAt w q N B) (he : wbE N at_ = 0) :
    Calls Try.prog 79 #[.pointer (some ⟨p, 0, none⟩), .int .i64 at_] w fun e w' => e = .returned (.tuple #[.int .u64 (Ar.wordAt B at_ : Nat), .int .i64 0]) ∧ w = w' := by
  have HC := wbounds_at p q N cap at_ w h0 hN
  rw [he] at HC
  have HC := Lib.hid HC
  obtain ⟨_, h8, _⟩ := wbE_zero he
  have h8' : at_ + 8 ≤ N := by omega
  have HG := Lib.hid (get_at q at_ (cap - at_) (fun i => B (at_ + i)) w (fun i => hB _) (fun i hi => hb.c _ (by omega)))
  have q1 : at_ + 8 - at_ = 8 := by omega
  have hc1 : ¬ cap = at_ := by omega
  have hc2 : (at_ : Int) + 8 ≤ cap := by omega
  have hat : at_ ≤ 65536 := by omega
  clear he hB hb
  go_enter Try.func79, Try.ntmps79
  go_wp2_with (first
    | (go_at_call 85; refine HC.out.mono ?_; rintro e w' ⟨rfl, rfl⟩)
    | (go_at_call 99; refine HG.out.mono ?_; rintro e w' ⟨rfl, rfl⟩))
  go_ret2
  exact ⟨rfl, rfl⟩
/-- Word, of an arena. -/
theorem word_at {w : World} {p q N cap : Nat} {B : Nat → Nat} {wk : Option Addr} (h : ArAt w p q N cap B wk) (at_ : Int) :
    Calls Try.prog 79 #[.pointer (some ⟨p, 0, none⟩), .int .i64 at_] w fun e w' => e = .returned (.tuple #[.int .u64 (wordV B N at_ : Nat), .int .i64 (wbE N at_)]) ∧ w = w' := by
  unfold wordV
  by_cases he : wbE N at_ = 0
  · rw [if_pos he, he]
    obtain ⟨h1, _, _⟩ := wbE_zero he
    obtain ⟨a, rfl⟩ : ∃ a : Nat, at_ = a := ⟨at_.toNat, by omega⟩
    rw [Int.toNat_natCast]
    exact word_good p q N cap a B w h.c0 h.small h.hcap h.lt h.b he
  · rw [if_neg he]
    exact word_bad p q N cap at_ _ w h.c0 h.small rfl he
end Go.Proofs.Yticoojcmlkdeiaa.An
