/- Merged texts: AA AB AC AD AL AN. -/
import Derived.Test.YtgnfcklippjeeaaGreatK1
import Derived.LoopTactic
import Derived.Laws.Bits64b
import Derived.Laws.BitsAllLaws
import Derived.Deep.DeepCutAuto
import Derived.OwnWalk
import Derived.Laws.IdiomCopy
import Derived.IntWalk
import Derived.Deep.QuietTactic
import Derived.BigQuiet
/- The walks of what reads an arena: Len, bounds, wordBounds, num.Get, Word. -/
namespace Go.Proofs.YtgnfcklippjeeaaGreat.An
open Go.RowKit

theorem vint {a b : Int} (h : a = b) : Value.int .i64 a = .int .i64 b := by rw [h]

/-- n bytes at block q. -/
structure BytesAt (w : World) (q n : Nat) (B : Nat → Nat) : Prop where
  c : ∀ i, i < n → w.cell? ⟨q, i, none⟩ = some (.int .u8 (B i : Nat))
  fz : ∀ k, w.frozen? ⟨q, k, none⟩ = false
  qlt : q < w.heap.size
theorem BytesAt.grown {w w' : World} {q n : Nat} {B : Nat → Nat} {r : Option Nat} (h : BytesAt w q n B) (hg : w.grownBy w' r) (hr : some q ≠ r) : BytesAt w' q n B where
  c := fun i hi => hg.cell (h.c i hi) hr
  fz := fun k => by rw [World.frozen?_of_block (w := w) (hg.block q h.qlt hr)]; exact h.fz k
  qlt := Nat.lt_of_lt_of_le h.qlt hg.size
theorem BytesAt.drew {w : World} {q n : Nat} {B : Nat → Nat} (h : BytesAt w q n B) : BytesAt w.drew q n B := ⟨h.c, h.fz, h.qlt⟩

/-- An arena: the object at block p, its bytes at block q, the Do that is under way. -/
structure ArAt (w : World) (p q n cap : Nat) (B : Nat → Nat) (wk : Option Addr) : Prop where
  c0 : w.cell? ⟨p, 0, none⟩ = some (.slice (some ⟨q, 0, none⟩) n cap)
  c1 : w.cell? ⟨p, 1, none⟩ = some (.pointer wk)
  fz : ∀ k, w.frozen? ⟨p, k, none⟩ = false
  b : BytesAt w q n B
  ne : p ≠ q
  hcap : n ≤ cap
  small : n ≤ 65536
  page : n % 256 = 0
  lt : ∀ i, B i < 256
theorem ArAt.plt {w : World} {p q n cap : Nat} {B : Nat → Nat} {wk : Option Addr} (h : ArAt w p q n cap B wk) : p < w.heap.size := World.block_lt_of_cell? w ⟨p, 0, none⟩ h.c0
theorem ArAt.grown {w w' : World} {p q n cap : Nat} {B : Nat → Nat} {wk : Option Addr} {r : Option Nat} (h : ArAt w p q n cap B wk) (hg : w.grownBy w' r) (hp : some p ≠ r) (hq : some q ≠ r) : ArAt w' p q n cap B wk where
  c0 := hg.cell h.c0 hp
  c1 := hg.cell h.c1 hp
  fz := fun k => by rw [World.frozen?_of_block (w := w) (hg.block p h.plt hp)]; exact h.fz k
  b := h.b.grown hg hq
  ne := h.ne
  hcap := h.hcap
  small := h.small
  page := h.page
  lt := h.lt

set_option maxHeartbeats 400000 in
theorem alen_nil (w : World) :
    Calls Tryz.prog 24 #[.pointer none] w fun e w' => e = .returned (.int .i64 0) ∧ w = w' := by
  go_enter Tryz.func24, Tryz.ntmps24
  go_wp2
  go_ret
  exact ⟨rfl, rfl⟩
set_option maxHeartbeats 400000 in
theorem alen_core (p q n cap : Nat) (w : World) (h0 : w.cell? ⟨p, 0, none⟩ = some (.slice (some ⟨q, 0, none⟩) n cap)) :
    Calls Tryz.prog 24 #[.pointer (some ⟨p, 0, none⟩)] w fun e w' => e = .returned (.int .i64 n) ∧ w = w' := by
  go_enter Tryz.func24, Tryz.ntmps24
  go_wp2
  go_ret
  exact ⟨rfl, rfl⟩

set_option maxHeartbeats 400000 in
theorem bounds_nil (at_ n : Int) (w : World) :
    Calls Tryz.prog 61 #[.pointer none, .int .i64 at_, .int .i64 n] w fun e w' => e = .returned (.int .i64 2) ∧ w = w' := by
  go_enter Tryz.func61, Tryz.ntmps61
  go_wp2
  go_ret
  exact ⟨rfl, rfl⟩
/-- Are there such bytes? -/
def inB (N : Nat) (at_ n : Int) : Bool := decide (0 ≤ at_) && (decide (0 ≤ n) && decide (at_ + n ≤ N))
theorem inB_iff (N : Nat) (at_ n : Int) : inB N at_ n = true ↔ 0 ≤ at_ ∧ 0 ≤ n ∧ at_ + n ≤ N := by simp [inB]

set_option maxHeartbeats 800000 in
theorem bounds_at (p q N cap : Nat) (at_ n : Int) (w : World) (h0 : w.cell? ⟨p, 0, none⟩ = some (.slice (some ⟨q, 0, none⟩) N cap)) (hN : N ≤ 65536) (hn : n ≤ 9223372036854775807) :
    Calls Tryz.prog 61 #[.pointer (some ⟨p, 0, none⟩), .int .i64 at_, .int .i64 n] w fun e w' => e = .returned (.int .i64 (if inB N at_ n = true then 0 else 3)) ∧ w = w' := by
  by_cases h1 : at_ < 0
  · have hb : inB N at_ n = false := by cases h : inB N at_ n with | false => rfl | true => have := (inB_iff _ _ _).1 h; omega
    rw [hb]
    have h1' : decide (at_ < 0) = true := by simpa using h1
    clear hb
    go_enter Tryz.func61, Tryz.ntmps61
    go_wp2
    go_ret
    exact ⟨rfl, rfl⟩
  · have h1' : decide (at_ < 0) = false := by simpa using h1
    by_cases h2 : n < 0
    · have hb : inB N at_ n = false := by cases h : inB N at_ n with | false => rfl | true => have := (inB_iff _ _ _).1 h; omega
      rw [hb]
      have h2' : decide (n < 0) = true := by simpa using h2
      clear hb
      go_enter Tryz.func61, Tryz.ntmps61
      go_wp2
      go_ret
      exact ⟨rfl, rfl⟩
    · have h2' : decide (n < 0) = false := by simpa using h2
      have b1 : -9223372036854775808 ≤ (N : Int) - n := by omega
      have b2 : (N : Int) - n ≤ 9223372036854775807 := by omega
      by_cases h3 : (N : Int) - n < at_
      · have hb : inB N at_ n = false := by cases h : inB N at_ n with | false => rfl | true => have := (inB_iff _ _ _).1 h; omega
        rw [hb]
        have h3' : decide ((N : Int) - n < at_) = true := by simpa using h3
        clear hb
        go_enter Tryz.func61, Tryz.ntmps61
        go_wp2
        go_ret
        exact ⟨rfl, rfl⟩
      · have hb : inB N at_ n = true := (inB_iff _ _ _).2 (by omega)
        rw [hb]
        have h3' : decide ((N : Int) - n < at_) = false := by simpa using h3
        clear hb
        go_enter Tryz.func61, Tryz.ntmps61
        go_wp2
        go_ret
        exact ⟨rfl, rfl⟩

/-- What is wrong with the word at a place. -/
def wbE (N : Nat) (at_ : Int) : Int := if inB N at_ 8 = true then (if at_ % 8 = 0 then 0 else 1) else 3
set_option maxHeartbeats 800000 in
theorem wbounds_nil (at_ : Int) (w : World) :
    Calls Tryz.prog 180 #[.pointer none, .int .i64 at_] w fun e w' => e = .returned (.int .i64 2) ∧ w = w' := by
  go_enter Tryz.func180, Tryz.ntmps180
  go_wp2_with (go_at_call 61; refine (bounds_nil at_ 8 _).mono ?_; rintro e w' ⟨rfl, rfl⟩)
  go_ret
  exact ⟨rfl, rfl⟩
set_option maxHeartbeats 800000 in
theorem wbounds_at (p q N cap : Nat) (at_ : Int) (w : World) (h0 : w.cell? ⟨p, 0, none⟩ = some (.slice (some ⟨q, 0, none⟩) N cap)) (hN : N ≤ 65536) :
    Calls Tryz.prog 180 #[.pointer (some ⟨p, 0, none⟩), .int .i64 at_] w fun e w' => e = .returned (.int .i64 (wbE N at_)) ∧ w = w' := by
  have HC := bounds_at p q N cap at_ 8 w h0 hN (by omega)
  unfold wbE
  by_cases hb : inB N at_ 8 = true
  · rw [if_pos hb] at HC ⊢
    have HC := Lib.hid HC
    obtain ⟨b1, _, b3⟩ := (inB_iff _ _ _).1 hb
    clear hb
    by_cases hm : at_ % 8 = 0
    · rw [if_pos hm]
      have hm' : (at_ % 8 != 0) = false := by simpa using hm
      have HMM := Lib.hid hm
      clear hm
      go_enter Tryz.func180, Tryz.ntmps180
      go_wp2_with (go_at_call 61; refine HC.out.mono ?_; rintro e w' ⟨rfl, rfl⟩)
      go_ret
      exact ⟨rfl, rfl⟩
    · rw [if_neg hm]
      have hm' : (at_ % 8 != 0) = true := by simpa using hm
      have HMM := Lib.hid hm
      clear hm
      go_enter Tryz.func180, Tryz.ntmps180
      go_wp2_with (go_at_call 61; refine HC.out.mono ?_; rintro e w' ⟨rfl, rfl⟩)
      go_ret
      exact ⟨rfl, rfl⟩
  · rw [if_neg hb] at HC ⊢
    have HC := Lib.hid HC
    clear hb
    go_enter Tryz.func180, Tryz.ntmps180
    go_wp2_with (go_at_call 61; refine HC.out.mono ?_; rintro e w' ⟨rfl, rfl⟩)
    go_ret
    exact ⟨rfl, rfl⟩

theorem or_c (x c : Nat) (X C : Int) (hx : x < 18446744073709551616) (hc : c < 18446744073709551616) (h1 : X = x) (h2 : C = c) : bits .or .u64 X C = ((x ||| c : Nat) : Int) := by
  rw [h1, h2]; exact u64_or_nat x c hx hc
theorem get_step (B : Nat → Nat) (h : ∀ i, B i < 256) (k : Nat) (hk : k < 8) : bits BinOp.or IntKind.u64 ((Ar.wsum B k : Nat) : Int) (IntKind.u64.wrap (((B k : Nat) : Int) * 2 ^ (8 * k))) = ((Ar.wsum B (k + 1) : Nat) : Int) := by
  have h1 := Ar.wsum_lt h k
  have h2 := Ar.pow_le k (by omega)
  have h3 := Ar.wsum_lt h (k + 1)
  have h4 := Ar.pow_le (k + 1) (by omega)
  have h5 : B k * 256 ^ k < 18446744073709551616 := by simp only [Ar.wsum] at h3; omega
  have e1 : (((B k : Nat) : Int) * 2 ^ (8 * k)) = ((B k * 256 ^ k : Nat) : Int) := by
    rw [← Ar.two_pow]; simp
  have e2 : IntKind.u64.wrap (((B k : Nat) : Int) * 2 ^ (8 * k)) = ((B k * 256 ^ k : Nat) : Int) := by
    rw [e1, IntKind.wrap_u64]; omega
  rw [or_c _ _ _ _ (by omega) h5 rfl e2, Ar.or_add B h k]
theorem vu64 {a b : Int} (h : a = b) : Value.int .u64 a = .int .u64 b := by rw [h]

set_option maxRecDepth 100000 in
set_option maxHeartbeats 1000000 in
theorem get_at (q o cap : Nat) (B : Nat → Nat) (w : World) (hB : ∀ i, B i < 256) (hc : ∀ i, i < 8 → w.cell? ⟨q, o + i, none⟩ = some (.int .u8 (B i : Nat))) :
    Calls Tryz.prog 187 #[.slice (some ⟨q, o, none⟩) 8 cap] w fun e w' => e = .returned (.int .u64 (Ar.wsum B 8 : Nat)) ∧ w = w' := by
  have HB := Lib.hid hB
  have HC := Lib.hid hc
  clear hB hc
  go_enter Tryz.func187, Tryz.ntmps187
  go_wp2_with fail
  go_loop [3, 8] (fun v i => ∃ k : Nat, k ≤ 8 ∧ i = .int .i64 k ∧ v = .int .u64 (Ar.wsum B k : Nat)) (fun _ i => 8 - (intOf i).toNat)
  case atStart => exact ⟨0, by omega, rfl, rfl⟩
  case round =>
    obtain ⟨k, hk, rfl, rfl⟩ := hrel
    by_cases hlt : k < 8
    · have d0 := HC.out k hlt
      have hb := HB.out k
      have HS := Lib.hid (get_step B HB.out k hlt)
      go_wp2
      go_round
      case rel => exact ⟨k + 1, by omega, by go_num, vu64 HS.out⟩
      case measure => simp [intOf]; omega
    · obtain rfl : k = 8 := by omega
      go_wp2
      go_ret
      exact ⟨rfl, rfl⟩

set_option maxHeartbeats 800000 in
theorem word_nil (at_ : Int) (w : World) :
    Calls Tryz.prog 174 #[.pointer none, .int .i64 at_] w fun e w' => e = .returned (.tuple #[.int .u64 0, .int .i64 2]) ∧ w = w' := by
  go_enter Tryz.func174, Tryz.ntmps174
  go_wp2_with (go_at_call 180; refine (wbounds_nil at_ _).mono ?_; rintro e w' ⟨rfl, rfl⟩)
  go_ret2
  exact ⟨rfl, rfl⟩
/-- The word at a place; 0, if it may not be asked for. -/
def wordV (B : Nat → Nat) (N : Nat) (at_ : Int) : Nat := if wbE N at_ = 0 then Ar.wordAt B at_.toNat else 0
theorem wbE_zero {N : Nat} {at_ : Int} (h : wbE N at_ = 0) : 0 ≤ at_ ∧ at_ + 8 ≤ N ∧ at_ % 8 = 0 := by
  unfold wbE at h
  split at h
  · rename_i hb
    obtain ⟨h1, _, h3⟩ := (inB_iff _ _ _).1 hb
    split at h
    · exact ⟨h1, h3, by assumption⟩
    · omega
  · omega
theorem wbE_val (N : Nat) (at_ : Int) : wbE N at_ = 0 ∨ wbE N at_ = 1 ∨ wbE N at_ = 3 := by
  unfold wbE
  split
  · split
    · exact .inl rfl
    · exact .inr (.inl rfl)
  · exact .inr (.inr rfl)

set_option maxHeartbeats 1000000 in
theorem word_bad (p q N cap : Nat) (at_ er : Int) (w : World) (h0 : w.cell? ⟨p, 0, none⟩ = some (.slice (some ⟨q, 0, none⟩) N cap)) (hN : N ≤ 65536) (he : wbE N at_ = er) (hz : er ≠ 0) :
    Calls Tryz.prog 174 #[.pointer (some ⟨p, 0, none⟩), .int .i64 at_] w fun e w' => e = .returned (.tuple #[.int .u64 0, .int .i64 er]) ∧ w = w' := by
  have HC := wbounds_at p q N cap at_ w h0 hN
  rw [he] at HC
  have HC := Lib.hid HC
  have hz' : (er != 0) = true := by simpa using hz
  clear he hz
  go_enter Tryz.func174, Tryz.ntmps174
  go_wp2_with (go_at_call 180; refine HC.out.mono ?_; rintro e w' ⟨rfl, rfl⟩)
  go_ret2
  exact ⟨rfl, rfl⟩
set_option maxHeartbeats 1000000 in
theorem word_good (p q N cap at_ : Nat) (B : Nat → Nat) (w : World) (h0 : w.cell? ⟨p, 0, none⟩ = some (.slice (some ⟨q, 0, none⟩) N cap)) (hN : N ≤ 65536) (hcap : N ≤ cap) (hB : ∀ i, B i < 256) (hb : BytesAt w q N B) (he : wbE N at_ = 0) :
    Calls Tryz.prog 174 #[.pointer (some ⟨p, 0, none⟩), .int .i64 at_] w fun e w' => e = .returned (.tuple #[.int .u64 (Ar.wordAt B at_ : Nat), .int .i64 0]) ∧ w = w' := by
  have HC := wbounds_at p q N cap at_ w h0 hN
  rw [he] at HC
  have HC := Lib.hid HC
  obtain ⟨_, h8, _⟩ := wbE_zero he
  have h8' : at_ + 8 ≤ N := by omega
  have HG := Lib.hid (get_at q at_ (cap - at_) (fun i => B (at_ + i)) w (fun i => hB _) (fun i hi => hb.c _ (by omega)))
  have q1 : at_ + 8 - at_ = 8 := by omega
  have hc1 : ¬ cap = at_ := by omega
  have hc2 : (at_ : Int) + 8 ≤ cap := by omega
  have hat : at_ ≤ 65536 := by omega
  clear he hB hb
  go_enter Tryz.func174, Tryz.ntmps174
  go_wp2_with (first
    | (go_at_call 180; refine HC.out.mono ?_; rintro e w' ⟨rfl, rfl⟩)
    | (go_at_call 187; refine HG.out.mono ?_; rintro e w' ⟨rfl, rfl⟩))
  go_ret2
  exact ⟨rfl, rfl⟩
/-- Word, of an arena. -/
theorem word_at {w : World} {p q N cap : Nat} {B : Nat → Nat} {wk : Option Addr} (h : ArAt w p q N cap B wk) (at_ : Int) :
    Calls Tryz.prog 174 #[.pointer (some ⟨p, 0, none⟩), .int .i64 at_] w fun e w' => e = .returned (.tuple #[.int .u64 (wordV B N at_ : Nat), .int .i64 (wbE N at_)]) ∧ w = w' := by
  unfold wordV
  by_cases he : wbE N at_ = 0
  · rw [if_pos he, he]
    obtain ⟨h1, _, _⟩ := wbE_zero he
    obtain ⟨a, rfl⟩ : ∃ a : Nat, at_ = a := ⟨at_.toNat, by omega⟩
    rw [Int.toNat_natCast]
    exact word_good p q N cap a B w h.c0 h.small h.hcap h.lt h.b he
  · rw [if_neg he]
    exact word_bad p q N cap at_ _ w h.c0 h.small rfl he
end Go.Proofs.YtgnfcklippjeeaaGreat.An

/- The walks of what makes bytes: bytes.Clone, num.Put, New; copying bytes; what is written outside of a Do. -/
namespace Go.Proofs.YtgnfcklippjeeaaGreat.An
open Go.RowKit

theorem aaddr_add (q j : Nat) : (⟨q, 0, none⟩ : Addr).add j = ⟨q, j, none⟩ := by
  by_cases h : j = 0
  · subst h; rfl
  · simp [Addr.add, h]
theorem aaddr_plus (b o i : Nat) : (⟨b, o, none⟩ : Addr).add i = ⟨b, o + i, none⟩ := by
  by_cases h : i = 0
  · subst h; rfl
  · simp [Addr.add, h]
theorem agrown_set (w : World) (b i : Nat) (v : Value) : w.grownBy (w.setCell ⟨b, i, none⟩ v) (some b) :=
  ⟨rfl, rfl, rfl, by simp [World.setCell], fun j _ hj => Below.heap_setCell w ⟨b, i, none⟩ v j (fun e => hj (by rw [e]))⟩
theorem agrown_setCells (q : Nat) : ∀ (vs : List Value) (o : Nat) (w : World), w.grownBy (w.setCells q o vs) (some q)
  | [], _, w => grown_refl w _
  | v :: r, o, w => grown_trans (agrown_set w q o v) (agrown_setCells q r (o + 1) _)

/-- Bytes as values. -/
def bvals (B : Nat → Nat) (n : Nat) : List Value := (List.range n).map fun i => Value.int .u8 (B i : Nat)
theorem bvals_length (B : Nat → Nat) (n : Nat) : (bvals B n).length = n := by simp [bvals]
theorem bvals_at (B : Nat → Nat) (n i : Nat) (h : i < n) : (bvals B n)[i]? = some (.int .u8 (B i : Nat)) := by simp [bvals, h]
theorem bvals_one (B : Nat → Nat) (n : Nat) : ∀ u ∈ bvals B n, u.oneCell' = true := by
  intro u hu
  obtain ⟨i, _, rfl⟩ := List.mem_map.1 hu
  rfl

/-- Bytes of the call's own. -/
def BytesNew (w w' : World) (n : Nat) (B : Nat → Nat) (e : Ending) : Prop :=
  ∃ q cap, e = .returned (.slice (some ⟨q, 0, none⟩) n cap) ∧ n ≤ cap ∧ w.heap.size ≤ q ∧ BytesAt w' q n B ∧ w.grownBy w' none

theorem infoByte : (Tryz.prog.info? 5).map (fun i => (i.zero, i.size, i.bytes)) = some (some (.int .u8 0), 1, 1) := by kernel_rfl

theorem bytes_end (w w' : World) (n : Nat) (B : Nat → Nat) (v : Value) (hown : w'.ownsRow w.heap.size 5 1 v n (bvals B n)) (hg : w.grownBy w' none) (hv : v ≠ .slice none 0 0) : BytesNew w w' n B (.returned v) := by
  obtain ⟨-, hn | ⟨g, cap, cur, rfl, hbg, hh, hnc, hcm, hcs, htake⟩⟩ := hown
  · exact absurd hn.1 hv
  · refine ⟨g, cap, rfl, hnc, hbg, ⟨fun i hi => ?_, fun k => ?_, (Array.getElem?_eq_some_iff.1 hh).1⟩, hg⟩
    · have e : w'.cell? ⟨g, i, none⟩ = cur[i]? := by simp only [World.cell?, hh]; rfl
      have t := congrArg (fun l => l[i]?) htake
      simp only [List.getElem?_take, Nat.mul_one, hi, if_true, Array.getElem?_toList] at t
      rw [e, t, bvals_at B n i hi]
    · simp only [World.frozen?, hh]
      simp

set_option maxHeartbeats 800000 in
theorem bclone_at (q o n cap : Nat) (B : Nat → Nat) (w : World) (hn : n ≤ 65536) (hc : ∀ i, i < n → w.cell? ⟨q, o + i, none⟩ = some (.int .u8 (B i : Nat))) :
    Calls Tryz.prog 170 #[.slice (some ⟨q, o, none⟩) n cap] w fun e w' => BytesNew w w' n B e := by
  have HR := Lib.hid hc
  clear hc
  obtain ⟨i0, hi, hz0, hz1, hz2⟩ := info_parts infoByte
  have hnil := fun (w : World) => Lib.run_eql_slice_nil (P := Tryz.prog) w 24 5 (some ⟨q, o, none⟩) n cap 0 0 Tryz.underlying24
  go_enter Tryz.func170, Tryz.ntmps170
  go_wp2_with (at_builtin; refine wpList_append_own _ rfl _ _ 24 rfl w.heap.size 5 i0 (.int .u8 0) 1 1 Tryz.underlying24 hi hz0 hz1 hz2 rfl (by decide) _ _ _ rfl (World.ownsRow_made w #[] 0 (Nat.le_refl _) (Nat.zero_le _) rfl) ⟨q, o, none⟩ n cap (bvals B n) rfl ?c1 ?c2 ?c3 ?c4 ?c5 ?c6 ?_)
  case c1 => rw [bvals_length]; omega
  case c2 =>
    intro j u hj
    have hj' : j < n := by
      have := (List.getElem?_eq_some_iff.1 hj).1
      rwa [bvals_length] at this
    rw [bvals_at B n j hj'] at hj
    rw [aaddr_plus]
    have h2 := (grown_alloc w (.cells #[] 5) none).cell (HR.out j hj') (by simp)
    rw [← hj]
    exact h2
  case c3 => exact bvals_one B n
  case c4 => simp only [maxLen]; omega
  case c5 => omega
  case c6 => simp
  intro v' w1 hown hgrow hiff
  have hv : v' ≠ .slice none 0 0 := fun e => hiff e
  have HE := Lib.hid (bytes_end w w1 n B v' (by simpa using hown) (grown_own (grown_alloc w _ none) hgrow (Nat.le_refl _)) hv)
  clear hown hgrow hiff hv
  go_wp2
  go_ret
  exact HE.out

/-- n noughts. -/
def zeroBytes (n : Nat) : Array Value := madeCells (Value.int .u8 0).cells n
theorem zeroBytes_at (n k : Nat) (h : k < n) : (zeroBytes n)[k]? = some (.int .u8 0) := by
  simp [zeroBytes, madeCells, Value.cells, h, Nat.mod_one]
theorem bytes_new (w : World) (t : TypeId) (n : Nat) : BytesAt (w.alloc (.cells (zeroBytes n) t)) w.heap.size n (fun _ => 0) where
  c := fun i hi => by rw [cell_alloc_new]; exact zeroBytes_at n _ hi
  fz := fun k => frozen_alloc_new ..
  qlt := by simp
theorem make_bytes (w : World) (n : Nat) (hn : n ≤ 65536) : (Instr.makeSlice 24 (.int .i64 (n : Int)) (.int .i64 (n : Int))).run Tryz.prog w =
    .ok (.slice (some ⟨w.heap.size, 0, none⟩) n n) (w.alloc (.cells (zeroBytes n) 5)) := by
  obtain ⟨i0, hi, hz0, hz1, hz2⟩ := info_parts infoByte
  have h := run_make (P := Tryz.prog) w 24 5 i0 (.int .u8 0) Tryz.underlying24 hi hz0 .i64 .i64 n n (by omega) (Int.le_refl _) (by rw [hz2]; omega) (by omega)
  rw [hz1, Nat.mul_one, Int.toNat_natCast] at h
  exact h

/-- Copying bytes into bytes. -/
theorem copy_run {w : World} {q N : Nat} {B : Nat → Nat} (hb : BytesAt w q N B) (o n dcap : Nat) (hon : 0 < n → o + n ≤ N) (S : Nat → Nat) (A : Option Addr) (scap : Nat)
    (hs : n = 0 ∨ ∃ b off, A = some ⟨b, off, none⟩ ∧ ∀ i, i < n → w.cell? ⟨b, off + i, none⟩ = some (.int .u8 (S i : Nat))) :
    ∃ w', (∀ ty, (Builtin.copy_ #[24, 24] ty #[.slice (some ⟨q, o, none⟩) n dcap, .slice A n scap]).run Tryz.prog w = .ok (goInt n) w') ∧ BytesAt w' q N (Ar.setB B o n S) ∧ w.grownBy w' (some q) := by
  have hsz : (Tryz.prog.info? 5).map (·.size) = some 1 := by kernel_rfl
  rcases Nat.eq_zero_or_pos n with h0 | h0
  · subst h0
    refine ⟨w, fun ty => run_copy_none w _ _ ty 5 _ _ _ _ _ _ Tryz.underlying24 hsz rfl, ?_, grown_refl _ _⟩
    have e : Ar.setB B o 0 S = B := by funext i; unfold Ar.setB; rw [if_neg (by omega)]
    rw [e]
    exact hb
  · rcases hs with hs | ⟨b, off, rfl, hs⟩
    · omega
    · have hin := hon h0
      have hrun := fun ty => run_copy_cells (P := Tryz.prog) w 24 24 ty 5 q o n dcap ⟨b, off, none⟩ n scap (bvals S n) Tryz.underlying24 hsz (by rw [bvals_length]; simp)
        (fun j v hv => by
          have hj : j < n := by
            have := (List.getElem?_eq_some_iff.1 hv).1
            rwa [bvals_length] at this
          rw [bvals_at S n j hj] at hv
          rw [aaddr_plus, hs j hj, hv])
        (fun j hj => by rw [bvals_length] at hj; rw [hb.c _ (by omega)]; rfl) (fun j _ => hb.fz _) (bvals_one S n)
      rw [bvals_length] at hrun
      refine ⟨_, hrun, ⟨fun i hi => ?_, fun k => by rw [World.frozen?_setCells]; exact hb.fz k, Nat.lt_of_lt_of_le hb.qlt (agrown_setCells q _ _ _).size⟩, agrown_setCells q _ _ _⟩
      unfold Ar.setB
      by_cases hio : o ≤ i ∧ i < o + n
      · rw [if_pos hio]
        have := World.cell?_setCells_in q (bvals S n) o w (fun j hj => by rw [bvals_length] at hj; rw [hb.c _ (by omega)]; rfl) (i - o) (by rw [bvals_length]; omega)
        rw [show o + (i - o) = i by omega] at this
        rw [this]
        have e2 := bvals_at S n (i - o) (by omega)
        rw [List.getElem?_eq_getElem (by rw [bvals_length]; omega)] at e2
        exact e2
      · rw [if_neg hio, World.cell?_setCells_out q _ _ _ _ (fun _ _ => by rw [bvals_length]; simp only; omega)]
        exact hb.c i hi

theorem byt_conv (v k : Nat) : ((v : Int) / 2 ^ (8 * k)) % 256 = ((Ar.byt v k : Nat) : Int) := by
  have e : ((v : Int) / 2 ^ (8 * k)) = ((v / 256 ^ k : Nat) : Int) := by rw [← Ar.two_pow]; simp
  rw [e]
  unfold Ar.byt
  omega
theorem vu8 {a b : Int} (h : a = b) : Value.int .u8 a = .int .u8 b := by rw [h]

set_option maxRecDepth 100000 in
set_option maxHeartbeats 1000000 in
theorem put_at (v : Nat) (w : World) :
    Calls Tryz.prog 181 #[.int .i64 8, .int .u64 v] w fun e w' => BytesNew w w' 8 (Ar.byt v) e := by
  have hmk : (Instr.makeSlice 24 (.int .i64 8) (.int .i64 8)).run Tryz.prog w = .ok (.slice (some ⟨w.heap.size, 0, none⟩) 8 8) (w.alloc (.cells (zeroBytes 8) 5)) := make_bytes w 8 (by omega)
  have HN := Lib.hid (bytes_new w 5 8)
  generalize zeroBytes 8 = z at *
  go_enter Tryz.func181, Tryz.ntmps181
  go_upto_region 3 with (fail)
  go_cut [5] (fun s wx => s = .slice (some ⟨w.heap.size, 0, none⟩) 8 8 ∧ BytesAt wx w.heap.size 8 (fun _ => 0) ∧ w.grownBy wx none)
  case first =>
    go_wp2
    go_meet
    exact ⟨rfl, HN.out, grown_alloc _ _ _⟩
  case rest =>
    obtain ⟨rfl, hb, hg⟩ := hcut
    have HB := Lib.hid hb
    have HG := Lib.hid hg
    clear hb hg hmk HN
    obtain ⟨q, hq⟩ : ∃ q, q = w.heap.size := ⟨_, rfl⟩
    rw [← hq] at HB ⊢
    have HQ := Lib.hid hq
    clear hq
    go_wp2_with fail
    go_loopw [16] (fun i wr => ∃ k : Nat, k ≤ 8 ∧ i = .int .i64 k ∧ BytesAt wr q 8 (fun i => if i < k then Ar.byt v i else 0) ∧ wc.grownBy wr (some q)) (fun i _ => 8 - (intOf i).toNat)
    case atStart => exact ⟨0, by omega, rfl, by simpa using HB.out, grown_refl _ _⟩
    case round =>
      clear HB
      obtain ⟨k, hk, rfl, hb, hgr⟩ := hrel
      have HB := Lib.hid hb
      have HGR := Lib.hid hgr
      clear hb hgr
      by_cases hlt : k < 8
      · have d0 := HB.out.c k hlt
        have z0 := HB.out.fz
        have HC := Lib.hid (byt_conv v k)
        go_wp2
        go_roundw
        case rel =>
          refine ⟨k + 1, by omega, by go_num, ⟨fun i hi => ?_, fun j => by rw [World.frozen?_setCell]; exact HB.out.fz j, by have := HB.out.qlt; simpa [World.setCell] using this⟩, grown_trans HGR.out (agrown_set _ _ _ _)⟩
          by_cases e : i = k
          · subst e
            rw [World.cell?_setCell_same' _ _ _ (by rw [HB.out.c i hi]; rfl), HC.out, if_pos (by omega)]
          · rw [World.cell?_setCell_other _ _ _ _ (fun x => e (congrArg Addr.off x).symm), HB.out.c i hi]
            by_cases e2 : i < k
            · rw [if_pos e2, if_pos (by omega)]
            · rw [if_neg e2, if_neg (by omega)]
        case measure => simp [intOf]; omega
      · obtain rfl : k = 8 := by omega
        go_wp2
        go_ret
        refine ⟨q, 8, rfl, Nat.le_refl _, by rw [HQ.out]; exact Nat.le_refl _, ⟨fun i hi => by rw [HB.out.c i hi, if_pos hi], HB.out.fz, HB.out.qlt⟩, grown_own HG.out HGR.out (by rw [HQ.out]; exact Nat.le_refl _)⟩
end Go.Proofs.YtgnfcklippjeeaaGreat.An

/- The walks of an arena outside of a Do: New, Load, Copy, Store, Fill, SetWord. -/
namespace Go.Proofs.YtgnfcklippjeeaaGreat.An
open Go.RowKit

/-- A new arena of the call's own. -/
def AMade (w w' : World) (n : Nat) (B : Nat → Nat) (e : Ending) : Prop :=
  ∃ p q cap, e = .returned (.pointer (some ⟨p, 0, none⟩)) ∧ ArAt w' p q n cap B none ∧ w.heap.size ≤ p ∧ w.heap.size ≤ q ∧ w.grownBy w' none

theorem amade_end (w w1 : World) (q n cap : Nat) (B : Nat → Nat) (hb : BytesAt w1 q n B) (hq : w.heap.size ≤ q) (hg : w.grownBy w1 none) (hcap : n ≤ cap) (hn : n ≤ 65536) (hp : n % 256 = 0) (hB : ∀ i, B i < 256) :
    AMade w (w1.alloc (.cells #[.slice (some ⟨q, 0, none⟩) n cap, .pointer none] 126)) n B (.returned (.pointer (some ⟨w1.heap.size, 0, none⟩))) := by
  have g := grown_alloc w1 (.cells #[.slice (some ⟨q, 0, none⟩) n cap, .pointer none] 126) none
  refine ⟨w1.heap.size, q, cap, rfl, ⟨?_, ?_, fun k => frozen_alloc_new .., hb.grown g (by simp), by have := hb.qlt; omega, hcap, hn, hp, hB⟩, hg.size, hq, grown_trans hg g⟩
  · rw [cell_alloc_new]; rfl
  · rw [cell_alloc_new]; rfl

theorem clampA_is (n : Int) : ∃ k : Nat, k ≤ 256 ∧ ((n < 0 ∧ k = 0) ∨ (0 ≤ n ∧ n ≤ 256 ∧ (k : Int) = n) ∨ (256 < n ∧ k = 256)) := by
  by_cases h : n < 0
  · exact ⟨0, by omega, .inl ⟨h, rfl⟩⟩
  · by_cases h2 : n ≤ 256
    · exact ⟨n.toNat, by omega, .inr (.inl ⟨by omega, h2, by omega⟩)⟩
    · exact ⟨256, by omega, .inr (.inr ⟨by omega, rfl⟩)⟩
set_option maxHeartbeats 800000 in
theorem anew_at (n : Int) (N : Nat) (w : World) (hN : N ≤ 256) (h : (n < 0 ∧ N = 0) ∨ (0 ≤ n ∧ n ≤ 256 ∧ (N : Int) = n) ∨ (256 < n ∧ N = 256)) :
    Calls Tryz.prog 74 #[.int .i64 n] w fun e w' => AMade w w' (N * 256) (fun _ => 0) e := by
  have H := Lib.hid h
  have hmk := make_bytes w (N * 256) (by omega)
  rw [show ((N * 256 : Nat) : Int) = (N : Int) * 256 by omega] at hmk
  have HM := amade_end w _ _ (N * 256) (N * 256) _ (bytes_new w 5 (N * 256)) (Nat.le_refl _) (grown_alloc _ _ _) (Nat.le_refl _) (by omega) (by omega) (fun _ => by omega)
  rw [show (w.alloc (.cells (zeroBytes (N * 256)) 5)).heap.size = w.heap.size + 1 by simp] at HM
  have HM := Lib.hid HM
  clear h
  generalize zeroBytes (N * 256) = z at *
  go_enter Tryz.func74, Tryz.ntmps74
  go_upto_region 1 with (fail)
  go_cut [0] (fun s wx => s = .int .i64 N ∧ wx = w)
  case first =>
    by_cases h0 : n < 0
    · go_wp2
      go_meet
      exact ⟨vint (by have := H.out; omega), rfl⟩
    · by_cases h1 : n ≤ 256
      · have h0' : 0 ≤ n := by omega
        go_wp2
        go_meet
        exact ⟨vint (by have := H.out; omega), rfl⟩
      · have h0' : 0 ≤ n := by omega
        go_wp2
        go_meet
        exact ⟨vint (by have := H.out; omega), rfl⟩
  case rest =>
    obtain ⟨rfl, rfl⟩ := hcut
    have hN2 : (N : Int) ≤ 256 := by omega
    go_wp2
    go_ret
    exact HM.out

set_option maxHeartbeats 800000 in
theorem aload_nil (at_ n : Int) (w : World) :
    Calls Tryz.prog 175 #[.pointer none, .int .i64 at_, .int .i64 n] w fun e w' => e = .returned (.tuple #[.slice none 0 0, .int .i64 2]) ∧ w = w' := by
  go_enter Tryz.func175, Tryz.ntmps175
  go_wp2_with (go_at_call 61; refine (bounds_nil at_ n _).mono ?_; rintro e w' ⟨rfl, rfl⟩)
  go_ret2
  exact ⟨rfl, rfl⟩
set_option maxHeartbeats 800000 in
theorem aload_bad (p q N cap : Nat) (at_ n : Int) (w : World) (h0 : w.cell? ⟨p, 0, none⟩ = some (.slice (some ⟨q, 0, none⟩) N cap)) (hN : N ≤ 65536) (hn : n ≤ 9223372036854775807) (hb : inB N at_ n = false) :
    Calls Tryz.prog 175 #[.pointer (some ⟨p, 0, none⟩), .int .i64 at_, .int .i64 n] w fun e w' => e = .returned (.tuple #[.slice none 0 0, .int .i64 3]) ∧ w = w' := by
  have HC := bounds_at p q N cap at_ n w h0 hN hn
  rw [hb] at HC
  have HC := Lib.hid HC
  clear hb hn
  go_enter Tryz.func175, Tryz.ntmps175
  go_wp2_with (go_at_call 61; refine HC.out.mono ?_; rintro e w' ⟨rfl, rfl⟩)
  go_ret2
  exact ⟨rfl, rfl⟩
/-- Bytes of the call's own, and no error. -/
def LoadRes (w w' : World) (n : Nat) (B : Nat → Nat) (e : Ending) : Prop :=
  ∃ q cap, e = .returned (.tuple #[.slice (some ⟨q, 0, none⟩) n cap, .int .i64 0]) ∧ n ≤ cap ∧ w.heap.size ≤ q ∧ BytesAt w' q n B ∧ w.grownBy w' none
set_option maxHeartbeats 1000000 in
theorem aload_good {w : World} {p q N cap : Nat} {B : Nat → Nat} {wk : Option Addr} (h : ArAt w p q N cap B wk) (at_ n : Nat) (hb : at_ + n ≤ N) :
    Calls Tryz.prog 175 #[.pointer (some ⟨p, 0, none⟩), .int .i64 at_, .int .i64 n] w fun e w' => LoadRes w w' n (fun i => B (at_ + i)) e := by
  have hN := h.small
  have hcap := h.hcap
  have h0 := h.c0
  have HC := bounds_at p q N cap at_ n w h0 hN (by omega)
  rw [(inB_iff _ _ _).2 (by omega : (0 : Int) ≤ at_ ∧ (0 : Int) ≤ n ∧ (at_ : Int) + n ≤ N)] at HC
  have HC := Lib.hid HC
  have HCL := Lib.hid (fun o c (ho : 0 < n → o = at_) => bclone_at q o n c (fun i => B (at_ + i)) w (by omega) (fun i hi => by rw [ho (by omega)]; exact h.b.c _ (by omega)))
  have hat : at_ ≤ 65536 := by omega
  have hn2 : n ≤ 65536 := by omega
  have hin : (at_ : Int) + n ≤ cap := by omega
  have q4 : at_ + n - at_ = n := by omega
  clear h
  by_cases hca : cap = at_
  · have HCA := Lib.hid hca
    have hn0 : n = 0 := by omega
    subst hn0
    subst hca
    go_enter Tryz.func175, Tryz.ntmps175
    go_wp2_with (first
      | (go_at_call 61; refine HC.out.mono ?_; rintro e w' ⟨rfl, rfl⟩)
      | (go_at_call 170; refine (HCL.out 0 _ (fun h => by omega)).mono ?_; rintro e w' ⟨q1, cap1, rfl, k1, k2, k3, k4⟩; have K := Lib.hid (And.intro k1 (And.intro k2 (And.intro k3 k4))); clear k1 k2 k3 k4))
    go_ret2
    exact ⟨q1, cap1, rfl, K.out⟩
  · go_enter Tryz.func175, Tryz.ntmps175
    go_wp2_with (first
      | (go_at_call 61; refine HC.out.mono ?_; rintro e w' ⟨rfl, rfl⟩)
      | (go_at_call 170; refine (HCL.out at_ _ (fun _ => rfl)).mono ?_; rintro e w' ⟨q1, cap1, rfl, k1, k2, k3, k4⟩; have K := Lib.hid (And.intro k1 (And.intro k2 (And.intro k3 k4))); clear k1 k2 k3 k4))
    go_ret2
    exact ⟨q1, cap1, rfl, K.out⟩

/-- The part of an arena that is written into. -/
def OpenRes (q at_ n : Nat) (e : Ending) : Prop := ∃ o c, e = .returned (.slice (some ⟨q, o, none⟩) n c) ∧ (0 < n → o = at_)
set_option maxHeartbeats 1000000 in
theorem open_none {w : World} {p q N cap : Nat} {B : Nat → Nat} (h : ArAt w p q N cap B none) (at_ n : Nat) (hb : at_ + n ≤ N) :
    Calls Tryz.prog 62 #[.pointer (some ⟨p, 0, none⟩), .int .i64 at_, .int .i64 n] w fun e w' => OpenRes q at_ n e ∧ w = w' := by
  have hN := h.small
  have hcap := h.hcap
  have h0 := h.c0
  have h1 := h.c1
  have hat : at_ ≤ 65536 := by omega
  have hn2 : n ≤ 65536 := by omega
  have hin : (at_ : Int) + n ≤ cap := by omega
  have q4 : at_ + n - at_ = n := by omega
  clear h
  by_cases hca : cap = at_
  · have hn0 : n = 0 := by omega
    subst hn0
    subst hca
    go_enter Tryz.func62, Tryz.ntmps62
    go_wp2
    go_ret
    exact ⟨⟨0, _, rfl, fun h => by omega⟩, rfl⟩
  · go_enter Tryz.func62, Tryz.ntmps62
    go_wp2
    go_ret
    exact ⟨⟨at_, cap - at_, congrArg (fun x => Ending.returned (Value.slice (some ⟨q, at_, none⟩) x (cap - at_))) q4, fun _ => rfl⟩, rfl⟩
end Go.Proofs.YtgnfcklippjeeaaGreat.An

/- The walks of an arena's Store, Fill, SetWord. -/
namespace Go.Proofs.YtgnfcklippjeeaaGreat.An
open Go.RowKit

/-- What writing into an arena's bytes leaves of a world that open left. -/
def Wrote (G : World → Prop) (q N : Nat) (B' : Nat → Nat) (w'' : World) : Prop := ∃ w', G w' ∧ w'.grownBy w'' (some q) ∧ BytesAt w'' q N B'

set_option maxHeartbeats 1000000 in
theorem setword_bad (p q N cap : Nat) (at_ er : Int) (v : Nat) (w : World) (h0 : w.cell? ⟨p, 0, none⟩ = some (.slice (some ⟨q, 0, none⟩) N cap)) (hN : N ≤ 65536) (he : wbE N at_ = er) (hz : er ≠ 0) :
    Calls Tryz.prog 147 #[.pointer (some ⟨p, 0, none⟩), .int .i64 at_, .int .u64 v] w fun e w' => e = .returned (.int .i64 er) ∧ w = w' := by
  have HC := wbounds_at p q N cap at_ w h0 hN
  rw [he] at HC
  have HC := Lib.hid HC
  have hz' : (er != 0) = true := by simpa using hz
  clear he hz
  go_enter Tryz.func147, Tryz.ntmps147
  go_wp2_with (go_at_call 180; refine HC.out.mono ?_; rintro e w' ⟨rfl, rfl⟩)
  go_ret
  exact ⟨rfl, rfl⟩
set_option maxHeartbeats 800000 in
theorem setword_nil (at_ : Int) (v : Nat) (w : World) :
    Calls Tryz.prog 147 #[.pointer none, .int .i64 at_, .int .u64 v] w fun e w' => e = .returned (.int .i64 2) ∧ w = w' := by
  go_enter Tryz.func147, Tryz.ntmps147
  go_wp2_with (go_at_call 180; refine (wbounds_nil at_ _).mono ?_; rintro e w' ⟨rfl, rfl⟩)
  go_ret
  exact ⟨rfl, rfl⟩
set_option maxHeartbeats 2000000 in
theorem setword_good (p q N cap at_ v : Nat) (B : Nat → Nat) (w : World) (h0 : w.cell? ⟨p, 0, none⟩ = some (.slice (some ⟨q, 0, none⟩) N cap)) (hN : N ≤ 65536) (he : wbE N at_ = 0) (G : World → Prop)
    (hG : ∀ w', G w' → BytesAt w' q N B)
    (hopen : Calls Tryz.prog 62 #[.pointer (some ⟨p, 0, none⟩), .int .i64 at_, .int .i64 8] w fun e w' => OpenRes q at_ 8 e ∧ G w') :
    Calls Tryz.prog 147 #[.pointer (some ⟨p, 0, none⟩), .int .i64 at_, .int .u64 v] w fun e w' => e = .returned (.int .i64 0) ∧ Wrote G q N (Ar.setW B at_ v) w' := by
  have HC := wbounds_at p q N cap at_ w h0 hN
  rw [he] at HC
  have HC := Lib.hid HC
  obtain ⟨_, h8, _⟩ := wbE_zero he
  have h8' : at_ + 8 ≤ N := by omega
  have HO := Lib.hid hopen
  have HG := Lib.hid hG
  clear he hopen hG
  go_enter Tryz.func147, Tryz.ntmps147
  go_wp2_with fail
  refine HC.out.mono ?_
  rintro e w' ⟨rfl, rfl⟩
  go_wp2_with fail
  refine HO.out.mono ?_
  rintro e w1 ⟨⟨o, c, rfl, ho⟩, hg⟩
  obtain rfl : o = at_ := ho (by omega)
  have HG1 := Lib.hid hg
  clear hg ho
  go_wp2_with fail
  refine (put_at v w1).mono ?_
  rintro e w2 ⟨s, sc, rfl, _, hs, hb, hg⟩
  have hbw := HG.out _ HG1.out
  obtain ⟨w3, hrun, hb3, hg3⟩ := copy_run (hbw.grown hg (by simp)) o 8 c (fun _ => h8') (Ar.byt v) (some ⟨s, 0, none⟩) sc (.inr ⟨s, 0, rfl, fun i hi => by rw [Nat.zero_add]; exact hb.c i hi⟩)
  have HW := Lib.hid (show Wrote G q N (Ar.setW B o v) w3 from ⟨w1, HG1.out, grown_trans (grown_none hg) hg3, hb3⟩)
  clear hb hg hb3 hg3 hbw hs
  go_wp2
  go_ret
  exact ⟨rfl, HW.out⟩

set_option maxHeartbeats 800000 in
theorem store_nil (at_ : Int) (A : Option Addr) (n c : Nat) (w : World) :
    Calls Tryz.prog 14 #[.pointer none, .int .i64 at_, .slice A n c] w fun e w' => e = .returned (.int .i64 2) ∧ w = w' := by
  go_enter Tryz.func14, Tryz.ntmps14
  go_wp2_with (go_at_call 61; refine (bounds_nil at_ n _).mono ?_; rintro e w' ⟨rfl, rfl⟩)
  go_ret
  exact ⟨rfl, rfl⟩
set_option maxHeartbeats 800000 in
theorem store_bad (p q N cap : Nat) (at_ : Int) (A : Option Addr) (n c : Nat) (w : World) (h0 : w.cell? ⟨p, 0, none⟩ = some (.slice (some ⟨q, 0, none⟩) N cap)) (hN : N ≤ 65536) (hn : (n : Int) ≤ 9223372036854775807) (hb : inB N at_ n = false) :
    Calls Tryz.prog 14 #[.pointer (some ⟨p, 0, none⟩), .int .i64 at_, .slice A n c] w fun e w' => e = .returned (.int .i64 3) ∧ w = w' := by
  have HC := bounds_at p q N cap at_ n w h0 hN hn
  rw [hb] at HC
  have HC := Lib.hid HC
  clear hb hn
  go_enter Tryz.func14, Tryz.ntmps14
  go_wp2_with (go_at_call 61; refine HC.out.mono ?_; rintro e w' ⟨rfl, rfl⟩)
  go_ret
  exact ⟨rfl, rfl⟩
set_option maxHeartbeats 2000000 in
theorem store_good {w : World} {p q N cap : Nat} {B : Nat → Nat} (h : ArAt w p q N cap B none) (at_ n c : Nat) (A : Option Addr) (S : Nat → Nat) (hb : at_ + n ≤ N) (hS : ∀ i, S i < 256)
    (hs : n = 0 ∨ ∃ b off, A = some ⟨b, off, none⟩ ∧ ∀ i, i < n → w.cell? ⟨b, off + i, none⟩ = some (.int .u8 (S i : Nat))) :
    Calls Tryz.prog 14 #[.pointer (some ⟨p, 0, none⟩), .int .i64 at_, .slice A n c] w fun e w' => e = .returned (.int .i64 0) ∧ ArAt w' p q N cap (Ar.setB B at_ n S) none ∧ w.grownBy w' (some q) := by
  have hN := h.small
  have HC := bounds_at p q N cap at_ n w h.c0 hN (by omega)
  rw [(inB_iff _ _ _).2 (by omega : (0 : Int) ≤ at_ ∧ (0 : Int) ≤ n ∧ (at_ : Int) + n ≤ N)] at HC
  have HC := Lib.hid HC
  have HO := Lib.hid (open_none h at_ n hb)
  have H := Lib.hid h
  have HS := Lib.hid hs
  clear h hs
  go_enter Tryz.func14, Tryz.ntmps14
  go_wp2_with fail
  refine HC.out.mono ?_
  rintro e w' ⟨rfl, rfl⟩
  go_wp2_with fail
  refine HO.out.mono ?_
  rintro e w' ⟨⟨o, oc, rfl, ho⟩, rfl⟩
  obtain ⟨w3, hrun, hb3, hg3⟩ := copy_run H.out.b o n oc (fun h => by rw [ho h]; exact hb) S A c HS.out
  have HR : Hid (ArAt w3 p q N cap (Ar.setB B at_ n S) none ∧ w.grownBy w3 (some q)) := by
    refine ⟨⟨hg3.cell H.out.c0 (by simpa using H.out.ne), hg3.cell H.out.c1 (by simpa using H.out.ne), fun k => by rw [World.frozen?_of_block (w := w) (hg3.block p H.out.plt (by simpa using H.out.ne))]; exact H.out.fz k, ?_, H.out.ne, H.out.hcap, H.out.small, H.out.page, fun i => Ar.setB_lt H.out.lt hS _ _ _⟩, hg3⟩
    by_cases h0 : 0 < n
    · rw [← ho h0]; exact hb3
    · have e : ∀ o, Ar.setB B o n S = B := fun o => by funext i; unfold Ar.setB; rw [if_neg (by omega)]
      rw [e] at hb3 ⊢
      exact hb3
  clear hb3 hg3 ho HC HO H HS
  go_wp2
  go_ret
  exact ⟨rfl, HR.out⟩

set_option maxHeartbeats 800000 in
theorem fill_nil (at_ n c : Int) (w : World) :
    Calls Tryz.prog 129 #[.pointer none, .int .i64 at_, .int .i64 n, .int .u8 c] w fun e w' => e = .returned (.int .i64 2) ∧ w = w' := by
  go_enter Tryz.func129, Tryz.ntmps129
  go_wp2_with (go_at_call 61; refine (bounds_nil at_ n _).mono ?_; rintro e w' ⟨rfl, rfl⟩)
  go_ret
  exact ⟨rfl, rfl⟩
set_option maxHeartbeats 800000 in
theorem fill_bad (p q N cap : Nat) (at_ n c : Int) (w : World) (h0 : w.cell? ⟨p, 0, none⟩ = some (.slice (some ⟨q, 0, none⟩) N cap)) (hN : N ≤ 65536) (hn : n ≤ 9223372036854775807) (hb : inB N at_ n = false) :
    Calls Tryz.prog 129 #[.pointer (some ⟨p, 0, none⟩), .int .i64 at_, .int .i64 n, .int .u8 c] w fun e w' => e = .returned (.int .i64 3) ∧ w = w' := by
  have HC := bounds_at p q N cap at_ n w h0 hN hn
  rw [hb] at HC
  have HC := Lib.hid HC
  clear hb hn
  go_enter Tryz.func129, Tryz.ntmps129
  go_wp2_with (go_at_call 61; refine HC.out.mono ?_; rintro e w' ⟨rfl, rfl⟩)
  go_ret
  exact ⟨rfl, rfl⟩
set_option maxRecDepth 100000 in
set_option maxHeartbeats 2000000 in
theorem fill_good {w : World} {p q N cap : Nat} {B : Nat → Nat} (h : ArAt w p q N cap B none) (at_ n c : Nat) (hb : at_ + n ≤ N) (hc : c < 256) :
    Calls Tryz.prog 129 #[.pointer (some ⟨p, 0, none⟩), .int .i64 at_, .int .i64 n, .int .u8 c] w fun e w' => e = .returned (.int .i64 0) ∧ ArAt w' p q N cap (Ar.setB B at_ n (fun _ => c)) none ∧ w.grownBy w' (some q) := by
  have hN := h.small
  have HC := bounds_at p q N cap at_ n w h.c0 hN (by omega)
  rw [(inB_iff _ _ _).2 (by omega : (0 : Int) ≤ at_ ∧ (0 : Int) ≤ n ∧ (at_ : Int) + n ≤ N)] at HC
  have HC := Lib.hid HC
  have HO := Lib.hid (open_none h at_ n hb)
  have H := Lib.hid h
  have hn2 : n ≤ 65536 := by omega
  clear h
  go_enter Tryz.func129, Tryz.ntmps129
  go_wp2_with fail
  refine HC.out.mono ?_
  rintro e w' ⟨rfl, rfl⟩
  go_wp2_with fail
  refine HO.out.mono ?_
  rintro e w' ⟨⟨o, oc, rfl, ho⟩, rfl⟩
  have HOO := Lib.hid ho
  clear ho HC HO
  go_wp2_with fail
  go_loopw [25] (fun i wr => ∃ k : Nat, k ≤ n ∧ i = .int .i64 k ∧ BytesAt wr q N (Ar.setB B at_ k (fun _ => c)) ∧ w.grownBy wr (some q)) (fun i _ => n - (intOf i).toNat)
  case atStart => exact ⟨0, Nat.zero_le _, rfl, by
    have e : Ar.setB B at_ 0 (fun _ => c) = B := by funext i; unfold Ar.setB; rw [if_neg (by omega)]
    rw [e]; exact H.out.b, grown_refl _ _⟩
  case round =>
    obtain ⟨k, hk, rfl, hbb, hg⟩ := hrel
    have HB := Lib.hid hbb
    have HG := Lib.hid hg
    clear hbb hg
    by_cases hlt : k < n
    · obtain rfl : o = at_ := HOO.out (by omega)
      have d0 := HB.out.c (o + k) (by omega)
      have z0 := HB.out.fz
      generalize Ar.setB B o k (fun _ => c) (o + k) = old at d0
      go_wp2
      go_roundw
      case rel =>
        refine ⟨k + 1, by omega, by go_num, ⟨fun i hi => ?_, fun j => by rw [World.frozen?_setCell]; exact HB.out.fz j, by have := HB.out.qlt; simpa [World.setCell] using this⟩, grown_trans HG.out (agrown_set _ _ _ _)⟩
        by_cases e : i = o + k
        · subst e
          rw [World.cell?_setCell_same' _ _ _ (by rw [HB.out.c _ hi]; rfl)]
          unfold Ar.setB
          rw [if_pos (by omega)]
        · rw [World.cell?_setCell_other _ _ _ _ (fun x => e (congrArg Addr.off x).symm), HB.out.c i hi]
          unfold Ar.setB
          by_cases e2 : o ≤ i ∧ i < o + k
          · rw [if_pos e2, if_pos (by omega)]
          · rw [if_neg e2, if_neg (by omega)]
      case measure => simp [intOf]; omega
    · obtain rfl : k = n := by omega
      go_wp2
      go_ret
      exact ⟨rfl, ⟨HG.out.cell H.out.c0 (by simpa using H.out.ne), HG.out.cell H.out.c1 (by simpa using H.out.ne), fun j => by rw [World.frozen?_of_block (w := w) (HG.out.block p H.out.plt (by simpa using H.out.ne))]; exact H.out.fz j, HB.out, H.out.ne, H.out.hcap, H.out.small, H.out.page, fun i => Ar.setB_lt H.out.lt (fun _ => hc) _ _ _⟩, HG.out⟩
end Go.Proofs.YtgnfcklippjeeaaGreat.An

/- The walks of the document's own answer: In, New, Get, Word, Put, With. -/
namespace Go.Proofs.YtgnfcklippjeeaaGreat.An
open Go.RowKit

theorem made_new (w : World) (m : Nat) : BytesNew w (w.alloc (.cells (zeroBytes m) 5)) m (fun _ => 0) (.returned (.slice (some ⟨w.heap.size, 0, none⟩) m m)) := ⟨_, _, rfl, Nat.le_refl _, Nat.le_refl _, bytes_new w 5 m, grown_alloc _ _ _⟩

theorem hor_step (B : Nat → Nat) (h : ∀ i, B i < 256) (k : Nat) (hk : k < 8) : IntKind.u64.wrap (IntKind.u64.wrap (((Ar.hor B k : Nat) : Int) * 256) + ((B (7 - k) : Nat) : Int)) = ((Ar.hor B (k + 1) : Nat) : Int) := by
  have h1 := Ar.hor_lt h k
  have h2 := h (7 - k)
  have h3 := Ar.hor_lt h (k + 1)
  have h4 := Ar.pow_le (k + 1) (by omega)
  have e : Ar.hor B (k + 1) = Ar.hor B k * 256 + B (7 - k) := rfl
  rw [IntKind.wrap_u64, IntKind.wrap_u64]
  omega

set_option maxRecDepth 100000 in
set_option maxHeartbeats 1000000 in
theorem rget_at (q o cap : Nat) (B : Nat → Nat) (w : World) (hB : ∀ i, B i < 256) (hc : ∀ i, i < 8 → w.cell? ⟨q, o + i, none⟩ = some (.int .u8 (B i : Nat))) :
    Calls Tryz.prog 186 #[.slice (some ⟨q, o, none⟩) 8 cap] w fun e w' => e = .returned (.int .u64 (Ar.wsum B 8 : Nat)) ∧ w = w' := by
  rw [← Ar.hor_all]
  have HB := Lib.hid hB
  have HC := Lib.hid hc
  clear hB hc
  go_enter Tryz.func186, Tryz.ntmps186
  go_wp2_with fail
  go_loop [3, 4] (fun v i => ∃ k : Nat, k ≤ 8 ∧ i = .int .i64 (7 - (k : Int)) ∧ v = .int .u64 (Ar.hor B k : Nat)) (fun _ i => (intOf i + 1).toNat)
  case atStart => exact ⟨0, by omega, rfl, rfl⟩
  case round =>
    obtain ⟨k, hk, rfl, rfl⟩ := hrel
    by_cases hlt : k < 8
    · have d0 := HC.out (7 - k) (by omega)
      have hb := HB.out (7 - k)
      have e7 : ((7 : Int) - k).toNat = 7 - k := by omega
      have HS := Lib.hid (hor_step B HB.out k hlt)
      have i0 : (0 : Int) ≤ 7 - (k : Int) := by omega
      have i1 : (7 : Int) - (k : Int) < 8 := by omega
      go_wp2
      go_round
      case rel => exact ⟨k + 1, by omega, by go_num, vu64 HS.out⟩
      case measure => simp [intOf]; omega
    · obtain rfl : k = 8 := by omega
      go_wp2
      go_ret
      exact ⟨rfl, rfl⟩
end Go.Proofs.YtgnfcklippjeeaaGreat.An

/- The walks of the document's own answer: Word, Put, With. -/
namespace Go.Proofs.YtgnfcklippjeeaaGreat.An
open Go.RowKit

/-- A list of bytes, from its block's beginning on. -/
structure Ls (w : World) (q n c : Nat) (B : Nat → Nat) : Prop where
  b : BytesAt w q n B
  cap : n ≤ c
  small : n ≤ 65536
  lt : ∀ i, B i < 256

theorem bvals_snoc (B : Nat → Nat) (n : Nat) : bvals B (n + 1) = bvals B n ++ [.int .u8 (B n : Nat)] := by simp [bvals, List.range_succ]
theorem grown_onto {a b c : World} {r : Option Nat} (h : a.grownBy b none) (k : b.grownBy c r) (hr : ∀ q, r = some q → a.heap.size ≤ q) : a.grownBy c none :=
  ⟨k.os.trans h.os, k.tape.trans h.tape, k.output.trans h.output, Nat.le_trans h.size k.size, fun i hi _ => (k.block i (Nat.lt_of_lt_of_le hi h.size) (fun e => by have := hr i e.symm; omega)).trans (h.block i hi (by simp))⟩
theorem one_cell (w : World) (v : Value) (t : TypeId) (j : Nat) (u : Value) (h : ([v] : List Value)[j]? = some u) : (w.alloc (.cells #[v] t)).cell? ((⟨w.heap.size, 0, none⟩ : Addr).add j) = some u := by
  cases j with
  | zero => rw [aaddr_add, cell_alloc_new]; exact h
  | succ j => simp at h
def BytesOwn (w : World) (B : Nat) (v : Value) (n : Nat) (F : Nat → Nat) : Prop := w.ownsRow B 5 1 v n (bvals F n)
theorem bonto_end {w wr w1 : World} {n : Nat} {F : Nat → Nat} {s v' : Value} (o : Obj) (hg : w.grownBy wr none) (hown : BytesOwn wr w.heap.size s n F) (h2 : w1.ownsRow w.heap.size 5 1 v' (n + 1) (bvals F n ++ [.int .u8 (F n : Nat)])) (h3 : (wr.alloc o).grownBy w1 s.ownBlock) :
    BytesOwn w1 w.heap.size v' (n + 1) F ∧ w.grownBy w1 none := by
  refine ⟨?_, grown_onto (grown_trans hg (World.grownBy_alloc wr o none)) h3 (fun q hq => (World.ownsRow.lt hown q hq).1)⟩
  unfold BytesOwn
  rw [bvals_snoc]
  exact h2

set_option maxRecDepth 100000 in
set_option maxHeartbeats 1000000 in
theorem rput_at (v : Nat) (hv : v < 18446744073709551616) (w : World) :
    Calls Tryz.prog 163 #[.int .i64 8, .int .u64 v] w fun e w' => BytesNew w w' 8 (Ar.byt v) e := by
  obtain ⟨i0, hi, hz0, hz1, hz2⟩ := info_parts infoByte
  go_enter Tryz.func163, Tryz.ntmps163
  go_wp2_with fail
  go_loopw [1, 5, 6] (fun x s i wr => ∃ k : Nat, k ≤ 8 ∧ i = .int .i64 k ∧ x = .int .u64 (v / 256 ^ k : Nat) ∧ BytesOwn wr w.heap.size s k (Ar.byt v) ∧ w.grownBy wr none ∧ (0 < k → s ≠ .slice none 0 0)) (fun _ _ i _ => 8 - (intOf i).toNat)
  case atStart => exact ⟨0, by omega, rfl, by simp, World.ownsRow_nil _ _ _ _, grown_refl _ _, fun h => by omega⟩
  case round =>
    obtain ⟨k, hk, rfl, rfl, hown, hg, hne⟩ := hrel
    have HOW := Lib.hid hown
    have HG := Lib.hid hg
    have HN := Lib.hid hne
    have hX : v / 256 ^ k < 18446744073709551616 := Nat.lt_of_le_of_lt (Nat.div_le_self _ _) hv
    have HY : Hid (v / 256 ^ k % 256 = Ar.byt v k) := Lib.hid rfl
    have HD : Hid (v / 256 ^ k / 256 = v / 256 ^ (k + 1)) := Lib.hid (by rw [Nat.div_div_eq_div_mul, Nat.pow_succ])
    generalize v / 256 ^ k = X at *
    clear hown hg hne
    by_cases hlt : k < 8
    · have e1 : ((X : Int) % 256) % 256 = (X : Int) % 256 := by omega
      have hy : (X : Int) % 256 = ((Ar.byt v k : Nat) : Int) := by have := HY.out; omega
      generalize hb : Ar.byt v k = b at *
      have HB := Lib.hid hb
      clear hb
      go_wp2_with (at_builtin; refine wpList_append_own _ rfl _ _ 24 rfl w.heap.size 5 i0 (.int .u8 0) 1 1 Tryz.underlying24 hi hz0 hz1 hz2 rfl (by decide) _ _ _ rfl (HOW.out.alloc _) ⟨wr.heap.size, 0, none⟩ 1 1 [.int .u8 (b : Nat)] rfl ?c1 ?c2 ?c3 ?c4 ?c5 ?c6 ?_)
      case c1 => rfl
      case c2 => exact fun j u hj => one_cell wr _ _ j u hj
      case c3 => exact fun u hu => by rw [List.mem_singleton.1 hu]; rfl
      case c4 => simp only [maxLen]; omega
      case c5 => omega
      case c6 => have := HG.out.size; simp; omega
      intro v' w2 h2 h3 h4
      have HE := Lib.hid (bonto_end (F := Ar.byt v) _ HG.out HOW.out (by rw [HB.out]; exact h2) h3)
      have HV : Hid (v' ≠ .slice none 0 0) := Lib.hid (fun e => h4 e)
      clear h2 h3 h4
      go_wp2
      go_roundw
      case rel => exact ⟨k + 1, by omega, by go_num, vu64 (by have := HD.out; omega), HE.out.1, HE.out.2, fun _ => HV.out⟩
      case measure => simp [intOf]; omega
    · obtain rfl : k = 8 := by omega
      go_wp2
      go_ret
      exact bytes_end w wr 8 _ _ HOW.out HG.out (HN.out (by omega))

/-- Copying bytes into as many, or more. -/
theorem copy_run2 {w : World} {q N : Nat} {B : Nat → Nat} (hb : BytesAt w q N B) (o dl n dcap : Nat) (hdl : n ≤ dl) (hon : 0 < n → o + n ≤ N) (S : Nat → Nat) (A : Option Addr) (scap : Nat)
    (hs : n = 0 ∨ ∃ b off, A = some ⟨b, off, none⟩ ∧ ∀ i, i < n → w.cell? ⟨b, off + i, none⟩ = some (.int .u8 (S i : Nat))) :
    ∃ w', (∀ ty, (Builtin.copy_ #[24, 24] ty #[.slice (some ⟨q, o, none⟩) dl dcap, .slice A n scap]).run Tryz.prog w = .ok (goInt n) w') ∧ BytesAt w' q N (Ar.setB B o n S) ∧ w.grownBy w' (some q) := by
  have hsz : (Tryz.prog.info? 5).map (·.size) = some 1 := by kernel_rfl
  rcases Nat.eq_zero_or_pos n with h0 | h0
  · subst h0
    refine ⟨w, fun ty => run_copy_none w _ _ ty 5 _ _ _ _ _ _ Tryz.underlying24 hsz (Nat.zero_min _), ?_, grown_refl _ _⟩
    have e : Ar.setB B o 0 S = B := by funext i; unfold Ar.setB; rw [if_neg (by omega)]
    rw [e]
    exact hb
  · rcases hs with hs | ⟨b, off, rfl, hs⟩
    · omega
    · have hin := hon h0
      have hrun := fun ty => run_copy_cells (P := Tryz.prog) w 24 24 ty 5 q o dl dcap ⟨b, off, none⟩ n scap (bvals S n) Tryz.underlying24 hsz (by rw [bvals_length]; exact (Nat.min_eq_left hdl).symm)
        (fun j v hv => by
          have hj : j < n := by
            have := (List.getElem?_eq_some_iff.1 hv).1
            rwa [bvals_length] at this
          rw [bvals_at S n j hj] at hv
          rw [aaddr_plus, hs j hj, hv])
        (fun j hj => by rw [bvals_length] at hj; rw [hb.c _ (by omega)]; rfl) (fun j _ => hb.fz _) (bvals_one S n)
      rw [bvals_length] at hrun
      refine ⟨_, hrun, ⟨fun i hi => ?_, fun k => by rw [World.frozen?_setCells]; exact hb.fz k, Nat.lt_of_lt_of_le hb.qlt (agrown_setCells q _ _ _).size⟩, agrown_setCells q _ _ _⟩
      unfold Ar.setB
      by_cases hio : o ≤ i ∧ i < o + n
      · rw [if_pos hio]
        have := World.cell?_setCells_in q (bvals S n) o w (fun j hj => by rw [bvals_length] at hj; rw [hb.c _ (by omega)]; rfl) (i - o) (by rw [bvals_length]; omega)
        rw [show o + (i - o) = i by omega] at this
        rw [this]
        have e2 := bvals_at S n (i - o) (by omega)
        rw [List.getElem?_eq_getElem (by rw [bvals_length]; omega)] at e2
        exact e2
      · rw [if_neg hio, World.cell?_setCells_out q _ _ _ _ (fun _ _ => by rw [bvals_length]; simp only; omega)]
        exact hb.c i hi

theorem bytesNew_val {w w1 : World} {n : Nat} {B : Nat → Nat} {v : Value} (h : BytesNew w w1 n B (.returned v)) : ∃ q cap, v = .slice (some ⟨q, 0, none⟩) n cap ∧ n ≤ cap ∧ w.heap.size ≤ q ∧ BytesAt w1 q n B ∧ w.grownBy w1 none := by
  obtain ⟨q, cap, e, h1, h2, h3, h4⟩ := h
  exact ⟨q, cap, by injection e, h1, h2, h3, h4⟩

end Go.Proofs.YtgnfcklippjeeaaGreat.An
