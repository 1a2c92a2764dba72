/- The walks of the document's own answer: Word, Put, With. -/
import Derived.Test.YticoojcmlkdeiaaAD
namespace Go.Proofs.Yticoojcmlkdeiaa.An
open Go.RowKit

/-- A list of bytes, from its block's beginning on. -/
structure Ls (w : World) (q n c : Nat) (B : Nat → Nat) : Prop where
  b : BytesAt w q n B
  cap : n ≤ c
  small : n ≤ 65536
  lt : ∀ i, B i < 256

theorem bvals_snoc (B : Nat → Nat) (n : Nat) : bvals B (n + 1) = bvals B n ++ [.int .u8 (B n : Nat)] := by simp [bvals, List.range_succ]
theorem grown_onto {a b c : World} {r : Option Nat} (h : a.grownBy b none) (k : b.grownBy c r) (hr : ∀ q, r = some q → a.heap.size ≤ q) : a.grownBy c none :=
  ⟨k.os.trans h.os, k.tape.trans h.tape, k.output.trans h.output, Nat.le_trans h.size k.size, fun i hi _ => (k.block i (Nat.lt_of_lt_of_le hi h.size) (fun e => by have := hr i e.symm; omega)).trans (h.block i hi (by simp))⟩
theorem one_cell (w : World) (v : Value) (t : TypeId) (j : Nat) (u : Value) (h : ([v] : List Value)[j]? = some u) : (w.alloc (.cells #[v] t)).cell? ((⟨w.heap.size, 0, none⟩ : Addr).add j) = some u := by
  cases j with
  | zero => rw [aaddr_add, cell_alloc_new]; exact h
  | succ j => simp at h
def BytesOwn (w : World) (B : Nat) (v : Value) (n : Nat) (F : Nat → Nat) : Prop := w.ownsRow B 5 1 v n (bvals F n)
theorem bonto_end {w wr w1 : World} {n : Nat} {F : Nat → Nat} {s v' : Value} (o : Obj) (hg : w.grownBy wr none) (hown : BytesOwn wr w.heap.size s n F) (h2 : w1.ownsRow w.heap.size 5 1 v' (n + 1) (bvals F n ++ [.int .u8 (F n : Nat)])) (h3 : (wr.alloc o).grownBy w1 s.ownBlock) :
    BytesOwn w1 w.heap.size v' (n + 1) F ∧ w.grownBy w1 none := by
  refine ⟨?_, grown_onto (grown_trans hg (World.grownBy_alloc wr o none)) h3 (fun q hq => (World.ownsRow.lt hown q hq).1)⟩
  unfold BytesOwn
  rw [bvals_snoc]
  exact h2

set_option maxRecDepth 100000 in
set_option maxHeartbeats 1000000 in
theorem rput_at (v : Nat) (hv : v < 18446744073709551616) (w : World) :
    Calls Try.prog 70 #[.int .i64 8, .int .u64 v] w fun e w' => BytesNew w w' 8 (Ar.byt v) e := by
  obtain ⟨i0, hi, hz0, hz1, hz2⟩ := info_parts infoByte
  go_enter Try.func70, Try.ntmps70
  go_wp2_with fail
  go_loopw [1, 5, 6] (fun x s i wr => ∃ k : Nat, k ≤ 8 ∧ i = .int .i64 k ∧ x = .int .u64 (v / 256 ^ k : Nat) ∧ BytesOwn wr w.heap.size s k (Ar.byt v) ∧ w.grownBy wr none ∧ (0 < k → s ≠ .slice none 0 0)) (fun _ _ i _ => 8 - (intOf i).toNat)
  case atStart => exact ⟨0, by omega, rfl, by simp, World.ownsRow_nil _ _ _ _, grown_refl _ _, fun h => by omega⟩
  case round =>
    obtain ⟨k, hk, rfl, rfl, hown, hg, hne⟩ := hrel
    have HOW := Lib.hid hown
    have HG := Lib.hid hg
    have HN := Lib.hid hne
    have hX : v / 256 ^ k < 18446744073709551616 := Nat.lt_of_le_of_lt (Nat.div_le_self _ _) hv
    have HY : Hid (v / 256 ^ k % 256 = Ar.byt v k) := Lib.hid rfl
    have HD : Hid (v / 256 ^ k / 256 = v / 256 ^ (k + 1)) := Lib.hid (by rw [Nat.div_div_eq_div_mul, Nat.pow_succ])
    generalize v / 256 ^ k = X at *
    clear hown hg hne
    by_cases hlt : k < 8
    · have e1 : ((X : Int) % 256) % 256 = (X : Int) % 256 := by omega
      have hy : (X : Int) % 256 = ((Ar.byt v k : Nat) : Int) := by have := HY.out; omega
      generalize hb : Ar.byt v k = b at *
      have HB := Lib.hid hb
      clear hb
      go_wp2_with (at_builtin; refine wpList_append_own _ rfl _ _ 26 rfl w.heap.size 5 i0 (.int .u8 0) 1 1 Try.underlying26 hi hz0 hz1 hz2 rfl (by decide) _ _ _ rfl (HOW.out.alloc _) ⟨wr.heap.size, 0, none⟩ 1 1 [.int .u8 (b : Nat)] rfl ?c1 ?c2 ?c3 ?c4 ?c5 ?c6 ?_)
      case c1 => rfl
      case c2 => exact fun j u hj => one_cell wr _ _ j u hj
      case c3 => exact fun u hu => by rw [List.mem_singleton.1 hu]; rfl
      case c4 => simp only [maxLen]; omega
      case c5 => omega
      case c6 => have := HG.out.size; simp; omega
      intro v' w2 h2 h3 h4
      have HE := Lib.hid (bonto_end (F := Ar.byt v) _ HG.out HOW.out (by rw [HB.out]; exact h2) h3)
      have HV : Hid (v' ≠ .slice none 0 0) := Lib.hid (fun e => h4 e)
      clear h2 h3 h4
      go_wp2
      go_roundw
      case rel => exact ⟨k + 1, by omega, by go_num, vu64 (by have := HD.out; omega), HE.out.1, HE.out.2, fun _ => HV.out⟩
      case measure => simp [intOf]; omega
    · obtain rfl : k = 8 := by omega
      go_wp2
      go_ret
      exact bytes_end w wr 8 _ _ HOW.out HG.out (HN.out (by omega))

/-- Copying bytes into as many, or more. -/
theorem copy_run2 {w : World} {q N : Nat} {B : Nat → Nat} (hb : BytesAt w q N B) (o dl n dcap : Nat) (hdl : n ≤ dl) (hon : 0 < n → o + n ≤ N) (S : Nat → Nat) (A : Option Addr) (scap : Nat)
    (hs : n = 0 ∨ ∃ b off, A = some ⟨b, off, none⟩ ∧ ∀ i, i < n → w.cell? ⟨b, off + i, none⟩ = some (.int .u8 (S i : Nat))) :
    ∃ w', (∀ ty, (Builtin.copy_ #[26, 26] ty #[.slice (some ⟨q, o, none⟩) dl dcap, .slice A n scap]).run Try.prog w = .ok (goInt n) w') ∧ BytesAt w' q N (Ar.setB B o n S) ∧ w.grownBy w' (some q) := by
  have hsz : (Try.prog.info? 5).map (·.size) = some 1 := by kernel_rfl
  rcases Nat.eq_zero_or_pos n with h0 | h0
  · subst h0
    refine ⟨w, fun ty => run_copy_none w _ _ ty 5 _ _ _ _ _ _ Try.underlying26 hsz (Nat.zero_min _), ?_, grown_refl _ _⟩
    have e : Ar.setB B o 0 S = B := by funext i; unfold Ar.setB; rw [if_neg (by omega)]
    rw [e]
    exact hb
  · rcases hs with hs | ⟨b, off, rfl, hs⟩
    · omega
    · have hin := hon h0
      have hrun := fun ty => run_copy_cells (P := Try.prog) w 26 26 ty 5 q o dl dcap ⟨b, off, none⟩ n scap (bvals S n) Try.underlying26 hsz (by rw [bvals_length]; exact (Nat.min_eq_left hdl).symm)
        (fun j v hv => by
          have hj : j < n := by
            have := (List.getElem?_eq_some_iff.1 hv).1
            rwa [bvals_length] at this
          rw [bvals_at S n j hj] at hv
          rw [aaddr_plus, hs j hj, hv])
        (fun j hj => by rw [bvals_length] at hj; rw [hb.c _ (by omega)]; rfl) (fun j _ => hb.fz _) (bvals_one S n)
      rw [bvals_length] at hrun
      refine ⟨_, hrun, ⟨fun i hi => ?_, fun k => by rw [World.frozen?_setCells]; exact hb.fz k, Nat.lt_of_lt_of_le hb.qlt (agrown_setCells q _ _ _).size⟩, agrown_setCells q _ _ _⟩
      unfold Ar.setB
      by_cases hio : o ≤ i ∧ i < o + n
      · rw [if_pos hio]
        have := World.cell?_setCells_in q (bvals S n) o w (fun j hj => by rw [bvals_length] at hj; rw [hb.c _ (by omega)]; rfl) (i - o) (by rw [bvals_length]; omega)
        rw [show o + (i - o) = i by omega] at this
        rw [this]
        have e2 := bvals_at S n (i - o) (by omega)
        rw [List.getElem?_eq_getElem (by rw [bvals_length]; omega)] at e2
        exact e2
      · rw [if_neg hio, World.cell?_setCells_out q _ _ _ _ (fun _ _ => by rw [bvals_length]; simp only; omega)]
        exact hb.c i hi

theorem bytesNew_val {w w1 : World} {n : Nat} {B : Nat → Nat} {v : Value} (h : BytesNew w w1 n B (.returned v)) : ∃ q cap, v = .slice (some ⟨q, 0, none⟩) n cap ∧ n ≤ cap ∧ w.heap.size ≤ q ∧ BytesAt w1 q n B ∧ w.grownBy w1 none := by
  obtain ⟨q, cap, e, h1, h2, h3, h4⟩ := h
  exact ⟨q, cap, by injection e, h1, h2, h3, h4⟩

end Go.Proofs.Yticoojcmlkdeiaa.An
