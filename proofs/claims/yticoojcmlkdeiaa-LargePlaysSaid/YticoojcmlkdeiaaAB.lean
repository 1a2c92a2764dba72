/- The walks of what makes bytes: bytes.Clone, num.Put, New; copying bytes; what is written outside of a Do. -/
import Derived.Test.YticoojcmlkdeiaaAA
import Derived.Deep.DeepCutAuto
import Derived.OwnWalk
import Derived.Laws.IdiomCopy
import Derived.IntWalk
namespace Go.Proofs.Yticoojcmlkdeiaa.An
open Go.RowKit

theorem aaddr_add (q j : Nat) : (⟨q, 0, none⟩ : Addr).add j = ⟨q, j, none⟩ := by
  by_cases h : j = 0
  · subst h; rfl
  · simp [Addr.add, h]
theorem aaddr_plus (b o i : Nat) : (⟨b, o, none⟩ : Addr).add i = ⟨b, o + i, none⟩ := by
  by_cases h : i = 0
  · subst h; rfl
  · simp [Addr.add, h]
theorem agrown_set (w : World) (b i : Nat) (v : Value) : w.grownBy (w.setCell ⟨b, i, none⟩ v) (some b) :=
  ⟨rfl, rfl, rfl, by simp [World.setCell], fun j _ hj => Below.heap_setCell w ⟨b, i, none⟩ v j (fun e => hj (by rw [e]))⟩
theorem agrown_setCells (q : Nat) : ∀ (vs : List Value) (o : Nat) (w : World), w.grownBy (w.setCells q o vs) (some q)
  | [], _, w => grown_refl w _
  | v :: r, o, w => grown_trans (agrown_set w q o v) (agrown_setCells q r (o + 1) _)

/-- Bytes as values. -/
def bvals (B : Nat → Nat) (n : Nat) : List Value := (List.range n).map fun i => Value.int .u8 (B i : Nat)
theorem bvals_length (B : Nat → Nat) (n : Nat) : (bvals B n).length = n := by simp [bvals]
theorem bvals_at (B : Nat → Nat) (n i : Nat) (h : i < n) : (bvals B n)[i]? = some (.int .u8 (B i : Nat)) := by simp [bvals, h]
theorem bvals_one (B : Nat → Nat) (n : Nat) : ∀ u ∈ bvals B n, u.oneCell' = true := by
  intro u hu
  obtain ⟨i, _, rfl⟩ := List.mem_map.1 hu
  rfl

/-- Bytes of the call's own. -/
def BytesNew (w w' : World) (n : Nat) (B : Nat → Nat) (e : Ending) : Prop :=
  ∃ q cap, e = .returned (.slice (some ⟨q, 0, none⟩) n cap) ∧ n ≤ cap ∧ w.heap.size ≤ q ∧ BytesAt w' q n B ∧ w.grownBy w' none

theorem infoByte : (Try.prog.info? 5).map (fun i => (i.zero, i.size, i.bytes)) = some (some (.int .u8 0), 1, 1) := by kernel_rfl

theorem bytes_end (w w' : World) (n : Nat) (B : Nat → Nat) (v : Value) (hown : w'.ownsRow w.heap.size 5 1 v n (bvals B n)) (hg : w.grownBy w' none) (hv : v ≠ .slice none 0 0) : BytesNew w w' n B (.returned v) := by
  obtain ⟨-, hn | ⟨g, cap, cur, rfl, hbg, hh, hnc, hcm, hcs, htake⟩⟩ := hown
  · exact absurd hn.1 hv
  · refine ⟨g, cap, rfl, hnc, hbg, ⟨fun i hi => ?_, fun k => ?_, (Array.getElem?_eq_some_iff.1 hh).1⟩, hg⟩
    · have e : w'.cell? ⟨g, i, none⟩ = cur[i]? := by simp only [World.cell?, hh]; rfl
      have t := congrArg (fun l => l[i]?) htake
      simp only [List.getElem?_take, Nat.mul_one, hi, if_true, Array.getElem?_toList] at t
      rw [e, t, bvals_at B n i hi]
    · simp only [World.frozen?, hh]
      simp

set_option maxHeartbeats 800000 in
theorem bclone_at (q o n cap : Nat) (B : Nat → Nat) (w : World) (hn : n ≤ 65536) (hc : ∀ i, i < n → w.cell? ⟨q, o + i, none⟩ = some (.int .u8 (B i : Nat))) :
    Calls Try.prog 58 #[.slice (some ⟨q, o, none⟩) n cap] w fun e w' => BytesNew w w' n B e := by
  have HR := Lib.hid hc
  clear hc
  obtain ⟨i0, hi, hz0, hz1, hz2⟩ := info_parts infoByte
  have hnil := fun (w : World) => Lib.run_eql_slice_nil (P := Try.prog) w 26 5 (some ⟨q, o, none⟩) n cap 0 0 Try.underlying26
  go_enter Try.func58, Try.ntmps58
  go_wp2_with (at_builtin; refine wpList_append_own _ rfl _ _ 26 rfl w.heap.size 5 i0 (.int .u8 0) 1 1 Try.underlying26 hi hz0 hz1 hz2 rfl (by decide) _ _ _ rfl (World.ownsRow_made w #[] 0 (Nat.le_refl _) (Nat.zero_le _) rfl) ⟨q, o, none⟩ n cap (bvals B n) rfl ?c1 ?c2 ?c3 ?c4 ?c5 ?c6 ?_)
  case c1 => rw [bvals_length]; omega
  case c2 =>
    intro j u hj
    have hj' : j < n := by
      have := (List.getElem?_eq_some_iff.1 hj).1
      rwa [bvals_length] at this
    rw [bvals_at B n j hj'] at hj
    rw [aaddr_plus]
    have h2 := (grown_alloc w (.cells #[] 5) none).cell (HR.out j hj') (by simp)
    rw [← hj]
    exact h2
  case c3 => exact bvals_one B n
  case c4 => simp only [maxLen]; omega
  case c5 => omega
  case c6 => simp
  intro v' w1 hown hgrow hiff
  have hv : v' ≠ .slice none 0 0 := fun e => hiff e
  have HE := Lib.hid (bytes_end w w1 n B v' (by simpa using hown) (grown_own (grown_alloc w _ none) hgrow (Nat.le_refl _)) hv)
  clear hown hgrow hiff hv
  go_wp2
  go_ret
  exact HE.out

/-- n noughts. -/
def zeroBytes (n : Nat) : Array Value := madeCells (Value.int .u8 0).cells n
theorem zeroBytes_at (n k : Nat) (h : k < n) : (zeroBytes n)[k]? = some (.int .u8 0) := by
  simp [zeroBytes, madeCells, Value.cells, h, Nat.mod_one]
theorem bytes_new (w : World) (t : TypeId) (n : Nat) : BytesAt (w.alloc (.cells (zeroBytes n) t)) w.heap.size n (fun _ => 0) where
  c := fun i hi => by rw [cell_alloc_new]; exact zeroBytes_at n _ hi
  fz := fun k => frozen_alloc_new ..
  qlt := by simp
theorem make_bytes (w : World) (n : Nat) (hn : n ≤ 65536) : (Instr.makeSlice 26 (.int .i64 (n : Int)) (.int .i64 (n : Int))).run Try.prog w =
    .ok (.slice (some ⟨w.heap.size, 0, none⟩) n n) (w.alloc (.cells (zeroBytes n) 5)) := by
  obtain ⟨i0, hi, hz0, hz1, hz2⟩ := info_parts infoByte
  have h := run_make (P := Try.prog) w 26 5 i0 (.int .u8 0) Try.underlying26 hi hz0 .i64 .i64 n n (by omega) (Int.le_refl _) (by rw [hz2]; omega) (by omega)
  rw [hz1, Nat.mul_one, Int.toNat_natCast] at h
  exact h

/-- Copying bytes into bytes. -/
theorem copy_run {w : World} {q N : Nat} {B : Nat → Nat} (hb : BytesAt w q N B) (o n dcap : Nat) (hon : 0 < n → o + n ≤ N) (S : Nat → Nat) (A : Option Addr) (scap : Nat)
    (hs : n = 0 ∨ ∃ b off, A = some ⟨b, off, none⟩ ∧ ∀ i, i < n → w.cell? ⟨b, off + i, none⟩ = some (.int .u8 (S i : Nat))) :
    ∃ w', (∀ ty, (Builtin.copy_ #[26, 26] ty #[.slice (some ⟨q, o, none⟩) n dcap, .slice A n scap]).run Try.prog w = .ok (goInt n) w') ∧ BytesAt w' q N (Ar.setB B o n S) ∧ w.grownBy w' (some q) := by
  have hsz : (Try.prog.info? 5).map (·.size) = some 1 := by kernel_rfl
  rcases Nat.eq_zero_or_pos n with h0 | h0
  · subst h0
    refine ⟨w, fun ty => run_copy_none w _ _ ty 5 _ _ _ _ _ _ Try.underlying26 hsz rfl, ?_, grown_refl _ _⟩
    have e : Ar.setB B o 0 S = B := by funext i; unfold Ar.setB; rw [if_neg (by omega)]
    rw [e]
    exact hb
  · rcases hs with hs | ⟨b, off, rfl, hs⟩
    · omega
    · have hin := hon h0
      have hrun := fun ty => run_copy_cells (P := Try.prog) w 26 26 ty 5 q o n dcap ⟨b, off, none⟩ n scap (bvals S n) Try.underlying26 hsz (by rw [bvals_length]; simp)
        (fun j v hv => by
          have hj : j < n := by
            have := (List.getElem?_eq_some_iff.1 hv).1
            rwa [bvals_length] at this
          rw [bvals_at S n j hj] at hv
          rw [aaddr_plus, hs j hj, hv])
        (fun j hj => by rw [bvals_length] at hj; rw [hb.c _ (by omega)]; rfl) (fun j _ => hb.fz _) (bvals_one S n)
      rw [bvals_length] at hrun
      refine ⟨_, hrun, ⟨fun i hi => ?_, fun k => by rw [World.frozen?_setCells]; exact hb.fz k, Nat.lt_of_lt_of_le hb.qlt (agrown_setCells q _ _ _).size⟩, agrown_setCells q _ _ _⟩
      unfold Ar.setB
      by_cases hio : o ≤ i ∧ i < o + n
      · rw [if_pos hio]
        have := World.cell?_setCells_in q (bvals S n) o w (fun j hj => by rw [bvals_length] at hj; rw [hb.c _ (by omega)]; rfl) (i - o) (by rw [bvals_length]; omega)
        rw [show o + (i - o) = i by omega] at this
        rw [this]
        have e2 := bvals_at S n (i - o) (by omega)
        rw [List.getElem?_eq_getElem (by rw [bvals_length]; omega)] at e2
        exact e2
      · rw [if_neg hio, World.cell?_setCells_out q _ _ _ _ (fun _ _ => by rw [bvals_length]; simp only; omega)]
        exact hb.c i hi

theorem byt_conv (v k : Nat) : ((v : Int) / 2 ^ (8 * k)) % 256 = ((Ar.byt v k : Nat) : Int) := by
  have e : ((v : Int) / 2 ^ (8 * k)) = ((v / 256 ^ k : Nat) : Int) := by rw [← Ar.two_pow]; simp
  rw [e]
  unfold Ar.byt
  omega
theorem vu8 {a b : Int} (h : a = b) : Value.int .u8 a = .int .u8 b := by rw [h]

set_option maxRecDepth 100000 in
set_option maxHeartbeats 1000000 in
theorem put_at (v : Nat) (w : World) :
    Calls Try.prog 86 #[.int .i64 8, .int .u64 v] w fun e w' => BytesNew w w' 8 (Ar.byt v) e := by
  have hmk : (Instr.makeSlice 26 (.int .i64 8) (.int .i64 8)).run Try.prog w = .ok (.slice (some ⟨w.heap.size, 0, none⟩) 8 8) (w.alloc (.cells (zeroBytes 8) 5)) := make_bytes w 8 (by omega)
  have HN := Lib.hid (bytes_new w 5 8)
  generalize zeroBytes 8 = z at *
  go_enter Try.func86, Try.ntmps86
  go_upto_region 3 with (fail)
  go_cut [5] (fun s wx => s = .slice (some ⟨w.heap.size, 0, none⟩) 8 8 ∧ BytesAt wx w.heap.size 8 (fun _ => 0) ∧ w.grownBy wx none)
  case first =>
    go_wp2
    go_meet
    exact ⟨rfl, HN.out, grown_alloc _ _ _⟩
  case rest =>
    obtain ⟨rfl, hb, hg⟩ := hcut
    have HB := Lib.hid hb
    have HG := Lib.hid hg
    clear hb hg hmk HN
    obtain ⟨q, hq⟩ : ∃ q, q = w.heap.size := ⟨_, rfl⟩
    rw [← hq] at HB ⊢
    have HQ := Lib.hid hq
    clear hq
    go_wp2_with fail
    go_loopw [16] (fun i wr => ∃ k : Nat, k ≤ 8 ∧ i = .int .i64 k ∧ BytesAt wr q 8 (fun i => if i < k then Ar.byt v i else 0) ∧ wc.grownBy wr (some q)) (fun i _ => 8 - (intOf i).toNat)
    case atStart => exact ⟨0, by omega, rfl, by simpa using HB.out, grown_refl _ _⟩
    case round =>
      clear HB
      obtain ⟨k, hk, rfl, hb, hgr⟩ := hrel
      have HB := Lib.hid hb
      have HGR := Lib.hid hgr
      clear hb hgr
      by_cases hlt : k < 8
      · have d0 := HB.out.c k hlt
        have z0 := HB.out.fz
        have HC := Lib.hid (byt_conv v k)
        go_wp2
        go_roundw
        case rel =>
          refine ⟨k + 1, by omega, by go_num, ⟨fun i hi => ?_, fun j => by rw [World.frozen?_setCell]; exact HB.out.fz j, by have := HB.out.qlt; simpa [World.setCell] using this⟩, grown_trans HGR.out (agrown_set _ _ _ _)⟩
          by_cases e : i = k
          · subst e
            rw [World.cell?_setCell_same' _ _ _ (by rw [HB.out.c i hi]; rfl), HC.out, if_pos (by omega)]
          · rw [World.cell?_setCell_other _ _ _ _ (fun x => e (congrArg Addr.off x).symm), HB.out.c i hi]
            by_cases e2 : i < k
            · rw [if_pos e2, if_pos (by omega)]
            · rw [if_neg e2, if_neg (by omega)]
        case measure => simp [intOf]; omega
      · obtain rfl : k = 8 := by omega
        go_wp2
        go_ret
        refine ⟨q, 8, rfl, Nat.le_refl _, by rw [HQ.out]; exact Nat.le_refl _, ⟨fun i hi => by rw [HB.out.c i hi, if_pos hi], HB.out.fz, HB.out.qlt⟩, grown_own HG.out HGR.out (by rw [HQ.out]; exact Nat.le_refl _)⟩
end Go.Proofs.Yticoojcmlkdeiaa.An
