/- The walks of what makes rows: bitset.New, slices.Clone over words, Copy. -/
import Derived.LoopTactic
import Derived.Deep.DeepCutAuto
import Derived.Outline
import Derived.Test.YticoojcmlkdeiaaB
import Derived.Laws.MakeOwn
import Derived.Deep.RegionWith
import Derived.Deep.QuietTactic
import Derived.BigQuiet
namespace Go.Proofs.Yticoojcmlkdeiaa.Bs
open Go.RowKit

theorem infoWord : (Try.prog.info? 22).map (fun i => (i.zero, i.size, i.bytes)) = some (some (.int .u64 0), 1, 8) := by kernel_rfl
theorem infoInt : (Try.prog.info? 3).map (fun i => (i.zero, i.size, i.bytes)) = some (some (.int .i64 0), 1, 8) := by kernel_rfl
theorem infoBool : (Try.prog.info? 4).map (fun i => (i.zero, i.size, i.bytes)) = some (some (.bool false), 1, 1) := by kernel_rfl

theorem grown_refl (w : World) (r : Option Nat) : w.grownBy w r := ⟨rfl, rfl, rfl, Nat.le_refl _, fun _ _ _ => rfl⟩
theorem grown_trans {a b c : World} {r : Option Nat} (h : a.grownBy b r) (k : b.grownBy c r) : a.grownBy c r :=
  ⟨k.os.trans h.os, k.tape.trans h.tape, k.output.trans h.output, Nat.le_trans h.size k.size, fun i hi hr => (k.block i (Nat.lt_of_lt_of_le hi h.size) hr).trans (h.block i hi hr)⟩
theorem grown_own {a b c : World} {r : Option Nat} {q : Nat} (h : a.grownBy b r) (k : b.grownBy c (some q)) (hq : a.heap.size ≤ q) : a.grownBy c r :=
  ⟨k.os.trans h.os, k.tape.trans h.tape, k.output.trans h.output, Nat.le_trans h.size k.size, fun i hi hr => (k.block i (Nat.lt_of_lt_of_le hi h.size) (fun e => by injection e; omega)).trans (h.block i hi hr)⟩
theorem grown_none {a b : World} {r : Option Nat} (h : a.grownBy b none) : a.grownBy b r := ⟨h.os, h.tape, h.output, h.size, fun i hi _ => h.block i hi (by simp)⟩
theorem grown_below {a b : World} (h : a.grownBy b none) : Below a.heap.size a b := ⟨h.os, h.tape, h.output, h.size, fun i hi => h.block i hi (by simp)⟩
theorem grown_of_below {a b : World} (h : Below a.heap.size a b) : a.grownBy b none := ⟨h.os, h.tape, h.output, h.size, fun i hi _ => h.block i hi⟩
/-- A new row: the object and its words lie in new blocks; nothing that was there has turned. -/
def Made (w w' : World) (n : Nat) (ws : List Nat) (e : Ending) : Prop :=
  ∃ p q cap, e = .returned (.pointer (some ⟨p, 0, none⟩)) ∧ SetAt w' p q n cap ws ∧ w.heap.size ≤ p ∧ w.heap.size ≤ q ∧ w.grownBy w' none

def zeros (n : Nat) : List Nat := List.replicate ((n + 63) / 64) 0
theorem zeros_getD (n k : Nat) : (zeros n).getD k 0 = 0 := by simp [zeros, List.getD_eq_getElem?_getD, List.getElem?_replicate]; split <;> rfl
theorem zeros_bit (n i : Nat) : M.bit (zeros n) i = false := by unfold M.bit; rw [zeros_getD]; simp

theorem made_cell (v : Value) (hv : v.cells = #[v]) (n k : Nat) (hk : k < n) : (madeCells v.cells n)[k]? = some v := by
  rw [hv]
  simp [madeCells, hk, Nat.mod_one]

theorem cell_alloc_new (w : World) (cs : Array Value) (t : TypeId) (k : Nat) : (w.alloc (.cells cs t)).cell? ⟨w.heap.size, k, none⟩ = cs[k]? := by
  have h : (w.alloc (.cells cs t)).heap[w.heap.size]? = some (.cells cs t) := heap_alloc_new w _
  simp only [World.cell?, h]
  rfl
theorem frozen_alloc_new (w : World) (cs : Array Value) (t : TypeId) (k : Nat) : (w.alloc (.cells cs t)).frozen? ⟨w.heap.size, k, none⟩ = false := by
  have h : (w.alloc (.cells cs t)).heap[w.heap.size]? = some (.cells cs t) := heap_alloc_new w _
  simp only [World.frozen?, h]
  simp

theorem new_made (w : World) (n : Nat) (hn : n ≤ 65536) :
    Made w ((w.alloc (.cells (madeCells (Value.int .u64 0).cells ((n + 63) / 64)) 22)).alloc (.cells #[.int .i64 n, .slice (some ⟨w.heap.size, 0, none⟩) ((n + 63) / 64) ((n + 63) / 64)] 117)) n (zeros n)
      (.returned (.pointer (some ⟨w.heap.size + 1, 0, none⟩))) := by
  have hz : (zeros n).length = (n + 63) / 64 := by simp [zeros]
  have hs : (w.alloc (.cells (madeCells (Value.int .u64 0).cells ((n + 63) / 64)) 22)).heap.size = w.heap.size + 1 := by simp
  refine ⟨w.heap.size + 1, w.heap.size, (n + 63) / 64, rfl, ?_, by omega, Nat.le_refl _, grown_trans (World.grownBy_alloc _ _ _) (World.grownBy_alloc _ _ _)⟩
  have g := World.grownBy_alloc (w.alloc (.cells (madeCells (Value.int .u64 0).cells ((n + 63) / 64)) 22)) (.cells #[.int .i64 n, .slice (some ⟨w.heap.size, 0, none⟩) ((n + 63) / 64) ((n + 63) / 64)] 117) none
  exact {
    c0 := by rw [← hs, cell_alloc_new]; rfl
    c1 := by rw [← hs, cell_alloc_new, hz]; rfl
    row := fun k hk => by
      rw [hz] at hk
      refine g.cell ?_ (by simp)
      rw [cell_alloc_new, made_cell _ rfl _ _ hk, zeros_getD]
      rfl
    fz := fun k => by
      rw [World.frozen?_of_block (w := w.alloc (.cells (madeCells (Value.int .u64 0).cells ((n + 63) / 64)) 22)) (g.block _ (by simp) (by simp))]
      exact frozen_alloc_new ..
    ne := by omega
    qlt := by simp; omega
    hcap := by rw [hz]; exact Nat.le_refl _
    len := hz
    small := hn
    lt := fun k => by rw [zeros_getD]; decide
    top := fun i _ => zeros_bit n i }

theorem make_words (w : World) (n : Nat) (hn : n ≤ 65536) : (Instr.makeSlice 115 (.int .i64 (((n : Int) + 64 - 1) / 64)) (.int .i64 (((n : Int) + 64 - 1) / 64))).run Try.prog w =
    .ok (.slice (some ⟨w.heap.size, 0, none⟩) ((n + 63) / 64) ((n + 63) / 64)) (w.alloc (.cells (madeCells (Value.int .u64 0).cells ((n + 63) / 64)) 22)) := by
  obtain ⟨i0, hi, hz0, hz1, hz2⟩ := info_parts infoWord
  have h := run_make (P := Try.prog) w 115 22 i0 (.int .u64 0) Try.underlying115 hi hz0 .i64 .i64 (((n : Int) + 64 - 1) / 64) (((n : Int) + 64 - 1) / 64) (by omega) (Int.le_refl _) (by rw [hz2]; omega) (by omega)
  have e : (((n : Int) + 64 - 1) / 64).toNat = (n + 63) / 64 := by omega
  rw [e, hz1, Nat.mul_one] at h
  exact h

set_option maxHeartbeats 400000 in
theorem new_core (n : Int) (N : Nat) (w : World) (hN : N ≤ 65536) (h1 : n < 0 → N = 0) (h2 : 0 ≤ n → n ≤ 65536 → n = N) (h3 : 65536 < n → N = 65536) :
    Calls Try.prog 88 #[.int .i64 n] w fun e w' => Made w w' N (zeros N) e := by
  have H1 := Lib.hid h1
  have H2 := Lib.hid h2
  have H3 := Lib.hid h3
  clear h1 h2 h3
  go_enter Try.func88, Try.ntmps88
  go_upto_region 1 with (fail)
  go_cut [0] (fun s0 wx => s0 = .int .i64 N ∧ wx = w)
  case first =>
    by_cases hn : n < 0
    · obtain rfl := H1.out hn
      go_wp2
      go_meet
      exact ⟨rfl, rfl⟩
    · have hn0 : 0 ≤ n := by omega
      by_cases hm : n ≤ 65536
      · obtain rfl := H2.out hn0 hm
        go_wp2
        go_meet
        exact ⟨rfl, rfl⟩
      · have hm' : 65536 < n := by omega
        obtain rfl := H3.out hm'
        go_wp2
        go_meet
        exact ⟨rfl, rfl⟩
  case rest =>
    obtain ⟨rfl, rfl⟩ := hcut
    have hmk := make_words wc N hN
    go_wp2
    go_ret
    exact new_made wc N hN
def clampN (n : Int) : Nat := if n < 0 then 0 else if n ≤ 65536 then n.toNat else 65536
theorem clampN_le (n : Int) : clampN n ≤ 65536 := by unfold clampN; split <;> (try split) <;> omega
theorem new_at (n : Int) (w : World) : Calls Try.prog 88 #[.int .i64 n] w fun e w' => Made w w' (clampN n) (zeros (clampN n)) e :=
  new_core n (clampN n) w (clampN_le n) (fun h => by simp [clampN, h]) (fun h k => by simp [clampN, show ¬ n < 0 by omega, k]; omega) (fun h => by simp [clampN, show ¬ n < 0 by omega, show ¬ n ≤ 65536 by omega])

theorem addr_add (q j : Nat) : (⟨q, 0, none⟩ : Addr).add j = ⟨q, j, none⟩ := by
  by_cases h : j = 0
  · subst h; rfl
  · simp [Addr.add, h]

/-- A slice of words of the call's own. -/
def Words (w w' : World) (ws : List Nat) (e : Ending) : Prop :=
  ∃ q cap, e = .returned (.slice (some ⟨q, 0, none⟩) ws.length cap) ∧ ws.length ≤ cap ∧ w.heap.size ≤ q ∧ q < w'.heap.size ∧ (∀ k, k < ws.length → w'.cell? ⟨q, k, none⟩ = some (.int .u64 (ws.getD k 0 : Nat))) ∧
    (∀ k, w'.frozen? ⟨q, k, none⟩ = false) ∧ w.grownBy w' none

theorem clone_end (w w' : World) (ws : List Nat) (v : Value) (hown : w'.ownsRow w.heap.size 22 1 v ws.length (ws.map fun (x : Nat) => Value.int .u64 x)) (hg : w.grownBy w' none) (hv : v ≠ .slice none 0 0) : Words w w' ws (.returned v) := by
  obtain ⟨-, hn | ⟨g, cap, cur, rfl, hbg, hh, hnc, hcm, hcs, htake⟩⟩ := hown
  · exact absurd hn.1 hv
  · refine ⟨g, cap, rfl, hnc, hbg, (Array.getElem?_eq_some_iff.1 hh).1, fun k hk => ?_, fun k => ?_, hg⟩
    · have e : w'.cell? ⟨g, k, none⟩ = cur[k]? := by simp only [World.cell?, hh]; rfl
      have t := congrArg (fun l => l[k]?) htake
      simp only [List.getElem?_take, Nat.mul_one, hk, if_true, Array.getElem?_toList, List.getElem?_map] at t
      rw [e, t, List.getD_eq_getElem?_getD, List.getElem?_eq_getElem hk]
      rfl
    · simp only [World.frozen?, hh]
      simp

theorem copy_end (w w1 : World) (n q cap : Nat) (ws : List Nat) (hcap : ws.length ≤ cap) (hq : w.heap.size ≤ q) (hql : q < w1.heap.size) (hrow : ∀ k, k < ws.length → w1.cell? ⟨q, k, none⟩ = some (.int .u64 (ws.getD k 0 : Nat)))
    (hfz : ∀ k, w1.frozen? ⟨q, k, none⟩ = false) (hg : w.grownBy w1 none) (hlen : ws.length = (n + 63) / 64) (hn : n ≤ 65536) (hlt : ∀ k, ws.getD k 0 < 18446744073709551616) (htop : ∀ i, n ≤ i → M.bit ws i = false) :
    Made w (w1.alloc (.cells #[.int .i64 n, .slice (some ⟨q, 0, none⟩) ws.length cap] 117)) n ws (.returned (.pointer (some ⟨w1.heap.size, 0, none⟩))) := by
  have g := World.grownBy_alloc w1 (.cells #[.int .i64 n, .slice (some ⟨q, 0, none⟩) ws.length cap] 117) none
  refine ⟨w1.heap.size, q, cap, rfl, ?_, hg.size, hq, grown_trans hg g⟩
  exact {
    c0 := by rw [cell_alloc_new]; rfl
    c1 := by rw [cell_alloc_new]; rfl
    row := fun k hk => g.cell (hrow k hk) (by simp)
    fz := fun k => by rw [World.frozen?_of_block (w := w1) (g.block q hql (by simp))]; exact hfz k
    ne := by omega
    qlt := Nat.lt_of_lt_of_le hql g.size
    hcap := hcap
    len := hlen
    small := hn
    lt := hlt
    top := htop }
theorem grown_drew {a b : World} {r : Option Nat} (h : a.grownBy b r) (d : Nat) : a.grownBy (b.drewN d) r := ⟨h.os, h.tape, h.output, h.size, h.block⟩
theorem grown_drewN {a b : World} {d : Nat} {r : Option Nat} (h : (a.drewN d).grownBy b r) : a.grownBy b r := ⟨h.os, h.tape, h.output, h.size, h.block⟩
end Go.Proofs.Yticoojcmlkdeiaa.Bs
