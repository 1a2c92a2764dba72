/- The walks of what makes rows: bitset.New, slices.Clone over words, Copy. -/
import Derived.Test.YtkaoodglnglkdaaDoorC
import Derived.Laws.MakeOwn
import Derived.Deep.RegionWith
import Derived.Deep.QuietTactic
import Derived.BigQuiet
namespace Go.Proofs.YtkaoodglnglkdaaDoor
open Go.RowKit

theorem infoWord : (Tryd.prog.info? 48).map (fun i => (i.zero, i.size, i.bytes)) = some (some (.int .u64 0), 1, 8) := by kernel_rfl
theorem infoInt : (Tryd.prog.info? 3).map (fun i => (i.zero, i.size, i.bytes)) = some (some (.int .i64 0), 1, 8) := by kernel_rfl
theorem infoBool : (Tryd.prog.info? 4).map (fun i => (i.zero, i.size, i.bytes)) = some (some (.bool false), 1, 1) := by kernel_rfl

theorem grown_refl (w : World) (r : Option Nat) : w.grownBy w r := ⟨rfl, rfl, rfl, Nat.le_refl _, fun _ _ _ => rfl⟩
theorem grown_trans {a b c : World} {r : Option Nat} (h : a.grownBy b r) (k : b.grownBy c r) : a.grownBy c r :=
  ⟨k.os.trans h.os, k.tape.trans h.tape, k.output.trans h.output, Nat.le_trans h.size k.size, fun i hi hr => (k.block i (Nat.lt_of_lt_of_le hi h.size) hr).trans (h.block i hi hr)⟩
theorem grown_own {a b c : World} {r : Option Nat} {q : Nat} (h : a.grownBy b r) (k : b.grownBy c (some q)) (hq : a.heap.size ≤ q) : a.grownBy c r :=
  ⟨k.os.trans h.os, k.tape.trans h.tape, k.output.trans h.output, Nat.le_trans h.size k.size, fun i hi hr => (k.block i (Nat.lt_of_lt_of_le hi h.size) (fun e => by injection e; omega)).trans (h.block i hi hr)⟩
theorem grown_none {a b : World} {r : Option Nat} (h : a.grownBy b none) : a.grownBy b r := ⟨h.os, h.tape, h.output, h.size, fun i hi _ => h.block i hi (by simp)⟩
theorem grown_below {a b : World} (h : a.grownBy b none) : Below a.heap.size a b := ⟨h.os, h.tape, h.output, h.size, fun i hi => h.block i hi (by simp)⟩
theorem grown_of_below {a b : World} (h : Below a.heap.size a b) : a.grownBy b none := ⟨h.os, h.tape, h.output, h.size, fun i hi _ => h.block i hi⟩
theorem Tab.grown {w w' : World} {r : Option Nat} (h : Tab w) (hg : w.grownBy w' r) (hr : r ≠ some 0) : Tab w' := fun j hj => hg.cell (h j hj) (fun e => hr e.symm)

/-- A new row: the object and its words lie in new blocks; nothing that was there has turned. -/
def Made (w w' : World) (n : Nat) (ws : List Nat) (e : Ending) : Prop :=
  ∃ p q cap, e = .returned (.pointer (some ⟨p, 0, none⟩)) ∧ SetAt w' p q n cap ws ∧ w.heap.size ≤ p ∧ w.heap.size ≤ q ∧ w.grownBy w' none

def zeros (n : Nat) : List Nat := List.replicate ((n + 63) / 64) 0
theorem zeros_getD (n k : Nat) : (zeros n).getD k 0 = 0 := by simp [zeros, List.getD_eq_getElem?_getD, List.getElem?_replicate]; split <;> rfl
theorem zeros_bit (n i : Nat) : M.bit (zeros n) i = false := by unfold M.bit; rw [zeros_getD]; simp

theorem made_cell (v : Value) (hv : v.cells = #[v]) (n k : Nat) (hk : k < n) : (madeCells v.cells n)[k]? = some v := by
  rw [hv]
  simp [madeCells, hk, Nat.mod_one]

theorem cell_alloc_new (w : World) (cs : Array Value) (t : TypeId) (k : Nat) : (w.alloc (.cells cs t)).cell? ⟨w.heap.size, k, none⟩ = cs[k]? := by
  have h : (w.alloc (.cells cs t)).heap[w.heap.size]? = some (.cells cs t) := heap_alloc_new w _
  simp only [World.cell?, h]
  rfl
theorem frozen_alloc_new (w : World) (cs : Array Value) (t : TypeId) (k : Nat) : (w.alloc (.cells cs t)).frozen? ⟨w.heap.size, k, none⟩ = false := by
  have h : (w.alloc (.cells cs t)).heap[w.heap.size]? = some (.cells cs t) := heap_alloc_new w _
  simp only [World.frozen?, h]
  simp

theorem new_made (w : World) (n : Nat) (hn : n ≤ 65536) :
    Made w ((w.alloc (.cells (madeCells (Value.int .u64 0).cells ((n + 63) / 64)) 48)).alloc (.cells #[.int .i64 n, .slice (some ⟨w.heap.size, 0, none⟩) ((n + 63) / 64) ((n + 63) / 64)] 47)) n (zeros n)
      (.returned (.pointer (some ⟨w.heap.size + 1, 0, none⟩))) := by
  have hz : (zeros n).length = (n + 63) / 64 := by simp [zeros]
  have hs : (w.alloc (.cells (madeCells (Value.int .u64 0).cells ((n + 63) / 64)) 48)).heap.size = w.heap.size + 1 := by simp
  refine ⟨w.heap.size + 1, w.heap.size, (n + 63) / 64, rfl, ?_, by omega, Nat.le_refl _, grown_trans (World.grownBy_alloc _ _ _) (World.grownBy_alloc _ _ _)⟩
  have g := World.grownBy_alloc (w.alloc (.cells (madeCells (Value.int .u64 0).cells ((n + 63) / 64)) 48)) (.cells #[.int .i64 n, .slice (some ⟨w.heap.size, 0, none⟩) ((n + 63) / 64) ((n + 63) / 64)] 47) none
  exact {
    c0 := by rw [← hs, cell_alloc_new]; rfl
    c1 := by rw [← hs, cell_alloc_new, hz]; rfl
    row := fun k hk => by
      rw [hz] at hk
      refine g.cell ?_ (by simp)
      rw [cell_alloc_new, made_cell _ rfl _ _ hk, zeros_getD]
      rfl
    fz := fun k => by
      rw [World.frozen?_of_block (w := w.alloc (.cells (madeCells (Value.int .u64 0).cells ((n + 63) / 64)) 48)) (g.block _ (by simp) (by simp))]
      exact frozen_alloc_new ..
    ne := by omega
    qlt := by simp; omega
    hcap := by rw [hz]; exact Nat.le_refl _
    len := hz
    small := hn
    lt := fun k => by rw [zeros_getD]; decide
    top := fun i _ => zeros_bit n i }

theorem make_words (w : World) (n : Nat) (hn : n ≤ 65536) : (Instr.makeSlice 45 (.int .i64 (((n : Int) + 64 - 1) / 64)) (.int .i64 (((n : Int) + 64 - 1) / 64))).run Tryd.prog w =
    .ok (.slice (some ⟨w.heap.size, 0, none⟩) ((n + 63) / 64) ((n + 63) / 64)) (w.alloc (.cells (madeCells (Value.int .u64 0).cells ((n + 63) / 64)) 48)) := by
  obtain ⟨i0, hi, hz0, hz1, hz2⟩ := info_parts infoWord
  have h := run_make (P := Tryd.prog) w 45 48 i0 (.int .u64 0) Tryd.underlying45 hi hz0 .i64 .i64 (((n : Int) + 64 - 1) / 64) (((n : Int) + 64 - 1) / 64) (by omega) (Int.le_refl _) (by rw [hz2]; omega) (by omega)
  have e : (((n : Int) + 64 - 1) / 64).toNat = (n + 63) / 64 := by omega
  rw [e, hz1, Nat.mul_one] at h
  exact h

set_option maxHeartbeats 400000 in
theorem new_core (n : Int) (N : Nat) (w : World) (hN : N ≤ 65536) (h1 : n < 0 → N = 0) (h2 : 0 ≤ n → n ≤ 65536 → n = N) (h3 : 65536 < n → N = 65536) :
    Calls Tryd.prog 7 #[.int .i64 n] w fun e w' => Made w w' N (zeros N) e := by
  have H1 := Lib.hid h1
  have H2 := Lib.hid h2
  have H3 := Lib.hid h3
  clear h1 h2 h3
  go_enter Tryd.func7, Tryd.ntmps7
  go_upto_region 1 with (fail)
  go_cut [0] (fun s0 wx => s0 = .int .i64 N ∧ wx = w)
  case first =>
    by_cases hn : n < 0
    · obtain rfl := H1.out hn
      go_wp2
      go_meet
      exact ⟨rfl, rfl⟩
    · have hn0 : 0 ≤ n := by omega
      by_cases hm : n ≤ 65536
      · obtain rfl := H2.out hn0 hm
        go_wp2
        go_meet
        exact ⟨rfl, rfl⟩
      · have hm' : 65536 < n := by omega
        obtain rfl := H3.out hm'
        go_wp2
        go_meet
        exact ⟨rfl, rfl⟩
  case rest =>
    obtain ⟨rfl, rfl⟩ := hcut
    have hmk := make_words wc N hN
    go_wp2
    go_ret
    exact new_made wc N hN
def clampN (n : Int) : Nat := if n < 0 then 0 else if n ≤ 65536 then n.toNat else 65536
theorem clampN_le (n : Int) : clampN n ≤ 65536 := by unfold clampN; split <;> (try split) <;> omega
theorem new_at (n : Int) (w : World) : Calls Tryd.prog 7 #[.int .i64 n] w fun e w' => Made w w' (clampN n) (zeros (clampN n)) e :=
  new_core n (clampN n) w (clampN_le n) (fun h => by simp [clampN, h]) (fun h k => by simp [clampN, show ¬ n < 0 by omega, k]; omega) (fun h => by simp [clampN, show ¬ n < 0 by omega, show ¬ n ≤ 65536 by omega])

set_option maxHeartbeats 400000 in
theorem copy_nil (w : World) : Calls Tryd.prog 13 #[.pointer none] w fun e w' => e = .returned (.pointer none) ∧ w = w' := by
  go_enter Tryd.func13, Tryd.ntmps13
  go_wp2
  go_ret
  exact ⟨rfl, rfl⟩

theorem addr_add (q j : Nat) : (⟨q, 0, none⟩ : Addr).add j = ⟨q, j, none⟩ := by
  by_cases h : j = 0
  · subst h; rfl
  · simp [Addr.add, h]

/-- A slice of words of the call's own. -/
def Words (w w' : World) (ws : List Nat) (e : Ending) : Prop :=
  ∃ q cap, e = .returned (.slice (some ⟨q, 0, none⟩) ws.length cap) ∧ ws.length ≤ cap ∧ w.heap.size ≤ q ∧ q < w'.heap.size ∧ (∀ k, k < ws.length → w'.cell? ⟨q, k, none⟩ = some (.int .u64 (ws.getD k 0 : Nat))) ∧
    (∀ k, w'.frozen? ⟨q, k, none⟩ = false) ∧ w.grownBy w' none

theorem clone_end (w w' : World) (ws : List Nat) (v : Value) (hown : w'.ownsRow w.heap.size 48 1 v ws.length (ws.map fun (x : Nat) => Value.int .u64 x)) (hg : w.grownBy w' none) (hv : v ≠ .slice none 0 0) : Words w w' ws (.returned v) := by
  obtain ⟨-, hn | ⟨g, cap, cur, rfl, hbg, hh, hnc, hcm, hcs, htake⟩⟩ := hown
  · exact absurd hn.1 hv
  · refine ⟨g, cap, rfl, hnc, hbg, (Array.getElem?_eq_some_iff.1 hh).1, fun k hk => ?_, fun k => ?_, hg⟩
    · have e : w'.cell? ⟨g, k, none⟩ = cur[k]? := by simp only [World.cell?, hh]; rfl
      have t := congrArg (fun l => l[k]?) htake
      simp only [List.getElem?_take, Nat.mul_one, hk, if_true, Array.getElem?_toList, List.getElem?_map] at t
      rw [e, t, List.getD_eq_getElem?_getD, List.getElem?_eq_getElem hk]
      rfl
    · simp only [World.frozen?, hh]
      simp

set_option maxHeartbeats 400000 in
theorem clone_at (q cap : Nat) (ws : List Nat) (w : World) (hlen : ws.length ≤ 1024) (hrow : ∀ k, k < ws.length → w.cell? ⟨q, k, none⟩ = some (.int .u64 (ws.getD k 0 : Nat))) :
    Calls Tryd.prog 23 #[.slice (some ⟨q, 0, none⟩) ws.length cap] w fun e w' => Words w w' ws e := by
  have HR := Lib.hid hrow
  clear hrow
  obtain ⟨i0, hi, hz0, hz1, hz2⟩ := info_parts infoWord
  have hnil := fun (w : World) => Lib.run_eql_slice_nil (P := Tryd.prog) w 45 48 (some ⟨q, 0, none⟩) ws.length cap 0 0 Tryd.underlying45
  go_enter Tryd.func23, Tryd.ntmps23
  go_wp2_with (at_builtin; refine wpList_append_own _ rfl _ _ 45 rfl w.heap.size 48 i0 (.int .u64 0) 1 8 Tryd.underlying45 hi hz0 hz1 hz2 rfl (by decide) _ _ _ rfl (World.ownsRow_made w #[] 0 (Nat.le_refl _) (Nat.zero_le _) rfl) ⟨q, 0, none⟩ ws.length cap (ws.map fun (x : Nat) => Value.int .u64 x) rfl ?c1 ?c2 ?c3 ?c4 ?c5 ?c6 ?_)
  case c1 => simp
  case c2 =>
    intro j u hj
    obtain ⟨hk, he⟩ := List.getElem?_eq_some_iff.1 hj
    have hk' : j < ws.length := by simpa using hk
    have hc := HR.out j hk'
    have e : ws.getD j 0 = ws[j] := by rw [List.getD_eq_getElem?_getD, List.getElem?_eq_getElem hk']; rfl
    have hu : u = Value.int .u64 (ws.getD j 0 : Nat) := by rw [e, ← he]; simp
    rw [hu]
    have h2 := (World.grownBy_alloc w (.cells #[] 48) none).cell hc (by simp)
    rw [addr_add]
    exact h2
  case c3 =>
    intro u hu
    obtain ⟨x, _, rfl⟩ := List.mem_map.1 hu
    rfl
  case c4 => simp only [maxLen]; omega
  case c5 => omega
  case c6 => simp
  intro v' w1 hown hgrow hiff
  have hv : v' ≠ .slice none 0 0 := fun e => hiff e
  have HE := Lib.hid (clone_end w w1 ws v' hown (grown_own (World.grownBy_alloc w _ none) hgrow (Nat.le_refl _)) hv)
  clear hown hgrow hiff hv
  go_wp2
  go_ret
  exact HE.out

theorem copy_end (w w1 : World) (n q cap : Nat) (ws : List Nat) (hcap : ws.length ≤ cap) (hq : w.heap.size ≤ q) (hql : q < w1.heap.size) (hrow : ∀ k, k < ws.length → w1.cell? ⟨q, k, none⟩ = some (.int .u64 (ws.getD k 0 : Nat)))
    (hfz : ∀ k, w1.frozen? ⟨q, k, none⟩ = false) (hg : w.grownBy w1 none) (hlen : ws.length = (n + 63) / 64) (hn : n ≤ 65536) (hlt : ∀ k, ws.getD k 0 < 18446744073709551616) (htop : ∀ i, n ≤ i → M.bit ws i = false) :
    Made w (w1.alloc (.cells #[.int .i64 n, .slice (some ⟨q, 0, none⟩) ws.length cap] 47)) n ws (.returned (.pointer (some ⟨w1.heap.size, 0, none⟩))) := by
  have g := World.grownBy_alloc w1 (.cells #[.int .i64 n, .slice (some ⟨q, 0, none⟩) ws.length cap] 47) none
  refine ⟨w1.heap.size, q, cap, rfl, ?_, hg.size, hq, grown_trans hg g⟩
  exact {
    c0 := by rw [cell_alloc_new]; rfl
    c1 := by rw [cell_alloc_new]; rfl
    row := fun k hk => g.cell (hrow k hk) (by simp)
    fz := fun k => by rw [World.frozen?_of_block (w := w1) (g.block q hql (by simp))]; exact hfz k
    ne := by omega
    qlt := Nat.lt_of_lt_of_le hql g.size
    hcap := hcap
    len := hlen
    small := hn
    lt := hlt
    top := htop }
theorem grown_drew {a b : World} {r : Option Nat} (h : a.grownBy b r) (d : Nat) : a.grownBy (b.drewN d) r := ⟨h.os, h.tape, h.output, h.size, h.block⟩
theorem grown_drewN {a b : World} {d : Nat} {r : Option Nat} (h : (a.drewN d).grownBy b r) : a.grownBy b r := ⟨h.os, h.tape, h.output, h.size, h.block⟩
set_option maxHeartbeats 1000000 in
theorem copy_core (p q n cap : Nat) (ws : List Nat) (w : World) (hc0 : w.cell? ⟨p, 0, none⟩ = some (.int .i64 n)) (hc1 : w.cell? ⟨p, 1, none⟩ = some (.slice (some ⟨q, 0, none⟩) ws.length cap))
    (hcl : ∀ d, Calls Tryd.prog 23 #[.slice (some ⟨q, 0, none⟩) ws.length cap] (w.drewN d) fun e w' => Words w w' ws e)
    (hlen : ws.length = (n + 63) / 64) (hn : n ≤ 65536) (hlt : ∀ k, ws.getD k 0 < 18446744073709551616) (htop : ∀ i, n ≤ i → M.bit ws i = false) :
    Calls Tryd.prog 13 #[.pointer (some ⟨p, 0, none⟩)] w fun e w' => Made w w' n ws e := by
  have HCL := Lib.hid hcl
  have HLEN := Lib.hid hlen
  have HLT := Lib.hid hlt
  have HTOP := Lib.hid htop
  clear hcl hlen hlt htop
  go_enter Tryd.func13, Tryd.ntmps13
  go_wp2_with fail
  go_region_with (go_at_call 23; refine (HCL.out 1).mono ?_; rintro e w1 ⟨q1, cap1, rfl, k1, k2, k3, k4, k5, k6⟩; have m0 := k6.cell hc0 (by simp); have m1 := k6.cell hc1 (by simp); have K := Lib.hid (And.intro k1 (And.intro k2 (And.intro k3 (And.intro k4 (And.intro k5 k6))))); clear k1 k2 k3 k4 k5 k6)
  all_goals
    go_wp2
    go_ret
    obtain ⟨k1, k2, k3, k4, k5, k6⟩ := K.out
    exact copy_end w w1 n q1 cap1 ws k1 k2 k3 k4 k5 k6 HLEN.out hn HLT.out HTOP.out
/-- Copy: a new row that is the same. -/
theorem copy_at {w : World} {p q n cap : Nat} {ws : List Nat} (h : SetAt w p q n cap ws) :
    Calls Tryd.prog 13 #[.pointer (some ⟨p, 0, none⟩)] w fun e w' => Made w w' n ws e :=
  copy_core p q n cap ws w h.c0 h.c1 (fun d => (clone_at q cap ws (w.drewN d) (by have := h.len; have := h.small; omega) (fun k hk => h.row k hk)).mono fun _ _ ⟨q', cap', he, k1, k2, k3, k4, k5, k6⟩ => ⟨q', cap', he, k1, k2, k3, k4, k5, grown_drewN k6⟩) h.len h.small h.lt h.top
end Go.Proofs.YtkaoodglnglkdaaDoor
