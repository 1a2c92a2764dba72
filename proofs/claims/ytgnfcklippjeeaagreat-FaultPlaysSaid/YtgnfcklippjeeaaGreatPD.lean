/- The document's ledger: New, Took. -/
import Derived.Test.YtgnfcklippjeeaaGreatPC
namespace Go.Proofs.YtgnfcklippjeeaaGreat
open Go.RowKit
open Sl (Cls bs upd)
open Lg (pgs)
open Rf (LZ)

theorem infoBool : (Tryz.prog.info? 4).map (fun i => (i.zero, i.size, i.bytes)) = some (some (.bool false), 1, 1) := by kernel_rfl
def zeroBools (n : Nat) : Array Value := madeCells (Value.bool false).cells n
theorem zeroBools_at (n k : Nat) (h : k < n) : (zeroBools n)[k]? = some (.bool false) := by
  simp [zeroBools, madeCells, Value.cells, h, Nat.mod_one]
theorem bools_new (w : World) (t : TypeId) (n : Nat) : ValsAt (w.alloc (.cells (zeroBools n) t)) w.heap.size n (fun _ => .bool false) where
  c := fun i hi => by rw [cell_alloc_new]; exact zeroBools_at n _ hi
  fz := fun k => frozen_alloc_new ..
  qlt := by simp
theorem make_bools (w : World) (n : Nat) (hn : n ≤ 65536) : (Instr.makeSlice 90 (.int .i64 (n : Int)) (.int .i64 (n : Int))).run Tryz.prog w =
    .ok (.slice (some ⟨w.heap.size, 0, none⟩) n n) (w.alloc (.cells (zeroBools n) 4)) := by
  obtain ⟨i0, hi, hz0, hz1, hz2⟩ := info_parts infoBool
  have h := run_make (P := Tryz.prog) w 90 4 i0 (.bool false) Tryz.underlying90 hi hz0 .i64 .i64 n n (by omega) (Int.le_refl _) (by rw [hz2]; omega) (by omega)
  rw [hz1, Nat.mul_one, Int.toNat_natCast] at h
  exact h
def DlNew (w w' : World) (r N : Nat) (e : Ending) : Prop := ∃ l q, e = .returned (.pointer (some ⟨l, 0, none⟩)) ∧ DlAt w' l r q N N (fun _ => false) ∧ w.heap.size ≤ l ∧ w.heap.size ≤ q ∧ w.grownBy w' none
set_option maxRecDepth 100000 in
set_option maxHeartbeats 1000000 in
theorem dlnew_at {w : World} {T : Nat → Nat} {D : Dp} {V : St} (h : DrAt w T D V) :
    Calls Tryz.prog 36 #[.pointer (some ⟨D.p, 0, none⟩)] w fun e w' => DlNew w w' D.p (V.n * 256) e := by
  obtain ⟨qb, cb, b1, b2, b3, b4⟩ := h.bt
  have hn := h.ok.n256
  have hmk := make_bools w (V.n * 256) (by omega)
  have HEND : Hid (DlNew w ((w.alloc (.cells (zeroBools (V.n * 256)) 4)).alloc (.cells #[.pointer (some ⟨D.p, 0, none⟩), .slice (some ⟨w.heap.size, 0, none⟩) (V.n * 256) (V.n * 256)] 92)) D.p (V.n * 256) (.returned (.pointer (some ⟨w.heap.size + 1, 0, none⟩)))) := Lib.hid (by
    have ga := grown_alloc w (.cells (zeroBools (V.n * 256)) 4) none
    have gb := grown_alloc (w.alloc (.cells (zeroBools (V.n * 256)) 4)) (.cells #[.pointer (some ⟨D.p, 0, none⟩), .slice (some ⟨w.heap.size, 0, none⟩) (V.n * 256) (V.n * 256)] 92) none
    have hs : w.heap.size + 1 = (w.alloc (.cells (zeroBools (V.n * 256)) 4)).heap.size := by simp
    refine ⟨w.heap.size + 1, w.heap.size, rfl, ⟨?_, ?_, (bools_new w 4 (V.n * 256)).grown gb (by simp), by omega⟩, by omega, Nat.le_refl _, grown_trans ga gb⟩ <;> (rw [hs, cell_alloc_new]; rfl))
  clear h b2 b3 b4 hn
  generalize V.n * 256 = N at *
  go_enter Tryz.func36, Tryz.ntmps36
  go_wp2
  go_ret
  simpa using HEND.out
end Go.Proofs.YtgnfcklippjeeaaGreat
