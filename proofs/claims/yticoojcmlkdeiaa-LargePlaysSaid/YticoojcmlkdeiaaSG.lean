/- The walks of slab.Make. -/
import Derived.Test.YticoojcmlkdeiaaSF
namespace Go.Proofs.Yticoojcmlkdeiaa
open Go.RowKit
open Sl (Cls bs upd)

set_option maxHeartbeats 400000 in
theorem smk_nil (k : Nat) (page c o : Int) (w : World) :
    Calls Try.prog 22 #[.pointer none, .agg #[.int .u64 k], .int .i64 page, .int .i64 c, .int .i64 o] w fun e w' => e = .returned (.tuple #[.pointer none, .int .i64 2]) ∧ w.grownBy w' none := by
  go_enter Try.func22, Try.ntmps22
  go_wp2
  go_ret2
  exact ⟨rfl, grown_alloc _ _ _⟩
set_option maxRecDepth 100000 in
set_option maxHeartbeats 1000000 in
theorem smk_bad {w : World} {pa qa N cap : Nat} {B : Nat → Nat} {wk : Option Addr} (k : Nat) (page c o : Int) (h : An.ArAt w pa qa N cap B wk) (hb : LayBad N page c) :
    Calls Try.prog 22 #[.pointer (some ⟨pa, 0, none⟩), .agg #[.int .u64 k], .int .i64 page, .int .i64 c, .int .i64 o] w fun e w' => e = .returned (.tuple #[.pointer none, .int .i64 1]) ∧ w.grownBy w' none := by
  have HL := Lib.hid (fun W p (g : w.grownBy W none) c0 c2 c3 => lay_bad (p := p) (h.grown g (by simp) (by simp)) c0 c2 c3 hb)
  clear h hb
  go_enter Try.func22, Try.ntmps22
  go_upto_region 4 with (fail)
  have g1 := grown_trans (grown_alloc w (.cells #[.int .u64 k] 52) none) (grown_alloc (w.alloc (.cells #[.int .u64 k] 52)) (.cells #[.pointer (some ⟨pa, 0, none⟩), .int .u64 k, .int .i64 page, .int .i64 c, .int .i64 o, .pointer none, .pointer none, .int .i64 0] 79) none)
  have s1 : (w.alloc (.cells #[.int .u64 k] 52)).heap.size = w.heap.size + 1 := by simp
  have HC := Lib.hid (HL.out _ (w.heap.size + 1) g1 (by rw [← s1, cell_alloc_new]; rfl) (by rw [← s1, cell_alloc_new]; rfl) (by rw [← s1, cell_alloc_new]; rfl))
  have HG := Lib.hid g1
  clear HL g1 s1
  go_wp2_with fail
  refine HC.out.mono ?_
  rintro e w2 ⟨rfl, hg⟩
  have HG2 := Lib.hid (grown_trans HG.out hg)
  clear hg HC HG
  go_wp2
  go_ret2
  exact ⟨rfl, HG2.out⟩

/-- A new slab. -/
def SlMade (w w' : World) (pa qa : Nat) (Y : Nm) (e : Ending) : Prop :=
  ∃ (X : Pl) (B : Nat → Nat), e = .returned (.tuple #[.pointer (some ⟨X.p, 0, none⟩), .int .i64 0]) ∧ X.pa = pa ∧ X.qa = qa ∧ SlAt w' X Y (fun _ => 0) 0 B ∧ Sl.Inv Y.key Y.g Y.s Y.n Y.r (fun _ => 0) (Sl.from_ 0 Y.n) B ∧ w.heap.size ≤ X.p ∧ w.heap.size ≤ X.ql ∧ w.heap.size ≤ X.qh ∧ Fr (fun i => i = qa) w w'
set_option maxRecDepth 100000 in
set_option maxHeartbeats 1000000 in
theorem smk_ok {w : World} {pa qa : Nat} {B : Nat → Nat} {Y : Nm} (h : An.ArAt w pa qa Y.N Y.acap B none) (ok : Ok Y) :
    Calls Try.prog 22 #[.pointer (some ⟨pa, 0, none⟩), .agg #[.int .u64 Y.key], .int .i64 Y.g, .int .i64 Y.c, .int .i64 Y.o] w fun e w' => SlMade w w' pa qa Y e := by
  have HL := Lib.hid (fun W p (g : w.grownBy W none) hr hne => lay_ok (p := p) hr (h.grown g (by simp) (by simp)) ok hne)
  have HP := Lib.hid (And.intro h.plt h.b.qlt)
  clear h ok
  go_enter Try.func22, Try.ntmps22
  go_upto_region 4 with (fail)
  have g1 := grown_trans (grown_alloc w (.cells #[.int .u64 Y.key] 52) none) (grown_alloc (w.alloc (.cells #[.int .u64 Y.key] 52)) (.cells #[.pointer (some ⟨pa, 0, none⟩), .int .u64 Y.key, .int .i64 Y.g, .int .i64 Y.c, .int .i64 Y.o, .pointer none, .pointer none, .int .i64 0] 79) none)
  have s1 : (w.alloc (.cells #[.int .u64 Y.key] 52)).heap.size = w.heap.size + 1 := by simp
  have HC := Lib.hid (HL.out _ (w.heap.size + 1) g1
    (by constructor
        · rw [← s1, cell_alloc_new]; rfl
        · rw [← s1, cell_alloc_new]; rfl
        · rw [← s1, cell_alloc_new]; rfl
        · rw [← s1, cell_alloc_new]; rfl
        · rw [← s1, cell_alloc_new]; rfl
        · rw [← s1, cell_alloc_new]; rfl
        · rw [← s1, cell_alloc_new]; rfl
        · rw [← s1, cell_alloc_new]; rfl
        · intro k; rw [← s1]; exact frozen_alloc_new ..) (by obtain ⟨h1, h2⟩ := HP.out; omega))
  have HG := Lib.hid g1
  clear HL g1 s1
  go_wp2_with fail
  refine HC.out.mono ?_
  rintro e w2 ⟨rfl, hl⟩
  have HLS := Lib.hid hl
  clear hl HC
  go_wp2
  go_ret2
  obtain ⟨X, B', e1, e2, e3, hx, hi, h1, h2, hf⟩ := HLS.out
  have hs := HG.out.size
  refine ⟨X, B', congrArg (fun x => Ending.returned (.tuple #[.pointer (some ⟨x, 0, none⟩), .int .i64 0])) e1.symm, e2, e3, hx, hi, by omega, Nat.le_trans hs h1, Nat.le_trans hs h2, ?_⟩
  exact ⟨hf.os.trans HG.out.os, hf.tape.trans HG.out.tape, hf.output.trans HG.out.output, Nat.le_trans hs hf.size, fun i hi hm => (hf.block i (Nat.lt_of_lt_of_le hi hs) (by omega)).trans (HG.out.block i hi (by simp))⟩

set_option maxHeartbeats 400000 in
theorem page_nil (w : World) : Calls Try.prog 25 #[.pointer none] w fun e w' => e = .returned (.int .i64 0) ∧ w = w' := by
  go_enter Try.func25, Try.ntmps25
  go_wp2
  go_ret
  exact ⟨rfl, rfl⟩
set_option maxHeartbeats 400000 in
theorem class_nil (w : World) : Calls Try.prog 26 #[.pointer none] w fun e w' => e = .returned (.int .i64 0) ∧ w = w' := by
  go_enter Try.func26, Try.ntmps26
  go_wp2
  go_ret
  exact ⟨rfl, rfl⟩
set_option maxHeartbeats 400000 in
theorem owner_nil (w : World) : Calls Try.prog 27 #[.pointer none] w fun e w' => e = .returned (.int .i64 0) ∧ w = w' := by
  go_enter Try.func27, Try.ntmps27
  go_wp2
  go_ret
  exact ⟨rfl, rfl⟩
set_option maxRecDepth 100000 in
set_option maxHeartbeats 400000 in
theorem count_nil (x : Int) (w : World) : Calls Try.prog 20 #[.pointer none, .int .i64 x] w fun e w' => e = .returned (.int .i64 0) ∧ w = w' := by
  go_enter Try.func20, Try.ntmps20
  go_wp2_with (go_at_call 60; refine (slots_nil _).mono ?_; rintro e w' ⟨rfl, rfl⟩)
  go_loop [5, 9] (fun c i => c = .int .i64 0 ∧ i = .int .i64 0) (fun _ _ => 0)
  case atStart => exact ⟨rfl, rfl⟩
  case round =>
    obtain ⟨rfl, rfl⟩ := hrel
    go_wp2
    go_ret
    exact ⟨rfl, rfl⟩
end Go.Proofs.Yticoojcmlkdeiaa
