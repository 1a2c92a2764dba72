/- A slab in the world; the walks of slots, there, base, guard, State, wrong, Count. -/
import Derived.Test.YticoojcmlkdeiaaSA
import Derived.Test.YticoojcmlkdeiaaCC
import Derived.Test.YticoojcmlkdeiaaLC
import Derived.Test.YticoojcmlkdeiaaD
import Derived.Test.YticoojcmlkdeiaaAD
import Derived.Deep.QuietTactic
import Derived.BigQuiet
namespace Go.Proofs.Yticoojcmlkdeiaa
open Go.RowKit
open Sl (Cls bs)

/-- Of what was there nothing has turned but blocks that may. -/
structure Fr (may : Nat → Prop) (w w' : World) : Prop where
  os : w'.os = w.os
  tape : w'.tape = w.tape
  output : w'.output = w.output
  size : w.heap.size ≤ w'.heap.size
  block : ∀ i, i < w.heap.size → ¬ may i → w'.heap[i]? = w.heap[i]?
theorem fr_none {may : Nat → Prop} {w w' : World} (h : w.grownBy w' none) : Fr may w w' := ⟨h.os, h.tape, h.output, h.size, fun i hi _ => h.block i hi (by simp)⟩
theorem fr_some {may : Nat → Prop} {q : Nat} {w w' : World} (h : w.grownBy w' (some q)) (hq : q < w.heap.size → may q) : Fr may w w' := ⟨h.os, h.tape, h.output, h.size, fun i hi hm => h.block i hi (fun e => hm (by cases e; exact hq hi))⟩
theorem fr_refl (may : Nat → Prop) (w : World) : Fr may w w := ⟨rfl, rfl, rfl, Nat.le_refl _, fun _ _ _ => rfl⟩
theorem Fr.trans {may : Nat → Prop} {a b c : World} (h : Fr may a b) (k : Fr may b c) : Fr may a c :=
  ⟨k.os.trans h.os, k.tape.trans h.tape, k.output.trans h.output, Nat.le_trans h.size k.size, fun i hi hm => (k.block i (Nat.lt_of_lt_of_le hi h.size) hm).trans (h.block i hi hm)⟩
theorem Fr.cell {may : Nat → Prop} {w w' : World} (h : Fr may w w') {b o : Nat} {v : Value} (hc : w.cell? ⟨b, o, none⟩ = some v) (hb : ¬ may b) : w'.cell? ⟨b, o, none⟩ = some v := by
  rw [World.cell?_of_block (w := w) (h.block b (World.block_lt_of_cell? w ⟨b, o, none⟩ hc) hb)]
  exact hc
theorem Fr.frozen {may : Nat → Prop} {w w' : World} (h : Fr may w w') {b o : Nat} (hlt : b < w.heap.size) (hb : ¬ may b) : w'.frozen? ⟨b, o, none⟩ = w.frozen? ⟨b, o, none⟩ :=
  World.frozen?_of_block (w := w) (h.block b hlt hb)
theorem Fr.drew {may : Nat → Prop} {a b : World} (h : Fr may a b) : Fr may a b.drew := ⟨h.os, h.tape, h.output, h.size, h.block⟩
theorem Fr.grown {may : Nat → Prop} {a w w' : World} (h : a.grownBy w none) (k : Fr may w w') (hm : ∀ i, i < a.heap.size → ¬ may i) : a.grownBy w' none :=
  ⟨k.os.trans h.os, k.tape.trans h.tape, k.output.trans h.output, Nat.le_trans h.size k.size, fun i hi _ => (k.block i (Nat.lt_of_lt_of_le hi h.size) (hm i hi)).trans (h.block i hi (by simp))⟩

theorem quiet_drew {P : Program} {f : FuncId} {args : Array Value} {w : World} {n : Nat} {v : Value}
    (h : Calls P f args (w.drewN n) fun e w' => e = .returned v ∧ ∃ d, w' = (w.drewN n).drewN d) : Calls P f args (w.drewN n) fun e w'' => e = .returned v ∧ ∃ m, w'' = w.drewN m :=
  h.mono fun _ _ ⟨he, _, hd⟩ => ⟨he, _, hd.trans (World.drewN_drewN _ _ _)⟩

/-- A row of n bits. -/
def Row (w : World) (p q n : Nat) (b : Nat → Bool) : Prop := ∃ cap ws, Bs.SetAt w p q n cap ws ∧ ∀ k, k < n → M.bit ws k = b k
theorem Row.grown {w w' : World} {p q n : Nat} {b : Nat → Bool} {r : Option Nat} (h : Row w p q n b) (hg : w.grownBy w' r) (hp : some p ≠ r) (hq : some q ≠ r) : Row w' p q n b := by
  obtain ⟨cap, ws, h1, h2⟩ := h
  exact ⟨cap, ws, h1.grown hg hp hq, h2⟩
theorem Row.congr {w : World} {p q n : Nat} {b b' : Nat → Bool} (h : Row w p q n b) (e : ∀ k, k < n → b k = b' k) : Row w p q n b' := by
  obtain ⟨cap, ws, h1, h2⟩ := h
  exact ⟨cap, ws, h1, fun k hk => (h2 k hk).trans (e k hk)⟩
theorem Row.len {w : World} {p q n : Nat} {b : Nat → Bool} (h : Row w p q n b) :
    Calls Try.prog 91 #[.pointer (some ⟨p, 0, none⟩)] w fun e w' => e = .returned (.int .i64 n) ∧ w = w' := by
  obtain ⟨cap, ws, h1, h2⟩ := h
  exact Bs.len_at h1
theorem Row.has {w : World} {p q n : Nat} {b : Nat → Bool} (h : Row w p q n b) {k : Nat} (hk : k < n) :
    Calls Try.prog 55 #[.pointer (some ⟨p, 0, none⟩), .int .i64 k] w fun e w' => e = .returned (.bool (b k)) ∧ w = w' := by
  obtain ⟨cap, ws, h1, h2⟩ := h
  refine (Bs.has_at h1 k).mono ?_
  rintro e w' ⟨he, hw⟩
  refine ⟨he.trans (ret_bool ?_), hw⟩
  rw [Int.toNat_natCast, h2 k hk]
  simp
theorem Row.put {w : World} {p q n : Nat} {b : Nat → Bool} (h : Row w p q n b) {k : Nat} (hk : k < n) (v : Bool) :
    Calls Try.prog 42 #[.pointer (some ⟨p, 0, none⟩), .int .i64 k, .bool v] w fun e w' => e = .returned (.int .i64 0) ∧ Row w' p q n (fun j => if j = k then v else b j) ∧ w.grownBy w' (some q) := by
  obtain ⟨cap, ws, h1, h2⟩ := h
  refine (Bs.put_in h1 k v (by omega) (by omega)).mono ?_
  rintro e w' ⟨he, hs, hg⟩
  refine ⟨he, ⟨cap, _, hs, fun j hj => ?_⟩, hg⟩
  have := h1.len
  rw [Int.toNat_natCast, M.bit_put ws k j v (by omega)]
  show _ = if j = k then v else b j
  split
  · rfl
  · exact h2 j hj
theorem Row.qlt {w : World} {p q n : Nat} {b : Nat → Bool} (h : Row w p q n b) : q < w.heap.size := by
  obtain ⟨cap, ws, h1, h2⟩ := h
  exact h1.qlt
theorem Row.plt {w : World} {p q n : Nat} {b : Nat → Bool} (h : Row w p q n b) : p < w.heap.size := by
  obtain ⟨cap, ws, h1, h2⟩ := h
  exact World.block_lt_of_cell? w ⟨p, 0, none⟩ h1.c0

/-- Where a slab's parts lie: itself, the arena, its bytes, the two rows, their words. -/
structure Pl where
  p : Nat
  pa : Nat
  qa : Nat
  pl : Nat
  ql : Nat
  ph : Nat
  qh : Nat
/-- The numbers of a slab: key, page, class, a slot's bytes, slots, a block's bytes, owner; the arena's bytes. -/
structure Nm where
  key : Nat
  g : Nat
  c : Nat
  s : Nat
  n : Nat
  r : Nat
  o : Int
  N : Nat
  acap : Nat
structure Apart (X : Pl) : Prop where
  h1 : X.p ≠ X.pa ∧ X.p ≠ X.qa ∧ X.p ≠ X.pl ∧ X.p ≠ X.ql ∧ X.p ≠ X.ph ∧ X.p ≠ X.qh
  h2 : X.ql ≠ X.pa ∧ X.ql ≠ X.qa ∧ X.ql ≠ X.pl ∧ X.ql ≠ X.ph ∧ X.ql ≠ X.qh
  h3 : X.qh ≠ X.pa ∧ X.qh ≠ X.qa ∧ X.qh ≠ X.pl ∧ X.qh ≠ X.ph
  h4 : X.qa ≠ X.pa ∧ X.qa ≠ X.pl ∧ X.qa ≠ X.ph
structure Ok (Y : Nm) : Prop where
  c : Cls Y.c Y.s Y.n Y.r
  g : Y.g * 256 + 256 ≤ Y.N
  N : Y.N ≤ 65536
  k : Y.key < 18446744073709551616
/-- The slab's own cells. -/
structure Own (w : World) (X : Pl) (Y : Nm) (f : Int) : Prop where
  c0 : w.cell? ⟨X.p, 0, none⟩ = some (.pointer (some ⟨X.pa, 0, none⟩))
  c1 : w.cell? ⟨X.p, 1, none⟩ = some (.int .u64 (Y.key : Nat))
  c2 : w.cell? ⟨X.p, 2, none⟩ = some (.int .i64 (Y.g : Nat))
  c3 : w.cell? ⟨X.p, 3, none⟩ = some (.int .i64 (Y.c : Nat))
  c4 : w.cell? ⟨X.p, 4, none⟩ = some (.int .i64 Y.o)
  c5 : w.cell? ⟨X.p, 5, none⟩ = some (.pointer (some ⟨X.pl, 0, none⟩))
  c6 : w.cell? ⟨X.p, 6, none⟩ = some (.pointer (some ⟨X.ph, 0, none⟩))
  c7 : w.cell? ⟨X.p, 7, none⟩ = some (.int .i64 f)
  fz : ∀ k, w.frozen? ⟨X.p, k, none⟩ = false
theorem Own.grown {w w' : World} {X : Pl} {Y : Nm} {f : Int} {r : Option Nat} (h : Own w X Y f) (hg : w.grownBy w' r) (hp : some X.p ≠ r) : Own w' X Y f :=
  ⟨hg.cell h.c0 hp, hg.cell h.c1 hp, hg.cell h.c2 hp, hg.cell h.c3 hp, hg.cell h.c4 hp, hg.cell h.c5 hp, hg.cell h.c6 hp, hg.cell h.c7 hp, fun k => by rw [World.frozen?_of_block (w := w) (hg.block X.p (World.block_lt_of_cell? w ⟨X.p, 0, none⟩ h.c0) hp)]; exact h.fz k⟩
theorem Own.plt {w : World} {X : Pl} {Y : Nm} {f : Int} (h : Own w X Y f) : X.p < w.heap.size := World.block_lt_of_cell? w ⟨X.p, 0, none⟩ h.c0
def is1 (S : Nat → Nat) : Nat → Bool := fun k => decide (S k = 1)
def is2 (S : Nat → Nat) : Nat → Bool := fun k => decide (S k = 2)
/-- A slab, of states S, whose first free slot is f, in an arena of bytes B. -/
structure SlAt (w : World) (X : Pl) (Y : Nm) (S : Nat → Nat) (f : Int) (B : Nat → Nat) : Prop where
  own : Own w X Y f
  ar : An.ArAt w X.pa X.qa Y.N Y.acap B none
  l : Row w X.pl X.ql Y.n (is1 S)
  h : Row w X.ph X.qh Y.n (is2 S)
  ap : Apart X
  ok : Ok Y
theorem some_ne {a b : Nat} (h : a ≠ b) : some a ≠ some b := by simpa using h
theorem SlAt.grown {w w' : World} {X : Pl} {Y : Nm} {S : Nat → Nat} {f : Int} {B : Nat → Nat} (h : SlAt w X Y S f B) (hg : w.grownBy w' none) : SlAt w' X Y S f B :=
  ⟨h.own.grown hg (by simp), h.ar.grown hg (by simp) (by simp), h.l.grown hg (by simp) (by simp), h.h.grown hg (by simp) (by simp), h.ap, h.ok⟩
/-- The blocks that a slab's calls write into. -/
def Pl.may (X : Pl) (i : Nat) : Prop := i = X.p ∨ i = X.qa ∨ i = X.ql ∨ i = X.qh

/-- A number that is a slot's, or none's. -/
def isK (n : Nat) (k : Int) : Bool := decide (0 ≤ k ∧ k < n)
theorem isK_t {n : Nat} {k : Int} (h : isK n k = true) : ∃ j : Nat, k = j ∧ j < n := by
  simp [isK] at h
  exact ⟨k.toNat, by omega, by omega⟩
theorem isK_of {n k : Nat} (h : k < n) : isK n (k : Int) = true := by simp [isK, h]
theorem isK_f {n : Nat} {k : Int} (h : isK n k = false) : k < 0 ∨ n ≤ k := by
  simp [isK] at h
  omega

set_option maxHeartbeats 400000 in
theorem slots_nil (w : World) :
    Calls Try.prog 60 #[.pointer none] w fun e w' => e = .returned (.int .i64 0) ∧ w = w' := by
  go_enter Try.func60, Try.ntmps60
  go_wp2
  go_ret
  exact ⟨rfl, rfl⟩
set_option maxHeartbeats 400000 in
theorem slots_at {w : World} {X : Pl} {Y : Nm} {S : Nat → Nat} {f : Int} {B : Nat → Nat} (h : SlAt w X Y S f B) :
    Calls Try.prog 60 #[.pointer (some ⟨X.p, 0, none⟩)] w fun e w' => e = .returned (.int .i64 Y.n) ∧ w = w' := by
  have c5 := h.own.c5
  have HL := Lib.hid h.l.len
  clear h
  go_enter Try.func60, Try.ntmps60
  go_wp2_with (go_at_call 91; refine HL.out.mono ?_; rintro e w' ⟨rfl, rfl⟩)
  go_ret
  exact ⟨rfl, rfl⟩
set_option maxHeartbeats 400000 in
theorem sthere_core (v : Value) (n : Nat) (k : Int) (w : World) (hl : Calls Try.prog 60 #[v] w fun e w' => e = .returned (.int .i64 n) ∧ w = w') :
    Calls Try.prog 40 #[v, .int .i64 k] w fun e w' => e = .returned (.bool (isK n k)) ∧ w = w' := by
  have HL := Lib.hid hl
  clear hl
  by_cases h0 : 0 ≤ k
  · have h1 : decide (0 ≤ k) = true := by simpa using h0
    have HB := Lib.hid (show decide (k < (n : Int)) = isK n k by simp [isK, h0])
    clear h0
    go_enter Try.func40, Try.ntmps40
    go_wp2_with (go_at_call 60; refine HL.out.mono ?_; rintro e w' ⟨rfl, rfl⟩)
    go_ret
    exact ⟨ret_bool HB.out, rfl⟩
  · have h1 : decide (0 ≤ k) = false := by simpa using h0
    have HB := Lib.hid (show false = isK n k by simp [isK, h0])
    clear h0
    go_enter Try.func40, Try.ntmps40
    go_wp2
    go_ret
    exact ⟨ret_bool HB.out, rfl⟩
theorem sthere_nil (k : Int) (w : World) : Calls Try.prog 40 #[.pointer none, .int .i64 k] w fun e w' => e = .returned (.bool false) ∧ w = w' :=
  (sthere_core _ 0 k w (slots_nil w)).mono fun _ _ ⟨he, hw⟩ => ⟨he.trans (ret_bool (by simp [isK])), hw⟩
theorem sthere_at {w : World} {X : Pl} {Y : Nm} {S : Nat → Nat} {f : Int} {B : Nat → Nat} (h : SlAt w X Y S f B) (k : Int) :
    Calls Try.prog 40 #[.pointer (some ⟨X.p, 0, none⟩), .int .i64 k] w fun e w' => e = .returned (.bool (isK Y.n k)) ∧ w = w' := sthere_core _ _ k w (slots_at h)

/-- Where a slot begins; -1: there is none. -/
def baseV (Y : Nm) (k : Int) : Int := if isK Y.n k = true then bs Y.g Y.s k.toNat else -1
theorem baseV_in {Y : Nm} {k : Nat} (h : k < Y.n) : baseV Y k = bs Y.g Y.s k := by unfold baseV; rw [if_pos (isK_of h), Int.toNat_natCast]
theorem baseV_out {Y : Nm} {k : Int} (h : isK Y.n k = false) : baseV Y k = -1 := by unfold baseV; rw [if_neg (by rw [h]; simp)]
theorem cbase_at {Y : Nm} (h : Ok Y) (k : Int) (w : World) :
    Calls Try.prog 83 #[.int .i64 (Y.g : Nat), .int .i64 (Y.c : Nat), .int .i64 k] w fun e w' => e = .returned (.int .i64 (baseV Y k)) ∧ w = w' := by
  have := h.N
  have := h.g
  cases hk : isK Y.n k with
  | true =>
    obtain ⟨j, rfl, hj⟩ := isK_t hk
    rw [baseV_in hj]
    exact base_core _ _ w h.c.cl (by omega) (by omega) (by omega) (by omega)
  | false =>
    rw [baseV_out hk]
    have := isK_f hk
    exact base_off _ _ w h.c.cl (by omega)
set_option maxHeartbeats 400000 in
theorem sbase_own {w : World} {X : Pl} {Y : Nm} {f : Int} (h : Own w X Y f) (ok : Ok Y) (k : Int) :
    Calls Try.prog 43 #[.pointer (some ⟨X.p, 0, none⟩), .int .i64 k] w fun e w' => e = .returned (.int .i64 (baseV Y k)) ∧ ∃ d, w' = w.drewN d := by
  have c2 := h.c2
  have c3 := h.c3
  have HB := Lib.hid (fun w => cbase_at ok k w)
  clear h ok
  generalize baseV Y k = b at *
  go_enter Try.func43, Try.ntmps43
  go_wp2
  go_quiet ((go_at_call 83; exact quiet_left (HB.out _)))
  go_wp2
  go_ret
  exact ⟨rfl, _, rfl⟩
theorem sbase_at {w : World} {X : Pl} {Y : Nm} {S : Nat → Nat} {f : Int} {B : Nat → Nat} (h : SlAt w X Y S f B) (k : Int) :
    Calls Try.prog 43 #[.pointer (some ⟨X.p, 0, none⟩), .int .i64 k] w fun e w' => e = .returned (.int .i64 (baseV Y k)) ∧ ∃ d, w' = w.drewN d := sbase_own h.own h.ok k
/-- A slab's cells, at whatever world that drew on. -/
theorem Own.drewN {w : World} {X : Pl} {Y : Nm} {f : Int} (h : Own w X Y f) (d : Nat) : Own (w.drewN d) X Y f := h.grown (grown_drew (grown_refl w none) d) (by simp)
theorem bs_bd {Y : Nm} (h : Ok Y) {k : Nat} (hk : k < Y.n) : bs Y.g Y.s k + Y.s ≤ Y.N := by have := Sl.bs_hi h.c Y.g hk; have := h.g; omega
theorem room_at {Y : Nm} (h : Ok Y) (w : World) : Calls Try.prog 44 #[.int .i64 (Y.c : Nat)] w fun e w' => e = .returned (.int .i64 (Y.r : Nat)) ∧ w = w' := room_yes w h.c.cl
theorem size_at {Y : Nm} (h : Ok Y) (w : World) : Calls Try.prog 50 #[.int .i64 (Y.c : Nat)] w fun e w' => e = .returned (.int .i64 (Y.s : Nat)) ∧ w = w' := size_yes w h.c.cl
set_option maxHeartbeats 400000 in
theorem guard_at {w : World} {X : Pl} {Y : Nm} {S : Nat → Nat} {f : Int} {B : Nat → Nat} (h : SlAt w X Y S f B) {k : Nat} (hk : k < Y.n) :
    Calls Try.prog 46 #[.pointer (some ⟨X.p, 0, none⟩), .int .i64 k] w fun e w' => e = .returned (.int .i64 ((bs Y.g Y.s k + Y.r : Nat) : Int)) ∧ ∃ d, w' = w.drewN d := by
  have c3 := h.own.c3
  have HB := Lib.hid (fun d => sbase_own (h.own.drewN d) h.ok (k : Int))
  rw [baseV_in hk] at HB
  have HR := Lib.hid (fun w => room_at h.ok w)
  have b1 := bs_bd h.ok hk
  have b2 := h.ok.c.facts.rs
  have b3 := h.ok.N
  have e1 : IntKind.i64.wrap ((bs Y.g Y.s k : Nat) + (Y.r : Nat)) = ((bs Y.g Y.s k + Y.r : Nat) : Int) := by rw [IntKind.wrap_i64]; omega
  clear h hk b1 b2 b3
  generalize ((bs Y.g Y.s k + Y.r : Nat) : Int) = b at *
  generalize bs Y.g Y.s k = x at *
  go_enter Try.func46, Try.ntmps46
  go_wp2
  go_quiet (first
    | (go_at_call 43; exact quiet_drew (HB.out _))
    | (go_at_call 44; exact quiet_left (HR.out _)))
  go_wp2
  go_ret
  exact ⟨rfl, _, rfl⟩

/-- What a slot is; -1: there is none. -/
def stV (Y : Nm) (S : Nat → Nat) (k : Int) : Int := if isK Y.n k = true then (S k.toNat : Nat) else -1
theorem stV_in {Y : Nm} {S : Nat → Nat} {k : Nat} (h : k < Y.n) : stV Y S k = S k := by unfold stV; rw [if_pos (isK_of h), Int.toNat_natCast]
theorem stV_out {Y : Nm} {S : Nat → Nat} {k : Int} (h : isK Y.n k = false) : stV Y S k = -1 := by unfold stV; rw [if_neg (by rw [h]; simp)]
set_option maxHeartbeats 400000 in
theorem state_out (v : Value) (k : Int) (w : World) (hl : Calls Try.prog 40 #[v, .int .i64 k] w fun e w' => e = .returned (.bool false) ∧ w = w') :
    Calls Try.prog 16 #[v, .int .i64 k] w fun e w' => e = .returned (.int .i64 (-1)) ∧ w = w' := by
  have HL := Lib.hid hl
  clear hl
  go_enter Try.func16, Try.ntmps16
  go_wp2_with (go_at_call 40; refine HL.out.mono ?_; rintro e w' ⟨rfl, rfl⟩)
  go_ret
  exact ⟨rfl, rfl⟩
set_option maxHeartbeats 1000000 in
theorem state_in {w : World} {X : Pl} {Y : Nm} {S : Nat → Nat} {f : Int} {B : Nat → Nat} (h : SlAt w X Y S f B) {k : Nat} (hk : k < Y.n) (hS : S k ≤ 2) :
    Calls Try.prog 16 #[.pointer (some ⟨X.p, 0, none⟩), .int .i64 k] w fun e w' => e = .returned (.int .i64 (S k : Nat)) ∧ w = w' := by
  have HT := sthere_at h (k : Int)
  rw [isK_of hk] at HT
  have HT := Lib.hid HT
  have c5 := h.own.c5
  have c6 := h.own.c6
  have HB := Lib.hid (h.l.has hk)
  have HC := Lib.hid (h.h.has hk)
  clear h
  rcases (by omega : S k = 0 ∨ S k = 1 ∨ S k = 2) with e | e | e
  all_goals
    rw [show is1 S k = decide (S k = 1) from rfl, e] at HB
    rw [show is2 S k = decide (S k = 2) from rfl, e] at HC
    rw [e]
    clear e hS hk
    go_enter Try.func16, Try.ntmps16
    go_wp2_with (go_at_call 40; refine HT.out.mono ?_; rintro e w' ⟨rfl, rfl⟩)
    go_wp2_with fail
    first
      | (go_at_call 55; refine HB.out.mono ?_; rintro e w' ⟨rfl, rfl⟩)
      | skip
    go_wp2_with fail
    first
      | (go_at_call 55; refine HC.out.mono ?_; rintro e w' ⟨rfl, rfl⟩; go_wp2)
      | skip
    go_ret
    exact ⟨rfl, rfl⟩
theorem state_at {w : World} {X : Pl} {Y : Nm} {S : Nat → Nat} {f : Int} {B : Nat → Nat} (h : SlAt w X Y S f B) (hS : ∀ k, S k ≤ 2) (k : Int) :
    Calls Try.prog 16 #[.pointer (some ⟨X.p, 0, none⟩), .int .i64 k] w fun e w' => e = .returned (.int .i64 (stV Y S k)) ∧ w = w' := by
  cases hk : isK Y.n k with
  | true =>
    obtain ⟨j, rfl, hj⟩ := isK_t hk
    rw [stV_in hj]
    exact state_in h hj (hS j)
  | false =>
    rw [stV_out hk]
    have := sthere_at h k
    rw [hk] at this
    exact state_out _ k w this
theorem state_nil (k : Int) (w : World) : Calls Try.prog 16 #[.pointer none, .int .i64 k] w fun e w' => e = .returned (.int .i64 (-1)) ∧ w = w' := state_out _ k w (sthere_nil k w)

/-- What is wrong with slot k, if it has to be in a state. -/
def wrV (Y : Nm) (S : Nat → Nat) (k x : Int) : Int := if isK Y.n k = true then (if stV Y S k = x then 0 else 8) else 3
set_option maxHeartbeats 400000 in
theorem wrong_nil (k x : Int) (w : World) :
    Calls Try.prog 48 #[.pointer none, .int .i64 k, .int .i64 x] w fun e w' => e = .returned (.int .i64 2) ∧ w = w' := by
  go_enter Try.func48, Try.ntmps48
  go_wp2
  go_ret
  exact ⟨rfl, rfl⟩
set_option maxHeartbeats 1000000 in
theorem wrong_at {w : World} {X : Pl} {Y : Nm} {S : Nat → Nat} {f : Int} {B : Nat → Nat} (h : SlAt w X Y S f B) (hS : ∀ k, S k ≤ 2) (k x : Int) :
    Calls Try.prog 48 #[.pointer (some ⟨X.p, 0, none⟩), .int .i64 k, .int .i64 x] w fun e w' => e = .returned (.int .i64 (wrV Y S k x)) ∧ w = w' := by
  have HT := sthere_at h k
  have HS := Lib.hid (state_at h hS k)
  clear h hS
  unfold wrV
  cases hk : isK Y.n k with
  | false =>
    rw [if_neg (by simp)]
    rw [hk] at HT
    have HT := Lib.hid HT
    clear hk HS
    go_enter Try.func48, Try.ntmps48
    go_wp2_with (go_at_call 40; refine HT.out.mono ?_; rintro e w' ⟨rfl, rfl⟩)
    go_ret
    exact ⟨rfl, rfl⟩
  | true =>
    rw [if_pos rfl]
    rw [hk] at HT
    have HT := Lib.hid HT
    clear hk
    generalize stV Y S k = y at *
    by_cases e : y = x
    · rw [if_pos e]
      have e1 : (y != x) = false := by simpa using e
      clear e
      go_enter Try.func48, Try.ntmps48
      go_wp2_with (first
        | (go_at_call 40; refine HT.out.mono ?_; rintro e w' ⟨rfl, rfl⟩)
        | (go_at_call 16; refine HS.out.mono ?_; rintro e w' ⟨rfl, rfl⟩))
      go_ret
      exact ⟨rfl, rfl⟩
    · rw [if_neg e]
      have e1 : (y != x) = true := by simpa using e
      clear e
      go_enter Try.func48, Try.ntmps48
      go_wp2_with (first
        | (go_at_call 40; refine HT.out.mono ?_; rintro e w' ⟨rfl, rfl⟩)
        | (go_at_call 16; refine HS.out.mono ?_; rintro e w' ⟨rfl, rfl⟩))
      go_ret
      exact ⟨rfl, rfl⟩
end Go.Proofs.Yticoojcmlkdeiaa
