/- Frames; a Do that is under way; the walks of underWay, count, page, keep. -/
import Derived.Test.YtbpganholopjfaaAD
import Derived.Maps.RangeWalk
import Derived.Deep.RegionWith
import Derived.Deep.RegionHeld3
namespace Go.Proofs.Ytbpganholopjfaa
open Go.RowKit
open Go.Maps (Keyed)

/-- Of what was there nothing has turned but blocks that may. -/
structure Fr (may : Nat → Prop) (w w' : World) : Prop where
  os : w'.os = w.os
  tape : w'.tape = w.tape
  output : w'.output = w.output
  size : w.heap.size ≤ w'.heap.size
  block : ∀ i, i < w.heap.size → ¬ may i → w'.heap[i]? = w.heap[i]?
theorem fr_of {r : Option Nat} {w w' : World} (h : w.grownBy w' r) : Fr (fun i => some i = r) w w' := ⟨h.os, h.tape, h.output, h.size, fun i hi hm => h.block i hi hm⟩
theorem fr_none {may : Nat → Prop} {w w' : World} (h : w.grownBy w' none) : Fr may w w' := ⟨h.os, h.tape, h.output, h.size, fun i hi _ => h.block i hi (by simp)⟩
theorem fr_some {may : Nat → Prop} {q : Nat} {w w' : World} (h : w.grownBy w' (some q)) (hq : q < w.heap.size → may q) : Fr may w w' := ⟨h.os, h.tape, h.output, h.size, fun i hi hm => h.block i hi (fun e => hm (by cases e; exact hq hi))⟩
theorem fr_refl (may : Nat → Prop) (w : World) : Fr may w w := ⟨rfl, rfl, rfl, Nat.le_refl _, fun _ _ _ => rfl⟩
theorem Fr.trans {may may' may'' : Nat → Prop} {a b c : World} (h : Fr may a b) (k : Fr may' b c) (h1 : ∀ i, i < a.heap.size → may i → may'' i) (h2 : ∀ i, i < a.heap.size → may' i → may'' i) : Fr may'' a c :=
  ⟨k.os.trans h.os, k.tape.trans h.tape, k.output.trans h.output, Nat.le_trans h.size k.size, fun i hi hm => (k.block i (Nat.lt_of_lt_of_le hi h.size) (fun x => hm (h2 i hi x))).trans (h.block i hi (fun x => hm (h1 i hi x)))⟩
theorem Fr.cell {may : Nat → Prop} {w w' : World} (h : Fr may w w') {b o : Nat} {v : Value} (hc : w.cell? ⟨b, o, none⟩ = some v) (hb : ¬ may b) : w'.cell? ⟨b, o, none⟩ = some v := by
  rw [World.cell?_of_block (w := w) (h.block b (World.block_lt_of_cell? w ⟨b, o, none⟩ hc) hb)]
  exact hc
theorem Fr.frozen {may : Nat → Prop} {w w' : World} (h : Fr may w w') {b o : Nat} (hlt : b < w.heap.size) (hb : ¬ may b) : w'.frozen? ⟨b, o, none⟩ = w.frozen? ⟨b, o, none⟩ :=
  World.frozen?_of_block (w := w) (h.block b hlt hb)
theorem Fr.grown {may : Nat → Prop} {a w w' : World} (h : a.grownBy w none) (k : Fr may w w') (hm : ∀ i, may i → a.heap.size ≤ i) : a.grownBy w' none :=
  ⟨k.os.trans h.os, k.tape.trans h.tape, k.output.trans h.output, Nat.le_trans h.size k.size, fun i hi _ => (k.block i (Nat.lt_of_lt_of_le hi h.size) (fun x => by have := hm i x; omega)).trans (h.block i hi (by simp))⟩
theorem BytesAt.fr {may : Nat → Prop} {w w' : World} {q n : Nat} {B : Nat → Nat} (h : BytesAt w q n B) (hg : Fr may w w') (hr : ¬ may q) : BytesAt w' q n B :=
  ⟨fun i hi => hg.cell (h.c i hi) hr, fun k => by rw [hg.frozen h.qlt hr]; exact h.fz k, Nat.lt_of_lt_of_le h.qlt hg.size⟩

/-- How a kept page reads: by where it lies. -/
def slD (b c : Nat) : DataW Unit := .agg [.lit (.int .i64 b), .lit (.int .i64 c)]
def slR : Value → Option (DataW Unit × List MemPlace)
  | .slice none n c => if n = 0 ∧ c = 0 then some (.nil, []) else none
  | .slice (some a) n c => if a = ⟨a.block, 0, none⟩ ∧ n = 256 then some (slD a.block c, []) else none
  | _ => none
theorem slR_nil : slR (.slice none 0 0) = some (.nil, []) := rfl
theorem slR_some (b c : Nat) : slR (.slice (some ⟨b, 0, none⟩) 256 c) = some (slD b c, []) := by simp [slR]
/-- The values that read so. -/
def mkS : Option (Nat × Nat) → Value
  | none => .slice none 0 0
  | some (b, c) => .slice (some ⟨b, 0, none⟩) 256 c
theorem slR_inv {v : Value} {y : DataW Unit × List MemPlace} (h : slR v = some y) : ∃ o, v = mkS o := by
  unfold slR at h
  split at h
  · split at h
    · rename_i hc
      obtain ⟨rfl, rfl⟩ := hc
      exact ⟨none, rfl⟩
    · cases h
  · split at h
    · rename_i a n c hc
      obtain ⟨ha, rfl⟩ := hc
      exact ⟨some (a.block, c), by rw [ha]; rfl⟩
    · cases h
  · cases h
theorem slD_inj {b c b' c' : Nat} (h : slD b c = slD b' c') : b = b' ∧ c = c' := by
  simp [slD] at h
  omega

theorem kint : Keyed Try.prog 3 := Go.Maps.int_keyed Try.underlying3

/-- A Do that is under way: the arena, its work, and the pages that are kept as they were. -/
structure DoSt (w : World) (p q u mb N cap : Nat) (B B0 : Nat → Nat) (D : DataW Unit) (cnt rt : Nat) (fl : Int) : Prop where
  ar : ArAt w p q N cap B (some ⟨u, 0, none⟩)
  k0 : w.cell? ⟨u, 0, none⟩ = some (.pointer (some ⟨p, 0, none⟩))
  k1 : w.cell? ⟨u, 1, none⟩ = some (.pointer none)
  k2 : w.cell? ⟨u, 2, none⟩ = some (.int .i64 rt)
  k3 : w.cell? ⟨u, 3, none⟩ = some (.int .i64 fl)
  k4 : w.cell? ⟨u, 4, none⟩ = some (.map (some mb))
  fz : ∀ k, w.frozen? ⟨u, k, none⟩ = false
  map : w.ownsMap Try.prog 3 slR mb cnt D
  keys : ∀ kl, Go.Maps.has D kl = true → ∃ pg bk bc : Nat, kl = .int .i64 pg ∧ pg * 256 + 256 ≤ N ∧ (∀ zd, D.atKey kl zd = slD bk bc) ∧ BytesAt w bk 256 (fun i => B0 (pg * 256 + i)) ∧ bk ≠ p ∧ bk ≠ q ∧ bk ≠ u ∧ bk ≠ mb
  rest : ∀ pg : Nat, pg * 256 + 256 ≤ N → Go.Maps.has D (.int .i64 pg) = false → ∀ i, i < 256 → B (pg * 256 + i) = B0 (pg * 256 + i)
  up : u ≠ p
  uq : u ≠ q
  mp : mb ≠ p
  mq : mb ≠ q
  mu : mb ≠ u
  lt0 : ∀ i, B0 i < 256
theorem DoSt.ult {w : World} {p q u mb N cap : Nat} {B B0 : Nat → Nat} {D : DataW Unit} {cnt rt : Nat} {fl : Int} (h : DoSt w p q u mb N cap B B0 D cnt rt fl) : u < w.heap.size := World.block_lt_of_cell? w ⟨u, 0, none⟩ h.k0
/-- What a Do stands on. -/
def DoSt.Own (p q u mb : Nat) (D : DataW Unit) (i : Nat) : Prop := i = p ∨ i = q ∨ i = u ∨ i = mb ∨ ∃ kl bc, Go.Maps.has D kl = true ∧ ∀ zd, D.atKey kl zd = slD i bc
theorem DoSt.fr {may : Nat → Prop} {w w' : World} {p q u mb N cap : Nat} {B B0 : Nat → Nat} {D : DataW Unit} {cnt rt : Nat} {fl : Int} (h : DoSt w p q u mb N cap B B0 D cnt rt fl) (hg : Fr may w w') (hm : ∀ i, i < w.heap.size → DoSt.Own p q u mb D i → ¬ may i) : DoSt w' p q u mb N cap B B0 D cnt rt fl := by
  have hp := hm p h.ar.plt (.inl rfl)
  have hq := hm q h.ar.b.qlt (.inr (.inl rfl))
  have hu := hm u h.ult (.inr (.inr (.inl rfl)))
  have hmb := hm mb h.map.lt (.inr (.inr (.inr (.inl rfl))))
  exact {
    ar := ⟨hg.cell h.ar.c0 hp, hg.cell h.ar.c1 hp, fun k => by rw [hg.frozen h.ar.plt hp]; exact h.ar.fz k, h.ar.b.fr hg hq, h.ar.ne, h.ar.hcap, h.ar.small, h.ar.page, h.ar.lt⟩
    k0 := hg.cell h.k0 hu
    k1 := hg.cell h.k1 hu
    k2 := hg.cell h.k2 hu
    k3 := hg.cell h.k3 hu
    k4 := hg.cell h.k4 hu
    fz := fun k => by rw [hg.frozen h.ult hu]; exact h.fz k
    map := by
      have hlt := h.map.lt
      obtain ⟨es, clock, hb, F, hs, hD⟩ := h.map
      exact ⟨es, clock, (hg.block mb hlt hmb).trans hb, F, hs, hD⟩
    keys := fun kl hkl => by
      obtain ⟨pg, bk, bc, h1, h2, h3, h4, h5⟩ := h.keys kl hkl
      exact ⟨pg, bk, bc, h1, h2, h3, h4.fr hg (hm bk h4.qlt (.inr (.inr (.inr (.inr ⟨kl, bc, hkl, h3⟩))))), h5⟩
    rest := h.rest
    up := h.up
    uq := h.uq
    mp := h.mp
    mq := h.mq
    mu := h.mu
    lt0 := h.lt0 }
theorem DoSt.grown {w w' : World} {p q u mb N cap : Nat} {B B0 : Nat → Nat} {D : DataW Unit} {cnt rt : Nat} {fl : Int} (h : DoSt w p q u mb N cap B B0 D cnt rt fl) (hg : w.grownBy w' none) : DoSt w' p q u mb N cap B B0 D cnt rt fl :=
  h.fr (may := fun _ => False) (fr_none hg) (fun _ _ _ x => x)

/-- What stops a Do's function. -/
def stopOf (u : Nat) : List PanicEntry := [{ v := .iface 103 (.agg #[.pointer (some ⟨u, 0, none⟩)]), recovered := false }]

set_option maxHeartbeats 800000 in
/-- A View of a Do that is under way, and has not failed. -/
theorem under_at (vb u p : Nat) (w : World) (hv : w.cell? ⟨vb, 0, none⟩ = some (.pointer (some ⟨u, 0, none⟩))) (k0 : w.cell? ⟨u, 0, none⟩ = some (.pointer (some ⟨p, 0, none⟩))) (k3 : w.cell? ⟨u, 3, none⟩ = some (.int .i64 0)) :
    Calls Try.prog 61 #[.pointer (some ⟨vb, 0, none⟩)] w fun e w' => e = .returned (.pointer (some ⟨u, 0, none⟩)) ∧ w = w' := by
  go_enter Try.func61, Try.ntmps61
  go_wp2
  go_ret
  exact ⟨rfl, rfl⟩
set_option maxHeartbeats 800000 in
/-- A View outside of its Do. -/
theorem under_over (vb u : Nat) (w : World) (hv : w.cell? ⟨vb, 0, none⟩ = some (.pointer (some ⟨u, 0, none⟩))) (k0 : w.cell? ⟨u, 0, none⟩ = some (.pointer none)) :
    Calls Try.prog 61 #[.pointer (some ⟨vb, 0, none⟩)] w fun e w' => e = .returned (.pointer none) ∧ w = w' := by
  go_enter Try.func61, Try.ntmps61
  go_wp2
  go_ret
  exact ⟨rfl, rfl⟩

set_option maxHeartbeats 800000 in
theorem count_ok (u rt : Nat) (w : World) (hrt : rt ≤ 1000000) (k2 : w.cell? ⟨u, 2, none⟩ = some (.int .i64 rt)) (fz : ∀ k, w.frozen? ⟨u, k, none⟩ = false) :
    Calls Try.prog 62 #[.pointer (some ⟨u, 0, none⟩), .int .i64 0] w fun e w' => e = .returned (.tuple #[]) ∧ w' = w.setCell ⟨u, 2, none⟩ (.int .i64 (rt + 1 : Nat)) := by
  have f2 := fz 2
  clear fz
  go_enter Try.func62, Try.ntmps62
  go_wp2
  go_end0
  exact ⟨rfl, by rw [show ((rt + 1 : Nat) : Int) = (rt : Int) + 1 by omega]⟩
set_option maxHeartbeats 800000 in
theorem count_bad (u : Nat) (er fl : Int) (w : World) (he : er ≠ 0) (k3 : w.cell? ⟨u, 3, none⟩ = some (.int .i64 fl)) (fz : ∀ k, w.frozen? ⟨u, k, none⟩ = false) :
    Calls Try.prog 62 #[.pointer (some ⟨u, 0, none⟩), .int .i64 er] w fun e w' => e = .panicked (stopOf u) ∧ w' = w.setCell ⟨u, 3, none⟩ (.int .i64 er) := by
  have f3 := fz 3
  have he' : (er != 0) = true := by simpa using he
  clear fz he
  go_enter Try.func62, Try.ntmps62
  go_wp2
  exact ⟨rfl, rfl, rfl⟩
end Go.Proofs.Ytbpganholopjfaa
