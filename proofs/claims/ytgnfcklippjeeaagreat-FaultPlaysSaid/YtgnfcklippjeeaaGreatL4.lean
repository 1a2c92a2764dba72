/- Merged texts: FA FB FC FD FE FF. -/
import Derived.Test.YtgnfcklippjeeaaGreatL3
/- A ledger in the world; the walks of New, ends, within, end, live. -/
namespace Go.Proofs.YtgnfcklippjeeaaGreat
open Go.RowKit
open Go.Maps (Keyed)
open Sl (Cls bs upd FOk LnkIs)
open Lg (pgs)

/-- How the ledger's map reads: which addresses are gone. -/
structure GIs (D : DataW Unit) (G : Nat → Bool) : Prop where
  h1 : ∀ k : Nat, Go.Maps.has D (.int .i64 k) = G k
  h0 : ∀ kl, Go.Maps.has D kl = true → ∃ k : Nat, kl = .int .i64 k ∧ k < 65536
theorem gIs_nil : GIs (.map []) (fun _ => false) := ⟨fun k => by simp [Go.Maps.has_eq], fun kl h => by simp [Go.Maps.has_eq] at h⟩
theorem GIs.bd {D : DataW Unit} {G : Nat → Bool} (h : GIs D G) {k : Nat} (hk : G k = true) : k < 65536 := by
  obtain ⟨j, e, hj⟩ := h.h0 _ ((h.h1 k).trans hk)
  injection e with _ e
  omega
def gput (G : Nat → Bool) (k : Nat) : Nat → Bool := fun j => if j = k then true else G j
def gdel (G : Nat → Bool) (k : Nat) : Nat → Bool := fun j => if j = k then false else G j
def gcut (G : Nat → Bool) (lo hi : Nat) : Nat → Bool := fun j => G j && !(decide (lo ≤ j) && decide (j < hi))
theorem GIs.put {D : DataW Unit} {G : Nat → Bool} {d : DataW Unit} (h : GIs D G) (hD : Go.Maps.IsMap D) {k : Nat} (hk : k < 65536) : GIs (D.put (.int .i64 k) d) (gput G k) := by
  have hkl : WideAt.IsKeyLit (.int .i64 (k : Int)) := kint.key (Go.Maps.keyOf_int_mk Tryz.underlying3 (WalkArith.wf_i64 (by omega)))
  refine ⟨fun j => ?_, fun kl hkl' => ?_⟩
  · unfold gput
    by_cases e : j = k
    · subst e; rw [if_pos rfl]; exact Go.Maps.has_put_same hD hkl _
    · rw [if_neg e, Go.Maps.has_put_other (intlit_ne (by omega))]; exact h.h1 j
  · by_cases e : kl = .int .i64 (k : Int)
    · exact ⟨k, e, hk⟩
    · rw [Go.Maps.has_put_other e] at hkl'; exact h.h0 kl hkl'
theorem GIs.del {D : DataW Unit} {G : Nat → Bool} (h : GIs D G) (k : Nat) : GIs (D.del (.int .i64 k)) (gdel G k) := by
  refine ⟨fun j => ?_, fun kl hkl' => ?_⟩
  · unfold gdel
    by_cases e : j = k
    · subst e; rw [if_pos rfl]; exact Go.Maps.has_del_same
    · rw [if_neg e, Go.Maps.has_del_other (intlit_ne (by omega))]; exact h.h1 j
  · by_cases e : kl = .int .i64 (k : Int)
    · rw [e, Go.Maps.has_del_same] at hkl'; cases hkl'
    · rw [Go.Maps.has_del_other e] at hkl'; exact h.h0 kl hkl'

/-- Where a ledger's parts lie, and its region. -/
structure Fp where
  p : Nat
  r : Nat
  mb : Nat
/-- A report. -/
structure Rep where
  t : Int
  a : Int
  f : Int
def rcell3 : List Rep → List Value
  | [] => []
  | x :: l => .int .i64 x.t :: .int .i64 x.a :: .int .i64 x.f :: rcell3 l
theorem rcell3_length : ∀ l, (rcell3 l).length = l.length * 3
  | [] => rfl
  | x :: l => by simp [rcell3, rcell3_length l]; omega
theorem rcell3_append : ∀ a b, rcell3 (a ++ b) = rcell3 a ++ rcell3 b
  | [], _ => rfl
  | x :: a, b => by simp [rcell3, rcell3_append a b]
/-- A ledger: what is gone, its reports (their memory is no older than block b0). -/
structure LdAt (w : World) (b0 : Nat) (F : Fp) (cnt : Nat) (G : Nat → Bool) (rv : Value) (N : List Rep) : Prop where
  c0 : w.cell? ⟨F.p, 0, none⟩ = some (.pointer (some ⟨F.r, 0, none⟩))
  c1 : w.cell? ⟨F.p, 1, none⟩ = some (.map (some F.mb))
  c2 : w.cell? ⟨F.p, 2, none⟩ = some rv
  fz : ∀ k, w.frozen? ⟨F.p, k, none⟩ = false
  own : w.ownsRow b0 89 3 rv N.length (rcell3 N)
  mp : ∃ D, w.ownsMap Tryz.prog 3 unitElem F.mb cnt D ∧ GIs D G
  ne : F.p ≠ F.mb
  b0p : F.p < b0
  b0m : F.mb < b0
theorem LdAt.plt {w : World} {b0 : Nat} {F : Fp} {cnt : Nat} {G : Nat → Bool} {rv : Value} {N : List Rep} (h : LdAt w b0 F cnt G rv N) : F.p < w.heap.size := World.block_lt_of_cell? w ⟨F.p, 0, none⟩ h.c0
theorem LdAt.mlt {w : World} {b0 : Nat} {F : Fp} {cnt : Nat} {G : Nat → Bool} {rv : Value} {N : List Rep} (h : LdAt w b0 F cnt G rv N) : F.mb < w.heap.size := by obtain ⟨D, hD, _⟩ := h.mp; exact hD.lt
theorem own_fr2 {may : Nat → Prop} {w w' : World} {b0 n size : Nat} {e : TypeId} {v : Value} {xs : List Value} (h : w.ownsRow b0 e size v n xs) (hf : Fr may w w') (hm : ∀ q, v.ownBlock = some q → ¬ may q) : w'.ownsRow b0 e size v n xs := by
  obtain ⟨h1, h2 | ⟨g, cap, cur, rfl, h3, h4, h5⟩⟩ := h
  · exact ⟨h1, .inl h2⟩
  · have hlt : g < w.heap.size := (Array.getElem?_eq_some_iff.1 h4).1
    exact ⟨h1, .inr ⟨g, cap, cur, rfl, h3, (hf.block g hlt (hm g rfl)).trans h4, h5⟩⟩
theorem LdAt.fr {may : Nat → Prop} {w w' : World} {b0 : Nat} {F : Fp} {cnt : Nat} {G : Nat → Bool} {rv : Value} {N : List Rep} (h : LdAt w b0 F cnt G rv N) (hf : Fr may w w') (h1 : ¬ may F.p) (h2 : ¬ may F.mb) (h3 : ∀ q, rv.ownBlock = some q → ¬ may q) : LdAt w' b0 F cnt G rv N := by
  obtain ⟨D, hD, hi⟩ := h.mp
  exact ⟨hf.cell h.c0 h1, hf.cell h.c1 h1, hf.cell h.c2 h1, fun k => by rw [hf.frozen h.plt h1]; exact h.fz k, own_fr2 h.own hf h3, ⟨D, map_fr hD hf h2, hi⟩, h.ne, h.b0p, h.b0m⟩
theorem LdAt.grown {w w' : World} {b0 : Nat} {F : Fp} {cnt : Nat} {G : Nat → Bool} {rv : Value} {N : List Rep} (h : LdAt w b0 F cnt G rv N) (hg : w.grownBy w' none) : LdAt w' b0 F cnt G rv N :=
  h.fr (may := fun _ => False) (fr_none hg) (fun h => h) (fun h => h) (fun _ _ h => h)

/-- A new ledger. -/
def LdMade (w w' : World) (r : Nat) (e : Ending) : Prop := ∃ F : Fp, e = .returned (.pointer (some ⟨F.p, 0, none⟩)) ∧ F.r = r ∧ LdAt w' w'.heap.size F 0 (fun _ => false) (.slice none 0 0) [] ∧ w.heap.size ≤ F.p ∧ w.heap.size ≤ F.mb ∧ w.grownBy w' none
set_option maxRecDepth 100000 in
set_option maxHeartbeats 1000000 in
theorem fnew_at (r : Nat) (w : World) : Calls Tryz.prog 35 #[.pointer (some ⟨r, 0, none⟩)] w fun e w' => LdMade w w' r e := by
  have hmmk := @run_makeMap Tryz.prog
  go_enter Tryz.func35, Tryz.ntmps35
  go_wp2
  go_ret
  have s1 : (w.alloc (.map #[] 0)).heap.size = w.heap.size + 1 := by simp
  have hmm := World.ownsMap_made (H := Unit) w Tryz.prog 3 unitElem
  have g2 := grown_alloc w (.map #[] 0) none
  generalize w.alloc (.map #[] 0) = w1 at *
  have g3 := grown_alloc w1 (.cells #[.pointer (some ⟨r, 0, none⟩), .map (some w.heap.size), .slice none 0 0] 141) none
  have s2 : (w1.alloc (.cells #[.pointer (some ⟨r, 0, none⟩), .map (some w.heap.size), .slice none 0 0] 141)).heap.size = w1.heap.size + 1 := by simp
  refine ⟨⟨w.heap.size + 1, r, w.heap.size⟩, rfl, rfl, ⟨?_, ?_, ?_, fun k => ?_, ⟨rfl, .inl ⟨rfl, rfl⟩⟩, ⟨_, hmm.kept g3 (by simp), gIs_nil⟩, by show w.heap.size + 1 ≠ w.heap.size; omega, by rw [s2]; show w.heap.size + 1 < _; omega, by rw [s2]; show w.heap.size < _; omega⟩, by show w.heap.size ≤ w.heap.size + 1; omega, Nat.le_refl _, grown_trans g2 g3⟩
  · show (w1.alloc _).cell? ⟨w.heap.size + 1, 0, none⟩ = _
    rw [← s1, cell_alloc_new]; rfl
  · show (w1.alloc _).cell? ⟨w.heap.size + 1, 1, none⟩ = _
    rw [← s1, cell_alloc_new]; rfl
  · show (w1.alloc _).cell? ⟨w.heap.size + 1, 2, none⟩ = _
    rw [← s1, cell_alloc_new]; rfl
  · show (w1.alloc _).frozen? ⟨w.heap.size + 1, k, none⟩ = _
    rw [← s1]; exact frozen_alloc_new ..
theorem fnew_nil (w : World) : Calls Tryz.prog 35 #[.pointer none] w fun e w' => e = .returned (.pointer none) ∧ w = w' := by
  go_enter Tryz.func35, Tryz.ntmps35
  go_wp2
  go_ret
  exact ⟨rfl, rfl⟩

/-! ends -/
theorem ends_nil (w : World) : Calls Tryz.prog 96 #[.pointer none] w fun e w' => e = .returned (.tuple #[.int .i64 0, .int .i64 0]) ∧ w = w' := by
  go_enter Tryz.func96, Tryz.ntmps96
  go_wp2
  go_ret2
  exact ⟨rfl, rfl⟩
set_option maxRecDepth 100000 in
set_option maxHeartbeats 1000000 in
theorem ends_at {w : World} {A : Rp} {V : St} {cnt p : Nat} (h : RnAt w A V cnt) (c0 : w.cell? ⟨p, 0, none⟩ = some (.pointer (some ⟨A.p, 0, none⟩))) :
    Calls Tryz.prog 96 #[.pointer (some ⟨p, 0, none⟩)] w fun e w' => e = .returned (.tuple #[.int .i64 ((V.m * 256 : Nat) : Int), .int .i64 ((V.n * 256 : Nat) : Int)]) ∧ w.grownBy w' none := by
  have HC := Lib.hid (config_at h.toRnW)
  have hmn := h.ok.mn
  have hn := h.ok.n256
  have e1 : ((V.m : Nat) : Int) * 256 = ((V.m * 256 : Nat) : Int) := by omega
  have e2 : ((V.m : Nat) : Int) + (((V.n : Nat) : Int) - ((V.m : Nat) : Int)) = ((V.n : Nat) : Int) := by omega
  have e3 : ((V.n : Nat) : Int) * 256 = ((V.n * 256 : Nat) : Int) := by omega
  have b1 : ((V.n : Nat) : Int) ≤ 256 := by omega
  have b2 : ((V.m : Nat) : Int) ≤ 256 := by omega
  have b3 : (0 : Int) ≤ ((V.n : Nat) : Int) := by omega
  have b4 : (0 : Int) ≤ ((V.m : Nat) : Int) := by omega
  clear h hmn hn
  generalize ((V.m * 256 : Nat) : Int) = mm at *
  generalize ((V.n * 256 : Nat) : Int) = nn at *
  generalize hz : ((V.n : Nat) : Int) - ((V.m : Nat) : Int) = z at *
  have HZ := Lib.hid hz
  clear hz
  generalize ((V.n : Nat) : Int) = n at *
  generalize ((V.m : Nat) : Int) = m at *
  generalize ((A.seed : Nat) : Int) = sd at *
  go_enter Tryz.func96, Tryz.ntmps96
  go_wp2_with fail
  refine HC.out.mono ?_
  rintro e w1 ⟨rfl, m1⟩
  have HG := Lib.hid (grown_trans m1 (grown_alloc w1 (.cells #[.int .i64 m, .int .i64 z, .int .u64 sd] 60) none))
  clear m1 HC c0
  go_wp2_with fail
  go_quiet (fail)
  go_wp2
  go_ret2
  exact ⟨rfl, grown_drew HG.out _⟩

/-! within, end -/
def wiV (p : Pc) (a : Int) : Int := if (p.b : Int) = a then 0 else 4
set_option maxHeartbeats 400000 in
theorem within_at (p : Pc) (a : Int) (w : World) : Calls Tryz.prog 97 #[pcv p, .int .i64 a] w fun e w' => e = .returned (.int .i64 (wiV p a)) ∧ w.grownBy w' none := by
  unfold pcv wiV
  by_cases e : (p.b : Int) = a
  · rw [if_pos e]
    have e1 : ((p.b : Int) == a) = true := by simpa using e
    clear e
    generalize ((p.b : Nat) : Int) = b at *
    go_enter Tryz.func97, Tryz.ntmps97
    go_wp2
    go_ret
    exact ⟨rfl, grown_alloc _ _ _⟩
  · rw [if_neg e]
    have e1 : ((p.b : Int) == a) = false := by simpa using e
    clear e
    generalize ((p.b : Nat) : Int) = b at *
    go_enter Tryz.func97, Tryz.ntmps97
    go_wp2
    go_ret
    exact ⟨rfl, grown_alloc _ _ _⟩
/-- Where a block's bytes end, with its canary. -/
def endV (p : Pc) : Nat := if p.gr = true then (p.b + p.z + 263) / 256 * 256 else p.b + p.z + 8
set_option maxRecDepth 100000 in
set_option maxHeartbeats 400000 in
theorem end_at (p : Pc) (hb : p.b ≤ 65536) (hz : p.z ≤ 4096) (w : World) : Calls Tryz.prog 94 #[pcv p] w fun e w' => e = .returned (.int .i64 (endV p : Nat)) ∧ w.grownBy w' none := by
  unfold pcv endV
  have e1 : ((p.b : Nat) : Int) + ((p.z : Nat) : Int) = ((p.b + p.z : Nat) : Int) := by omega
  have e2 : ((p.b + p.z : Nat) : Int) + 8 = ((p.b + p.z + 8 : Nat) : Int) := by omega
  have e3 : ((p.b + p.z + 8 : Nat) : Int) + 256 - 1 = ((p.b + p.z + 263 : Nat) : Int) := by omega
  have e4 : ((p.b + p.z + 263 : Nat) : Int) / 256 = (((p.b + p.z + 263) / 256 : Nat) : Int) := by omega
  have e5 : (((p.b + p.z + 263) / 256 : Nat) : Int) * 256 = (((p.b + p.z + 263) / 256 * 256 : Nat) : Int) := by omega
  have b1 : ((p.b + p.z : Nat) : Int) ≤ 70000 := by omega
  have b2 : ((p.b + p.z + 8 : Nat) : Int) ≤ 70008 := by omega
  have b3 : ((p.b + p.z + 263 : Nat) : Int) ≤ 70263 := by omega
  have b4 : (((p.b + p.z + 263) / 256 : Nat) : Int) ≤ 300 := by omega
  have c1 : (0 : Int) ≤ ((p.b + p.z : Nat) : Int) := by omega
  have c2 : (0 : Int) ≤ ((p.b + p.z + 8 : Nat) : Int) := by omega
  have c3 : (0 : Int) ≤ ((p.b + p.z + 263 : Nat) : Int) := by omega
  have c4 : (0 : Int) ≤ (((p.b + p.z + 263) / 256 : Nat) : Int) := by omega
  cases hg : p.gr with
  | true =>
    rw [if_pos rfl]
    clear hb hz
    generalize (((p.b + p.z + 263) / 256 * 256 : Nat) : Int) = x5 at *
    generalize (((p.b + p.z + 263) / 256 : Nat) : Int) = x4 at *
    generalize ((p.b + p.z + 263 : Nat) : Int) = x3 at *
    generalize ((p.b + p.z + 8 : Nat) : Int) = x2 at *
    generalize ((p.b + p.z : Nat) : Int) = x1 at *
    generalize ((p.b : Nat) : Int) = b at *
    generalize ((p.z : Nat) : Int) = z at *
    have e3' : x2 + 256 = x3 + 1 := by omega
    have e3'' : x3 + 1 - 1 = x3 := by omega
    clear e3
    go_enter Tryz.func94, Tryz.ntmps94
    go_wp2
    go_ret
    exact ⟨rfl, grown_alloc _ _ _⟩
  | false =>
    rw [if_neg (by simp)]
    clear hb hz e3 e4 e5 b3 b4 c3 c4
    generalize ((p.b + p.z + 8 : Nat) : Int) = x2 at *
    generalize ((p.b + p.z : Nat) : Int) = x1 at *
    generalize ((p.b : Nat) : Int) = b at *
    generalize ((p.z : Nat) : Int) = z at *
    go_enter Tryz.func94, Tryz.ntmps94
    go_wp2
    go_ret
    exact ⟨rfl, grown_alloc _ _ _⟩
end Go.Proofs.YtgnfcklippjeeaaGreat

/- The walks of a ledger's live, back, Took, Dropped, Fault. -/
namespace Go.Proofs.YtgnfcklippjeeaaGreat
open Go.RowKit
open Go.Maps (Keyed)
open Sl (Cls bs upd FOk LnkIs)
open Lg (pgs)

/-- The live block's place that a byte lies in. -/
def lvV : Option Pc → Option Pc
  | none => none
  | some p => if p.st = 1 then some p else none
theorem fndV_shape (x : Option Pc) : ∃ x0 x1 x2 x3 x4 : Int, ∃ x5 b : Bool, fndV x = .tuple #[.agg #[.int .i64 x0, .int .i64 x1, .int .i64 x2, .int .i64 x3, .int .i64 x4, .bool x5], .bool b] ∧ (x = none → b = false) ∧ (∀ p, x = some p → b = true ∧ x4 = (p.st : Nat) ∧ pcv p = .agg #[.int .i64 x0, .int .i64 x1, .int .i64 x2, .int .i64 x3, .int .i64 x4, .bool x5]) := by
  cases x with
  | none => exact ⟨_, _, _, _, _, _, _, rfl, fun _ => rfl, fun _ h => by cases h⟩
  | some p => exact ⟨_, _, _, _, _, _, _, rfl, (fun h => by cases h), fun q h => by cases h; exact ⟨rfl, rfl, rfl⟩⟩
set_option maxRecDepth 100000 in
set_option maxHeartbeats 1000000 in
theorem live_c0 {w : World} {r p : Nat} {a : Int} {x0 x1 x2 x3 x4 : Int} {x5 b : Bool} (c0 : w.cell? ⟨p, 0, none⟩ = some (.pointer (some ⟨r, 0, none⟩)))
    (HF : Hid (∀ W, w.grownBy W none → Calls Tryz.prog 27 #[.pointer (some ⟨r, 0, none⟩), .int .i64 a] W fun e w' => e = .returned (.tuple #[.agg #[.int .i64 x0, .int .i64 x1, .int .i64 x2, .int .i64 x3, .int .i64 x4, .bool x5], .bool b]) ∧ W.grownBy w' none)) (hb : b = false ∨ x4 ≠ 1) :
    Calls Tryz.prog 92 #[.pointer (some ⟨p, 0, none⟩), .int .i64 a] w fun e w' => e = .returned (fndV none) ∧ w.grownBy w' none := by
  have m0 := grown_alloc w (.cells #[.int .i64 0, .int .i64 0, .int .i64 0, .int .i64 0, .int .i64 0, .bool false] 37) none
  have c00 := m0.cell c0 (by simp)
  clear c0
  by_cases hbt : b = false
  · subst hbt
    clear hb
    go_enter Tryz.func92, Tryz.ntmps92
    go_wp2_with fail
    refine (HF.out _ m0).mono ?_
    rintro e w1 ⟨rfl, m1⟩
    have m2 := grown_alloc w1 (.cells #[.int .i64 x0, .int .i64 x1, .int .i64 x2, .int .i64 x3, .int .i64 x4, .bool x5] 37) none
    have mm := grown_trans m1 m2
    have HE := Lib.hid (grown_trans m0 mm)
    clear c00 HF m0
    have z0 := new_cell (v := .int .i64 0) mm (by simp) 0 rfl
    have z1 := new_cell (v := .int .i64 0) mm (by simp) 1 rfl
    have z2 := new_cell (v := .int .i64 0) mm (by simp) 2 rfl
    have z3 := new_cell (v := .int .i64 0) mm (by simp) 3 rfl
    have z4 := new_cell (v := .int .i64 0) mm (by simp) 4 rfl
    have z5 := new_cell (v := .bool false) mm (by simp) 5 rfl
    have zf : ∀ k, (w1.alloc (.cells #[.int .i64 x0, .int .i64 x1, .int .i64 x2, .int .i64 x3, .int .i64 x4, .bool x5] 37)).frozen? ⟨w.heap.size, k, none⟩ = false := fun k => by rw [World.frozen?_of_block (mm.block w.heap.size (by simp) (by simp))]; exact frozen_alloc_new ..
    have y0 : (w1.alloc (.cells #[.int .i64 x0, .int .i64 x1, .int .i64 x2, .int .i64 x3, .int .i64 x4, .bool x5] 37)).cell? ⟨w1.heap.size, 0, none⟩ = some (.int .i64 x0) := by rw [cell_alloc_new]; rfl
    have y1 : (w1.alloc (.cells #[.int .i64 x0, .int .i64 x1, .int .i64 x2, .int .i64 x3, .int .i64 x4, .bool x5] 37)).cell? ⟨w1.heap.size, 1, none⟩ = some (.int .i64 x1) := by rw [cell_alloc_new]; rfl
    have y2 : (w1.alloc (.cells #[.int .i64 x0, .int .i64 x1, .int .i64 x2, .int .i64 x3, .int .i64 x4, .bool x5] 37)).cell? ⟨w1.heap.size, 2, none⟩ = some (.int .i64 x2) := by rw [cell_alloc_new]; rfl
    have y3 : (w1.alloc (.cells #[.int .i64 x0, .int .i64 x1, .int .i64 x2, .int .i64 x3, .int .i64 x4, .bool x5] 37)).cell? ⟨w1.heap.size, 3, none⟩ = some (.int .i64 x3) := by rw [cell_alloc_new]; rfl
    have y4 : (w1.alloc (.cells #[.int .i64 x0, .int .i64 x1, .int .i64 x2, .int .i64 x3, .int .i64 x4, .bool x5] 37)).cell? ⟨w1.heap.size, 4, none⟩ = some (.int .i64 x4) := by rw [cell_alloc_new]; rfl
    have y5 : (w1.alloc (.cells #[.int .i64 x0, .int .i64 x1, .int .i64 x2, .int .i64 x3, .int .i64 x4, .bool x5] 37)).cell? ⟨w1.heap.size, 5, none⟩ = some (.bool x5) := by rw [cell_alloc_new]; rfl
    obtain ⟨q, hq⟩ : ∃ q, w.heap.size = q := ⟨_, rfl⟩
    have HQ := Lib.hid hq
    have HN : Hid (q ≠ w1.heap.size) := Lib.hid (by have := m1.size; simp at this; omega)
    rw [hq] at z0 z1 z2 z3 z4 z5 zf ⊢
    clear hq m1 m2 mm
    obtain ⟨q1, hq1⟩ : ∃ q1, w1.heap.size = q1 := ⟨_, rfl⟩
    rw [hq1] at y0 y1 y2 y3 y4 y5 HN
    obtain ⟨w2, hw2⟩ : ∃ w2, (w1.alloc (.cells #[.int .i64 x0, .int .i64 x1, .int .i64 x2, .int .i64 x3, .int .i64 x4, .bool x5] 37)) = w2 := ⟨_, rfl⟩
    rw [hw2] at z0 z1 z2 z3 z4 z5 zf y0 y1 y2 y3 y4 y5 HE
    have HNE := HN.out
    go_upto_region 2 with (fail)

    clear hw2 hq1
    go_wp2
    exact bodyPost_ret (v := fndV none) (by simp [results, Tryz.results92, go_sem, fndV, pc0, World.cell?_setCell_same', z0, z1, z2, z3, z4, z5]) rfl ⟨rfl, grown_own HE.out (grown_trans (grown_trans (grown_trans (grown_trans (grown_trans (An.agrown_set w2 q 0 _) (An.agrown_set _ q 1 _)) (An.agrown_set _ q 2 _)) (An.agrown_set _ q 3 _)) (An.agrown_set _ q 4 _)) (An.agrown_set _ q 5 _)) (Nat.le_of_eq HQ.out)⟩
  · obtain rfl : b = true := by cases b <;> simp_all
    have h4 : (x4 != 1) = true := by simpa using hb.resolve_left (by simp)
    clear hb hbt
    go_enter Tryz.func92, Tryz.ntmps92
    go_wp2_with fail
    refine (HF.out _ m0).mono ?_
    rintro e w1 ⟨rfl, m1⟩
    have m2 := grown_alloc w1 (.cells #[.int .i64 x0, .int .i64 x1, .int .i64 x2, .int .i64 x3, .int .i64 x4, .bool x5] 37) none
    have mm := grown_trans m1 m2
    have HE := Lib.hid (grown_trans m0 mm)
    clear c00 HF m0
    have z0 := new_cell (v := .int .i64 0) mm (by simp) 0 rfl
    have z1 := new_cell (v := .int .i64 0) mm (by simp) 1 rfl
    have z2 := new_cell (v := .int .i64 0) mm (by simp) 2 rfl
    have z3 := new_cell (v := .int .i64 0) mm (by simp) 3 rfl
    have z4 := new_cell (v := .int .i64 0) mm (by simp) 4 rfl
    have z5 := new_cell (v := .bool false) mm (by simp) 5 rfl
    have zf : ∀ k, (w1.alloc (.cells #[.int .i64 x0, .int .i64 x1, .int .i64 x2, .int .i64 x3, .int .i64 x4, .bool x5] 37)).frozen? ⟨w.heap.size, k, none⟩ = false := fun k => by rw [World.frozen?_of_block (mm.block w.heap.size (by simp) (by simp))]; exact frozen_alloc_new ..
    have y0 : (w1.alloc (.cells #[.int .i64 x0, .int .i64 x1, .int .i64 x2, .int .i64 x3, .int .i64 x4, .bool x5] 37)).cell? ⟨w1.heap.size, 0, none⟩ = some (.int .i64 x0) := by rw [cell_alloc_new]; rfl
    have y1 : (w1.alloc (.cells #[.int .i64 x0, .int .i64 x1, .int .i64 x2, .int .i64 x3, .int .i64 x4, .bool x5] 37)).cell? ⟨w1.heap.size, 1, none⟩ = some (.int .i64 x1) := by rw [cell_alloc_new]; rfl
    have y2 : (w1.alloc (.cells #[.int .i64 x0, .int .i64 x1, .int .i64 x2, .int .i64 x3, .int .i64 x4, .bool x5] 37)).cell? ⟨w1.heap.size, 2, none⟩ = some (.int .i64 x2) := by rw [cell_alloc_new]; rfl
    have y3 : (w1.alloc (.cells #[.int .i64 x0, .int .i64 x1, .int .i64 x2, .int .i64 x3, .int .i64 x4, .bool x5] 37)).cell? ⟨w1.heap.size, 3, none⟩ = some (.int .i64 x3) := by rw [cell_alloc_new]; rfl
    have y4 : (w1.alloc (.cells #[.int .i64 x0, .int .i64 x1, .int .i64 x2, .int .i64 x3, .int .i64 x4, .bool x5] 37)).cell? ⟨w1.heap.size, 4, none⟩ = some (.int .i64 x4) := by rw [cell_alloc_new]; rfl
    have y5 : (w1.alloc (.cells #[.int .i64 x0, .int .i64 x1, .int .i64 x2, .int .i64 x3, .int .i64 x4, .bool x5] 37)).cell? ⟨w1.heap.size, 5, none⟩ = some (.bool x5) := by rw [cell_alloc_new]; rfl
    obtain ⟨q, hq⟩ : ∃ q, w.heap.size = q := ⟨_, rfl⟩
    have HQ := Lib.hid hq
    have HN : Hid (q ≠ w1.heap.size) := Lib.hid (by have := m1.size; simp at this; omega)
    rw [hq] at z0 z1 z2 z3 z4 z5 zf ⊢
    clear hq m1 m2 mm
    obtain ⟨q1, hq1⟩ : ∃ q1, w1.heap.size = q1 := ⟨_, rfl⟩
    rw [hq1] at y0 y1 y2 y3 y4 y5 HN
    obtain ⟨w2, hw2⟩ : ∃ w2, (w1.alloc (.cells #[.int .i64 x0, .int .i64 x1, .int .i64 x2, .int .i64 x3, .int .i64 x4, .bool x5] 37)) = w2 := ⟨_, rfl⟩
    rw [hw2] at z0 z1 z2 z3 z4 z5 zf y0 y1 y2 y3 y4 y5 HE
    have HNE := HN.out
    go_upto_region 2 with (fail)

    clear hw2 hq1
    go_wp2
    exact bodyPost_ret (v := fndV none) (by simp [results, Tryz.results92, go_sem, fndV, pc0, World.cell?_setCell_same', z0, z1, z2, z3, z4, z5]) rfl ⟨rfl, grown_own HE.out (grown_trans (grown_trans (grown_trans (grown_trans (grown_trans (An.agrown_set w2 q 0 _) (An.agrown_set _ q 1 _)) (An.agrown_set _ q 2 _)) (An.agrown_set _ q 3 _)) (An.agrown_set _ q 4 _)) (An.agrown_set _ q 5 _)) (Nat.le_of_eq HQ.out)⟩
set_option maxRecDepth 100000 in
set_option maxHeartbeats 1000000 in
theorem live_c1 {w : World} {r p : Nat} {a : Int} {x0 x1 x2 x3 : Int} {x5 : Bool} (c0 : w.cell? ⟨p, 0, none⟩ = some (.pointer (some ⟨r, 0, none⟩)))
    (HF : Hid (∀ W, w.grownBy W none → Calls Tryz.prog 27 #[.pointer (some ⟨r, 0, none⟩), .int .i64 a] W fun e w' => e = .returned (.tuple #[.agg #[.int .i64 x0, .int .i64 x1, .int .i64 x2, .int .i64 x3, .int .i64 1, .bool x5], .bool true]) ∧ W.grownBy w' none)) :
    Calls Tryz.prog 92 #[.pointer (some ⟨p, 0, none⟩), .int .i64 a] w fun e w' => e = .returned (.tuple #[.agg #[.int .i64 x0, .int .i64 x1, .int .i64 x2, .int .i64 x3, .int .i64 1, .bool x5], .bool true]) ∧ w.grownBy w' none := by
  have m0 := grown_alloc w (.cells #[.int .i64 0, .int .i64 0, .int .i64 0, .int .i64 0, .int .i64 0, .bool false] 37) none
  have c00 := m0.cell c0 (by simp)
  clear c0
  go_enter Tryz.func92, Tryz.ntmps92
  go_wp2_with fail
  refine (HF.out _ m0).mono ?_
  rintro e w1 ⟨rfl, m1⟩
  have m2 := grown_alloc w1 (.cells #[.int .i64 x0, .int .i64 x1, .int .i64 x2, .int .i64 x3, .int .i64 1, .bool x5] 37) none
  have mm := grown_trans m1 m2
  have HE := Lib.hid (grown_trans m0 mm)
  clear c00 HF m0
  have z0 := new_cell (v := .int .i64 0) mm (by simp) 0 rfl
  have z1 := new_cell (v := .int .i64 0) mm (by simp) 1 rfl
  have z2 := new_cell (v := .int .i64 0) mm (by simp) 2 rfl
  have z3 := new_cell (v := .int .i64 0) mm (by simp) 3 rfl
  have z4 := new_cell (v := .int .i64 0) mm (by simp) 4 rfl
  have z5 := new_cell (v := .bool false) mm (by simp) 5 rfl
  have zf : ∀ k, (w1.alloc (.cells #[.int .i64 x0, .int .i64 x1, .int .i64 x2, .int .i64 x3, .int .i64 1, .bool x5] 37)).frozen? ⟨w.heap.size, k, none⟩ = false := fun k => by rw [World.frozen?_of_block (mm.block w.heap.size (by simp) (by simp))]; exact frozen_alloc_new ..
  have y0 : (w1.alloc (.cells #[.int .i64 x0, .int .i64 x1, .int .i64 x2, .int .i64 x3, .int .i64 1, .bool x5] 37)).cell? ⟨w1.heap.size, 0, none⟩ = some (.int .i64 x0) := by rw [cell_alloc_new]; rfl
  have y1 : (w1.alloc (.cells #[.int .i64 x0, .int .i64 x1, .int .i64 x2, .int .i64 x3, .int .i64 1, .bool x5] 37)).cell? ⟨w1.heap.size, 1, none⟩ = some (.int .i64 x1) := by rw [cell_alloc_new]; rfl
  have y2 : (w1.alloc (.cells #[.int .i64 x0, .int .i64 x1, .int .i64 x2, .int .i64 x3, .int .i64 1, .bool x5] 37)).cell? ⟨w1.heap.size, 2, none⟩ = some (.int .i64 x2) := by rw [cell_alloc_new]; rfl
  have y3 : (w1.alloc (.cells #[.int .i64 x0, .int .i64 x1, .int .i64 x2, .int .i64 x3, .int .i64 1, .bool x5] 37)).cell? ⟨w1.heap.size, 3, none⟩ = some (.int .i64 x3) := by rw [cell_alloc_new]; rfl
  have y4 : (w1.alloc (.cells #[.int .i64 x0, .int .i64 x1, .int .i64 x2, .int .i64 x3, .int .i64 1, .bool x5] 37)).cell? ⟨w1.heap.size, 4, none⟩ = some (.int .i64 1) := by rw [cell_alloc_new]; rfl
  have y5 : (w1.alloc (.cells #[.int .i64 x0, .int .i64 x1, .int .i64 x2, .int .i64 x3, .int .i64 1, .bool x5] 37)).cell? ⟨w1.heap.size, 5, none⟩ = some (.bool x5) := by rw [cell_alloc_new]; rfl
  obtain ⟨q, hq⟩ : ∃ q, w.heap.size = q := ⟨_, rfl⟩
  have HQ := Lib.hid hq
  have HN : Hid (q ≠ w1.heap.size) := Lib.hid (by have := m1.size; simp at this; omega)
  rw [hq] at z0 z1 z2 z3 z4 z5 zf ⊢
  clear hq m1 m2 mm
  obtain ⟨q1, hq1⟩ : ∃ q1, w1.heap.size = q1 := ⟨_, rfl⟩
  rw [hq1] at y0 y1 y2 y3 y4 y5 HN
  obtain ⟨w2, hw2⟩ : ∃ w2, (w1.alloc (.cells #[.int .i64 x0, .int .i64 x1, .int .i64 x2, .int .i64 x3, .int .i64 1, .bool x5] 37)) = w2 := ⟨_, rfl⟩
  rw [hw2] at z0 z1 z2 z3 z4 z5 zf y0 y1 y2 y3 y4 y5 HE
  have HNE := HN.out
  go_upto_region 2 with (fail)

  clear hw2 hq1
  go_wp2
  exact bodyPost_ret (v := .tuple #[.agg #[.int .i64 x0, .int .i64 x1, .int .i64 x2, .int .i64 x3, .int .i64 1, .bool x5], .bool true]) (by simp [results, Tryz.results92, go_sem, World.cell?_setCell_same', z0, z1, z2, z3, z4, z5]) rfl ⟨rfl, grown_own HE.out (grown_trans (grown_trans (grown_trans (grown_trans (grown_trans (An.agrown_set w2 q 0 _) (An.agrown_set _ q 1 _)) (An.agrown_set _ q 2 _)) (An.agrown_set _ q 3 _)) (An.agrown_set _ q 4 _)) (An.agrown_set _ q 5 _)) (Nat.le_of_eq HQ.out)⟩
theorem live_at {w : World} {A : Rp} {V : St} {cnt p : Nat} {a : Int} {x : Option Pc} (h : RnAt w A V cnt) (c0 : w.cell? ⟨p, 0, none⟩ = some (.pointer (some ⟨A.p, 0, none⟩))) (hx : V.At a x) :
    Calls Tryz.prog 92 #[.pointer (some ⟨p, 0, none⟩), .int .i64 a] w fun e w' => e = .returned (fndV (lvV x)) ∧ w.grownBy w' none := by
  obtain ⟨x0, x1, x2, x3, x4, x5, b, hv, h1, h2⟩ := fndV_shape x
  have HF := Lib.hid (fun W (g1 : w.grownBy W none) => find_at (h.grown g1) hx)
  rw [hv] at HF
  cases x with
  | none => exact live_c0 c0 HF (.inl (h1 rfl))
  | some q =>
    obtain ⟨rfl, e4, e5⟩ := h2 q rfl
    unfold lvV
    by_cases e : q.st = 1
    · simp only [if_pos e]
      rw [show x4 = 1 by rw [e4, e]; rfl] at HF
      have hr : fndV (some q) = .tuple #[.agg #[.int .i64 x0, .int .i64 x1, .int .i64 x2, .int .i64 x3, .int .i64 1, .bool x5], .bool true] := by rw [hv, show x4 = 1 by rw [e4, e]; rfl]
      rw [hr]
      exact live_c1 c0 HF
    · simp only [if_neg e]
      exact live_c0 c0 HF (.inr (by rw [e4]; omega))
end Go.Proofs.YtgnfcklippjeeaaGreat

/- The walks of a ledger's back, Took, Dropped, Fault. -/
namespace Go.Proofs.YtgnfcklippjeeaaGreat
open Go.RowKit
open Go.Maps (Keyed)
open Sl (Cls bs upd FOk LnkIs)
open Lg (pgs)

theorem same_int (k : Int) : (Lit.int .i64 k).sameKey (.int .i64 k) = true := by simp [Lit.sameKey]
theorem gcut_at (G : Nat → Bool) (lo hi k : Nat) : gcut G lo hi k = (G k && !(decide (lo ≤ k) && decide (k < hi))) := rfl
theorem Fr.own {may : Nat → Prop} {a b c : World} {q : Nat} (h : Fr may a b) (k : b.grownBy c (some q)) (hq : a.heap.size ≤ q) : Fr may a c :=
  ⟨k.os.trans h.os, k.tape.trans h.tape, k.output.trans h.output, Nat.le_trans h.size k.size, fun i hi hm => (k.block i (Nat.lt_of_lt_of_le hi h.size) (fun e => by injection e; omega)).trans (h.block i hi hm)⟩
/-- The ledger's map has turned. -/
theorem LdAt.turn {w w' : World} {b0 : Nat} {F : Fp} {cnt cnt' : Nat} {G G' : Nat → Bool} {rv : Value} {N : List Rep} (h : LdAt w b0 F cnt G rv N) (hf : Fr (fun i => i = F.mb) w w') (hm : ∃ D, w'.ownsMap Tryz.prog 3 unitElem F.mb cnt' D ∧ GIs D G') (hN : ∀ q, rv.ownBlock = some q → q ≠ F.mb) : LdAt w' b0 F cnt' G' rv N :=
  ⟨hf.cell h.c0 h.ne, hf.cell h.c1 h.ne, hf.cell h.c2 h.ne, fun k => by rw [hf.frozen h.plt h.ne]; exact h.fz k, own_fr2 h.own hf hN, hm, h.ne, h.b0p, h.b0m⟩
theorem LdAt.rv_ne {w : World} {b0 : Nat} {F : Fp} {cnt : Nat} {G : Nat → Bool} {rv : Value} {N : List Rep} (h : LdAt w b0 F cnt G rv N) : ∀ q, rv.ownBlock = some q → b0 ≤ q := fun q hq => (World.ownsRow.lt h.own q hq).1
theorem LdAt.rv_mb {w : World} {b0 : Nat} {F : Fp} {cnt : Nat} {G : Nat → Bool} {rv : Value} {N : List Rep} (h : LdAt w b0 F cnt G rv N) : ∀ q, rv.ownBlock = some q → q ≠ F.mb := fun q hq => by
  have := h.rv_ne q hq
  have := h.b0m
  omega
set_option maxRecDepth 100000 in
set_option maxHeartbeats 4000000 in
theorem back_at {w : World} {b0 : Nat} {F : Fp} {cnt : Nat} {G : Nat → Bool} {rv : Value} {N : List Rep} (h : LdAt w b0 F cnt G rv N) (lo hi : Nat) :
    Calls Tryz.prog 93 #[.pointer (some ⟨F.p, 0, none⟩), .int .i64 lo, .int .i64 hi] w fun e w' => e = .returned (.tuple #[]) ∧ LdAt w' b0 F cnt (gcut G lo hi) rv N ∧ Fr (fun i => i = F.mb) w w' := by
  obtain ⟨D, hown, hgi⟩ := h.mp
  have c1 := h.c1
  have HH := Lib.hid h
  have HGI := Lib.hid hgi
  have HC1 : Hid (∀ W, Fr (fun i => i = F.mb) w W → W.cell? ⟨F.p, 1, none⟩ = some (.map (some F.mb))) := Lib.hid (fun W hf => hf.cell h.c1 h.ne)
  have HB0 := Lib.hid (show F.mb < w.heap.size from h.mlt)
  clear h hgi
  go_enter Tryz.func93, Tryz.ntmps93
  go_wp2_with (at_range; refine wpList_range_own _ rfl _ 139 rfl 3 146 kint Tryz.underlying139 unitElem F.mb cnt D rfl hown ?_; intro w1 hrg1 hg1 hs1)
  go_frame
  obtain ⟨r, hr'⟩ : ∃ r, r = w.heap.size := ⟨_, rfl⟩
  rw [← hr'] at hrg1 ⊢
  have HRG := Lib.hid hrg1
  have HF1 := Lib.hid (fr_none (may := fun i => i = F.mb) hg1)
  have HRR := Lib.hid hr'
  clear hown c1 hrg1 hg1 hr' hs1
  go_loopw [6] (fun _ wr => ∃ D' G' left c1, wr.ranges Tryz.prog 3 unitElem F.mb r cnt D' left c1 ∧ GIs D' G' ∧ (∀ kl, left kl = true → Go.Maps.has D' kl = true) ∧ Fr (fun i => i = F.mb) w wr ∧ (∀ k : Nat, G' k = (G k && (left (.int .i64 k) || !(decide (lo ≤ k) && decide (k < hi)))))) (fun _ wr => wr.rangeLeft F.mb r)
  case atStart => exact ⟨_, G, _, _, HRG.out, HGI.out, fun _ h => h, HF1.out, fun k => by rw [HGI.out.h1 k]; cases G k <;> rfl⟩
  case round =>
    clear HRG HF1
    obtain ⟨D', G', left, c1, hrg, hgi, hsub, hf, hno⟩ := hrel
    have HGI2 := Lib.hid hgi
    have HSub := Lib.hid hsub
    have HF := Lib.hid hf
    have HNo := Lib.hid hno
    have HM := Lib.hid hrg.left_eq
    clear hgi hsub hf hno
    go_wp2_with (at_next; refine wpList_next_ranges _ rfl _ rfl 3 kint unitElem (Value.int .i64) (fun _ : Unit => Value.agg #[]) (fun key kl hk => ?_) (fun v y hv => ?_) F.mb r cnt D' left c1 rfl hrg ?_ ?_)
    · obtain ⟨x, hx, _⟩ := Go.Maps.keyOf_int_inv Tryz.underlying3 hk
      exact ⟨x, hx⟩
    · exact ⟨(), (unitElem_inv hv).1⟩
    · intro hc0 hl0
      have HE : Hid (LdAt wr b0 F cnt (gcut G lo hi) rv N) := Lib.hid (HH.out.turn HF.out ⟨D', hrg.owns, by
        have e : G' = gcut G lo hi := by
          funext k
          rw [HNo.out k, hl0, gcut_at]
          simp
        rw [← e]; exact HGI2.out⟩ HH.out.rv_mb)
      clear hc0 hl0 hrg
      go_wp2
      go_end0
      exact ⟨rfl, HE.out, HF.out⟩
    · intro x c kl y w2 c2 hkey hlk hy hat hrg2 hlt hgr hsz hen
      obtain ⟨k, ek, hk⟩ := HGI2.out.h0 _ (HSub.out _ hlk)
      subst ek
      obtain ⟨x', hx', ekl, _⟩ := Go.Maps.keyOf_int_inv Tryz.underlying3 hkey
      have ex : x' = (k : Int) := by injection ekl with _ e; exact e.symm
      have ex2 : x = x' := by injection hx' with _ e
      obtain rfl : x = (k : Int) := by rw [ex2, ex]
      have HRG2 := Lib.hid hrg2
      have HLT := Lib.hid hlt
      have HF2 := Lib.hid (HF.out.own hgr (Nat.le_of_eq HRR.out.symm))
      have d1 := HC1.out _ HF2.out
      have HG1 : Hid (∀ j : Nat, j ≠ k → (left (.int .i64 j) && !(Lit.int .i64 (j : Int)).sameKey (.int .i64 (k : Int))) = left (.int .i64 j)) := Lib.hid (fun j hj => by rw [Go.Maps.sameKey_ne (intlit_ne (by omega))]; simp)
      have HGs : Hid ((left (.int .i64 k) && !(Lit.int .i64 (k : Int)).sameKey (.int .i64 (k : Int))) = false) := Lib.hid (by rw [same_int]; simp)
      have HLK := Lib.hid hlk
      have hk64 : (k : Int) ≤ 65536 := by omega
      clear hrg hkey hlk hy hat hlt hgr hsz hk hx' ekl ex ex2 HF
      by_cases a1 : lo ≤ k ∧ k < hi
      · have b1 : (lo : Int) ≤ (k : Int) := by omega
        have b2 : (k : Int) < (hi : Int) := by omega
        have hkey := Go.Maps.keyOf_int_mk (P := Tryz.prog) Tryz.underlying3 (a := (k : Int)) (WalkArith.wf_i64 ⟨by omega, by omega⟩)
        have HA := Lib.hid a1
        have HKEY := Lib.hid hkey
        clear a1 hkey HRG2
        go_wp2_with (at_delete; refine wpList_delete_ranges _ rfl _ _ 139 3 rfl 146 kint Tryz.underlying139 unitElem F.mb r cnt D' _ c2 rfl hrg2 _ _ rfl HKEY.out ?_; intro w3 c3 hrg3 hle hturn)
        have HRG3 := Lib.hid hrg3
        have HLE := Lib.hid hle
        have HF3 := Lib.hid (HF2.out.trans (fr_some (may := fun i => i = F.mb) hturn.grown (fun _ => rfl)))
        clear hrg2 hrg3 hle hturn d1 hen
        try simp only [Act.put]
        go_wp2
        go_roundw
        case rel =>
          refine ⟨_, _, _, _, HRG3.out, HGI2.out.del k, fun kl hkl => ?_, HF3.out, fun j => ?_⟩
          · have hkl' : (left kl && !kl.sameKey (.int .i64 (k : Int))) = true := by
              have := hkl
              simp only [Bool.and_eq_true] at this ⊢
              exact this.1
            simp only [Bool.and_eq_true, Bool.not_eq_true'] at hkl'
            have hne : kl ≠ .int .i64 (k : Int) := fun e => by rw [e, same_int] at hkl'; simp at hkl'
            rw [Go.Maps.has_del_other hne]
            exact HSub.out kl hkl'.1
          · unfold gdel
            by_cases e : j = k
            · subst e
              rw [if_pos rfl]
              have := HA.out
              simp [this.1, this.2, same_int]
            · rw [if_neg e, HNo.out j]
              rw [HG1.out j e, HG1.out j e]
        case measure => rw [HRG3.out.left_eq, HM.out]; have := HLT.out; have := HLE.out; omega
      · have HA := Lib.hid a1
        have HR : Hid (GIs D' G' ∧ ∀ j : Nat, G' j = (G j && ((left (.int .i64 j) && !(Lit.int .i64 (j : Int)).sameKey (.int .i64 (k : Int))) || !(decide (lo ≤ j) && decide (j < hi))))) := Lib.hid ⟨HGI2.out, fun j => by
          by_cases e : j = k
          · subst e
            rw [HNo.out j, HLK.out, same_int]
            have h2 : (decide (lo ≤ j) && decide (j < hi)) = false := by
              cases hh : (decide (lo ≤ j) && decide (j < hi)) with
              | false => rfl
              | true => simp at hh; exact absurd hh HA.out
            rw [h2]; simp
          · rw [HNo.out j, HG1.out j e]⟩
        by_cases b1 : (lo : Int) ≤ (k : Int)
        · have b2 : decide ((k : Int) < (hi : Int)) = false := by simp; omega
          have b3 : decide (k < hi) = false := by simp; omega
          clear a1 hrg2
          go_wp2
          go_roundw
          case rel => exact ⟨_, _, _, _, HRG2.out, HR.out.1, fun kl hkl => HSub.out kl (by simp only [Bool.and_eq_true] at hkl; exact hkl.1), HF2.out, HR.out.2⟩
          case measure => rw [HRG2.out.left_eq, HM.out]; exact HLT.out
        · have b2 : decide ((lo : Int) ≤ (k : Int)) = false := by simpa using b1
          have b3 : decide (lo ≤ k) = false := by simp; omega
          clear a1 hrg2 b1
          go_wp2
          go_roundw
          case rel => exact ⟨_, _, _, _, HRG2.out, HR.out.1, fun kl hkl => HSub.out kl (by simp only [Bool.and_eq_true] at hkl; exact hkl.1), HF2.out, HR.out.2⟩
          case measure => rw [HRG2.out.left_eq, HM.out]; exact HLT.out
end Go.Proofs.YtgnfcklippjeeaaGreat

/- The walks of a ledger's Took, Dropped, Fault, Note; what a nil ledger answers. -/
namespace Go.Proofs.YtgnfcklippjeeaaGreat
open Go.RowKit
open Go.Maps (Keyed)
open Sl (Cls bs upd FOk LnkIs)
open Lg (pgs)

theorem lvV_some {x : Option Pc} {p : Pc} (h : lvV x = some p) : x = some p ∧ p.st = 1 := by
  cases x with
  | none => cases h
  | some q =>
    unfold lvV at h
    simp only at h
    split at h
    · rename_i e
      cases h
      exact ⟨rfl, e⟩
    · cases h
/-- A place lies within the arena. -/
theorem St.At.bd {V : St} {a : Int} {p : Pc} (ok : V.Ok) (h : V.At a (some p)) : p.b ≤ 65536 ∧ p.z ≤ 4096 ∧ (p.b : Int) ≤ a ∧ p.b < V.m * 256 := by
  cases h with
  | slot g d x e hg hn hl =>
    obtain ⟨hm, _, hd⟩ := ok.sl g d hl
    obtain ⟨s1, s2, s3⟩ := slot_lt hd.c x
    rw [hg] at s2 s3
    have := Sl.bs_hi hd.c g s1
    have := hd.c.facts.s128
    have := hd.c.facts.rs
    have := hd.c.facts.s16
    have := ok.n256
    exact ⟨by show bs g d.s (x % 256 / d.s) ≤ 65536; omega, by show d.r ≤ 4096; omega, by show ((bs g d.s (x % 256 / d.s) : Nat) : Int) ≤ a; omega, by show bs g d.s (x % 256 / d.s) < V.m * 256; omega⟩
  | great g h0 x e hg hn hl hz =>
    obtain ⟨z1, z2, z3⟩ := hz
    obtain ⟨h1, h2, h3, h4⟩ := ok.gr_bd z1
    clear h4
    have := ok.n256
    have := ok.mn
    exact ⟨by show h0 * 256 ≤ 65536; omega, h2, by show ((h0 * 256 : Nat) : Int) ≤ a; omega, by show h0 * 256 < V.m * 256; omega⟩

/-! Took -/
theorem fnd_load (x0 x1 x2 x3 x4 : Int) (b : Bool) (w : World) (t : TypeId) : (w.alloc (.cells #[.int .i64 x0, .int .i64 x1, .int .i64 x2, .int .i64 x3, .int .i64 x4, .bool b] t)).cell? ⟨w.heap.size, 2, none⟩ = some (.int .i64 x2) := by rw [cell_alloc_new]; rfl
set_option maxRecDepth 100000 in
set_option maxHeartbeats 1000000 in
theorem took_no {w : World} {p : Nat} {a : Int} {x0 x1 x2 x3 x4 : Int} {x5 b : Bool}
    (HL : Hid (Calls Tryz.prog 92 #[.pointer (some ⟨p, 0, none⟩), .int .i64 a] w fun e w' => e = .returned (.tuple #[.agg #[.int .i64 x0, .int .i64 x1, .int .i64 x2, .int .i64 x3, .int .i64 x4, .bool x5], .bool b]) ∧ w.grownBy w' none)) (hb : b = false ∨ x2 ≠ a) :
    Calls Tryz.prog 37 #[.pointer (some ⟨p, 0, none⟩), .int .i64 a] w fun e w' => e = .returned (.int .i64 6) ∧ w.grownBy w' none := by
  cases b with
  | false =>
    clear hb
    go_enter Tryz.func37, Tryz.ntmps37
    go_wp2_with fail
    refine HL.out.mono ?_
    rintro e w1 ⟨rfl, m1⟩
    go_wp2
    go_ret
    exact ⟨rfl, grown_trans m1 (grown_alloc _ _ _)⟩
  | true =>
    have h2 : (x2 != a) = true := by simpa using hb.resolve_left (by simp)
    clear hb
    go_enter Tryz.func37, Tryz.ntmps37
    go_wp2_with fail
    refine HL.out.mono ?_
    rintro e w1 ⟨rfl, m1⟩
    go_wp2
    go_ret
    exact ⟨rfl, grown_trans m1 (grown_alloc _ _ _)⟩
set_option maxRecDepth 100000 in
set_option maxHeartbeats 1000000 in
theorem took_yes {w : World} {b0 : Nat} {F : Fp} {cnt : Nat} {G : Nat → Bool} {rv : Value} {N : List Rep} (h : LdAt w b0 F cnt G rv N) (q : Pc) (hb : q.b ≤ 65536) (hz : q.z ≤ 4096)
    (HL : Hid (Calls Tryz.prog 92 #[.pointer (some ⟨F.p, 0, none⟩), .int .i64 (q.b : Nat)] w fun e w' => e = .returned (fndV (some q)) ∧ w.grownBy w' none)) :
    Calls Tryz.prog 37 #[.pointer (some ⟨F.p, 0, none⟩), .int .i64 (q.b : Nat)] w fun e w' => e = .returned (.int .i64 0) ∧ LdAt w' b0 F cnt (gcut G q.b (endV q)) rv N ∧ Fr (fun i => i = F.mb) w w' := by
  have HE := Lib.hid (fun W => end_at q hb hz W)
  have HB := Lib.hid (fun W (g1 : w.grownBy W none) => back_at (h.grown g1) q.b (endV q))
  unfold fndV at HL
  simp only [] at HL
  unfold pcv at HL HE
  clear h hb hz
  generalize ((endV q : Nat) : Int) = ee at *
  generalize ((q.b : Nat) : Int) = b at *
  go_enter Tryz.func37, Tryz.ntmps37
  go_wp2_with fail
  refine HL.out.mono ?_
  rintro e w1 ⟨rfl, m1⟩
  have m2 := grown_trans m1 (grown_alloc w1 (.cells #[.int .i64 (q.g : Nat), .int .i64 (q.k : Nat), .int .i64 b, .int .i64 (q.z : Nat), .int .i64 (q.st : Nat), .bool q.gr] 37) none)
  go_wp2_with fail
  refine (HE.out _).mono ?_
  rintro e w2 ⟨rfl, m3⟩
  have HM := Lib.hid (grown_trans m2 m3)
  clear m1 m2 m3 HL HE
  go_wp2_with fail
  refine (HB.out _ HM.out).mono ?_
  rintro e w3 ⟨rfl, hl, hf⟩
  have HO := Lib.hid (And.intro hl ((fr_none (may := fun i => i = F.mb) HM.out).trans hf))
  clear hl hf HB HM
  go_wp2
  go_ret
  exact ⟨rfl, HO.out⟩

/-! Dropped -/
theorem zero_unit (w : World) : (zeroValue 146).run Tryz.prog w = .ok (.agg #[]) w := by kernel_rfl
theorem LdAt.store {w : World} {b0 : Nat} {F : Fp} {cnt : Nat} {G : Nat → Bool} {rv : Value} {N : List Rep} (h : LdAt w b0 F cnt G rv N) {k : Nat} (hk : k < 65536) (hcnt : cnt ≤ 100000) :
    ∃ w', (Instr.mapUpdate 139 (.map (some F.mb)) (.int .i64 k) (.agg #[])).run Tryz.prog w = .ok () w' ∧ LdAt w' b0 F (cnt + 1) (gput G k) rv N ∧ w.grownBy w' (some F.mb) := by
  obtain ⟨D, hown, hgi⟩ := h.mp
  have hkey := Go.Maps.keyOf_int_mk (P := Tryz.prog) Tryz.underlying3 (a := (k : Int)) (WalkArith.wf_i64 ⟨by omega, by omega⟩)
  obtain ⟨w', hrun, ho, hg⟩ := hown.update kint Tryz.underlying139 (by simp only [maxLen]; omega) hkey unitElem_mk
  exact ⟨w', hrun, h.turn (fr_some hg (fun _ => rfl)) ⟨_, ho, hgi.put hown.isMap hk⟩ h.rv_mb, hg⟩
theorem LdAt.look {w : World} {b0 : Nat} {F : Fp} {cnt : Nat} {G : Nat → Bool} {rv : Value} {N : List Rep} (h : LdAt w b0 F cnt G rv N) {k : Nat} (hk : k < 65536) :
    (Instr.lookup 139 (.map (some F.mb)) (.int .i64 k) true).run Tryz.prog w = .ok (.tuple #[.agg #[], .bool (G k)]) w := by
  obtain ⟨D, hown, hgi⟩ := h.mp
  have hkey := Go.Maps.keyOf_int_mk (P := Tryz.prog) Tryz.underlying3 (a := (k : Int)) (WalkArith.wf_i64 ⟨by omega, by omega⟩)
  obtain ⟨v, ps, hrun, hv⟩ := hown.look_ok kint Tryz.underlying139 (zero_unit w) unitElem_mk hkey
  obtain ⟨rfl, _⟩ := unitElem_inv hv
  rw [hrun, hgi.h1]
set_option maxRecDepth 100000 in
set_option maxHeartbeats 1000000 in
theorem dropped_range {w : World} {p : Nat} {a mm nn : Int} (HE : Hid (Calls Tryz.prog 96 #[.pointer (some ⟨p, 0, none⟩)] w fun e w' => e = .returned (.tuple #[.int .i64 mm, .int .i64 nn]) ∧ w.grownBy w' none)) (ha : a < 0 ∨ mm ≤ a) :
    Calls Tryz.prog 39 #[.pointer (some ⟨p, 0, none⟩), .int .i64 a] w fun e w' => e = .returned (.int .i64 3) ∧ w.grownBy w' none := by
  by_cases h0 : a < 0
  · have h0' : decide (a < 0) = true := by simpa using h0
    clear ha h0
    go_enter Tryz.func39, Tryz.ntmps39
    go_wp2_with fail
    refine HE.out.mono ?_
    rintro e w1 ⟨rfl, m1⟩
    go_wp2
    go_ret
    exact ⟨rfl, m1⟩
  · have h0' : decide (a < 0) = false := by simpa using h0
    have h1' : decide (mm ≤ a) = true := by simpa using ha.resolve_left h0
    clear ha h0
    go_enter Tryz.func39, Tryz.ntmps39
    go_wp2_with fail
    refine HE.out.mono ?_
    rintro e w1 ⟨rfl, m1⟩
    go_wp2
    go_ret
    exact ⟨rfl, m1⟩
set_option maxRecDepth 100000 in
set_option maxHeartbeats 1000000 in
theorem dropped_live {w : World} {p : Nat} {a mm nn : Int} {x0 x1 x3 x4 : Int} {x5 : Bool} (HE : Hid (Calls Tryz.prog 96 #[.pointer (some ⟨p, 0, none⟩)] w fun e w' => e = .returned (.tuple #[.int .i64 mm, .int .i64 nn]) ∧ w.grownBy w' none)) (ha : ¬ (a < 0 ∨ mm ≤ a))
    (HL : Hid (∀ W, w.grownBy W none → Calls Tryz.prog 92 #[.pointer (some ⟨p, 0, none⟩), .int .i64 a] W fun e w' => e = .returned (.tuple #[.agg #[.int .i64 x0, .int .i64 x1, .int .i64 a, .int .i64 x3, .int .i64 x4, .bool x5], .bool true]) ∧ W.grownBy w' none)) :
    Calls Tryz.prog 39 #[.pointer (some ⟨p, 0, none⟩), .int .i64 a] w fun e w' => e = .returned (.int .i64 8) ∧ w.grownBy w' none := by
  have h0' : decide (a < 0) = false := by simp; omega
  have h1' : decide (mm ≤ a) = false := by simp; omega
  clear ha
  go_enter Tryz.func39, Tryz.ntmps39
  go_wp2_with fail
  refine HE.out.mono ?_
  rintro e w1 ⟨rfl, m1⟩
  go_wp2_with fail
  refine (HL.out _ m1).mono ?_
  rintro e w2 ⟨rfl, m2⟩
  have HG := Lib.hid (grown_trans m1 m2)
  clear m1 m2
  go_wp2
  go_ret
  exact ⟨rfl, grown_trans HG.out (grown_alloc _ _ _)⟩
set_option maxRecDepth 100000 in
set_option maxHeartbeats 1000000 in
theorem dropped_ok {w : World} {b0 : Nat} {F : Fp} {cnt : Nat} {G : Nat → Bool} {rv : Value} {N : List Rep} (h : LdAt w b0 F cnt G rv N) (hcnt : cnt ≤ 100000) {a : Nat} {mm nn : Int} {x0 x1 x2 x3 x4 : Int} {x5 b : Bool} (h64 : a < 65536)
    (HE : Hid (Calls Tryz.prog 96 #[.pointer (some ⟨F.p, 0, none⟩)] w fun e w' => e = .returned (.tuple #[.int .i64 mm, .int .i64 nn]) ∧ w.grownBy w' none)) (ha : (a : Int) < mm)
    (HL : Hid (∀ W, w.grownBy W none → Calls Tryz.prog 92 #[.pointer (some ⟨F.p, 0, none⟩), .int .i64 a] W fun e w' => e = .returned (.tuple #[.agg #[.int .i64 x0, .int .i64 x1, .int .i64 x2, .int .i64 x3, .int .i64 x4, .bool x5], .bool b]) ∧ W.grownBy w' none)) (hb : b = false ∨ x2 ≠ (a : Int)) :
    Calls Tryz.prog 39 #[.pointer (some ⟨F.p, 0, none⟩), .int .i64 a] w fun e w' => e = .returned (.int .i64 0) ∧ LdAt w' b0 F (cnt + 1) (gput G a) rv N ∧ Fr (fun i => i = F.mb) w w' := by
  have h0' : decide ((a : Int) < 0) = false := by simp
  have h1' : decide (mm ≤ (a : Int)) = false := by simp; omega
  have HS := Lib.hid (fun W (g1 : w.grownBy W none) => (h.grown g1).store (k := a) h64 hcnt)
  have HC := Lib.hid (fun W (g1 : w.grownBy W none) => (h.grown g1).c1)
  clear h ha h64 hcnt
  cases b with
  | false =>
    clear hb
    go_enter Tryz.func39, Tryz.ntmps39
    go_wp2_with fail
    refine HE.out.mono ?_
    rintro e w1 ⟨rfl, m1⟩
    go_wp2_with fail
    refine (HL.out _ m1).mono ?_
    rintro e w2 ⟨rfl, m2⟩
    have m3 := grown_trans (grown_trans m1 m2) (grown_alloc w2 (.cells #[.int .i64 x0, .int .i64 x1, .int .i64 x2, .int .i64 x3, .int .i64 x4, .bool x5] 37) none)
    have c1 := HC.out _ m3
    obtain ⟨w3, hrun, hl, hg⟩ := HS.out _ m3
    have HO := Lib.hid (And.intro hl ((fr_none (may := fun i => i = F.mb) m3).trans (fr_some hg (fun _ => rfl))))
    clear hl hg m1 m2 m3 HS HC HL HE
    go_wp2
    go_ret
    exact ⟨rfl, HO.out⟩
  | true =>
    have h2 : (x2 == (a : Int)) = false := by simpa using hb.resolve_left (by simp)
    clear hb
    go_enter Tryz.func39, Tryz.ntmps39
    go_wp2_with fail
    refine HE.out.mono ?_
    rintro e w1 ⟨rfl, m1⟩
    go_wp2_with fail
    refine (HL.out _ m1).mono ?_
    rintro e w2 ⟨rfl, m2⟩
    have m3 := grown_trans (grown_trans m1 m2) (grown_alloc w2 (.cells #[.int .i64 x0, .int .i64 x1, .int .i64 x2, .int .i64 x3, .int .i64 x4, .bool x5] 37) none)
    have c1 := HC.out _ m3
    obtain ⟨w3, hrun, hl, hg⟩ := HS.out _ m3
    have HO := Lib.hid (And.intro hl ((fr_none (may := fun i => i = F.mb) m3).trans (fr_some hg (fun _ => rfl))))
    clear hl hg m1 m2 m3 HS HC HL HE
    go_wp2
    go_ret
    exact ⟨rfl, HO.out⟩

/-! Fault -/
/-- What is wrong with an address. -/
def fltV (V : St) (G : Nat → Bool) (a : Int) (x : Option Pc) : Int :=
  if a < 0 ∨ ((V.n * 256 : Nat) : Int) ≤ a then 1 else if ((V.m * 256 : Nat) : Int) ≤ a then 2 else match lvV x with | some p => wiV p a | none => if G a.toNat = true then 5 else 3
set_option maxRecDepth 100000 in
set_option maxHeartbeats 1000000 in
theorem fault_out {w : World} {v : Value} {a mm nn : Int} (HE : Hid (Calls Tryz.prog 96 #[v] w fun e w' => e = .returned (.tuple #[.int .i64 mm, .int .i64 nn]) ∧ w.grownBy w' none)) (ha : a < 0 ∨ nn ≤ a) :
    Calls Tryz.prog 42 #[v, .int .i64 a] w fun e w' => e = .returned (.int .i64 1) ∧ w.grownBy w' none := by
  by_cases h0 : a < 0
  · have h0' : decide (a < 0) = true := by simpa using h0
    clear ha h0
    go_enter Tryz.func42, Tryz.ntmps42
    go_wp2_with fail
    refine HE.out.mono ?_
    rintro e w1 ⟨rfl, m1⟩
    go_wp2
    go_ret
    exact ⟨rfl, m1⟩
  · have h0' : decide (a < 0) = false := by simpa using h0
    have h1' : decide (nn ≤ a) = true := by simpa using ha.resolve_left h0
    clear ha h0
    go_enter Tryz.func42, Tryz.ntmps42
    go_wp2_with fail
    refine HE.out.mono ?_
    rintro e w1 ⟨rfl, m1⟩
    go_wp2
    go_ret
    exact ⟨rfl, m1⟩
set_option maxRecDepth 100000 in
set_option maxHeartbeats 1000000 in
theorem fault_managed {w : World} {v : Value} {a mm nn : Int} (HE : Hid (Calls Tryz.prog 96 #[v] w fun e w' => e = .returned (.tuple #[.int .i64 mm, .int .i64 nn]) ∧ w.grownBy w' none)) (ha : ¬ (a < 0 ∨ nn ≤ a)) (hm : mm ≤ a) :
    Calls Tryz.prog 42 #[v, .int .i64 a] w fun e w' => e = .returned (.int .i64 2) ∧ w.grownBy w' none := by
  have h0' : decide (a < 0) = false := by simp; omega
  have h1' : decide (nn ≤ a) = false := by simp; omega
  have h2' : decide (mm ≤ a) = true := by simpa using hm
  clear ha hm
  go_enter Tryz.func42, Tryz.ntmps42
  go_wp2_with fail
  refine HE.out.mono ?_
  rintro e w1 ⟨rfl, m1⟩
  go_wp2
  go_ret
  exact ⟨rfl, m1⟩
set_option maxRecDepth 100000 in
set_option maxHeartbeats 1000000 in
theorem fault_live {w : World} {p : Nat} {a mm nn : Int} (q : Pc) (HE : Hid (Calls Tryz.prog 96 #[.pointer (some ⟨p, 0, none⟩)] w fun e w' => e = .returned (.tuple #[.int .i64 mm, .int .i64 nn]) ∧ w.grownBy w' none)) (ha : ¬ (a < 0 ∨ nn ≤ a)) (hm : ¬ mm ≤ a)
    (HL : Hid (∀ W, w.grownBy W none → Calls Tryz.prog 92 #[.pointer (some ⟨p, 0, none⟩), .int .i64 a] W fun e w' => e = .returned (fndV (some q)) ∧ W.grownBy w' none)) :
    Calls Tryz.prog 42 #[.pointer (some ⟨p, 0, none⟩), .int .i64 a] w fun e w' => e = .returned (.int .i64 (wiV q a)) ∧ w.grownBy w' none := by
  have h0' : decide (a < 0) = false := by simp; omega
  have h1' : decide (nn ≤ a) = false := by simp; omega
  have h2' : decide (mm ≤ a) = false := by simpa using hm
  have HW := Lib.hid (fun W => within_at q a W)
  unfold fndV at HL
  simp only [] at HL
  unfold pcv at HL HW
  clear ha hm
  generalize ((q.b : Nat) : Int) = b at *
  generalize wiV q a = wv at *
  go_enter Tryz.func42, Tryz.ntmps42
  go_wp2_with fail
  refine HE.out.mono ?_
  rintro e w1 ⟨rfl, m1⟩
  go_wp2_with fail
  refine (HL.out _ m1).mono ?_
  rintro e w2 ⟨rfl, m2⟩
  have m3 := grown_trans (grown_trans m1 m2) (grown_alloc w2 (.cells #[.int .i64 (q.g : Nat), .int .i64 (q.k : Nat), .int .i64 b, .int .i64 (q.z : Nat), .int .i64 (q.st : Nat), .bool q.gr] 37) none)
  go_wp2_with fail
  refine (HW.out _).mono ?_
  rintro e w3 ⟨rfl, m4⟩
  have HG := Lib.hid (grown_trans m3 m4)
  clear m1 m2 m3 m4
  go_wp2
  go_ret
  exact ⟨rfl, HG.out⟩
set_option maxRecDepth 100000 in
set_option maxHeartbeats 1000000 in
theorem fault_gone {w : World} {b0 : Nat} {F : Fp} {cnt : Nat} {G : Nat → Bool} {rv : Value} {N : List Rep} (h : LdAt w b0 F cnt G rv N) {a : Nat} {mm nn : Int} (h64 : a < 65536) (HE : Hid (Calls Tryz.prog 96 #[.pointer (some ⟨F.p, 0, none⟩)] w fun e w' => e = .returned (.tuple #[.int .i64 mm, .int .i64 nn]) ∧ w.grownBy w' none)) (ha : (a : Int) < nn) (hm : (a : Int) < mm)
    (HL : Hid (∀ W, w.grownBy W none → Calls Tryz.prog 92 #[.pointer (some ⟨F.p, 0, none⟩), .int .i64 a] W fun e w' => e = .returned (fndV none) ∧ W.grownBy w' none)) :
    Calls Tryz.prog 42 #[.pointer (some ⟨F.p, 0, none⟩), .int .i64 a] w fun e w' => e = .returned (.int .i64 (if G a = true then 5 else 3)) ∧ w.grownBy w' none := by
  have h0' : decide ((a : Int) < 0) = false := by simp
  have h1' : decide (nn ≤ (a : Int)) = false := by simp; omega
  have h2' : decide (mm ≤ (a : Int)) = false := by simp; omega
  have HK := Lib.hid (fun W (g1 : w.grownBy W none) => And.intro (h.grown g1).c1 ((h.grown g1).look (k := a) h64))
  unfold fndV pc0 at HL
  simp only [] at HL
  clear h ha hm h64
  cases hg : G a with
  | true =>
    rw [hg] at HK
    rw [if_pos rfl]
    clear hg
    go_enter Tryz.func42, Tryz.ntmps42
    go_wp2_with fail
    refine HE.out.mono ?_
    rintro e w1 ⟨rfl, m1⟩
    go_wp2_with fail
    refine (HL.out _ m1).mono ?_
    rintro e w2 ⟨rfl, m2⟩
    have m3 := grown_trans (grown_trans m1 m2) (grown_alloc w2 (.cells #[.int .i64 0, .int .i64 0, .int .i64 0, .int .i64 0, .int .i64 0, .bool false] 37) none)
    obtain ⟨c1, hrun⟩ := HK.out _ m3
    have HG := Lib.hid m3
    clear m1 m2 m3
    go_wp2
    go_ret
    exact ⟨rfl, grown_trans HG.out (grown_alloc _ _ _)⟩
  | false =>
    rw [hg] at HK
    rw [if_neg (by simp)]
    clear hg
    go_enter Tryz.func42, Tryz.ntmps42
    go_wp2_with fail
    refine HE.out.mono ?_
    rintro e w1 ⟨rfl, m1⟩
    go_wp2_with fail
    refine (HL.out _ m1).mono ?_
    rintro e w2 ⟨rfl, m2⟩
    have m3 := grown_trans (grown_trans m1 m2) (grown_alloc w2 (.cells #[.int .i64 0, .int .i64 0, .int .i64 0, .int .i64 0, .int .i64 0, .bool false] 37) none)
    obtain ⟨c1, hrun⟩ := HK.out _ m3
    have HG := Lib.hid m3
    clear m1 m2 m3
    go_wp2
    go_ret
    exact ⟨rfl, grown_trans HG.out (grown_alloc _ _ _)⟩
end Go.Proofs.YtgnfcklippjeeaaGreat

/- A region and its ledger side by side; what a nil ledger answers; Note. -/
namespace Go.Proofs.YtgnfcklippjeeaaGreat
open Go.RowKit
open Go.Maps (Keyed)
open Sl (Cls bs upd FOk LnkIs)
open Lg (pgs)

/-- All of a region's blocks. -/
def Rp.any (A : Rp) (L : Nat → Option Sd) (i : Nat) : Prop := i = A.p ∨ i = A.pa ∨ i = A.pt ∨ i = A.pg ∨ A.may L i ∨ ∃ k d, L k = some d ∧ (i = (A.xs k).pl ∨ i = (A.xs k).ph)
theorem Rp.any_may {A : Rp} {L : Nat → Option Sd} {i : Nat} (h : A.may L i) : A.any L i := .inr (.inr (.inr (.inr (.inl h))))
theorem RnW.any_lt {w : World} {A : Rp} {V : St} {cnt : Nat} (h : RnW w A V cnt) {i : Nat} (hi : A.any V.L i) : i < w.heap.size := by
  have o := h.old
  rcases hi with rfl | rfl | rfl | rfl | hi | ⟨k, d, hk, rfl | rfl⟩
  · exact o.p
  · exact o.pa
  · exact o.pt
  · exact o.pg
  · exact h.may_lt hi
  · exact (o.x k d hk).2.2.2.1
  · exact (o.x k d hk).2.2.2.2
theorem with_any {A : Rp} {V : St} {p s i : Nat} {X : Pl} {d : Sd} (hX : Fresh s X) (h : (A.with p X).any (V.set p (some d)) i) : A.any V.L i ∨ s ≤ i := by
  rcases h with h | h | h | h | h | ⟨k, e, hk, hi⟩
  · exact .inl (.inl h)
  · exact .inl (.inr (.inl h))
  · exact .inl (.inr (.inr (.inl h)))
  · exact .inl (.inr (.inr (.inr (.inl h))))
  · exact (with_may hX h).imp Rp.any_may id
  · by_cases x : k = p
    · subst x
      rw [with_xs] at hi
      have := hX.pl; have := hX.ph
      rcases hi with rfl | rfl <;> exact .inr (by omega)
    · rw [St.set_other x] at hk
      rw [with_xo A X x] at hi
      exact .inl (.inr (.inr (.inr (.inr (.inr ⟨k, e, hk, hi⟩)))))
theorem any_set {A : Rp} {V : St} {g i : Nat} {d d' : Sd} (hl : V.L g = some d) (h : A.any (V.set g (some d')) i) : A.any V.L i := by
  rcases h with h | h | h | h | h | ⟨k, e, hk, hi⟩
  · exact .inl h
  · exact .inr (.inl h)
  · exact .inr (.inr (.inl h))
  · exact .inr (.inr (.inr (.inl h)))
  · exact Rp.any_may (may_set hl h)
  · by_cases x : k = g
    · subst x; exact .inr (.inr (.inr (.inr (.inr ⟨k, d, hl, hi⟩))))
    · rw [St.set_other x] at hk; exact .inr (.inr (.inr (.inr (.inr ⟨k, e, hk, hi⟩))))
theorem any_unset {A : Rp} {V : St} {g i : Nat} (h : A.any (V.set g none) i) : A.any V.L i := by
  rcases h with h | h | h | h | h | ⟨k, e, hk, hi⟩
  · exact .inl h
  · exact .inr (.inl h)
  · exact .inr (.inr (.inl h))
  · exact .inr (.inr (.inr (.inl h)))
  · exact Rp.any_may (may_unset h)
  · by_cases x : k = g
    · subst x; rw [St.set_same] at hk; cases hk
    · rw [St.set_other x] at hk; exact .inr (.inr (.inr (.inr (.inr ⟨k, e, hk, hi⟩))))
/-- A region's memory stays while others' blocks are written. -/
theorem RnAt.other {may : Nat → Prop} {w w' : World} {A : Rp} {V : St} {cnt : Nat} (h : RnAt w A V cnt) (hf : Fr may w w') (hm : ∀ i, A.any V.L i → ¬ may i) : RnAt w' A V cnt :=
  ⟨h.toRnW.fr0 hf (fun i hi => hm i hi), h.ok⟩

/-- A region and a ledger of it. -/
structure RF (w0 w : World) (A : Rp) (V : St) (cnt b0 : Nat) (F : Fp) (c2 : Nat) (G : Nat → Bool) (rv : Value) (N : List Rep) : Prop where
  y : RnY w0 w A V cnt
  l : LdAt w b0 F c2 G rv N
  r : F.r = A.p
  sep : ∀ i, A.any V.L i → i ≠ F.p ∧ i ≠ F.mb ∧ rv.ownBlock ≠ some i
  lm : w0.heap.size ≤ F.mb
  lp : w0.heap.size ≤ F.p
  b0s : b0 ≤ w.heap.size
theorem RF.grown {w0 w w' : World} {A : Rp} {V : St} {cnt b0 c2 : Nat} {F : Fp} {G : Nat → Bool} {rv : Value} {N : List Rep} (h : RF w0 w A V cnt b0 F c2 G rv N) (hg : w.grownBy w' none) : RF w0 w' A V cnt b0 F c2 G rv N :=
  ⟨h.y.grown hg, h.l.grown hg, h.r, h.sep, h.lm, h.lp, Nat.le_trans h.b0s hg.size⟩
theorem RF.region {w0 w w' : World} {A A' : Rp} {V V' : St} {cnt cnt' b0 c2 : Nat} {F : Fp} {G : Nat → Bool} {rv : Value} {N : List Rep} (h : RF w0 w A V cnt b0 F c2 G rv N) (hy : RnY w0 w' A' V' cnt') (hf : Fr (A.may V.L) w w') (ha : ∀ i, A'.any V'.L i → A.any V.L i ∨ w.heap.size ≤ i) (hp : A'.p = A.p) : RF w0 w' A' V' cnt' b0 F c2 G rv N := by
  refine ⟨hy, h.l.fr hf (fun x => (h.sep _ (Rp.any_may x)).1 rfl) (fun x => (h.sep _ (Rp.any_may x)).2.1 rfl) (fun q hq x => (h.sep q (Rp.any_may x)).2.2 hq), h.r.trans hp.symm, fun i hi => ?_, h.lm, h.lp, Nat.le_trans h.b0s hf.size⟩
  rcases ha i hi with h1 | h1
  · exact h.sep i h1
  · have h2 := h.l.plt
    have h3 := h.l.mlt
    refine ⟨by omega, by omega, fun e => ?_⟩
    have := (World.ownsRow.lt h.l.own i e).2
    omega
theorem RF.ledger {w0 w w' : World} {A : Rp} {V : St} {cnt b0 c2 c3 : Nat} {F : Fp} {G G' : Nat → Bool} {rv : Value} {N : List Rep} (h : RF w0 w A V cnt b0 F c2 G rv N) (hl : LdAt w' b0 F c3 G' rv N) (hf : Fr (fun i => i = F.mb) w w') : RF w0 w' A V cnt b0 F c3 G' rv N :=
  ⟨⟨h.y.at_.other hf (fun i hi => (h.sep i hi).2.1), h.y.may, hf.grown h.y.all (fun i hi e => by have := h.lm; omega)⟩, hl, h.r, h.sep, h.lm, h.lp, Nat.le_trans h.b0s hf.size⟩
theorem RF.new {w0 w w' : World} {A : Rp} {V : St} {cnt : Nat} {e : Ending} (h : RnY w0 w A V cnt) (hm : LdMade w w' A.p e) : ∃ F : Fp, e = .returned (.pointer (some ⟨F.p, 0, none⟩)) ∧ RF w0 w' A V cnt w'.heap.size F 0 (fun _ => false) (.slice none 0 0) [] := by
  obtain ⟨F, he, hr, hl, h1, h2, hg⟩ := hm
  have hs := h.all.size
  refine ⟨F, he, h.grown hg, hl, hr, fun i hi => ?_, by omega, by omega, Nat.le_refl _⟩
  have := h.at_.toRnW.any_lt hi
  exact ⟨by omega, by omega, by simp [Value.ownBlock]⟩

theorem RF.ends {w0 w : World} {A : Rp} {V : St} {cnt b0 c2 : Nat} {F : Fp} {G : Nat → Bool} {rv : Value} {N : List Rep} (h : RF w0 w A V cnt b0 F c2 G rv N) :
    Calls Tryz.prog 96 #[.pointer (some ⟨F.p, 0, none⟩)] w fun e w' => e = .returned (.tuple #[.int .i64 ((V.m * 256 : Nat) : Int), .int .i64 ((V.n * 256 : Nat) : Int)]) ∧ w.grownBy w' none :=
  ends_at h.y.at_ (by have := h.l.c0; rw [h.r] at this; exact this)
theorem RF.live {w0 w : World} {A : Rp} {V : St} {cnt b0 c2 : Nat} {F : Fp} {G : Nat → Bool} {rv : Value} {N : List Rep} (h : RF w0 w A V cnt b0 F c2 G rv N) {a : Int} {x : Option Pc} (hx : V.At a x) :
    Calls Tryz.prog 92 #[.pointer (some ⟨F.p, 0, none⟩), .int .i64 a] w fun e w' => e = .returned (fndV (lvV x)) ∧ w.grownBy w' none :=
  live_at h.y.at_ (by have := h.l.c0; rw [h.r] at this; exact this) hx
theorem RF.took_no {w0 w : World} {A : Rp} {V : St} {cnt b0 c2 : Nat} {F : Fp} {G : Nat → Bool} {rv : Value} {N : List Rep} (h : RF w0 w A V cnt b0 F c2 G rv N) {a : Int} {x : Option Pc} (hx : V.At a x) (hn : ∀ p, lvV x = some p → (p.b : Int) ≠ a) :
    Calls Tryz.prog 37 #[.pointer (some ⟨F.p, 0, none⟩), .int .i64 a] w fun e w' => e = .returned (.int .i64 6) ∧ w.grownBy w' none := by
  have hl := h.live hx
  cases hv : lvV x with
  | none => rw [hv] at hl; exact Go.Proofs.YtgnfcklippjeeaaGreat.took_no (Lib.hid hl) (.inl rfl)
  | some p => rw [hv] at hl; exact Go.Proofs.YtgnfcklippjeeaaGreat.took_no (Lib.hid hl) (.inr (hn p hv))
theorem RF.took {w0 w : World} {A : Rp} {V : St} {cnt b0 c2 : Nat} {F : Fp} {G : Nat → Bool} {rv : Value} {N : List Rep} (h : RF w0 w A V cnt b0 F c2 G rv N) {a : Int} {x : Option Pc} {p : Pc} (hx : V.At a x) (hv : lvV x = some p) (hb : (p.b : Int) = a) :
    Calls Tryz.prog 37 #[.pointer (some ⟨F.p, 0, none⟩), .int .i64 a] w fun e w' => e = .returned (.int .i64 0) ∧ RF w0 w' A V cnt b0 F c2 (gcut G p.b (endV p)) rv N ∧ Fr (fun i => i = F.mb) w w' := by
  have hl := h.live hx
  obtain ⟨rfl, _⟩ := lvV_some hv
  obtain ⟨b1, b2, _⟩ := hx.bd h.y.at_.ok
  rw [hv] at hl
  subst hb
  exact (took_yes h.l p b1 b2 (Lib.hid hl)).mono fun _ _ ⟨he, hl', hf⟩ => ⟨he, h.ledger hl' hf, hf⟩
theorem RF.dropped_no {w0 w : World} {A : Rp} {V : St} {cnt b0 c2 : Nat} {F : Fp} {G : Nat → Bool} {rv : Value} {N : List Rep} (h : RF w0 w A V cnt b0 F c2 G rv N) {a : Int} (ha : a < 0 ∨ ((V.m * 256 : Nat) : Int) ≤ a) :
    Calls Tryz.prog 39 #[.pointer (some ⟨F.p, 0, none⟩), .int .i64 a] w fun e w' => e = .returned (.int .i64 3) ∧ w.grownBy w' none :=
  dropped_range (Lib.hid h.ends) ha
theorem RF.dropped_live {w0 w : World} {A : Rp} {V : St} {cnt b0 c2 : Nat} {F : Fp} {G : Nat → Bool} {rv : Value} {N : List Rep} (h : RF w0 w A V cnt b0 F c2 G rv N) {a : Int} {x : Option Pc} {p : Pc} (hx : V.At a x) (hv : lvV x = some p) (hb : (p.b : Int) = a) :
    Calls Tryz.prog 39 #[.pointer (some ⟨F.p, 0, none⟩), .int .i64 a] w fun e w' => e = .returned (.int .i64 8) ∧ w.grownBy w' none := by
  obtain ⟨rfl, _⟩ := lvV_some hv
  obtain ⟨_, _, _, b4⟩ := hx.bd h.y.at_.ok
  have HL := Lib.hid (fun W (g1 : w.grownBy W none) => (h.grown g1).live hx)
  rw [hv] at HL
  subst hb
  exact Go.Proofs.YtgnfcklippjeeaaGreat.dropped_live (Lib.hid h.ends) (by omega) HL
theorem RF.dropped {w0 w : World} {A : Rp} {V : St} {cnt b0 c2 : Nat} {F : Fp} {G : Nat → Bool} {rv : Value} {N : List Rep} (h : RF w0 w A V cnt b0 F c2 G rv N) {a : Nat} {x : Option Pc} (hx : V.At (a : Int) x) (ha : a < V.m * 256) (hn : ∀ p, lvV x = some p → p.b ≠ a) (hc : c2 ≤ 100000) :
    Calls Tryz.prog 39 #[.pointer (some ⟨F.p, 0, none⟩), .int .i64 a] w fun e w' => e = .returned (.int .i64 0) ∧ RF w0 w' A V cnt b0 F (c2 + 1) (gput G a) rv N ∧ Fr (fun i => i = F.mb) w w' := by
  have HL := Lib.hid (fun W (g1 : w.grownBy W none) => (h.grown g1).live hx)
  have h64 : a < 65536 := by have := h.y.at_.ok.mn; have := h.y.at_.ok.n256; omega
  have key : Calls Tryz.prog 39 #[.pointer (some ⟨F.p, 0, none⟩), .int .i64 a] w fun e w' => e = .returned (.int .i64 0) ∧ LdAt w' b0 F (c2 + 1) (gput G a) rv N ∧ Fr (fun i => i = F.mb) w w' := by
    cases hv : lvV x with
    | none => rw [hv] at HL; exact dropped_ok h.l hc h64 (Lib.hid h.ends) (by omega) HL (.inl rfl)
    | some p => rw [hv] at HL; exact dropped_ok h.l hc h64 (Lib.hid h.ends) (by omega) HL (.inr (by have := hn p hv; omega))
  exact key.mono fun _ _ ⟨he, hl', hf⟩ => ⟨he, h.ledger hl' hf, hf⟩
theorem RF.fault {w0 w : World} {A : Rp} {V : St} {cnt b0 c2 : Nat} {F : Fp} {G : Nat → Bool} {rv : Value} {N : List Rep} (h : RF w0 w A V cnt b0 F c2 G rv N) {a : Int} {x : Option Pc} (hx : V.At a x) :
    Calls Tryz.prog 42 #[.pointer (some ⟨F.p, 0, none⟩), .int .i64 a] w fun e w' => e = .returned (.int .i64 (fltV V G a x)) ∧ w.grownBy w' none := by
  have HL := Lib.hid (fun W (g1 : w.grownBy W none) => (h.grown g1).live hx)
  have hmn := h.y.at_.ok.mn
  have hn := h.y.at_.ok.n256
  unfold fltV
  by_cases h1 : a < 0 ∨ ((V.n * 256 : Nat) : Int) ≤ a
  · rw [if_pos h1]; exact fault_out (Lib.hid h.ends) h1
  · rw [if_neg h1]
    by_cases h2 : ((V.m * 256 : Nat) : Int) ≤ a
    · rw [if_pos h2]; exact fault_managed (Lib.hid h.ends) h1 h2
    · rw [if_neg h2]
      obtain ⟨b, rfl⟩ : ∃ b : Nat, a = b := ⟨a.toNat, by omega⟩
      cases hv : lvV x with
      | none =>
        rw [hv] at HL
        simp only [Int.toNat_natCast]
        exact fault_gone h.l (by omega) (Lib.hid h.ends) (by omega) (by omega) HL
      | some p =>
        rw [hv] at HL
        exact fault_live p (Lib.hid h.ends) h1 h2 HL

/-! A nil ledger. -/
theorem fnil_took (a : Int) (w : World) : Calls Tryz.prog 37 #[.pointer none, .int .i64 a] w fun e w' => e = .returned (.int .i64 2) ∧ w = w' := by
  go_enter Tryz.func37, Tryz.ntmps37
  go_wp2
  go_ret
  exact ⟨rfl, rfl⟩
theorem fnil_dropped (a : Int) (w : World) : Calls Tryz.prog 39 #[.pointer none, .int .i64 a] w fun e w' => e = .returned (.int .i64 2) ∧ w = w' := by
  go_enter Tryz.func39, Tryz.ntmps39
  go_wp2
  go_ret
  exact ⟨rfl, rfl⟩
theorem fnil_fault (a : Int) (w : World) : Calls Tryz.prog 42 #[.pointer none, .int .i64 a] w fun e w' => e = .returned (.int .i64 1) ∧ w.grownBy w' none :=
  fault_out (mm := 0) (nn := 0) (Lib.hid ((ends_nil w).mono fun _ _ ⟨he, hw⟩ => ⟨he, hw ▸ grown_refl _ _⟩)) (by omega)
theorem fnil_reports (w : World) : Calls Tryz.prog 45 #[.pointer none] w fun e w' => e = .returned (.slice none 0 0) ∧ w = w' := by
  go_enter Tryz.func45, Tryz.ntmps45
  go_wp2
  go_ret
  exact ⟨rfl, rfl⟩
theorem fnil_gone (w : World) : Calls Tryz.prog 44 #[.pointer none] w fun e w' => e = .returned (.slice none 0 0) ∧ w = w' := by
  go_enter Tryz.func44, Tryz.ntmps44
  go_wp2
  go_ret
  exact ⟨rfl, rfl⟩
theorem fnil_note (t a f : Int) (w : World) : Calls Tryz.prog 41 #[.pointer none, .int .i64 t, .int .i64 a, .int .i64 f] w fun e w' => e = .returned (.tuple #[]) ∧ w = w' := by
  go_enter Tryz.func41, Tryz.ntmps41
  go_wp2
  exact bodyPost_ret (v := .tuple #[]) (by simp [results, Tryz.results41, go_sem]) rfl ⟨rfl, rfl⟩
end Go.Proofs.YtgnfcklippjeeaaGreat

/- Chapter 10's example, and the walk of FaultNil. -/
namespace Go.Proofs.YtgnfcklippjeeaaGreat
open Go.RowKit
open Go.Maps (Keyed)
open Sl (Cls bs upd FOk LnkIs)
open Lg (pgs)

theorem RF.take {w0 w : World} {A : Rp} {V : St} {cnt b0 c2 g k : Nat} {F : Fp} {G : Nat → Bool} {rv : Value} {N : List Rep} {d : Sd} {x : Int} (h : RF w0 w A V cnt b0 F c2 G rv N) (hl : V.L g = some d) (hf : d.f = (k : Int)) (hk : k < d.n) (h0 : d.S k = 0) (hx : LnkIs V.key g d.s d.n d.S V.B k x) (h2 : x ≠ -2) :
    Calls Tryz.prog 29 #[.pointer (some ⟨A.p, 0, none⟩), .int .i64 g] w fun e w' => e = .returned (.tuple #[.int .i64 (bs g d.s k : Nat), .int .i64 0]) ∧ RF w0 w' A (V.take g d k x) cnt b0 F c2 G rv N :=
  (rtake_ok h.y.at_ hl hf hk h0 hx h2).mono fun _ _ ⟨he, hr, hfr⟩ => ⟨he, h.region (h.y.step hr hfr (fun _ hi => .inl (may_set hl hi))) hfr (fun _ hi => .inl (any_set hl hi)) rfl⟩
theorem RF.drop {w0 w : World} {A : Rp} {V : St} {cnt b0 c2 g k : Nat} {F : Fp} {G : Nat → Bool} {rv : Value} {N : List Rep} {d : Sd} (h : RF w0 w A V cnt b0 F c2 G rv N) (hl : V.L g = some d) (hk : k < d.n) (h1 : d.S k = 1) :
    Calls Tryz.prog 17 #[.pointer (some ⟨A.p, 0, none⟩), .int .i64 (bs g d.s k : Nat)] w fun e w' => e = .returned (.tuple #[.bool (V.std g d k), .int .i64 0]) ∧ RF w0 w' A (V.drop g d k) cnt b0 F c2 G rv N :=
  (rdrop_core (R := fun W => RnAt W A (V.drop g d k) cnt) h.y.at_ hl hk (fun _ g1 => (h.y.at_.grown g1).drop_slab hl hk h1)).mono fun _ _ ⟨he, hr, hfr⟩ => ⟨he, h.region (h.y.step hr hfr (fun _ hi => .inl (may_set hl hi))) hfr (fun _ hi => .inl (any_set hl hi)) rfl⟩
theorem RF.give {w0 w : World} {A : Rp} {V : St} {cnt b0 c2 g k : Nat} {F : Fp} {G : Nat → Bool} {rv : Value} {N : List Rep} {d : Sd} (h : RF w0 w A V cnt b0 F c2 G rv N) (hl : V.L g = some d) (hk : k < d.n) (h1 : d.S k = 2) :
    Calls Tryz.prog 18 #[.pointer (some ⟨A.p, 0, none⟩), .int .i64 (bs g d.s k : Nat)] w fun e w' => e = .returned (.int .i64 0) ∧ RF w0 w' A (V.give g d k) cnt b0 F c2 G rv N :=
  (rgive_core (R := fun W => RnAt W A (V.give g d k) cnt) h.y.at_ hl hk (fun _ g1 => (h.y.at_.grown g1).give_slab hl hk h1)).mono fun _ _ ⟨he, hr, hfr⟩ => ⟨he, h.region (h.y.step hr hfr (fun _ hi => .inl (may_set hl hi))) hfr (fun _ hi => .inl (any_set hl hi)) rfl⟩

/-! The states of the example. -/
def e1 (key : Nat) : St := (St.new 1 1 key).open_ 0 1 32 8 24 0
def e2 (key : Nat) : St := (e1 key).take 0 (d1 0) 0 1
def da : Sd := { d1 0 with S := upd (fun _ => 0) 0 1, f := 1 }
def e3 (key : Nat) : St := (e2 key).take 0 da 1 2
def db : Sd := { da with S := upd da.S 1 1, f := 2 }
def e4 (key : Nat) : St := (e3 key).drop 0 db 1
def dc : Sd := { db with S := upd db.S 1 2 }
def e5 (key : Nat) : St := (e4 key).give 0 dc 1
def dd : Sd := { dc with S := upd dc.S 1 0, f := 1 }
def e6 (key : Nat) : St := (e5 key).take 0 dd 1 2
def de : Sd := { dd with S := upd dd.S 1 1, f := 2 }
theorem drop_L (V : St) (g : Nat) (d : Sd) (k : Nat) : (V.drop g d k).L g = some { d with S := upd d.S k 2 } := St.set_same V g _
theorem give_L (V : St) (g : Nat) (d : Sd) (k : Nat) : (V.give g d k).L g = some { d with S := upd d.S k 0, f := k } := St.set_same V g _
theorem e1L (key : Nat) : (e1 key).L 0 = some (d1 0) := open_L _ _ _ _ _ _ _
theorem e2L (key : Nat) : (e2 key).L 0 = some da := take_L _ _ _ _ _
theorem e3L (key : Nat) : (e3 key).L 0 = some db := take_L _ _ _ _ _
theorem e4L (key : Nat) : (e4 key).L 0 = some dc := drop_L _ _ _ _
theorem e5L (key : Nat) : (e5 key).L 0 = some dd := give_L _ _ _ _
theorem e6L (key : Nat) : (e6 key).L 0 = some de := take_L _ _ _ _ _
theorem db1 : db.S 1 = 1 := rfl
theorem dc1 : dc.S 1 = 2 := rfl
theorem dd1 : dd.S 1 = 0 := rfl
theorem dd2 : dd.S 2 = 0 := rfl
theorem lk5 (key : Nat) : LnkIs (e5 key).key 0 dd.s dd.n dd.S (e5 key).B 1 2 := by
  refine .inr (.inl ⟨2, by show 2 < 8; omega, rfl, by omega, dd2, ?_⟩)
  exact Ar.wordAt_setW _ _ _ (Li.lk_lt _ _ (by decide))
theorem gcut_f (lo hi : Nat) : gcut (fun _ => false) lo hi = fun _ => false := by funext k; rfl
theorem gcut_32 : gcut (gput (fun _ => false) 32) 32 64 = fun _ => false := by
  funext k
  unfold gcut gput
  by_cases e : k = 32
  · subst e; rfl
  · rw [if_neg e]; rfl
set_option maxRecDepth 100000 in
set_option maxHeartbeats 4000000 in
theorem awake10_at (w : World) :
    Calls Tryz.prog 46 #[] w fun e w' => e = .returned (.bool true) ∧ w.grownBy w' none := by
  have HN : Hid (Calls Tryz.prog 22 #[.agg #[.int .i64 1, .int .i64 0, .int .u64 0]] w fun e w' => RnMade w w' 1 0 0 e) := Lib.hid (rgnew_yes (m := 1) (M := 0) 0 w ⟨by omega, by omega, by omega, by omega⟩)
  go_enter Tryz.func46, Tryz.ntmps46
  go_wp2_with fail
  refine HN.out.mono ?_
  rintro e w1 hm
  obtain ⟨A, rfl, hy, _⟩ := rnew_y hm
  have HY := Lib.hid hy
  clear hm hy HN
  generalize keyOf 0 = key at *
  go_wp2_with fail
  refine (fnew_at A.p w1).mono ?_
  rintro e w2 hm
  obtain ⟨F, rfl, hr⟩ := RF.new HY.out hm
  have HR := Lib.hid hr
  clear hr hm HY
  generalize w2.heap.size = b0 at *
  have HO : Hid (Calls Tryz.prog 28 #[.pointer (some ⟨A.p, 0, none⟩), .int .i64 1, .int .i64 0] w2 fun e w' => e = .returned (.tuple #[.int .i64 0, .int .i64 0]) ∧ OpenRes w2 w' A (St.new 1 1 key) 0 0 1 32 8 24 0) :=
    Lib.hid (ropen_ok (c := 1) (o := 0) HR.out.y.at_ cls1 (by omega) (place0 (by omega) (by omega)) (by omega))
  go_wp2_with fail
  refine HO.out.mono ?_
  rintro e w3 ⟨rfl, X, h1, h2, h3⟩
  have HR3 : Hid (RF w w3 (A.with 0 X) (e1 key) 1 b0 F 0 (fun _ => false) (.slice none 0 0) []) := Lib.hid (HR.out.region (HR.out.y.step h1 h2 (fun i hi => with_may h3 hi)) h2 (fun i hi => with_any h3 hi) rfl)
  clear h1 h2 h3 HO HR
  have HT : Hid (Calls Tryz.prog 29 #[.pointer (some ⟨A.p, 0, none⟩), .int .i64 0] w3 fun e w' => e = .returned (.tuple #[.int .i64 0, .int .i64 0]) ∧ RF w w' (A.with 0 X) (e2 key) 1 b0 F 0 (fun _ => false) (.slice none 0 0) []) :=
    Lib.hid (HR3.out.take (g := 0) (k := 0) (d := d1 0) (x := 1) (e1L key) rfl (by show 0 < 8; omega) rfl (link0 _ _) (by omega))
  go_wp2_with fail
  refine HT.out.mono ?_
  rintro e w4 ⟨rfl, hy⟩
  have HR4 := Lib.hid hy
  clear hy HT HR3
  have HT : Hid (Calls Tryz.prog 29 #[.pointer (some ⟨A.p, 0, none⟩), .int .i64 0] w4 fun e w' => e = .returned (.tuple #[.int .i64 32, .int .i64 0]) ∧ RF w w' (A.with 0 X) (e3 key) 1 b0 F 0 (fun _ => false) (.slice none 0 0) []) :=
    Lib.hid (HR4.out.take (g := 0) (k := 1) (d := da) (x := 2) (e2L key) rfl (by show 1 < 8; omega) rfl (link1 _ _) (by omega))
  go_wp2_with fail
  refine HT.out.mono ?_
  rintro e w5 ⟨rfl, hy⟩
  have HR5 := Lib.hid hy
  clear hy HT HR4
  have HK : Hid (Calls Tryz.prog 37 #[.pointer (some ⟨F.p, 0, none⟩), .int .i64 0] w5 fun e w' => e = .returned (.int .i64 0) ∧ RF w w' (A.with 0 X) (e3 key) 1 b0 F 0 (fun _ => false) (.slice none 0 0) []) := Lib.hid (by
    have := HR5.out.took (a := 0) (.slot 0 db 0 rfl (by omega) (by show 0 < 1; omega) (e3L key)) (p := spc 0 db 0) rfl rfl
    rw [gcut_f] at this
    exact this.mono fun _ _ ⟨he, hr, _⟩ => ⟨he, hr⟩)
  go_wp2_with fail
  refine HK.out.mono ?_
  rintro e w6 ⟨rfl, hy⟩
  have HR6 := Lib.hid hy
  clear hy HK HR5
  have HK : Hid (Calls Tryz.prog 37 #[.pointer (some ⟨F.p, 0, none⟩), .int .i64 32] w6 fun e w' => e = .returned (.int .i64 0) ∧ RF w w' (A.with 0 X) (e3 key) 1 b0 F 0 (fun _ => false) (.slice none 0 0) []) := Lib.hid (by
    have := HR6.out.took (a := 32) (.slot 0 db 32 rfl (by omega) (by show 0 < 1; omega) (e3L key)) (p := spc 0 db 1) rfl rfl
    rw [gcut_f] at this
    exact this.mono fun _ _ ⟨he, hr, _⟩ => ⟨he, hr⟩)
  go_wp2_with fail
  refine HK.out.mono ?_
  rintro e w7 ⟨rfl, hy⟩
  have HR7 := Lib.hid hy
  clear hy HK HR6
  have HD : Hid (∃ b : Bool, Calls Tryz.prog 17 #[.pointer (some ⟨A.p, 0, none⟩), .int .i64 32] w7 fun e w' => e = .returned (.tuple #[.bool b, .int .i64 0]) ∧ RF w w' (A.with 0 X) (e4 key) 1 b0 F 0 (fun _ => false) (.slice none 0 0) []) :=
    Lib.hid ⟨_, HR7.out.drop (g := 0) (k := 1) (d := db) (e3L key) (by show 1 < 8; omega) db1⟩
  obtain ⟨bo, hd⟩ := HD.out
  have HD2 := Lib.hid hd
  clear HD hd
  go_wp2_with fail
  refine HD2.out.mono ?_
  rintro e w8 ⟨rfl, hy⟩
  have HR8 := Lib.hid hy
  clear hy HD2 HR7
  have HP : Hid (Calls Tryz.prog 39 #[.pointer (some ⟨F.p, 0, none⟩), .int .i64 32] w8 fun e w' => e = .returned (.int .i64 0) ∧ RF w w' (A.with 0 X) (e4 key) 1 b0 F 1 (gput (fun _ => false) 32) (.slice none 0 0) []) := Lib.hid (by
    have := HR8.out.dropped (a := 32) (.slot 0 dc 32 rfl (by omega) (by show 0 < 1; omega) (e4L key)) (by show 32 < 1 * 256; omega) (fun p hp => by cases hp) (by omega)
    exact this.mono fun _ _ ⟨he, hr, _⟩ => ⟨he, hr⟩)
  go_wp2_with fail
  refine HP.out.mono ?_
  rintro e w9 ⟨rfl, hy⟩
  have HR9 := Lib.hid hy
  clear hy HP HR8
  have HF : Hid (Calls Tryz.prog 42 #[.pointer (some ⟨F.p, 0, none⟩), .int .i64 32] w9 fun e w' => e = .returned (.int .i64 5) ∧ w9.grownBy w' none) :=
    Lib.hid (HR9.out.fault (a := 32) (.slot 0 dc 32 rfl (by omega) (by show 0 < 1; omega) (e4L key)))
  go_wp2_with fail
  refine HF.out.mono ?_
  rintro e w10 ⟨rfl, hg⟩
  have HR10 := Lib.hid (HR9.out.grown hg)
  clear hg HF HR9
  have HG : Hid (Calls Tryz.prog 18 #[.pointer (some ⟨A.p, 0, none⟩), .int .i64 32] w10 fun e w' => e = .returned (.int .i64 0) ∧ RF w w' (A.with 0 X) (e5 key) 1 b0 F 1 (gput (fun _ => false) 32) (.slice none 0 0) []) :=
    Lib.hid (HR10.out.give (g := 0) (k := 1) (d := dc) (e4L key) (by show 1 < 8; omega) dc1)
  go_wp2_with fail
  refine HG.out.mono ?_
  rintro e w11 ⟨rfl, hy⟩
  have HR11 := Lib.hid hy
  clear hy HG HR10
  have HT : Hid (Calls Tryz.prog 29 #[.pointer (some ⟨A.p, 0, none⟩), .int .i64 0] w11 fun e w' => e = .returned (.tuple #[.int .i64 32, .int .i64 0]) ∧ RF w w' (A.with 0 X) (e6 key) 1 b0 F 1 (gput (fun _ => false) 32) (.slice none 0 0) []) :=
    Lib.hid (HR11.out.take (g := 0) (k := 1) (d := dd) (x := 2) (e5L key) rfl (by show 1 < 8; omega) dd1 (lk5 key) (by omega))
  go_wp2_with fail
  refine HT.out.mono ?_
  rintro e w12 ⟨rfl, hy⟩
  have HR12 := Lib.hid hy
  clear hy HT HR11
  have HK : Hid (Calls Tryz.prog 37 #[.pointer (some ⟨F.p, 0, none⟩), .int .i64 32] w12 fun e w' => e = .returned (.int .i64 0) ∧ RF w w' (A.with 0 X) (e6 key) 1 b0 F 1 (fun _ => false) (.slice none 0 0) []) := Lib.hid (by
    have := HR12.out.took (a := 32) (.slot 0 de 32 rfl (by omega) (by show 0 < 1; omega) (e6L key)) (p := spc 0 de 1) rfl rfl
    rw [show gcut (gput (fun _ => false) 32) (spc 0 de 1).b (endV (spc 0 de 1)) = gcut (gput (fun _ => false) 32) 32 64 from rfl, gcut_32] at this
    exact this.mono fun _ _ ⟨he, hr, _⟩ => ⟨he, hr⟩)
  go_wp2_with fail
  refine HK.out.mono ?_
  rintro e w13 ⟨rfl, hy⟩
  have HR13 := Lib.hid hy
  clear hy HK HR12
  have HF : Hid (Calls Tryz.prog 42 #[.pointer (some ⟨F.p, 0, none⟩), .int .i64 32] w13 fun e w' => e = .returned (.int .i64 0) ∧ w13.grownBy w' none) :=
    Lib.hid (HR13.out.fault (a := 32) (.slot 0 de 32 rfl (by omega) (by show 0 < 1; omega) (e6L key)))
  go_wp2_with fail
  refine HF.out.mono ?_
  rintro e w14 ⟨rfl, hg⟩
  have HR14 := Lib.hid (HR13.out.grown hg)
  clear hg HF HR13
  have HF : Hid (Calls Tryz.prog 42 #[.pointer (some ⟨F.p, 0, none⟩), .int .i64 40] w14 fun e w' => e = .returned (.int .i64 4) ∧ w14.grownBy w' none) :=
    Lib.hid (HR14.out.fault (a := 40) (.slot 0 de 40 rfl (by omega) (by show 0 < 1; omega) (e6L key)))
  go_wp2_with fail
  refine HF.out.mono ?_
  rintro e w15 ⟨rfl, hg⟩
  have HE := Lib.hid (grown_trans HR14.out.y.all hg)
  clear hg HF HR14
  go_wp2
  go_ret
  exact ⟨rfl, HE.out⟩
set_option maxRecDepth 100000 in
set_option maxHeartbeats 1000000 in
theorem faultNil_walk (a f : Int) (w : World) :
    Calls Tryz.prog 9 #[.int .i64 a, .int .i64 f] w fun e w' => e = .returned (.bool true) ∧ w.grownBy w' none := by
  go_enter Tryz.func9, Tryz.ntmps9
  go_wp2_with fail
  refine (fnew_nil w).mono ?_
  rintro e w1 ⟨rfl, rfl⟩
  go_wp2_with fail
  refine (fnil_note 1 a f w).mono ?_
  rintro e w1 ⟨rfl, rfl⟩
  go_wp2_with fail
  refine (fnil_took a w).mono ?_
  rintro e w1 ⟨rfl, rfl⟩
  go_wp2_with fail
  refine (fnil_dropped a w).mono ?_
  rintro e w1 ⟨rfl, rfl⟩
  go_wp2_with fail
  refine (fnil_fault a w).mono ?_
  rintro e w1 ⟨rfl, hg⟩
  go_wp2_with fail
  refine (fnil_reports _).mono ?_
  rintro e w2 ⟨rfl, rfl⟩
  go_wp2_with fail
  refine (fnil_gone _).mono ?_
  rintro e w2 ⟨rfl, rfl⟩
  go_wp2_with fail
  refine (awake10_at _).mono ?_
  rintro e w2 ⟨rfl, hg2⟩
  have HE := Lib.hid (grown_trans hg hg2)
  clear hg hg2
  go_wp2
  go_ret
  exact ⟨rfl, HE.out⟩
end Go.Proofs.YtgnfcklippjeeaaGreat
