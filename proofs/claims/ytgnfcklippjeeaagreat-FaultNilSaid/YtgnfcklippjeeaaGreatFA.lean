/- A ledger in the world; the walks of New, ends, within, end, live. -/
import Derived.Test.YtgnfcklippjeeaaGreatNL
namespace Go.Proofs.YtgnfcklippjeeaaGreat
open Go.RowKit
open Go.Maps (Keyed)
open Sl (Cls bs upd FOk LnkIs)
open Lg (pgs)

/-- How the ledger's map reads: which addresses are gone. -/
structure GIs (D : DataW Unit) (G : Nat → Bool) : Prop where
  h1 : ∀ k : Nat, Go.Maps.has D (.int .i64 k) = G k
  h0 : ∀ kl, Go.Maps.has D kl = true → ∃ k : Nat, kl = .int .i64 k ∧ k < 65536
theorem gIs_nil : GIs (.map []) (fun _ => false) := ⟨fun k => by simp [Go.Maps.has_eq], fun kl h => by simp [Go.Maps.has_eq] at h⟩
theorem GIs.bd {D : DataW Unit} {G : Nat → Bool} (h : GIs D G) {k : Nat} (hk : G k = true) : k < 65536 := by
  obtain ⟨j, e, hj⟩ := h.h0 _ ((h.h1 k).trans hk)
  injection e with _ e
  omega
def gput (G : Nat → Bool) (k : Nat) : Nat → Bool := fun j => if j = k then true else G j
def gdel (G : Nat → Bool) (k : Nat) : Nat → Bool := fun j => if j = k then false else G j
def gcut (G : Nat → Bool) (lo hi : Nat) : Nat → Bool := fun j => G j && !(decide (lo ≤ j) && decide (j < hi))
theorem GIs.put {D : DataW Unit} {G : Nat → Bool} {d : DataW Unit} (h : GIs D G) (hD : Go.Maps.IsMap D) {k : Nat} (hk : k < 65536) : GIs (D.put (.int .i64 k) d) (gput G k) := by
  have hkl : WideAt.IsKeyLit (.int .i64 (k : Int)) := kint.key (Go.Maps.keyOf_int_mk Tryz.underlying3 (WalkArith.wf_i64 (by omega)))
  refine ⟨fun j => ?_, fun kl hkl' => ?_⟩
  · unfold gput
    by_cases e : j = k
    · subst e; rw [if_pos rfl]; exact Go.Maps.has_put_same hD hkl _
    · rw [if_neg e, Go.Maps.has_put_other (intlit_ne (by omega))]; exact h.h1 j
  · by_cases e : kl = .int .i64 (k : Int)
    · exact ⟨k, e, hk⟩
    · rw [Go.Maps.has_put_other e] at hkl'; exact h.h0 kl hkl'
theorem GIs.del {D : DataW Unit} {G : Nat → Bool} (h : GIs D G) (k : Nat) : GIs (D.del (.int .i64 k)) (gdel G k) := by
  refine ⟨fun j => ?_, fun kl hkl' => ?_⟩
  · unfold gdel
    by_cases e : j = k
    · subst e; rw [if_pos rfl]; exact Go.Maps.has_del_same
    · rw [if_neg e, Go.Maps.has_del_other (intlit_ne (by omega))]; exact h.h1 j
  · by_cases e : kl = .int .i64 (k : Int)
    · rw [e, Go.Maps.has_del_same] at hkl'; cases hkl'
    · rw [Go.Maps.has_del_other e] at hkl'; exact h.h0 kl hkl'

/-- Where a ledger's parts lie, and its region. -/
structure Fp where
  p : Nat
  r : Nat
  mb : Nat
/-- A report. -/
structure Rep where
  t : Int
  a : Int
  f : Int
def rcell3 : List Rep → List Value
  | [] => []
  | x :: l => .int .i64 x.t :: .int .i64 x.a :: .int .i64 x.f :: rcell3 l
theorem rcell3_length : ∀ l, (rcell3 l).length = l.length * 3
  | [] => rfl
  | x :: l => by simp [rcell3, rcell3_length l]; omega
theorem rcell3_append : ∀ a b, rcell3 (a ++ b) = rcell3 a ++ rcell3 b
  | [], _ => rfl
  | x :: a, b => by simp [rcell3, rcell3_append a b]
/-- A ledger: what is gone, its reports (their memory is no older than block b0). -/
structure LdAt (w : World) (b0 : Nat) (F : Fp) (cnt : Nat) (G : Nat → Bool) (rv : Value) (N : List Rep) : Prop where
  c0 : w.cell? ⟨F.p, 0, none⟩ = some (.pointer (some ⟨F.r, 0, none⟩))
  c1 : w.cell? ⟨F.p, 1, none⟩ = some (.map (some F.mb))
  c2 : w.cell? ⟨F.p, 2, none⟩ = some rv
  fz : ∀ k, w.frozen? ⟨F.p, k, none⟩ = false
  own : w.ownsRow b0 89 3 rv N.length (rcell3 N)
  mp : ∃ D, w.ownsMap Tryz.prog 3 unitElem F.mb cnt D ∧ GIs D G
  ne : F.p ≠ F.mb
  b0p : F.p < b0
  b0m : F.mb < b0
theorem LdAt.plt {w : World} {b0 : Nat} {F : Fp} {cnt : Nat} {G : Nat → Bool} {rv : Value} {N : List Rep} (h : LdAt w b0 F cnt G rv N) : F.p < w.heap.size := World.block_lt_of_cell? w ⟨F.p, 0, none⟩ h.c0
theorem LdAt.mlt {w : World} {b0 : Nat} {F : Fp} {cnt : Nat} {G : Nat → Bool} {rv : Value} {N : List Rep} (h : LdAt w b0 F cnt G rv N) : F.mb < w.heap.size := by obtain ⟨D, hD, _⟩ := h.mp; exact hD.lt
theorem own_fr2 {may : Nat → Prop} {w w' : World} {b0 n size : Nat} {e : TypeId} {v : Value} {xs : List Value} (h : w.ownsRow b0 e size v n xs) (hf : Fr may w w') (hm : ∀ q, v.ownBlock = some q → ¬ may q) : w'.ownsRow b0 e size v n xs := by
  obtain ⟨h1, h2 | ⟨g, cap, cur, rfl, h3, h4, h5⟩⟩ := h
  · exact ⟨h1, .inl h2⟩
  · have hlt : g < w.heap.size := (Array.getElem?_eq_some_iff.1 h4).1
    exact ⟨h1, .inr ⟨g, cap, cur, rfl, h3, (hf.block g hlt (hm g rfl)).trans h4, h5⟩⟩
theorem LdAt.fr {may : Nat → Prop} {w w' : World} {b0 : Nat} {F : Fp} {cnt : Nat} {G : Nat → Bool} {rv : Value} {N : List Rep} (h : LdAt w b0 F cnt G rv N) (hf : Fr may w w') (h1 : ¬ may F.p) (h2 : ¬ may F.mb) (h3 : ∀ q, rv.ownBlock = some q → ¬ may q) : LdAt w' b0 F cnt G rv N := by
  obtain ⟨D, hD, hi⟩ := h.mp
  exact ⟨hf.cell h.c0 h1, hf.cell h.c1 h1, hf.cell h.c2 h1, fun k => by rw [hf.frozen h.plt h1]; exact h.fz k, own_fr2 h.own hf h3, ⟨D, map_fr hD hf h2, hi⟩, h.ne, h.b0p, h.b0m⟩
theorem LdAt.grown {w w' : World} {b0 : Nat} {F : Fp} {cnt : Nat} {G : Nat → Bool} {rv : Value} {N : List Rep} (h : LdAt w b0 F cnt G rv N) (hg : w.grownBy w' none) : LdAt w' b0 F cnt G rv N :=
  h.fr (may := fun _ => False) (fr_none hg) (fun h => h) (fun h => h) (fun _ _ h => h)

/-- A new ledger. -/
def LdMade (w w' : World) (r : Nat) (e : Ending) : Prop := ∃ F : Fp, e = .returned (.pointer (some ⟨F.p, 0, none⟩)) ∧ F.r = r ∧ LdAt w' w'.heap.size F 0 (fun _ => false) (.slice none 0 0) [] ∧ w.heap.size ≤ F.p ∧ w.heap.size ≤ F.mb ∧ w.grownBy w' none
set_option maxRecDepth 100000 in
set_option maxHeartbeats 1000000 in
theorem fnew_at (r : Nat) (w : World) : Calls Tryz.prog 35 #[.pointer (some ⟨r, 0, none⟩)] w fun e w' => LdMade w w' r e := by
  have hmmk := @run_makeMap Tryz.prog
  go_enter Tryz.func35, Tryz.ntmps35
  go_wp2
  go_ret
  have s1 : (w.alloc (.map #[] 0)).heap.size = w.heap.size + 1 := by simp
  have hmm := World.ownsMap_made (H := Unit) w Tryz.prog 3 unitElem
  have g2 := grown_alloc w (.map #[] 0) none
  generalize w.alloc (.map #[] 0) = w1 at *
  have g3 := grown_alloc w1 (.cells #[.pointer (some ⟨r, 0, none⟩), .map (some w.heap.size), .slice none 0 0] 141) none
  have s2 : (w1.alloc (.cells #[.pointer (some ⟨r, 0, none⟩), .map (some w.heap.size), .slice none 0 0] 141)).heap.size = w1.heap.size + 1 := by simp
  refine ⟨⟨w.heap.size + 1, r, w.heap.size⟩, rfl, rfl, ⟨?_, ?_, ?_, fun k => ?_, ⟨rfl, .inl ⟨rfl, rfl⟩⟩, ⟨_, hmm.kept g3 (by simp), gIs_nil⟩, by show w.heap.size + 1 ≠ w.heap.size; omega, by rw [s2]; show w.heap.size + 1 < _; omega, by rw [s2]; show w.heap.size < _; omega⟩, by show w.heap.size ≤ w.heap.size + 1; omega, Nat.le_refl _, grown_trans g2 g3⟩
  · show (w1.alloc _).cell? ⟨w.heap.size + 1, 0, none⟩ = _
    rw [← s1, cell_alloc_new]; rfl
  · show (w1.alloc _).cell? ⟨w.heap.size + 1, 1, none⟩ = _
    rw [← s1, cell_alloc_new]; rfl
  · show (w1.alloc _).cell? ⟨w.heap.size + 1, 2, none⟩ = _
    rw [← s1, cell_alloc_new]; rfl
  · show (w1.alloc _).frozen? ⟨w.heap.size + 1, k, none⟩ = _
    rw [← s1]; exact frozen_alloc_new ..
theorem fnew_nil (w : World) : Calls Tryz.prog 35 #[.pointer none] w fun e w' => e = .returned (.pointer none) ∧ w = w' := by
  go_enter Tryz.func35, Tryz.ntmps35
  go_wp2
  go_ret
  exact ⟨rfl, rfl⟩

/-! ends -/
theorem ends_nil (w : World) : Calls Tryz.prog 96 #[.pointer none] w fun e w' => e = .returned (.tuple #[.int .i64 0, .int .i64 0]) ∧ w = w' := by
  go_enter Tryz.func96, Tryz.ntmps96
  go_wp2
  go_ret2
  exact ⟨rfl, rfl⟩
set_option maxRecDepth 100000 in
set_option maxHeartbeats 1000000 in
theorem ends_at {w : World} {A : Rp} {V : St} {cnt p : Nat} (h : RnAt w A V cnt) (c0 : w.cell? ⟨p, 0, none⟩ = some (.pointer (some ⟨A.p, 0, none⟩))) :
    Calls Tryz.prog 96 #[.pointer (some ⟨p, 0, none⟩)] w fun e w' => e = .returned (.tuple #[.int .i64 ((V.m * 256 : Nat) : Int), .int .i64 ((V.n * 256 : Nat) : Int)]) ∧ w.grownBy w' none := by
  have HC := Lib.hid (config_at h.toRnW)
  have hmn := h.ok.mn
  have hn := h.ok.n256
  have e1 : ((V.m : Nat) : Int) * 256 = ((V.m * 256 : Nat) : Int) := by omega
  have e2 : ((V.m : Nat) : Int) + (((V.n : Nat) : Int) - ((V.m : Nat) : Int)) = ((V.n : Nat) : Int) := by omega
  have e3 : ((V.n : Nat) : Int) * 256 = ((V.n * 256 : Nat) : Int) := by omega
  have b1 : ((V.n : Nat) : Int) ≤ 256 := by omega
  have b2 : ((V.m : Nat) : Int) ≤ 256 := by omega
  have b3 : (0 : Int) ≤ ((V.n : Nat) : Int) := by omega
  have b4 : (0 : Int) ≤ ((V.m : Nat) : Int) := by omega
  clear h hmn hn
  generalize ((V.m * 256 : Nat) : Int) = mm at *
  generalize ((V.n * 256 : Nat) : Int) = nn at *
  generalize hz : ((V.n : Nat) : Int) - ((V.m : Nat) : Int) = z at *
  have HZ := Lib.hid hz
  clear hz
  generalize ((V.n : Nat) : Int) = n at *
  generalize ((V.m : Nat) : Int) = m at *
  generalize ((A.seed : Nat) : Int) = sd at *
  go_enter Tryz.func96, Tryz.ntmps96
  go_wp2_with fail
  refine HC.out.mono ?_
  rintro e w1 ⟨rfl, m1⟩
  have HG := Lib.hid (grown_trans m1 (grown_alloc w1 (.cells #[.int .i64 m, .int .i64 z, .int .u64 sd] 60) none))
  clear m1 HC c0
  go_wp2_with fail
  go_quiet (fail)
  go_wp2
  go_ret2
  exact ⟨rfl, grown_drew HG.out _⟩

/-! within, end -/
def wiV (p : Pc) (a : Int) : Int := if (p.b : Int) = a then 0 else 4
set_option maxHeartbeats 400000 in
theorem within_at (p : Pc) (a : Int) (w : World) : Calls Tryz.prog 97 #[pcv p, .int .i64 a] w fun e w' => e = .returned (.int .i64 (wiV p a)) ∧ w.grownBy w' none := by
  unfold pcv wiV
  by_cases e : (p.b : Int) = a
  · rw [if_pos e]
    have e1 : ((p.b : Int) == a) = true := by simpa using e
    clear e
    generalize ((p.b : Nat) : Int) = b at *
    go_enter Tryz.func97, Tryz.ntmps97
    go_wp2
    go_ret
    exact ⟨rfl, grown_alloc _ _ _⟩
  · rw [if_neg e]
    have e1 : ((p.b : Int) == a) = false := by simpa using e
    clear e
    generalize ((p.b : Nat) : Int) = b at *
    go_enter Tryz.func97, Tryz.ntmps97
    go_wp2
    go_ret
    exact ⟨rfl, grown_alloc _ _ _⟩
/-- Where a block's bytes end, with its canary. -/
def endV (p : Pc) : Nat := if p.gr = true then (p.b + p.z + 263) / 256 * 256 else p.b + p.z + 8
set_option maxRecDepth 100000 in
set_option maxHeartbeats 400000 in
theorem end_at (p : Pc) (hb : p.b ≤ 65536) (hz : p.z ≤ 4096) (w : World) : Calls Tryz.prog 94 #[pcv p] w fun e w' => e = .returned (.int .i64 (endV p : Nat)) ∧ w.grownBy w' none := by
  unfold pcv endV
  have e1 : ((p.b : Nat) : Int) + ((p.z : Nat) : Int) = ((p.b + p.z : Nat) : Int) := by omega
  have e2 : ((p.b + p.z : Nat) : Int) + 8 = ((p.b + p.z + 8 : Nat) : Int) := by omega
  have e3 : ((p.b + p.z + 8 : Nat) : Int) + 256 - 1 = ((p.b + p.z + 263 : Nat) : Int) := by omega
  have e4 : ((p.b + p.z + 263 : Nat) : Int) / 256 = (((p.b + p.z + 263) / 256 : Nat) : Int) := by omega
  have e5 : (((p.b + p.z + 263) / 256 : Nat) : Int) * 256 = (((p.b + p.z + 263) / 256 * 256 : Nat) : Int) := by omega
  have b1 : ((p.b + p.z : Nat) : Int) ≤ 70000 := by omega
  have b2 : ((p.b + p.z + 8 : Nat) : Int) ≤ 70008 := by omega
  have b3 : ((p.b + p.z + 263 : Nat) : Int) ≤ 70263 := by omega
  have b4 : (((p.b + p.z + 263) / 256 : Nat) : Int) ≤ 300 := by omega
  have c1 : (0 : Int) ≤ ((p.b + p.z : Nat) : Int) := by omega
  have c2 : (0 : Int) ≤ ((p.b + p.z + 8 : Nat) : Int) := by omega
  have c3 : (0 : Int) ≤ ((p.b + p.z + 263 : Nat) : Int) := by omega
  have c4 : (0 : Int) ≤ (((p.b + p.z + 263) / 256 : Nat) : Int) := by omega
  cases hg : p.gr with
  | true =>
    rw [if_pos rfl]
    clear hb hz
    generalize (((p.b + p.z + 263) / 256 * 256 : Nat) : Int) = x5 at *
    generalize (((p.b + p.z + 263) / 256 : Nat) : Int) = x4 at *
    generalize ((p.b + p.z + 263 : Nat) : Int) = x3 at *
    generalize ((p.b + p.z + 8 : Nat) : Int) = x2 at *
    generalize ((p.b + p.z : Nat) : Int) = x1 at *
    generalize ((p.b : Nat) : Int) = b at *
    generalize ((p.z : Nat) : Int) = z at *
    have e3' : x2 + 256 = x3 + 1 := by omega
    have e3'' : x3 + 1 - 1 = x3 := by omega
    clear e3
    go_enter Tryz.func94, Tryz.ntmps94
    go_wp2
    go_ret
    exact ⟨rfl, grown_alloc _ _ _⟩
  | false =>
    rw [if_neg (by simp)]
    clear hb hz e3 e4 e5 b3 b4 c3 c4
    generalize ((p.b + p.z + 8 : Nat) : Int) = x2 at *
    generalize ((p.b + p.z : Nat) : Int) = x1 at *
    generalize ((p.b : Nat) : Int) = b at *
    generalize ((p.z : Nat) : Int) = z at *
    go_enter Tryz.func94, Tryz.ntmps94
    go_wp2
    go_ret
    exact ⟨rfl, grown_alloc _ _ _⟩
end Go.Proofs.YtgnfcklippjeeaaGreat
