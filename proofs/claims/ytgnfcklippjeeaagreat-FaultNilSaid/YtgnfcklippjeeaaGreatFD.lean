/- The walks of a ledger's Took, Dropped, Fault, Note; what a nil ledger answers. -/
import Derived.Test.YtgnfcklippjeeaaGreatFC
namespace Go.Proofs.YtgnfcklippjeeaaGreat
open Go.RowKit
open Go.Maps (Keyed)
open Sl (Cls bs upd FOk LnkIs)
open Lg (pgs)

theorem lvV_some {x : Option Pc} {p : Pc} (h : lvV x = some p) : x = some p ∧ p.st = 1 := by
  cases x with
  | none => cases h
  | some q =>
    unfold lvV at h
    simp only at h
    split at h
    · rename_i e
      cases h
      exact ⟨rfl, e⟩
    · cases h
/-- A place lies within the arena. -/
theorem St.At.bd {V : St} {a : Int} {p : Pc} (ok : V.Ok) (h : V.At a (some p)) : p.b ≤ 65536 ∧ p.z ≤ 4096 ∧ (p.b : Int) ≤ a ∧ p.b < V.m * 256 := by
  cases h with
  | slot g d x e hg hn hl =>
    obtain ⟨hm, _, hd⟩ := ok.sl g d hl
    obtain ⟨s1, s2, s3⟩ := slot_lt hd.c x
    rw [hg] at s2 s3
    have := Sl.bs_hi hd.c g s1
    have := hd.c.facts.s128
    have := hd.c.facts.rs
    have := hd.c.facts.s16
    have := ok.n256
    exact ⟨by show bs g d.s (x % 256 / d.s) ≤ 65536; omega, by show d.r ≤ 4096; omega, by show ((bs g d.s (x % 256 / d.s) : Nat) : Int) ≤ a; omega, by show bs g d.s (x % 256 / d.s) < V.m * 256; omega⟩
  | great g h0 x e hg hn hl hz =>
    obtain ⟨z1, z2, z3⟩ := hz
    obtain ⟨h1, h2, h3, h4⟩ := ok.gr_bd z1
    clear h4
    have := ok.n256
    have := ok.mn
    exact ⟨by show h0 * 256 ≤ 65536; omega, h2, by show ((h0 * 256 : Nat) : Int) ≤ a; omega, by show h0 * 256 < V.m * 256; omega⟩

/-! Took -/
theorem fnd_load (x0 x1 x2 x3 x4 : Int) (b : Bool) (w : World) (t : TypeId) : (w.alloc (.cells #[.int .i64 x0, .int .i64 x1, .int .i64 x2, .int .i64 x3, .int .i64 x4, .bool b] t)).cell? ⟨w.heap.size, 2, none⟩ = some (.int .i64 x2) := by rw [cell_alloc_new]; rfl
set_option maxRecDepth 100000 in
set_option maxHeartbeats 1000000 in
theorem took_no {w : World} {p : Nat} {a : Int} {x0 x1 x2 x3 x4 : Int} {x5 b : Bool}
    (HL : Hid (Calls Tryz.prog 92 #[.pointer (some ⟨p, 0, none⟩), .int .i64 a] w fun e w' => e = .returned (.tuple #[.agg #[.int .i64 x0, .int .i64 x1, .int .i64 x2, .int .i64 x3, .int .i64 x4, .bool x5], .bool b]) ∧ w.grownBy w' none)) (hb : b = false ∨ x2 ≠ a) :
    Calls Tryz.prog 37 #[.pointer (some ⟨p, 0, none⟩), .int .i64 a] w fun e w' => e = .returned (.int .i64 6) ∧ w.grownBy w' none := by
  cases b with
  | false =>
    clear hb
    go_enter Tryz.func37, Tryz.ntmps37
    go_wp2_with fail
    refine HL.out.mono ?_
    rintro e w1 ⟨rfl, m1⟩
    go_wp2
    go_ret
    exact ⟨rfl, grown_trans m1 (grown_alloc _ _ _)⟩
  | true =>
    have h2 : (x2 != a) = true := by simpa using hb.resolve_left (by simp)
    clear hb
    go_enter Tryz.func37, Tryz.ntmps37
    go_wp2_with fail
    refine HL.out.mono ?_
    rintro e w1 ⟨rfl, m1⟩
    go_wp2
    go_ret
    exact ⟨rfl, grown_trans m1 (grown_alloc _ _ _)⟩
set_option maxRecDepth 100000 in
set_option maxHeartbeats 1000000 in
theorem took_yes {w : World} {b0 : Nat} {F : Fp} {cnt : Nat} {G : Nat → Bool} {rv : Value} {N : List Rep} (h : LdAt w b0 F cnt G rv N) (q : Pc) (hb : q.b ≤ 65536) (hz : q.z ≤ 4096)
    (HL : Hid (Calls Tryz.prog 92 #[.pointer (some ⟨F.p, 0, none⟩), .int .i64 (q.b : Nat)] w fun e w' => e = .returned (fndV (some q)) ∧ w.grownBy w' none)) :
    Calls Tryz.prog 37 #[.pointer (some ⟨F.p, 0, none⟩), .int .i64 (q.b : Nat)] w fun e w' => e = .returned (.int .i64 0) ∧ LdAt w' b0 F cnt (gcut G q.b (endV q)) rv N ∧ Fr (fun i => i = F.mb) w w' := by
  have HE := Lib.hid (fun W => end_at q hb hz W)
  have HB := Lib.hid (fun W (g1 : w.grownBy W none) => back_at (h.grown g1) q.b (endV q))
  unfold fndV at HL
  simp only [] at HL
  unfold pcv at HL HE
  clear h hb hz
  generalize ((endV q : Nat) : Int) = ee at *
  generalize ((q.b : Nat) : Int) = b at *
  go_enter Tryz.func37, Tryz.ntmps37
  go_wp2_with fail
  refine HL.out.mono ?_
  rintro e w1 ⟨rfl, m1⟩
  have m2 := grown_trans m1 (grown_alloc w1 (.cells #[.int .i64 (q.g : Nat), .int .i64 (q.k : Nat), .int .i64 b, .int .i64 (q.z : Nat), .int .i64 (q.st : Nat), .bool q.gr] 37) none)
  go_wp2_with fail
  refine (HE.out _).mono ?_
  rintro e w2 ⟨rfl, m3⟩
  have HM := Lib.hid (grown_trans m2 m3)
  clear m1 m2 m3 HL HE
  go_wp2_with fail
  refine (HB.out _ HM.out).mono ?_
  rintro e w3 ⟨rfl, hl, hf⟩
  have HO := Lib.hid (And.intro hl ((fr_none (may := fun i => i = F.mb) HM.out).trans hf))
  clear hl hf HB HM
  go_wp2
  go_ret
  exact ⟨rfl, HO.out⟩

/-! Dropped -/
theorem zero_unit (w : World) : (zeroValue 146).run Tryz.prog w = .ok (.agg #[]) w := by kernel_rfl
theorem LdAt.store {w : World} {b0 : Nat} {F : Fp} {cnt : Nat} {G : Nat → Bool} {rv : Value} {N : List Rep} (h : LdAt w b0 F cnt G rv N) {k : Nat} (hk : k < 65536) (hcnt : cnt ≤ 100000) :
    ∃ w', (Instr.mapUpdate 139 (.map (some F.mb)) (.int .i64 k) (.agg #[])).run Tryz.prog w = .ok () w' ∧ LdAt w' b0 F (cnt + 1) (gput G k) rv N ∧ w.grownBy w' (some F.mb) := by
  obtain ⟨D, hown, hgi⟩ := h.mp
  have hkey := Go.Maps.keyOf_int_mk (P := Tryz.prog) Tryz.underlying3 (a := (k : Int)) (WalkArith.wf_i64 ⟨by omega, by omega⟩)
  obtain ⟨w', hrun, ho, hg⟩ := hown.update kint Tryz.underlying139 (by simp only [maxLen]; omega) hkey unitElem_mk
  exact ⟨w', hrun, h.turn (fr_some hg (fun _ => rfl)) ⟨_, ho, hgi.put hown.isMap hk⟩ h.rv_mb, hg⟩
theorem LdAt.look {w : World} {b0 : Nat} {F : Fp} {cnt : Nat} {G : Nat → Bool} {rv : Value} {N : List Rep} (h : LdAt w b0 F cnt G rv N) {k : Nat} (hk : k < 65536) :
    (Instr.lookup 139 (.map (some F.mb)) (.int .i64 k) true).run Tryz.prog w = .ok (.tuple #[.agg #[], .bool (G k)]) w := by
  obtain ⟨D, hown, hgi⟩ := h.mp
  have hkey := Go.Maps.keyOf_int_mk (P := Tryz.prog) Tryz.underlying3 (a := (k : Int)) (WalkArith.wf_i64 ⟨by omega, by omega⟩)
  obtain ⟨v, ps, hrun, hv⟩ := hown.look_ok kint Tryz.underlying139 (zero_unit w) unitElem_mk hkey
  obtain ⟨rfl, _⟩ := unitElem_inv hv
  rw [hrun, hgi.h1]
set_option maxRecDepth 100000 in
set_option maxHeartbeats 1000000 in
theorem dropped_range {w : World} {p : Nat} {a mm nn : Int} (HE : Hid (Calls Tryz.prog 96 #[.pointer (some ⟨p, 0, none⟩)] w fun e w' => e = .returned (.tuple #[.int .i64 mm, .int .i64 nn]) ∧ w.grownBy w' none)) (ha : a < 0 ∨ mm ≤ a) :
    Calls Tryz.prog 39 #[.pointer (some ⟨p, 0, none⟩), .int .i64 a] w fun e w' => e = .returned (.int .i64 3) ∧ w.grownBy w' none := by
  by_cases h0 : a < 0
  · have h0' : decide (a < 0) = true := by simpa using h0
    clear ha h0
    go_enter Tryz.func39, Tryz.ntmps39
    go_wp2_with fail
    refine HE.out.mono ?_
    rintro e w1 ⟨rfl, m1⟩
    go_wp2
    go_ret
    exact ⟨rfl, m1⟩
  · have h0' : decide (a < 0) = false := by simpa using h0
    have h1' : decide (mm ≤ a) = true := by simpa using ha.resolve_left h0
    clear ha h0
    go_enter Tryz.func39, Tryz.ntmps39
    go_wp2_with fail
    refine HE.out.mono ?_
    rintro e w1 ⟨rfl, m1⟩
    go_wp2
    go_ret
    exact ⟨rfl, m1⟩
set_option maxRecDepth 100000 in
set_option maxHeartbeats 1000000 in
theorem dropped_live {w : World} {p : Nat} {a mm nn : Int} {x0 x1 x3 x4 : Int} {x5 : Bool} (HE : Hid (Calls Tryz.prog 96 #[.pointer (some ⟨p, 0, none⟩)] w fun e w' => e = .returned (.tuple #[.int .i64 mm, .int .i64 nn]) ∧ w.grownBy w' none)) (ha : ¬ (a < 0 ∨ mm ≤ a))
    (HL : Hid (∀ W, w.grownBy W none → Calls Tryz.prog 92 #[.pointer (some ⟨p, 0, none⟩), .int .i64 a] W fun e w' => e = .returned (.tuple #[.agg #[.int .i64 x0, .int .i64 x1, .int .i64 a, .int .i64 x3, .int .i64 x4, .bool x5], .bool true]) ∧ W.grownBy w' none)) :
    Calls Tryz.prog 39 #[.pointer (some ⟨p, 0, none⟩), .int .i64 a] w fun e w' => e = .returned (.int .i64 8) ∧ w.grownBy w' none := by
  have h0' : decide (a < 0) = false := by simp; omega
  have h1' : decide (mm ≤ a) = false := by simp; omega
  clear ha
  go_enter Tryz.func39, Tryz.ntmps39
  go_wp2_with fail
  refine HE.out.mono ?_
  rintro e w1 ⟨rfl, m1⟩
  go_wp2_with fail
  refine (HL.out _ m1).mono ?_
  rintro e w2 ⟨rfl, m2⟩
  have HG := Lib.hid (grown_trans m1 m2)
  clear m1 m2
  go_wp2
  go_ret
  exact ⟨rfl, grown_trans HG.out (grown_alloc _ _ _)⟩
set_option maxRecDepth 100000 in
set_option maxHeartbeats 1000000 in
theorem dropped_ok {w : World} {b0 : Nat} {F : Fp} {cnt : Nat} {G : Nat → Bool} {rv : Value} {N : List Rep} (h : LdAt w b0 F cnt G rv N) (hcnt : cnt ≤ 100000) {a : Nat} {mm nn : Int} {x0 x1 x2 x3 x4 : Int} {x5 b : Bool} (h64 : a < 65536)
    (HE : Hid (Calls Tryz.prog 96 #[.pointer (some ⟨F.p, 0, none⟩)] w fun e w' => e = .returned (.tuple #[.int .i64 mm, .int .i64 nn]) ∧ w.grownBy w' none)) (ha : (a : Int) < mm)
    (HL : Hid (∀ W, w.grownBy W none → Calls Tryz.prog 92 #[.pointer (some ⟨F.p, 0, none⟩), .int .i64 a] W fun e w' => e = .returned (.tuple #[.agg #[.int .i64 x0, .int .i64 x1, .int .i64 x2, .int .i64 x3, .int .i64 x4, .bool x5], .bool b]) ∧ W.grownBy w' none)) (hb : b = false ∨ x2 ≠ (a : Int)) :
    Calls Tryz.prog 39 #[.pointer (some ⟨F.p, 0, none⟩), .int .i64 a] w fun e w' => e = .returned (.int .i64 0) ∧ LdAt w' b0 F (cnt + 1) (gput G a) rv N ∧ Fr (fun i => i = F.mb) w w' := by
  have h0' : decide ((a : Int) < 0) = false := by simp
  have h1' : decide (mm ≤ (a : Int)) = false := by simp; omega
  have HS := Lib.hid (fun W (g1 : w.grownBy W none) => (h.grown g1).store (k := a) h64 hcnt)
  have HC := Lib.hid (fun W (g1 : w.grownBy W none) => (h.grown g1).c1)
  clear h ha h64 hcnt
  cases b with
  | false =>
    clear hb
    go_enter Tryz.func39, Tryz.ntmps39
    go_wp2_with fail
    refine HE.out.mono ?_
    rintro e w1 ⟨rfl, m1⟩
    go_wp2_with fail
    refine (HL.out _ m1).mono ?_
    rintro e w2 ⟨rfl, m2⟩
    have m3 := grown_trans (grown_trans m1 m2) (grown_alloc w2 (.cells #[.int .i64 x0, .int .i64 x1, .int .i64 x2, .int .i64 x3, .int .i64 x4, .bool x5] 37) none)
    have c1 := HC.out _ m3
    obtain ⟨w3, hrun, hl, hg⟩ := HS.out _ m3
    have HO := Lib.hid (And.intro hl ((fr_none (may := fun i => i = F.mb) m3).trans (fr_some hg (fun _ => rfl))))
    clear hl hg m1 m2 m3 HS HC HL HE
    go_wp2
    go_ret
    exact ⟨rfl, HO.out⟩
  | true =>
    have h2 : (x2 == (a : Int)) = false := by simpa using hb.resolve_left (by simp)
    clear hb
    go_enter Tryz.func39, Tryz.ntmps39
    go_wp2_with fail
    refine HE.out.mono ?_
    rintro e w1 ⟨rfl, m1⟩
    go_wp2_with fail
    refine (HL.out _ m1).mono ?_
    rintro e w2 ⟨rfl, m2⟩
    have m3 := grown_trans (grown_trans m1 m2) (grown_alloc w2 (.cells #[.int .i64 x0, .int .i64 x1, .int .i64 x2, .int .i64 x3, .int .i64 x4, .bool x5] 37) none)
    have c1 := HC.out _ m3
    obtain ⟨w3, hrun, hl, hg⟩ := HS.out _ m3
    have HO := Lib.hid (And.intro hl ((fr_none (may := fun i => i = F.mb) m3).trans (fr_some hg (fun _ => rfl))))
    clear hl hg m1 m2 m3 HS HC HL HE
    go_wp2
    go_ret
    exact ⟨rfl, HO.out⟩

/-! Fault -/
/-- What is wrong with an address. -/
def fltV (V : St) (G : Nat → Bool) (a : Int) (x : Option Pc) : Int :=
  if a < 0 ∨ ((V.n * 256 : Nat) : Int) ≤ a then 1 else if ((V.m * 256 : Nat) : Int) ≤ a then 2 else match lvV x with | some p => wiV p a | none => if G a.toNat = true then 5 else 3
set_option maxRecDepth 100000 in
set_option maxHeartbeats 1000000 in
theorem fault_out {w : World} {v : Value} {a mm nn : Int} (HE : Hid (Calls Tryz.prog 96 #[v] w fun e w' => e = .returned (.tuple #[.int .i64 mm, .int .i64 nn]) ∧ w.grownBy w' none)) (ha : a < 0 ∨ nn ≤ a) :
    Calls Tryz.prog 42 #[v, .int .i64 a] w fun e w' => e = .returned (.int .i64 1) ∧ w.grownBy w' none := by
  by_cases h0 : a < 0
  · have h0' : decide (a < 0) = true := by simpa using h0
    clear ha h0
    go_enter Tryz.func42, Tryz.ntmps42
    go_wp2_with fail
    refine HE.out.mono ?_
    rintro e w1 ⟨rfl, m1⟩
    go_wp2
    go_ret
    exact ⟨rfl, m1⟩
  · have h0' : decide (a < 0) = false := by simpa using h0
    have h1' : decide (nn ≤ a) = true := by simpa using ha.resolve_left h0
    clear ha h0
    go_enter Tryz.func42, Tryz.ntmps42
    go_wp2_with fail
    refine HE.out.mono ?_
    rintro e w1 ⟨rfl, m1⟩
    go_wp2
    go_ret
    exact ⟨rfl, m1⟩
set_option maxRecDepth 100000 in
set_option maxHeartbeats 1000000 in
theorem fault_managed {w : World} {v : Value} {a mm nn : Int} (HE : Hid (Calls Tryz.prog 96 #[v] w fun e w' => e = .returned (.tuple #[.int .i64 mm, .int .i64 nn]) ∧ w.grownBy w' none)) (ha : ¬ (a < 0 ∨ nn ≤ a)) (hm : mm ≤ a) :
    Calls Tryz.prog 42 #[v, .int .i64 a] w fun e w' => e = .returned (.int .i64 2) ∧ w.grownBy w' none := by
  have h0' : decide (a < 0) = false := by simp; omega
  have h1' : decide (nn ≤ a) = false := by simp; omega
  have h2' : decide (mm ≤ a) = true := by simpa using hm
  clear ha hm
  go_enter Tryz.func42, Tryz.ntmps42
  go_wp2_with fail
  refine HE.out.mono ?_
  rintro e w1 ⟨rfl, m1⟩
  go_wp2
  go_ret
  exact ⟨rfl, m1⟩
set_option maxRecDepth 100000 in
set_option maxHeartbeats 1000000 in
theorem fault_live {w : World} {p : Nat} {a mm nn : Int} (q : Pc) (HE : Hid (Calls Tryz.prog 96 #[.pointer (some ⟨p, 0, none⟩)] w fun e w' => e = .returned (.tuple #[.int .i64 mm, .int .i64 nn]) ∧ w.grownBy w' none)) (ha : ¬ (a < 0 ∨ nn ≤ a)) (hm : ¬ mm ≤ a)
    (HL : Hid (∀ W, w.grownBy W none → Calls Tryz.prog 92 #[.pointer (some ⟨p, 0, none⟩), .int .i64 a] W fun e w' => e = .returned (fndV (some q)) ∧ W.grownBy w' none)) :
    Calls Tryz.prog 42 #[.pointer (some ⟨p, 0, none⟩), .int .i64 a] w fun e w' => e = .returned (.int .i64 (wiV q a)) ∧ w.grownBy w' none := by
  have h0' : decide (a < 0) = false := by simp; omega
  have h1' : decide (nn ≤ a) = false := by simp; omega
  have h2' : decide (mm ≤ a) = false := by simpa using hm
  have HW := Lib.hid (fun W => within_at q a W)
  unfold fndV at HL
  simp only [] at HL
  unfold pcv at HL HW
  clear ha hm
  generalize ((q.b : Nat) : Int) = b at *
  generalize wiV q a = wv at *
  go_enter Tryz.func42, Tryz.ntmps42
  go_wp2_with fail
  refine HE.out.mono ?_
  rintro e w1 ⟨rfl, m1⟩
  go_wp2_with fail
  refine (HL.out _ m1).mono ?_
  rintro e w2 ⟨rfl, m2⟩
  have m3 := grown_trans (grown_trans m1 m2) (grown_alloc w2 (.cells #[.int .i64 (q.g : Nat), .int .i64 (q.k : Nat), .int .i64 b, .int .i64 (q.z : Nat), .int .i64 (q.st : Nat), .bool q.gr] 37) none)
  go_wp2_with fail
  refine (HW.out _).mono ?_
  rintro e w3 ⟨rfl, m4⟩
  have HG := Lib.hid (grown_trans m3 m4)
  clear m1 m2 m3 m4
  go_wp2
  go_ret
  exact ⟨rfl, HG.out⟩
set_option maxRecDepth 100000 in
set_option maxHeartbeats 1000000 in
theorem fault_gone {w : World} {b0 : Nat} {F : Fp} {cnt : Nat} {G : Nat → Bool} {rv : Value} {N : List Rep} (h : LdAt w b0 F cnt G rv N) {a : Nat} {mm nn : Int} (h64 : a < 65536) (HE : Hid (Calls Tryz.prog 96 #[.pointer (some ⟨F.p, 0, none⟩)] w fun e w' => e = .returned (.tuple #[.int .i64 mm, .int .i64 nn]) ∧ w.grownBy w' none)) (ha : (a : Int) < nn) (hm : (a : Int) < mm)
    (HL : Hid (∀ W, w.grownBy W none → Calls Tryz.prog 92 #[.pointer (some ⟨F.p, 0, none⟩), .int .i64 a] W fun e w' => e = .returned (fndV none) ∧ W.grownBy w' none)) :
    Calls Tryz.prog 42 #[.pointer (some ⟨F.p, 0, none⟩), .int .i64 a] w fun e w' => e = .returned (.int .i64 (if G a = true then 5 else 3)) ∧ w.grownBy w' none := by
  have h0' : decide ((a : Int) < 0) = false := by simp
  have h1' : decide (nn ≤ (a : Int)) = false := by simp; omega
  have h2' : decide (mm ≤ (a : Int)) = false := by simp; omega
  have HK := Lib.hid (fun W (g1 : w.grownBy W none) => And.intro (h.grown g1).c1 ((h.grown g1).look (k := a) h64))
  unfold fndV pc0 at HL
  simp only [] at HL
  clear h ha hm h64
  cases hg : G a with
  | true =>
    rw [hg] at HK
    rw [if_pos rfl]
    clear hg
    go_enter Tryz.func42, Tryz.ntmps42
    go_wp2_with fail
    refine HE.out.mono ?_
    rintro e w1 ⟨rfl, m1⟩
    go_wp2_with fail
    refine (HL.out _ m1).mono ?_
    rintro e w2 ⟨rfl, m2⟩
    have m3 := grown_trans (grown_trans m1 m2) (grown_alloc w2 (.cells #[.int .i64 0, .int .i64 0, .int .i64 0, .int .i64 0, .int .i64 0, .bool false] 37) none)
    obtain ⟨c1, hrun⟩ := HK.out _ m3
    have HG := Lib.hid m3
    clear m1 m2 m3
    go_wp2
    go_ret
    exact ⟨rfl, grown_trans HG.out (grown_alloc _ _ _)⟩
  | false =>
    rw [hg] at HK
    rw [if_neg (by simp)]
    clear hg
    go_enter Tryz.func42, Tryz.ntmps42
    go_wp2_with fail
    refine HE.out.mono ?_
    rintro e w1 ⟨rfl, m1⟩
    go_wp2_with fail
    refine (HL.out _ m1).mono ?_
    rintro e w2 ⟨rfl, m2⟩
    have m3 := grown_trans (grown_trans m1 m2) (grown_alloc w2 (.cells #[.int .i64 0, .int .i64 0, .int .i64 0, .int .i64 0, .int .i64 0, .bool false] 37) none)
    obtain ⟨c1, hrun⟩ := HK.out _ m3
    have HG := Lib.hid m3
    clear m1 m2 m3
    go_wp2
    go_ret
    exact ⟨rfl, grown_trans HG.out (grown_alloc _ _ _)⟩
end Go.Proofs.YtgnfcklippjeeaaGreat
