/- The document's ledger: how it stands; bytes, New, Fault. -/
import Derived.Test.YtgnfcklippjeeaaGreatL1
import Derived.Test.YtgnfcklippjeeaaGreatL4
namespace Go.Proofs.YtgnfcklippjeeaaGreat
open Go.RowKit
open Sl (Cls bs upd)
open Lg (pgs)
open Rf (LZ)

/-- The document's ledger at block l: for each byte whether it is gone, at block q. -/
structure DlAt (w : World) (l r q N cap : Nat) (G : Nat → Bool) : Prop where
  c0 : w.cell? ⟨l, 0, none⟩ = some (.pointer (some ⟨r, 0, none⟩))
  c1 : w.cell? ⟨l, 1, none⟩ = some (.slice (some ⟨q, 0, none⟩) N cap)
  v : ValsAt w q N (fun i => .bool (G i))
  lq : l ≠ q
theorem DlAt.fr {may : Nat → Prop} {w w' : World} {l r q N cap : Nat} {G : Nat → Bool} (h : DlAt w l r q N cap G) (hf : Fr may w w') (h1 : ¬ may l) (h2 : ¬ may q) : DlAt w' l r q N cap G :=
  ⟨hf.cell h.c0 h1, hf.cell h.c1 h1, ⟨fun i hi => hf.cell (h.v.c i hi) h2, fun k => by rw [hf.frozen h.v.qlt h2]; exact h.v.fz k, Nat.lt_of_lt_of_le h.v.qlt hf.size⟩, h.lq⟩
theorem DlAt.grown {w w' : World} {l r q N cap : Nat} {G : Nat → Bool} (h : DlAt w l r q N cap G) (hg : w.grownBy w' none) : DlAt w' l r q N cap G :=
  h.fr (may := fun _ => False) (fr_none hg) (fun h => h) (fun h => h)
/-- One address is gone, or not any more. -/
theorem DlAt.set {w : World} {l r q N cap : Nat} {G : Nat → Bool} (h : DlAt w l r q N cap G) (k : Nat) (b : Bool) : DlAt (w.setCell ⟨q, k, none⟩ (.bool b)) l r q N cap (fun i => if i = k then b else G i) := by
  have gs := An.agrown_set w q k (.bool b)
  refine ⟨gs.cell h.c0 (some_ne h.lq), gs.cell h.c1 (some_ne h.lq), ⟨fun i hi => ?_, (h.v.set k (.bool b)).fz, (h.v.set k (.bool b)).qlt⟩, h.lq⟩
  have := (h.v.set k (.bool b)).c i hi
  rw [this]
  by_cases e : i = k
  · simp [e]
  · simp [e]
/-- How many bytes a block has. -/
def bytV (p : Pc) : Nat := if p.gr = true then pgs p.z * 256 else p.z + 8
set_option maxRecDepth 100000 in
set_option maxHeartbeats 1000000 in
theorem dbytes_at (p : Pc) (hz : p.z ≤ 4096) (hg : p.gr = true → 120 < p.z) (w : World) : Calls Tryz.prog 95 #[pcv p] w fun e w' => e = .returned (.int .i64 (bytV p : Nat)) ∧ w.grownBy w' none := by
  obtain ⟨g, k, b, z, st, gr⟩ := p
  unfold bytV pcv
  simp only [] at hz hg ⊢
  have hzi : (z : Int) ≤ 4096 := by omega
  cases gr with
  | true =>
    have HPG := Lib.hid (fun W => rpg_at z W (hg rfl) hz)
    have hb := Lg.pgs_bd hz
    have e1 : IntKind.i64.wrap (256 * ((pgs z : Nat) : Int)) = ((pgs z * 256 : Nat) : Int) := by rw [IntKind.wrap_i64]; omega
    rw [if_pos rfl]
    clear hz hg hb
    generalize ((pgs z * 256 : Nat) : Int) = y at *
    generalize ((pgs z : Nat) : Int) = x at *
    go_enter Tryz.func95, Tryz.ntmps95
    go_wp2_with (go_at_call 115; (with_reducible refine (HPG.out _).mono ?_); rintro e w' ⟨rfl, rfl⟩)
    go_ret
    exact ⟨rfl, grown_alloc _ _ _⟩
  | false =>
    have e1 : IntKind.i64.wrap ((z : Int) + 8) = ((z + 8 : Nat) : Int) := by rw [IntKind.wrap_i64]; omega
    rw [if_neg (by simp)]
    clear hz hg
    generalize ((z + 8 : Nat) : Int) = y at *
    go_enter Tryz.func95, Tryz.ntmps95
    go_wp2
    go_ret
    exact ⟨rfl, grown_alloc _ _ _⟩
end Go.Proofs.YtgnfcklippjeeaaGreat
