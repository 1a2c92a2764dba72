/- The document's ledger: Fault whole, Dropped. -/
import Derived.Test.YtgnfcklippjeeaaGreatPB
namespace Go.Proofs.YtgnfcklippjeeaaGreat
open Go.RowKit
open Sl (Cls bs upd)
open Lg (pgs)
open Rf (LZ)

theorem dfault_at {w : World} {T : Nat → Nat} {D : Dp} {V : St} {l q cap : Nat} {G : Nat → Bool} (h : DrAt w T D V) (hd : DlAt w l D.p q (V.n * 256) cap G) {a : Int} {x : Option Pc} (hx : V.At a x) :
    Calls Tryz.prog 43 #[.pointer (some ⟨l, 0, none⟩), .int .i64 a] w fun e w' => e = .returned (.int .i64 (fltV V G a x)) ∧ w.grownBy w' none := by
  have hmn := h.ok.mn
  have hn := h.ok.n256
  unfold fltV
  by_cases h1 : a < 0 ∨ ((V.n * 256 : Nat) : Int) ≤ a
  · rw [if_pos h1]; exact dfault_out h.toDrW hd h1
  · rw [if_neg h1]
    obtain ⟨b, rfl⟩ : ∃ b : Nat, a = b := ⟨a.toNat, by omega⟩
    by_cases h2 : ((V.m * 256 : Nat) : Int) ≤ (b : Int)
    · rw [if_pos h2]; exact dfault_managed h.toDrW (by omega) hn hd (by omega) (by omega)
    · rw [if_neg h2]
      exact dfault_in h hd (by omega) hx
set_option maxRecDepth 100000 in
set_option maxHeartbeats 1000000 in
theorem ddropped_range {w : World} {T : Nat → Nat} {D : Dp} {V : St} {l q cap : Nat} {G : Nat → Bool} (h : DrAt w T D V) (hd : DlAt w l D.p q (V.n * 256) cap G) {a : Int} (ha : a < 0 ∨ ((V.m * 256 : Nat) : Int) ≤ a) :
    Calls Tryz.prog 40 #[.pointer (some ⟨l, 0, none⟩), .int .i64 a] w fun e w' => e = .returned (.int .i64 3) ∧ w.grownBy w' none := by
  have c0 := hd.c0
  have p0 := h.c0
  have hm : V.m ≤ 256 := by have := h.ok.mn; have := h.ok.n256; omega
  have e2 : IntKind.i64.wrap (256 * ((V.m : Nat) : Int)) = ((V.m * 256 : Nat) : Int) := by rw [IntKind.wrap_i64]; omega
  have hdd : decide (a < 0) = true ∨ (decide (a < 0) = false ∧ decide (a ≥ ((V.m * 256 : Nat) : Int)) = true) := by
    by_cases h0 : a < 0
    · exact .inl (decide_eq_true h0)
    · exact .inr ⟨decide_eq_false h0, decide_eq_true (by omega)⟩
  clear h hd ha hm
  generalize V.m * 256 = M at *
  generalize ((V.m : Nat) : Int) = mm at *
  rcases hdd with e0 | ⟨e0, e1⟩
  · go_enter Tryz.func40, Tryz.ntmps40
    go_wp2
    go_ret
    exact ⟨rfl, grown_refl _ _⟩
  · go_enter Tryz.func40, Tryz.ntmps40
    go_wp2
    go_ret
    exact ⟨rfl, grown_refl _ _⟩
set_option maxRecDepth 100000 in
set_option maxHeartbeats 1000000 in
theorem ddropped_live {w : World} {T : Nat → Nat} {D : Dp} {V : St} {l q cap : Nat} {G : Nat → Bool} (h : DrAt w T D V) (hd : DlAt w l D.p q (V.n * 256) cap G) {a : Nat} (ha : a < V.m * 256) {x : Option Pc} (hx : V.At (a : Int) x) (hf : fltV V G a x = 0) :
    Calls Tryz.prog 40 #[.pointer (some ⟨l, 0, none⟩), .int .i64 a] w fun e w' => e = .returned (.int .i64 8) ∧ w.grownBy w' none := by
  have c0 := hd.c0
  have p0 := h.c0
  have HF := Lib.hid (dfault_at h hd hx)
  rw [hf] at HF
  have hm : V.m ≤ 256 := by have := h.ok.mn; have := h.ok.n256; omega
  have e2 : IntKind.i64.wrap (256 * ((V.m : Nat) : Int)) = ((V.m * 256 : Nat) : Int) := by rw [IntKind.wrap_i64]; omega
  have e0 : decide ((a : Int) < 0) = false := decide_eq_false (by omega)
  have e1 : decide ((a : Int) ≥ ((V.m * 256 : Nat) : Int)) = false := decide_eq_false (by omega)
  have e1' : decide (V.m * 256 ≤ a) = false := decide_eq_false (by omega)
  have e1'' : ¬ V.m * 256 ≤ a := by omega
  clear h hd ha hm hx hf
  generalize V.m * 256 = M at *
  generalize ((V.m : Nat) : Int) = mm at *
  go_enter Tryz.func40, Tryz.ntmps40
  go_wp2_with (go_at_call 43; (with_reducible refine HF.out.mono ?_); rintro e w1 ⟨rfl, m1⟩; have HG := Lib.hid m1; clear m1)
  go_ret
  exact ⟨rfl, HG.out⟩
set_option maxRecDepth 100000 in
set_option maxHeartbeats 1000000 in
theorem ddropped_ok {w : World} {T : Nat → Nat} {D : Dp} {V : St} {l q cap : Nat} {G : Nat → Bool} (h : DrAt w T D V) (hd : DlAt w l D.p q (V.n * 256) cap G) {a : Nat} (ha : a < V.m * 256) {x : Option Pc} (hx : V.At (a : Int) x) (hf : fltV V G a x ≠ 0) :
    Calls Tryz.prog 40 #[.pointer (some ⟨l, 0, none⟩), .int .i64 a] w fun e w' => e = .returned (.int .i64 0) ∧ DlAt w' l D.p q (V.n * 256) cap (gput G a) ∧ w.grownBy w' (some q) := by
  have c0 := hd.c0
  have p0 := h.c0
  have HF := Lib.hid (dfault_at h hd hx)
  have hmn := h.ok.mn
  have hm : V.m ≤ 256 := by have := h.ok.n256; omega
  have HD : Hid (∀ W, w.grownBy W none → W.cell? ⟨l, 1, none⟩ = some (.slice (some ⟨q, 0, none⟩) (V.n * 256) cap) ∧ W.cell? ⟨q, a, none⟩ = some (.bool (G a)) ∧ W.frozen? ⟨q, a, none⟩ = false ∧ DlAt (W.setCell ⟨q, a, none⟩ (.bool true)) l D.p q (V.n * 256) cap (gput G a) ∧ w.grownBy (W.setCell ⟨q, a, none⟩ (.bool true)) (some q)) := Lib.hid (fun W gr => by
    have hW := hd.grown gr
    exact ⟨hW.c1, hW.v.c a (by omega), hW.v.fz a, hW.set a true, grown_trans (grown_none gr) (An.agrown_set _ _ _ _)⟩)
  have e2 : IntKind.i64.wrap (256 * ((V.m : Nat) : Int)) = ((V.m * 256 : Nat) : Int) := by rw [IntKind.wrap_i64]; omega
  have e0 : decide ((a : Int) < 0) = false := decide_eq_false (by omega)
  have e1 : decide ((a : Int) ≥ ((V.m * 256 : Nat) : Int)) = false := decide_eq_false (by omega)
  have e1' : decide (V.m * 256 ≤ a) = false := decide_eq_false (by omega)
  have e1'' : ¬ V.m * 256 ≤ a := by omega
  have han : (a : Int) < ((V.n * 256 : Nat) : Int) := by omega
  have hai : (a : Int) ≤ 65536 := by omega
  generalize fltV V G a x = f at *
  have f0 : (f == 0) = false := by simpa using hf
  clear h hd ha hm hmn hx hf
  generalize V.n * 256 = N at *
  generalize V.m * 256 = M at *
  generalize ((V.m : Nat) : Int) = mm at *
  go_enter Tryz.func40, Tryz.ntmps40
  go_upto_region 5 with ((go_at_call 43; (with_reducible refine HF.out.mono ?_); rintro e w1 ⟨rfl, m1⟩; obtain ⟨d1, d2, z2, hl, hg⟩ := HD.out _ m1; have HR := Lib.hid (And.intro hl hg); clear m1 hl hg))
  go_wp2
  go_ret
  exact ⟨rfl, HR.out⟩
end Go.Proofs.YtgnfcklippjeeaaGreat
