/- A region and its ledger side by side; what a nil ledger answers; Note. -/
import Derived.Test.YtgnfcklippjeeaaGreatFD
namespace Go.Proofs.YtgnfcklippjeeaaGreat
open Go.RowKit
open Go.Maps (Keyed)
open Sl (Cls bs upd FOk LnkIs)
open Lg (pgs)

/-- All of a region's blocks. -/
def Rp.any (A : Rp) (L : Nat → Option Sd) (i : Nat) : Prop := i = A.p ∨ i = A.pa ∨ i = A.pt ∨ i = A.pg ∨ A.may L i ∨ ∃ k d, L k = some d ∧ (i = (A.xs k).pl ∨ i = (A.xs k).ph)
theorem Rp.any_may {A : Rp} {L : Nat → Option Sd} {i : Nat} (h : A.may L i) : A.any L i := .inr (.inr (.inr (.inr (.inl h))))
theorem RnW.any_lt {w : World} {A : Rp} {V : St} {cnt : Nat} (h : RnW w A V cnt) {i : Nat} (hi : A.any V.L i) : i < w.heap.size := by
  have o := h.old
  rcases hi with rfl | rfl | rfl | rfl | hi | ⟨k, d, hk, rfl | rfl⟩
  · exact o.p
  · exact o.pa
  · exact o.pt
  · exact o.pg
  · exact h.may_lt hi
  · exact (o.x k d hk).2.2.2.1
  · exact (o.x k d hk).2.2.2.2
theorem with_any {A : Rp} {V : St} {p s i : Nat} {X : Pl} {d : Sd} (hX : Fresh s X) (h : (A.with p X).any (V.set p (some d)) i) : A.any V.L i ∨ s ≤ i := by
  rcases h with h | h | h | h | h | ⟨k, e, hk, hi⟩
  · exact .inl (.inl h)
  · exact .inl (.inr (.inl h))
  · exact .inl (.inr (.inr (.inl h)))
  · exact .inl (.inr (.inr (.inr (.inl h))))
  · exact (with_may hX h).imp Rp.any_may id
  · by_cases x : k = p
    · subst x
      rw [with_xs] at hi
      have := hX.pl; have := hX.ph
      rcases hi with rfl | rfl <;> exact .inr (by omega)
    · rw [St.set_other x] at hk
      rw [with_xo A X x] at hi
      exact .inl (.inr (.inr (.inr (.inr (.inr ⟨k, e, hk, hi⟩)))))
theorem any_set {A : Rp} {V : St} {g i : Nat} {d d' : Sd} (hl : V.L g = some d) (h : A.any (V.set g (some d')) i) : A.any V.L i := by
  rcases h with h | h | h | h | h | ⟨k, e, hk, hi⟩
  · exact .inl h
  · exact .inr (.inl h)
  · exact .inr (.inr (.inl h))
  · exact .inr (.inr (.inr (.inl h)))
  · exact Rp.any_may (may_set hl h)
  · by_cases x : k = g
    · subst x; exact .inr (.inr (.inr (.inr (.inr ⟨k, d, hl, hi⟩))))
    · rw [St.set_other x] at hk; exact .inr (.inr (.inr (.inr (.inr ⟨k, e, hk, hi⟩))))
theorem any_unset {A : Rp} {V : St} {g i : Nat} (h : A.any (V.set g none) i) : A.any V.L i := by
  rcases h with h | h | h | h | h | ⟨k, e, hk, hi⟩
  · exact .inl h
  · exact .inr (.inl h)
  · exact .inr (.inr (.inl h))
  · exact .inr (.inr (.inr (.inl h)))
  · exact Rp.any_may (may_unset h)
  · by_cases x : k = g
    · subst x; rw [St.set_same] at hk; cases hk
    · rw [St.set_other x] at hk; exact .inr (.inr (.inr (.inr (.inr ⟨k, e, hk, hi⟩))))
/-- A region's memory stays while others' blocks are written. -/
theorem RnAt.other {may : Nat → Prop} {w w' : World} {A : Rp} {V : St} {cnt : Nat} (h : RnAt w A V cnt) (hf : Fr may w w') (hm : ∀ i, A.any V.L i → ¬ may i) : RnAt w' A V cnt :=
  ⟨h.toRnW.fr0 hf (fun i hi => hm i hi), h.ok⟩

/-- A region and a ledger of it. -/
structure RF (w0 w : World) (A : Rp) (V : St) (cnt b0 : Nat) (F : Fp) (c2 : Nat) (G : Nat → Bool) (rv : Value) (N : List Rep) : Prop where
  y : RnY w0 w A V cnt
  l : LdAt w b0 F c2 G rv N
  r : F.r = A.p
  sep : ∀ i, A.any V.L i → i ≠ F.p ∧ i ≠ F.mb ∧ rv.ownBlock ≠ some i
  lm : w0.heap.size ≤ F.mb
  lp : w0.heap.size ≤ F.p
  b0s : b0 ≤ w.heap.size
theorem RF.grown {w0 w w' : World} {A : Rp} {V : St} {cnt b0 c2 : Nat} {F : Fp} {G : Nat → Bool} {rv : Value} {N : List Rep} (h : RF w0 w A V cnt b0 F c2 G rv N) (hg : w.grownBy w' none) : RF w0 w' A V cnt b0 F c2 G rv N :=
  ⟨h.y.grown hg, h.l.grown hg, h.r, h.sep, h.lm, h.lp, Nat.le_trans h.b0s hg.size⟩
theorem RF.region {w0 w w' : World} {A A' : Rp} {V V' : St} {cnt cnt' b0 c2 : Nat} {F : Fp} {G : Nat → Bool} {rv : Value} {N : List Rep} (h : RF w0 w A V cnt b0 F c2 G rv N) (hy : RnY w0 w' A' V' cnt') (hf : Fr (A.may V.L) w w') (ha : ∀ i, A'.any V'.L i → A.any V.L i ∨ w.heap.size ≤ i) (hp : A'.p = A.p) : RF w0 w' A' V' cnt' b0 F c2 G rv N := by
  refine ⟨hy, h.l.fr hf (fun x => (h.sep _ (Rp.any_may x)).1 rfl) (fun x => (h.sep _ (Rp.any_may x)).2.1 rfl) (fun q hq x => (h.sep q (Rp.any_may x)).2.2 hq), h.r.trans hp.symm, fun i hi => ?_, h.lm, h.lp, Nat.le_trans h.b0s hf.size⟩
  rcases ha i hi with h1 | h1
  · exact h.sep i h1
  · have h2 := h.l.plt
    have h3 := h.l.mlt
    refine ⟨by omega, by omega, fun e => ?_⟩
    have := (World.ownsRow.lt h.l.own i e).2
    omega
theorem RF.ledger {w0 w w' : World} {A : Rp} {V : St} {cnt b0 c2 c3 : Nat} {F : Fp} {G G' : Nat → Bool} {rv : Value} {N : List Rep} (h : RF w0 w A V cnt b0 F c2 G rv N) (hl : LdAt w' b0 F c3 G' rv N) (hf : Fr (fun i => i = F.mb) w w') : RF w0 w' A V cnt b0 F c3 G' rv N :=
  ⟨⟨h.y.at_.other hf (fun i hi => (h.sep i hi).2.1), h.y.may, hf.grown h.y.all (fun i hi e => by have := h.lm; omega)⟩, hl, h.r, h.sep, h.lm, h.lp, Nat.le_trans h.b0s hf.size⟩
theorem RF.new {w0 w w' : World} {A : Rp} {V : St} {cnt : Nat} {e : Ending} (h : RnY w0 w A V cnt) (hm : LdMade w w' A.p e) : ∃ F : Fp, e = .returned (.pointer (some ⟨F.p, 0, none⟩)) ∧ RF w0 w' A V cnt w'.heap.size F 0 (fun _ => false) (.slice none 0 0) [] := by
  obtain ⟨F, he, hr, hl, h1, h2, hg⟩ := hm
  have hs := h.all.size
  refine ⟨F, he, h.grown hg, hl, hr, fun i hi => ?_, by omega, by omega, Nat.le_refl _⟩
  have := h.at_.toRnW.any_lt hi
  exact ⟨by omega, by omega, by simp [Value.ownBlock]⟩

theorem RF.ends {w0 w : World} {A : Rp} {V : St} {cnt b0 c2 : Nat} {F : Fp} {G : Nat → Bool} {rv : Value} {N : List Rep} (h : RF w0 w A V cnt b0 F c2 G rv N) :
    Calls Tryz.prog 96 #[.pointer (some ⟨F.p, 0, none⟩)] w fun e w' => e = .returned (.tuple #[.int .i64 ((V.m * 256 : Nat) : Int), .int .i64 ((V.n * 256 : Nat) : Int)]) ∧ w.grownBy w' none :=
  ends_at h.y.at_ (by have := h.l.c0; rw [h.r] at this; exact this)
theorem RF.live {w0 w : World} {A : Rp} {V : St} {cnt b0 c2 : Nat} {F : Fp} {G : Nat → Bool} {rv : Value} {N : List Rep} (h : RF w0 w A V cnt b0 F c2 G rv N) {a : Int} {x : Option Pc} (hx : V.At a x) :
    Calls Tryz.prog 92 #[.pointer (some ⟨F.p, 0, none⟩), .int .i64 a] w fun e w' => e = .returned (fndV (lvV x)) ∧ w.grownBy w' none :=
  live_at h.y.at_ (by have := h.l.c0; rw [h.r] at this; exact this) hx
theorem RF.took_no {w0 w : World} {A : Rp} {V : St} {cnt b0 c2 : Nat} {F : Fp} {G : Nat → Bool} {rv : Value} {N : List Rep} (h : RF w0 w A V cnt b0 F c2 G rv N) {a : Int} {x : Option Pc} (hx : V.At a x) (hn : ∀ p, lvV x = some p → (p.b : Int) ≠ a) :
    Calls Tryz.prog 37 #[.pointer (some ⟨F.p, 0, none⟩), .int .i64 a] w fun e w' => e = .returned (.int .i64 6) ∧ w.grownBy w' none := by
  have hl := h.live hx
  cases hv : lvV x with
  | none => rw [hv] at hl; exact Go.Proofs.YtgnfcklippjeeaaGreat.took_no (Lib.hid hl) (.inl rfl)
  | some p => rw [hv] at hl; exact Go.Proofs.YtgnfcklippjeeaaGreat.took_no (Lib.hid hl) (.inr (hn p hv))
theorem RF.took {w0 w : World} {A : Rp} {V : St} {cnt b0 c2 : Nat} {F : Fp} {G : Nat → Bool} {rv : Value} {N : List Rep} (h : RF w0 w A V cnt b0 F c2 G rv N) {a : Int} {x : Option Pc} {p : Pc} (hx : V.At a x) (hv : lvV x = some p) (hb : (p.b : Int) = a) :
    Calls Tryz.prog 37 #[.pointer (some ⟨F.p, 0, none⟩), .int .i64 a] w fun e w' => e = .returned (.int .i64 0) ∧ RF w0 w' A V cnt b0 F c2 (gcut G p.b (endV p)) rv N ∧ Fr (fun i => i = F.mb) w w' := by
  have hl := h.live hx
  obtain ⟨rfl, _⟩ := lvV_some hv
  obtain ⟨b1, b2, _⟩ := hx.bd h.y.at_.ok
  rw [hv] at hl
  subst hb
  exact (took_yes h.l p b1 b2 (Lib.hid hl)).mono fun _ _ ⟨he, hl', hf⟩ => ⟨he, h.ledger hl' hf, hf⟩
theorem RF.dropped_no {w0 w : World} {A : Rp} {V : St} {cnt b0 c2 : Nat} {F : Fp} {G : Nat → Bool} {rv : Value} {N : List Rep} (h : RF w0 w A V cnt b0 F c2 G rv N) {a : Int} (ha : a < 0 ∨ ((V.m * 256 : Nat) : Int) ≤ a) :
    Calls Tryz.prog 39 #[.pointer (some ⟨F.p, 0, none⟩), .int .i64 a] w fun e w' => e = .returned (.int .i64 3) ∧ w.grownBy w' none :=
  dropped_range (Lib.hid h.ends) ha
theorem RF.dropped_live {w0 w : World} {A : Rp} {V : St} {cnt b0 c2 : Nat} {F : Fp} {G : Nat → Bool} {rv : Value} {N : List Rep} (h : RF w0 w A V cnt b0 F c2 G rv N) {a : Int} {x : Option Pc} {p : Pc} (hx : V.At a x) (hv : lvV x = some p) (hb : (p.b : Int) = a) :
    Calls Tryz.prog 39 #[.pointer (some ⟨F.p, 0, none⟩), .int .i64 a] w fun e w' => e = .returned (.int .i64 8) ∧ w.grownBy w' none := by
  obtain ⟨rfl, _⟩ := lvV_some hv
  obtain ⟨_, _, _, b4⟩ := hx.bd h.y.at_.ok
  have HL := Lib.hid (fun W (g1 : w.grownBy W none) => (h.grown g1).live hx)
  rw [hv] at HL
  subst hb
  exact Go.Proofs.YtgnfcklippjeeaaGreat.dropped_live (Lib.hid h.ends) (by omega) HL
theorem RF.dropped {w0 w : World} {A : Rp} {V : St} {cnt b0 c2 : Nat} {F : Fp} {G : Nat → Bool} {rv : Value} {N : List Rep} (h : RF w0 w A V cnt b0 F c2 G rv N) {a : Nat} {x : Option Pc} (hx : V.At (a : Int) x) (ha : a < V.m * 256) (hn : ∀ p, lvV x = some p → p.b ≠ a) (hc : c2 ≤ 100000) :
    Calls Tryz.prog 39 #[.pointer (some ⟨F.p, 0, none⟩), .int .i64 a] w fun e w' => e = .returned (.int .i64 0) ∧ RF w0 w' A V cnt b0 F (c2 + 1) (gput G a) rv N ∧ Fr (fun i => i = F.mb) w w' := by
  have HL := Lib.hid (fun W (g1 : w.grownBy W none) => (h.grown g1).live hx)
  have h64 : a < 65536 := by have := h.y.at_.ok.mn; have := h.y.at_.ok.n256; omega
  have key : Calls Tryz.prog 39 #[.pointer (some ⟨F.p, 0, none⟩), .int .i64 a] w fun e w' => e = .returned (.int .i64 0) ∧ LdAt w' b0 F (c2 + 1) (gput G a) rv N ∧ Fr (fun i => i = F.mb) w w' := by
    cases hv : lvV x with
    | none => rw [hv] at HL; exact dropped_ok h.l hc h64 (Lib.hid h.ends) (by omega) HL (.inl rfl)
    | some p => rw [hv] at HL; exact dropped_ok h.l hc h64 (Lib.hid h.ends) (by omega) HL (.inr (by have := hn p hv; omega))
  exact key.mono fun _ _ ⟨he, hl', hf⟩ => ⟨he, h.ledger hl' hf, hf⟩
theorem RF.fault {w0 w : World} {A : Rp} {V : St} {cnt b0 c2 : Nat} {F : Fp} {G : Nat → Bool} {rv : Value} {N : List Rep} (h : RF w0 w A V cnt b0 F c2 G rv N) {a : Int} {x : Option Pc} (hx : V.At a x) :
    Calls Tryz.prog 42 #[.pointer (some ⟨F.p, 0, none⟩), .int .i64 a] w fun e w' => e = .returned (.int .i64 (fltV V G a x)) ∧ w.grownBy w' none := by
  have HL := Lib.hid (fun W (g1 : w.grownBy W none) => (h.grown g1).live hx)
  have hmn := h.y.at_.ok.mn
  have hn := h.y.at_.ok.n256
  unfold fltV
  by_cases h1 : a < 0 ∨ ((V.n * 256 : Nat) : Int) ≤ a
  · rw [if_pos h1]; exact fault_out (Lib.hid h.ends) h1
  · rw [if_neg h1]
    by_cases h2 : ((V.m * 256 : Nat) : Int) ≤ a
    · rw [if_pos h2]; exact fault_managed (Lib.hid h.ends) h1 h2
    · rw [if_neg h2]
      obtain ⟨b, rfl⟩ : ∃ b : Nat, a = b := ⟨a.toNat, by omega⟩
      cases hv : lvV x with
      | none =>
        rw [hv] at HL
        simp only [Int.toNat_natCast]
        exact fault_gone h.l (by omega) (Lib.hid h.ends) (by omega) (by omega) HL
      | some p =>
        rw [hv] at HL
        exact fault_live p (Lib.hid h.ends) h1 h2 HL

/-! A nil ledger. -/
theorem fnil_took (a : Int) (w : World) : Calls Tryz.prog 37 #[.pointer none, .int .i64 a] w fun e w' => e = .returned (.int .i64 2) ∧ w = w' := by
  go_enter Tryz.func37, Tryz.ntmps37
  go_wp2
  go_ret
  exact ⟨rfl, rfl⟩
theorem fnil_dropped (a : Int) (w : World) : Calls Tryz.prog 39 #[.pointer none, .int .i64 a] w fun e w' => e = .returned (.int .i64 2) ∧ w = w' := by
  go_enter Tryz.func39, Tryz.ntmps39
  go_wp2
  go_ret
  exact ⟨rfl, rfl⟩
theorem fnil_fault (a : Int) (w : World) : Calls Tryz.prog 42 #[.pointer none, .int .i64 a] w fun e w' => e = .returned (.int .i64 1) ∧ w.grownBy w' none :=
  fault_out (mm := 0) (nn := 0) (Lib.hid ((ends_nil w).mono fun _ _ ⟨he, hw⟩ => ⟨he, hw ▸ grown_refl _ _⟩)) (by omega)
theorem fnil_reports (w : World) : Calls Tryz.prog 45 #[.pointer none] w fun e w' => e = .returned (.slice none 0 0) ∧ w = w' := by
  go_enter Tryz.func45, Tryz.ntmps45
  go_wp2
  go_ret
  exact ⟨rfl, rfl⟩
theorem fnil_gone (w : World) : Calls Tryz.prog 44 #[.pointer none] w fun e w' => e = .returned (.slice none 0 0) ∧ w = w' := by
  go_enter Tryz.func44, Tryz.ntmps44
  go_wp2
  go_ret
  exact ⟨rfl, rfl⟩
theorem fnil_note (t a f : Int) (w : World) : Calls Tryz.prog 41 #[.pointer none, .int .i64 t, .int .i64 a, .int .i64 f] w fun e w' => e = .returned (.tuple #[]) ∧ w = w' := by
  go_enter Tryz.func41, Tryz.ntmps41
  go_wp2
  exact bodyPost_ret (v := .tuple #[]) (by simp [results, Tryz.results41, go_sem]) rfl ⟨rfl, rfl⟩
end Go.Proofs.YtgnfcklippjeeaaGreat
