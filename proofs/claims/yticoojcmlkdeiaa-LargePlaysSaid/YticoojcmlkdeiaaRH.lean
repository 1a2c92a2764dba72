/- A set and the document's beside it. -/
import Derived.Test.YticoojcmlkdeiaaRG
namespace Go.Proofs.Yticoojcmlkdeiaa
open Go.RowKit
open Sl (upd)
open Lg (pgs)
open Rf (LZ)

theorem LgAt.other {w w' : World} {X : Lp} {cnt : Nat} {D : DataW Unit} {Z B : Nat → Nat} {r : Nat} (h : LgAt w X cnt D Z B) (hg : w.grownBy w' (some r)) (h1 : X.p ≠ r) (h2 : X.pa ≠ r) (h3 : X.qa ≠ r) (h4 : X.mb ≠ r) : LgAt w' X cnt D Z B :=
  ⟨hg.cell h.c0 (some_ne h1), hg.cell h.c1 (some_ne h1), hg.cell h.c2 (some_ne h1), h.ar.grown hg (some_ne h2) (some_ne h3), h.map.kept hg (some_ne h4), h.is, h.inv, h.ap, h.k⟩

/-- The two sets side by side. -/
structure PL8 (w0 w : World) (X : Lp) (r cnt q cap vc : Nat) (A : Option Addr) (L : List (Nat × Nat)) (Z B : Nat → Nat) : Prop where
  y : LgY w0 w X cnt Z B
  g : RgAt w0.heap.size w r q cap X.key X.N A vc L B
  z : LZ L Z
  r1 : X.p ≠ r
  r2 : X.pa ≠ r
  r3 : ¬ X.may r
  nq : ¬ X.may q
  na : ∀ a, A = some a → ¬ X.may a.block
theorem LgY.other {w0 w w' : World} {X : Lp} {cnt : Nat} {Z B : Nat → Nat} {r : Nat} (h : LgY w0 w X cnt Z B) (hg : w.grownBy w' (some r)) (h1 : X.p ≠ r) (h2 : X.pa ≠ r) (h3 : ¬ X.may r) (h0 : w0.heap.size ≤ r) : LgY w0 w' X cnt Z B := by
  obtain ⟨D, hd⟩ := h.at_
  exact ⟨⟨D, hd.other hg h1 h2 (fun e => h3 (.inl e.symm)) (fun e => h3 (.inr e.symm))⟩, h.qa, h.mb, grown_own h.all hg h0⟩
theorem PL8.grown {w0 w w' : World} {X : Lp} {r cnt q cap vc : Nat} {A : Option Addr} {L : List (Nat × Nat)} {Z B : Nat → Nat} (h : PL8 w0 w X r cnt q cap vc A L Z B) (hg : w.grownBy w' none) : PL8 w0 w' X r cnt q cap vc A L Z B :=
  ⟨h.y.grown hg, h.g.grown hg, h.z, h.r1, h.r2, h.r3, h.nq, h.na⟩
/-- After a step of both. -/
theorem PL8.step {w0 w w1 w2 : World} {X : Lp} {r cnt cnt' q cap vc q' cap' vc' : Nat} {A A' : Option Addr} {L L' : List (Nat × Nat)} {Z B Z' B' : Nat → Nat} (h : PL8 w0 w X r cnt q cap vc A L Z B)
    (hy : LgY w0 w1 X cnt' Z' B') (hg : w1.grownBy w2 (some r)) (hr : RgAt w0.heap.size w2 r q' cap' X.key X.N A' vc' L' B') (hz : LZ L' Z') (hq : ¬ X.may q') (ha : ∀ a, A' = some a → ¬ X.may a.block) : PL8 w0 w2 X r cnt' q' cap' vc' A' L' Z' B' :=
  ⟨hy.other hg h.r1 h.r2 h.r3 h.g.r0, hr, hz, h.r1, h.r2, h.r3, hq, ha⟩
theorem PL8.mid {w0 w w1 : World} {X : Lp} {r cnt q cap vc : Nat} {A : Option Addr} {L : List (Nat × Nat)} {Z B : Nat → Nat} (h : PL8 w0 w X r cnt q cap vc A L Z B) (hf : Fr X.may w w1) : RgAt w0.heap.size w1 r q cap X.key X.N A vc L B := h.g.fr hf h.r3 h.nq h.na

/-- Both sets Make. -/
def MkOut (w0 w2 : World) (X : Lp) (r cnt len : Nat) : Prop := ∃ cnt' q' cap' vc' A' L' Z' B', PL8 w0 w2 X r cnt' q' cap' vc' A' L' Z' B' ∧ cnt' ≤ cnt + 1 ∧ L'.length ≤ len + 1
theorem putL_len (page n : Nat) (L : List (Nat × Nat)) : (Rf.putL page n L).length ≤ L.length + 1 := by
  have key : ∀ l : List (Nat × Nat), (Rf.lo page l).length + (Rf.hi page l).length ≤ l.length := fun l => by
    induction l with
    | nil => simp [Rf.lo, Rf.hi]
    | cons b l ih =>
      unfold Rf.lo Rf.hi at ih ⊢
      by_cases h1 : b.1 < page
      · have h2 : ¬ page < b.1 := by omega
        simp [h1, h2]; omega
      · by_cases h2 : page < b.1
        · simp [h1, h2]; omega
        · simp [h1, h2]; omega
  have := key L
  unfold Rf.putL
  simp only [List.length_append, List.length_singleton]
  omega
theorem both_make {w0 w : World} {X : Lp} {r cnt q cap vc : Nat} {A : Option Addr} {L : List (Nat × Nat)} {Z B : Nat → Nat} (h : PL8 w0 w X r cnt q cap vc A L Z B) (hcnt : cnt ≤ 1000) (hlen : L.length ≤ 1000) (page n : Int) :
    ∃ c : Int, Calls Try.prog 29 #[.pointer (some ⟨X.p, 0, none⟩), .int .i64 page, .int .i64 n] w fun e w1 => e = .returned (.int .i64 c) ∧ Fr X.may w w1 ∧
      ∀ W, w1.grownBy W none → Calls Try.prog 30 #[.pointer (some ⟨r, 0, none⟩), .int .i64 page, .int .i64 n] W fun e w2 => e = .returned (.int .i64 c) ∧ w1.grownBy w2 (some r) ∧ MkOut w0 w2 X r cnt L.length := by
  obtain ⟨D, hd⟩ := h.y.at_
  by_cases hb : page < 0 ∨ n ≤ 120 ∨ 4096 < n
  · refine ⟨1, (lmake_arg X.p w page n hb).mono ?_⟩
    rintro e w1 ⟨rfl, rfl⟩
    refine ⟨rfl, fr_refl _ _, fun W hW => (rmake_arg r W page n hb).mono ?_⟩
    rintro e w2 ⟨rfl, rfl⟩
    exact ⟨rfl, grown_none hW, cnt, q, cap, vc, A, L, Z, B, h.grown hW, by omega, by omega⟩
  · obtain ⟨p, rfl⟩ : ∃ p : Nat, page = p := ⟨page.toNat, by omega⟩
    obtain ⟨m, rfl⟩ : ∃ m : Nat, n = m := ⟨n.toNat, by omega⟩
    have h1 : 120 < m := by omega
    have h2 : m ≤ 4096 := by omega
    by_cases hf : (X.N : Int) / 256 - (pgs m : Nat) < p
    · refine ⟨3, (lmake_range hd p m h1 h2 (by omega) hf).mono ?_⟩
      rintro e w1 ⟨rfl, rfl⟩
      refine ⟨rfl, fr_refl _ _, fun W hW => (rmake_range (h.g.grown hW) p m h1 h2 (by omega) hf).mono ?_⟩
      rintro e w2 ⟨rfl, rfl⟩
      exact ⟨rfl, grown_none hW, cnt, q, cap, vc, A, L, Z, B, h.grown hW, by omega, by omega⟩
    · have hpg := hd.ar.page
      have hfit : (p + pgs m) * 256 ≤ X.N := by omega
      by_cases hm : ∃ k, Lg.Hit Z p (pgs m) k
      · refine ⟨7, (lmake_there hd p m h1 h2 hfit hm).mono ?_⟩
        rintro e w1 ⟨rfl, hg⟩
        refine ⟨rfl, fr_none hg, fun W hW => (rmake_main (h.g.grown (grown_trans hg hW)) h.z hd.inv hlen p m h1 h2 hfit).mono ?_⟩
        rintro e w2 (⟨rfl, -, hg2⟩ | ⟨rfl, hno, -⟩)
        · exact ⟨rfl, grown_none (grown_trans hW hg2), cnt, q, cap, vc, A, L, Z, B, h.grown (grown_trans hg (grown_trans hW hg2)), by omega, by omega⟩
        · exact absurd hm (fun ⟨k, hk⟩ => hno k hk)
      · have hno : ∀ k, ¬ Lg.Hit Z p (pgs m) k := fun k hk => hm ⟨k, hk⟩
        refine ⟨0, (h.y.make p m h1 h2 hfit hno (by omega)).mono ?_⟩
        rintro e w1 ⟨rfl, hy, hfr⟩
        have hr1 := h.mid hfr
        refine ⟨rfl, hfr, fun W hW => (rmake_main (hr1.grown hW) h.z hd.inv hlen p m h1 h2 hfit).mono ?_⟩
        rintro e w2 (⟨rfl, hh, -⟩ | ⟨rfl, -, hg2, q', cap', A', vc', hr2, hq', ha'⟩)
        · exact absurd hh hm
        · have hyW := hy.grown hW
          have hZ0 : Z p = 0 := by
            cases hz : Z p with
            | zero => rfl
            | succ z => exact absurd ⟨by omega, by have := Lg.pgs_pos m; omega, by have := Lg.pgs_pos (Z p); omega⟩ (hno p)
          exact ⟨rfl, grown_trans (grown_none hW) hg2, cnt + 1, q', cap', vc', A', _, _, _, h.step hyW hg2 hr2 (h.z.put hZ0 (by omega)) (hyW.not_may hq') (fun a ha => hyW.not_may (ha' a ha)), by omega, putL_len _ _ _⟩

/-- Both sets Drop. -/
def DrOut (w0 w2 : World) (X : Lp) (r cnt len : Nat) : Prop := ∃ cnt' q' cap' vc' A' L' Z' B', PL8 w0 w2 X r cnt' q' cap' vc' A' L' Z' B' ∧ cnt' ≤ cnt ∧ L'.length ≤ len
theorem both_drop {w0 w : World} {X : Lp} {r cnt q cap vc : Nat} {A : Option Addr} {L : List (Nat × Nat)} {Z B : Nat → Nat} (h : PL8 w0 w X r cnt q cap vc A L Z B) (hlen : L.length ≤ 1000) (page : Int) (hw : WF page) :
    ∃ (b : Bool) (c : Int), Calls Try.prog 31 #[.pointer (some ⟨X.p, 0, none⟩), .int .i64 page] w fun e w1 => e = .returned (.tuple #[.bool b, .int .i64 c]) ∧ Fr X.may w w1 ∧
      ∀ W, w1.grownBy W none → Calls Try.prog 32 #[.pointer (some ⟨r, 0, none⟩), .int .i64 page] W fun e w2 => e = .returned (.tuple #[.bool b, .int .i64 c]) ∧ w1.grownBy w2 (some r) ∧ DrOut w0 w2 X r cnt L.length := by
  obtain ⟨D, hd⟩ := h.y.at_
  by_cases hz : zV Z page = 0
  · have hno : ∀ i (_ : i < L.length), (L[i].1 : Int) ≠ page := fun i hi e => by
      obtain ⟨e1, e2⟩ := h.z.at_ hi
      rw [← e, zV_in] at hz
      omega
    refine ⟨false, 6, (ldrop_none hd page hw hz).mono ?_⟩
    rintro e w1 ⟨rfl, rfl⟩
    refine ⟨rfl, fr_refl _ _, fun W hW => (rdrop_none (h.g.grown hW) (by omega) page hno).mono ?_⟩
    rintro e w2 ⟨rfl, hg2⟩
    exact ⟨rfl, grown_none (grown_trans hW hg2), cnt, q, cap, vc, A, L, Z, B, h.grown (grown_trans hW hg2), by omega, by omega⟩
  · obtain ⟨p, rfl⟩ : ∃ p : Nat, page = p := ⟨page.toNat, by unfold zV at hz; split at hz <;> omega⟩
    rw [zV_in] at hz
    refine ⟨decide (Ar.wordAt B (Lg.grd p (Z p)) = Lg.can X.key p), 0, (h.y.drop p hz).mono ?_⟩
    rintro e w1 ⟨rfl, hy, hfr⟩
    refine ⟨rfl, hfr, fun W hW => (rdrop_ok ((h.mid hfr).grown hW) h.z hd.inv hlen p hz).mono ?_⟩
    rintro e w2 ⟨rfl, hg2, q', cap', A', vc', L', hr2, hz2, hl2, hq', ha'⟩
    have hyW := hy.grown hW
    exact ⟨rfl, grown_trans (grown_none hW) hg2, cnt, q', cap', vc', A', L', _, _, h.step hyW hg2 hr2 hz2 (hyW.not_may hq') (fun a ha => hyW.not_may (ha' a ha)), by omega, hl2⟩
end Go.Proofs.Yticoojcmlkdeiaa
