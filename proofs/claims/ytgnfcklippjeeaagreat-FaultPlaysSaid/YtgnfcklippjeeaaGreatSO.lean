/- The law's Step, whoever writes. -/
import Derived.Test.YtgnfcklippjeeaaGreatSN
import Derived.Test.YtgnfcklippjeeaaGreatWB
namespace Go.Proofs.YtgnfcklippjeeaaGreat
open Go.RowKit

theorem step_all {w0 w : World} {A : Rp} {D : Dp} {T : Nat → Nat} {V : St} {cnt pp : Nat} (h : PrAt w0 w A D T V V cnt pp) (hcnt : cnt ≤ 100000) {t : Lop} (ht : LRows w0 t) :
    Calls Tryz.prog 11 #[.pointer (some ⟨pp, 0, none⟩), t.v, .bool true] w fun e w' => e = .returned (.bool true) ∧ StepW w0 w w' A D T V cnt pp := by
  by_cases h8 : t.k = 8
  · have key := step_write h hcnt t.c t.o t.p t.a t.n t.b t.bA t.bl t.bc ht.cap ht.at_ t.bS ht.b ht.lt
    unfold Lop.v
    rw [h8]
    exact key
  · refine (step_most h hcnt t.k t.c t.o t.p t.a t.n ht.wp t.b t.bA t.bl t.bc ht.cap ht.at_ true (.inr h8)).mono ?_
    rintro e w' ⟨rfl, A', D', V', hs, hto⟩
    exact ⟨rfl, A', D', V', hs.dims.1, hs.dims.2.1, hto⟩
theorem fx_step2 {w0 w : World} {A : Rp} {D : Dp} {T : Nat → Nat} {V : St} {cnt pp b0 c2 : Nat} {F : Fp} {G : Nat → Bool} {rv : Value} {N : List Rep} (h : FxAt w0 w A D T V cnt pp b0 F c2 G rv N) (hcnt : cnt ≤ 100000) {t : Lop} (ht : LRows w0 t) :
    Calls Tryz.prog 11 #[.pointer (some ⟨pp, 0, none⟩), t.v, .bool true] w fun e w' => e = .returned (.bool true) ∧ ∃ A' D' T' V', A'.p = A.p ∧ D'.p = D.p ∧ V'.m = V.m ∧ V'.n = V.n ∧ FxAt w0 w' A' D' T' V' (cnt + 1) pp b0 F c2 G rv N ∧ (∀ i, i < w.heap.size → T' i = T i) ∧ Fr (fun i => T i = 1 ∨ 3 ≤ T i) w w' := by
  refine (step_all h.pr hcnt ht).mono ?_
  rintro e w' ⟨rfl, A', D', V', hm, hn, hto⟩
  have hp := hto
  obtain ⟨_, p1, p2, _⟩ := hp
  obtain ⟨T', h1, h2, h3⟩ := h.step hto
  exact ⟨rfl, A', D', T', V', p1, p2, hm, hn, h1, h2, h3⟩
end Go.Proofs.YtgnfcklippjeeaaGreat
