/- How arguments that are bytes, acts and calls of an arena stand in memory. -/
import Derived.Test.YtbpganholopjfaaAV
import Derived.Test.YtbpganholopjfaaPost
namespace Go.Proofs.Ytbpganholopjfaa
open Go.ChangeShapes Go.WideShapes Go.ChangeAt Go.RowKit

theorem ai64_of_wf {n : Int} (h : (Lit.int .i64 n).wf = true) : -9223372036854775808 ≤ n ∧ n ≤ 9223372036854775807 := bounds_i64 h
theorem au64_of_wf {n : Int} (h : (Lit.int .u64 n).wf = true) : 0 ≤ n ∧ n ≤ 18446744073709551615 := bounds_u64 h
theorem au8_of_wf {n : Int} (h : (Lit.int .u8 n).wf = true) : 0 ≤ n ∧ n ≤ 255 := by
  simp [Lit.wf, IntKind.min, IntKind.max, IntKind.signed, IntKind.bits] at h
  omega
theorem slice_cells {A A' : Option Addr} {l c l' c' : Nat} (h : ([.slice A l c] : List Value) = [.slice A' l' c']) : A = A' ∧ l = l' ∧ c = c' := by
  injection h with h _
  injection h with h1 h2 h3
  exact ⟨h1, h2, h3⟩

set_option maxRecDepth 100000 in
theorem bytes_trod {H : Type} {enc : TypeId × Value → H} {W : World} {fuel : Nat} {cs : List Value} {x : DataW H × List MemPlace}
    (h : DataW.trod enc Try.prog W 0 (fun _ => true) true fuel 25 cs = some x) :
    ∃ A len cap S, cs = [.slice A len cap] ∧ len ≤ cap ∧ len ≤ 9223372036854775807 ∧ BytesArg W A len S ∧ ∀ i, S i < 256 := by
  rcases Deep.open_slice1 Try.underlying25 (by kernel_rfl) h with ⟨rfl, _⟩ | ⟨a, len, cap, m, n, V, D, Pl, rfl, _, hl, hm, hmm, _, hx⟩
  · exact ⟨none, 0, 0, fun _ => 0, rfl, Nat.le_refl _, by omega, Or.inl rfl, fun i => by simp⟩
  · have each : ∀ i, i < len → ∃ q : Nat, q < 256 ∧ W.cell? (a.add i) = some (.int .u8 (q : Nat)) := fun i hi => by
      obtain ⟨h1, h2⟩ := hx i (by simp at hmm; omega)
      obtain ⟨n0, r0, _, w0⟩ := DataW.trod_int Try.underlying5 h2
      obtain ⟨u1, u2⟩ := au8_of_wf w0
      simp only [List.cons.injEq, and_true] at r0
      exact ⟨n0.toNat, by omega, by rw [h1, r0, Int.toNat_of_nonneg u1]⟩
    obtain ⟨q, hq⟩ := Deep.choose_lt each
    refine ⟨some a, len, cap, fun i => q i % 256, rfl, hl, by unfold maxLen at hm; omega, ?_, fun i => Nat.mod_lt _ (by omega)⟩
    by_cases h0 : len = 0
    · exact Or.inl h0
    · obtain ⟨e, hlt⟩ := addr_at (a := a) (hq 0 (by omega)).2
      refine Or.inr ⟨a.block, a.off, by rw [← e], hlt, fun i hi => ?_⟩
      obtain ⟨u, u0⟩ := hq i hi
      rw [e, addr_plus] at u0
      rw [u0]
      simp only [Nat.mod_eq_of_lt u]

set_option maxRecDepth 100000 in
theorem acts_trod {H : Type} {enc : TypeId × Value → H} {W : World} {fuel : Nat} {cs : List Value} {x : DataW H × List MemPlace}
    (h : DataW.trod enc Try.prog W 0 (fun _ => true) true fuel 28 cs = some x) :
    ∃ A len cap F, cs = [.slice A len cap] ∧ len ≤ cap ∧ len ≤ 9223372036854775807 ∧ ActsAt W A len F ∧ ∀ i, i < len → (F i).x < 18446744073709551616 := by
  rcases Deep.open_slice Try.underlying28 h with ⟨rfl, _⟩ | ⟨a, len, cap, m, n, D, Pl, rfl, _, hl, hm, hmm, _, hx⟩
  · exact ⟨none, 0, 0, fun _ => default, rfl, Nat.le_refl _, by omega, Or.inl rfl, fun i hi => absurd hi (Nat.not_lt_zero i)⟩
  · have hce : Try.prog.cellsOf 53 = 3 := by kernel_rfl
    have c1 : Try.prog.cellsOf 3 = 1 := by kernel_rfl
    have c2 : Try.prog.cellsOf 27 = 1 := by kernel_rfl
    have each : ∀ i, i < len → ∃ t : A3, t.x < 18446744073709551616 ∧ W.cell? (a.add (i * 3)) = some (.int .i64 t.k) ∧ W.cell? (a.add (i * 3 + 1)) = some (.int .i64 t.a) ∧ W.cell? (a.add (i * 3 + 2)) = some (.int .u64 (t.x : Nat)) := by
      intro i hi
      obtain ⟨cs', h1, h2⟩ := hx i (by simp at hmm; omega)
      rw [hce] at h1
      obtain ⟨_, hlen, hcell⟩ := World.cells?_some h1
      obtain ⟨xs, k, hk, hxy, _, hxl, hfs⟩ := DataW.trod_struct Try.underlying53 h2
      match xs, hxl, cs', hlen with
      | [y0, y1, y2], _, [v0, v1, v2], _ =>
        have g0 := hfs 0 _ rfl
        have g1 := hfs 1 _ rfl
        have g2 := hfs 2 _ rfl
        simp [c1, c2] at g0 g1 g2
        have e0 := hcell 0 (by omega)
        have e1 := hcell 1 (by omega)
        have e2 := hcell 2 (by omega)
        rw [Deep.add_add] at e0 e1 e2
        obtain ⟨n0, r0, _⟩ := DataW.trod_int Try.underlying3 g0
        obtain ⟨n1, r1, _⟩ := DataW.trod_int Try.underlying3 g1
        obtain ⟨n2, r2, _, w2⟩ := DataW.trod_int Try.underlying27 g2
        simp only [List.cons.injEq, and_true] at r0 r1 r2
        subst r0 r1 r2
        obtain ⟨u1, u2⟩ := au64_of_wf w2
        exact ⟨⟨n0, n1, n2.toNat⟩, by simp only []; omega, by simpa using e0, by simpa using e1, by rw [Int.toNat_of_nonneg u1]; simpa using e2⟩
    obtain ⟨q, hq⟩ := Deep.choose_lt each
    refine ⟨some a, len, cap, q, rfl, hl, by unfold maxLen at hm; omega, ?_, fun i hi => (hq i hi).1⟩
    by_cases h0 : len = 0
    · exact Or.inl h0
    · have t := (hq 0 (by omega)).2.1
      obtain ⟨e, hlt⟩ := addr_at (a := a) (by rw [Nat.zero_mul] at t; exact t)
      refine Or.inr ⟨a.block, a.off, by rw [← e], hlt, fun i hi => ?_⟩
      obtain ⟨u, u0, u1, u2⟩ := hq i hi
      rw [e, addr_plus] at u0 u1 u2
      exact ⟨u0, u1, u2, u⟩

set_option maxRecDepth 100000 in
theorem bytes_arg {H : Type} {enc : TypeId × Value → H} {W : World} {base : Nat} {v : Value} {d : DataW H} {ps : List MemPlace}
    (hval : Value.okWide Try.prog W .any base 25 v) (h : DataW.Trod enc Try.prog W 0 (fun _ => true) true 25 v d ps) :
    ∃ A len cap S, v = .slice A len cap ∧ len ≤ cap ∧ len ≤ 9223372036854775807 ∧ BytesArg W A len S ∧ ∀ i, S i < 256 := by
  obtain ⟨a0, len, cap, rfl⟩ := okWide_slice Try.underlying25 hval
  obtain ⟨fuel, hf⟩ := h
  obtain ⟨A, l, c, S, e, k⟩ := bytes_trod hf
  simp only [Value.cells] at e
  obtain ⟨rfl, rfl, rfl⟩ := slice_cells e
  exact ⟨_, _, _, S, rfl, k⟩
set_option maxRecDepth 100000 in
theorem acts_arg {H : Type} {enc : TypeId × Value → H} {W : World} {base : Nat} {v : Value} {d : DataW H} {ps : List MemPlace}
    (hval : Value.okWide Try.prog W .any base 28 v) (h : DataW.Trod enc Try.prog W 0 (fun _ => true) true 28 v d ps) :
    ∃ A len cap F, v = .slice A len cap ∧ len ≤ cap ∧ len ≤ 9223372036854775807 ∧ ActsAt W A len F ∧ ∀ i, i < len → (F i).x < 18446744073709551616 := by
  obtain ⟨a0, len, cap, rfl⟩ := okWide_slice Try.underlying28 hval
  obtain ⟨fuel, hf⟩ := h
  obtain ⟨A, l, c, F, e, k⟩ := acts_trod hf
  simp only [Value.cells] at e
  obtain ⟨rfl, rfl, rfl⟩ := slice_cells e
  exact ⟨_, _, _, F, rfl, k⟩
end Go.Proofs.Ytbpganholopjfaa
