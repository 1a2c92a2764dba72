/- How the law's calls stand in memory. -/
import Derived.Test.YticoojcmlkdeiaaRN
namespace Go.Proofs.Yticoojcmlkdeiaa
open Go.ChangeShapes Go.WideShapes Go.ChangeAt Go.RowKit

set_option maxRecDepth 100000 in
theorem lops_arg {H : Type} {enc : TypeId × Value → H} {W : World} {base : Nat} {v : Value} {d : DataW H} {ps : List MemPlace}
    (hval : Value.okWide Try.prog W .any base 57 v) (h : DataW.Trod enc Try.prog W 0 (fun _ => true) true 57 v d ps) :
    ∃ A len cap O, v = .slice A len cap ∧ len ≤ 9223372036854775807 ∧ LOpsAt W A len O := by
  obtain ⟨a0, len, cap, rfl⟩ := okWide_slice Try.underlying57 hval
  obtain ⟨fuel, hf⟩ := h
  rcases Deep.open_slice Try.underlying57 hf with ⟨hcs, _⟩ | ⟨a, len', cap', m, n, D, Pl, hcs, _, hl, hm, hmm, _, hx⟩
  · simp only [Value.cells] at hcs
    obtain ⟨rfl, rfl, rfl⟩ := slice_cells hcs
    exact ⟨none, 0, 0, fun _ => default, rfl, by omega, Or.inl rfl⟩
  · simp only [Value.cells] at hcs
    obtain ⟨rfl, rfl, rfl⟩ := slice_cells hcs
    have hce : Try.prog.cellsOf 65 = 5 := by kernel_rfl
    have c1 : Try.prog.cellsOf 3 = 1 := by kernel_rfl
    have c4 : Try.prog.cellsOf 26 = 1 := by kernel_rfl
    have each : ∀ i, i < len → ∃ t : LOp, (W.cell? (a.add (i * 5)) = some (.int .i64 t.k) ∧ W.cell? (a.add (i * 5 + 1)) = some (.int .i64 t.p) ∧ W.cell? (a.add (i * 5 + 2)) = some (.int .i64 t.n) ∧ W.cell? (a.add (i * 5 + 3)) = some (.int .i64 t.a) ∧ W.cell? (a.add (i * 5 + 4)) = some (.slice t.bA t.bl t.bc)) ∧ LRow W t := by
      intro i hi
      obtain ⟨cs', h1, h2⟩ := hx i (by simp at hmm; omega)
      rw [hce] at h1
      obtain ⟨_, hlen, hcell⟩ := World.cells?_some h1
      obtain ⟨xs, k, hk, hxy, _, hxl, hfs⟩ := DataW.trod_struct Try.underlying65 h2
      match xs, hxl, cs', hlen with
      | [y0, y1, y2, y3, y4], _, [v0, v1, v2, v3, v4], _ =>
        have g0 := hfs 0 _ rfl
        have g1 := hfs 1 _ rfl
        have g2 := hfs 2 _ rfl
        have g3 := hfs 3 _ rfl
        have g4 := hfs 4 _ rfl
        simp [c1, c4] at g0 g1 g2 g3 g4
        have e0 := hcell 0 (by omega)
        have e1 := hcell 1 (by omega)
        have e2 := hcell 2 (by omega)
        have e3 := hcell 3 (by omega)
        have e4 := hcell 4 (by omega)
        rw [Deep.add_add] at e0 e1 e2 e3 e4
        obtain ⟨n0, r0, _⟩ := DataW.trod_int Try.underlying3 g0
        obtain ⟨n1, r1, _, w1⟩ := DataW.trod_int Try.underlying3 g1
        obtain ⟨n2, r2, _⟩ := DataW.trod_int Try.underlying3 g2
        obtain ⟨n3, r3, _⟩ := DataW.trod_int Try.underlying3 g3
        obtain ⟨A5, l5, k5, S5, r4, q1, q2, q3, q4⟩ := bytes_trod g4
        simp only [List.cons.injEq, and_true] at r0 r1 r2 r3 r4
        subst r0 r1 r2 r3 r4
        have hw1 : WF n1 := i64_of_wf w1
        exact ⟨⟨n0, n1, n2, n3, A5, l5, k5, S5⟩, ⟨by simpa using e0, by simpa using e1, by simpa using e2, by simpa using e3, by simpa using e4⟩, hw1, q3, q1, q2, q4⟩
    obtain ⟨q, hq⟩ := Deep.choose_lt each
    refine ⟨some a, len, cap, q, rfl, by unfold maxLen at hm; omega, ?_⟩
    by_cases h0 : len = 0
    · exact Or.inl h0
    · have t := (hq 0 (by omega)).1.1
      obtain ⟨e, _⟩ := addr_at (a := a) (by rw [Nat.zero_mul] at t; exact t)
      refine Or.inr ⟨a.block, a.off, by rw [← e], fun i hi => ?_⟩
      obtain ⟨⟨u0, u1, u2, u3, u4⟩, hr⟩ := hq i hi
      rw [e, addr_plus] at u0 u1 u2 u3 u4
      exact ⟨⟨u0, u1, u2, u3, u4⟩, hr⟩
end Go.Proofs.Yticoojcmlkdeiaa
