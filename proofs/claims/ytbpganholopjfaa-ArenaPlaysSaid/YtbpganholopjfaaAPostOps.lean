/- How an argument that is a slice of calls of an arena stands in memory. -/
import Derived.Test.YtbpganholopjfaaAPost
import Derived.Test.YtbpganholopjfaaAZZ
namespace Go.Proofs.Ytbpganholopjfaa
open Go.ChangeShapes Go.WideShapes Go.ChangeAt Go.RowKit

set_option maxRecDepth 100000 in
theorem aops_arg {H : Type} {enc : TypeId × Value → H} {W : World} {base : Nat} {v : Value} {d : DataW H} {ps : List MemPlace}
    (hval : Value.okWide Try.prog W .any base 22 v) (h : DataW.Trod enc Try.prog W 0 (fun _ => true) true 22 v d ps) :
    ∃ A len cap O, v = .slice A len cap ∧ len ≤ cap ∧ len ≤ 9223372036854775807 ∧ AOpsAt W A len O := by
  obtain ⟨a0, len, cap, rfl⟩ := okWide_slice Try.underlying22 hval
  obtain ⟨fuel, hf⟩ := h
  rcases Deep.open_slice Try.underlying22 hf with ⟨hcs, _⟩ | ⟨a, len', cap', m, n, D, Pl, hcs, _, hl, hm, hmm, _, hx⟩
  · simp only [Value.cells] at hcs
    obtain ⟨rfl, rfl, rfl⟩ := slice_cells hcs
    exact ⟨none, 0, 0, fun _ => default, rfl, Nat.le_refl _, by omega, Or.inl rfl⟩
  · simp only [Value.cells] at hcs
    obtain ⟨rfl, rfl, rfl⟩ := slice_cells hcs
    have hce : Try.prog.cellsOf 30 = 7 := by kernel_rfl
    have c1 : Try.prog.cellsOf 3 = 1 := by kernel_rfl
    have c2 : Try.prog.cellsOf 5 = 1 := by kernel_rfl
    have c3 : Try.prog.cellsOf 27 = 1 := by kernel_rfl
    have c4 : Try.prog.cellsOf 25 = 1 := by kernel_rfl
    have c5 : Try.prog.cellsOf 28 = 1 := by kernel_rfl
    have each : ∀ i, i < len → ∃ t : AOp, ORows W t ∧ W.cell? (a.add (i * 7)) = some (.int .i64 t.k) ∧ W.cell? (a.add (i * 7 + 1)) = some (.int .i64 t.a) ∧ W.cell? (a.add (i * 7 + 2)) = some (.int .i64 t.n) ∧ W.cell? (a.add (i * 7 + 3)) = some (.int .u8 (t.c : Nat)) ∧
        W.cell? (a.add (i * 7 + 4)) = some (.int .u64 (t.x : Nat)) ∧ W.cell? (a.add (i * 7 + 5)) = some (.slice t.bA t.bl t.bc) ∧ W.cell? (a.add (i * 7 + 6)) = some (.slice t.aA t.al t.ac) := by
      intro i hi
      obtain ⟨cs', h1, h2⟩ := hx i (by simp at hmm; omega)
      rw [hce] at h1
      obtain ⟨_, hlen, hcell⟩ := World.cells?_some h1
      obtain ⟨xs, k, hk, hxy, _, hxl, hfs⟩ := DataW.trod_struct Try.underlying30 h2
      match xs, hxl, cs', hlen with
      | [y0, y1, y2, y3, y4, y5, y6], _, [v0, v1, v2, v3, v4, v5, v6], _ =>
        have g0 := hfs 0 _ rfl
        have g1 := hfs 1 _ rfl
        have g2 := hfs 2 _ rfl
        have g3 := hfs 3 _ rfl
        have g4 := hfs 4 _ rfl
        have g5 := hfs 5 _ rfl
        have g6 := hfs 6 _ rfl
        simp [c1, c2, c3, c4, c5] at g0 g1 g2 g3 g4 g5 g6
        have e0 := hcell 0 (by omega)
        have e1 := hcell 1 (by omega)
        have e2 := hcell 2 (by omega)
        have e3 := hcell 3 (by omega)
        have e4 := hcell 4 (by omega)
        have e5 := hcell 5 (by omega)
        have e6 := hcell 6 (by omega)
        rw [Deep.add_add] at e0 e1 e2 e3 e4 e5 e6
        obtain ⟨n0, r0, _⟩ := DataW.trod_int Try.underlying3 g0
        obtain ⟨n1, r1, _⟩ := DataW.trod_int Try.underlying3 g1
        obtain ⟨n2, r2, _, w2⟩ := DataW.trod_int Try.underlying3 g2
        obtain ⟨n3, r3, _, w3⟩ := DataW.trod_int Try.underlying5 g3
        obtain ⟨n4, r4, _, w4⟩ := DataW.trod_int Try.underlying27 g4
        obtain ⟨A5, l5, k5, S5, r5, q1, q2, q3, q4⟩ := bytes_trod g5
        obtain ⟨A6, l6, k6, F6, r6, p1, p2, p3, p4⟩ := acts_trod g6
        simp only [List.cons.injEq, and_true] at r0 r1 r2 r3 r4 r5 r6
        subst r0 r1 r2 r3 r4 r5 r6
        obtain ⟨u1, u2⟩ := au64_of_wf w4
        obtain ⟨u3, u4⟩ := au8_of_wf w3
        exact ⟨⟨n0, n1, n2, n3.toNat, n4.toNat, A5, l5, k5, S5, A6, l6, k6, F6⟩, ⟨(ai64_of_wf w2).2, by simp only []; omega, by simp only []; omega, q1, q2, q3, q4, p1, p2, p3, p4⟩,
          by simpa using e0, by simpa using e1, by simpa using e2, by rw [Int.toNat_of_nonneg u3]; simpa using e3, by rw [Int.toNat_of_nonneg u1]; simpa using e4, by simpa using e5, by simpa using e6⟩
    obtain ⟨q, hq⟩ := Deep.choose_lt each
    refine ⟨some a, len, cap, q, rfl, hl, by unfold maxLen at hm; omega, ?_⟩
    by_cases h0 : len = 0
    · exact Or.inl h0
    · have t := (hq 0 (by omega)).2.1
      obtain ⟨e, hlt⟩ := addr_at (a := a) (by rw [Nat.zero_mul] at t; exact t)
      refine Or.inr ⟨a.block, a.off, by rw [← e], hlt, fun i hi => ?_⟩
      obtain ⟨u, u0, u1, u2, u3, u4, u5, u6⟩ := hq i hi
      rw [e, addr_plus] at u0 u1 u2 u3 u4 u5 u6
      exact ⟨⟨u0, u1, u2, u3, u4, u5, u6⟩, u⟩
end Go.Proofs.Ytbpganholopjfaa
