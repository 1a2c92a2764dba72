/- How an argument that is a slice of calls of a table (structs of four numbers and a row) stands in memory. -/
import Derived.Test.YtbpganholopjfaaPM
import Derived.Test.YtbpganholopjfaaPost
namespace Go.Proofs.Ytbpganholopjfaa
open Go.ChangeShapes Go.WideShapes Go.ChangeAt Go.RowKit

theorem i64_of_wf {n : Int} (h : (Lit.int .i64 n).wf = true) : -9223372036854775808 ≤ n ∧ n ≤ 9223372036854775807 := bounds_i64 h
theorem u8_of_wf {n : Int} (h : (Lit.int .u8 n).wf = true) : 0 ≤ n ∧ n ≤ 255 := by
  simp [Lit.wf, IntKind.min, IntKind.max, IntKind.signed, IntKind.bits] at h
  omega

instance : Inhabited POp := ⟨⟨0, 0, 0, 0, Pg.zero⟩⟩

set_option maxRecDepth 100000 in
theorem pops_arg {H : Type} {enc : TypeId × Value → H} {W : World} {base : Nat} {v : Value} {d : DataW H} {ps : List MemPlace}
    (hval : Value.okWide Try.prog W .any base 65 v) (h : DataW.Trod enc Try.prog W 0 (fun _ => true) true 65 v d ps) :
    ∃ A len cap O, v = .slice A len cap ∧ len ≤ cap ∧ len ≤ 9223372036854775807 ∧ POpsAt W A len O := by
  obtain ⟨a0, len, cap, rfl⟩ := okWide_slice Try.underlying65 hval
  obtain ⟨fuel, hf⟩ := h
  rcases Deep.open_slice Try.underlying65 hf with ⟨hcs, _⟩ | ⟨a, len', cap', m, n, D, Pl, hcs, _, hl, hm, hmm, _, hx⟩
  · simp [Value.cells] at hcs
    obtain ⟨rfl, rfl, rfl⟩ := hcs
    exact ⟨none, 0, 0, fun _ => ⟨0, 0, 0, 0, Pg.zero⟩, rfl, Nat.le_refl _, by omega, Or.inl rfl⟩
  · simp [Value.cells] at hcs
    obtain ⟨rfl, rfl, rfl⟩ := hcs
    have hce : Try.prog.cellsOf 73 = 8 := by kernel_rfl
    have c3 : Try.prog.cellsOf 3 = 1 := by kernel_rfl
    have c4 : Try.prog.cellsOf 71 = 4 := by kernel_rfl
    have each : ∀ i, i < len → ∃ x : POp, x.a ≤ 9223372036854775807 ∧ W.cell? (a.add (i * 8)) = some (.int .i64 x.k) ∧ W.cell? (a.add (i * 8 + 1)) = some (.int .i64 x.a) ∧ W.cell? (a.add (i * 8 + 2)) = some (.int .i64 x.l) ∧ W.cell? (a.add (i * 8 + 3)) = some (.int .i64 x.h) ∧
        W.cell? (a.add (i * 8 + 4)) = some (.int .i64 x.row.k) ∧ W.cell? (a.add (i * 8 + 5)) = some (.int .i64 x.row.c) ∧ W.cell? (a.add (i * 8 + 6)) = some (.int .i64 x.row.o) ∧ W.cell? (a.add (i * 8 + 7)) = some (.int .i64 x.row.r) := by
      intro i hi
      obtain ⟨cs', h1, h2⟩ := hx i (by simp at hmm; omega)
      rw [hce] at h1
      obtain ⟨_, hlen, hcell⟩ := World.cells?_some h1
      obtain ⟨xs, k, hk, hxy, _, hxl, hfs⟩ := DataW.trod_struct Try.underlying73 h2
      match xs, hxl, cs', hlen with
      | [y0, y1, y2, y3, y4], _, [v0, v1, v2, v3, v4, v5, v6, v7], _ =>
        have g0 := hfs 0 _ rfl
        have g1 := hfs 1 _ rfl
        have g2 := hfs 2 _ rfl
        have g3 := hfs 3 _ rfl
        have g4 := hfs 4 _ rfl
        simp [c3, c4] at g0 g1 g2 g3 g4
        obtain ⟨xs2, k2, hk2, hxy2, _, hxl2, hfs2⟩ := DataW.trod_struct Try.underlying71 g4
        match xs2, hxl2 with
        | [z0, z1, z2, z3], _ =>
          have q0 := hfs2 0 _ rfl
          have q1 := hfs2 1 _ rfl
          have q2 := hfs2 2 _ rfl
          have q3 := hfs2 3 _ rfl
          simp [c3] at q0 q1 q2 q3
          have e0 := hcell 0 (by omega)
          have e1 := hcell 1 (by omega)
          have e2 := hcell 2 (by omega)
          have e3 := hcell 3 (by omega)
          have e4 := hcell 4 (by omega)
          have e5 := hcell 5 (by omega)
          have e6 := hcell 6 (by omega)
          have e7 := hcell 7 (by omega)
          rw [Deep.add_add] at e0 e1 e2 e3 e4 e5 e6 e7
          obtain ⟨n0, r0, _⟩ := DataW.trod_int Try.underlying3 g0
          obtain ⟨n1, r1, _, w1⟩ := DataW.trod_int Try.underlying3 g1
          obtain ⟨n2, r2, _⟩ := DataW.trod_int Try.underlying3 g2
          obtain ⟨n3, r3, _⟩ := DataW.trod_int Try.underlying3 g3
          obtain ⟨n4, r4, _⟩ := DataW.trod_int Try.underlying3 q0
          obtain ⟨n5, r5, _⟩ := DataW.trod_int Try.underlying3 q1
          obtain ⟨n6, r6, _⟩ := DataW.trod_int Try.underlying3 q2
          obtain ⟨n7, r7, _⟩ := DataW.trod_int Try.underlying3 q3
          simp only [List.cons.injEq, and_true] at r0 r1 r2 r3 r4 r5 r6 r7
          subst r0 r1 r2 r3 r4 r5 r6 r7
          exact ⟨⟨n0, n1, n2, n3, ⟨n4, n5, n6, n7⟩⟩, (i64_of_wf w1).2, by simpa using e0, by simpa using e1, by simpa using e2, by simpa using e3, by simpa using e4, by simpa using e5, by simpa using e6, by simpa using e7⟩
    obtain ⟨q, hq⟩ := Deep.choose_lt each
    refine ⟨some a, len, cap, q, rfl, hl, by unfold maxLen at hm; omega, ?_⟩
    by_cases h0 : len = 0
    · exact Or.inl h0
    · have t := (hq 0 (by omega)).2.1
      obtain ⟨e, hlt⟩ := addr_at (a := a) (by rw [Nat.zero_mul] at t; exact t)
      refine Or.inr ⟨a.block, a.off, by rw [← e], hlt, fun i hi => ?_⟩
      obtain ⟨u, u0, u1, u2, u3, u4, u5, u6, u7⟩ := hq i hi
      rw [e, addr_plus] at u0 u1 u2 u3 u4 u5 u6 u7
      exact ⟨u0, u1, u2, u3, u4, u5, u6, u7, u⟩
end Go.Proofs.Ytbpganholopjfaa
