/- How an argument that is a slice of the law's calls stands in memory. -/
import Derived.Test.YtgnfcklippjeeaaGreatPost
import Derived.Test.YtgnfcklippjeeaaGreatTB
namespace Go.Proofs.YtgnfcklippjeeaaGreat
open Go.ChangeShapes Go.WideShapes Go.ChangeAt Go.RowKit

theorem slice_cells {A A' : Option Addr} {l c l' c' : Nat} (h : ([.slice A l c] : List Value) = [.slice A' l' c']) : A = A' ∧ l = l' ∧ c = c' := by
  injection h with h _
  injection h with h1 h2 h3
  exact ⟨h1, h2, h3⟩
def ByArg (w : World) (A : Option Addr) (n : Nat) (S : Nat → Nat) : Prop := n = 0 ∨ ∃ b off, A = some ⟨b, off, none⟩ ∧ b < w.heap.size ∧ ∀ i, i < n → w.cell? ⟨b, off + i, none⟩ = some (.int .u8 (S i : Nat))
set_option maxRecDepth 100000 in
theorem bytes_trod {H : Type} {enc : TypeId × Value → H} {W : World} {fuel : Nat} {cs : List Value} {x : DataW H × List MemPlace}
    (h : DataW.trod enc Tryz.prog W 0 (fun _ => true) true fuel 24 cs = some x) :
    ∃ A len cap S, cs = [.slice A len cap] ∧ len ≤ cap ∧ len ≤ 9223372036854775807 ∧ ByArg W A len S ∧ ∀ i, S i < 256 := by
  rcases Deep.open_slice1 Tryz.underlying24 (by kernel_rfl) h with ⟨rfl, _⟩ | ⟨a, len, cap, m, n, V, D, Pl, rfl, _, hl, hm, hmm, _, hx⟩
  · exact ⟨none, 0, 0, fun _ => 0, rfl, Nat.le_refl _, by omega, Or.inl rfl, fun i => by simp⟩
  · have each : ∀ i, i < len → ∃ q : Nat, q < 256 ∧ W.cell? (a.add i) = some (.int .u8 (q : Nat)) := fun i hi => by
      obtain ⟨h1, h2⟩ := hx i (by simp at hmm; omega)
      obtain ⟨n0, r0, _, w0⟩ := DataW.trod_int Tryz.underlying5 h2
      obtain ⟨u1, u2⟩ := u8_of_wf w0
      simp only [List.cons.injEq, and_true] at r0
      exact ⟨n0.toNat, by omega, by rw [h1, r0, Int.toNat_of_nonneg u1]⟩
    obtain ⟨q, hq⟩ := Deep.choose_lt each
    refine ⟨some a, len, cap, fun i => q i % 256, rfl, hl, by unfold maxLen at hm; omega, ?_, fun i => Nat.mod_lt _ (by omega)⟩
    by_cases h0 : len = 0
    · exact Or.inl h0
    · obtain ⟨e, hlt⟩ := addr_at (a := a) (hq 0 (by omega)).2
      refine Or.inr ⟨a.block, a.off, by rw [← e], hlt, fun i hi => ?_⟩
      obtain ⟨u, u0⟩ := hq i hi
      rw [e, addr_plus] at u0
      rw [u0]
      simp only [Nat.mod_eq_of_lt u]
set_option maxRecDepth 100000 in
theorem bytes_arg {H : Type} {enc : TypeId × Value → H} {W : World} {base : Nat} {v : Value} {d : DataW H} {ps : List MemPlace}
    (hval : Value.okWide Tryz.prog W .any base 24 v) (h : DataW.Trod enc Tryz.prog W 0 (fun _ => true) true 24 v d ps) :
    ∃ A len cap S, v = .slice A len cap ∧ len ≤ cap ∧ len ≤ 9223372036854775807 ∧ ByArg W A len S ∧ ∀ i, S i < 256 := by
  obtain ⟨a0, len, cap, rfl⟩ := okWide_slice Tryz.underlying24 hval
  obtain ⟨fuel, hf⟩ := h
  obtain ⟨A, l, c, S, e, k⟩ := bytes_trod hf
  simp only [Value.cells] at e
  obtain ⟨rfl, rfl, rfl⟩ := slice_cells e
  exact ⟨_, _, _, S, rfl, k⟩
set_option maxRecDepth 100000 in
theorem lops_arg {H : Type} {enc : TypeId × Value → H} {W : World} {base : Nat} {v : Value} {d : DataW H} {ps : List MemPlace}
    (hval : Value.okWide Tryz.prog W .any base 23 v) (h : DataW.Trod enc Tryz.prog W 0 (fun _ => true) true 23 v d ps) :
    ∃ A len cap O, v = .slice A len cap ∧ len ≤ cap ∧ len ≤ 9223372036854775807 ∧ LopsAt W A len O := by
  obtain ⟨a0, len, cap, rfl⟩ := okWide_slice Tryz.underlying23 hval
  obtain ⟨fuel, hf⟩ := h
  rcases Deep.open_slice Tryz.underlying23 hf with ⟨hcs, _⟩ | ⟨a, len', cap', m, n, D, Pl, hcs, _, hl, hm, hmm, _, hx⟩
  · simp only [Value.cells] at hcs
    obtain ⟨rfl, rfl, rfl⟩ := slice_cells hcs
    exact ⟨none, 0, 0, fun _ => default, rfl, Nat.le_refl _, by omega, Or.inl rfl⟩
  · simp only [Value.cells] at hcs
    obtain ⟨rfl, rfl, rfl⟩ := slice_cells hcs
    have hce : Tryz.prog.cellsOf 28 = 8 := by kernel_rfl
    have c1 : Tryz.prog.cellsOf 3 = 1 := by kernel_rfl
    have c2 : Tryz.prog.cellsOf 4 = 1 := by kernel_rfl
    have c3 : Tryz.prog.cellsOf 24 = 1 := by kernel_rfl
    have each : ∀ i, i < len → ∃ t : Lop, LRows W t ∧ W.cell? (a.add (i * 8)) = some (.int .i64 t.k) ∧ W.cell? (a.add (i * 8 + 1)) = some (.int .i64 t.c) ∧ W.cell? (a.add (i * 8 + 2)) = some (.int .i64 t.o) ∧ W.cell? (a.add (i * 8 + 3)) = some (.int .i64 t.p) ∧
        W.cell? (a.add (i * 8 + 4)) = some (.int .i64 t.a) ∧ W.cell? (a.add (i * 8 + 5)) = some (.int .i64 t.n) ∧ W.cell? (a.add (i * 8 + 6)) = some (.bool t.b) ∧ W.cell? (a.add (i * 8 + 7)) = some (.slice t.bA t.bl t.bc) := by
      intro i hi
      obtain ⟨cs', h1, h2⟩ := hx i (by simp at hmm; omega)
      rw [hce] at h1
      obtain ⟨_, hlen, hcell⟩ := World.cells?_some h1
      obtain ⟨xs, k, hk, hxy, _, hxl, hfs⟩ := DataW.trod_struct Tryz.underlying28 h2
      match xs, hxl, cs', hlen with
      | [y0, y1, y2, y3, y4, y5, y6, y7], _, [v0, v1, v2, v3, v4, v5, v6, v7], _ =>
        have g0 := hfs 0 _ rfl
        have g1 := hfs 1 _ rfl
        have g2 := hfs 2 _ rfl
        have g3 := hfs 3 _ rfl
        have g4 := hfs 4 _ rfl
        have g5 := hfs 5 _ rfl
        have g6 := hfs 6 _ rfl
        have g7 := hfs 7 _ rfl
        simp [c1, c2, c3] at g0 g1 g2 g3 g4 g5 g6 g7
        have e0 := hcell 0 (by omega)
        have e1 := hcell 1 (by omega)
        have e2 := hcell 2 (by omega)
        have e3 := hcell 3 (by omega)
        have e4 := hcell 4 (by omega)
        have e5 := hcell 5 (by omega)
        have e6 := hcell 6 (by omega)
        have e7 := hcell 7 (by omega)
        rw [Deep.add_add] at e0 e1 e2 e3 e4 e5 e6 e7
        obtain ⟨n0, r0, _⟩ := DataW.trod_int Tryz.underlying3 g0
        obtain ⟨n1, r1, _⟩ := DataW.trod_int Tryz.underlying3 g1
        obtain ⟨n2, r2, _⟩ := DataW.trod_int Tryz.underlying3 g2
        obtain ⟨n3, r3, _, w3⟩ := DataW.trod_int Tryz.underlying3 g3
        obtain ⟨n4, r4, _⟩ := DataW.trod_int Tryz.underlying3 g4
        obtain ⟨n5, r5, _⟩ := DataW.trod_int Tryz.underlying3 g5
        obtain ⟨n6, r6, _⟩ := DataW.trod_bool Tryz.underlying4 g6
        obtain ⟨A7, l7, k7, S7, r7, q1, q2, q3, q4⟩ := bytes_trod g7
        simp only [List.cons.injEq, and_true] at r0 r1 r2 r3 r4 r5 r6 r7
        subst r0 r1 r2 r3 r4 r5 r6 r7
        exact ⟨⟨n0, n1, n2, n3, n4, n5, n6, A7, l7, k7, S7⟩, ⟨i64_of_wf w3, q1, q2, q3, q4⟩,
          by simpa using e0, by simpa using e1, by simpa using e2, by simpa using e3, by simpa using e4, by simpa using e5, by simpa using e6, by simpa using e7⟩
    obtain ⟨q, hq⟩ := Deep.choose_lt each
    refine ⟨some a, len, cap, q, rfl, hl, by unfold maxLen at hm; omega, ?_⟩
    by_cases h0 : len = 0
    · exact Or.inl h0
    · have t := (hq 0 (by omega)).2.1
      obtain ⟨e, hlt⟩ := addr_at (a := a) (by rw [Nat.zero_mul] at t; exact t)
      refine Or.inr ⟨a.block, a.off, by rw [← e], hlt, fun i hi => ?_⟩
      obtain ⟨u, u0, u1, u2, u3, u4, u5, u6, u7⟩ := hq i hi
      rw [e, addr_plus] at u0 u1 u2 u3 u4 u5 u6 u7
      exact ⟨⟨u0, u1, u2, u3, u4, u5, u6, u7⟩, u⟩
end Go.Proofs.YtgnfcklippjeeaaGreat
