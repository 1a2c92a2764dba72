/- How a list of a mail's calls stands in memory. -/
import Derived.Test.YtldpljfanlhooaaPost
import Derived.Test.YtldpljfanlhooaaAr
import Derived.Test.YtldpljfanlhooaaMa
namespace Go.Proofs.Ytldpljfanlhooaa
open Go.ChangeShapes Go.WideShapes Go.ChangeAt Go.RowKit

/-- A call of the law. -/
structure Cl12 where
  k : Int
  f : Int
  t : Int
  a : Int
instance : Inhabited Cl12 := ⟨⟨0, 0, 0, 0⟩⟩
def Calls12 (w : World) (A : Option Addr) (n : Nat) (O : Nat → Cl12) : Prop := n = 0 ∨ ∃ b off, A = some ⟨b, off, none⟩ ∧ b < w.heap.size ∧ ∀ i, i < n → w.cell? ⟨b, off + i * 4, none⟩ = some (.int .i64 (O i).k) ∧ w.cell? ⟨b, off + i * 4 + 1, none⟩ = some (.int .i64 (O i).f) ∧ w.cell? ⟨b, off + i * 4 + 2, none⟩ = some (.int .i64 (O i).t) ∧ w.cell? ⟨b, off + i * 4 + 3, none⟩ = some (.int .i64 (O i).a) ∧ WF (O i).f ∧ WF (O i).t
set_option maxRecDepth 100000 in
theorem calls12_arg {H : Type} {enc : TypeId × Value → H} {W : World} {base : Nat} {v : Value} {d : DataW H} {ps : List MemPlace}
    (hval : Value.okWide Try.prog W .any base 41 v) (h : DataW.Trod enc Try.prog W 0 (fun _ => true) true 41 v d ps) :
    ∃ A len cap O, v = .slice A len cap ∧ len ≤ cap ∧ len ≤ 9223372036854775807 ∧ Calls12 W A len O := by
  obtain ⟨a0, len, cap, rfl⟩ := okWide_slice Try.underlying41 hval
  obtain ⟨fuel, hf⟩ := h
  rcases Deep.open_slice Try.underlying41 hf with ⟨hcs, _⟩ | ⟨a, len', cap', m, n, D, Pl, hcs, _, hl, hm, hmm, _, hx⟩
  · simp only [Value.cells] at hcs
    obtain ⟨rfl, rfl, rfl⟩ := slice_cells hcs
    exact ⟨none, 0, 0, fun _ => default, rfl, Nat.le_refl _, by omega, Or.inl rfl⟩
  · simp only [Value.cells] at hcs
    obtain ⟨rfl, rfl, rfl⟩ := slice_cells hcs
    have hce : Try.prog.cellsOf 47 = 4 := by kernel_rfl
    have c1 : Try.prog.cellsOf 3 = 1 := by kernel_rfl
    have each : ∀ i, i < len → ∃ t : Cl12, W.cell? (a.add (i * 4)) = some (.int .i64 t.k) ∧ W.cell? (a.add (i * 4 + 1)) = some (.int .i64 t.f) ∧ W.cell? (a.add (i * 4 + 2)) = some (.int .i64 t.t) ∧ W.cell? (a.add (i * 4 + 3)) = some (.int .i64 t.a) ∧ WF t.f ∧ WF t.t := by
      intro i hi
      obtain ⟨cs', h1, h2⟩ := hx i (by simp at hmm; omega)
      rw [hce] at h1
      obtain ⟨_, hlen, hcell⟩ := World.cells?_some h1
      obtain ⟨xs, k, hk, hxy, _, hxl, hfs⟩ := DataW.trod_struct Try.underlying47 h2
      match xs, hxl, cs', hlen with
      | [y0, y1, y2, y3], _, [v0, v1, v2, v3], _ =>
        have g0 := hfs 0 _ rfl
        have g1 := hfs 1 _ rfl
        have g2 := hfs 2 _ rfl
        have g3 := hfs 3 _ rfl
        simp [c1] at g0 g1 g2 g3
        have e0 := hcell 0 (by omega)
        have e1 := hcell 1 (by omega)
        have e2 := hcell 2 (by omega)
        have e3 := hcell 3 (by omega)
        rw [Deep.add_add] at e0 e1 e2 e3
        obtain ⟨n0, r0, _⟩ := DataW.trod_int Try.underlying3 g0
        obtain ⟨n1, r1, _, z1⟩ := DataW.trod_int Try.underlying3 g1
        obtain ⟨n2, r2, _, z2⟩ := DataW.trod_int Try.underlying3 g2
        obtain ⟨n3, r3, _⟩ := DataW.trod_int Try.underlying3 g3
        simp only [List.cons.injEq, and_true] at r0 r1 r2 r3
        subst r0 r1 r2 r3
        exact ⟨⟨n0, n1, n2, n3⟩, by simpa using e0, by simpa using e1, by simpa using e2, by simpa using e3, i64_of_wf z1, i64_of_wf z2⟩
    obtain ⟨q, hq⟩ := Deep.choose_lt each
    refine ⟨some a, len, cap, q, rfl, hl, by unfold maxLen at hm; omega, ?_⟩
    by_cases h0 : len = 0
    · exact Or.inl h0
    · have t := (hq 0 (by omega)).1
      obtain ⟨e, hlt⟩ := addr_at (a := a) (by rw [Nat.zero_mul] at t; exact t)
      refine Or.inr ⟨a.block, a.off, by rw [← e], hlt, fun i hi => ?_⟩
      obtain ⟨u0, u1, u2, u3, u4, u5⟩ := hq i hi
      rw [e, addr_plus] at u0 u1 u2 u3
      exact ⟨u0, u1, u2, u3, u4, u5⟩
end Go.Proofs.Ytldpljfanlhooaa
