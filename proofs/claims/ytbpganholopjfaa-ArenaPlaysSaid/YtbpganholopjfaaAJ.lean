/- The deferred end of a Do. -/
import Derived.Test.YtbpganholopjfaaAI
import Derived.Defers
import Derived.Recover
import Derived.LaidEql
import Derived.BigQuiet
import Derived.StillTailTactics
namespace Go.Proofs.Ytbpganholopjfaa
open Go.RowKit

theorem wpS_rest {P : Program} {fn : Func} {c : Code} {c₀ : Frame} {cs : List Frame} {R : Ending → FrameMode → World → Prop} {a : Go.Act} {w : World} {m : FrameMode} (h : c.wp P (bodyPost P fn (fun e w' => R e m w')) a w) : c.wpS P (bodyPostS P fn c₀ cs R) a ({ c₀ with mode := m } :: cs) w := by
  refine wpS_of_wp (Code.wp_mono (fun e a' w' h => ?_) h)
  cases e with
  | normal => obtain ⟨hd, v, hr, hR⟩ := h; exact ⟨hd, m, rfl, v, hr, hR⟩
  | ret => obtain ⟨hd, v, hr, hR⟩ := h; exact ⟨hd, m, rfl, v, hr, hR⟩
  | panic ch => obtain ⟨hd, hR⟩ := h; exact ⟨hd, m, rfl, hR⟩
  | exit id => exact h.elim
  | goto l => exact h.elim
  | outgrown => exact ⟨m, h⟩

theorem ptr_eqIn (d u : Nat) (w : World) : (Op.equalIn (d + 1) 92 (.pointer (some ⟨u, 0, none⟩)) (.pointer (some ⟨u, 0, none⟩))).run Try.prog w = .ok true w := by
  have hi : Try.prog.underlying 20 = some (.interface #[]) := by kernel_rfl
  have hs : Try.prog.underlying 103 = some (.struct #[{ name := "work", type := 92, offset := 0, embedded := false, tag := "", pkgPath := "tumbrel/arena", byteOffset := 0 }]) := by kernel_rfl
  have hp : Try.prog.underlying 92 = some (.pointer 101) := by kernel_rfl
  have hst : Try.prog.stoodInHeld 103 = false := by kernel_rfl
  have hc : (Try.prog.info? 103).map (fun i => i.comparable) = some true := by kernel_rfl
  have hz : (Try.prog.info? 101).map (fun i => i.size) = some 5 := by kernel_rfl
  have hz2 : (Try.prog.info? 92).map (fun i => i.size) = some 1 := by kernel_rfl
  obtain ⟨i, h1, h2⟩ := Option.map_eq_some_iff.1 hc
  obtain ⟨j, h3, h4⟩ := Option.map_eq_some_iff.1 hz
  obtain ⟨k, h5, h6⟩ := Option.map_eq_some_iff.1 hz2
  simp [Op.equalIn, run_underlying hp, typeInfo, sizeOf, h3, run_sameAddr_same]
theorem part_is (u : Nat) (w : World) : (part 92 #[.pointer (some ⟨u, 0, none⟩)] 0).run Try.prog w = .ok (.pointer (some ⟨u, 0, none⟩)) w := by
  have hi : Try.prog.underlying 20 = some (.interface #[]) := by kernel_rfl
  have hs : Try.prog.underlying 103 = some (.struct #[{ name := "work", type := 92, offset := 0, embedded := false, tag := "", pkgPath := "tumbrel/arena", byteOffset := 0 }]) := by kernel_rfl
  have hp : Try.prog.underlying 92 = some (.pointer 101) := by kernel_rfl
  have hst : Try.prog.stoodInHeld 103 = false := by kernel_rfl
  have hc : (Try.prog.info? 103).map (fun i => i.comparable) = some true := by kernel_rfl
  have hz : (Try.prog.info? 101).map (fun i => i.size) = some 5 := by kernel_rfl
  have hz2 : (Try.prog.info? 92).map (fun i => i.size) = some 1 := by kernel_rfl
  obtain ⟨i, h1, h2⟩ := Option.map_eq_some_iff.1 hc
  obtain ⟨j, h3, h4⟩ := Option.map_eq_some_iff.1 hz
  obtain ⟨k, h5, h6⟩ := Option.map_eq_some_iff.1 hz2
  simp [part, isAgg, run_underlying hp]
theorem st_eqIn (d u : Nat) (w : World) : (Op.equalIn (d + 1 + 1) 103 (.agg #[.pointer (some ⟨u, 0, none⟩)]) (.agg #[.pointer (some ⟨u, 0, none⟩)])).run Try.prog w = .ok true w := by
  have hi : Try.prog.underlying 20 = some (.interface #[]) := by kernel_rfl
  have hs : Try.prog.underlying 103 = some (.struct #[{ name := "work", type := 92, offset := 0, embedded := false, tag := "", pkgPath := "tumbrel/arena", byteOffset := 0 }]) := by kernel_rfl
  have hp : Try.prog.underlying 92 = some (.pointer 101) := by kernel_rfl
  have hst : Try.prog.stoodInHeld 103 = false := by kernel_rfl
  have hc : (Try.prog.info? 103).map (fun i => i.comparable) = some true := by kernel_rfl
  have hz : (Try.prog.info? 101).map (fun i => i.size) = some 5 := by kernel_rfl
  have hz2 : (Try.prog.info? 92).map (fun i => i.size) = some 1 := by kernel_rfl
  obtain ⟨i, h1, h2⟩ := Option.map_eq_some_iff.1 hc
  obtain ⟨j, h3, h4⟩ := Option.map_eq_some_iff.1 hz
  obtain ⟨k, h5, h6⟩ := Option.map_eq_some_iff.1 hz2
  have e := fun w => ptr_eqIn d u w
  have e2 := fun w => part_is u w
  generalize hX : Op.equalIn (d + 1) = X at e
  rw [Op.equalIn, hX]
  simp [run_underlying hs, hst, e, e2]
theorem if_eqIn (d u : Nat) (w : World) : (Op.equalIn (d + 1 + 1 + 1) 20 (.iface 103 (.agg #[.pointer (some ⟨u, 0, none⟩)])) (.iface 103 (.agg #[.pointer (some ⟨u, 0, none⟩)]))).run Try.prog w = .ok true w := by
  have hi : Try.prog.underlying 20 = some (.interface #[]) := by kernel_rfl
  have hs : Try.prog.underlying 103 = some (.struct #[{ name := "work", type := 92, offset := 0, embedded := false, tag := "", pkgPath := "tumbrel/arena", byteOffset := 0 }]) := by kernel_rfl
  have hp : Try.prog.underlying 92 = some (.pointer 101) := by kernel_rfl
  have hst : Try.prog.stoodInHeld 103 = false := by kernel_rfl
  have hc : (Try.prog.info? 103).map (fun i => i.comparable) = some true := by kernel_rfl
  have hz : (Try.prog.info? 101).map (fun i => i.size) = some 5 := by kernel_rfl
  have hz2 : (Try.prog.info? 92).map (fun i => i.size) = some 1 := by kernel_rfl
  obtain ⟨i, h1, h2⟩ := Option.map_eq_some_iff.1 hc
  obtain ⟨j, h3, h4⟩ := Option.map_eq_some_iff.1 hz
  obtain ⟨k, h5, h6⟩ := Option.map_eq_some_iff.1 hz2
  have e := fun w => st_eqIn d u w
  generalize hX : Op.equalIn (d + 1 + 1) = X at e
  rw [Op.equalIn, hX]
  simp [run_underlying hi, typeInfo, h1, h2, e]
theorem stop_neq (u : Nat) (w : World) : (binOp .neq 20 (.iface 103 (.agg #[.pointer (some ⟨u, 0, none⟩)])) (.iface 103 (.agg #[.pointer (some ⟨u, 0, none⟩)]))).run Try.prog w = .ok (.bool false) w := by
  have e : (Op.equal 20 (.iface 103 (.agg #[.pointer (some ⟨u, 0, none⟩)])) (.iface 103 (.agg #[.pointer (some ⟨u, 0, none⟩)]))).run Try.prog w = .ok true w := if_eqIn 9997 u w
  simp only [binOp]
  simp [e]

/-- What a Do has left behind its end. -/
structure DoEnd (w w' : World) (p q u c4 c5 N cap : Nat) (B : Nat → Nat) (rt : Nat) (fl : Int) : Prop where
  ar : ArAt w' p q N cap B none
  u0 : w'.cell? ⟨u, 0, none⟩ = some (.pointer none)
  r : w'.cell? ⟨c4, 0, none⟩ = some (.int .i64 rt)
  e : w'.cell? ⟨c5, 0, none⟩ = some (.int .i64 fl)
  fr : Fr (fun i => i = p ∨ i = q ∨ i = u ∨ i = c4 ∨ i = c5) w w'

/-- The variables of a Do that its end sees. -/
structure DoVars (w : World) (p q u c6 c7 c4 c5 : Nat) (came : Bool) : Prop where
  v6 : w.cell? ⟨c6, 0, none⟩ = some (.pointer (some ⟨u, 0, none⟩))
  v7 : w.cell? ⟨c7, 0, none⟩ = some (.bool came)
  v4 : ∃ r : Int, w.cell? ⟨c4, 0, none⟩ = some (.int .i64 r)
  v5 : ∃ r : Int, w.cell? ⟨c5, 0, none⟩ = some (.int .i64 r)
  z4 : w.frozen? ⟨c4, 0, none⟩ = false
  z5 : w.frozen? ⟨c5, 0, none⟩ = false
  n6 : c6 ≠ p ∧ c6 ≠ q ∧ c6 ≠ u ∧ c6 ≠ c4 ∧ c6 ≠ c5
  n7 : c7 ≠ p ∧ c7 ≠ q ∧ c7 ≠ u
  n4 : c4 ≠ p ∧ c4 ≠ q ∧ c4 ≠ u ∧ c4 ≠ c5
  n5 : c5 ≠ p ∧ c5 ≠ q ∧ c5 ≠ u

theorem no3 {i p q u a b : Nat} (h : i ≠ p ∧ i ≠ q ∧ i ≠ u ∧ i ≠ a ∧ i ≠ b) : ¬ (i = p ∨ i = q ∨ i = u) := by rintro (e | e | e); exact h.1 e; exact h.2.1 e; exact h.2.2.1 e
theorem no4 {i p q u a : Nat} (h : i ≠ p ∧ i ≠ q ∧ i ≠ u ∧ i ≠ a) : ¬ (i = p ∨ i = q ∨ i = u) := by rintro (e | e | e); exact h.1 e; exact h.2.1 e; exact h.2.2.1 e
theorem no3' {i p q u : Nat} (h : i ≠ p ∧ i ≠ q ∧ i ≠ u) : ¬ (i = p ∨ i = q ∨ i = u) := by rintro (e | e | e); exact h.1 e; exact h.2.1 e; exact h.2.2 e

/-- The world behind the end of a Do. -/
def doW (w : World) (c4 c5 rt : Nat) (fl : Int) : World := ((w.setCell ⟨c4, 0, none⟩ (.int .i64 rt)).setCell ⟨c5, 0, none⟩ (.int .i64 fl)).drew
theorem do1_done {w w1 : World} {p q u N cap c6 c7 c4 c5 rt : Nat} {B : Nat → Nat} {fl : Int} {came : Bool} (h : EndRes w.drew w1 p q u N cap B rt fl) (hv : DoVars w p q u c6 c7 c4 c5 came) : DoEnd w (doW w1 c4 c5 rt fl) p q u c4 c5 N cap B rt fl := by
  obtain ⟨n4p, n4q, n4u, n45⟩ := hv.n4
  obtain ⟨n5p, n5q, n5u⟩ := hv.n5
  obtain ⟨r4, x4⟩ := hv.v4
  obtain ⟨r5, x5⟩ := hv.v5
  have y4 : w1.cell? ⟨c4, 0, none⟩ = some (.int .i64 r4) := h.fr.cell x4 (by rintro (e | e | e); exact n4p e; exact n4q e; exact n4u e)
  have y5 : w1.cell? ⟨c5, 0, none⟩ = some (.int .i64 r5) := h.fr.cell x5 (by rintro (e | e | e); exact n5p e; exact n5q e; exact n5u e)
  have g0 : Fr (fun i => i = c4 ∨ i = c5) w1 ((w1.setCell ⟨c4, 0, none⟩ (.int .i64 rt)).setCell ⟨c5, 0, none⟩ (.int .i64 fl)) := (((fr_set w1 c4 0 (.int .i64 rt)).trans (fr_set _ c5 0 (.int .i64 fl)) (fun _ _ x => .inl x) (fun _ _ x => .inr x)) : Fr (fun i => i = c4 ∨ i = c5) _ _)
  have g : Fr (fun i => i = c4 ∨ i = c5) w1 (doW w1 c4 c5 rt fl) := ⟨g0.os, g0.tape, g0.output, g0.size, g0.block⟩
  have hp : ¬ (p = c4 ∨ p = c5) := by rintro (e | e); exact n4p e.symm; exact n5p e.symm
  have hq : ¬ (q = c4 ∨ q = c5) := by rintro (e | e); exact n4q e.symm; exact n5q e.symm
  have hu : ¬ (u = c4 ∨ u = c5) := by rintro (e | e); exact n4u e.symm; exact n5u e.symm
  refine ⟨⟨g.cell h.ar.c0 hp, g.cell h.ar.c1 hp, fun k => by rw [g.frozen h.ar.plt hp]; exact h.ar.fz k, h.ar.b.fr g hq, h.ar.ne, h.ar.hcap, h.ar.small, h.ar.page, h.ar.lt⟩, g.cell h.k0 hu, ?_, ?_, ?_⟩
  · unfold doW
    rw [World.cell?_drew, World.cell?_setCell_other _ _ _ _ (fun e => n45 (congrArg Addr.block e).symm)]
    exact World.cell?_setCell_same' _ _ _ (by rw [y4]; rfl)
  · unfold doW
    rw [World.cell?_drew]
    exact World.cell?_setCell_same' _ _ _ (by rw [World.cell?_setCell_other _ _ _ _ (fun e => n45 (congrArg Addr.block e)), y5]; rfl)
  · have f0 : Fr (fun i => i = p ∨ i = q ∨ i = u) w w1 := ⟨h.fr.os, h.fr.tape, h.fr.output, h.fr.size, h.fr.block⟩
    exact f0.trans g (fun i _ x => by rcases x with x | x | x <;> simp [x]) (fun i _ x => by rcases x with x | x <;> simp [x])

set_option maxRecDepth 100000 in
set_option maxHeartbeats 2000000 in
theorem do1_idle {w : World} {p q u mb N cap c6 c7 c4 c5 : Nat} {B B0 : Nat → Nat} {D : DataW Unit} {cnt rt : Nat} (h : DoSt w p q u mb N cap B B0 D cnt rt 0) (hv : DoVars w p q u c6 c7 c4 c5 true) :
    CallsD Try.prog 59 #[.pointer (some ⟨c6, 0, none⟩), .pointer (some ⟨c7, 0, none⟩), .pointer (some ⟨c4, 0, none⟩), .pointer (some ⟨c5, 0, none⟩)] .returning w fun e u' w' => e = .returned (.tuple #[]) ∧ u' = .returning ∧ DoEnd w w' p q u c4 c5 N cap B rt 0 := by
  refine callsD_of_wpS Try.func59 rfl fun c₀ cs hu => ?_
  apply wpS_seq
  apply wpS_region
  simp [wpOpsS, go_sem, recoverD, hu, Try.ntmps59, Exit.thenS]
  obtain ⟨c₁, rfl⟩ : ∃ c₁ : Frame, c₀ = { c₁ with mode := .returning } := ⟨c₀, by cases c₀; cases hu; rfl⟩
  refine wpS_rest ?_
  simp only [Array.replicate_succ, Array.replicate_zero, List.push_toArray, List.append_toArray, List.nil_append, List.cons_append, List.setIfInBounds_toArray, List.set_cons_succ, List.set_cons_zero]
  clear hu
  have HE := Lib.hid (fun W (g : w.grownBy W none) => end_true (h.grown g))
  have x6 := hv.v6
  have x7 := hv.v7
  have k3 := h.k3
  have hgr := grown_refl w none
  have HV := Lib.hid hv
  have H := Lib.hid h
  clear h hv
  go_upto_region 1 with (fail)
  go_region_held3 (fun w' => w'.cell? ⟨c6, 0, none⟩ = some (.pointer (some ⟨u, 0, none⟩)) ∧ w'.cell? ⟨c7, 0, none⟩ = some (.bool true) ∧ w'.cell? ⟨u, 3, none⟩ = some (.int .i64 0))
    (first | exact ⟨x6, x7, k3⟩ | exact ⟨hr.fr.cell x6 (no3 HV.out.n6), hr.fr.cell x7 (no3' HV.out.n7), hr.k3⟩)
    (first
    | (go_at_call 60; refine (HE.out _ (grown_drew1 hgr)).mono ?_; rintro e w1 ⟨rfl, hr⟩))
  have HD : Hid (DoEnd w (doW w1 c4 c5 rt 0) p q u c4 c5 N cap B rt 0) := Lib.hid (do1_done hr HV.out)
  have y6 : w1.cell? ⟨c6, 0, none⟩ = some (.pointer (some ⟨u, 0, none⟩)) := hr.fr.cell x6 (no3 HV.out.n6)
  have y2 := hr.k2
  have y3 := hr.k3
  obtain ⟨r4, x4⟩ := HV.out.v4
  obtain ⟨r5, x5⟩ := HV.out.v5
  have y4 : w1.cell? ⟨c4, 0, none⟩ = some (.int .i64 r4) := hr.fr.cell x4 (no4 HV.out.n4)
  have y5 : w1.cell? ⟨c5, 0, none⟩ = some (.int .i64 r5) := hr.fr.cell x5 (no3' HV.out.n5)
  have z4 : w1.frozen? ⟨c4, 0, none⟩ = false := by rw [hr.fr.frozen (w.block_lt_of_cell? ⟨c4, 0, none⟩ x4) (no4 HV.out.n4)]; exact HV.out.z4
  have z5 : w1.frozen? ⟨c5, 0, none⟩ = false := by rw [hr.fr.frozen (w.block_lt_of_cell? ⟨c5, 0, none⟩ x5) (no3' HV.out.n5)]; exact HV.out.z5
  rename_i hHeld
  obtain ⟨-, -, -, n45⟩ := HV.out.n4
  have n54 := Ne.symm n45
  clear hHeld hr x6 x7 k3 hgr HE x4 x5
  go_upto_region 4 with (fail)
  go_region
  all_goals
    go_wp2
    go_end0
    exact ⟨rfl, by trivial, HD.out⟩

set_option maxRecDepth 100000 in
set_option maxHeartbeats 2000000 in
theorem do1_stop {w : World} {p q u mb N cap c6 c7 c4 c5 : Nat} {B B0 : Nat → Nat} {D : DataW Unit} {cnt rt : Nat} {fl : Int} (h : DoSt w p q u mb N cap B B0 D cnt rt fl) (hv : DoVars w p q u c6 c7 c4 c5 false) :
    CallsD Try.prog 59 #[.pointer (some ⟨c6, 0, none⟩), .pointer (some ⟨c7, 0, none⟩), .pointer (some ⟨c4, 0, none⟩), .pointer (some ⟨c5, 0, none⟩)] (.panicking (stopOf u)) w fun e u' w' => e = .returned (.tuple #[]) ∧ u' = .panicking [{ v := .iface 103 (.agg #[.pointer (some ⟨u, 0, none⟩)]), recovered := true }] ∧ DoEnd w w' p q u c4 c5 N cap B0 rt fl := by
  refine callsD_of_wpS Try.func59 rfl fun c₀ cs hu => ?_
  apply wpS_seq
  apply wpS_region
  simp [wpOpsS, go_sem, recoverD, hu, stopOf, Try.ntmps59, Exit.thenS]
  obtain ⟨c₁, rfl⟩ : ∃ c₁ : Frame, c₀ = { c₁ with mode := .panicking (stopOf u) } := ⟨c₀, by cases c₀; simp at hu; subst hu; rfl⟩
  refine wpS_rest ?_
  simp only [Array.replicate_succ, Array.replicate_zero, List.push_toArray, List.append_toArray, List.nil_append, List.cons_append, List.setIfInBounds_toArray, List.set_cons_succ, List.set_cons_zero]
  clear hu
  have HE := Lib.hid (fun W (g : w.grownBy W none) => end_false (h.grown g))
  have x6 := hv.v6
  have x7 := hv.v7
  have hneq := stop_neq u
  have hgr := grown_refl w none
  have HV := Lib.hid hv
  have H := Lib.hid h
  clear h hv
  go_upto_region 1 with (fail)
  go_still_tail 9, (by kernel_rfl)
  change wpList _ _ _ _ _ w.drew
  go_wp2_with fail
  refine (HE.out _ (grown_drew1 hgr)).mono ?_
  rintro e w1 ⟨rfl, hr⟩
  have HD : Hid (DoEnd w (doW w1 c4 c5 rt fl) p q u c4 c5 N cap B0 rt fl) := Lib.hid (do1_done hr HV.out)
  have y6 : w1.cell? ⟨c6, 0, none⟩ = some (.pointer (some ⟨u, 0, none⟩)) := hr.fr.cell x6 (no3 HV.out.n6)
  have y2 := hr.k2
  have y3 := hr.k3
  obtain ⟨r4, x4⟩ := HV.out.v4
  obtain ⟨r5, x5⟩ := HV.out.v5
  have y4 : w1.cell? ⟨c4, 0, none⟩ = some (.int .i64 r4) := hr.fr.cell x4 (no4 HV.out.n4)
  have y5 : w1.cell? ⟨c5, 0, none⟩ = some (.int .i64 r5) := hr.fr.cell x5 (no3' HV.out.n5)
  have z4 : w1.frozen? ⟨c4, 0, none⟩ = false := by rw [hr.fr.frozen (w.block_lt_of_cell? ⟨c4, 0, none⟩ x4) (no4 HV.out.n4)]; exact HV.out.z4
  have z5 : w1.frozen? ⟨c5, 0, none⟩ = false := by rw [hr.fr.frozen (w.block_lt_of_cell? ⟨c5, 0, none⟩ x5) (no3' HV.out.n5)]; exact HV.out.z5
  obtain ⟨-, -, -, n45⟩ := HV.out.n4
  have n54 := Ne.symm n45
  clear hr x6 x7 hgr HE x4 x5
  go_upto_region 4 with (fail)
  go_region
  all_goals
    go_wp2
    go_end0
    exact ⟨rfl, by trivial, HD.out⟩
end Go.Proofs.Ytbpganholopjfaa
