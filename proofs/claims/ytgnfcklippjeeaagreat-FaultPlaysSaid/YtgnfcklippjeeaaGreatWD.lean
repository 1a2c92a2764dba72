/- The code's Note, Reports; all that the law of both ledgers carries. -/
import Derived.Test.YtgnfcklippjeeaaGreatSO
import Derived.Test.YtgnfcklippjeeaaGreatPE
import Derived.Maps.AppendAt
import Derived.Laws.AppendOwnNone
import Derived.Lib.SliceRun
namespace Go.Proofs.YtgnfcklippjeeaaGreat
open Go.RowKit
open Sl (Cls bs upd LnkIs)
open Lg (pgs)

theorem infoReport : (Tryz.prog.info? 89).map (fun i => (i.zero, i.size, i.bytes)) = some (some (.agg #[.int .i64 0, .int .i64 0, .int .i64 0]), 3, 24) := by kernel_rfl
theorem three_cells (w : World) (a b c : Value) (t : TypeId) (j : Nat) (u : Value) (h : ([a, b, c] : List Value)[j]? = some u) : (w.alloc (.cells #[a, b, c] t)).cell? ((⟨w.heap.size, 0, none⟩ : Addr).add j) = some u := by
  rw [An.aaddr_add, cell_alloc_new]
  simpa using h
theorem rcell3_one (r : Rep) : rcell3 [r] = [.int .i64 r.t, .int .i64 r.a, .int .i64 r.f] := rfl
theorem rcell3_cell : ∀ (l : List Rep), ∀ u ∈ rcell3 l, u.oneCell' = true
  | [], u, h => by simp [rcell3] at h
  | p :: l, u, h => by
    simp only [rcell3, List.mem_cons] at h
    rcases h with rfl | rfl | rfl | h
    any_goals rfl
    exact rcell3_cell l u h
theorem rcell3_at : ∀ (l : List Rep) (i : Nat) (h : i < l.length), (rcell3 l)[i * 3]? = some (.int .i64 l[i].t) ∧ (rcell3 l)[i * 3 + 1]? = some (.int .i64 l[i].a) ∧ (rcell3 l)[i * 3 + 2]? = some (.int .i64 l[i].f)
  | b :: l, 0, _ => ⟨rfl, rfl, rfl⟩
  | b :: l, i + 1, h => by
    have h' : i < l.length := by simpa using h
    have := rcell3_at l i h'
    rw [show (i + 1) * 3 = i * 3 + 1 + 1 + 1 by omega]
    simpa [rcell3] using this
/-- What an appended report leaves of a list. -/
theorem ronto {w1 : World} {base : Nat} {L : List Rep} {r : Rep} {v' : Value} (h2 : w1.ownsRow base 89 3 v' (L.length + 1) (rcell3 L ++ [.int .i64 r.t, .int .i64 r.a, .int .i64 r.f])) : w1.ownsRow base 89 3 v' (L ++ [r]).length (rcell3 (L ++ [r])) := by
  rw [List.length_append, List.length_singleton, rcell3_append, rcell3_one]
  exact h2
theorem agrown_own {w wr w1 : World} {o : Obj} {r : Option Nat} (h3 : (wr.alloc o).grownBy w1 r) (hg : w.grownBy wr none) : Fr (fun i => r = some i) w w1 :=
  ⟨h3.os.trans hg.os, h3.tape.trans hg.tape, h3.output.trans hg.output, Nat.le_trans hg.size (Nat.le_trans (by simp) h3.size), fun i hi hn => by
    have h1 := hg.size
    rw [h3.block i (by simp; omega) (fun e => hn e.symm)]
    exact (grown_alloc wr o none).block i (by omega) (by simp) |>.trans (hg.block i hi (by simp))⟩
set_option maxRecDepth 100000 in
set_option maxHeartbeats 2000000 in
theorem note_yes {w : World} {b0 : Nat} {F : Fp} {c2 : Nat} {G : Nat → Bool} {rv : Value} {N : List Rep} (h : LdAt w b0 F c2 G rv N) (hl : N.length ≤ 1000) (hb0 : b0 ≤ w.heap.size) (r : Rep) (hf : r.f ≠ 0) :
    Calls Tryz.prog 41 #[.pointer (some ⟨F.p, 0, none⟩), .int .i64 r.t, .int .i64 r.a, .int .i64 r.f] w fun e w' => e = .returned (.tuple #[]) ∧ ∃ rv', LdAt w' b0 F c2 G rv' (N ++ [r]) ∧ Fr (fun i => i = F.p ∨ rv.ownBlock = some i) w w' ∧ (∀ q, rv'.ownBlock = some q → rv.ownBlock = some q ∨ w.heap.size ≤ q) := by
  have H := Lib.hid h
  have hown := h.own
  obtain ⟨A1, cc, rfl, hcc⟩ := bown_shape hown
  have HO := Lib.hid hown
  have c2' := h.c2
  have z2 := h.fz 2
  have hf' : (r.f == 0) = false := by simpa using hf
  obtain ⟨ln, hln⟩ : ∃ ln, N.length = ln := ⟨_, rfl⟩
  have HLN := Lib.hid hln
  rw [hln] at c2' hl hcc H HO ⊢
  have HO3 : Hid (w.ownsRow b0 89 3 (.slice A1 ln cc) ln (rcell3 N)) := Lib.hid (by have := HO.out; rw [← HLN.out] at this ⊢; exact this)
  have hli : (ln : Int) ≤ 1000 := by omega
  have hlc : (ln : Int) ≤ cc := by omega
  have hd : decide ((4096 : Int) ≤ ln) = false := decide_eq_false (by omega)
  have hd2 : decide (4096 ≤ ln) = false := decide_eq_false (by omega)
  have HB := Lib.hid hb0
  clear h hown hl hb0 hf hcc hln
  obtain ⟨i0, hi, hz0, hz1, hz2⟩ := info_parts infoReport
  go_enter Tryz.func41, Tryz.ntmps41
  go_wp2_with (at_builtin; refine wpList_append_own_at _ rfl _ _ 83 rfl b0 89 i0 (.agg #[.int .i64 0, .int .i64 0, .int .i64 0]) 3 24 Tryz.underlying83 hi hz0 hz1 hz2 rfl (by decide) _ _ _ rfl (HO3.out.alloc _) ⟨w.heap.size, 0, none⟩ 1 1 [.int .i64 r.t, .int .i64 r.a, .int .i64 r.f] rfl ?c1 ?c2 ?c3 ?c4 ?c5 ?c6 ?_)
  case c1 => rfl
  case c2 => exact fun j u hj => three_cells w _ _ _ _ j u hj
  case c3 => exact fun u hu => by simp at hu; rcases hu with rfl | rfl | rfl <;> rfl
  case c4 => simp only [maxLen]; omega
  case c5 => omega
  case c6 => have := HB.out; simp; omega
  intro v' w1 h2' h3' h4' h5'
  have HF : Hid (Fr (fun i => (Value.slice A1 ln cc).ownBlock = some i) w w1) := Lib.hid (agrown_own h3' (grown_refl w none))
  have hnp : ¬ (Value.slice A1 ln cc).ownBlock = some F.p := fun e => by
    have := (World.ownsRow.lt HO3.out F.p e).1
    have := H.out.b0p
    omega
  have d2 := HF.out.cell c2' hnp
  have y2 : w1.frozen? ⟨F.p, 2, none⟩ = false := by rw [HF.out.frozen H.out.plt hnp]; exact z2
  have HOWN : Hid (w1.ownsRow b0 89 3 v' (N ++ [r]).length (rcell3 (N ++ [r]))) := Lib.hid (ronto (by rw [HLN.out]; exact h2'))
  have HV : Hid (∀ q, v'.ownBlock = some q → (Value.slice A1 ln cc).ownBlock = some q ∨ w.heap.size ≤ q) := Lib.hid (fun q hq => by
    rcases h5' with e | e
    · rw [e] at hq; exact .inl hq
    · rw [e] at hq; injection hq with hq; subst hq; exact .inr (by simp))
  have HNP := Lib.hid hnp
  obtain ⟨A', c', rfl, -⟩ := bown_shape h2'
  clear h2' h3' h4' h5' hnp
  go_wp2
  go_end0
  have gs := An.agrown_set w1 F.p 2 (.slice A' (ln + 1) c')
  have hfr : Fr (fun i => i = F.p ∨ (Value.slice A1 ln cc).ownBlock = some i) w (w1.setCell ⟨F.p, 2, none⟩ (.slice A' (ln + 1) c')) := (HF.out.wide (fun _ h => .inr h)).trans (fr_some gs (fun _ => .inl rfl))
  have hh := H.out
  have hnm : ¬ (F.mb = F.p ∨ (Value.slice A1 ln cc).ownBlock = some F.mb) := fun e => by
    rcases e with e | e
    · exact hh.ne e.symm
    · have := (World.ownsRow.lt HO3.out F.mb e).1
      have := hh.b0m
      omega
  refine ⟨rfl, .slice A' (ln + 1) c', ⟨?_, ?_, ?_, fun k => ?_, ?_, ?_, hh.ne, hh.b0p, hh.b0m⟩, hfr, HV.out⟩
  · rw [set_far9 _ _ (by omega)]; exact HF.out.cell hh.c0 HNP.out
  · rw [set_far9 _ _ (by omega)]; exact HF.out.cell hh.c1 HNP.out
  · exact set_near9 _ _ d2
  · rw [World.frozen?_setCell, HF.out.frozen hh.plt HNP.out]; exact hh.fz k
  · exact own_fr2 HOWN.out (fr_some gs (fun _ => rfl)) (fun q hq e => by
      have := (World.ownsRow.lt HOWN.out q hq).1
      have := hh.b0p
      omega)
  · obtain ⟨D, hD, hi⟩ := hh.mp
    exact ⟨D, map_fr hD hfr hnm, hi⟩
set_option maxRecDepth 100000 in
theorem note_no {p : Nat} (w : World) (t a : Int) : Calls Tryz.prog 41 #[.pointer (some ⟨p, 0, none⟩), .int .i64 t, .int .i64 a, .int .i64 0] w fun e w' => e = .returned (.tuple #[]) ∧ w = w' := by
  go_enter Tryz.func41, Tryz.ntmps41
  go_wp2
  exact bodyPost_ret (v := .tuple #[]) (by simp [results, Tryz.results41, go_sem]) rfl ⟨rfl, rfl⟩
/-- A list of reports in memory. -/
def RlAt (w : World) (v : Value) (N : List Rep) : Prop := ∃ A c, v = .slice A N.length c ∧ N.length ≤ c ∧ (N.length = 0 ∨ ∃ g, A = some ⟨g, 0, none⟩ ∧ ∀ j u, (rcell3 N)[j]? = some u → w.cell? ⟨g, j, none⟩ = some u)
theorem own_rl {w : World} {base : Nat} {v : Value} {N : List Rep} (h : w.ownsRow base 89 3 v N.length (rcell3 N)) : RlAt w v N := by
  obtain ⟨A, c, rfl, hc⟩ := bown_shape h
  refine ⟨A, c, rfl, hc, ?_⟩
  obtain ⟨-, ⟨h1, h2⟩ | ⟨g, cap, cur, e, hbg, hh, hnc, hcm, hcs, htake⟩⟩ := h
  · exact .inl h2
  · injection e with e1 _ _
    refine .inr ⟨g, e1, fun j u hj => ?_⟩
    have e : w.cell? ⟨g, j, none⟩ = cur[j]? := by simp only [World.cell?, hh]; rfl
    have hjl : j < N.length * 3 := by
      rw [← rcell3_length]
      exact (List.getElem?_eq_some_iff.1 hj).1
    have t := congrArg (fun l => l[j]?) htake
    simp only [List.getElem?_take, hjl, if_true, Array.getElem?_toList] at t
    rw [e, t, hj]
set_option maxRecDepth 100000 in
set_option maxHeartbeats 2000000 in
theorem clone_rep {w : World} {v : Value} {N : List Rep} (h : RlAt w v N) (hl : N.length ≤ 1000) (hnil : N.length = 0 → v = .slice none 0 0) :
    Calls Tryz.prog 100 #[v] w fun e w' => ∃ v', e = .returned v' ∧ RlAt w' v' N ∧ w.grownBy w' none := by
  obtain ⟨A1, cc, rfl, hcc, hel⟩ := h
  rcases hel with h0 | ⟨g, rfl, hcl⟩
  · have hv := hnil h0
    rw [hv]
    have hN : N = [] := List.length_eq_zero_iff.1 h0
    subst hN
    clear hv h0 hcc hnil hl
    have hnil := fun (w : World) => Lib.run_eql_slice_nil (P := Tryz.prog) w 83 89 none 0 0 0 0 Tryz.underlying83
    go_enter Tryz.func100, Tryz.ntmps100
    go_wp2
    go_ret
    exact ⟨.slice none 0 0, rfl, ⟨none, 0, rfl, Nat.le_refl _, .inl rfl⟩, grown_refl _ _⟩
  · have HCL := Lib.hid hcl
    obtain ⟨ln, hln⟩ : ∃ ln, N.length = ln := ⟨_, rfl⟩
    have HLN := Lib.hid hln
    rw [hln] at hl hcc ⊢
    have hli : (ln : Int) ≤ 1000 := by omega
    clear hcl hnil hln
    obtain ⟨i0, hi, hz0, hz1, hz2⟩ := info_parts infoReport
    have hnil := fun (w : World) => Lib.run_eql_slice_nil (P := Tryz.prog) w 83 89 (some ⟨g, 0, none⟩) ln cc 0 0 Tryz.underlying83
    go_enter Tryz.func100, Tryz.ntmps100
    go_wp2_with (at_builtin; refine wpList_append_own _ rfl _ _ 83 rfl w.heap.size 89 i0 (.agg #[.int .i64 0, .int .i64 0, .int .i64 0]) 3 24 Tryz.underlying83 hi hz0 hz1 hz2 rfl (by decide) _ _ _ rfl (World.ownsRow_made w #[] 0 (Nat.le_refl _) (Nat.zero_le _) rfl) ⟨g, 0, none⟩ ln cc (rcell3 N) rfl ?c1 ?c2 ?c3 ?c4 ?c5 ?c6 ?_)
    case c1 => rw [rcell3_length, HLN.out]
    case c2 => exact fun j u hj => by rw [An.aaddr_add]; exact (grown_alloc w (.cells #[] 89) none).cell (HCL.out j u hj) (by simp)
    case c3 => exact rcell3_cell _
    case c4 => simp only [maxLen]; omega
    case c5 => omega
    case c6 => simp
    intro v' w1 hown hgrow hiff
    have HO : Hid (RlAt w1 v' N) := Lib.hid (own_rl (base := w.heap.size) (by rw [HLN.out]; simpa using hown))
    have HG := Lib.hid (grown_own (grown_alloc w (.cells #[] 89) none) hgrow (Nat.le_refl _))
    clear hown hgrow hiff
    go_wp2
    go_ret
    exact ⟨_, rfl, HO.out, HG.out⟩
set_option maxRecDepth 100000 in
theorem reports_at {w : World} {b0 : Nat} {F : Fp} {c2 : Nat} {G : Nat → Bool} {rv : Value} {N : List Rep} (h : LdAt w b0 F c2 G rv N) (hl : N.length ≤ 1000) (hnil : N.length = 0 → rv = .slice none 0 0) :
    Calls Tryz.prog 45 #[.pointer (some ⟨F.p, 0, none⟩)] w fun e w' => ∃ v', e = .returned v' ∧ RlAt w' v' N ∧ w.grownBy w' none := by
  have HC := Lib.hid (clone_rep (own_rl h.own) hl hnil)
  obtain ⟨A1, cc, rfl, hcc⟩ := bown_shape h.own
  have c2' := h.c2
  clear h hl hnil hcc
  go_enter Tryz.func45, Tryz.ntmps45
  go_wp2_with fail
  refine HC.out.mono ?_
  rintro e w1 ⟨v', rfl, h1, h2⟩
  have HK := Lib.hid (And.intro h1 h2)
  clear h1 h2 HC
  go_wp2
  go_ret
  exact ⟨_, rfl, HK.out.1, HK.out.2⟩
end Go.Proofs.YtgnfcklippjeeaaGreat
