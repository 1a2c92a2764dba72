/- The walks of a slab's lay and Make. -/
import Derived.Test.YticoojcmlkdeiaaSE
namespace Go.Proofs.Yticoojcmlkdeiaa
open Go.RowKit
open Sl (Cls bs upd)

/-- What is asked of a page and a class can't be. -/
def LayBad (N : Nat) (page c : Int) : Prop := No c ∨ (∃ s n r, Cl c s n r) ∧ (page < 0 ∨ (N : Int) / 256 ≤ page)
theorem cl_pos {c s n r : Int} (h : Cl c s n r) : 2 ≤ n ∧ n ≤ 16 := by unfold Cl at h; omega
set_option maxRecDepth 100000 in
set_option maxHeartbeats 1000000 in
theorem lay_bad {w : World} {p pa qa N cap : Nat} {B : Nat → Nat} {wk : Option Addr} {page c : Int} (h : An.ArAt w pa qa N cap B wk) (c0 : w.cell? ⟨p, 0, none⟩ = some (.pointer (some ⟨pa, 0, none⟩))) (c2 : w.cell? ⟨p, 2, none⟩ = some (.int .i64 page)) (c3 : w.cell? ⟨p, 3, none⟩ = some (.int .i64 c)) (hb : LayBad N page c) :
    Calls Try.prog 61 #[.pointer (some ⟨p, 0, none⟩)] w fun e w' => e = .returned (.int .i64 1) ∧ w.grownBy w' none := by
  have hN := h.small
  rcases hb with hc | ⟨⟨s, n, r, hc⟩, hp⟩
  · have HS := Lib.hid (fun w => slots_no c w hc)
    clear h hc
    go_enter Try.func61, Try.ntmps61
    go_wp2_with (go_at_call 92; refine (HS.out _).mono ?_; rintro e w' ⟨rfl, rfl⟩)
    go_quiet (fail)
    go_wp2
    go_ret
    exact ⟨rfl, grown_drew (grown_refl _ _) _⟩
  · have HS := Lib.hid (fun w => slots_yes w hc)
    have hn := (cl_pos hc).1
    have hn0 : (n == 0) = false := by simp; omega
    clear hc hn
    by_cases h0 : page < 0
    · have h1 : decide (page < 0) = true := by simpa using h0
      clear h hp h0
      go_enter Try.func61, Try.ntmps61
      go_wp2_with (go_at_call 92; refine (HS.out _).mono ?_; rintro e w' ⟨rfl, rfl⟩)
      go_quiet (fail)
      go_wp2
      go_ret
      exact ⟨rfl, grown_drew (grown_refl _ _) _⟩
    · have h1 : decide (page < 0) = false := by simpa using h0
      have h2 : decide ((N : Int) / 256 ≤ page) = true := by simp; omega
      have HL := Lib.hid (fun d => An.alen_core pa qa N cap (w.drewN d) (by simpa using h.c0))
      clear h hp h0
      go_enter Try.func61, Try.ntmps61
      go_wp2_with (go_at_call 92; refine (HS.out _).mono ?_; rintro e w' ⟨rfl, rfl⟩)
      go_quiet ((go_at_call 64; exact quiet_left (HL.out _)))
      go_wp2
      go_ret
      exact ⟨rfl, grown_drew (grown_refl _ _) _⟩

/-- A slab that is not laid yet. -/
structure Raw (w : World) (p pa : Nat) (Y : Nm) : Prop where
  c0 : w.cell? ⟨p, 0, none⟩ = some (.pointer (some ⟨pa, 0, none⟩))
  c1 : w.cell? ⟨p, 1, none⟩ = some (.int .u64 (Y.key : Nat))
  c2 : w.cell? ⟨p, 2, none⟩ = some (.int .i64 (Y.g : Nat))
  c3 : w.cell? ⟨p, 3, none⟩ = some (.int .i64 (Y.c : Nat))
  c4 : w.cell? ⟨p, 4, none⟩ = some (.int .i64 Y.o)
  c5 : w.cell? ⟨p, 5, none⟩ = some (.pointer none)
  c6 : w.cell? ⟨p, 6, none⟩ = some (.pointer none)
  c7 : w.cell? ⟨p, 7, none⟩ = some (.int .i64 0)
  fz : ∀ k, w.frozen? ⟨p, k, none⟩ = false
theorem Raw.grown {w w' : World} {p pa : Nat} {Y : Nm} {r : Option Nat} (h : Raw w p pa Y) (hg : w.grownBy w' r) (hp : some p ≠ r) : Raw w' p pa Y :=
  ⟨hg.cell h.c0 hp, hg.cell h.c1 hp, hg.cell h.c2 hp, hg.cell h.c3 hp, hg.cell h.c4 hp, hg.cell h.c5 hp, hg.cell h.c6 hp, hg.cell h.c7 hp, fun k => by rw [World.frozen?_of_block (w := w) (hg.block p (World.block_lt_of_cell? w ⟨p, 0, none⟩ h.c0) hp)]; exact h.fz k⟩
/-- The rows are put into the slab. -/
theorem Raw.own {w : World} {X : Pl} {Y : Nm} (h : Raw w X.p X.pa Y) : Own ((w.setCell ⟨X.p, 5, none⟩ (.pointer (some ⟨X.pl, 0, none⟩))).setCell ⟨X.p, 6, none⟩ (.pointer (some ⟨X.ph, 0, none⟩))) X Y 0 := by
  have o1 : ∀ (o : Nat) (v u : Value) (W : World) (i : Nat), o ≠ i → W.cell? ⟨X.p, o, none⟩ = some v → (W.setCell ⟨X.p, i, none⟩ u).cell? ⟨X.p, o, none⟩ = some v := fun o v u W i ne hc => by
    rw [World.cell?_setCell_other _ _ _ _ (fun x => ne (congrArg Addr.off x).symm)]; exact hc
  have o2 : ∀ (o : Nat) (v : Value), o ≠ 5 → o ≠ 6 → w.cell? ⟨X.p, o, none⟩ = some v → ((w.setCell ⟨X.p, 5, none⟩ (.pointer (some ⟨X.pl, 0, none⟩))).setCell ⟨X.p, 6, none⟩ (.pointer (some ⟨X.ph, 0, none⟩))).cell? ⟨X.p, o, none⟩ = some v := fun o v n5 n6 hc => o1 o v _ _ 6 n6 (o1 o v _ _ 5 n5 hc)
  refine ⟨o2 _ _ (by decide) (by decide) h.c0, o2 _ _ (by decide) (by decide) h.c1, o2 _ _ (by decide) (by decide) h.c2, o2 _ _ (by decide) (by decide) h.c3, o2 _ _ (by decide) (by decide) h.c4, ?_, ?_, o2 _ _ (by decide) (by decide) h.c7, fun k => by rw [World.frozen?_setCell, World.frozen?_setCell]; exact h.fz k⟩
  · exact o1 5 _ _ _ 6 (by decide) (World.cell?_setCell_same' _ _ _ (by rw [h.c5]; rfl))
  · exact World.cell?_setCell_same' _ _ _ (by rw [o1 6 _ _ _ 5 (by decide) h.c6]; rfl)

theorem toV_nxt {Y : Nm} {m : Nat} : toV Y ((m : Int) + 1) = Sl.nxt Y.g Y.s Y.n m := by
  unfold toV Sl.nxt
  by_cases e : m + 1 < Y.n
  · rw [if_pos e, show (m : Int) + 1 = ((m + 1 : Nat) : Int) by omega, if_pos (isK_of e), Int.toNat_natCast]
  · rw [if_neg e, if_neg (by simp [isK]; omega)]

/-- A slab that is laid. -/
def LaidSlab (w w' : World) (p pa qa : Nat) (Y : Nm) : Prop :=
  ∃ (X : Pl) (B : Nat → Nat), X.p = p ∧ X.pa = pa ∧ X.qa = qa ∧ SlAt w' X Y (fun _ => 0) 0 B ∧ Sl.Inv Y.key Y.g Y.s Y.n Y.r (fun _ => 0) (Sl.from_ 0 Y.n) B ∧ w.heap.size ≤ X.ql ∧ w.heap.size ≤ X.qh ∧ Fr (fun i => i = p ∨ i = qa) w w'
set_option maxRecDepth 100000 in
set_option maxHeartbeats 2000000 in
theorem lay_ok {w : World} {p pa qa : Nat} {B : Nat → Nat} {Y : Nm} (h : Raw w p pa Y) (ha : An.ArAt w pa qa Y.N Y.acap B none) (ok : Ok Y) (hne : p ≠ pa ∧ p ≠ qa) :
    Calls Try.prog 61 #[.pointer (some ⟨p, 0, none⟩)] w fun e w' => e = .returned (.int .i64 0) ∧ LaidSlab w w' p pa qa Y := by
  have hn1 := ok.c.facts.n2
  have hn2 := ok.c.facts.n16
  have hg := ok.g
  have hN := ok.N
  have HS := Lib.hid (fun w => slots_yes w ok.c.cl)
  have HL := Lib.hid (fun d => An.alen_core pa qa Y.N Y.acap (w.drewN d) (by simpa using ha.c0))
  have h0 : (((Y.n : Nat) : Int) == 0) = false := by simp; omega
  have h1 : decide ((Y.g : Int) < 0) = false := by simp
  have h3 : IntKind.i64.wrap ((Y.N : Int) / 256) = (Y.N : Int) / 256 := by rw [IntKind.wrap_i64]; omega
  have h2 : decide ((Y.N : Int) / 256 ≤ (Y.g : Int)) = false := by simp; omega
  have c0 := h.c0
  have c2 := h.c2
  have c3 := h.c3
  have HR := Lib.hid h
  have HA := Lib.hid ha
  have HK := Lib.hid ok
  have HNE := Lib.hid hne
  have HPL := Lib.hid (World.block_lt_of_cell? w ⟨p, 0, none⟩ c0)
  clear h ha ok hne
  go_enter Try.func61, Try.ntmps61
  go_wp2_with (go_at_call 92; refine (HS.out _).mono ?_; rintro e w' ⟨rfl, rfl⟩)
  go_quiet ((go_at_call 64; exact quiet_left (HL.out _)))
  rename_i nq
  have hg1 := grown_drew (grown_refl w none) nq
  have HG1 := Lib.hid hg1
  clear HL HS c0 c2 c3 hg1 h0 h2 h1 h3
  generalize w.drewN nq = w1 at *
  go_upto_region 4 with (fail)
  go_wp2_with fail
  refine (bnew_row Y.n (by omega) w1).mono ?_
  rintro e w2 ⟨pl, ql, rfl, hr1, hp1, hq1, hpq1, hg2⟩
  have HL2 := Lib.hid hr1
  have HG2 := Lib.hid (grown_trans HG1.out hg2)
  have s1 := HG1.out.size
  have s2 := hg2.size
  have HQ1 := Lib.hid (And.intro (Nat.le_trans s1 hp1) (And.intro (Nat.le_trans s1 hq1) hpq1))
  clear hr1 hp1 hq1 hpq1 hg2
  go_wp2_with fail
  refine (bnew_row Y.n (by omega) w2).mono ?_
  rintro e w3 ⟨ph, qh, rfl, hr3, hp3, hq3, hpq3, hg3⟩
  have HL3 := Lib.hid (HL2.out.grown hg3 (by simp) (by simp))
  have HH3 := Lib.hid hr3
  have HG3 := Lib.hid (grown_trans HG2.out hg3)
  have HPL2 := HL2.out.plt
  have HQL2 := HL2.out.qlt
  have HQ3 := Lib.hid (And.intro hp3 (And.intro hq3 (And.intro hpq3 (And.intro HPL2 (And.intro HQL2 (Nat.le_trans s1 s2))))))
  clear hr3 hp3 hq3 hpq3 hg3 HL2 HG2 s1 s2 HPL2 HQL2
  have d5 := (HR.out.grown HG3.out (by simp)).c5
  have d6 := (HR.out.grown HG3.out (by simp)).c6
  have z5 := (HR.out.grown HG3.out (by simp)).fz
  go_upto_region 5 with (fail)
  have HX : Hid (SlAt ((w3.setCell ⟨p, 5, none⟩ (.pointer (some ⟨pl, 0, none⟩))).setCell ⟨p, 6, none⟩ (.pointer (some ⟨ph, 0, none⟩))) ⟨p, pa, qa, pl, ql, ph, qh⟩ Y (fun _ => 0) 0 B) := Lib.hid (by
    obtain ⟨a1, a2, a3⟩ := HQ1.out
    obtain ⟨b1, b2, b3, b4, b5, b6⟩ := HQ3.out
    obtain ⟨n1, n2⟩ := HNE.out
    have pp := HPL.out
    have pap := HA.out.plt
    have qap := HA.out.b.qlt
    have g1 : w3.grownBy ((w3.setCell ⟨p, 5, none⟩ (.pointer (some ⟨pl, 0, none⟩))).setCell ⟨p, 6, none⟩ (.pointer (some ⟨ph, 0, none⟩))) (some p) := grown_trans (An.agrown_set _ _ _ _) (An.agrown_set _ _ _ _)
    have haa := HA.out.ne
    have pap' : pa < w.heap.size := pap
    have qap' : qa < w.heap.size := qap
    have pp' : p < w.heap.size := pp
    refine ⟨Raw.own (X := ⟨p, pa, qa, pl, ql, ph, qh⟩) (HR.out.grown HG3.out (by simp)), (HA.out.grown HG3.out (by simp) (by simp)).grown g1 (some_ne n1.symm) (some_ne n2.symm),
      (HL3.out.grown g1 (some_ne (by omega)) (some_ne (by omega))).congr (fun _ _ => rfl), (HH3.out.grown g1 (some_ne (by omega)) (some_ne (by omega))).congr (fun _ _ => rfl), ⟨⟨n1, n2, ?_, ?_, ?_, ?_⟩, ⟨?_, ?_, ?_, ?_, ?_⟩, ⟨?_, ?_, ?_, ?_⟩, ⟨?_, ?_, ?_⟩⟩, HK.out⟩ <;> (simp only; omega))
  have HF : Hid (Fr (fun i => i = p ∨ i = qa) w ((w3.setCell ⟨p, 5, none⟩ (.pointer (some ⟨pl, 0, none⟩))).setCell ⟨p, 6, none⟩ (.pointer (some ⟨ph, 0, none⟩)))) :=
    Lib.hid ((fr_none HG3.out).trans (fr_some (grown_trans (An.agrown_set _ _ _ _) (An.agrown_set _ _ _ _)) (fun _ => .inl rfl)))
  have HQQ : Hid (w.heap.size ≤ ql ∧ w.heap.size ≤ qh) := Lib.hid ⟨HQ1.out.2.1, Nat.le_trans HQ3.out.2.2.2.2.2 HQ3.out.2.1⟩
  clear d5 d6 z5 HL3 HH3 HG3 HQ1 HQ3 HG1 HR HA
  generalize (w3.setCell ⟨p, 5, none⟩ (.pointer (some ⟨pl, 0, none⟩))).setCell ⟨p, 6, none⟩ (.pointer (some ⟨ph, 0, none⟩)) = w4 at *
  go_wp2_with fail
  go_loopw [43] (fun i wr => ∃ (m : Nat) (B' : Nat → Nat), m ≤ Y.n ∧ i = .int .i64 m ∧ SlAt wr ⟨p, pa, qa, pl, ql, ph, qh⟩ Y (fun _ => 0) 0 B' ∧ Sl.Laid Y.key Y.g Y.s Y.n m B' ∧ Fr (fun i => i = p ∨ i = qa) w wr) (fun i _ => Y.n - (intOf i).toNat)
  case atStart => exact ⟨0, B, Nat.zero_le _, rfl, HX.out, fun k hk => by omega, HF.out⟩
  case round =>
    obtain ⟨m, B', hm, rfl, hx, hl, hf⟩ := hrel
    have HX' := Lib.hid hx
    have HL' := Lib.hid hl
    have HF' := Lib.hid hf
    clear hx hl hf
    by_cases hlt : m < Y.n
    · have hT := lead_at HX'.out hlt ((m : Int) + 1)
      rw [toV_nxt] at hT
      have HT := Lib.hid hT
      clear hT
      go_wp2_with fail
      refine HT.out.mono ?_
      rintro e w5 ⟨rfl, hx, hg⟩
      have HX5 := Lib.hid hx
      have HF5 := Lib.hid (HF'.out.trans (fr_some hg (fun _ => .inr rfl)))
      clear hx hg HT
      go_wp2
      go_roundw
      case rel => exact ⟨m + 1, _, by omega, by go_num, HX5.out, HL'.out.next HK.out.c (by have := HK.out.g; have := HK.out.N; omega) hlt, HF5.out⟩
      case measure => simp [intOf]; omega
    · obtain rfl : m = Y.n := by omega
      go_wp2
      go_ret
      exact ⟨rfl, ⟨p, pa, qa, pl, ql, ph, qh⟩, B', rfl, rfl, rfl, HX'.out, Sl.inv_new HL'.out, HQQ.out.1, HQQ.out.2, HF'.out⟩
end Go.Proofs.Yticoojcmlkdeiaa
