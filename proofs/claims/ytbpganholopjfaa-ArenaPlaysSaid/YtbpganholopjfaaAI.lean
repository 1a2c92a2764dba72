/- The walk of a Do's end. -/
import Derived.Test.YtbpganholopjfaaAH
namespace Go.Proofs.Ytbpganholopjfaa
open Go.RowKit
open Go.Maps (Keyed)

set_option maxHeartbeats 800000 in
theorem page_is (p q N cap pg : Nat) (w : World) (h0 : w.cell? ⟨p, 0, none⟩ = some (.slice (some ⟨q, 0, none⟩) N cap)) (hN : N ≤ 65536) (hcap : N ≤ cap) (hp : pg * 256 + 256 ≤ N) :
    Calls Try.prog 77 #[.pointer (some ⟨p, 0, none⟩), .int .i64 pg] w fun e w' => e = .returned (.slice (some ⟨q, pg * 256, none⟩) 256 (cap - pg * 256)) ∧ w = w' := by
  have hpg : pg ≤ 256 := by omega
  have hc : ¬ cap = pg * 256 := by omega
  have hc2 : ((pg : Int) + 1) * 256 ≤ cap := by omega
  have q4 : (pg + 1) * 256 - pg * 256 = 256 := by omega
  have q5 : (pg : Int) * 256 ≤ ((pg : Int) + 1) * 256 := by omega
  go_enter Try.func77, Try.ntmps77
  go_wp2
  go_ret
  exact ⟨congrArg (fun x => Ending.returned (Value.slice (some ⟨q, pg * 256, none⟩) x (cap - pg * 256))) q4, rfl⟩

set_option maxRecDepth 100000 in
/-- An entry that has come: which page it is, and where it lies. -/
theorem entry_is {w : World} {p q u mb N cap : Nat} {B B0 : Nat → Nat} {D : DataW Unit} {cnt rt : Nat} {fl : Int} (h : DoSt w p q u mb N cap B B0 D cnt rt fl) {x : Int} {c : Option (Nat × Nat)} {kl : Lit} {y : DataW Unit × List MemPlace}
    (hkey : keyOf Try.prog 3 (.int .i64 x) = some kl) (hh : Go.Maps.has D kl = true) (hv : slR (mkS c) = some y) (hat : ∀ zd, D.atKey kl zd = y.1) :
    ∃ pg bk bc : Nat, x = pg ∧ c = some (bk, bc) ∧ kl = .int .i64 pg ∧ pg * 256 + 256 ≤ N ∧ BytesAt w bk 256 (fun i => B0 (pg * 256 + i)) ∧ bk ≠ q := by
  obtain ⟨pg, bk, bc, h1, h2, h3, h4, _, h6, _⟩ := h.keys kl hh
  obtain ⟨x', ex, hkl, _⟩ := Go.Maps.keyOf_int_inv Try.underlying3 hkey
  obtain rfl : x = x' := by injection ex
  obtain rfl : x = pg := by rw [h1] at hkl; injection hkl with _ e; exact e.symm
  refine ⟨pg, bk, bc, rfl, ?_, h1, h2, h4, h6⟩
  have e := (h3 .nil).symm.trans (hat .nil)
  cases c with
  | none => rw [mkS, slR_nil] at hv; cases hv; cases e
  | some bc2 =>
    obtain ⟨b2, c2⟩ := bc2
    have hv2 : slR (mkS (some (b2, c2))) = some (slD b2 c2, []) := slR_some b2 c2
    rw [hv2] at hv
    obtain rfl := Option.some.inj hv
    obtain ⟨rfl, rfl⟩ := slD_inj e
    rfl

/-- What a Do's end leaves. -/
structure EndRes (w w' : World) (p q u N cap : Nat) (B : Nat → Nat) (rt : Nat) (fl : Int) : Prop where
  ar : ArAt w' p q N cap B none
  k0 : w'.cell? ⟨u, 0, none⟩ = some (.pointer none)
  k2 : w'.cell? ⟨u, 2, none⟩ = some (.int .i64 rt)
  k3 : w'.cell? ⟨u, 3, none⟩ = some (.int .i64 fl)
  fr : Fr (fun i => i = p ∨ i = q ∨ i = u) w w'

/-- What the loop over the kept pages knows. -/
structure EndL (w wr : World) (p q u mb N cap : Nat) (B0 B1 : Nat → Nat) (rt : Nat) (fl : Int) : Prop where
  ar : ArAt wr p q N cap B1 (some ⟨u, 0, none⟩)
  k0 : wr.cell? ⟨u, 0, none⟩ = some (.pointer (some ⟨p, 0, none⟩))
  k1 : wr.cell? ⟨u, 1, none⟩ = some (.pointer none)
  k2 : wr.cell? ⟨u, 2, none⟩ = some (.int .i64 rt)
  k3 : wr.cell? ⟨u, 3, none⟩ = some (.int .i64 fl)
  k4 : wr.cell? ⟨u, 4, none⟩ = some (.map (some mb))
  fz : ∀ k, wr.frozen? ⟨u, k, none⟩ = false
  fr : Fr (fun i => i = q) w wr
theorem EndL.go {w wr w' : World} {p q u mb N cap : Nat} {B0 B1 B2 : Nat → Nat} {rt : Nat} {fl : Int} (h : EndL w wr p q u mb N cap B0 B1 rt fl) (huq : u ≠ q) (r : Nat) (hrp : r ≠ p) (hru : r ≠ u) (g : Fr (fun i => i = r ∨ i = q) wr w') (hr : w.heap.size ≤ r) (hb : BytesAt w' q N B2) (hlt : ∀ i, B2 i < 256) : EndL w w' p q u mb N cap B0 B2 rt fl := by
  have hp : ¬ (p = r ∨ p = q) := fun x => x.elim (fun e => hrp e.symm) h.ar.ne
  have hu : ¬ (u = r ∨ u = q) := fun x => x.elim (fun e => hru e.symm) huq
  have hul : u < wr.heap.size := World.block_lt_of_cell? wr ⟨u, 0, none⟩ h.k0
  exact ⟨⟨g.cell h.ar.c0 hp, g.cell h.ar.c1 hp, fun k => by rw [g.frozen h.ar.plt hp]; exact h.ar.fz k, hb, h.ar.ne, h.ar.hcap, h.ar.small, h.ar.page, hlt⟩, g.cell h.k0 hu, g.cell h.k1 hu, g.cell h.k2 hu, g.cell h.k3 hu, g.cell h.k4 hu, fun k => by rw [g.frozen hul hu]; exact h.fz k,
    h.fr.trans g (fun _ _ x => x) (fun i hi x => x.elim (fun e => by omega) id)⟩

/-- The world behind a Do's end. -/
def endW (w : World) (p u : Nat) : World :=
  ((((w.setCell ⟨p, 1, none⟩ (.pointer none)).drew.setCell ⟨u, 0, none⟩ (.pointer none)).setCell ⟨u, 1, none⟩ (.pointer none)).setCell ⟨u, 4, none⟩ (.map none))
theorem endW_eq (w : World) (p u : Nat) : ((((w.setCell ⟨p, 1, none⟩ (.pointer none)).setCell ⟨u, 0, none⟩ (.pointer none)).setCell ⟨u, 1, none⟩ (.pointer none)).setCell ⟨u, 4, none⟩ (.map none)).drew = endW w p u := rfl
theorem end_done {w wr : World} {p q u mb N cap : Nat} {B0 B1 B2 : Nat → Nat} {rt : Nat} {fl : Int} (h : EndL w wr p q u mb N cap B0 B1 rt fl) (hup : u ≠ p) (huq : u ≠ q) (hB : ∀ i, i < N → B1 i = B2 i) (hlt : ∀ i, B2 i < 256) : EndRes w (endW wr p u) p q u N cap B2 rt fl := by
  have g1 : Fr (fun i => i = p ∨ i = u) wr (wr.setCell ⟨p, 1, none⟩ (.pointer none)).drew := ⟨rfl, rfl, rfl, by simp [World.setCell], fun i hi hm => (fr_set wr p 1 (.pointer none)).block i hi (fun e => hm (.inl e))⟩
  have g2 : Fr (fun i => i = p ∨ i = u) (wr.setCell ⟨p, 1, none⟩ (.pointer none)).drew (endW wr p u) := by
    unfold endW
    generalize (wr.setCell ⟨p, 1, none⟩ (.pointer none)).drew = wx
    exact (((fr_set wx u 0 (.pointer none)).trans (fr_set _ u 1 (.pointer none)) (fun _ _ x => x) (fun _ _ x => x)).trans (fr_set _ u 4 (.map none)) (fun _ _ x => .inr x) (fun _ _ x => .inr x))
  have g : Fr (fun i => i = p ∨ i = u) wr (endW wr p u) := g1.trans g2 (fun _ _ x => x) (fun _ _ x => x)
  have hq : ¬ (q = p ∨ q = u) := fun x => x.elim (fun e => h.ar.ne e.symm) (fun e => huq e.symm)
  have hpu : ∀ (wx : World) (i j : Nat) (v : Value), (wx.setCell ⟨u, i, none⟩ v).cell? ⟨p, j, none⟩ = wx.cell? ⟨p, j, none⟩ := fun wx i j v => World.cell?_setCell_other wx _ _ _ (fun e => hup (congrArg Addr.block e))
  have hup' : ∀ (wx : World) (i j : Nat) (v : Value), (wx.setCell ⟨p, i, none⟩ v).cell? ⟨u, j, none⟩ = wx.cell? ⟨u, j, none⟩ := fun wx i j v => World.cell?_setCell_other wx _ _ _ (fun e => hup (congrArg Addr.block e).symm)
  refine ⟨⟨?_, ?_, fun k => ?_, ?_, h.ar.ne, h.ar.hcap, h.ar.small, h.ar.page, hlt⟩, ?_, ?_, ?_, h.fr.trans g (fun _ _ x => .inr (.inl x)) (fun _ _ x => x.elim .inl (fun e => .inr (.inr e)))⟩
  · unfold endW
    rw [hpu, hpu, hpu, World.cell?_drew, aset_far _ _ _ _ _ (by omega)]
    exact h.ar.c0
  · unfold endW
    rw [hpu, hpu, hpu, World.cell?_drew]
    exact World.cell?_setCell_same' _ _ _ (by rw [h.ar.c1]; rfl)
  · unfold endW
    rw [World.frozen?_setCell, World.frozen?_setCell, World.frozen?_setCell, World.frozen?_drew, World.frozen?_setCell]
    exact h.ar.fz k
  · have hb := h.ar.b.fr g hq
    exact ⟨fun i hi => by rw [hb.c i hi, hB i hi], hb.fz, hb.qlt⟩
  · unfold endW
    rw [aset_far _ _ _ _ _ (by omega), aset_far _ _ _ _ _ (by omega)]
    exact World.cell?_setCell_same' _ _ _ (by rw [World.cell?_drew, hup', h.k0]; rfl)
  · unfold endW
    rw [aset_far _ _ _ _ _ (by omega), aset_far _ _ _ _ _ (by omega), aset_far _ _ _ _ _ (by omega), World.cell?_drew, hup']
    exact h.k2
  · unfold endW
    rw [aset_far _ _ _ _ _ (by omega), aset_far _ _ _ _ _ (by omega), aset_far _ _ _ _ _ (by omega), World.cell?_drew, hup']
    exact h.k3

set_option maxRecDepth 100000 in
set_option maxHeartbeats 4000000 in
theorem end_true {w : World} {p q u mb N cap : Nat} {B B0 : Nat → Nat} {D : DataW Unit} {cnt rt : Nat} {fl : Int} (h : DoSt w p q u mb N cap B B0 D cnt rt fl) :
    Calls Try.prog 60 #[.pointer (some ⟨u, 0, none⟩), .bool true] w fun e w' => e = .returned (.tuple #[]) ∧ EndRes w w' p q u N cap B rt fl := by
  have H := Lib.hid h
  have k4 := h.k4
  have hown := h.map
  have hN := h.ar.small
  clear h
  go_enter Try.func60, Try.ntmps60
  go_wp2_with (at_range; refine wpList_range_own _ rfl _ 99 rfl 3 25 kint Try.underlying99 slR mb cnt D rfl hown ?_; intro w1 hrg1 hg1 hs1)
  go_frame
  obtain ⟨r, hr⟩ : ∃ r, r = w.heap.size := ⟨_, rfl⟩
  rw [← hr] at hrg1 ⊢
  have HL0 : Hid (EndL w w1 p q u mb N cap B0 B rt fl) := by
    have h1 := H.out.grown hg1
    exact ⟨h1.ar, h1.k0, h1.k1, h1.k2, h1.k3, h1.k4, h1.fz, fr_none hg1⟩
  have HRG := Lib.hid hrg1
  have HRR := Lib.hid hr
  clear hown k4 hrg1 hg1 hs1 hr
  go_loopw [4] (fun _ wr => ∃ left c1 B1, wr.ranges Try.prog 3 slR mb r cnt D left c1 ∧ (∀ kl, left kl = true → Go.Maps.has D kl = true) ∧ EndL w wr p q u mb N cap B0 B1 rt fl ∧ B = B1) (fun _ wr => wr.rangeLeft mb r)
  case atStart => exact ⟨_, _, B, HRG.out, fun _ h => h, HL0.out, rfl⟩
  case round =>
    clear HRG HL0
    obtain ⟨left, c1, B1, hrg, hsub, hel, rfl⟩ := hrel
    have HS := Lib.hid hsub
    have HE := Lib.hid hel
    skip
    skip
    have HM := Lib.hid hrg.left_eq
    clear hsub hel
    go_wp2_with (at_next; refine wpList_next_ranges _ rfl _ rfl 3 kint slR (Value.int .i64) mkS (fun key kl hkey => by obtain ⟨x, rfl, _⟩ := Go.Maps.keyOf_int_inv Try.underlying3 hkey; exact ⟨x, rfl⟩) (fun v y hv => slR_inv hv) mb r cnt D left c1 rfl hrg ?_ ?_)
    · intro hc0 hl0
      have HR : Hid (EndRes w (endW wr p u) p q u N cap B rt fl) := by
        exact end_done HE.out H.out.up H.out.uq (fun i _ => rfl) H.out.ar.lt
      have f0 := HE.out.k0
      have f1 := HE.out.k1
      have f4 := HE.out.k4
      have p1 := HE.out.ar.c1
      have zp := HE.out.ar.fz
      have zu := HE.out.fz
      have hup := H.out.up
      have hpu := Ne.symm H.out.up
      clear hc0 hl0 hrg HS
      go_upto_region 7 with (fail)
      go_cut [] (fun wx => wx = (wr.setCell ⟨p, 1, none⟩ (.pointer none)).drew)
      case first =>
        go_region
        all_goals
          go_wp2
          go_meet
          rfl
      case rest =>
        subst hcut
        go_wp2
        go_end0
        exact ⟨rfl, HR.out⟩
    · intro x c kl y pl w2 c2 hkey hlk hv hat hrg2 hlt hgr hsz hen
      obtain ⟨pg, bk, bc, rfl, rfl, rfl, hpg, hbk, hbq⟩ := entry_is H.out hkey (HS.out _ hlk) hv hat
      have hen : (Instr.entry (.pointer (some ⟨r, 0, none⟩))).run Try.prog w2 = .ok (.tuple #[.int .i64 pg, .slice (some ⟨bk, 0, none⟩) 256 bc]) w2 := hen
      have hrp : r ≠ p := fun e => by have := H.out.ar.plt; have := HRR.out; omega
      have hrq : r ≠ q := fun e => by have := H.out.ar.b.qlt; have := HRR.out; omega
      have hru : r ≠ u := fun e => by have := H.out.ult; have := HRR.out; omega
      have hrsz : w.heap.size ≤ r := Nat.le_of_eq HRR.out.symm
      have hp0 : Fr (fun i => i = r ∨ i = q) wr w2 := fr_some hgr (fun _ => .inl rfl)
      have HG : Hid (Fr (fun i => i = r ∨ i = q) wr w2) := Lib.hid (fr_some hgr (fun _ => .inl rfl))
      have HE2 : Hid (EndL w w2 p q u mb N cap B0 B rt fl) := HE.out.go H.out.uq r hrp hru HG.out hrsz (HE.out.ar.b.fr (fr_of hgr) (fun e => hrq (Option.some.inj e).symm)) H.out.ar.lt
      have k1 := HE2.out.k1
      have HS2 : Hid (∀ z, (left z && !z.sameKey (.int .i64 pg)) = true → Go.Maps.has D z = true) := fun z hz => HS.out z (by simp at hz; exact hz.1)
      have HLT := Lib.hid hlt
      clear hrg hat hlk hkey hgr hsz hlt hv HS HG HE
      go_wp2
      go_roundw
      case rel => exact ⟨_, _, _, hrg2, HS2.out, HE2.out, rfl⟩
      case measure => rw [hrg2.left_eq, HM.out]; exact HLT.out

set_option maxRecDepth 100000 in
set_option maxHeartbeats 4000000 in
theorem end_false {w : World} {p q u mb N cap : Nat} {B B0 : Nat → Nat} {D : DataW Unit} {cnt rt : Nat} {fl : Int} (h : DoSt w p q u mb N cap B B0 D cnt rt fl) :
    Calls Try.prog 60 #[.pointer (some ⟨u, 0, none⟩), .bool false] w fun e w' => e = .returned (.tuple #[]) ∧ EndRes w w' p q u N cap B0 rt fl := by
  have H := Lib.hid h
  have k4 := h.k4
  have hown := h.map
  have hN := h.ar.small
  clear h
  go_enter Try.func60, Try.ntmps60
  go_wp2_with (at_range; refine wpList_range_own _ rfl _ 99 rfl 3 25 kint Try.underlying99 slR mb cnt D rfl hown ?_; intro w1 hrg1 hg1 hs1)
  go_frame
  obtain ⟨r, hr⟩ : ∃ r, r = w.heap.size := ⟨_, rfl⟩
  rw [← hr] at hrg1 ⊢
  have HL0 : Hid (EndL w w1 p q u mb N cap B0 B rt fl) := by
    have h1 := H.out.grown hg1
    exact ⟨h1.ar, h1.k0, h1.k1, h1.k2, h1.k3, h1.k4, h1.fz, fr_none hg1⟩
  have HRG := Lib.hid hrg1
  have HRR := Lib.hid hr
  clear hown k4 hrg1 hg1 hs1 hr
  go_loopw [4] (fun _ wr => ∃ left c1 B1, wr.ranges Try.prog 3 slR mb r cnt D left c1 ∧ (∀ kl, left kl = true → Go.Maps.has D kl = true) ∧ EndL w wr p q u mb N cap B0 B1 rt fl ∧ (∀ i, B1 i < 256) ∧ (∀ pg : Nat, pg * 256 + 256 ≤ N → left (.int .i64 pg) = false → ∀ i, i < 256 → B1 (pg * 256 + i) = B0 (pg * 256 + i))) (fun _ wr => wr.rangeLeft mb r)
  case atStart => exact ⟨_, _, B, HRG.out, fun _ h => h, HL0.out, H.out.ar.lt, fun pg hpg hk => H.out.rest pg hpg hk⟩
  case round =>
    clear HRG HL0
    obtain ⟨left, c1, B1, hrg, hsub, hel, hlt1, hw0⟩ := hrel
    have HS := Lib.hid hsub
    have HE := Lib.hid hel
    have HW0 := Lib.hid hw0
    have HL1 := Lib.hid hlt1
    have HM := Lib.hid hrg.left_eq
    clear hsub hel hw0 hlt1
    go_wp2_with (at_next; refine wpList_next_ranges _ rfl _ rfl 3 kint slR (Value.int .i64) mkS (fun key kl hkey => by obtain ⟨x, rfl, _⟩ := Go.Maps.keyOf_int_inv Try.underlying3 hkey; exact ⟨x, rfl⟩) (fun v y hv => slR_inv hv) mb r cnt D left c1 rfl hrg ?_ ?_)
    · intro hc0 hl0
      have HR : Hid (EndRes w (endW wr p u) p q u N cap B0 rt fl) := by
        refine end_done HE.out H.out.up H.out.uq (fun i hi => ?_) H.out.lt0
        have hpg := H.out.ar.page
        have := HW0.out (i / 256) (by omega) (hl0 _) (i % 256) (Nat.mod_lt _ (by omega))
        rwa [show i / 256 * 256 + i % 256 = i by omega] at this
      have f0 := HE.out.k0
      have f1 := HE.out.k1
      have f4 := HE.out.k4
      have p1 := HE.out.ar.c1
      have zp := HE.out.ar.fz
      have zu := HE.out.fz
      have hup := H.out.up
      have hpu := Ne.symm H.out.up
      clear hc0 hl0 hrg HS HW0 HL1
      go_upto_region 7 with (fail)
      go_cut [] (fun wx => wx = (wr.setCell ⟨p, 1, none⟩ (.pointer none)).drew)
      case first =>
        go_region
        all_goals
          go_wp2
          go_meet
          rfl
      case rest =>
        subst hcut
        go_wp2
        go_end0
        exact ⟨rfl, HR.out⟩
    · intro x c kl y pl w2 c2 hkey hlk hv hat hrg2 hlt hgr hsz hen
      obtain ⟨pg, bk, bc, rfl, rfl, rfl, hpg, hbk, hbq⟩ := entry_is H.out hkey (HS.out _ hlk) hv hat
      have hen : (Instr.entry (.pointer (some ⟨r, 0, none⟩))).run Try.prog w2 = .ok (.tuple #[.int .i64 pg, .slice (some ⟨bk, 0, none⟩) 256 bc]) w2 := hen
      have hrp : r ≠ p := fun e => by have := H.out.ar.plt; have := HRR.out; omega
      have hrq : r ≠ q := fun e => by have := H.out.ar.b.qlt; have := HRR.out; omega
      have hru : r ≠ u := fun e => by have := H.out.ult; have := HRR.out; omega
      have hrsz : w.heap.size ≤ r := Nat.le_of_eq HRR.out.symm
      have hp0 : Fr (fun i => i = r ∨ i = q) wr w2 := fr_some hgr (fun _ => .inl rfl)
      have HG : Hid (Fr (fun i => i = r ∨ i = q) wr w2) := Lib.hid (fr_some hgr (fun _ => .inl rfl))
      have hb2 : BytesAt w2 q N B1 := HE.out.ar.b.fr (fr_of hgr) (fun e => hrq (Option.some.inj e).symm)
      have HE2 : Hid (EndL w w2 p q u mb N cap B0 B1 rt fl) := HE.out.go H.out.uq r hrp hru HG.out hrsz hb2 HL1.out
      have hbb : BytesAt w2 bk 256 (fun i => B0 (pg * 256 + i)) := hbk.fr HE2.out.fr hbq
      obtain ⟨w3, hrun, hb3, hg3⟩ := copy_run hb2 (pg * 256) 256 (cap - pg * 256) (fun _ => hpg) (fun i => B0 (pg * 256 + i)) (some ⟨bk, 0, none⟩) bc (.inr ⟨bk, 0, rfl, fun i hi => by rw [Nat.zero_add]; exact hbb.c i hi⟩)
      have hrun : ∀ ty, (Builtin.copy_ #[25, 25] ty #[.slice (some ⟨q, pg * 256, none⟩) 256 (cap - pg * 256), mkS (some (bk, bc))]).run Try.prog w2 = .ok (goInt 256) w3 := hrun
      have hlt3 : ∀ i, Ar.setB B1 (pg * 256) 256 (fun i => B0 (pg * 256 + i)) i < 256 := fun i => Ar.setB_lt HL1.out (fun i => H.out.lt0 _) _ _ _
      have HE3 : Hid (EndL w w3 p q u mb N cap B0 (Ar.setB B1 (pg * 256) 256 (fun i => B0 (pg * 256 + i))) rt fl) := HE2.out.go H.out.uq r hrp hru (fr_some hg3 (fun _ => .inr rfl)) hrsz hb3 hlt3
      have HS2 : Hid (∀ z, (left z && !z.sameKey (.int .i64 pg)) = true → Go.Maps.has D z = true) := fun z hz => HS.out z (by simp at hz; exact hz.1)
      have HLT := Lib.hid hlt
      have HL3 := Lib.hid hlt3
      have HRG3 := Lib.hid (hrg2.kept hg3 (by simpa using fun e => H.out.mq e) (by simpa using hrq))
      have HWN : Hid (∀ pg' : Nat, pg' * 256 + 256 ≤ N → (left (.int .i64 pg') && !(Lit.int .i64 pg').sameKey (.int .i64 pg)) = false → ∀ i, i < 256 → Ar.setB B1 (pg * 256) 256 (fun i => B0 (pg * 256 + i)) (pg' * 256 + i) = B0 (pg' * 256 + i)) := by
        intro pg' h' hz i hi
        by_cases hpp : pg' = pg
        · subst hpp
          unfold Ar.setB
          rw [if_pos (by omega)]
          exact congrArg B0 (by omega)
        · unfold Ar.setB
          rw [if_neg (by omega)]
          refine HW0.out pg' h' ?_ i hi
          have : (Lit.int .i64 (pg' : Int)).sameKey (.int .i64 (pg : Int)) = false := Go.Maps.sameKey_ne (fun e => hpp (by injection e with _ e; exact Int.ofNat_inj.1 e))
          rw [this] at hz
          simpa using hz
      have k0 := HE2.out.k0
      have HC := Lib.hid (fun W (g : W = w2) => page_is p q N cap pg W (by rw [g]; exact HE2.out.ar.c0) hN H.out.ar.hcap hpg)
      clear hrg hat hlk hkey hgr hsz hlt hv HS HG HE hb2 hbb hb3 hg3 hlt3 HW0 HL1 hrg2
      go_wp2_with (go_at_call 77; refine (HC.out _ rfl).mono ?_; rintro e w' ⟨rfl, rfl⟩)
      go_roundw
      case rel => exact ⟨_, _, _, HRG3.out, HS2.out, HE3.out, HL3.out, HWN.out⟩
      case measure => rw [HRG3.out.left_eq, HM.out]; exact HLT.out
end Go.Proofs.Ytbpganholopjfaa
