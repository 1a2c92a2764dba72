/- Merged texts: OM ON OP OQ OR OS. -/
import Derived.Test.YtgnfcklippjeeaaGreatL1
/- The document's region: the walks of Drop, Give of slots. -/
namespace Go.Proofs.YtgnfcklippjeeaaGreat
open Go.RowKit
open Sl (Cls bs upd LnkIs)
open Lg (pgs)
open Rf (LZ)

set_option maxRecDepth 100000 in
set_option maxHeartbeats 1000000 in
theorem drdrop_no {w : World} {T : Nat → Nat} {D : Dp} {V : St} {a : Int} {x : Option Pc} (h : DrAt w T D V) (hx : V.At a x) (hn : ∀ p, x = some p → (p.b : Int) ≠ a) :
    Calls Tryz.prog 52 #[.pointer (some ⟨D.p, 0, none⟩), .int .i64 a] w fun e w' => e = .returned (.tuple #[.bool false, .int .i64 6]) ∧ w.grownBy w' none := by
  have HF := dfind_at h hx
  cases x with
  | none =>
    unfold fndV pc0 at HF
    simp only [] at HF
    have HF := Lib.hid HF
    clear h hx hn
    go_enter Tryz.func52, Tryz.ntmps52
    go_wp2_with fail
    refine HF.out.mono ?_
    rintro e w1 ⟨rfl, m1⟩
    go_wp2
    go_ret2
    exact ⟨rfl, grown_trans m1 (grown_alloc _ _ _)⟩
  | some p =>
    have hb := hn p rfl
    unfold fndV pcv at HF
    simp only [] at HF
    have hb' : ((p.b : Int) != a) = true := by simpa using hb
    have HF := Lib.hid HF
    clear h hx hn hb
    generalize ((p.b : Nat) : Int) = b at *
    go_enter Tryz.func52, Tryz.ntmps52
    go_wp2_with fail
    refine HF.out.mono ?_
    rintro e w1 ⟨rfl, m1⟩
    go_wp2
    go_ret2
    exact ⟨rfl, grown_trans m1 (grown_alloc _ _ _)⟩

set_option maxRecDepth 100000 in
set_option maxHeartbeats 2000000 in
theorem drdrop_core {w : World} {T : Nat → Nat} {D : Dp} {V : St} {g k : Nat} {d d' : Sd} {B2 : Nat → Nat} {bo : Bool} {er : Int} (h : DrAt w T D V) (hT : ∀ i, w.heap.size ≤ i → T i = 2) (hl : V.L g = some d) (hk : k < d.n) (ho : d'.o = d.o)
    (HD : Hid (∀ W w1, w.grownBy W none → DSl W w1 T D V g d → Calls Tryz.prog 112 #[.pointer (some ⟨D.xs g, 0, none⟩), .int .i64 k] w1 fun e w2 => e = .returned (.tuple #[.bool bo, .int .i64 er]) ∧ DRs w1 w2 T D V g d' B2)) :
    Calls Tryz.prog 52 #[.pointer (some ⟨D.p, 0, none⟩), .int .i64 (bs g d.s k : Nat)] w fun e w' => e = .returned (.tuple #[.bool bo, .int .i64 er]) ∧ DrW w' T D (V.put g d' B2) ∧ Fr (fun i => 3 ≤ T i) w w' := by
  obtain ⟨hgm, _, hd⟩ := h.ok.sl g d hl
  have hgn : g < V.n := by have := h.ok.mn; omega
  obtain ⟨e1, e2⟩ := Sl.bs_slot hd.c g hk
  have HF := dfind_at h (V := V) (a := (bs g d.s k : Nat)) (.slot g d _ rfl e1 hgn hl)
  rw [e2] at HF
  unfold fndV pcv spc at HF
  simp only [] at HF
  have HF := Lib.hid HF
  have HS := Lib.hid (fun W (g1 : w.grownBy W none) => dslab_some (h.grown g1) hl)
  have HST : Hid (∀ W w1 w2, w.grownBy W none → DSl W w1 T D V g d → DRs w1 w2 T D V g d' B2 → _) := Lib.hid (fun W w1 w2 gr h1 h2 => drs_store hl h1 h2 ho (by rw [h.tx g d hl]; omega) (by rw [h.tp]; omega))
  have HNE : Hid (∀ q, w.heap.size ≤ q → some q ≠ some (D.xs g)) := Lib.hid (fun q hq => some_ne (lab_ne (hT q hq) (h.tx g d hl) (by omega)))
  clear h hl hk hgm hd hgn e1 e2 ho hT
  generalize ((bs g d.s k : Nat) : Int) = b at *
  generalize ((d.S k : Nat) : Int) = st at *
  generalize ((d.r : Nat) : Int) = sz at *
  generalize hs : D.xs g = s at *
  have HSX := Lib.hid hs
  clear hs
  generalize hp : D.p = p at *
  have HPX := Lib.hid hp
  clear hp
  go_enter Tryz.func52, Tryz.ntmps52
  go_wp2_with fail
  refine HF.out.mono ?_
  rintro e w1 ⟨rfl, m1⟩
  go_upto_region 10 with (fail)
  have m2 := grown_alloc w1 (.cells #[.int .i64 g, .int .i64 k, .int .i64 b, .int .i64 sz, .int .i64 st, .bool false] 101) none
  obtain ⟨e0, e1⟩ := place_new w1 g k b sz st false 101
  have HG := Lib.hid (grown_trans m1 m2)
  have HQ := Lib.hid m1.size
  clear m1 m2 HF
  generalize w1.alloc (.cells #[.int .i64 g, .int .i64 k, .int .i64 b, .int .i64 sz, .int .i64 st, .bool false] 101) = w2 at *
  generalize w1.heap.size = q at *
  have HE := Lib.hid (And.intro e0 e1)
  go_upto_region 11 with ((go_at_call 108; (with_reducible refine (HS.out _ HG.out).mono ?_); rintro e w3 ⟨rfl, hs⟩; have H1 := Lib.hid hs; have e1 : w3.cell? ⟨q, 1, none⟩ = some (.int .i64 k) := (by obtain ⟨_, _, _, _, _, _, _, _, _, hgr⟩ := hs; rw [HSX.out] at hgr; exact hgr.cell HE.out.2 (HNE.out _ HQ.out)); clear hs))
  clear e0
  go_upto_region 12 with ((go_at_call 112; (with_reducible refine (HD.out _ _ HG.out H1.out).mono ?_); rintro e w4 ⟨rfl, hr⟩; have H2 := Lib.hid hr; clear hr))
  obtain ⟨q2, cap, c0, ⟨v, c2⟩, z2, hW, hf, -⟩ := HST.out _ _ _ HG.out H1.out H2.out


  have HW := Lib.hid (And.intro hW ((fr_none (may := fun i => 3 ≤ T i) HG.out).trans hf))
  clear hW hf HST HS HD H1 H2 e1
  go_wp2
  go_ret2
  exact ⟨rfl, HW.out⟩

set_option maxRecDepth 100000 in
set_option maxHeartbeats 1000000 in
theorem drgive_no {w : World} {T : Nat → Nat} {D : Dp} {V : St} {a : Int} {x : Option Pc} (h : DrAt w T D V) (hx : V.At a x) (hn : ∀ p, x = some p → (p.b : Int) ≠ a ∨ p.gr = true) :
    Calls Tryz.prog 53 #[.pointer (some ⟨D.p, 0, none⟩), .int .i64 a] w fun e w' => e = .returned (.int .i64 6) ∧ w.grownBy w' none := by
  have HF := dfind_at h hx
  cases x with
  | none =>
    unfold fndV pc0 at HF
    simp only [] at HF
    have HF := Lib.hid HF
    clear h hx hn
    go_enter Tryz.func53, Tryz.ntmps53
    go_wp2_with fail
    refine HF.out.mono ?_
    rintro e w1 ⟨rfl, m1⟩
    go_wp2
    go_ret
    exact ⟨rfl, grown_trans m1 (grown_alloc _ _ _)⟩
  | some p =>
    have hb := hn p rfl
    unfold fndV pcv at HF
    simp only [] at HF
    by_cases hne : (p.b : Int) = a
    · have hgr : p.gr = true := hb.resolve_left (fun h => h hne)
      rw [hgr] at HF
      have hb' : ((p.b : Int) != a) = false := by simpa using hne
      have HF := Lib.hid HF
      clear h hx hn hb hne hgr
      generalize ((p.b : Nat) : Int) = b at *
      go_enter Tryz.func53, Tryz.ntmps53
      go_wp2_with fail
      refine HF.out.mono ?_
      rintro e w1 ⟨rfl, m1⟩
      go_wp2
      go_ret
      exact ⟨rfl, grown_trans m1 (grown_alloc _ _ _)⟩
    · have hb' : ((p.b : Int) != a) = true := by simpa using hne
      have HF := Lib.hid HF
      clear h hx hn hb hne
      generalize ((p.b : Nat) : Int) = b at *
      go_enter Tryz.func53, Tryz.ntmps53
      go_wp2_with fail
      refine HF.out.mono ?_
      rintro e w1 ⟨rfl, m1⟩
      go_wp2
      go_ret
      exact ⟨rfl, grown_trans m1 (grown_alloc _ _ _)⟩

set_option maxRecDepth 100000 in
set_option maxHeartbeats 2000000 in
theorem drgive_core {w : World} {T : Nat → Nat} {D : Dp} {V : St} {g k : Nat} {d d' : Sd} {B2 : Nat → Nat} {er : Int} (h : DrAt w T D V) (hT : ∀ i, w.heap.size ≤ i → T i = 2) (hl : V.L g = some d) (hk : k < d.n) (ho : d'.o = d.o)
    (HD : Hid (∀ W w1, w.grownBy W none → DSl W w1 T D V g d → Calls Tryz.prog 113 #[.pointer (some ⟨D.xs g, 0, none⟩), .int .i64 k] w1 fun e w2 => e = .returned (.int .i64 er) ∧ DRs w1 w2 T D V g d' B2)) :
    Calls Tryz.prog 53 #[.pointer (some ⟨D.p, 0, none⟩), .int .i64 (bs g d.s k : Nat)] w fun e w' => e = .returned (.int .i64 er) ∧ DrW w' T D (V.put g d' B2) ∧ Fr (fun i => 3 ≤ T i) w w' := by
  obtain ⟨hgm, _, hd⟩ := h.ok.sl g d hl
  have hgn : g < V.n := by have := h.ok.mn; omega
  obtain ⟨e1, e2⟩ := Sl.bs_slot hd.c g hk
  have HF := dfind_at h (V := V) (a := (bs g d.s k : Nat)) (.slot g d _ rfl e1 hgn hl)
  rw [e2] at HF
  unfold fndV pcv spc at HF
  simp only [] at HF
  have HF := Lib.hid HF
  have HS := Lib.hid (fun W (g1 : w.grownBy W none) => dslab_some (h.grown g1) hl)
  have HST : Hid (∀ W w1 w2, w.grownBy W none → DSl W w1 T D V g d → DRs w1 w2 T D V g d' B2 → _) := Lib.hid (fun W w1 w2 gr h1 h2 => drs_store hl h1 h2 ho (by rw [h.tx g d hl]; omega) (by rw [h.tp]; omega))
  have HNE : Hid (∀ q, w.heap.size ≤ q → some q ≠ some (D.xs g)) := Lib.hid (fun q hq => some_ne (lab_ne (hT q hq) (h.tx g d hl) (by omega)))
  clear h hl hk hgm hd hgn e1 e2 ho hT
  generalize ((bs g d.s k : Nat) : Int) = b at *
  generalize ((d.S k : Nat) : Int) = st at *
  generalize ((d.r : Nat) : Int) = sz at *
  generalize hs : D.xs g = s at *
  have HSX := Lib.hid hs
  clear hs
  generalize hp : D.p = p at *
  have HPX := Lib.hid hp
  clear hp
  go_enter Tryz.func53, Tryz.ntmps53
  go_wp2_with fail
  refine HF.out.mono ?_
  rintro e w1 ⟨rfl, m1⟩
  go_upto_region 4 with (fail)
  have m2 := grown_alloc w1 (.cells #[.int .i64 g, .int .i64 k, .int .i64 b, .int .i64 sz, .int .i64 st, .bool false] 101) none
  obtain ⟨e0, e1⟩ := place_new w1 g k b sz st false 101
  have HG := Lib.hid (grown_trans m1 m2)
  have HQ := Lib.hid m1.size
  clear m1 m2 HF
  generalize w1.alloc (.cells #[.int .i64 g, .int .i64 k, .int .i64 b, .int .i64 sz, .int .i64 st, .bool false] 101) = w2 at *
  generalize w1.heap.size = q at *
  have HE := Lib.hid (And.intro e0 e1)
  go_upto_region 5 with ((go_at_call 108; (with_reducible refine (HS.out _ HG.out).mono ?_); rintro e w3 ⟨rfl, hs⟩; have H1 := Lib.hid hs; have e1 : w3.cell? ⟨q, 1, none⟩ = some (.int .i64 k) := (by obtain ⟨_, _, _, _, _, _, _, _, _, hgr⟩ := hs; rw [HSX.out] at hgr; exact hgr.cell HE.out.2 (HNE.out _ HQ.out)); clear hs))
  clear e0
  go_upto_region 6 with ((go_at_call 113; (with_reducible refine (HD.out _ _ HG.out H1.out).mono ?_); rintro e w4 ⟨rfl, hr⟩; have H2 := Lib.hid hr; clear hr))
  obtain ⟨q2, cap, c0, ⟨v, c2⟩, z2, hW, hf, -⟩ := HST.out _ _ _ HG.out H1.out H2.out


  have HW := Lib.hid (And.intro hW ((fr_none (may := fun i => 3 ≤ T i) HG.out).trans hf))
  clear hW hf HST HS HD H1 H2 e1
  go_wp2
  go_ret
  exact ⟨rfl, HW.out⟩

end Go.Proofs.YtgnfcklippjeeaaGreat

/- The document's region: the walk of Drop of a great block. -/
namespace Go.Proofs.YtgnfcklippjeeaaGreat
open Go.RowKit
open Sl (Cls bs upd LnkIs)
open Lg (pgs)
open Rf (LZ)

/-- The set has the region's bytes. -/
def DGr (w w' : World) (T : Nat → Nat) (D : Dp) (V : St) : Prop := ∃ q cap A vc L, RgAt 0 w' D.g q cap V.key (V.n * 256) A vc L V.B ∧ LZ L V.Z ∧ T q = 2 ∧ (L.length ≠ 0 → ∀ a, A = some a → T a.block = 2) ∧ DrW w' T D V ∧ w.grownBy w' (some D.g)
theorem dgr_set {w : World} {T : Nat → Nat} {D : Dp} {V : St} (h : DrW w T D V) (hn1 : 1 ≤ V.n) (hlt : ∀ i, V.B i < 256) :
    ∃ q cap, w.cell? ⟨D.p, 2, none⟩ = some (.slice (some ⟨q, 0, none⟩) (V.n * 256) cap) ∧ ∀ W, w.grownBy W none → W.cell? ⟨D.p, 5, none⟩ = some (.pointer (some ⟨D.g, 0, none⟩)) ∧ W.cell? ⟨D.p, 2, none⟩ = some (.slice (some ⟨q, 0, none⟩) (V.n * 256) cap) ∧ (∃ v, W.cell? ⟨D.g, 0, none⟩ = some v) ∧ W.frozen? ⟨D.g, 0, none⟩ = false ∧ DGr w (W.setCell ⟨D.g, 0, none⟩ (.slice (some ⟨q, 0, none⟩) (V.n * 256) cap)) T D V := by
  obtain ⟨q, cap, b1, b2, b3, b4⟩ := h.bt
  refine ⟨q, cap, b1, fun W gr => ?_⟩
  have hW := h.grown gr
  have b1' := gr.cell b1 (by simp)
  have b3' := b3.grown gr (by simp)
  obtain ⟨qg, cg, A, vc, L, Bg, g1, g2, g3, g4⟩ := hW.gr
  have hgs := An.agrown_set W D.g 0 (.slice (some ⟨q, 0, none⟩) (V.n * 256) cap)
  have hqg : q ≠ D.g := lab_ne b4 h.tg (by omega)
  have hN : 0 < V.n * 256 := by omega
  have hR : RgAt 0 (W.setCell ⟨D.g, 0, none⟩ (.slice (some ⟨q, 0, none⟩) (V.n * 256) cap)) D.g q cap V.key (V.n * 256) A vc L V.B := by
    refine ⟨World.cell?_setCell_same' _ _ _ (by rw [g1.c0]; rfl), setc_other (by decide) g1.c1, setc_other (by decide) g1.c2, fun k => by rw [World.frozen?_setCell]; exact g1.fz k, b3'.grown hgs (some_ne hqg), b2, g1.hv, ?_, hqg, Nat.zero_le _, Nat.zero_le _, g1.small, hlt, g1.k⟩
    by_cases e0 : L.length = 0
    · exact .inl e0
    · refine g1.els.imp id (fun ⟨gb, e, n1, n2, hc⟩ => ⟨gb, e, n1, ?_, fun i hi => ⟨hgs.cell (hc i hi).1 (some_ne n1), hgs.cell (hc i hi).2 (some_ne n1)⟩⟩)
      rintro rfl
      have h1 := (hc 0 (by omega)).1
      rw [Nat.zero_mul, b3'.c 0 hN] at h1
      simp at h1
  exact ⟨hW.c5, b1', ⟨_, g1.c0⟩, g1.fz 0, q, cap, A, vc, L, hR, g2, b4, g4, hW.great hgs hR g2 b4 g4, grown_trans (grown_none gr) hgs⟩
theorem DGr.grown {w w1 w2 : World} {T : Nat → Nat} {D : Dp} {V : St} (h : DGr w w1 T D V) (hg : w1.grownBy w2 none) : DGr w w2 T D V := by
  obtain ⟨q1, cap1, A1, vc1, L1, s1, s2, s3, s4, s5, s6⟩ := h
  exact ⟨q1, cap1, A1, vc1, L1, s1.grown hg, s2, s3, s4, s5.grown hg, grown_trans s6 (grown_none hg)⟩
theorem dgr_store {w w1 w2 : World} {T : Nat → Nat} {D : Dp} {V : St} {Z2 B2 : Nat → Nat} {q2 cap2 vc2 : Nat} {A2 : Option Addr} {L2 : List (Nat × Nat)} (h : DGr w w1 T D V) (hg : w1.grownBy w2 (some D.g)) (h2 : RgAt 0 w2 D.g q2 cap2 V.key (V.n * 256) A2 vc2 L2 B2) (hz : LZ L2 Z2) (hq : T q2 = 2) (hA : L2.length ≠ 0 → ∀ a, A2 = some a → T a.block = 2) :
    w2.cell? ⟨D.p, 5, none⟩ = some (.pointer (some ⟨D.g, 0, none⟩)) ∧ w2.cell? ⟨D.g, 0, none⟩ = some (.slice (some ⟨q2, 0, none⟩) (V.n * 256) cap2) ∧ (∃ v, w2.cell? ⟨D.p, 2, none⟩ = some v) ∧ w2.frozen? ⟨D.p, 2, none⟩ = false ∧
      DrW (w2.setCell ⟨D.p, 2, none⟩ (.slice (some ⟨q2, 0, none⟩) (V.n * 256) cap2)) T D { V with B := B2, Z := Z2 } ∧ Fr (fun i => 3 ≤ T i) w (w2.setCell ⟨D.p, 2, none⟩ (.slice (some ⟨q2, 0, none⟩) (V.n * 256) cap2)) := by
  obtain ⟨q1, cap1, A1, vc1, L1, s1, s2, s3, s4, s5, s6⟩ := h
  have hW := s5.great hg h2 hz hq hA
  obtain ⟨q0, cap0, b1, _⟩ := hW.bt
  have hgs := An.agrown_set w2 D.p 2 (.slice (some ⟨q2, 0, none⟩) (V.n * 256) cap2)
  exact ⟨hW.c5, h2.c0, ⟨_, b1⟩, hW.fz 2, hW.bytes h2.b h2.hcap hq, (fr_some (may := fun i => 3 ≤ T i) (grown_trans s6 hg) (fun _ => by rw [s5.tg]; omega)).trans (fr_some hgs (fun _ => by rw [s5.tp]; omega))⟩
/-- The rows are others. -/
theorem drw_rows {w w2 : World} {T : Nat → Nat} {D : Dp} {V : St} {q cap : Nat} {R' : Nat → Pg.Row} (h : DrW w T D V) (hg : w.grownBy w2 none) (hr : Pt.RowsAt w2 q V.n R') (hc : V.n ≤ cap) (hq : T q = 2) :
    (∃ v, w2.cell? ⟨D.p, 3, none⟩ = some v) ∧ w2.frozen? ⟨D.p, 3, none⟩ = false ∧ DrW (w2.setCell ⟨D.p, 3, none⟩ (.slice (some ⟨q, 0, none⟩) V.n cap)) T D { V with R := R' } ∧ Fr (fun i => 3 ≤ T i) w (w2.setCell ⟨D.p, 3, none⟩ (.slice (some ⟨q, 0, none⟩) V.n cap)) := by
  have h2 := h.grown hg
  obtain ⟨q0, cap0, b1, _⟩ := h2.rw_
  exact ⟨⟨_, b1⟩, h2.fz 3, h2.rows hr hc hq, (fr_none hg).trans (fr_some (An.agrown_set _ _ _ _) (fun _ => by rw [h.tp]; omega))⟩

set_option maxRecDepth 100000 in
set_option maxHeartbeats 4000000 in
theorem drdrop_great {w : World} {T : Nat → Nat} {D : Dp} {V : St} {g : Nat} (h : DrAt w T D V) (hT : ∀ i, w.heap.size ≤ i → T i = 2) (hz : V.Z g ≠ 0) :
    Calls Tryz.prog 52 #[.pointer (some ⟨D.p, 0, none⟩), .int .i64 (g * 256 : Nat)] w fun e w' => e = .returned (.tuple #[.bool (V.gstd g), .int .i64 0]) ∧ DrW w' T D (V.gdrop g) ∧ Fr (fun i => 3 ≤ T i) w w' := by
  obtain ⟨hr1, hr2, hr3, hr4⟩ := h.ok.gr g hz
  have hpg := Lg.pgs_pos (V.Z g)
  have hmn := h.ok.mn
  have hgr : V.Gr g g := ⟨hz, Nat.le_refl _, by omega⟩
  have HF := dfind_at h (V := V) (a := (g * 256 : Nat)) (.great g g _ rfl (by omega) (by omega) (h.ok.sl_gr hgr) hgr)
  unfold fndV pcv gpc at HF
  simp only [] at HF
  have HF := Lib.hid HF
  have HV := Lib.hid h
  have HLEN := Lib.hid (fun L hL => h.ok.lz_len (L := L) hL)
  have HD : Hid (∀ w0 w1, w.grownBy w0 none → DGr w0 w1 T D V → Calls Tryz.prog 110 #[.pointer (some ⟨D.g, 0, none⟩), .int .i64 g] w1 fun e w2 => e = .returned (.tuple #[.bool (V.gstd g), .int .i64 0]) ∧ w2.cell? ⟨D.p, 5, none⟩ = some (.pointer (some ⟨D.g, 0, none⟩)) ∧ (∃ q2 cap2, w2.cell? ⟨D.g, 0, none⟩ = some (.slice (some ⟨q2, 0, none⟩) (V.n * 256) cap2) ∧ (∃ v, w2.cell? ⟨D.p, 2, none⟩ = some v) ∧ w2.frozen? ⟨D.p, 2, none⟩ = false ∧
      DrW (w2.setCell ⟨D.p, 2, none⟩ (.slice (some ⟨q2, 0, none⟩) (V.n * 256) cap2)) T D { V with B := Lg.dropB g (V.Z g) V.B, Z := upd V.Z g 0 } ∧ Fr (fun i => 3 ≤ T i) w (w2.setCell ⟨D.p, 2, none⟩ (.slice (some ⟨q2, 0, none⟩) (V.n * 256) cap2))) ∧ w1.grownBy w2 (some D.g)) := Lib.hid (fun w0 w1 gr hd => by
    obtain ⟨q, cap, A, vc, L, k1, k2, k3, k4, k5, k6⟩ := hd
    have hlen := h.ok.lz_len k2
    refine (rdrop_ok k1 k2 h.ok.lg (by omega) g hz).mono ?_
    rintro e w2 ⟨he, hgw, q', cap', A', vc', L', j1, j2, j3, j4, j5⟩
    have hs := gr.size
    have hs2 := k6.size
    obtain ⟨r1, r2, r3, r4, r5, r6⟩ := dgr_store ⟨q, cap, A, vc, L, k1, k2, k3, k4, k5, k6⟩ hgw j1 j2 (hT _ (by omega)) (fun _ a ha => hT _ (by have := j5 a ha; omega))
    exact ⟨he, r1, ⟨q', cap', r2, r3, r4, r5, (fr_none gr).trans r6⟩, hgw⟩)
  have HCL : Hid (∀ W q cap, Pt.RowsAt W q V.n V.R → Calls Tryz.prog 111 #[.slice (some ⟨q, 0, none⟩) V.n cap, .int .i64 g] W fun e w' => Pt.PRows W w' V.n (Pg.clr V.R g (pgs (V.Z g))) e) := Lib.hid (fun W q cap hrow => Pt.rclear_at q V.n cap g (pgs (V.Z g)) V.R W h.ok.n256 hpg (by omega) (by rw [hr4]; rfl) hrow)
  have HNQ : Hid (∀ i, w.heap.size ≤ i → i ≠ D.g ∧ i ≠ D.p ∧ T i = 2) := Lib.hid (fun i hi => ⟨lab_ne (hT i hi) h.tg (by omega), lab_ne (hT i hi) h.tp (by omega), hT i hi⟩)
  have hgi : (g : Int) < 256 := by have := h.ok.n256; omega
  clear h hr1 hr2 hr3 hr4 hpg hmn hgr hz
  generalize hbd : ((g * 256 : Nat) : Int) = b at *
  clear hbd
  generalize ((V.Z g : Nat) : Int) = sz at *
  go_enter Tryz.func52, Tryz.ntmps52
  go_wp2_with fail
  refine HF.out.mono ?_
  rintro e w1 ⟨rfl, m1⟩
  go_upto_region 5 with (fail)
  have m2 := grown_alloc w1 (.cells #[.int .i64 g, .int .i64 0, .int .i64 b, .int .i64 sz, .int .i64 1, .bool true] 101) none
  obtain ⟨e0, -⟩ := place_new w1 g 0 b sz 1 true 101
  have HG := Lib.hid (grown_trans m1 m2)
  have HQ := Lib.hid m1.size
  clear m1 m2 HF
  generalize w1.alloc (.cells #[.int .i64 g, .int .i64 0, .int .i64 b, .int .i64 sz, .int .i64 1, .bool true] 101) = w2 at *
  generalize w1.heap.size = q at *
  obtain ⟨nqg, nqp, tq⟩ := HNQ.out _ HQ.out
  obtain ⟨qb, cb, hb2, hset⟩ := dgr_set (HV.out.toDrW.grown HG.out) HV.out.ok.n1 HV.out.ok.lt
  have hg2 := grown_drew1 (grown_refl w2 none)
  have HSET := Lib.hid hset
  obtain ⟨p5', p2', ⟨v0, g0'⟩, gz', hdg⟩ := hset _ hg2
  obtain ⟨p5, p2, -⟩ := HSET.out _ (grown_refl w2 none)
  have e0' := hg2.cell e0 (by simp)
  have HX : Hid ((w2.drew.setCell ⟨D.g, 0, none⟩ (.slice (some ⟨qb, 0, none⟩) (V.n * 256) cb)).cell? ⟨q, 0, none⟩ = some (.int .i64 g)) := Lib.hid ((An.agrown_set w2.drew D.g 0 (.slice (some ⟨qb, 0, none⟩) (V.n * 256) cb)).cell e0' (some_ne nqg))
  have HDG := Lib.hid hdg
  clear hdg hset hb2 HSET e0'
  go_still_tail 10, (by kernel_rfl)
  change wpList _ _ _ _ _ w2.drew
  generalize w2.drew = w3 at *
  go_upto_region 6 with (fail)
  obtain ⟨w4, hw4⟩ : ∃ w4 : World, w4 = w3.setCell ⟨D.g, 0, none⟩ (.slice (some ⟨qb, 0, none⟩) (V.n * 256) cb) := ⟨_, rfl⟩
  rw [← hw4] at HX HDG ⊢
  clear hw4 g0' gz' p5' p2' hg2
  have e0 := HX.out
  have p5 : w4.cell? ⟨D.p, 5, none⟩ = some (.pointer (some ⟨D.g, 0, none⟩)) := by obtain ⟨_, _, _, _, _, _, _, _, _, k, _⟩ := HDG.out; exact k.c5
  have hg4 := grown_drew1 (grown_refl w4 none)
  have HD4 := Lib.hid (HD.out _ _ HG.out (HDG.out.grown hg4))
  have HX4 := Lib.hid (hg4.cell e0 (by simp))
  have HDG4 := Lib.hid (HDG.out.grown hg4)
  clear hg4 HD HDG HX
  have HQ4 : Hid (∀ W, w4.grownBy W none → W.cell? ⟨D.p, 5, none⟩ = some (.pointer (some ⟨D.g, 0, none⟩)) ∧ W.cell? ⟨q, 0, none⟩ = some (.int .i64 g)) := Lib.hid (fun W gr => ⟨gr.cell p5 (by simp), gr.cell e0 (by simp)⟩)
  have hg4 := grown_drew1 (grown_refl w4 none)
  go_region_held3 (fun w' => w'.cell? ⟨D.p, 5, none⟩ = some (.pointer (some ⟨D.g, 0, none⟩)) ∧ w'.cell? ⟨q, 0, none⟩ = some (.int .i64 g))
    (first | exact ⟨p5, e0⟩ | exact HQ4.out _ (by assumption) | exact HS6.out)
    ((first
    | (go_at_call 110; (with_reducible refine HD4.out.mono ?_); rintro e w6 ⟨rfl, hc5, hrest, hgw⟩; have HR := Lib.hid hrest; have HX6 := Lib.hid (hgw.cell HX4.out (some_ne nqg)); have HC5 := Lib.hid hc5; have HS6 := Lib.hid (And.intro hc5 HX6.out); clear hrest hgw hc5)))
  clear hg4 HQ4 HS6
  obtain ⟨q2, cap2, r2, ⟨v1, r3⟩, r4, r5, r6⟩ := HR.out
  have hc5 := HC5.out
  have HW := Lib.hid r5
  have HFR := Lib.hid r6
  have HX7 : Hid ((w6.setCell ⟨D.p, 2, none⟩ (.slice (some ⟨q2, 0, none⟩) (V.n * 256) cap2)).cell? ⟨q, 0, none⟩ = some (.int .i64 g)) := Lib.hid ((An.agrown_set w6 D.p 2 (.slice (some ⟨q2, 0, none⟩) (V.n * 256) cap2)).cell HX6.out (some_ne nqp))
  clear r5 r6 HR HC5 HD4 HX4 HX6 HDG4 e0 p5 p2
  go_upto_region 8 with (fail)
  obtain ⟨w7, hw7⟩ : ∃ w7 : World, w7 = w6.setCell ⟨D.p, 2, none⟩ (.slice (some ⟨q2, 0, none⟩) (V.n * 256) cap2) := ⟨_, rfl⟩
  rw [← hw7] at HW HFR HX7 ⊢
  clear hw7 r2 r3 r4 hc5
  obtain ⟨qr, cr, b1, b2, b3, b4⟩ := HW.out.rw_
  have HQR : Hid (∀ W, w7.grownBy W none → W.cell? ⟨D.p, 3, none⟩ = some (.slice (some ⟨qr, 0, none⟩) V.n cr) ∧ W.cell? ⟨q, 0, none⟩ = some (.int .i64 g)) := Lib.hid (fun W gr => ⟨gr.cell b1 (by simp), gr.cell HX7.out (by simp)⟩)
  have HC7 : Hid (∀ W, w7.grownBy W none → Calls Tryz.prog 111 #[.slice (some ⟨qr, 0, none⟩) V.n cr, .int .i64 g] W fun e w' => Pt.PRows W w' V.n (Pg.clr V.R g (pgs (V.Z g))) e) := Lib.hid (fun W gr => HCL.out W qr cr (b3.grown gr (by simp)))
  have HRW : Hid (∀ w8 q8 cap8, w7.grownBy w8 none → V.n ≤ cap8 → w7.heap.size ≤ q8 → Pt.RowsAt w8 q8 V.n (Pg.clr V.R g (pgs (V.Z g))) → w8.cell? ⟨D.p, 3, none⟩ = some (.slice (some ⟨qr, 0, none⟩) V.n cr) ∧ w8.frozen? ⟨D.p, 3, none⟩ = false ∧ DrW (w8.setCell ⟨D.p, 3, none⟩ (.slice (some ⟨q8, 0, none⟩) V.n cap8)) T D (V.gdrop g) ∧ Fr (fun i => 3 ≤ T i) w (w8.setCell ⟨D.p, 3, none⟩ (.slice (some ⟨q8, 0, none⟩) V.n cap8))) := Lib.hid (fun w8 q8 cap8 gr k1 k2 k3 => by
    obtain ⟨_, j2, j3, j4⟩ := drw_rows HW.out gr k3 k1 (HNQ.out q8 (Nat.le_trans HFR.out.size k2)).2.2
    exact ⟨gr.cell b1 (by simp), j2, j3, HFR.out.trans j4⟩)
  have e7 := HX7.out
  have hg0 := grown_refl w7 none
  have hg1 := grown_drew1 hg0
  have b1' := hg1.cell b1 (by simp)
  clear b2 b3 b4 HCL HNQ HLEN
  have e7' := hg1.cell e7 (by simp)
  have HCC := Lib.hid (HC7.out _ hg1)
  go_region_law (first
    | (go_simp; go_at_call 111; (with_reducible refine HCC.out.mono ?_); rintro e w8 ⟨q8, cap8, rfl, k1, k2, k3, k4⟩; have hg8 := grown_trans hg1 k4; obtain ⟨c8, z8, hW8, hF8⟩ := HRW.out _ _ _ hg8 k1 k2 k3; have K := Lib.hid (And.intro hW8 hF8); clear k1 k2 k3 k4 hW8 hF8))
  all_goals
    go_wp2
    go_ret2
    exact ⟨rfl, K.out⟩
end Go.Proofs.YtgnfcklippjeeaaGreat

/- The document's region: the walk of Shut. -/
namespace Go.Proofs.YtgnfcklippjeeaaGreat
open Go.RowKit
open Sl (Cls bs upd LnkIs)
open Lg (pgs)
open Rf (LZ)

theorem cnt_sum {S : Nat → Nat} (h : ∀ k, S k ≤ 2) : ∀ n, cntS S 0 n + cntS S 1 n + cntS S 2 n = n
  | 0 => rfl
  | n + 1 => by
    have := cnt_sum h n
    have := h n
    simp only [cntS_succ]
    have h3 : S n = 0 ∨ S n = 1 ∨ S n = 2 := by omega
    rcases h3 with e | e | e <;> rw [e] <;> simp <;> omega
set_option maxRecDepth 100000 in
set_option maxHeartbeats 1000000 in
theorem dshut_none {w : World} {T : Nat → Nat} {D : Dp} {V : St} (h : DrW w T D V) (page : Int) (hl : ∀ g : Nat, page = g → V.L g = none) :
    Calls Tryz.prog 54 #[.pointer (some ⟨D.p, 0, none⟩), .int .i64 page] w fun e w' => e = .returned (.int .i64 6) ∧ w = w' := by
  have HS := Lib.hid (dslab_none h page hl)
  clear h hl
  go_enter Tryz.func54, Tryz.ntmps54
  go_wp2_with (go_at_call 108; (with_reducible refine HS.out.mono ?_); rintro e w' ⟨rfl, rfl⟩)
  go_ret
  exact ⟨rfl, rfl⟩
set_option maxRecDepth 100000 in
set_option maxHeartbeats 2000000 in
theorem dshut_busy {w : World} {T : Nat → Nat} {D : Dp} {V : St} {g : Nat} {d : Sd} (h : DrAt w T D V) (hl : V.L g = some d) (hb : 0 < cntS d.S 1 d.n ∨ 0 < cntS d.S 2 d.n) :
    Calls Tryz.prog 54 #[.pointer (some ⟨D.p, 0, none⟩), .int .i64 g] w fun e w' => e = .returned (.int .i64 8) ∧ DrW w' T D V ∧ Fr (fun i => 3 ≤ T i) w w' := by
  have HS := Lib.hid (dslab_some h hl)
  have hd := (h.ok.sl g d hl).2.2
  have hsum := cnt_sum hd.st d.n
  have hlt : ((cntS d.S 0 d.n : Nat) : Int) < (d.n : Int) := by omega
  have h16 : (d.n : Int) ≤ 16 := by have := hd.c.facts.n16; omega
  have HN16 := Lib.hid hd.c.facts.n16
  have HX3 := Lib.hid (show 3 ≤ T (D.xs g) by rw [h.tx g d hl]; omega)
  clear h hl hb hd hsum
  go_enter Tryz.func54, Tryz.ntmps54
  go_upto_region 4 with ((go_at_call 108; (with_reducible refine HS.out.mono ?_); rintro e w1 ⟨rfl, hs⟩; have H1 := Lib.hid hs; clear hs))
  obtain ⟨q, cap, A, ac, k1, k2, k3, k4, k5, k6⟩ := H1.out
  have c4 := k2.c4
  have HCN : Hid (∀ n, Calls Tryz.prog 114 #[.pointer (some ⟨D.xs g, 0, none⟩), .int .i64 0] (w1.drewN n) fun e w' => e = .returned (.int .i64 (cntS d.S 0 d.n : Nat)) ∧ w1.drewN n = w') := Lib.hid (fun n => dcount_at (k2.grown (grown_drew (grown_refl w1 none) n)).c4 (k2.grown (grown_drew (grown_refl w1 none) n)).st HN16.out 0)
  have HW := Lib.hid (fun n => And.intro (k5.grown (grown_drew (grown_refl w1 none) n)) (fr_some (may := fun i => 3 ≤ T i) (grown_trans k6 (grown_none (grown_drew (grown_refl w1 none) n))) (fun _ => HX3.out)))
  clear k1 k2 k3 k4 k5 k6 H1 HS
  generalize cntS d.S 0 d.n = cn at *
  generalize d.n = dn at *
  go_quiet ((go_at_call 114; (with_reducible exact quiet_left (HCN.out _))))
  go_wp2
  go_ret
  exact ⟨rfl, HW.out _⟩
/-- The list without one page. -/
theorem rwith_unset {w w' : World} {T : Nat → Nat} {D : Dp} {V : St} {g : Nat} (h : DrW w T D V) (hT : ∀ i, w.heap.size ≤ i → T i = 2) (hr : RWith w w' D.p V.n (fun k => if k = g then .pointer none else .pointer (D.ptr V.L k))) :
    DrW w' T D { V with L := V.set g none } ∧ Fr (fun i => 3 ≤ T i) w w' := by
  obtain ⟨q, cap, w2, rfl, h1, h2, h3, h4⟩ := hr
  have hW := h.grown h3
  refine ⟨hW.list (D' := D) (L' := V.set g none) ⟨fun i hi => ?_, h4.fz, h4.qlt⟩ h1 (hT _ h2) rfl rfl (fun k d hk => ?_) (fun k d hk => ?_) (fun k d hk => ?_), (fr_none h3).trans (fr_some (An.agrown_set _ _ _ _) (fun _ => by rw [h.tp]; omega))⟩
  · rw [h4.c i hi]
    by_cases e : i = g
    · subst e
      rw [if_pos rfl, D.ptr_none (V.set_same i none)]
    · rw [if_neg e]
      unfold Dp.ptr
      rw [St.set_other e]
  all_goals
    have x : k ≠ g := fun x => by subst x; rw [St.set_same] at hk; cases hk
    rw [St.set_other x] at hk
  · exact hW.wr k d hk
  · exact hW.sl k d hk
  · exact hW.tx k d hk
set_option maxRecDepth 100000 in
set_option maxHeartbeats 2000000 in
theorem dshut_ok {w : World} {T : Nat → Nat} {D : Dp} {V : St} {g : Nat} {d : Sd} (h : DrAt w T D V) (hT : ∀ i, w.heap.size ≤ i → T i = 2) (hl : V.L g = some d) (h1 : cntS d.S 1 d.n = 0) (h2 : cntS d.S 2 d.n = 0) :
    Calls Tryz.prog 54 #[.pointer (some ⟨D.p, 0, none⟩), .int .i64 g] w fun e w' => e = .returned (.int .i64 0) ∧ DrW w' T D (V.shut g) ∧ Fr (fun i => 3 ≤ T i) w w' := by
  have HS := Lib.hid (dslab_some h hl)
  obtain ⟨hgm, hrow, hd⟩ := h.ok.sl g d hl
  have hgn : g < V.n := by have := h.ok.mn; omega
  have hn := h.ok.n256
  have hsum := cnt_sum hd.st d.n
  have hlt : ¬ ((cntS d.S 0 d.n : Nat) : Int) < (d.n : Int) := by omega
  have hlt' : ¬ cntS d.S 0 d.n < d.n := by omega
  have h16 : (d.n : Int) ≤ 16 := by have := hd.c.facts.n16; omega
  have HN16 := Lib.hid hd.c.facts.n16
  have HX3 := Lib.hid (show 3 ≤ T (D.xs g) by rw [h.tx g d hl]; omega)
  have HTT := Lib.hid hT
  have HWI : Hid (∀ w1, w.heap.size ≤ w1.heap.size → DrW w1 T D V → Calls Tryz.prog 107 #[.pointer (some ⟨D.p, 0, none⟩), .int .i64 g, .pointer none] w1 fun e w' => e = .returned (.tuple #[]) ∧ DrW w' T D { V with L := V.set g none } ∧ Fr (fun i => 3 ≤ T i) w1 w') := Lib.hid (fun w1 hs hW => (rwith_at hW hgn hn none).mono fun _ _ ⟨he, hr⟩ => ⟨he, rwith_unset hW (fun i hi => hT i (by omega)) hr⟩)
  have HCL : Hid (∀ W q cap, Pt.RowsAt W q V.n V.R → Calls Tryz.prog 111 #[.slice (some ⟨q, 0, none⟩) V.n cap, .int .i64 g] W fun e w' => Pt.PRows W w' V.n (Pg.clr V.R g 1) e) := Lib.hid (fun W q cap hr => Pt.rclear_at q V.n cap g 1 V.R W hn (by omega) (by omega) (by rw [hrow]; rfl) hr)
  clear h hl hd hsum h1 h2 hT hgm hrow hgn hn
  go_enter Tryz.func54, Tryz.ntmps54
  go_upto_region 4 with ((go_at_call 108; (with_reducible refine HS.out.mono ?_); rintro e w1 ⟨rfl, hs⟩; have H1 := Lib.hid hs; clear hs))
  obtain ⟨q, cap, A, ac, k1, k2, k3, k4, k5, k6⟩ := H1.out
  have c4 := k2.c4
  have HCN : Hid (∀ n, Calls Tryz.prog 114 #[.pointer (some ⟨D.xs g, 0, none⟩), .int .i64 0] (w1.drewN n) fun e w' => e = .returned (.int .i64 (cntS d.S 0 d.n : Nat)) ∧ w1.drewN n = w') := Lib.hid (fun n => dcount_at (k2.grown (grown_drew (grown_refl w1 none) n)).c4 (k2.grown (grown_drew (grown_refl w1 none) n)).st HN16.out 0)
  have HW := Lib.hid (fun n => And.intro (k5.grown (grown_drew (grown_refl w1 none) n)) (And.intro (fr_some (may := fun i => 3 ≤ T i) (grown_trans k6 (grown_none (grown_drew (grown_refl w1 none) n))) (fun _ => HX3.out)) (show w.heap.size ≤ (w1.drewN n).heap.size from k6.size)))
  clear k1 k2 k3 k4 k5 k6 H1 HS
  generalize cntS d.S 0 d.n = cn at *
  generalize d.n = dn at *
  go_quiet ((go_at_call 114; (with_reducible exact quiet_left (HCN.out _))))
  rename Nat => nq
  obtain ⟨j1, j2, j3⟩ := HW.out nq
  have HWC := Lib.hid (HWI.out _ j3 j1)
  have HF2 := Lib.hid j2
  have HS2 := Lib.hid j3
  clear j1 j2 j3 HW HCN HWI c4
  generalize w1.drewN nq = w2 at *
  go_upto_region 7 with ((go_at_call 107; (with_reducible refine HWC.out.mono ?_); rintro e w3 ⟨rfl, hw, hf⟩; have HW3 := Lib.hid hw; have HF3 := Lib.hid (HF2.out.trans hf); clear hw hf))
  obtain ⟨qr, cr, b1, b2, b3, b4⟩ := HW3.out.rw_
  have HCC := Lib.hid (HCL.out _ qr cr b3)
  clear b2 b3 b4 HCL HWC HF2
  go_wp2_with (go_at_call 111; (with_reducible refine HCC.out.mono ?_); rintro e w4 ⟨q8, cap8, rfl, k1, k2, k3, k4⟩; obtain ⟨⟨v8, c8⟩, z8, hW8, hF8⟩ := drw_rows HW3.out k4 k3 k1 (HTT.out q8 (Nat.le_trans HF3.out.size k2)); have K := Lib.hid (And.intro hW8 (HF3.out.trans hF8)); clear k1 k2 k3 k4 hW8 hF8)
  go_ret
  exact ⟨rfl, K.out⟩
end Go.Proofs.YtgnfcklippjeeaaGreat

/- The document's region: the walk of Great. -/
namespace Go.Proofs.YtgnfcklippjeeaaGreat
open Go.RowKit
open Sl (Cls bs upd LnkIs)
open Lg (pgs)
open Rf (LZ)

theorem dplace_is {V : St} (ok : V.Ok) {run : Nat} (h1 : 1 ≤ run) (h2 : run ≤ 257) {x : Int} (hp : V.Place run x) (q cap : Nat) (W : World) (hr : Pt.RowsAt W q V.n V.R) :
    Calls Tryz.prog 104 #[.slice (some ⟨q, 0, none⟩) V.n cap, .int .i64 0, .int .i64 (V.m : Nat), .int .i64 run] W fun e w' => e = .returned (.int .i64 x) ∧ W = w' :=
  (Pt.place_at q V.n cap run V.R 0 (V.m : Nat) W ok.n256 h1 h2 hr).mono fun _ _ ⟨y, he, hy, hw⟩ => ⟨by rw [he, Pg.place_uniq hp hy], hw⟩
set_option maxRecDepth 100000 in
set_option maxHeartbeats 1000000 in
theorem dgreat_arg (p : Nat) (w : World) (n : Int) (hn : n ≤ 120 ∨ 4096 < n) :
    Calls Tryz.prog 55 #[.pointer (some ⟨p, 0, none⟩), .int .i64 n] w fun e w' => e = .returned (.tuple #[.int .i64 0, .int .i64 1]) ∧ w = w' := by
  have HP := Lib.hid (fun W => rpages_no n W hn)
  clear hn
  go_enter Tryz.func55, Tryz.ntmps55
  go_wp2_with (go_at_call 115; (with_reducible refine (HP.out _).mono ?_); rintro e w' ⟨rfl, rfl⟩)
  go_ret2
  exact ⟨rfl, rfl⟩
set_option maxRecDepth 100000 in
set_option maxHeartbeats 2000000 in
theorem dgreat_full {w : World} {T : Nat → Nat} {D : Dp} {V : St} (h : DrAt w T D V) {n : Nat} (h1 : 120 < n) (h2 : n ≤ 4096) (hp : V.Place (pgs n) (-1)) :
    Calls Tryz.prog 55 #[.pointer (some ⟨D.p, 0, none⟩), .int .i64 n] w fun e w' => e = .returned (.tuple #[.int .i64 0, .int .i64 5]) ∧ w.grownBy w' none := by
  have HPG := Lib.hid (fun W => rpg_at n W h1 h2)
  obtain ⟨q, cap, b1, b2, b3, b4⟩ := h.rw_
  have c0 := h.c0
  have hpg := Lg.pgs_pos n
  have hpb := Lg.pgs_bd h2
  have HPL := Lib.hid (fun d => dplace_is h.ok hpg (by omega) hp q cap _ (b3.grown (grown_drew (grown_refl w none) d) (by simp)))
  have hg0 : (((pgs n : Nat) : Int) == 0) = false := beq_false_of_ne (by omega)
  clear h h1 h2 hp b2 b3 b4 hpg hpb
  generalize pgs n = g at *
  generalize V.n = vn at *
  generalize ((V.m : Nat) : Int) = m at *
  go_enter Tryz.func55, Tryz.ntmps55
  go_upto_region 4 with ((go_at_call 115; (with_reducible refine (HPG.out _).mono ?_); rintro e w' ⟨rfl, rfl⟩))
  go_quiet ((go_at_call 104; (with_reducible exact quiet_left (HPL.out _))))
  go_wp2
  go_ret2
  exact ⟨rfl, grown_drew (grown_refl _ _) _⟩
theorem room_hit {V : St} (ok : V.Ok) {p run : Nat} (hr : V.Room p run) : ∀ k, ¬ Lg.Hit V.Z p run k := by
  rintro k ⟨h1, h2, h3⟩
  have hpk := Lg.pgs_pos (V.Z k)
  by_cases e : k ≤ p
  · exact (ok.room_l hr (i := p) (Nat.le_refl _) (by have := hr.run1; omega)).2.2 k ⟨h1, e, by omega⟩
  · exact h1 (ok.room_l hr (i := k) (by omega) (by omega)).2.1
set_option maxRecDepth 100000 in
set_option maxHeartbeats 4000000 in
theorem dgreat_ok {w : World} {T : Nat → Nat} {D : Dp} {V : St} {p : Nat} (h : DrAt w T D V) (hT : ∀ i, w.heap.size ≤ i → T i = 2) {n : Nat} (h1 : 120 < n) (h2 : n ≤ 4096) (hp : V.Place (pgs n) (p : Int)) :
    Calls Tryz.prog 55 #[.pointer (some ⟨D.p, 0, none⟩), .int .i64 n] w fun e w' => e = .returned (.tuple #[.int .i64 (p * 256 : Nat), .int .i64 0]) ∧ DrW w' T D (V.great p n) ∧ Fr (fun i => 3 ≤ T i) w w' := by
  have HPG := Lib.hid (fun W => rpg_at n W h1 h2)
  obtain ⟨q, cap, b1, b2, b3, b4⟩ := h.rw_
  have c0 := h.c0
  have hpg := Lg.pgs_pos n
  have hpb := Lg.pgs_bd h2
  have hn := h.ok.n256
  have hmn := h.ok.mn
  have hroom := St.place_room hp hpg (by omega)
  have hin := hroom.in_
  have HPL := Lib.hid (fun d => dplace_is h.ok hpg (by omega) hp q cap _ (b3.grown (grown_drew (grown_refl w none) d) (by simp)))
  have HV := Lib.hid h
  have HT := Lib.hid hT
  have HLY : Hid (∀ W, w.grownBy W none → Calls Tryz.prog 105 #[.slice (some ⟨q, 0, none⟩) V.n cap, .int .i64 p, .agg #[.int .i64 2, .int .i64 0, .int .i64 0, .int .i64 (pgs n : Nat)]] W fun e w' => Pt.PRows W w' V.n (Pg.lay V.R p (grow (pgs n))) e) := Lib.hid (fun W gr => Pt.rlay_at q V.n cap p (pgs n) V.R 2 0 0 W hn hpg (by omega) (b3.grown gr (by simp)))
  have HMK : Hid (∀ w0 w1, w.heap.size ≤ w0.heap.size → DGr w0 w1 T D { V with R := Pg.lay V.R p (grow (pgs n)) } → Calls Tryz.prog 116 #[.pointer (some ⟨D.g, 0, none⟩), .int .i64 p, .int .i64 n] w1 fun e w2 => e = .returned (.int .i64 0) ∧ w2.cell? ⟨D.p, 5, none⟩ = some (.pointer (some ⟨D.g, 0, none⟩)) ∧ ∃ q2 cap2, w2.cell? ⟨D.g, 0, none⟩ = some (.slice (some ⟨q2, 0, none⟩) (V.n * 256) cap2) ∧ (∃ v, w2.cell? ⟨D.p, 2, none⟩ = some v) ∧ w2.frozen? ⟨D.p, 2, none⟩ = false ∧
      DrW (w2.setCell ⟨D.p, 2, none⟩ (.slice (some ⟨q2, 0, none⟩) (V.n * 256) cap2)) T D (V.great p n) ∧ Fr (fun i => 3 ≤ T i) w0 (w2.setCell ⟨D.p, 2, none⟩ (.slice (some ⟨q2, 0, none⟩) (V.n * 256) cap2))) := Lib.hid (fun w0 w1 hs hd => by
    obtain ⟨q, cap, A, vc, L, k1, k2, k3, k4, k5, k6⟩ := hd
    have hlen := h.ok.lz_len k2
    refine (rmake_main k1 k2 h.ok.lg (by omega) p n h1 h2 (by show (p + pgs n) * 256 ≤ V.n * 256; omega)).mono ?_
    rintro e w2 (⟨_, ⟨k, hk⟩, _⟩ | ⟨he, _, hgw, q', cap', A', vc', j1, j2, j3⟩)
    · exact absurd hk (room_hit h.ok hroom k)
    · have hs2 := k6.size
      have hz0 : V.Z p = 0 := (h.ok.room_l hroom (Nat.le_refl _) (by omega)).2.1
      obtain ⟨r1, r2, r3, r4, r5, r6⟩ := dgr_store ⟨q, cap, A, vc, L, k1, k2, k3, k4, k5, k6⟩ hgw j1 (k2.put hz0 (by omega)) (hT _ (by omega)) (fun _ a ha => hT _ (by have := j3 a ha; omega))
      exact ⟨he, r1, q', cap', r2, r3, r4, r5, r6⟩)
  have hg0 : (((pgs n : Nat) : Int) == 0) = false := beq_false_of_ne (by omega)
  have hpi : (p : Int) ≤ 256 := by omega
  have hpi0 : decide ((p : Int) < 0) = false := decide_eq_false (by omega)
  have a1 : IntKind.i64.wrap (256 * (p : Int)) = ((p * 256 : Nat) : Int) := by rw [IntKind.wrap_i64]; omega
  clear h hT h1 h2 hp b2 b3 b4 hpg hpb hn hmn hroom hin
  generalize ((p * 256 : Nat) : Int) = pb at *
  go_enter Tryz.func55, Tryz.ntmps55
  go_upto_region 4 with ((go_at_call 115; (with_reducible refine (HPG.out _).mono ?_); rintro e w' ⟨rfl, rfl⟩))
  go_quiet ((go_at_call 104; (with_reducible exact quiet_left (HPL.out _))))
  rename Nat => nq
  have hg1 := grown_drew (grown_refl w none) nq
  have HG1 := Lib.hid hg1
  have HLC := Lib.hid (HLY.out _ hg1)
  have b1 := hg1.cell b1 (by simp)
  have HD1 := Lib.hid (HV.out.toDrW.grown hg1)
  clear hg1 HPL HLY HPG c0
  generalize w.drewN nq = w1 at *
  go_upto_region 8 with ((go_at_call 105; (with_reducible refine HLC.out.mono ?_); rintro e w4 ⟨q8, cap8, rfl, k1, k2, k3, k4⟩; obtain ⟨⟨v8, c8⟩, z8, hW8, hF8⟩ := drw_rows HD1.out k4 k3 k1 (HT.out q8 (Nat.le_trans HG1.out.size k2)); have K := Lib.hid (And.intro hW8 ((fr_none HG1.out).trans hF8)); clear k1 k2 k3 k4 hW8 hF8))
  obtain ⟨w5, hw5⟩ : ∃ w5 : World, w5 = w4.setCell ⟨D.p, 3, none⟩ (.slice (some ⟨q8, 0, none⟩) V.n cap8) := ⟨_, rfl⟩
  rw [← hw5] at K ⊢
  clear hw5 c8 z8 HLC b1
  obtain ⟨qb, cb, hb2, hset⟩ := dgr_set K.out.1 HV.out.ok.n1 HV.out.ok.lt
  have hg2 := grown_drew1 (grown_refl w5 none)
  obtain ⟨p5', p2', ⟨v0, g0'⟩, gz', hdg⟩ := hset _ hg2
  obtain ⟨p5, p2, -⟩ := hset _ (grown_refl w5 none)
  have HDG := Lib.hid hdg
  have HFK := Lib.hid K.out.2
  clear hdg hset hb2 K
  go_still_tail 10, (by kernel_rfl)
  change wpList _ _ _ _ _ w5.drew
  generalize w5.drew = w6 at *
  go_upto_region 9 with (fail)
  obtain ⟨w7, hw7⟩ : ∃ w7 : World, w7 = w6.setCell ⟨D.g, 0, none⟩ (.slice (some ⟨qb, 0, none⟩) (V.n * 256) cb) := ⟨_, rfl⟩
  rw [← hw7] at HDG ⊢
  clear hw7 g0' gz' p5' p2' hg2 p5 p2
  have p5 : w7.cell? ⟨D.p, 5, none⟩ = some (.pointer (some ⟨D.g, 0, none⟩)) := by obtain ⟨_, _, _, _, _, _, _, _, _, k, _⟩ := HDG.out; exact k.c5
  have HM7 := Lib.hid (HMK.out _ _ HFK.out.size HDG.out)
  clear HMK HDG
  go_upto_region 10 with ((go_at_call 116; (with_reducible refine HM7.out.mono ?_); rintro e w8 ⟨rfl, c5, q2, cap2, r2, ⟨v1, r3⟩, r4, r5, r6⟩; have HR := Lib.hid (And.intro r5 (HFK.out.trans r6)); clear r5 r6))
  clear HM7 p5
  go_wp2
  go_ret2
  exact ⟨rfl, HR.out⟩
end Go.Proofs.YtgnfcklippjeeaaGreat

/- The document's region: the walk of Open. -/
namespace Go.Proofs.YtgnfcklippjeeaaGreat
open Go.RowKit
open Sl (Cls bs upd LnkIs)
open Lg (pgs)
open Rf (LZ)

def Dp.with (D : Dp) (g s ws : Nat) : Dp := { D with xs := fun k => if k = g then s else D.xs k, ws := fun k => if k = g then ws else D.ws k }
def tset (T : Nat → Nat) (s y : Nat) : Nat → Nat := fun i => if i = s then y else T i
theorem tset_same (T : Nat → Nat) (s y : Nat) : tset T s y s = y := if_pos rfl
theorem tset_other {T : Nat → Nat} {s y i : Nat} (h : i ≠ s) : tset T s y i = T i := if_neg h
/-- A new slab, whose bytes the region has. -/
def DMd (w5 w7 : World) (T : Nat → Nat) (D : Dp) (V : St) (s g c n : Nat) (S : Nat → Nat) (f : Int) (B2 : Nat → Nat) : Prop :=
  DrW w7 (tset T s (5 + g)) D { V with B := B2 } ∧ (∃ q cap A ac B, DsAt w7 s V.key g (V.n * 256) q cap A ac c n S f B ∧ tset T s (5 + g) q = 2 ∧ tset T s (5 + g) A = 2) ∧ w5.heap.size ≤ s ∧ s < w7.heap.size ∧ Fr (fun i => 3 ≤ T i) w5 w7
theorem dopen_made {w5 w6 : World} {T : Nat → Nat} {D : Dp} {V : St} {g c n : Nat} {S : Nat → Nat} {f : Int} {B2 : Nat → Nat} {e : Ending} (h : DrW w5 T D V) (hT : ∀ i, w5.heap.size ≤ i → T i = 2) (hd : DNew w5 w6 V.key g (V.n * 256) c n S f B2 e) :
    ∃ s q cap, e = .returned (.pointer (some ⟨s, 0, none⟩)) ∧ w6.cell? ⟨s, 0, none⟩ = some (.slice (some ⟨q, 0, none⟩) (V.n * 256) cap) ∧ (∃ v, w6.cell? ⟨D.p, 2, none⟩ = some v) ∧ w6.frozen? ⟨D.p, 2, none⟩ = false ∧ DMd w5 (w6.setCell ⟨D.p, 2, none⟩ (.slice (some ⟨q, 0, none⟩) (V.n * 256) cap)) T D V s g c n S f B2 := by
  obtain ⟨s, he, hs, ⟨q, cap, A, ac, h1, h2, h3⟩, hg⟩ := hd
  have h6 := (h.relab (T' := tset T s (5 + g)) (fun i hi => tset_other (by omega))).grown hg
  have tq : tset T s (5 + g) q = 2 := by rw [tset_other h1.qs]; exact hT _ h2
  have tA : tset T s (5 + g) A = 2 := by rw [tset_other h1.As]; exact hT _ h3
  have tp := h6.tp
  obtain ⟨q0, cap0, b1, _⟩ := h6.bt
  have hgs := An.agrown_set w6 D.p 2 (.slice (some ⟨q, 0, none⟩) (V.n * 256) cap)
  have hF : Fr (fun i => i = D.p) w6 (w6.setCell ⟨D.p, 2, none⟩ (.slice (some ⟨q, 0, none⟩) (V.n * 256) cap)) := fr_some hgs (fun _ => rfl)
  have hsp : s ≠ D.p := by have := h.plt; omega
  refine ⟨s, q, cap, he, h1.c0, ⟨_, b1⟩, h6.fz 2, h6.bytes h1.b h1.hcap tq, ⟨q, cap, A, ac, B2, h1.fr hF hsp (lab_ne tq tp (by omega)) (lab_ne tA tp (by omega)), tq, tA⟩, hs, Nat.lt_of_lt_of_le h1.slt hgs.size, (fr_none hg).trans (fr_some hgs (fun _ => by rw [h.tp]; omega))⟩
/-- .. and the region's list has it. -/
theorem dopen_with {w7 w8 w9 : World} {T : Nat → Nat} {D : Dp} {V : St} {g s ws : Nat} {d : Sd} (h : DrW w8 T D V) (hT : ∀ i, w8.heap.size ≤ i → T i = 2) (hs : ∃ q cap A ac B, DsAt w8 s V.key g (V.n * 256) q cap A ac d.c d.n d.S d.f B ∧ T q = 2 ∧ T A = 2) (ts : T s = 5 + g)
    (c0 : w8.cell? ⟨ws, 0, none⟩ = some (.pointer (some ⟨s, 0, none⟩))) (c1 : w8.cell? ⟨ws, 1, none⟩ = some (.int .i64 (d.o : Nat))) (tw : T ws = 2) (hf : Fr (fun i => 3 ≤ T i) w7 w8)
    (hr : RWith w8 w9 D.p V.n (fun k => if k = g then .pointer (some ⟨ws, 0, none⟩) else .pointer (D.ptr V.L k))) : DrW w9 T (D.with g s ws) { V with L := V.set g (some d) } ∧ Fr (fun i => 3 ≤ T i) w7 w9 := by
  obtain ⟨q, cap, w2, rfl, h1, h2, h3, h4⟩ := hr
  have hW := h.grown h3
  refine ⟨hW.list (D' := D.with g s ws) (L' := V.set g (some d)) ⟨fun i hi => ?_, h4.fz, h4.qlt⟩ h1 (hT _ h2) rfl rfl (fun k e hk => ?_) (fun k e hk => ?_) (fun k e hk => ?_), hf.trans ((fr_none h3).trans (fr_some (An.agrown_set _ _ _ _) (fun _ => by rw [h.tp]; omega)))⟩
  · rw [h4.c i hi]
    unfold Dp.ptr Dp.with
    by_cases e : i = g
    · subst e
      rw [if_pos rfl, St.set_same]
      simp
    · rw [if_neg e, St.set_other e]
      simp [e]
  · by_cases x : k = g
    · subst x
      rw [St.set_same] at hk
      cases hk
      show w2.cell? ⟨if k = k then ws else D.ws k, 0, none⟩ = some (.pointer (some ⟨if k = k then s else D.xs k, 0, none⟩)) ∧ w2.cell? ⟨if k = k then ws else D.ws k, 1, none⟩ = some (.int .i64 (d.o : Nat)) ∧ T (if k = k then ws else D.ws k) = 2
      rw [if_pos rfl, if_pos rfl]
      exact ⟨h3.cell c0 (by simp), h3.cell c1 (by simp), tw⟩
    · rw [St.set_other x] at hk
      show w2.cell? ⟨if k = g then ws else D.ws k, 0, none⟩ = some (.pointer (some ⟨if k = g then s else D.xs k, 0, none⟩)) ∧ w2.cell? ⟨if k = g then ws else D.ws k, 1, none⟩ = some (.int .i64 (e.o : Nat)) ∧ T (if k = g then ws else D.ws k) = 2
      rw [if_neg x, if_neg x]
      exact hW.wr k e hk
  · by_cases x : k = g
    · subst x
      rw [St.set_same] at hk
      cases hk
      show ∃ q cap A ac B, DsAt w2 (if k = k then s else D.xs k) V.key k (V.n * 256) q cap A ac d.c d.n d.S d.f B ∧ T q = 2 ∧ T A = 2
      rw [if_pos rfl]
      obtain ⟨q, cap, A, ac, B, x1, x2, x3⟩ := hs
      exact ⟨q, cap, A, ac, B, x1.grown h3, x2, x3⟩
    · rw [St.set_other x] at hk
      show ∃ q cap A ac B, DsAt w2 (if k = g then s else D.xs k) V.key k (V.n * 256) q cap A ac e.c e.n e.S e.f B ∧ T q = 2 ∧ T A = 2
      rw [if_neg x]
      exact hW.sl k e hk
  · by_cases x : k = g
    · subst x
      show T (if k = k then s else D.xs k) = 5 + k
      rw [if_pos rfl]
      exact ts
    · rw [St.set_other x] at hk
      show T (if k = g then s else D.xs k) = 5 + k
      rw [if_neg x]
      exact hW.tx k e hk

set_option maxRecDepth 100000 in
set_option maxHeartbeats 1000000 in
theorem dopen_arg (p : Nat) (w : World) (c o : Int) (hb : No c ∨ o < 0 ∨ 64 ≤ o) :
    Calls Tryz.prog 50 #[.pointer (some ⟨p, 0, none⟩), .int .i64 c, .int .i64 o] w fun e w' => e = .returned (.tuple #[.int .i64 0, .int .i64 1]) ∧ w = w' := by
  by_cases hc : No c
  · have HZ := Lib.hid (fun W => rsize_no c W hc)
    clear hb hc
    go_enter Tryz.func50, Tryz.ntmps50
    go_wp2_with (go_at_call 103; (with_reducible refine (HZ.out _).mono ?_); rintro e w' ⟨rfl, rfl⟩)
    go_ret2
    exact ⟨rfl, rfl⟩
  · obtain ⟨k, s, n, r, rfl, hcl⟩ : ∃ k s n r : Nat, c = (k : Nat) ∧ Cls k s n r := by
      unfold No at hc
      have : c = 0 ∨ c = 1 ∨ c = 2 ∨ c = 3 := by omega
      rcases this with rfl | rfl | rfl | rfl
      · exact ⟨0, 16, 16, 8, rfl, .inl ⟨rfl, rfl, rfl, rfl⟩⟩
      · exact ⟨1, 32, 8, 24, rfl, .inr (.inl ⟨rfl, rfl, rfl, rfl⟩)⟩
      · exact ⟨2, 64, 4, 56, rfl, .inr (.inr (.inl ⟨rfl, rfl, rfl, rfl⟩))⟩
      · exact ⟨3, 128, 2, 120, rfl, .inr (.inr (.inr ⟨rfl, rfl, rfl, rfl⟩))⟩
    have HZ := Lib.hid (fun W => rsize_at hcl W)
    have hs := hcl.facts.s16
    have hz0 : (((s : Nat) : Int) == 0) = false := beq_false_of_ne (by omega)
    have ho : decide (o < 0) = true ∨ (decide (o < 0) = false ∧ decide (o > 63) = true) := by
      by_cases h0 : o < 0
      · exact .inl (decide_eq_true h0)
      · exact .inr ⟨decide_eq_false h0, decide_eq_true (by rcases hb with h | h | h <;> first | exact absurd h hc | omega)⟩
    clear hb hc hs hcl
    rcases ho with e1 | ⟨e1, e2⟩
    · go_enter Tryz.func50, Tryz.ntmps50
      go_wp2_with (go_at_call 103; (with_reducible refine (HZ.out _).mono ?_); rintro e w' ⟨rfl, rfl⟩)
      go_ret2
      exact ⟨rfl, rfl⟩
    · go_enter Tryz.func50, Tryz.ntmps50
      go_wp2_with (go_at_call 103; (with_reducible refine (HZ.out _).mono ?_); rintro e w' ⟨rfl, rfl⟩)
      go_ret2
      exact ⟨rfl, rfl⟩
set_option maxRecDepth 100000 in
set_option maxHeartbeats 2000000 in
theorem dopen_full {w : World} {T : Nat → Nat} {D : Dp} {V : St} {c s n r o : Nat} (h : DrAt w T D V) (hc : Cls c s n r) (ho : o < 64) (hp : V.Place 1 (-1)) :
    Calls Tryz.prog 50 #[.pointer (some ⟨D.p, 0, none⟩), .int .i64 c, .int .i64 o] w fun e w' => e = .returned (.tuple #[.int .i64 0, .int .i64 5]) ∧ w.grownBy w' none := by
  have HZ := Lib.hid (fun W => rsize_at hc W)
  obtain ⟨q, cap, b1, b2, b3, b4⟩ := h.rw_
  have c0 := h.c0
  have HPL := Lib.hid (fun d => dplace_is h.ok (Nat.le_refl 1) (by omega) hp q cap _ (b3.grown (grown_drew (grown_refl w none) d) (by simp)))
  simp only [Int.ofNat_one] at HPL
  have hs := hc.facts.s16
  have hz0 : (((s : Nat) : Int) == 0) = false := beq_false_of_ne (by omega)
  have e1 : decide ((o : Int) < 0) = false := decide_eq_false (by omega)
  have e2 : decide ((o : Int) > 63) = false := decide_eq_false (by omega)
  have e3 : decide (63 < o) = false := decide_eq_false (by omega)
  have e4 : ¬ 63 < o := by omega
  clear h hc ho hp b2 b3 b4 hs
  generalize V.n = vn at *
  generalize ((V.m : Nat) : Int) = m at *
  go_enter Tryz.func50, Tryz.ntmps50
  go_upto_region 3 with ((go_at_call 103; (with_reducible refine (HZ.out _).mono ?_); rintro e w' ⟨rfl, rfl⟩))
  go_quiet ((go_at_call 104; (with_reducible exact quiet_left (HPL.out _))))
  go_wp2
  go_ret2
  exact ⟨rfl, grown_drew (grown_refl _ _) _⟩
end Go.Proofs.YtgnfcklippjeeaaGreat

/- The document's region: the walk of Open where there is a page; Home, Owner. -/
namespace Go.Proofs.YtgnfcklippjeeaaGreat
open Go.RowKit
open Sl (Cls bs upd LnkIs)
open Lg (pgs)
open Rf (LZ)

/-- What Open leaves of the document's region. -/
def DOpen (w w' : World) (T : Nat → Nat) (D : Dp) (V' : St) : Prop := ∃ T' D', D'.p = D.p ∧ (∀ i, i < w.heap.size → T' i = T i) ∧ DrW w' T' D' V' ∧ Fr (fun i => 3 ≤ T i) w w'
set_option maxRecDepth 100000 in
set_option maxHeartbeats 4000000 in
theorem dopen_ok {w : World} {T : Nat → Nat} {D : Dp} {V : St} {p c s n r o : Nat} (h : DrAt w T D V) (hT : ∀ i, w.heap.size ≤ i → T i = 2) (hc : Cls c s n r) (ho : o < 64) (hp : V.Place 1 (p : Int)) :
    Calls Tryz.prog 50 #[.pointer (some ⟨D.p, 0, none⟩), .int .i64 c, .int .i64 o] w fun e w' => e = .returned (.tuple #[.int .i64 p, .int .i64 0]) ∧ DOpen w w' T D (V.open_ p c s n r o) := by
  have HZ := Lib.hid (fun W => rsize_at hc W)
  obtain ⟨q, cap, b1, b2, b3, b4⟩ := h.rw_
  have c0 := h.c0
  have hn := h.ok.n256
  have hmn := h.ok.mn
  have hroom := St.place_room hp (Nat.le_refl 1) (by omega)
  have hin := hroom.in_
  have HPL := Lib.hid (fun d => dplace_is h.ok (Nat.le_refl 1) (by omega) hp q cap _ (b3.grown (grown_drew (grown_refl w none) d) (by simp)))
  have HLY : Hid (∀ W, w.grownBy W none → Calls Tryz.prog 105 #[.slice (some ⟨q, 0, none⟩) V.n cap, .int .i64 p, .agg #[.int .i64 1, .int .i64 c, .int .i64 o, .int .i64 ((1 : Nat) : Int)]] W fun e w' => Pt.PRows W w' V.n (Pg.lay V.R p (srow c o)) e) := Lib.hid (fun W gr => Pt.rlay_at q V.n cap p 1 V.R 1 c o W hn (Nat.le_refl 1) (by omega) (b3.grown gr (by simp)))
  simp only [Int.ofNat_one] at HPL HLY
  have HV := Lib.hid h
  have HT := Lib.hid hT
  have HMK : Hid (∀ W q cap, An.BytesAt W q (V.n * 256) V.B → V.n * 256 ≤ cap → Calls Tryz.prog 106 #[.slice (some ⟨q, 0, none⟩) (V.n * 256) cap, .int .u64 V.key, .int .i64 p, .int .i64 c] W fun e w' => DNew W w' V.key p (V.n * 256) c n (fun _ => 0) 0 (Sl.layF V.key p s n (fun _ => true) V.B) e) := Lib.hid (fun W q cap hb hcap => dmake_at hb hcap hc (by omega) (by omega) h.ok.lt h.ok.key)
  have HWI : Hid (∀ W T' (V' : St) x, V'.n = V.n → DrW W T' D V' → Calls Tryz.prog 107 #[.pointer (some ⟨D.p, 0, none⟩), .int .i64 p, .pointer x] W fun e w' => e = .returned (.tuple #[]) ∧ RWith W w' D.p V'.n (fun k => if k = p then .pointer x else .pointer (D.ptr V'.L k))) := Lib.hid (fun W T' V' x e hW => rwith_at hW (by omega) (by omega) x)
  have hs16 := hc.facts.s16
  have hz0 : (((s : Nat) : Int) == 0) = false := beq_false_of_ne (by omega)
  have e1 : decide ((o : Int) < 0) = false := decide_eq_false (by omega)
  have e2 : decide ((o : Int) > 63) = false := decide_eq_false (by omega)
  have e3 : decide (63 < o) = false := decide_eq_false (by omega)
  have e4 : ¬ 63 < o := by omega
  have hpi0 : decide ((p : Int) < 0) = false := decide_eq_false (by omega)
  clear h hT hc ho hp b2 b3 b4 hs16 hn hmn hroom hin
  go_enter Tryz.func50, Tryz.ntmps50
  go_upto_region 3 with ((go_at_call 103; (with_reducible refine (HZ.out _).mono ?_); rintro e w' ⟨rfl, rfl⟩))
  go_quiet ((go_at_call 104; (with_reducible exact quiet_left (HPL.out _))))
  rename Nat => nq
  have hg1 := grown_drew (grown_refl w none) nq
  have HG1 := Lib.hid hg1
  have HLC := Lib.hid (HLY.out _ hg1)
  have b1 := hg1.cell b1 (by simp)
  have HD1 := Lib.hid (HV.out.toDrW.grown hg1)
  clear hg1 HPL HLY c0 HZ
  generalize w.drewN nq = w1 at *
  go_upto_region 7 with ((go_at_call 105; (with_reducible refine HLC.out.mono ?_); rintro e w4 ⟨q8, cap8, rfl, k1, k2, k3, k4⟩; obtain ⟨⟨v8, c8⟩, z8, hW8, hF8⟩ := drw_rows HD1.out k4 k3 k1 (HT.out q8 (Nat.le_trans HG1.out.size k2)); have K := Lib.hid (And.intro hW8 ((fr_none HG1.out).trans hF8)); clear k1 k2 k3 k4 hW8 hF8))
  obtain ⟨w5, hw5⟩ : ∃ w5 : World, w5 = w4.setCell ⟨D.p, 3, none⟩ (.slice (some ⟨q8, 0, none⟩) V.n cap8) := ⟨_, rfl⟩
  rw [← hw5] at K ⊢
  clear hw5 c8 z8 HLC b1
  obtain ⟨qb, cb, a1, a2, a3, a4⟩ := K.out.1.bt
  have a1 : w5.cell? ⟨D.p, 2, none⟩ = some (.slice (some ⟨qb, 0, none⟩) (V.n * 256) cb) := a1
  have d1 := K.out.1.c1
  have hg2 := grown_drew1 (grown_refl w5 none)
  have HMC := Lib.hid (HMK.out _ _ _ (a3.grown hg2 (by simp)) a2)
  have HK2 := Lib.hid (K.out.1.grown hg2)
  have HF2 := Lib.hid (K.out.2.trans (fr_none (may := fun i => 3 ≤ T i) hg2))
  clear a2 a3 a4 HMK K hg2
  go_still_tail 10, (by kernel_rfl)
  change wpList _ _ _ _ _ w5.drew
  generalize w5.drew = w6 at *
  have HT6 : Hid (∀ i, w6.heap.size ≤ i → T i = 2) := Lib.hid (fun i hi => HT.out i (Nat.le_trans HF2.out.size hi))
  go_upto_region 8 with ((go_at_call 106; (with_reducible refine HMC.out.mono ?_); rintro e w7 hd; obtain ⟨so, q7, cap7, rfl, s0, ⟨v7, p2⟩, z2, hmd⟩ := dopen_made HK2.out HT6.out hd; have HM := Lib.hid hmd; clear hd hmd))
  have s0 : w7.cell? ⟨so, 0, none⟩ = some (.slice (some ⟨q7, 0, none⟩) (V.n * 256) cap7) := s0
  go_upto_region 9 with (fail)
  obtain ⟨w8, hw8⟩ : ∃ w8 : World, w8 = w7.setCell ⟨D.p, 2, none⟩ (.slice (some ⟨q7, 0, none⟩) (V.n * 256) cap7) := ⟨_, rfl⟩
  have HM8 : Hid (DMd w6 w8 T D { V with R := Pg.lay V.R p (srow c o) } so p c n (fun _ => 0) 0 (Sl.layF V.key p s n (fun _ => true) V.B)) := Lib.hid (by rw [hw8]; exact HM.out)
  rw [← hw8]
  clear hw8 s0 p2 z2 HM HMC a1 d1 HK2
  obtain ⟨j1, j2, j3, j4, j5⟩ := HM8.out
  have hga := grown_alloc w8 (.cells #[.pointer (some ⟨so, 0, none⟩), .int .i64 o] 169) none
  have HS8 := Lib.hid (show w6.heap.size ≤ w8.heap.size from j5.size)
  have HFA := Lib.hid (HF2.out.trans (j5.trans (fr_none hga)))
  have HT8 : Hid (∀ i, w8.heap.size ≤ i → tset T so (5 + p) i = 2) := Lib.hid (fun i hi => by
    rw [tset_other (by omega)]; exact HT6.out i (by have := HS8.out; omega))
  have HWC := Lib.hid (HWI.out _ _ { V with R := Pg.lay V.R p (srow c o), B := Sl.layF V.key p s n (fun _ => true) V.B } (some ⟨w8.heap.size, 0, none⟩) rfl (j1.grown hga))
  have HEND : Hid (∀ w9, RWith (w8.alloc (.cells #[.pointer (some ⟨so, 0, none⟩), .int .i64 o] 169)) w9 D.p V.n (fun k => if k = p then .pointer (some ⟨w8.heap.size, 0, none⟩) else .pointer (D.ptr V.L k)) → DOpen w w9 T D (V.open_ p c s n r o)) := Lib.hid (fun w9 hr => by
    obtain ⟨q, cap, A, ac, B, x1, x2, x3⟩ := j2
    obtain ⟨y1, y2⟩ := dopen_with (w7 := w8.alloc (.cells #[.pointer (some ⟨so, 0, none⟩), .int .i64 o] 169)) (d := ⟨c, s, n, r, o, fun _ => 0, 0⟩) (s := so) (ws := w8.heap.size) (j1.grown hga) (fun i hi => HT8.out i (Nat.le_trans hga.size hi)) ⟨q, cap, A, ac, B, x1.grown hga, x2, x3⟩ (tset_same _ _ _) (by rw [cell_alloc_new]; rfl) (by rw [cell_alloc_new]; rfl) (HT8.out _ (Nat.le_refl _)) ⟨rfl, rfl, rfl, Nat.le_refl _, fun _ _ _ => rfl⟩ hr
    have hso : ∀ i, i < w.heap.size → i ≠ so := fun i hi => by have := HF2.out.size; omega
    refine ⟨tset T so (5 + p), D.with p so w8.heap.size, rfl, fun i hi => tset_other (hso i hi), y1, ?_⟩
    refine ⟨y2.os.trans HFA.out.os, y2.tape.trans HFA.out.tape, y2.output.trans HFA.out.output, Nat.le_trans HFA.out.size y2.size, fun i hi hn => ?_⟩
    refine (y2.block i (Nat.lt_of_lt_of_le hi HFA.out.size) ?_).trans (HFA.out.block i hi hn)
    rw [tset_other (hso i hi)]
    exact hn)
  clear j1 j2 j3 j4 j5 hga HM8 HFA HT8 HT6 HF2 HWI HV
  go_upto_region 10 with ((go_at_call 107; (with_reducible refine HWC.out.mono ?_); rintro e w9 ⟨rfl, hr⟩; have HR := Lib.hid (HEND.out _ hr); clear hr))
  go_wp2
  go_ret2
  exact ⟨rfl, HR.out⟩
end Go.Proofs.YtgnfcklippjeeaaGreat
