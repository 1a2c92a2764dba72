/- The walks of a View's Get, Set, Need within its Do. -/
import Derived.Test.YtbpganholopjfaaAG
namespace Go.Proofs.Ytbpganholopjfaa
open Go.RowKit

theorem aset_far (w : World) (q i j : Nat) (v : Value) (h : i ≠ j) : (w.setCell ⟨q, i, none⟩ v).cell? ⟨q, j, none⟩ = w.cell? ⟨q, j, none⟩ :=
  World.cell?_setCell_other w _ _ _ (fun e => h (congrArg Addr.off e))
theorem fr_set (w : World) (u j : Nat) (v : Value) : Fr (fun i => i = u) w (w.setCell ⟨u, j, none⟩ v) := fr_some (agrown_set w u j v) (fun _ => rfl)

theorem DoSt.setU {w : World} {p q u mb N cap : Nat} {B B0 : Nat → Nat} {D : DataW Unit} {cnt rt rt' : Nat} {fl fl' : Int} {j : Nat} {v : Value} (h : DoSt w p q u mb N cap B B0 D cnt rt fl)
    (hj : (j = 2 ∧ v = .int .i64 rt' ∧ fl' = fl) ∨ (j = 3 ∧ v = .int .i64 fl' ∧ rt' = rt)) : DoSt (w.setCell ⟨u, j, none⟩ v) p q u mb N cap B B0 D cnt rt' fl' := by
  have g := fr_set w u j v
  have hp : ¬ p = u := Ne.symm h.up
  have hq : ¬ q = u := Ne.symm h.uq
  have hmb : ¬ mb = u := h.mu
  have j0 : j ≠ 0 := by omega
  have j1 : j ≠ 1 := by omega
  have j4 : j ≠ 4 := by omega
  exact {
    ar := ⟨g.cell h.ar.c0 hp, g.cell h.ar.c1 hp, fun k => by rw [World.frozen?_setCell]; exact h.ar.fz k, h.ar.b.fr g hq, h.ar.ne, h.ar.hcap, h.ar.small, h.ar.page, h.ar.lt⟩
    k0 := by rw [aset_far _ _ _ _ _ j0]; exact h.k0
    k1 := by rw [aset_far _ _ _ _ _ j1]; exact h.k1
    k2 := by
      rcases hj with ⟨rfl, rfl, _⟩ | ⟨rfl, rfl, rfl⟩
      · exact World.cell?_setCell_same' _ _ _ (by rw [h.k2]; rfl)
      · rw [aset_far _ _ _ _ _ (by omega)]; exact h.k2
    k3 := by
      rcases hj with ⟨rfl, rfl, rfl⟩ | ⟨rfl, rfl, rfl⟩
      · rw [aset_far _ _ _ _ _ (by omega)]; exact h.k3
      · exact World.cell?_setCell_same' _ _ _ (by rw [h.k3]; rfl)
    k4 := by rw [aset_far _ _ _ _ _ j4]; exact h.k4
    fz := fun k => by rw [World.frozen?_setCell]; exact h.fz k
    map := h.map.setCell h.mu v
    keys := fun kl hkl => by
      obtain ⟨pg, bk, bc, h1, h2, h3, h4, h5, h6, h7, h8⟩ := h.keys kl hkl
      exact ⟨pg, bk, bc, h1, h2, h3, h4.fr g h7, h5, h6, h7, h8⟩
    rest := h.rest
    up := h.up
    uq := h.uq
    mp := h.mp
    mq := h.mq
    mu := h.mu
    lt0 := h.lt0 }

/-- What a call of the View leaves that was right. -/
def ActOk (w : World) (p q u mb N cap : Nat) (B' B0 : Nat → Nat) (D : DataW Unit) (cnt rt : Nat) (w' : World) : Prop :=
  ∃ D' cnt', cnt' ≤ cnt + 1 ∧ DoSt w' p q u mb N cap B' B0 D' cnt' (rt + 1) 0 ∧ Fr (fun i => i = q ∨ i = u ∨ i = mb) w w' ∧ ∀ i, DoSt.Own p q u mb D' i → DoSt.Own p q u mb D i ∨ w.heap.size ≤ i
/-- What one leaves that was not. -/
def ActBad (w : World) (p q u mb N cap : Nat) (B B0 : Nat → Nat) (D : DataW Unit) (cnt rt : Nat) (er : Int) (w' : World) : Prop :=
  DoSt w' p q u mb N cap B B0 D cnt rt er ∧ Fr (fun i => i = q ∨ i = u ∨ i = mb) w w'

theorem fr_u {w : World} {q u mb j : Nat} {v : Value} : Fr (fun i => i = q ∨ i = u ∨ i = mb) w (w.setCell ⟨u, j, none⟩ v) := fr_some (agrown_set w u j v) (fun _ => .inr (.inl rfl))
theorem act_count {w : World} {p q u mb N cap : Nat} {B B0 : Nat → Nat} {D : DataW Unit} {cnt rt : Nat} (h : DoSt w p q u mb N cap B B0 D cnt rt 0) : ActOk w p q u mb N cap B B0 D cnt rt (w.setCell ⟨u, 2, none⟩ (.int .i64 (rt + 1 : Nat))) :=
  ⟨D, cnt, by omega, h.setU (.inl ⟨rfl, rfl, rfl⟩), fr_u, fun i hi => .inl hi⟩
theorem act_fail {w : World} {p q u mb N cap : Nat} {B B0 : Nat → Nat} {D : DataW Unit} {cnt rt : Nat} {er : Int} (h : DoSt w p q u mb N cap B B0 D cnt rt 0) : ActBad w p q u mb N cap B B0 D cnt rt er (w.setCell ⟨u, 3, none⟩ (.int .i64 er)) :=
  ⟨h.setU (.inr ⟨rfl, rfl, rfl⟩), fr_u⟩

set_option maxHeartbeats 1000000 in
theorem get_good {w : World} {p q u mb N cap vb : Nat} {B B0 : Nat → Nat} {D : DataW Unit} {cnt rt : Nat} (h : DoSt w p q u mb N cap B B0 D cnt rt 0) (hv : w.cell? ⟨vb, 0, none⟩ = some (.pointer (some ⟨u, 0, none⟩))) (hrt : rt ≤ 1000000) (at_ : Int) (he : wbE N at_ = 0) :
    Calls Try.prog 32 #[.pointer (some ⟨vb, 0, none⟩), .int .i64 at_] w fun e w' => e = .returned (.int .u64 (wordV B N at_ : Nat)) ∧ ActOk w p q u mb N cap B B0 D cnt rt w' := by
  have HU := Lib.hid (under_at vb u p w hv h.k0 h.k3)
  have HW := word_at h.ar at_
  rw [he] at HW
  have HW := Lib.hid HW
  have HC := Lib.hid (count_ok u rt w hrt h.k2 h.fz)
  have k0 := h.k0
  have HR := Lib.hid (act_count h)
  generalize wordV B N at_ = v at *
  clear h he hv
  go_enter Try.func32, Try.ntmps32
  go_wp2_with fail
  refine HU.out.mono ?_
  rintro e w' ⟨rfl, rfl⟩
  go_wp2_with fail
  refine HW.out.mono ?_
  rintro e w' ⟨rfl, rfl⟩
  go_wp2_with fail
  refine HC.out.mono ?_
  rintro e w' ⟨rfl, hw⟩
  have HR2 := HR.out
  rw [← hw] at HR2
  have HR2 := Lib.hid HR2
  clear hw HR
  go_wp2
  go_ret
  exact ⟨rfl, HR2.out⟩
set_option maxHeartbeats 1000000 in
theorem get_bad {w : World} {p q u mb N cap vb : Nat} {B B0 : Nat → Nat} {D : DataW Unit} {cnt rt : Nat} (h : DoSt w p q u mb N cap B B0 D cnt rt 0) (hv : w.cell? ⟨vb, 0, none⟩ = some (.pointer (some ⟨u, 0, none⟩))) (at_ er : Int) (he : wbE N at_ = er) (hz : er ≠ 0) :
    Calls Try.prog 32 #[.pointer (some ⟨vb, 0, none⟩), .int .i64 at_] w fun e w' => e = .panicked (stopOf u) ∧ ActBad w p q u mb N cap B B0 D cnt rt er w' := by
  have HU := Lib.hid (under_at vb u p w hv h.k0 h.k3)
  have HW := word_at h.ar at_
  rw [he] at HW
  have HW := Lib.hid HW
  have HC := Lib.hid (count_bad u er 0 w hz h.k3 h.fz)
  have k0 := h.k0
  have HR := Lib.hid (act_fail (er := er) h)
  generalize wordV B N at_ = v at *
  clear h he hv hz
  go_enter Try.func32, Try.ntmps32
  go_wp2_with fail
  refine HU.out.mono ?_
  rintro e w' ⟨rfl, rfl⟩
  go_wp2_with fail
  refine HW.out.mono ?_
  rintro e w' ⟨rfl, rfl⟩
  go_wp2_with fail
  refine HC.out.mono ?_
  rintro e w' ⟨rfl, hw⟩
  have HR2 := HR.out
  rw [← hw] at HR2
  have HR2 := Lib.hid HR2
  clear hw HR
  go_wp2
  exact ⟨rfl, rfl, HR2.out⟩

set_option maxHeartbeats 1000000 in
theorem need_good {w : World} {p q u mb N cap vb : Nat} {B B0 : Nat → Nat} {D : DataW Unit} {cnt rt : Nat} (h : DoSt w p q u mb N cap B B0 D cnt rt 0) (hv : w.cell? ⟨vb, 0, none⟩ = some (.pointer (some ⟨u, 0, none⟩))) (hrt : rt ≤ 1000000) :
    Calls Try.prog 30 #[.pointer (some ⟨vb, 0, none⟩), .bool true] w fun e w' => e = .returned (.tuple #[]) ∧ ActOk w p q u mb N cap B B0 D cnt rt w' := by
  have HU := Lib.hid (under_at vb u p w hv h.k0 h.k3)
  have HC := Lib.hid (count_ok u rt w hrt h.k2 h.fz)
  have HR := Lib.hid (act_count h)
  clear h hv
  go_enter Try.func30, Try.ntmps30
  go_wp2_with fail
  refine HU.out.mono ?_
  rintro e w' ⟨rfl, rfl⟩
  go_wp2_with fail
  refine HC.out.mono ?_
  rintro e w' ⟨rfl, hw⟩
  have HR2 := HR.out
  rw [← hw] at HR2
  have HR2 := Lib.hid HR2
  clear hw HR
  go_wp2
  go_end0
  exact ⟨rfl, HR2.out⟩
set_option maxHeartbeats 1000000 in
theorem need_bad {w : World} {p q u mb N cap vb : Nat} {B B0 : Nat → Nat} {D : DataW Unit} {cnt rt : Nat} (h : DoSt w p q u mb N cap B B0 D cnt rt 0) (hv : w.cell? ⟨vb, 0, none⟩ = some (.pointer (some ⟨u, 0, none⟩))) :
    Calls Try.prog 30 #[.pointer (some ⟨vb, 0, none⟩), .bool false] w fun e w' => e = .panicked (stopOf u) ∧ ActBad w p q u mb N cap B B0 D cnt rt 8 w' := by
  have HU := Lib.hid (under_at vb u p w hv h.k0 h.k3)
  have HC := Lib.hid (count_bad u 8 0 w (by omega) h.k3 h.fz)
  have HR := Lib.hid (act_fail (er := 8) h)
  clear h hv
  go_enter Try.func30, Try.ntmps30
  go_wp2_with fail
  refine HU.out.mono ?_
  rintro e w' ⟨rfl, rfl⟩
  go_wp2_with fail
  refine HC.out.mono ?_
  rintro e w' ⟨rfl, hw⟩
  have HR2 := HR.out
  rw [← hw] at HR2
  have HR2 := Lib.hid HR2
  clear hw HR
  go_wp2
  exact ⟨rfl, rfl, HR2.out⟩

/-- What Set leaves: the page was kept, the bytes were written, the call counted. -/
theorem set_done {w w2 : World} {p q u mb N cap at_ v : Nat} {B B0 : Nat → Nat} {D : DataW Unit} {cnt rt : Nat} (_h : DoSt w p q u mb N cap B B0 D cnt rt 0) (_h8 : at_ + 8 ≤ N) (hal : at_ % 8 = 0)
    (hw : Wrote (KeepRes w p q u mb N cap B B0 D cnt rt (at_ / 256)) q N (Ar.setW B at_ v) w2) :
    ∃ D', DoSt w2 p q u mb N cap (Ar.setW B at_ v) B0 D' (cnt + 1) rt 0 ∧ Fr (fun i => i = q ∨ i = u ∨ i = mb) w w2 ∧ ∀ i, DoSt.Own p q u mb D' i → DoSt.Own p q u mb D i ∨ w.heap.size ≤ i := by
  obtain ⟨w1, ⟨D', hst, hh, hfr, how⟩, hg, hb⟩ := hw
  have g : Fr (fun i => i = q) w1 w2 := fr_some hg (fun _ => rfl)
  have hp : ¬ p = q := hst.ar.ne
  have hu : ¬ u = q := hst.uq
  refine ⟨D', ?_, hfr.trans g (fun i _ x => .inr (.inr x)) (fun i _ x => .inl x), how⟩
  exact {
    ar := ⟨g.cell hst.ar.c0 hp, g.cell hst.ar.c1 hp, fun k => by rw [g.frozen hst.ar.plt hp]; exact hst.ar.fz k, hb, hst.ar.ne, hst.ar.hcap, hst.ar.small, hst.ar.page, fun i => Ar.setB_lt hst.ar.lt (Ar.byt_lt v) _ _ _⟩
    k0 := g.cell hst.k0 hu
    k1 := g.cell hst.k1 hu
    k2 := g.cell hst.k2 hu
    k3 := g.cell hst.k3 hu
    k4 := g.cell hst.k4 hu
    fz := fun k => by rw [g.frozen hst.ult hu]; exact hst.fz k
    map := by
      have hlt := hst.map.lt
      obtain ⟨es, clock, hbb, F, hs, hD⟩ := hst.map
      exact ⟨es, clock, (g.block mb hlt hst.mq).trans hbb, F, hs, hD⟩
    keys := fun kl hkl => by
      obtain ⟨pg, bk, bc, h1, h2, h3, h4, h5, h6, h7, h9⟩ := hst.keys kl hkl
      exact ⟨pg, bk, bc, h1, h2, h3, h4.fr g h6, h5, h6, h7, h9⟩
    rest := fun pg hpg hk i hi => by
      have hne : pg ≠ at_ / 256 := fun e => by subst e; rw [hh] at hk; cases hk
      rw [← hst.rest pg hpg hk i hi]
      unfold Ar.setW
      rw [if_neg (by omega)]
    up := hst.up
    uq := hst.uq
    mp := hst.mp
    mq := hst.mq
    mu := hst.mu
    lt0 := hst.lt0 }

set_option maxHeartbeats 2000000 in
theorem set_good {w : World} {p q u mb N cap vb : Nat} {B B0 : Nat → Nat} {D : DataW Unit} {cnt rt : Nat} (h : DoSt w p q u mb N cap B B0 D cnt rt 0) (hv : w.cell? ⟨vb, 0, none⟩ = some (.pointer (some ⟨u, 0, none⟩))) (hrt : rt ≤ 1000000) (hcnt : cnt ≤ 1000000) (at_ v : Nat) (he : wbE N at_ = 0) :
    Calls Try.prog 29 #[.pointer (some ⟨vb, 0, none⟩), .int .i64 at_, .int .u64 v] w fun e w' => e = .returned (.tuple #[]) ∧ ActOk w p q u mb N cap (Ar.setW B at_ v) B0 D cnt rt w' := by
  obtain ⟨_, h8, hal⟩ := wbE_zero he
  have h8' : at_ + 8 ≤ N := by omega
  have hal' : at_ % 8 = 0 := by omega
  have HU := Lib.hid (under_at vb u p w hv h.k0 h.k3)
  have HS := Lib.hid (setword_good p q N cap at_ v B w h.ar.c0 h.ar.small he (KeepRes w p q u mb N cap B B0 D cnt rt (at_ / 256)) (fun w' ⟨D', hst, _⟩ => hst.ar.b) (open_some h at_ h8' hal' hcnt))
  have k0 := h.k0
  have H := Lib.hid h
  have HAL := Lib.hid hal'
  clear h he hv h8 hal hal'
  go_enter Try.func29, Try.ntmps29
  go_wp2_with fail
  refine HU.out.mono ?_
  rintro e w' ⟨rfl, rfl⟩
  go_wp2_with fail
  refine HS.out.mono ?_
  rintro e w2 ⟨rfl, hw⟩
  obtain ⟨D', hst, hfr, how⟩ := set_done H.out h8' HAL.out hw
  have HC := Lib.hid (count_ok u rt w2 hrt hst.k2 hst.fz)
  have HOK : Hid (ActOk w p q u mb N cap (Ar.setW B at_ v) B0 D cnt rt (w2.setCell ⟨u, 2, none⟩ (.int .i64 (rt + 1 : Nat)))) :=
    ⟨D', cnt + 1, Nat.le_refl _, hst.setU (.inl ⟨rfl, rfl, rfl⟩), hfr.trans fr_u (fun _ _ x => x) (fun _ _ x => x), how⟩
  have k02 := hst.k0
  clear hst hfr how hw HS HU
  go_wp2_with fail
  refine HC.out.mono ?_
  rintro e w' ⟨rfl, hw⟩
  have HR2 := HOK.out
  rw [← hw] at HR2
  have HR2 := Lib.hid HR2
  clear hw HOK
  go_wp2
  go_end0
  exact ⟨rfl, HR2.out⟩
set_option maxHeartbeats 2000000 in
theorem set_bad {w : World} {p q u mb N cap vb : Nat} {B B0 : Nat → Nat} {D : DataW Unit} {cnt rt : Nat} (h : DoSt w p q u mb N cap B B0 D cnt rt 0) (hv : w.cell? ⟨vb, 0, none⟩ = some (.pointer (some ⟨u, 0, none⟩))) (at_ er : Int) (v : Nat) (he : wbE N at_ = er) (hz : er ≠ 0) :
    Calls Try.prog 29 #[.pointer (some ⟨vb, 0, none⟩), .int .i64 at_, .int .u64 v] w fun e w' => e = .panicked (stopOf u) ∧ ActBad w p q u mb N cap B B0 D cnt rt er w' := by
  have HU := Lib.hid (under_at vb u p w hv h.k0 h.k3)
  have HS := Lib.hid (setword_bad p q N cap at_ er v w h.ar.c0 h.ar.small he hz)
  have HC := Lib.hid (count_bad u er 0 w hz h.k3 h.fz)
  have k0 := h.k0
  have HR := Lib.hid (act_fail (er := er) h)
  clear h he hv hz
  go_enter Try.func29, Try.ntmps29
  go_wp2_with fail
  refine HU.out.mono ?_
  rintro e w' ⟨rfl, rfl⟩
  go_wp2_with fail
  refine HS.out.mono ?_
  rintro e w' ⟨rfl, rfl⟩
  go_wp2_with fail
  refine HC.out.mono ?_
  rintro e w' ⟨rfl, hw⟩
  have HR2 := HR.out
  rw [← hw] at HR2
  have HR2 := Lib.hid HR2
  clear hw HR
  go_wp2
  exact ⟨rfl, rfl, HR2.out⟩

/-- A View outside of its Do does nothing. -/
theorem get_over (vb u : Nat) (at_ : Int) (w : World) (hv : w.cell? ⟨vb, 0, none⟩ = some (.pointer (some ⟨u, 0, none⟩))) (k0 : w.cell? ⟨u, 0, none⟩ = some (.pointer none)) :
    Calls Try.prog 32 #[.pointer (some ⟨vb, 0, none⟩), .int .i64 at_] w fun e w' => e = .returned (.int .u64 0) ∧ w = w' := by
  have HU := Lib.hid (under_over vb u w hv k0)
  clear hv k0
  go_enter Try.func32, Try.ntmps32
  go_wp2_with (go_at_call 61; refine HU.out.mono ?_; rintro e w' ⟨rfl, rfl⟩)
  go_ret
  exact ⟨rfl, rfl⟩
theorem set_over (vb u : Nat) (at_ : Int) (v : Nat) (w : World) (hv : w.cell? ⟨vb, 0, none⟩ = some (.pointer (some ⟨u, 0, none⟩))) (k0 : w.cell? ⟨u, 0, none⟩ = some (.pointer none)) :
    Calls Try.prog 29 #[.pointer (some ⟨vb, 0, none⟩), .int .i64 at_, .int .u64 v] w fun e w' => e = .returned (.tuple #[]) ∧ w = w' := by
  have HU := Lib.hid (under_over vb u w hv k0)
  clear hv k0
  go_enter Try.func29, Try.ntmps29
  go_wp2_with (go_at_call 61; refine HU.out.mono ?_; rintro e w' ⟨rfl, rfl⟩)
  go_end0
  exact ⟨rfl, rfl⟩
theorem need_over (vb u : Nat) (b : Bool) (w : World) (hv : w.cell? ⟨vb, 0, none⟩ = some (.pointer (some ⟨u, 0, none⟩))) (k0 : w.cell? ⟨u, 0, none⟩ = some (.pointer none)) :
    Calls Try.prog 30 #[.pointer (some ⟨vb, 0, none⟩), .bool b] w fun e w' => e = .returned (.tuple #[]) ∧ w = w' := by
  have HU := Lib.hid (under_over vb u w hv k0)
  clear hv k0
  go_enter Try.func30, Try.ntmps30
  go_wp2_with (go_at_call 61; refine HU.out.mono ?_; rintro e w' ⟨rfl, rfl⟩)
  refine bodyPost_ret (results_none rfl _ _ _) rfl ?_
  exact ⟨rfl, rfl⟩
end Go.Proofs.Ytbpganholopjfaa
