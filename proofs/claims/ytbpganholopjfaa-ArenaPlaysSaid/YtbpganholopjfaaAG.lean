/- The walks of page, keep, and of open within a Do. -/
import Derived.Test.YtbpganholopjfaaAF
namespace Go.Proofs.Ytbpganholopjfaa
open Go.RowKit
open Go.Maps (Keyed)

set_option maxHeartbeats 800000 in
theorem page_at (p q N cap pg : Nat) (w : World) (h0 : w.cell? ⟨p, 0, none⟩ = some (.slice (some ⟨q, 0, none⟩) N cap)) (hN : N ≤ 65536) (hcap : N ≤ cap) (hp : pg * 256 + 256 ≤ N) :
    Calls Try.prog 77 #[.pointer (some ⟨p, 0, none⟩), .int .i64 pg] w fun e w' => (∃ c, e = .returned (.slice (some ⟨q, pg * 256, none⟩) 256 c)) ∧ w = w' := by
  have hpg : pg ≤ 256 := by omega
  have hc : ¬ cap = pg * 256 := by omega
  have hc2 : ((pg : Int) + 1) * 256 ≤ cap := by omega
  have q4 : (pg + 1) * 256 - pg * 256 = 256 := by omega
  have q5 : (pg : Int) * 256 ≤ ((pg : Int) + 1) * 256 := by omega
  go_enter Try.func77, Try.ntmps77
  go_wp2
  go_ret
  exact ⟨⟨cap - pg * 256, congrArg (fun x => Ending.returned (Value.slice (some ⟨q, pg * 256, none⟩) x (cap - pg * 256))) q4⟩, rfl⟩

/-- What keeping a page leaves. -/
def KeepRes (w : World) (p q u mb N cap : Nat) (B B0 : Nat → Nat) (D : DataW Unit) (cnt rt pg : Nat) (w' : World) : Prop :=
  ∃ D', DoSt w' p q u mb N cap B B0 D' (cnt + 1) rt 0 ∧ Go.Maps.has D' (.int .i64 pg) = true ∧ Fr (fun i => i = mb) w w' ∧ ∀ i, DoSt.Own p q u mb D' i → DoSt.Own p q u mb D i ∨ w.heap.size ≤ i

theorem keep_done {w w2 w3 w4 : World} {p q u mb N cap : Nat} {B B0 : Nat → Nat} {D : DataW Unit} {cnt rt pg bk bc : Nat} (h : DoSt w p q u mb N cap B B0 D cnt rt 0) (hpg : pg * 256 + 256 ≤ N)
    (hno : Go.Maps.has D (.int .i64 pg) = false) (g2 : w.grownBy w2 none) (hb : w2.heap.size ≤ bk) (hbk : BytesAt w3 bk 256 (fun i => B (pg * 256 + i))) (g3 : w2.grownBy w3 none)
    (hm : w4.ownsMap Try.prog 3 slR mb (cnt + 1) (D.put (.int .i64 pg) (slD bk bc))) (ht : w3.mapTurned w4 mb) : KeepRes w p q u mb N cap B B0 D cnt rt pg w4 := by
  have h3 := h.grown (grown_trans g2 g3)
  have g4 : Fr (fun i => i = mb) w3 w4 := fr_some ht.grown (fun _ => rfl)
  have hkl : WideAt.IsKeyLit (.int .i64 (pg : Int)) := kint.key (Go.Maps.keyOf_int_mk Try.underlying3 (WalkArith.wf_i64 (by have := h.ar.small; omega)))
  have hD := h.map.isMap
  have hsz := g2.size
  have hmlt := h.map.lt
  have hult := h.ult
  have hplt := h.ar.plt
  have hqlt := h.ar.b.qlt
  refine ⟨D.put (.int .i64 pg) (slD bk bc), ?_, Go.Maps.has_put_same hD hkl _, ?_, ?_⟩
  · exact {
      ar := ⟨g4.cell h3.ar.c0 (Ne.symm h.mp), g4.cell h3.ar.c1 (Ne.symm h.mp), fun k => by rw [g4.frozen h3.ar.plt (Ne.symm h.mp)]; exact h3.ar.fz k, h3.ar.b.fr g4 (Ne.symm h.mq), h.ar.ne, h.ar.hcap, h.ar.small, h.ar.page, h.ar.lt⟩
      k0 := g4.cell h3.k0 (Ne.symm h.mu)
      k1 := g4.cell h3.k1 (Ne.symm h.mu)
      k2 := g4.cell h3.k2 (Ne.symm h.mu)
      k3 := g4.cell h3.k3 (Ne.symm h.mu)
      k4 := g4.cell h3.k4 (Ne.symm h.mu)
      fz := fun k => by rw [g4.frozen h3.ult (Ne.symm h.mu)]; exact h3.fz k
      map := hm
      keys := fun kl hk => by
        by_cases e : kl = .int .i64 pg
        · subst e
          refine ⟨pg, bk, bc, rfl, hpg, fun zd => Go.Maps.atKey_put_same hD hkl _ _, ?_, by omega, by omega, by omega, by omega⟩
          have := hbk.fr g4 (by show ¬ bk = mb; omega)
          refine ⟨fun i hi => ?_, this.fz, this.qlt⟩
          rw [this.c i hi, h.rest pg hpg hno i hi]
        · rw [Go.Maps.has_put_other e] at hk
          obtain ⟨pg2, bk2, bc2, h1, h2, h4, h5, h6, h7, h8, h9⟩ := h3.keys kl hk
          exact ⟨pg2, bk2, bc2, h1, h2, fun zd => by rw [Go.Maps.atKey_put_other e]; exact h4 zd, h5.fr g4 h9, h6, h7, h8, h9⟩
      rest := fun pg2 h2 hk => by
        by_cases e : Lit.int .i64 (pg2 : Int) = .int .i64 pg
        · rw [e, Go.Maps.has_put_same hD hkl] at hk; cases hk
        · rw [Go.Maps.has_put_other e] at hk
          exact h.rest pg2 h2 hk
      up := h.up
      uq := h.uq
      mp := h.mp
      mq := h.mq
      mu := h.mu
      lt0 := h.lt0 }
  · exact (fr_none (may := fun _ => False) (grown_trans g2 g3)).trans g4 (fun _ _ x => x.elim) (fun _ _ x => x)
  · rintro i (rfl | rfl | rfl | rfl | ⟨kl, c, hk, ha⟩)
    · exact .inl (.inl rfl)
    · exact .inl (.inr (.inl rfl))
    · exact .inl (.inr (.inr (.inl rfl)))
    · exact .inl (.inr (.inr (.inr (.inl rfl))))
    · by_cases e : kl = .int .i64 pg
      · subst e
        have := (Go.Maps.atKey_put_same hD hkl (slD bk bc) .nil).symm.trans (ha .nil)
        obtain ⟨rfl, _⟩ := slD_inj this
        exact .inr (by omega)
      · rw [Go.Maps.has_put_other e] at hk
        exact .inl (.inr (.inr (.inr (.inr ⟨kl, c, hk, fun zd => by rw [← Go.Maps.atKey_put_other e]; exact ha zd⟩))))

theorem zeroSl (w : World) : (zeroValue 25).run Try.prog w = .ok (.slice none 0 0) w := by kernel_rfl

set_option maxRecDepth 100000 in
set_option maxHeartbeats 4000000 in
theorem keep_at {w : World} {p q u mb N cap : Nat} {B B0 : Nat → Nat} {D : DataW Unit} {cnt rt : Nat} (h : DoSt w p q u mb N cap B B0 D cnt rt 0) (at_ pg : Nat) (hpg : at_ = pg * 256 + at_ % 256) (h8 : at_ + 8 ≤ N) (hal : at_ % 8 = 0) (hcnt : cnt ≤ 1000000) :
    Calls Try.prog 76 #[.pointer (some ⟨u, 0, none⟩), .int .i64 at_, .int .i64 8] w fun e w' => e = .returned (.tuple #[]) ∧ KeepRes w p q u mb N cap B B0 D cnt rt pg w' := by
  have H := Lib.hid h
  have hN := h.ar.small
  have hpg2 : pg * 256 + 256 ≤ N := by have := h.ar.page; omega
  have hat : at_ ≤ 65536 := by omega
  have hpq : (at_ : Int) / 256 = pg := by omega
  have HPQ := Lib.hid hpq
  have t0 : (pg : Int) * 256 < at_ + 8 := by omega
  have t1 : ¬ ((pg : Int) + 1) * 256 < at_ + 8 := by omega
  have hpg256 : pg ≤ 256 := by omega
  have HPP := Lib.hid hpg
  clear h hpq hpg
  go_enter Try.func76, Try.ntmps76
  go_upto_region 0 with (fail)
  go_cut [6] (fun s wx => s = .int .i64 pg ∧ wx = w)
  case first =>
    go_wp2
    go_meet
    exact ⟨vint HPQ.out, rfl⟩
  case rest =>
    obtain ⟨rfl, rfl⟩ := hcut
    obtain ⟨w1, rfl⟩ : ∃ w1 : World, w1 = wc := ⟨_, rfl⟩
    go_wp2_with fail
    go_loopw [6] (fun i wr => (i = .int .i64 pg ∧ wr = w1) ∨ (i = .int .i64 ((pg : Int) + 1) ∧ KeepRes w1 p q u mb N cap B B0 D cnt rt pg wr)) (fun i _ => pg + 1 - (intOf i).toNat)
    case atStart => exact .inl ⟨rfl, rfl⟩
    case round =>
      rcases hrel with ⟨rfl, hwr⟩ | ⟨rfl, hk⟩
      · subst hwr
        have k4 := H.out.k4
        have k0 := H.out.k0
        have hmu : some u ≠ some mb := fun e => H.out.mu (Option.some.inj e).symm
        have hkey := Go.Maps.keyOf_int_mk (P := Try.prog) Try.underlying3 (a := (pg : Int)) (WalkArith.wf_i64 (by omega))
        obtain ⟨v, ps, hlk, _⟩ := H.out.map.look_ok kint Try.underlying99 (zeroSl wr) slR_nil hkey
        cases hhas : Go.Maps.has D (.int .i64 (pg : Int)) with
        | true =>
          rw [hhas] at hlk
          have HH := Lib.hid hhas
          clear hhas hkey
          go_wp2
          go_roundw
          case rel => exact .inr ⟨vint (by omega), D, ⟨H.out.ar, H.out.k0, H.out.k1, H.out.k2, H.out.k3, H.out.k4, H.out.fz, H.out.map.mono (by omega), H.out.keys, H.out.rest, H.out.up, H.out.uq, H.out.mp, H.out.mq, H.out.mu, H.out.lt0⟩, HH.out, fr_refl _ _, fun i hi => .inl hi⟩
          case measure => simp [intOf]
        | false =>
          rw [hhas] at hlk
          have HH := Lib.hid hhas
          have HK := Lib.hid hkey
          clear hhas hkey
          have HPG := Lib.hid (fun W (g : wr.grownBy W none) => page_at p q N cap pg W ((H.out.grown g).ar.c0) hN H.out.ar.hcap hpg2)
          have HCL := Lib.hid (fun W c (g : wr.grownBy W none) => bclone_at q (pg * 256) 256 c (fun i => B (pg * 256 + i)) W (by omega) (fun i hi => (H.out.grown g).ar.b.c _ (by omega)))
          have hgr := grown_refl wr none
          go_upto_region 5 with (fail)
          clear hlk
          go_region_held3 (fun w' => w'.cell? ⟨u, 4, none⟩ = some (.map (some mb)) ∧ w'.cell? ⟨u, 0, none⟩ = some (.pointer (some ⟨p, 0, none⟩)))
            (first | exact ⟨k4, k0⟩ | exact ⟨hg3.cell k4 (by simp), hg3.cell k0 (by simp)⟩ | exact ⟨ht.grown.cell (hg3.cell k4 (by simp)) hmu, ht.grown.cell (hg3.cell k0 (by simp)) hmu⟩)
            (first
            | (go_at_call 77; refine (HPG.out _ (grown_drew1 hgr)).mono ?_; rintro e w2 ⟨⟨c, rfl⟩, rfl⟩)
            | (go_at_call 56; refine (HCL.out _ _ (grown_drew1 hgr)).mono ?_; rintro e w3 ⟨bk, bc, rfl, hbc, hbk, hbb, hg3⟩; obtain ⟨w4, hst, hm4, ht⟩ := ((H.out.grown (grown_trans (grown_drew1 hgr) hg3)).map).store kint Try.underlying99 (by unfold maxLen; omega) HK.out (slR_some bk bc)))
          all_goals
            have HKD := Lib.hid (keep_done H.out hpg2 HH.out (grown_drew1 hgr) hbk hbb hg3 hm4 ht)
            clear hm4 ht hg3 hbb hbk hst hgr HCL HPG
            go_wp2
            go_roundw
            case rel => exact .inr ⟨vint (by omega), HKD.out⟩
            case measure => simp [intOf]
      · have HK := Lib.hid hk
        clear hk
        go_wp2
        go_end0
        exact ⟨rfl, HK.out⟩

set_option maxHeartbeats 1000000 in
theorem open_some {w : World} {p q u mb N cap : Nat} {B B0 : Nat → Nat} {D : DataW Unit} {cnt rt : Nat} (h : DoSt w p q u mb N cap B B0 D cnt rt 0) (at_ : Nat) (h8 : at_ + 8 ≤ N) (hal : at_ % 8 = 0) (hcnt : cnt ≤ 1000000) :
    Calls Try.prog 51 #[.pointer (some ⟨p, 0, none⟩), .int .i64 at_, .int .i64 8] w fun e w' => OpenRes q at_ 8 e ∧ KeepRes w p q u mb N cap B B0 D cnt rt (at_ / 256) w' := by
  have HK := Lib.hid (keep_at h at_ (at_ / 256) (by omega) h8 hal hcnt)
  have hN := h.ar.small
  have hcap := h.ar.hcap
  have h0 := h.ar.c0
  have h1 := h.ar.c1
  have hat : at_ ≤ 65536 := by omega
  have hin : (at_ : Int) + 8 ≤ cap := by omega
  have q4 : at_ + 8 - at_ = 8 := by omega
  have hca : ¬ cap = at_ := by omega
  clear h
  go_enter Try.func51, Try.ntmps51
  go_wp2_with fail
  refine HK.out.mono ?_
  rintro e w1 ⟨rfl, D', hst, hh, hfr, how⟩
  have c0 := hst.ar.c0
  have HR := Lib.hid (show KeepRes w p q u mb N cap B B0 D cnt rt (at_ / 256) w1 from ⟨D', hst, hh, hfr, how⟩)
  clear hst hh hfr how
  go_wp2
  go_ret
  exact ⟨⟨at_, cap - at_, congrArg (fun x => Ending.returned (Value.slice (some ⟨q, at_, none⟩) x (cap - at_))) q4, fun _ => rfl⟩, HR.out⟩
end Go.Proofs.Ytbpganholopjfaa
