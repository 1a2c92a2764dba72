/- The walks of the law's own: awake. -/
import Derived.Test.YtbpganholopjfaaAO
import Derived.Test.YtbpganholopjfaaAK
namespace Go.Proofs.Ytbpganholopjfaa
open Go.RowKit

theorem fr_widen {a b : Nat → Prop} {w w' : World} (h : Fr a w w') (hab : ∀ i, a i → b i) : Fr b w w' := ⟨h.os, h.tape, h.output, h.size, fun i hi hm => h.block i hi (fun x => hm (hab i x))⟩

set_option maxHeartbeats 1000000 in
theorem awake_fn (w : World) (p q cap : Nat) (B : Nat → Nat) : DoFn w p q 256 cap B 58 #[] (fun _ => False) (fun _ _ _ _ _ rt fl => rt = 1 ∧ fl = 3) := by
  intro W u vb mb hst hv hfr h1 h2 h3 h4 h5
  have HS := Lib.hid (set_good hst hv (by omega) (by omega) 0 5 rfl)
  have H := Lib.hid hst
  have HV := Lib.hid hv
  have HQ : Hid (vb ≠ q) := Lib.hid (fun e => by subst e; have := hst.ar.b.c 0 (by omega); rw [hv] at this; simp at this)
  clear hst hfr hv
  show Calls Try.prog 58 #[.pointer (some ⟨vb, 0, none⟩)] W _
  go_enter Try.func58, Try.ntmps58
  go_wp2_with fail
  refine HS.out.mono ?_
  rintro e w2 ⟨rfl, D', cnt', hcnt, hst2, hfr2, how⟩
  have HB := Lib.hid (set_bad hst2 (hfr2.cell HV.out (by rintro (e | e | e); exact HQ.out e; exact h5 e; exact h4 e)) 256 3 1 rfl (by omega))
  have HF := Lib.hid hfr2
  clear hst2 hfr2 how HS
  go_wp2_with fail
  refine HB.out.mono ?_
  rintro e w3 ⟨rfl, hst3, hfr3⟩
  have HR : Hid (∃ (B' : Nat → Nat) (D : DataW Unit) (cnt rt : Nat) (fl : Int), Ending.panicked (stopOf u) = (if fl = 0 then .returned (.tuple #[]) else .panicked (stopOf u)) ∧
      DoSt w3 p q u mb 256 cap B' B D cnt rt fl ∧ Fr (fun i => i = q ∨ i = u ∨ i = mb ∨ False) W w3 ∧ rt = 1 ∧ fl = 3) :=
    Lib.hid ⟨_, _, _, _, _, by rw [if_neg (by omega)], hst3, fr_widen (HF.out.trans hfr3 (fun _ _ x => x) (fun _ _ x => x)) (fun i x => by rcases x with x | x | x <;> simp [x]), rfl, rfl⟩
  clear hst3 hfr3 HF HB
  go_wp2
  exact ⟨rfl, HR.out⟩

theorem call_awake1 (args : Array Value) (w : World) : (callFunc 58 args).run Try.prog w = .ok (.enter 58 args) w := by
  kernel_rfl

set_option maxHeartbeats 1000000 in
theorem awake_at (w : World) : Calls Try.prog 25 #[] w fun e w' => e = .returned (.bool true) ∧ w.grownBy w' none := by
  have HN := Lib.hid (anew_at 1 1 w (by omega) (.inr (.inl ⟨by omega, by omega, rfl⟩)))
  go_enter Try.func25, Try.ntmps25
  go_wp2_with fail
  refine HN.out.mono ?_
  rintro e w1 hm
  obtain ⟨p, q, cap, rfl, har, hp, hq, hg⟩ := hm
  have HD := Lib.hid (do_run har 58 #[] (fun _ => False) (fun _ _ _ _ _ rt fl => rt = 1 ∧ fl = 3) (fun _ x => x.elim) call_awake1 (awake_fn w1 p q cap _))
  have HG := Lib.hid (And.intro hp (And.intro hq hg))
  clear har hp hq hg HN
  go_wp2_with fail
  refine HD.out.mono ?_
  rintro e w2 ⟨W, w3, B', rt, fl, u, vb, rfl, har, _, ⟨rfl, rfl⟩, _, _, _, _, _, hfr⟩
  rw [if_neg (by omega)] at har
  have HW := word_at har 0
  have HL := Lib.hid (alen_core p q 256 cap w2 har.c0)
  have hz : wordV (fun _ => 0) 256 0 = 0 := by decide
  have he : wbE 256 0 = 0 := by decide
  rw [show 1 * 256 = 256 from rfl, hz, he] at HW
  have HW := Lib.hid HW
  have HF : Hid (w.grownBy w2 none) := Lib.hid (hfr.grown HG.out.2.2 (fun i x => by rcases x with x | x | x; (rw [x]; exact HG.out.1); (rw [x]; exact HG.out.2.1); exact x.elim))
  clear har hfr hz he HD HG
  go_wp2_with (first
    | (go_at_call 19; refine HW.out.mono ?_; rintro e w' ⟨rfl, rfl⟩)
    | (go_at_call 33; refine HL.out.mono ?_; rintro e w' ⟨rfl, rfl⟩))
  go_ret
  exact ⟨rfl, HF.out⟩
end Go.Proofs.Ytbpganholopjfaa
