/- The walks of the law's own: same. -/
import Derived.Test.YtbpganholopjfaaAN
import Derived.Laws.BytesArg
namespace Go.Proofs.Ytbpganholopjfaa
open Go.RowKit

theorem conv_bytes (w : World) (q N c : Nat) (B S : Nat → Nat) (hb : BytesAt w q N B) (he : ∀ i, i < N → B i = S i) : (convert 25 9 (.slice (some ⟨q, 0, none⟩) N c)).run Try.prog w = .ok (.string (strOfNums ((List.range N).map fun i => ((S i : Nat) : Int)))) w := by
  refine run_convert_bytes_arg w 25 5 Try.underlying25 (by kernel_rfl) q 0 N c _ (by simp) (fun i hi => ?_) 9 (by kernel_rfl)
  rw [Nat.zero_add, hb.c i hi, he i hi]
  simp [List.getD, hi]

set_option maxHeartbeats 1000000 in
theorem same_at {w : World} {p q N cap r c : Nat} {B S : Nat → Nat} {wk : Option Addr} (h : ArAt w p q N cap B wk) (hl : Ls w r N c S) (he : ∀ i, i < N → B i = S i) :
    Calls Try.prog 24 #[.pointer (some ⟨p, 0, none⟩), .slice (some ⟨r, 0, none⟩) N c] w fun e w' => e = .returned (.bool true) ∧ w.grownBy w' none := by
  have HA := Lib.hid (alen_core p q N cap w h.c0)
  have HL := Lib.hid (aload_good h 0 N (by omega))
  have H := Lib.hid hl
  have HE := Lib.hid he
  clear h hl he
  go_enter Try.func24, Try.ntmps24
  go_upto_region 2 with (first
    | (go_at_call 33; refine HA.out.mono ?_; rintro e w' ⟨rfl, rfl⟩)
    | (go_at_call 20; refine HL.out.mono ?_; rintro e w1 ⟨q1, cap1, rfl, k1, k2, k3, k4⟩; have K := Lib.hid (And.intro k3 k4); clear k1 k2 k3 k4))
  have e1 := conv_bytes w1 q1 N cap1 _ S K.out.1 (fun i hi => by rw [Nat.zero_add]; exact HE.out i hi)
  have e2 := conv_bytes w1 r N c _ S (H.out.b.grown K.out.2 (by simp)) (fun i hi => rfl)
  generalize strOfNums ((List.range N).map fun i => ((S i : Nat) : Int)) = s at e1 e2
  go_wp2
  go_ret
  exact ⟨rfl, K.out.2⟩
end Go.Proofs.Ytbpganholopjfaa
