/- The walk of the law BitsetEnds. -/
import Derived.Test.YtkaoodglnglkdaaDoorF
namespace Go.Proofs.YtkaoodglnglkdaaDoor
open Go.RowKit

set_option maxHeartbeats 400000 in
theorem all_nil (w : World) : Calls Tryd.prog 19 #[.pointer none] w fun e w' => e = .returned (.slice none 0 0) ∧ w = w' := by
  go_enter Tryd.func19, Tryd.ntmps19
  go_wp2
  go_ret
  exact ⟨rfl, rfl⟩

set_option maxHeartbeats 2000000 in
theorem ends_walk (n : Int) (w : World) (hT : Tab w) : Calls Tryd.prog 5 #[.int .i64 n] w fun e w' => e = .returned (.bool true) ∧ w.grownBy w' none := by
  have HT := Lib.hid hT
  have hpos := hT.pos
  clear hT
  go_enter Tryd.func5, Tryd.ntmps5
  go_wp2_with fail
  refine (next_nil n false _).mono ?_
  rintro e w' ⟨rfl, rfl⟩
  go_wp2_with fail
  refine (new_at n _).mono ?_
  rintro e w1 ⟨p, q, cap, rfl, hs, hp, hq, hg⟩
  have HS := Lib.hid hs
  have HG := Lib.hid hg
  clear hs hg
  go_wp2_with fail
  refine (len_at HS.out).mono ?_
  rintro e w' ⟨rfl, rfl⟩
  go_wp2_with fail
  refine (refnew_at n _).mono ?_
  rintro e w2 ⟨rfl, rfl⟩
  have HG2 := Lib.hid (grown_trans HG.out (World.grownBy_alloc w1 (.cells (madeCells (Value.bool false).cells (clampN n)) 4) none))
  generalize w1.alloc (.cells (madeCells (Value.bool false).cells (clampN n)) 4) = w2 at *
  generalize clampN n = K at *
  have hK : (((K : Nat) : Int) == K) = true := by simp
  go_wp2_with fail
  refine (len_nil _).mono ?_
  rintro e w' ⟨rfl, rfl⟩
  go_wp2_with fail
  refine (count_nil _).mono ?_
  rintro e w' ⟨rfl, rfl⟩
  go_wp2_with fail
  refine (has_nil n _).mono ?_
  rintro e w' ⟨rfl, rfl⟩
  go_wp2_with fail
  refine (put_nil n true _).mono ?_
  rintro e w' ⟨rfl, rfl⟩
  go_wp2_with fail
  refine (all_nil _).mono ?_
  rintro e w' ⟨rfl, rfl⟩
  go_wp2_with fail
  refine (copy_nil _).mono ?_
  rintro e w' ⟨rfl, rfl⟩
  go_wp2_with fail
  refine (new_core 0 0 _ (by omega) (by omega) (by omega) (by omega)).mono ?_
  rintro e w3 ⟨p3, q3, cap3, rfl, hs3, hp3, hq3, hg3⟩
  have HS3 := Lib.hid hs3
  have HG3 := Lib.hid (grown_trans HG2.out hg3)
  clear hs3 hg3
  go_wp2_with fail
  refine (same_none _ _ _ (fun d => len_nil _) (len_at HS3.out)).mono ?_
  rintro e w4 ⟨rfl, d, rfl⟩
  have HG4 := Lib.hid (grown_drew HG3.out d)
  go_wp2_with fail
  refine (awake_at _ (HT.out.grown HG4.out (by simp))).mono ?_
  rintro e w5 ⟨rfl, hg5⟩
  have HG5 := Lib.hid (grown_trans HG4.out hg5)
  clear hg5
  go_wp2
  go_ret
  exact ⟨rfl, HG5.out⟩
end Go.Proofs.YtkaoodglnglkdaaDoor
