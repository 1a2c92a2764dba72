/- The law's Make: both regions, side by side. -/
import Derived.Test.YtgnfcklippjeeaaGreatQ1
import Derived.Test.YtgnfcklippjeeaaGreatL5
namespace Go.Proofs.YtgnfcklippjeeaaGreat
open Go.RowKit

set_option maxRecDepth 100000 in
set_option maxHeartbeats 2000000 in
theorem make9_at {m M : Nat} (s : Nat) (w : World) (h1 : 1 ≤ m + M) (h2 : m + M ≤ 256) :
    Calls Tryz.prog 10 #[.int .i64 m, .int .i64 M, .int .u64 s] w fun e w' => ∃ A D T pp, e = .returned (.pointer (some ⟨pp, 0, none⟩)) ∧ PrAt w w' A D T (St.new m (m + M) (keyOf s)) (St.new m (m + M) (keyOf s)) 0 pp ∧ w.heap.size ≤ pp := by
  have HN := Lib.hid (rgnew_yes (m := m) (M := M) s w ⟨by omega, by omega, by omega, by omega⟩)
  have HD := Lib.hid (fun W => drnew_at (m := m) (M := M) s W h1 h2)
  clear h1 h2
  go_enter Tryz.func10, Tryz.ntmps10
  go_wp2_with fail
  refine HN.out.mono ?_
  rintro e w1 hm
  obtain ⟨A, rfl, hy, hp⟩ := rnew_y hm
  have HY := Lib.hid hy
  have HDD := Lib.hid (HD.out w1)
  clear hm hy hp HN HD
  go_wp2_with fail
  refine HDD.out.mono ?_
  rintro e w2 ⟨D, rfl, hT, hg⟩
  have HT := Lib.hid hT
  have HG := Lib.hid hg
  clear hT hg HDD
  go_wp2
  go_ret
  have g2 := grown_trans HG.out (grown_alloc w2 (.cells #[.pointer (some ⟨A.p, 0, none⟩), .pointer (some ⟨D.p, 0, none⟩)] 34) none)
  have s1 := HY.out.all.size
  have s2 := HG.out.size
  have hd := HT.out (fun _ => 1)
  have hDp := hd.toDrW.plt
  refine ⟨A, D, tset (newT (fun _ => 1) w1.heap.size D) w2.heap.size 0, w2.heap.size, rfl, ⟨HY.out.grown g2, (hd.relab (fun i hi => tset_other (by omega))).grown (grown_alloc _ _ _), fun i hi => ?_, fun i hi => ?_, ?_, ?_, tset_same _ _ _⟩, by omega⟩
  · have := HY.out.at_.toRnW.any_lt hi
    rw [tset_other (by omega), newT_old _ D this]
  · rw [tset_other (by omega), newT_old _ D (by omega)]
    omega
  · exact (cell_alloc_new ..).trans rfl
  · exact (cell_alloc_new ..).trans rfl
end Go.Proofs.YtgnfcklippjeeaaGreat
