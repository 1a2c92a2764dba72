/- The code's Gone: all addresses that are gone, rising. -/
import Derived.Test.YtgnfcklippjeeaaGreatRS
import Derived.Test.YtgnfcklippjeeaaGreatWA
import Derived.Test.YtgnfcklippjeeaaGreatL4
namespace Go.Proofs.YtgnfcklippjeeaaGreat
open Go.RowKit Go.Maps Go.Sort Go.Shelf Go.Proofs

theorem sortsA (m : Nat) : AnyZI.SortsIn Tryz.prog Rs.sortedA_ren Fence.wide m :=
  ⟨fun blk off cap ss W hH hblk hsz => callsIn_wide.2 (AnyM.slices_Sort_int Rs.sortA blk off cap ss W hH hblk hsz),
   fun p cap W => callsIn_wide.2 (AnyM.slices_Sort_int_none Rs.sortA p cap W)⟩
/-- The gone ones below n. -/
def goneL (G : Nat → Bool) : Nat → List Int
  | 0 => []
  | n + 1 => if G n = true then goneL G n ++ [(n : Int)] else goneL G n
theorem mem_goneL {G : Nat → Bool} {x : Int} : ∀ n, x ∈ goneL G n ↔ ∃ k : Nat, k < n ∧ G k = true ∧ x = (k : Int)
  | 0 => by simp [goneL]
  | n + 1 => by
    have ih := mem_goneL (G := G) (x := x) n
    unfold goneL
    split
    · rename_i h
      rw [List.mem_append, ih, List.mem_singleton]
      constructor
      · rintro (⟨k, h1, h2⟩ | h1)
        · exact ⟨k, by omega, h2⟩
        · exact ⟨n, by omega, h, h1⟩
      · rintro ⟨k, h1, h2, h3⟩
        by_cases e : k = n
        · subst e; exact .inr h3
        · exact .inl ⟨k, by omega, h2, h3⟩
    · rename_i h
      rw [ih]
      constructor
      · rintro ⟨k, h1, h2⟩; exact ⟨k, by omega, h2⟩
      · rintro ⟨k, h1, h2, h3⟩
        exact ⟨k, by by_cases e : k = n
                     · subst e; exact absurd h2 h
                     · omega, h2, h3⟩
theorem goneL_len (G : Nat → Bool) : ∀ n, (goneL G n).length ≤ n
  | 0 => by simp [goneL]
  | n + 1 => by
    have := goneL_len G n
    unfold goneL
    split
    · simp; omega
    · omega
theorem goneL_up (G : Nat → Bool) : ∀ n, (goneL G n).Pairwise (fun a b => a < b)
  | 0 => by simp [goneL]
  | n + 1 => by
    have ih := goneL_up G n
    unfold goneL
    split
    · refine List.pairwise_append.2 ⟨ih, by simp, fun a ha b hb => ?_⟩
      obtain ⟨k, hk, _, rfl⟩ := (mem_goneL n).1 ha
      obtain rfl := List.mem_singleton.1 hb
      omega
    · exact ih
theorem goneL_perm {w : World} {F : Fp} {cnt : Nat} {G : Nat → Bool} {D : DataW Unit} {n : Nat} (hD : w.ownsMap Tryz.prog 3 unitElem F.mb cnt D) (hi : GIs D G) (hG : ∀ k, n ≤ k → G k = false) : (goneL G n).Perm (intKeys D) := by
  have hc : CollectedI D (fun _ => false) (goneL G n) := by
    refine ⟨(goneL_up G n).imp (fun h => by omega), fun x => ?_⟩
    constructor
    · intro hx
      obtain ⟨k, hk, h1, rfl⟩ := (mem_goneL n).1 hx
      exact ⟨(hi.h1 k).trans h1, rfl⟩
    · rintro ⟨hx, -⟩
      obtain ⟨k, e, hk⟩ := hi.h0 _ hx
      injection e with _ e
      subst e
      have h1 : G k = true := (hi.h1 k).symm.trans hx
      have hlt : k < n := Nat.lt_of_not_le (fun hge => by rw [hG k hge] at h1; cases h1)
      exact (mem_goneL n).2 ⟨k, hlt, h1, rfl⟩
  exact hc.perm hD kint Tryz.underlying3 (fun _ => rfl)
theorem goneL_sorted (G : Nat → Bool) (n : Nat) : (goneL G n).mergeSort leI = goneL G n := by
  refine List.Perm.eq_of_pairwise (le := fun a b => leI a b = true) (fun a b _ _ h1 h2 => ?_) (List.pairwise_mergeSort (fun a b c h1 h2 => ?_) (fun a b => ?_) _) ((goneL_up G n).imp (fun h => by simp only [leI, decide_eq_true_eq]; omega)) (List.mergeSort_perm _ leI)
  · simp only [leI, decide_eq_true_eq] at h1 h2; omega
  · simp only [leI, decide_eq_true_eq] at h1 h2 ⊢; omega
  · simp only [leI, Bool.or_eq_true, decide_eq_true_eq]; omega

set_option maxRecDepth 100000 in
set_option maxHeartbeats 2000000 in
theorem gone_all {w : World} {b0 : Nat} {F : Fp} {cnt : Nat} {G : Nat → Bool} {rv : Value} {N : List Rep} (h : LdAt w b0 F cnt G rv N) {n : Nat} (hn : n ≤ 65536) (hG : ∀ k, n ≤ k → G k = false) :
    Calls Tryz.prog 44 #[.pointer (some ⟨F.p, 0, none⟩)] w fun e w' => ∃ v, e = .returned v ∧ w'.ownsRow w.heap.size 3 1 v (goneL G n).length ((goneL G n).map encZ) ∧ w.grownBy w' none := by
  obtain ⟨D, hD, hi⟩ := h.mp
  have hperm := goneL_perm hD hi hG
  have hlen := goneL_len G n
  have hsz : Maps.size D = (goneL G n).length := by
    rw [hperm.length_eq]
    obtain ⟨es, rfl⟩ := hD.isMap
    exact (List.length_map ..).symm
  have hmax : Maps.size D ≤ maxLen := by rw [hsz]; simp only [maxLen]; omega
  have hbytes : Maps.size D * 8 ≤ 140737488355328 := by omega
  have HSO : Hid (∀ ss : List Int, ss.Perm (intKeys D) → ss.length = (goneL G n).length ∧ (ss.mergeSort (fun x y => decide (x ≤ y))).map encZ = (goneL G n).map encZ) := Lib.hid (fun ss hs => by
    refine ⟨by rw [hs.length_eq, ← hperm.length_eq], ?_⟩
    have := mergeSort_of_perm_i (hs.trans hperm.symm)
    rw [goneL_sorted G n] at this
    rw [show (fun x y : Int => decide (x ≤ y)) = leI from rfl, this])
  have hown := hD
  have c1 := h.c1
  refine (callsIn_wide (n := 6)).1 ?_
  have hbl := hown.lt
  have hseq : SeqGives Fence.wide 2 Tryz.prog 155 #[.pointer (some ⟨w.heap.size, 0, none⟩)] encZ (fun ss => ss.Perm (intKeys D)) (Maps.size D) (w.alloc (.cells #[.map (some F.mb)] 139)) :=
    AnyZI.keys_gives (ρ := Rs.keysA_ren) { Rs.keysA with } Fence.wide _ trivial rfl (by omega) w.heap.size F.mb cnt D _ (by simp) (by simp) (by
      obtain ⟨es, clock, hb, Ft, hs, hD⟩ := hown
      exact ⟨es, clock, (Below.heap_alloc _ _ F.mb hbl).trans hb, Ft, hs, hD⟩)
  have cK : ∀ mb W, CallsIn Fence.wide 5 Tryz.prog 99 #[.map mb] W fun e w' => e = .returned (.func (.func 155) #[] #[.pointer (some ⟨W.heap.size, 0, none⟩)]) ∧ w' = W.alloc (.cells #[.map mb] 139) := fun mb W => AnyZI.keys_in Rs.keysA Fence.wide 5 trivial rfl mb W
  have cS := AnyZI.sorted_in Rs.sortedA Fence.wide 5 trivial trivial trivial trivial rfl (by omega) (sortsA _) (enters_of Tryz.func154 (by kernel_rfl) rfl) 155 #[.pointer (some ⟨w.heap.size, 0, none⟩)] trivial (enters_of Tryz.func155 (by kernel_rfl) rfl) _ _ hmax hbytes _ hseq
  change CallsIn _ _ Tryz.prog 98 _ _ _ at cS
  have hfK : Fence.wide.fn 99 := trivial
  have hfS : Fence.wide.fn 98 := trivial
  clear hseq hown hbytes hmax hsz hperm h hD hi hG hlen hn
  refine callsIn_of_wp Tryz.func44 rfl trivial ?_ rfl
  simp only [Tryz.ntmps44, List.size_toArray, List.length_cons, List.length_nil, Nat.reduceAdd, Nat.reduceSub, Array.replicate_succ, Array.replicate_zero, List.push_toArray, List.append_toArray, List.nil_append, List.cons_append]
  gi_wp2_with (first
    | (gi_at_call 99; refine (cK _ _).mono ?_; rintro e w' ⟨rfl, rfl⟩)
    | (gi_at_call 98; refine cS.mono ?_; rintro e w' ⟨v, ss, rfl, hS, hrow, hnil, hb⟩))
  go_ret
  obtain ⟨s1, s2⟩ := HSO.out ss hS
  refine ⟨v, rfl, ?_, grown_of_below (((Below.refl _ w).alloc (Nat.le_refl _) _).trans (hb.mono (by simp)))⟩
  have := ownsRow_base_a hrow (by simp : w.heap.size ≤ _)
  rw [s1, s2] at this
  exact this
end Go.Proofs.YtgnfcklippjeeaaGreat
