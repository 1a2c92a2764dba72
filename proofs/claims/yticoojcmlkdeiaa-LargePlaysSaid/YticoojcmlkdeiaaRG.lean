/- The set's All against the document's list. -/
import Derived.Test.YticoojcmlkdeiaaRS
import Derived.Test.YticoojcmlkdeiaaRF
namespace Go.Proofs.Yticoojcmlkdeiaa
open Go.RowKit Go.Maps Go.Sort Go.Shelf Go.Proofs
open Lg (pgs)
open Rf (LZ)

theorem sortsA (m : Nat) : AnyZI.SortsIn Try.prog Rs.sortedA_ren Fence.wide m :=
  ⟨fun blk off cap ss W hH hblk hsz => callsIn_wide.2 (AnyM.slices_Sort_int Rs.sortA blk off cap ss W hH hblk hsz),
   fun p cap W => callsIn_wide.2 (AnyM.slices_Sort_int_none Rs.sortA p cap W)⟩

def firsts (L : List (Nat × Nat)) : List Int := L.map fun b => ((b.1 : Nat) : Int)
theorem firsts_up {L : List (Nat × Nat)} {Z : Nat → Nat} (h : LZ L Z) : (firsts L).Pairwise (fun a b => a < b) := by
  unfold firsts
  rw [List.pairwise_map]
  exact h.up.imp (fun h => by omega)
theorem firsts_perm {w : World} {X : Lp} {cnt : Nat} {D : DataW Unit} {L : List (Nat × Nat)} {Z B : Nat → Nat} (h : LgAt w X cnt D Z B) (hz : LZ L Z) : (firsts L).Perm (intKeys D) := by
  have hc : CollectedI D (fun _ => false) (firsts L) := by
    refine ⟨(firsts_up hz).imp (fun h => by omega), fun x => ?_⟩
    constructor
    · intro hx
      obtain ⟨b, hb, rfl⟩ := List.mem_map.1 hx
      have hb2 := (hz.mem b.1 b.2).1 hb
      exact ⟨h.is.h1 b.1 (by omega), rfl⟩
    · rintro ⟨hx, -⟩
      obtain ⟨k, e, hk⟩ := h.is.h0 _ hx
      injection e with _ e
      subst e
      exact List.mem_map.2 ⟨(k, Z k), (hz.mem k (Z k)).2 ⟨rfl, hk⟩, rfl⟩
  exact hc.perm h.map kint Try.underlying3 (fun _ => rfl)
theorem firsts_sorted {L : List (Nat × Nat)} {Z : Nat → Nat} (h : LZ L Z) : (firsts L).mergeSort leI = firsts L := by
  refine List.Perm.eq_of_pairwise (le := fun a b => leI a b = true) (fun a b _ _ h1 h2 => ?_) (List.pairwise_mergeSort (fun a b c h1 h2 => ?_) (fun a b => ?_) _) ((firsts_up h).imp (fun h => by simp only [leI, decide_eq_true_eq]; omega)) (List.mergeSort_perm _ leI)
  · simp only [leI, decide_eq_true_eq] at h1 h2; omega
  · simp only [leI, decide_eq_true_eq] at h1 h2 ⊢; omega
  · simp only [leI, Bool.or_eq_true, decide_eq_true_eq]; omega

set_option maxRecDepth 100000 in
set_option maxHeartbeats 2000000 in
theorem lall_at {w : World} {X : Lp} {cnt : Nat} {D : DataW Unit} {L : List (Nat × Nat)} {Z B : Nat → Nat} (h : LgAt w X cnt D Z B) (hz : LZ L Z) (hlen : L.length ≤ 1000) :
    Calls Try.prog 33 #[.pointer (some ⟨X.p, 0, none⟩)] w fun e w' => ∃ v, e = .returned v ∧ w'.ownsRow w.heap.size 3 1 v L.length ((firsts L).map encZ) ∧ w.grownBy w' none := by
  have hperm := firsts_perm h hz
  have hfl : (firsts L).length = L.length := List.length_map ..
  have hsz : Maps.size D = L.length := by
    rw [← hfl, hperm.length_eq]
    obtain ⟨es, rfl⟩ := h.map.isMap
    exact (List.length_map ..).symm
  have hmax : Maps.size D ≤ maxLen := by rw [hsz]; simp only [maxLen]; omega
  have hbytes : Maps.size D * 8 ≤ 140737488355328 := by omega
  have HSO : Hid (∀ ss : List Int, ss.Perm (intKeys D) → ss.length = L.length ∧ (ss.mergeSort (fun x y => decide (x ≤ y))).map encZ = (firsts L).map encZ) := Lib.hid (fun ss hs => by
    refine ⟨by rw [hs.length_eq, ← hperm.length_eq, hfl], ?_⟩
    have := mergeSort_of_perm_i (hs.trans hperm.symm)
    rw [firsts_sorted hz] at this
    rw [show (fun x y : Int => decide (x ≤ y)) = leI from rfl, this])
  have hown := h.map
  have c2 := h.c2
  refine (callsIn_wide (n := 6)).1 ?_
  have hbl := hown.lt
  have hseq : SeqGives Fence.wide 2 Try.prog 95 #[.pointer (some ⟨w.heap.size, 0, none⟩)] encZ (fun ss => ss.Perm (intKeys D)) (Maps.size D) (w.alloc (.cells #[.map (some X.mb)] 96)) :=
    AnyZI.keys_gives (ρ := Rs.keysA_ren) { Rs.keysA with } Fence.wide _ trivial rfl (by omega) w.heap.size X.mb cnt D _ (by simp) (by simp) (by
      obtain ⟨es, clock, hb, Ft, hs, hD⟩ := hown
      exact ⟨es, clock, (Below.heap_alloc _ _ X.mb hbl).trans hb, Ft, hs, hD⟩)
  have cK : ∀ mb W, CallsIn Fence.wide 5 Try.prog 76 #[.map mb] W fun e w' => e = .returned (.func (.func 95) #[] #[.pointer (some ⟨W.heap.size, 0, none⟩)]) ∧ w' = W.alloc (.cells #[.map mb] 96) := fun mb W => AnyZI.keys_in Rs.keysA Fence.wide 5 trivial rfl mb W
  have cS := AnyZI.sorted_in Rs.sortedA Fence.wide 5 trivial trivial trivial trivial rfl (by omega) (sortsA _) (enters_of Try.func94 (by kernel_rfl) rfl) 95 #[.pointer (some ⟨w.heap.size, 0, none⟩)] trivial (enters_of Try.func95 (by kernel_rfl) rfl) _ _ hmax hbytes _ hseq
  change CallsIn _ _ Try.prog 75 _ _ _ at cS
  have hfK : Fence.wide.fn 76 := trivial
  have hfS : Fence.wide.fn 75 := trivial
  clear hseq hown hbytes hmax hsz hfl hperm h hz
  refine callsIn_of_wp Try.func33 rfl trivial ?_ rfl
  simp only [Try.ntmps33, List.size_toArray, List.length_cons, List.length_nil, Nat.reduceAdd, Nat.reduceSub, Array.replicate_succ, Array.replicate_zero, List.push_toArray, List.append_toArray, List.nil_append, List.cons_append]
  gi_wp2_with (first
    | (gi_at_call 76; refine (cK _ _).mono ?_; rintro e w' ⟨rfl, rfl⟩)
    | (gi_at_call 75; refine cS.mono ?_; rintro e w' ⟨v, ss, rfl, hS, hrow, hnil, hb⟩))
  go_ret
  obtain ⟨s1, s2⟩ := HSO.out ss hS
  refine ⟨v, rfl, ?_, grown_of_below (((Below.refl _ w).alloc (Nat.le_refl _) _).trans (hb.mono (by simp)))⟩
  have := ownsRow_base_a hrow (by simp : w.heap.size ≤ _)
  rw [s1, s2] at this
  exact this
end Go.Proofs.Yticoojcmlkdeiaa
