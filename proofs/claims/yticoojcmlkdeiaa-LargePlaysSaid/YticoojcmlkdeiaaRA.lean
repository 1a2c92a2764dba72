/- The document's own set of great blocks: its list against the sizes by first pages; how it stands in the world; the walks of fill, At, Stands. -/
import Derived.Test.YticoojcmlkdeiaaGD
import Derived.Test.YticoojcmlkdeiaaAL
namespace Go.Proofs.Yticoojcmlkdeiaa
open Go.RowKit
open Sl (upd)
open Lg (pgs)

namespace Rf
/-- The list holds just the blocks, rising. -/
structure LZ (L : List (Nat × Nat)) (Z : Nat → Nat) : Prop where
  up : L.Pairwise (fun a b => a.1 < b.1)
  mem : ∀ p n, (p, n) ∈ L ↔ (Z p = n ∧ n ≠ 0)
theorem lz_nil : LZ [] (fun _ => 0) := ⟨List.Pairwise.nil, fun p n => by simp; intro h; exact h.symm⟩
def lo (page : Nat) (L : List (Nat × Nat)) : List (Nat × Nat) := L.filter (fun b => decide (b.1 < page))
def hi (page : Nat) (L : List (Nat × Nat)) : List (Nat × Nat) := L.filter (fun b => decide (page < b.1))
def putL (page n : Nat) (L : List (Nat × Nat)) : List (Nat × Nat) := (lo page L ++ [(page, n)]) ++ hi page L
theorem LZ.put {L : List (Nat × Nat)} {Z : Nat → Nat} {page n : Nat} (h : LZ L Z) (hz : Z page = 0) (hn : n ≠ 0) : LZ (putL page n L) (upd Z page n) where
  up := by
    unfold putL
    rw [List.pairwise_append, List.pairwise_append]
    refine ⟨⟨h.up.filter _, List.pairwise_singleton _ _, fun a ha b hb => ?_⟩, h.up.filter _, fun a ha b hb => ?_⟩
    · unfold lo at ha
      simp at ha hb
      subst hb
      exact ha.2
    · unfold hi at hb
      simp [lo] at ha hb
      rcases ha with ⟨_, ha⟩ | ha
      · omega
      · subst ha; exact hb.2
  mem := fun p m => by
    unfold putL lo hi
    simp only [List.mem_append, List.mem_filter, List.mem_singleton, decide_eq_true_eq]
    by_cases e : p = page
    · subst e
      rw [Sl.upd_same]
      constructor
      · rintro ((⟨_, h2⟩ | h2) | ⟨_, h2⟩)
        · omega
        · simp at h2; omega
        · omega
      · rintro ⟨rfl, _⟩
        exact .inl (.inr rfl)
    · rw [Sl.upd_other e, ← h.mem p m]
      constructor
      · rintro ((⟨h1, _⟩ | h2) | ⟨h1, _⟩)
        · exact h1
        · simp at h2; omega
        · exact h1
      · intro h1
        rcases Nat.lt_or_gt_of_ne e with h2 | h2
        · exact .inl (.inl ⟨h1, h2⟩)
        · exact .inr ⟨h1, h2⟩
theorem LZ.at_ {L : List (Nat × Nat)} {Z : Nat → Nat} (h : LZ L Z) {i : Nat} (hi : i < L.length) : Z L[i].1 = L[i].2 ∧ L[i].2 ≠ 0 := (h.mem L[i].1 L[i].2).1 (List.getElem_mem hi)
theorem LZ.inj {L : List (Nat × Nat)} {Z : Nat → Nat} (h : LZ L Z) {i j : Nat} (hi : i < L.length) (hj : j < L.length) (e : L[i].1 = L[j].1) : i = j := by
  rcases Nat.lt_trichotomy i j with h1 | h1 | h1
  · have := List.pairwise_iff_getElem.1 h.up i j hi hj h1; omega
  · exact h1
  · have := List.pairwise_iff_getElem.1 h.up j i hj hi h1; omega
theorem LZ.del {L : List (Nat × Nat)} {Z : Nat → Nat} (h : LZ L Z) {i : Nat} (hi : i < L.length) : LZ (L.eraseIdx i) (upd Z L[i].1 0) where
  up := h.up.sublist (List.eraseIdx_sublist L i)
  mem := fun p n => by
    rw [List.mem_eraseIdx_iff_getElem]
    constructor
    · rintro ⟨j, hj, hji, e⟩
      have hj1 := h.at_ hj
      have hne : L[j].1 ≠ L[i].1 := fun e => hji (h.inj hj hi e)
      rw [e] at hj1 hne
      rw [Sl.upd_other hne]
      exact hj1
    · rintro ⟨h1, h2⟩
      have hne : p ≠ L[i].1 := fun e => by rw [e, Sl.upd_same] at h1; omega
      rw [Sl.upd_other hne] at h1
      obtain ⟨j, hj, e⟩ := List.mem_iff_getElem.1 ((h.mem p n).2 ⟨h1, h2⟩)
      refine ⟨j, hj, fun e2 => hne ?_, e⟩
      subst e2
      rw [e]
end Rf
open Rf (LZ)

/-- The document's set: its object at block r, its bytes at block q, its list at A. -/
structure RgAt (b0 : Nat) (w : World) (r q cap key N : Nat) (A : Option Addr) (vc : Nat) (L : List (Nat × Nat)) (B : Nat → Nat) : Prop where
  c0 : w.cell? ⟨r, 0, none⟩ = some (.slice (some ⟨q, 0, none⟩) N cap)
  c1 : w.cell? ⟨r, 1, none⟩ = some (.int .u64 (key : Nat))
  c2 : w.cell? ⟨r, 2, none⟩ = some (.slice A L.length vc)
  fz : ∀ k, w.frozen? ⟨r, k, none⟩ = false
  b : An.BytesAt w q N B
  hcap : N ≤ cap
  hv : L.length ≤ vc
  els : L.length = 0 ∨ ∃ g, A = some ⟨g, 0, none⟩ ∧ g ≠ r ∧ g ≠ q ∧ ∀ i (h : i < L.length), w.cell? ⟨g, i * 2, none⟩ = some (.int .i64 (L[i].1 : Nat)) ∧ w.cell? ⟨g, i * 2 + 1, none⟩ = some (.int .i64 (L[i].2 : Nat))
  rq : q ≠ r
  r0 : b0 ≤ r
  q0 : b0 ≤ q
  small : N ≤ 65536
  lt : ∀ i, B i < 256
  k : key < 18446744073709551616
theorem RgAt.rlt {b0 : Nat} {w : World} {r q cap key N : Nat} {A : Option Addr} {vc : Nat} {L : List (Nat × Nat)} {B : Nat → Nat} (h : RgAt b0 w r q cap key N A vc L B) : r < w.heap.size := World.block_lt_of_cell? w ⟨r, 0, none⟩ h.c0
theorem RgAt.fr {may : Nat → Prop} {b0 : Nat} {w w' : World} {r q cap key N : Nat} {A : Option Addr} {vc : Nat} {L : List (Nat × Nat)} {B : Nat → Nat} (h : RgAt b0 w r q cap key N A vc L B) (hg : Fr may w w') (hr : ¬ may r) (hq : ¬ may q) (hA : ∀ a, A = some a → ¬ may a.block) : RgAt b0 w' r q cap key N A vc L B :=
  ⟨hg.cell h.c0 hr, hg.cell h.c1 hr, hg.cell h.c2 hr, fun k => by rw [hg.frozen h.rlt hr]; exact h.fz k, ⟨fun i hi => hg.cell (h.b.c i hi) hq, fun k => by rw [hg.frozen h.b.qlt hq]; exact h.b.fz k, Nat.lt_of_lt_of_le h.b.qlt hg.size⟩, h.hcap, h.hv,
    h.els.imp id (fun ⟨g, e, n1, n2, hc⟩ => ⟨g, e, n1, n2, fun i hi => ⟨hg.cell (hc i hi).1 (hA _ e), hg.cell (hc i hi).2 (hA _ e)⟩⟩), h.rq, h.r0, h.q0, h.small, h.lt, h.k⟩
theorem RgAt.grown {b0 : Nat} {w w' : World} {r q cap key N : Nat} {A : Option Addr} {vc : Nat} {L : List (Nat × Nat)} {B : Nat → Nat} (h : RgAt b0 w r q cap key N A vc L B) (hg : w.grownBy w' none) : RgAt b0 w' r q cap key N A vc L B :=
  h.fr (may := fun _ => False) (fr_none hg) (fun h => h) (fun h => h) (fun _ _ h => h)

/-- Bytes that were put in the place of a set's. -/
def Fil (w w' : World) (r N : Nat) (B' : Nat → Nat) : Prop := ∃ q cap, w'.cell? ⟨r, 0, none⟩ = some (.slice (some ⟨q, 0, none⟩) N cap) ∧ N ≤ cap ∧ An.BytesAt w' q N B' ∧ w.heap.size ≤ q ∧ w.grownBy w' (some r) ∧ (∀ o v, o ≠ 0 → w.cell? ⟨r, o, none⟩ = some v → w'.cell? ⟨r, o, none⟩ = some v) ∧ ∀ k, w'.frozen? ⟨r, k, none⟩ = false
theorem RgAt.fil {b0 : Nat} {w w' : World} {r q cap key N : Nat} {A : Option Addr} {vc : Nat} {L : List (Nat × Nat)} {B B' : Nat → Nat} (h : RgAt b0 w r q cap key N A vc L B) (k : Fil w w' r N B') (hlt : ∀ i, B' i < 256) : ∃ q' cap', RgAt b0 w' r q' cap' key N A vc L B' ∧ w.heap.size ≤ q' := by
  obtain ⟨q1, cap1, k1, k2, k3, k4, k5, k6, k7⟩ := k
  have hr := h.rlt
  have hel : L.length = 0 ∨ ∃ g, A = some ⟨g, 0, none⟩ ∧ g ≠ r ∧ g ≠ q1 ∧ ∀ i (h : i < L.length), w'.cell? ⟨g, i * 2, none⟩ = some (.int .i64 (L[i].1 : Nat)) ∧ w'.cell? ⟨g, i * 2 + 1, none⟩ = some (.int .i64 (L[i].2 : Nat)) := by
    rcases Nat.eq_zero_or_pos L.length with h0 | h0
    · exact .inl h0
    · rcases h.els with h1 | ⟨g, e, n1, n2, hc⟩
      · exact .inl h1
      · have hg : g < w.heap.size := World.block_lt_of_cell? w ⟨g, 0 * 2, none⟩ (hc 0 h0).1
        exact .inr ⟨g, e, n1, by omega, fun i hi => ⟨k5.cell (hc i hi).1 (some_ne n1), k5.cell (hc i hi).2 (some_ne n1)⟩⟩
  refine ⟨q1, cap1, ⟨k1, k6 _ _ (by decide) h.c1, k6 _ _ (by decide) h.c2, k7, k3, k2, h.hv, hel, by omega, h.r0, ?_, h.small, hlt, h.k⟩, k4⟩
  have := h.q0
  have := h.b.qlt
  omega

theorem rpg_at (n : Nat) (w : World) (h1 : 120 < n) (h2 : n ≤ 4096) : Calls Try.prog 68 #[.int .i64 n] w fun e w' => e = .returned (.int .i64 (pgs n : Nat)) ∧ w = w' := rpages_yes n w h1 h2
set_option maxRecDepth 100000 in
set_option maxHeartbeats 2000000 in
theorem rfill_at {b0 : Nat} {w : World} {r q cap key N : Nat} {A : Option Addr} {vc : Nat} {L : List (Nat × Nat)} {B : Nat → Nat} (h : RgAt b0 w r q cap key N A vc L B) (page many c : Nat) (hf : (page + many) * 256 ≤ N) :
    Calls Try.prog 69 #[.pointer (some ⟨r, 0, none⟩), .int .i64 page, .int .i64 many, .int .u8 c] w fun e w' => e = .returned (.tuple #[]) ∧ Fil w w' r N (Ar.setB B (page * 256) (many * 256) (fun _ => c)) := by
  have H := Lib.hid h
  have hN := h.small
  have hc0 := h.c0
  have hc0' := (grown_alloc w (.cells #[] 5) none).cell hc0 (by simp)
  obtain ⟨u, hu⟩ : ∃ u : Nat, page * 256 = u := ⟨_, rfl⟩
  obtain ⟨v, hv⟩ : ∃ v : Nat, many * 256 = v := ⟨_, rfl⟩
  have huv : u + v ≤ N := by omega
  have e1 : 256 * (page : Int) = (u : Int) := by omega
  have hpm : (page : Int) + (many : Int) = ((page + many : Nat) : Int) := by omega
  obtain ⟨s, hs⟩ : ∃ s : Int, ((page + many : Nat) : Int) = s := ⟨_, rfl⟩
  rw [hs] at hpm
  have hs0 : 0 ≤ s ∧ s ≤ 65536 := by omega
  obtain ⟨hs0, hs1⟩ := hs0
  obtain ⟨t, ht⟩ : ∃ t : Int, 256 * s = t := ⟨_, rfl⟩
  have HT : Hid (t = (u : Int) + (v : Int)) := Lib.hid (by omega)
  have hp0 : (page : Int) ≤ 65536 := by omega
  have hm0 : (many : Int) ≤ 65536 := by omega
  rw [hu, hv]
  have HUV := Lib.hid huv
  clear h hf hu hv hs
  obtain ⟨i0, hi, hz0, hz1, hz2⟩ := info_parts An.infoByte
  go_enter Try.func69, Try.ntmps69
  go_wp2_with (at_builtin; refine wpList_append_own _ rfl _ _ 26 rfl w.heap.size 5 i0 (.int .u8 0) 1 1 Try.underlying26 hi hz0 hz1 hz2 rfl (by decide) _ _ _ rfl (World.ownsRow_made w #[] 0 (Nat.le_refl _) (Nat.zero_le _) rfl) ⟨q, 0, none⟩ N cap (An.bvals B N) rfl ?c1 ?c2 ?c3 ?c4 ?c5 ?c6 ?_)
  case c1 => rw [An.bvals_length, Nat.mul_one]
  case c2 =>
    intro j u hj
    have hj' : j < N := by
      have := (List.getElem?_eq_some_iff.1 hj).1
      rwa [An.bvals_length] at this
    rw [An.bvals_at B N j hj'] at hj
    have h2 := (grown_alloc w (.cells #[] 5) none).cell (H.out.b.c j hj') (by simp)
    rw [← hj, An.aaddr_add]
    simpa using h2
  case c3 => exact An.bvals_one B N
  case c4 => simp only [maxLen]; omega
  case c5 => omega
  case c6 => simp
  intro v' w1 hown hgrow hiff
  have hv : v' ≠ .slice none 0 0 := fun e => hiff e
  obtain ⟨q1, cap1, rfl, k1, k2, k3, k4⟩ := An.bytesNew_val (An.bytes_end w w1 N B v' (by simpa using hown) (grown_own (grown_alloc w _ none) hgrow (Nat.le_refl _)) hv)
  have HK := Lib.hid (And.intro k1 k2)
  have HB1 := Lib.hid k3
  have HG1 := Lib.hid k4
  clear hown hgrow hiff hv hi hz0 hz1 hz2 k1 k2 k3 k4 hc0 hc0'
  go_wp2_with fail
  obtain ⟨w2, rfl⟩ : ∃ w2 : World, w2 = w1 := ⟨_, rfl⟩
  go_loopw [9] (fun i wr => ∃ k : Nat, k ≤ v ∧ i = .int .i64 ((u + k : Nat) : Int) ∧ An.BytesAt wr q1 N (Ar.setB B u k (fun _ => c)) ∧ w.grownBy wr none) (fun i _ => u + v - (intOf i).toNat)
  case atStart => exact ⟨0, Nat.zero_le _, rfl, by
    have e : Ar.setB B u 0 (fun _ => c) = B := by funext i; unfold Ar.setB; rw [if_neg (by omega)]
    rw [e]; exact HB1.out, HG1.out⟩
  case round =>
    obtain ⟨k, hk, rfl, hbb, hg⟩ := hrel
    have HB := Lib.hid hbb
    have HG := Lib.hid hg
    clear hbb hg
    obtain ⟨x, hx⟩ : ∃ x : Nat, u + k = x := ⟨_, rfl⟩
    rw [hx]
    have HX := Lib.hid hx
    have hxN : x ≤ 65536 := by have := HUV.out; omega
    by_cases hlt : k < v
    · have hxt : (x : Int) < t := by have := HT.out; omega
      have hxn : (x : Int) < (N : Int) := by have := HUV.out; omega
      have d0 := HB.out.c x (by omega)
      have z0 := HB.out.fz x
      clear hx
      generalize Ar.setB B u k (fun _ => c) x = old at d0
      go_wp2
      go_roundw
      case rel =>
        have hx := HX.out
        refine ⟨k + 1, by omega, vint (by omega), ⟨fun i hi => ?_, fun j => by rw [World.frozen?_setCell]; exact HB.out.fz j, by have := HB.out.qlt; simpa [World.setCell] using this⟩, grown_own HG.out (An.agrown_set _ _ _ _) HK.out.2⟩
        by_cases e : i = x
        · subst e
          rw [World.cell?_setCell_same' _ _ _ (by rw [HB.out.c _ hi]; rfl)]
          unfold Ar.setB
          rw [if_pos (by omega)]
        · rw [World.cell?_setCell_other _ _ _ _ (fun x => e (congrArg Addr.off x).symm), HB.out.c i hi]
          unfold Ar.setB
          by_cases e2 : u ≤ i ∧ i < u + k
          · rw [if_pos e2, if_pos (by omega)]
          · rw [if_neg e2, if_neg (by omega)]
      case measure => have hx := HX.out; simp [intOf]; omega
    · obtain rfl : k = v := by omega
      have hxt : ¬ (x : Int) < t := by have := HT.out; omega
      have hr1 := H.out.rlt
      have d0 := HG.out.cell H.out.c0 (by simp)
      have z0 : wr.frozen? ⟨r, 0, none⟩ = false := by rw [World.frozen?_of_block (w := w) (HG.out.block r hr1 (by simp))]; exact H.out.fz 0
      have HR1 := Lib.hid hr1
      clear hx hr1
      go_wp2
      go_end0
      have hr1 := HR1.out
      refine ⟨rfl, q1, cap1, World.cell?_setCell_same' _ _ _ (by rw [d0]; rfl), HK.out.1, HB.out.grown (An.agrown_set _ _ _ _) (some_ne (by have := HK.out.2; omega)), HK.out.2, grown_trans (grown_none HG.out) (An.agrown_set _ _ _ _), fun o v ho hc => ?_, fun j => ?_⟩
      · rw [World.cell?_setCell_other _ _ _ _ (fun x => ho (congrArg Addr.off x).symm)]
        exact HG.out.cell hc (by simp)
      · rw [World.frozen?_setCell, World.frozen?_of_block (w := w) (HG.out.block r hr1 (by simp))]
        exact H.out.fz j
end Go.Proofs.Yticoojcmlkdeiaa
