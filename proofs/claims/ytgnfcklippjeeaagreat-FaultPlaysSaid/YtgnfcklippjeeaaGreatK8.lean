/- Merged texts: RA RB RC RD RE RF. -/
import Derived.Test.YtgnfcklippjeeaaGreatK5
import Derived.Test.YtgnfcklippjeeaaGreatK3
import Derived.Deep.RegionLaw
import Derived.Deep.RegionHeld3
/- The document's own set of great blocks: its list against the sizes by first pages; how it stands in the world; the walks of fill, At, Stands. -/
namespace Go.Proofs.YtgnfcklippjeeaaGreat
open Go.RowKit
open Sl (upd)
open Lg (pgs)

namespace Rf
/-- The list holds just the blocks, rising. -/
structure LZ (L : List (Nat × Nat)) (Z : Nat → Nat) : Prop where
  up : L.Pairwise (fun a b => a.1 < b.1)
  mem : ∀ p n, (p, n) ∈ L ↔ (Z p = n ∧ n ≠ 0)
theorem lz_nil : LZ [] (fun _ => 0) := ⟨List.Pairwise.nil, fun p n => by simp; intro h; exact h.symm⟩
def lo (page : Nat) (L : List (Nat × Nat)) : List (Nat × Nat) := L.filter (fun b => decide (b.1 < page))
def hi (page : Nat) (L : List (Nat × Nat)) : List (Nat × Nat) := L.filter (fun b => decide (page < b.1))
def putL (page n : Nat) (L : List (Nat × Nat)) : List (Nat × Nat) := (lo page L ++ [(page, n)]) ++ hi page L
theorem LZ.put {L : List (Nat × Nat)} {Z : Nat → Nat} {page n : Nat} (h : LZ L Z) (hz : Z page = 0) (hn : n ≠ 0) : LZ (putL page n L) (upd Z page n) where
  up := by
    unfold putL
    rw [List.pairwise_append, List.pairwise_append]
    refine ⟨⟨h.up.filter _, List.pairwise_singleton _ _, fun a ha b hb => ?_⟩, h.up.filter _, fun a ha b hb => ?_⟩
    · unfold lo at ha
      simp at ha hb
      subst hb
      exact ha.2
    · unfold hi at hb
      simp [lo] at ha hb
      rcases ha with ⟨_, ha⟩ | ha
      · omega
      · subst ha; exact hb.2
  mem := fun p m => by
    unfold putL lo hi
    simp only [List.mem_append, List.mem_filter, List.mem_singleton, decide_eq_true_eq]
    by_cases e : p = page
    · subst e
      rw [Sl.upd_same]
      constructor
      · rintro ((⟨_, h2⟩ | h2) | ⟨_, h2⟩)
        · omega
        · simp at h2; omega
        · omega
      · rintro ⟨rfl, _⟩
        exact .inl (.inr rfl)
    · rw [Sl.upd_other e, ← h.mem p m]
      constructor
      · rintro ((⟨h1, _⟩ | h2) | ⟨h1, _⟩)
        · exact h1
        · simp at h2; omega
        · exact h1
      · intro h1
        rcases Nat.lt_or_gt_of_ne e with h2 | h2
        · exact .inl (.inl ⟨h1, h2⟩)
        · exact .inr ⟨h1, h2⟩
theorem LZ.at_ {L : List (Nat × Nat)} {Z : Nat → Nat} (h : LZ L Z) {i : Nat} (hi : i < L.length) : Z L[i].1 = L[i].2 ∧ L[i].2 ≠ 0 := (h.mem L[i].1 L[i].2).1 (List.getElem_mem hi)
theorem LZ.inj {L : List (Nat × Nat)} {Z : Nat → Nat} (h : LZ L Z) {i j : Nat} (hi : i < L.length) (hj : j < L.length) (e : L[i].1 = L[j].1) : i = j := by
  rcases Nat.lt_trichotomy i j with h1 | h1 | h1
  · have := List.pairwise_iff_getElem.1 h.up i j hi hj h1; omega
  · exact h1
  · have := List.pairwise_iff_getElem.1 h.up j i hj hi h1; omega
theorem LZ.del {L : List (Nat × Nat)} {Z : Nat → Nat} (h : LZ L Z) {i : Nat} (hi : i < L.length) : LZ (L.eraseIdx i) (upd Z L[i].1 0) where
  up := h.up.sublist (List.eraseIdx_sublist L i)
  mem := fun p n => by
    rw [List.mem_eraseIdx_iff_getElem]
    constructor
    · rintro ⟨j, hj, hji, e⟩
      have hj1 := h.at_ hj
      have hne : L[j].1 ≠ L[i].1 := fun e => hji (h.inj hj hi e)
      rw [e] at hj1 hne
      rw [Sl.upd_other hne]
      exact hj1
    · rintro ⟨h1, h2⟩
      have hne : p ≠ L[i].1 := fun e => by rw [e, Sl.upd_same] at h1; omega
      rw [Sl.upd_other hne] at h1
      obtain ⟨j, hj, e⟩ := List.mem_iff_getElem.1 ((h.mem p n).2 ⟨h1, h2⟩)
      refine ⟨j, hj, fun e2 => hne ?_, e⟩
      subst e2
      rw [e]
end Rf
open Rf (LZ)

/-- The document's set: its object at block r, its bytes at block q, its list at A. -/
structure RgAt (b0 : Nat) (w : World) (r q cap key N : Nat) (A : Option Addr) (vc : Nat) (L : List (Nat × Nat)) (B : Nat → Nat) : Prop where
  c0 : w.cell? ⟨r, 0, none⟩ = some (.slice (some ⟨q, 0, none⟩) N cap)
  c1 : w.cell? ⟨r, 1, none⟩ = some (.int .u64 (key : Nat))
  c2 : w.cell? ⟨r, 2, none⟩ = some (.slice A L.length vc)
  fz : ∀ k, w.frozen? ⟨r, k, none⟩ = false
  b : An.BytesAt w q N B
  hcap : N ≤ cap
  hv : L.length ≤ vc
  els : L.length = 0 ∨ ∃ g, A = some ⟨g, 0, none⟩ ∧ g ≠ r ∧ g ≠ q ∧ ∀ i (h : i < L.length), w.cell? ⟨g, i * 2, none⟩ = some (.int .i64 (L[i].1 : Nat)) ∧ w.cell? ⟨g, i * 2 + 1, none⟩ = some (.int .i64 (L[i].2 : Nat))
  rq : q ≠ r
  r0 : b0 ≤ r
  q0 : b0 ≤ q
  small : N ≤ 65536
  lt : ∀ i, B i < 256
  k : key < 18446744073709551616
theorem RgAt.rlt {b0 : Nat} {w : World} {r q cap key N : Nat} {A : Option Addr} {vc : Nat} {L : List (Nat × Nat)} {B : Nat → Nat} (h : RgAt b0 w r q cap key N A vc L B) : r < w.heap.size := World.block_lt_of_cell? w ⟨r, 0, none⟩ h.c0
theorem RgAt.fr {may : Nat → Prop} {b0 : Nat} {w w' : World} {r q cap key N : Nat} {A : Option Addr} {vc : Nat} {L : List (Nat × Nat)} {B : Nat → Nat} (h : RgAt b0 w r q cap key N A vc L B) (hg : Fr may w w') (hr : ¬ may r) (hq : ¬ may q) (hA : ∀ a, A = some a → ¬ may a.block) : RgAt b0 w' r q cap key N A vc L B :=
  ⟨hg.cell h.c0 hr, hg.cell h.c1 hr, hg.cell h.c2 hr, fun k => by rw [hg.frozen h.rlt hr]; exact h.fz k, ⟨fun i hi => hg.cell (h.b.c i hi) hq, fun k => by rw [hg.frozen h.b.qlt hq]; exact h.b.fz k, Nat.lt_of_lt_of_le h.b.qlt hg.size⟩, h.hcap, h.hv,
    h.els.imp id (fun ⟨g, e, n1, n2, hc⟩ => ⟨g, e, n1, n2, fun i hi => ⟨hg.cell (hc i hi).1 (hA _ e), hg.cell (hc i hi).2 (hA _ e)⟩⟩), h.rq, h.r0, h.q0, h.small, h.lt, h.k⟩
theorem RgAt.grown {b0 : Nat} {w w' : World} {r q cap key N : Nat} {A : Option Addr} {vc : Nat} {L : List (Nat × Nat)} {B : Nat → Nat} (h : RgAt b0 w r q cap key N A vc L B) (hg : w.grownBy w' none) : RgAt b0 w' r q cap key N A vc L B :=
  h.fr (may := fun _ => False) (fr_none hg) (fun h => h) (fun h => h) (fun _ _ h => h)

/-- Bytes that were put in the place of a set's. -/
def Fil (w w' : World) (r N : Nat) (B' : Nat → Nat) : Prop := ∃ q cap, w'.cell? ⟨r, 0, none⟩ = some (.slice (some ⟨q, 0, none⟩) N cap) ∧ N ≤ cap ∧ An.BytesAt w' q N B' ∧ w.heap.size ≤ q ∧ w.grownBy w' (some r) ∧ (∀ o v, o ≠ 0 → w.cell? ⟨r, o, none⟩ = some v → w'.cell? ⟨r, o, none⟩ = some v) ∧ ∀ k, w'.frozen? ⟨r, k, none⟩ = false
theorem RgAt.fil {b0 : Nat} {w w' : World} {r q cap key N : Nat} {A : Option Addr} {vc : Nat} {L : List (Nat × Nat)} {B B' : Nat → Nat} (h : RgAt b0 w r q cap key N A vc L B) (k : Fil w w' r N B') (hlt : ∀ i, B' i < 256) : ∃ q' cap', RgAt b0 w' r q' cap' key N A vc L B' ∧ w.heap.size ≤ q' := by
  obtain ⟨q1, cap1, k1, k2, k3, k4, k5, k6, k7⟩ := k
  have hr := h.rlt
  have hel : L.length = 0 ∨ ∃ g, A = some ⟨g, 0, none⟩ ∧ g ≠ r ∧ g ≠ q1 ∧ ∀ i (h : i < L.length), w'.cell? ⟨g, i * 2, none⟩ = some (.int .i64 (L[i].1 : Nat)) ∧ w'.cell? ⟨g, i * 2 + 1, none⟩ = some (.int .i64 (L[i].2 : Nat)) := by
    rcases Nat.eq_zero_or_pos L.length with h0 | h0
    · exact .inl h0
    · rcases h.els with h1 | ⟨g, e, n1, n2, hc⟩
      · exact .inl h1
      · have hg : g < w.heap.size := World.block_lt_of_cell? w ⟨g, 0 * 2, none⟩ (hc 0 h0).1
        exact .inr ⟨g, e, n1, by omega, fun i hi => ⟨k5.cell (hc i hi).1 (some_ne n1), k5.cell (hc i hi).2 (some_ne n1)⟩⟩
  refine ⟨q1, cap1, ⟨k1, k6 _ _ (by decide) h.c1, k6 _ _ (by decide) h.c2, k7, k3, k2, h.hv, hel, by omega, h.r0, ?_, h.small, hlt, h.k⟩, k4⟩
  have := h.q0
  have := h.b.qlt
  omega

theorem rpg_at (n : Nat) (w : World) (h1 : 120 < n) (h2 : n ≤ 4096) : Calls Tryz.prog 115 #[.int .i64 n] w fun e w' => e = .returned (.int .i64 (pgs n : Nat)) ∧ w = w' := rpages_yes n w h1 h2
set_option maxRecDepth 100000 in
set_option maxHeartbeats 2000000 in
theorem rfill_at {b0 : Nat} {w : World} {r q cap key N : Nat} {A : Option Addr} {vc : Nat} {L : List (Nat × Nat)} {B : Nat → Nat} (h : RgAt b0 w r q cap key N A vc L B) (page many c : Nat) (hf : (page + many) * 256 ≤ N) :
    Calls Tryz.prog 167 #[.pointer (some ⟨r, 0, none⟩), .int .i64 page, .int .i64 many, .int .u8 c] w fun e w' => e = .returned (.tuple #[]) ∧ Fil w w' r N (Ar.setB B (page * 256) (many * 256) (fun _ => c)) := by
  have H := Lib.hid h
  have hN := h.small
  have hc0 := h.c0
  have hc0' := (grown_alloc w (.cells #[] 5) none).cell hc0 (by simp)
  obtain ⟨u, hu⟩ : ∃ u : Nat, page * 256 = u := ⟨_, rfl⟩
  obtain ⟨v, hv⟩ : ∃ v : Nat, many * 256 = v := ⟨_, rfl⟩
  have huv : u + v ≤ N := by omega
  have e1 : 256 * (page : Int) = (u : Int) := by omega
  have hpm : (page : Int) + (many : Int) = ((page + many : Nat) : Int) := by omega
  obtain ⟨s, hs⟩ : ∃ s : Int, ((page + many : Nat) : Int) = s := ⟨_, rfl⟩
  rw [hs] at hpm
  have hs0 : 0 ≤ s ∧ s ≤ 65536 := by omega
  obtain ⟨hs0, hs1⟩ := hs0
  obtain ⟨t, ht⟩ : ∃ t : Int, 256 * s = t := ⟨_, rfl⟩
  have HT : Hid (t = (u : Int) + (v : Int)) := Lib.hid (by omega)
  have hp0 : (page : Int) ≤ 65536 := by omega
  have hm0 : (many : Int) ≤ 65536 := by omega
  rw [hu, hv]
  have HUV := Lib.hid huv
  clear h hf hu hv hs
  obtain ⟨i0, hi, hz0, hz1, hz2⟩ := info_parts An.infoByte
  go_enter Tryz.func167, Tryz.ntmps167
  go_wp2_with (at_builtin; refine wpList_append_own _ rfl _ _ 24 rfl w.heap.size 5 i0 (.int .u8 0) 1 1 Tryz.underlying24 hi hz0 hz1 hz2 rfl (by decide) _ _ _ rfl (World.ownsRow_made w #[] 0 (Nat.le_refl _) (Nat.zero_le _) rfl) ⟨q, 0, none⟩ N cap (An.bvals B N) rfl ?c1 ?c2 ?c3 ?c4 ?c5 ?c6 ?_)
  case c1 => rw [An.bvals_length, Nat.mul_one]
  case c2 =>
    intro j u hj
    have hj' : j < N := by
      have := (List.getElem?_eq_some_iff.1 hj).1
      rwa [An.bvals_length] at this
    rw [An.bvals_at B N j hj'] at hj
    have h2 := (grown_alloc w (.cells #[] 5) none).cell (H.out.b.c j hj') (by simp)
    rw [← hj, An.aaddr_add]
    simpa using h2
  case c3 => exact An.bvals_one B N
  case c4 => simp only [maxLen]; omega
  case c5 => omega
  case c6 => simp
  intro v' w1 hown hgrow hiff
  have hv : v' ≠ .slice none 0 0 := fun e => hiff e
  obtain ⟨q1, cap1, rfl, k1, k2, k3, k4⟩ := An.bytesNew_val (An.bytes_end w w1 N B v' (by simpa using hown) (grown_own (grown_alloc w _ none) hgrow (Nat.le_refl _)) hv)
  have HK := Lib.hid (And.intro k1 k2)
  have HB1 := Lib.hid k3
  have HG1 := Lib.hid k4
  clear hown hgrow hiff hv hi hz0 hz1 hz2 k1 k2 k3 k4 hc0 hc0'
  go_wp2_with fail
  obtain ⟨w2, rfl⟩ : ∃ w2 : World, w2 = w1 := ⟨_, rfl⟩
  go_loopw [9] (fun i wr => ∃ k : Nat, k ≤ v ∧ i = .int .i64 ((u + k : Nat) : Int) ∧ An.BytesAt wr q1 N (Ar.setB B u k (fun _ => c)) ∧ w.grownBy wr none) (fun i _ => u + v - (intOf i).toNat)
  case atStart => exact ⟨0, Nat.zero_le _, rfl, by
    have e : Ar.setB B u 0 (fun _ => c) = B := by funext i; unfold Ar.setB; rw [if_neg (by omega)]
    rw [e]; exact HB1.out, HG1.out⟩
  case round =>
    obtain ⟨k, hk, rfl, hbb, hg⟩ := hrel
    have HB := Lib.hid hbb
    have HG := Lib.hid hg
    clear hbb hg
    obtain ⟨x, hx⟩ : ∃ x : Nat, u + k = x := ⟨_, rfl⟩
    rw [hx]
    have HX := Lib.hid hx
    have hxN : x ≤ 65536 := by have := HUV.out; omega
    by_cases hlt : k < v
    · have hxt : (x : Int) < t := by have := HT.out; omega
      have hxn : (x : Int) < (N : Int) := by have := HUV.out; omega
      have d0 := HB.out.c x (by omega)
      have z0 := HB.out.fz x
      clear hx
      generalize Ar.setB B u k (fun _ => c) x = old at d0
      go_wp2
      go_roundw
      case rel =>
        have hx := HX.out
        refine ⟨k + 1, by omega, vint (by omega), ⟨fun i hi => ?_, fun j => by rw [World.frozen?_setCell]; exact HB.out.fz j, by have := HB.out.qlt; simpa [World.setCell] using this⟩, grown_own HG.out (An.agrown_set _ _ _ _) HK.out.2⟩
        by_cases e : i = x
        · subst e
          rw [World.cell?_setCell_same' _ _ _ (by rw [HB.out.c _ hi]; rfl)]
          unfold Ar.setB
          rw [if_pos (by omega)]
        · rw [World.cell?_setCell_other _ _ _ _ (fun x => e (congrArg Addr.off x).symm), HB.out.c i hi]
          unfold Ar.setB
          by_cases e2 : u ≤ i ∧ i < u + k
          · rw [if_pos e2, if_pos (by omega)]
          · rw [if_neg e2, if_neg (by omega)]
      case measure => have hx := HX.out; simp [intOf]; omega
    · obtain rfl : k = v := by omega
      have hxt : ¬ (x : Int) < t := by have := HT.out; omega
      have hr1 := H.out.rlt
      have d0 := HG.out.cell H.out.c0 (by simp)
      have z0 : wr.frozen? ⟨r, 0, none⟩ = false := by rw [World.frozen?_of_block (w := w) (HG.out.block r hr1 (by simp))]; exact H.out.fz 0
      have HR1 := Lib.hid hr1
      clear hx hr1
      go_wp2
      go_end0
      have hr1 := HR1.out
      refine ⟨rfl, q1, cap1, World.cell?_setCell_same' _ _ _ (by rw [d0]; rfl), HK.out.1, HB.out.grown (An.agrown_set _ _ _ _) (some_ne (by have := HK.out.2; omega)), HK.out.2, grown_trans (grown_none HG.out) (An.agrown_set _ _ _ _), fun o v ho hc => ?_, fun j => ?_⟩
      · rw [World.cell?_setCell_other _ _ _ _ (fun x => ho (congrArg Addr.off x).symm)]
        exact HG.out.cell hc (by simp)
      · rw [World.frozen?_setCell, World.frozen?_of_block (w := w) (HG.out.block r hr1 (by simp))]
        exact H.out.fz j
end Go.Proofs.YtgnfcklippjeeaaGreat

/- The document's set: the walks of At and Stands. -/
namespace Go.Proofs.YtgnfcklippjeeaaGreat
open Go.RowKit
open Sl (upd)
open Lg (pgs)
open Rf (LZ)

def FoundAt (w w' : World) (L : List (Nat × Nat)) (page : Int) (e : Ending) : Prop := ∃ x : Int, e = .returned (.int .i64 x) ∧ ((x = -1 ∧ ∀ i (_ : i < L.length), (L[i].1 : Int) ≠ page) ∨ ∃ i, ∃ _ : i < L.length, x = i ∧ (L[i].1 : Int) = page) ∧ w.grownBy w' none
set_option maxRecDepth 100000 in
set_option maxHeartbeats 2000000 in
theorem rat_at {b0 : Nat} {w : World} {r q cap key N : Nat} {A : Option Addr} {vc : Nat} {L : List (Nat × Nat)} {B : Nat → Nat} (h : RgAt b0 w r q cap key N A vc L B) (hlen : L.length ≤ 100000) (page : Int) :
    Calls Tryz.prog 165 #[.pointer (some ⟨r, 0, none⟩), .int .i64 page] w fun e w' => FoundAt w w' L page e := by
  have c2 := h.c2
  have HA := Lib.hid h.els
  clear h
  obtain ⟨n, hn⟩ : ∃ n, n = L.length := ⟨_, rfl⟩
  rw [← hn] at c2 hlen
  have HN := Lib.hid hn
  clear hn
  go_enter Tryz.func165, Tryz.ntmps165
  go_wp2_with fail
  obtain ⟨w2, hw2⟩ : ∃ w2 : World, w2 = w := ⟨_, rfl⟩
  go_loopw [12] (fun i wr => ∃ k : Nat, k ≤ n ∧ i = .int .i64 k ∧ w.grownBy wr none ∧ ∀ j (_ : j < k) (_ : j < L.length), (L[j].1 : Int) ≠ page) (fun i _ => n - (intOf i).toNat)
  case atStart => exact ⟨0, by omega, rfl, grown_refl _ _, fun j hj => by omega⟩
  case round =>
    obtain ⟨k, hk, rfl, hg, hno⟩ := hrel
    have HG := Lib.hid hg
    have HO := Lib.hid hno
    clear hg hno
    by_cases hlt : k < n
    · have hkl : k < L.length := by rw [← HN.out]; exact hlt
      obtain ⟨g, rfl, hc⟩ : ∃ g, A = some ⟨g, 0, none⟩ ∧ ∀ i (h : i < L.length), w.cell? ⟨g, i * 2, none⟩ = some (.int .i64 (L[i].1 : Nat)) ∧ w.cell? ⟨g, i * 2 + 1, none⟩ = some (.int .i64 (L[i].2 : Nat)) := by
        rcases HA.out with h0 | ⟨g, e, _, _, h⟩
        · omega
        · exact ⟨g, e, h⟩
      have e0 := HG.out.cell (hc k hkl).1 (by simp)
      have e1 := HG.out.cell (hc k hkl).2 (by simp)
      have HK := Lib.hid hkl
      have HP : Hid (∀ p : Nat, L[k].1 = p → (p : Int) ≠ page → ∀ j (_ : j < k + 1) (_ : j < L.length), (L[j].1 : Int) ≠ page) := Lib.hid (fun p ep np j hj hjl => by
        by_cases e : j < k
        · exact HO.out j e hjl
        · obtain rfl : j = k := by omega
          exact fun e2 => np (by rw [← ep]; exact e2))
      obtain ⟨p, hp⟩ : ∃ p, (L[k]'hkl).1 = p := ⟨_, rfl⟩
      obtain ⟨m, hm⟩ : ∃ m, (L[k]'hkl).2 = m := ⟨_, rfl⟩
      rw [hp] at e0
      rw [hm] at e1
      have HPP := Lib.hid (And.intro hp (HP.out p hp))
      clear hp hm HP HK hc
      go_upto_region 4 with (fail)
      obtain ⟨xb, hxb⟩ : ∃ xb, xb = wr.heap.size := ⟨_, rfl⟩
      rw [← hxb]
      have x0 : (wr.alloc (.cells #[.int .i64 p, .int .i64 m] 174)).cell? ⟨xb, 0, none⟩ = some (.int .i64 p) := by rw [hxb, cell_alloc_new]; rfl
      have HG1 : Hid (w.grownBy (wr.alloc (.cells #[.int .i64 p, .int .i64 m] 174)) none) := Lib.hid (grown_trans HG.out (grown_alloc _ _ _))
      generalize wr.alloc (.cells #[.int .i64 p, .int .i64 m] 174) = w1 at x0 HG1 ⊢
      clear hxb HG e0 e1
      by_cases he : (p : Int) = page
      · have hd : ((p : Int) == page) = true := by rw [he]; simp
        have HE := Lib.hid he
        clear he
        go_wp2
        go_ret
        exact ⟨_, rfl, .inr ⟨k, by rw [← HN.out]; exact hlt, rfl, by rw [HPP.out.1]; exact HE.out⟩, HG1.out⟩
      · have hd : ((p : Int) == page) = false := by simpa using he
        have HE := Lib.hid he
        clear he
        go_wp2
        go_roundw
        case rel => exact ⟨k + 1, by omega, by go_num, HG1.out, HPP.out.2 HE.out⟩
        case measure => simp [intOf]; omega
    · obtain rfl : k = n := by omega
      go_wp2
      go_ret
      exact ⟨-1, rfl, .inl ⟨rfl, fun i hi => HO.out i (by rw [HN.out]; exact hi) hi⟩, HG.out⟩

set_option maxRecDepth 100000 in
set_option maxHeartbeats 2000000 in
theorem rstands_at {b0 : Nat} {w : World} {r q cap key N : Nat} {A : Option Addr} {vc : Nat} {L : List (Nat × Nat)} {B : Nat → Nat} (h : RgAt b0 w r q cap key N A vc L B) (p n : Nat) (h1 : 120 < n) (h2 : n ≤ 4096) (hf : (p + pgs n) * 256 ≤ N) :
    Calls Tryz.prog 166 #[.pointer (some ⟨r, 0, none⟩), .agg #[.int .i64 p, .int .i64 n]] w fun e w' => e = .returned (.bool (decide (Ar.wordAt B (Lg.grd p n) = Lg.can key p))) ∧ w.grownBy w' none := by
  have HPG := Lib.hid (fun W => rpg_at n W h1 h2)
  have HE : Hid ((((Ar.wordAt B (Lg.grd p n) : Nat) : Int) == ((Lg.can key p : Nat) : Int)) = decide (Ar.wordAt B (Lg.grd p n) = Lg.can key p)) := Lib.hid (by
    by_cases e : Ar.wordAt B (Lg.grd p n) = Lg.can key p
    · rw [e]; simp
    · rw [show decide _ = false from by simpa using e]
      simp only [beq_eq_false_iff_ne]
      omega)
  have hN := h.small
  have hp : p ≤ 65536 := by omega
  have hg := Lg.pgs_pos n
  have H1 : Hid (∀ W, w.grownBy W none → W.cell? ⟨r, 0, none⟩ = some (.slice (some ⟨q, 0, none⟩) N cap) ∧ W.cell? ⟨r, 1, none⟩ = some (.int .u64 (key : Nat)) ∧ ∀ c, Calls Tryz.prog 186 #[.slice (some ⟨q, Lg.grd p n, none⟩) 8 c] W fun e w' => e = .returned (.int .u64 (Ar.wordAt B (Lg.grd p n) : Nat)) ∧ W = w') := Lib.hid (fun W g =>
    ⟨(h.grown g).c0, (h.grown g).c1, fun c => An.rget_at q (Lg.grd p n) c (fun i => B (Lg.grd p n + i)) W (fun i => h.lt _) (fun i hi => (h.grown g).b.c _ (by unfold Lg.grd; omega))⟩)
  obtain ⟨g, hgg⟩ : ∃ g, g = pgs n := ⟨_, rfl⟩
  obtain ⟨z, hz⟩ : ∃ z, z = Lg.grd p n := ⟨_, rfl⟩
  have hzz : (p + g) * 256 = z + 8 := by rw [hgg, hz]; unfold Lg.grd; omega
  have HR : Hid (∀ W, Calls Tryz.prog 156 #[.int .u64 (key ^^^ Li.u ((p * 256 : Nat) : Int) : Nat)] W fun e w' => e = .returned (.int .u64 (Lg.can key p : Nat)) ∧ W = w') := Lib.hid (fun W => rmix_at (key ^^^ Li.u ((p * 256 : Nat) : Int)) (Li.xor_lt h.k (Li.u_lt _)) W)
  rw [← hgg] at HPG hf
  have hzN : (z : Int) + 8 ≤ N := by omega
  have hzc : (z : Int) + 8 ≤ cap := by have := h.hcap; omega
  rw [← hz] at HE H1 ⊢
  obtain ⟨s, hs⟩ : ∃ s : Int, ((p + g : Nat) : Int) = s := ⟨_, rfl⟩
  obtain ⟨t, ht⟩ : ∃ t : Nat, z + 8 = t := ⟨_, rfl⟩
  have a1 : IntKind.i64.wrap ((p : Int) + (g : Int)) = s := by rw [IntKind.wrap_i64]; omega
  have a2 : IntKind.i64.wrap (256 * s) = (t : Int) := by rw [IntKind.wrap_i64]; omega
  have a3 : IntKind.i64.wrap ((t : Int) - 8) = (z : Int) := by rw [IntKind.wrap_i64]; omega
  have a4 : IntKind.i64.wrap ((z : Int) + 8) = (t : Int) := by rw [IntKind.wrap_i64]; omega
  have a5 : IntKind.i64.wrap (256 * (p : Int)) = ((p * 256 : Nat) : Int) := by rw [IntKind.wrap_i64]; omega
  have a6 := wrap_u ((p * 256 : Nat) : Int)
  have a7 := u64_xor_nat key (Li.u ((p * 256 : Nat) : Int)) h.k (Li.u_lt _)
  have b1 : IntKind.i64.wrap 256 = 256 := by decide
  have b2 : IntKind.i64.wrap 8 = 8 := by decide
  have ht1 : (t : Int) ≤ N := by omega
  have ht2 : (t : Int) ≤ cap := by omega
  have ht3 : (z : Int) ≤ t := by omega
  have ht4 : t - z = 8 := by omega
  have ht5 : ¬ cap = z := by omega
  clear h h1 h2 hf hN hp hg hgg hz hzz hs ht hzN hzc
  generalize decide (Ar.wordAt B z = Lg.can key p) = b at *
  generalize Ar.wordAt B z = x at *
  generalize Lg.can key p = y at *
  generalize ((p * 256 : Nat) : Int) = v at *
  generalize key ^^^ Li.u v = kx at *
  generalize Li.u v = u at *
  go_enter Tryz.func166, Tryz.ntmps166
  go_upto_region 1 with (fail)
  obtain ⟨xb, hxb⟩ : ∃ xb, xb = w.heap.size := ⟨_, rfl⟩
  rw [← hxb]
  have x0 : (w.alloc (.cells #[.int .i64 p, .int .i64 n] 174)).cell? ⟨xb, 0, none⟩ = some (.int .i64 p) := by rw [hxb, cell_alloc_new]; rfl
  have x1 : (w.alloc (.cells #[.int .i64 p, .int .i64 n] 174)).cell? ⟨xb, 1, none⟩ = some (.int .i64 n) := by rw [hxb, cell_alloc_new]; rfl
  have HG1 : Hid (w.grownBy (w.alloc (.cells #[.int .i64 p, .int .i64 n] 174)) none) := Lib.hid (grown_alloc _ _ _)
  generalize w.alloc (.cells #[.int .i64 p, .int .i64 n] 174) = w1 at x0 x1 HG1 ⊢
  clear hxb
  go_quiet ((go_at_call 115; exact quiet_left (HPG.out _)))
  rename_i nq
  have hg2 := grown_drew HG1.out nq
  have x0 : (w1.drewN nq).cell? ⟨xb, 0, none⟩ = some (.int .i64 p) := by simpa using x0
  generalize w1.drewN nq = w2 at *
  obtain ⟨c0, c1, -⟩ := H1.out _ hg2
  have HGT : Hid (∀ d c, Calls Tryz.prog 186 #[.slice (some ⟨q, z, none⟩) 8 c] (w2.drewN d) fun e w' => e = .returned (.int .u64 x) ∧ w2.drewN d = w') := Lib.hid (fun d c => (H1.out _ (grown_drew hg2 d)).2.2 c)
  have hg3 := Lib.hid hg2
  clear H1 HG1 hg2 HPG
  go_upto_region 2 with (fail)
  go_quiet (first
    | (go_at_call 186; (with_reducible exact quiet_left (HGT.out _ _)))
    | (go_at_call 156; (with_reducible exact quiet_left (HR.out _))))
  go_wp2
  go_ret
  exact ⟨by rw [← HE.out]; try simp, grown_drew hg3.out _⟩
end Go.Proofs.YtgnfcklippjeeaaGreat

/- The document's set: Make where it refuses. -/
namespace Go.Proofs.YtgnfcklippjeeaaGreat
open Go.RowKit
open Sl (upd)
open Lg (pgs)
open Rf (LZ)

set_option maxRecDepth 100000 in
set_option maxHeartbeats 2000000 in
theorem rmake_arg (r : Nat) (w : World) (page n : Int) (hb : page < 0 ∨ n ≤ 120 ∨ 4096 < n) :
    Calls Tryz.prog 116 #[.pointer (some ⟨r, 0, none⟩), .int .i64 page, .int .i64 n] w fun e w' => e = .returned (.int .i64 1) ∧ w = w' := by
  by_cases hn : n ≤ 120 ∨ 4096 < n
  · have HP := Lib.hid (fun W => rpages_no n W hn)
    clear hb hn
    go_enter Tryz.func116, Tryz.ntmps116
    go_wp2_with (go_at_call 115; (with_reducible refine (HP.out _).mono ?_); rintro e w' ⟨rfl, rfl⟩)
    go_ret
    exact ⟨rfl, rfl⟩
  · obtain ⟨m, rfl⟩ : ∃ m : Nat, n = m := ⟨n.toNat, by omega⟩
    have HP := Lib.hid (fun W => rpg_at m W (by omega) (by omega))
    have hp : page < 0 := by omega
    have hg := Lg.pgs_pos m
    have hd : decide (page < 0) = true := decide_eq_true hp
    clear hb hn
    generalize pgs m = g at *
    have hg0 : (((g : Nat) : Int) == 0) = false := by simp; omega
    clear hg
    go_enter Tryz.func116, Tryz.ntmps116
    go_wp2_with (go_at_call 115; (with_reducible refine (HP.out _).mono ?_); rintro e w' ⟨rfl, rfl⟩)
    go_ret
    exact ⟨rfl, rfl⟩
set_option maxRecDepth 100000 in
set_option maxHeartbeats 2000000 in
theorem rmake_range {b0 : Nat} {w : World} {r q cap key N : Nat} {A : Option Addr} {vc : Nat} {L : List (Nat × Nat)} {B : Nat → Nat} (h : RgAt b0 w r q cap key N A vc L B) (page : Int) (n : Nat) (h1 : 120 < n) (h2 : n ≤ 4096) (hp : 0 ≤ page) (hf : (N : Int) / 256 - (pgs n : Nat) < page) :
    Calls Tryz.prog 116 #[.pointer (some ⟨r, 0, none⟩), .int .i64 page, .int .i64 n] w fun e w' => e = .returned (.int .i64 3) ∧ w = w' := by
  have HP := Lib.hid (fun W => rpg_at n W h1 h2)
  have c0 := h.c0
  have hN := h.small
  have hg := Lg.pgs_pos n
  have hg2 := Lg.pgs_bd h2
  clear h h1 h2
  obtain ⟨y, hy⟩ : ∃ y : Int, (N : Int) / 256 = y := ⟨_, rfl⟩
  have hy1 : 0 ≤ y ∧ y ≤ 256 := by omega
  obtain ⟨hy1, hy2⟩ := hy1
  rw [hy] at hf
  have hy3 : (N : Int).tdiv 256 = y := by rw [Int.tdiv_eq_ediv_of_nonneg (by omega)]; exact hy
  generalize pgs n = g at *
  have hg0 : (((g : Nat) : Int) == 0) = false := by simp; omega
  have hg3 : (g : Int) ≤ 17 := by omega
  have hp0 : decide (page < 0) = false := by simp; omega
  clear hg hg2
  by_cases hb : y < page
  · have hd : decide (page > y) = true := decide_eq_true hb
    go_enter Tryz.func116, Tryz.ntmps116
    go_wp2_with (go_at_call 115; (with_reducible refine (HP.out _).mono ?_); rintro e w' ⟨rfl, rfl⟩)
    go_ret
    exact ⟨rfl, rfl⟩
  · have hd : decide (page > y) = false := decide_eq_false (by omega)
    have e1 : IntKind.i64.wrap (y - page) = y - page := by rw [IntKind.wrap_i64]; omega
    have hd2 : decide ((g : Int) > y - page) = true := decide_eq_true (by omega)
    go_enter Tryz.func116, Tryz.ntmps116
    go_wp2_with (go_at_call 115; (with_reducible refine (HP.out _).mono ?_); rintro e w' ⟨rfl, rfl⟩)
    go_ret
    exact ⟨rfl, rfl⟩
end Go.Proofs.YtgnfcklippjeeaaGreat

/- The document's set: its list under making; overlaps; Make where it goes on. -/
namespace Go.Proofs.YtgnfcklippjeeaaGreat
open Go.RowKit
open Sl (upd)
open Lg (pgs)
open Rf (LZ)

namespace Rf
def bcells : List (Nat × Nat) → List Value
  | [] => []
  | b :: l => .int .i64 (b.1 : Nat) :: .int .i64 (b.2 : Nat) :: bcells l
theorem bcells_length : ∀ l, (bcells l).length = l.length * 2
  | [] => rfl
  | b :: l => by simp [bcells, bcells_length l]; omega
theorem bcells_append : ∀ a b, bcells (a ++ b) = bcells a ++ bcells b
  | [], _ => rfl
  | x :: a, b => by simp [bcells, bcells_append a b]
theorem bcells_at : ∀ (l : List (Nat × Nat)) (i : Nat) (h : i < l.length), (bcells l)[i * 2]? = some (.int .i64 (l[i].1 : Nat)) ∧ (bcells l)[i * 2 + 1]? = some (.int .i64 (l[i].2 : Nat))
  | b :: l, 0, _ => ⟨rfl, rfl⟩
  | b :: l, i + 1, h => by
    have h' : i < l.length := by simpa using h
    have := bcells_at l i h'
    rw [show (i + 1) * 2 = i * 2 + 1 + 1 by omega]
    simpa [bcells] using this
theorem bcells_one (a n : Nat) : bcells [(a, n)] = [.int .i64 (a : Nat), .int .i64 (n : Nat)] := rfl
end Rf
open Rf (bcells)

def BOwn (w : World) (base : Nat) (v : Value) (L : List (Nat × Nat)) : Prop := w.ownsRow base 174 2 v L.length (bcells L)
theorem bown_shape {w : World} {B n size : Nat} {e : TypeId} {v : Value} {xs : List Value} (h : w.ownsRow B e size v n xs) : ∃ A c, v = .slice A n c ∧ n ≤ c := by
  obtain ⟨-, ⟨h1, h2⟩ | ⟨g, cap, cur, rfl, h3, h4, h5, _⟩⟩ := h
  · exact ⟨none, 0, by rw [h1, h2], by omega⟩
  · exact ⟨_, _, rfl, h5⟩
theorem els_of_own {w : World} {base : Nat} {L : List (Nat × Nat)} {A : Option Addr} {n c : Nat} (h : BOwn w base (.slice A n c) L) : L.length = 0 ∨ ∃ g, A = some ⟨g, 0, none⟩ ∧ base ≤ g ∧ ∀ i (h : i < L.length), w.cell? ⟨g, i * 2, none⟩ = some (.int .i64 (L[i].1 : Nat)) ∧ w.cell? ⟨g, i * 2 + 1, none⟩ = some (.int .i64 (L[i].2 : Nat)) := by
  obtain ⟨-, ⟨h1, h2⟩ | ⟨g, cap, cur, e, hbg, hh, hnc, hcm, hcs, htake⟩⟩ := h
  · exact .inl h2
  · injection e with e1 _ _
    have key : ∀ j, j < L.length * 2 → w.cell? ⟨g, j, none⟩ = (bcells L)[j]? := fun j hj => by
      have e : w.cell? ⟨g, j, none⟩ = cur[j]? := by simp only [World.cell?, hh]; rfl
      have t := congrArg (fun l => l[j]?) htake
      simp only [List.getElem?_take, hj, if_true, Array.getElem?_toList] at t
      rw [e, t]
    exact .inr ⟨g, e1, hbg, fun i hi => ⟨by rw [key _ (by omega)]; exact (Rf.bcells_at L i hi).1, by rw [key _ (by omega)]; exact (Rf.bcells_at L i hi).2⟩⟩
theorem infoBlock : (Tryz.prog.info? 174).map (fun i => (i.zero, i.size, i.bytes)) = some (some (.agg #[.int .i64 0, .int .i64 0]), 2, 16) := by kernel_rfl
theorem two_cells (w : World) (a b : Value) (t : TypeId) (j : Nat) (u : Value) (h : ([a, b] : List Value)[j]? = some u) : (w.alloc (.cells #[a, b] t)).cell? ((⟨w.heap.size, 0, none⟩ : Addr).add j) = some u := by
  rw [An.aaddr_add, cell_alloc_new]
  simpa using h
theorem bonto_end {w wr w1 : World} {L : List (Nat × Nat)} {p n : Nat} {s v' : Value} (o : Obj) (hg : w.grownBy wr none) (hown : BOwn wr w.heap.size s L) (h2 : w1.ownsRow w.heap.size 174 2 v' (L.length + 1) (bcells L ++ [.int .i64 (p : Nat), .int .i64 (n : Nat)])) (h3 : (wr.alloc o).grownBy w1 s.ownBlock) :
    BOwn w1 w.heap.size v' (L ++ [(p, n)]) ∧ w.grownBy w1 none := by
  refine ⟨?_, An.grown_onto (grown_trans hg (World.grownBy_alloc wr o none)) h3 (fun q hq => (World.ownsRow.lt hown q hq).1)⟩
  unfold BOwn
  rw [List.length_append, List.length_singleton, Rf.bcells_append, Rf.bcells_one]
  exact h2
namespace Rf
theorem lo_take (page : Nat) (L : List (Nat × Nat)) (k : Nat) (h : k < L.length) : lo page (L.take (k + 1)) = if L[k].1 < page then lo page (L.take k) ++ [L[k]] else lo page (L.take k) := by
  rw [List.take_succ_eq_append_getElem h]
  unfold lo
  rw [List.filter_append]
  by_cases e : L[k].1 < page
  · rw [if_pos e]; simp [e]
  · rw [if_neg e]; simp [e]
theorem hi_take (page : Nat) (L : List (Nat × Nat)) (k : Nat) (h : k < L.length) : hi page (L.take (k + 1)) = if page < L[k].1 then hi page (L.take k) ++ [L[k]] else hi page (L.take k) := by
  rw [List.take_succ_eq_append_getElem h]
  unfold hi
  rw [List.filter_append]
  by_cases e : page < L[k].1
  · rw [if_pos e]; simp [e]
  · rw [if_neg e]; simp [e]
/-- Has none of a run's first j pages a block's? -/
def Free (page j p g : Nat) : Prop := ∀ t, t < j → ¬ (p ≤ page + t ∧ page + t < p + g)
theorem free_all {page run p g : Nat} (h : Free page run p g) (hr : 1 ≤ run) (hg : 1 ≤ g) : ¬ (p < page + run ∧ page < p + g) := by
  intro ⟨h1, h2⟩
  by_cases e : p ≤ page
  · exact h 0 (by omega) ⟨by omega, by omega⟩
  · exact h (p - page) (by omega) ⟨by omega, by omega⟩
end Rf
end Go.Proofs.YtgnfcklippjeeaaGreat

/- The document's set: Make where it goes on. -/
namespace Go.Proofs.YtgnfcklippjeeaaGreat
open Go.RowKit
open Sl (upd)
open Lg (pgs)
open Rf (LZ bcells)

theorem RgAt.byt {b0 : Nat} {w w' : World} {r q cap key N : Nat} {A : Option Addr} {vc : Nat} {L : List (Nat × Nat)} {B B' : Nat → Nat} (h : RgAt b0 w r q cap key N A vc L B) (hg : w.grownBy w' (some q)) (hb : An.BytesAt w' q N B') (hlt : ∀ i, B' i < 256) : RgAt b0 w' r q cap key N A vc L B' :=
  ⟨hg.cell h.c0 (some_ne h.rq.symm), hg.cell h.c1 (some_ne h.rq.symm), hg.cell h.c2 (some_ne h.rq.symm), fun k => by rw [World.frozen?_of_block (w := w) (hg.block r h.rlt (some_ne h.rq.symm))]; exact h.fz k, hb, h.hcap, h.hv,
    h.els.imp id (fun ⟨g, e, n1, n2, hc⟩ => ⟨g, e, n1, n2, fun i hi => ⟨hg.cell (hc i hi).1 (some_ne n2), hg.cell (hc i hi).2 (some_ne n2)⟩⟩), h.rq, h.r0, h.q0, h.small, hlt, h.k⟩
theorem RgAt.setl {b0 : Nat} {w : World} {r q cap key N : Nat} {A A' : Option Addr} {vc vc' : Nat} {L L' : List (Nat × Nat)} {B : Nat → Nat} (h : RgAt b0 w r q cap key N A vc L B) (hv : L'.length ≤ vc')
    (he : L'.length = 0 ∨ ∃ g, A' = some ⟨g, 0, none⟩ ∧ g ≠ r ∧ g ≠ q ∧ ∀ i (h : i < L'.length), w.cell? ⟨g, i * 2, none⟩ = some (.int .i64 (L'[i].1 : Nat)) ∧ w.cell? ⟨g, i * 2 + 1, none⟩ = some (.int .i64 (L'[i].2 : Nat))) :
    RgAt b0 (w.setCell ⟨r, 2, none⟩ (.slice A' L'.length vc')) r q cap key N A' vc' L' B := by
  have hg := An.agrown_set w r 2 (.slice A' L'.length vc')
  have ho : ∀ k x, k ≠ 2 → w.cell? ⟨r, k, none⟩ = some x → (w.setCell ⟨r, 2, none⟩ (.slice A' L'.length vc')).cell? ⟨r, k, none⟩ = some x := fun k x ne hx => by
    rw [World.cell?_setCell_other _ _ _ _ (fun e => ne (congrArg Addr.off e).symm)]; exact hx
  exact ⟨ho _ _ (by decide) h.c0, ho _ _ (by decide) h.c1, World.cell?_setCell_same' _ _ _ (by rw [h.c2]; rfl), fun k => by rw [World.frozen?_setCell]; exact h.fz k, h.b.grown hg (some_ne h.rq), h.hcap, hv,
    he.imp id (fun ⟨g, e, n1, n2, hc⟩ => ⟨g, e, n1, n2, fun i hi => ⟨hg.cell (hc i hi).1 (some_ne n1), hg.cell (hc i hi).2 (some_ne n1)⟩⟩), h.rq, h.r0, h.q0, h.small, h.lt, h.k⟩

/-- copy by an equation, as one step of a region that draws. -/
theorem step_copy_run {P : Program} {ops : Array Oper} {o : Oper} {a : Go.Act} {w : World} {K : Go.Act → World → Prop} {Q : Exit → Go.Act → World → Prop} {E : Prop}
    (hg : o.guard = none) (s x : Operand) (t : TypeId) (hop : o.op = Op.call { callee := Callee.builtin Builtin.copy, args := #[s, x], argTypes := #[t, t] })
    (v1 v2 v' : Value) (w' : World) (hs : a.eval s = v1) (hx : a.eval x = v2) (hrun : (Builtin.copy_ #[t, t] o.type #[v1, v2]).run P w = .ok v' w') (hK : K (a.put o.dst v') w') :
    if Region.wanted o (yielded ops a.tmps) = true then Oper.wp P o a w K Q else E := by
  have hw : Region.wanted o (yielded ops a.tmps) = true := by simp [Region.wanted, hg]
  rw [if_pos hw]
  unfold Oper.wp execOp
  simp only [hop, resolve, invoke, builtin, Sem.run_bind, Sem.run_pure, Result.andThen_ok, List.map_toArray, List.map_cons, List.map_nil, hs, hx, hrun]
  exact hK

/-- What the document's Make leaves. -/
def RMk (b0 : Nat) (w w' : World) (r key N : Nat) (L : List (Nat × Nat)) (Z B : Nat → Nat) (page n : Nat) (e : Ending) : Prop :=
  (e = .returned (.int .i64 7) ∧ (∃ k, Lg.Hit Z page (pgs n) k) ∧ w.grownBy w' none) ∨
  (e = .returned (.int .i64 0) ∧ (∀ k, ¬ Lg.Hit Z page (pgs n) k) ∧ w.grownBy w' (some r) ∧ ∃ q' cap' A' vc', RgAt b0 w' r q' cap' key N A' vc' (Rf.putL page n L) (Lg.makeB key page n B) ∧ w.heap.size ≤ q' ∧ ∀ a, A' = some a → w.heap.size ≤ a.block)

set_option maxRecDepth 100000 in
set_option maxHeartbeats 4000000 in
theorem rmake_main {b0 : Nat} {w : World} {r q cap key N : Nat} {A : Option Addr} {vc : Nat} {L : List (Nat × Nat)} {Z B : Nat → Nat} (h : RgAt b0 w r q cap key N A vc L B) (hz : LZ L Z) (hv : Lg.Inv Z N) (hlen : L.length ≤ 1000) (page n : Nat) (h1 : 120 < n) (h2 : n ≤ 4096) (hf : (page + pgs n) * 256 ≤ N) :
    Calls Tryz.prog 116 #[.pointer (some ⟨r, 0, none⟩), .int .i64 page, .int .i64 n] w fun e w' => RMk b0 w w' r key N L Z B page n e := by
  have H := Lib.hid h
  have HP := Lib.hid (fun W => rpg_at n W h1 h2)
  have c0 := h.c0
  have c2 := h.c2
  have hN := h.small
  have hg := Lg.pgs_pos n
  have hg2 := Lg.pgs_bd h2
  have HA := Lib.hid h.els
  have HEL : Hid (∀ k (h : k < L.length), 120 < L[k].2 ∧ L[k].2 ≤ 4096 ∧ (L[k].1 + pgs L[k].2) * 256 ≤ N ∧ Z L[k].1 = L[k].2) := Lib.hid (fun k hk => by
    obtain ⟨e1, e2⟩ := hz.at_ hk
    have a1 := hv.gr L[k].1 (by omega)
    have a2 := hv.fit L[k].1 (by omega)
    rw [e1] at a1 a2
    exact ⟨a1.1, a1.2, a2, e1⟩)
  have HHIT : Hid (∀ k (h : k < L.length) t, t < pgs n → L[k].1 ≤ page + t → page + t < L[k].1 + pgs L[k].2 → ∃ k, Lg.Hit Z page (pgs n) k) := Lib.hid (fun k hk t ht a1 a2 => by
    obtain ⟨e1, e2, e3, e4⟩ := HEL.out k hk
    exact ⟨L[k].1, by omega, by omega, by rw [e4]; omega⟩)
  have HFREE : Hid ((∀ k (h : k < L.length), Rf.Free page (pgs n) L[k].1 (pgs L[k].2)) → ∀ k, ¬ Lg.Hit Z page (pgs n) k) := Lib.hid (fun hfree k ⟨h1, h2, h3⟩ => by
    obtain ⟨i, hi, e⟩ := List.mem_iff_getElem.1 ((hz.mem k (Z k)).2 ⟨rfl, h1⟩)
    have f := Rf.free_all (hfree i hi) hg (Lg.pgs_pos _)
    rw [e] at f
    exact f ⟨h2, h3⟩)
  obtain ⟨z, hzz⟩ : ∃ z, z = Lg.grd page n := ⟨_, rfl⟩
  have hz8 : (page + pgs n) * 256 = z + 8 := by rw [hzz]; unfold Lg.grd; omega
  have HZ := Lib.hid hzz
  have HRUN : Hid (pgs n * 256 ≤ N ∧ (page + pgs n) * 256 ≤ N) := Lib.hid ⟨by omega, hf⟩
  obtain ⟨y, hy⟩ : ∃ y : Int, (N : Int) / 256 = y := ⟨_, rfl⟩
  have hy1 : 0 ≤ y ∧ y ≤ 256 := by omega
  obtain ⟨hy1, hy2⟩ := hy1
  have hd : decide ((page : Int) > y) = false := decide_eq_false (by omega)
  have e1 : IntKind.i64.wrap (y - page) = y - page := by rw [IntKind.wrap_i64]; omega
  have hd2 : decide (((pgs n : Nat) : Int) > y - page) = false := decide_eq_false (by omega)
  have hg0 : (((pgs n : Nat) : Int) == 0) = false := beq_false_of_ne (by omega)
  have hp0 : decide ((page : Int) < 0) = false := decide_eq_false (by omega)
  have hpi : (page : Int) ≤ 256 := by omega
  have hgi : ((pgs n : Nat) : Int) ≤ 17 := by omega
  have hni : (n : Int) ≤ 4096 := by omega
  clear h hz hv h1 h2 hf hg hg2 hzz hz8
  obtain ⟨g, hgg⟩ : ∃ g, pgs n = g := ⟨_, rfl⟩
  rw [hgg] at HP HHIT HFREE HRUN hd2 hg0 hgi
  have HGG := Lib.hid hgg
  clear hgg
  obtain ⟨nl, hnl⟩ : ∃ nl, nl = L.length := ⟨_, rfl⟩
  rw [← hnl] at c2 hlen
  have HNL := Lib.hid hnl
  clear hnl
  have hli : (nl : Int) ≤ 1000 := by omega
  clear hlen
  obtain ⟨i0, hi, hz0, hz1, hz2⟩ := info_parts infoBlock
  go_enter Tryz.func116, Tryz.ntmps116
  go_wp2_with (go_at_call 115; (with_reducible refine (HP.out _).mono ?_); rintro e w' ⟨rfl, rfl⟩)
  obtain ⟨w2, hw2⟩ : ∃ w2 : World, w2 = w := ⟨_, rfl⟩
  clear hw2
  go_loopw [8, 47] (fun s i wr => ∃ k : Nat, k ≤ nl ∧ i = .int .i64 k ∧ BOwn wr w.heap.size s (Rf.lo page (L.take k)) ∧ w.grownBy wr none ∧ ∀ j (_ : j < k) (h : j < L.length), Rf.Free page g L[j].1 (pgs L[j].2)) (fun _ i _ => nl - (intOf i).toNat)
  case atStart => exact ⟨0, by omega, rfl, World.ownsRow_nil _ _ _ _, grown_refl _ _, fun j hj => by omega⟩
  case round =>
    obtain ⟨k, hk, rfl, hown, hg, hno⟩ := hrel
    obtain ⟨A1, c1, rfl, hc1⟩ := bown_shape hown
    have HO := Lib.hid hown
    have HG := Lib.hid hg
    have HNO := Lib.hid hno
    have hlo : (Rf.lo page (L.take k)).length ≤ nl := by
      have := List.length_filter_le (fun b : Nat × Nat => decide (b.1 < page)) (L.take k)
      rw [List.length_take] at this
      unfold Rf.lo
      omega
    have hloi : ((Rf.lo page (L.take k)).length : Int) ≤ 1000 := by omega
    have hlc : ((Rf.lo page (L.take k)).length : Int) ≤ c1 := by omega
    clear hown hg hno hc1 hlo
    obtain ⟨ln, hln⟩ : ∃ ln, (Rf.lo page (L.take k)).length = ln := ⟨_, rfl⟩
    rw [hln] at HO hloi hlc ⊢
    have HLN := Lib.hid hln
    clear hln
    by_cases hlt : k < nl
    · have hkl : k < L.length := by rw [← HNL.out]; exact hlt
      obtain ⟨gb, rfl, hc⟩ : ∃ g, A = some ⟨g, 0, none⟩ ∧ ∀ i (h : i < L.length), w.cell? ⟨g, i * 2, none⟩ = some (.int .i64 (L[i].1 : Nat)) ∧ w.cell? ⟨g, i * 2 + 1, none⟩ = some (.int .i64 (L[i].2 : Nat)) := by
        rcases HA.out with h0 | ⟨g, e, _, _, h⟩
        · omega
        · exact ⟨g, e, h⟩
      have d0 := HG.out.cell (hc k hkl).1 (by simp)
      have d1 := HG.out.cell (hc k hkl).2 (by simp)
      have HE := Lib.hid (HEL.out k hkl)
      have HHK := Lib.hid (HHIT.out k hkl)
      have HT := Lib.hid (Rf.lo_take page L k hkl)
      have HNK : Hid (Rf.Free page g (L[k]'hkl).1 (pgs (L[k]'hkl).2) → ∀ j (_ : j < k + 1) (h : j < L.length), Rf.Free page g L[j].1 (pgs L[j].2)) := Lib.hid (fun hf j hj hjl => by
        by_cases e : j < k
        · exact HNO.out j e hjl
        · obtain rfl : j = k := by omega
          exact hf)
      obtain ⟨p, hp⟩ : ∃ p, (L[k]'hkl).1 = p := ⟨_, rfl⟩
      obtain ⟨m, hm⟩ : ∃ m, (L[k]'hkl).2 = m := ⟨_, rfl⟩
      have hpm : L[k]'hkl = (p, m) := by rw [← hp, ← hm]
      rw [hp] at d0 HE HHK HNK
      rw [hm] at d1 HE HHK HNK
      rw [hpm] at HT
      obtain ⟨m1, m2, m3, -⟩ := HE.out
      have HPK := Lib.hid (fun W => rpg_at m W m1 m2)
      have hpi2 : (p : Int) ≤ 256 := by omega
      have hgi2 : ((pgs m : Nat) : Int) ≤ 256 := by omega
      have hmi : (m : Int) ≤ 4096 := by omega
      clear hp hm hpm hc HE m1 m2 m3 HNO
      generalize pgs m = gk at *
      go_upto_region 10 with (fail)
      obtain ⟨xb, hxb⟩ : ∃ xb, xb = wr.heap.size := ⟨_, rfl⟩
      rw [← hxb]
      have x0 : (wr.alloc (.cells #[.int .i64 p, .int .i64 m] 174)).cell? ⟨xb, 0, none⟩ = some (.int .i64 p) := by rw [hxb, cell_alloc_new]; rfl
      have x1 : (wr.alloc (.cells #[.int .i64 p, .int .i64 m] 174)).cell? ⟨xb, 1, none⟩ = some (.int .i64 m) := by rw [hxb, cell_alloc_new]; rfl
      have HO1 : Hid (BOwn (wr.alloc (.cells #[.int .i64 p, .int .i64 m] 174)) w.heap.size (.slice A1 ln c1) (Rf.lo page (L.take k))) := Lib.hid (World.ownsRow.alloc HO.out _)
      have HG1 : Hid (w.grownBy (wr.alloc (.cells #[.int .i64 p, .int .i64 m] 174)) none) := Lib.hid (grown_trans HG.out (grown_alloc _ _ _))
      generalize wr.alloc (.cells #[.int .i64 p, .int .i64 m] 174) = w1 at x0 x1 HO1 HG1 ⊢
      clear hxb HG HO d0 d1
      have HX0 := Lib.hid x0
      have HX1 := Lib.hid x1
      go_wp2_with fail
      go_loopw [11] (fun i wi => ∃ j : Nat, j ≤ g ∧ i = .int .i64 j ∧ w1.grownBy wi none ∧ Rf.Free page j p gk) (fun i _ => g - (intOf i).toNat)
      case atStart => exact ⟨0, by omega, rfl, grown_refl _ _, fun t ht => by omega⟩
      case round =>
        obtain ⟨j, hj, rfl, hgi3, hfree⟩ := hrel
        have HGI := Lib.hid hgi3
        have HF := Lib.hid hfree
        have x0 := HGI.out.cell HX0.out (by simp)
        have x1 := HGI.out.cell HX1.out (by simp)
        clear hgi3 hfree
        by_cases hjg : j < g
        · obtain ⟨s1, hs1⟩ : ∃ s1 : Int, (page : Int) + (j : Int) = s1 := ⟨_, rfl⟩
          obtain ⟨t1, ht1⟩ : ∃ t1 : Int, (p : Int) + (gk : Int) = t1 := ⟨_, rfl⟩
          have a1 : IntKind.i64.wrap ((page : Int) + (j : Int)) = s1 := by rw [IntKind.wrap_i64]; omega
          have a2 : IntKind.i64.wrap ((p : Int) + (gk : Int)) = t1 := by rw [IntKind.wrap_i64]; omega
          have HS := Lib.hid (And.intro hs1 ht1)
          clear hs1 ht1
          go_upto_region 13 with (fail)
          by_cases hb1 : (p : Int) ≤ s1
          · have b1 : decide ((p : Int) ≤ s1) = true := decide_eq_true hb1
            by_cases hb2 : s1 < t1
            · have b2 : decide (s1 < t1) = true := decide_eq_true hb2
              have HHH := Lib.hid (HHK.out j hjg (by have := HS.out.1; omega) (by have := HS.out; omega))
              clear hb1 hb2
              go_quiet ((go_at_call 115; exact quiet_left (HPK.out _)))
              go_wp2
              go_ret
              exact .inl ⟨rfl, by rw [HGG.out]; exact HHH.out, grown_drew (grown_trans HG1.out HGI.out) _⟩
            · have b2 : decide (s1 < t1) = false := decide_eq_false hb2
              have HHF : Hid (Rf.Free page (j + 1) p gk) := Lib.hid (fun t ht => by
                by_cases e : t < j
                · exact HF.out t e
                · have := HS.out; omega)
              clear hb1 hb2
              go_quiet ((go_at_call 115; exact quiet_left (HPK.out _)))
              go_wp2
              go_roundw
              case rel => exact ⟨j + 1, by omega, by go_num, grown_drew HGI.out _, HHF.out⟩
              case measure => simp [intOf]; omega
          · have b1 : decide ((p : Int) ≤ s1) = false := decide_eq_false hb1
            have HHF : Hid (Rf.Free page (j + 1) p gk) := Lib.hid (fun t ht => by
              by_cases e : t < j
              · exact HF.out t e
              · have := HS.out; omega)
            clear hb1
            go_quiet ((go_at_call 115; exact quiet_left (HPK.out _)))
            go_wp2
            go_roundw
            case rel => exact ⟨j + 1, by omega, by go_num, grown_drew HGI.out _, HHF.out⟩
            case measure => simp [intOf]; omega
        · obtain rfl : j = g := by omega
          have HO2 : Hid (BOwn wr w.heap.size (.slice A1 ln c1) (Rf.lo page (L.take k))) := Lib.hid (World.ownsRow.kept HO1.out HGI.out (Classical.em _))
          have HG2 := Lib.hid (grown_trans HG1.out HGI.out)
          have HNX := Lib.hid (HNK.out HF.out)
          clear HO1 HG1 HGI HF HX0 HX1 HNK
          by_cases hb : p < page
          · have b1 : decide ((p : Int) < (page : Int)) = true := decide_eq_true (by omega)
            have HT2 : Hid (Rf.lo page (L.take (k + 1)) = Rf.lo page (L.take k) ++ [(p, m)]) := Lib.hid (by rw [HT.out]; exact if_pos hb)
            have HO3 : Hid (wr.ownsRow w.heap.size 174 2 (.slice A1 ln c1) ln (bcells (Rf.lo page (L.take k)))) := Lib.hid (by have := HO2.out; unfold BOwn at this; rw [HLN.out] at this; exact this)
            clear HT b1
            go_wp2_with (at_builtin; refine wpList_append_own _ rfl _ _ 156 rfl w.heap.size 174 i0 (.agg #[.int .i64 0, .int .i64 0]) 2 16 Tryz.underlying156 hi hz0 hz1 hz2 rfl (by decide) _ _ _ rfl (HO3.out.alloc _) ⟨wr.heap.size, 0, none⟩ 1 1 [.int .i64 p, .int .i64 m] rfl ?c1 ?c2 ?c3 ?c4 ?c5 ?c6 ?_)
            case c1 => rfl
            case c2 => exact fun j u hj => two_cells wr _ _ _ j u hj
            case c3 => exact fun u hu => by simp at hu; rcases hu with rfl | rfl <;> rfl
            case c4 => simp only [maxLen]; omega
            case c5 => omega
            case c6 => have := HG2.out.size; simp; omega
            intro v' w2 h2' h3' h4'
            have HE := Lib.hid (bonto_end (p := p) (n := m) _ HG2.out HO2.out (by rw [HLN.out]; exact h2') h3')
            clear h2' h3' h4'
            go_wp2
            go_roundw
            case rel => exact ⟨k + 1, by omega, by go_num, by rw [HT2.out]; exact HE.out.1, HE.out.2, HNX.out⟩
            case measure => simp [intOf]; omega
          · have b1 : decide ((p : Int) < (page : Int)) = false := decide_eq_false (by omega)
            have HT2 : Hid (Rf.lo page (L.take (k + 1)) = Rf.lo page (L.take k)) := Lib.hid (by rw [HT.out]; exact if_neg hb)
            clear HT b1
            go_wp2
            go_roundw
            case rel => exact ⟨k + 1, by omega, by go_num, by rw [HT2.out]; exact HO2.out, HG2.out, HNX.out⟩
            case measure => simp [intOf]; omega
    · obtain rfl : k = nl := by omega
      have htk : L.take k = L := List.take_of_length_le (by rw [HNL.out]; exact Nat.le_refl _)
      rw [htk] at HO HLN
      have HNH := Lib.hid (HFREE.out (fun i hi => HNO.out i (by rw [HNL.out]; exact hi) hi))
      have HO3 : Hid (wr.ownsRow w.heap.size 174 2 (.slice A1 ln c1) ln (bcells (Rf.lo page L))) := Lib.hid (by have := HO.out; unfold BOwn at this; rw [HLN.out] at this; exact this)
      clear htk HNO HFREE HHIT HEL
      go_wp2_with (at_builtin; refine wpList_append_own _ rfl _ _ 156 rfl w.heap.size 174 i0 (.agg #[.int .i64 0, .int .i64 0]) 2 16 Tryz.underlying156 hi hz0 hz1 hz2 rfl (by decide) _ _ _ rfl (HO3.out.alloc _) ⟨wr.heap.size, 0, none⟩ 1 1 [.int .i64 page, .int .i64 n] rfl ?c1 ?c2 ?c3 ?c4 ?c5 ?c6 ?_)
      case c1 => rfl
      case c2 => exact fun j u hj => two_cells wr _ _ _ j u hj
      case c3 => exact fun u hu => by simp at hu; rcases hu with rfl | rfl <;> rfl
      case c4 => simp only [maxLen]; omega
      case c5 => omega
      case c6 => have := HG.out.size; simp; omega
      intro v' w2 h2' h3' h4'
      have HE := Lib.hid (bonto_end (p := page) (n := n) _ HG.out HO.out (by rw [HLN.out]; exact h2') h3')
      clear h2' h3' h4' HO HO3 HG
      have c2 := HE.out.2.cell c2 (by simp)
      go_wp2_with fail
      obtain ⟨wx, hwx⟩ : ∃ wx : World, wx = w2 := ⟨_, rfl⟩
      clear hwx
      have hML : ((Rf.lo page L ++ [(page, n)]).length : Int) ≤ 1001 := by rw [List.length_append, HLN.out]; simp; omega
      obtain ⟨M, hM⟩ : ∃ M, Rf.lo page L ++ [(page, n)] = M := ⟨_, rfl⟩
      rw [hM] at HE hML
      have HM := Lib.hid hM
      clear hM
      go_loopw [8, 94] (fun s i wr => ∃ j : Nat, j ≤ k ∧ i = .int .i64 j ∧ BOwn wr w.heap.size s (M ++ Rf.hi page (L.take j)) ∧ w.grownBy wr none) (fun _ i _ => k - (intOf i).toNat)
      case atStart => exact ⟨0, by omega, rfl, by have := HE.out.1; simpa [Rf.hi] using this, HE.out.2⟩
      case round =>
        obtain ⟨j, hj, rfl, hown, hg⟩ := hrel
        obtain ⟨A1, c1, rfl, hc1⟩ := bown_shape hown
        have HO := Lib.hid hown
        have HG := Lib.hid hg
        have hlo : ((M ++ Rf.hi page (L.take j)).length : Int) ≤ 2001 := by
          have := List.length_filter_le (fun b : Nat × Nat => decide (page < b.1)) (L.take j)
          rw [List.length_take] at this
          rw [List.length_append]
          unfold Rf.hi
          omega
        have hlc : ((M ++ Rf.hi page (L.take j)).length : Int) ≤ c1 := by omega
        clear hown hg hc1
        obtain ⟨lm, hlm⟩ : ∃ lm, (M ++ Rf.hi page (L.take j)).length = lm := ⟨_, rfl⟩
        rw [hlm] at HO hlo hlc ⊢
        have HLM := Lib.hid hlm
        clear hlm
        have HO3 : Hid (wr.ownsRow w.heap.size 174 2 (.slice A1 lm c1) lm (bcells (M ++ Rf.hi page (L.take j)))) := Lib.hid (by have := HO.out; unfold BOwn at this; rw [HLM.out] at this; exact this)
        by_cases hlt : j < k
        · have hkl : j < L.length := by rw [← HNL.out]; exact hlt
          obtain ⟨gb, rfl, hc⟩ : ∃ g, A = some ⟨g, 0, none⟩ ∧ ∀ i (h : i < L.length), w.cell? ⟨g, i * 2, none⟩ = some (.int .i64 (L[i].1 : Nat)) ∧ w.cell? ⟨g, i * 2 + 1, none⟩ = some (.int .i64 (L[i].2 : Nat)) := by
            rcases HA.out with h0 | ⟨g, e, _, _, h⟩
            · omega
            · exact ⟨g, e, h⟩
          have d0 := HG.out.cell (hc j hkl).1 (by simp)
          have d1 := HG.out.cell (hc j hkl).2 (by simp)
          have HT := Lib.hid (Rf.hi_take page L j hkl)
          obtain ⟨p, hp⟩ : ∃ p, (L[j]'hkl).1 = p := ⟨_, rfl⟩
          obtain ⟨m, hm⟩ : ∃ m, (L[j]'hkl).2 = m := ⟨_, rfl⟩
          have hpm : L[j]'hkl = (p, m) := by rw [← hp, ← hm]
          rw [hp] at d0
          rw [hm] at d1
          rw [hpm] at HT
          clear hp hm hpm hc
          go_upto_region 22 with (fail)
          obtain ⟨xb, hxb⟩ : ∃ xb, xb = wr.heap.size := ⟨_, rfl⟩
          rw [← hxb]
          have x0 : (wr.alloc (.cells #[.int .i64 p, .int .i64 m] 174)).cell? ⟨xb, 0, none⟩ = some (.int .i64 p) := by rw [hxb, cell_alloc_new]; rfl
          have x1 : (wr.alloc (.cells #[.int .i64 p, .int .i64 m] 174)).cell? ⟨xb, 1, none⟩ = some (.int .i64 m) := by rw [hxb, cell_alloc_new]; rfl
          have HO1 : Hid (BOwn (wr.alloc (.cells #[.int .i64 p, .int .i64 m] 174)) w.heap.size (.slice A1 lm c1) (M ++ Rf.hi page (L.take j))) := Lib.hid (World.ownsRow.alloc HO.out _)
          have HO4 : Hid ((wr.alloc (.cells #[.int .i64 p, .int .i64 m] 174)).ownsRow w.heap.size 174 2 (.slice A1 lm c1) lm (bcells (M ++ Rf.hi page (L.take j)))) := Lib.hid (World.ownsRow.alloc HO3.out _)
          have HG1 : Hid (w.grownBy (wr.alloc (.cells #[.int .i64 p, .int .i64 m] 174)) none) := Lib.hid (grown_trans HG.out (grown_alloc _ _ _))
          generalize wr.alloc (.cells #[.int .i64 p, .int .i64 m] 174) = w1 at x0 x1 HO1 HO4 HG1 ⊢
          clear hxb HG HO HO3 d0 d1
          by_cases hb : page < p
          · have HT2 : Hid (M ++ Rf.hi page (L.take (j + 1)) = (M ++ Rf.hi page (L.take j)) ++ [(p, m)]) := Lib.hid (by rw [HT.out, List.append_assoc]; congr 1; exact if_pos hb)
            clear HT
            go_wp2_with (at_builtin; refine wpList_append_own _ rfl _ _ 156 rfl w.heap.size 174 i0 (.agg #[.int .i64 0, .int .i64 0]) 2 16 Tryz.underlying156 hi hz0 hz1 hz2 rfl (by decide) _ _ _ rfl (HO4.out.alloc _) ⟨w1.heap.size, 0, none⟩ 1 1 [.int .i64 p, .int .i64 m] rfl ?c1 ?c2 ?c3 ?c4 ?c5 ?c6 ?_)
            case c1 => rfl
            case c2 => exact fun j u hj => two_cells w1 _ _ _ j u hj
            case c3 => exact fun u hu => by simp at hu; rcases hu with rfl | rfl <;> rfl
            case c4 => simp only [maxLen]; omega
            case c5 => omega
            case c6 => have := HG1.out.size; simp; omega
            intro v' w2 h2' h3' h4'
            have HE2 := Lib.hid (bonto_end (p := p) (n := m) _ HG1.out HO1.out (by rw [HLM.out]; exact h2') h3')
            clear h2' h3' h4'
            go_wp2
            go_roundw
            case rel => exact ⟨j + 1, by omega, by go_num, by rw [HT2.out]; exact HE2.out.1, HE2.out.2⟩
            case measure => simp [intOf]; omega
          · have HT2 : Hid (M ++ Rf.hi page (L.take (j + 1)) = M ++ Rf.hi page (L.take j)) := Lib.hid (by rw [HT.out]; congr 1; exact if_neg hb)
            clear HT
            go_wp2
            go_roundw
            case rel => exact ⟨j + 1, by omega, by go_num, by rw [HT2.out]; exact HO1.out, HG1.out⟩
            case measure => simp [intOf]; omega
        · obtain rfl : j = k := by omega
          have htk : L.take j = L := List.take_of_length_le (by rw [HNL.out]; exact Nat.le_refl _)
          have HPL : Hid (M ++ Rf.hi page (L.take j) = Rf.putL page n L) := Lib.hid (by rw [htk, ← HM.out]; rfl)
          rw [HPL.out] at HO HLM
          have HEL := Lib.hid (els_of_own HO.out)
          have HR := Lib.hid (H.out.grown HG.out)
          have HFI : Hid (Calls Tryz.prog 167 #[.pointer (some ⟨r, 0, none⟩), .int .i64 page, .int .i64 g, .int .u8 0] wr fun e w' => e = .returned (.tuple #[]) ∧ Fil wr w' r N (Ar.setB B (page * 256) (g * 256) (fun _ => 0))) := Lib.hid (by simpa using rfill_at HR.out page g 0 HRUN.out.2)
          have HLC := Lib.hid hlc
          clear htk HPL HO3 HM hlc hlo hML c0 c2 HA HP hd hd2 hg0 hp0 hi hz0 hz1 hz2
          go_wp2_with ((go_at_call 167; (with_reducible refine HFI.out.mono ?_); rintro e w5 ⟨rfl, hfil⟩))
          have G5 : wr.grownBy w5 (some r) := by obtain ⟨_, _, _, _, _, _, k5, _⟩ := hfil; exact k5
          obtain ⟨q5, cap5, h5, hq5⟩ := HR.out.fil hfil (Ar.setB_lt H.out.lt (fun _ => by decide) _ _)
          have H5 := Lib.hid h5
          have HQ5 := Lib.hid (And.intro hq5 G5)
          have hz8 : (page + g) * 256 = z + 8 := by have := HRUN.out; rw [HZ.out]; unfold Lg.grd; rw [HGG.out]; have := Lg.pgs_pos n; rw [HGG.out] at this; omega
          have hzN0 : z + 8 ≤ N := by have := HRUN.out; omega
          have hc5 := h5.hcap
          have HZN := Lib.hid (And.intro hzN0 hz8)
          obtain ⟨s, hs⟩ : ∃ s : Int, ((page + g : Nat) : Int) = s := ⟨_, rfl⟩
          obtain ⟨t, ht⟩ : ∃ t : Int, (z : Int) + 8 = t := ⟨_, rfl⟩
          obtain ⟨v, hv⟩ : ∃ v : Int, ((page * 256 : Nat) : Int) = v := ⟨_, rfl⟩
          have a1 : IntKind.i64.wrap ((page : Int) + (g : Int)) = s := by rw [IntKind.wrap_i64]; omega
          have a2 : IntKind.i64.wrap (256 * s) = t := by rw [IntKind.wrap_i64]; omega
          have a3 : IntKind.i64.wrap (t - 8) = (z : Int) := by rw [IntKind.wrap_i64]; omega
          have a5 : IntKind.i64.wrap (256 * (page : Int)) = v := by rw [IntKind.wrap_i64]; omega
          have a6 := wrap_u v
          have a7 := u64_xor_nat key (Li.u v) H.out.k (Li.u_lt _)
          have b1 : IntKind.i64.wrap 256 = 256 := by decide
          have b2 : IntKind.i64.wrap 8 = 8 := by decide
          have ht1 : (z : Int) ≤ N := by omega
          have ht2 : (z : Int) ≤ cap5 := by omega
          have ht3 : (N : Int) ≤ cap5 := by omega
          have ht5 : ¬ cap5 = z := by omega
          obtain ⟨cn, hcn⟩ : ∃ cn, Lg.can key page = cn := ⟨_, rfl⟩
          have HCN := Lib.hid hcn
          have hcl : cn < 18446744073709551616 := by rw [← hcn]; exact Li.mix_lt _
          have HMIX : Hid (∀ W, Calls Tryz.prog 156 #[.int .u64 (key ^^^ Li.u v : Nat)] W fun e w' => e = .returned (.int .u64 (cn : Nat)) ∧ W = w') := Lib.hid (fun W => by rw [← hcn, ← hv]; exact rmix_at _ (Li.xor_lt H.out.k (Li.u_lt _)) W)
          have HPUT := Lib.hid (fun W => An.rput_at cn hcl W)
          have HO := Lib.hid (fun W (gr : w5.grownBy W none) => And.intro (h5.grown gr).c0 (h5.grown gr).c1)
          have HCP : Hid (∀ W, w5.grownBy W none → ∀ qp cp W', An.BytesAt W' qp 8 (Ar.byt cn) → W.grownBy W' none → ∃ w7, (∀ ty, (Builtin.copy_ #[24, 24] ty #[.slice (some ⟨q5, z, none⟩) (N - z) (cap5 - z), .slice (some ⟨qp, 0, none⟩) 8 cp]).run Tryz.prog W' = .ok (goInt 8) w7) ∧ RgAt b0 w7 r q5 cap5 key N A vc L (Ar.setB (Ar.setB B (page * 256) (g * 256) (fun _ => 0)) z 8 (Ar.byt cn)) ∧ wr.grownBy w7 (some r)) := Lib.hid (fun W gr qp cp W' hb hg => by
            have h6 := h5.grown (grown_trans gr hg)
            obtain ⟨w7, hcp, hb7, hg7⟩ := An.copy_run2 h6.b z (N - z) 8 (cap5 - z) (by omega) (fun _ => hzN0) (Ar.byt cn) (some ⟨qp, 0, none⟩) cp (.inr ⟨qp, 0, rfl, fun i hi => by rw [Nat.zero_add]; exact hb.c i hi⟩)
            exact ⟨w7, hcp, h6.byt hg7 hb7 (Ar.setB_lt h6.lt (Ar.byt_lt _) _ _), grown_own (grown_trans G5 (grown_none (grown_trans gr hg))) hg7 hq5⟩)
          have e0 := HO.out _ (grown_refl w5 none)
          have hg5 := grown_drew1 (grown_refl w5 none)
          clear hfil G5 h5 hq5 hz8 hzN0 hc5 hs ht hv hcn hcl
          generalize key ^^^ Li.u v = kx at *
          generalize Li.u v = u at *
          go_region_held3 (fun w' => w'.cell? ⟨r, 0, none⟩ = some (.slice (some ⟨q5, 0, none⟩) N cap5) ∧ w'.cell? ⟨r, 1, none⟩ = some (.int .u64 (key : Nat)))
            (first | exact e0 | exact HS7.out | exact HO.out _ (by assumption))
            (first
            | (refine step_copy_run rfl _ _ _ rfl _ _ _ _ rfl rfl (hcp _) ?_)
            | (go_at_call 156; (with_reducible refine (HMIX.out _).mono ?_); rintro e w6 ⟨rfl, rfl⟩)
            | (go_at_call 163; (with_reducible refine (HPUT.out _).mono ?_); rintro e w6 ⟨qp, cp, rfl, m1, m2, m3, m4⟩; have hg6 := grown_trans hg5 m4; obtain ⟨w7, hcp, hn, hgn⟩ := HCP.out _ hg5 qp cp _ m3 m4; have HN := Lib.hid (And.intro hn hgn); have HS7 := Lib.hid (And.intro hn.c0 hn.c1); clear m1 m2 m3 m4 hn hgn))
          all_goals
            have d2 := HN.out.1.c2
            have z2 := HN.out.1.fz 2
            clear HO HCP HPUT HMIX HS7 hg5 hg6 hcp e0 H5
            go_wp2
            go_ret
            have hpos : 1 ≤ (Rf.putL page n L).length := by unfold Rf.putL; simp; omega
            obtain ⟨ga, rfl, hga, hcs⟩ : ∃ ga, A1 = some ⟨ga, 0, none⟩ ∧ w.heap.size ≤ ga ∧ ∀ i (h : i < (Rf.putL page n L).length), wr.cell? ⟨ga, i * 2, none⟩ = some (.int .i64 ((Rf.putL page n L)[i].1 : Nat)) ∧ wr.cell? ⟨ga, i * 2 + 1, none⟩ = some (.int .i64 ((Rf.putL page n L)[i].2 : Nat)) := by
              rcases HEL.out with h0 | h0
              · omega
              · exact h0
            have hgr : ga < wr.heap.size := World.block_lt_of_cell? wr ⟨ga, 0 * 2, none⟩ (hcs 0 hpos).1
            have hrl := H.out.rlt
            have hq5 := HQ5.out.1
            have hwr := HG.out.size
            have hne : ga ≠ r := by omega
            have hfin := HN.out.1.setl (L' := Rf.putL page n L) (A' := some ⟨ga, 0, none⟩) (vc' := c1) (by rw [HLM.out]; have := HLC.out; omega) (.inr ⟨ga, rfl, hne, by omega, fun i hi => ⟨HN.out.2.cell (hcs i hi).1 (some_ne hne), HN.out.2.cell (hcs i hi).2 (some_ne hne)⟩⟩)
            rw [HLM.out] at hfin
            have hmk : Ar.setB (Ar.setB B (page * 256) (g * 256) (fun _ => 0)) z 8 (Ar.byt cn) = Lg.makeB key page n B := by unfold Lg.makeB; rw [Ar.setW_is, HGG.out, HCN.out, HZ.out]
            rw [hmk] at hfin
            exact .inr ⟨rfl, by rw [HGG.out]; exact HNH.out, grown_trans (grown_none HG.out) (grown_trans HN.out.2 (An.agrown_set _ _ _ _)), q5, cap5, _, c1, hfin, by omega, fun a ha => by injection ha with ha; rw [← ha]; exact hga⟩
end Go.Proofs.YtgnfcklippjeeaaGreat

/- The document's set: Drop. -/
namespace Go.Proofs.YtgnfcklippjeeaaGreat
open Go.RowKit
open Sl (upd)
open Lg (pgs)
open Rf (LZ bcells)

theorem Rf.bcells_one' : ∀ (l : List (Nat × Nat)), ∀ u ∈ bcells l, u.oneCell' = true
  | [], u, h => by simp [bcells] at h
  | b :: l, u, h => by
    simp only [bcells, List.mem_cons] at h
    rcases h with rfl | rfl | h
    · rfl
    · rfl
    · exact Rf.bcells_one' l u h
theorem Rf.bcells_cell {w : World} {g : Nat} {L : List (Nat × Nat)} (hc : ∀ i (h : i < L.length), w.cell? ⟨g, i * 2, none⟩ = some (.int .i64 (L[i].1 : Nat)) ∧ w.cell? ⟨g, i * 2 + 1, none⟩ = some (.int .i64 (L[i].2 : Nat))) (j : Nat) (u : Value) (h : (bcells L)[j]? = some u) : w.cell? ⟨g, j, none⟩ = some u := by
  have hj : j < L.length * 2 := by rw [← Rf.bcells_length]; exact (List.getElem?_eq_some_iff.1 h).1
  have hk : j / 2 < L.length := by omega
  obtain ⟨c0, c1⟩ := hc (j / 2) hk
  obtain ⟨d0, d1⟩ := Rf.bcells_at L (j / 2) hk
  rcases Nat.mod_two_eq_zero_or_one j with e | e
  · have ej : j / 2 * 2 = j := by omega
    rw [ej] at c0 d0
    rw [c0, ← h, d0]
  · have ej : j / 2 * 2 + 1 = j := by omega
    rw [ej] at c1 d1
    rw [c1, ← h, d1]
theorem addr_add_off (g o j : Nat) : (⟨g, o, none⟩ : Addr).add j = ⟨g, o + j, none⟩ := by unfold Addr.add; split <;> simp_all

/-- The two appends of Drop, run. -/
theorem rdel_run1 {b0 : Nat} {w : World} {r q cap key N vc g : Nat} {L : List (Nat × Nat)} {B : Nat → Nat} (h : RgAt b0 w r q cap key N (some ⟨g, 0, none⟩) vc L B) (hlen : L.length ≤ 100000) (i : Nat) (hi : i < L.length) :
    ∃ A1 k1 w1, (Builtin.append_ #[156, 156] 156 #[.slice (some ⟨w.heap.size, 0, none⟩) 0 0, .slice (some ⟨g, 0, none⟩) i vc]).run Tryz.prog (w.alloc (.cells #[] 174)).drew = .ok (.slice A1 i k1) w1 ∧ w1.ownsRow w.heap.size 174 2 (.slice A1 i k1) i (bcells (L.take i)) ∧ w.grownBy w1 none := by
  obtain ⟨i0, hi0, hz0, hz1, hz2⟩ := info_parts infoBlock
  have hcs : ∀ i (h : i < L.length), w.cell? ⟨g, i * 2, none⟩ = some (.int .i64 (L[i].1 : Nat)) ∧ w.cell? ⟨g, i * 2 + 1, none⟩ = some (.int .i64 (L[i].2 : Nat)) := by
    rcases h.els with h0 | ⟨g', e, _, _, hc⟩
    · omega
    · injection e with e; injection e with e; subst e; exact hc
  have hsplit : bcells L = bcells (L.take i) ++ bcells (L.drop i) := by rw [← Rf.bcells_append, List.take_append_drop]
  have gA0 := grown_alloc w (.cells #[] 174) none
  have gA := grown_drew1 gA0
  have ho : (w.alloc (.cells #[] 174)).drew.ownsRow w.heap.size 174 2 (.slice (some ⟨w.heap.size, 0, none⟩) 0 0) 0 [] :=
    (World.ownsRow_made w #[] 0 (Nat.le_refl _) (Nat.zero_le _) rfl).kept (grown_drew1 (grown_refl _ none)) (.inr (by simp [Value.ownBlock]))
  obtain ⟨v1, w1, r1, o1, g1, -⟩ := run_append_own (P := Tryz.prog) (w.alloc (.cells #[] 174)).drew w.heap.size 156 156 174 i0 (.agg #[.int .i64 0, .int .i64 0]) 2 16 Tryz.underlying156 hi0 hz0 hz1 hz2 rfl (by decide) (.slice (some ⟨w.heap.size, 0, none⟩) 0 0) 0 [] ho ⟨g, 0, none⟩ i vc (bcells (L.take i)) (by rw [Rf.bcells_length, List.length_take, Nat.min_eq_left (by omega)])
    (fun j u hu => by
      rw [addr_add_off, Nat.zero_add]
      refine gA.cell (Rf.bcells_cell hcs j u ?_) (by simp)
      rw [hsplit, List.getElem?_append_left (List.getElem?_eq_some_iff.1 hu).1]; exact hu)
    (Rf.bcells_one' _) (by simp only [maxLen]; omega) (by omega) (by simp)
  have G1 : w.grownBy w1 none := An.grown_onto gA g1 (fun q hq => by simp [Value.ownBlock] at hq; omega)
  rw [Nat.zero_add, List.nil_append] at o1
  obtain ⟨A1, k1, rfl, hk1⟩ := bown_shape o1
  exact ⟨A1, k1, w1, r1, o1, G1⟩
theorem rdel_run2 {b0 : Nat} {w w0 : World} {r q cap key N vc g k1 : Nat} {A1 : Option Addr} {L : List (Nat × Nat)} {B : Nat → Nat} (h : RgAt b0 w r q cap key N (some ⟨g, 0, none⟩) vc L B) (hlen : L.length ≤ 100000) (i : Nat) (hi : i < L.length) (ad2 : Addr) (c2 : Nat) (h2 : L.length = i + 1 ∨ ad2 = ⟨g, (i + 1) * 2, none⟩)
    (o1 : w.ownsRow w0.heap.size 174 2 (.slice A1 i k1) i (bcells (L.take i))) (G1 : w0.grownBy w none) :
    ∃ A2 k2 w2, (Builtin.append_ #[156, 156] 156 #[.slice A1 i k1, .slice (some ad2) (L.length - (i + 1)) c2]).run Tryz.prog w = .ok (.slice A2 (L.length - 1) k2) w2 ∧ L.length - 1 ≤ k2 ∧ BOwn w2 w0.heap.size (.slice A2 (L.length - 1) k2) (L.eraseIdx i) ∧ w0.grownBy w2 none := by
  obtain ⟨i0, hi0, hz0, hz1, hz2⟩ := info_parts infoBlock
  have hcs : ∀ i (h : i < L.length), w.cell? ⟨g, i * 2, none⟩ = some (.int .i64 (L[i].1 : Nat)) ∧ w.cell? ⟨g, i * 2 + 1, none⟩ = some (.int .i64 (L[i].2 : Nat)) := by
    rcases h.els with h0 | ⟨g', e, _, _, hc⟩
    · omega
    · injection e with e; injection e with e; subst e; exact hc
  have hsplit2 : bcells L = bcells (L.take (i + 1)) ++ bcells (L.drop (i + 1)) := by rw [← Rf.bcells_append, List.take_append_drop]
  obtain ⟨v2, w2, r2, o2, g2, -⟩ := run_append_own (P := Tryz.prog) w w0.heap.size 156 156 174 i0 (.agg #[.int .i64 0, .int .i64 0]) 2 16 Tryz.underlying156 hi0 hz0 hz1 hz2 rfl (by decide) (.slice A1 i k1) i (bcells (L.take i)) o1 ad2 (L.length - (i + 1)) c2 (bcells (L.drop (i + 1))) (by rw [Rf.bcells_length, List.length_drop])
    (fun j u hu => by
      have hj := (List.getElem?_eq_some_iff.1 hu).1
      rw [Rf.bcells_length, List.length_drop] at hj
      rcases h2 with h2 | rfl
      · omega
      · rw [addr_add_off]
        refine Rf.bcells_cell hcs _ u ?_
        have hl : (bcells (L.take (i + 1))).length = (i + 1) * 2 := by rw [Rf.bcells_length, List.length_take, Nat.min_eq_left (by omega)]
        rw [hsplit2, List.getElem?_append_right (by omega), hl, Nat.add_sub_cancel_left]; exact hu)
    (Rf.bcells_one' _) (by simp only [maxLen]; omega) (by omega) (G1.size)
  have e1 : i + (L.length - (i + 1)) = L.length - 1 := by omega
  have hel : (L.eraseIdx i).length = L.length - 1 := List.length_eraseIdx_of_lt hi
  rw [e1] at o2
  obtain ⟨A2, k2, rfl, hk2⟩ := bown_shape o2
  refine ⟨A2, k2, w2, r2, hk2, ?_, An.grown_onto G1 g2 (fun q hq => (World.ownsRow.lt o1 q hq).1)⟩
  unfold BOwn
  rw [hel, List.eraseIdx_eq_take_drop_succ, Rf.bcells_append]
  exact o2
/-- append by an equation, as one step of a region that draws. -/
theorem step_append_run {P : Program} {ops : Array Oper} {o : Oper} {a : Go.Act} {w : World} {K : Go.Act → World → Prop} {Q : Exit → Go.Act → World → Prop} {E : Prop}
    (hg : o.guard = none) (s x : Operand) (t : TypeId) (hop : o.op = Op.call { callee := Callee.builtin Builtin.append, args := #[s, x], argTypes := #[t, t] })
    (v1 v2 v' : Value) (w' : World) (hs : a.eval s = v1) (hx : a.eval x = v2) (hrun : (Builtin.append_ #[t, t] o.type #[v1, v2]).run P w = .ok v' w') (hK : K (a.put o.dst v') w') :
    if Region.wanted o (yielded ops a.tmps) = true then Oper.wp P o a w K Q else E := by
  have hw : Region.wanted o (yielded ops a.tmps) = true := by simp [Region.wanted, hg]
  rw [if_pos hw]
  unfold Oper.wp execOp
  simp only [hop, resolve, invoke, builtin, Sem.run_bind, Sem.run_pure, Result.andThen_ok, List.map_toArray, List.map_cons, List.map_nil, hs, hx, hrun]
  exact hK

theorem rat_none {b0 : Nat} {w : World} {r q cap key N : Nat} {A : Option Addr} {vc : Nat} {L : List (Nat × Nat)} {B : Nat → Nat} (h : RgAt b0 w r q cap key N A vc L B) (hlen : L.length ≤ 100000) (page : Int) (hno : ∀ i (_ : i < L.length), (L[i].1 : Int) ≠ page) :
    Calls Tryz.prog 165 #[.pointer (some ⟨r, 0, none⟩), .int .i64 page] w fun e w' => e = .returned (.int .i64 (-1)) ∧ w.grownBy w' none := by
  refine (rat_at h hlen page).mono ?_
  rintro e w' ⟨x, rfl, ⟨rfl, -⟩ | ⟨i, hi, -, he⟩, hg⟩
  · exact ⟨rfl, hg⟩
  · exact absurd he (hno i hi)
theorem rat_some {b0 : Nat} {w : World} {r q cap key N : Nat} {A : Option Addr} {vc : Nat} {L : List (Nat × Nat)} {Z B : Nat → Nat} (h : RgAt b0 w r q cap key N A vc L B) (hlen : L.length ≤ 100000) (hz : LZ L Z) (page : Nat) (hp : Z page ≠ 0) :
    ∃ i, ∃ hi : i < L.length, L[i]'hi = (page, Z page) ∧ Calls Tryz.prog 165 #[.pointer (some ⟨r, 0, none⟩), .int .i64 page] w fun e w' => e = .returned (.int .i64 i) ∧ w.grownBy w' none := by
  obtain ⟨i, hi, e⟩ := List.mem_iff_getElem.1 ((hz.mem page (Z page)).2 ⟨rfl, hp⟩)
  refine ⟨i, hi, e, (rat_at h hlen page).mono ?_⟩
  rintro e' w' ⟨x, rfl, ⟨-, hno⟩ | ⟨j, hj, rfl, he⟩, hg⟩
  · exact absurd (by rw [e]) (hno i hi)
  · obtain rfl : j = i := hz.inj hj hi (by rw [e]; exact Int.ofNat_inj.1 he)
    exact ⟨rfl, hg⟩
set_option maxRecDepth 100000 in
set_option maxHeartbeats 2000000 in
theorem rdrop_none {b0 : Nat} {w : World} {r q cap key N : Nat} {A : Option Addr} {vc : Nat} {L : List (Nat × Nat)} {B : Nat → Nat} (h : RgAt b0 w r q cap key N A vc L B) (hlen : L.length ≤ 100000) (page : Int) (hno : ∀ i (_ : i < L.length), (L[i].1 : Int) ≠ page) :
    Calls Tryz.prog 110 #[.pointer (some ⟨r, 0, none⟩), .int .i64 page] w fun e w' => e = .returned (.tuple #[.bool false, .int .i64 6]) ∧ w.grownBy w' none := by
  have HA := Lib.hid (rat_none h hlen page hno)
  clear h hno hlen
  go_enter Tryz.func110, Tryz.ntmps110
  go_wp2_with (go_at_call 165; (with_reducible refine HA.out.mono ?_); rintro e w' ⟨rfl, hg⟩; have HG := Lib.hid hg; clear hg)
  go_ret2
  exact ⟨rfl, HG.out⟩

/-- What the document's Drop leaves. -/
def RDr (b0 : Nat) (w w' : World) (r key N : Nat) (L : List (Nat × Nat)) (Z B : Nat → Nat) (page : Nat) (e : Ending) : Prop :=
  e = .returned (.tuple #[.bool (decide (Ar.wordAt B (Lg.grd page (Z page)) = Lg.can key page)), .int .i64 0]) ∧ w.grownBy w' (some r) ∧ ∃ q' cap' A' vc' L', RgAt b0 w' r q' cap' key N A' vc' L' (Lg.dropB page (Z page) B) ∧ LZ L' (upd Z page 0) ∧ L'.length ≤ L.length ∧ w.heap.size ≤ q' ∧ ∀ a, A' = some a → w.heap.size ≤ a.block
set_option maxRecDepth 100000 in
set_option maxHeartbeats 4000000 in
theorem rdrop_ok {b0 : Nat} {w : World} {r q cap key N : Nat} {A : Option Addr} {vc : Nat} {L : List (Nat × Nat)} {Z B : Nat → Nat} (h : RgAt b0 w r q cap key N A vc L B) (hz : LZ L Z) (hv : Lg.Inv Z N) (hlen : L.length ≤ 1000) (page : Nat) (hp : Z page ≠ 0) :
    Calls Tryz.prog 110 #[.pointer (some ⟨r, 0, none⟩), .int .i64 page] w fun e w' => RDr b0 w w' r key N L Z B page e := by
  obtain ⟨i, hi, hLi, hat⟩ := rat_some h (by omega) hz page hp
  have HA := Lib.hid hat
  have H := Lib.hid h
  obtain ⟨m1, m2⟩ := hv.gr page hp
  have m3 := hv.fit page hp
  have HST := Lib.hid (fun W (g : w.grownBy W none) => rstands_at (h.grown g) page (Z page) m1 m2 m3)
  have HPG := Lib.hid (fun W => rpg_at (Z page) W m1 m2)
  have hN := h.small
  have HZ := Lib.hid (hz.del hi)
  rw [hLi] at HZ
  obtain ⟨n, hn⟩ : ∃ n, Z page = n := ⟨_, rfl⟩
  rw [hn] at HST HPG m1 m2 m3 hLi
  have HN := Lib.hid hn
  have M3 := Lib.hid m3
  have hpi : (page : Int) ≤ 256 := by omega
  have hni : (n : Int) ≤ 4096 := by omega
  have hii : (i : Int) < (L.length : Int) := by omega
  have hli : (L.length : Int) ≤ 1000 := by omega
  obtain ⟨gb, rfl, hgr, hgq, hcs⟩ : ∃ g, A = some ⟨g, 0, none⟩ ∧ g ≠ r ∧ g ≠ q ∧ ∀ i (h : i < L.length), w.cell? ⟨g, i * 2, none⟩ = some (.int .i64 (L[i].1 : Nat)) ∧ w.cell? ⟨g, i * 2 + 1, none⟩ = some (.int .i64 (L[i].2 : Nat)) := by
    rcases h.els with h0 | h0
    · omega
    · exact h0
  have HD := Lib.hid (hcs i hi)
  rw [hLi] at HD
  have HI := Lib.hid hi
  obtain ⟨nl, hnl⟩ : ∃ nl, L.length = nl := ⟨_, rfl⟩
  rw [hnl] at hii hli
  have HNL := Lib.hid hnl
  have HC2 : Hid (w.cell? ⟨r, 2, none⟩ = some (.slice (some ⟨gb, 0, none⟩) nl vc)) := Lib.hid (by rw [← hnl]; exact h.c2)
  have hvc : (nl : Int) ≤ vc := by have := h.hv; omega
  clear h hz hv hlen hp m1 m2 m3 hn hat hLi hcs hnl hi
  go_enter Tryz.func110, Tryz.ntmps110
  go_upto_region 5 with ((go_at_call 165; (with_reducible refine HA.out.mono ?_); rintro e w1 ⟨rfl, hg⟩; have HG := Lib.hid hg; have c2 := HG.out.cell HC2.out (by simp); have d0 := HG.out.cell HD.out.1 (by simp); have d1 := HG.out.cell HD.out.2 (by simp); clear hg))
  obtain ⟨xb, hxb⟩ : ∃ xb, xb = w1.heap.size := ⟨_, rfl⟩
  rw [← hxb]
  have HX : Hid ((w1.alloc (.cells #[.int .i64 page, .int .i64 n] 174)).cell? ⟨xb, 0, none⟩ = some (.int .i64 page) ∧ (w1.alloc (.cells #[.int .i64 page, .int .i64 n] 174)).cell? ⟨xb, 1, none⟩ = some (.int .i64 n)) := Lib.hid ⟨by rw [hxb, cell_alloc_new]; rfl, by rw [hxb, cell_alloc_new]; rfl⟩
  have HG1 : Hid (w.grownBy (w1.alloc (.cells #[.int .i64 page, .int .i64 n] 174)) none) := Lib.hid (grown_trans HG.out (grown_alloc _ _ _))
  generalize w1.alloc (.cells #[.int .i64 page, .int .i64 n] 174) = w2 at HX HG1 ⊢
  have HXB : Hid (w.heap.size ≤ xb) := Lib.hid (by rw [hxb]; exact HG.out.size)
  have x0 := HX.out.1
  have x1 := HX.out.2
  have HS2 := Lib.hid (HST.out _ HG1.out)
  clear hxb d0 d1 c2 HG HA HD HST
  obtain ⟨st, hst⟩ : ∃ st, decide (Ar.wordAt B (Lg.grd page n) = Lg.can key page) = st := ⟨_, rfl⟩
  rw [hst] at HS2
  have HSTB := Lib.hid hst
  clear hst
  go_upto_region 6 with ((go_at_call 166; (with_reducible refine HS2.out.mono ?_); rintro e w3 ⟨rfl, hg⟩; have HG3 := Lib.hid hg; clear hg))
  have HX3 := Lib.hid (And.intro (HG3.out.cell HX.out.1 (by simp)) (HG3.out.cell HX.out.2 (by simp)))
  have HR3 := Lib.hid (H.out.grown (grown_trans HG1.out HG3.out))
  have HWG := Lib.hid (grown_trans HG1.out HG3.out)
  obtain ⟨g, hg⟩ : ∃ g, pgs n = g := ⟨_, rfl⟩
  rw [hg] at HPG M3
  have HGG := Lib.hid hg
  have HFI : Hid (∀ W, w3.grownBy W none → Calls Tryz.prog 167 #[.pointer (some ⟨r, 0, none⟩), .int .i64 page, .int .i64 g, .int .u8 221] W fun e w' => e = .returned (.tuple #[]) ∧ (∃ q5 cap5, RgAt b0 w' r q5 cap5 key N (some ⟨gb, 0, none⟩) vc L (Ar.setB B (page * 256) (g * 256) (fun _ => 221)) ∧ w.heap.size ≤ q5) ∧ w.grownBy w' (some r) ∧ w'.cell? ⟨xb, 0, none⟩ = some (.int .i64 page) ∧ w'.cell? ⟨xb, 1, none⟩ = some (.int .i64 n)) := Lib.hid (fun W gW => by
    have hW := HR3.out.grown gW
    have := rfill_at hW page g 221 M3.out
    refine (by simpa using this : Calls Tryz.prog 167 #[.pointer (some ⟨r, 0, none⟩), .int .i64 page, .int .i64 g, .int .u8 221] W fun e w' => e = .returned (.tuple #[]) ∧ Fil W w' r N (Ar.setB B (page * 256) (g * 256) (fun _ => 221))).mono ?_
    rintro e w' ⟨rfl, hf⟩
    obtain ⟨q5, cap5, h5, hq5⟩ := hW.fil hf (Ar.setB_lt hW.lt (fun _ => by decide) _ _)
    have hgw : W.grownBy w' (some r) := by obtain ⟨_, _, _, _, _, _, k5, _⟩ := hf; exact k5
    have hs := HWG.out.size
    have hs2 := gW.size
    have hrl := H.out.rlt
    have hxb := HXB.out
    have hne : xb ≠ r := by omega
    exact ⟨rfl, ⟨q5, cap5, h5, by omega⟩, grown_trans (grown_none (grown_trans HWG.out gW)) hgw, hgw.cell (gW.cell HX3.out.1 (by simp)) (some_ne hne), hgw.cell (gW.cell HX3.out.2 (by simp)) (some_ne hne)⟩)
  have HO := Lib.hid (fun W (gW : w3.grownBy W none) => And.intro (gW.cell HX3.out.1 (by simp)) (gW.cell HX3.out.2 (by simp)))
  have e0 := HX3.out
  have hg4 := grown_drew1 (grown_refl w3 none)
  clear hg x0 x1 HX HG1 HG3 HS2
  go_region_held3 (fun w' => w'.cell? ⟨xb, 0, none⟩ = some (.int .i64 page) ∧ w'.cell? ⟨xb, 1, none⟩ = some (.int .i64 n))
    (first | exact e0 | exact HS7.out | exact HO.out _ (by assumption))
    (first
    | (go_at_call 115; (with_reducible refine (HPG.out _).mono ?_); rintro e w6 ⟨rfl, rfl⟩)
    | (go_at_call 167; (with_reducible refine (HFI.out _ (by assumption)).mono ?_); rintro e w6 ⟨rfl, hf1, hf2, hf3⟩; have HF := Lib.hid (And.intro hf1 hf2); have HS7 := Lib.hid hf3; clear hf1 hf2 hf3))
  obtain ⟨⟨q5, cap5, h5, hq5⟩, hgf⟩ := HF.out
  have H5 := Lib.hid h5
  have HQ5 := Lib.hid hq5
  have HGF := Lib.hid hgf
  clear h5 hq5 hgf HF HFI HO HS7 HX3 HR3 HWG HPG hg4 e0 HC2
  go_upto_region 7 with (fail)
  obtain ⟨i1, hi1⟩ : ∃ i1, i + 1 = i1 := ⟨_, rfl⟩
  have a1 : IntKind.i64.wrap ((i : Int) + 1) = (i1 : Int) := by rw [IntKind.wrap_i64]; omega
  have t1 : (i1 : Int) ≤ nl := by omega
  have t2 : (i : Int) ≤ vc := by omega
  have t3 : (i1 : Int) ≤ vc := by omega
  have t4 : ¬ vc = 0 := by omega
  have c2 := H5.out.c2
  rw [HNL.out] at c2
  have hlen : L.length ≤ 100000 := by rw [HNL.out]; omega
  have HI1 := Lib.hid hi1
  have HFIN : Hid (∀ A2 k2 w8, L.length - 1 ≤ k2 → BOwn w8 w6.heap.size (.slice A2 (L.length - 1) k2) (L.eraseIdx i) → w6.grownBy w8 none → w8.cell? ⟨r, 2, none⟩ = some (.slice (some ⟨gb, 0, none⟩) nl vc) ∧ w8.frozen? ⟨r, 2, none⟩ = false ∧ RDr b0 w (w8.setCell ⟨r, 2, none⟩ (.slice A2 (L.length - 1) k2)) r key N L Z B page (.returned (.tuple #[.bool st, .int .i64 0]))) := Lib.hid (fun A2 k2 w8 hk2 hown hg8 => by
    have h8 := H5.out.grown hg8
    have hel : (L.eraseIdx i).length = L.length - 1 := List.length_eraseIdx_of_lt HI.out
    have hc2 := h8.c2
    rw [HNL.out] at hc2
    have hw := HGF.out.size
    have hrl := H.out.rlt
    have hql := H5.out.b.qlt
    refine ⟨hc2, h8.fz 2, by rw [← HSTB.out, HN.out], grown_trans HGF.out (grown_trans (grown_none hg8) (An.agrown_set _ _ _ _)), q5, cap5, A2, k2, L.eraseIdx i, ?_, HZ.out, by rw [hel]; omega, HQ5.out, ?_⟩
    · have hfin := h8.setl (L' := L.eraseIdx i) (A' := A2) (vc' := k2) (by rw [hel]; exact hk2) (by
        rcases els_of_own hown with h0 | ⟨ga, rfl, hga, hcs⟩
        · exact .inl h0
        · have hga' : w6.heap.size ≤ ga := hga
          have n1 : ga ≠ r := by omega
          have n2 : ga ≠ q5 := by omega
          exact .inr ⟨ga, rfl, n1, n2, hcs⟩)
      rw [hel] at hfin
      have hdb : Ar.setB B (page * 256) (g * 256) (fun _ => 221) = Lg.dropB page (Z page) B := by unfold Lg.dropB; rw [HN.out, HGG.out]
      rw [hdb] at hfin
      exact hfin
    · intro a ha
      rcases hown.2 with ⟨e, _⟩ | ⟨g', cap', cur, e, hbg, _⟩
      · injection e with e1 _ _
        rw [ha] at e1; cases e1
      · injection e with e1 _ _
        rw [ha] at e1
        injection e1 with e1
        have hbg' : w6.heap.size ≤ g' := hbg
        rw [e1]
        show w.heap.size ≤ g'
        omega)
  have HOC : Hid (∀ W, w6.grownBy W none → W.cell? ⟨r, 2, none⟩ = some (.slice (some ⟨gb, 0, none⟩) nl vc)) := Lib.hid (fun W gr => gr.cell c2 (by simp))
  by_cases hvi : vc = i1
  · obtain ⟨A1, k1, w7, ap1, own1, hg7⟩ := rdel_run1 H5.out hlen i HI.out
    obtain ⟨A2, k2, w8, ap2, hk2, hown, hg8⟩ := rdel_run2 (H5.out.grown hg7) hlen i HI.out ⟨gb, 0, none⟩ 0 (.inl (by rw [HNL.out]; omega)) own1 hg7
    obtain ⟨d8, z8, hfin⟩ := HFIN.out A2 k2 w8 hk2 hown hg8
    have HFI := Lib.hid hfin
    rw [HNL.out] at ap2 HFI
    rw [hi1] at ap2
    have AP1 := Lib.hid ap1
    have AP2 := Lib.hid ap2
    have c6 : (w6.alloc (.cells #[] 174)).cell? ⟨r, 2, none⟩ = some (.slice (some ⟨gb, 0, none⟩) nl vc) := HOC.out _ (grown_alloc w6 (.cells #[] 174) none)
    have c7 := HOC.out _ hg7
    clear hown hg8 hg7 hfin HFIN H5 ap1 ap2 hk2 hlen hi1 own1 HOC
    subst hvi
    go_region_law (first
      | (refine step_append_run rfl _ _ _ rfl (.slice (some ⟨w6.heap.size, 0, none⟩) 0 0) (.slice (some ⟨gb, 0, none⟩) i vc) _ _ rfl rfl AP1.out ?_)
      | (refine step_append_run rfl _ _ _ rfl (.slice A1 i k1) (.slice (some ⟨gb, 0, none⟩) (nl - vc) 0) _ _ rfl rfl AP2.out ?_))
    all_goals
      go_wp2
      go_ret2
      exact HFI.out
  · obtain ⟨A1, k1, w7, ap1, own1, hg7⟩ := rdel_run1 H5.out hlen i HI.out
    obtain ⟨A2, k2, w8, ap2, hk2, hown, hg8⟩ := rdel_run2 (H5.out.grown hg7) hlen i HI.out ⟨gb, i1 * 2, none⟩ (vc - i1) (.inr (by rw [hi1])) own1 hg7
    obtain ⟨d8, z8, hfin⟩ := HFIN.out A2 k2 w8 hk2 hown hg8
    have HFI := Lib.hid hfin
    rw [HNL.out] at ap2 HFI
    rw [hi1] at ap2
    have AP1 := Lib.hid ap1
    have AP2 := Lib.hid ap2
    have c6 : (w6.alloc (.cells #[] 174)).cell? ⟨r, 2, none⟩ = some (.slice (some ⟨gb, 0, none⟩) nl vc) := HOC.out _ (grown_alloc w6 (.cells #[] 174) none)
    have c7 := HOC.out _ hg7
    clear hown hg8 hg7 hfin HFIN H5 ap1 ap2 hk2 hlen hi1 own1 HOC
    go_region_law (first
      | (refine step_append_run rfl _ _ _ rfl (.slice (some ⟨w6.heap.size, 0, none⟩) 0 0) (.slice (some ⟨gb, 0, none⟩) i vc) _ _ rfl rfl AP1.out ?_)
      | (refine step_append_run rfl _ _ _ rfl (.slice A1 i k1) (.slice (some ⟨gb, i1 * 2, none⟩) (nl - i1) (vc - i1)) _ _ rfl rfl AP2.out ?_))
    all_goals
      go_wp2
      go_ret2
      exact HFI.out
end Go.Proofs.YtgnfcklippjeeaaGreat
