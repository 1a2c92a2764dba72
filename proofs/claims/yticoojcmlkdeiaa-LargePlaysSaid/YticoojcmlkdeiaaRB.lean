/- The document's set: the walks of At and Stands. -/
import Derived.Test.YticoojcmlkdeiaaRA
namespace Go.Proofs.Yticoojcmlkdeiaa
open Go.RowKit
open Sl (upd)
open Lg (pgs)
open Rf (LZ)

def FoundAt (w w' : World) (L : List (Nat × Nat)) (page : Int) (e : Ending) : Prop := ∃ x : Int, e = .returned (.int .i64 x) ∧ ((x = -1 ∧ ∀ i (_ : i < L.length), (L[i].1 : Int) ≠ page) ∨ ∃ i, ∃ _ : i < L.length, x = i ∧ (L[i].1 : Int) = page) ∧ w.grownBy w' none
set_option maxRecDepth 100000 in
set_option maxHeartbeats 2000000 in
theorem rat_at {b0 : Nat} {w : World} {r q cap key N : Nat} {A : Option Addr} {vc : Nat} {L : List (Nat × Nat)} {B : Nat → Nat} (h : RgAt b0 w r q cap key N A vc L B) (hlen : L.length ≤ 100000) (page : Int) :
    Calls Try.prog 74 #[.pointer (some ⟨r, 0, none⟩), .int .i64 page] w fun e w' => FoundAt w w' L page e := by
  have c2 := h.c2
  have HA := Lib.hid h.els
  clear h
  obtain ⟨n, hn⟩ : ∃ n, n = L.length := ⟨_, rfl⟩
  rw [← hn] at c2 hlen
  have HN := Lib.hid hn
  clear hn
  go_enter Try.func74, Try.ntmps74
  go_wp2_with fail
  obtain ⟨w2, hw2⟩ : ∃ w2 : World, w2 = w := ⟨_, rfl⟩
  go_loopw [12] (fun i wr => ∃ k : Nat, k ≤ n ∧ i = .int .i64 k ∧ w.grownBy wr none ∧ ∀ j (_ : j < k) (_ : j < L.length), (L[j].1 : Int) ≠ page) (fun i _ => n - (intOf i).toNat)
  case atStart => exact ⟨0, by omega, rfl, grown_refl _ _, fun j hj => by omega⟩
  case round =>
    obtain ⟨k, hk, rfl, hg, hno⟩ := hrel
    have HG := Lib.hid hg
    have HO := Lib.hid hno
    clear hg hno
    by_cases hlt : k < n
    · have hkl : k < L.length := by rw [← HN.out]; exact hlt
      obtain ⟨g, rfl, hc⟩ : ∃ g, A = some ⟨g, 0, none⟩ ∧ ∀ i (h : i < L.length), w.cell? ⟨g, i * 2, none⟩ = some (.int .i64 (L[i].1 : Nat)) ∧ w.cell? ⟨g, i * 2 + 1, none⟩ = some (.int .i64 (L[i].2 : Nat)) := by
        rcases HA.out with h0 | ⟨g, e, _, _, h⟩
        · omega
        · exact ⟨g, e, h⟩
      have e0 := HG.out.cell (hc k hkl).1 (by simp)
      have e1 := HG.out.cell (hc k hkl).2 (by simp)
      have HK := Lib.hid hkl
      have HP : Hid (∀ p : Nat, L[k].1 = p → (p : Int) ≠ page → ∀ j (_ : j < k + 1) (_ : j < L.length), (L[j].1 : Int) ≠ page) := Lib.hid (fun p ep np j hj hjl => by
        by_cases e : j < k
        · exact HO.out j e hjl
        · obtain rfl : j = k := by omega
          exact fun e2 => np (by rw [← ep]; exact e2))
      obtain ⟨p, hp⟩ : ∃ p, (L[k]'hkl).1 = p := ⟨_, rfl⟩
      obtain ⟨m, hm⟩ : ∃ m, (L[k]'hkl).2 = m := ⟨_, rfl⟩
      rw [hp] at e0
      rw [hm] at e1
      have HPP := Lib.hid (And.intro hp (HP.out p hp))
      clear hp hm HP HK hc
      go_upto_region 4 with (fail)
      obtain ⟨xb, hxb⟩ : ∃ xb, xb = wr.heap.size := ⟨_, rfl⟩
      rw [← hxb]
      have x0 : (wr.alloc (.cells #[.int .i64 p, .int .i64 m] 70)).cell? ⟨xb, 0, none⟩ = some (.int .i64 p) := by rw [hxb, cell_alloc_new]; rfl
      have HG1 : Hid (w.grownBy (wr.alloc (.cells #[.int .i64 p, .int .i64 m] 70)) none) := Lib.hid (grown_trans HG.out (grown_alloc _ _ _))
      generalize wr.alloc (.cells #[.int .i64 p, .int .i64 m] 70) = w1 at x0 HG1 ⊢
      clear hxb HG e0 e1
      by_cases he : (p : Int) = page
      · have hd : ((p : Int) == page) = true := by rw [he]; simp
        have HE := Lib.hid he
        clear he
        go_wp2
        go_ret
        exact ⟨_, rfl, .inr ⟨k, by rw [← HN.out]; exact hlt, rfl, by rw [HPP.out.1]; exact HE.out⟩, HG1.out⟩
      · have hd : ((p : Int) == page) = false := by simpa using he
        have HE := Lib.hid he
        clear he
        go_wp2
        go_roundw
        case rel => exact ⟨k + 1, by omega, by go_num, HG1.out, HPP.out.2 HE.out⟩
        case measure => simp [intOf]; omega
    · obtain rfl : k = n := by omega
      go_wp2
      go_ret
      exact ⟨-1, rfl, .inl ⟨rfl, fun i hi => HO.out i (by rw [HN.out]; exact hi) hi⟩, HG.out⟩

set_option maxRecDepth 100000 in
set_option maxHeartbeats 2000000 in
theorem rstands_at {b0 : Nat} {w : World} {r q cap key N : Nat} {A : Option Addr} {vc : Nat} {L : List (Nat × Nat)} {B : Nat → Nat} (h : RgAt b0 w r q cap key N A vc L B) (p n : Nat) (h1 : 120 < n) (h2 : n ≤ 4096) (hf : (p + pgs n) * 256 ≤ N) :
    Calls Try.prog 34 #[.pointer (some ⟨r, 0, none⟩), .agg #[.int .i64 p, .int .i64 n]] w fun e w' => e = .returned (.bool (decide (Ar.wordAt B (Lg.grd p n) = Lg.can key p))) ∧ w.grownBy w' none := by
  have HPG := Lib.hid (fun W => rpg_at n W h1 h2)
  have HE : Hid ((((Ar.wordAt B (Lg.grd p n) : Nat) : Int) == ((Lg.can key p : Nat) : Int)) = decide (Ar.wordAt B (Lg.grd p n) = Lg.can key p)) := Lib.hid (by
    by_cases e : Ar.wordAt B (Lg.grd p n) = Lg.can key p
    · rw [e]; simp
    · rw [show decide _ = false from by simpa using e]
      simp only [beq_eq_false_iff_ne]
      omega)
  have hN := h.small
  have hp : p ≤ 65536 := by omega
  have hg := Lg.pgs_pos n
  have H1 : Hid (∀ W, w.grownBy W none → W.cell? ⟨r, 0, none⟩ = some (.slice (some ⟨q, 0, none⟩) N cap) ∧ W.cell? ⟨r, 1, none⟩ = some (.int .u64 (key : Nat)) ∧ ∀ c, Calls Try.prog 77 #[.slice (some ⟨q, Lg.grd p n, none⟩) 8 c] W fun e w' => e = .returned (.int .u64 (Ar.wordAt B (Lg.grd p n) : Nat)) ∧ W = w') := Lib.hid (fun W g =>
    ⟨(h.grown g).c0, (h.grown g).c1, fun c => An.rget_at q (Lg.grd p n) c (fun i => B (Lg.grd p n + i)) W (fun i => h.lt _) (fun i hi => (h.grown g).b.c _ (by unfold Lg.grd; omega))⟩)
  obtain ⟨g, hgg⟩ : ∃ g, g = pgs n := ⟨_, rfl⟩
  obtain ⟨z, hz⟩ : ∃ z, z = Lg.grd p n := ⟨_, rfl⟩
  have hzz : (p + g) * 256 = z + 8 := by rw [hgg, hz]; unfold Lg.grd; omega
  have HR : Hid (∀ W, Calls Try.prog 71 #[.int .u64 (key ^^^ Li.u ((p * 256 : Nat) : Int) : Nat)] W fun e w' => e = .returned (.int .u64 (Lg.can key p : Nat)) ∧ W = w') := Lib.hid (fun W => rmix_at (key ^^^ Li.u ((p * 256 : Nat) : Int)) (Li.xor_lt h.k (Li.u_lt _)) W)
  rw [← hgg] at HPG hf
  have hzN : (z : Int) + 8 ≤ N := by omega
  have hzc : (z : Int) + 8 ≤ cap := by have := h.hcap; omega
  rw [← hz] at HE H1 ⊢
  obtain ⟨s, hs⟩ : ∃ s : Int, ((p + g : Nat) : Int) = s := ⟨_, rfl⟩
  obtain ⟨t, ht⟩ : ∃ t : Nat, z + 8 = t := ⟨_, rfl⟩
  have a1 : IntKind.i64.wrap ((p : Int) + (g : Int)) = s := by rw [IntKind.wrap_i64]; omega
  have a2 : IntKind.i64.wrap (256 * s) = (t : Int) := by rw [IntKind.wrap_i64]; omega
  have a3 : IntKind.i64.wrap ((t : Int) - 8) = (z : Int) := by rw [IntKind.wrap_i64]; omega
  have a4 : IntKind.i64.wrap ((z : Int) + 8) = (t : Int) := by rw [IntKind.wrap_i64]; omega
  have a5 : IntKind.i64.wrap (256 * (p : Int)) = ((p * 256 : Nat) : Int) := by rw [IntKind.wrap_i64]; omega
  have a6 := wrap_u ((p * 256 : Nat) : Int)
  have a7 := u64_xor_nat key (Li.u ((p * 256 : Nat) : Int)) h.k (Li.u_lt _)
  have b1 : IntKind.i64.wrap 256 = 256 := by decide
  have b2 : IntKind.i64.wrap 8 = 8 := by decide
  have ht1 : (t : Int) ≤ N := by omega
  have ht2 : (t : Int) ≤ cap := by omega
  have ht3 : (z : Int) ≤ t := by omega
  have ht4 : t - z = 8 := by omega
  have ht5 : ¬ cap = z := by omega
  clear h h1 h2 hf hN hp hg hgg hz hzz hs ht hzN hzc
  generalize decide (Ar.wordAt B z = Lg.can key p) = b at *
  generalize Ar.wordAt B z = x at *
  generalize Lg.can key p = y at *
  generalize ((p * 256 : Nat) : Int) = v at *
  generalize key ^^^ Li.u v = kx at *
  generalize Li.u v = u at *
  go_enter Try.func34, Try.ntmps34
  go_upto_region 1 with (fail)
  obtain ⟨xb, hxb⟩ : ∃ xb, xb = w.heap.size := ⟨_, rfl⟩
  rw [← hxb]
  have x0 : (w.alloc (.cells #[.int .i64 p, .int .i64 n] 70)).cell? ⟨xb, 0, none⟩ = some (.int .i64 p) := by rw [hxb, cell_alloc_new]; rfl
  have x1 : (w.alloc (.cells #[.int .i64 p, .int .i64 n] 70)).cell? ⟨xb, 1, none⟩ = some (.int .i64 n) := by rw [hxb, cell_alloc_new]; rfl
  have HG1 : Hid (w.grownBy (w.alloc (.cells #[.int .i64 p, .int .i64 n] 70)) none) := Lib.hid (grown_alloc _ _ _)
  generalize w.alloc (.cells #[.int .i64 p, .int .i64 n] 70) = w1 at x0 x1 HG1 ⊢
  clear hxb
  go_quiet ((go_at_call 68; exact quiet_left (HPG.out _)))
  rename_i nq
  have hg2 := grown_drew HG1.out nq
  have x0 : (w1.drewN nq).cell? ⟨xb, 0, none⟩ = some (.int .i64 p) := by simpa using x0
  generalize w1.drewN nq = w2 at *
  obtain ⟨c0, c1, -⟩ := H1.out _ hg2
  have HGT : Hid (∀ d c, Calls Try.prog 77 #[.slice (some ⟨q, z, none⟩) 8 c] (w2.drewN d) fun e w' => e = .returned (.int .u64 x) ∧ w2.drewN d = w') := Lib.hid (fun d c => (H1.out _ (grown_drew hg2 d)).2.2 c)
  have hg3 := Lib.hid hg2
  clear H1 HG1 hg2 HPG
  go_upto_region 2 with (fail)
  go_quiet (first
    | (go_at_call 77; (with_reducible exact quiet_left (HGT.out _ _)))
    | (go_at_call 71; (with_reducible exact quiet_left (HR.out _))))
  go_wp2
  go_ret
  exact ⟨by rw [← HE.out]; try simp, grown_drew hg3.out _⟩
end Go.Proofs.Yticoojcmlkdeiaa
