/- The walk of ArenaCopies. -/
import Derived.Test.YtbpganholopjfaaAU
namespace Go.Proofs.Ytbpganholopjfaa
open Go.RowKit

theorem own_cap {w : World} {B n size : Nat} {e : TypeId} {A : Option Addr} {c : Nat} {xs : List Value} (h : w.ownsRow B e size (.slice A n c) n xs) : n ≤ c := by
  obtain ⟨-, ⟨h1, h2⟩ | ⟨g, cap, cur, e, hbg, hh, hnc, _⟩⟩ := h
  · omega
  · injection e with _ _ e3; omega
/-- An argument that is a slice of bytes. -/
def BytesArg (w : World) (A : Option Addr) (n : Nat) (S : Nat → Nat) : Prop := n = 0 ∨ ∃ b off, A = some ⟨b, off, none⟩ ∧ b < w.heap.size ∧ ∀ i, i < n → w.cell? ⟨b, off + i, none⟩ = some (.int .u8 (S i : Nat))
theorem BytesArg.at {w w' : World} {A : Option Addr} {n m : Nat} {S : Nat → Nat} (h : BytesArg w A n S) (g : w.grownBy w' none) (hm : m ≤ n) : m = 0 ∨ ∃ b off, A = some ⟨b, off, none⟩ ∧ ∀ i, i < m → w'.cell? ⟨b, off + i, none⟩ = some (.int .u8 (S i : Nat)) := by
  rcases h with h | ⟨b, off, e, _, hc⟩
  · exact .inl (by omega)
  · exact .inr ⟨b, off, e, fun i hi => g.cell (hc i (by omega)) (by simp)⟩
theorem acts_hab {w w' : World} {R : List A3} {A : Option Addr} {c p q : Nat} (h : ROwn w' w.heap.size (.slice A R.length c) R) (hp : p < w.heap.size) (hq : q < w.heap.size) : ∀ b off, A = some ⟨b, off, none⟩ → b < w'.heap.size ∧ b ≠ p ∧ b ≠ q := by
  intro b off e
  subst e
  have := World.ownsRow.lt h b rfl
  omega

set_option maxRecDepth 100000 in
set_option maxHeartbeats 4000000 in
theorem copies_walk (A A2 : Option Addr) (m bc n lc : Nat) (S : Nat → Nat) (F : Nat → A3) (at_ : Int) (w : World) (hm : m ≤ 9223372036854775807) (hbc : m ≤ bc) (hB : BytesArg w A m S) (hS : ∀ i, S i < 256) (hn : n ≤ 9223372036854775807) (hlc : n ≤ lc) (hA : ActsAt w A2 n F) (hx : ∀ i, i < n → (F i).x < 18446744073709551616) :
    Calls Try.prog 5 #[.slice A m bc, .slice A2 n lc, .int .i64 at_] w fun e w' => e = .returned (.bool true) ∧ w.grownBy w' none := by
  have H := Lib.hid (And.intro hB (And.intro hS (And.intro hA hx)))
  have HN := Lib.hid (anew_at 2 2 w (by omega) (.inr (.inl ⟨by omega, by omega, rfl⟩)))
  obtain ⟨M, hM, hM2⟩ : ∃ M : Nat, M ≤ 256 ∧ ((m ≤ 256 ∧ M = m) ∨ (256 < m ∧ M = 256)) := by
    by_cases h : m ≤ 256
    · exact ⟨m, h, .inl ⟨h, rfl⟩⟩
    · exact ⟨256, Nat.le_refl _, .inr ⟨by omega, rfl⟩⟩
  have HM2 := Lib.hid hM2
  clear hB hS hA hx hM2
  go_enter Try.func5, Try.ntmps5
  go_wp2_with fail
  refine HN.out.mono ?_
  rintro e w1 ⟨p, q, cap, rfl, har, hp, hq, hg⟩
  have G1 := Lib.hid (And.intro har (And.intro hp (And.intro hq hg)))
  clear har hp hq hg HN
  go_upto_if 24 with (fail)
  go_cut [0] (fun s wx => s = .slice A M bc ∧ wx = w1)
  case first =>
    rcases HM2.out with ⟨h1, rfl⟩ | ⟨h1, rfl⟩
    · have d : decide ((256 : Int) < M) = false := decide_eq_false (by omega)
      go_wp2
      go_meet
      exact ⟨rfl, rfl⟩
    · have d : decide ((256 : Int) < m) = true := decide_eq_true (by omega)
      obtain ⟨b, off, rfl⟩ : ∃ b off, A = some ⟨b, off, none⟩ := by
        rcases H.out.1 with h | ⟨b, off, e, _⟩
        · omega
        · exact ⟨b, off, e⟩
      have d2 : (256 : Int) ≤ bc := by omega
      go_wp2
      go_meet
      exact ⟨rfl, rfl⟩
  case rest =>
  obtain ⟨rfl, rfl⟩ := hcut
  obtain ⟨w2, rfl⟩ : ∃ w2 : World, w2 = wc := ⟨_, rfl⟩
  have hMm : M ≤ m := by have := HM2.out; omega
  have HST := Lib.hid (store_good G1.out.1 9 M bc A S (by omega) H.out.2.1 (H.out.1.at G1.out.2.2.2 hMm))
  go_wp2_with fail
  refine HST.out.mono ?_
  rintro e w3 ⟨rfl, har, hg⟩
  have G3 := Lib.hid (And.intro har (grown_own G1.out.2.2.2 hg G1.out.2.2.1))
  have HLD := Lib.hid (aload_good har 0 512 (by omega))
  clear har hg HST
  go_wp2_with fail
  refine HLD.out.mono ?_
  rintro e w4 ⟨q2, cap2, rfl, k1, k2, k3, k4⟩
  have G4 := Lib.hid (And.intro (G3.out.1.grown k4 (by simp) (by simp)) (And.intro (grown_trans G3.out.2 k4) (And.intro k1 k3)))
  have HCP := Lib.hid (acopy_at G4.out.1)
  have K2 := Lib.hid k2
  clear k1 k2 k3 k4 HLD
  go_wp2_with fail
  refine HCP.out.mono ?_
  rintro e w5 ⟨pc, qc, capc, rfl, harc, hpc, hqc, hg⟩
  have G5 := Lib.hid (And.intro (G4.out.1.grown hg (by simp) (by simp)) (And.intro (grown_trans G4.out.2.1 hg) (G4.out.2.2.2.grown hg (by simp))))
  have C5 := Lib.hid (And.intro harc (And.intro hpc (And.intro hqc hg.size)))
  have HR := Lib.hid (right_at A2 n lc F w5 hn hlc (H.out.2.2.1.grown G5.out.2.1))
  clear harc hpc hqc hg HCP
  go_wp2_with fail
  refine HR.out.mono ?_
  rintro e w6 ⟨v, rfl, hown, hg⟩
  obtain ⟨A3', c3, rfl⟩ := own_shape hown
  have hacts := acts_of_own hown (fun i hi => rgt_x F n H.out.2.2.2 n (Nat.le_refl _) _ (getA_mem hi))
  have HD := Lib.hid (do_at (C5.out.1.grown hg (by simp) (by simp)) (by have := rgt_len F n; omega) (own_cap hown) (fun i hi => rgt_ok F n _ (getA_mem hi)) hacts (acts_hab hown C5.out.1.plt C5.out.1.b.qlt))
  have G6 := Lib.hid (And.intro (G5.out.1.grown hg (by simp) (by simp)) (And.intro (grown_trans G5.out.2.1 hg) (G5.out.2.2.grown hg (by simp))))
  clear hown hg hacts HR
  go_wp2_with fail
  refine HD.out.mono ?_
  rintro e w7 ⟨rt, fl, At, ct, base, rfl, _, harc, _, _, hfr⟩
  have ine : ¬ (p = pc ∨ p = qc) ∧ ¬ (q = pc ∨ q = qc) ∧ ¬ (q2 = pc ∨ q2 = qc) := by
    have := G4.out.1.plt
    have := G4.out.1.b.qlt
    have := G4.out.2.2.2.qlt
    have := C5.out.2.1
    have := C5.out.2.2.1
    omega
  have INE := Lib.hid ine
  have hpcw : w.heap.size ≤ pc ∧ w.heap.size ≤ qc := by
    have := G4.out.2.1.size
    have := C5.out.2.1
    have := C5.out.2.2.1
    omega
  have PCW := Lib.hid hpcw
  have G7 := Lib.hid (And.intro (G6.out.1.fr hfr ine.1 ine.2.1) (And.intro (hfr.grown G6.out.2.1 (fun i x => by rcases x with x | x <;> (rw [x]; omega))) (G6.out.2.2.fr hfr ine.2.2)))
  have HF := Lib.hid (fill_good harc 0 512 7 (by omega) (by omega))
  clear harc hfr ine hpcw HD
  generalize (tl 512 (getA (rgt F n)) (Ar.setB (fun _ => 0) 9 M S) rt).length = lnx
  go_wp2_with fail
  refine HF.out.mono ?_
  rintro e w8 ⟨rfl, _, hg⟩
  have G8 := Lib.hid (And.intro (G7.out.1.grown hg (by have := INE.out; simp; omega) (by have := INE.out; simp; omega)) (And.intro (grown_own G7.out.2.1 hg PCW.out.2) (G7.out.2.2.grown hg (by have := INE.out; simp; omega))))
  clear hg HF
  go_upto_region 10 with (fail)
  have x0 : (w8.alloc (.cells #[.pointer none] 56)).cell? ⟨w8.heap.size, 0, none⟩ = some (.pointer none) := by rw [cell_alloc_new]; rfl
  have z0 : (w8.alloc (.cells #[.pointer none] 56)).frozen? ⟨w8.heap.size, 0, none⟩ = false := frozen_alloc_new ..
  have s9 : (w8.alloc (.cells #[.pointer none] 56)).heap.size = w8.heap.size + 1 := by simp
  have g9 : w8.grownBy (w8.alloc (.cells #[.pointer none] 56)) none := grown_alloc _ _ _
  have G9 := Lib.hid (And.intro (G8.out.1.grown g9 (by simp) (by simp)) (And.intro (grown_trans G8.out.2.1 g9) (G8.out.2.2.grown g9 (by simp))))
  obtain ⟨ob, hob⟩ : ∃ ob, ob = w8.heap.size := ⟨_, rfl⟩
  rw [← hob] at x0 z0 s9 ⊢
  have hobs : ob ≠ p ∧ ob ≠ q ∧ ob ≠ q2 ∧ w.heap.size ≤ ob := by
    have := G8.out.1.plt
    have := G8.out.1.b.qlt
    have := G8.out.2.2.qlt
    have := G8.out.2.1.size
    omega
  have OBS := Lib.hid hobs
  generalize w8.alloc (.cells #[.pointer none] 56) = w9 at x0 z0 s9 g9 G9 ⊢
  have hq9 : q < w9.heap.size := G9.out.1.b.qlt
  have hmf := mk_func
  have S9 := Lib.hid (show ob < w9.heap.size by omega)
  have HDO := Lib.hid (do_run G9.out.1 28 #[.pointer (some ⟨ob, 0, none⟩)] (fun i => i = ob) _ (fun i x => by rw [x]; exact ⟨S9.out, OBS.out.1⟩) call_out (out_fn w9 p q 512 cap ob _ hq9 x0 z0 hobs.1 hobs.2.1))
  clear x0 z0 s9 g9 hob hobs hq9
  go_wp2_with fail
  refine HDO.out.mono ?_
  rintro e w10 ⟨W, wz, B', rt2, fl2, u, vb, rfl, har, hwW, ⟨rfl, rfl, hcell⟩, hfr, ⟨n1, n2, n3, n4⟩, hs, hu0, hvb, hfw⟩
  rw [if_pos rfl] at har
  have xo : w10.cell? ⟨ob, 0, none⟩ = some (.pointer (some ⟨vb, 0, none⟩)) := hfr.cell hcell (by have := OBS.out; have := S9.out; omega)
  have G10 := Lib.hid (And.intro har (And.intro (hfw.grown G9.out.2.1 (fun i x => by have := G1.out.2.1; have := G1.out.2.2.1; have := OBS.out; omega)) (G9.out.2.2.fr hfw (by
    have := OBS.out
    have := K2.out
    have := G3.out.1.plt
    have := G3.out.1.b.qlt
    omega))))
  have HSO := Lib.hid (set_over vb u 0 1 w10 hvb hu0)
  have HNO := Lib.hid (need_over vb u false w10 hvb hu0)
  have HVB := Lib.hid (And.intro xo (And.intro hvb hu0))
  clear hwW hcell hfr n1 n2 n3 n4 hs hfw har HDO hmf hvb hu0
  go_wp2_with fail
  refine HSO.out.mono ?_
  rintro e w' ⟨rfl, rfl⟩
  go_wp2_with fail
  refine HNO.out.mono ?_
  rintro e w' ⟨rfl, rfl⟩
  clear HSO HNO
  go_wp2_with (first
    | (go_at_call 20; refine (aload_nil at_ at_ _).mono ?_; rintro e w' ⟨rfl, rfl⟩)
    | (go_at_call 19; refine (word_nil at_ _).mono ?_; rintro e w' ⟨rfl, rfl⟩))
  refine (do_nil _ _).mono ?_
  rintro e w11 ⟨rfl, hg11⟩
  have G11 := Lib.hid hg11
  clear hg11
  go_wp2_with fail
  refine (do_nofn _ _).mono ?_
  rintro e w12 ⟨rfl, hg12⟩
  have g12 := grown_trans G11.out hg12
  have G12 := Lib.hid (And.intro (G10.out.1.grown g12 (by simp) (by simp)) (And.intro (grown_trans G10.out.2.1 g12) (G10.out.2.2.grown g12 (by simp))))
  have HSM := Lib.hid (same_at (r := q2) (c := cap2) (S := fun i => Ar.setB (fun _ => 0) 9 M S (0 + i)) G12.out.1 ⟨G12.out.2.2, G4.out.2.2.1, by omega, fun i => G12.out.1.lt _⟩ (fun i _ => by rw [Nat.zero_add]))
  have HV2 := Lib.hid (And.intro (g12.cell HVB.out.1 (by simp)) (And.intro (g12.cell HVB.out.2.1 (by simp)) (g12.cell HVB.out.2.2 (by simp))))
  clear hg12 g12 xo
  go_wp2_with fail
  refine HSM.out.mono ?_
  rintro e w13 ⟨rfl, hg⟩
  have G13 := Lib.hid hg
  have xo := hg.cell HV2.out.1 (by simp)
  have HGO := Lib.hid (get_over vb u 0 w13 (hg.cell HV2.out.2.1 (by simp)) (hg.cell HV2.out.2.2 (by simp)))
  clear hg
  go_wp2_with fail
  refine HGO.out.mono ?_
  rintro e w' ⟨rfl, rfl⟩
  go_wp2_with (first
    | (go_at_call 33; refine (alen_nil _).mono ?_; rintro e w' ⟨rfl, rfl⟩)
    | (go_at_call 13; refine (store_nil at_ _ _ _ _).mono ?_; rintro e w' ⟨rfl, rfl⟩)
    | (go_at_call 15; refine (fill_nil at_ at_ 1 _).mono ?_; rintro e w' ⟨rfl, rfl⟩)
    | (go_at_call 17; refine (setword_nil at_ 1 _).mono ?_; rintro e w' ⟨rfl, rfl⟩)
    | (go_at_call 26; refine (acopy_nil _).mono ?_; rintro e w' ⟨rfl, rfl⟩))
  refine (awake_at _).mono ?_
  rintro e w14 ⟨rfl, hg⟩
  have G14 := Lib.hid (grown_trans (grown_trans G12.out.2.1 G13.out) hg)
  clear hg
  go_wp2
  go_ret
  exact ⟨rfl, G14.out⟩
end Go.Proofs.Ytbpganholopjfaa
