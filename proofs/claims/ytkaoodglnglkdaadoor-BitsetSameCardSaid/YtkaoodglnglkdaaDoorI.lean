/- The walk of the law BitsetSame. -/
import Derived.Test.YtkaoodglnglkdaaDoorH
namespace Go.Proofs.YtkaoodglnglkdaaDoor
open Go.RowKit

theorem words_bits (A B : List Nat) (L : Nat) (hA : ∀ k, A.getD k 0 < 18446744073709551616) (hB : ∀ k, B.getD k 0 < 18446744073709551616) : (∀ k, k < L → A.getD k 0 = B.getD k 0) ↔ ∀ i, i < 64 * L → M.bit A i = M.bit B i := by
  constructor
  · intro h i hi
    unfold M.bit
    rw [h (i / 64) (by omega)]
  · intro h k hk
    apply Nat.eq_of_testBit_eq
    intro m
    by_cases hm : m < 64
    · have t := h (64 * k + m) (by omega)
      rwa [M.bit_word A k m hm, M.bit_word B k m hm] at t
    · have z : ∀ x : Nat, x < 18446744073709551616 → x.testBit m = false := fun x hx => Nat.testBit_lt_two_pow (Nat.lt_of_lt_of_le hx (Nat.pow_le_pow_right (n := 2) (by decide) (show 64 ≤ m by omega)))
      rw [z _ (hA k), z _ (hB k)]
theorem same_iff {w w' : World} {p q n c p2 q2 m c2 : Nat} {A B : List Nat} {f g : Nat → Bool} (h1 : SetAt w p q n c A) (h2 : SetAt w' p2 q2 m c2 B) (hf : Holds A f n) (hg : Holds B g m) (σ : Bool) (hσ : σ = true ↔ n = m ∧ ∀ t, t < n → f t = g t) :
    σ = true ↔ n = m ∧ ∀ k, k < A.length → A.getD k 0 = B.getD k 0 := by
  rw [hσ]
  constructor
  · rintro ⟨rfl, h⟩
    refine ⟨rfl, (words_bits A B A.length h1.lt h2.lt).2 fun i _ => ?_⟩
    rw [hf i, hg i]
    by_cases e : i < n
    · rw [h i e]
    · simp [e]
  · rintro ⟨rfl, h⟩
    refine ⟨rfl, fun t ht => ?_⟩
    have hl := h1.len
    have := (words_bits A B A.length h1.lt h2.lt).1 h t (by omega)
    rw [hf t, hg t] at this
    simpa [ht] using this
theorem so_far_yes {n m k : Nat} {f g : Nat → Bool} {x y : Bool} (h' : n = m ∧ ∀ t, t < k → f t = g t) (hx : x = f k) (hy : y = g k) : (x == y) = true ↔ n = m ∧ ∀ t, t < k + 1 → f t = g t := by
  rw [beq_iff_eq, hx, hy]
  refine ⟨fun e => ⟨h'.1, fun t ht => ?_⟩, fun e => e.2 k (by omega)⟩
  by_cases q : t = k
  · rw [q]; exact e
  · exact h'.2 t (by omega)
theorem so_far_no {n m k : Nat} {f g : Nat → Bool} (h : false = true ↔ n = m ∧ ∀ t, t < k → f t = g t) : false = true ↔ n = m ∧ ∀ t, t < k + 1 → f t = g t :=
  ⟨fun e => (nomatch e), fun e => h.2 ⟨e.1, fun t ht => e.2 t (by omega)⟩⟩
theorem so_far_zero (n m : Nat) (f g : Nat → Bool) : decide (n = m) = true ↔ n = m ∧ ∀ t, t < 0 → f t = g t := by simp

set_option maxHeartbeats 4000000 in
theorem same_walk (A B : Option Addr) (la ca lb cb : Nat) (f g : Nat → Bool) (w : World) (hT : Tab w) (hla : la ≤ 9223372036854775807) (hlb : lb ≤ 9223372036854775807) (hca : la ≤ ca) (hcb : lb ≤ cb) (hA : BoolsAt w A la f) (hB : BoolsAt w B lb g) :
    Calls Tryd.prog 4 #[.slice A la ca, .slice B lb cb] w fun e w' => e = .returned (.bool true) ∧ w.grownBy w' none := by
  have HT := Lib.hid hT
  have HA := Lib.hid hA
  have HB := Lib.hid hB
  have hpos := hT.pos
  clear hT hA hB
  go_enter Tryd.func4, Tryd.ntmps4
  go_upto_if 14 with (fail)
  go_cut [0] (fun s0 wx => ∃ n : Nat, n ≤ 200 ∧ n ≤ la ∧ s0 = .slice A n ca ∧ wx = w)
  case first =>
    by_cases h2 : 200 < la
    · have h2' : (200 : Int) < la := by omega
      rcases HA.out with h | ⟨b, off, rfl, hb, hc⟩
      · omega
      · clear hc
        go_wp2
        go_meet
        exact ⟨200, by omega, by omega, rfl, rfl⟩
    · have h2' : ¬ (200 : Int) < la := by omega
      go_wp2
      go_meet
      exact ⟨la, by omega, by omega, rfl, rfl⟩
  case rest =>
  obtain ⟨n, hn, hnl, rfl, rfl⟩ := hcut
  go_upto_if 19 with (fail)
  go_cut [1] (fun s1 wx => ∃ m : Nat, m ≤ 200 ∧ m ≤ lb ∧ s1 = .slice B m cb ∧ wx = wc)
  case first =>
    by_cases h2 : 200 < lb
    · have h2' : (200 : Int) < lb := by omega
      rcases HB.out with h | ⟨b, off, rfl, hb, hc⟩
      · omega
      · clear hc
        go_wp2
        go_meet
        exact ⟨200, by omega, by omega, rfl, rfl⟩
    · have h2' : ¬ (200 : Int) < lb := by omega
      go_wp2
      go_meet
      exact ⟨lb, by omega, by omega, rfl, rfl⟩
  case rest =>
  obtain ⟨m, hm, hml, rfl, rfl⟩ := hcut
  obtain ⟨w0, rfl⟩ : ∃ w0 : World, w0 = wc := ⟨_, rfl⟩
  have hn' : (n : Int) ≤ 200 := by omega
  have hm' : (m : Int) ≤ 200 := by omega
  have hsa : n = 0 ∨ ∃ b off, A = some ⟨b, off, none⟩ := by
    rcases HA.out.less hnl with h | ⟨b, off, h1, h2, h3⟩
    · exact Or.inl h
    · exact Or.inr ⟨b, off, h1⟩
  have hsb : m = 0 ∨ ∃ b off, B = some ⟨b, off, none⟩ := by
    rcases HB.out.less hml with h | ⟨b, off, h1, h2, h3⟩
    · exact Or.inl h
    · exact Or.inr ⟨b, off, h1⟩
  have HCA : Hid (∀ k : Nat, k < n → ∃ b off, A = some ⟨b, off, none⟩ ∧ b < w0.heap.size ∧ w0.cell? ⟨b, off + k, none⟩ = some (.bool (f k))) := fun k hk => by
    rcases HA.out.less hnl with h | ⟨b, off, h1, h2, h3⟩
    · omega
    · exact ⟨b, off, h1, h2, h3 k hk⟩
  have HCB : Hid (∀ k : Nat, k < m → ∃ b off, B = some ⟨b, off, none⟩ ∧ b < w0.heap.size ∧ w0.cell? ⟨b, off + k, none⟩ = some (.bool (g k))) := fun k hk => by
    rcases HB.out.less hml with h | ⟨b, off, h1, h2, h3⟩
    · omega
    · exact ⟨b, off, h1, h2, h3 k hk⟩
  clear HA HB
  have HSA := Lib.hid hsa
  have HSB := Lib.hid hsb
  clear hsa hsb
  go_wp2_with fail
  refine (new_core n n _ (by omega) (by omega) (by omega) (by omega)).mono ?_
  rintro e w1 ⟨p, q, qc, rfl, hs, hp, hq, hg⟩
  have HS := Lib.hid hs
  have HG := Lib.hid hg
  clear hs hg
  go_wp2_with fail
  refine (new_core m m _ (by omega) (by omega) (by omega) (by omega)).mono ?_
  rintro e w2 ⟨p2, q2, qc2, rfl, hs2, hp2, hq2, hg2⟩
  have hlt1 : p < w1.heap.size ∧ q < w1.heap.size := ⟨World.block_lt_of_cell? w1 ⟨p, 0, none⟩ HS.out.c0, HS.out.qlt⟩
  have hlt1a := hlt1.1
  have hlt1b := hlt1.2
  clear hlt1
  have HS1 := Lib.hid (HS.out.grown hg2 (by simp) (by simp))
  have HS2 := Lib.hid hs2
  have HG2 := Lib.hid (grown_trans HG.out hg2)
  clear hs2 hg2
  obtain ⟨σ0, hσ0⟩ : ∃ σ0, σ0 = decide (n = m) := ⟨_, rfl⟩
  have hσ1 : ((n : Int) == (m : Int)) = σ0 := by rw [hσ0, Bool.eq_iff_iff]; simp; omega
  have HSF := Lib.hid (so_far_zero n m f g)
  have HS0 := Lib.hid hσ0
  clear hσ0
  go_upto_region 6 with (fail)
  go_cut [7] (fun s7 wx => s7 = .bool σ0 ∧ wx = w2)
  case first =>
    go_wp2
    go_meet
    exact ⟨rfl, rfl⟩
  case rest =>
  obtain ⟨rfl, rfl⟩ := hcut
  clear hσ1
  obtain ⟨w2, rfl⟩ : ∃ w2 : World, w2 = wc := ⟨_, rfl⟩
  rcases HSA.out with ha | ⟨ba, oa, rfl⟩
  case' inl =>
    have HEA : Hid (n = 0) := ha
    clear ha
  case' inr => have HEA : Hid True := trivial
  all_goals
    rcases HSB.out with hb | ⟨bb, ob, rfl⟩
    case' inl =>
      have HEB : Hid (m = 0) := hb
      clear hb
    case' inr => have HEB : Hid True := trivial
  all_goals
    clear HSA HSB
    go_wp2_with fail
    go_loopw [7, 35] (fun s7 i wr => ∃ (k : Nat) (σ : Bool) (ws : List Nat), k ≤ n ∧ i = .int .i64 k ∧ s7 = .bool σ ∧ (σ = true ↔ n = m ∧ ∀ t, t < k → f t = g t) ∧ SetAt wr p q n qc ws ∧ Holds ws f k ∧ w2.grownBy wr (some q)) (fun _ i _ => n - (intOf i).toNat)
    case atStart => exact ⟨0, σ0, zeros n, Nat.zero_le _, rfl, rfl, by rw [HS0.out]; exact HSF.out, HS1.out, holds_zero n f, grown_refl _ _⟩
    case round =>
      obtain ⟨k, σ, ws, hk, rfl, rfl, hσ, hsk, hhk, hgk⟩ := hrel
      have HSIG := Lib.hid hσ
      have HSK := Lib.hid hsk
      have HHK := Lib.hid hhk
      have HGK := Lib.hid hgk
      clear hσ hsk hhk hgk
      by_cases hkn : k < n
      · obtain ⟨b', off', e1, hb', hc'⟩ := HCA.out k hkn
        first
        | (exfalso; have h0 := HEA.out; omega)
        | (obtain ⟨rfl, rfl⟩ : b' = ba ∧ off' = oa := by injection e1 with e1; injection e1 with e2 e3; exact ⟨e2.symm, e3.symm⟩
           clear e1
           have hck := HGK.out.cell (HG2.out.cell hc' (by simp)) (fun x => by have y := Option.some.inj x; dsimp only at y; omega)
           clear hc'
           have HPUT := Lib.hid (holds_put HHK.out (show k / 64 < ws.length by have := HSK.out.len; omega))
           obtain ⟨x, hx⟩ : ∃ x, x = f k := ⟨_, rfl⟩
           rw [← hx] at hck HPUT
           have HX := Lib.hid hx
           clear hx
           cases σ with
           | false =>
             go_wp2_with (go_at_call 9; refine (put_in HSK.out k x (by omega) (by omega)).mono ?_; rintro e w' ⟨rfl, g1, g2⟩; have G1 := Lib.hid g1; have G2 := Lib.hid (grown_trans HGK.out g2); clear g1 g2)
             go_roundw
             case rel => exact ⟨k + 1, false, _, by omega, by go_num, rfl, so_far_no HSIG.out, G1.out, HPUT.out, G2.out⟩
             case measure => simp [intOf]; omega
           | true =>
             have hnm := (HSIG.out.1 rfl).1
             obtain ⟨b2, off2, e1, hb2, hc2⟩ := HCB.out k (by omega)
             have HNM := Lib.hid (HSIG.out.1 rfl)
             have hkm : k < m := by omega
             clear hnm
             first
             | (exfalso; have h0 := HEB.out; omega)
             | (obtain ⟨rfl, rfl⟩ : b2 = bb ∧ off2 = ob := by injection e1 with e1; injection e1 with e2 e3; exact ⟨e2.symm, e3.symm⟩
                clear e1
                have HC2 := Lib.hid (HG2.out.cell hc2 (by simp))
                clear hc2
                obtain ⟨y, hy⟩ : ∃ y, y = g k := ⟨_, rfl⟩
                rw [← hy] at HC2
                have HY := Lib.hid hy
                clear hy
                go_wp2_with (go_at_call 9; refine (put_in HSK.out k x (by omega) (by omega)).mono ?_; rintro e w' ⟨rfl, g1, g2⟩; have G1 := Lib.hid g1; have G2 := Lib.hid (grown_trans HGK.out g2); have hcg := G2.out.cell HC2.out (fun x => by have y := Option.some.inj x; dsimp only at y; omega); clear g1 g2)
                go_roundw
                case rel => exact ⟨k + 1, x == y, _, by omega, by go_num, rfl, so_far_yes HNM.out HX.out HY.out, G1.out, HPUT.out, G2.out⟩
                case measure => simp [intOf]; omega))
      · obtain rfl : k = n := by omega
        clear hkn
        have HSY := Lib.hid (HS2.out.grown HGK.out (fun x => by have y := Option.some.inj x; omega) (fun x => by have y := Option.some.inj x; omega))
        have HG3 := Lib.hid (grown_own HG2.out HGK.out hq)
        obtain ⟨w3, rfl⟩ : ∃ w3 : World, w3 = wr := ⟨_, rfl⟩
        go_wp2_with fail
        go_loopw [56] (fun i wr => ∃ (j : Nat) (vs : List Nat), j ≤ m ∧ i = .int .i64 j ∧ SetAt wr p2 q2 m qc2 vs ∧ Holds vs g j ∧ w3.grownBy wr (some q2)) (fun i _ => m - (intOf i).toNat)
        case atStart => exact ⟨0, zeros m, Nat.zero_le _, rfl, HSY.out, holds_zero m g, grown_refl _ _⟩
        case round =>
          obtain ⟨j, vs, hj, rfl, hsj, hhj, hgj⟩ := hrel
          have HSJ := Lib.hid hsj
          have HHJ := Lib.hid hhj
          have HGJ := Lib.hid hgj
          clear hsj hhj hgj
          by_cases hjm : j < m
          · obtain ⟨b2, off2, e1, hb2, hc2⟩ := HCB.out j hjm
            first
            | (exfalso; have h0 := HEB.out; omega)
            | (obtain ⟨rfl, rfl⟩ : b2 = bb ∧ off2 = ob := by injection e1 with e1; injection e1 with e2 e3; exact ⟨e2.symm, e3.symm⟩
               clear e1
               have hcj := HGJ.out.cell (HG3.out.cell hc2 (by simp)) (fun x => by have y := Option.some.inj x; dsimp only at y; omega)
               clear hc2
               have HPJ := Lib.hid (holds_put HHJ.out (show j / 64 < vs.length by have := HSJ.out.len; omega))
               generalize g j = x at *
               go_wp2_with (go_at_call 9; refine (put_in HSJ.out j x (by omega) (by omega)).mono ?_; rintro e w' ⟨rfl, g1, g2⟩; have G1 := Lib.hid g1; have G2 := Lib.hid (grown_trans HGJ.out g2); clear g1 g2)
               go_roundw
               case rel => exact ⟨j + 1, _, by omega, by go_num, G1.out, HPJ.out, G2.out⟩
               case measure => simp [intOf]; omega)
          · obtain rfl : j = m := by omega
            clear hjm
            have HSX := Lib.hid (HSK.out.grown HGJ.out (fun x => by have y := Option.some.inj x; omega) (fun x => by have y := Option.some.inj x; omega))
            have HG4 := Lib.hid (grown_own HG3.out HGJ.out (by omega))
            have HSM := Lib.hid (same_iff HSX.out HSJ.out HHK.out HHJ.out σ HSIG.out)
            have hself : (σ == σ) = true := by simp
            obtain ⟨w4, rfl⟩ : ∃ w4 : World, w4 = wr := ⟨_, rfl⟩
            go_wp2_with fail
            refine (same_at HSX.out HSJ.out σ HSM.out).mono ?_
            rintro e w5 ⟨rfl, d, rfl⟩
            go_wp2_with fail
            refine (same_at (HSX.out.drewN d) (HSX.out.drewN d) true (by simp)).mono ?_
            rintro e w6 ⟨rfl, d2, rfl⟩
            have HG6 := Lib.hid (grown_drew HG4.out (d + d2))
            go_wp2_with fail
            refine (awake_at _ (HT.out.grown HG6.out (by simp))).mono ?_
            rintro e w7 ⟨rfl, g7⟩
            have HG7 := Lib.hid (grown_trans HG6.out g7)
            clear g7
            go_wp2
            go_ret
            exact ⟨rfl, HG7.out⟩
end Go.Proofs.YtkaoodglnglkdaaDoor
