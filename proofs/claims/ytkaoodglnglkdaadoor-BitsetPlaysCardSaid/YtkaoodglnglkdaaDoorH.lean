/- The walk of the law BitsetGoes. -/
import Derived.Test.YtkaoodglnglkdaaDoorG
namespace Go.Proofs.YtkaoodglnglkdaaDoor
open Go.RowKit

/-- A slice of truths: f tells them. -/
def BoolsAt (w : World) (A : Option Addr) (len : Nat) (f : Nat → Bool) : Prop :=
  len = 0 ∨ ∃ b off, A = some ⟨b, off, none⟩ ∧ b < w.heap.size ∧ ∀ i, i < len → w.cell? ⟨b, off + i, none⟩ = some (.bool (f i))
theorem BoolsAt.grown {w w' : World} {A : Option Addr} {len : Nat} {f : Nat → Bool} (h : BoolsAt w A len f) (hg : w.grownBy w' none) : BoolsAt w' A len f := by
  rcases h with h | ⟨b, off, h1, h2, h3⟩
  · exact Or.inl h
  · exact Or.inr ⟨b, off, h1, Nat.lt_of_lt_of_le h2 hg.size, fun i hi => hg.cell (h3 i hi) (by simp)⟩
theorem BoolsAt.less {w : World} {A : Option Addr} {len n : Nat} {f : Nat → Bool} (h : BoolsAt w A len f) (hn : n ≤ len) : BoolsAt w A n f := by
  rcases h with h | ⟨b, off, h1, h2, h3⟩
  · exact Or.inl (by omega)
  · exact Or.inr ⟨b, off, h1, h2, fun i hi => h3 i (by omega)⟩

/-- The first k truths of f are put; what follows is 0. -/
def Holds (ws : List Nat) (f : Nat → Bool) (k : Nat) : Prop := ∀ j, M.bit ws j = (decide (j < k) && f j)
theorem holds_zero (n : Nat) (f : Nat → Bool) : Holds (zeros n) f 0 := fun j => by rw [zeros_bit]; simp
theorem holds_put {ws : List Nat} {f : Nat → Bool} {k : Nat} (h : Holds ws f k) (hl : k / 64 < ws.length) : Holds (M.put ws k (f k)) f (k + 1) := fun j => by
  rw [M.bit_put _ _ _ _ hl]
  by_cases e : j = k
  · subst e; simp
  · rw [if_neg e, h j]
    by_cases e2 : j < k
    · simp [e2, show j < k + 1 by omega]
    · simp [e2, show ¬ j < k + 1 by omega]

theorem goes_first {w : World} {p q n cap a j : Nat} {ws : List Nat} {f : Nat → Bool} {x : Bool} (_h : SetAt w p q n cap ws) (hh : Holds ws f n) (haj : a ≤ j) (hj : j < n) (hx : x = f j) (hg : ∀ t, a ≤ t → t < j → f t = !x) : M.First ws n a x j :=
  ⟨haj, hj, by rw [hh j, hx]; simp [hj], fun i h1 h2 => by rw [hh i, hg i h1 h2]; simp [show i < n by omega]⟩
theorem goes_none {n a : Nat} {ws : List Nat} {f : Nat → Bool} {v : Bool} (hh : Holds ws f n) (hg : ∀ t, a ≤ t → t < n → f t = !v) : ∀ i, a ≤ i → i < n → M.bit ws i = !v :=
  fun i h1 h2 => by rw [hh i, hg i h1 h2]; simp [h2]

set_option maxHeartbeats 2000000 in
theorem goes_walk (A : Option Addr) (len cap : Nat) (f : Nat → Bool) (v : Bool) (w : World) (hT : Tab w) (hcap : len ≤ cap) (hlen : len ≤ 9223372036854775807) (hA : BoolsAt w A len f) :
    Calls Tryd.prog 6 #[.slice A len cap, .bool v] w fun e w' => e = .returned (.bool true) ∧ w.grownBy w' none := by
  have HT := Lib.hid hT
  have HA := Lib.hid hA
  have hpos := hT.pos
  clear hT hA
  go_enter Tryd.func6, Tryd.ntmps6
  go_upto_if 17 with (fail)
  go_cut [0] (fun s0 wx => ∃ n : Nat, n ≤ 200 ∧ n ≤ len ∧ s0 = .slice A n cap ∧ wx = w)
  case first =>
    by_cases h2 : 200 < len
    · have h2' : (200 : Int) < len := by omega
      rcases HA.out with h | ⟨b, off, rfl, hb, hc⟩
      · omega
      · clear hc
        go_wp2
        go_meet
        exact ⟨200, by omega, by omega, rfl, rfl⟩
    · have h2' : ¬ (200 : Int) < len := by omega
      go_wp2
      go_meet
      exact ⟨len, by omega, by omega, rfl, rfl⟩
  case rest =>
    obtain ⟨n, hn, hnl, rfl, rfl⟩ := hcut
    have hn' : (n : Int) ≤ 200 := by omega
    have hlt : ∀ k : Nat, k < n → ∃ b off, A = some ⟨b, off, none⟩ ∧ b < wc.heap.size ∧ wc.cell? ⟨b, off + k, none⟩ = some (.bool (f k)) := fun k hk => by
      rcases HA.out.less hnl with h | ⟨b, off, h1, h2, h3⟩
      · omega
      · exact ⟨b, off, h1, h2, h3 k hk⟩
    have hsplit : n = 0 ∨ ∃ b off, A = some ⟨b, off, none⟩ := by
      rcases HA.out.less hnl with h | ⟨b, off, h1, h2, h3⟩
      · exact Or.inl h
      · exact Or.inr ⟨b, off, h1⟩
    have HC := Lib.hid hlt
    clear hlt
    rcases hsplit with h0 | ⟨b, off, rfl⟩
    case' inl =>
      have H0 : Hid (n = 0) := h0
      clear h0
    case' inr => have H0 : Hid True := trivial
    all_goals
      go_wp2_with fail
      refine (new_core n n _ (by omega) (by omega) (by omega) (by omega)).mono ?_
      rintro e w1 ⟨p, q, qc, rfl, hs, hp, hq, hg⟩
      have HS := Lib.hid hs
      have HG := Lib.hid hg
      have HL := Lib.hid hs.len
      clear hs hg
      go_wp2_with fail
      go_loopw [25] (fun i wr => ∃ (k : Nat) (ws : List Nat), k ≤ n ∧ i = .int .i64 k ∧ SetAt wr p q n qc ws ∧ Holds ws f k ∧ w1.grownBy wr (some q)) (fun i _ => n - (intOf i).toNat)
      case atStart => exact ⟨0, zeros n, Nat.zero_le _, rfl, HS.out, holds_zero n f, grown_refl _ _⟩
      case round =>
        obtain ⟨k, ws, hk, rfl, hsk, hhk, hgk⟩ := hrel
        have HSK := Lib.hid hsk
        have HHK := Lib.hid hhk
        have HGK := Lib.hid hgk
        clear hsk hhk hgk
        by_cases hkn : k < n
        · obtain ⟨b', off', e1, hb', hc'⟩ := HC.out k hkn
          first
          | (exfalso; have h0 := H0.out; omega)
          | (obtain ⟨rfl, rfl⟩ : b' = b ∧ off' = off := by injection e1 with e1; injection e1 with e2 e3; exact ⟨e2.symm, e3.symm⟩
             clear e1
             have hck := HGK.out.cell (HG.out.cell hc' (by simp)) (fun x => by have y := Option.some.inj x; dsimp only at y; omega)
             clear hc'
             have HPUT := Lib.hid (holds_put HHK.out (show k / 64 < ws.length by have := HSK.out.len; omega))
             generalize f k = x at *
             go_wp2_with (go_at_call 9; refine (put_in HSK.out k x (by omega) (by omega)).mono ?_; rintro e w' ⟨rfl, g1, g2⟩; have G1 := Lib.hid g1; have G2 := Lib.hid (grown_trans HGK.out g2); clear g1 g2)
             go_roundw
             case rel => exact ⟨k + 1, _, by omega, by go_num, G1.out, HPUT.out, G2.out⟩
             case measure => simp [intOf]; omega)
        · obtain rfl : k = n := by omega
          have HG2 := Lib.hid (grown_own HG.out HGK.out hq)
          have HT2 := Lib.hid (HT.out.grown HG2.out (by simp))
          clear hkn
          go_wp2_with fail
          go_loop [8, 37] (fun s i => ∃ a j : Nat, j ≤ k ∧ a ≤ j ∧ s = .int .i64 a ∧ i = .int .i64 j ∧ ∀ t, a ≤ t → t < j → f t = !v) (fun _ i => k - (intOf i).toNat)
          case atStart => exact ⟨0, 0, Nat.zero_le _, Nat.le_refl _, rfl, rfl, fun t h1 h2 => by omega⟩
          case round =>
            obtain ⟨a, j, hjk, haj, rfl, rfl, hgone⟩ := hrel
            have HGO := Lib.hid hgone
            clear hgone
            by_cases hjn : j < k
            · obtain ⟨b', off', e1, hb', hc'⟩ := HC.out j hjn
              first
              | (exfalso; have h0 := H0.out; omega)
              | (obtain ⟨rfl, rfl⟩ : b' = b ∧ off' = off := by injection e1 with e1; injection e1 with e2 e3; exact ⟨e2.symm, e3.symm⟩
                 clear e1
                 have hck := HG2.out.cell hc' (by simp)
                 clear hc'
                 obtain ⟨x, hx⟩ : ∃ x, x = f j := ⟨_, rfl⟩
                 rw [← hx] at hck
                 have HX := Lib.hid hx
                 clear hx
                 by_cases hxv : x = v
                 · subst hxv
                   have HF := Lib.hid (goes_first HSK.out HHK.out haj hjn HX.out HGO.out)
                   have hvv : (x != x) = false := by simp
                   have hvv2 : (x == x) = true := by simp
                   go_wp2_with (go_at_call 10; refine (next_at HSK.out HT2.out a x).mono ?_; rintro e w' ⟨hn, rfl⟩; rw [Int.toNat_natCast] at hn; obtain rfl := next_yes hn j j rfl HF.out; clear hn)
                   go_round
                   case rel => exact ⟨j + 1, j + 1, by omega, by omega, by go_num, by go_num, fun t h1 h2 => by omega⟩
                   case measure => simp [intOf]; omega
                 · have hne : (x != v) = true := by simpa using hxv
                   have hne2 : (x == v) = false := by simpa using hxv
                   have HXV := Lib.hid hxv
                   clear hxv
                   go_wp2
                   go_round
                   case rel => exact ⟨a, j + 1, by omega, by omega, rfl, by go_num, fun t h1 h2 => by
                     by_cases e : t = j
                     · subst e
                       rw [← HX.out]
                       exact M.bne_of hne2
                     · exact HGO.out t h1 (by omega)⟩
                   case measure => simp [intOf]; omega)
            · obtain rfl : j = k := by omega
              have HNO := Lib.hid (goes_none HHK.out HGO.out)
              go_wp2_with (first
                | (go_at_call 10; refine (next_at HSK.out HT2.out a v).mono ?_; rintro e w' ⟨hn, rfl⟩; rw [Int.toNat_natCast] at hn; obtain rfl := next_no hn HNO.out; clear hn)
                | (go_at_call 15; refine (awake_at _ HT2.out).mono ?_; rintro e w' ⟨rfl, g⟩; have HG3 := Lib.hid (grown_trans HG2.out g); clear g))
              go_ret
              exact ⟨rfl, HG3.out⟩
end Go.Proofs.YtkaoodglnglkdaaDoor
