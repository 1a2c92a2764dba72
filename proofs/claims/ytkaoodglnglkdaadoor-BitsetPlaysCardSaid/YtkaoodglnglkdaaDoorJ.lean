/- The walks of what lists and counts: bitset.All, and the reference's Count, Next and All. -/
import Derived.Test.YtkaoodglnglkdaaDoorH
namespace Go.Proofs.YtkaoodglnglkdaaDoor
open Go.RowKit

def intsOf (L : List Nat) : List Value := L.map fun (x : Nat) => Value.int .i64 x
theorem intsOf_snoc (L : List Nat) (k : Nat) : intsOf (L ++ [k]) = intsOf L ++ [.int .i64 (k : Int)] := by simp [intsOf]
/-- A slice of the call's own, from block B on, that holds the numbers L. -/
def IntsOwn (w : World) (B : Nat) (v : Value) (L : List Nat) : Prop := w.ownsRow B 3 1 v L.length (intsOf L)

theorem grown_onto {a b c : World} {r : Option Nat} (h : a.grownBy b none) (k : b.grownBy c r) (hr : ∀ q, r = some q → a.heap.size ≤ q) : a.grownBy c none :=
  ⟨k.os.trans h.os, k.tape.trans h.tape, k.output.trans h.output, Nat.le_trans h.size k.size, fun i hi _ => (k.block i (Nat.lt_of_lt_of_le hi h.size) (fun e => by have := hr i e.symm; omega)).trans (h.block i hi (by simp))⟩

/-- What an append of one number leaves. -/
theorem onto_end {w wr w1 : World} {L : List Nat} {s v' : Value} {k : Nat} (o : Obj) (hg : w.grownBy wr none) (hown : IntsOwn wr w.heap.size s L) (h2 : w1.ownsRow w.heap.size 3 1 v' (L.length + 1) (intsOf L ++ [.int .i64 (k : Int)])) (h3 : (wr.alloc o).grownBy w1 s.ownBlock) :
    IntsOwn w1 w.heap.size v' (L ++ [k]) ∧ w.grownBy w1 none := by
  refine ⟨?_, grown_onto (grown_trans hg (World.grownBy_alloc wr o none)) h3 (fun q hq => (World.ownsRow.lt hown q hq).1)⟩
  unfold IntsOwn
  rw [intsOf_snoc, List.length_append]
  exact h2

theorem one_cell (w : World) (v : Value) (t : TypeId) (j : Nat) (u : Value) (h : ([v] : List Value)[j]? = some u) : (w.alloc (.cells #[v] t)).cell? ((⟨w.heap.size, 0, none⟩ : Addr).add j) = some u := by
  cases j with
  | zero => rw [addr_add, cell_alloc_new]; exact h
  | succ j => simp at h

set_option maxHeartbeats 1000000 in
theorem all_at {w : World} {p q n cap : Nat} {ws : List Nat} (h : SetAt w p q n cap ws) :
    Calls Tryd.prog 19 #[.pointer (some ⟨p, 0, none⟩)] w fun e w' => ∃ v, e = .returned v ∧ IntsOwn w' w.heap.size v (M.places ws n) ∧ w.grownBy w' none := by
  have HS := Lib.hid h
  have hn : (n : Int) ≤ 65536 := by have := h.small; omega
  have hc0 := h.c0
  have hpl : p < w.heap.size := World.block_lt_of_cell? w ⟨p, 0, none⟩ h.c0
  have hql := h.qlt
  clear h
  obtain ⟨i0, hi, hz0, hz1, hz2⟩ := info_parts infoInt
  obtain ⟨c, hc⟩ : ∃ c, c = M.tot ws n := ⟨_, rfl⟩
  have hcn : c ≤ n := by rw [hc]; exact M.tot_le ws n
  have HC := Lib.hid hc
  clear hc
  obtain ⟨w1, hmk, hown, hgr⟩ := run_make_own (P := Tryd.prog) w w.heap.size 42 3 i0 (.int .i64 0) 1 Tryd.underlying42 hi hz0 hz1 .i64 .i64 c (by rw [hz2]; omega) (by simp only [maxLen]; omega) (Nat.le_refl _)
  have HOWN := Lib.hid hown
  have HGR := Lib.hid hgr
  have hc1 := hgr.cell hc0 (by simp)
  clear hown hgr
  go_enter Tryd.func19, Tryd.ntmps19
  go_wp2_with (go_at_call 18; refine (count_at HS.out).mono ?_; rintro e w' ⟨rfl, rfl⟩; rw [← HC.out])
  clear hmk
  go_loopw [3, 14] (fun s3 i wr => ∃ k : Nat, k ≤ n ∧ i = .int .i64 k ∧ IntsOwn wr w.heap.size s3 (M.places ws k) ∧ w.grownBy wr none) (fun _ i _ => n - (intOf i).toNat)
  case atStart => exact ⟨0, Nat.zero_le _, rfl, HOWN.out, HGR.out⟩
  case round =>
    obtain ⟨k, hk, rfl, hown, hg⟩ := hrel
    have HSK := Lib.hid (HS.out.grown hg (by simp) (by simp))
    have HG := Lib.hid hg
    have HO := Lib.hid hown
    have hlen : (M.places ws k).length ≤ 65536 := by rw [M.length_places]; have := M.tot_le ws k; omega
    clear hg hown
    by_cases hkn : k < n
    · obtain ⟨b, hb⟩ : ∃ b, b = M.bit ws k := ⟨_, rfl⟩
      have HB := Lib.hid hb
      have HP : Hid (M.places ws (k + 1) = if b then M.places ws k ++ [k] else M.places ws k) := by rw [hb]; exact rfl
      have HHAS : Hid (Calls Tryd.prog 12 #[.pointer (some ⟨p, 0, none⟩), .int .i64 k] wr fun e w' => e = .returned (.bool b) ∧ wr = w') := by
        have t := has_at HSK.out (k : Int)
        rw [Int.toNat_natCast, ← hb] at t
        have e : decide ((0 : Int) ≤ (k : Int)) = true := by simp
        rw [e, Bool.true_and] at t
        exact t
      clear hb
      have hown := HO.out
      generalize hL : M.places ws k = L at *
      have HL := Lib.hid hL
      clear hL
      unfold IntsOwn at hown
      have HOW := Lib.hid hown
      clear hown
      cases b with
      | false =>
        go_wp2_with (go_at_call 12; refine HHAS.out.mono ?_; rintro e w' ⟨rfl, rfl⟩)
        go_roundw
        case rel => exact ⟨k + 1, by omega, by go_num, by rw [HP.out]; exact HOW.out, HG.out⟩
        case measure => simp [intOf]; omega
      | true =>
        have HP2 : Hid (M.places ws (k + 1) = L ++ [k]) := HP.out
        clear HP
        go_wp2_with (first
          | (go_at_call 12; refine HHAS.out.mono ?_; rintro e w' ⟨rfl, rfl⟩)
          | (at_builtin; refine wpList_append_own _ rfl _ _ 42 rfl w.heap.size 3 i0 (.int .i64 0) 1 8 Tryd.underlying42 hi hz0 hz1 hz2 rfl (by decide) _ _ _ rfl (HOW.out.alloc _) ⟨wr.heap.size, 0, none⟩ 1 1 [.int .i64 (k : Int)] rfl ?c1 ?c2 ?c3 ?c4 ?c5 ?c6 ?_))
        case c1 => rfl
        case c2 => exact fun j u hj => one_cell wr _ _ j u hj
        case c3 => exact fun u hu => by rw [List.mem_singleton.1 hu]; rfl
        case c4 => simp only [maxLen]; omega
        case c5 => omega
        case c6 => have := HG.out.size; simp; omega
        intro v' w2 h2 h3 _
        have HE := Lib.hid (onto_end _ HG.out HOW.out h2 h3)
        clear h2 h3
        go_wp2
        go_roundw
        case rel => exact ⟨k + 1, by omega, by go_num, by rw [HP2.out]; exact HE.out.1, HE.out.2⟩
        case measure => simp [intOf]; omega
    · obtain rfl : k = n := by omega
      go_wp2
      go_ret
      exact ⟨_, rfl, HO.out, HG.out⟩

/-- The reference's list: N truths at block b. -/
structure RefAt (w : World) (b N : Nat) (f : Nat → Bool) : Prop where
  row : ∀ i, i < N → w.cell? ⟨b, i, none⟩ = some (.bool (f i))
  fz : ∀ i, w.frozen? ⟨b, i, none⟩ = false
  blt : b < w.heap.size
  small : N ≤ 65536
theorem RefAt.grown {w w' : World} {b N : Nat} {f : Nat → Bool} {r : Option Nat} (h : RefAt w b N f) (hg : w.grownBy w' r) (hb : some b ≠ r) : RefAt w' b N f where
  row := fun i hi => hg.cell (h.row i hi) hb
  fz := fun i => by rw [World.frozen?_of_block (w := w) (hg.block b h.blt hb)]; exact h.fz i
  blt := Nat.lt_of_lt_of_le h.blt hg.size
  small := h.small
def cntf (f : Nat → Bool) : Nat → Nat
  | 0 => 0
  | k + 1 => cntf f k + (f k).toNat
theorem cntf_le (f : Nat → Bool) : ∀ k, cntf f k ≤ k
  | 0 => Nat.le_refl _
  | k + 1 => by
    show cntf f k + (f k).toNat ≤ k + 1
    have := cntf_le f k
    have := Bool.toNat_le (f k)
    omega
def plc (f : Nat → Bool) : Nat → List Nat
  | 0 => []
  | k + 1 => if f k then plc f k ++ [k] else plc f k
theorem length_plc (f : Nat → Bool) : ∀ k, (plc f k).length = cntf f k
  | 0 => rfl
  | k + 1 => by
    have ih := length_plc f k
    simp only [plc, cntf]
    cases f k <;> simp [ih]
theorem holds_tot {ws : List Nat} {f : Nat → Bool} {n : Nat} (h : Holds ws f n) : ∀ k, k ≤ n → M.tot ws k = cntf f k
  | 0, _ => rfl
  | k + 1, hk => by
    show M.tot ws k + (M.bit ws k).toNat = cntf f k + (f k).toNat
    rw [holds_tot h k (by omega), h k]
    simp [show k < n by omega]
theorem holds_places {ws : List Nat} {f : Nat → Bool} {n : Nat} (h : Holds ws f n) : ∀ k, k ≤ n → M.places ws k = plc f k
  | 0, _ => rfl
  | k + 1, hk => by
    simp only [M.places, plc]
    rw [holds_places h k (by omega), h k]
    simp [show k < n by omega]

set_option maxHeartbeats 1000000 in
theorem refcount_at {w : World} {b N : Nat} {f : Nat → Bool} (h : RefAt w b N f) :
    Calls Tryd.prog 24 #[.slice (some ⟨b, 0, none⟩) N N] w fun e w' => e = .returned (.int .i64 (cntf f N : Nat)) ∧ w = w' := by
  have HS := Lib.hid h
  have hn := h.small
  clear h
  go_enter Tryd.func24, Tryd.ntmps24
  go_wp2
  go_loop [3, 8] (fun c i => ∃ k : Nat, k ≤ N ∧ i = .int .i64 k ∧ c = .int .i64 (cntf f k : Nat)) (fun _ i => N - (intOf i).toNat)
  case atStart => exact ⟨0, Nat.zero_le _, rfl, rfl⟩
  case round =>
    obtain ⟨k, hk, rfl, rfl⟩ := hrel
    have hle := cntf_le f k
    by_cases hkn : k < N
    · have hc := HS.out.row k hkn
      obtain ⟨x, hx⟩ : ∃ x, x = f k := ⟨_, rfl⟩
      have HN : Hid (cntf f (k + 1) = cntf f k + x.toNat) := by rw [hx]; exact rfl
      rw [← hx] at hc
      clear hx
      generalize cntf f k = c at *
      cases x with
      | false =>
        go_wp2
        go_round
        case rel => exact ⟨k + 1, by omega, by go_num, by rw [HN.out]; go_num⟩
        case measure => simp [intOf]; omega
      | true =>
        go_wp2
        go_round
        case rel => exact ⟨k + 1, by omega, by go_num, by rw [HN.out]; go_num⟩
        case measure => simp [intOf]; omega
    · obtain rfl : k = N := by omega
      go_wp2
      go_ret
      exact ⟨rfl, rfl⟩

/-- What the reference's Next answers. -/
def RefNextIs (f : Nat → Bool) (N : Nat) (g : Int) (v : Bool) (e : Ending) : Prop :=
  (∃ j : Nat, g ≤ j ∧ j < N ∧ f j = v ∧ (∀ i : Nat, g ≤ i → i < j → f i = !v) ∧ e = .returned (.int .i64 j)) ∨ ((∀ i : Nat, g ≤ i → i < N → f i = !v) ∧ e = .returned (.int .i64 (-1)))
set_option maxHeartbeats 1000000 in
theorem refnext_at {w : World} {b N : Nat} {f : Nat → Bool} (h : RefAt w b N f) (g : Int) (v : Bool) :
    Calls Tryd.prog 11 #[.slice (some ⟨b, 0, none⟩) N N, .int .i64 g, .bool v] w fun e w' => RefNextIs f N g v e ∧ w = w' := by
  have HS := Lib.hid h
  have hn := h.small
  clear h
  go_enter Tryd.func11, Tryd.ntmps11
  go_wp2
  go_loop [11] (fun i => ∃ k : Nat, k ≤ N ∧ i = .int .i64 k ∧ ∀ j : Nat, g ≤ j → j < k → f j = !v) (fun i => N - (intOf i).toNat)
  case atStart => exact ⟨0, Nat.zero_le _, rfl, fun j _ h => by omega⟩
  case round =>
    obtain ⟨k, hk, rfl, hrest⟩ := hrel
    have HR := Lib.hid hrest
    clear hrest
    by_cases hkn : k < N
    · have hc := HS.out.row k hkn
      obtain ⟨x, hx⟩ : ∃ x, x = f k := ⟨_, rfl⟩
      rw [← hx] at hc
      have HX := Lib.hid hx
      clear hx
      by_cases hg : g ≤ k
      · have hd : decide (g ≤ (k : Int)) = true := by simp; omega
        by_cases hxv : x = v
        · subst hxv
          have hself : (x == x) = true := by simp
          go_wp2
          go_ret
          exact ⟨Or.inl ⟨k, hg, hkn, HX.out.symm, HR.out, rfl⟩, rfl⟩
        · have hne : (x == v) = false := by simpa using hxv
          clear hxv
          go_wp2
          go_round
          case rel => exact ⟨k + 1, by omega, by go_num, fun j h1 h2 => by
            by_cases e : j = k
            · subst e; rw [← HX.out]; exact M.bne_of hne
            · exact HR.out j h1 (by omega)⟩
          case measure => simp [intOf]; omega
      · have hd : decide (g ≤ (k : Int)) = false := by simp; omega
        go_wp2
        go_round
        case rel => exact ⟨k + 1, by omega, by go_num, fun j h1 h2 => HR.out j h1 (by omega)⟩
        case measure => simp [intOf]; omega
    · obtain rfl : k = N := by omega
      go_wp2
      go_ret
      exact ⟨Or.inr ⟨HR.out, rfl⟩, rfl⟩

set_option maxHeartbeats 1000000 in
theorem refall_at {w : World} {b N : Nat} {f : Nat → Bool} (h : RefAt w b N f) :
    Calls Tryd.prog 25 #[.slice (some ⟨b, 0, none⟩) N N] w fun e w' => ∃ v, e = .returned v ∧ IntsOwn w' w.heap.size v (plc f N) ∧ w.grownBy w' none := by
  have HS := Lib.hid h
  have hn := h.small
  clear h
  obtain ⟨i0, hi, hz0, hz1, hz2⟩ := info_parts infoInt
  go_enter Tryd.func25, Tryd.ntmps25
  go_wp2
  go_loopw [3, 8] (fun s3 i wr => ∃ k : Nat, k ≤ N ∧ i = .int .i64 k ∧ IntsOwn wr w.heap.size s3 (plc f k) ∧ w.grownBy wr none) (fun _ i _ => N - (intOf i).toNat)
  case atStart => exact ⟨0, Nat.zero_le _, rfl, World.ownsRow_nil _ _ _ _, grown_refl _ _⟩
  case round =>
    obtain ⟨k, hk, rfl, hown, hg⟩ := hrel
    have HG := Lib.hid hg
    have hlen : (plc f k).length ≤ 65536 := by rw [length_plc]; have := cntf_le f k; omega
    by_cases hkn : k < N
    · have hc := hg.cell (HS.out.row k hkn) (by simp)
      obtain ⟨x, hx⟩ : ∃ x, x = f k := ⟨_, rfl⟩
      have HP : Hid (plc f (k + 1) = if x then plc f k ++ [k] else plc f k) := by rw [hx]; exact rfl
      rw [← hx] at hc
      clear hx hg
      generalize plc f k = L at *
      unfold IntsOwn at hown
      have HOW := Lib.hid hown
      clear hown
      cases x with
      | false =>
        have HP2 : Hid (plc f (k + 1) = L) := HP.out
        clear HP
        go_wp2
        go_roundw
        case rel => exact ⟨k + 1, by omega, by go_num, by rw [HP2.out]; exact HOW.out, HG.out⟩
        case measure => simp [intOf]; omega
      | true =>
        have HP2 : Hid (plc f (k + 1) = L ++ [k]) := HP.out
        clear HP
        go_wp2_with (at_builtin; refine wpList_append_own _ rfl _ _ 42 rfl w.heap.size 3 i0 (.int .i64 0) 1 8 Tryd.underlying42 hi hz0 hz1 hz2 rfl (by decide) _ _ _ rfl (HOW.out.alloc _) ⟨wr.heap.size, 0, none⟩ 1 1 [.int .i64 (k : Int)] rfl ?c1 ?c2 ?c3 ?c4 ?c5 ?c6 ?_)
        case c1 => rfl
        case c2 => exact fun j u hj => one_cell wr _ _ j u hj
        case c3 => exact fun u hu => by rw [List.mem_singleton.1 hu]; rfl
        case c4 => simp only [maxLen]; omega
        case c5 => omega
        case c6 => have := HG.out.size; simp; omega
        intro v' w2 h2 h3 _
        have HE := Lib.hid (onto_end _ HG.out HOW.out h2 h3)
        clear h2 h3
        go_wp2
        go_roundw
        case rel => exact ⟨k + 1, by omega, by go_num, by rw [HP2.out]; exact HE.out.1, HE.out.2⟩
        case measure => simp [intOf]; omega
    · obtain rfl : k = N := by omega
      have HO := Lib.hid hown
      clear hown hg
      go_wp2
      go_ret
      exact ⟨_, rfl, HO.out, HG.out⟩
end Go.Proofs.YtkaoodglnglkdaaDoor
