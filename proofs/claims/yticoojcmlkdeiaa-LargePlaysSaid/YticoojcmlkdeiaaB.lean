/- The walks of bitset's methods Has and Put on a row that stands as SetAt says, and what Put leaves. -/
import Derived.Test.YticoojcmlkdeiaaMathB
import Derived.Test.YticoojcmlkdeiaaA
namespace Go.Proofs.Yticoojcmlkdeiaa.Bs
open Go.RowKit

theorem has_at {w : World} {p q n cap : Nat} {ws : List Nat} (h : SetAt w p q n cap ws) (i : Int) :
    Calls Try.prog 55 #[.pointer (some ⟨p, 0, none⟩), .int .i64 i] w fun e w' => e = .returned (.bool (decide (0 ≤ i) && M.bit ws i.toNat)) ∧ w = w' := by
  have hs := h.small
  have hlen := h.len
  by_cases hi : 0 ≤ i ∧ i < n
  · obtain ⟨k, rfl⟩ : ∃ k : Nat, i = k := ⟨i.toNat, by omega⟩
    have hk : k < n := by omega
    have hkl : k / 64 < ws.length := by omega
    refine (has_core p q ws.length cap k (ws.getD (k / 64) 0) _ w hkl (by omega) h.c1 (h.row _ hkl) rfl (there_in h k (by omega) (by omega))).mono ?_
    rintro e w' ⟨he, hw⟩
    refine ⟨he.trans (ret_bool ?_), hw⟩
    have hx := h.lt (k / 64)
    have e1 : bits .and .u64 (((ws.getD (k / 64) 0 : Nat) : Int) / 2 ^ (k % 64)) 1 = ((ws.getD (k / 64) 0 / 2 ^ (k % 64) &&& 1 : Nat) : Int) :=
      and_c _ 1 _ _ (Nat.lt_of_le_of_lt (Nat.div_le_self _ _) hx) (by decide) (by simp) rfl
    rw [e1, Int.toNat_natCast]
    unfold M.bit
    rw [Nat.testBit_eq_decide_div_mod_eq, M.and1_bool]
    simp
  · refine (has_out _ i w (there_out h i hi)).mono ?_
    rintro e w' ⟨he, hw⟩
    refine ⟨he.trans (ret_bool ?_), hw⟩
    by_cases h0 : 0 ≤ i
    · rw [h.top i.toNat (by omega)]; simp
    · simp; omega
theorem has_nil (i : Int) (w : World) :
    Calls Try.prog 55 #[.pointer none, .int .i64 i] w fun e w' => e = .returned (.bool false) ∧ w = w' := has_out _ i w (there_nil i w)

set_option maxHeartbeats 400000 in
theorem put_nil (i : Int) (v : Bool) (w : World) :
    Calls Try.prog 42 #[.pointer none, .int .i64 i, .bool v] w fun e w' => e = .returned (.int .i64 2) ∧ w = w' := by
  go_enter Try.func42, Try.ntmps42
  go_wp2
  go_ret
  exact ⟨rfl, rfl⟩
set_option maxHeartbeats 400000 in
theorem put_out_core (p : Nat) (i : Int) (v : Bool) (w : World)
    (hl : Calls Try.prog 82 #[.pointer (some ⟨p, 0, none⟩), .int .i64 i] w fun e w' => e = .returned (.bool false) ∧ w = w') :
    Calls Try.prog 42 #[.pointer (some ⟨p, 0, none⟩), .int .i64 i, .bool v] w fun e w' => e = .returned (.int .i64 3) ∧ w = w' := by
  have HL := Lib.hid hl
  clear hl
  go_enter Try.func42, Try.ntmps42
  go_wp2_with (go_at_call 82; refine HL.out.mono ?_; rintro e w' ⟨rfl, rfl⟩)
  go_ret
  exact ⟨rfl, rfl⟩
set_option maxHeartbeats 400000 in
theorem put_t_core (p q i len cap x : Nat) (w : World) (h1 : w.cell? ⟨p, 1, none⟩ = some (.slice (some ⟨q, 0, none⟩) len cap)) (hil : i / 64 < len) (hi : (i : Int) ≤ 65536)
    (hc : w.cell? ⟨q, i / 64, none⟩ = some (.int .u64 x)) (hf : w.frozen? ⟨q, i / 64, none⟩ = false)
    (hl : Calls Try.prog 82 #[.pointer (some ⟨p, 0, none⟩), .int .i64 i] w fun e w' => e = .returned (.bool true) ∧ w = w') :
    Calls Try.prog 42 #[.pointer (some ⟨p, 0, none⟩), .int .i64 i, .bool true] w fun e w' => e = .returned (.int .i64 0) ∧
      w' = (w.setCell ⟨q, i / 64, none⟩ (.int .u64 (bits .or .u64 x (IntKind.u64.wrap (2 ^ (i % 64)))))).drew := by
  have HL := Lib.hid hl
  clear hl
  go_enter Try.func42, Try.ntmps42
  go_wp2_with (go_at_call 82; refine HL.out.mono ?_; rintro e w' ⟨rfl, rfl⟩)
  go_region
  go_wp2
  go_ret
  exact ⟨rfl, rfl⟩
set_option maxHeartbeats 400000 in
theorem put_f_core (p q i len cap x : Nat) (w : World) (h1 : w.cell? ⟨p, 1, none⟩ = some (.slice (some ⟨q, 0, none⟩) len cap)) (hil : i / 64 < len) (hi : (i : Int) ≤ 65536)
    (hc : w.cell? ⟨q, i / 64, none⟩ = some (.int .u64 x)) (hf : w.frozen? ⟨q, i / 64, none⟩ = false)
    (hl : Calls Try.prog 82 #[.pointer (some ⟨p, 0, none⟩), .int .i64 i] w fun e w' => e = .returned (.bool true) ∧ w = w') :
    Calls Try.prog 42 #[.pointer (some ⟨p, 0, none⟩), .int .i64 i, .bool false] w fun e w' => e = .returned (.int .i64 0) ∧
      w' = (w.setCell ⟨q, i / 64, none⟩ (.int .u64 (bits .andNot .u64 x (IntKind.u64.wrap (2 ^ (i % 64)))))).drew := by
  have HL := Lib.hid hl
  clear hl
  go_enter Try.func42, Try.ntmps42
  go_wp2_with (go_at_call 82; refine HL.out.mono ?_; rintro e w' ⟨rfl, rfl⟩)
  go_region
  go_wp2
  go_ret
  exact ⟨rfl, rfl⟩

theorem putW_int (x m : Nat) (v : Bool) (hx : x < 18446744073709551616) (hm : m < 64) :
    (bits (if v then .or else .andNot) .u64 (x : Int) (IntKind.u64.wrap (2 ^ m))) = (M.putW x m v : Nat) := by
  have hp := M.pow_lt m hm
  have e : IntKind.u64.wrap (2 ^ m) = ((2 ^ m : Nat) : Int) := wrap_c _ _ hp (by simp)
  rw [e]
  cases v
  · exact andNot_c _ _ _ _ hx hp rfl rfl
  · exact or_c _ _ _ _ hx hp rfl rfl

theorem SetAt.grown {w w' : World} {p q n cap : Nat} {ws : List Nat} (h : SetAt w p q n cap ws) {r : Option Nat} (hg : w.grownBy w' r) (hp : some p ≠ r) (hq : some q ≠ r) : SetAt w' p q n cap ws where
  c0 := hg.cell h.c0 hp
  c1 := hg.cell h.c1 hp
  row := fun k hk => hg.cell (h.row k hk) hq
  fz := fun k => by rw [World.frozen?_of_block (w := w) (hg.block q h.qlt hq)]; exact h.fz k
  ne := h.ne
  qlt := Nat.lt_of_lt_of_le h.qlt hg.size
  hcap := h.hcap
  len := h.len
  small := h.small
  lt := h.lt
  top := h.top

theorem setCell_grown (w : World) (q k : Nat) (v : Value) : w.grownBy (w.setCell ⟨q, k, none⟩ v).drew (some q) where
  os := rfl
  tape := rfl
  output := rfl
  size := by simp [World.setCell, World.drew]
  block := fun i _ hq => Below.heap_setCell w ⟨q, k, none⟩ v i (fun e => hq (by rw [e]))

theorem SetAt.put {w : World} {p q n cap : Nat} {ws : List Nat} (h : SetAt w p q n cap ws) (i : Nat) (hi : i < n) (v : Bool) :
    SetAt (w.setCell ⟨q, i / 64, none⟩ (.int .u64 (M.putW (ws.getD (i / 64) 0) (i % 64) v : Nat))).drew p q n cap (M.put ws i v) := by
  have hl : i / 64 < ws.length := by have := h.len; omega
  have hg := setCell_grown w q (i / 64) (.int .u64 (M.putW (ws.getD (i / 64) 0) (i % 64) v : Nat))
  have hne : some p ≠ some q := fun e => h.ne (Option.some.inj e)
  exact {
    c0 := hg.cell h.c0 hne
    c1 := by rw [M.length_put]; exact hg.cell h.c1 hne
    row := fun k hk => by
      rw [M.length_put] at hk
      rw [M.getD_put ws i k v hl, World.cell?_drew]
      by_cases e : k = i / 64
      · subst e
        rw [if_pos rfl]
        exact World.cell?_setCell_same w ⟨q, i / 64, none⟩ _ (h.row _ hl)
      · rw [if_neg e, World.cell?_setCell_other w _ _ _ (by intro x; exact e (by injection x with _ y _; exact y.symm))]
        exact h.row k hk
    fz := fun k => by rw [World.frozen?_drew, World.frozen?_setCell]; exact h.fz k
    ne := h.ne
    qlt := Nat.lt_of_lt_of_le h.qlt hg.size
    hcap := by rw [M.length_put]; exact h.hcap
    len := by rw [M.length_put]; exact h.len
    small := h.small
    lt := M.put_lt ws i v hl h.lt
    top := fun j hj => by rw [M.bit_put ws i j v hl, if_neg (by omega)]; exact h.top j hj }

/-- Put, of a bit that there is. -/
theorem put_in {w : World} {p q n cap : Nat} {ws : List Nat} (h : SetAt w p q n cap ws) (i : Int) (v : Bool) (h0 : 0 ≤ i) (hi : i < n) :
    Calls Try.prog 42 #[.pointer (some ⟨p, 0, none⟩), .int .i64 i, .bool v] w fun e w' => e = .returned (.int .i64 0) ∧
      SetAt w' p q n cap (M.put ws i.toNat v) ∧ w.grownBy w' (some q) := by
  obtain ⟨k, rfl⟩ : ∃ k : Nat, i = k := ⟨i.toNat, by omega⟩
  have hs := h.small
  have hk : k < n := by omega
  have hkl : k / 64 < ws.length := by have := h.len; omega
  have hi := putW_int (ws.getD (k / 64) 0) (k % 64) v (h.lt _) (by omega)
  have done : ∀ e w', (e = Ending.returned (.int .i64 0) ∧ w' = (w.setCell ⟨q, k / 64, none⟩ (.int .u64 (bits (if v then .or else .andNot) .u64 ((ws.getD (k / 64) 0 : Nat) : Int) (IntKind.u64.wrap (2 ^ (k % 64)))))).drew) →
      e = .returned (.int .i64 0) ∧ SetAt w' p q n cap (M.put ws (k : Int).toNat v) ∧ w.grownBy w' (some q) := by
    rintro e w' ⟨he, rfl⟩
    refine ⟨he, ?_, setCell_grown ..⟩
    rw [hi, Int.toNat_natCast]
    exact h.put k hk v
  cases v
  · exact (put_f_core p q k ws.length cap _ w h.c1 hkl (by omega) (h.row _ hkl) (h.fz _) (there_in h k (by omega) (by omega))).mono done
  · exact (put_t_core p q k ws.length cap _ w h.c1 hkl (by omega) (h.row _ hkl) (h.fz _) (there_in h k (by omega) (by omega))).mono done
theorem put_out {w : World} {p q n cap : Nat} {ws : List Nat} (h : SetAt w p q n cap ws) (i : Int) (v : Bool) (hi : ¬ (0 ≤ i ∧ i < n)) :
    Calls Try.prog 42 #[.pointer (some ⟨p, 0, none⟩), .int .i64 i, .bool v] w fun e w' => e = .returned (.int .i64 3) ∧ w = w' := put_out_core p i v w (there_out h i hi)
end Go.Proofs.Yticoojcmlkdeiaa.Bs
