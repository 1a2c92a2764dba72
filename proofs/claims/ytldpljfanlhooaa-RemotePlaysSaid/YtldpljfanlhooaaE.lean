/- A quarantine as a list; the law's same; the document's own list; QuarNil. -/
import Derived.Test.YtldpljfanlhooaaD
namespace Go.Proofs.Ytldpljfanlhooaa
open Go.RowKit
open Is

/-- A quarantine at block p in which at most m may wait; those that wait. -/
def Qu (w : World) (p m : Nat) (l : List Int) : Prop := ∃ f R, QuW w p f l.length m R ∧ ∀ k (hk : k < l.length), R ((f + k) % 64) = l[k]
theorem Qu.kept {w w' : World} {r : Option Nat} {p m : Nat} {l : List Int} (h : Qu w p m l) (hg : w.grownBy w' r) (hr : some p ≠ r) : Qu w' p m l := by
  obtain ⟨f, R, h1, h2⟩ := h
  exact ⟨f, R, h1.kept hg hr, h2⟩
theorem Qu.grown {w w' : World} {p m : Nat} {l : List Int} (h : Qu w p m l) (hg : w.grownBy w' none) : Qu w' p m l := h.kept hg (by simp)
theorem Qu.le {w : World} {p m : Nat} {l : List Int} (h : Qu w p m l) : l.length ≤ m ∧ m ≤ 64 := by obtain ⟨f, R, h1, _⟩ := h; exact ⟨h1.nm, h1.m64⟩
theorem Qu.lt {w : World} {p m : Nat} {l : List Int} (h : Qu w p m l) : p < w.heap.size := by obtain ⟨f, R, h1, _⟩ := h; exact h1.lt
/-- What Put leaves, and what comes out. -/
def putL (m : Nat) (l : List Int) (a : Int) : List Int := if m < l.length + 1 then (l ++ [a]).tail else l ++ [a]
def putO (m : Nat) (l : List Int) (a : Int) : Option Int := if m < l.length + 1 then (l ++ [a]).head? else none
def outV : Option Int → Value
  | some x => .tuple #[.int .i64 x, .bool true]
  | none => .tuple #[.int .i64 0, .bool false]
theorem putL_put (m : Nat) (l : List Int) (a : Int) : (putO m l a).toList ++ putL m l a = l ++ [a] := by
  unfold putO putL
  split
  · cases l <;> rfl
  · rfl
theorem putL_le (m : Nat) (l : List Int) (a : Int) (h : l.length ≤ m) : (putL m l a).length ≤ m := by
  unfold putL
  split
  · simp; omega
  · simp; omega
/-- A ring with one more at its end reads as the list with one more. -/
theorem ring_put {f n : Nat} {R : Nat → Int} {l : List Int} (hn : l.length = n) (h63 : n < 64) (h : ∀ k (hk : k < l.length), R ((f + k) % 64) = l[k]) (a : Int) :
    ∀ k (hk : k < (l ++ [a]).length), (fun i => if i = (f + n) % 64 then a else R i) ((f + k) % 64) = (l ++ [a])[k] := by
  intro k hk
  simp only [List.length_append, List.length_singleton] at hk
  by_cases e : k = n
  · subst e
    simp only [if_true]
    rw [List.getElem_append_right (by omega)]
    simp [hn]
  · have : (f + k) % 64 ≠ (f + n) % 64 := by omega
    simp only [if_neg this]
    rw [h k (by omega), List.getElem_append_left (by omega)]
theorem ring_tail {f : Nat} {R : Nat → Int} {x : Int} {l : List Int} (h : ∀ k (hk : k < (x :: l).length), R ((f + k) % 64) = (x :: l)[k]) :
    ∀ k (hk : k < l.length), R (((f + 1) % 64 + k) % 64) = l[k] := by
  intro k hk
  have := h (k + 1) (by simp; omega)
  rw [show ((f + 1) % 64 + k) % 64 = (f + (k + 1)) % 64 by omega, this]
  rfl
theorem take_qu {w : World} {p m : Nat} {l : List Int} (h : Qu w p m l) :
    Calls Try.prog 14 #[.pointer (some ⟨p, 0, none⟩)] w fun e w' => e = .returned (outV l.head?) ∧ Qu w' p m l.tail ∧ w.grownBy w' (some p) := by
  obtain ⟨f, R, h1, h2⟩ := h
  cases l with
  | nil => exact (qtake_none h1).mono fun e w' ⟨he, hw⟩ => ⟨he, by subst hw; exact ⟨f, R, h1, h2⟩, by subst hw; exact grown_refl _ _⟩
  | cons x l => exact (qtake_some h1).mono fun e w' ⟨he, hq, hg⟩ => ⟨by rw [he]; have := h2 0 (by simp); simp only [Nat.add_zero, Nat.mod_eq_of_lt h1.f64] at this; rw [this]; rfl, ⟨_, R, hq, ring_tail h2⟩, hg⟩
theorem put_qu {w : World} {p m : Nat} {l : List Int} (h : Qu w p m l) (a : Int) :
    Calls Try.prog 11 #[.pointer (some ⟨p, 0, none⟩), .int .i64 a] w fun e w' => e = .returned (outV (putO m l a)) ∧ Qu w' p m (putL m l a) ∧ w.grownBy w' (some p) := by
  obtain ⟨f, R, h1, h2⟩ := h
  have hm := h1.nm
  have h64 := h1.m64
  by_cases h0 : m = 0
  · subst h0
    obtain rfl : l = [] := List.eq_nil_of_length_eq_zero (by omega)
    exact (qput_none h1 a).mono fun e w' ⟨he, hw⟩ => ⟨he, by subst hw; exact ⟨f, R, h1, h2⟩, by subst hw; exact grown_refl _ _⟩
  · by_cases hr : l.length < m
    · have e1 : putO m l a = none := if_neg (by omega)
      have e2 : putL m l a = l ++ [a] := if_neg (by omega)
      rw [e1, e2]
      exact (qput_room h1 hr a).mono fun e w' ⟨he, hq, hg⟩ => ⟨he, ⟨f, _, by rw [List.length_append]; exact hq, ring_put rfl (by omega) h2 a⟩, hg⟩
    · cases l with
      | nil => simp at hr; omega
      | cons x l =>
        simp only [List.length_cons] at hr hm
        have e1 : putO m (x :: l) a = some x := if_pos (by simp; omega)
        have e2 : putL m (x :: l) a = l ++ [a] := if_pos (by simp; omega)
        rw [e1, e2]
        have hx : R f = x := by have := h2 0 (by simp); simp only [Nat.add_zero, Nat.mod_eq_of_lt h1.f64] at this; exact this
        exact (qput_full h1 (by omega) a).mono fun e w' ⟨he, hq, hg⟩ => ⟨by rw [he, hx]; rfl, ⟨_, _, by rw [List.length_append]; exact hq, ring_put rfl (by omega) (ring_tail h2) a⟩, hg⟩
theorem len_qu {w : World} {p m : Nat} {l : List Int} (h : Qu w p m l) :
    Calls Try.prog 16 #[.pointer (some ⟨p, 0, none⟩)] w fun e w' => e = .returned (.int .i64 l.length) ∧ w = w' := by
  obtain ⟨f, R, h1, h2⟩ := h
  exact qlen_at h1
theorem all_qu {w : World} {p m : Nat} {l : List Int} (h : Qu w p m l) :
    Calls Try.prog 18 #[.pointer (some ⟨p, 0, none⟩)] w fun e w' => NewRd w w' l e := by
  obtain ⟨f, R, h1, h2⟩ := h
  exact qall_at h1 rfl h2
theorem any_take {L : Nat → Int} {a : Int} {l : List Int} (h : ∀ k (hk : k < l.length), L k = l[k]) : ∀ n, n ≤ l.length → anyV L a n = (l.take n).any (· == a)
  | 0, _ => by simp [anyV]
  | n + 1, hn => by
    rw [anyV_succ, any_take h n (by omega), List.take_succ_eq_append_getElem (by omega), List.any_append, h n (by omega)]
    simp
theorem any_list {L : Nat → Int} {a : Int} {l : List Int} (h : ∀ k (hk : k < l.length), L k = l[k]) : anyV L a l.length = l.any (· == a) := by
  rw [any_take h l.length (Nat.le_refl _), List.take_length]
theorem has_qu {w : World} {p m : Nat} {l : List Int} (h : Qu w p m l) (a : Int) :
    Calls Try.prog 15 #[.pointer (some ⟨p, 0, none⟩), .int .i64 a] w fun e w' => e = .returned (.bool (l.any (· == a))) ∧ w.grownBy w' none := by
  obtain ⟨f, R, h1, h2⟩ := h
  have := qhas_at h1 a
  rwa [any_list h2] at this
theorem new_qu (k : Int) (w : World) : Calls Try.prog 10 #[.int .i64 k] w fun e w' => ∃ p, e = .returned (.pointer (some ⟨p, 0, none⟩)) ∧ Qu w' p (mostV k) [] ∧ w.heap.size ≤ p ∧ w.grownBy w' none :=
  (qnew_at k w).mono fun e w' ⟨p, he, hq, h⟩ => ⟨p, he, ⟨0, _, hq, fun k hk => by simp at hk⟩, h⟩

/-! ### the law's same -/
/-- A slice of which just the elements are known. -/
def Sh (w : World) (v : Value) (xs : List Int) : Prop := ∃ A cap, v = .slice A xs.length cap ∧ (xs.length = 0 ∨ ∃ g o, A = some ⟨g, o, none⟩ ∧ ∀ j (h : j < xs.length), w.cell? ⟨g, o + j, none⟩ = some (.int .i64 xs[j]))
theorem Is.Rd.sh {w : World} {v : Value} {xs : List Int} (h : Rd w v xs) : Sh w v xs := by
  obtain ⟨A, c, e, _, h2⟩ := h.shape
  exact ⟨A, c, e, h2.imp id (fun ⟨g, o, e, _, _, h⟩ => ⟨g, o, e, h⟩)⟩
theorem Sh.grown {w w' : World} {v : Value} {xs : List Int} (h : Sh w v xs) (hg : w.grownBy w' none) : Sh w' v xs := by
  obtain ⟨A, c, e, h2⟩ := h
  exact ⟨A, c, e, h2.imp id (fun ⟨g, o, e, h⟩ => ⟨g, o, e, fun j hj => hg.cell (h j hj) (by simp)⟩)⟩
set_option maxRecDepth 100000 in
set_option maxHeartbeats 1000000 in
theorem same_at {w : World} {u v : Value} {l : List Int} (h1 : Sh w u l) (h2 : Sh w v l) (hl : l.length ≤ 100000) :
    Calls Try.prog 17 #[u, v] w fun e w' => e = .returned (.bool true) ∧ w.grownBy w' none := by
  obtain ⟨A, ca, rfl, hA⟩ := h1
  obtain ⟨B, cb, rfl, hB⟩ := h2
  have HA := Lib.hid hA
  have HB := Lib.hid hB
  obtain ⟨n, hn⟩ : ∃ n, l.length = n := ⟨_, rfl⟩
  have HN := Lib.hid hn
  have hn5 : (n : Int) ≤ 100000 := by omega
  rw [hn]
  have hb : (((n : Nat) : Int) != n) = false := by simp
  clear hA hB hn hl
  go_enter Try.func17, Try.ntmps17
  go_wp2
  go_loopw [13] (fun i wr => ∃ k : Nat, k ≤ n ∧ i = .int .i64 k ∧ w.grownBy wr none) (fun i _ => n - (intOf i).toNat)
  case atStart => exact ⟨0, by omega, rfl, grown_refl _ _⟩
  case round =>
    obtain ⟨k, hk, rfl, hg⟩ := hrel
    have HG := Lib.hid hg
    by_cases hlt : k < n
    · have hki : (k : Int) < n := by omega
      have hkl : k < l.length := by rw [HN.out]; exact hlt
      obtain ⟨g1, o1, rfl, c1⟩ := HA.out.resolve_left (by omega)
      obtain ⟨g2, o2, rfl, c2⟩ := HB.out.resolve_left (by omega)
      have d1 := hg.cell (c1 k hkl) (by simp)
      have d2 := hg.cell (c2 k hkl) (by simp)
      have HLT := Lib.hid hlt
      have hx : ((l[k] : Int) != l[k]) = false := by simp
      generalize l[k] = x at *
      clear c1 c2 hlt hk hkl HA HB hg
      go_wp2
      go_quiet (fail)
      rename Nat => nq
      go_wp2
      go_roundw
      case rel => exact ⟨k + 1, by have := HLT.out; omega, by go_num, grown_trans HG.out (grown_drew (grown_refl _ _) _)⟩
      case measure => have := HLT.out; simp [intOf]; omega
    · obtain rfl : k = n := by omega
      have hki : ¬ (k : Int) < k := by omega
      go_wp2
      go_ret
      exact ⟨rfl, HG.out⟩

/-! ### the document's own -/
theorem rmost_at (k : Int) (w : World) : Calls Try.prog 13 #[.int .i64 k] w fun e w' => e = .returned (.int .i64 (mostV k)) ∧ w = w' := by
  by_cases h1 : k < 0
  · have hd : decide (k < 0) = true := decide_eq_true h1
    have hv : mostV k = 0 := if_pos h1
    rw [hv]
    go_enter Try.func13, Try.ntmps13
    go_wp2
    go_ret
    exact ⟨rfl, rfl⟩
  · have hd : decide (k < 0) = false := decide_eq_false h1
    by_cases h2 : 64 < k
    · have hd2 : decide (k > 64) = true := decide_eq_true h2
      have hv : mostV k = 64 := by unfold mostV; rw [if_neg h1, if_pos h2]
      rw [hv]
      clear h1 h2
      go_enter Try.func13, Try.ntmps13
      go_wp2
      go_ret
      exact ⟨rfl, rfl⟩
    · have hd2 : decide (k > 64) = false := decide_eq_false h2
      have hv : ((mostV k : Nat) : Int) = k := by unfold mostV; rw [if_neg h1, if_neg h2]; omega
      rw [hv]
      clear h1 h2 hv
      go_enter Try.func13, Try.ntmps13
      go_wp2
      go_ret
      exact ⟨rfl, rfl⟩
/-- What the document's Put makes. -/
def RPut (w w' : World) (m : Nat) (l : List Int) (a : Int) (e : Ending) : Prop :=
  ∃ v, e = .returned (.tuple #[v, .int .i64 (if (putO m l a).isSome then 1 else 0)]) ∧ Rd w' v (putL m l a) ∧ (∀ q, v.ownBlock = some q → w.heap.size ≤ q) ∧ w.grownBy w' none
set_option maxRecDepth 100000 in
set_option maxHeartbeats 1000000 in
theorem rput_at {w : World} {v : Value} {l : List Int} (h : Rd w v l) (m : Nat) (hl : l.length ≤ 100000) (a : Int) :
    Calls Try.prog 12 #[v, .int .i64 m, .int .i64 a] w fun e w' => RPut w w' m l a e := by
  have ga := grown_alloc w (.cells #[] 3) none
  obtain ⟨v1, w1, r1, p1⟩ := app_run (ow_empty w w.heap.size (Nat.le_refl _)) (h.grown ga) (by simp; omega) (by simp) 25
  have g1 : w.grownBy w1 none := grown_own ga p1.grown (Nat.le_refl _)
  have hs1 := g1.size
  have ga2 := grown_alloc w1 (.cells #[.int .i64 a] 3) none
  obtain ⟨v2, w2, r2, p2⟩ := app_run (p1.own.grown ga2) (rd_one w1 a) (by simp; omega) (by simp; omega) 25
  have HB : Hid (∀ q, v2.ownBlock = some q → w.heap.size ≤ q) := Lib.hid (fun q hq => (p2.own.ge q hq).1)
  have HG : Hid (w.grownBy w2 none) := Lib.hid (by
    have g2 := grown_trans g1 ga2
    refine ⟨p2.grown.os.trans g2.os, p2.grown.tape.trans g2.tape, p2.grown.output.trans g2.output, Nat.le_trans g2.size p2.grown.size, fun i hi _ => ?_⟩
    refine (p2.grown.block i (Nat.lt_of_lt_of_le hi g2.size) (fun e => ?_)).trans (g2.block i hi (by simp))
    have := (p1.own.ge i e.symm).1
    omega)
  have HR := Lib.hid p2.own.rd
  obtain ⟨A, cap, rfl, hcap, hsh⟩ := p2.own.rd.shape
  obtain ⟨n, hlen⟩ : ∃ n, ([] ++ l ++ [a]).length = n := ⟨_, rfl⟩
  have hn : n = l.length + 1 := by rw [← hlen]; simp
  have hn5 : (n : Int) ≤ 100001 := by omega
  rw [hlen] at r2 HB HR
  clear h ga g1 hs1 ga2 p1 p2 hcap hsh hlen
  by_cases hm : m < l.length + 1
  · have hd : decide (n > m) = true := decide_eq_true (by omega)
    have hd' : decide (m < n) = true := decide_eq_true (by omega)
    have htl := fun W => tl_run A n cap (by omega) W
    have HX : Hid (RPut w w2 m l a (.returned (.tuple #[.slice (tlA A cap) (n - 1) (cap - 1), .int .i64 1]))) := Lib.hid (by
      refine ⟨.slice (tlA A cap) (n - 1) (cap - 1), ?_, ?_, fun q hq => HB.out q (tl_own _ _ _ n _ q hq), HG.out⟩
      · unfold putO; rw [if_pos hm]; cases l <;> rfl
      · unfold putL; rw [if_pos hm]
        have hr := HR.out
        obtain ⟨x, t, e⟩ : ∃ x t, [] ++ l ++ [a] = x :: t := by cases l <;> exact ⟨_, _, rfl⟩
        rw [e] at hr
        have e2 : l ++ [a] = x :: t := e
        rw [e2]
        exact hr.tl)
    clear hm HR HB HG hn hl
    generalize Value.slice (tlA A cap) (n - 1) (cap - 1) = tl at *
    go_enter Try.func12, Try.ntmps12
    go_wp2_with (at_builtin; first | (refine wpList_append_run rfl _ _ _ rfl _ _ _ _ rfl rfl r1 ?_) | (refine wpList_append_run rfl _ _ _ rfl _ _ _ _ rfl rfl r2 ?_))
    go_ret2
    exact HX.out
  · have hd : decide (n > m) = false := decide_eq_false (by omega)
    have hd' : decide (m < n) = false := decide_eq_false (by omega)
    have HX : Hid (RPut w w2 m l a (.returned (.tuple #[.slice A n cap, .int .i64 0]))) := Lib.hid (by
      refine ⟨.slice A n cap, ?_, ?_, HB.out, HG.out⟩
      · unfold putO; rw [if_neg hm]; rfl
      · unfold putL; rw [if_neg hm]; exact HR.out)
    clear hm HR HB HG hn hl
    go_enter Try.func12, Try.ntmps12
    go_wp2_with (at_builtin; first | (refine wpList_append_run rfl _ _ _ rfl _ _ _ _ rfl rfl r1 ?_) | (refine wpList_append_run rfl _ _ _ rfl _ _ _ _ rfl rfl r2 ?_))
    go_ret2
    exact HX.out
end Go.Proofs.Ytldpljfanlhooaa
