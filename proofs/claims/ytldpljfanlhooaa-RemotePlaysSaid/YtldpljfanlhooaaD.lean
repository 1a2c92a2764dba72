/- The walks of quar's Has and All, of the law's same, and of the document's own list. -/
import Derived.Test.YtldpljfanlhooaaC
namespace Go.Proofs.Ytldpljfanlhooaa
open Go.RowKit
open Is

/-- Is a number among the first n? -/
def anyV (L : Nat → Int) (a : Int) : Nat → Bool
  | 0 => false
  | n + 1 => anyV L a n || (L n == a)
theorem anyV_succ (L : Nat → Int) (a : Int) (n : Nat) : anyV L a (n + 1) = (anyV L a n || (L n == a)) := rfl
theorem anyV_of {L : Nat → Int} {a : Int} {k : Nat} : ∀ {n : Nat}, k < n → L k = a → anyV L a n = true
  | 0, h, _ => by omega
  | n + 1, h, e => by
    rw [anyV_succ]
    by_cases hk : k = n
    · subst hk; simp [e]
    · rw [anyV_of (n := n) (by omega) e]; rfl

theorem qhas_nil (a : Int) (w : World) :
    Calls Try.prog 15 #[.pointer none, .int .i64 a] w fun e w' => e = .returned (.bool false) ∧ w = w' := by
  go_enter Try.func15, Try.ntmps15
  go_wp2_with (go_at_call 16; refine (qlen_nil _).mono ?_; rintro e w' ⟨rfl, rfl⟩)
  go_loop [8] (fun i => i = .int .i64 0) (fun _ => 0)
  case atStart => exact rfl
  case round =>
    subst hrel
    go_wp2
    go_ret
    exact ⟨rfl, rfl⟩
set_option maxRecDepth 100000 in
set_option maxHeartbeats 1000000 in
theorem qhas_at {w : World} {p f n m : Nat} {R : Nat → Int} (h : QuW w p f n m R) (a : Int) :
    Calls Try.prog 15 #[.pointer (some ⟨p, 0, none⟩), .int .i64 a] w fun e w' => e = .returned (.bool (anyV (fun k => R ((f + k) % 64)) a n)) ∧ w.grownBy w' none := by
  have HL := Lib.hid (qlen_at h)
  have H := Lib.hid h
  have HN : Hid (n ≤ 64) := Lib.hid (by have := h.nm; have := h.m64; omega)
  have HP := Lib.hid (fun W (g : w.grownBy W none) k hk d => place_at ((h.kept g (by simp)).kept (grown_drew (grown_refl W none) d) (by simp)) k hk)
  have hn64 : (n : Int) ≤ 64 := by have := HN.out; omega
  clear h
  go_enter Try.func15, Try.ntmps15
  go_wp2_with (go_at_call 16; refine HL.out.mono ?_; rintro e w' ⟨rfl, rfl⟩)
  clear HL
  go_loopw [8] (fun i wr => ∃ k : Nat, k ≤ n ∧ i = .int .i64 k ∧ anyV (fun k => R ((f + k) % 64)) a k = false ∧ w.grownBy wr none) (fun i _ => n - (intOf i).toNat)
  case atStart => exact ⟨0, by omega, rfl, rfl, grown_refl _ _⟩
  case round =>
    obtain ⟨k, hk, rfl, hno, hg⟩ := hrel
    have HNO := Lib.hid hno
    have HG := Lib.hid hg
    clear hno hg
    by_cases hlt : k < n
    · have hki : (k : Int) < n := by omega
      have HPK := Lib.hid (fun d => HP.out _ HG.out k (by have := HN.out; omega) d)
      have c := (H.out.kept HG.out (by simp)).c ((f + k) % 64) (by omega)
      obtain ⟨r, hr⟩ : ∃ r, (f + k) % 64 = r := ⟨_, rfl⟩
      have hr64 : (r : Int) < 64 := by omega
      have HX : Hid (anyV (fun k => R ((f + k) % 64)) a (k + 1) = (R r == a)) := Lib.hid (by rw [anyV_succ, HNO.out, Bool.false_or, hr])
      have HY : Hid (R r = a → anyV (fun k => R ((f + k) % 64)) a n = true) := Lib.hid (fun e => anyV_of hlt (by simp only [hr]; exact e))
      have HLT := Lib.hid hlt
      rw [hr] at c HPK
      generalize R r = x at *
      clear hr hlt hk HNO
      by_cases hx : x = a
      · have hb : (x == a) = true := by simpa using hx
        have HE : Hid (anyV (fun k => R ((f + k) % 64)) a n = true) := Lib.hid (HY.out hx)
        clear hx HY HX
        go_wp2
        go_quiet ((go_at_call 34; (with_reducible exact quiet_left (HPK.out _))))
        rename Nat => nq
        go_wp2
        go_ret
        exact ⟨by rw [HE.out]; rfl, grown_trans HG.out (grown_drew (grown_refl _ _) _)⟩
      · have hb : (x == a) = false := by simpa using hx
        rw [hb] at HX
        clear hx HY
        go_wp2
        go_quiet ((go_at_call 34; (with_reducible exact quiet_left (HPK.out _))))
        rename Nat => nq
        go_wp2
        go_roundw
        case rel => exact ⟨k + 1, by have := HLT.out; omega, by go_num, HX.out, grown_trans HG.out (grown_drew (grown_refl _ _) _)⟩
        case measure => have := HLT.out; simp [intOf]; omega
    · obtain rfl : k = n := by omega
      have hki : ¬ (k : Int) < k := by omega
      go_wp2
      go_ret
      exact ⟨by rw [HNO.out]; rfl, HG.out⟩

/-! ### All -/
/-- A slice of new memory that reads as a list. -/
def NewRd (w w' : World) (l : List Int) (e : Ending) : Prop := ∃ v, e = .returned v ∧ Rd w' v l ∧ (∀ q, v.ownBlock = some q → w.heap.size ≤ q) ∧ w.grownBy w' none
theorem qall_nil (w : World) : Calls Try.prog 18 #[.pointer none] w fun e w' => NewRd w w' [] e := by
  have hmk : (Instr.makeSlice 25 (.int .i64 0) (.int .i64 0)).run Try.prog w = .ok (.slice (some ⟨w.heap.size, 0, none⟩) 0 0) (w.alloc (.cells (zeroInts 0) 3)) := make_ints w 0 (by omega)
  have HX : Hid (NewRd w (w.alloc (.cells (zeroInts 0) 3)) [] (.returned (.slice (some ⟨w.heap.size, 0, none⟩) 0 0))) :=
    Lib.hid ⟨_, rfl, .inr ⟨w.heap.size, 0, 0, rfl, by simp, Nat.le_refl _, fun j hj => by simp at hj⟩, fun q hq => by simp only [Value.ownBlock, Option.some.injEq] at hq; omega, grown_alloc _ _ _⟩
  go_enter Try.func18, Try.ntmps18
  go_wp2_with (go_at_call 16; refine (qlen_nil _).mono ?_; rintro e w' ⟨rfl, rfl⟩)
  clear hmk
  go_loop [10] (fun i => i = .int .i64 0) (fun _ => 0)
  case atStart => exact rfl
  case round =>
    subst hrel
    go_wp2
    go_ret
    exact HX.out
set_option maxRecDepth 100000 in
set_option maxHeartbeats 2000000 in
theorem qall_at {w : World} {p f n m : Nat} {R : Nat → Int} (h : QuW w p f n m R) {l : List Int} (hl : l.length = n) (hL : ∀ k (hk : k < l.length), R ((f + k) % 64) = l[k]) :
    Calls Try.prog 18 #[.pointer (some ⟨p, 0, none⟩)] w fun e w' => NewRd w w' l e := by
  have HLN := Lib.hid (qlen_at h)
  have H := Lib.hid h
  have HN : Hid (n ≤ 64) := Lib.hid (by have := h.nm; have := h.m64; omega)
  have HP := Lib.hid (fun W (g : w.grownBy W none) k hk => place_at (h.kept g (by simp)) k hk)
  have hn64 : (n : Int) ≤ 64 := by have := HN.out; omega
  have hmk := make_ints w n (by have := HN.out; omega)
  have HLL := Lib.hid (And.intro hl hL)
  have hp := h.lt
  obtain ⟨q, hq⟩ : ∃ q, w.heap.size = q := ⟨_, rfl⟩
  have HW1 : Hid (ValsAt (w.alloc (.cells (zeroInts n) 3)) q n (fun i => .int .i64 (if i < 0 then R ((f + i) % 64) else 0)) ∧ w.grownBy (w.alloc (.cells (zeroInts n) 3)) none) := Lib.hid ⟨by rw [← hq]; simpa using ints_new w 3 n, grown_alloc _ _ _⟩
  have HQ : Hid (w.heap.size ≤ q ∧ p ≠ q) := Lib.hid ⟨by omega, by omega⟩
  rw [hq] at hmk
  clear h hl hL hp hq
  obtain ⟨w1, hw1⟩ : ∃ w1, w1 = w.alloc (.cells (zeroInts n) 3) := ⟨_, rfl⟩
  rw [← hw1] at HW1 hmk
  clear hw1
  go_enter Try.func18, Try.ntmps18
  go_wp2_with (go_at_call 16; refine HLN.out.mono ?_; rintro e w' ⟨rfl, rfl⟩)
  clear HLN hmk
  go_loopw [10] (fun i wr => ∃ k : Nat, k ≤ n ∧ i = .int .i64 k ∧ ValsAt wr q n (fun i => .int .i64 (if i < k then R ((f + i) % 64) else 0)) ∧ w.grownBy wr none) (fun i _ => n - (intOf i).toNat)
  case atStart => exact ⟨0, by omega, rfl, HW1.out.1, HW1.out.2⟩
  case round =>
    obtain ⟨k, hk, rfl, hv, hg⟩ := hrel
    have HV := Lib.hid hv
    have HG := Lib.hid hg
    clear hv hg
    by_cases hlt : k < n
    · have hki : (k : Int) < n := by omega
      obtain ⟨r, hr⟩ : ∃ r, (f + k) % 64 = r := ⟨_, rfl⟩
      have hr64 : (r : Int) < 64 := by omega
      have d1 := (H.out.kept HG.out (by simp)).c r (by omega)
      have dk := HV.out.c k hlt
      have z := HV.out.fz
      have HPK := Lib.hid (fun W (g : wr.grownBy W none) => HP.out _ (grown_trans HG.out g) k (by have := HN.out; omega))
      have HX : Hid (∀ W, wr.grownBy W none → ValsAt (W.setCell ⟨q, k, none⟩ (.int .i64 (R r))) q n (fun i => .int .i64 (if i < k + 1 then R ((f + i) % 64) else 0)) ∧ w.grownBy (W.setCell ⟨q, k, none⟩ (.int .i64 (R r))) none) :=
        Lib.hid (fun W g => ⟨((HV.out.kept g (by simp)).set k _).congr (fun i _ => by
          by_cases e : i = k
          · subst e; rw [if_pos rfl, if_pos (by omega), hr]
          · rw [if_neg e]
            by_cases e2 : i < k
            · rw [if_pos e2, if_pos (by omega)]
            · rw [if_neg e2, if_neg (by omega)]), grown_own (grown_trans HG.out g) (set_grown W q k _) HQ.out.1⟩)
      have HLT := Lib.hid hlt
      have HNE : Hid (q ≠ p) := Lib.hid (Ne.symm HQ.out.2)
      rw [hr] at HPK
      have hg1 := grown_drew1 (grown_refl wr none)
      generalize R r = x at *
      clear hr hlt hk HV
      go_upto_region 5 with (fail)
      go_region_held3 (fun w' => w'.cell? ⟨p, r, none⟩ = some (.int .i64 x))
        (first | exact d1 | exact (set_grown wr q k (.int .i64 x)).cell d1 (some_ne (Ne.symm HNE.out)))
        (first
        | (go_at_call 34; (with_reducible refine (HPK.out _ (by assumption)).mono ?_); rintro e w' ⟨rfl, rfl⟩))
      all_goals
        go_wp2
        go_roundw
        case rel => exact ⟨k + 1, by have := HLT.out; omega, by go_num, HX.out _ hg1⟩
        case measure => have := HLT.out; simp [intOf]; omega
    · obtain rfl : k = n := by omega
      have hki : ¬ (k : Int) < k := by omega
      go_wp2
      go_ret
      obtain ⟨h1, h2⟩ := HLL.out
      refine ⟨.slice (some ⟨q, 0, none⟩) k k, rfl, .inr ⟨q, 0, k, by rw [h1], HV.out.qlt, by omega, fun j hj => ?_⟩, fun x hx => ?_, HG.out⟩
      · have := HV.out.c j (by omega)
        rw [if_pos (by omega), h2 j hj] at this
        rw [Nat.zero_add]
        exact this
      · simp only [Value.ownBlock, Option.some.injEq] at hx
        have := HQ.out.1
        omega
end Go.Proofs.Ytldpljfanlhooaa
