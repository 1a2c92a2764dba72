/- The walks of the law's awake, of QuarNil, and of QuarOrder. -/
import Derived.Test.YtldpljfanlhooaaE
namespace Go.Proofs.Ytldpljfanlhooaa
open Go.RowKit
open Is

set_option maxRecDepth 100000 in
set_option maxHeartbeats 1000000 in
theorem awake11_at (w : World) : Calls Try.prog 19 #[] w fun e w' => e = .returned (.bool true) ∧ w.grownBy w' none := by
  go_enter Try.func19, Try.ntmps19
  go_wp2_with fail
  refine (new_qu 2 w).mono ?_
  rintro e w1 ⟨p, rfl, hq, hp, hg⟩
  have HQ := Lib.hid hq
  have HG := Lib.hid hg
  have HP := Lib.hid hp
  clear hq hg hp
  go_wp2_with fail
  refine (put_qu HQ.out 16).mono ?_
  rintro e w2 ⟨rfl, hq, hg⟩
  have HQ2 : Hid (Qu w2 p 2 [16]) := Lib.hid hq
  have HG2 := Lib.hid (grown_own HG.out hg HP.out)
  clear hq hg HQ HG
  go_wp2_with fail
  refine (put_qu HQ2.out 32).mono ?_
  rintro e w3 ⟨rfl, hq, hg⟩
  have HQ3 : Hid (Qu w3 p 2 [16, 32]) := Lib.hid hq
  have HG3 := Lib.hid (grown_own HG2.out hg HP.out)
  clear hq hg HQ2 HG2
  go_wp2_with fail
  refine (put_qu HQ3.out 48).mono ?_
  rintro e w4 ⟨rfl, hq, hg⟩
  have HQ4 : Hid (Qu w4 p 2 [32, 48]) := Lib.hid hq
  have HG4 := Lib.hid (grown_own HG3.out hg HP.out)
  clear hq hg HQ3 HG3
  rw [show outV (putO 2 [16, 32] 48) = .tuple #[.int .i64 16, .bool true] from rfl]
  go_wp2_with fail
  refine (len_qu HQ4.out).mono ?_
  rintro e w5 ⟨rfl, rfl⟩
  rw [show (([32, 48] : List Int).length : Int) = 2 from rfl]
  go_wp2
  go_ret
  exact ⟨rfl, HG4.out⟩

set_option maxRecDepth 100000 in
set_option maxHeartbeats 1000000 in
theorem quarNil_walk (a : Int) (w : World) : Calls Try.prog 5 #[.int .i64 a] w fun e w' => e = .returned (.bool true) ∧ w.grownBy w' none := by
  go_enter Try.func5, Try.ntmps5
  go_wp2_with (first
    | (go_at_call 11; refine (qput_nil _ _).mono ?_; rintro e w' ⟨rfl, rfl⟩)
    | (go_at_call 14; refine (qtake_nil _).mono ?_; rintro e w' ⟨rfl, rfl⟩)
    | (go_at_call 15; refine (qhas_nil _ _).mono ?_; rintro e w' ⟨rfl, rfl⟩)
    | (go_at_call 16; refine (qlen_nil _).mono ?_; rintro e w' ⟨rfl, rfl⟩))
  refine (qall_nil w).mono ?_
  rintro e w1 ⟨v, rfl, hr, -, hg⟩
  obtain ⟨A, cap, rfl, -, -⟩ := hr.shape
  have HG := Lib.hid hg
  clear hr hg
  rw [show ([] : List Int).length = 0 from rfl]
  go_wp2_with fail
  refine (awake11_at w1).mono ?_
  rintro e w2 ⟨rfl, hg⟩
  have HG2 := Lib.hid (grown_trans HG.out hg)
  clear hg
  go_wp2
  go_ret
  exact ⟨rfl, HG2.out⟩

/-! ### QuarOrder -/
/-- A slice that came in. -/
def IntsArg (w : World) (A : Option Addr) (n : Nat) (S : Nat → Int) : Prop := n = 0 ∨ ∃ b off, A = some ⟨b, off, none⟩ ∧ b < w.heap.size ∧ ∀ i, i < n → w.cell? ⟨b, off + i, none⟩ = some (.int .i64 (S i))
def lst (S : Nat → Int) (n : Nat) : List Int := (List.range n).map S
theorem lst_length (S : Nat → Int) (n : Nat) : (lst S n).length = n := by simp [lst]
theorem lst_at (S : Nat → Int) (n i : Nat) (h : i < (lst S n).length) : (lst S n)[i] = S i := by simp [lst]
theorem lst_succ (S : Nat → Int) (n : Nat) : lst S (n + 1) = lst S n ++ [S n] := by simp [lst, List.range_succ]
theorem IntsArg.sh {w : World} {A : Option Addr} {n c : Nat} {S : Nat → Int} (h : IntsArg w A n S) : Sh w (.slice A n c) (lst S n) := by
  refine ⟨A, c, by rw [lst_length], ?_⟩
  rcases h with h | ⟨b, off, e, _, h⟩
  · exact .inl (by rw [lst_length]; exact h)
  · exact .inr ⟨b, off, e, fun j hj => by rw [lst_at]; exact h j (by rwa [lst_length] at hj)⟩
theorem IntsArg.le {w : World} {A : Option Addr} {n k : Nat} {S : Nat → Int} (h : IntsArg w A n S) (hk : k ≤ n) : IntsArg w A k S := by
  rcases h with h | ⟨b, off, e, hb, h⟩
  · exact .inl (by omega)
  · exact .inr ⟨b, off, e, hb, fun i hi => h i (by omega)⟩
/-- How the law stands behind some Puts: out so far, and what waits. -/
def OutW (w0 wr : World) (b p m : Nat) (o : Value) (xs : List Int) (W : List Int) : Prop := ∃ O, Ow wr b o O ∧ Qu wr p m W ∧ O ++ W = xs ∧ w0.grownBy wr none ∧ b ≤ wr.heap.size
theorem OutW.next {w0 wr w1 w2 : World} {b p m : Nat} {o o' : Value} {xs xs' W W' : List Int} {x : Int} (hp : p < b) (hw : w0.heap.size ≤ p) (h : OutW w0 wr b p m o xs W) (hg : wr.grownBy w1 (some p)) (hq : Qu w1 p m W')
    (ha : ∀ O, O ++ W = xs → App (w1.alloc (.cells #[.int .i64 x] 3)) w2 b o o' O [x]) (hx : ∀ O, O ++ W = xs → (O ++ [x]) ++ W' = xs') : OutW w0 w2 b p m o' xs' W' := by
  obtain ⟨O, h1, h2, h3, h4, h5⟩ := h
  have a := ha O h3
  have hga := grown_alloc w1 (.cells #[.int .i64 x] 3) none
  have g1 := grown_own h4 hg hw
  have hp2 : some p ≠ o.ownBlock := fun e => by
    have := (h1.ge p e.symm).1
    omega
  refine ⟨O ++ [x], a.own, (hq.kept hga (by simp)).kept a.grown hp2, hx O h3, ?_, Nat.le_trans h5 (Nat.le_trans hg.size (Nat.le_trans hga.size a.grown.size))⟩
  have g2 := grown_trans g1 hga
  refine ⟨a.grown.os.trans g2.os, a.grown.tape.trans g2.tape, a.grown.output.trans g2.output, Nat.le_trans g2.size a.grown.size, fun i hi _ => ?_⟩
  refine (a.grown.block i (Nat.lt_of_lt_of_le hi g2.size) (fun e => ?_)).trans (g2.block i hi (by simp))
  have := (h1.ge i e.symm).1
  omega
theorem OutW.same {w0 wr w1 : World} {b p m : Nat} {o : Value} {xs xs' W W' : List Int} (hp : p < b) (hw : w0.heap.size ≤ p) (h : OutW w0 wr b p m o xs W) (hg : wr.grownBy w1 (some p)) (hq : Qu w1 p m W') (hx : ∀ O, O ++ W = xs → O ++ W' = xs') : OutW w0 w1 b p m o xs' W' := by
  obtain ⟨O, h1, h2, h3, h4, h5⟩ := h
  refine ⟨O, h1.kept hg ?_, hq, hx O h3, grown_own h4 hg hw, Nat.le_trans h5 hg.size⟩
  cases e : o.ownBlock with
  | none => exact .inl rfl
  | some q =>
    refine .inr (fun e2 => ?_)
    have := (h1.ge q e).1
    injection e2 with e2
    omega
/-- What append makes of the law's out. -/
theorem OutW.app {w0 wr w1 : World} {b p m : Nat} {o : Value} {xs W : List Int} (hp : p < b) (h : OutW w0 wr b p m o xs W) (hl : xs.length ≤ 1000) (hg : wr.grownBy w1 (some p)) (x : Int) :
    ∃ o' w2, (Builtin.append_ #[25, 25] 25 #[o, .slice (some ⟨w1.heap.size, 0, none⟩) 1 1]).run Try.prog (w1.alloc (.cells #[.int .i64 x] 3)) = .ok o' w2 ∧
      ∀ O, O ++ W = xs → App (w1.alloc (.cells #[.int .i64 x] 3)) w2 b o o' O [x] := by
  obtain ⟨O, h1, h2, h3, h4, h5⟩ := h
  have hlen := congrArg List.length h3
  rw [List.length_append] at hlen
  have hga := grown_alloc w1 (.cells #[.int .i64 x] 3) none
  have h6 : Ow w1 b o O := h1.kept hg (by
    cases e : o.ownBlock with
    | none => exact .inl rfl
    | some q =>
      refine .inr (fun e2 => ?_)
      have := (h1.ge q e).1
      injection e2 with e2
      omega)
  obtain ⟨o', w2, r, a⟩ := app_run (h6.grown hga) (rd_one w1 x) (by simp; omega) (by have := hg.size; simp; omega) 25
  refine ⟨o', w2, r, fun O' h' => ?_⟩
  have : O' = O := List.append_cancel_right (h'.trans h3.symm)
  rw [this]
  exact a
set_option maxRecDepth 100000 in
set_option maxHeartbeats 4000000 in
theorem quarOrder_walk (k0 : Int) (A : Option Addr) (len cap : Nat) (S : Nat → Int) (w : World) (hlen : len ≤ 9223372036854775807) (hlc : len ≤ cap) (hA : IntsArg w A len S) :
    Calls Try.prog 4 #[.int .i64 k0, .slice A len cap] w fun e w' => e = .returned (.bool true) ∧ w.grownBy w' none := by
  have HA := Lib.hid hA
  have HNQ := Lib.hid (fun W => new_qu k0 W)
  have HRM := Lib.hid (fun W => rmost_at k0 W)
  have HLC := Lib.hid hlc
  clear hA hlc
  go_enter Try.func4, Try.ntmps4
  go_upto_if 16 with (fail)
  go_cut [1] (fun s wx => ∃ n : Nat, n ≤ 150 ∧ n ≤ len ∧ s = .slice A n cap ∧ wx = w)
  case first =>
    by_cases h2 : 150 < len
    · have h2' : (150 : Int) < len := by omega
      have h3' : (150 : Int) ≤ cap := by have := HLC.out; omega
      rcases HA.out with h | ⟨b, off, rfl, hb, hc⟩
      · omega
      · clear hc
        have hm : (cap = 0) = False := by simp; omega
        go_wp2
        go_meet
        exact ⟨150, by omega, by omega, rfl, rfl⟩
    · have h2' : ¬ (150 : Int) < len := by omega
      go_wp2
      go_meet
      exact ⟨len, by omega, by omega, rfl, rfl⟩
  case rest =>
    obtain ⟨n, hn1, hn2, rfl, rfl⟩ := hcut
    have HB := Lib.hid (HA.out.le hn2)
    have HN := Lib.hid hn1
    have hn150 : (n : Int) ≤ 150 := by omega
    clear HA hn1 hn2 HLC hlen
    obtain ⟨w0, rfl⟩ : ∃ w0 : World, w0 = wc := ⟨_, rfl⟩
    go_wp2_with fail
    refine (HNQ.out w0).mono ?_
    rintro e w1 ⟨p, rfl, hq, hp, hg⟩
    obtain ⟨m, hm⟩ : ∃ m, mostV k0 = m := ⟨_, rfl⟩
    rw [hm] at hq HRM
    have HP : Hid (p < w1.heap.size ∧ w0.heap.size ≤ p ∧ m ≤ 64) := Lib.hid ⟨hq.lt, hp, by have := mostV_le k0; omega⟩
    have HO : Hid (OutW w0 w1 w1.heap.size p m (.slice none 0 0) (lst S 0) []) := Lib.hid ⟨[], ow_nil _ _, hq, rfl, hg, Nat.le_refl _⟩
    obtain ⟨b, hb⟩ : ∃ b, w1.heap.size = b := ⟨_, rfl⟩
    rw [hb] at HP HO
    clear hq hp hg hm HNQ hb
    go_wp2_with fail
    go_loopw [6, 23] (fun o i wr => ∃ k : Nat, k ≤ n ∧ i = .int .i64 k ∧ ∃ W, OutW w0 wr b p m o (lst S k) W) (fun _ i _ => n - (intOf i).toNat)
    case atStart => exact ⟨0, by omega, rfl, [], HO.out⟩
    case round =>
      obtain ⟨k, hk, rfl, W, hr⟩ := hrel
      have HR := Lib.hid hr
      clear hr
      by_cases hlt : k < n
      · have hki : (k : Int) < n := by omega
        obtain ⟨c, off, rfl, _, hc⟩ := HB.out.resolve_left (by omega)
        obtain ⟨x, hx⟩ : ∃ x, S k = x := ⟨_, rfl⟩
        have ck : wr.cell? ⟨c, off + k, none⟩ = some (.int .i64 x) := by obtain ⟨O, _, _, _, g, _⟩ := HR.out; rw [← hx]; exact g.cell (hc k hlt) (by simp)
        have HPU : Hid (Calls Try.prog 11 #[.pointer (some ⟨p, 0, none⟩), .int .i64 x] wr fun e w' => e = .returned (outV (putO m W x)) ∧ Qu w' p m (putL m W x) ∧ wr.grownBy w' (some p)) := Lib.hid (by obtain ⟨O, _, q, _⟩ := HR.out; exact put_qu q x)
        have HK : Hid (k < n ∧ n ≤ 150 ∧ lst S (k + 1) = lst S k ++ [x] ∧ (lst S k).length = k) := Lib.hid ⟨hlt, HN.out, by rw [lst_succ, hx], lst_length _ _⟩
        have HPL := Lib.hid (putL_put m W x)
        clear hc hx hlt hk
        cases ho : putO m W x with
        | none =>
          rw [ho] at HPU HPL
          have HPL2 : Hid (putL m W x = W ++ [x]) := Lib.hid (by have := HPL.out; simpa using this)
          clear ho HPL
          go_wp2_with fail
          refine HPU.out.mono ?_
          rintro e w2 ⟨rfl, hq, hg⟩
          rw [HPL2.out] at hq
          have HX := Lib.hid (HR.out.same (xs' := lst S (k + 1)) HP.out.1 HP.out.2.1 hg hq (fun O h => by rw [HK.out.2.2.1, ← h, List.append_assoc]))
          clear hq hg
          unfold outV
          go_wp2
          go_roundw
          case rel => exact ⟨k + 1, by have := HK.out; omega, by go_num, _, HX.out⟩
          case measure => have := HK.out; simp [intOf]; omega
        | some y =>
          rw [ho] at HPU HPL
          have HPL2 : Hid (y :: putL m W x = W ++ [x]) := Lib.hid HPL.out
          clear ho HPL
          go_wp2_with fail
          refine HPU.out.mono ?_
          rintro e w2 ⟨rfl, hq, hg⟩
          obtain ⟨o', w3, hrun, happ⟩ := HR.out.app HP.out.1 (by have := HK.out; omega) hg y
          have HX := Lib.hid (HR.out.next (xs' := lst S (k + 1)) HP.out.1 HP.out.2.1 hg hq happ (fun O h => by rw [HK.out.2.2.1, ← h, List.append_assoc, List.singleton_append, HPL2.out, List.append_assoc]))
          clear hq hg happ
          unfold outV
          go_wp2_with (at_builtin; refine wpList_append_run rfl _ _ _ rfl _ _ _ _ rfl rfl hrun ?_)
          go_roundw
          case rel => exact ⟨k + 1, by have := HK.out; omega, by go_num, _, HX.out⟩
          case measure => have := HK.out; simp [intOf]; omega
      · obtain rfl : k = n := by omega
        have hki : ¬ (k : Int) < k := by omega
        have HLE : Hid (W.length ≤ m ∧ m ≤ 64) := Lib.hid (by obtain ⟨O, _, q, _⟩ := HR.out; exact q.le)
        have HLN : Hid (Calls Try.prog 16 #[.pointer (some ⟨p, 0, none⟩)] wr fun e w' => e = .returned (.int .i64 W.length) ∧ wr = w') := Lib.hid (by obtain ⟨O, _, q, _⟩ := HR.out; exact len_qu q)
        have hd : decide (W.length > m) = false := decide_eq_false (by have := HLE.out; omega)
        have hd' : decide (m < W.length) = false := decide_eq_false (by have := HLE.out; omega)
        clear hlt hk HO
        obtain ⟨w2, rfl⟩ : ∃ w2 : World, w2 = wr := ⟨_, rfl⟩
        go_wp2_with fail
        refine HLN.out.mono ?_
        rintro e w' ⟨rfl, rfl⟩
        go_wp2_with fail
        refine (HRM.out _).mono ?_
        rintro e w' ⟨rfl, rfl⟩
        clear HLN
        go_wp2_with fail
        clear hd hd'
        go_loopw [6, 11] (fun o i wr => ∃ j : Nat, j ≤ 70 ∧ i = .int .i64 j ∧ ∃ W, OutW w0 wr b p m o (lst S k) W ∧ (W = [] ∨ W.length + j ≤ 64)) (fun _ i _ => 70 - (intOf i).toNat)
        case atStart => exact ⟨0, by omega, rfl, W, HR.out, .inr (by have := HLE.out; omega)⟩
        case round =>
          obtain ⟨j, hj, rfl, W2, hr2, hw2⟩ := hrel
          have HR2 := Lib.hid hr2
          have HW2 := Lib.hid hw2
          clear hr2 hw2 HLE HR
          by_cases hlt : j < 70
          · have hji : (j : Int) < 70 := by omega
            have HT : Hid (Calls Try.prog 14 #[.pointer (some ⟨p, 0, none⟩)] wr fun e w' => e = .returned (outV W2.head?) ∧ Qu w' p m W2.tail ∧ wr.grownBy w' (some p)) := Lib.hid (by obtain ⟨O, _, q, _⟩ := HR2.out; exact take_qu q)
            have HJ : Hid (j < 70 ∧ k ≤ 150 ∧ (lst S k).length = k) := Lib.hid ⟨hlt, HN.out, lst_length _ _⟩
            clear hlt hj
            cases W2 with
            | nil =>
              go_wp2_with fail
              refine HT.out.mono ?_
              rintro e w3 ⟨rfl, hq, hg⟩
              have HX := Lib.hid (HR2.out.same (xs' := lst S k) HP.out.1 HP.out.2.1 hg hq (fun O h => h))
              clear hq hg
              rw [show outV (([] : List Int).head?) = .tuple #[.int .i64 0, .bool false] from rfl]
              go_wp2
              go_roundw
              case rel => exact ⟨j + 1, by have := HJ.out; omega, by go_num, _, HX.out, .inl rfl⟩
              case measure => have := HJ.out; simp [intOf]; omega
            | cons y t =>
              have HW3 : Hid (t.length + (j + 1) ≤ 64) := Lib.hid (by have := HW2.out.resolve_left (by simp); simp only [List.length_cons] at this; omega)
              go_wp2_with fail
              refine HT.out.mono ?_
              rintro e w3 ⟨rfl, hq, hg⟩
              rw [show outV ((y :: t).head?) = .tuple #[.int .i64 y, .bool true] from rfl]
              rw [show (y :: t).tail = t from rfl] at hq
              obtain ⟨o', w4, hrun, happ⟩ := HR2.out.app HP.out.1 (by have := HJ.out; omega) hg y
              have HX := Lib.hid (HR2.out.next (xs' := lst S k) HP.out.1 HP.out.2.1 hg hq happ (fun O h => by rw [← h, List.append_assoc, List.singleton_append]))
              clear hq hg happ
              go_wp2_with (at_builtin; refine wpList_append_run rfl _ _ _ rfl _ _ _ _ rfl rfl hrun ?_)
              go_roundw
              case rel => exact ⟨j + 1, by have := HJ.out; omega, by go_num, _, HX.out, .inr HW3.out⟩
              case measure => have := HJ.out; simp [intOf]; omega
          · obtain rfl : j = 70 := by omega
            obtain rfl : W2 = [] := HW2.out.resolve_right (by omega)
            have hji : ¬ ((70 : Nat) : Int) < 70 := by omega
            obtain ⟨O, k1, k2, k3, k4, k5⟩ := HR2.out
            rw [List.append_nil] at k3
            subst k3
            have HS := Lib.hid (same_at k1.rd.sh ((HB.out.sh (c := cap)).grown k4) (by rw [lst_length]; have := HN.out; omega))
            have HQ := Lib.hid k2
            have HG := Lib.hid k4
            clear k1 k2 k4 k5 HR2 HW2 hlt hj
            obtain ⟨w3, rfl⟩ : ∃ w3 : World, w3 = wr := ⟨_, rfl⟩
            go_wp2_with fail
            refine HS.out.mono ?_
            rintro e w4 ⟨rfl, hg⟩
            have HQ4 := Lib.hid (HQ.out.grown hg)
            have HG4 := Lib.hid (grown_trans HG.out hg)
            clear hg HS HQ HG
            go_wp2_with fail
            refine (len_qu HQ4.out).mono ?_
            rintro e w5 ⟨rfl, rfl⟩
            rw [show ((([] : List Int).length : Nat) : Int) = 0 from rfl]
            go_wp2_with fail
            refine (awake11_at w4).mono ?_
            rintro e w5 ⟨rfl, hg⟩
            have HG5 := Lib.hid (grown_trans HG4.out hg)
            clear hg
            go_wp2
            go_ret
            exact ⟨rfl, HG5.out⟩
end Go.Proofs.Ytldpljfanlhooaa
