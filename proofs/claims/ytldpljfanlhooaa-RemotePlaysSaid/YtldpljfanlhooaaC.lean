/- The walks of package quar: what waits in a ring. -/
import Derived.Test.YtldpljfanlhooaaB
import Derived.Deep.QuietTactic
import Derived.BigQuiet
import Derived.Deep.RegionHeld3
import Derived.Deep.DeepCutAuto
import Derived.Lib.Hide
namespace Go.Proofs.Ytldpljfanlhooaa
open Go.RowKit
open Is

theorem quiet_left' {P : Program} {f : FuncId} {args : Array Value} {w : World} {n : Nat} {v : Value}
    (h : Calls P f args (w.drewN n) fun e w' => e = .returned v ∧ w.drewN n = w') : Calls P f args (w.drewN n) fun e w'' => e = .returned v ∧ ∃ m, w'' = w.drewN m := quiet_left h

/-- A quarantine's object at block p: its ring, where it begins, how many wait, how many may. -/
structure QuW (w : World) (p f n m : Nat) (R : Nat → Int) : Prop where
  c : ∀ i, i < 64 → w.cell? ⟨p, i, none⟩ = some (.int .i64 (R i))
  c64 : w.cell? ⟨p, 64, none⟩ = some (.int .i64 f)
  c65 : w.cell? ⟨p, 65, none⟩ = some (.int .i64 n)
  c66 : w.cell? ⟨p, 66, none⟩ = some (.int .i64 m)
  fz : ∀ k, w.frozen? ⟨p, k, none⟩ = false
  f64 : f < 64
  nm : n ≤ m
  m64 : m ≤ 64
theorem QuW.lt {w : World} {p f n m : Nat} {R : Nat → Int} (h : QuW w p f n m R) : p < w.heap.size := World.block_lt_of_cell? w ⟨p, 64, none⟩ h.c64
theorem frozen_kept {w w' : World} {r : Option Nat} (hg : w.grownBy w' r) {p : Nat} (hlt : p < w.heap.size) (hr : some p ≠ r) (k : Nat) : w'.frozen? ⟨p, k, none⟩ = w.frozen? ⟨p, k, none⟩ :=
  World.frozen?_of_block (hg.block p hlt hr)
theorem QuW.kept {w w' : World} {r : Option Nat} {p f n m : Nat} {R : Nat → Int} (h : QuW w p f n m R) (hg : w.grownBy w' r) (hr : some p ≠ r) : QuW w' p f n m R :=
  ⟨fun i hi => hg.cell (h.c i hi) hr, hg.cell h.c64 hr, hg.cell h.c65 hr, hg.cell h.c66 hr, fun k => by rw [frozen_kept hg h.lt hr]; exact h.fz k, h.f64, h.nm, h.m64⟩
theorem set_other {w : World} {p i j : Nat} {u v : Value} (hij : i ≠ j) (h : w.cell? ⟨p, j, none⟩ = some v) : (w.setCell ⟨p, i, none⟩ u).cell? ⟨p, j, none⟩ = some v := by
  rw [World.cell?_setCell_other _ _ _ _ (fun x => hij (congrArg Addr.off x))]; exact h
theorem set_same {w : World} {p i : Nat} {u v : Value} (h : w.cell? ⟨p, i, none⟩ = some v) : (w.setCell ⟨p, i, none⟩ u).cell? ⟨p, i, none⟩ = some u :=
  World.cell?_setCell_same' _ _ _ (by rw [h]; rfl)
/-- One place of the ring is another one. -/
theorem QuW.ring {w : World} {p f n m : Nat} {R : Nat → Int} (h : QuW w p f n m R) {k : Nat} (hk : k < 64) (x : Int) : QuW (w.setCell ⟨p, k, none⟩ (.int .i64 x)) p f n m (fun i => if i = k then x else R i) := by
  refine ⟨fun i hi => ?_, set_other (by omega) h.c64, set_other (by omega) h.c65, set_other (by omega) h.c66, fun j => by rw [World.frozen?_setCell]; exact h.fz j, h.f64, h.nm, h.m64⟩
  by_cases e : i = k
  · subst e; rw [if_pos rfl]; exact set_same (h.c i hi)
  · rw [if_neg e]; exact set_other (Ne.symm e) (h.c i hi)
theorem QuW.first {w : World} {p f n m : Nat} {R : Nat → Int} (h : QuW w p f n m R) {f' : Nat} (hf : f' < 64) : QuW (w.setCell ⟨p, 64, none⟩ (.int .i64 f')) p f' n m R :=
  ⟨fun i hi => set_other (by omega) (h.c i hi), set_same h.c64, set_other (by omega) h.c65, set_other (by omega) h.c66, fun j => by rw [World.frozen?_setCell]; exact h.fz j, hf, h.nm, h.m64⟩
theorem QuW.many {w : World} {p f n m : Nat} {R : Nat → Int} (h : QuW w p f n m R) {n' : Nat} (hn : n' ≤ m) : QuW (w.setCell ⟨p, 65, none⟩ (.int .i64 n')) p f n' m R :=
  ⟨fun i hi => set_other (by omega) (h.c i hi), set_other (by omega) h.c64, set_same h.c65, set_other (by omega) h.c66, fun j => by rw [World.frozen?_setCell]; exact h.fz j, h.f64, hn, h.m64⟩

theorem place_at {w : World} {p f n m : Nat} {R : Nat → Int} (h : QuW w p f n m R) (k : Nat) (hk : k ≤ 64) :
    Calls Try.prog 34 #[.pointer (some ⟨p, 0, none⟩), .int .i64 k] w fun e w' => e = .returned (.int .i64 ((f + k) % 64 : Nat)) ∧ w = w' := by
  have c64 := h.c64
  have hf := h.f64
  have e1 : IntKind.i64.wrap ((f : Int) + k) = ((f + k : Nat) : Int) := by rw [IntKind.wrap_i64]; omega
  have e2 : ((f + k : Nat) : Int) % 64 = (((f + k) % 64 : Nat) : Int) := by omega
  have hs : (0 : Int) ≤ ((f + k : Nat) : Int) ∧ ((f + k : Nat) : Int) ≤ 200 := by omega
  obtain ⟨h0, h1⟩ := hs
  have HE := Lib.hid e2
  clear h hf hk e2
  generalize ((f + k : Nat) : Int) = s at *
  generalize (((f + k) % 64 : Nat) : Int) = r at *
  generalize (f : Int) = ff at *
  generalize (k : Int) = kk at *
  go_enter Try.func34, Try.ntmps34
  go_wp2
  go_ret
  exact ⟨ret_int HE.out, rfl⟩
theorem qlen_nil (w : World) :
    Calls Try.prog 16 #[.pointer none] w fun e w' => e = .returned (.int .i64 0) ∧ w = w' := by
  go_enter Try.func16, Try.ntmps16
  go_wp2
  go_ret
  exact ⟨rfl, rfl⟩
theorem qlen_at {w : World} {p f n m : Nat} {R : Nat → Int} (h : QuW w p f n m R) :
    Calls Try.prog 16 #[.pointer (some ⟨p, 0, none⟩)] w fun e w' => e = .returned (.int .i64 n) ∧ w = w' := by
  have c65 := h.c65
  clear h
  go_enter Try.func16, Try.ntmps16
  go_wp2
  go_ret
  exact ⟨rfl, rfl⟩

/-! ### Take -/
theorem qtake_nil (w : World) :
    Calls Try.prog 14 #[.pointer none] w fun e w' => e = .returned (.tuple #[.int .i64 0, .bool false]) ∧ w = w' := by
  go_enter Try.func14, Try.ntmps14
  go_wp2_with (go_at_call 16; refine (qlen_nil _).mono ?_; rintro e w' ⟨rfl, rfl⟩)
  go_ret2
  exact ⟨rfl, rfl⟩
theorem qtake_none {w : World} {p f m : Nat} {R : Nat → Int} (h : QuW w p f 0 m R) :
    Calls Try.prog 14 #[.pointer (some ⟨p, 0, none⟩)] w fun e w' => e = .returned (.tuple #[.int .i64 0, .bool false]) ∧ w = w' := by
  have HL := Lib.hid (qlen_at h)
  clear h
  go_enter Try.func14, Try.ntmps14
  go_wp2_with (go_at_call 16; refine HL.out.mono ?_; rintro e w' ⟨rfl, rfl⟩)
  go_ret2
  exact ⟨rfl, rfl⟩
set_option maxRecDepth 100000 in
set_option maxHeartbeats 1000000 in
theorem qtake_some {w : World} {p f n m : Nat} {R : Nat → Int} (h : QuW w p f (n + 1) m R) :
    Calls Try.prog 14 #[.pointer (some ⟨p, 0, none⟩)] w fun e w' => e = .returned (.tuple #[.int .i64 (R f), .bool true]) ∧ QuW w' p ((f + 1) % 64) n m R ∧ w.grownBy w' (some p) := by
  have HL := Lib.hid (qlen_at h)
  have H := Lib.hid h
  have c64 := h.c64
  have hf := h.f64
  have cf := h.c f hf
  have hfi : (f : Int) < 64 := by omega
  have e0 : (((n + 1 : Nat) : Int) == 0) = false := by
    rw [beq_eq_false_iff_ne]; omega
  have hn2 : IntKind.i64.wrap (((n + 1 : Nat) : Int) - 1) = (n : Int) := by rw [IntKind.wrap_i64]; have := h.nm; have := h.m64; omega
  have HNN := Lib.hid h.nm
  have HP := Lib.hid (fun W (k : QuW W p f (n + 1) m R) => place_at k 1 (by decide))
  obtain ⟨f', hr⟩ : ∃ f', (f + 1) % 64 = f' := ⟨_, rfl⟩
  have HR : Hid (f' < 64) := Lib.hid (by omega)
  obtain ⟨x, hx⟩ : ∃ x, R f = x := ⟨_, rfl⟩
  obtain ⟨n1, hn1⟩ : ∃ n1 : Int, ((n + 1 : Nat) : Int) = n1 := ⟨_, rfl⟩
  have HN1 := Lib.hid hn1
  rw [hx] at cf ⊢
  rw [hr] at HP ⊢
  rw [hn1] at HL e0 hn2
  clear h hx hr hn1
  go_enter Try.func14, Try.ntmps14
  go_wp2_with (go_at_call 16; refine HL.out.mono ?_; rintro e w' ⟨rfl, rfl⟩)
  clear HL e0
  go_quiet (fail)
  rename Nat => nq
  obtain ⟨w1, hw1⟩ : ∃ w1 : World, w1 = w.drewN nq := ⟨_, rfl⟩
  have H1 : Hid (QuW w1 p f (n + 1) m R) := Lib.hid (by rw [hw1]; exact H.out.kept (grown_drew (grown_refl w none) nq) (by simp))
  have HG1 : Hid (w.grownBy w1 (some p)) := Lib.hid (by rw [hw1]; exact grown_drew (grown_refl w _) nq)
  rw [← hw1]
  clear hw1 c64 cf H
  have HP1 := Lib.hid (HP.out _ H1.out)
  have z := H1.out.fz
  have d64 := H1.out.c64
  clear HP
  go_wp2_with fail
  refine HP1.out.mono ?_
  rintro e w' ⟨rfl, rfl⟩
  go_upto_region 5 with (fail)
  have H2 := Lib.hid (H1.out.first HR.out)
  have HG2 := Lib.hid (grown_trans HG1.out (set_grown w1 p 64 (.int .i64 f')))
  clear z d64 HP1 H1 HG1
  generalize w1.setCell ⟨p, 64, none⟩ (.int .i64 f') = w2 at *
  have z := H2.out.fz
  have d65 := H2.out.c65
  have HD := Lib.hid (H2.out.many (n' := n) (by have := HNN.out; omega))
  rw [HN1.out] at d65
  go_wp2
  go_ret2
  exact ⟨rfl, HD.out, grown_trans HG2.out (set_grown w2 p 65 (.int .i64 n))⟩

/-! ### Put -/
theorem qput_nil (a : Int) (w : World) :
    Calls Try.prog 11 #[.pointer none, .int .i64 a] w fun e w' => e = .returned (.tuple #[.int .i64 0, .bool false]) ∧ w = w' := by
  go_enter Try.func11, Try.ntmps11
  go_wp2
  go_ret2
  exact ⟨rfl, rfl⟩
theorem qput_none {w : World} {p f n : Nat} {R : Nat → Int} (h : QuW w p f n 0 R) (a : Int) :
    Calls Try.prog 11 #[.pointer (some ⟨p, 0, none⟩), .int .i64 a] w fun e w' => e = .returned (.tuple #[.int .i64 a, .bool true]) ∧ w = w' := by
  have c66 := h.c66
  clear h
  go_enter Try.func11, Try.ntmps11
  go_wp2
  go_ret2
  exact ⟨rfl, rfl⟩
/-- What a Put leaves. -/
def Putted (w w' : World) (p f n m : Nat) (R : Nat → Int) (a : Int) : Prop := QuW w' p f (n + 1) m (fun i => if i = (f + n) % 64 then a else R i) ∧ w.grownBy w' (some p)
set_option maxRecDepth 100000 in
set_option maxHeartbeats 1000000 in
theorem qput_room {w : World} {p f n m : Nat} {R : Nat → Int} (h : QuW w p f n m R) (hnm : n < m) (a : Int) :
    Calls Try.prog 11 #[.pointer (some ⟨p, 0, none⟩), .int .i64 a] w fun e w' => e = .returned (.tuple #[.int .i64 0, .bool false]) ∧ Putted w w' p f n m R a := by
  have H := Lib.hid h
  have HNM := Lib.hid hnm
  have hm := h.m64
  have c65 := h.c65
  have c66 := h.c66
  have e0 : ((m : Int) == 0) = false := by rw [beq_eq_false_iff_ne]; omega
  have e1 : ((n : Int) == m) = false := by rw [beq_eq_false_iff_ne]; omega
  have HP := Lib.hid (fun W (k : QuW W p f n m R) => place_at k n (by omega))
  have hn2 : IntKind.i64.wrap ((n : Int) + 1) = ((n + 1 : Nat) : Int) := by rw [IntKind.wrap_i64]; omega
  obtain ⟨r, hr⟩ : ∃ r, (f + n) % 64 = r := ⟨_, rfl⟩
  have HR : Hid (r < 64) := Lib.hid (by omega)
  have hri : (r : Int) < 64 := by omega
  unfold Putted
  rw [hr] at HP ⊢
  clear h hr hnm hm
  go_enter Try.func11, Try.ntmps11
  go_wp2
  go_quiet (fail)
  rename Nat => nq
  obtain ⟨w1, hw1⟩ : ∃ w1 : World, w1 = w.drewN nq := ⟨_, rfl⟩
  have H1 : Hid (QuW w1 p f n m R) := Lib.hid (by rw [hw1]; exact H.out.kept (grown_drew (grown_refl w none) nq) (by simp))
  have HG1 : Hid (w.grownBy w1 (some p)) := Lib.hid (by rw [hw1]; exact grown_drew (grown_refl w _) nq)
  rw [← hw1]
  clear hw1 c65 c66 H e0 e1
  have HP1 := Lib.hid (fun W (g : w1.grownBy W none) => HP.out W (H1.out.kept g (by simp)))
  have HK := Lib.hid (fun W (g : w1.grownBy W none) => And.intro (H1.out.kept g (by simp)).c65 (H1.out.kept g (by simp)).fz)
  obtain ⟨d65, z⟩ := HK.out _ (grown_refl w1 none)
  have dr := H1.out.c r HR.out
  have hg1 := grown_drew1 (grown_refl w1 none)
  clear HP
  go_upto_region 8 with (fail)
  go_cut [] (fun W => QuW W p f n m (fun i => if i = r then a else R i) ∧ w1.grownBy W (some p))
  case first =>
    have HX : Hid (∀ W, w1.grownBy W none → QuW (W.setCell ⟨p, r, none⟩ (.int .i64 a)) p f n m (fun i => if i = r then a else R i) ∧ w1.grownBy (W.setCell ⟨p, r, none⟩ (.int .i64 a)) (some p)) :=
      Lib.hid (fun W g => ⟨(H1.out.kept g (by simp)).ring HR.out a, grown_trans (grown_none g) (set_grown W p r (.int .i64 a))⟩)
    go_region_held3 (fun w' => w'.cell? ⟨p, 65, none⟩ = some (.int .i64 n))
      (first | exact d65 | exact set_other (by have := HR.out; omega) d65)
      (first
      | (go_at_call 34; refine (HP1.out _ (by assumption)).mono ?_; rintro e w' ⟨rfl, rfl⟩))
    all_goals
      go_wp2
      go_meet
      exact HX.out _ hg1
  case rest =>
    have H2 := Lib.hid hcut.1
    have HG2 := Lib.hid (grown_trans HG1.out hcut.2)
    clear hcut HK d65 hg1 HP1 dr
    obtain ⟨w4, rfl⟩ : ∃ w4 : World, w4 = wc := ⟨_, rfl⟩
    have z := H2.out.fz
    have d65 := H2.out.c65
    have HD := Lib.hid (H2.out.many (n' := n + 1) (by have := HNM.out; omega))
    go_wp2
    go_ret2
    exact ⟨rfl, HD.out, grown_trans HG2.out (set_grown w4 p 65 (.int .i64 (n + 1 : Nat)))⟩
set_option maxRecDepth 100000 in
set_option maxHeartbeats 1000000 in
theorem qput_full {w : World} {p f n m : Nat} {R : Nat → Int} (h : QuW w p f (n + 1) m R) (hnm : n + 1 = m) (a : Int) :
    Calls Try.prog 11 #[.pointer (some ⟨p, 0, none⟩), .int .i64 a] w fun e w' => e = .returned (.tuple #[.int .i64 (R f), .bool true]) ∧ Putted w w' p ((f + 1) % 64) n m R a := by
  have H := Lib.hid h
  have HNM : Hid (n < m) := Lib.hid (by omega)
  have hm := h.m64
  have c65 := h.c65
  have c66 := h.c66
  have e0 : ((m : Int) == 0) = false := by rw [beq_eq_false_iff_ne]; omega
  rw [hnm] at c65
  have e1 : ((m : Int) == m) = true := by simp
  have HT := Lib.hid (fun W (k : QuW W p f (n + 1) m R) => qtake_some k)
  have hn2 : IntKind.i64.wrap ((n : Int) + 1) = ((n + 1 : Nat) : Int) := by rw [IntKind.wrap_i64]; omega
  obtain ⟨f', hf⟩ : ∃ f', (f + 1) % 64 = f' := ⟨_, rfl⟩
  have HP := Lib.hid (fun W (k : QuW W p f' n m R) => place_at k n (by omega))
  obtain ⟨r, hr⟩ : ∃ r, (f' + n) % 64 = r := ⟨_, rfl⟩
  have HR : Hid (r < 64) := Lib.hid (by omega)
  have hri : (r : Int) < 64 := by omega
  obtain ⟨x, hx⟩ : ∃ x, R f = x := ⟨_, rfl⟩
  unfold Putted
  rw [hf] at HT ⊢
  rw [hx] at HT ⊢
  rw [hr] at HP ⊢
  clear h hr hnm hm hf hx
  go_enter Try.func11, Try.ntmps11
  go_wp2
  go_quiet (fail)
  rename Nat => nq
  obtain ⟨w0, hw0⟩ : ∃ w0 : World, w0 = w.drewN nq := ⟨_, rfl⟩
  have HT0 : Hid (QuW w0 p f (n + 1) m R) := Lib.hid (by rw [hw0]; exact H.out.kept (grown_drew (grown_refl w none) nq) (by simp))
  have HG0 : Hid (w.grownBy w0 (some p)) := Lib.hid (by rw [hw0]; exact grown_drew (grown_refl w _) nq)
  rw [← hw0]
  clear hw0 c65 c66 H e0 e1
  have HT1 := Lib.hid (HT.out _ HT0.out)
  clear HT HT0
  go_wp2_with fail
  refine HT1.out.mono ?_
  rintro e w1 ⟨rfl, hq, hg⟩
  have H1 := Lib.hid hq
  have HG1 := Lib.hid (grown_trans HG0.out hg)
  clear hq hg HT1 HG0
  have HP1 := Lib.hid (fun W (g : w1.grownBy W none) => HP.out W (H1.out.kept g (by simp)))
  have HK := Lib.hid (fun W (g : w1.grownBy W none) => And.intro (H1.out.kept g (by simp)).c65 (H1.out.kept g (by simp)).fz)
  obtain ⟨d65, z⟩ := HK.out _ (grown_refl w1 none)
  have dr := H1.out.c r HR.out
  have hg1 := grown_drew1 (grown_refl w1 none)
  clear HP
  go_upto_region 8 with (fail)
  go_cut [] (fun W => QuW W p f' n m (fun i => if i = r then a else R i) ∧ w1.grownBy W (some p))
  case first =>
    have HX : Hid (∀ W, w1.grownBy W none → QuW (W.setCell ⟨p, r, none⟩ (.int .i64 a)) p f' n m (fun i => if i = r then a else R i) ∧ w1.grownBy (W.setCell ⟨p, r, none⟩ (.int .i64 a)) (some p)) :=
      Lib.hid (fun W g => ⟨(H1.out.kept g (by simp)).ring HR.out a, grown_trans (grown_none g) (set_grown W p r (.int .i64 a))⟩)
    go_region_held3 (fun w' => w'.cell? ⟨p, 65, none⟩ = some (.int .i64 n))
      (first | exact d65 | exact set_other (by have := HR.out; omega) d65)
      (first
      | (go_at_call 34; refine (HP1.out _ (by assumption)).mono ?_; rintro e w' ⟨rfl, rfl⟩))
    all_goals
      go_wp2
      go_meet
      exact HX.out _ hg1
  case rest =>
    have H2 := Lib.hid hcut.1
    have HG2 := Lib.hid (grown_trans HG1.out hcut.2)
    clear hcut HK d65 hg1 HP1 dr
    obtain ⟨w4, rfl⟩ : ∃ w4 : World, w4 = wc := ⟨_, rfl⟩
    have z := H2.out.fz
    have d65 := H2.out.c65
    have HD := Lib.hid (H2.out.many (n' := n + 1) (by have := HNM.out; omega))
    go_wp2
    go_ret2
    exact ⟨rfl, HD.out, grown_trans HG2.out (set_grown w4 p 65 (.int .i64 (n + 1 : Nat)))⟩

/-! ### New -/
def QuMade (w w' : World) (m : Nat) (e : Ending) : Prop := ∃ p, e = .returned (.pointer (some ⟨p, 0, none⟩)) ∧ QuW w' p 0 0 m (fun _ => 0) ∧ w.heap.size ≤ p ∧ w.grownBy w' none
/-- How many may wait. -/
def mostV (k : Int) : Nat := if k < 0 then 0 else if 64 < k then 64 else k.toNat
theorem mostV_le (k : Int) : mostV k ≤ 64 := by unfold mostV; split; omega; split <;> omega
theorem zeros_made (w : World) (m : Nat) (hm : m ≤ 64) (t : TypeId) (cs : Array Value) (h0 : ∀ i, i < 66 → cs[i]? = some (.int .i64 0)) (h1 : cs[66]? = some (.int .i64 m)) :
    QuMade w (w.alloc (.cells cs t)) m (.returned (.pointer (some ⟨w.heap.size, 0, none⟩))) := by
  refine ⟨_, rfl, ⟨fun i hi => ?_, ?_, ?_, ?_, fun k => frozen_alloc_new w cs t k, by omega, by omega, hm⟩, Nat.le_refl _, grown_alloc _ _ _⟩
  · rw [cell_alloc_new]; exact h0 i (by omega)
  · rw [cell_alloc_new]; exact h0 64 (by omega)
  · rw [cell_alloc_new]; exact h0 65 (by omega)
  · rw [cell_alloc_new]; exact h1
def zq : Array Value := Array.replicate 67 (.int .i64 0)
theorem zero_quar (w : World) : (zeroValue 58).run Try.prog w = .ok (.agg zq) w := by kernel_rfl
theorem zq_size : zq.size = 67 := by simp [zq]
theorem zq_at (i : Nat) (h : i < 67) : zq[i]? = some (.int .i64 0) := by simp [zq, h]
theorem zq_made (w : World) (m : Nat) (hm : m ≤ 64) : QuMade w (w.alloc (.cells (zq.setIfInBounds 66 (.int .i64 m)) 58)) m (.returned (.pointer (some ⟨w.heap.size, 0, none⟩))) :=
  zeros_made w m hm _ _ (fun i hi => by rw [Array.getElem?_setIfInBounds, if_neg (by omega)]; exact zq_at i (by omega)) (by rw [Array.getElem?_setIfInBounds, if_pos rfl, if_pos (by rw [zq_size]; omega)])
set_option maxRecDepth 100000 in
set_option maxHeartbeats 1000000 in
theorem qnew_at (k : Int) (w : World) : Calls Try.prog 10 #[.int .i64 k] w fun e w' => QuMade w w' (mostV k) e := by
  have HZ := Lib.hid (zq_made w (mostV k) (mostV_le k))
  have hz := zero_quar w
  have hs := zq_size
  have hc : (k < 0 ∧ mostV k = 0) ∨ (64 < k ∧ mostV k = 64) ∨ (0 ≤ k ∧ k ≤ 64 ∧ ((mostV k : Nat) : Int) = k) := by
    unfold mostV; split
    · exact .inl ⟨by assumption, rfl⟩
    · split
      · exact .inr (.inl ⟨by assumption, rfl⟩)
      · exact .inr (.inr ⟨by omega, by omega, by omega⟩)
  generalize mostV k = m at *
  generalize zq = Z at *
  rcases hc with ⟨h1, h2⟩ | ⟨h1, h2⟩ | ⟨h1, h2, h3⟩
  · subst h2
    go_enter Try.func10, Try.ntmps10
    go_wp2
    go_ret
    exact HZ.out
  · subst h2
    go_enter Try.func10, Try.ntmps10
    go_wp2
    go_ret
    exact HZ.out
  · subst h3
    go_enter Try.func10, Try.ntmps10
    go_wp2
    go_ret
    exact HZ.out
end Go.Proofs.Ytldpljfanlhooaa
