/- Merged texts: OA OB OC OD OE. -/
import Derived.Test.YtgnfcklippjeeaaGreatK7
import Derived.Test.YtgnfcklippjeeaaGreatK8
import Derived.Deep.RegionHeld3
import Derived.Deep.DeepCutAuto
/- The document's slab: how it stands in the world; the walks of base, put, with, must, Count. -/
namespace Go.Proofs.YtgnfcklippjeeaaGreat
open Go.RowKit
open Sl (Cls bs upd)

/-! Lists of numbers. -/
structure IntsAt (w : World) (q n : Nat) (S : Nat → Nat) : Prop where
  c : ∀ i, i < n → w.cell? ⟨q, i, none⟩ = some (.int .i64 (S i : Nat))
  fz : ∀ k, w.frozen? ⟨q, k, none⟩ = false
  qlt : q < w.heap.size
theorem IntsAt.grown {w w' : World} {q n : Nat} {S : Nat → Nat} {r : Option Nat} (h : IntsAt w q n S) (hg : w.grownBy w' r) (hr : some q ≠ r) : IntsAt w' q n S :=
  ⟨fun i hi => hg.cell (h.c i hi) hr, fun k => by rw [World.frozen?_of_block (w := w) (hg.block q h.qlt hr)]; exact h.fz k, Nat.lt_of_lt_of_le h.qlt hg.size⟩
theorem IntsAt.fr {may : Nat → Prop} {w w' : World} {q n : Nat} {S : Nat → Nat} (h : IntsAt w q n S) (hf : Fr may w w') (hq : ¬ may q) : IntsAt w' q n S :=
  ⟨fun i hi => hf.cell (h.c i hi) hq, fun k => by rw [hf.frozen h.qlt hq]; exact h.fz k, Nat.lt_of_lt_of_le h.qlt hf.size⟩
theorem IntsAt.set {w : World} {q n : Nat} {S : Nat → Nat} (h : IntsAt w q n S) (k v : Nat) : IntsAt (w.setCell ⟨q, k, none⟩ (.int .i64 v)) q n (upd S k v) where
  c := fun i hi => by
    by_cases e : i = k
    · subst e
      rw [Sl.upd_same]
      exact World.cell?_setCell_same' _ _ _ (by rw [h.c i hi]; rfl)
    · rw [World.cell?_setCell_other _ _ _ _ (fun x => e (congrArg Addr.off x).symm), Sl.upd_other e]
      exact h.c i hi
  fz := fun j => by rw [World.frozen?_setCell]; exact h.fz j
  qlt := by have := h.qlt; simpa [World.setCell] using this
def ivals (S : Nat → Nat) (n : Nat) : List Value := (List.range n).map fun i => Value.int .i64 (S i : Nat)
theorem ivals_length (S : Nat → Nat) (n : Nat) : (ivals S n).length = n := by simp [ivals]
theorem ivals_at (S : Nat → Nat) (n i : Nat) (h : i < n) : (ivals S n)[i]? = some (.int .i64 (S i : Nat)) := by simp [ivals, h]
theorem ivals_one (S : Nat → Nat) (n : Nat) : ∀ u ∈ ivals S n, u.oneCell' = true := by
  intro u hu
  obtain ⟨i, _, rfl⟩ := List.mem_map.1 hu
  rfl
theorem ivals_snoc (S : Nat → Nat) (n : Nat) : ivals S (n + 1) = ivals S n ++ [.int .i64 (S n : Nat)] := by simp [ivals, List.range_succ]
theorem infoInt : (Tryz.prog.info? 3).map (fun i => (i.zero, i.size, i.bytes)) = some (some (.int .i64 0), 1, 8) := by kernel_rfl
def IntsNew (w w' : World) (n : Nat) (S : Nat → Nat) (e : Ending) : Prop :=
  ∃ q cap, e = .returned (.slice (some ⟨q, 0, none⟩) n cap) ∧ n ≤ cap ∧ w.heap.size ≤ q ∧ IntsAt w' q n S ∧ w.grownBy w' none
theorem ints_own {w : World} {n b0 : Nat} {S : Nat → Nat} {v : Value} (h : w.ownsRow b0 3 1 v n (ivals S n)) (hv : v ≠ .slice none 0 0) : ∃ q cap, v = .slice (some ⟨q, 0, none⟩) n cap ∧ n ≤ cap ∧ b0 ≤ q ∧ IntsAt w q n S := by
  obtain ⟨-, hn | ⟨g, cap, cur, rfl, hbg, hh, hnc, hcm, hcs, htake⟩⟩ := h
  · exact absurd hn.1 hv
  · refine ⟨g, cap, rfl, hnc, hbg, ⟨fun i hi => ?_, fun k => ?_, (Array.getElem?_eq_some_iff.1 hh).1⟩⟩
    · have e : w.cell? ⟨g, i, none⟩ = cur[i]? := by simp only [World.cell?, hh]; rfl
      have t := congrArg (fun l => l[i]?) htake
      simp only [List.getElem?_take, Nat.mul_one, hi, if_true, Array.getElem?_toList] at t
      rw [e, t, ivals_at S n i hi]
    · simp only [World.frozen?, hh]
      simp

/-! The slab. -/
/-- The document's slab at block s, without its states: its bytes at block q. -/
structure DbAt (w : World) (s key g N q cap c : Nat) (f : Int) (B : Nat → Nat) : Prop where
  c0 : w.cell? ⟨s, 0, none⟩ = some (.slice (some ⟨q, 0, none⟩) N cap)
  c1 : w.cell? ⟨s, 1, none⟩ = some (.int .u64 (key : Nat))
  c2 : w.cell? ⟨s, 2, none⟩ = some (.int .i64 (g : Nat))
  c3 : w.cell? ⟨s, 3, none⟩ = some (.int .i64 (c : Nat))
  c5 : w.cell? ⟨s, 5, none⟩ = some (.int .i64 f)
  fz : ∀ k, w.frozen? ⟨s, k, none⟩ = false
  b : An.BytesAt w q N B
  qs : q ≠ s
  hcap : N ≤ cap
  small : N ≤ 65536
  gN : g * 256 + 256 ≤ N
  lt : ∀ i, B i < 256
  k : key < 18446744073709551616
theorem DbAt.slt {w : World} {s key g N q cap c : Nat} {f : Int} {B : Nat → Nat} (h : DbAt w s key g N q cap c f B) : s < w.heap.size := World.block_lt_of_cell? w ⟨s, 1, none⟩ h.c1
theorem DbAt.fr {may : Nat → Prop} {w w' : World} {s key g N q cap c : Nat} {f : Int} {B : Nat → Nat} (h : DbAt w s key g N q cap c f B) (hf : Fr may w w') (h1 : ¬ may s) (h2 : ¬ may q) : DbAt w' s key g N q cap c f B :=
  ⟨hf.cell h.c0 h1, hf.cell h.c1 h1, hf.cell h.c2 h1, hf.cell h.c3 h1, hf.cell h.c5 h1, fun k => by rw [hf.frozen h.slt h1]; exact h.fz k, bytes_fr h.b hf h2, h.qs, h.hcap, h.small, h.gN, h.lt, h.k⟩
theorem DbAt.grown {w w' : World} {s key g N q cap c : Nat} {f : Int} {B : Nat → Nat} (h : DbAt w s key g N q cap c f B) (hg : w.grownBy w' none) : DbAt w' s key g N q cap c f B :=
  h.fr (may := fun _ => False) (fr_none hg) (fun h => h) (fun h => h)
/-- Its bytes are others. -/
theorem DbAt.fil {w w' : World} {s key g N q cap c : Nat} {f : Int} {B B' : Nat → Nat} (h : DbAt w s key g N q cap c f B) (k : Fil w w' s N B') (hlt : ∀ i, B' i < 256) : ∃ q' cap', DbAt w' s key g N q' cap' c f B' ∧ w.heap.size ≤ q' := by
  obtain ⟨q1, cap1, k1, k2, k3, k4, k5, k6, k7⟩ := k
  have := h.slt
  exact ⟨q1, cap1, ⟨k1, k6 _ _ (by decide) h.c1, k6 _ _ (by decide) h.c2, k6 _ _ (by decide) h.c3, k6 _ _ (by decide) h.c5, k7, k3, by omega, k2, h.small, h.gN, hlt, h.k⟩, k4⟩
theorem setc_other {w : World} {p o : Nat} {v : Value} {k : Nat} {x : Value} (ne : k ≠ o) (hx : w.cell? ⟨p, k, none⟩ = some x) : (w.setCell ⟨p, o, none⟩ v).cell? ⟨p, k, none⟩ = some x := by
  rw [World.cell?_setCell_other _ _ _ _ (fun e => ne (congrArg Addr.off e).symm)]; exact hx
theorem DbAt.first {w : World} {s key g N q cap c : Nat} {f : Int} {B : Nat → Nat} (h : DbAt w s key g N q cap c f B) (f' : Int) : DbAt (w.setCell ⟨s, 5, none⟩ (.int .i64 f')) s key g N q cap c f' B :=
  ⟨setc_other (by decide) h.c0, setc_other (by decide) h.c1, setc_other (by decide) h.c2, setc_other (by decide) h.c3, World.cell?_setCell_same' _ _ _ (by rw [h.c5]; rfl), fun k => by rw [World.frozen?_setCell]; exact h.fz k, h.b.grown (An.agrown_set _ _ _ _) (some_ne h.qs), h.qs, h.hcap, h.small, h.gN, h.lt, h.k⟩
/-- Its states' cell is another one. -/
theorem DbAt.state {w : World} {s key g N q cap c : Nat} {f : Int} {B : Nat → Nat} (h : DbAt w s key g N q cap c f B) (v : Value) : DbAt (w.setCell ⟨s, 4, none⟩ v) s key g N q cap c f B :=
  ⟨setc_other (by decide) h.c0, setc_other (by decide) h.c1, setc_other (by decide) h.c2, setc_other (by decide) h.c3, setc_other (by decide) h.c5, fun k => by rw [World.frozen?_setCell]; exact h.fz k, h.b.grown (An.agrown_set _ _ _ _) (some_ne h.qs), h.qs, h.hcap, h.small, h.gN, h.lt, h.k⟩

theorem rsize_at {c s n r : Nat} (h : Cls c s n r) (w : World) : Calls Tryz.prog 103 #[.int .i64 (c : Nat)] w fun e w' => e = .returned (.int .i64 (s : Nat)) ∧ w = w' := rsize_yes w h.cl
theorem rslots_at {c s n r : Nat} (h : Cls c s n r) (w : World) : Calls Tryz.prog 158 #[.int .i64 (c : Nat)] w fun e w' => e = .returned (.int .i64 (n : Nat)) ∧ w = w' := rslots_yes w h.cl

set_option maxRecDepth 100000 in
set_option maxHeartbeats 400000 in
theorem dbase_at {c z n r s g k : Nat} {w : World} (hc : Cls c z n r) (hg : g < 256) (hk : k < n) (c2 : w.cell? ⟨s, 2, none⟩ = some (.int .i64 (g : Nat))) (c3 : w.cell? ⟨s, 3, none⟩ = some (.int .i64 (c : Nat))) :
    Calls Tryz.prog 162 #[.pointer (some ⟨s, 0, none⟩), .int .i64 k] w fun e w' => e = .returned (.int .i64 (bs g z k : Nat)) ∧ ∃ d, w' = w.drewN d := by
  have HS := Lib.hid (fun w => rsize_at hc w)
  have b1 := Sl.bs_hi hc g hk
  have e0 : ((z : Nat) : Int) * (k : Nat) = ((bs g z k : Nat) : Int) - 256 * (g : Int) := by
    unfold bs
    rw [Int.mul_comm]
    have : ((k * z : Nat) : Int) = (k : Int) * z := by simp
    omega
  have b2 := Sl.bs_lo g z k
  obtain ⟨u, hu⟩ : ∃ u : Int, 256 * (g : Int) = u := ⟨_, rfl⟩
  obtain ⟨x, hx⟩ : ∃ x : Int, ((bs g z k : Nat) : Int) - 256 * (g : Int) = x := ⟨_, rfl⟩
  have e1 : IntKind.i64.wrap (((z : Nat) : Int) * (k : Nat)) = x := by rw [e0, IntKind.wrap_i64]; omega
  have e2 : IntKind.i64.wrap (u + x) = ((bs g z k : Nat) : Int) := by rw [IntKind.wrap_i64]; omega
  have e3 : IntKind.i64.wrap (256 * (g : Int)) = u := by rw [IntKind.wrap_i64]; omega
  clear hc hk b1 b2 e0 hg hu hx
  generalize ((bs g z k : Nat) : Int) = y at *
  go_enter Tryz.func162, Tryz.ntmps162
  go_wp2
  go_quiet ((go_at_call 103; exact quiet_left (HS.out _)))
  go_wp2
  go_ret
  exact ⟨rfl, _, rfl⟩

set_option maxRecDepth 100000 in
set_option maxHeartbeats 2000000 in
theorem dput_at {w : World} {s q N c a n t sc : Nat} {B S : Nat → Nat} (hc0 : w.cell? ⟨s, 0, none⟩ = some (.slice (some ⟨q, 0, none⟩) N c)) (hb : An.BytesAt w q N B) (hs : An.BytesAt w t n S) (hfz : ∀ k, w.frozen? ⟨s, k, none⟩ = false) (hn : 1 ≤ n) (ha : a + n ≤ N) (hN : N ≤ 65536) :
    Calls Tryz.prog 161 #[.pointer (some ⟨s, 0, none⟩), .int .i64 a, .slice (some ⟨t, 0, none⟩) n sc] w fun e w' => e = .returned (.tuple #[]) ∧ Fil w w' s N (Ar.setB B a n S) := by
  have H := Lib.hid hb
  have HS := Lib.hid hs
  have HP := Lib.hid (World.block_lt_of_cell? w ⟨s, 0, none⟩ hc0)
  have HF := Lib.hid hfz
  have HC := Lib.hid hc0
  have hat : a ≤ 65536 := by omega
  have hatN : (a : Int) ≤ N := by omega
  have hc0' := (grown_alloc w (.cells #[] 5) none).cell hc0 (by simp)
  clear hb hs hfz
  obtain ⟨i0, hi, hz0, hz1, hz2⟩ := info_parts An.infoByte
  go_enter Tryz.func161, Tryz.ntmps161
  go_wp2_with (at_builtin; refine wpList_append_own _ rfl _ _ 24 rfl w.heap.size 5 i0 (.int .u8 0) 1 1 Tryz.underlying24 hi hz0 hz1 hz2 rfl (by decide) _ _ _ rfl (World.ownsRow_made w #[] 0 (Nat.le_refl _) (Nat.zero_le _) rfl) ⟨q, 0, none⟩ N c (An.bvals B N) rfl ?c1 ?c2 ?c3 ?c4 ?c5 ?c6 ?_)
  case c1 => rw [An.bvals_length]
  case c2 =>
    intro j u hj
    have hj' : j < N := by
      have := (List.getElem?_eq_some_iff.1 hj).1
      rwa [An.bvals_length] at this
    rw [An.bvals_at B N j hj'] at hj
    have h2 := (grown_alloc w (.cells #[] 5) none).cell (H.out.c j hj') (by simp)
    rw [← hj]
    exact h2
  case c3 => exact An.bvals_one B N
  case c4 => simp only [maxLen]; omega
  case c5 => omega
  intro v' w1 hown hgrow hiff
  have hv : v' ≠ .slice none 0 0 := fun e => hiff e
  obtain ⟨q1, cap1, rfl, k1, k2, k3, k4⟩ := An.bytesNew_val (An.bytes_end w w1 N B v' (by simpa using hown) (grown_own (grown_alloc w _ none) hgrow (Nat.le_refl _)) hv)
  clear hown hgrow hiff hv hi hz0 hz1 hz2
  have hs1 : n = 0 ∨ ∃ b off, (some ⟨t, 0, none⟩ : Option Addr) = some ⟨b, off, none⟩ ∧ ∀ i, i < n → w1.cell? ⟨b, off + i, none⟩ = some (.int .u8 (S i : Nat)) := .inr ⟨t, 0, rfl, fun i hi => by rw [Nat.zero_add]; exact k4.cell (HS.out.c i hi) (by simp)⟩
  have HK := Lib.hid (And.intro k1 (And.intro k2 k4))
  have hNc : (N : Int) ≤ cap1 := by omega
  have hca : ¬ cap1 = a := by omega
  obtain ⟨w3, hrun, hb3, hg3⟩ := An.copy_run2 k3 a (N - a) n (cap1 - a) (by omega) (by omega) S _ sc hs1
  have hrun := hrun 3
  have HB3 := Lib.hid hb3
  have HG3 := Lib.hid (grown_own k4 hg3 k2)
  have d0 := HG3.out.cell HC.out (by simp)
  have z0 : w3.frozen? ⟨s, 0, none⟩ = false := by rw [World.frozen?_of_block (w := w) (HG3.out.block s HP.out (by simp))]; exact HF.out 0
  have HQ : Hid (s ≠ q1) := Lib.hid (by have := HP.out; omega)
  clear hs1 k1 k2 k3 k4 hb3 hg3 hc0 hc0' hn
  go_wp2
  go_end0
  refine ⟨rfl, q1, cap1, World.cell?_setCell_same' _ _ _ (by rw [d0]; rfl), HK.out.1, HB3.out.grown (An.agrown_set _ _ _ _) (some_ne HQ.out.symm), HK.out.2.1, grown_trans (grown_none HG3.out) (An.agrown_set _ _ _ _), fun o v ho hc => ?_, fun k => ?_⟩
  · rw [World.cell?_setCell_other _ _ _ _ (fun x => ho (congrArg Addr.off x).symm)]
    exact HG3.out.cell hc (by simp)
  · rw [World.frozen?_setCell, World.frozen?_of_block (w := w) (HG3.out.block s HP.out (by simp))]
    exact HF.out k

set_option maxRecDepth 100000 in
set_option maxHeartbeats 2000000 in
theorem dwith_at {w : World} {A n ac k v : Nat} {S : Nat → Nat} (h : IntsAt w A n S) (hk : k < n) (hn : n ≤ 16) :
    Calls Tryz.prog 164 #[.slice (some ⟨A, 0, none⟩) n ac, .int .i64 k, .int .i64 v] w fun e w' => IntsNew w w' n (upd S k v) e := by
  have H := Lib.hid h
  have hki : (k : Int) < n := by omega
  have hk16 : (k : Int) ≤ 16 := by omega
  have HNN := Lib.hid hn
  have HKK := Lib.hid hk
  clear h hn hk
  obtain ⟨i0, hi, hz0, hz1, hz2⟩ := info_parts infoInt
  go_enter Tryz.func164, Tryz.ntmps164
  go_wp2_with (at_builtin; refine wpList_append_own _ rfl _ _ 78 rfl w.heap.size 3 i0 (.int .i64 0) 1 8 Tryz.underlying78 hi hz0 hz1 hz2 rfl (by decide) _ _ _ rfl (World.ownsRow_made w #[] 0 (Nat.le_refl _) (Nat.zero_le _) rfl) ⟨A, 0, none⟩ n ac (ivals S n) rfl ?c1 ?c2 ?c3 ?c4 ?c5 ?c6 ?_)
  case c1 => rw [ivals_length, Nat.mul_one]
  case c2 =>
    intro j u hj
    have hj' : j < n := by
      have := (List.getElem?_eq_some_iff.1 hj).1
      rwa [ivals_length] at this
    rw [ivals_at S n j hj'] at hj
    have h2 := (grown_alloc w (.cells #[] 3) none).cell (H.out.c j hj') (by simp)
    rw [← hj, An.aaddr_add]
    simpa using h2
  case c3 => exact ivals_one S n
  case c4 => have := HNN.out; simp only [maxLen]; omega
  case c5 => have := HNN.out; omega
  case c6 => simp
  intro v' w1 hown hgrow hiff
  have hv : v' ≠ .slice none 0 0 := fun e => hiff e
  obtain ⟨q1, cap1, rfl, k1, k2, k3⟩ := ints_own (S := S) (n := n) (by simpa using hown) hv
  have k4 := grown_own (grown_alloc w _ none) hgrow (Nat.le_refl _)
  have HK := Lib.hid (And.intro k1 (And.intro k2 k4))
  have H3 := Lib.hid k3
  have d0 := k3.c k HKK.out
  have z0 := k3.fz k
  clear hown hgrow hiff hv hi hz0 hz1 hz2 k1 k2 k3 k4
  generalize S k = old at d0
  go_wp2
  go_ret
  exact ⟨q1, cap1, rfl, HK.out.1, HK.out.2.1, H3.out.set k v, grown_own HK.out.2.2 (An.agrown_set _ _ _ _) HK.out.2.1⟩

set_option maxRecDepth 100000 in
set_option maxHeartbeats 1000000 in
theorem dmust_at {w : World} {s A n ac k x : Nat} {S : Nat → Nat} (c4 : w.cell? ⟨s, 4, none⟩ = some (.slice (some ⟨A, 0, none⟩) n ac)) (h : IntsAt w A n S) (hk : k < n) :
    Calls Tryz.prog 168 #[.pointer (some ⟨s, 0, none⟩), .int .i64 k, .int .i64 x] w fun e w' => e = .returned (.int .i64 (if S k = x then 0 else 8)) ∧ w = w' := by
  have d0 := h.c k hk
  have hk0 : decide ((k : Int) < 0) = false := decide_eq_false (by omega)
  have hk1 : decide ((k : Int) ≥ (n : Int)) = false := decide_eq_false (by omega)
  have hki : (k : Int) < n := by omega
  clear h hk
  generalize S k = y at *
  by_cases e : y = x
  · rw [if_pos e]
    have e1 : ((y : Int) != (x : Int)) = false := by rw [e]; simp
    clear e
    go_enter Tryz.func168, Tryz.ntmps168
    go_wp2
    go_ret
    exact ⟨rfl, rfl⟩
  · rw [if_neg e]
    have e1 : ((y : Int) != (x : Int)) = true := by simp; omega
    clear e
    go_enter Tryz.func168, Tryz.ntmps168
    go_wp2
    go_ret
    exact ⟨rfl, rfl⟩

theorem cntS_succ (S : Nat → Nat) (x : Int) (k : Nat) : cntS S x (k + 1) = cntS S x k + if ((S k : Nat) : Int) = x then 1 else 0 := by
  simp only [cntS]
  try split <;> simp_all
set_option maxRecDepth 100000 in
set_option maxHeartbeats 1000000 in
theorem dcount_at {w : World} {s A n ac : Nat} {S : Nat → Nat} (c4 : w.cell? ⟨s, 4, none⟩ = some (.slice (some ⟨A, 0, none⟩) n ac)) (h : IntsAt w A n S) (hn : n ≤ 16) (x : Int) :
    Calls Tryz.prog 114 #[.pointer (some ⟨s, 0, none⟩), .int .i64 x] w fun e w' => e = .returned (.int .i64 (cntS S x n : Nat)) ∧ w = w' := by
  have H := Lib.hid h
  have HN := Lib.hid hn
  have hni : (n : Int) ≤ 16 := by omega
  clear h hn
  go_enter Tryz.func114, Tryz.ntmps114
  go_wp2_with fail
  obtain ⟨w2, hw2⟩ : ∃ w2 : World, w2 = w := ⟨_, rfl⟩
  go_loopw [5, 13] (fun m i wr => ∃ k : Nat, k ≤ n ∧ i = .int .i64 k ∧ m = .int .i64 (cntS S x k : Nat) ∧ wr = w) (fun _ i _ => n - (intOf i).toNat)
  case atStart => exact ⟨0, by omega, rfl, rfl, rfl⟩
  case round =>
    obtain ⟨k, hk, rfl, rfl, rfl⟩ := hrel
    by_cases hlt : k < n
    · have d0 := H.out.c k hlt
      have HC := Lib.hid (cntS_succ S x k)
      have HCL := cntS_le S x k
      have hci : ((cntS S x k : Nat) : Int) ≤ 16 := by omega
      have hlti : (k : Int) < n := by omega
      clear HCL
      generalize cntS S x k = m at *
      generalize S k = y at *
      by_cases e : (y : Int) = x
      · have e1 : ((y : Int) == x) = true := by simpa using e
        have HE := Lib.hid e
        clear e
        go_wp2
        go_roundw
        case rel => exact ⟨k + 1, by omega, by go_num, by rw [HC.out, if_pos HE.out]; simp⟩
        case measure => simp [intOf]; omega
      · have e1 : ((y : Int) == x) = false := by simpa using e
        have HE := Lib.hid e
        clear e
        go_wp2
        go_roundw
        case rel => exact ⟨k + 1, by omega, by go_num, by rw [HC.out, if_neg HE.out]; simp⟩
        case measure => simp [intOf]; omega
    · obtain rfl : k = n := by omega
      go_wp2
      go_ret
      exact ⟨rfl, rfl⟩
end Go.Proofs.YtgnfcklippjeeaaGreat

/- The document's slab: the walks of stands, link, join. -/
namespace Go.Proofs.YtgnfcklippjeeaaGreat
open Go.RowKit
open Sl (Cls bs upd LnkIs)

theorem beq_dec (a b : Nat) : (((a : Nat) : Int) == ((b : Nat) : Int)) = decide (a = b) := by
  by_cases e : a = b
  · rw [e]; simp
  · rw [show decide (a = b) = false from by simpa using e]
    simp only [beq_eq_false_iff_ne]
    omega
theorem DbAt.base {w : World} {s key g N q cap c z n r : Nat} {f : Int} {B : Nat → Nat} (h : DbAt w s key g N q cap c f B) (hc : Cls c z n r) {k : Nat} (hk : k < n) :
    Calls Tryz.prog 162 #[.pointer (some ⟨s, 0, none⟩), .int .i64 k] w fun e w' => e = .returned (.int .i64 (bs g z k : Nat)) ∧ ∃ d, w' = w.drewN d :=
  dbase_at hc (by have := h.gN; have := h.small; omega) hk h.c2 h.c3
set_option maxRecDepth 100000 in
set_option maxHeartbeats 2000000 in
theorem dstands_at {w : World} {s key g N q cap c z n r k : Nat} {f : Int} {B : Nat → Nat} (h : DbAt w s key g N q cap c f B) (hc : Cls c z n r) (hk : k < n) :
    Calls Tryz.prog 169 #[.pointer (some ⟨s, 0, none⟩), .int .i64 k] w fun e w' => e = .returned (.bool (decide (Ar.wordAt B (bs g z k + r) = Sl.can key g z k))) ∧ ∃ d, w' = w.drewN d := by
  have HBG : Hid (∀ W, w.grownBy W none → Calls Tryz.prog 162 #[.pointer (some ⟨s, 0, none⟩), .int .i64 k] W fun e w' => e = .returned (.int .i64 (bs g z k : Nat)) ∧ ∃ d, w' = W.drewN d) := Lib.hid (fun W g => (h.grown g).base hc hk)
  have HBS := Lib.hid (fun d => HBG.out _ (grown_drew (grown_refl w none) d))
  have HSZ := Lib.hid (fun W => rsize_at hc W)
  have c3 := h.c3
  have HE := Lib.hid (beq_dec (Ar.wordAt B (bs g z k + r)) (Sl.can key g z k))
  have hN := h.small
  have b1 := Sl.bs_hi hc g hk
  have b2 := hc.facts.rs
  have b3 := h.gN
  have H1 : Hid (∀ W, w.grownBy W none → W.cell? ⟨s, 0, none⟩ = some (.slice (some ⟨q, 0, none⟩) N cap) ∧ W.cell? ⟨s, 1, none⟩ = some (.int .u64 (key : Nat)) ∧ ∀ c, Calls Tryz.prog 186 #[.slice (some ⟨q, bs g z k + r, none⟩) 8 c] W fun e w' => e = .returned (.int .u64 (Ar.wordAt B (bs g z k + r) : Nat)) ∧ W = w') := Lib.hid (fun W g1 =>
    ⟨(h.grown g1).c0, (h.grown g1).c1, fun c => An.rget_at q (bs g z k + r) c (fun i => B (bs g z k + r + i)) W (fun i => h.lt _) (fun i hi => (h.grown g1).b.c _ (by omega))⟩)
  have HR : Hid (∀ W, Calls Tryz.prog 156 #[.int .u64 (key ^^^ Li.u ((bs g z k : Nat) : Int) : Nat)] W fun e w' => e = .returned (.int .u64 (Sl.can key g z k : Nat)) ∧ W = w') := Lib.hid (fun W => rmix_at (key ^^^ Li.u ((bs g z k : Nat) : Int)) (Li.xor_lt h.k (Li.u_lt _)) W)
  obtain ⟨a, ha⟩ : ∃ a, a = bs g z k + r := ⟨_, rfl⟩
  rw [← ha] at HE H1 ⊢
  obtain ⟨t, ht⟩ : ∃ t : Nat, a + 8 = t := ⟨_, rfl⟩
  obtain ⟨y, hy⟩ : ∃ y : Nat, y = bs g z k := ⟨_, rfl⟩
  rw [← hy] at ha b1 HBG HBS HR
  have a1 : IntKind.i64.wrap ((y : Int) + (z : Int)) = (t : Int) := by rw [IntKind.wrap_i64]; omega
  have a2 : IntKind.i64.wrap ((t : Int) - 8) = (a : Int) := by rw [IntKind.wrap_i64]; omega
  have a3 : IntKind.i64.wrap ((a : Int) + 8) = (t : Int) := by rw [IntKind.wrap_i64]; omega
  have a6 := wrap_u (y : Int)
  have a7 := u64_xor_nat key (Li.u (y : Int)) h.k (Li.u_lt _)
  have ht1 : (t : Int) ≤ N := by omega
  have ht2 : (t : Int) ≤ cap := by have := h.hcap; omega
  have ht3 : (a : Int) ≤ t := by omega
  have ht4 : t - a = 8 := by omega
  have ht5 : ¬ cap = a := by omega
  clear h hc hk hN ha hy ht b1 b2 b3
  generalize decide (Ar.wordAt B a = Sl.can key g z k) = b at *
  generalize Ar.wordAt B a = x at *
  generalize Sl.can key g z k = v at *
  generalize key ^^^ Li.u (y : Int) = kx at *
  generalize Li.u (y : Int) = u at *
  go_enter Tryz.func169, Tryz.ntmps169
  go_wp2
  go_quiet (first
    | (go_at_call 162; exact quiet_drew (HBS.out _))
    | (go_at_call 103; exact quiet_left (HSZ.out _)))
  rename_i nq
  have hg2 := grown_drew (grown_refl w none) nq
  obtain ⟨c0, c1, -⟩ := H1.out _ hg2
  have HGT : Hid (∀ d c, Calls Tryz.prog 186 #[.slice (some ⟨q, a, none⟩) 8 c] ((w.drewN nq).drewN d) fun e w' => e = .returned (.int .u64 x) ∧ (w.drewN nq).drewN d = w') := Lib.hid (fun d c => (H1.out _ (grown_drew hg2 d)).2.2 c)
  have HB2 := Lib.hid (fun d => HBG.out _ (grown_drew hg2 d))
  have HD : Hid (∃ d, w.drewN nq = w.drewN d) := Lib.hid ⟨_, rfl⟩
  clear H1 hg2 HSZ c3 HBS HBG
  generalize w.drewN nq = w2 at *
  go_upto_region 2 with (fail)
  go_quiet (first
    | (go_at_call 186; (with_reducible exact quiet_left (HGT.out _ _)))
    | (go_at_call 162; exact quiet_drew (HB2.out _))
    | (go_at_call 156; (with_reducible exact quiet_left (HR.out _))))
  go_wp2
  go_ret
  obtain ⟨d, hd⟩ := HD.out
  exact ⟨by rw [← HE.out]; try simp, _, by rw [hd]; exact World.drewN_drewN _ _ _⟩

theorem put_nil (key : Nat) (a : Nat) : Li.put key (a : Nat) (-1) = Li.lk key (a : Nat) 0 := by
  unfold Li.put
  rw [if_pos ((Li.may_iff _ _).2 ⟨by omega, by omega, by omega⟩)]
  rfl
theorem put_nat (key : Nat) {a b : Nat} (hb : b < 65536) : Li.put key (a : Nat) (b : Nat) = Li.lk key (a : Nat) (b + 1) := by
  unfold Li.put
  rw [if_pos ((Li.may_iff _ _).2 ⟨by omega, by omega, by omega⟩)]
  congr 1
theorem bs_inj {c z n r g j k : Nat} (hc : Cls c z n r) (h : bs g z j = bs g z k) : j = k := by
  unfold bs at h
  have := hc.facts.s16
  exact Nat.eq_of_mul_eq_mul_right (show 0 < z by omega) (by omega)
theorem LnkIs.uniq {c key g z n r k : Nat} {S B : Nat → Nat} {x y : Int} (hc : Cls c z n r) (hx : LnkIs key g z n S B k x) (hy : LnkIs key g z n S B k y) : x = y := by
  rcases hx with ⟨rfl, h1⟩ | ⟨j, hj, rfl, hjk, h0, h1⟩ | ⟨rfl, h1, h2⟩
  · rcases hy with ⟨rfl, _⟩ | ⟨i, _, rfl, _, _, e⟩ | ⟨rfl, e, _⟩
    · rfl
    · rw [h1] at e; have := Li.lk_inj e; omega
    · exact absurd h1 e
  · rcases hy with ⟨rfl, e⟩ | ⟨i, _, rfl, _, _, e⟩ | ⟨rfl, _, e⟩
    · rw [h1] at e; have := Li.lk_inj e; omega
    · rw [h1] at e
      have e2 := Li.lk_inj e
      rw [bs_inj hc (show bs g z j = bs g z i by omega)]
    · exact absurd h1 (e j hj hjk h0)
  · rcases hy with ⟨rfl, e⟩ | ⟨i, hi, rfl, hik, h0, e⟩ | ⟨rfl, _, _⟩
    · exact absurd e h1
    · exact absurd e (h2 i hi hik h0)
    · rfl
set_option maxRecDepth 100000 in
set_option maxHeartbeats 4000000 in
theorem dlink_ex {w : World} {s key g N q cap c z n r k A ac : Nat} {f : Int} {B S : Nat → Nat} (h : DbAt w s key g N q cap c f B) (c4 : w.cell? ⟨s, 4, none⟩ = some (.slice (some ⟨A, 0, none⟩) n ac)) (hs : IntsAt w A n S) (hc : Cls c z n r) (hk : k < n) :
    Calls Tryz.prog 160 #[.pointer (some ⟨s, 0, none⟩), .int .i64 k] w fun e w' => (∃ y, e = .returned (.int .i64 y) ∧ LnkIs key g z n S B k y) ∧ ∃ d, w' = w.drewN d := by
  have HB : Hid (∀ (j : Nat) W, j < n → w.grownBy W none → Calls Tryz.prog 162 #[.pointer (some ⟨s, 0, none⟩), .int .i64 j] W fun e w' => e = .returned (.int .i64 (bs g z j : Nat)) ∧ ∃ d, w' = W.drewN d) := Lib.hid (fun j W hj g => (h.grown g).base hc hj)
  have HS := Lib.hid hs
  have HC4 := Lib.hid c4
  have hN := h.small
  have HBD : Hid (∀ j, j < n → bs g z j < 65536) := Lib.hid (fun j hj => by have := Sl.bs_hi hc g hj; have := h.gN; have := hc.facts.s16; omega)
  have b1 := Sl.bs_hi hc g hk
  have b2 := hc.facts.s16
  have b3 := h.gN
  have H1 : Hid (∀ W, w.grownBy W none → W.cell? ⟨s, 0, none⟩ = some (.slice (some ⟨q, 0, none⟩) N cap) ∧ W.cell? ⟨s, 1, none⟩ = some (.int .u64 (key : Nat)) ∧ ∀ c, Calls Tryz.prog 186 #[.slice (some ⟨q, bs g z k, none⟩) 8 c] W fun e w' => e = .returned (.int .u64 (Ar.wordAt B (bs g z k) : Nat)) ∧ W = w') := Lib.hid (fun W g1 =>
    ⟨(h.grown g1).c0, (h.grown g1).c1, fun c => An.rget_at q (bs g z k) c (fun i => B (bs g z k + i)) W (fun i => h.lt _) (fun i hi => (h.grown g1).b.c _ (by omega))⟩)
  have HP : Hid (∀ (x : Int) W, Calls Tryz.prog 185 #[.int .u64 (key : Nat), .int .i64 (bs g z k : Nat), .int .i64 x] W fun e w' => e = .returned (.int .u64 (Li.put key (bs g z k : Nat) x : Nat)) ∧ W = w') := Lib.hid (fun x W => rput_at key _ x W)
  have hni : (n : Int) ≤ 16 := by have := hc.facts.n16; omega
  have HCC := Lib.hid hc
  have HKN := Lib.hid hk
  obtain ⟨a, ha⟩ : ∃ a, a = bs g z k := ⟨_, rfl⟩
  have HA := Lib.hid ha
  obtain ⟨t, ht⟩ : ∃ t : Nat, a + 8 = t := ⟨_, rfl⟩
  have a3 : IntKind.i64.wrap ((a : Int) + 8) = (t : Int) := by rw [IntKind.wrap_i64]; omega
  have ht1 : (t : Int) ≤ N := by omega
  have ht2 : (t : Int) ≤ cap := by have := h.hcap; omega
  have ht3 : (a : Int) ≤ t := by omega
  have ht4 : t - a = 8 := by omega
  have ht5 : ¬ cap = a := by omega
  obtain ⟨c0, c1, -⟩ := H1.out _ (grown_refl w none)
  have HBS := Lib.hid (fun d => HB.out k _ hk (grown_drew (grown_refl w none) d))
  have HGT := Lib.hid (fun d c => (H1.out _ (grown_drew (grown_refl w none) d)).2.2 c)
  have HX : Hid (∃ x, x = Ar.wordAt B (bs g z k)) := Lib.hid ⟨_, rfl⟩
  obtain ⟨x, hx⟩ := HX.out
  have HXE := Lib.hid hx
  rw [← hx, ← ha] at HGT
  rw [← ha] at HBS HP
  have HK2 : Hid (∀ (j : Nat), j < n → bs g z j < 65536) := HBD
  have hki : (k : Int) ≤ 16 := by omega
  clear h hs hc hk hN ha ht b1 b2 b3 hx
  go_enter Tryz.func160, Tryz.ntmps160
  go_wp2
  go_quiet (first
    | (go_at_call 186; (with_reducible exact quiet_left (HGT.out _ _)))
    | (go_at_call 162; exact quiet_drew (HBS.out _)))
  rename_i nq
  have hg2 := grown_drew (grown_refl w none) nq
  obtain ⟨c0, c1, -⟩ := H1.out _ hg2
  have HB2 := Lib.hid (fun d => HB.out k _ HKN.out (grown_drew hg2 d))
  rw [← HA.out] at HB2
  have HD : Hid (∃ d, w.drewN nq = w.drewN d) := Lib.hid ⟨_, rfl⟩
  have HG2 := Lib.hid hg2
  clear hg2 HBS HGT
  generalize w.drewN nq = w2 at *
  have HP1 := Lib.hid (HP.out (-1))
  have HPJ : Hid (∀ (j : Nat) W, j < n → Calls Tryz.prog 185 #[.int .u64 (key : Nat), .int .i64 (a : Nat), .int .i64 (bs g z j : Nat)] W fun e w' => e = .returned (.int .u64 (Li.lk key (a : Nat) (bs g z j + 1) : Nat)) ∧ W = w') := Lib.hid (fun j W hj => by
    have := HP.out ((bs g z j : Nat) : Int) W
    rw [put_nat key (HBD.out j hj)] at this
    exact this)
  rw [put_nil] at HP1
  have HV : Hid (∃ v, v = Li.lk key (a : Nat) 0) := Lib.hid ⟨_, rfl⟩
  obtain ⟨v, hv⟩ := HV.out
  rw [← hv] at HP1
  have HVE := Lib.hid hv
  clear hv HP
  have e1 := beq_dec x v
  go_upto_region 2 with (fail)
  by_cases e0 : x = v
  · rw [decide_eq_true e0] at e1
    have HE0 := Lib.hid e0
    clear e0
    go_quiet (first
      | (go_at_call 162; exact quiet_drew (HB2.out _))
      | (go_at_call 185; (with_reducible exact quiet_left (HP1.out _))))
    go_wp2
    go_ret
    obtain ⟨d, hd⟩ := HD.out
    exact ⟨⟨-1, rfl, .inl ⟨rfl, by rw [← HXE.out, ← HA.out, HE0.out]; exact HVE.out⟩⟩, _, by rw [hd]; exact World.drewN_drewN _ _ _⟩
  · rw [decide_eq_false e0] at e1
    have HE0 := Lib.hid e0
    clear e0
    go_quiet (first
      | (go_at_call 162; exact quiet_drew (HB2.out _))
      | (go_at_call 185; (with_reducible exact quiet_left (HP1.out _))))
    rename Nat => nq2
    have HD3 : Hid (∃ d, w2.drewN nq2 = w.drewN d) := Lib.hid (by obtain ⟨d, hd⟩ := HD.out; exact ⟨_, by rw [hd]; exact World.drewN_drewN _ _ _⟩)
    have hg3 := grown_drew HG2.out nq2
    have c4 := hg3.cell HC4.out (by simp)
    clear HB2 HP1 hg3 HG2 HD c0 c1
    generalize w2.drewN nq2 = w3 at *
    go_wp2_with fail
    obtain ⟨w4, hw4⟩ : ∃ w4 : World, w4 = w3 := ⟨_, rfl⟩
    clear hw4
    go_loopw [36] (fun i wr => ∃ j : Nat, j ≤ n ∧ i = .int .i64 j ∧ (∃ d, wr = w.drewN d) ∧ ∀ t, t < j → t ≠ k → S t = 0 → x ≠ Li.lk key (a : Nat) (bs g z t + 1)) (fun i _ => n - (intOf i).toNat)
    case atStart => exact ⟨0, by omega, rfl, HD3.out, fun t ht => by omega⟩
    case round =>
      obtain ⟨j, hj, rfl, hd, hno⟩ := hrel
      have HDR := Lib.hid hd
      have HNO := Lib.hid hno
      have HGR : Hid (w.grownBy wr none) := Lib.hid (by obtain ⟨d, rfl⟩ := hd; exact grown_drew (grown_refl _ _) d)
      clear hd hno
      by_cases hlt : j < n
      · have d0 := HGR.out.cell (HS.out.c j hlt) (by simp)
        obtain ⟨c0, c1, -⟩ := H1.out _ HGR.out
        have HBK := Lib.hid (fun d => HB.out k _ HKN.out (grown_drew HGR.out d))
        have HBJ := Lib.hid (fun d => HB.out j _ hlt (grown_drew HGR.out d))
        have HPJ2 := Lib.hid (fun W => HPJ.out j W hlt)
        have e3 := beq_dec x (Li.lk key (a : Nat) (bs g z j + 1))
        rw [← HA.out] at HBK
        have HN1 : Hid ((j ≠ k → S j = 0 → x ≠ Li.lk key (a : Nat) (bs g z j + 1)) → ∀ t, t < j + 1 → t ≠ k → S t = 0 → x ≠ Li.lk key (a : Nat) (bs g z t + 1)) := Lib.hid (fun hh t ht => by
          by_cases e : t < j
          · exact HNO.out t e
          · obtain rfl : t = j := by omega
            exact hh)
        have HYES : Hid (j ≠ k → S j = 0 → x = Li.lk key (a : Nat) (bs g z j + 1) → LnkIs key g z n S B k (j : Int)) := Lib.hid (fun h1 h2 h3 => .inr (.inl ⟨j, hlt, rfl, h1, h2, by rw [← HXE.out, ← HA.out]; exact h3⟩))
        have hjn : (j : Int) < n := by omega
        have HJ : Hid (∃ y, y = Li.lk key (a : Nat) (bs g z j + 1)) := Lib.hid ⟨_, rfl⟩
        obtain ⟨y, hy⟩ := HJ.out
        rw [← hy] at HPJ2 e3 HN1 HYES
        obtain ⟨bj, hbj⟩ : ∃ bj, bj = bs g z j := ⟨_, rfl⟩
        rw [← hbj] at HPJ2 HBJ
        clear hy hbj HJ
        obtain ⟨sj, hsj⟩ : ∃ sj, sj = S j := ⟨_, rfl⟩
        rw [← hsj] at d0 HN1 HYES
        clear hsj
        by_cases hs0 : sj = 0
        · have f1 : ((sj : Int) == 0) = true := by rw [hs0]; rfl
          have HS0 := Lib.hid hs0
          clear hs0
          by_cases hjk : j = k
          · have f2 : ((j : Int) != (k : Int)) = false := by rw [hjk]; simp
            have HJK := Lib.hid hjk
            clear hjk
            go_upto_region 7 with (fail)
            go_quiet (fail)
            go_wp2
            go_roundw
            case rel =>
              refine ⟨j + 1, by omega, by go_num, ?_, HN1.out (fun h => absurd HJK.out h)⟩
              obtain ⟨d, hd⟩ := HDR.out
              exact ⟨_, by rw [hd]; exact World.drewN_drewN _ _ _⟩
            case measure => simp [intOf]; omega
          · have f2 : ((j : Int) != (k : Int)) = true := by simp; omega
            have HJK := Lib.hid hjk
            clear hjk
            by_cases hxy : x = y
            · rw [decide_eq_true hxy] at e3
              have HXY := Lib.hid (HYES.out HJK.out HS0.out hxy)
              clear hxy
              go_upto_region 7 with (fail)
              go_quiet (first
                | (go_at_call 162; (with_reducible exact quiet_drew (HBK.out _)))
                | (go_at_call 162; (with_reducible exact quiet_drew (HBJ.out _)))
                | (go_at_call 185; (with_reducible exact quiet_left (HPJ2.out _))))
              go_wp2
              go_ret
              obtain ⟨d, hd⟩ := HDR.out
              exact ⟨⟨_, rfl, HXY.out⟩, _, by rw [hd]; exact World.drewN_drewN _ _ _⟩
            · rw [decide_eq_false hxy] at e3
              have HXY := Lib.hid (HN1.out (fun _ _ => hxy))
              clear hxy
              go_upto_region 7 with (fail)
              go_quiet (first
                | (go_at_call 162; (with_reducible exact quiet_drew (HBK.out _)))
                | (go_at_call 162; (with_reducible exact quiet_drew (HBJ.out _)))
                | (go_at_call 185; (with_reducible exact quiet_left (HPJ2.out _))))
              go_wp2
              go_roundw
              case rel =>
                refine ⟨j + 1, by omega, by go_num, ?_, HXY.out⟩
                obtain ⟨d, hd⟩ := HDR.out
                exact ⟨_, by rw [hd]; exact World.drewN_drewN _ _ _⟩
              case measure => simp [intOf]; omega
        · have f1 : ((sj : Int) == 0) = false := by simp; omega
          have HS0 := Lib.hid hs0
          clear hs0
          go_upto_region 7 with (fail)
          go_quiet (fail)
          go_wp2
          go_roundw
          case rel =>
            refine ⟨j + 1, by omega, by go_num, ?_, HN1.out (fun _ h => absurd h HS0.out)⟩
            obtain ⟨d, hd⟩ := HDR.out
            exact ⟨_, by rw [hd]; exact World.drewN_drewN _ _ _⟩
          case measure => simp [intOf]; omega
      · obtain rfl : j = n := by omega
        go_wp2
        go_ret
        exact ⟨⟨-2, rfl, .inr (.inr ⟨rfl, by rw [← HXE.out, ← HA.out, ← HVE.out]; exact HE0.out, fun t ht htk h0 => by rw [← HXE.out, ← HA.out]; exact HNO.out t ht htk h0⟩)⟩, HDR.out⟩
theorem dlink_at {w : World} {s key g N q cap c z n r k A ac : Nat} {f : Int} {B S : Nat → Nat} {x : Int} (h : DbAt w s key g N q cap c f B) (c4 : w.cell? ⟨s, 4, none⟩ = some (.slice (some ⟨A, 0, none⟩) n ac)) (hs : IntsAt w A n S) (hc : Cls c z n r) (hk : k < n) (hx : LnkIs key g z n S B k x) :
    Calls Tryz.prog 160 #[.pointer (some ⟨s, 0, none⟩), .int .i64 k] w fun e w' => e = .returned (.int .i64 x) ∧ ∃ d, w' = w.drewN d :=
  (dlink_ex h c4 hs hc hk).mono fun _ _ ⟨⟨_, he, hy⟩, hd⟩ => ⟨by rw [he, LnkIs.uniq hc hx hy], hd⟩
end Go.Proofs.YtgnfcklippjeeaaGreat

/- The document's slab: the walks of join, Make. -/
namespace Go.Proofs.YtgnfcklippjeeaaGreat
open Go.RowKit
open Sl (Cls bs upd LnkIs)

/-- What join leaves: its bytes, its first free slot; its states' cell stays. -/
def DJoin (w w' : World) (s key g N c : Nat) (f : Int) (B : Nat → Nat) : Prop :=
  (∃ q cap, DbAt w' s key g N q cap c f B ∧ w.heap.size ≤ q) ∧ w.grownBy w' (some s) ∧ ∀ v, w.cell? ⟨s, 4, none⟩ = some v → w'.cell? ⟨s, 4, none⟩ = some v
theorem Fil.gr {w w' : World} {p N : Nat} {B : Nat → Nat} (h : Fil w w' p N B) : w.grownBy w' (some p) := by obtain ⟨q, cap, k1, k2, k3, k4, k5, k6, k7⟩ := h; exact k5
theorem Fil.keep {w w' : World} {p N o : Nat} {B : Nat → Nat} {v : Value} (h : Fil w w' p N B) (ho : o ≠ 0) (hc : w.cell? ⟨p, o, none⟩ = some v) : w'.cell? ⟨p, o, none⟩ = some v := by obtain ⟨q, cap, k1, k2, k3, k4, k5, k6, k7⟩ := h; exact k6 o v ho hc
theorem bs_bdN {w : World} {s key g N q cap c z n r k : Nat} {f : Int} {B : Nat → Nat} (h : DbAt w s key g N q cap c f B) (hc : Cls c z n r) (hk : k < n) : bs g z k + z ≤ N := by
  have := Sl.bs_hi hc g hk; have := h.gN; omega
/-- Some bytes of it are others. -/
theorem DbAt.put {w : World} {s key g N q cap c a n t sc : Nat} {f : Int} {B S : Nat → Nat} (h : DbAt w s key g N q cap c f B) (hs : An.BytesAt w t n S) (hn : 1 ≤ n) (ha : a + n ≤ N) (hS : ∀ i, S i < 256) :
    Calls Tryz.prog 161 #[.pointer (some ⟨s, 0, none⟩), .int .i64 a, .slice (some ⟨t, 0, none⟩) n sc] w fun e w' => e = .returned (.tuple #[]) ∧ DJoin w w' s key g N c f (Ar.setB B a n S) :=
  (dput_at h.c0 h.b hs h.fz hn ha h.small).mono fun _ _ ⟨he, hf⟩ => by
    obtain ⟨q1, cap1, h1, h2⟩ := h.fil hf (Ar.setB_lt h.lt hS _ _)
    exact ⟨he, ⟨q1, cap1, h1, h2⟩, hf.gr, fun v hv => hf.keep (by decide) hv⟩

set_option maxRecDepth 100000 in
set_option maxHeartbeats 4000000 in
theorem djoin_at {w : World} {s key g N q cap c z n r k : Nat} {f : Int} {B : Nat → Nat} (h : DbAt w s key g N q cap c f B) (hc : Cls c z n r) (hk : k < n) (hf : f = -1 ∨ ∃ j : Nat, f = j ∧ j < n) :
    Calls Tryz.prog 159 #[.pointer (some ⟨s, 0, none⟩), .int .i64 k] w fun e w' => e = .returned (.tuple #[]) ∧ DJoin w w' s key g N c k (Ar.setW B (bs g z k) (Li.lk key (bs g z k : Nat) (lto g z f))) := by
  have H := Lib.hid h
  have HN := h.small
  have HGN := h.gN
  have hb := Sl.bs_hi hc g hk
  have hz16 := hc.facts.s16
  have HB : Hid (∀ (W : World) (j : Nat), j < n → w.grownBy W none → Calls Tryz.prog 162 #[.pointer (some ⟨s, 0, none⟩), .int .i64 j] W fun e w' => e = .returned (.int .i64 (bs g z j : Nat)) ∧ W.grownBy w' none) :=
    Lib.hid (fun W j hj gr => ((h.grown gr).base hc hj).mono fun _ _ ⟨he, hd⟩ => ⟨he, drew_grownBy hd⟩)
  obtain ⟨x, hx⟩ : ∃ x : Int, x = if 0 ≤ f then ((bs g z f.toNat : Nat) : Int) else -1 := ⟨_, rfl⟩
  have hlk : Li.put key (bs g z k : Nat) x = Li.lk key (bs g z k : Nat) (lto g z f) := by
    unfold lto
    rcases hf with rfl | ⟨j, rfl, hj⟩
    · rw [if_neg (by omega)] at hx ⊢
      rw [hx]; exact put_nil _ _
    · rw [if_pos (by omega), Int.toNat_natCast] at hx ⊢
      rw [hx]
      have := Sl.bs_hi hc g hj
      exact put_nat key (by omega)
  have hl := Li.put_lt key (bs g z k : Nat) x
  rw [hlk] at hl
  generalize Li.lk key (bs g z k : Nat) (lto g z f) = l at *
  have HLP : Hid (∀ (W : World), Calls Tryz.prog 185 #[.int .u64 (key : Nat), .int .i64 (bs g z k : Nat), .int .i64 x] W fun e w' => e = .returned (.int .u64 (l : Nat)) ∧ W = w') := Lib.hid (fun W => by rw [← hlk]; exact rput_at key _ x W)
  have HNP : Hid (∀ (W : World), Calls Tryz.prog 163 #[.int .i64 8, .int .u64 (l : Nat)] W fun e w' => An.BytesNew W w' 8 (Ar.byt l) e) := Lib.hid (fun W => An.rput_at _ hl W)
  have HPut : Hid (∀ (W : World) (t sc : Nat), w.grownBy W none → An.BytesAt W t 8 (Ar.byt l) → Calls Tryz.prog 161 #[.pointer (some ⟨s, 0, none⟩), .int .i64 (bs g z k : Nat), .slice (some ⟨t, 0, none⟩) 8 sc] W fun e w' => e = .returned (.tuple #[]) ∧ DJoin W w' s key g N c f (Ar.setW B (bs g z k) l)) := Lib.hid (fun W t sc gr hs => by
    exact (h.grown gr).put hs (by omega) (by omega) (Ar.byt_lt l))
  have HC1 := Lib.hid (fun W (gr : w.grownBy W none) => (h.grown gr).c1)
  have HKEEP := Lib.hid (fun W (gr : w.grownBy W none) v (hv : w.cell? ⟨s, 4, none⟩ = some v) => gr.cell hv (by simp))
  have HFIN : Hid (∀ w5 w6, w.grownBy w5 none → DJoin w5 w6 s key g N c f (Ar.setW B (bs g z k) l) → w6.frozen? ⟨s, 5, none⟩ = false ∧ w6.cell? ⟨s, 5, none⟩ = some (.int .i64 f) ∧ w6.cell? ⟨s, 1, none⟩ = some (.int .u64 (key : Nat)) ∧ DJoin w (w6.setCell ⟨s, 5, none⟩ (.int .i64 (k : Nat))) s key g N c k (Ar.setW B (bs g z k) l)) := Lib.hid (fun w5 w6 g5 ⟨⟨q6, cap6, h6, hq6⟩, g6, hk6⟩ =>
    ⟨h6.fz 5, h6.c5, h6.c1, ⟨q6, cap6, h6.first _, Nat.le_trans g5.size hq6⟩, grown_trans (grown_trans (grown_none g5) g6) (An.agrown_set _ _ _ _), fun v hv => setc_other (by decide) (hk6 v (g5.cell hv (by simp)))⟩)
  have c5 := h.c5
  have HBk := Lib.hid (fun W gr => HB.out W k hk gr)
  clear h hc hk hlk HN HGN hb hz16 hl
  generalize Ar.setW B (bs g z k) l = B' at *
  obtain ⟨y, hy⟩ : ∃ y, y = bs g z k := ⟨_, rfl⟩
  rw [← hy] at HLP HPut HBk
  clear hy
  rcases hf with rfl | ⟨j, rfl, hj⟩
  · rw [if_neg (by omega)] at hx
    subst hx
    go_enter Tryz.func159, Tryz.ntmps159
    go_upto_region 3 with (fail)
    have hg0 := grown_refl w none
    have e1 := HC1.out _ hg0
    have hg1 := grown_drew1 hg0
    go_region_held3 (fun w' => w'.cell? ⟨s, 1, none⟩ = some (.int .u64 (key : Nat)))
      (first | exact e1 | exact HC1.out _ (by assumption) | exact HS3.out)
      (first
      | (go_at_call 162; (with_reducible refine (HBk.out _ (by assumption)).mono ?_); rintro e w3 ⟨rfl, m⟩; have hg := grown_trans (by assumption : w.grownBy _ none) m; clear m)
      | (go_at_call 185; (with_reducible refine (HLP.out _).mono ?_); rintro e w3 ⟨rfl, rfl⟩)
      | (go_at_call 163; (with_reducible refine (HNP.out _).mono ?_); rintro e w5 ⟨q5, cap5, rfl, k1, k2, k3, k4⟩; have hg5 := grown_trans (by assumption : w.grownBy _ none) k4; have K3 := Lib.hid k3; clear k1 k2 k3 k4)
      | (go_at_call 161; (with_reducible refine (HPut.out _ _ _ hg5 K3.out).mono ?_); rintro e w6 ⟨rfl, k5⟩; have K := Lib.hid (HFIN.out _ _ hg5 k5); have HS3 := Lib.hid K.out.2.2.1; clear k5))
    have z5 := K.out.1
    have d5 := K.out.2.1
    have KF := Lib.hid K.out.2.2.2
    clear K
    go_wp2
    go_end0
    exact ⟨rfl, KF.out⟩
  · rw [if_pos (by omega), Int.toNat_natCast] at hx
    have h0 : decide ((0 : Int) ≤ (j : Int)) = true := by simp
    have HJ := Lib.hid (HB.out w j hj (grown_refl _ _))
    rw [← hx] at HJ
    clear hj hx
    go_enter Tryz.func159, Tryz.ntmps159
    go_upto_region 2 with (fail)
    go_wp2_with fail
    refine HJ.out.mono ?_
    rintro e w1 ⟨rfl, hg0⟩
    go_upto_region 3 with (fail)
    have e1 := HC1.out _ hg0
    have hg1 := grown_drew1 hg0
    go_region_held3 (fun w' => w'.cell? ⟨s, 1, none⟩ = some (.int .u64 (key : Nat)))
      (first | exact e1 | exact HC1.out _ (by assumption) | exact HS3.out)
      (first
      | (go_at_call 162; (with_reducible refine (HBk.out _ (by assumption)).mono ?_); rintro e w3 ⟨rfl, m⟩; have hg := grown_trans (by assumption : w.grownBy _ none) m; clear m)
      | (go_at_call 185; (with_reducible refine (HLP.out _).mono ?_); rintro e w3 ⟨rfl, rfl⟩)
      | (go_at_call 163; (with_reducible refine (HNP.out _).mono ?_); rintro e w5 ⟨q5, cap5, rfl, k1, k2, k3, k4⟩; have hg5 := grown_trans (by assumption : w.grownBy _ none) k4; have K3 := Lib.hid k3; clear k1 k2 k3 k4)
      | (go_at_call 161; (with_reducible refine (HPut.out _ _ _ hg5 K3.out).mono ?_); rintro e w6 ⟨rfl, k5⟩; have K := Lib.hid (HFIN.out _ _ hg5 k5); have HS3 := Lib.hid K.out.2.2.1; clear k5))
    have z5 := K.out.1
    have d5 := K.out.2.1
    have KF := Lib.hid K.out.2.2.2
    clear K
    go_wp2
    go_end0
    exact ⟨rfl, KF.out⟩

/-- The document's slab, with its states at block A. -/
structure DsAt (w : World) (s key g N q cap A ac c n : Nat) (S : Nat → Nat) (f : Int) (B : Nat → Nat) : Prop extends DbAt w s key g N q cap c f B where
  c4 : w.cell? ⟨s, 4, none⟩ = some (.slice (some ⟨A, 0, none⟩) n ac)
  st : IntsAt w A n S
  As : A ≠ s
  hac : n ≤ ac
theorem DsAt.fr {may : Nat → Prop} {w w' : World} {s key g N q cap A ac c n : Nat} {S : Nat → Nat} {f : Int} {B : Nat → Nat} (h : DsAt w s key g N q cap A ac c n S f B) (hf : Fr may w w') (h1 : ¬ may s) (h2 : ¬ may q) (h3 : ¬ may A) : DsAt w' s key g N q cap A ac c n S f B :=
  ⟨h.toDbAt.fr hf h1 h2, hf.cell h.c4 h1, h.st.fr hf h3, h.As, h.hac⟩
theorem DsAt.grown {w w' : World} {s key g N q cap A ac c n : Nat} {S : Nat → Nat} {f : Int} {B : Nat → Nat} (h : DsAt w s key g N q cap A ac c n S f B) (hg : w.grownBy w' none) : DsAt w' s key g N q cap A ac c n S f B :=
  h.fr (may := fun _ => False) (fr_none hg) (fun h => h) (fun h => h) (fun h => h)
/-- A slab behind a call that wrote into it. -/
def DTo (w w' : World) (s key g N c n : Nat) (S : Nat → Nat) (f : Int) (B : Nat → Nat) : Prop := (∃ q cap A ac, DsAt w' s key g N q cap A ac c n S f B ∧ w.heap.size ≤ q ∧ w.heap.size ≤ A) ∧ w.grownBy w' (some s)
/-- A new slab. -/
def DNew (w w' : World) (key g N c n : Nat) (S : Nat → Nat) (f : Int) (B : Nat → Nat) (e : Ending) : Prop := ∃ s, e = .returned (.pointer (some ⟨s, 0, none⟩)) ∧ w.heap.size ≤ s ∧ (∃ q cap A ac, DsAt w' s key g N q cap A ac c n S f B ∧ w.heap.size ≤ q ∧ w.heap.size ≤ A) ∧ w.grownBy w' none
theorem row_ne {w : World} {p m : Nat} {e : TypeId} {v : Value} {xs : List Value} (h : w.ownsRow (p + 1) e 1 v m xs) : v.ownBlock = none ∨ v.ownBlock ≠ some p := by
  cases hv : v.ownBlock with
  | none => exact .inl rfl
  | some k => exact .inr (by have := (h.lt k hv).1; simp; omega)
theorem row_lt {w : World} {b0 q m : Nat} {e : TypeId} {v : Value} {xs : List Value} (h : w.ownsRow b0 e 1 v m xs) (hq : q < b0) : some q ≠ v.ownBlock := by
  intro hv
  have := (h.lt q hv.symm).1
  omega

/-- A slab under making: of slots j and on the links are laid. -/
def DLay (w wr : World) (s key g N c z n j : Nat) (B : Nat → Nat) : Prop :=
  ∃ q cap v, DbAt wr s key g N q cap c (if j < n then (j : Int) else -1) (Sl.layF key g z n (fun t => decide (j ≤ t)) B) ∧ wr.cell? ⟨s, 4, none⟩ = some v ∧ wr.ownsRow (s + 1) 3 1 v (n - j) (ivals (fun _ => 0) (n - j)) ∧ some q ≠ v.ownBlock ∧ (j < n → w.heap.size ≤ q ∧ v ≠ .slice none 0 0) ∧ w.grownBy wr none
theorem dlay_app {w wr w2 : World} {s key g N c k : Nat} {q cap : Nat} {v v' : Value} {o : Obj} {f : Int} {B1 : Nat → Nat} (hs : w.heap.size = s) (h : DbAt wr s key g N q cap c f B1) (h4 : wr.cell? ⟨s, 4, none⟩ = some v) (ho : wr.ownsRow (s + 1) 3 1 v k (ivals (fun _ => 0) k)) (hq : some q ≠ v.ownBlock) (hg : w.grownBy wr none)
    (h2 : w2.ownsRow (s + 1) 3 1 v' (k + 1) (ivals (fun _ => 0) k ++ [.int .i64 0])) (h3 : (wr.alloc o).grownBy w2 v.ownBlock) :
    DbAt (w2.setCell ⟨s, 4, none⟩ v') s key g N q cap c f B1 ∧ w2.cell? ⟨s, 4, none⟩ = some v ∧ w2.frozen? ⟨s, 4, none⟩ = false ∧ (w2.setCell ⟨s, 4, none⟩ v').cell? ⟨s, 4, none⟩ = some v' ∧ (w2.setCell ⟨s, 4, none⟩ v').ownsRow (s + 1) 3 1 v' (k + 1) (ivals (fun _ => 0) (k + 1)) ∧ w.grownBy (w2.setCell ⟨s, 4, none⟩ v') none := by
  have hsv : some s ≠ v.ownBlock := row_lt ho (by omega)
  have ga := grown_alloc wr o none
  have hw2 : Fr (fun i => some i = v.ownBlock) wr w2 := ⟨h3.os.trans ga.os, h3.tape.trans ga.tape, h3.output.trans ga.output, Nat.le_trans ga.size h3.size, fun i hi hn => (h3.block i (Nat.lt_of_lt_of_le hi ga.size) hn).trans (ga.block i hi (by simp))⟩
  have h' := h.fr hw2 hsv hq
  have c4 := hw2.cell h4 hsv
  refine ⟨h'.state v', c4, h'.fz 4, World.cell?_setCell_same' _ _ _ (by rw [c4]; rfl), ?_, ?_⟩
  · have e : ivals (fun _ => 0) (k + 1) = ivals (fun _ => 0) k ++ [.int .i64 0] := ivals_snoc (fun _ => 0) k
    rw [e]
    exact h2.kept (An.agrown_set _ _ _ _) (row_ne h2)
  · have hb : ∀ q, v.ownBlock = some q → w.heap.size ≤ q := fun q hv => by have := (ho.lt q hv).1; omega
    exact grown_own (An.grown_onto (grown_trans hg ga) h3 hb) (An.agrown_set _ _ _ _) (by omega)
theorem dlay_join {w w3 w4 : World} {s key g N c z n r k : Nat} {B : Nat → Nat} {v' : Value} (hs : w.heap.size = s) (hc : Cls c z n r) (hk : k < n)
    (h : DJoin w3 w4 s key g N c (k : Int) (Ar.setW (Sl.layF key g z n (fun t => decide (k + 1 ≤ t)) B) (bs g z k) (Li.lk key (bs g z k : Nat) (lto g z (if k + 1 < n then ((k + 1 : Nat) : Int) else -1)))))
    (h4 : w3.cell? ⟨s, 4, none⟩ = some v') (ho : w3.ownsRow (s + 1) 3 1 v' (n - k) (ivals (fun _ => 0) (n - k))) (hg : w.grownBy w3 none) : DLay w w4 s key g N c z n k B := by
  obtain ⟨⟨q4, cap4, d4, hq4⟩, g4, k4⟩ := h
  have el : lto g z (if k + 1 < n then ((k + 1 : Nat) : Int) else -1) = Sl.nxt g z n k := by
    unfold lto Sl.nxt
    by_cases e : k + 1 < n
    · rw [if_pos e, if_pos e, if_pos (by omega), Int.toNat_natCast]
    · rw [if_neg e, if_neg e, if_neg (by omega)]
  have eB : Ar.setW (Sl.layF key g z n (fun t => decide (k + 1 ≤ t)) B) (bs g z k) (Li.lk key (bs g z k : Nat) (Sl.nxt g z n k)) = Sl.layF key g z n (fun t => decide (k ≤ t)) B := by
    rw [← Sl.layF_step hc hk]
    exact Sl.layF_congr (fun j _ => by
      by_cases e : j = k
      · subst e; simp
      · have : decide (k + 1 ≤ j) = decide (k ≤ j) := by
          by_cases e2 : k ≤ j
          · rw [decide_eq_true e2, decide_eq_true (by omega)]
          · rw [decide_eq_false e2, decide_eq_false (by omega)]
        simp [e, this])
  rw [el, eB] at d4
  refine ⟨q4, cap4, v', by rw [if_pos hk]; exact d4, k4 _ h4, ho.kept g4 (row_ne ho), ?_, fun _ => ⟨Nat.le_trans hg.size hq4, ?_⟩, ?_⟩
  · intro e
    have := (ho.lt q4 e.symm).2
    omega
  · rintro rfl
    have := ho.2
    rcases this with ⟨_, h0⟩ | ⟨g', cap', cur, e, _⟩
    · omega
    · cases e
  · exact grown_own hg g4 (by omega)
theorem dlay_end {w wr : World} {s key g N c z n : Nat} {B : Nat → Nat} (h : DLay w wr s key g N c z n 0 B) (hn : 0 < n) (hs : w.heap.size ≤ s) : DNew w wr key g N c n (fun _ => 0) 0 (Sl.layF key g z n (fun _ => true) B) (.returned (.pointer (some ⟨s, 0, none⟩))) := by
  obtain ⟨q, cap, v, h1, h2, h3, h4, h5, h6⟩ := h
  obtain ⟨hq, hv⟩ := h5 hn
  obtain ⟨A, ac, rfl, ha, hsa, hst⟩ := ints_own h3 hv
  rw [if_pos hn] at h1
  refine ⟨s, rfl, hs, ⟨q, cap, A, ac, ⟨?_, h2, hst, by omega, ha⟩, hq, by omega⟩, h6⟩
  have e : Sl.layF key g z n (fun _ => true) B = Sl.layF key g z n (fun t => decide (0 ≤ t)) B := Sl.layF_congr (fun j _ => by simp)
  rw [e]
  exact h1
set_option maxRecDepth 100000 in
set_option maxHeartbeats 4000000 in
theorem dmake_at {w : World} {q cap key g c z n r N : Nat} {B : Nat → Nat} (hb : An.BytesAt w q N B) (hcap : N ≤ cap) (hc : Cls c z n r) (hg : g * 256 + 256 ≤ N) (hN : N ≤ 65536) (hlt : ∀ i, B i < 256) (hkey : key < 18446744073709551616) :
    Calls Tryz.prog 106 #[.slice (some ⟨q, 0, none⟩) N cap, .int .u64 key, .int .i64 g, .int .i64 c] w fun e w' => DNew w w' key g N c n (fun _ => 0) 0 (Sl.layF key g z n (fun _ => true) B) e := by
  have HS := Lib.hid (fun w => rslots_at hc w)
  have n1 := hc.facts.n2
  have n2 := hc.facts.n16
  have HC := Lib.hid hc
  obtain ⟨i0, hi, hz0, hz1, hz2⟩ := info_parts infoInt
  have H0 : Hid (DLay w (w.alloc (.cells #[.slice (some ⟨q, 0, none⟩) N cap, .int .u64 key, .int .i64 g, .int .i64 c, .slice none 0 0, .int .i64 (-1)] 165)) w.heap.size key g N c z n n B) := Lib.hid (by
    have e : Sl.layF key g z n (fun t => decide (n ≤ t)) B = B := Sl.layF_none (fun j hj => by simpa using hj)
    refine ⟨q, cap, .slice none 0 0, ?_, by rw [cell_alloc_new]; rfl, by rw [Nat.sub_self]; exact World.ownsRow_nil _ _ _ _, by simp [Value.ownBlock], fun h => by omega, grown_alloc _ _ _⟩
    rw [if_neg (by omega), e]
    refine ⟨?_, ?_, ?_, ?_, ?_, fun k => frozen_alloc_new .., hb.grown (grown_alloc _ _ none) (by simp), by have := hb.qlt; omega, hcap, hN, hg, hlt, hkey⟩ <;> (rw [cell_alloc_new]; rfl))
  have HJ := Lib.hid (fun (wr : World) q cap k f B1 h (hk : k < n) hf => djoin_at (w := wr) (s := w.heap.size) (key := key) (g := g) (N := N) (q := q) (cap := cap) (k := k) (f := f) (B := B1) h hc hk hf)
  clear hb hcap hc hg hN hlt hkey
  go_enter Tryz.func106, Tryz.ntmps106
  go_upto_region 2 with (fail)
  generalize w.alloc (.cells #[.slice (some ⟨q, 0, none⟩) N cap, .int .u64 key, .int .i64 g, .int .i64 c, .slice none 0 0, .int .i64 (-1)] 165) = w1 at *
  generalize hs : w.heap.size = s at *
  have HPE := Lib.hid hs
  clear hs
  go_wp2_with fail
  refine (HS.out _).mono ?_
  rintro e w' ⟨rfl, rfl⟩
  go_wp2_with fail
  go_loopw [10] (fun i wr => ∃ j : Nat, j ≤ n ∧ i = .int .i64 ((j : Int) - 1) ∧ DLay w wr s key g N c z n j B) (fun i _ => (intOf i + 1).toNat)
  case atStart => exact ⟨n, Nat.le_refl _, rfl, H0.out⟩
  case round =>
    obtain ⟨j, hj, rfl, hr⟩ := hrel
    cases j with
    | zero =>
      have HR := Lib.hid (dlay_end hr (by omega) (by have := HPE.out; omega))
      clear hr
      rw [show ((0 : Nat) : Int) - 1 = -1 by omega]
      go_wp2
      go_ret
      exact HR.out
    | succ k =>
      rw [show ((k + 1 : Nat) : Int) - 1 = (k : Int) by omega]
      obtain ⟨q1, cap1, v, h1, h2, h3, h4, h5, h6⟩ := hr
      obtain ⟨m, hm⟩ : ∃ m, n - (k + 1) = m := ⟨_, rfl⟩
      rw [hm] at h3
      have HM := Lib.hid hm
      have HR := Lib.hid h1
      have HY := Lib.hid (And.intro h3 (And.intro h4 h6))
      have H2 := Lib.hid h2
      have hk1 : ((k : Nat) : Int) ≥ 0 := by omega
      have hsz : s < wr.heap.size := h1.slt
      clear h1 h3 h4 h5 h6 hm
      go_wp2_with (at_builtin; refine wpList_append_own _ rfl _ _ 78 rfl (s + 1) 3 i0 (.int .i64 0) 1 8 Tryz.underlying78 hi hz0 hz1 hz2 rfl (by decide) _ _ _ rfl (HY.out.1.alloc _) ⟨wr.heap.size, 0, none⟩ 1 1 [.int .i64 0] rfl ?c1 ?c2 ?c3 ?c4 ?c5 ?c6 ?_)
      case c1 => rfl
      case c2 => exact fun j u hj => An.one_cell wr _ _ j u hj
      case c3 => exact fun u hu => by rw [List.mem_singleton.1 hu]; rfl
      case c4 => have := HM.out; simp only [maxLen]; omega
      case c5 => have := HM.out; omega
      case c6 => simp; omega
      intro v' w2 h2' h3' _
      obtain ⟨g4, cap4, rfl⟩ : ∃ g4 cap4, v' = .slice (some ⟨g4, 0, none⟩) (m + 1) cap4 := by
        rcases h2'.2 with ⟨_, h⟩ | ⟨g4, cap4, cur, e, _⟩
        · omega
        · exact ⟨g4, cap4, e⟩
      obtain ⟨a1, a2, a3, a4, a5, a6⟩ := dlay_app HPE.out HR.out H2.out HY.out.1 HY.out.2.1 HY.out.2.2 h2' h3'
      have HA := Lib.hid (And.intro a4 (And.intro a5 a6))
      have HC3 := Lib.hid (HJ.out _ _ _ k _ _ a1 (by omega) (by
        by_cases e : k + 1 < n
        · rw [if_pos e]; exact .inr ⟨k + 1, rfl, e⟩
        · rw [if_neg e]; exact .inl rfl))
      clear a1 a4 a5 a6 h2' h3'
      go_upto_region 6 with (fail)
      generalize w2.setCell ⟨s, 4, none⟩ (.slice (some ⟨g4, 0, none⟩) (m + 1) cap4) = w3 at *
      go_wp2_with fail
      refine HC3.out.mono ?_
      rintro e w4 ⟨rfl, hr4⟩
      have HR4 := Lib.hid (dlay_join HPE.out HC.out (by omega) hr4 HA.out.1 (by rw [show n - k = m + 1 by have := HM.out; omega]; exact HA.out.2.1) HA.out.2.2)
      clear hr4 HC3
      go_wp2
      go_roundw
      case rel => exact ⟨k, by omega, rfl, HR4.out⟩
      case measure => simp [intOf]
end Go.Proofs.YtgnfcklippjeeaaGreat

/- The document's slab: the walks of Take, Drop, Give. -/
namespace Go.Proofs.YtgnfcklippjeeaaGreat
open Go.RowKit
open Sl (Cls bs upd LnkIs)

set_option maxRecDepth 100000 in
set_option maxHeartbeats 1000000 in
theorem dtake_full {w : World} {s key g N q cap c : Nat} {B : Nat → Nat} (h : DbAt w s key g N q cap c (-1) B) :
    Calls Tryz.prog 109 #[.pointer (some ⟨s, 0, none⟩)] w fun e w' => e = .returned (.tuple #[.int .i64 0, .int .i64 5]) ∧ w = w' := by
  have c5 := h.c5
  clear h
  go_enter Tryz.func109, Tryz.ntmps109
  go_wp2
  go_ret2
  exact ⟨rfl, rfl⟩
set_option maxRecDepth 100000 in
set_option maxHeartbeats 1000000 in
theorem dtake_form {w : World} {s key g N q cap c z n r k A ac : Nat} {B S : Nat → Nat} (h : DsAt w s key g N q cap A ac c n S k B) (hc : Cls c z n r) (hk : k < n) (hx : LnkIs key g z n S B k (-2)) :
    Calls Tryz.prog 109 #[.pointer (some ⟨s, 0, none⟩)] w fun e w' => e = .returned (.tuple #[.int .i64 0, .int .i64 4]) ∧ w.grownBy w' none := by
  have c5 := h.c5
  have HL := Lib.hid (dlink_at h.toDbAt h.c4 h.st hc hk hx)
  have hk0 : decide ((k : Int) < 0) = false := decide_eq_false (by omega)
  clear h hc hk hx
  go_enter Tryz.func109, Tryz.ntmps109
  go_wp2_with (go_at_call 160; (with_reducible refine HL.out.mono ?_); rintro e w1 ⟨rfl, hd⟩; have HG := Lib.hid (drew_grownBy (r := none) hd); clear hd)
  go_ret2
  exact ⟨rfl, HG.out⟩

theorem dwith_to {w : World} {A n ac k v : Nat} {x : Int} {S : Nat → Nat} (hx : (v : Int) = x) (h : IntsAt w A n S) (hk : k < n) (hn : n ≤ 16) :
    Calls Tryz.prog 164 #[.slice (some ⟨A, 0, none⟩) n ac, .int .i64 k, .int .i64 x] w fun e w' => IntsNew w w' n (upd S k v) e := by
  rw [← hx]
  exact dwith_at h hk hn
theorem undrew {a b : World} {r : Option Nat} (h : a.drew.grownBy b r) : a.grownBy b r := ⟨h.os, h.tape, h.output, h.size, h.block⟩
theorem DsAt.join {w w2 : World} {s key g N q cap A ac c n : Nat} {S : Nat → Nat} {f f' : Int} {B B' : Nat → Nat} (h : DsAt w s key g N q cap A ac c n S f B) (hj : DJoin w w2 s key g N c f' B') : ∃ q2 cap2, DsAt w2 s key g N q2 cap2 A ac c n S f' B' ∧ w.heap.size ≤ q2 ∧ w.grownBy w2 (some s) := by
  obtain ⟨⟨q2, cap2, h2, hq2⟩, g2, k2⟩ := hj
  exact ⟨q2, cap2, ⟨h2, k2 _ h.c4, h.st.grown g2 (some_ne h.As), h.As, h.hac⟩, hq2, g2⟩
theorem DsAt.states {w w3 : World} {s key g N q cap A ac c n : Nat} {S S' : Nat → Nat} {f : Int} {B : Nat → Nat} (h : DsAt w s key g N q cap A ac c n S f B) {A' ac' : Nat} (hg : w.grownBy w3 none) (hst : IntsAt w3 A' n S') (hA : w.heap.size ≤ A') (hac : n ≤ ac') :
    w3.cell? ⟨s, 4, none⟩ = some (.slice (some ⟨A, 0, none⟩) n ac) ∧ w3.frozen? ⟨s, 4, none⟩ = false ∧ DsAt (w3.setCell ⟨s, 4, none⟩ (.slice (some ⟨A', 0, none⟩) n ac')) s key g N q cap A' ac' c n S' f B ∧ w.grownBy (w3.setCell ⟨s, 4, none⟩ (.slice (some ⟨A', 0, none⟩) n ac')) (some s) := by
  have h3 := h.grown hg
  have hne : A' ≠ s := by have := h.slt; omega
  exact ⟨h3.c4, h3.fz 4, ⟨h3.toDbAt.state _, World.cell?_setCell_same' _ _ _ (by rw [h3.c4]; rfl), hst.grown (An.agrown_set _ _ _ _) (some_ne hne), hne, hac⟩, grown_trans (grown_none hg) (An.agrown_set _ _ _ _)⟩
theorem DsAt.turn {w : World} {s key g N q cap A ac c n : Nat} {S : Nat → Nat} {f : Int} {B : Nat → Nat} (h : DsAt w s key g N q cap A ac c n S f B) (f' : Int) : w.cell? ⟨s, 5, none⟩ = some (.int .i64 f) ∧ w.frozen? ⟨s, 5, none⟩ = false ∧ DsAt (w.setCell ⟨s, 5, none⟩ (.int .i64 f')) s key g N q cap A ac c n S f' B :=
  ⟨h.c5, h.fz 5, h.toDbAt.first f', setc_other (by decide) h.c4, h.st.grown (An.agrown_set _ _ _ _) (some_ne h.As), h.As, h.hac⟩

set_option maxRecDepth 100000 in
set_option maxHeartbeats 4000000 in
theorem dtake_ok {w : World} {s key g N q cap c z n r k A ac : Nat} {x : Int} {B S : Nat → Nat} (h : DsAt w s key g N q cap A ac c n S k B) (hc : Cls c z n r) (hk : k < n) (hx : LnkIs key g z n S B k x) (h2 : x ≠ -2) :
    Calls Tryz.prog 109 #[.pointer (some ⟨s, 0, none⟩)] w fun e w' => e = .returned (.tuple #[.int .i64 k, .int .i64 0]) ∧ DTo w w' s key g N c n (upd S k 1) x (Sl.takeB key g z r k B) := by
  have c5 := h.c5
  have HL := Lib.hid (dlink_at h.toDbAt h.c4 h.st hc hk hx)
  have HSZ := Lib.hid (fun W => rsize_at hc W)
  have hk0 : decide ((k : Int) < 0) = false := decide_eq_false (by omega)
  have hx2 : (x == -2) = false := by simpa using h2
  have H := Lib.hid h
  have HN := bs_bdN h.toDbAt hc hk
  have hN := h.small
  have hrs := hc.facts.rs
  have hs16 := hc.facts.s16
  have hs128 := hc.facts.s128
  have hn16 := hc.facts.n16
  have hk7 := h.k
  have HC := Lib.hid hc
  have HK := Lib.hid hk
  have HBASE : Hid (∀ (W : World) q' cap' f' B', DbAt W s key g N q' cap' c f' B' → ∀ V, W.grownBy V none → Calls Tryz.prog 162 #[.pointer (some ⟨s, 0, none⟩), .int .i64 k] V fun e w' => e = .returned (.int .i64 (bs g z k : Nat)) ∧ V.grownBy w' none) :=
    Lib.hid (fun W q' cap' f' B' h1 V gr => ((h1.grown gr).base hc hk).mono fun _ _ ⟨he, hd⟩ => ⟨he, drew_grownBy hd⟩)
  have HMX : Hid (∀ W, Calls Tryz.prog 156 #[.int .u64 (key ^^^ Li.u ((bs g z k : Nat) : Int) : Nat)] W fun e w' => e = .returned (.int .u64 (Sl.can key g z k : Nat)) ∧ W = w') := Lib.hid (fun W => rmix_at (key ^^^ Li.u ((bs g z k : Nat) : Int)) (Li.xor_lt hk7 (Li.u_lt _)) W)
  have hcan : Sl.can key g z k < 18446744073709551616 := Li.mix_lt _
  have HNP : Hid (∀ (W : World), Calls Tryz.prog 163 #[.int .i64 8, .int .u64 (Sl.can key g z k : Nat)] W fun e w' => An.BytesNew W w' 8 (Ar.byt (Sl.can key g z k)) e) := Lib.hid (fun W => An.rput_at _ hcan W)
  have HTB : Hid (Ar.setB (Ar.setB B (bs g z k) r (fun _ => 0)) (bs g z k + r) 8 (Ar.byt (Sl.can key g z k)) = Sl.takeB key g z r k B) := Lib.hid rfl
  obtain ⟨y, hy⟩ : ∃ y, y = bs g z k := ⟨_, rfl⟩
  rw [← hy] at HN HBASE HMX HTB
  obtain ⟨a, ha⟩ : ∃ a, a = y + r := ⟨_, rfl⟩
  rw [← ha] at HTB
  have e1 : IntKind.i64.wrap ((z : Int) - 8) = (r : Int) := by rw [IntKind.wrap_i64]; omega
  have e2 : IntKind.i64.wrap ((y : Int) + (r : Int)) = (a : Int) := by rw [IntKind.wrap_i64]; omega
  have e3 := wrap_u (y : Int)
  have e4 := u64_xor_nat key (Li.u (y : Int)) hk7 (Li.u_lt _)
  have HR1 : Hid (1 ≤ r ∧ y + r ≤ N ∧ a + 8 ≤ N) := Lib.hid ⟨by omega, by omega, by omega⟩
  have hr64 : r ≤ 65536 := by omega
  have hmk : ∀ W : World, (Instr.makeSlice 24 (.int .i64 (r : Int)) (.int .i64 (r : Int))).run Tryz.prog W = .ok (.slice (some ⟨W.heap.size, 0, none⟩) r r) (W.alloc (.cells (An.zeroBytes r) 5)) := fun W => An.make_bytes W r hr64
  have HN16 := Lib.hid hn16
  clear h hc hk hx h2 HN hN hrs hs16 hs128 hn16 hk7 hcan hy ha hr64
  generalize Sl.can key g z k = cn at *
  generalize key ^^^ Li.u (y : Int) = kx at *
  generalize Li.u (y : Int) = u at *
  generalize Sl.takeB key g z r k B = BT at *
  go_enter Tryz.func109, Tryz.ntmps109
  go_upto_region 5 with ((go_at_call 160; (with_reducible refine HL.out.mono ?_); rintro e w1 ⟨rfl, hd⟩; have HG := Lib.hid (drew_grownBy (r := none) hd); clear hd))
  have H1 := Lib.hid (H.out.grown HG.out)
  have c3 := H1.out.c3
  clear c5 HL H
  go_upto_region 8 with ((go_at_call 103; (with_reducible refine (HSZ.out _).mono ?_); rintro e w' ⟨rfl, rfl⟩))
  have HB1 := Lib.hid (HBASE.out _ _ _ _ _ H1.out.toDbAt)
  have HP8 : Hid (∀ (W : World) (t : Nat), w1.grownBy W none → An.BytesAt W t r (fun _ => 0) → Calls Tryz.prog 161 #[.pointer (some ⟨s, 0, none⟩), .int .i64 y, .slice (some ⟨t, 0, none⟩) r r] W fun e w' => e = .returned (.tuple #[]) ∧ DJoin W w' s key g N c k (Ar.setB B y r (fun _ => 0))) := Lib.hid (fun W t gr hs => (H1.out.toDbAt.grown gr).put hs HR1.out.1 HR1.out.2.1 (fun _ => by omega))
  have HF8 : Hid (∀ W w6, w1.grownBy W none → DJoin W w6 s key g N c k (Ar.setB B y r (fun _ => 0)) → (∃ q2 cap2, DsAt w6 s key g N q2 cap2 A ac c n S k (Ar.setB B y r (fun _ => 0)) ∧ w1.heap.size ≤ q2) ∧ w1.grownBy w6 (some s)) := Lib.hid (fun W w6 gr hj => by
    obtain ⟨q2, cap2, h2, hq2, hg2⟩ := (H1.out.grown gr).join hj
    exact ⟨⟨q2, cap2, h2, Nat.le_trans gr.size hq2⟩, grown_trans (grown_none gr) hg2⟩)
  have HC1 := Lib.hid (fun W (gr : w1.grownBy W none) => (H1.out.grown gr).c1)
  have hg0 := grown_refl w1 none
  have d1 := H1.out.c1
  have hg1 := grown_drew1 hg0
  go_region_held3 (fun w' => w'.cell? ⟨s, 1, none⟩ = some (.int .u64 (key : Nat)))
    (first | exact d1 | exact HS3.out | exact HC1.out _ (by first | assumption | exact grown_trans (by assumption : w1.grownBy _ none) (grown_alloc _ _ _)))
    (first
    | (go_at_call 162; (with_reducible refine (HB1.out _ (by first | assumption | exact grown_trans (by assumption : w1.grownBy _ none) (grown_alloc _ _ _))).mono ?_); rintro e w3 ⟨rfl, m⟩; have HM3 := Lib.hid m; have hg := grown_trans (by first | assumption | exact grown_trans (by assumption : w1.grownBy _ none) (grown_alloc _ _ _) : w1.grownBy _ none) m; clear m)
    | (go_at_call 161; (with_reducible refine (HP8.out _ _ (by first | assumption | exact grown_trans (by assumption : w1.grownBy _ none) (grown_alloc _ _ _)) (by first | exact An.bytes_new _ _ _ | exact (An.bytes_new _ _ _).grown (r := none) HM3.out (by simp) | exact (An.bytes_new _ _ _).grown (r := none) (undrew HM3.out) (by simp))).mono ?_); rintro e w6 ⟨rfl, k5⟩; have K := Lib.hid (HF8.out _ _ (by first | assumption | exact grown_trans (by assumption : w1.grownBy _ none) (grown_alloc _ _ _)) k5); have HS3 := Lib.hid (by obtain ⟨⟨q6, cap6, h6, _⟩, _⟩ := K.out; exact h6.c1 : w6.cell? ⟨s, 1, none⟩ = some (.int .u64 (key : Nat))); clear k5))
  all_goals
    obtain ⟨⟨q2, cap2, h2, hq2⟩, hg2⟩ := K.out
    have H2 := Lib.hid h2
    have HQ2 := Lib.hid hq2
    have HG2 := Lib.hid hg2
    clear h2 hq2 hg2 K HF8 HP8 HC1 HB1 HS3 d1
    clear hg hg0 hg1
    obtain ⟨w2, hw2⟩ : ∃ w2 : World, w2 = w6 := ⟨_, rfl⟩
    rw [← hw2] at H2 HG2 ⊢
    clear hw2
    go_upto_region 9 with (fail)
    have HB2 := Lib.hid (HBASE.out _ _ _ _ _ H2.out.toDbAt)
    have HP9 : Hid (∀ (W : World) (t sc : Nat), w2.grownBy W none → An.BytesAt W t 8 (Ar.byt cn) → Calls Tryz.prog 161 #[.pointer (some ⟨s, 0, none⟩), .int .i64 a, .slice (some ⟨t, 0, none⟩) 8 sc] W fun e w' => e = .returned (.tuple #[]) ∧ DJoin W w' s key g N c k BT) := Lib.hid (fun W t sc gr hs => by
      rw [← HTB.out]
      exact (H2.out.toDbAt.grown gr).put hs (by omega) HR1.out.2.2 (Ar.byt_lt _))
    have HF9 : Hid (∀ W w6, w2.grownBy W none → DJoin W w6 s key g N c k BT → (∃ q2 cap2, DsAt w6 s key g N q2 cap2 A ac c n S k BT ∧ w2.heap.size ≤ q2) ∧ w2.grownBy w6 (some s)) := Lib.hid (fun W w6 gr hj => by
      obtain ⟨q2, cap2, h2, hq2, hg2⟩ := (H2.out.grown gr).join hj
      exact ⟨⟨q2, cap2, h2, Nat.le_trans gr.size hq2⟩, grown_trans (grown_none gr) hg2⟩)
    have HC2 := Lib.hid (fun W (gr : w2.grownBy W none) => (H2.out.grown gr).c1)
    have hg0 := grown_refl w2 none
    have d1 := H2.out.c1
    have hg1 := grown_drew1 hg0
    go_region_held3 (fun w' => w'.cell? ⟨s, 1, none⟩ = some (.int .u64 (key : Nat)))
      (first | exact d1 | exact HC2.out _ (by assumption) | exact HS3.out)
      (first
      | (go_at_call 162; (with_reducible refine (HB2.out _ (by assumption)).mono ?_); rintro e w3 ⟨rfl, m⟩; have hg := grown_trans (by assumption : w2.grownBy _ none) m; clear m)
      | (go_at_call 156; (with_reducible refine (HMX.out _).mono ?_); rintro e w3 ⟨rfl, rfl⟩)
      | (go_at_call 163; (with_reducible refine (HNP.out _).mono ?_); rintro e w5 ⟨q5, cap5, rfl, k1, k2, k3, k4⟩; have hg5 := grown_trans (by assumption : w2.grownBy _ none) k4; have K3 := Lib.hid k3; clear k1 k2 k3 k4)
      | (go_at_call 161; (with_reducible refine (HP9.out _ _ _ hg5 K3.out).mono ?_); rintro e w7 ⟨rfl, k5⟩; have K := Lib.hid (HF9.out _ _ hg5 k5); have HS3 := Lib.hid (by obtain ⟨⟨q6, cap6, h6, _⟩, _⟩ := K.out; exact h6.c1 : w7.cell? ⟨s, 1, none⟩ = some (.int .u64 (key : Nat))); clear k5))
    obtain ⟨⟨q3, cap3, h3, hq3⟩, hg3⟩ := K.out
    have H3 := Lib.hid h3
    have HG3 := Lib.hid (grown_trans (grown_none HG.out) (grown_trans HG2.out hg3))
    have HQ3 : Hid (w.heap.size ≤ q3) := Lib.hid (by have := HG.out.size; have := HG2.out.size; omega)
    clear h3 hq3 hg3 K HF9 HP9 HC2 HB2 HS3 d1 HG2 HQ2 H2 hg hg5 K3 hg0 hg1 H1 HG
    obtain ⟨w3, hw3⟩ : ∃ w3 : World, w3 = w7 := ⟨_, rfl⟩
    rw [← hw3] at H3 HG3 ⊢
    clear hw3 c3 hmk HMX HNP HBASE
    have c4 := H3.out.c4
    have HWI := Lib.hid (dwith_to (ac := ac) (v := 1) (x := 1) rfl H3.out.st HK.out HN16.out)
    go_upto_region 11 with ((go_at_call 164; (with_reducible refine HWI.out.mono ?_); rintro e w8 ⟨A', ac', rfl, k1, k2, k3, k4⟩; obtain ⟨d4, z4, h9, g9⟩ := H3.out.states k4 k3 k2 k1; have H9 := Lib.hid h9; have HG9 := Lib.hid (grown_trans HG3.out g9); have HA : Hid (w.heap.size ≤ A') := Lib.hid (by have := HG3.out.size; omega); clear k1 k2 k3 k4 h9 g9))
    obtain ⟨w9, hw9⟩ : ∃ w9 : World, w9 = w8.setCell ⟨s, 4, none⟩ (.slice (some ⟨A', 0, none⟩) n ac') := ⟨_, rfl⟩
    rw [← hw9] at H9 HG9 ⊢
    clear hw9 c4 d4 z4 HWI
    obtain ⟨d5, z5, h10⟩ := H9.out.turn x
    have HFIN : Hid (DTo w (w9.setCell ⟨s, 5, none⟩ (.int .i64 x)) s key g N c n (upd S k 1) x BT) := Lib.hid ⟨⟨q3, cap3, A', ac', h10, HQ3.out, HA.out⟩, grown_trans HG9.out (An.agrown_set _ _ _ _)⟩
    clear h10
    go_wp2
    go_ret2
    exact ⟨rfl, HFIN.out⟩
end Go.Proofs.YtgnfcklippjeeaaGreat

/- The document's slab: the walks of Drop, Give. -/
namespace Go.Proofs.YtgnfcklippjeeaaGreat
open Go.RowKit
open Sl (Cls bs upd LnkIs)

theorem dmust_to {w : World} {s A n ac k x : Nat} {y : Int} {S : Nat → Nat} (er : Int) (hy : (x : Int) = y) (he : (if S k = x then (0 : Int) else 8) = er) (c4 : w.cell? ⟨s, 4, none⟩ = some (.slice (some ⟨A, 0, none⟩) n ac)) (h : IntsAt w A n S) (hk : k < n) :
    Calls Tryz.prog 168 #[.pointer (some ⟨s, 0, none⟩), .int .i64 k, .int .i64 y] w fun e w' => e = .returned (.int .i64 er) ∧ w = w' := by
  rw [← hy, ← he]
  exact dmust_at c4 h hk
set_option maxRecDepth 100000 in
set_option maxHeartbeats 1000000 in
theorem ddrop_no {w : World} {s key g N q cap c n k A ac : Nat} {f : Int} {B S : Nat → Nat} (h : DsAt w s key g N q cap A ac c n S f B) (hk : k < n) (h1 : S k ≠ 1) :
    Calls Tryz.prog 112 #[.pointer (some ⟨s, 0, none⟩), .int .i64 k] w fun e w' => e = .returned (.tuple #[.bool false, .int .i64 8]) ∧ w = w' := by
  have HM := Lib.hid (dmust_to (x := 1) (y := 1) 8 rfl (if_neg h1) h.c4 h.st hk)
  clear h hk h1
  go_enter Tryz.func112, Tryz.ntmps112
  go_wp2_with (go_at_call 168; (with_reducible refine HM.out.mono ?_); rintro e w' ⟨rfl, rfl⟩)
  go_ret2
  exact ⟨rfl, rfl⟩
set_option maxRecDepth 100000 in
set_option maxHeartbeats 1000000 in
theorem dgive_no {w : World} {s key g N q cap c n k A ac : Nat} {f : Int} {B S : Nat → Nat} (h : DsAt w s key g N q cap A ac c n S f B) (hk : k < n) (h1 : S k ≠ 2) :
    Calls Tryz.prog 113 #[.pointer (some ⟨s, 0, none⟩), .int .i64 k] w fun e w' => e = .returned (.int .i64 8) ∧ w = w' := by
  have HM := Lib.hid (dmust_to (x := 2) (y := 2) 8 rfl (if_neg h1) h.c4 h.st hk)
  clear h hk h1
  go_enter Tryz.func113, Tryz.ntmps113
  go_wp2_with (go_at_call 168; (with_reducible refine HM.out.mono ?_); rintro e w' ⟨rfl, rfl⟩)
  go_ret
  exact ⟨rfl, rfl⟩

set_option maxRecDepth 100000 in
set_option maxHeartbeats 4000000 in
theorem dgive_ok {w : World} {s key g N q cap c z n r k A ac : Nat} {f : Int} {B S : Nat → Nat} (h : DsAt w s key g N q cap A ac c n S f B) (hc : Cls c z n r) (hk : k < n) (h1 : S k = 2) (hf : f = -1 ∨ ∃ j : Nat, f = j ∧ j < n) :
    Calls Tryz.prog 113 #[.pointer (some ⟨s, 0, none⟩), .int .i64 k] w fun e w' => e = .returned (.int .i64 0) ∧ DTo w w' s key g N c n (upd S k 0) k (Ar.setW B (bs g z k) (Li.lk key (bs g z k : Nat) (lto g z f))) := by
  have HM := Lib.hid (dmust_to (x := 2) (y := 2) 0 rfl (if_pos h1) h.c4 h.st hk)
  have H := Lib.hid h
  have c4 := h.c4
  have HWI := Lib.hid (dwith_to (ac := ac) (v := 0) (x := 0) rfl h.st hk hc.facts.n16)
  have HJ : Hid (∀ W A' ac' S', DsAt W s key g N q cap A' ac' c n S' f B → Calls Tryz.prog 159 #[.pointer (some ⟨s, 0, none⟩), .int .i64 k] W fun e w' => e = .returned (.tuple #[]) ∧ DJoin W w' s key g N c k (Ar.setW B (bs g z k) (Li.lk key (bs g z k : Nat) (lto g z f)))) := Lib.hid (fun W A' ac' S' hW => djoin_at hW.toDbAt hc hk hf)
  generalize Ar.setW B (bs g z k) (Li.lk key (bs g z k : Nat) (lto g z f)) = BT at *
  clear h hc hk h1 hf
  go_enter Tryz.func113, Tryz.ntmps113
  go_upto_region 5 with (first
    | (go_at_call 168; (with_reducible refine HM.out.mono ?_); rintro e w' ⟨rfl, rfl⟩)
    | (go_at_call 164; (with_reducible refine HWI.out.mono ?_); rintro e w8 ⟨A', ac', rfl, k1, k2, k3, k4⟩; obtain ⟨d4, z4, h9, g9⟩ := H.out.states k4 k3 k2 k1; have H9 := Lib.hid h9; have HG9 := Lib.hid g9; have HA := Lib.hid k2; clear k1 k2 k3 k4 h9 g9))
  obtain ⟨w9, hw9⟩ : ∃ w9 : World, w9 = w8.setCell ⟨s, 4, none⟩ (.slice (some ⟨A', 0, none⟩) n ac') := ⟨_, rfl⟩
  rw [← hw9] at H9 HG9 ⊢
  clear hw9 c4 d4 z4 HWI HM
  have HJ9 := Lib.hid (HJ.out _ _ _ _ H9.out)
  clear HJ
  go_wp2_with (go_at_call 159; (with_reducible refine HJ9.out.mono ?_); rintro e w10 ⟨rfl, hj⟩; have HF := Lib.hid (H9.out.join hj); clear hj)
  go_ret
  obtain ⟨q2, cap2, h2, hq2, hg2⟩ := HF.out
  exact ⟨rfl, ⟨q2, cap2, A', ac', h2, Nat.le_trans HG9.out.size hq2, HA.out⟩, grown_trans HG9.out hg2⟩

set_option maxRecDepth 100000 in
set_option maxHeartbeats 4000000 in
theorem ddrop_ok {w : World} {s key g N q cap c z n r k A ac : Nat} {f : Int} {B S : Nat → Nat} (h : DsAt w s key g N q cap A ac c n S f B) (hc : Cls c z n r) (hk : k < n) (h1 : S k = 1) :
    Calls Tryz.prog 112 #[.pointer (some ⟨s, 0, none⟩), .int .i64 k] w fun e w' => e = .returned (.tuple #[.bool (decide (Ar.wordAt B (bs g z k + r) = Sl.can key g z k)), .int .i64 0]) ∧ DTo w w' s key g N c n (upd S k 2) f (Sl.dropB g z k B) := by
  have HM := Lib.hid (dmust_to (x := 1) (y := 1) 0 rfl (if_pos h1) h.c4 h.st hk)
  have HST := Lib.hid (dstands_at h.toDbAt hc hk)
  have HSZ := Lib.hid (fun W => rsize_at hc W)
  have H := Lib.hid h
  have HC := Lib.hid hc
  have HK := Lib.hid hk
  have HN := bs_bdN h.toDbAt hc hk
  have hs16 := hc.facts.s16
  have hs128 := hc.facts.s128
  have HBASE : Hid (∀ V, w.grownBy V none → Calls Tryz.prog 162 #[.pointer (some ⟨s, 0, none⟩), .int .i64 k] V fun e w' => e = .returned (.int .i64 (bs g z k : Nat)) ∧ V.grownBy w' none) :=
    Lib.hid (fun V gr => ((h.grown gr).toDbAt.base hc hk).mono fun _ _ ⟨he, hd⟩ => ⟨he, drew_grownBy hd⟩)
  have HTB : Hid (Ar.setB B (bs g z k) z (fun _ => 221) = Sl.dropB g z k B) := Lib.hid rfl
  obtain ⟨y, hy⟩ : ∃ y, y = bs g z k := ⟨_, rfl⟩
  rw [← hy] at HN HBASE HTB
  generalize decide (Ar.wordAt B (bs g z k + r) = Sl.can key g z k) = st at *
  generalize Sl.dropB g z k B = BT at *
  have HZ : Hid (1 ≤ z ∧ y + z ≤ N) := Lib.hid ⟨by omega, by omega⟩
  have hzi : (z : Int) ≤ 128 := by omega
  obtain ⟨i0, hi, hz0, hz1, hz2⟩ := info_parts An.infoByte
  clear h hc hk h1 hy HN hs16 hs128
  go_enter Tryz.func112, Tryz.ntmps112
  go_upto_region 5 with (first
    | (go_at_call 168; (with_reducible refine HM.out.mono ?_); rintro e w' ⟨rfl, rfl⟩)
    | (go_at_call 169; (with_reducible refine HST.out.mono ?_); rintro e w1 ⟨rfl, hd⟩; have HG1 := Lib.hid (drew_grownBy (r := none) hd); clear hd))
  clear HM HST
  go_wp2_with fail
  obtain ⟨w2, hw2⟩ : ∃ w2 : World, w2 = w1 := ⟨_, rfl⟩
  rw [← hw2] at HG1 ⊢
  clear hw2
  go_loopw [8, 9] (fun v i wr => ∃ j : Nat, j ≤ z ∧ i = .int .i64 j ∧ An.BytesOwn wr w2.heap.size v j (fun _ => 221) ∧ w2.grownBy wr none ∧ (0 < j → v ≠ .slice none 0 0)) (fun _ i _ => z - (intOf i).toNat)
  case atStart => exact ⟨0, by omega, rfl, World.ownsRow_nil _ _ _ _, grown_refl _ _, fun h => by omega⟩
  case round =>
    obtain ⟨j, hj, rfl, hown, hg, hne⟩ := hrel
    have HOW := Lib.hid hown
    have HG := Lib.hid hg
    have HNE := Lib.hid hne
    have c3 := (H.out.grown (grown_trans HG1.out hg)).c3
    clear hown hg hne
    by_cases hlt : j < z
    · have hlti : (j : Int) < (z : Int) := by omega
      go_wp2_with (first
        | (go_at_call 103; (with_reducible refine (HSZ.out _).mono ?_); rintro e w' ⟨rfl, rfl⟩)
        | (at_builtin; refine wpList_append_own _ rfl _ _ 24 rfl w2.heap.size 5 i0 (.int .u8 0) 1 1 Tryz.underlying24 hi hz0 hz1 hz2 rfl (by decide) _ _ _ rfl (HOW.out.alloc _) ⟨wr.heap.size, 0, none⟩ 1 1 [.int .u8 221] rfl ?c1 ?c2 ?c3 ?c4 ?c5 ?c6 ?_))
      case c1 => rfl
      case c2 => exact fun j u hj => An.one_cell wr _ _ j u hj
      case c3 => exact fun u hu => by rw [List.mem_singleton.1 hu]; rfl
      case c4 => simp only [maxLen]; omega
      case c5 => omega
      case c6 => have := HG.out.size; simp; omega
      intro v' w3 h2 h3 h4
      have HE := Lib.hid (An.bonto_end (F := fun _ => 221) _ HG.out HOW.out h2 h3)
      have HV : Hid (v' ≠ .slice none 0 0) := Lib.hid (fun e => h4 e)
      clear h2 h3 h4
      go_wp2
      go_roundw
      case rel => exact ⟨j + 1, by omega, by go_num, HE.out.1, HE.out.2, fun _ => HV.out⟩
      case measure => simp [intOf]; omega
    · obtain rfl : j = z := by omega
      obtain ⟨t, tc, rfl, t1, t2, t3, t4⟩ := An.bytesNew_val (An.bytes_end w2 wr j _ _ HOW.out HG.out (HNE.out (by have := HZ.out.1; omega)))
      have HT := Lib.hid t3
      have HGR := Lib.hid (grown_trans HG1.out t4)
      have HR := Lib.hid (H.out.grown HGR.out)
      have HBR := Lib.hid (HBASE.out _ HGR.out)
      have HPUT : Hid (∀ W, wr.grownBy W none → Calls Tryz.prog 161 #[.pointer (some ⟨s, 0, none⟩), .int .i64 y, .slice (some ⟨t, 0, none⟩) j tc] W fun e w' => e = .returned (.tuple #[]) ∧ ∃ q2 cap2, DsAt w' s key g N q2 cap2 A ac c n S f BT ∧ wr.heap.size ≤ q2 ∧ wr.grownBy w' (some s)) := Lib.hid (fun W gr => by
        refine ((HR.out.grown gr).toDbAt.put (HT.out.grown gr (by simp)) HZ.out.1 HZ.out.2 (fun _ => by omega)).mono ?_
        rintro e w' ⟨he, hj⟩
        obtain ⟨q2, cap2, h2, hq2, hg2⟩ := (HR.out.grown gr).join hj
        rw [HTB.out] at h2
        exact ⟨he, q2, cap2, h2, Nat.le_trans gr.size hq2, grown_trans (grown_none gr) hg2⟩)
      clear t1 t2 t3 t4 HBASE HOW HG HNE HG1
      go_upto_region 11 with (first
        | (go_at_call 103; (with_reducible refine (HSZ.out _).mono ?_); rintro e w' ⟨rfl, rfl⟩)
        | (go_at_call 162; (with_reducible refine HBR.out.mono ?_); rintro e w4 ⟨rfl, m4⟩)
        | (go_at_call 161; (with_reducible refine (HPUT.out _ m4).mono ?_); rintro e w5 ⟨rfl, hp⟩; have HP := Lib.hid hp; clear hp))
      obtain ⟨q2, cap2, h5, hq2, hg2⟩ := HP.out
      have H5 := Lib.hid h5
      have HG5 := Lib.hid (grown_trans (grown_none HGR.out) hg2)
      have HQ2 : Hid (w.heap.size ≤ q2) := Lib.hid (by have := HGR.out.size; omega)
      clear h5 hq2 hg2 HP HPUT HBR HR HT m4 c3
      have c4 := H5.out.c4
      have HWI := Lib.hid (dwith_to (ac := ac) (v := 2) (x := 2) rfl H5.out.st HK.out HC.out.facts.n16)
      go_upto_region 12 with ((go_at_call 164; (with_reducible refine HWI.out.mono ?_); rintro e w8 ⟨A', ac', rfl, k1, k2, k3, k4⟩; obtain ⟨d4, z4, h9, g9⟩ := H5.out.states k4 k3 k2 k1; have HF : Hid (DTo w (w8.setCell ⟨s, 4, none⟩ (.slice (some ⟨A', 0, none⟩) n ac')) s key g N c n (upd S k 2) f BT) := Lib.hid ⟨⟨q2, cap2, A', ac', h9, HQ2.out, by have := HG5.out.size; omega⟩, grown_trans HG5.out g9⟩; clear k1 k2 k3 k4 h9 g9))
      go_wp2
      go_ret2
      exact ⟨rfl, HF.out⟩
end Go.Proofs.YtgnfcklippjeeaaGreat
