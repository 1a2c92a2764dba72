/- The walks of the document's own slab: base, put, join, Make: that they end. -/
import Derived.Test.YticoojcmlkdeiaaSG
import Derived.Test.YticoojcmlkdeiaaAN
namespace Go.Proofs.Yticoojcmlkdeiaa
open Go.RowKit
open Sl (Cls bs upd)

theorem rsize_at {c s n r : Nat} (h : Cls c s n r) (w : World) : Calls Try.prog 17 #[.int .i64 (c : Nat)] w fun e w' => e = .returned (.int .i64 (s : Nat)) ∧ w = w' := rsize_yes w h.cl
set_option maxHeartbeats 400000 in
theorem rbase_at {c s n r p k : Nat} {w : World} (hc : Cls c s n r) (hk : k < n) (c2 : w.cell? ⟨p, 2, none⟩ = some (.int .i64 1)) (c3 : w.cell? ⟨p, 3, none⟩ = some (.int .i64 (c : Nat))) :
    Calls Try.prog 96 #[.pointer (some ⟨p, 0, none⟩), .int .i64 k] w fun e w' => e = .returned (.int .i64 (bs 1 s k : Nat)) ∧ w.grownBy w' none := by
  have HS := Lib.hid (fun w => rsize_at hc w)
  have b1 := Sl.bs_hi hc 1 hk
  have e0 : ((s : Nat) : Int) * (k : Nat) = ((bs 1 s k : Nat) : Int) - 256 := by
    unfold bs
    rw [Int.mul_comm]
    have : ((k * s : Nat) : Int) = (k : Int) * s := by simp
    omega
  have b2 := Sl.bs_lo 1 s k
  have e1 : IntKind.i64.wrap (((s : Nat) : Int) * (k : Nat)) = ((bs 1 s k : Nat) : Int) - 256 := by rw [e0, IntKind.wrap_i64]; omega
  have e2 : IntKind.i64.wrap (256 + (((bs 1 s k : Nat) : Int) - 256)) = ((bs 1 s k : Nat) : Int) := by rw [IntKind.wrap_i64]; omega
  have e3 : IntKind.i64.wrap 256 = 256 := by decide
  clear hc hk b1 b2 e0
  generalize ((bs 1 s k : Nat) : Int) = y at *
  generalize hx : y - 256 = x at *
  clear hx
  go_enter Try.func96, Try.ntmps96
  go_wp2
  go_quiet ((go_at_call 17; exact quiet_left (HS.out _)))
  go_wp2
  go_ret
  exact ⟨rfl, grown_drew (grown_refl _ _) _⟩

/-- The reference's list of bytes, written into. -/
def RPut (w w' : World) (p N : Nat) : Prop := ∃ q cap B, w'.cell? ⟨p, 0, none⟩ = some (.slice (some ⟨q, 0, none⟩) N cap) ∧ N ≤ cap ∧ An.BytesAt w' q N B ∧ w.heap.size ≤ q ∧ w.grownBy w' (some p) ∧ (∀ o v, o ≠ 0 → w.cell? ⟨p, o, none⟩ = some v → w'.cell? ⟨p, o, none⟩ = some v) ∧ ∀ k, w'.frozen? ⟨p, k, none⟩ = false
set_option maxRecDepth 100000 in
set_option maxHeartbeats 2000000 in
theorem rsput_at {w : World} {p q N c a s sc : Nat} {B S : Nat → Nat} (hc0 : w.cell? ⟨p, 0, none⟩ = some (.slice (some ⟨q, 0, none⟩) N c)) (hb : An.BytesAt w q N B) (hs : An.BytesAt w s 8 S) (hfz : ∀ k, w.frozen? ⟨p, k, none⟩ = false) (ha : a + 8 ≤ N) (hN : N ≤ 65536) :
    Calls Try.prog 97 #[.pointer (some ⟨p, 0, none⟩), .int .i64 a, .slice (some ⟨s, 0, none⟩) 8 sc] w fun e w' => e = .returned (.tuple #[]) ∧ RPut w w' p N := by
  have H := Lib.hid hb
  have HS := Lib.hid hs
  have HP := Lib.hid (World.block_lt_of_cell? w ⟨p, 0, none⟩ hc0)
  have HF := Lib.hid hfz
  have HC := Lib.hid hc0
  have hat : a ≤ 65536 := by omega
  have hatN : (a : Int) ≤ N := by omega
  have hc0' := (grown_alloc w (.cells #[] 5) none).cell hc0 (by simp)
  clear hb hs hfz
  obtain ⟨i0, hi, hz0, hz1, hz2⟩ := info_parts An.infoByte
  go_enter Try.func97, Try.ntmps97
  go_wp2_with (at_builtin; refine wpList_append_own _ rfl _ _ 26 rfl w.heap.size 5 i0 (.int .u8 0) 1 1 Try.underlying26 hi hz0 hz1 hz2 rfl (by decide) _ _ _ rfl (World.ownsRow_made w #[] 0 (Nat.le_refl _) (Nat.zero_le _) rfl) ⟨q, 0, none⟩ N c (An.bvals B N) rfl ?c1 ?c2 ?c3 ?c4 ?c5 ?c6 ?_)
  case c1 => rw [An.bvals_length]
  case c2 =>
    intro j u hj
    have hj' : j < N := by
      have := (List.getElem?_eq_some_iff.1 hj).1
      rwa [An.bvals_length] at this
    rw [An.bvals_at B N j hj'] at hj
    have h2 := (grown_alloc w (.cells #[] 5) none).cell (H.out.c j hj') (by simp)
    rw [← hj]
    exact h2
  case c3 => exact An.bvals_one B N
  case c4 => simp only [maxLen]; omega
  case c5 => omega
  intro v' w1 hown hgrow hiff
  have hv : v' ≠ .slice none 0 0 := fun e => hiff e
  obtain ⟨q1, cap1, rfl, k1, k2, k3, k4⟩ := An.bytesNew_val (An.bytes_end w w1 N B v' (by simpa using hown) (grown_own (grown_alloc w _ none) hgrow (Nat.le_refl _)) hv)
  clear hown hgrow hiff hv hi hz0 hz1 hz2
  have hs1 : 8 = 0 ∨ ∃ b off, (some ⟨s, 0, none⟩ : Option Addr) = some ⟨b, off, none⟩ ∧ ∀ i, i < 8 → w1.cell? ⟨b, off + i, none⟩ = some (.int .u8 (S i : Nat)) := .inr ⟨s, 0, rfl, fun i hi => by rw [Nat.zero_add]; exact k4.cell (HS.out.c i hi) (by simp)⟩
  have HK := Lib.hid (And.intro k1 (And.intro k2 k4))
  have hNc : (N : Int) ≤ cap1 := by omega
  have hca : ¬ cap1 = a := by omega
  obtain ⟨w3, hrun, hb3, hg3⟩ := An.copy_run2 k3 a (N - a) 8 (cap1 - a) (by omega) (by omega) S _ sc hs1
  have hrun := hrun 3
  have HB3 := Lib.hid hb3
  have HG3 := Lib.hid (grown_own k4 hg3 k2)
  have d0 := HG3.out.cell HC.out (by simp)
  have z0 : w3.frozen? ⟨p, 0, none⟩ = false := by rw [World.frozen?_of_block (w := w) (HG3.out.block p HP.out (by simp))]; exact HF.out 0
  have HQ : Hid (p ≠ q1) := Lib.hid (by have := HP.out; omega)
  clear hs1 k1 k2 k3 k4 hb3 hg3 hc0 hc0'
  go_wp2
  go_end0
  refine ⟨rfl, q1, cap1, _, World.cell?_setCell_same' _ _ _ (by rw [d0]; rfl), HK.out.1, HB3.out.grown (An.agrown_set _ _ _ _) (some_ne HQ.out.symm), HK.out.2.1, grown_trans (grown_none HG3.out) (An.agrown_set _ _ _ _), fun o v ho hc => ?_, fun k => ?_⟩
  · rw [World.cell?_setCell_other _ _ _ _ (fun x => ho (congrArg Addr.off x).symm)]
    exact HG3.out.cell hc (by simp)
  · rw [World.frozen?_setCell, World.frozen?_of_block (w := w) (HG3.out.block p HP.out (by simp))]
    exact HF.out k

/-- The document's slab, as far as it has to go on. -/
structure RsAt (w : World) (p key c m : Nat) (f : Int) : Prop where
  c0 : ∃ q cap B, w.cell? ⟨p, 0, none⟩ = some (.slice (some ⟨q, 0, none⟩) 768 cap) ∧ An.BytesAt w q 768 B ∧ q ≠ p
  c1 : w.cell? ⟨p, 1, none⟩ = some (.int .u64 (key : Nat))
  c2 : w.cell? ⟨p, 2, none⟩ = some (.int .i64 1)
  c3 : w.cell? ⟨p, 3, none⟩ = some (.int .i64 (c : Nat))
  c4 : ∃ v, w.cell? ⟨p, 4, none⟩ = some v ∧ w.ownsRow (p + 1) 3 1 v m (List.replicate m (.int .i64 0)) ∧ (m = 0 → v = .slice none 0 0)
  c5 : w.cell? ⟨p, 5, none⟩ = some (.int .i64 f)
  fz : ∀ k, w.frozen? ⟨p, k, none⟩ = false
theorem RsAt.plt {w : World} {p key c m : Nat} {f : Int} (h : RsAt w p key c m f) : p < w.heap.size := World.block_lt_of_cell? w ⟨p, 1, none⟩ h.c1
theorem own_ne {w : World} {p m : Nat} {e : TypeId} {v : Value} {xs : List Value} (h : w.ownsRow (p + 1) e 1 v m xs) (q : Nat) (hq : q ≤ p) : v.ownBlock = none ∨ v.ownBlock ≠ some q := by
  cases hv : v.ownBlock with
  | none => exact .inl rfl
  | some k => exact .inr (by have := (h.lt k hv).1; simp; omega)
theorem own_sep {w : World} {p m q : Nat} {B : Nat → Nat} {v : Value} (h : w.ownsRow (p + 1) 3 1 v m (List.replicate m (.int .i64 0))) (h0 : m = 0 → v = .slice none 0 0) (hb : An.BytesAt w q 768 B) : v.ownBlock = none ∨ v.ownBlock ≠ some q := by
  rcases Nat.eq_zero_or_pos m with hm | hm
  · rw [h0 hm]; exact .inl rfl
  · cases hv : v.ownBlock with
    | none => exact .inl rfl
    | some k =>
      refine .inr (fun e => ?_)
      obtain rfl : k = q := by simpa using e
      have h1 := h.cells hv 0 (.int .i64 0) (by simp [hm])
      have h2 := hb.c 0 (by omega)
      rw [show ((⟨k, 0, none⟩ : Addr).add 0) = ⟨k, 0, none⟩ from rfl, h2] at h1
      simp at h1
theorem RsAt.grown {w w' : World} {p key c m : Nat} {f : Int} (h : RsAt w p key c m f) (hg : w.grownBy w' none) : RsAt w' p key c m f := by
  obtain ⟨q, cap, B, x1, x2, x3⟩ := h.c0
  obtain ⟨v, y1, y2, y3⟩ := h.c4
  exact ⟨⟨q, cap, B, hg.cell x1 (by simp), x2.grown hg (by simp), x3⟩, hg.cell h.c1 (by simp), hg.cell h.c2 (by simp), hg.cell h.c3 (by simp), ⟨v, hg.cell y1 (by simp), y2.kept hg (by cases v.ownBlock <;> simp), y3⟩, hg.cell h.c5 (by simp), fun k => by rw [World.frozen?_of_block (w := w) (hg.block p h.plt (by simp))]; exact h.fz k⟩
theorem RsAt.put {w w' : World} {p key c m : Nat} {f : Int} (h : RsAt w p key c m f) (k : RPut w w' p 768) : RsAt w' p key c m f := by
  obtain ⟨q, cap, B, k1, k2, k3, k4, k5, k6, k7⟩ := k
  obtain ⟨v, y1, y2, y3⟩ := h.c4
  have := h.plt
  exact ⟨⟨q, cap, B, k1, k3, by omega⟩, k6 _ _ (by decide) h.c1, k6 _ _ (by decide) h.c2, k6 _ _ (by decide) h.c3, ⟨v, k6 _ _ (by decide) y1, y2.kept k5 (own_ne y2 p (Nat.le_refl _)), y3⟩, k6 _ _ (by decide) h.c5, k7⟩
theorem RsAt.first {w : World} {p key c m : Nat} {f : Int} (h : RsAt w p key c m f) (f' : Int) : RsAt (w.setCell ⟨p, 5, none⟩ (.int .i64 f')) p key c m f' := by
  obtain ⟨q, cap, B, x1, x2, x3⟩ := h.c0
  obtain ⟨v, y1, y2, y3⟩ := h.c4
  have hg := An.agrown_set w p 5 (.int .i64 f')
  have ho : ∀ o v, o ≠ 5 → w.cell? ⟨p, o, none⟩ = some v → (w.setCell ⟨p, 5, none⟩ (.int .i64 f')).cell? ⟨p, o, none⟩ = some v := fun o v ne hc => by
    rw [World.cell?_setCell_other _ _ _ _ (fun x => ne (congrArg Addr.off x).symm)]; exact hc
  exact ⟨⟨q, cap, B, ho _ _ (by decide) x1, x2.grown hg (some_ne x3), x3⟩, ho _ _ (by decide) h.c1, ho _ _ (by decide) h.c2, ho _ _ (by decide) h.c3, ⟨v, ho _ _ (by decide) y1, y2.kept hg (own_ne y2 p (Nat.le_refl _)), y3⟩,
    World.cell?_setCell_same' _ _ _ (by rw [h.c5]; rfl), fun k => by rw [World.frozen?_setCell]; exact h.fz k⟩

theorem RPut.gr {w w' : World} {p N : Nat} (h : RPut w w' p N) : w.grownBy w' (some p) := by obtain ⟨q, cap, B, k1, k2, k3, k4, k5, k6, k7⟩ := h; exact k5
set_option maxRecDepth 100000 in
set_option maxHeartbeats 2000000 in
theorem rjoin_at {w : World} {p key c s n r m k : Nat} {f : Int} (h : RsAt w p key c m f) (hc : Cls c s n r) (hk : k < n) (hf : f = -1 ∨ ∃ j : Nat, f = j ∧ j < n) :
    Calls Try.prog 78 #[.pointer (some ⟨p, 0, none⟩), .int .i64 k] w fun e w' => e = .returned (.tuple #[]) ∧ RsAt w' p key c m k ∧ w.grownBy w' (some p) := by
  have H := Lib.hid h
  have HK := Lib.hid (Sl.bs_hi hc 1 hk)
  have HB : Hid (∀ (W : World) (j : Nat), j < n → w.grownBy W none → Calls Try.prog 96 #[.pointer (some ⟨p, 0, none⟩), .int .i64 j] W fun e w' => e = .returned (.int .i64 (bs 1 s j : Nat)) ∧ W.grownBy w' none) :=
    Lib.hid (fun W j hj g => rbase_at hc hj (h.grown g).c2 (h.grown g).c3)
  have HLP : Hid (∀ (W : World) (x : Int), Calls Try.prog 98 #[.int .u64 (key : Nat), .int .i64 (bs 1 s k : Nat), .int .i64 x] W fun e w' => e = .returned (.int .u64 (Li.put key (bs 1 s k : Nat) x : Nat)) ∧ W = w') := Lib.hid (fun W x => rput_at key _ x W)
  have HNP : Hid (∀ (W : World) (x : Int), Calls Try.prog 70 #[.int .i64 8, .int .u64 (Li.put key (bs 1 s k : Nat) x : Nat)] W fun e w' => An.BytesNew W w' 8 (Ar.byt (Li.put key (bs 1 s k : Nat) x)) e) := Lib.hid (fun W x => An.rput_at _ (Li.put_lt _ _ _) W)
  have HPut : Hid (∀ (W : World) (t sc : Nat) (S : Nat → Nat), w.grownBy W none → An.BytesAt W t 8 S → Calls Try.prog 97 #[.pointer (some ⟨p, 0, none⟩), .int .i64 (bs 1 s k : Nat), .slice (some ⟨t, 0, none⟩) 8 sc] W fun e w' => e = .returned (.tuple #[]) ∧ RPut W w' p 768) := Lib.hid (fun W t sc S g hs => by
    obtain ⟨q, cap, B, x1, x2, x3⟩ := (h.grown g).c0
    have := hc.facts.s16
    exact rsput_at x1 x2 hs (h.grown g).fz (by have := HK.out; omega) (by omega))
  have HC1 := Lib.hid (fun W (g : w.grownBy W none) => (h.grown g).c1)
  have c5 := h.c5
  have HBk := Lib.hid (fun W g => HB.out W k hk g)
  clear h hc hk
  generalize bs 1 s k = z at *
  rcases hf with rfl | ⟨j, rfl, hj⟩
  · go_enter Try.func78, Try.ntmps78
    go_upto_region 3 with (fail)
    have hg0 := grown_refl w none
    have e1 := HC1.out _ hg0
    have hg1 := grown_drew1 hg0
    go_region_held3 (fun w' => w'.cell? ⟨p, 1, none⟩ = some (.int .u64 (key : Nat)))
      (first | exact e1 | exact HC1.out _ (by assumption) | exact HS3.out)
      (first
      | (go_at_call 96; (with_reducible refine (HBk.out _ (by assumption)).mono ?_); rintro e w3 ⟨rfl, m⟩; have hg := grown_trans (by assumption : w.grownBy _ none) m; clear m)
      | (go_at_call 98; (with_reducible refine (HLP.out _ _).mono ?_); rintro e w3 ⟨rfl, rfl⟩)
      | (go_at_call 70; (with_reducible refine (HNP.out _ _).mono ?_); rintro e w5 ⟨q5, cap5, rfl, k1, k2, k3, k4⟩; have hg5 := grown_trans (by assumption : w.grownBy _ none) k4; have K3 := Lib.hid k3; clear k1 k2 k3 k4)
      | (go_at_call 97; (with_reducible refine (HPut.out _ _ _ _ hg5 K3.out).mono ?_); rintro e w6 ⟨rfl, k5⟩; have K := Lib.hid (And.intro ((H.out.grown hg5).put k5) (grown_trans (grown_none hg5) k5.gr)); have HS3 := Lib.hid K.out.1.c1; clear k5))
    have z5 := K.out.1.fz 5
    have d5 := K.out.1.c5
    go_wp2
    go_end0
    exact ⟨rfl, K.out.1.first k, grown_trans K.out.2 (An.agrown_set _ _ _ _)⟩
  · have h0 : decide ((0 : Int) ≤ (j : Int)) = true := by simp
    have HJ := Lib.hid (HB.out w j hj (grown_refl _ _))
    go_enter Try.func78, Try.ntmps78
    go_upto_region 2 with (fail)
    go_wp2_with fail
    refine HJ.out.mono ?_
    rintro e w1 ⟨rfl, hg0⟩
    go_upto_region 3 with (fail)
    have e1 := HC1.out _ hg0
    have hg1 := grown_drew1 hg0
    go_region_held3 (fun w' => w'.cell? ⟨p, 1, none⟩ = some (.int .u64 (key : Nat)))
      (first | exact e1 | exact HC1.out _ (by assumption) | exact HS3.out)
      (first
      | (go_at_call 96; (with_reducible refine (HBk.out _ (by assumption)).mono ?_); rintro e w3 ⟨rfl, m⟩; have hg := grown_trans (by assumption : w.grownBy _ none) m; clear m)
      | (go_at_call 98; (with_reducible refine (HLP.out _ _).mono ?_); rintro e w3 ⟨rfl, rfl⟩)
      | (go_at_call 70; (with_reducible refine (HNP.out _ _).mono ?_); rintro e w5 ⟨q5, cap5, rfl, k1, k2, k3, k4⟩; have hg5 := grown_trans (by assumption : w.grownBy _ none) k4; have K3 := Lib.hid k3; clear k1 k2 k3 k4)
      | (go_at_call 97; (with_reducible refine (HPut.out _ _ _ _ hg5 K3.out).mono ?_); rintro e w6 ⟨rfl, k5⟩; have K := Lib.hid (And.intro ((H.out.grown hg5).put k5) (grown_trans (grown_none hg5) k5.gr)); have HS3 := Lib.hid K.out.1.c1; clear k5))
    have z5 := K.out.1.fz 5
    have d5 := K.out.1.c5
    go_wp2
    go_end0
    exact ⟨rfl, K.out.1.first k, grown_trans K.out.2 (An.agrown_set _ _ _ _)⟩

theorem ne_own {o : Option Nat} {q : Nat} (h : o = none ∨ o ≠ some q) : some q ≠ o := by
  rcases h with h | h
  · rw [h]; simp
  · exact fun e => h e.symm
/-- A state is put at the end of the list of them. -/
theorem RsAt.app1 {wr w2 : World} {p key c m : Nat} {f : Int} {v v' : Value} {o : Obj} (h : RsAt wr p key c m f) (hv : wr.cell? ⟨p, 4, none⟩ = some v) (h2 : w2.ownsRow (p + 1) 3 1 v' (m + 1) (List.replicate m (.int .i64 0) ++ [.int .i64 0])) (h3 : (wr.alloc o).grownBy w2 v.ownBlock) :
    RsAt (w2.setCell ⟨p, 4, none⟩ v') p key c (m + 1) f ∧ w2.cell? ⟨p, 4, none⟩ = some v ∧ w2.frozen? ⟨p, 4, none⟩ = false := by
  obtain ⟨q, cap, B, x1, x2, x3⟩ := h.c0
  obtain ⟨u, y1, y2, y3⟩ := h.c4
  obtain rfl : u = v := Option.some.inj (y1.symm.trans hv)
  have hp := ne_own (own_ne y2 p (Nat.le_refl _))
  have hq := ne_own (own_sep y2 y3 x2)
  have ga := grown_alloc wr o none
  have hc : ∀ k x, wr.cell? ⟨p, k, none⟩ = some x → w2.cell? ⟨p, k, none⟩ = some x := fun k x hx => h3.cell (ga.cell hx (by simp)) hp
  have hf : ∀ k, w2.frozen? ⟨p, k, none⟩ = false := fun k => by
    rw [World.frozen?_of_block (w := wr.alloc o) (h3.block p (Nat.lt_of_lt_of_le h.plt ga.size) hp), World.frozen?_of_block (w := wr) (ga.block p h.plt (by simp))]
    exact h.fz k
  have hg := An.agrown_set w2 p 4 v'
  have ho : ∀ k x, k ≠ 4 → wr.cell? ⟨p, k, none⟩ = some x → (w2.setCell ⟨p, 4, none⟩ v').cell? ⟨p, k, none⟩ = some x := fun k x ne hx => by
    rw [World.cell?_setCell_other _ _ _ _ (fun e => ne (congrArg Addr.off e).symm)]; exact hc k x hx
  refine ⟨⟨⟨q, cap, B, ho _ _ (by decide) x1, ((x2.grown ga (by simp)).grown h3 hq).grown hg (some_ne x3), x3⟩, ho _ _ (by decide) h.c1, ho _ _ (by decide) h.c2, ho _ _ (by decide) h.c3, ⟨v', ?_, ?_, fun e => by omega⟩, ho _ _ (by decide) h.c5, fun k => by rw [World.frozen?_setCell]; exact hf k⟩, hc _ _ hv, hf 4⟩
  · exact World.cell?_setCell_same' _ _ _ (by rw [hc _ _ hv]; rfl)
  · rw [List.replicate_succ']
    exact h2.kept hg (own_ne h2 p (Nat.le_refl _))
theorem rslots_at {c s n r : Nat} (h : Cls c s n r) (w : World) : Calls Try.prog 21 #[.int .i64 (c : Nat)] w fun e w' => e = .returned (.int .i64 (n : Nat)) ∧ w = w' := rslots_yes w h.cl
theorem infoInt : (Try.prog.info? 3).map (fun i => (i.zero, i.size, i.bytes)) = some (some (.int .i64 0), 1, 8) := by kernel_rfl
set_option maxRecDepth 100000 in
set_option maxHeartbeats 2000000 in
theorem rmake_at {w : World} {q cap key c s n r : Nat} {B : Nat → Nat} (hb : An.BytesAt w q 768 B) (hc : Cls c s n r) :
    Calls Try.prog 39 #[.slice (some ⟨q, 0, none⟩) 768 cap, .int .u64 key, .int .i64 1, .int .i64 c] w fun e w' => (∃ p, e = .returned (.pointer (some ⟨p, 0, none⟩))) ∧ w.grownBy w' none := by
  have HS := Lib.hid (fun w => rslots_at hc w)
  have n1 := hc.facts.n2
  have n2 := hc.facts.n16
  obtain ⟨i0, hi, hz0, hz1, hz2⟩ := info_parts infoInt
  have H0 : Hid (RsAt (w.alloc (.cells #[.slice (some ⟨q, 0, none⟩) 768 cap, .int .u64 key, .int .i64 1, .int .i64 c, .slice none 0 0, .int .i64 (-1)] 108)) w.heap.size key c 0 (-1)) := Lib.hid (by
    refine ⟨⟨q, cap, B, ?_, hb.grown (grown_alloc _ _ none) (by simp), by have := hb.qlt; omega⟩, ?_, ?_, ?_, ⟨_, ?_, World.ownsRow_nil _ _ _ _, fun _ => rfl⟩, ?_, fun k => frozen_alloc_new ..⟩ <;> (rw [cell_alloc_new]; rfl))
  have HJ := Lib.hid (fun (wr : World) m k f h (hk : k < n) hf => rjoin_at (w := wr) (p := w.heap.size) (key := key) (m := m) (k := k) (f := f) h hc hk hf)
  have HG0 := Lib.hid (grown_alloc w (.cells #[.slice (some ⟨q, 0, none⟩) 768 cap, .int .u64 key, .int .i64 1, .int .i64 c, .slice none 0 0, .int .i64 (-1)] 108) none)
  clear hb hc
  go_enter Try.func39, Try.ntmps39
  go_upto_region 2 with (fail)
  generalize w.alloc (.cells #[.slice (some ⟨q, 0, none⟩) 768 cap, .int .u64 key, .int .i64 1, .int .i64 c, .slice none 0 0, .int .i64 (-1)] 108) = w1 at *
  have HPL := Lib.hid (H0.out.plt)
  generalize hp : w.heap.size = p at *
  have HPE := Lib.hid hp
  clear hp
  go_wp2_with fail
  refine (HS.out _).mono ?_
  rintro e w' ⟨rfl, rfl⟩
  go_wp2_with fail
  go_loopw [10] (fun i wr => ∃ (j : Nat) (f : Int), j ≤ n ∧ i = .int .i64 ((j : Int) - 1) ∧ RsAt wr p key c (n - j) f ∧ (f = -1 ∨ ∃ x : Nat, f = x ∧ x < n) ∧ w.grownBy wr none) (fun i _ => (intOf i + 1).toNat)
  case atStart => exact ⟨n, -1, Nat.le_refl _, rfl, by rw [Nat.sub_self]; exact H0.out, .inl rfl, HG0.out⟩
  case round =>
    obtain ⟨j, f, hj, rfl, hr, hf, hg⟩ := hrel
    have HR := Lib.hid hr
    have HF := Lib.hid hf
    have HG := Lib.hid hg
    clear hr hf hg
    cases j with
    | zero =>
      rw [show ((0 : Nat) : Int) - 1 = -1 by omega]
      go_wp2
      go_ret
      exact ⟨⟨p, rfl⟩, HG.out⟩
    | succ k =>
      rw [show ((k + 1 : Nat) : Int) - 1 = (k : Int) by omega]
      obtain ⟨v, y1, y2, y3⟩ := HR.out.c4
      have HY := Lib.hid (And.intro y2 y1)
      have hk1 : ((k : Nat) : Int) ≥ 0 := by omega
      clear y2 y3
      go_wp2_with (at_builtin; refine wpList_append_own _ rfl _ _ 67 rfl (p + 1) 3 i0 (.int .i64 0) 1 8 Try.underlying67 hi hz0 hz1 hz2 rfl (by decide) _ _ _ rfl (HY.out.1.alloc _) ⟨wr.heap.size, 0, none⟩ 1 1 [.int .i64 0] rfl ?c1 ?c2 ?c3 ?c4 ?c5 ?c6 ?_)
      case c1 => rfl
      case c2 => exact fun j u hj => An.one_cell wr _ _ j u hj
      case c3 => exact fun u hu => by rw [List.mem_singleton.1 hu]; rfl
      case c4 => simp only [maxLen]; omega
      case c5 => omega
      case c6 => have := HPL.out; have := HR.out.plt; simp; omega
      intro v' w2 h2 h3 _
      obtain ⟨g4, cap4, rfl⟩ : ∃ g4 cap4, v' = .slice (some ⟨g4, 0, none⟩) (n - (k + 1) + 1) cap4 := by
        rcases h2.2 with ⟨_, h⟩ | ⟨g4, cap4, cur, e, _⟩
        · omega
        · exact ⟨g4, cap4, e⟩
      obtain ⟨a1, a2, a3⟩ := HR.out.app1 HY.out.2 h2 h3
      have HA := Lib.hid a1
      have HG2 : Hid (w.grownBy (w2.setCell ⟨p, 4, none⟩ (.slice (some ⟨g4, 0, none⟩) (n - (k + 1) + 1) cap4)) none) := Lib.hid (by
        have hpw := HPE.out
        have g1 : w.grownBy w2 none := by
          cases hv : v.ownBlock with
          | none => rw [hv] at h3; exact grown_trans (grown_trans HG.out (grown_alloc _ _ _)) h3
          | some x => rw [hv] at h3; exact grown_own (grown_trans HG.out (grown_alloc _ _ _)) h3 (by have := (HY.out.1.lt x hv).1; omega)
        exact grown_own g1 (An.agrown_set _ _ _ _) (by omega))
      clear a1 h2 h3
      go_upto_region 6 with (fail)
      have HC := Lib.hid (HJ.out _ _ k _ HA.out (by omega) HF.out)
      generalize w2.setCell ⟨p, 4, none⟩ (.slice (some ⟨g4, 0, none⟩) (n - (k + 1) + 1) cap4) = w3 at *
      go_wp2_with fail
      refine HC.out.mono ?_
      rintro e w4 ⟨rfl, hr4, hg4⟩
      have HR4 := Lib.hid hr4
      have HG4 := Lib.hid (grown_own HG2.out hg4 (by have := HPE.out; omega))
      clear hr4 hg4 HC
      go_wp2
      go_roundw
      case rel => exact ⟨k, k, by omega, rfl, by rw [show n - k = n - (k + 1) + 1 by omega]; exact HR4.out, .inr ⟨k, rfl, by omega⟩, HG4.out⟩
      case measure => simp [intOf]
end Go.Proofs.Yticoojcmlkdeiaa
