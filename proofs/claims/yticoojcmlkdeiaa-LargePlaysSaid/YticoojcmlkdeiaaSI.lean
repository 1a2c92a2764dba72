/- The walks of the law's Make, and of its awake. -/
import Derived.Test.YticoojcmlkdeiaaSH
namespace Go.Proofs.Yticoojcmlkdeiaa
open Go.RowKit
open Sl (Cls bs upd)

/-- A slab that is at hand, all of it younger than a world. -/
structure Young (w0 w : World) (X : Pl) (Y : Nm) (S : Nat → Nat) (F : List Nat) (B : Nat → Nat) : Prop where
  at_ : SlAt w X Y S (Sl.fst F) B
  inv : Sl.Inv Y.key Y.g Y.s Y.n Y.r S F B
  p : w0.heap.size ≤ X.p
  qa : w0.heap.size ≤ X.qa
  ql : w0.heap.size ≤ X.ql
  qh : w0.heap.size ≤ X.qh
  all : w0.grownBy w none
theorem Young.may {w0 w : World} {X : Pl} {Y : Nm} {S : Nat → Nat} {F : List Nat} {B : Nat → Nat} (h : Young w0 w X Y S F B) (i : Nat) (hi : i < w0.heap.size) : ¬ X.may i := by
  have := h.p
  have := h.qa
  have := h.ql
  have := h.qh
  unfold Pl.may
  omega
theorem Young.grown {w0 w w' : World} {X : Pl} {Y : Nm} {S : Nat → Nat} {F : List Nat} {B : Nat → Nat} (h : Young w0 w X Y S F B) (hg : w.grownBy w' none) : Young w0 w' X Y S F B :=
  ⟨h.at_.grown hg, h.inv, h.p, h.qa, h.ql, h.qh, grown_trans h.all hg⟩
theorem Young.step {w0 w w' : World} {X : Pl} {Y : Nm} {S S' : Nat → Nat} {F F' : List Nat} {B B' : Nat → Nat} (h : Young w0 w X Y S F B) (hs : SlAt w' X Y S' (Sl.fst F') B') (hi : Sl.Inv Y.key Y.g Y.s Y.n Y.r S' F' B') (hf : Fr X.may w w') : Young w0 w' X Y S' F' B' :=
  ⟨hs, hi, h.p, h.qa, h.ql, h.qh, hf.grown h.all h.may⟩
/-- What Take does to a slab that is whole. -/
theorem Young.take {w0 w : World} {X : Pl} {Y : Nm} {S : Nat → Nat} {k : Nat} {t : List Nat} {B : Nat → Nat} (h : Young w0 w X Y S (k :: t) B) :
    Calls Try.prog 11 #[.pointer (some ⟨X.p, 0, none⟩)] w fun e w' => e = .returned (.tuple #[.int .i64 k, .int .i64 0]) ∧ Young w0 w' X Y (upd S k 1) t (Sl.takeB Y.key Y.g Y.s Y.r k B) ∧ Fr X.may w w' :=
  (take_some h.at_ h.inv).mono fun _ _ ⟨he, hs, hf⟩ => ⟨he, h.step hs (h.inv.take h.at_.ok.c) hf, hf⟩
theorem Young.take0 {w0 w : World} {X : Pl} {Y : Nm} {S : Nat → Nat} {B : Nat → Nat} (h : Young w0 w X Y S [] B) :
    Calls Try.prog 11 #[.pointer (some ⟨X.p, 0, none⟩)] w fun e w' => e = .returned (.tuple #[.int .i64 0, .int .i64 5]) ∧ w = w' := take_none h.at_
theorem Young.drop {w0 w : World} {X : Pl} {Y : Nm} {S : Nat → Nat} {k : Nat} {F : List Nat} {B : Nat → Nat} (h : Young w0 w X Y S F B) (hk : k < Y.n) (hS : S k = 1) :
    Calls Try.prog 12 #[.pointer (some ⟨X.p, 0, none⟩), .int .i64 k] w fun e w' => e = .returned (.tuple #[.bool true, .int .i64 0]) ∧ Young w0 w' X Y (upd S k 2) F (Sl.dropB Y.g Y.s k B) ∧ Fr X.may w w' :=
  (drop_ok h.at_ h.inv hk hS).mono fun _ _ ⟨he, hs, hf⟩ => ⟨he, h.step hs (h.inv.drop h.at_.ok.c hk hS) hf, hf⟩
theorem Young.give {w0 w : World} {X : Pl} {Y : Nm} {S : Nat → Nat} {k : Nat} {F : List Nat} {B : Nat → Nat} (h : Young w0 w X Y S F B) (hk : k < Y.n) (hS : S k = 2) :
    Calls Try.prog 13 #[.pointer (some ⟨X.p, 0, none⟩), .int .i64 k] w fun e w' => e = .returned (.int .i64 0) ∧ Young w0 w' X Y (upd S k 0) (k :: F) (Sl.giveB Y.key Y.g Y.s k F B) ∧ Fr X.may w w' :=
  (give_ok h.at_ h.inv hk hS).mono fun _ _ ⟨he, hs, hf⟩ => ⟨he, h.step hs (h.inv.give h.at_.ok.c (by have := h.at_.ok.g; have := h.at_.ok.N; omega) hk hS) hf, hf⟩
theorem wrV_ne {Y : Nm} {S : Nat → Nat} {k x : Int} (h : ¬ (isK Y.n k = true ∧ stV Y S k = x)) : wrV Y S k x = 3 ∨ wrV Y S k x = 8 := by
  unfold wrV
  by_cases h1 : isK Y.n k = true
  · rw [if_pos h1, if_neg (fun e => h ⟨h1, e⟩)]; exact .inr rfl
  · rw [if_neg h1]; exact .inl rfl
theorem Young.drop_no {w0 w : World} {X : Pl} {Y : Nm} {S : Nat → Nat} {k : Int} {F : List Nat} {B : Nat → Nat} (h : Young w0 w X Y S F B) (hn : ¬ (isK Y.n k = true ∧ stV Y S k = 1)) :
    ∃ er : Int, er ≠ 0 ∧ Calls Try.prog 12 #[.pointer (some ⟨X.p, 0, none⟩), .int .i64 k] w fun e w' => e = .returned (.tuple #[.bool false, .int .i64 er]) ∧ w = w' := by
  have hz : wrV Y S k 1 ≠ 0 := by rcases wrV_ne hn with e | e <;> rw [e] <;> decide
  exact ⟨_, hz, drop_bad _ _ k w hz (wrong_at h.at_ h.inv.st k 1)⟩
theorem Young.give_no {w0 w : World} {X : Pl} {Y : Nm} {S : Nat → Nat} {k : Int} {F : List Nat} {B : Nat → Nat} (h : Young w0 w X Y S F B) (hn : ¬ (isK Y.n k = true ∧ stV Y S k = 2)) :
    ∃ er : Int, er ≠ 0 ∧ Calls Try.prog 13 #[.pointer (some ⟨X.p, 0, none⟩), .int .i64 k] w fun e w' => e = .returned (.int .i64 er) ∧ w = w' := by
  have hz : wrV Y S k 2 ≠ 0 := by rcases wrV_ne hn with e | e <;> rw [e] <;> decide
  exact ⟨_, hz, give_bad _ _ k w hz (wrong_at h.at_ h.inv.st k 2)⟩
theorem Young.check {w0 w : World} {X : Pl} {Y : Nm} {S : Nat → Nat} {F : List Nat} {B : Nat → Nat} (h : Young w0 w X Y S F B) :
    Calls Try.prog 14 #[.pointer (some ⟨X.p, 0, none⟩)] w fun e w' => e = .returned (.int .i64 0) ∧ w.grownBy w' none := check_at h.at_ h.inv

/-- The numbers of the law's slab. -/
def nm (seed c s n r acap : Nat) : Nm := ⟨keyOf seed, 1, c, s, n, r, 5, 768, acap⟩
/-- The law's pair. -/
def PairRes (w w' : World) (seed c s n r : Nat) (e : Ending) : Prop :=
  ∃ (pp acap : Nat) (X : Pl) (B : Nat → Nat), e = .returned (.pointer (some ⟨pp, 0, none⟩)) ∧ w'.cell? ⟨pp, 0, none⟩ = some (.pointer (some ⟨X.pa, 0, none⟩)) ∧ w'.cell? ⟨pp, 1, none⟩ = some (.pointer (some ⟨X.p, 0, none⟩)) ∧
    Young w w' X (nm seed c s n r acap) (fun _ => 0) (Sl.from_ 0 n) B ∧ w.heap.size ≤ pp ∧ ¬ X.may pp
set_option maxRecDepth 100000 in
set_option maxHeartbeats 2000000 in
theorem pmake_at {c s n r : Nat} (seed b : Nat) (w : World) (hc : Cls c s n r) (hb : b < 256) :
    Calls Try.prog 10 #[.int .u64 seed, .int .i64 c, .int .u8 b] w fun e w' => PairRes w w' seed c s n r e := by
  go_enter Try.func10, Try.ntmps10
  go_wp2_with fail
  refine (An.anew_at 3 3 w (by omega) (.inr (.inl (by omega)))).mono ?_
  rintro e w1 ⟨pa, qa, acap, rfl, ha, h1, h2, hg⟩
  have HA := Lib.hid ha
  have HP := Lib.hid (And.intro h1 h2)
  have HG := Lib.hid hg
  clear ha h1 h2 hg
  have HFi := Lib.hid (An.fill_good HA.out 0 768 b (by omega) hb)
  go_wp2_with fail
  refine HFi.out.mono ?_
  rintro e w2 ⟨rfl, ha, hg⟩
  have HA2 := Lib.hid ha
  have HG2 := Lib.hid (grown_own HG.out hg HP.out.2)
  clear ha hg HFi HA HG
  generalize Ar.setB (fun _ => 0) 0 768 (fun _ => b) = B0 at *
  have HLo := Lib.hid (An.aload_good HA2.out 0 768 (by omega))
  go_wp2_with fail
  refine HLo.out.mono ?_
  rintro e w3 ⟨qb, capb, rfl, k1, k2, k3, k4⟩
  have HB3 := Lib.hid k3
  have HQ3 := Lib.hid (show qb ≠ qa by have := HA2.out.b.qlt; omega)
  have HA3 := Lib.hid (HA2.out.grown k4 (by simp) (by simp))
  have HG3 := Lib.hid (grown_trans HG2.out k4)
  clear k1 k2 k3 k4 HLo HA2 HG2
  go_wp2_with fail
  refine (new_at seed w3).mono ?_
  rintro e w4 ⟨rfl, hg⟩
  have HB4 := Lib.hid (HB3.out.grown hg (by simp))
  have HA4 := Lib.hid (HA3.out.grown hg (by simp) (by simp))
  have HG4 := Lib.hid (grown_trans HG3.out hg)
  clear hg HB3 HA3 HG3
  go_upto_region 5 with (fail)
  have g5 := grown_alloc w4 (.cells #[.int .u64 (keyOf seed : Nat)] 52) none
  have k5 : (w4.alloc (.cells #[.int .u64 (keyOf seed : Nat)] 52)).cell? ⟨w4.heap.size, 0, none⟩ = some (.int .u64 (keyOf seed : Nat)) := by rw [cell_alloc_new]; rfl
  have HB5 := Lib.hid (HB4.out.grown g5 (by simp))
  have HA5 := Lib.hid (HA4.out.grown g5 (by simp) (by simp))
  have HG5 := Lib.hid (grown_trans HG4.out g5)
  have HQ5 := Lib.hid (show w4.heap.size ≠ qa by have := HA4.out.b.qlt; omega)
  clear g5 HB4 HA4 HG4
  generalize w4.alloc (.cells #[.int .u64 (keyOf seed : Nat)] 52) = w5 at *
  generalize w4.heap.size = cb at *
  have HM : Hid (Calls Try.prog 22 #[.pointer (some ⟨pa, 0, none⟩), .agg #[.int .u64 (keyOf seed : Nat)], .int .i64 1, .int .i64 (c : Nat), .int .i64 5] w5 fun e w' => SlMade w5 w' pa qa (nm seed c s n r acap) e) :=
    Lib.hid (smk_ok (Y := nm seed c s n r acap) HA5.out ⟨hc, by simp [nm], by simp [nm], keyOf_lt seed⟩)
  have HR := Lib.hid (fun W q cap B hb => rmake_at (w := W) (q := q) (cap := cap) (key := keyOf seed) (B := B) hb hc)
  go_wp2_with fail
  refine HM.out.mono ?_
  rintro e w6 ⟨X, B, rfl, rfl, rfl, hx, hi, h1, h2, h3, hf⟩
  have HX := Lib.hid hx
  have HI := Lib.hid hi
  have k6 := hf.cell k5 HQ5.out
  have HB6 : Hid (An.BytesAt w6 qb 768 (fun i => B0 (0 + i))) := Lib.hid ⟨fun i hi => hf.cell (HB5.out.c i hi) HQ3.out, fun k => by rw [hf.frozen HB5.out.qlt HQ3.out]; exact HB5.out.fz k, Nat.lt_of_lt_of_le HB5.out.qlt hf.size⟩
  have HG6 := Lib.hid (hf.grown HG5.out (fun i hi e => by have := HP.out.2; omega))
  have s5 := HG5.out.size
  have HY := Lib.hid (And.intro (Nat.le_trans s5 h1) (And.intro (Nat.le_trans s5 h2) (Nat.le_trans s5 h3)))
  clear hx hi h1 h2 h3 hf s5 HM HA5 HB5 HG5 k5
  go_wp2_with fail
  refine (HR.out _ _ capb _ HB6.out).mono ?_
  rintro e w7 ⟨⟨rp, rfl⟩, hg7⟩
  have HX7 := Lib.hid (HX.out.grown hg7)
  have HG7 := Lib.hid (grown_trans HG6.out hg7)
  clear hg7 HX HG6 HB6 HR k6
  go_wp2
  go_ret
  have g8 := grown_alloc w7 (.cells #[.pointer (some ⟨X.pa, 0, none⟩), .pointer (some ⟨X.p, 0, none⟩), .pointer (some ⟨rp, 0, none⟩)] 35) none
  refine ⟨w7.heap.size, acap, X, B, rfl, by rw [cell_alloc_new]; rfl, by rw [cell_alloc_new]; rfl, ⟨?_, HI.out, HY.out.1, HP.out.2, HY.out.2.1, HY.out.2.2, grown_trans HG7.out g8⟩, HG7.out.size, ?_⟩
  · have hn : 0 < n := by have := hc.facts.n2; omega
    rw [Sl.from_cons hn]
    exact HX7.out.grown g8
  · have a1 := HX7.out.own.plt
    have a2 := HX7.out.ar.b.qlt
    have a3 := HX7.out.l.qlt
    have a4 := HX7.out.h.qlt
    unfold Pl.may
    omega

/-- One page, class 3. -/
def nm1 (key acap : Nat) : Nm := ⟨key, 0, 3, 128, 2, 120, 0, 256, acap⟩
set_option maxRecDepth 100000 in
set_option maxHeartbeats 2000000 in
theorem sawake_at (w : World) :
    Calls Try.prog 15 #[] w fun e w' => e = .returned (.bool true) ∧ w.grownBy w' none := by
  have hc : Cls 3 128 2 120 := .inr (.inr (.inr ⟨rfl, rfl, rfl, rfl⟩))
  go_enter Try.func15, Try.ntmps15
  go_wp2_with fail
  refine (An.anew_at 1 1 w (by omega) (.inr (.inl (by omega)))).mono ?_
  rintro e w1 ⟨pa, qa, acap, rfl, ha, h1, h2, hg⟩
  have HA := Lib.hid ha
  have HP := Lib.hid (And.intro h1 h2)
  have HG := Lib.hid hg
  clear ha h1 h2 hg
  go_wp2_with fail
  refine (new_at 1 w1).mono ?_
  rintro e w2 ⟨rfl, hg⟩
  have HA2 := Lib.hid (HA.out.grown hg (by simp) (by simp))
  have HG2 := Lib.hid (grown_trans HG.out hg)
  clear hg HA HG
  have HM : Hid (Calls Try.prog 22 #[.pointer (some ⟨pa, 0, none⟩), .agg #[.int .u64 (keyOf 1 : Nat)], .int .i64 0, .int .i64 3, .int .i64 0] w2 fun e w' => SlMade w2 w' pa qa (nm1 (keyOf 1) acap) e) :=
    Lib.hid (smk_ok (Y := nm1 (keyOf 1) acap) HA2.out ⟨hc, by simp [nm1], by simp [nm1], keyOf_lt 1⟩)
  generalize keyOf 1 = key at *
  go_wp2_with fail
  refine HM.out.mono ?_
  rintro e w3 ⟨X, B, rfl, rfl, rfl, hx, hi, h1, h2, h3, hf⟩
  have HY : Hid (Young w w3 X (nm1 key acap) (fun _ => 0) [0, 1] B) := Lib.hid (by
    have s2 := HG2.out.size
    exact ⟨hx, hi, Nat.le_trans s2 h1, HP.out.2, Nat.le_trans s2 h2, Nat.le_trans s2 h3, hf.grown HG2.out (fun i hi e => by have := HP.out.2; omega)⟩)
  clear hx hi h1 h2 h3 hf HM HA2 HG2
  go_wp2_with fail
  refine HY.out.take.mono ?_
  rintro e w4 ⟨rfl, hy, _⟩
  have HY4 := Lib.hid hy
  clear hy HY
  go_wp2_with fail
  refine HY4.out.take.mono ?_
  rintro e w5 ⟨rfl, hy, _⟩
  have HY5 := Lib.hid hy
  clear hy HY4
  go_wp2_with fail
  refine HY5.out.take0.mono ?_
  rintro e w6 ⟨rfl, rfl⟩
  have HD : Hid (Calls Try.prog 12 #[.pointer (some ⟨X.p, 0, none⟩), .int .i64 0] w5 _) := Lib.hid (HY5.out.drop (k := 0) (by show 0 < 2; omega) rfl)
  go_wp2_with fail
  refine HD.out.mono ?_
  rintro e w6 ⟨rfl, hy, _⟩
  have HY6 := Lib.hid hy
  clear hy HY5 HD
  have HD : Hid (Calls Try.prog 13 #[.pointer (some ⟨X.p, 0, none⟩), .int .i64 0] w6 _) := Lib.hid (HY6.out.give (k := 0) (by show 0 < 2; omega) rfl)
  go_wp2_with fail
  refine HD.out.mono ?_
  rintro e w7 ⟨rfl, hy, _⟩
  have HY7 := Lib.hid hy
  clear hy HY6 HD
  go_wp2_with fail
  refine HY7.out.take.mono ?_
  rintro e w8 ⟨rfl, hy, _⟩
  have HE := Lib.hid hy.all
  clear hy HY7
  go_wp2
  go_ret
  exact ⟨rfl, HE.out⟩
end Go.Proofs.Yticoojcmlkdeiaa
