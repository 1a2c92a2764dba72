/- The walk of the law LargeApart. -/
import Derived.Test.YticoojcmlkdeiaaGC
import Derived.Test.YticoojcmlkdeiaaSM
namespace Go.Proofs.Yticoojcmlkdeiaa
open Go.RowKit
open Sl (upd)
open Lg (pgs)

/-- A set that is at hand, all of it younger than a world. -/
structure LgY (w0 w : World) (X : Lp) (cnt : Nat) (Z B : Nat → Nat) : Prop where
  at_ : ∃ D, LgAt w X cnt D Z B
  qa : w0.heap.size ≤ X.qa
  mb : w0.heap.size ≤ X.mb
  all : w0.grownBy w none
theorem LgY.may {w0 w : World} {X : Lp} {cnt : Nat} {Z B : Nat → Nat} (h : LgY w0 w X cnt Z B) (i : Nat) (hi : i < w0.heap.size) : ¬ X.may i := by
  have := h.qa
  have := h.mb
  unfold Lp.may
  omega
theorem LgY.grown {w0 w w' : World} {X : Lp} {cnt : Nat} {Z B : Nat → Nat} (h : LgY w0 w X cnt Z B) (hg : w.grownBy w' none) : LgY w0 w' X cnt Z B := by
  obtain ⟨D, hd⟩ := h.at_
  exact ⟨⟨D, hd.grown hg⟩, h.qa, h.mb, grown_trans h.all hg⟩
theorem LgY.not_may {w0 w : World} {X : Lp} {cnt : Nat} {Z B : Nat → Nat} (h : LgY w0 w X cnt Z B) {i : Nat} (hi : w.heap.size ≤ i) : ¬ X.may i := by
  obtain ⟨D, hd⟩ := h.at_
  have h1 := hd.ar.b.qlt
  have h2 := hd.map.lt
  unfold Lp.may
  omega
theorem LgY.make {w0 w : World} {X : Lp} {cnt : Nat} {Z B : Nat → Nat} (h : LgY w0 w X cnt Z B) (page n : Nat) (h1 : 120 < n) (h2 : n ≤ 4096) (hf : (page + pgs n) * 256 ≤ X.N) (hm : ∀ k, ¬ Lg.Hit Z page (pgs n) k) (hcnt : cnt ≤ 100000) :
    Calls Try.prog 29 #[.pointer (some ⟨X.p, 0, none⟩), .int .i64 page, .int .i64 n] w fun e w' => e = .returned (.int .i64 0) ∧ LgY w0 w' X (cnt + 1) (upd Z page n) (Lg.makeB X.key page n B) ∧ Fr X.may w w' := by
  obtain ⟨D, hd⟩ := h.at_
  exact (lmake_ok hd page n h1 h2 hf hm hcnt).mono fun _ _ ⟨he, hl, hfr⟩ => ⟨he, ⟨hl, h.qa, h.mb, hfr.grown h.all h.may⟩, hfr⟩
theorem LgY.drop {w0 w : World} {X : Lp} {cnt : Nat} {Z B : Nat → Nat} (h : LgY w0 w X cnt Z B) (page : Nat) (hz : Z page ≠ 0) :
    Calls Try.prog 31 #[.pointer (some ⟨X.p, 0, none⟩), .int .i64 page] w fun e w' => e = .returned (.tuple #[.bool (decide (Ar.wordAt B (Lg.grd page (Z page)) = Lg.can X.key page)), .int .i64 0]) ∧ LgY w0 w' X cnt (upd Z page 0) (Lg.dropB page (Z page) B) ∧ Fr X.may w w' := by
  obtain ⟨D, hd⟩ := h.at_
  exact (ldrop_ok hd page hz).mono fun _ _ ⟨he, hl, hfr⟩ => ⟨he, ⟨hl, h.qa, h.mb, hfr.grown h.all h.may⟩, hfr⟩
theorem LgY.store {w0 w : World} {X : Lp} {cnt : Nat} {Z B V : Nat → Nat} (h : LgY w0 w X cnt Z B) (a n c : Nat) (A : Option Addr) (ha : a + n ≤ X.N) (hV : ∀ i, V i < 256) (hA : BArg w A n V) :
    Calls Try.prog 19 #[.pointer (some ⟨X.pa, 0, none⟩), .int .i64 a, .slice A n c] w fun e w' => e = .returned (.int .i64 0) ∧ LgY w0 w' X cnt Z (Ar.setB B a n V) ∧ Fr X.may w w' := by
  obtain ⟨D, hd⟩ := h.at_
  refine (An.store_good hd.ar a n c A V ha hV hA).mono ?_
  rintro e w' ⟨he, har, hg⟩
  have hf : Fr X.may w w' := fr_some hg (fun _ => .inl rfl)
  exact ⟨he, ⟨⟨D, hd.arena hg har⟩, h.qa, h.mb, hf.grown h.all h.may⟩, hf⟩
theorem LgY.load {w0 w : World} {X : Lp} {cnt : Nat} {Z B : Nat → Nat} (h : LgY w0 w X cnt Z B) (a n : Nat) (ha : a + n ≤ X.N) :
    Calls Try.prog 18 #[.pointer (some ⟨X.pa, 0, none⟩), .int .i64 a, .int .i64 n] w fun e w' => An.LoadRes w w' n (fun i => B (a + i)) e := by
  obtain ⟨D, hd⟩ := h.at_
  exact An.aload_good hd.ar a n ha
theorem LgY.check {w0 w : World} {X : Lp} {cnt : Nat} {Z B : Nat → Nat} (h : LgY w0 w X cnt Z B) :
    Calls Try.prog 36 #[.pointer (some ⟨X.p, 0, none⟩)] w fun e w' => Chk w w' X.key Z B e := by
  obtain ⟨D, hd⟩ := h.at_
  exact lcheck_at hd
theorem conv_same (w : World) (q n c : Nat) (B S : Nat → Nat) (hb : An.BytesAt w q n B) (he : ∀ i, i < n → B i = S i) : (convert 26 9 (.slice (some ⟨q, 0, none⟩) n c)).run Try.prog w = .ok (.string (strOfNums ((List.range n).map fun i => ((S i : Nat) : Int)))) w := by
  refine run_convert_bytes_arg w 26 5 Try.underlying26 (by kernel_rfl) q 0 n c _ (by simp) (fun i hi => ?_) 9 (by kernel_rfl)
  rw [Nat.zero_add, hb.c i hi, he i hi]
  simp [List.getD, hi]
theorem i64_and10 (n : Int) : bits .and .i64 n 1023 = n % 1024 := by
  have h127 : (BitVec.ofInt 64 1023).toNat = 2 ^ 10 - 1 := by decide +kernel
  have key : (BitVec.ofInt 64 n &&& BitVec.ofInt 64 1023).toNat = (n % ((2 ^ 64 : Nat) : Int)).toNat % 2 ^ 10 := by
    rw [BitVec.toNat_and, BitVec.toNat_ofInt, h127, Nat.and_two_pow_sub_one_eq_mod]
  show IntKind.i64.wrap ((BitVec.ofInt 64 n &&& BitVec.ofInt 64 1023).toNat : Nat) = n % 1024
  rw [key, IntKind.wrap_i64]
  omega
theorem i64_and12 (n : Int) : bits .and .i64 n 4095 = n % 4096 := by
  have h127 : (BitVec.ofInt 64 4095).toNat = 2 ^ 12 - 1 := by decide +kernel
  have key : (BitVec.ofInt 64 n &&& BitVec.ofInt 64 4095).toNat = (n % ((2 ^ 64 : Nat) : Int)).toNat % 2 ^ 12 := by
    rw [BitVec.toNat_and, BitVec.toNat_ofInt, h127, Nat.and_two_pow_sub_one_eq_mod]
  show IntKind.i64.wrap ((BitVec.ofInt 64 n &&& BitVec.ofInt 64 4095).toNat : Nat) = n % 4096
  rw [key, IntKind.wrap_i64]
  omega

theorem wordAt_setB_out {B S : Nat → Nat} {x a n : Nat} (h : x + 8 ≤ a ∨ a + n ≤ x) : Ar.wordAt (Ar.setB B a n S) x = Ar.wordAt B x :=
  Ar.wordAt_congr (fun i h1 h2 => Ar.setB_out (by omega))
theorem makeB_out {key page n : Nat} {B : Nat → Nat} {i : Nat} (h : i < page * 256 ∨ (page + pgs n) * 256 ≤ i) : Lg.makeB key page n B i = B i := by
  have h1 := Lg.pgs_pos n
  have h2 : i < page * 256 ∨ page * 256 + pgs n * 256 ≤ i := h.imp id (fun h => by rw [← Nat.add_mul]; exact h)
  unfold Lg.makeB Lg.grd
  rw [Ar.setW_out (by omega), Ar.setB_out h2]
theorem makeB_can {key page n : Nat} {B : Nat → Nat} : Ar.wordAt (Lg.makeB key page n B) (Lg.grd page n) = Lg.can key page := by
  unfold Lg.makeB Lg.can
  exact Ar.wordAt_setW _ _ _ (Li.mix_lt _)
/-- The numbers of LargeApart. -/
structure Num (n m a p : Nat) : Prop where
  n1 : 121 ≤ n
  n2 : n ≤ 1144
  m1 : 121 ≤ m
  m2 : m ≤ 1144
  a : a < n
  p : p = pgs n
theorem Num.p5 {n m a p : Nat} (h : Num n m a p) : 1 ≤ p ∧ p ≤ 5 ∧ n + 8 ≤ p * 256 ∧ pgs m ≤ 5 := by
  obtain ⟨n1, n2, m1, m2, ha, hp⟩ := h
  unfold pgs at *
  omega
def zz (n m p : Nat) : Nat → Nat := upd (upd (fun _ => 0) 0 n) p m
theorem hit2 {n m a p : Nat} (h : Num n m a p) (k : Nat) : ¬ Lg.Hit (upd (fun _ => 0) 0 n) p (pgs m) k := by
  rintro ⟨h1, h2, h3⟩
  by_cases e : k = 0
  · subst e
    rw [Sl.upd_same] at h3
    have := h.p
    omega
  · rw [Sl.upd_other e] at h1
    exact h1 rfl
/-- The canary of the first block stands, whatever was written into its bytes. -/
theorem can_first {key n m a p l : Nat} {B V : Nat → Nat} (h : Num n m a p) (hl : a + l ≤ n) : Ar.wordAt (Ar.setB (Lg.makeB key p m (Lg.makeB key 0 n B)) a l V) (Lg.grd 0 n) = Lg.can key 0 := by
  obtain ⟨p1, p2, p3, p4⟩ := h.p5
  have hg : Lg.grd 0 n = p * 256 - 8 := by unfold Lg.grd; rw [← h.p, Nat.zero_add]
  rw [wordAt_setB_out (by omega), Ar.wordAt_congr (B' := Lg.makeB key 0 n B) (fun i h1 h2 => makeB_out (by omega))]
  exact makeB_can
theorem can_rest {key n m a p l : Nat} {B V : Nat → Nat} (h : Num n m a p) (hl : a + l ≤ n) : Lg.All key (upd (zz n m p) 0 0) (Lg.dropB 0 n (Ar.setB (Lg.makeB key p m (Lg.makeB key 0 n B)) a l V)) := by
  obtain ⟨p1, p2, p3, p4⟩ := h.p5
  intro k hk
  by_cases e : k = 0
  · subst e; rw [Sl.upd_same] at hk; omega
  · rw [Sl.upd_other e] at hk ⊢
    unfold zz at hk ⊢
    by_cases e2 : k = p
    · subst e2
      rw [Sl.upd_same]
      have hg : Lg.grd k m = (k + pgs m) * 256 - 8 := rfl
      have hm := Lg.pgs_pos m
      unfold Lg.dropB
      rw [wordAt_setB_out (by rw [← h.p]; omega), wordAt_setB_out (by omega)]
      exact makeB_can
    · rw [Sl.upd_other e2, Sl.upd_other e] at hk
      exact absurd rfl hk
set_option maxRecDepth 100000 in
set_option maxHeartbeats 8000000 in
theorem largeApart_num (seed n m a p : Nat) (n0 m0 a0 : Int) (bA : Option Addr) (bl bc : Nat) (V : Nat → Nat) (w : World) (hN : Num n m a p) (en : n0 % 1024 + 121 = n) (em : m0 % 1024 + 121 = m) (ea : (a0 % 4096) % (n : Int) = a)
    (hbl : bl ≤ bc) (hbm : bl ≤ 9223372036854775807) (hV : ∀ i, V i < 256) (hB : BArg w bA bl V) :
    Calls Try.prog 8 #[.int .u64 seed, .int .i64 n0, .int .i64 m0, .int .i64 a0, .slice bA bl bc] w fun e w' => e = .returned (.bool true) ∧ w.grownBy w' none := by
  have HNum := Lib.hid hN
  obtain ⟨p1, p2, p3, p4⟩ := hN.p5
  have hpn := hN.p
  have han := hN.a
  have hn1 := hN.n1
  have hn2 := hN.n2
  have hm1 := hN.m1
  have hm2 := hN.m2
  have HV := Lib.hid (And.intro hV hB)
  obtain ⟨x, hx⟩ : ∃ x : Int, n0 % 1024 = x := ⟨_, rfl⟩
  obtain ⟨y, hy⟩ : ∃ y : Int, m0 % 1024 = y := ⟨_, rfl⟩
  obtain ⟨z, hz⟩ : ∃ z : Int, a0 % 4096 = z := ⟨_, rfl⟩
  have f1 : bits .and .i64 n0 1023 = x := (i64_and10 n0).trans hx
  have f2 : bits .and .i64 m0 1023 = y := (i64_and10 m0).trans hy
  have f3 : bits .and .i64 a0 4095 = z := (i64_and12 a0).trans hz
  have hz0 : 0 ≤ z ∧ z ≤ 4095 := by omega
  obtain ⟨hz0, hz1⟩ := hz0
  have hx0 : 0 ≤ x ∧ x ≤ 1023 := by omega
  obtain ⟨hx0, hx1⟩ := hx0
  have hy0 : 0 ≤ y ∧ y ≤ 1023 := by omega
  obtain ⟨hy0, hy1⟩ := hy0
  have g1 : 121 + x = (n : Int) := by omega
  have g2 : 121 + y = (m : Int) := by omega
  have g3 : z % (n : Int) = (a : Int) := by rw [← hz]; exact ea
  have g4 : ((n : Int) + 8 + 255) / 256 = (p : Int) := by rw [hpn]; unfold pgs; omega
  obtain ⟨u, hu⟩ : ∃ u : Nat, u = p * 256 := ⟨_, rfl⟩
  have g5 : 256 * (p : Int) = (u : Int) := by omega
  obtain ⟨d, hd⟩ : ∃ d : Nat, a + d = n := ⟨n - a, by omega⟩
  have g6 : (n : Int) - (a : Int) = (d : Int) := by omega
  have HU := Lib.hid hu
  have HPN := Lib.hid hpn
  have HD := Lib.hid hd
  have hni : (121 : Int) ≤ n ∧ (n : Int) ≤ 1144 := by omega
  obtain ⟨hni1, hni2⟩ := hni
  have hpi : (p : Int) ≤ 5 := by omega
  clear hx hy hz en em ea hV hB hN hpn hu hd
  go_enter Try.func8, Try.ntmps8
  go_wp2_with fail
  refine (An.anew_at 40 40 w (by omega) (.inr (.inl (by omega)))).mono ?_
  rintro e w1 ⟨pa, qa, acap, rfl, ha, h1, h2, hg⟩
  have HA := Lib.hid ha
  have HP := Lib.hid (And.intro h1 h2)
  have HG := Lib.hid hg
  clear ha h1 h2 hg
  go_wp2_with fail
  refine (new_at seed w1).mono ?_
  rintro e w2 ⟨rfl, hg⟩
  have HA2 := Lib.hid (HA.out.grown hg (by simp) (by simp))
  have HG2 := Lib.hid (grown_trans HG.out hg)
  clear hg HA HG
  have HN := Lib.hid (lnew_at HA2.out (keyOf_lt seed))
  generalize keyOf seed = key at *
  go_wp2_with fail
  refine HN.out.mono ?_
  rintro e w3 ⟨p', mb, rfl, hl, hp, hmb, hg⟩
  obtain ⟨X, rfl, rfl, rfl, rfl, rfl, rfl, hXN⟩ : ∃ X : Lp, p' = X.p ∧ pa = X.pa ∧ qa = X.qa ∧ mb = X.mb ∧ key = X.key ∧ acap = X.cap ∧ X.N = 40 * 256 := ⟨⟨p', pa, qa, mb, key, 40 * 256, acap⟩, rfl, rfl, rfl, rfl, rfl, rfl, rfl⟩
  have hE : (⟨X.p, X.pa, X.qa, X.mb, X.key, 40 * 256, X.cap⟩ : Lp) = X := by rw [← hXN]
  rw [hE] at hl
  have HY3 : Hid (LgY w w3 X 0 (fun _ => 0) (fun _ => 0)) := Lib.hid ⟨⟨_, hl⟩, HP.out.2, Nat.le_trans HG2.out.size hmb, grown_trans HG2.out hg⟩
  have HXN := Lib.hid hXN
  clear hl hp hmb hg HN HA2 HG2 hE hXN
  have HM1 := Lib.hid (HY3.out.make 0 n (by omega) (by omega) (by rw [HXN.out, ← HPN.out]; omega) (fun k => hit_free) (by omega))
  go_wp2_with fail
  refine HM1.out.mono ?_
  rintro e w4 ⟨rfl, hy4, _⟩
  have HY4 := Lib.hid hy4
  clear hy4 HM1 HY3
  have HM2 := Lib.hid (HY4.out.make p m (by omega) (by omega) (by rw [HXN.out]; omega) (hit2 HNum.out) (by omega))
  go_wp2_with fail
  refine HM2.out.mono ?_
  rintro e w5 ⟨rfl, hy5, _⟩
  have HY5 := Lib.hid hy5
  clear hy5 HM2 HY4
  rw [show upd (upd (fun _ => 0) 0 n) p m = zz n m p from rfl] at HY5
  by_cases hbig : d < bl
  · obtain ⟨bb, boff, rfl⟩ : ∃ b off, bA = some ⟨b, off, none⟩ := by
      rcases HV.out.2 with h | ⟨b, off, e, _⟩
      · omega
      · exact ⟨b, off, e⟩
    have hdc : (d : Int) ≤ bc := by omega
    have HLo := Lib.hid (HY5.out.load u m (by rw [HXN.out]; omega))
    go_wp2_with fail
    refine HLo.out.mono ?_
    rintro e w6 ⟨q6, cap6, rfl, k1, k2, k3, k4⟩
    have HB6 := Lib.hid k3
    have HQ6 := Lib.hid (HY5.out.not_may k2)
    have HY6 := Lib.hid (HY5.out.grown k4)
    clear k1 k2 k3 k4 HLo HY5
    have HSt := Lib.hid (HY6.out.store a d bc (some ⟨bb, boff, none⟩) (V := V) (by rw [HXN.out]; omega) HV.out.1 ((HV.out.2.grown HY6.out.all).less (by omega)))
    go_wp2_with fail
    refine HSt.out.mono ?_
    rintro e w7 ⟨rfl, hy7, hf⟩
    have HY7 := Lib.hid hy7
    have HB7 : Hid (An.BytesAt w7 q6 m (fun i => Lg.makeB X.key p m (Lg.makeB X.key 0 n (fun _ => 0)) (u + i))) := Lib.hid ⟨fun i hi => hf.cell (HB6.out.c i hi) HQ6.out, fun k => by rw [hf.frozen HB6.out.qlt HQ6.out]; exact HB6.out.fz k, Nat.lt_of_lt_of_le HB6.out.qlt hf.size⟩
    clear hy7 hf HSt HB6 HY6
    have HLo := Lib.hid (HY7.out.load u m (by rw [HXN.out]; omega))
    go_wp2_with fail
    refine HLo.out.mono ?_
    rintro e w8 ⟨q8, cap8, rfl, k1, k2, k3, k4⟩
    have HB8 := Lib.hid k3
    have HQ8 := Lib.hid (HY7.out.not_may k2)
    have HQ6' := HQ6
    have HY8 := Lib.hid (HY7.out.grown k4)
    have HB68 := Lib.hid (HB7.out.grown k4 (by simp))
    clear k1 k2 k3 k4 HLo HY7 HB7
    have hD := HY8.out.drop 0 (by show zz n m p 0 ≠ 0; unfold zz; rw [Sl.upd_other (by omega), Sl.upd_same]; omega)
    rw [show zz n m p 0 = n from by unfold zz; rw [Sl.upd_other (by omega), Sl.upd_same], can_first HNum.out (l := d) (by have := HD.out; omega)] at hD
    have HDr := Lib.hid hD
    clear hD
    go_wp2_with fail
    refine HDr.out.mono ?_
    rintro e w9 ⟨rfl, hy9, hf⟩
    have HY9 := Lib.hid hy9
    have HB69 : Hid (An.BytesAt w9 q6 m (fun i => Lg.makeB X.key p m (Lg.makeB X.key 0 n (fun _ => 0)) (u + i))) := Lib.hid ⟨fun i hi => hf.cell (HB68.out.c i hi) HQ6'.out, fun k => by rw [hf.frozen HB68.out.qlt HQ6'.out]; exact HB68.out.fz k, Nat.lt_of_lt_of_le HB68.out.qlt hf.size⟩
    have HB89 : Hid (An.BytesAt w9 q8 m (fun i => Ar.setB (Lg.makeB X.key p m (Lg.makeB X.key 0 n (fun _ => 0))) a d V (u + i))) := Lib.hid ⟨fun i hi => hf.cell (HB8.out.c i hi) HQ8.out, fun k => by rw [hf.frozen HB8.out.qlt HQ8.out]; exact HB8.out.fz k, Nat.lt_of_lt_of_le HB8.out.qlt hf.size⟩
    clear hy9 hf HDr HY8 HB68 HB8
    have hc1 := conv_same w9 q6 m cap6 _ (fun i => Lg.makeB X.key p m (Lg.makeB X.key 0 n (fun _ => 0)) (u + i)) HB69.out (fun _ _ => rfl)
    have hc2 := conv_same w9 q8 m cap8 _ (fun i => Lg.makeB X.key p m (Lg.makeB X.key 0 n (fun _ => 0)) (u + i)) HB89.out (fun i _ => Ar.setB_out (by have := HD.out; have := HU.out; omega))
    generalize strOfNums ((List.range m).map fun i => ((Lg.makeB X.key p m (Lg.makeB X.key 0 n (fun _ => 0)) (u + i) : Nat) : Int)) = str at hc1 hc2
    have HC := Lib.hid HY9.out.check
    have HAll := Lib.hid (can_rest (key := X.key) (B := fun _ => 0) (V := V) HNum.out (l := d) (by have := HD.out; omega))
    go_wp2_with fail
    refine HC.out.mono ?_
    rintro e w10 ⟨x10, rfl, _, hx10, hg⟩
    obtain rfl : x10 = 0 := hx10.2 HAll.out
    have HE10 := Lib.hid (grown_trans HY9.out.all hg)
    clear hx10 hg HC hc1 hc2
    go_wp2_with (go_at_call 37; refine (lawake_at _).mono ?_; rintro e w11 ⟨rfl, hg⟩; have HE := Lib.hid (grown_trans HE10.out hg); clear hg)
    go_ret
    exact ⟨rfl, HE.out⟩
  ·
    have HLo := Lib.hid (HY5.out.load u m (by rw [HXN.out]; omega))
    go_wp2_with fail
    refine HLo.out.mono ?_
    rintro e w6 ⟨q6, cap6, rfl, k1, k2, k3, k4⟩
    have HB6 := Lib.hid k3
    have HQ6 := Lib.hid (HY5.out.not_may k2)
    have HY6 := Lib.hid (HY5.out.grown k4)
    clear k1 k2 k3 k4 HLo HY5
    have HSt := Lib.hid (HY6.out.store a bl bc (bA) (V := V) (by rw [HXN.out]; omega) HV.out.1 ((HV.out.2.grown HY6.out.all).less (Nat.le_refl _)))
    go_wp2_with fail
    refine HSt.out.mono ?_
    rintro e w7 ⟨rfl, hy7, hf⟩
    have HY7 := Lib.hid hy7
    have HB7 : Hid (An.BytesAt w7 q6 m (fun i => Lg.makeB X.key p m (Lg.makeB X.key 0 n (fun _ => 0)) (u + i))) := Lib.hid ⟨fun i hi => hf.cell (HB6.out.c i hi) HQ6.out, fun k => by rw [hf.frozen HB6.out.qlt HQ6.out]; exact HB6.out.fz k, Nat.lt_of_lt_of_le HB6.out.qlt hf.size⟩
    clear hy7 hf HSt HB6 HY6
    have HLo := Lib.hid (HY7.out.load u m (by rw [HXN.out]; omega))
    go_wp2_with fail
    refine HLo.out.mono ?_
    rintro e w8 ⟨q8, cap8, rfl, k1, k2, k3, k4⟩
    have HB8 := Lib.hid k3
    have HQ8 := Lib.hid (HY7.out.not_may k2)
    have HQ6' := HQ6
    have HY8 := Lib.hid (HY7.out.grown k4)
    have HB68 := Lib.hid (HB7.out.grown k4 (by simp))
    clear k1 k2 k3 k4 HLo HY7 HB7
    have hD := HY8.out.drop 0 (by show zz n m p 0 ≠ 0; unfold zz; rw [Sl.upd_other (by omega), Sl.upd_same]; omega)
    rw [show zz n m p 0 = n from by unfold zz; rw [Sl.upd_other (by omega), Sl.upd_same], can_first HNum.out (l := bl) (by have := HD.out; omega)] at hD
    have HDr := Lib.hid hD
    clear hD
    go_wp2_with fail
    refine HDr.out.mono ?_
    rintro e w9 ⟨rfl, hy9, hf⟩
    have HY9 := Lib.hid hy9
    have HB69 : Hid (An.BytesAt w9 q6 m (fun i => Lg.makeB X.key p m (Lg.makeB X.key 0 n (fun _ => 0)) (u + i))) := Lib.hid ⟨fun i hi => hf.cell (HB68.out.c i hi) HQ6'.out, fun k => by rw [hf.frozen HB68.out.qlt HQ6'.out]; exact HB68.out.fz k, Nat.lt_of_lt_of_le HB68.out.qlt hf.size⟩
    have HB89 : Hid (An.BytesAt w9 q8 m (fun i => Ar.setB (Lg.makeB X.key p m (Lg.makeB X.key 0 n (fun _ => 0))) a bl V (u + i))) := Lib.hid ⟨fun i hi => hf.cell (HB8.out.c i hi) HQ8.out, fun k => by rw [hf.frozen HB8.out.qlt HQ8.out]; exact HB8.out.fz k, Nat.lt_of_lt_of_le HB8.out.qlt hf.size⟩
    clear hy9 hf HDr HY8 HB68 HB8
    have hc1 := conv_same w9 q6 m cap6 _ (fun i => Lg.makeB X.key p m (Lg.makeB X.key 0 n (fun _ => 0)) (u + i)) HB69.out (fun _ _ => rfl)
    have hc2 := conv_same w9 q8 m cap8 _ (fun i => Lg.makeB X.key p m (Lg.makeB X.key 0 n (fun _ => 0)) (u + i)) HB89.out (fun i _ => Ar.setB_out (by have := HD.out; have := HU.out; omega))
    generalize strOfNums ((List.range m).map fun i => ((Lg.makeB X.key p m (Lg.makeB X.key 0 n (fun _ => 0)) (u + i) : Nat) : Int)) = str at hc1 hc2
    have HC := Lib.hid HY9.out.check
    have HAll := Lib.hid (can_rest (key := X.key) (B := fun _ => 0) (V := V) HNum.out (l := bl) (by have := HD.out; omega))
    go_wp2_with fail
    refine HC.out.mono ?_
    rintro e w10 ⟨x10, rfl, _, hx10, hg⟩
    obtain rfl : x10 = 0 := hx10.2 HAll.out
    have HE10 := Lib.hid (grown_trans HY9.out.all hg)
    clear hx10 hg HC hc1 hc2
    go_wp2_with (go_at_call 37; refine (lawake_at _).mono ?_; rintro e w11 ⟨rfl, hg⟩; have HE := Lib.hid (grown_trans HE10.out hg); clear hg)
    go_ret
    exact ⟨rfl, HE.out⟩

theorem largeApart_walk (seed : Nat) (n0 m0 a0 : Int) (bA : Option Addr) (bl bc : Nat) (V : Nat → Nat) (w : World) (hbl : bl ≤ bc) (hbm : bl ≤ 9223372036854775807) (hV : ∀ i, V i < 256) (hB : BArg w bA bl V) :
    Calls Try.prog 8 #[.int .u64 seed, .int .i64 n0, .int .i64 m0, .int .i64 a0, .slice bA bl bc] w fun e w' => e = .returned (.bool true) ∧ w.grownBy w' none := by
  have hn : 121 ≤ (n0 % 1024 + 121).toNat := by omega
  refine largeApart_num seed (n0 % 1024 + 121).toNat (m0 % 1024 + 121).toNat ((a0 % 4096) % ((n0 % 1024 + 121).toNat : Int)).toNat (pgs (n0 % 1024 + 121).toNat) n0 m0 a0 bA bl bc V w ⟨hn, by omega, by omega, by omega, ?_, rfl⟩ (by omega) (by omega) ?_ hbl hbm hV hB
  · have h1 := Int.emod_lt_of_pos (a0 % 4096) (show (0 : Int) < ((n0 % 1024 + 121).toNat : Int) by omega)
    have h2 := Int.emod_nonneg (a0 % 4096) (show ((n0 % 1024 + 121).toNat : Int) ≠ 0 by omega)
    omega
  · have h2 := Int.emod_nonneg (a0 % 4096) (show ((n0 % 1024 + 121).toNat : Int) ≠ 0 by omega)
    omega
end Go.Proofs.Yticoojcmlkdeiaa
