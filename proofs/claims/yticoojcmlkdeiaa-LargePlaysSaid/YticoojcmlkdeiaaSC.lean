/- The walks of a slab's stands, gone, lead, next; bytes.Count of one byte. -/
import Derived.Test.YticoojcmlkdeiaaSB
import Derived.Deep.RegionHeld3
import Derived.Deep.DeepCutAuto
import Derived.Shelf.Bytes.SlCountOne
namespace Go.Proofs.Yticoojcmlkdeiaa
open Go.RowKit
open Sl (Cls bs)

theorem drew_grownBy {w w' : World} {r : Option Nat} (h : ∃ d, w' = w.drewN d) : w.grownBy w' r := by obtain ⟨d, rfl⟩ := h; exact grown_drew (grown_refl _ _) d
/-- The word at a place of the arena. -/
theorem word_in {w : World} {p q N cap : Nat} {B : Nat → Nat} {wk : Option Addr} (h : An.ArAt w p q N cap B wk) {a : Nat} (ha : a + 8 ≤ N) (hm : a % 8 = 0) :
    Calls Try.prog 79 #[.pointer (some ⟨p, 0, none⟩), .int .i64 a] w fun e w' => e = .returned (.tuple #[.int .u64 (Ar.wordAt B a : Nat), .int .i64 0]) ∧ w = w' := by
  have e : An.wbE N a = 0 := by
    unfold An.wbE
    rw [if_pos ((An.inB_iff _ _ _).2 (by omega)), if_pos (by omega)]
  have := An.word_at h (a : Int)
  rw [e] at this
  unfold An.wordV at this
  rw [if_pos e, Int.toNat_natCast] at this
  exact this
/-- .. and written. -/
theorem setword_in {w : World} {p q N cap : Nat} {B : Nat → Nat} (h : An.ArAt w p q N cap B none) {a v : Nat} (ha : a + 8 ≤ N) (hm : a % 8 = 0) :
    Calls Try.prog 45 #[.pointer (some ⟨p, 0, none⟩), .int .i64 a, .int .u64 v] w fun e w' => e = .returned (.int .i64 0) ∧ An.ArAt w' p q N cap (Ar.setW B a v) none ∧ w.grownBy w' (some q) := by
  have e : An.wbE N a = 0 := by
    unfold An.wbE
    rw [if_pos ((An.inB_iff _ _ _).2 (by omega)), if_pos (by omega)]
  refine (An.setword_good p q N cap a v B w h.c0 h.small e (fun w' => w = w') (fun w' hw => hw ▸ h.b) (An.open_none h a 8 ha)).mono ?_
  rintro e w' ⟨he, w1, rfl, hg, hb⟩
  have hp : some p ≠ some q := some_ne h.ne
  exact ⟨he, ⟨hg.cell h.c0 hp, hg.cell h.c1 hp, fun k => by rw [World.frozen?_of_block (w := w) (hg.block p h.plt hp)]; exact h.fz k, hb, h.ne, h.hcap, h.small, h.page, fun i => by rw [Ar.setW_is]; exact Ar.setB_lt h.lt (Ar.byt_lt v) _ _ _⟩, hg⟩
theorem SlAt.arena {w w' : World} {X : Pl} {Y : Nm} {S : Nat → Nat} {f : Int} {B B' : Nat → Nat} (h : SlAt w X Y S f B) (hg : w.grownBy w' (some X.qa)) (ha : An.ArAt w' X.pa X.qa Y.N Y.acap B' none) : SlAt w' X Y S f B' :=
  ⟨h.own.grown hg (some_ne h.ap.h1.2.1), ha, h.l.grown hg (some_ne h.ap.h4.2.1.symm) (some_ne h.ap.h2.2.1), h.h.grown hg (some_ne h.ap.h4.2.2.symm) (some_ne h.ap.h3.2.1), h.ap, h.ok⟩

set_option maxRecDepth 100000 in
set_option maxHeartbeats 1000000 in
theorem stands_at {w : World} {X : Pl} {Y : Nm} {S : Nat → Nat} {f : Int} {B : Nat → Nat} (h : SlAt w X Y S f B) {k : Nat} (hk : k < Y.n) (hw : Ar.wordAt B (bs Y.g Y.s k + Y.r) = Sl.can Y.key Y.g Y.s k) :
    Calls Try.prog 49 #[.pointer (some ⟨X.p, 0, none⟩), .int .i64 k] w fun e w' => e = .returned (.bool true) ∧ w.grownBy w' none := by
  have c0 := h.own.c0
  have HC1 := Lib.hid (fun W (g : w.grownBy W none) => (h.own.grown g (by simp)).c1)
  have hG := Lib.hid (fun d => guard_at (h.grown (grown_drew (grown_refl w none) d)) hk)
  have HW : Hid (∀ d, Calls Try.prog 79 #[.pointer (some ⟨X.pa, 0, none⟩), .int .i64 ((bs Y.g Y.s k + Y.r : Nat) : Int)] (w.drewN d) fun e w' => e = .returned (.tuple #[.int .u64 (Sl.can Y.key Y.g Y.s k : Nat), .int .i64 0]) ∧ w.drewN d = w') := Lib.hid (fun d => by
    have b1 := bs_bd h.ok hk
    have b2 := h.ok.c.facts.rs
    have b3 := Sl.bs_mod h.ok.c Y.g k
    have b4 := Sl.r_mod h.ok.c
    have := word_in (h.grown (grown_drew (grown_refl w none) d)).ar (a := bs Y.g Y.s k + Y.r) (by omega) (by omega)
    rw [hw] at this
    exact this)
  have HB : Hid (∀ W, w.grownBy W none → Calls Try.prog 43 #[.pointer (some ⟨X.p, 0, none⟩), .int .i64 k] W fun e w' => e = .returned (.int .i64 (bs Y.g Y.s k : Nat)) ∧ W.grownBy w' none) := Lib.hid (fun W g => by
    have := sbase_own (h.own.grown g (by simp)) h.ok (k : Int)
    rw [baseV_in hk] at this
    exact this.mono fun _ _ ⟨he, hd⟩ => ⟨he, drew_grownBy hd⟩)
  have HK : Hid (∀ W, Calls Try.prog 47 #[.agg #[.int .u64 (Y.key : Nat)], .int .i64 (bs Y.g Y.s k : Nat)] W fun e w' => e = .returned (.int .u64 (Sl.can Y.key Y.g Y.s k : Nat)) ∧ W.grownBy w' none) := Lib.hid (fun W => canary_at Y.key h.ok.k _ W)
  clear h hw hk
  generalize Sl.can Y.key Y.g Y.s k = z at *
  generalize ((bs Y.g Y.s k + Y.r : Nat) : Int) = y at *
  generalize bs Y.g Y.s k = x at *
  go_enter Try.func49, Try.ntmps49
  go_wp2
  go_quiet (first
    | (go_at_call 46; exact quiet_drew (hG.out _))
    | (go_at_call 79; exact quiet_left (HW.out _)))
  rename_i nq
  have hg0 := grown_drew (grown_refl w none) nq
  have c1 := HC1.out _ hg0
  generalize w.drewN nq = w1 at *
  have hg1 := grown_drew1 hg0
  clear hG HW c0
  go_upto_region 2 with (fail)
  go_region_held3 (fun w' => w'.cell? ⟨X.p, 1, none⟩ = some (.int .u64 (Y.key : Nat)))
    (first | exact c1 | exact HC1.out _ (by assumption))
    (first
    | (go_at_call 43; refine (HB.out _ (by assumption)).mono ?_; rintro e w3 ⟨rfl, m⟩; have hg2 := grown_trans hg1 m; clear m)
    | (go_at_call 47; refine (HK.out _).mono ?_; rintro e w4 ⟨rfl, m⟩; have hg3 := grown_trans hg2 m; clear m))
  have HE := Lib.hid hg3
  clear hg0 hg1 hg2 hg3
  go_wp2
  go_ret
  exact ⟨rfl, HE.out⟩

theorem count_all {n : Nat} {B : Nat → Nat} (h : ∀ i, i < n → B i = 221) : Lib.countByte (Lib.bytesOf ((List.range n).map fun i => ((B i : Nat) : Int))) 221 = n := by
  have e : Lib.bytesOf ((List.range n).map fun i => ((B i : Nat) : Int)) = List.replicate n (221 : UInt8) := by
    unfold Lib.bytesOf
    rw [List.map_map]
    apply List.ext_getElem (by simp)
    intro i h1 h2
    simp at h1
    simp [h i h1]
  rw [e]
  unfold Lib.countByte
  exact List.count_replicate_self
set_option maxRecDepth 100000 in
set_option maxHeartbeats 1000000 in
theorem bcount_at (q n cap q2 cap2 : Nat) (B : Nat → Nat) (w : World) (hc : ∀ i, i < n → w.cell? ⟨q, i, none⟩ = some (.int .u8 (B i : Nat))) (hc2 : w.cell? ⟨q2, 0, none⟩ = some (.int .u8 221)) (hB : ∀ i, i < n → B i = 221) :
    Calls Try.prog 89 #[.slice (some ⟨q, 0, none⟩) n cap, .slice (some ⟨q2, 0, none⟩) 1 cap2] w fun e w' => e = .returned (.int .i64 (n : Nat)) ∧ w = w' := by
  have HR := Lib.hid (Lib.run_countSlice (P := Try.prog) w q 0 n cap ((List.range n).map fun i => ((B i : Nat) : Int)) (by simp) (fun i hi => by rw [Nat.zero_add, hc i hi]; simp [List.getD_eq_getElem?_getD, hi]) 221)
  have HN := Lib.hid (count_all hB)
  clear hc hB
  go_enter Try.func89, Try.ntmps89
  go_wp2
  rw [run_callFunc_extern Try.func102 (by kernel_rfl) (by kernel_rfl) (by kernel_rfl) (e := Extern.BytealgCount.count) (by kernel_rfl), HR.out]
  simp only [Result.andThen]
  rw [Oper.upon_value]
  go_wp2
  go_ret
  exact ⟨ret_int (congrArg Nat.cast HN.out), rfl⟩

set_option maxRecDepth 100000 in
set_option maxHeartbeats 1000000 in
theorem gone_at {w : World} {X : Pl} {Y : Nm} {S : Nat → Nat} {f : Int} {B : Nat → Nat} (h : SlAt w X Y S f B) {k : Nat} (hk : k < Y.n) (hw : ∀ i, i < Y.s → B (bs Y.g Y.s k + i) = 221) :
    Calls Try.prog 56 #[.pointer (some ⟨X.p, 0, none⟩), .int .i64 k] w fun e w' => e = .returned (.bool true) ∧ w.grownBy w' none := by
  have HO := Lib.hid (fun W (g : w.grownBy W none) => And.intro (h.own.grown g (by simp)).c0 (h.own.grown g (by simp)).c3)
  have HB : Hid (∀ W, w.grownBy W none → Calls Try.prog 43 #[.pointer (some ⟨X.p, 0, none⟩), .int .i64 k] W fun e w' => e = .returned (.int .i64 (bs Y.g Y.s k : Nat)) ∧ W.grownBy w' none) := Lib.hid (fun W g => by
    have := sbase_own (h.own.grown g (by simp)) h.ok (k : Int)
    rw [baseV_in hk] at this
    exact this.mono fun _ _ ⟨he, hd⟩ => ⟨he, drew_grownBy hd⟩)
  have HS : Hid (∀ W, Calls Try.prog 50 #[.int .i64 (Y.c : Nat)] W fun e w' => e = .returned (.int .i64 (Y.s : Nat)) ∧ W = w') := Lib.hid (fun W => size_at h.ok W)
  have HL : Hid (∀ W, w.grownBy W none → Calls Try.prog 18 #[.pointer (some ⟨X.pa, 0, none⟩), .int .i64 (bs Y.g Y.s k : Nat), .int .i64 (Y.s : Nat)] W fun e w' => An.LoadRes W w' Y.s (fun i => B (bs Y.g Y.s k + i)) e) := Lib.hid (fun W g => An.aload_good (h.grown g).ar _ _ (bs_bd h.ok hk))
  have HW := Lib.hid hw
  have hs := h.ok.c.facts.s128
  clear h hw hk
  have e0 := (HO.out _ (grown_refl w none)).1
  have e1 := (HO.out _ (grown_refl w none)).2
  have hg1 := grown_drew1 (grown_refl w none)
  generalize bs Y.g Y.s k = x at *
  go_enter Try.func56, Try.ntmps56
  go_upto_region 1 with (fail)
  go_cut [5] (fun v W => ∃ q cap, v = .slice (some ⟨q, 0, none⟩) Y.s cap ∧ An.BytesAt W q Y.s (fun i => B (x + i)) ∧ w.grownBy W none)
  case first =>
    go_region_held3 (fun w' => w'.cell? ⟨X.p, 0, none⟩ = some (.pointer (some ⟨X.pa, 0, none⟩)) ∧ w'.cell? ⟨X.p, 3, none⟩ = some (.int .i64 (Y.c : Nat)))
      (first | exact ⟨e0, e1⟩ | exact HO.out _ (by assumption))
      (first
      | (go_at_call 43; refine (HB.out _ (by assumption)).mono ?_; rintro e w3 ⟨rfl, m⟩; have hg2 := grown_trans hg1 m; clear m)
      | (go_at_call 50; refine (HS.out _).mono ?_; rintro e w3 ⟨rfl, rfl⟩)
      | (go_at_call 18; refine (HL.out _ (by assumption)).mono ?_; rintro e w5 ⟨q5, cap5, rfl, k1, k2, k3, k4⟩; have K := Lib.hid k3; have hg5 := grown_trans hg2 k4; clear k1 k2 k3 k4))
    all_goals
      go_wp2
      go_meet
      exact ⟨_, _, rfl, K.out, hg5⟩
  case rest =>
    obtain ⟨q, cap, rfl, hb, hg⟩ := hcut
    have HG := Lib.hid hg
    have HBB := Lib.hid hb
    have HC := Lib.hid (fun W (q2 c2 : Nat) (g : wc.grownBy W none) (h2 : W.cell? ⟨q2, 0, none⟩ = some (.int .u8 221)) => bcount_at q Y.s cap q2 c2 (fun i => B (x + i)) W (hb.grown g (by simp)).c h2 HW.out)
    clear hg hb HB HS HL HO e0 e1 hg1
    go_wp2_with fail
    refine (HC.out _ _ _ (grown_alloc _ _ _) (by rw [cell_alloc_new]; rfl)).mono ?_
    rintro e w' ⟨rfl, rfl⟩
    go_wp2
    go_ret
    exact ⟨rfl, grown_trans HG.out (grown_alloc _ _ _)⟩

/-- What a link to a slot is made of. -/
def toV (Y : Nm) (k : Int) : Nat := if isK Y.n k = true then bs Y.g Y.s k.toNat + 1 else 0
theorem toV_lt {Y : Nm} (h : Ok Y) (k : Int) : toV Y k < 65537 := by
  unfold toV
  split
  · rename_i hk
    obtain ⟨j, rfl, hj⟩ := isK_t hk
    have := bs_bd h hj
    have := h.c.facts.s16
    have := h.N
    rw [Int.toNat_natCast]
    omega
  · omega
theorem toV_base (Y : Nm) (k : Int) : baseV Y k + 1 = toV Y k := by
  unfold toV baseV
  split
  · omega
  · rfl
/-- A link is written. -/
theorem cput_at {Y : Nm} (h : Ok Y) (k : Nat) (j : Int) (w : World) :
    Calls Try.prog 87 #[.agg #[.int .u64 (Y.key : Nat)], .int .i64 (bs Y.g Y.s k : Nat), .int .i64 (baseV Y j)] w fun e w' => e = .returned (.int .u64 (Li.lk Y.key (bs Y.g Y.s k : Nat) (toV Y j) : Nat)) ∧ w.grownBy w' none := by
  have := toV_base Y j
  have := toV_lt h j
  exact put_in Y.key (toV Y j) _ (baseV Y j) w (by omega) (by omega) (by omega) (by omega)
set_option maxRecDepth 100000 in
set_option maxHeartbeats 1000000 in
theorem lead_at {w : World} {X : Pl} {Y : Nm} {S : Nat → Nat} {f : Int} {B : Nat → Nat} (h : SlAt w X Y S f B) {k : Nat} (hk : k < Y.n) (j : Int) :
    Calls Try.prog 51 #[.pointer (some ⟨X.p, 0, none⟩), .int .i64 k, .int .i64 j] w fun e w' => e = .returned (.tuple #[]) ∧ SlAt w' X Y S f (Ar.setW B (bs Y.g Y.s k) (Li.lk Y.key (bs Y.g Y.s k : Nat) (toV Y j))) ∧ w.grownBy w' (some X.qa) := by
  have HO := Lib.hid (fun W (g : w.grownBy W none) => And.intro (h.own.grown g (by simp)).c0 (h.own.grown g (by simp)).c1)
  have HB1 : Hid (Calls Try.prog 43 #[.pointer (some ⟨X.p, 0, none⟩), .int .i64 k] w fun e w' => e = .returned (.int .i64 (bs Y.g Y.s k : Nat)) ∧ w.grownBy w' none) := Lib.hid (by
    have := sbase_own h.own h.ok (k : Int)
    rw [baseV_in hk] at this
    exact this.mono fun _ _ ⟨he, hd⟩ => ⟨he, drew_grownBy hd⟩)
  have HB : Hid (∀ W, w.grownBy W none → Calls Try.prog 43 #[.pointer (some ⟨X.p, 0, none⟩), .int .i64 j] W fun e w' => e = .returned (.int .i64 (baseV Y j)) ∧ W.grownBy w' none) := Lib.hid (fun W g => by
    have := sbase_own (h.own.grown g (by simp)) h.ok j
    exact this.mono fun _ _ ⟨he, hd⟩ => ⟨he, drew_grownBy hd⟩)
  have HP := Lib.hid (fun W => cput_at h.ok k j W)
  have HS : Hid (∀ W, w.grownBy W none → Calls Try.prog 45 #[.pointer (some ⟨X.pa, 0, none⟩), .int .i64 (bs Y.g Y.s k : Nat), .int .u64 (Li.lk Y.key (bs Y.g Y.s k : Nat) (toV Y j) : Nat)] W fun e w' => e = .returned (.int .i64 0) ∧ SlAt w' X Y S f (Ar.setW B (bs Y.g Y.s k) (Li.lk Y.key (bs Y.g Y.s k : Nat) (toV Y j))) ∧ W.grownBy w' (some X.qa)) := Lib.hid (fun W g => by
    have hW := h.grown g
    have b1 := bs_bd h.ok hk
    have b2 := h.ok.c.facts.s16
    have b3 := Sl.bs_mod h.ok.c Y.g k
    exact (setword_in hW.ar (by omega) (by omega)).mono fun _ _ ⟨he, ha, hg⟩ => ⟨he, hW.arena hg ha, hg⟩)
  clear h hk
  generalize (Li.lk Y.key (bs Y.g Y.s k : Nat) (toV Y j)) = z at *
  generalize baseV Y j = y at *
  generalize bs Y.g Y.s k = x at *
  go_enter Try.func51, Try.ntmps51
  go_wp2_with fail
  refine HB1.out.mono ?_
  rintro e w1 ⟨rfl, hg0⟩
  have e0 := (HO.out _ hg0).1
  have e1 := (HO.out _ hg0).2
  have hg1 := grown_drew1 hg0
  clear HB1 hg0
  go_upto_region 1 with (fail)
  go_region_held3 (fun w' => w'.cell? ⟨X.p, 0, none⟩ = some (.pointer (some ⟨X.pa, 0, none⟩)) ∧ w'.cell? ⟨X.p, 1, none⟩ = some (.int .u64 (Y.key : Nat)))
    (first | exact ⟨e0, e1⟩ | exact HO.out _ (by assumption) | exact HS3.out)
    (first
    | (go_at_call 43; refine (HB.out _ (by assumption)).mono ?_; rintro e w3 ⟨rfl, m⟩; have hg2 := grown_trans hg1 m; clear m)
    | (go_at_call 87; refine (HP.out _).mono ?_; rintro e w3 ⟨rfl, m⟩; have hg3 := grown_trans hg2 m; clear m)
    | (go_at_call 45; refine (HS.out _ (by assumption)).mono ?_; rintro e w5 ⟨rfl, k3, k4⟩; have K := Lib.hid (And.intro k3 (grown_trans (grown_none hg3) k4)); have HS3 := Lib.hid (And.intro k3.own.c0 k3.own.c1); clear k3 k4))
  clear hg1 hg2 hg3 HO HB HP HS e0 e1 HS3
  go_wp2
  go_end0
  exact ⟨rfl, K.out⟩

set_option maxRecDepth 100000 in
set_option maxHeartbeats 1000000 in
theorem next_nil {w : World} {X : Pl} {Y : Nm} {S : Nat → Nat} {f : Int} {B : Nat → Nat} (h : SlAt w X Y S f B) {k : Nat} (hk : k < Y.n) (hw : Ar.wordAt B (bs Y.g Y.s k) = Li.lk Y.key (bs Y.g Y.s k : Nat) 0) :
    Calls Try.prog 41 #[.pointer (some ⟨X.p, 0, none⟩), .int .i64 k] w fun e w' => e = .returned (.tuple #[.int .i64 (-1), .bool true]) ∧ w.grownBy w' none := by
  have HO := Lib.hid (fun W (g : w.grownBy W none) => And.intro (h.own.grown g (by simp)).c0 (h.own.grown g (by simp)).c1)
  have HB : Hid (Calls Try.prog 43 #[.pointer (some ⟨X.p, 0, none⟩), .int .i64 k] w fun e w' => e = .returned (.int .i64 (bs Y.g Y.s k : Nat)) ∧ w.grownBy w' none) := Lib.hid (by
    have := sbase_own h.own h.ok (k : Int)
    rw [baseV_in hk] at this
    exact this.mono fun _ _ ⟨he, hd⟩ => ⟨he, drew_grownBy hd⟩)
  have HW : Hid (∀ W, w.grownBy W none → Calls Try.prog 79 #[.pointer (some ⟨X.pa, 0, none⟩), .int .i64 (bs Y.g Y.s k : Nat)] W fun e w' => e = .returned (.tuple #[.int .u64 (Li.lk Y.key (bs Y.g Y.s k : Nat) 0 : Nat), .int .i64 0]) ∧ W = w') := Lib.hid (fun W g => by
    have b1 := bs_bd h.ok hk
    have b2 := h.ok.c.facts.s16
    have b3 := Sl.bs_mod h.ok.c Y.g k
    have := word_in (h.grown g).ar (a := bs Y.g Y.s k) (by omega) (by omega)
    rw [hw] at this
    exact this)
  have HG : Hid (∀ W, Calls Try.prog 80 #[.agg #[.int .u64 (Y.key : Nat)], .int .i64 (bs Y.g Y.s k : Nat), .int .u64 (Li.lk Y.key (bs Y.g Y.s k : Nat) 0 : Nat)] W fun e w' => e = .returned (.tuple #[.int .i64 (-1), .bool true]) ∧ W.grownBy w' none) := Lib.hid (fun W => by
    have t := get_some Y.key (Li.lk Y.key (bs Y.g Y.s k : Nat) 0) (bs Y.g Y.s k : Nat) W (by omega) (Li.lk_lt _ _ (by omega)) (by rw [Li.bare_lk]; omega)
    rw [Li.bare_lk] at t
    exact t)
  clear h hw hk
  generalize (Li.lk Y.key (bs Y.g Y.s k : Nat) 0) = z at *
  generalize bs Y.g Y.s k = x at *
  go_enter Try.func41, Try.ntmps41
  go_wp2_with fail
  refine HB.out.mono ?_
  rintro e w1 ⟨rfl, hg1⟩
  have e0 := (HO.out _ hg1).1
  have e1 := (HO.out _ hg1).2
  have HG1 := Lib.hid hg1
  clear HB hg1
  go_wp2_with fail
  refine (HW.out _ HG1.out).mono ?_
  rintro e w2 ⟨rfl, rfl⟩
  go_wp2_with fail
  refine (HG.out _).mono ?_
  rintro e w3 ⟨rfl, hg3⟩
  have HE := Lib.hid (grown_trans HG1.out hg3)
  clear hg3 e0 e1
  go_wp2
  go_ret2
  exact ⟨rfl, HE.out⟩
set_option maxRecDepth 100000 in
set_option maxHeartbeats 2000000 in
theorem next_cons {w : World} {X : Pl} {Y : Nm} {S : Nat → Nat} {f : Int} {B : Nat → Nat} (h : SlAt w X Y S f B) {k j : Nat} (hk : k < Y.n) (hj : j < Y.n) (hjk : j ≠ k) (hS : S j = 0) (hw : Ar.wordAt B (bs Y.g Y.s k) = Li.lk Y.key (bs Y.g Y.s k : Nat) (bs Y.g Y.s j + 1)) :
    Calls Try.prog 41 #[.pointer (some ⟨X.p, 0, none⟩), .int .i64 k] w fun e w' => e = .returned (.tuple #[.int .i64 j, .bool true]) ∧ w.grownBy w' none := by
  have HO := Lib.hid (fun W (g : w.grownBy W none) => And.intro (h.own.grown g (by simp)).c0 (And.intro (h.own.grown g (by simp)).c1 (h.own.grown g (by simp)).c3))
  have HB : Hid (Calls Try.prog 43 #[.pointer (some ⟨X.p, 0, none⟩), .int .i64 k] w fun e w' => e = .returned (.int .i64 (bs Y.g Y.s k : Nat)) ∧ w.grownBy w' none) := Lib.hid (by
    have := sbase_own h.own h.ok (k : Int)
    rw [baseV_in hk] at this
    exact this.mono fun _ _ ⟨he, hd⟩ => ⟨he, drew_grownBy hd⟩)
  have HBj : Hid (∀ W, w.grownBy W none → Calls Try.prog 43 #[.pointer (some ⟨X.p, 0, none⟩), .int .i64 j] W fun e w' => e = .returned (.int .i64 (bs Y.g Y.s j : Nat)) ∧ W.grownBy w' none) := Lib.hid (fun W g => by
    have := sbase_own (h.own.grown g (by simp)) h.ok (j : Int)
    rw [baseV_in hj] at this
    exact this.mono fun _ _ ⟨he, hd⟩ => ⟨he, drew_grownBy hd⟩)
  have HW : Hid (∀ W, w.grownBy W none → Calls Try.prog 79 #[.pointer (some ⟨X.pa, 0, none⟩), .int .i64 (bs Y.g Y.s k : Nat)] W fun e w' => e = .returned (.tuple #[.int .u64 (Li.lk Y.key (bs Y.g Y.s k : Nat) (bs Y.g Y.s j + 1) : Nat), .int .i64 0]) ∧ W = w') := Lib.hid (fun W g => by
    have b1 := bs_bd h.ok hk
    have b2 := h.ok.c.facts.s16
    have b3 := Sl.bs_mod h.ok.c Y.g k
    have := word_in (h.grown g).ar (a := bs Y.g Y.s k) (by omega) (by omega)
    rw [hw] at this
    exact this)
  have b5 := bs_bd h.ok hj
  have b6 := h.ok.N
  have b7 := h.ok.c.facts.s16
  have HG : Hid (∀ W, Calls Try.prog 80 #[.agg #[.int .u64 (Y.key : Nat)], .int .i64 (bs Y.g Y.s k : Nat), .int .u64 (Li.lk Y.key (bs Y.g Y.s k : Nat) (bs Y.g Y.s j + 1) : Nat)] W fun e w' => e = .returned (.tuple #[.int .i64 (bs Y.g Y.s j : Nat), .bool true]) ∧ W.grownBy w' none) := Lib.hid (fun W => by
    have t := get_some Y.key (Li.lk Y.key (bs Y.g Y.s k : Nat) (bs Y.g Y.s j + 1)) (bs Y.g Y.s k : Nat) W (by omega) (Li.lk_lt _ _ (by omega)) (by rw [Li.bare_lk]; omega)
    rw [Li.bare_lk, show (((bs Y.g Y.s j + 1 : Nat) : Int) - 1) = (bs Y.g Y.s j : Nat) by omega] at t
    exact t)
  have HSl : Hid (∀ W, Calls Try.prog 81 #[.int .i64 (bs Y.g Y.s j : Nat), .int .i64 (Y.c : Nat)] W fun e w' => e = .returned (.tuple #[.int .i64 (Y.g : Nat), .int .i64 j]) ∧ W.grownBy w' none) := Lib.hid (fun W => by
    obtain ⟨s1, s2⟩ := Sl.bs_slot h.ok.c Y.g hj
    refine (slot_yes (bs Y.g Y.s j) W h.ok.c.cl (by omega)).mono ?_
    rintro e w' ⟨he, hd⟩
    refine ⟨he.trans ?_, drew_grownBy hd⟩
    rw [show ((bs Y.g Y.s j : Nat) : Int) / 256 = (Y.g : Nat) by omega, show ((bs Y.g Y.s j : Nat) : Int) % 256 / (Y.s : Nat) = (j : Nat) from by exact_mod_cast congrArg (Nat.cast (R := Int)) s2])
  have HSt : Hid (∀ W, w.grownBy W none → Calls Try.prog 16 #[.pointer (some ⟨X.p, 0, none⟩), .int .i64 j] W fun e w' => e = .returned (.int .i64 0) ∧ W = w') := Lib.hid (fun W g => by
    have := state_in (h.grown g) hj (by omega)
    rw [hS] at this
    exact this)
  have hne : ((j : Int) != (k : Int)) = true := by simp; omega
  have hnn : (((bs Y.g Y.s j : Nat) : Int) == -1) = false := by simp
  clear h hw hk hj hjk hS b5 b6 b7
  generalize (Li.lk Y.key (bs Y.g Y.s k : Nat) (bs Y.g Y.s j + 1)) = z at *
  generalize bs Y.g Y.s k = x at *
  generalize bs Y.g Y.s j = y at *
  go_enter Try.func41, Try.ntmps41
  go_wp2_with fail
  refine HB.out.mono ?_
  rintro e w1 ⟨rfl, hg1⟩
  have e0 := (HO.out _ hg1).1
  have e1 := (HO.out _ hg1).2.1
  have HG1 := Lib.hid hg1
  clear HB hg1
  go_wp2_with fail
  refine (HW.out _ HG1.out).mono ?_
  rintro e w2 ⟨rfl, rfl⟩
  go_wp2_with fail
  refine (HG.out _).mono ?_
  rintro e w3 ⟨rfl, hg3⟩
  have HG3 := Lib.hid (grown_trans HG1.out hg3)
  have e3 := (HO.out _ HG3.out).2.2
  clear hg3 e0 e1 HG1
  go_wp2_with fail
  refine (HSl.out _).mono ?_
  rintro e w4 ⟨rfl, hg4⟩
  have HG4 := Lib.hid (grown_trans HG3.out hg4)
  clear hg4 HG3 e3
  go_wp2_with fail
  refine (HSt.out _ HG4.out).mono ?_
  rintro e w5 ⟨rfl, rfl⟩
  go_wp2_with fail
  refine (HBj.out _ HG4.out).mono ?_
  rintro e w6 ⟨rfl, hg6⟩
  have HE := Lib.hid (grown_trans HG4.out hg6)
  clear hg6 HG4
  go_wp2
  go_ret2
  exact ⟨rfl, HE.out⟩
/-- next, of a free slot of a slab that is whole. -/
theorem next_at {w : World} {X : Pl} {Y : Nm} {S : Nat → Nat} {f : Int} {B : Nat → Nat} (h : SlAt w X Y S f B) {k : Nat} {t pre : List Nat} (hI : Sl.Inv Y.key Y.g Y.s Y.n Y.r S (pre ++ k :: t) B) :
    Calls Try.prog 41 #[.pointer (some ⟨X.p, 0, none⟩), .int .i64 k] w fun e w' => e = .returned (.tuple #[.int .i64 (Sl.fst t), .bool true]) ∧ w.grownBy w' none := by
  have hk := hI.fr k (by simp)
  have hc : ∀ (l : List Nat), Sl.Chain Y.key Y.g Y.s B (l ++ k :: t) → Ar.wordAt B (bs Y.g Y.s k) = Li.lk Y.key (bs Y.g Y.s k) (Sl.nx Y.g Y.s t) := fun l => by
    induction l with
    | nil => exact fun h => h.1
    | cons a l ih => exact fun h => ih h.2
  have hw := hc pre hI.ch
  cases t with
  | nil => exact next_nil h hk.1 hw
  | cons j t =>
    have hj := hI.fr j (by simp)
    have hn := hI.nd
    refine next_cons h hk.1 hj.1 (fun e => ?_) hj.2 hw
    subst e
    rw [List.nodup_append] at hn
    simp at hn
end Go.Proofs.Yticoojcmlkdeiaa
