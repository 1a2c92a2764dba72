/- The walks of a slab's Take, Drop, Give. -/
import Derived.Test.YticoojcmlkdeiaaSD
namespace Go.Proofs.Yticoojcmlkdeiaa
open Go.RowKit
open Sl (Cls bs upd)

theorem is1_upd (S : Nat → Nat) (k v j : Nat) : is1 (upd S k v) j = if j = k then decide (v = 1) else is1 S j := by
  unfold is1 upd
  split <;> rfl
theorem is2_upd (S : Nat → Nat) (k v j : Nat) : is2 (upd S k v) j = if j = k then decide (v = 2) else is2 S j := by
  unfold is2 upd
  split <;> rfl
/-- The first slot is another one. -/
theorem SlAt.first {w : World} {X : Pl} {Y : Nm} {S : Nat → Nat} {f : Int} {B : Nat → Nat} (h : SlAt w X Y S f B) (f' : Int) : SlAt (w.setCell ⟨X.p, 7, none⟩ (.int .i64 f')) X Y S f' B := by
  have hg := An.agrown_set w X.p 7 (.int .i64 f')
  obtain ⟨a1, a2, a3, a4, a5, a6⟩ := h.ap.h1
  have ho : ∀ o v, o ≠ 7 → w.cell? ⟨X.p, o, none⟩ = some v → (w.setCell ⟨X.p, 7, none⟩ (.int .i64 f')).cell? ⟨X.p, o, none⟩ = some v := fun o v ne hc => by
    rw [World.cell?_setCell_other _ _ _ _ (fun x => ne (congrArg Addr.off x).symm)]; exact hc
  refine ⟨⟨ho _ _ (by decide) h.own.c0, ho _ _ (by decide) h.own.c1, ho _ _ (by decide) h.own.c2, ho _ _ (by decide) h.own.c3, ho _ _ (by decide) h.own.c4, ho _ _ (by decide) h.own.c5, ho _ _ (by decide) h.own.c6, ?_, fun k => by rw [World.frozen?_setCell]; exact h.own.fz k⟩,
    h.ar.grown hg (some_ne a1.symm) (some_ne a2.symm), h.l.grown hg (some_ne a3.symm) (some_ne a4.symm), h.h.grown hg (some_ne a5.symm) (some_ne a6.symm), h.ap, h.ok⟩
  exact World.cell?_setCell_same' _ _ _ (by rw [h.own.c7]; rfl)
/-- A live bit is another one. -/
theorem SlAt.live {w w' : World} {X : Pl} {Y : Nm} {S : Nat → Nat} {f : Int} {B : Nat → Nat} (h : SlAt w X Y S f B) {S' : Nat → Nat} {b : Nat → Bool} (hg : w.grownBy w' (some X.ql)) (hr : Row w' X.pl X.ql Y.n b) (e1 : ∀ k, k < Y.n → b k = is1 S' k) (e2 : ∀ k, k < Y.n → is2 S k = is2 S' k) : SlAt w' X Y S' f B :=
  ⟨h.own.grown hg (some_ne h.ap.h1.2.2.2.1), h.ar.grown hg (some_ne h.ap.h2.1.symm) (some_ne h.ap.h2.2.1.symm), hr.congr e1, (h.h.grown hg (some_ne h.ap.h2.2.2.2.1.symm) (some_ne h.ap.h2.2.2.2.2.symm)).congr e2, h.ap, h.ok⟩
theorem SlAt.held {w w' : World} {X : Pl} {Y : Nm} {S : Nat → Nat} {f : Int} {B : Nat → Nat} (h : SlAt w X Y S f B) {S' : Nat → Nat} {b : Nat → Bool} (hg : w.grownBy w' (some X.qh)) (hr : Row w' X.ph X.qh Y.n b) (e1 : ∀ k, k < Y.n → is1 S k = is1 S' k) (e2 : ∀ k, k < Y.n → b k = is2 S' k) : SlAt w' X Y S' f B :=
  ⟨h.own.grown hg (some_ne h.ap.h1.2.2.2.2.2), h.ar.grown hg (some_ne h.ap.h3.1.symm) (some_ne h.ap.h3.2.1.symm), (h.l.grown hg (some_ne h.ap.h3.2.2.1.symm) (some_ne h.ap.h2.2.2.2.2)).congr e1, hr.congr e2, h.ap, h.ok⟩
/-- What reads, at whatever world that grew. -/
theorem SlAt.base_g {w : World} {X : Pl} {Y : Nm} {S : Nat → Nat} {f : Int} {B : Nat → Nat} (h : SlAt w X Y S f B) {k : Nat} (hk : k < Y.n) (W : World) (g : w.grownBy W none) :
    Calls Try.prog 43 #[.pointer (some ⟨X.p, 0, none⟩), .int .i64 k] W fun e w' => e = .returned (.int .i64 (bs Y.g Y.s k : Nat)) ∧ W.grownBy w' none := by
  have := sbase_own (h.own.grown g (by simp)) h.ok (k : Int)
  rw [baseV_in hk] at this
  exact this.mono fun _ _ ⟨he, hd⟩ => ⟨he, drew_grownBy hd⟩
theorem SlAt.guard_g {w : World} {X : Pl} {Y : Nm} {S : Nat → Nat} {f : Int} {B : Nat → Nat} (h : SlAt w X Y S f B) {k : Nat} (hk : k < Y.n) (W : World) (g : w.grownBy W none) :
    Calls Try.prog 46 #[.pointer (some ⟨X.p, 0, none⟩), .int .i64 k] W fun e w' => e = .returned (.int .i64 ((bs Y.g Y.s k + Y.r : Nat) : Int)) ∧ W.grownBy w' none :=
  (guard_at (h.grown g) hk).mono fun _ _ ⟨he, hd⟩ => ⟨he, drew_grownBy hd⟩
theorem SlAt.fill_g {w : World} {X : Pl} {Y : Nm} {S : Nat → Nat} {f : Int} {B : Nat → Nat} (h : SlAt w X Y S f B) {a m c : Nat} (ha : a + m ≤ Y.N) (hc : c < 256) (W : World) (g : w.grownBy W none) :
    Calls Try.prog 38 #[.pointer (some ⟨X.pa, 0, none⟩), .int .i64 a, .int .i64 m, .int .u8 c] W fun e w' => e = .returned (.int .i64 0) ∧ SlAt w' X Y S f (Ar.setB B a m (fun _ => c)) ∧ W.grownBy w' (some X.qa) :=
  (An.fill_good (h.grown g).ar a m c ha hc).mono fun _ _ ⟨he, ha, hg⟩ => ⟨he, (h.grown g).arena hg ha, hg⟩
theorem SlAt.word_g {w : World} {X : Pl} {Y : Nm} {S : Nat → Nat} {f : Int} {B : Nat → Nat} (h : SlAt w X Y S f B) {a v : Nat} (ha : a + 8 ≤ Y.N) (hm : a % 8 = 0) (W : World) (g : w.grownBy W none) :
    Calls Try.prog 45 #[.pointer (some ⟨X.pa, 0, none⟩), .int .i64 a, .int .u64 v] W fun e w' => e = .returned (.int .i64 0) ∧ SlAt w' X Y S f (Ar.setW B a v) ∧ W.grownBy w' (some X.qa) :=
  (setword_in (h.grown g).ar ha hm).mono fun _ _ ⟨he, ha, hg⟩ => ⟨he, (h.grown g).arena hg ha, hg⟩
theorem SlAt.own_g {w : World} {X : Pl} {Y : Nm} {S : Nat → Nat} {f : Int} {B : Nat → Nat} (h : SlAt w X Y S f B) (W : World) (g : w.grownBy W none) : Own W X Y f := h.own.grown g (by simp)

set_option maxHeartbeats 400000 in
theorem take_nil (w : World) :
    Calls Try.prog 11 #[.pointer none] w fun e w' => e = .returned (.tuple #[.int .i64 0, .int .i64 2]) ∧ w = w' := by
  go_enter Try.func11, Try.ntmps11
  go_wp2
  go_ret2
  exact ⟨rfl, rfl⟩
set_option maxHeartbeats 400000 in
theorem take_none {w : World} {X : Pl} {Y : Nm} {S : Nat → Nat} {B : Nat → Nat} (h : SlAt w X Y S (-1) B) :
    Calls Try.prog 11 #[.pointer (some ⟨X.p, 0, none⟩)] w fun e w' => e = .returned (.tuple #[.int .i64 0, .int .i64 5]) ∧ w = w' := by
  have HT := sthere_at h (-1)
  rw [show isK Y.n (-1) = false by simp [isK]] at HT
  have HT := Lib.hid HT
  have c7 := h.own.c7
  clear h
  go_enter Try.func11, Try.ntmps11
  go_wp2_with (go_at_call 40; refine HT.out.mono ?_; rintro e w' ⟨rfl, rfl⟩)
  go_ret2
  exact ⟨rfl, rfl⟩

/-- The block is filled. -/
def Filled (w W : World) (X : Pl) (Y : Nm) (S : Nat → Nat) (f : Int) (B : Nat → Nat) : Prop := SlAt W X Y S f B ∧ w.grownBy W (some X.qa)
set_option maxRecDepth 100000 in
set_option maxHeartbeats 2000000 in
theorem take_some {w : World} {X : Pl} {Y : Nm} {S : Nat → Nat} {B : Nat → Nat} {k : Nat} {t : List Nat} (h : SlAt w X Y S k B) (hI : Sl.Inv Y.key Y.g Y.s Y.n Y.r S (k :: t) B) :
    Calls Try.prog 11 #[.pointer (some ⟨X.p, 0, none⟩)] w fun e w' => e = .returned (.tuple #[.int .i64 k, .int .i64 0]) ∧ SlAt w' X Y (upd S k 1) (Sl.fst t) (Sl.takeB Y.key Y.g Y.s Y.r k B) ∧ Fr X.may w w' := by
  obtain ⟨hk, hS⟩ := hI.fr k (by simp)
  have HT := sthere_at h (k : Int)
  rw [isK_of hk] at HT
  have HT := Lib.hid HT
  have c7 := h.own.c7
  have HN := Lib.hid (next_at h (pre := []) hI)
  have H := Lib.hid h
  have HK := Lib.hid hk
  have HS0 := Lib.hid hS
  have HTB : Hid (Ar.setW (Ar.setB B (bs Y.g Y.s k) Y.r fun _ => 0) (bs Y.g Y.s k + Y.r) (Sl.can Y.key Y.g Y.s k) = Sl.takeB Y.key Y.g Y.s Y.r k B) := Lib.hid rfl
  clear h hI hk hS
  generalize Sl.takeB Y.key Y.g Y.s Y.r k B = B' at *
  generalize Sl.fst t = f' at *
  go_enter Try.func11, Try.ntmps11
  go_wp2_with (go_at_call 40; refine HT.out.mono ?_; rintro e w' ⟨rfl, rfl⟩)
  refine HN.out.mono ?_
  rintro e w1 ⟨rfl, hg1⟩
  have H1 := Lib.hid (H.out.grown hg1)
  have HF1 := Lib.hid (fr_none (may := X.may) hg1)
  clear hg1 HN HT c7
  have z7 := H1.out.own.fz 7
  have d7 := H1.out.own.c7
  go_upto_region 10 with (fail)
  have H2 := Lib.hid (H1.out.first f')
  have HF2 := Lib.hid (HF1.out.trans (fr_some (An.agrown_set w1 X.p 7 (.int .i64 f')) (fun _ => .inl rfl)))
  clear z7 d7 H1 HF1
  generalize w1.setCell ⟨X.p, 7, none⟩ (.int .i64 f') = w2 at *
  have c5 := H2.out.own.c5
  have HP := Lib.hid (H2.out.l.put HK.out true)
  go_wp2_with fail
  refine HP.out.mono ?_
  rintro e w3 ⟨rfl, hr, hg3⟩
  have H3 := Lib.hid (H2.out.live (S' := upd S k 1) hg3 hr (fun j _ => by rw [is1_upd]; rfl) (fun j _ => by
    rw [is2_upd]
    by_cases e : j = k
    · subst e; rw [if_pos rfl]; unfold is2; rw [HS0.out]; rfl
    · rw [if_neg e]))
  have HF3 := Lib.hid (HF2.out.trans (fr_some (may := X.may) hg3 (fun _ => .inr (.inr (.inl rfl)))))
  clear hr hg3 HP H2 HF2 c5
  have HB := Lib.hid (fun W g => H3.out.base_g HK.out W g)
  have HR := Lib.hid (fun W => room_at H3.out.ok W)
  have hbd := bs_bd H3.out.ok HK.out
  have hrs := H3.out.ok.c.facts.rs
  have HFi := Lib.hid (fun W g => H3.out.fill_g (a := bs Y.g Y.s k) (m := Y.r) (c := 0) (by omega) (by omega) W g)
  have HO := Lib.hid (fun W g => And.intro (H3.out.own_g W g).c0 (H3.out.own_g W g).c3)
  obtain ⟨e0, e1⟩ := HO.out _ (grown_refl w3 none)
  have hg1 := grown_drew1 (grown_refl w3 none)
  clear hbd hrs
  go_upto_region 11 with (fail)
  go_cut [] (fun W => Filled w3 W X Y (upd S k 1) f' (Ar.setB B (bs Y.g Y.s k) Y.r (fun _ => 0)))
  case first =>
    generalize bs Y.g Y.s k = x at *
    go_region_held3 (fun w' => w'.cell? ⟨X.p, 0, none⟩ = some (.pointer (some ⟨X.pa, 0, none⟩)) ∧ w'.cell? ⟨X.p, 3, none⟩ = some (.int .i64 (Y.c : Nat)))
      (first | exact ⟨e0, e1⟩ | exact HO.out _ (by assumption) | exact HS3.out)
      (first
      | (go_at_call 43; refine (HB.out _ (by assumption)).mono ?_; rintro e w4 ⟨rfl, m⟩; have hg2 := grown_trans hg1 m; clear m)
      | (go_at_call 44; refine (HR.out _).mono ?_; rintro e w4 ⟨rfl, rfl⟩)
      | (go_at_call 38; refine (HFi.out _ (by assumption)).mono ?_; rintro e w5 ⟨rfl, k3, k4⟩; have K := Lib.hid (And.intro k3 (grown_trans (grown_none hg2) k4)); have HS3 := Lib.hid (And.intro k3.own.c0 k3.own.c3); clear k3 k4))
    all_goals
      go_wp2
      go_meet
      exact K.out
  case rest =>
    have H4 := Lib.hid hcut.1
    have HF4 := Lib.hid (HF3.out.trans (fr_some (may := X.may) hcut.2 (fun _ => .inr (.inl rfl))))
    clear hcut HB HR HFi HO e0 e1 hg1 H3 HF3
    obtain ⟨w4, rfl⟩ : ∃ w4 : World, w4 = wc := ⟨_, rfl⟩
    have hbd := bs_bd H4.out.ok HK.out
    have hrs := H4.out.ok.c.facts.rs
    have hm1 := Sl.bs_mod H4.out.ok.c Y.g k
    have hm2 := Sl.r_mod H4.out.ok.c
    have HB := Lib.hid (fun W g => H4.out.base_g HK.out W g)
    have HGd := Lib.hid (fun W g => H4.out.guard_g HK.out W g)
    have HC : Hid (∀ W, Calls Try.prog 47 #[.agg #[.int .u64 (Y.key : Nat)], .int .i64 (bs Y.g Y.s k : Nat)] W fun e w' => e = .returned (.int .u64 (Sl.can Y.key Y.g Y.s k : Nat)) ∧ W.grownBy w' none) := Lib.hid (fun W => canary_at Y.key H4.out.ok.k _ W)
    have HW := Lib.hid (fun W g => H4.out.word_g (a := bs Y.g Y.s k + Y.r) (v := Sl.can Y.key Y.g Y.s k) (by omega) (by omega) W g)
    rw [HTB.out] at HW
    have HO := Lib.hid (fun W g => And.intro (H4.out.own_g W g).c0 (H4.out.own_g W g).c1)
    obtain ⟨e0, e1⟩ := HO.out _ (grown_refl w4 none)
    have hg0 := grown_drew1 (grown_refl w4 none)
    clear hbd hrs hm1 hm2 HTB
    generalize Sl.can Y.key Y.g Y.s k = z at *
    generalize ((bs Y.g Y.s k + Y.r : Nat) : Int) = y at *
    generalize bs Y.g Y.s k = x at *
    go_upto_region 12 with (fail)
    go_region_held3 (fun w' => w'.cell? ⟨X.p, 0, none⟩ = some (.pointer (some ⟨X.pa, 0, none⟩)) ∧ w'.cell? ⟨X.p, 1, none⟩ = some (.int .u64 (Y.key : Nat)))
      (first | exact ⟨e0, e1⟩ | exact HO.out _ (by assumption) | exact HS3.out)
      (first
      | (go_at_call 43; refine (HB.out _ (by assumption)).mono ?_; rintro e w5 ⟨rfl, m⟩; have hg := grown_trans (by assumption : w4.grownBy _ none) m; clear m)
      | (go_at_call 46; refine (HGd.out _ (by assumption)).mono ?_; rintro e w5 ⟨rfl, m⟩; have hg := grown_trans (by assumption : w4.grownBy _ none) m; clear m)
      | (go_at_call 47; refine (HC.out _).mono ?_; rintro e w5 ⟨rfl, m⟩; have hg := grown_trans (by assumption : w4.grownBy _ none) m; clear m)
      | (go_at_call 45; refine (HW.out _ (by assumption)).mono ?_; rintro e w6 ⟨rfl, k3, k4⟩; have K := Lib.hid (And.intro k3 (grown_trans (grown_none (by assumption : w4.grownBy _ none)) k4)); have HS3 := Lib.hid (And.intro k3.own.c0 k3.own.c1); clear k3 k4))
    all_goals
      go_wp2
      go_ret2
      exact ⟨rfl, K.out.1, HF4.out.trans (fr_some K.out.2 (fun _ => .inr (.inl rfl)))⟩

set_option maxRecDepth 100000 in
set_option maxHeartbeats 1000000 in
theorem drop_bad (v : Value) (er k : Int) (w : World) (hz : er ≠ 0)
    (hw : Calls Try.prog 48 #[v, .int .i64 k, .int .i64 1] w fun e w' => e = .returned (.int .i64 er) ∧ w = w') :
    Calls Try.prog 12 #[v, .int .i64 k] w fun e w' => e = .returned (.tuple #[.bool false, .int .i64 er]) ∧ w = w' := by
  have HW := Lib.hid hw
  have hz' : (er != 0) = true := by simpa using hz
  clear hw hz
  go_enter Try.func12, Try.ntmps12
  go_wp2_with (go_at_call 48; refine HW.out.mono ?_; rintro e w' ⟨rfl, rfl⟩)
  go_ret2
  exact ⟨rfl, rfl⟩
set_option maxRecDepth 100000 in
set_option maxHeartbeats 1000000 in
theorem give_bad (v : Value) (er k : Int) (w : World) (hz : er ≠ 0)
    (hw : Calls Try.prog 48 #[v, .int .i64 k, .int .i64 2] w fun e w' => e = .returned (.int .i64 er) ∧ w = w') :
    Calls Try.prog 13 #[v, .int .i64 k] w fun e w' => e = .returned (.int .i64 er) ∧ w = w' := by
  have HW := Lib.hid hw
  have hz' : (er != 0) = true := by simpa using hz
  clear hw hz
  go_enter Try.func13, Try.ntmps13
  go_wp2_with (go_at_call 48; refine HW.out.mono ?_; rintro e w' ⟨rfl, rfl⟩)
  go_ret
  exact ⟨rfl, rfl⟩

set_option maxRecDepth 100000 in
set_option maxHeartbeats 2000000 in
theorem drop_ok {w : World} {X : Pl} {Y : Nm} {S : Nat → Nat} {F : List Nat} {B : Nat → Nat} {k : Nat} (h : SlAt w X Y S (Sl.fst F) B) (hI : Sl.Inv Y.key Y.g Y.s Y.n Y.r S F B) (hk : k < Y.n) (hS : S k = 1) :
    Calls Try.prog 12 #[.pointer (some ⟨X.p, 0, none⟩), .int .i64 k] w fun e w' => e = .returned (.tuple #[.bool true, .int .i64 0]) ∧ SlAt w' X Y (upd S k 2) (Sl.fst F) (Sl.dropB Y.g Y.s k B) ∧ Fr X.may w w' := by
  have hW := wrong_at h hI.st (k : Int) 1
  rw [show wrV Y S (k : Int) 1 = 0 by unfold wrV; rw [if_pos (isK_of hk), if_pos (by rw [stV_in hk, hS]; rfl)]] at hW
  have HW := Lib.hid hW
  have HSt := Lib.hid (stands_at h hk (hI.lv k hk hS))
  have H := Lib.hid h
  have HK := Lib.hid hk
  have HTB : Hid ((Ar.setB B (bs Y.g Y.s k) Y.s fun _ => 221) = Sl.dropB Y.g Y.s k B) := Lib.hid rfl
  clear h hI hk hS hW
  generalize Sl.dropB Y.g Y.s k B = B' at *
  generalize Sl.fst F = f at *
  go_enter Try.func12, Try.ntmps12
  go_wp2_with (go_at_call 48; refine HW.out.mono ?_; rintro e w' ⟨rfl, rfl⟩)
  refine HSt.out.mono ?_
  rintro e w1 ⟨rfl, hg1⟩
  have H1 := Lib.hid (H.out.grown hg1)
  have HF1 := Lib.hid (fr_none (may := X.may) hg1)
  clear hg1 HSt HW
  have c5 := H1.out.own.c5
  have HP := Lib.hid (H1.out.l.put HK.out false)
  go_wp2_with fail
  refine HP.out.mono ?_
  rintro e w2 ⟨rfl, hr, hg⟩
  have HL2 := Lib.hid hr
  have HO2 := Lib.hid (H1.out.own.grown hg (some_ne H1.out.ap.h1.2.2.2.1))
  have HH2 := Lib.hid (H1.out.h.grown hg (some_ne H1.out.ap.h2.2.2.2.1.symm) (some_ne H1.out.ap.h2.2.2.2.2.symm))
  have HG2 := Lib.hid hg
  have HF2 := Lib.hid (HF1.out.trans (fr_some (may := X.may) hg (fun _ => .inr (.inr (.inl rfl)))))
  clear hr hg HP HF1 c5
  have c6 := HO2.out.c6
  have HP := Lib.hid (HH2.out.put HK.out true)
  go_wp2_with fail
  refine HP.out.mono ?_
  rintro e w3 ⟨rfl, hr, hg⟩
  have H3 : Hid (SlAt w3 X Y (upd S k 2) f B) := Lib.hid (by
    have a := H1.out.ap
    refine ⟨HO2.out.grown hg (some_ne a.h1.2.2.2.2.2), (H1.out.ar.grown HG2.out (some_ne a.h2.1.symm) (some_ne a.h2.2.1.symm)).grown hg (some_ne a.h3.1.symm) (some_ne a.h3.2.1.symm), (HL2.out.grown hg (some_ne a.h3.2.2.1.symm) (some_ne a.h2.2.2.2.2)).congr (fun j _ => ?_), hr.congr (fun j _ => ?_), a, H1.out.ok⟩
    · rw [is1_upd]; rfl
    · rw [is2_upd]; rfl)
  have HF3 := Lib.hid (HF2.out.trans (fr_some (may := X.may) hg (fun _ => .inr (.inr (.inr rfl)))))
  clear hr hg HP HF2 c6 HO2 HH2 HG2 HL2 H1
  have HB := Lib.hid (fun W g => H3.out.base_g HK.out W g)
  have HR := Lib.hid (fun W => size_at H3.out.ok W)
  have hbd := bs_bd H3.out.ok HK.out
  have HFi := Lib.hid (fun W g => H3.out.fill_g (a := bs Y.g Y.s k) (m := Y.s) (c := 221) (by omega) (by omega) W g)
  rw [HTB.out] at HFi
  have HO := Lib.hid (fun W g => And.intro (H3.out.own_g W g).c0 (H3.out.own_g W g).c3)
  obtain ⟨e0, e1⟩ := HO.out _ (grown_refl w3 none)
  have hg1 := grown_drew1 (grown_refl w3 none)
  clear hbd
  go_upto_region 7 with (fail)
  clear HTB
  generalize bs Y.g Y.s k = x at *
  go_region_held3 (fun w' => w'.cell? ⟨X.p, 0, none⟩ = some (.pointer (some ⟨X.pa, 0, none⟩)) ∧ w'.cell? ⟨X.p, 3, none⟩ = some (.int .i64 (Y.c : Nat)))
    (first | exact ⟨e0, e1⟩ | exact HO.out _ (by assumption) | exact HS3.out)
    (first
    | (go_at_call 43; refine (HB.out _ (by assumption)).mono ?_; rintro e w4 ⟨rfl, m⟩; have hg2 := grown_trans hg1 m; clear m)
    | (go_at_call 50; refine (HR.out _).mono ?_; rintro e w4 ⟨rfl, rfl⟩)
    | (go_at_call 38; refine (HFi.out _ (by assumption)).mono ?_; rintro e w5 ⟨rfl, k3, k4⟩; have K := Lib.hid (And.intro k3 (grown_trans (grown_none hg2) k4)); have HS3 := Lib.hid (And.intro k3.own.c0 k3.own.c3); clear k3 k4))
  all_goals
    go_wp2
    go_ret2
    exact ⟨rfl, K.out.1, HF3.out.trans (fr_some K.out.2 (fun _ => .inr (.inl rfl)))⟩

theorem toV_fst {Y : Nm} {F : List Nat} (h : ∀ k, k ∈ F → k < Y.n) : toV Y (Sl.fst F) = Sl.nx Y.g Y.s F := by
  cases F with
  | nil => unfold toV; rw [if_neg (by simp [isK, Sl.fst])]; rfl
  | cons j t => unfold toV; rw [show Sl.fst (j :: t) = (j : Int) from rfl, if_pos (isK_of (h j (by simp))), Int.toNat_natCast]; rfl
set_option maxRecDepth 100000 in
set_option maxHeartbeats 2000000 in
theorem give_ok {w : World} {X : Pl} {Y : Nm} {S : Nat → Nat} {F : List Nat} {B : Nat → Nat} {k : Nat} (h : SlAt w X Y S (Sl.fst F) B) (hI : Sl.Inv Y.key Y.g Y.s Y.n Y.r S F B) (hk : k < Y.n) (hS : S k = 2) :
    Calls Try.prog 13 #[.pointer (some ⟨X.p, 0, none⟩), .int .i64 k] w fun e w' => e = .returned (.int .i64 0) ∧ SlAt w' X Y (upd S k 0) k (Sl.giveB Y.key Y.g Y.s k F B) ∧ Fr X.may w w' := by
  have hW := wrong_at h hI.st (k : Int) 2
  rw [show wrV Y S (k : Int) 2 = 0 by unfold wrV; rw [if_pos (isK_of hk), if_pos (by rw [stV_in hk, hS]; rfl)]] at hW
  have HW := Lib.hid hW
  have HV := Lib.hid (toV_fst (Y := Y) (fun j hj => (hI.fr j hj).1))
  have H := Lib.hid h
  have HK := Lib.hid hk
  have HS := Lib.hid hS
  clear h hI hk hS hW
  have c6 := H.out.own.c6
  have HP := Lib.hid (H.out.h.put HK.out false)
  have HGB : Hid (Sl.giveB Y.key Y.g Y.s k F B = Ar.setW B (bs Y.g Y.s k) (Li.lk Y.key (bs Y.g Y.s k : Nat) (toV Y (Sl.fst F)))) := Lib.hid (by rw [HV.out]; rfl)
  generalize Sl.giveB Y.key Y.g Y.s k F B = B' at *
  generalize Sl.fst F = f at *
  go_enter Try.func13, Try.ntmps13
  go_wp2_with (go_at_call 48; refine HW.out.mono ?_; rintro e w' ⟨rfl, rfl⟩)
  refine HP.out.mono ?_
  rintro e w1 ⟨rfl, hr, hg⟩
  have H1 := Lib.hid (H.out.held (S' := upd S k 0) hg hr (fun j _ => by
    rw [is1_upd]
    by_cases e : j = k
    · subst e; rw [if_pos rfl]; unfold is1; rw [HS.out]; rfl
    · rw [if_neg e]) (fun j _ => by rw [is2_upd]; rfl))
  have HF1 := Lib.hid (fr_some (may := X.may) hg (fun _ => .inr (.inr (.inr rfl))))
  clear hr hg HP c6 HW
  have c7 := H1.out.own.c7
  have hL := lead_at H1.out HK.out f
  rw [← HGB.out] at hL
  have HL := Lib.hid hL
  clear hL
  go_wp2_with fail
  refine HL.out.mono ?_
  rintro e w2 ⟨rfl, hs, hg⟩
  have H2 := Lib.hid hs
  have HF2 := Lib.hid (HF1.out.trans (fr_some (may := X.may) hg (fun _ => .inr (.inl rfl))))
  clear hs hg HL c7
  have z7 := H2.out.own.fz 7
  have d7 := H2.out.own.c7
  go_wp2
  go_ret
  exact ⟨rfl, H2.out.first k, HF2.out.trans (fr_some (An.agrown_set w2 X.p 7 _) (fun _ => .inl rfl))⟩
end Go.Proofs.Yticoojcmlkdeiaa
