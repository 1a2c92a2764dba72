/- Merged texts: QB QC QD QE QF QG QH QI QJ. -/
import Derived.Test.YtgnfcklippjeeaaGreatK7
import Derived.Test.YtgnfcklippjeeaaGreatL4
import Derived.Test.YtgnfcklippjeeaaGreatL2
import Derived.Test.YtgnfcklippjeeaaGreatL5
import Derived.Test.YtgnfcklippjeeaaGreatL1
/- What a step may do with a region's state. -/
namespace Go.Proofs.YtgnfcklippjeeaaGreat
open Sl (Cls bs upd LnkIs)
open Lg (pgs)

inductive StS (V : St) : St → Prop
  | same : StS V V
  | open_ (p c s n r o : Nat) (hp : V.Place 1 (p : Int)) (hc : Cls c s n r) (ho : o < 64) : StS V (V.open_ p c s n r o)
  | take (g : Nat) (d : Sd) (k : Nat) (x : Int) (hl : V.L g = some d) (hf : d.f = (k : Int)) (hk : k < d.n) (h0 : d.S k = 0) (hx : LnkIs V.key g d.s d.n d.S V.B k x) (h2 : x ≠ -2) : StS V (V.take g d k x)
  | drop (g : Nat) (d : Sd) (k : Nat) (hl : V.L g = some d) (hk : k < d.n) (h1 : d.S k = 1) : StS V (V.drop g d k)
  | give (g : Nat) (d : Sd) (k : Nat) (hl : V.L g = some d) (hk : k < d.n) (h1 : d.S k = 2) : StS V (V.give g d k)
  | shut (g : Nat) (d : Sd) (hl : V.L g = some d) (h1 : cntS d.S 1 d.n = 0) (h2 : cntS d.S 2 d.n = 0) : StS V (V.shut g)
  | great (p n : Nat) (h1 : 120 < n) (h2 : n ≤ 4096) (hp : V.Place (pgs n) (p : Int)) : StS V (V.great p n)
  | gdrop (g : Nat) (hz : V.Z g ≠ 0) : StS V (V.gdrop g)
theorem StS.ok {V V' : St} (h : V.Ok) (hs : StS V V') : V'.Ok := by
  cases hs with
  | same => exact h
  | open_ p c s n r o hp hc ho => exact h.open_ (St.place_room hp (Nat.le_refl 1) (by omega)) hc ho
  | take g d k x hl hf hk h0 hx h2 => exact h.take hl (hx.fok h2)
  | drop g d k hl hk h1 => exact h.drop hl h1
  | give g d k hl hk h1 => exact h.give hl hk
  | shut g d hl h1 h2 => exact h.shut hl
  | great p n h1 h2 hp => exact h.great h1 h2 (St.place_room hp (Lg.pgs_pos n) (by have := Lg.pgs_bd h2; omega))
  | gdrop g hz => exact h.gdrop hz
theorem StS.dims {V V' : St} (hs : StS V V') : V'.m = V.m ∧ V'.n = V.n ∧ V'.key = V.key := by
  cases hs <;> exact ⟨rfl, rfl, rfl⟩
/-- No page of the managed region is anything. -/
def St.Low (V : St) : Prop := ∀ j, V.m ≤ j → V.R j = Pg.zero
theorem StS.low {V V' : St} (h : V.Ok) (hl : V.Low) (hs : StS V V') : V'.Low := by
  intro j hj
  rw [hs.dims.1] at hj
  cases hs with
  | same => exact hl j hj
  | open_ p c s n r o hp hc ho =>
    have hr := St.place_room hp (Nat.le_refl 1) (by omega)
    have hin := hr.in_
    show Pg.lay V.R p (srow c o) j = Pg.zero
    rw [lay_out (by simp [srow]) (by simp [srow]; omega)]
    exact hl j hj
  | take g d k x hl' hf hk h0 hx h2 => exact hl j hj
  | drop g d k hl' hk h1 => exact hl j hj
  | give g d k hl' hk h1 => exact hl j hj
  | shut g d hl' h1 h2 =>
    show Pg.clr V.R g 1 j = Pg.zero
    rw [clr_out (by have := (h.sl g d hl').1; omega)]
    exact hl j hj
  | great p n h1 h2 hp =>
    have hb := Lg.pgs_bd h2
    have hr := St.place_room hp (Lg.pgs_pos n) (by omega)
    have hin := hr.in_
    show Pg.lay V.R p (grow (pgs n)) j = Pg.zero
    rw [lay_out (by have := Lg.pgs_pos n; simp [grow]; omega) (by simp [grow]; omega)]
    exact hl j hj
  | gdrop g hz =>
    show Pg.clr V.R g (pgs (V.Z g)) j = Pg.zero
    rw [clr_out (by have := (h.gr g hz).2.2.1; omega)]
    exact hl j hj
end Go.Proofs.YtgnfcklippjeeaaGreat

/- Both regions side by side. -/
namespace Go.Proofs.YtgnfcklippjeeaaGreat
open Go.RowKit
open Sl (Cls bs upd LnkIs)
open Lg (pgs)

/-- The code's region (V), the document's (U), the pair of them at block pp; w0 is the law's first world. -/
structure PrAt (w0 w : World) (A : Rp) (D : Dp) (T : Nat → Nat) (V U : St) (cnt pp : Nat) : Prop where
  y : RnY w0 w A V cnt
  d : DrAt w T D U
  any : ∀ i, A.any V.L i → T i = 1
  old : ∀ i, i < w0.heap.size → T i < 3
  c0 : w.cell? ⟨pp, 0, none⟩ = some (.pointer (some ⟨A.p, 0, none⟩))
  c1 : w.cell? ⟨pp, 1, none⟩ = some (.pointer (some ⟨D.p, 0, none⟩))
  tp : T pp = 0
theorem PrAt.plt {w0 w : World} {A : Rp} {D : Dp} {T : Nat → Nat} {V U : St} {cnt pp : Nat} (h : PrAt w0 w A D T V U cnt pp) : pp < w.heap.size := World.block_lt_of_cell? w ⟨pp, 0, none⟩ h.c0
theorem PrAt.grown {w0 w w' : World} {A : Rp} {D : Dp} {T : Nat → Nat} {V U : St} {cnt pp : Nat} (h : PrAt w0 w A D T V U cnt pp) (hg : w.grownBy w' none) : PrAt w0 w' A D T V U cnt pp :=
  ⟨h.y.grown hg, h.d.grown hg, h.any, h.old, hg.cell h.c0 (by simp), hg.cell h.c1 (by simp), h.tp⟩
/-- New blocks are the code's. -/
def relab1 (T : Nat → Nat) (s : Nat) : Nat → Nat := fun i => if i < s then T i else 1
theorem PrAt.code {w0 w w' : World} {A A' : Rp} {D : Dp} {T : Nat → Nat} {V V' U : St} {cnt cnt' pp : Nat} (h : PrAt w0 w A D T V U cnt pp) (hy : RnY w0 w' A' V' cnt') (hf : Fr (A.may V.L) w w') (ha : ∀ i, A'.any V'.L i → A.any V.L i ∨ w.heap.size ≤ i) (hp : A'.p = A.p) :
    PrAt w0 w' A' D (relab1 T w.heap.size) V' U cnt' pp := by
  have hm : ∀ i, T i ≠ 1 → ¬ A.may V.L i := fun i hi hmay => hi (h.any i (Rp.any_may hmay))
  have ro : ∀ i, i < w.heap.size → relab1 T w.heap.size i = T i := fun i hi => if_pos hi
  have hpp : ¬ A.may V.L pp := hm pp (by rw [h.tp]; omega)
  refine ⟨hy, (h.d.relab ro).fr hf (fun i hi hmay => ?_), fun i hi => ?_, fun i hi => ?_, by rw [hp]; exact hf.cell h.c0 hpp, hf.cell h.c1 hpp, by rw [ro _ h.plt]; exact h.tp⟩
  · have hlt := h.y.at_.toRnW.may_lt hmay
    rw [ro i hlt] at hi
    have := h.any i (Rp.any_may hmay)
    omega
  · rcases ha i hi with h1 | h1
    · rw [ro i (h.y.at_.toRnW.any_lt h1)]; exact h.any i h1
    · exact if_neg (by omega)
  · have := h.y.all.size
    rw [ro i (by omega)]; exact h.old i hi
theorem PrAt.doc {w0 w w' : World} {A : Rp} {D D' : Dp} {T T' : Nat → Nat} {V U U' : St} {cnt pp : Nat} (h : PrAt w0 w A D T V U cnt pp) (hd : DrAt w' T' D' U') (hT : ∀ i, i < w.heap.size → T' i = T i) (hf : Fr (fun i => 3 ≤ T i) w w') (hp : D'.p = D.p) :
    PrAt w0 w' A D' T' V U' cnt pp := by
  have hany : ∀ i, A.any V.L i → ¬ 3 ≤ T i := fun i hi => by rw [h.any i hi]; omega
  have hpp : ¬ 3 ≤ T pp := by rw [h.tp]; omega
  have hs := h.y.all.size
  refine ⟨⟨h.y.at_.other hf hany, h.y.may, ?_⟩, hd, fun i hi => ?_, fun i hi => ?_, hf.cell h.c0 hpp, by rw [hp]; exact hf.cell h.c1 hpp, by rw [hT _ h.plt]; exact h.tp⟩
  · exact Fr.grown h.y.all hf (fun i hi => by have := h.old i hi; omega)
  · rw [hT i (h.y.at_.toRnW.any_lt hi)]; exact h.any i hi
  · rw [hT i (by omega)]; exact h.old i hi
end Go.Proofs.YtgnfcklippjeeaaGreat

/- Take of both regions. -/
namespace Go.Proofs.YtgnfcklippjeeaaGreat
open Go.RowKit
open Sl (Cls bs upd LnkIs)
open Lg (pgs)

/-- What a call leaves of the pair: labels of old blocks stay, what nobody's is is not written. -/
def To (w0 w w' : World) (A A' : Rp) (D D' : Dp) (T : Nat → Nat) (V' U' : St) (cnt' pp : Nat) : Prop :=
  ∃ T', A'.p = A.p ∧ D'.p = D.p ∧ PrAt w0 w' A' D' T' V' U' cnt' pp ∧ (∀ i, i < w.heap.size → T' i = T i) ∧ Fr (fun i => T i = 1 ∨ 3 ≤ T i) w w'
/-- Shapes of answers. -/
def TwoI (v : Value) : Prop := ∃ x y : Int, v = .tuple #[.int .i64 x, .int .i64 y]
def BoI (v : Value) : Prop := ∃ (b : Bool) (y : Int), v = .tuple #[.bool b, .int .i64 y]
def OneI (v : Value) : Prop := ∃ y : Int, v = .int .i64 y
def FndI (v : Value) : Prop := ∃ x, v = fndV x
/-- One call of both regions answers the same, and leaves the same. -/
def Both (w0 w : World) (A : Rp) (D : Dp) (T : Nat → Nat) (V : St) (cnt pp : Nat) (Q : Value → Prop) (fc fd : FuncId) (args : List Value) : Prop :=
  ∃ v V', Q v ∧ StS V V' ∧ (Calls Tryz.prog fc ((Value.pointer (some ⟨A.p, 0, none⟩) :: args).toArray) w fun e w' => e = .returned v ∧ ∃ A', To w0 w w' A A' D D T V' V (cnt + 1) pp) ∧
    ∀ w1 A1 T1, PrAt w0 w1 A1 D T1 V' V (cnt + 1) pp → Calls Tryz.prog fd ((Value.pointer (some ⟨D.p, 0, none⟩) :: args).toArray) w1 fun e w' => e = .returned v ∧ ∃ D', To w0 w1 w' A1 A1 D D' T1 V' V' (cnt + 1) pp
theorem PrAt.mono {w0 w : World} {A : Rp} {D : Dp} {T : Nat → Nat} {V U : St} {cnt cnt' pp : Nat} (h : PrAt w0 w A D T V U cnt pp) (hc : cnt ≤ cnt') : PrAt w0 w A D T V U cnt' pp :=
  ⟨⟨h.y.at_.mono hc, h.y.may, h.y.all⟩, h.d, h.any, h.old, h.c0, h.c1, h.tp⟩
/-- The document's side behind a call that has new labels. -/
theorem PrAt.doc2 {w0 w w' : World} {A : Rp} {D : Dp} {T : Nat → Nat} {V U U' : St} {cnt pp : Nat} (h : PrAt w0 w A D T V U cnt pp) (hd : DrW w' (relab T w.heap.size) D U') (ok : U'.Ok) (hf : Fr (fun i => 3 ≤ relab T w.heap.size i) w w') :
    PrAt w0 w' A D (relab T w.heap.size) V U' cnt pp := by
  refine h.doc ⟨hd, ok⟩ (fun i hi => relab_old T hi) ⟨hf.os, hf.tape, hf.output, hf.size, fun _ hi hn => hf.block _ hi (fun hx => hn ?_)⟩ rfl
  rw [relab_old T hi] at hx
  exact hx
theorem PrAt.d2 {w0 w : World} {A : Rp} {D : Dp} {T : Nat → Nat} {V U : St} {cnt pp : Nat} (h : PrAt w0 w A D T V U cnt pp) : DrAt w (relab T w.heap.size) D U := h.d.relab (fun _ hi => relab_old T hi)
theorem PrAt.toGd {w0 w w' : World} {A : Rp} {D : Dp} {T : Nat → Nat} {V U : St} {cnt pp : Nat} (h : PrAt w0 w A D T V U cnt pp) (hg : w.grownBy w' none) : To w0 w w' A A D D T V U cnt pp :=
  ⟨T, rfl, rfl, h.grown hg, fun _ _ => rfl, fr_none hg⟩
theorem PrAt.toG {w0 w w' : World} {A : Rp} {D : Dp} {T : Nat → Nat} {V U : St} {cnt pp : Nat} (h : PrAt w0 w A D T V U cnt pp) (hg : w.grownBy w' none) : To w0 w w' A A D D T V U (cnt + 1) pp :=
  (h.mono (Nat.le_succ _)).toGd hg
theorem PrAt.toC {w0 w w' : World} {A A' : Rp} {D : Dp} {T : Nat → Nat} {V V' U : St} {cnt cnt' pp : Nat} (h : PrAt w0 w A D T V U cnt pp) (hy : RnY w0 w' A' V' cnt') (hf : Fr (A.may V.L) w w') (ha : ∀ i, A'.any V'.L i → A.any V.L i ∨ w.heap.size ≤ i) (hp : A'.p = A.p) (hc : cnt' ≤ cnt + 1 := by omega) : To w0 w w' A A' D D T V' U (cnt + 1) pp :=
  ⟨_, hp, rfl, (h.code hy hf ha hp).mono hc, fun _ hi => if_pos hi, hf.wide (fun i hi => .inl (h.any i (Rp.any_may hi)))⟩
theorem PrAt.toD {w0 w w' : World} {A : Rp} {D : Dp} {T : Nat → Nat} {V U U' : St} {cnt pp : Nat} (h : PrAt w0 w A D T V U cnt pp) (hd : DrW w' (relab T w.heap.size) D U') (ok : U'.Ok) (hf : Fr (fun i => 3 ≤ relab T w.heap.size i) w w') : To w0 w w' A A D D T V U' cnt pp :=
  ⟨_, rfl, rfl, h.doc2 hd ok hf, fun i hi => relab_old T hi, ⟨hf.os, hf.tape, hf.output, hf.size, fun _ hi hn => hf.block _ hi (fun hx => hn (.inr (by rwa [relab_old T hi] at hx)))⟩⟩
theorem both_take {w0 w : World} {A : Rp} {D : Dp} {T : Nat → Nat} {V : St} {cnt pp : Nat} (h : PrAt w0 w A D T V V cnt pp) (page : Int) (hw : WF page) :
    Both w0 w A D T V cnt pp TwoI 29 51 [.int .i64 page] := by
  by_cases hno : ∀ g : Nat, page = g → V.L g = none
  · exact ⟨_, V, ⟨_, _, rfl⟩, .same, (rtake_none h.y.at_ page hw hno).mono fun _ _ ⟨he, hg⟩ => ⟨he, A, h.toG hg⟩,
      fun w1 A1 T1 h1 => (dtake_none h1.d.toDrW page hno).mono fun _ _ ⟨he, hg⟩ => ⟨he, D, h1.toGd (hg ▸ grown_refl _ _)⟩⟩
  · obtain ⟨g, hg⟩ := Classical.not_forall.1 hno
    obtain ⟨rfl, hl0⟩ := Classical.not_imp.1 hg
    obtain ⟨d, hl⟩ := Option.ne_none_iff_exists'.1 hl0
    have hd := (h.y.at_.ok.sl g d hl).2.2
    have err : ∀ er : Int, er ≠ 0 → (∀ W, w.grownBy W none → Calls Tryz.prog 87 #[.pointer (some ⟨(A.xs g).p, 0, none⟩)] W fun e w' => e = .returned (.tuple #[.int .i64 0, .int .i64 er]) ∧ W.grownBy w' none) →
        (∀ w1 T1 q cap A ac, DsAt w1 (D.xs g) V.key g (V.n * 256) q cap A ac d.c d.n d.S d.f V.B → Calls Tryz.prog 109 #[.pointer (some ⟨D.xs g, 0, none⟩)] w1 fun e w2 => e = .returned (.tuple #[.int .i64 0, .int .i64 er]) ∧ w1.grownBy w2 none) → Both w0 w A D T V cnt pp TwoI 29 51 [.int .i64 (g : Nat)] := fun er hz hc hdoc => by
      refine ⟨_, V, ⟨_, _, rfl⟩, .same, (rtake_err er hz h.y.at_ hl hc).mono fun _ _ ⟨he, hg⟩ => ⟨he, A, h.toG hg⟩, fun w1 A1 T1 h1 => ?_⟩
      refine (dtake_err h1.d2 hl er hz (Lib.hid (fun w2 hs => ?_))).mono fun _ _ ⟨he, hW, hF⟩ => ⟨he, D, h1.toD hW h1.d.ok hF⟩
      obtain ⟨q, cap, A', ac, _, k2, _⟩ := id hs
      exact (hdoc w2 T1 q cap A' ac k2).mono fun _ _ ⟨he, hg⟩ => ⟨he, drs_same hs hg⟩
    rcases hd.f with hf | ⟨k, hk, hf, h0⟩
    · refine err 5 (by decide) (fun W gr => (h.y.at_.grown gr).take_slab_none hl hf) (fun w1 T1 q cap A' ac k2 => ?_)
      rw [hf] at k2
      exact (dtake_full k2.toDbAt).mono fun _ _ ⟨he, hg⟩ => ⟨he, hg ▸ grown_refl _ _⟩
    · obtain ⟨x, hx⟩ := Sl.lnk_ex V.key g d.s d.n d.S V.B k
      by_cases h2 : x = -2
      · subst h2
        refine err 4 (by decide) (fun W gr => (h.y.at_.grown gr).take_slab_no hl hf hk hx) (fun w1 T1 q cap A' ac k2 => ?_)
        rw [hf] at k2
        exact dtake_form k2 hd.c hk hx
      · refine ⟨_, V.take g d k x, ⟨_, _, rfl⟩, .take g d k x hl hf hk h0 hx h2, (rtake_ok h.y.at_ hl hf hk h0 hx h2).mono fun _ _ ⟨he, hr, hfr⟩ => ⟨he, A, h.toC (h.y.step hr hfr (fun _ hi => .inl (may_set hl hi))) hfr (fun _ hi => .inl (any_set hl hi)) rfl⟩, fun w1 A1 T1 h1 => ?_⟩
        refine (dtake_yes (d' := { d with S := upd d.S k 1, f := x }) (B2 := Sl.takeB V.key g d.s d.r k V.B) h1.d2 hl hk rfl rfl (Lib.hid (fun w2 hs => ?_))).mono fun _ _ ⟨he, hW, hF⟩ => ⟨he, D, h1.toD hW (h1.d.ok.take hl (hx.fok h2)) hF⟩
        obtain ⟨q, cap, A', ac, _, k2, _, _, _, k6⟩ := id hs
        rw [hf] at k2
        exact (dtake_ok k2 hd.c hk hx h2).mono fun _ _ ⟨he, ht⟩ => ⟨he, drs_to k6.size ht⟩
end Go.Proofs.YtgnfcklippjeeaaGreat

/- Drop of both regions. -/
namespace Go.Proofs.YtgnfcklippjeeaaGreat
open Go.RowKit
open Sl (Cls bs upd LnkIs)
open Lg (pgs)

theorem both_drop {w0 w : World} {A : Rp} {D : Dp} {T : Nat → Nat} {V : St} {cnt pp : Nat} (h : PrAt w0 w A D T V V cnt pp) (a : Int) :
    Both w0 w A D T V cnt pp BoI 17 52 [.int .i64 a] := by
  obtain ⟨x, hx⟩ := V.at_ex a
  by_cases hn : ∀ p, x = some p → (p.b : Int) ≠ a
  · exact ⟨_, V, ⟨_, _, rfl⟩, .same, (rdrop_no h.y.at_ hx hn).mono fun _ _ ⟨he, hg⟩ => ⟨he, A, h.toG hg⟩,
      fun w1 A1 T1 h1 => (drdrop_no h1.d hx hn).mono fun _ _ ⟨he, hg⟩ => ⟨he, D, h1.toGd hg⟩⟩
  · obtain ⟨p, hp⟩ := Classical.not_forall.1 hn
    obtain ⟨rfl, hb0⟩ := Classical.not_imp.1 hp
    have hb := Classical.not_not.1 hb0
    subst hb
    cases hx with
    | slot g d x e hg hgn hl =>
      have hd := (h.y.at_.ok.sl g d hl).2.2
      have hk := (slot_lt hd.c x).1
      generalize x % 256 / d.s = k at *
      show Both w0 w A D T V cnt pp BoI _ _ [.int .i64 (bs g d.s k : Nat)]
      by_cases h1 : d.S k = 1
      · refine ⟨_, V.drop g d k, ⟨_, _, rfl⟩, .drop g d k hl hk h1, (rdrop_core (R := fun W => RnAt W A (V.drop g d k) cnt) h.y.at_ hl hk (fun _ g1 => (h.y.at_.grown g1).drop_slab hl hk h1)).mono fun _ _ ⟨he, hr, hfr⟩ => ⟨he, A, h.toC (h.y.step hr hfr (fun _ hi => .inl (may_set hl hi))) hfr (fun _ hi => .inl (any_set hl hi)) rfl⟩, fun w1 A1 T1 h1' => ?_⟩
        refine (drdrop_core (d' := { d with S := upd d.S k 2 }) (B2 := Sl.dropB g d.s k V.B) h1'.d2 (fun i hi => relab_new T1 hi) hl hk rfl (Lib.hid (fun W w2 gr hs => ?_))).mono fun _ _ ⟨he, hW, hF⟩ => ⟨he, D, h1'.toD hW (h1'.d.ok.drop hl h1) hF⟩
        obtain ⟨q, cap, A', ac, _, k2, _, _, _, k6⟩ := id hs
        exact (ddrop_ok k2 hd.c hk h1).mono fun _ _ ⟨he, ht⟩ => ⟨he, drs_to (Nat.le_trans gr.size k6.size) ht⟩
      · refine ⟨_, V, ⟨_, _, rfl⟩, .same, (rdrop_core (R := fun W => RnAt W A V cnt) h.y.at_ hl hk (fun W g1 => ((h.y.at_.grown g1).drop_slab_no hl hk h1).mono fun _ _ ⟨he, hg⟩ => ⟨he, hg ▸ h.y.at_.grown g1, fr_none (hg ▸ grown_refl _ _)⟩)).mono fun _ _ ⟨he, hr, hfr⟩ => ⟨he, A, h.toC (h.y.step hr hfr (fun _ hi => .inl hi)) hfr (fun _ hi => .inl hi) rfl⟩, fun w1 A1 T1 h1' => ?_⟩
        have key := drdrop_core (d' := d) (B2 := V.B) (bo := false) (er := 8) h1'.d2 (fun i hi => relab_new T1 hi) hl hk rfl (Lib.hid (fun W w2 gr hs => by
          obtain ⟨q, cap, A', ac, _, k2, _, _, _, k6⟩ := id hs
          exact (ddrop_no k2 hk h1).mono fun _ _ ⟨he, hw⟩ => ⟨he, drs_same hs (hw ▸ grown_refl _ _)⟩))
        rw [St.put_same hl] at key
        exact key.mono fun _ _ ⟨he, hW, hF⟩ => ⟨he, D, h1'.toD hW h1'.d.ok hF⟩
    | great g b x e hg hgn hl hz =>
      show Both w0 w A D T V cnt pp BoI _ _ [.int .i64 (b * 256 : Nat)]
      have hzb := hz.1
      refine ⟨_, V.gdrop b, ⟨_, _, rfl⟩, .gdrop b hzb, (rdrop_great h.y.at_ hzb).mono fun _ _ ⟨he, hr, hfr⟩ => ⟨he, A, h.toC (h.y.step hr hfr (fun _ hi => .inl hi)) hfr (fun _ hi => .inl hi) rfl⟩, fun w1 A1 T1 h1' => ?_⟩
      exact (drdrop_great h1'.d2 (fun i hi => relab_new T1 hi) hzb).mono fun _ _ ⟨he, hW, hF⟩ => ⟨he, D, h1'.toD hW (h1'.d.ok.gdrop hzb) hF⟩
end Go.Proofs.YtgnfcklippjeeaaGreat

/- Give, Shut of both regions. -/
namespace Go.Proofs.YtgnfcklippjeeaaGreat
open Go.RowKit
open Sl (Cls bs upd LnkIs)
open Lg (pgs)

theorem fok_is {n : Nat} {S : Nat → Nat} {f : Int} (h : Sl.FOk n S f) : f = -1 ∨ ∃ j : Nat, f = j ∧ j < n := h.imp id (fun ⟨k, hk, e, _⟩ => ⟨k, e, hk⟩)
theorem both_give {w0 w : World} {A : Rp} {D : Dp} {T : Nat → Nat} {V : St} {cnt pp : Nat} (h : PrAt w0 w A D T V V cnt pp) (a : Int) :
    Both w0 w A D T V cnt pp OneI 18 53 [.int .i64 a] := by
  obtain ⟨x, hx⟩ := V.at_ex a
  by_cases hn : ∀ p, x = some p → (p.b : Int) ≠ a ∨ p.gr = true
  · exact ⟨_, V, ⟨_, rfl⟩, .same, (rgive_no h.y.at_ hx hn).mono fun _ _ ⟨he, hg⟩ => ⟨he, A, h.toG hg⟩,
      fun w1 A1 T1 h1 => (drgive_no h1.d hx hn).mono fun _ _ ⟨he, hg⟩ => ⟨he, D, h1.toGd hg⟩⟩
  · obtain ⟨p, hp⟩ := Classical.not_forall.1 hn
    obtain ⟨rfl, hb0⟩ := Classical.not_imp.1 hp
    have hb : (p.b : Int) = a := Classical.not_not.1 (fun e => hb0 (.inl e))
    have hgr : ¬ p.gr = true := fun e => hb0 (.inr e)
    subst hb
    cases hx with
    | slot g d x e hg hgn hl =>
      have hd := (h.y.at_.ok.sl g d hl).2.2
      have hk := (slot_lt hd.c x).1
      generalize x % 256 / d.s = k at *
      show Both w0 w A D T V cnt pp OneI _ _ [.int .i64 (bs g d.s k : Nat)]
      by_cases h1 : d.S k = 2
      · refine ⟨_, V.give g d k, ⟨_, rfl⟩, .give g d k hl hk h1, (rgive_core (R := fun W => RnAt W A (V.give g d k) cnt) h.y.at_ hl hk (fun _ g1 => (h.y.at_.grown g1).give_slab hl hk h1)).mono fun _ _ ⟨he, hr, hfr⟩ => ⟨he, A, h.toC (h.y.step hr hfr (fun _ hi => .inl (may_set hl hi))) hfr (fun _ hi => .inl (any_set hl hi)) rfl⟩, fun w1 A1 T1 h1' => ?_⟩
        refine (drgive_core (d' := { d with S := upd d.S k 0, f := k }) (B2 := Ar.setW V.B (bs g d.s k) (Li.lk V.key (bs g d.s k : Nat) (lto g d.s d.f))) h1'.d2 (fun i hi => relab_new T1 hi) hl hk rfl (Lib.hid (fun W w2 gr hs => ?_))).mono fun _ _ ⟨he, hW, hF⟩ => ⟨he, D, h1'.toD hW (h1'.d.ok.give hl hk) hF⟩
        obtain ⟨q, cap, A', ac, _, k2, _, _, _, k6⟩ := id hs
        exact (dgive_ok k2 hd.c hk h1 (fok_is hd.f)).mono fun _ _ ⟨he, ht⟩ => ⟨he, drs_to (Nat.le_trans gr.size k6.size) ht⟩
      · refine ⟨_, V, ⟨_, rfl⟩, .same, (rgive_core (R := fun W => RnAt W A V cnt) h.y.at_ hl hk (fun W g1 => ((h.y.at_.grown g1).give_slab_no hl hk h1).mono fun _ _ ⟨he, hg⟩ => ⟨he, hg ▸ h.y.at_.grown g1, fr_none (hg ▸ grown_refl _ _)⟩)).mono fun _ _ ⟨he, hr, hfr⟩ => ⟨he, A, h.toC (h.y.step hr hfr (fun _ hi => .inl hi)) hfr (fun _ hi => .inl hi) rfl⟩, fun w1 A1 T1 h1' => ?_⟩
        have key := drgive_core (d' := d) (B2 := V.B) (er := 8) h1'.d2 (fun i hi => relab_new T1 hi) hl hk rfl (Lib.hid (fun W w2 gr hs => by
          obtain ⟨q, cap, A', ac, _, k2, _, _, _, k6⟩ := id hs
          exact (dgive_no k2 hk h1).mono fun _ _ ⟨he, hw⟩ => ⟨he, drs_same hs (hw ▸ grown_refl _ _)⟩))
        rw [St.put_same hl] at key
        exact key.mono fun _ _ ⟨he, hW, hF⟩ => ⟨he, D, h1'.toD hW h1'.d.ok hF⟩
    | great g b x e hg hgn hl hz => exact absurd rfl hgr
end Go.Proofs.YtgnfcklippjeeaaGreat

/- Shut, Great, Open of both regions; what only reads. -/
namespace Go.Proofs.YtgnfcklippjeeaaGreat
open Go.RowKit
open Sl (Cls bs upd LnkIs)
open Lg (pgs)

theorem both_shut {w0 w : World} {A : Rp} {D : Dp} {T : Nat → Nat} {V : St} {cnt pp : Nat} (h : PrAt w0 w A D T V V cnt pp) (page : Int) (hw : WF page) :
    Both w0 w A D T V cnt pp OneI 19 54 [.int .i64 page] := by
  by_cases hno : ∀ g : Nat, page = g → V.L g = none
  · exact ⟨_, V, ⟨_, rfl⟩, .same, (rshut_none h.y.at_ page hw hno).mono fun _ _ ⟨he, hg⟩ => ⟨he, A, h.toG hg⟩,
      fun w1 A1 T1 h1 => (dshut_none h1.d.toDrW page hno).mono fun _ _ ⟨he, hg⟩ => ⟨he, D, h1.toGd (hg ▸ grown_refl _ _)⟩⟩
  · obtain ⟨g, hg⟩ := Classical.not_forall.1 hno
    obtain ⟨rfl, hl0⟩ := Classical.not_imp.1 hg
    obtain ⟨d, hl⟩ := Option.ne_none_iff_exists'.1 hl0
    by_cases hb : 0 < cntS d.S 1 d.n ∨ 0 < cntS d.S 2 d.n
    · exact ⟨_, V, ⟨_, rfl⟩, .same, (rshut_busy h.y.at_ hl hb).mono fun _ _ ⟨he, hg⟩ => ⟨he, A, h.toG hg⟩,
        fun w1 A1 T1 h1 => (dshut_busy h1.d2 hl hb).mono fun _ _ ⟨he, hW, hF⟩ => ⟨he, D, h1.toD hW h1.d.ok hF⟩⟩
    · have h1 : cntS d.S 1 d.n = 0 := by omega
      have h2 : cntS d.S 2 d.n = 0 := by omega
      exact ⟨_, V.shut g, ⟨_, rfl⟩, .shut g d hl h1 h2, (rshut_ok h.y.at_ hl h1 h2).mono fun _ _ ⟨he, hr, hfr⟩ => ⟨he, A, h.toC (h.y.step hr hfr (fun _ hi => .inl (may_unset hi))) hfr (fun _ hi => .inl (any_unset hi)) rfl⟩,
        fun w1 A1 T1 h1' => (dshut_ok h1'.d2 (fun i hi => relab_new T1 hi) hl h1 h2).mono fun _ _ ⟨he, hW, hF⟩ => ⟨he, D, h1'.toD hW (h1'.d.ok.shut hl) hF⟩⟩
theorem both_great {w0 w : World} {A : Rp} {D : Dp} {T : Nat → Nat} {V : St} {cnt pp : Nat} (h : PrAt w0 w A D T V V cnt pp) (hcnt : cnt ≤ 100000) (n : Int) :
    Both w0 w A D T V cnt pp TwoI 30 55 [.int .i64 n] := by
  by_cases hn : n ≤ 120 ∨ 4096 < n
  · exact ⟨_, V, ⟨_, _, rfl⟩, .same, (rgreat_arg n hn).mono fun _ _ ⟨he, hg⟩ => ⟨he, A, h.toG (hg ▸ grown_refl _ _)⟩,
      fun w1 A1 T1 h1 => (dgreat_arg D.p w1 n hn).mono fun _ _ ⟨he, hg⟩ => ⟨he, D, h1.toGd (hg ▸ grown_refl _ _)⟩⟩
  · obtain ⟨m, rfl⟩ : ∃ m : Nat, n = m := ⟨n.toNat, by omega⟩
    have h1 : 120 < m := by omega
    have h2 : m ≤ 4096 := by omega
    obtain ⟨x, hx⟩ := V.place_ex (pgs m)
    rcases St.place_nat hx with rfl | ⟨p, rfl⟩
    · exact ⟨_, V, ⟨_, _, rfl⟩, .same, (rgreat_full h.y.at_ h1 h2 hx).mono fun _ _ ⟨he, hg⟩ => ⟨he, A, h.toG hg⟩,
        fun w1 A1 T1 h1' => (dgreat_full h1'.d h1 h2 hx).mono fun _ _ ⟨he, hg⟩ => ⟨he, D, h1'.toGd hg⟩⟩
    · exact ⟨_, V.great p m, ⟨_, _, rfl⟩, .great p m h1 h2 hx, (rgreat_ok h.y.at_ h1 h2 hx hcnt).mono fun _ _ ⟨he, hr, hfr⟩ => ⟨he, A, h.toC (h.y.step hr hfr (fun _ hi => .inl hi)) hfr (fun _ hi => .inl hi) rfl⟩,
        fun w1 A1 T1 h1' => (dgreat_ok h1'.d2 (fun i hi => relab_new T1 hi) h1 h2 hx).mono fun _ _ ⟨he, hW, hF⟩ => ⟨he, D, h1'.toD hW (h1'.d.ok.great h1 h2 (St.place_room hx (Lg.pgs_pos m) (by have := Lg.pgs_bd h2; omega))) hF⟩⟩
end Go.Proofs.YtgnfcklippjeeaaGreat

/- Open of both regions; what only reads. -/
namespace Go.Proofs.YtgnfcklippjeeaaGreat
open Go.RowKit
open Sl (Cls bs upd LnkIs)
open Lg (pgs)

theorem PrAt.toO {w0 w w' : World} {A : Rp} {D : Dp} {T : Nat → Nat} {V U U' : St} {cnt pp : Nat} (h : PrAt w0 w A D T V U cnt pp) (ho : DOpen w w' (relab T w.heap.size) D U') (ok : U'.Ok) : ∃ D', To w0 w w' A A D D' T V U' cnt pp := by
  obtain ⟨T', D', hp, hT, hW, hF⟩ := ho
  have hT' : ∀ i, i < w.heap.size → T' i = T i := fun i hi => (hT i hi).trans (relab_old T hi)
  have hF' : Fr (fun i => 3 ≤ T i) w w' := ⟨hF.os, hF.tape, hF.output, hF.size, fun i hi hn => hF.block i hi (fun hx => hn (by rwa [relab_old T hi] at hx))⟩
  exact ⟨D', T', rfl, hp, h.doc ⟨hW, ok⟩ hT' hF' hp, hT', hF'.wide (fun _ hi => .inr hi)⟩
theorem cls_nat {c : Int} (h : ¬ No c) : ∃ c' s n r : Nat, c = c' ∧ Cls c' s n r := by
  rcases cls c with ⟨s, n, r, hc⟩ | hc
  · unfold Cl at hc
    obtain ⟨s', n', r', h⟩ := Sl.cls_of c.toNat (by omega)
    exact ⟨c.toNat, s', n', r', by omega, h⟩
  · exact absurd hc h
theorem both_open {w0 w : World} {A : Rp} {D : Dp} {T : Nat → Nat} {V : St} {cnt pp : Nat} (h : PrAt w0 w A D T V V cnt pp) (hcnt : cnt ≤ 100000) (c o : Int) :
    Both w0 w A D T V cnt pp TwoI 28 50 [.int .i64 c, .int .i64 o] := by
  by_cases hb : No c ∨ o < 0 ∨ 64 ≤ o
  · exact ⟨_, V, ⟨_, _, rfl⟩, .same, (ropen_arg A.p w c o hb).mono fun _ _ ⟨he, hg⟩ => ⟨he, A, h.toG (hg ▸ grown_refl _ _)⟩,
      fun w1 A1 T1 h1 => (dopen_arg D.p w1 c o hb).mono fun _ _ ⟨he, hg⟩ => ⟨he, D, h1.toGd (hg ▸ grown_refl _ _)⟩⟩
  · obtain ⟨c, s, n, r, rfl, hc⟩ := cls_nat (fun x => hb (.inl x))
    obtain ⟨o, rfl⟩ : ∃ o' : Nat, o = o' := ⟨o.toNat, by omega⟩
    have ho : o < 64 := by omega
    obtain ⟨x, hx⟩ := V.place_ex 1
    rcases St.place_nat hx with rfl | ⟨p, rfl⟩
    · exact ⟨_, V, ⟨_, _, rfl⟩, .same, (ropen_full h.y.at_ hc ho hx).mono fun _ _ ⟨he, hg⟩ => ⟨he, A, h.toG hg⟩,
        fun w1 A1 T1 h1' => (dopen_full h1'.d hc ho hx).mono fun _ _ ⟨he, hg⟩ => ⟨he, D, h1'.toGd hg⟩⟩
    · refine ⟨_, V.open_ p c s n r o, ⟨_, _, rfl⟩, .open_ p c s n r o hx hc ho, (ropen_ok h.y.at_ hc ho hx hcnt).mono fun _ _ ⟨he, hr⟩ => ⟨he, ?_⟩,
        fun w1 A1 T1 h1' => (dopen_ok h1'.d2 (fun i hi => relab_new T1 hi) hc ho hx).mono fun _ _ ⟨he, hO⟩ => ⟨he, h1'.toO hO (h1'.d.ok.open_ (St.place_room hx (Nat.le_refl 1) (by omega)) hc ho)⟩⟩
      obtain ⟨X, r1, r2, r3⟩ := hr
      exact ⟨A.with p X, h.toC (h.y.step r1 r2 (fun i hi => with_may r3 hi)) r2 (fun i hi => with_any r3 hi) rfl⟩
theorem both_find {w0 w : World} {A : Rp} {D : Dp} {T : Nat → Nat} {V : St} {cnt pp : Nat} (h : PrAt w0 w A D T V V cnt pp) (a : Int) :
    Both w0 w A D T V cnt pp FndI 27 56 [.int .i64 a] := by
  obtain ⟨x, hx⟩ := V.at_ex a
  exact ⟨_, V, ⟨x, rfl⟩, .same, (find_at h.y.at_ hx).mono fun _ _ ⟨he, hg⟩ => ⟨he, A, h.toG hg⟩, fun w1 A1 T1 h1 => (dfind_at h1.d hx).mono fun _ _ ⟨he, hg⟩ => ⟨he, D, h1.toGd hg⟩⟩
theorem both_owner {w0 w : World} {A : Rp} {D : Dp} {T : Nat → Nat} {V : St} {cnt pp : Nat} (h : PrAt w0 w A D T V V cnt pp) (a : Int) :
    Both w0 w A D T V cnt pp OneI 32 59 [.int .i64 a] := by
  obtain ⟨x, hx⟩ := own_ex V a
  exact ⟨_, V, ⟨_, rfl⟩, .same, (rowner_at h.y.at_ hx).mono fun _ _ ⟨he, hg⟩ => ⟨he, A, h.toG hg⟩, fun w1 A1 T1 h1 => (downer_at h1.d.toDrW h1.d.ok.n256 hx).mono fun _ _ ⟨he, hg⟩ => ⟨he, D, h1.toGd (hg ▸ grown_refl _ _)⟩⟩
end Go.Proofs.YtgnfcklippjeeaaGreat

/- The law's at: it answers some number. -/
namespace Go.Proofs.YtgnfcklippjeeaaGreat
open Go.RowKit
open Sl (Cls bs upd LnkIs)
open Lg (pgs)

/-- A call of the law, as a value. -/
def opV (k c o p a n : Int) (b : Bool) (B : Value) : Value := .agg #[.int .i64 k, .int .i64 c, .int .i64 o, .int .i64 p, .int .i64 a, .int .i64 n, .bool b, B]
def IntsOwn (w : World) (base : Nat) (v : Value) (zs : List Int) : Prop := w.ownsRow base 3 1 v zs.length (zs.map fun x => Value.int .i64 x)
theorem ionto_end {w wr w1 : World} {zs : List Int} {x : Int} {s v' : Value} (o : Obj) (hg : w.grownBy wr none) (hown : IntsOwn wr w.heap.size s zs) (h2 : w1.ownsRow w.heap.size 3 1 v' (zs.length + 1) ((zs.map fun x => Value.int .i64 x) ++ [.int .i64 x])) (h3 : (wr.alloc o).grownBy w1 s.ownBlock) :
    IntsOwn w1 w.heap.size v' (zs ++ [x]) ∧ w.grownBy w1 none := by
  refine ⟨?_, An.grown_onto (grown_trans hg (World.grownBy_alloc wr o none)) h3 (fun q hq => (World.ownsRow.lt hown q hq).1)⟩
  unfold IntsOwn
  rw [List.length_append, List.length_singleton, List.map_append]
  exact h2
theorem ints_of_own {w : World} {base : Nat} {zs : List Int} {A : Option Addr} {n c : Nat} (h : IntsOwn w base (.slice A n c) zs) : zs.length = 0 ∨ ∃ g, A = some ⟨g, 0, none⟩ ∧ base ≤ g ∧ ∀ i (h : i < zs.length), w.cell? ⟨g, i, none⟩ = some (.int .i64 zs[i]) := by
  obtain ⟨-, ⟨h1, h2⟩ | ⟨g, cap, cur, e, hbg, hh, hnc, hcm, hcs, htake⟩⟩ := h
  · exact .inl h2
  · injection e with e1 _ _
    refine .inr ⟨g, e1, hbg, fun j hj => ?_⟩
    have e : w.cell? ⟨g, j, none⟩ = cur[j]? := by simp only [World.cell?, hh]; rfl
    have t := congrArg (fun l => l[j]?) htake
    simp only [List.getElem?_take, Nat.mul_one, hj, if_true, Array.getElem?_toList, List.getElem?_map, List.getElem?_eq_getElem hj] at t
    rw [e, t]
    rfl
theorem one_cell (w : World) (a : Value) (t : TypeId) (j : Nat) (u : Value) (h : ([a] : List Value)[j]? = some u) : (w.alloc (.cells #[a] t)).cell? ((⟨w.heap.size, 0, none⟩ : Addr).add j) = some u := by
  rw [An.aaddr_add, cell_alloc_new]
  simpa using h
theorem infoInt9 : (Tryz.prog.info? 3).map (fun i => (i.zero, i.size, i.bytes)) = some (some (.int .i64 0), 1, 8) := by kernel_rfl
theorem fcell (x0 x1 x2 x3 x4 : Int) (b : Bool) (w : World) (t : TypeId) : (w.alloc (.cells #[.int .i64 x0, .int .i64 x1, .int .i64 x2, .int .i64 x3, .int .i64 x4, .bool b] t)).cell? ⟨w.heap.size, 2, none⟩ = some (.int .i64 x2) := by rw [cell_alloc_new]; rfl
theorem and1023 (a : Int) : ∃ m : Nat, m ≤ 1023 ∧ bits .and .i64 a 1023 = (m : Int) := by
  refine ⟨(BitVec.ofInt 64 a &&& BitVec.ofInt 64 1023).toNat, ?_, ?_⟩
  · rw [BitVec.toNat_and]
    exact Nat.le_trans Nat.and_le_right (by decide)
  · show IntKind.i64.wrap ((BitVec.ofInt 64 a &&& BitVec.ofInt 64 1023).toNat : Int) = _
    have h : (BitVec.ofInt 64 a &&& BitVec.ofInt 64 1023).toNat ≤ 1023 := by
      rw [BitVec.toNat_and]
      exact Nat.le_trans Nat.and_le_right (by decide)
    rw [IntKind.wrap_i64]
    omega
set_option maxRecDepth 100000 in
set_option maxHeartbeats 4000000 in
theorem at_at {w : World} {D : Dp} {T : Nat → Nat} {V : St} {pp : Nat} (h : DrAt w T D V) (c1 : w.cell? ⟨pp, 1, none⟩ = some (.pointer (some ⟨D.p, 0, none⟩))) (k c o p a n : Int) (b : Bool) (B : Value) :
    Calls Tryz.prog 49 #[.pointer (some ⟨pp, 0, none⟩), opV k c o p a n b B] w fun e w' => (∃ x : Int, e = .returned (.int .i64 x)) ∧ w.grownBy w' none := by
  have hn := h.ok.n256
  obtain ⟨q, cap, b1, -, -, -⟩ := h.bt
  have H := Lib.hid h
  have e0 : (w.alloc (.cells #[.int .i64 k, .int .i64 c, .int .i64 o, .int .i64 p, .int .i64 a, .int .i64 n, .bool b, B] 28)).cell? ⟨w.heap.size, 4, none⟩ = some (.int .i64 a) := by rw [cell_alloc_new]; rfl
  have e1 : (w.alloc (.cells #[.int .i64 k, .int .i64 c, .int .i64 o, .int .i64 p, .int .i64 a, .int .i64 n, .bool b, B] 28)).cell? ⟨w.heap.size, 6, none⟩ = some (.bool b) := by rw [cell_alloc_new]; rfl
  have hgr := Lib.hid (grown_alloc w (.cells #[.int .i64 k, .int .i64 c, .int .i64 o, .int .i64 p, .int .i64 a, .int .i64 n, .bool b, B] 28) none)
  have hsz := Lib.hid (Nat.le_refl w.heap.size)
  clear h
  unfold opV
  go_enter Tryz.func49, Tryz.ntmps49
  cases b with
  | false =>
    clear hn b1 c1
    go_wp2
    go_ret
    exact ⟨⟨_, rfl⟩, hgr.out⟩
  | true =>
    go_upto_region 1 with (fail)
    generalize w.alloc (.cells #[.int .i64 k, .int .i64 c, .int .i64 o, .int .i64 p, .int .i64 a, .int .i64 n, .bool true, B] 28) = w1 at *
    generalize w.heap.size = ob at e0 e1 ⊢
    have C1 := Lib.hid (hgr.out.cell c1 (by simp))
    have B1 := Lib.hid (hgr.out.cell b1 (by simp))
    have E0 := Lib.hid e0
    obtain ⟨N, hN⟩ : ∃ N, V.n * 256 = N := ⟨_, rfl⟩
    rw [hN] at B1
    have hN2 : N ≤ 65536 := by omega
    have HF : Hid (∀ W (x : Int), w1.grownBy W none → ∃ x0 x1 x2 x3 x4 : Int, ∃ x5 y : Bool, Calls Tryz.prog 56 #[.pointer (some ⟨D.p, 0, none⟩), .int .i64 x] W fun e w' => e = .returned (.tuple #[.agg #[.int .i64 x0, .int .i64 x1, .int .i64 x2, .int .i64 x3, .int .i64 x4, .bool x5], .bool y]) ∧ W.grownBy w' none) := Lib.hid (fun W x hg => by
      obtain ⟨y, hy⟩ := V.at_ex x
      obtain ⟨x0, x1, x2, x3, x4, x5, z, hs, -, -⟩ := fndV_shape y
      have key := dfind_at ((H.out.grown hgr.out).grown hg) hy
      rw [hs] at key
      exact ⟨x0, x1, x2, x3, x4, x5, z, key⟩)
    clear c1 b1 e0 hn hN H
    obtain ⟨i0, hi, hz0, hz1, hz2⟩ := info_parts infoInt9
    go_wp2_with fail
    go_loopw [5, 6] (fun s i wr => ∃ k : Nat, k ≤ 4096 ∧ i = .int .i64 (16 * k : Nat) ∧ w1.grownBy wr none ∧ ∃ zs : List Int, zs.length ≤ k ∧ IntsOwn wr w1.heap.size s zs) (fun _ i _ => 70000 - (intOf i).toNat)
    case atStart => exact ⟨0, by omega, rfl, grown_refl _ _, [], by simp, World.ownsRow_nil _ _ _ _⟩
    case round =>
      obtain ⟨k, hk, rfl, hg, zs, hzl, hown⟩ := hrel
      obtain ⟨A1, cc, rfl, hc1⟩ := bown_shape hown
      have HG := Lib.hid hg
      have b1 := hg.cell B1.out (by simp)
      have c1 := hg.cell C1.out (by simp)
      have e0 := hg.cell E0.out (by simp)
      obtain ⟨x, hx⟩ : ∃ x : Nat, 16 * k = x := ⟨_, rfl⟩
      rw [hx]
      obtain ⟨ln, hln⟩ : ∃ ln, zs.length = ln := ⟨_, rfl⟩
      rw [hln] at hzl hc1 hown ⊢
      have HO := Lib.hid hown
      have HLN := Lib.hid hln
      have hli : (ln : Int) ≤ 4096 := by omega
      have hlc : (ln : Int) ≤ cc := by omega
      clear hown hg hln hc1
      by_cases hlt : x < N
      · have hki : (x : Int) < N := by omega
        have hxi : (x : Int) ≤ 65536 := by omega
        have hw16 : IntKind.i64.wrap ((x : Int) + 16) = ((16 * (k + 1) : Nat) : Int) := by rw [IntKind.wrap_i64]; omega
        obtain ⟨nx, hnx⟩ : ∃ nx : Nat, 16 * (k + 1) = nx := ⟨_, rfl⟩
        rw [hnx] at hw16
        have HX := Lib.hid (And.intro hx hnx)
        have HKN : Hid (x < N ∧ k ≤ 4096 ∧ N ≤ 65536 ∧ ln ≤ k) := Lib.hid ⟨hlt, hk, hN2, hzl⟩
        obtain ⟨x0, x1, x2, x3, x4, x5, y, hf⟩ := HF.out _ (x : Int) HG.out
        have HFF := Lib.hid hf
        clear hf hx hnx hlt hk hzl hN2
        go_wp2_with fail
        refine HFF.out.mono ?_
        rintro e w3 ⟨rfl, hg3⟩
        have HO1 : Hid (IntsOwn (w3.alloc (.cells #[.int .i64 x0, .int .i64 x1, .int .i64 x2, .int .i64 x3, .int .i64 x4, .bool x5] 101)) w1.heap.size (.slice A1 ln cc) zs) := Lib.hid (World.ownsRow.alloc (World.ownsRow.kept HO.out hg3 (Classical.em _)) _)
        have HG1 := Lib.hid (grown_trans (grown_trans HG.out hg3) (grown_alloc w3 (.cells #[.int .i64 x0, .int .i64 x1, .int .i64 x2, .int .i64 x3, .int .i64 x4, .bool x5] 101) none))
        have f2 := fcell x0 x1 x2 x3 x4 x5 w3 101
        clear hg3 HO HG HFF
        go_upto_region 8 with (fail)
        generalize w3.alloc (.cells #[.int .i64 x0, .int .i64 x1, .int .i64 x2, .int .i64 x3, .int .i64 x4, .bool x5] 101) = w4 at *
        generalize w3.heap.size = fb at *
        have skip : Hid (∃ k : Nat, k ≤ 4096 ∧ Value.int .i64 (nx : Nat) = .int .i64 (16 * k : Nat) ∧ w1.grownBy w4 none ∧ ∃ zs : List Int, zs.length ≤ k ∧ IntsOwn w4 w1.heap.size (.slice A1 ln cc) zs) :=
          Lib.hid ⟨k + 1, by have := HX.out; have := HKN.out; omega, by rw [HX.out.2], HG1.out, zs, by have := HKN.out; rw [HLN.out]; omega, HO1.out⟩
        have hme : Hid (70000 - nx < 70000 - x) := Lib.hid (by have := HX.out; have := HKN.out; omega)
        by_cases hy : y = true ∧ x2 = (x : Int)
        · obtain ⟨rfl, h2⟩ := hy
          have h2' : (x2 == (x : Int)) = true := by simpa using h2
          clear h2
          have HO3 : Hid (w4.ownsRow w1.heap.size 3 1 (.slice A1 ln cc) ln (zs.map fun x => Value.int .i64 x)) := Lib.hid (by have := HO1.out; unfold IntsOwn at this; rw [HLN.out] at this; exact this)
          go_wp2_with (at_builtin; refine wpList_append_own _ rfl _ _ 78 rfl w1.heap.size 3 i0 (.int .i64 0) 1 8 Tryz.underlying78 hi hz0 hz1 hz2 rfl (by decide) _ _ _ rfl (HO3.out.alloc _) ⟨w4.heap.size, 0, none⟩ 1 1 [.int .i64 x] rfl ?c1 ?c2 ?c3 ?c4 ?c5 ?c6 ?_)
          case c1 => rfl
          case c2 => exact fun j u hj => one_cell w4 _ _ j u hj
          case c3 => exact fun u hu => by simp at hu; rcases hu with rfl; rfl
          case c4 => have := HKN.out; simp only [maxLen]; omega
          case c5 => have := HKN.out; omega
          case c6 => have := HG1.out.size; simp; omega
          intro v' w5 h2' h3' h4'
          have HE := Lib.hid (ionto_end (x := (x : Int)) _ HG1.out HO1.out (by rw [HLN.out]; exact h2') h3')
          clear h2' h3' h4'
          go_wp2
          go_roundw
          case rel => exact ⟨k + 1, by have := HX.out; have := HKN.out; omega, by rw [HX.out.2], HE.out.2, zs ++ [(x : Int)], by have := HKN.out; simp [HLN.out]; omega, HE.out.1⟩
          case measure => simp [intOf]; exact hme.out
        · cases y with
          | false =>
            go_wp2
            go_roundw
            case rel => exact skip.out
            case measure => simp [intOf]; exact hme.out
          | true =>
            have h2' : (x2 == (x : Int)) = false := by simp at hy; simpa using hy
            clear hy
            go_wp2
            go_roundw
            case rel => exact skip.out
            case measure => simp [intOf]; exact hme.out
      · have hki : ¬ (x : Int) < N := by omega
        have HGF := Lib.hid (grown_trans hgr.out HG.out)
        clear hlt
        by_cases h0 : ln = 0
        · subst h0
          go_wp2
          go_ret
          exact ⟨⟨_, rfl⟩, HGF.out⟩
        · have hl0 : (((ln : Nat) : Int) == 0) = false := beq_false_of_ne (by omega)
          obtain ⟨g, rfl, -, hcl⟩ := (ints_of_own HO.out).resolve_left (by rw [HLN.out]; omega)
          have hcl : Hid (∀ i, i < ln → ∃ z : Int, wr.cell? ⟨g, i, none⟩ = some (.int .i64 z)) := Lib.hid (fun i hi' => ⟨_, hcl i (by rw [HLN.out]; exact hi')⟩)
          obtain ⟨m, hm, han⟩ := and1023 a
          have HR : Hid (m % ln < ln) := Lib.hid (Nat.mod_lt _ (by omega))
          have hmi : (m : Int) ≤ 1023 := by omega
          have hrem : ((m : Nat) : Int) % (ln : Int) = ((m % ln : Nat) : Int) := by omega
          obtain ⟨ix, hix⟩ : ∃ ix : Nat, m % ln = ix := ⟨_, rfl⟩
          rw [hix] at hrem HR
          have hixl := HR.out
          have hil : (ix : Int) < ln := by omega
          clear hix h0 hm
          obtain ⟨z, hz⟩ := hcl.out ix hixl
          go_wp2
          go_ret
          exact ⟨⟨_, rfl⟩, HGF.out⟩
end Go.Proofs.YtgnfcklippjeeaaGreat

/- The law's Step: how its pieces follow one another. -/
namespace Go.Proofs.YtgnfcklippjeeaaGreat
open Go.RowKit
open Sl (Cls bs upd LnkIs)
open Lg (pgs)

theorem PrAt.relab {w0 w : World} {A : Rp} {D : Dp} {T T' : Nat → Nat} {V U : St} {cnt pp : Nat} (h : PrAt w0 w A D T V U cnt pp) (hT : ∀ i, i < w.heap.size → T' i = T i) : PrAt w0 w A D T' V U cnt pp :=
  ⟨h.y, h.d.relab hT, fun i hi => by rw [hT i (h.y.at_.toRnW.any_lt hi)]; exact h.any i hi, fun i hi => by rw [hT i (Nat.lt_of_lt_of_le hi h.y.all.size)]; exact h.old i hi, h.c0, h.c1, by rw [hT _ h.plt]; exact h.tp⟩
/-- A block of nobody's is written. -/
theorem PrAt.own {w0 w w' : World} {A : Rp} {D : Dp} {T : Nat → Nat} {V U : St} {cnt pp b : Nat} (h : PrAt w0 w A D T V U cnt pp) (hg : w.grownBy w' (some b)) (hb : T b = 0) (hbp : b ≠ pp) (h0 : w0.heap.size ≤ b) : PrAt w0 w' A D T V U cnt pp := by
  have hf : Fr (fun i => i = b) w w' := fr_some hg (fun _ => rfl)
  refine ⟨⟨h.y.at_.other hf (fun i hi e => ?_), h.y.may, grown_own h.y.all hg h0⟩, h.d.fr hf (fun i hi e => ?_), h.any, h.old, hg.cell h.c0 (by simpa using fun e => hbp e.symm), hg.cell h.c1 (by simpa using fun e => hbp e.symm), h.tp⟩
  · have := h.any i hi; subst e; omega
  · subst e; omega
theorem To.start {w0 w W w' : World} {A A' : Rp} {D D' : Dp} {T T' : Nat → Nat} {V U : St} {cnt pp : Nat} (hg : w.grownBy W none) (hT : ∀ i, i < w.heap.size → T' i = T i) (h : To w0 W w' A A' D D' T' V U cnt pp) : To w0 w w' A A' D D' T V U cnt pp := by
  obtain ⟨T2, a1, a2, a3, a4, a5⟩ := h
  have hs := hg.size
  refine ⟨T2, a1, a2, a3, fun i hi => (a4 i (by omega)).trans (hT i hi), ⟨a5.os.trans hg.os, a5.tape.trans hg.tape, a5.output.trans hg.output, Nat.le_trans hs a5.size, fun i hi hn => (a5.block i (by omega) (by rw [hT i hi]; exact hn)).trans (hg.block i hi (by simp))⟩⟩
theorem To.next {w0 w w1 w2 : World} {A A1 A2 : Rp} {D D1 D2 : Dp} {T T1 : Nat → Nat} {V U : St} {cnt pp : Nat} (hpA : A1.p = A.p) (hpD : D1.p = D.p) (hT : ∀ i, i < w.heap.size → T1 i = T i) (hF : Fr (fun i => T i = 1 ∨ 3 ≤ T i) w w1) (h : To w0 w1 w2 A1 A2 D1 D2 T1 V U cnt pp) : To w0 w w2 A A2 D D2 T V U cnt pp := by
  obtain ⟨T2, a1, a2, a3, a4, a5⟩ := h
  have hs := hF.size
  refine ⟨T2, a1.trans hpA, a2.trans hpD, a3, fun i hi => (a4 i (by omega)).trans (hT i hi), ⟨a5.os.trans hF.os, a5.tape.trans hF.tape, a5.output.trans hF.output, Nat.le_trans hs a5.size, fun i hi hn => (a5.block i (by omega) (by rw [hT i hi]; exact hn)).trans (hF.block i hi hn)⟩⟩
theorem To.end_ {w0 w w1 w2 : World} {A A1 : Rp} {D D1 : Dp} {T : Nat → Nat} {V U : St} {cnt pp : Nat} (h : To w0 w w1 A A1 D D1 T V U cnt pp) (hg : w1.grownBy w2 none) : To w0 w w2 A A1 D D1 T V U cnt pp := by
  obtain ⟨T2, a1, a2, a3, a4, a5⟩ := h
  exact ⟨T2, a1, a2, a3.grown hg, a4, a5.trans (fr_none hg)⟩
theorem mid_of {w0 w W w3 : World} {A A' : Rp} {D : Dp} {T T0 : Nat → Nat} {V V' : St} {cnt pp ob : Nat} (hg : w.grownBy W none) (hT0 : ∀ i, i < w.heap.size → T0 i = T i) (hob : T0 ob = 0) (hlt : ob < W.heap.size) (h : To w0 W w3 A A' D D T0 V' V cnt pp) :
    (∃ T1, PrAt w0 w3 A' D T1 V' V cnt pp ∧ (∀ i, i < w.heap.size → T1 i = T i) ∧ T1 ob = 0) ∧ Fr (fun i => T i = 1 ∨ 3 ≤ T i) w w3 ∧ A'.p = A.p ∧ ∀ k v, W.cell? ⟨ob, k, none⟩ = some v → w3.cell? ⟨ob, k, none⟩ = some v := by
  obtain ⟨T1, a1, a2, a3, a4, a5⟩ := h
  have hs := hg.size
  refine ⟨⟨T1, a3, fun i hi => (a4 i (by omega)).trans (hT0 i hi), (a4 ob hlt).trans hob⟩, ⟨a5.os.trans hg.os, a5.tape.trans hg.tape, a5.output.trans hg.output, Nat.le_trans hs a5.size, fun i hi hn => (a5.block i (by omega) (by rw [hT0 i hi]; exact hn)).trans (hg.block i hi (by simp))⟩, a1, fun k v hc => a5.cell hc (by rw [hob]; omega)⟩
theorem to_cells {w0 W w3 : World} {A A' : Rp} {D D' : Dp} {T : Nat → Nat} {V U : St} {cnt pp ob : Nat} (h : To w0 W w3 A A' D D' T V U cnt pp) (hob : T ob = 0) :
    w3.cell? ⟨pp, 0, none⟩ = some (.pointer (some ⟨A.p, 0, none⟩)) ∧ w3.cell? ⟨pp, 1, none⟩ = some (.pointer (some ⟨D.p, 0, none⟩)) ∧ ∀ k v, W.cell? ⟨ob, k, none⟩ = some v → w3.cell? ⟨ob, k, none⟩ = some v := by
  obtain ⟨T1, a1, a2, a3, a4, a5⟩ := h
  exact ⟨by rw [← a1]; exact a3.c0, by rw [← a2]; exact a3.c1, fun k v hc => a5.cell hc (by rw [hob]; omega)⟩
theorem set_far9 (w : World) {q i j : Nat} (v : Value) (h : i ≠ j) : (w.setCell ⟨q, i, none⟩ v).cell? ⟨q, j, none⟩ = w.cell? ⟨q, j, none⟩ := by
  have e : (⟨q, i, none⟩ : Addr) ≠ ⟨q, j, none⟩ := fun e => h (by injection e)
  exact World.cell?_setCell_other w _ _ _ e
theorem set_near9 (w : World) {q i : Nat} {u : Value} (v : Value) (h : w.cell? ⟨q, i, none⟩ = some u) : (w.setCell ⟨q, i, none⟩ v).cell? ⟨q, i, none⟩ = some v := World.cell?_setCell_same' w _ _ (by rw [h]; rfl)
/-- A new place's six cells. -/
def Six (w : World) (q : Nat) (v0 v1 v2 v3 v4 v5 : Value) : Prop := (w.cell? ⟨q, 0, none⟩ = some v0 ∧ w.frozen? ⟨q, 0, none⟩ = false) ∧ (w.cell? ⟨q, 1, none⟩ = some v1 ∧ w.frozen? ⟨q, 1, none⟩ = false) ∧ (w.cell? ⟨q, 2, none⟩ = some v2 ∧ w.frozen? ⟨q, 2, none⟩ = false) ∧ (w.cell? ⟨q, 3, none⟩ = some v3 ∧ w.frozen? ⟨q, 3, none⟩ = false) ∧ (w.cell? ⟨q, 4, none⟩ = some v4 ∧ w.frozen? ⟨q, 4, none⟩ = false) ∧ (w.cell? ⟨q, 5, none⟩ = some v5 ∧ w.frozen? ⟨q, 5, none⟩ = false)
theorem alloc6 (w : World) (t : TypeId) : Six (w.alloc (.cells #[.int .i64 0, .int .i64 0, .int .i64 0, .int .i64 0, .int .i64 0, .bool false] t)).drew w.heap.size (.int .i64 0) (.int .i64 0) (.int .i64 0) (.int .i64 0) (.int .i64 0) (.bool false) := by
  refine ⟨⟨?_, ?_⟩, ⟨?_, ?_⟩, ⟨?_, ?_⟩, ⟨?_, ?_⟩, ⟨?_, ?_⟩, ⟨?_, ?_⟩⟩ <;> first | exact frozen_alloc_new .. | exact (cell_alloc_new ..).trans rfl
theorem keep6 {w w' : World} {q : Nat} {v0 v1 v2 v3 v4 v5 : Value} (h : Six w q v0 v1 v2 v3 v4 v5) (g : w.grownBy w' none) : Six w' q v0 v1 v2 v3 v4 v5 := by
  have fz : ∀ k, w'.frozen? ⟨q, k, none⟩ = w.frozen? ⟨q, k, none⟩ := fun k => World.frozen?_of_block (w := w) (g.block q (World.block_lt_of_cell? w ⟨q, 0, none⟩ h.1.1) (by simp))
  obtain ⟨⟨s0, t0⟩, ⟨s1, t1⟩, ⟨s2, t2⟩, ⟨s3, t3⟩, ⟨s4, t4⟩, ⟨s5, t5⟩⟩ := h
  exact ⟨⟨g.cell s0 (by simp), (fz 0).trans t0⟩, ⟨g.cell s1 (by simp), (fz 1).trans t1⟩, ⟨g.cell s2 (by simp), (fz 2).trans t2⟩, ⟨g.cell s3 (by simp), (fz 3).trans t3⟩, ⟨g.cell s4 (by simp), (fz 4).trans t4⟩, ⟨g.cell s5 (by simp), (fz 5).trans t5⟩⟩
def Sx (w : World) (q : Nat) (v0 v1 v2 v3 v4 v5 : Value) : Prop := w.cell? ⟨q, 0, none⟩ = some v0 ∧ w.cell? ⟨q, 1, none⟩ = some v1 ∧ w.cell? ⟨q, 2, none⟩ = some v2 ∧ w.cell? ⟨q, 3, none⟩ = some v3 ∧ w.cell? ⟨q, 4, none⟩ = some v4 ∧ w.cell? ⟨q, 5, none⟩ = some v5
theorem sx_keep {w w' : World} {q : Nat} {v0 v1 v2 v3 v4 v5 : Value} (h : Sx w q v0 v1 v2 v3 v4 v5) (g : w.grownBy w' none) : Sx w' q v0 v1 v2 v3 v4 v5 := by
  obtain ⟨s0, s1, s2, s3, s4, s5⟩ := h
  exact ⟨g.cell s0 (by simp), g.cell s1 (by simp), g.cell s2 (by simp), g.cell s3 (by simp), g.cell s4 (by simp), g.cell s5 (by simp)⟩
theorem sx_alloc (w : World) (v0 v1 v2 v3 v4 v5 : Value) (t : TypeId) : Sx (w.alloc (.cells #[v0, v1, v2, v3, v4, v5] t)) w.heap.size v0 v1 v2 v3 v4 v5 := by
  refine ⟨?_, ?_, ?_, ?_, ?_, ?_⟩ <;> exact (cell_alloc_new ..).trans rfl
theorem set_any9 {w : World} {q i j : Nat} {u : Value} (v : Value) (h : w.cell? ⟨q, j, none⟩ = some u) : ∃ u', (w.setCell ⟨q, i, none⟩ v).cell? ⟨q, j, none⟩ = some u' := by
  by_cases e : i = j
  · subst e; exact ⟨v, set_near9 w v h⟩
  · exact ⟨u, by rw [set_far9 w v e]; exact h⟩
theorem sx_set {w : World} {q : Nat} {u0 u1 u2 u3 u4 u5 : Value} (h : Six w q u0 u1 u2 u3 u4 u5) (v0 v1 v2 v3 v4 v5 : Value) :
    Sx ((((((w.setCell ⟨q, 0, none⟩ v0).setCell ⟨q, 1, none⟩ v1).setCell ⟨q, 2, none⟩ v2).setCell ⟨q, 3, none⟩ v3).setCell ⟨q, 4, none⟩ v4).setCell ⟨q, 5, none⟩ v5) q v0 v1 v2 v3 v4 v5 := by
  obtain ⟨⟨s0, -⟩, ⟨s1, -⟩, ⟨s2, -⟩, ⟨s3, -⟩, ⟨s4, -⟩, ⟨s5, -⟩⟩ := h
  refine ⟨?_, ?_, ?_, ?_, ?_, ?_⟩
  · rw [set_far9 _ _ (by omega), set_far9 _ _ (by omega), set_far9 _ _ (by omega), set_far9 _ _ (by omega), set_far9 _ _ (by omega)]
    exact set_near9 _ _ s0
  · rw [set_far9 _ _ (by omega), set_far9 _ _ (by omega), set_far9 _ _ (by omega), set_far9 _ _ (by omega)]
    obtain ⟨u, hu⟩ := set_any9 (i := 0) v0 s1
    exact set_near9 _ _ hu
  · rw [set_far9 _ _ (by omega), set_far9 _ _ (by omega), set_far9 _ _ (by omega)]
    exact set_near9 _ _ (by rw [set_far9 _ _ (by omega), set_far9 _ _ (by omega)]; exact s2)
  · rw [set_far9 _ _ (by omega), set_far9 _ _ (by omega)]
    exact set_near9 _ _ (by rw [set_far9 _ _ (by omega), set_far9 _ _ (by omega), set_far9 _ _ (by omega)]; exact s3)
  · rw [set_far9 _ _ (by omega)]
    exact set_near9 _ _ (by rw [set_far9 _ _ (by omega), set_far9 _ _ (by omega), set_far9 _ _ (by omega), set_far9 _ _ (by omega)]; exact s4)
  · exact set_near9 _ _ (by rw [set_far9 _ _ (by omega), set_far9 _ _ (by omega), set_far9 _ _ (by omega), set_far9 _ _ (by omega), set_far9 _ _ (by omega)]; exact s5)
theorem grown6 {w w4 : World} {q : Nat} (hg : w.grownBy w4 none) (hq : w.heap.size ≤ q) (v0 v1 v2 v3 v4 v5 : Value) :
    w.grownBy ((((((w4.setCell ⟨q, 0, none⟩ v0).setCell ⟨q, 1, none⟩ v1).setCell ⟨q, 2, none⟩ v2).setCell ⟨q, 3, none⟩ v3).setCell ⟨q, 4, none⟩ v4).setCell ⟨q, 5, none⟩ v5) none :=
  grown_own hg (grown_trans (grown_trans (grown_trans (grown_trans (grown_trans (An.agrown_set w4 q 0 _) (An.agrown_set _ q 1 _)) (An.agrown_set _ q 2 _)) (An.agrown_set _ q 3 _)) (An.agrown_set _ q 4 _)) (An.agrown_set _ q 5 _)) hq
/-- What a Step leaves. -/
def StepTo (w0 w w' : World) (A : Rp) (D : Dp) (T : Nat → Nat) (V : St) (cnt pp : Nat) : Prop := ∃ A' D' V', StS V V' ∧ To w0 w w' A A' D D' T V' V' (cnt + 1) pp
end Go.Proofs.YtgnfcklippjeeaaGreat
