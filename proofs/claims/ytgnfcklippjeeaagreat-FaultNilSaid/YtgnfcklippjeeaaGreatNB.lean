/- A region in the world; the walks of slots, greatPlace, slotPlace, Find and of what these ask. -/
import Derived.Test.YtgnfcklippjeeaaGreatNA
import Derived.Test.YtgnfcklippjeeaaGreatK6
import Derived.Deep.RegionHeld3
import Derived.Deep.DeepCutAuto
namespace Go.Proofs.YtgnfcklippjeeaaGreat
open Go.RowKit
open Go.Maps (Keyed)
open Sl (Cls bs upd)
open Lg (pgs)

/-! Frames over several blocks. -/
theorem bytes_fr {may : Nat → Prop} {w w' : World} {q n : Nat} {B : Nat → Nat} (h : An.BytesAt w q n B) (hf : Fr may w w') (hq : ¬ may q) : An.BytesAt w' q n B :=
  ⟨fun i hi => hf.cell (h.c i hi) hq, fun k => by rw [hf.frozen h.qlt hq]; exact h.fz k, Nat.lt_of_lt_of_le h.qlt hf.size⟩
theorem ar_fr {may : Nat → Prop} {w w' : World} {p q n cap : Nat} {B : Nat → Nat} {wk : Option Addr} (h : An.ArAt w p q n cap B wk) (hf : Fr may w w') (hp : ¬ may p) (hq : ¬ may q) : An.ArAt w' p q n cap B wk :=
  ⟨hf.cell h.c0 hp, hf.cell h.c1 hp, fun k => by rw [hf.frozen h.plt hp]; exact h.fz k, bytes_fr h.b hf hq, h.ne, h.hcap, h.small, h.page, h.lt⟩
theorem rows_fr {may : Nat → Prop} {w w' : World} {q n : Nat} {R : Nat → Pg.Row} (h : Pt.RowsAt w q n R) (hf : Fr may w w') (hq : ¬ may q) : Pt.RowsAt w' q n R :=
  ⟨fun i hi => hf.cell (h.c0 i hi) hq, fun i hi => hf.cell (h.c1 i hi) hq, fun i hi => hf.cell (h.c2 i hi) hq, fun i hi => hf.cell (h.c3 i hi) hq, fun k => by rw [hf.frozen h.qlt hq]; exact h.fz k, Nat.lt_of_lt_of_le h.qlt hf.size⟩
theorem tab_fr {may : Nat → Prop} {w w' : World} {p q n cap : Nat} {R : Nat → Pg.Row} (h : Pt.TabAt w p q n cap R) (hf : Fr may w w') (hp : ¬ may p) (hq : ¬ may q) : Pt.TabAt w' p q n cap R :=
  ⟨hf.cell h.c hp, rows_fr h.rows hf hq, h.ne, h.hcap, h.small, h.ok⟩
theorem map_fr {may : Nat → Prop} {w w' : World} {P : Program} {k : TypeId} {E : Value → Option (DataW Unit × List MemPlace)} {b n : Nat} {D : DataW Unit} (h : w.ownsMap P k E b n D) (hf : Fr may w w') (hb : ¬ may b) : w'.ownsMap P k E b n D := by
  have hlt := h.lt
  obtain ⟨es, clock, h1, h2, h3, h4⟩ := h
  exact ⟨es, clock, (hf.block b hlt hb).trans h1, h2, h3, h4⟩
theorem row_fr {may : Nat → Prop} {w w' : World} {p q n : Nat} {b : Nat → Bool} (h : Row w p q n b) (hf : Fr may w w') (hp : ¬ may p) (hq : ¬ may q) : Row w' p q n b := by
  obtain ⟨cap, ws, h1, h2⟩ := h
  exact ⟨cap, ws, ⟨hf.cell h1.c0 hp, hf.cell h1.c1 hp, fun k hk => hf.cell (h1.row k hk) hq, fun k => by rw [hf.frozen h1.qlt hq]; exact h1.fz k, h1.ne, Nat.lt_of_lt_of_le h1.qlt hf.size, h1.hcap, h1.len, h1.small, h1.lt, h1.top⟩, h2⟩
theorem own_fr {may : Nat → Prop} {w w' : World} {X : Pl} {Y : Nm} {f : Int} (h : Own w X Y f) (hf : Fr may w w') (hp : ¬ may X.p) : Own w' X Y f :=
  ⟨hf.cell h.c0 hp, hf.cell h.c1 hp, hf.cell h.c2 hp, hf.cell h.c3 hp, hf.cell h.c4 hp, hf.cell h.c5 hp, hf.cell h.c6 hp, hf.cell h.c7 hp, fun k => by rw [hf.frozen h.plt hp]; exact h.fz k⟩
/-- A slab that is not written into, over an arena whose bytes may be others. -/
theorem SlAt.fr {may : Nat → Prop} {w w' : World} {X : Pl} {Y : Nm} {S : Nat → Nat} {f : Int} {B B' : Nat → Nat} (h : SlAt w X Y S f B) (hf : Fr may w w') (h1 : ¬ may X.p) (h2 : ¬ may X.pl) (h3 : ¬ may X.ql) (h4 : ¬ may X.ph) (h5 : ¬ may X.qh) (ha : An.ArAt w' X.pa X.qa Y.N Y.acap B' none) : SlAt w' X Y S f B' :=
  ⟨own_fr h.own hf h1, ha, row_fr h.l hf h2 h3, row_fr h.h hf h4 h5, h.ap, h.ok⟩
theorem LgAt.fr {may : Nat → Prop} {w w' : World} {X : Lp} {cnt : Nat} {D : DataW Unit} {Z B B' : Nat → Nat} (h : LgAt w X cnt D Z B) (hf : Fr may w w') (h1 : ¬ may X.p) (h2 : ¬ may X.mb) (ha : An.ArAt w' X.pa X.qa X.N X.cap B' none) : LgAt w' X cnt D Z B' :=
  ⟨hf.cell h.c0 h1, hf.cell h.c1 h1, hf.cell h.c2 h1, ha, map_fr h.map hf h2, h.is, h.inv, h.ap, h.k⟩

/-- How a pointer in a map reads. -/
def ptrElem : Value → Option (DataW Unit × List MemPlace)
  | .pointer none => some (.lit (.int .i64 0), [])
  | .pointer (some ⟨b, 0, none⟩) => some (.lit (.int .i64 ((b + 1 : Nat) : Int)), [])
  | _ => none
theorem ptr_inv {v : Value} {c : Nat} {ps : List MemPlace} (h : ptrElem v = some (.lit (.int .i64 (c : Nat)), ps)) : v = if c = 0 then .pointer none else .pointer (some ⟨c - 1, 0, none⟩) := by
  unfold ptrElem at h
  split at h
  · injection h with h; injection h with h _
    have := lit_inj h
    rw [if_pos (by omega)]
  · rename_i b
    injection h with h; injection h with h _
    have := lit_inj h
    rw [if_neg (by omega), show c - 1 = b by omega]
  · cases h

/-- Where a region's parts lie. -/
structure Rp where
  p : Nat
  pa : Nat
  qa : Nat
  pt : Nat
  qt : Nat
  pm : Nat
  pg : Nat
  mg : Nat
  acap : Nat
  tcap : Nat
  seed : Nat
  xs : Nat → Pl
  lab : Nat → Nat
structure Labs (A : Rp) (L : Nat → Option Sd) : Prop where
  p : A.lab A.p = 0
  pa : A.lab A.pa = 1
  qa : A.lab A.qa = 2
  pt : A.lab A.pt = 3
  qt : A.lab A.qt = 4
  pm : A.lab A.pm = 5
  pg : A.lab A.pg = 6
  mg : A.lab A.mg = 7
  x : ∀ k d, L k = some d → A.lab (A.xs k).p = 8 + 4 * k ∧ A.lab (A.xs k).ql = 9 + 4 * k ∧ A.lab (A.xs k).qh = 10 + 4 * k ∧ A.lab (A.xs k).pl = 11 + 4 * k ∧ A.lab (A.xs k).ph = 11 + 4 * k ∧ (A.xs k).pa = A.pa ∧ (A.xs k).qa = A.qa
theorem lab_ne {lab : Nat → Nat} {a b x y : Nat} (ha : lab a = x) (hb : lab b = y) (h : x ≠ y) : a ≠ b := fun e => h (by rw [← ha, ← hb, e])
def Rp.lp (A : Rp) (V : St) : Lp := ⟨A.pg, A.pa, A.qa, A.mg, V.key, V.n * 256, A.acap⟩
def nmOf (A : Rp) (V : St) (k : Nat) (d : Sd) : Nm := ⟨V.key, k, d.c, d.s, d.n, d.r, d.o, V.n * 256, A.acap⟩
def Rp.zs (A : Rp) (L : Nat → Option Sd) (k : Nat) : Nat := match L k with | none => 0 | some _ => (A.xs k).p + 1
/-- What a region's calls may write into. -/
def Rp.may (A : Rp) (L : Nat → Option Sd) (i : Nat) : Prop := i = A.qa ∨ i = A.qt ∨ i = A.pm ∨ i = A.mg ∨ ∃ k d, L k = some d ∧ (i = (A.xs k).p ∨ i = (A.xs k).ql ∨ i = (A.xs k).qh)
/-- A region's memory. -/
structure RnW (w : World) (A : Rp) (V : St) (cnt : Nat) : Prop where
  c0 : w.cell? ⟨A.p, 0, none⟩ = some (.int .i64 (V.m : Nat))
  c1 : w.cell? ⟨A.p, 1, none⟩ = some (.int .i64 ((V.n : Int) - (V.m : Int)))
  c2 : w.cell? ⟨A.p, 2, none⟩ = some (.int .u64 (A.seed : Nat))
  c3 : w.cell? ⟨A.p, 3, none⟩ = some (.pointer (some ⟨A.pa, 0, none⟩))
  c4 : w.cell? ⟨A.p, 4, none⟩ = some (.pointer (some ⟨A.pt, 0, none⟩))
  c5 : w.cell? ⟨A.p, 5, none⟩ = some (.int .u64 (V.key : Nat))
  c6 : w.cell? ⟨A.p, 6, none⟩ = some (.map (some A.pm))
  c7 : w.cell? ⟨A.p, 7, none⟩ = some (.pointer (some ⟨A.pg, 0, none⟩))
  ar : An.ArAt w A.pa A.qa (V.n * 256) A.acap V.B none
  tab : Pt.TabAt w A.pt A.qt V.n A.tcap V.R
  mp : ∃ D, w.ownsMap Tryz.prog 3 ptrElem A.pm cnt D ∧ MapIs D (A.zs V.L)
  lg : ∃ D, LgAt w (A.lp V) cnt D V.Z V.B
  sl : ∀ k d, V.L k = some d → SlAt w (A.xs k) (nmOf A V k d) d.S d.f V.B
  lab : Labs A V.L
/-- A region. -/
structure RnAt (w : World) (A : Rp) (V : St) (cnt : Nat) : Prop extends RnW w A V cnt where
  ok : V.Ok
theorem RnW.fr0 {may : Nat → Prop} {w w' : World} {A : Rp} {V : St} {cnt : Nat} (h : RnW w A V cnt) (hf : Fr may w w') (hm : ∀ i, (i = A.p ∨ i = A.pa ∨ i = A.pt ∨ i = A.pg ∨ A.may V.L i ∨ ∃ k d, V.L k = some d ∧ (i = (A.xs k).pl ∨ i = (A.xs k).ph)) → ¬ may i) : RnW w' A V cnt := by
  have hp := hm _ (.inl rfl)
  have hpa := hm _ (.inr (.inl rfl))
  have hpt := hm _ (.inr (.inr (.inl rfl)))
  have hpg := hm _ (.inr (.inr (.inr (.inl rfl))))
  have hqa := hm A.qa (.inr (.inr (.inr (.inr (.inl (.inl rfl))))))
  have hqt := hm A.qt (.inr (.inr (.inr (.inr (.inl (.inr (.inl rfl)))))))
  have hpm := hm A.pm (.inr (.inr (.inr (.inr (.inl (.inr (.inr (.inl rfl))))))))
  have hmg := hm A.mg (.inr (.inr (.inr (.inr (.inl (.inr (.inr (.inr (.inl rfl)))))))))
  have har := ar_fr h.ar hf hpa hqa
  obtain ⟨D, hD, hi⟩ := h.mp
  obtain ⟨E, hE⟩ := h.lg
  refine ⟨hf.cell h.c0 hp, hf.cell h.c1 hp, hf.cell h.c2 hp, hf.cell h.c3 hp, hf.cell h.c4 hp, hf.cell h.c5 hp, hf.cell h.c6 hp, hf.cell h.c7 hp, har, tab_fr h.tab hf hpt hqt, ⟨D, map_fr hD hf hpm, hi⟩, ⟨E, hE.fr hf hpg hmg har⟩, fun k d hk => ?_, h.lab⟩
  obtain ⟨_, _, _, _, _, e1, e2⟩ := h.lab.x k d hk
  have hs := h.sl k d hk
  exact hs.fr hf (hm _ (.inr (.inr (.inr (.inr (.inl (.inr (.inr (.inr (.inr ⟨k, d, hk, .inl rfl⟩)))))))))) (hm _ (.inr (.inr (.inr (.inr (.inr ⟨k, d, hk, .inl rfl⟩))))))
    (hm _ (.inr (.inr (.inr (.inr (.inl (.inr (.inr (.inr (.inr ⟨k, d, hk, .inr (.inl rfl)⟩)))))))))) (hm _ (.inr (.inr (.inr (.inr (.inr ⟨k, d, hk, .inr rfl⟩))))))
    (hm _ (.inr (.inr (.inr (.inr (.inl (.inr (.inr (.inr (.inr ⟨k, d, hk, .inr (.inr rfl)⟩)))))))))) (by rw [e1, e2]; exact har)
theorem RnW.grown {w w' : World} {A : Rp} {V : St} {cnt : Nat} (h : RnW w A V cnt) (hg : w.grownBy w' none) : RnW w' A V cnt :=
  h.fr0 (may := fun _ => False) (fr_none hg) (fun _ _ h => h)
theorem RnAt.grown {w w' : World} {A : Rp} {V : St} {cnt : Nat} (h : RnAt w A V cnt) (hg : w.grownBy w' none) : RnAt w' A V cnt :=
  ⟨h.toRnW.grown hg, h.ok⟩
theorem RnW.mono {w : World} {A : Rp} {V : St} {cnt cnt' : Nat} (h : RnW w A V cnt) (hc : cnt ≤ cnt') : RnW w A V cnt' := by
  obtain ⟨D, hD, hi⟩ := h.mp
  obtain ⟨E, hE⟩ := h.lg
  exact ⟨h.c0, h.c1, h.c2, h.c3, h.c4, h.c5, h.c6, h.c7, h.ar, h.tab, ⟨D, hD.mono hc, hi⟩, ⟨E, ⟨hE.c0, hE.c1, hE.c2, hE.ar, hE.map.mono hc, hE.is, hE.inv, hE.ap, hE.k⟩⟩, h.sl, h.lab⟩
theorem RnAt.mono {w : World} {A : Rp} {V : St} {cnt cnt' : Nat} (h : RnAt w A V cnt) (hc : cnt ≤ cnt') : RnAt w A V cnt' := ⟨h.toRnW.mono hc, h.ok⟩

/-- The slab's object of a page; none: it is no page of slots. -/
def Rp.sp (A : Rp) (L : Nat → Option Sd) (page : Int) : Option Addr := if 0 ≤ page then (match L page.toNat with | none => none | some _ => some ⟨(A.xs page.toNat).p, 0, none⟩) else none
theorem Rp.sp_some (A : Rp) {L : Nat → Option Sd} {g : Nat} {d : Sd} (h : L g = some d) : A.sp L (g : Int) = some ⟨(A.xs g).p, 0, none⟩ := by
  unfold Rp.sp; rw [if_pos (by omega), Int.toNat_natCast, h]
theorem Rp.sp_none (A : Rp) {L : Nat → Option Sd} {page : Int} (h : ∀ g : Nat, page = g → L g = none) : A.sp L page = none := by
  unfold Rp.sp
  split
  · rw [h page.toNat (by omega)]
  · rfl
theorem zero_slab (w : World) : (zeroValue 114).run Tryz.prog w = .ok (.pointer none) w := by kernel_rfl
theorem RnAt.look {w : World} {A : Rp} {V : St} {cnt : Nat} (h : RnAt w A V cnt) (page : Int) (hw : WF page) :
    (Instr.lookup 108 (.map (some A.pm)) (.int .i64 page) false).run Tryz.prog w = .ok (.pointer (A.sp V.L page)) w := by
  obtain ⟨D, hown, his⟩ := h.mp
  have hkey := Go.Maps.keyOf_int_mk (P := Tryz.prog) Tryz.underlying3 (a := page) (WalkArith.wf_i64 hw)
  obtain ⟨v, ps, hrun, hv⟩ := hown.lookup kint Tryz.underlying108 (zero_slab w) (zd := .lit (.int .i64 0)) (zp := []) rfl hkey
  rw [hrun]
  by_cases hz : ∀ g : Nat, page = g → A.zs V.L g = 0
  · have hno : Go.Maps.has D (.int .i64 page) = false := his.no hz
    rw [Go.Maps.atKey_of_not_has hno] at hv
    rw [ptr_inv (c := 0) hv, if_pos rfl, A.sp_none (fun g e => by
      have := hz g e
      unfold Rp.zs at this
      cases hl : V.L g with
      | none => rfl
      | some d => rw [hl] at this; simp at this)]
  · obtain ⟨g, hg⟩ : ∃ g : Nat, ¬ (page = g → A.zs V.L g = 0) := Classical.not_forall.1 hz
    have e : page = g := Classical.not_not.1 (fun x => hg (fun y => absurd y x))
    have hz' : A.zs V.L g ≠ 0 := fun x => hg (fun _ => x)
    subst e
    rw [his.at_ g hz'] at hv
    cases hl : V.L g with
    | none => unfold Rp.zs at hz'; rw [hl] at hz'; exact absurd rfl hz'
    | some d =>
      have e2 : A.zs V.L g = (A.xs g).p + 1 := by unfold Rp.zs; rw [hl]
      rw [e2] at hv
      rw [ptr_inv hv, if_neg (by omega), A.sp_some hl, show (A.xs g).p + 1 - 1 = (A.xs g).p by omega]

/-! What needs no region. -/
theorem cl0 : Cl 0 16 16 8 := .inl ⟨rfl, rfl, rfl, rfl⟩
/-- The page that a byte lies in. -/
def pgV (a : Int) : Int := if a < 0 ∨ 65535 < a then -1 else a / 256
set_option maxHeartbeats 400000 in
theorem pageOf_at (a : Int) (w : World) :
    Calls Tryz.prog 77 #[.int .i64 a] w fun e w' => e = .returned (.int .i64 (pgV a)) ∧ w.grownBy w' none := by
  have HS : Hid (∃ k : Int, Calls Tryz.prog 78 #[.int .i64 a, .int .i64 0] w fun e w' => e = .returned (.tuple #[.int .i64 (pgV a), .int .i64 k]) ∧ w.grownBy w' none) := Lib.hid (by
    unfold pgV
    by_cases ho : a < 0 ∨ 65535 < a
    · rw [if_pos ho]
      exact ⟨_, (slot_out a 0 w ho).mono fun _ _ ⟨he, hw⟩ => ⟨he, hw ▸ grown_refl _ _⟩⟩
    · rw [if_neg ho]
      exact ⟨_, (slot_core a w cl0 (by omega) (by omega)).mono fun _ _ ⟨he, hd⟩ => ⟨he, drew_grownBy hd⟩⟩)
  generalize pgV a = p at *
  obtain ⟨k, hk⟩ := HS.out
  have HK := Lib.hid hk
  clear hk HS
  go_enter Tryz.func77, Tryz.ntmps77
  go_wp2_with (go_at_call 78; refine HK.out.mono ?_; rintro e w2 ⟨rfl, hg⟩; have HG := Lib.hid hg; clear hg)
  go_ret
  exact ⟨rfl, HG.out⟩
set_option maxHeartbeats 400000 in
theorem slotsRow_at (c o : Int) (w : World) :
    Calls Tryz.prog 85 #[.int .i64 c, .int .i64 o] w fun e w' => e = .returned (.agg #[.int .i64 1, .int .i64 c, .int .i64 o, .int .i64 1]) ∧ w.grownBy w' none := by
  go_enter Tryz.func85, Tryz.ntmps85
  go_wp2
  exact bodyPost_ret (v := .agg #[.int .i64 1, .int .i64 c, .int .i64 o, .int .i64 1]) (by simp [results, Tryz.results85, go_sem]) rfl ⟨rfl, grown_alloc _ _ _⟩
set_option maxHeartbeats 400000 in
theorem greatRow_at (n : Int) (w : World) :
    Calls Tryz.prog 89 #[.int .i64 n] w fun e w' => e = .returned (.agg #[.int .i64 2, .int .i64 0, .int .i64 0, .int .i64 n]) ∧ w.grownBy w' none := by
  go_enter Tryz.func89, Tryz.ntmps89
  go_wp2
  exact bodyPost_ret (v := .agg #[.int .i64 2, .int .i64 0, .int .i64 0, .int .i64 n]) (by simp [results, Tryz.results89, go_sem]) rfl ⟨rfl, grown_alloc _ _ _⟩
set_option maxHeartbeats 400000 in
theorem isClass_yes {c s n r : Nat} (h : Cls c s n r) (w : World) :
    Calls Tryz.prog 83 #[.int .i64 (c : Nat)] w fun e w' => e = .returned (.bool true) ∧ w = w' := by
  have HS := Lib.hid (slots_yes w h.cl)
  have hn := h.facts.n2
  have hn' : (0 : Int) < n := by omega
  clear h hn
  go_enter Tryz.func83, Tryz.ntmps83
  go_wp2_with (go_at_call 142; refine HS.out.mono ?_; rintro e w2 ⟨rfl, rfl⟩)
  go_ret
  exact ⟨ret_bool (by simpa using hn'), rfl⟩
set_option maxHeartbeats 400000 in
theorem isClass_no (c : Int) (h : No c) (w : World) :
    Calls Tryz.prog 83 #[.int .i64 c] w fun e w' => e = .returned (.bool false) ∧ w = w' := by
  have HS := Lib.hid (slots_no c w h)
  clear h
  go_enter Tryz.func83, Tryz.ntmps83
  go_wp2_with (go_at_call 142; refine HS.out.mono ?_; rintro e w2 ⟨rfl, rfl⟩)
  go_ret
  exact ⟨rfl, rfl⟩
end Go.Proofs.YtgnfcklippjeeaaGreat
