/- A mail in the world; the walks of Threads, has, Waits, Held, New, and of a mail that is not there. -/
import Derived.Test.YtldpljfanlhooaaMa
import Derived.Deep.QuietTactic
import Derived.BigQuiet
import Derived.Deep.RegionHeld3
import Derived.Deep.DeepCutAuto
import Derived.Lib.Hide
namespace Go.Proofs.Ytldpljfanlhooaa
open Go.RowKit
open Is

/-- What a call leaves of the blocks that are another's. -/
structure FrN (N : Nat → Prop) (w w' : World) : Prop where
  os : w'.os = w.os
  tape : w'.tape = w.tape
  output : w'.output = w.output
  size : w.heap.size ≤ w'.heap.size
  block : ∀ i, N i → w'.heap[i]? = w.heap[i]?
theorem frN_refl (N : Nat → Prop) (w : World) : FrN N w w := ⟨rfl, rfl, rfl, Nat.le_refl _, fun _ _ => rfl⟩
theorem FrN.trans {N : Nat → Prop} {a b c : World} (h : FrN N a b) (k : FrN N b c) : FrN N a c :=
  ⟨k.os.trans h.os, k.tape.trans h.tape, k.output.trans h.output, Nat.le_trans h.size k.size, fun i hi => (k.block i hi).trans (h.block i hi)⟩
theorem frN_grown {N : Nat → Prop} {a b : World} {r : Option Nat} (h : a.grownBy b r) (hN : ∀ i, N i → i < a.heap.size ∧ some i ≠ r) : FrN N a b :=
  ⟨h.os, h.tape, h.output, h.size, fun i hi => h.block i (hN i hi).1 (hN i hi).2⟩
theorem FrN.sub {N N' : Nat → Prop} {a b : World} (h : FrN N a b) (hs : ∀ i, N' i → N i) : FrN N' a b := ⟨h.os, h.tape, h.output, h.size, fun i hi => h.block i (hs i hi)⟩
theorem FrN.cell {N : Nat → Prop} {w w' : World} (h : FrN N w w') {b o : Nat} {v : Value} (hc : w.cell? ⟨b, o, none⟩ = some v) (hN : N b) : w'.cell? ⟨b, o, none⟩ = some v :=
  (World.cell?_of_block (a := ⟨b, o, none⟩) (h.block b hN)).trans hc
theorem FrN.below {N : Nat → Prop} {w w' : World} (h : FrN N w w') {s : Nat} (hs : ∀ i, i < s → N i) : Below s w w' := ⟨h.os, h.tape, h.output, h.size, fun i hi => h.block i (hs i hi)⟩

/-- The slices of a mail: what has come to each thread, what is held; no two share an array. -/
structure Own (w : World) (base : Nat) (CV : Nat → Value) (C : Nat → List Int) (HV : Int → Int → Value) (H : Int → Int → List Int) : Prop where
  c : ∀ t, Ow w base (CV t) (C t)
  h : ∀ f t, Ow w base (HV f t) (H f t)
  cc : ∀ t t' q, (CV t).ownBlock = some q → (CV t').ownBlock = some q → t = t'
  ch : ∀ t f t' q, (CV t).ownBlock = some q → (HV f t').ownBlock = some q → False
  hh : ∀ f t f' t' q, (HV f t).ownBlock = some q → (HV f' t').ownBlock = some q → f = f' ∧ t = t'
/-- Where a mail's parts lie. -/
structure Mb where
  p : Nat
  cq : Nat
  mb : Nat
  base : Nat
  n : Nat
  b : Nat
/-- A mail. N: the blocks that are another's. K: how often a thread may have been sent a batch; cnt: how many entries the map has at most. -/
structure Ml (N : Nat → Prop) (w : World) (A : Mb) (K : Nat → Nat) (cnt : Nat) (CV : Nat → Value) (C : Nat → List Int) (HV : Int → Int → Value) (H : Int → Int → List Int) : Prop where
  c0 : w.cell? ⟨A.p, 0, none⟩ = some (.int .i64 A.b)
  c1 : w.cell? ⟨A.p, 1, none⟩ = some (.slice (some ⟨A.cq, 0, none⟩) A.n A.n)
  c2 : w.cell? ⟨A.p, 2, none⟩ = some (.map (some A.mb))
  cv : ValsAt w A.cq A.n CV
  mp : Mp w A.mb cnt HV
  own : Own w A.base CV C HV H
  nil : ∀ f t : Int, ¬ (0 ≤ f ∧ f < A.n ∧ 0 ≤ t ∧ t < A.n ∧ f ≠ t) → HV f t = .slice none 0 0
  cnil : ∀ t, A.n ≤ t → CV t = .slice none 0 0
  pb : A.p < A.base
  qb : A.cq < A.base
  mbb : A.mb < A.base
  bh : A.base ≤ w.heap.size
  pq : A.p ≠ A.cq
  pm : A.p ≠ A.mb
  qm : A.cq ≠ A.mb
  n64 : A.n ≤ 64
  b1 : 1 ≤ A.b
  b64 : A.b ≤ 64
  lc : ∀ t, (C t).length ≤ 64 * K t
  lh : ∀ f t, (H f t).length ≤ A.b
  ks : ∀ t, K t ≤ 150
  cs : cnt ≤ 1000000
  np : ¬ N A.p
  nq : ¬ N A.cq
  nm : ¬ N A.mb
  nc : ∀ t q, (CV t).ownBlock = some q → ¬ N q
  nh : ∀ f t q, (HV f t).ownBlock = some q → ¬ N q
  nlt : ∀ i, N i → i < w.heap.size
theorem Ml.bs {N : Nat → Prop} {w : World} {A : Mb} {K : Nat → Nat} {cnt : Nat} {CV : Nat → Value} {C : Nat → List Int} {HV : Int → Int → Value} {H : Int → Int → List Int} (h : Ml N w A K cnt CV C HV H) : A.p < w.heap.size ∧ A.cq < w.heap.size ∧ A.mb < w.heap.size :=
  ⟨World.block_lt_of_cell? w ⟨A.p, 0, none⟩ h.c0, h.cv.qlt, h.mp.lt⟩
theorem Own.kept {w w' : World} {r : Option Nat} {base : Nat} {CV : Nat → Value} {C : Nat → List Int} {HV : Int → Int → Value} {H : Int → Int → List Int} (h : Own w base CV C HV H) (hg : w.grownBy w' r)
    (h1 : ∀ t q, (CV t).ownBlock = some q → some q ≠ r) (h2 : ∀ f t q, (HV f t).ownBlock = some q → some q ≠ r) : Own w' base CV C HV H :=
  ⟨fun t => (h.c t).kept hg (by cases e : (CV t).ownBlock with
    | none => exact .inl rfl
    | some q => exact .inr (h1 t q e)), fun f t => (h.h f t).kept hg (by cases e : (HV f t).ownBlock with
    | none => exact .inl rfl
    | some q => exact .inr (h2 f t q e)), h.cc, h.ch, h.hh⟩
/-- What others do, in blocks that are none of the mail's, leaves it. -/
theorem Ml.kept {N N' : Nat → Prop} {w w' : World} {r : Option Nat} {A : Mb} {K : Nat → Nat} {cnt : Nat} {CV : Nat → Value} {C : Nat → List Int} {HV : Int → Int → Value} {H : Int → Int → List Int} (h : Ml N w A K cnt CV C HV H) (hg : w.grownBy w' r)
    (hr : ∀ q, r = some q → N q ∨ w.heap.size ≤ q) (hN : ∀ i, N' i → N i ∨ (w.heap.size ≤ i ∧ i < w'.heap.size)) : Ml N' w' A K cnt CV C HV H := by
  obtain ⟨s1, s2, s3⟩ := h.bs
  have hx : ∀ q, q < w.heap.size → ¬ N q → some q ≠ r := fun q hq hn e => by
    rcases hr q e.symm with h | h
    · exact hn h
    · omega
  have hl1 := fun t q e => ((h.own.c t).ge q e).2
  have hl2 := fun f t q e => ((h.own.h f t).ge q e).2
  have hy : ∀ q, q < w.heap.size → ¬ N q → ¬ N' q := fun q hq hn e => by
    rcases hN q e with h | h
    · exact hn h
    · omega
  exact ⟨hg.cell h.c0 (hx _ s1 h.np), hg.cell h.c1 (hx _ s1 h.np), hg.cell h.c2 (hx _ s1 h.np), h.cv.kept hg (hx _ s2 h.nq), h.mp.kept hg (hx _ s3 h.nm),
    h.own.kept hg (fun t q e => hx q (hl1 t q e) (h.nc t q e)) (fun f t q e => hx q (hl2 f t q e) (h.nh f t q e)), h.nil, h.cnil, h.pb, h.qb, h.mbb, Nat.le_trans h.bh hg.size, h.pq, h.pm, h.qm, h.n64, h.b1, h.b64, h.lc, h.lh, h.ks, h.cs,
    hy _ s1 h.np, hy _ s2 h.nq, hy _ s3 h.nm, fun t q e => hy q (hl1 t q e) (h.nc t q e), fun f t q e => hy q (hl2 f t q e) (h.nh f t q e), fun i hi => by
      rcases hN i hi with k | k
      · exact Nat.lt_of_lt_of_le (h.nlt i k) hg.size
      · exact k.2⟩
theorem Ml.grown {N : Nat → Prop} {w w' : World} {A : Mb} {K : Nat → Nat} {cnt : Nat} {CV : Nat → Value} {C : Nat → List Int} {HV : Int → Int → Value} {H : Int → Int → List Int} (h : Ml N w A K cnt CV C HV H) (hg : w.grownBy w' none) : Ml N w' A K cnt CV C HV H :=
  h.kept hg (fun q e => by cases e) (fun i hi => .inl hi)

/-! ### Threads, has -/
theorem mthr_nil (w : World) : Calls Try.prog 33 #[.pointer none] w fun e w' => e = .returned (.int .i64 0) ∧ w = w' := by
  go_enter Try.func33, Try.ntmps33
  go_wp2
  go_ret
  exact ⟨rfl, rfl⟩
theorem mthr_core {w : World} {p cq n : Nat} (c1 : w.cell? ⟨p, 1, none⟩ = some (.slice (some ⟨cq, 0, none⟩) n n)) : Calls Try.prog 33 #[.pointer (some ⟨p, 0, none⟩)] w fun e w' => e = .returned (.int .i64 n) ∧ w = w' := by
  go_enter Try.func33, Try.ntmps33
  go_wp2
  go_ret
  exact ⟨rfl, rfl⟩
/-- Whether there is a thread. -/
def inB (n : Nat) (t : Int) : Bool := decide (0 ≤ t) && decide (t < n)
theorem inB_iff (n : Nat) (t : Int) : inB n t = true ↔ 0 ≤ t ∧ t < n := by simp [inB]
theorem mhas_of {v : Value} {n : Nat} (t : Int) {w : World} (hT : Calls Try.prog 33 #[v] w fun e w' => e = .returned (.int .i64 n) ∧ w = w') :
    Calls Try.prog 35 #[v, .int .i64 t] w fun e w' => e = .returned (.bool (inB n t)) ∧ w = w' := by
  have HT := Lib.hid hT
  clear hT
  by_cases h0 : 0 ≤ t
  · have hd : decide (t ≥ 0) = true := decide_eq_true h0
    by_cases h1 : t < n
    · have hd2 : decide (t < (n : Int)) = true := decide_eq_true h1
      have HR : Hid (inB n t = true) := Lib.hid ((inB_iff n t).2 ⟨h0, h1⟩)
      clear h0 h1
      go_enter Try.func35, Try.ntmps35
      go_wp2_with (go_at_call 33; refine HT.out.mono ?_; rintro e w' ⟨rfl, rfl⟩)
      go_ret
      exact ⟨ret_bool HR.out.symm, rfl⟩
    · have hd2 : decide (t < (n : Int)) = false := decide_eq_false h1
      have HR : Hid (inB n t = false) := Lib.hid (by unfold inB; rw [hd2, Bool.and_false])
      clear h0 h1
      go_enter Try.func35, Try.ntmps35
      go_wp2_with (go_at_call 33; refine HT.out.mono ?_; rintro e w' ⟨rfl, rfl⟩)
      go_ret
      exact ⟨ret_bool HR.out.symm, rfl⟩
  · have hd : decide (t ≥ 0) = false := decide_eq_false (by omega)
    have HR : Hid (inB n t = false) := Lib.hid (by unfold inB; rw [decide_eq_false h0, Bool.false_and])
    clear h0
    go_enter Try.func35, Try.ntmps35
    go_wp2
    go_ret
    exact ⟨ret_bool HR.out.symm, rfl⟩

/-! ### Waits, Held -/
theorem mwaits_nil (t : Int) (w : World) : Calls Try.prog 31 #[.pointer none, .int .i64 t] w fun e w' => e = .returned (.int .i64 0) ∧ w = w' := by
  have HH := Lib.hid (mhas_of t (mthr_nil w))
  have hb : inB 0 t = false := by unfold inB; simp
  rw [hb] at HH
  clear hb
  go_enter Try.func31, Try.ntmps31
  go_wp2_with (go_at_call 35; refine HH.out.mono ?_; rintro e w' ⟨rfl, rfl⟩)
  go_ret
  exact ⟨rfl, rfl⟩
def waitsV (n : Nat) (C : Nat → List Int) (t : Int) : Nat := if inB n t = true then (C t.toNat).length else 0
theorem mwaits_at {N : Nat → Prop} {w : World} {A : Mb} {K : Nat → Nat} {cnt : Nat} {CV : Nat → Value} {C : Nat → List Int} {HV : Int → Int → Value} {H : Int → Int → List Int} (h : Ml N w A K cnt CV C HV H) (t : Int) :
    Calls Try.prog 31 #[.pointer (some ⟨A.p, 0, none⟩), .int .i64 t] w fun e w' => e = .returned (.int .i64 (waitsV A.n C t : Nat)) ∧ w = w' := by
  have HH := Lib.hid (mhas_of t (mthr_core h.c1))
  cases hb : inB A.n t with
  | false =>
    rw [hb] at HH
    have hv : waitsV A.n C t = 0 := by unfold waitsV; rw [hb]; rfl
    rw [hv]
    clear hb h hv
    go_enter Try.func31, Try.ntmps31
    go_wp2_with (go_at_call 35; refine HH.out.mono ?_; rintro e w' ⟨rfl, rfl⟩)
    go_ret
    exact ⟨rfl, rfl⟩
  | true =>
    obtain ⟨h0, h1⟩ := (inB_iff _ _).1 hb
    have hv : waitsV A.n C t = (C t.toNat).length := by unfold waitsV; rw [hb]; rfl
    rw [hv]
    obtain ⟨k, rfl⟩ : ∃ k : Nat, t = k := ⟨t.toNat, by omega⟩
    have c1 := h.c1
    have ck := h.cv.c k (by omega)
    have hs := (h.own.c k).rd.shape
    obtain ⟨A0, cap, e, -, -⟩ := hs
    rw [Int.toNat_natCast]
    rw [e] at ck
    rw [hb] at HH
    clear hb h hv e
    generalize (C k).length = m at *
    go_enter Try.func31, Try.ntmps31
    go_wp2_with (go_at_call 35; refine HH.out.mono ?_; rintro e w' ⟨rfl, rfl⟩)
    go_ret
    exact ⟨rfl, rfl⟩
/-- How many one holds for the first k. -/
def heldN (H : Int → Int → List Int) (f : Int) : Nat → Nat
  | 0 => 0
  | k + 1 => heldN H f k + (H f k).length
theorem heldN_le {H : Int → Int → List Int} {f : Int} {b : Nat} (h : ∀ f t, (H f t).length ≤ b) : ∀ k, heldN H f k ≤ k * b
  | 0 => by simp [heldN]
  | k + 1 => by have := heldN_le (f := f) h k; have := h f k; simp only [heldN, Nat.add_mul]; omega
theorem mheld_nil (f : Int) (w : World) : Calls Try.prog 32 #[.pointer none, .int .i64 f] w fun e w' => e = .returned (.int .i64 0) ∧ w = w' := by
  go_enter Try.func32, Try.ntmps32
  go_wp2_with (go_at_call 33; refine (mthr_nil _).mono ?_; rintro e w' ⟨rfl, rfl⟩)
  go_loop [5, 9] (fun s i => i = .int .i64 0 ∧ s = .int .i64 0) (fun _ _ => 0)
  case atStart => exact ⟨rfl, rfl⟩
  case round =>
    obtain ⟨rfl, rfl⟩ := hrel
    go_wp2
    go_ret
    exact ⟨rfl, rfl⟩
set_option maxRecDepth 100000 in
set_option maxHeartbeats 1000000 in
theorem mheld_at {N : Nat → Prop} {w : World} {A : Mb} {K : Nat → Nat} {cnt : Nat} {CV : Nat → Value} {C : Nat → List Int} {HV : Int → Int → Value} {H : Int → Int → List Int} (h : Ml N w A K cnt CV C HV H) (f : Int) (hf : WF f) :
    Calls Try.prog 32 #[.pointer (some ⟨A.p, 0, none⟩), .int .i64 f] w fun e w' => e = .returned (.int .i64 (heldN H f A.n : Nat)) ∧ w = w' := by
  have HT := Lib.hid (mthr_core h.c1)
  have HM := Lib.hid h
  have HF := Lib.hid hf
  have c2 := h.c2
  have hn64 : (A.n : Int) ≤ 64 := by have := h.n64; omega
  clear h hf
  go_enter Try.func32, Try.ntmps32
  go_wp2_with (go_at_call 33; refine HT.out.mono ?_; rintro e w' ⟨rfl, rfl⟩)
  clear HT
  go_loop [5, 9] (fun s i => ∃ k : Nat, k ≤ A.n ∧ i = .int .i64 k ∧ s = .int .i64 (heldN H f k : Nat)) (fun _ i => A.n - (intOf i).toNat)
  case atStart => exact ⟨0, by omega, rfl, rfl⟩
  case round =>
    obtain ⟨k, hk, rfl, rfl⟩ := hrel
    by_cases hlt : k < A.n
    · have hki : (k : Int) < A.n := by omega
      have hl : (Instr.lookup 60 (.map (some A.mb)) (.agg #[.int .i64 f, .int .i64 k]) false).run Try.prog w = .ok (HV f k) w := HM.out.mp.look HF.out ⟨by omega, by omega⟩
      obtain ⟨A0, cap, e, -, -⟩ := (HM.out.own.h f k).rd.shape
      rw [e] at hl
      have h1 := heldN_le (H := H) (f := f) (b := 64) (fun f t => by have := HM.out.lh f t; have := HM.out.b64; omega) k
      have h2 := HM.out.lh f k
      have h3 := HM.out.b64
      have HE : Hid (heldN H f (k + 1) = heldN H f k + (H f k).length) := Lib.hid rfl
      have hb1 : ((heldN H f k : Nat) : Int) ≤ 4096 := by omega
      have hb2 : (((H f k).length : Nat) : Int) ≤ 64 := by omega
      have HLT := Lib.hid hlt
      clear h1 h2 h3 e hlt hk
      generalize heldN H f k = s at *
      generalize (H f k).length = m at *
      go_wp2
      go_round
      case rel => exact ⟨k + 1, by have := HLT.out; omega, by go_num, by rw [HE.out]; go_num⟩
      case measure => have := HLT.out; simp [intOf]; omega
    · obtain rfl : k = A.n := by omega
      have hki : ¬ (A.n : Int) < A.n := by omega
      go_wp2
      go_ret
      exact ⟨rfl, rfl⟩
end Go.Proofs.Ytldpljfanlhooaa
