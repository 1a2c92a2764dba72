/- The law's has; the code's ledger beside both regions. -/
import Derived.Test.YtgnfcklippjeeaaGreatVC
import Derived.Test.YtgnfcklippjeeaaGreatVB
import Derived.Test.YtgnfcklippjeeaaGreatPD
namespace Go.Proofs.YtgnfcklippjeeaaGreat
open Go.RowKit
open Sl (Cls bs upd LnkIs)
open Lg (pgs)

/-- A list of places in memory. -/
def LsAt (w : World) (v : Value) (L : List Pc) : Prop := ∃ A c, v = .slice A L.length c ∧ L.length ≤ c ∧ L.length ≤ 4096 ∧ (L.length = 0 ∨ ∃ g, A = some ⟨g, 0, none⟩ ∧ g < w.heap.size ∧ ∀ j u, (pcells L)[j]? = some u → w.cell? ⟨g, j, none⟩ = some u)
def hasB (L : List Pc) (a : Int) : Bool := L.any (fun p => decide ((p.b : Int) = a))
theorem hasB_yes {L : List Pc} {a : Int} {p : Pc} (hp : p ∈ L) (h : (p.b : Int) = a) : hasB L a = true := List.any_eq_true.2 ⟨p, hp, decide_eq_true h⟩
theorem hasB_no {L : List Pc} {a : Int} (h : ∀ p, p ∈ L → (p.b : Int) ≠ a) : hasB L a = false := List.any_eq_false.2 (fun p hp => by simpa using h p hp)
theorem hasB_t {L : List Pc} {a : Int} (h : hasB L a = true) : ∃ p, p ∈ L ∧ (p.b : Int) = a := by
  obtain ⟨p, hp, h⟩ := List.any_eq_true.1 h
  exact ⟨p, hp, of_decide_eq_true h⟩
theorem hasB_f {L : List Pc} {a : Int} (h : hasB L a = false) {p : Pc} (hp : p ∈ L) : (p.b : Int) ≠ a := fun e => by
  rw [hasB_yes hp e] at h; cases h
set_option maxRecDepth 100000 in
set_option maxHeartbeats 2000000 in
theorem has_at {w : World} {v : Value} {L : List Pc} (h : LsAt w v L) (a : Int) :
    Calls Tryz.prog 47 #[v, .int .i64 a] w fun e w' => e = .returned (.bool (hasB L a)) ∧ w.grownBy w' none := by
  obtain ⟨A1, cc, rfl, h1, h2, h3⟩ := h
  have HEL := Lib.hid h3
  obtain ⟨nl, hnl⟩ : ∃ nl, L.length = nl := ⟨_, rfl⟩
  have HNL := Lib.hid hnl
  rw [hnl] at h1 h2 ⊢
  have hni : (nl : Int) ≤ 4096 := by omega
  clear h1 h2 h3 hnl
  go_enter Tryz.func47, Tryz.ntmps47
  go_wp2_with fail
  obtain ⟨w1, hw1⟩ : ∃ w1 : World, w1 = w := ⟨_, rfl⟩
  clear hw1
  go_loopw [9] (fun i wr => ∃ j : Nat, j ≤ nl ∧ i = .int .i64 j ∧ w.grownBy wr none ∧ ∀ i (hi : i < L.length), i < j → (L[i].b : Int) ≠ a) (fun i _ => nl - (intOf i).toNat)
  case atStart => exact ⟨0, by omega, rfl, grown_refl _ _, fun _ _ h => by omega⟩
  case round =>
    obtain ⟨j, hj, rfl, hg, hno⟩ := hrel
    have HG := Lib.hid hg
    have HNO := Lib.hid hno
    clear hg hno
    by_cases hjl : j < nl
    · have hkl : j < L.length := by rw [HNL.out]; exact hjl
      obtain ⟨gq, rfl, -, hcl⟩ := HEL.out.resolve_left (by rw [HNL.out]; omega)
      have hji : (j : Int) < nl := by omega
      have hj40 : (j : Int) ≤ 4096 := by omega
      obtain ⟨u0, u1, u2, u3, u4, u5⟩ := pcells_at L j hkl
      have c0 := HG.out.cell (hcl _ _ u0) (by simp)
      have c1 := HG.out.cell (hcl _ _ u1) (by simp)
      have c2 := HG.out.cell (hcl _ _ u2) (by simp)
      have c3 := HG.out.cell (hcl _ _ u3) (by simp)
      have c4 := HG.out.cell (hcl _ _ u4) (by simp)
      have c5 := HG.out.cell (hcl _ _ u5) (by simp)
      have HP := Lib.hid (List.getElem_mem hkl)
      have HNX : Hid ((((L[j]'hkl).b : Nat) : Int) ≠ a → ∀ i (hi : i < L.length), i < j + 1 → (L[i].b : Int) ≠ a) := Lib.hid (fun hne i hi hij => by
        by_cases e : i < j
        · exact HNO.out i hi e
        · obtain rfl : i = j := by omega
          exact hne)
      obtain ⟨p, hp⟩ : ∃ p, L[j]'hkl = p := ⟨_, rfl⟩
      rw [hp] at c0 c1 c2 c3 c4 c5 HP HNX
      have HJ : Hid (j < nl) := Lib.hid hjl
      clear u0 u1 u2 u3 u4 u5 hcl hp hjl hj hkl
      obtain ⟨pb, hpb⟩ : ∃ pb : Int, ((p.b : Nat) : Int) = pb := ⟨_, rfl⟩
      have HPB := Lib.hid hpb
      rw [hpb] at c2 HNX
      generalize ((p.g : Nat) : Int) = pg at *
      generalize ((p.k : Nat) : Int) = pk at *
      generalize ((p.z : Nat) : Int) = pz at *
      generalize ((p.st : Nat) : Int) = ps at *
      generalize p.gr = pr at *
      clear hpb
      have HGA := Lib.hid (grown_trans HG.out (grown_alloc wr (.cells #[.int .i64 pg, .int .i64 pk, .int .i64 pb, .int .i64 pz, .int .i64 ps, .bool pr] 37) none))
      obtain ⟨x0, x1, x2, x3, x4, x5⟩ := sx_alloc wr (.int .i64 pg) (.int .i64 pk) (.int .i64 pb) (.int .i64 pz) (.int .i64 ps) (.bool pr) 37
      by_cases e : pb = a
      · have he : (pb == a) = true := by simpa using e
        have HT := Lib.hid (hasB_yes HP.out (HPB.out.trans e))
        clear e
        go_wp2
        go_ret
        exact ⟨by rw [HT.out]; rfl, HGA.out⟩
      · have he : (pb == a) = false := by simpa using e
        have HN := Lib.hid (HNX.out e)
        clear e
        go_wp2
        go_roundw
        case rel => exact ⟨j + 1, by have := HJ.out; omega, by go_num, HGA.out, HN.out⟩
        case measure => have := HJ.out; simp [intOf]; omega
    · obtain rfl : j = nl := by omega
      have hji : ¬ (j : Int) < j := by omega
      have HF : Hid (hasB L a = false) := Lib.hid (hasB_no (fun p hp => by
        obtain ⟨i, hi, rfl⟩ := List.mem_iff_getElem.1 hp
        exact HNO.out i hi (by rw [← HNL.out]; exact hi)))
      clear hj hjl
      go_wp2
      go_ret
      exact ⟨by rw [HF.out]; rfl, HG.out⟩
/-- A place that has a live byte. -/
theorem at_lv {V : St} (ok : V.Ok) {a : Int} {x : Option Pc} {p : Pc} (hx : V.At a x) (hv : lvV x = some p) : Lv V p := by
  obtain ⟨rfl, hst⟩ := lvV_some hv
  cases hx with
  | slot g d x e hg hn hl => exact .slot g d _ hl (slot_lt (ok.sl g d hl).2.2.c x).1 hst
  | great g h x e hg hn hl hz => exact .great h hz.1
theorem lv_lvV {p : Pc} (h : p.st = 1) : lvV (some p) = some p := if_pos h
theorem lvS_len2 {V : St} (ok : V.Ok) : (lvL V V.m).length ≤ 4096 := by
  have := lvL_len ok V.m
  have := ok.mn
  have := ok.n256
  omega
end Go.Proofs.YtgnfcklippjeeaaGreat
