/- The walks of a mail's New and All, of the law's awake, of RemoteNil. -/
import Derived.Test.YtldpljfanlhooaaMe
import Derived.Carry
namespace Go.Proofs.Ytldpljfanlhooaa
open Go.RowKit
open Is

/-- How many threads; how great a batch. -/
def thrV (k : Int) : Nat := if k < 0 then 0 else if 64 < k then 64 else k.toNat
def batV (k : Int) : Nat := if k < 1 then 1 else if 64 < k then 64 else k.toNat
theorem thrV_le (k : Int) : thrV k ≤ 64 := by unfold thrV; split; omega; split <;> omega
theorem batV_in (k : Int) : 1 ≤ batV k ∧ batV k ≤ 64 := by unfold batV; split; omega; split <;> omega
/-- A new mail. -/
def MlNew (w w' : World) (n b : Nat) (e : Ending) : Prop := ∃ A : Mb, e = .returned (.pointer (some ⟨A.p, 0, none⟩)) ∧ A.n = n ∧ A.b = b ∧ w.heap.size ≤ A.p ∧
  Mail (fun i => i < w.heap.size) w' A (fun _ => 0) 0 (fun _ => []) (fun _ _ => []) ∧ w.grownBy w' none
theorem ml_new (w : World) (n b : Nat) (hn : n ≤ 64) (hb : 1 ≤ b) (hb2 : b ≤ 64) : MlNew w (((w.alloc (.cells (zeroSl n) 25)).alloc (.map #[] 0)).alloc (.cells #[.int .i64 b, .slice (some ⟨w.heap.size, 0, none⟩) n n, .map (some (w.heap.size + 1))] 62)) n b (.returned (.pointer (some ⟨w.heap.size + 2, 0, none⟩))) := by
  have e1 : (w.alloc (.cells (zeroSl n) 25)).heap.size = w.heap.size + 1 := by simp
  have e2 : ((w.alloc (.cells (zeroSl n) 25)).alloc (.map #[] 0)).heap.size = w.heap.size + 2 := by simp
  have g1 := grown_alloc w (.cells (zeroSl n) 25) none
  have g2 := grown_alloc (w.alloc (.cells (zeroSl n) 25)) (.map #[] 0) none
  have g3 := grown_alloc ((w.alloc (.cells (zeroSl n) 25)).alloc (.map #[] 0)) (.cells #[.int .i64 b, .slice (some ⟨w.heap.size, 0, none⟩) n n, .map (some (w.heap.size + 1))] 62) none
  have hc : ∀ k, (((w.alloc (.cells (zeroSl n) 25)).alloc (.map #[] 0)).alloc (.cells #[.int .i64 b, .slice (some ⟨w.heap.size, 0, none⟩) n n, .map (some (w.heap.size + 1))] 62)).cell? ⟨w.heap.size + 2, k, none⟩ = (#[.int .i64 b, .slice (some ⟨w.heap.size, 0, none⟩) n n, .map (some (w.heap.size + 1))] : Array Value)[k]? := fun k => by
    rw [← e2]; exact cell_alloc_new _ _ _ k
  have hmm : (w.alloc (.cells (zeroSl n) 25)).alloc (.map #[] 0) |>.ownsMap Try.prog 67 slElem (w.heap.size + 1) 0 (.map []) := by
    have := World.ownsMap_made (w.alloc (.cells (zeroSl n) 25)) Try.prog 67 slElem
    rwa [e1] at this
  refine ⟨⟨w.heap.size + 2, w.heap.size, w.heap.size + 1, w.heap.size + 3, n, b⟩, rfl, rfl, rfl, by simp, ⟨fun _ => .slice none 0 0, fun _ _ => .slice none 0 0, ?_⟩, grown_trans (grown_trans g1 g2) g3⟩
  refine ⟨hc 0, hc 1, hc 2, ((sl_new w 25 n).kept g2 (by simp)).kept g3 (by simp), ⟨fun _ _ => .inl rfl, _, hmm.kept g3 (by simp), hIs_nil⟩, ⟨fun _ => ow_nil _ _, fun _ _ => ow_nil _ _, fun _ _ _ e => (by cases e), fun _ _ _ _ e => (by cases e), fun _ _ _ _ _ e => (by cases e)⟩,
    fun _ _ _ => rfl, fun _ _ => rfl, by simp, by simp, by simp, by simp, by simp, by simp, by simp, hn, hb, hb2, fun _ => by simp, fun _ _ => by simp, fun _ => by simp, by simp, by simp, by simp, by simp, fun _ _ e => (by cases e), fun _ _ _ e => (by cases e), fun i hi => by simp; omega⟩
theorem make_map (w : World) (o : Obj) : (Instr.makeMap 60 none).run Try.prog (w.alloc o) = .ok (.map (some (w.heap.size + 1))) ((w.alloc o).alloc (.map #[] 0)) := by
  have h := run_makeMap (P := Try.prog) 60 (w.alloc o)
  simpa using h
set_option maxRecDepth 100000 in
set_option maxHeartbeats 1000000 in
theorem mnew_at (k b : Int) (w : World) : Calls Try.prog 20 #[.int .i64 k, .int .i64 b] w fun e w' => MlNew w w' (thrV k) (batV b) e := by
  have HM := Lib.hid (ml_new w (thrV k) (batV b) (thrV_le k) (batV_in b).1 (batV_in b).2)
  have hmk : ∀ I : Int, I = (thrV k : Nat) → (Instr.makeSlice 59 (.int .i64 I) (.int .i64 I)).run Try.prog w = .ok (.slice (some ⟨w.heap.size, 0, none⟩) (thrV k) (thrV k)) (w.alloc (.cells (zeroSl (thrV k)) 25)) := fun I hI => by rw [hI]; exact make_sl w (thrV k) (by have := thrV_le k; omega)
  have hn64 := thrV_le k
  have hc : (k < 0 ∧ thrV k = 0) ∨ (64 < k ∧ thrV k = 64) ∨ (0 ≤ k ∧ k ≤ 64 ∧ ((thrV k : Nat) : Int) = k) := by
    unfold thrV; split
    · exact .inl ⟨by assumption, rfl⟩
    · split
      · exact .inr (.inl ⟨by assumption, rfl⟩)
      · exact .inr (.inr ⟨by omega, by omega, by omega⟩)
  have hd : (b < 1 ∧ batV b = 1) ∨ (64 < b ∧ batV b = 64) ∨ (1 ≤ b ∧ b ≤ 64 ∧ ((batV b : Nat) : Int) = b) := by
    unfold batV; split
    · exact .inl ⟨by assumption, rfl⟩
    · split
      · exact .inr (.inl ⟨by assumption, rfl⟩)
      · exact .inr (.inr ⟨by omega, by omega, by omega⟩)
  have hmap := make_map w (.cells (zeroSl (thrV k)) 25)
  generalize thrV k = n at *
  generalize batV b = m at *
  generalize zeroSl n = Z at *
  clear hn64
  rcases hc with ⟨h1, rfl⟩ | ⟨h1, rfl⟩ | ⟨h1, h2, rfl⟩
  · have hm0 := hmk 0 rfl
    clear hmk
    rcases hd with ⟨d1, rfl⟩ | ⟨d1, rfl⟩ | ⟨d1, d2, rfl⟩
    all_goals
      go_enter Try.func20, Try.ntmps20
      go_wp2
      go_ret
      exact HM.out
  · have hm0 := hmk 64 rfl
    clear hmk
    rcases hd with ⟨d1, rfl⟩ | ⟨d1, rfl⟩ | ⟨d1, d2, rfl⟩
    all_goals
      go_enter Try.func20, Try.ntmps20
      go_wp2
      go_ret
      exact HM.out
  · have hm0 := hmk _ rfl
    clear hmk
    rcases hd with ⟨d1, rfl⟩ | ⟨d1, rfl⟩ | ⟨d1, d2, rfl⟩
    all_goals
      go_enter Try.func20, Try.ntmps20
      go_wp2
      go_ret
      exact HM.out

/-! ### All -/
attribute [local go_sem ↓] appS_of
def hrow (H : Int → Int → List Int) (t : Int) : Nat → List Int
  | 0 => []
  | k + 1 => hrow H t k ++ H t k
def allL (n : Nat) (C : Nat → List Int) (H : Int → Int → List Int) : Nat → List Int
  | 0 => []
  | k + 1 => allL n C H k ++ (C k ++ hrow H k n)
theorem hrow_le {H : Int → Int → List Int} {t : Int} (h : ∀ f t, (H f t).length ≤ 64) : ∀ k, (hrow H t k).length ≤ k * 64
  | 0 => by simp [hrow]
  | k + 1 => by have := hrow_le (t := t) h k; have := h t k; simp only [hrow, List.length_append, Nat.add_mul]; omega
theorem allL_le {n : Nat} {C : Nat → List Int} {H : Int → Int → List Int} (hn : n ≤ 64) (h : ∀ f t, (H f t).length ≤ 64) (hc : ∀ t, (C t).length ≤ 9600) : ∀ k, (allL n C H k).length ≤ k * 13696
  | 0 => by simp [allL]
  | k + 1 => by
    have h1 := allL_le hn h hc k
    have h2 := hc k
    have h3 := hrow_le (H := H) (t := k) h n
    have : n * 64 ≤ 4096 := by omega
    simp only [allL, List.length_append, Nat.add_mul]
    omega
theorem mall_nil (w : World) : Calls Try.prog 30 #[.pointer none] w fun e w' => e = .returned (.slice none 0 0) ∧ w = w' := by
  go_enter Try.func30, Try.ntmps30
  go_wp2_with (go_at_call 33; refine (mthr_nil _).mono ?_; rintro e w' ⟨rfl, rfl⟩)
  go_loop [3, 8] (fun s i => i = .int .i64 0 ∧ s = .slice none 0 0) (fun _ _ => 0)
  case atStart => exact ⟨rfl, rfl⟩
  case round =>
    obtain ⟨rfl, rfl⟩ := hrel
    go_wp2
    go_ret
    exact ⟨rfl, rfl⟩
/-- A new slice that reads as a list. -/
def NewL (w w' : World) (l : List Int) (e : Ending) : Prop := ∃ v, e = .returned v ∧ Ow w' w.heap.size v l ∧ w.grownBy w' none
theorem ow_app_grown {w0 w w' : World} {v v' : Value} {xs ys : List Int} (h : w0.grownBy w none) (hv : Ow w w0.heap.size v xs) (ha : App w w' w0.heap.size v v' xs ys) : w0.grownBy w' none := by
  refine ⟨ha.grown.os.trans h.os, ha.grown.tape.trans h.tape, ha.grown.output.trans h.output, Nat.le_trans h.size ha.grown.size, fun i hi _ => ?_⟩
  refine (ha.grown.block i (Nat.lt_of_lt_of_le hi h.size) (fun e => ?_)).trans (h.block i hi (by simp))
  have := (hv.ge i e.symm).1
  omega
set_option maxRecDepth 100000 in
set_option maxHeartbeats 2000000 in
theorem mall_at {N : Nat → Prop} {w : World} {A : Mb} {K : Nat → Nat} {cnt : Nat} {CV : Nat → Value} {C : Nat → List Int} {HV : Int → Int → Value} {H : Int → Int → List Int} (h : Ml N w A K cnt CV C HV H) :
    Calls Try.prog 30 #[.pointer (some ⟨A.p, 0, none⟩)] w fun e w' => NewL w w' (allL A.n C H A.n) e := by
  have HT := Lib.hid (mthr_core h.c1)
  have HM := Lib.hid h
  have HN64 := Lib.hid h.n64
  have hn64 : (A.n : Int) ≤ 64 := by have := h.n64; omega
  have HL := Lib.hid (fun f t => Nat.le_trans (h.lh f t) h.b64)
  have HC := Lib.hid (fun t => show (C t).length ≤ 9600 by have := h.lc t; have := h.ks t; omega)
  clear h
  go_enter Try.func30, Try.ntmps30
  go_wp2_with (go_at_call 33; refine HT.out.mono ?_; rintro e w' ⟨rfl, rfl⟩)
  clear HT
  go_loopw [3, 8] (fun s i wr => ∃ k : Nat, k ≤ A.n ∧ i = .int .i64 k ∧ Ow wr w.heap.size s (allL A.n C H k) ∧ w.grownBy wr none) (fun _ i _ => A.n - (intOf i).toNat)
  case atStart => exact ⟨0, by omega, rfl, ow_nil _ _, grown_refl _ _⟩
  case round =>
    obtain ⟨k, hk, rfl, ho, hg⟩ := hrel
    have HO := Lib.hid (And.intro ho hg)
    clear ho hg
    by_cases hlt : k < A.n
    · have hki : (k : Int) < A.n := by omega
      have M1 := HM.out.grown HO.out.2
      have c1 := M1.c1
      have ck := M1.cv.c k hlt
      obtain ⟨A1, cap1, e1, -, -⟩ := (M1.own.c k).rd.shape
      have hrd := (M1.own.c k).rd
      have hb1 := allL_le HN64.out HL.out HC.out k
      have hb2 := HC.out k
      have HK : Hid (k < A.n ∧ k ≤ 64) := Lib.hid ⟨hlt, by have := HN64.out; omega⟩
      obtain ⟨v2, w2, happ, ha⟩ := app_runS HO.out.1 hrd (by omega) HO.out.2.size 25
      have HO2 : Hid (Ow w2 w.heap.size v2 (allL A.n C H k ++ C k) ∧ w.grownBy w2 none) := Lib.hid ⟨ha.own, ow_app_grown HO.out.2 HO.out.1 ha⟩
      have c12 := (HM.out.grown HO2.out.2).c1
      rw [e1] at ck happ
      clear M1 e1 hrd hb1 hb2 ha hlt hk HO
      generalize (C k).length = mc at *
      go_wp2_with fail
      clear happ ck c1
      go_loopw [3, 25] (fun s i wx => ∃ j : Nat, j ≤ A.n ∧ i = .int .i64 j ∧ Ow wx w.heap.size s (allL A.n C H k ++ (C k ++ hrow H k j)) ∧ w.grownBy wx none) (fun _ i _ => A.n - (intOf i).toNat)
      case atStart => exact ⟨0, by omega, rfl, by rw [show hrow H k 0 = [] from rfl, List.append_nil]; exact HO2.out.1, HO2.out.2⟩
      case round =>
        obtain ⟨j, hj, rfl, ho, hg⟩ := hrel
        have HO := Lib.hid (And.intro ho hg)
        clear ho hg
        by_cases hjt : j < A.n
        · have hji : (j : Int) < A.n := by omega
          have M1 := HM.out.grown HO.out.2
          have c2 := M1.c2
          have hlk : (Instr.lookup 60 (.map (some A.mb)) (.agg #[.int .i64 k, .int .i64 j]) false).run Try.prog wr = .ok (HV k j) wr := M1.mp.look ⟨by have := HK.out; omega, by have := HK.out; omega⟩ ⟨by have := HN64.out; omega, by have := HN64.out; omega⟩
          obtain ⟨A1, cap1, e1, -, -⟩ := (M1.own.h k j).rd.shape
          have hrd := (M1.own.h k j).rd
          have hb1 := allL_le HN64.out HL.out HC.out k
          have hb2 := HC.out k
          have hb3 := hrow_le (H := H) (t := k) HL.out j
          have hb4 := HL.out k j
          have HJ : Hid (j < A.n ∧ j ≤ 64) := Lib.hid ⟨hjt, by have := HN64.out; omega⟩
          obtain ⟨v3, w3, happ, ha⟩ := app_runS HO.out.1 hrd (by have := HK.out; have := HJ.out; simp only [List.length_append]; omega) HO.out.2.size 25
          have HO3 : Hid (Ow w3 w.heap.size v3 (allL A.n C H k ++ (C k ++ hrow H k (j + 1))) ∧ w.grownBy w3 none) := Lib.hid ⟨by have := ha.own; rw [List.append_assoc, List.append_assoc] at this; exact this, ow_app_grown HO.out.2 HO.out.1 ha⟩
          rw [e1] at hlk happ
          clear M1 e1 hrd hb1 hb2 hb3 hb4 ha hjt hj HO HO2 c12
          generalize (H k j).length = mh at *
          go_wp2
          go_roundw
          case rel => exact ⟨j + 1, by have := HJ.out; omega, by go_num, HO3.out⟩
          case measure => have := HJ.out; simp [intOf]; omega
        · obtain rfl : j = A.n := by omega
          have hji : ¬ (A.n : Int) < A.n := by omega
          go_wp2
          go_roundw
          case rel => exact ⟨k + 1, by have := HK.out; omega, by go_num, HO.out⟩
          case measure => have := HK.out; simp [intOf]; omega
    · obtain rfl : k = A.n := by omega
      have hki : ¬ (A.n : Int) < A.n := by omega
      go_wp2
      go_ret
      exact ⟨_, rfl, HO.out⟩
end Go.Proofs.Ytldpljfanlhooaa
