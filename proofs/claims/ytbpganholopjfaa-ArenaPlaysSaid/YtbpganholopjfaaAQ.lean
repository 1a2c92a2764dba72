/- Acts; the walk of the law's right. -/
import Derived.Test.YtbpganholopjfaaAP
namespace Go.Proofs.Ytbpganholopjfaa
open Go.RowKit

/-- An act. -/
structure A3 where
  k : Int
  a : Int
  x : Nat
instance : Inhabited A3 := ⟨⟨0, 0, 0⟩⟩
structure ActAt (w : World) (b o : Nat) (t : A3) : Prop where
  c0 : w.cell? ⟨b, o, none⟩ = some (.int .i64 t.k)
  c1 : w.cell? ⟨b, o + 1, none⟩ = some (.int .i64 t.a)
  c2 : w.cell? ⟨b, o + 2, none⟩ = some (.int .u64 t.x)
  lt : t.x < 18446744073709551616
def ActsAt (w : World) (A : Option Addr) (n : Nat) (F : Nat → A3) : Prop := n = 0 ∨ ∃ b off, A = some ⟨b, off, none⟩ ∧ b < w.heap.size ∧ ∀ i, i < n → ActAt w b (off + i * 3) (F i)
theorem ActAt.grown {w w' : World} {b o : Nat} {t : A3} (h : ActAt w b o t) (g : w.grownBy w' none) : ActAt w' b o t := ⟨g.cell h.c0 (by simp), g.cell h.c1 (by simp), g.cell h.c2 (by simp), h.lt⟩
theorem ActsAt.grown {w w' : World} {A : Option Addr} {n : Nat} {F : Nat → A3} (h : ActsAt w A n F) (g : w.grownBy w' none) : ActsAt w' A n F :=
  h.imp id (fun ⟨b, off, e, hb, h⟩ => ⟨b, off, e, Nat.lt_of_lt_of_le hb g.size, fun i hi => (h i hi).grown g⟩)
theorem ActAt.fr {may : Nat → Prop} {w w' : World} {b o : Nat} {t : A3} (h : ActAt w b o t) (g : Fr may w w') (hb : ¬ may b) : ActAt w' b o t := ⟨g.cell h.c0 hb, g.cell h.c1 hb, g.cell h.c2 hb, h.lt⟩

def acell (t : A3) : Nat → Value
  | 0 => .int .i64 t.k
  | 1 => .int .i64 t.a
  | _ => .int .u64 t.x
def acells (F : Nat → A3) (n : Nat) : List Value := (List.range (n * 3)).map fun i => acell (F (i / 3)) (i % 3)
theorem acells_length (F : Nat → A3) (n : Nat) : (acells F n).length = n * 3 := by simp [acells]
theorem acells_at (F : Nat → A3) (n i : Nat) (h : i < n * 3) : (acells F n)[i]? = some (acell (F (i / 3)) (i % 3)) := by simp [acells, h]
theorem acells_snoc (F : Nat → A3) (n : Nat) : acells F (n + 1) = acells F n ++ [.int .i64 (F n).k, .int .i64 (F n).a, .int .u64 ((F n).x : Nat)] := by
  apply List.ext_getElem?
  intro i
  by_cases h : i < n * 3
  · rw [acells_at F (n + 1) i (by omega), List.getElem?_append_left (by rw [acells_length]; exact h), acells_at F n i h]
  · by_cases h2 : i < (n + 1) * 3
    · rw [acells_at F (n + 1) i h2, List.getElem?_append_right (by rw [acells_length]; omega), acells_length]
      obtain ⟨r, hr, rfl⟩ : ∃ r, r < 3 ∧ i = n * 3 + r := ⟨i - n * 3, by omega, by omega⟩
      rw [show (n * 3 + r) / 3 = n by omega, show (n * 3 + r) % 3 = r by omega, show n * 3 + r - n * 3 = r by omega]
      match r, hr with
      | 0, _ => rfl
      | 1, _ => rfl
      | 2, _ => rfl
    · rw [List.getElem?_eq_none (by rw [acells_length]; omega), List.getElem?_eq_none (by rw [List.length_append, acells_length]; simp; omega)]
def ActsOwn (w : World) (B : Nat) (v : Value) (n : Nat) (F : Nat → A3) : Prop := w.ownsRow B 53 3 v n (acells F n)
theorem own_shape {w : World} {B n size : Nat} {e : TypeId} {v : Value} {xs : List Value} (h : w.ownsRow B e size v n xs) : ∃ A c, v = .slice A n c := by
  obtain ⟨-, ⟨h1, h2⟩ | ⟨g, cap, cur, rfl, _⟩⟩ := h
  · exact ⟨none, 0, by rw [h1, h2]⟩
  · exact ⟨_, _, rfl⟩
theorem acts_of_own {w : World} {B n : Nat} {F : Nat → A3} {A : Option Addr} {c : Nat} (h : ActsOwn w B (.slice A n c) n F) (hx : ∀ i, i < n → (F i).x < 18446744073709551616) : ActsAt w A n F := by
  obtain ⟨-, ⟨h1, h2⟩ | ⟨g, cap, cur, e, hbg, hh, hnc, hcm, hcs, htake⟩⟩ := h
  · exact .inl h2
  · injection e with e1 _ _
    refine .inr ⟨g, 0, e1, (Array.getElem?_eq_some_iff.1 hh).1, fun i hi => ?_⟩
    have key : ∀ j, j < n * 3 → w.cell? ⟨g, j, none⟩ = some (acell (F (j / 3)) (j % 3)) := fun j hj => by
      have e : w.cell? ⟨g, j, none⟩ = cur[j]? := by simp only [World.cell?, hh]; rfl
      have t := congrArg (fun l => l[j]?) htake
      simp only [List.getElem?_take, hj, if_true, Array.getElem?_toList] at t
      rw [e, t, acells_at F n j hj]
    rw [Nat.zero_add]
    exact ⟨by rw [key _ (by omega), show i * 3 / 3 = i by omega, show i * 3 % 3 = 0 by omega]; rfl, by rw [key _ (by omega), show (i * 3 + 1) / 3 = i by omega, show (i * 3 + 1) % 3 = 1 by omega]; rfl, by rw [key _ (by omega), show (i * 3 + 2) / 3 = i by omega, show (i * 3 + 2) % 3 = 2 by omega]; rfl, hx i hi⟩

/-- Is it of a kind? -/
def okA (t : A3) : Prop := 0 ≤ t.k ∧ t.k ≤ 2
instance (t : A3) : Decidable (okA t) := by unfold okA; infer_instance
def getA (R : List A3) (i : Nat) : A3 := R.getD i default
theorem getA_lt (R : List A3) (t : A3) (i : Nat) (h : i < R.length) : getA (R ++ [t]) i = getA R i := by simp [getA, List.getD, List.getElem?_append_left h]
theorem getA_end (R : List A3) (t : A3) : getA (R ++ [t]) R.length = t := by simp [getA, List.getD]
theorem acells_congr {F G : Nat → A3} {n : Nat} (h : ∀ i, i < n → F i = G i) : acells F n = acells G n := by
  apply List.ext_getElem?
  intro i
  by_cases hi : i < n * 3
  · rw [acells_at F n i hi, acells_at G n i hi, h _ (by omega)]
  · rw [List.getElem?_eq_none (by rw [acells_length]; omega), List.getElem?_eq_none (by rw [acells_length]; omega)]
theorem acells_onto (R : List A3) (t : A3) : acells (getA (R ++ [t])) (R.length + 1) = acells (getA R) R.length ++ [.int .i64 t.k, .int .i64 t.a, .int .u64 (t.x : Nat)] := by
  rw [acells_snoc, getA_end, acells_congr (fun i hi => getA_lt R t i hi)]
/-- Those of the first k acts that are of a kind, not too many. -/
def rgt (F : Nat → A3) : Nat → List A3
  | 0 => []
  | k + 1 => if (rgt F k).length < 12 ∧ okA (F k) then rgt F k ++ [F k] else rgt F k
theorem rgt_len (F : Nat → A3) : ∀ k, (rgt F k).length ≤ 12
  | 0 => by simp [rgt]
  | k + 1 => by
    have := rgt_len F k
    unfold rgt
    split
    · rw [List.length_append]; simp; omega
    · exact this
theorem rgt_ok (F : Nat → A3) : ∀ k, ∀ t ∈ rgt F k, okA t
  | 0 => by simp [rgt]
  | k + 1 => by
    have := rgt_ok F k
    unfold rgt
    split
    · rename_i h
      intro t ht
      rcases List.mem_append.1 ht with ht | ht
      · exact this t ht
      · rw [List.mem_singleton.1 ht]; exact h.2
    · exact this
theorem rgt_x (F : Nat → A3) (n : Nat) (hF : ∀ i, i < n → (F i).x < 18446744073709551616) : ∀ k, k ≤ n → ∀ t ∈ rgt F k, t.x < 18446744073709551616
  | 0, _ => by simp [rgt]
  | k + 1, hk => by
    have := rgt_x F n hF k (by omega)
    unfold rgt
    split
    · intro t ht
      rcases List.mem_append.1 ht with ht | ht
      · exact this t ht
      · rw [List.mem_singleton.1 ht]; exact hF k (by omega)
    · exact this
theorem getA_mem {R : List A3} {i : Nat} (h : i < R.length) : getA R i ∈ R := by
  simp [getA, List.getD, List.getElem?_eq_getElem h]
def ROwn (w : World) (B : Nat) (v : Value) (R : List A3) : Prop := w.ownsRow B 53 3 v R.length (acells (getA R) R.length)
theorem ronto_end {w wr w1 : World} {R : List A3} {t : A3} {s v' : Value} (o : Obj) (hg : w.grownBy wr none) (hown : ROwn wr w.heap.size s R) (h2 : w1.ownsRow w.heap.size 53 3 v' (R.length + 1) (acells (getA R) R.length ++ [.int .i64 t.k, .int .i64 t.a, .int .u64 (t.x : Nat)])) (h3 : (wr.alloc o).grownBy w1 s.ownBlock) :
    ROwn w1 w.heap.size v' (R ++ [t]) ∧ w.grownBy w1 none := by
  refine ⟨?_, grown_onto (grown_trans hg (World.grownBy_alloc wr o none)) h3 (fun q hq => (World.ownsRow.lt hown q hq).1)⟩
  unfold ROwn
  rw [List.length_append, List.length_singleton, acells_onto]
  exact h2
theorem three_cells (w : World) (a b c : Value) (t : TypeId) (j : Nat) (u : Value) (h : ([a, b, c] : List Value)[j]? = some u) : (w.alloc (.cells #[a, b, c] t)).cell? ((⟨w.heap.size, 0, none⟩ : Addr).add j) = some u := by
  rw [aaddr_add, cell_alloc_new]
  simpa using h

theorem infoAct : (Try.prog.info? 53).map (fun i => (i.zero, i.size, i.bytes)) = some (some (.agg #[.int .i64 0, .int .i64 0, .int .u64 0]), 3, 24) := by kernel_rfl

set_option maxRecDepth 100000 in
set_option maxHeartbeats 2000000 in
theorem right_at (A : Option Addr) (n c : Nat) (F : Nat → A3) (w : World) (hn : n ≤ 9223372036854775807) (hc : n ≤ c) (hA : ActsAt w A n F) :
    Calls Try.prog 21 #[.slice A n c] w fun e w' => ∃ v, e = .returned v ∧ ROwn w' w.heap.size v (rgt F n) ∧ w.grownBy w' none := by
  obtain ⟨i0, hi, hz0, hz1, hz2⟩ := info_parts infoAct
  have HA := Lib.hid hA
  clear hA
  go_enter Try.func21, Try.ntmps21
  go_wp2_with fail
  go_loopw [3, 8] (fun s i wr => ∃ k : Nat, k ≤ n ∧ i = .int .i64 k ∧ ROwn wr w.heap.size s (rgt F k) ∧ w.grownBy wr none) (fun _ i _ => n - (intOf i).toNat)
  case atStart => exact ⟨0, by omega, rfl, World.ownsRow_nil _ _ _ _, grown_refl _ _⟩
  case round =>
    obtain ⟨k, hk, rfl, hown, hg⟩ := hrel
    obtain ⟨A1, c1, rfl⟩ := own_shape hown
    have HO := Lib.hid hown
    have HG := Lib.hid hg
    have hlen : (rgt F k).length ≤ 12 := rgt_len F k
    clear hown hg
    by_cases hlt : k < n
    · obtain ⟨b, off, rfl, hbl, hact⟩ : ∃ b off, A = some ⟨b, off, none⟩ ∧ b < w.heap.size ∧ ∀ i, i < n → ActAt w b (off + i * 3) (F i) := by
        rcases HA.out with h0 | h; omega; exact h
      have hat := (hact k hlt).grown HG.out
      have e0 := hat.c0
      have e1 := hat.c1
      have e2 := hat.c2
      have HX := Lib.hid hat.lt
      have HP : Hid (rgt F (k + 1) = if (rgt F k).length < 12 ∧ okA (F k) then rgt F k ++ [F k] else rgt F k) := Lib.hid rfl
      clear hact hat
      generalize hL : rgt F k = L at *
      have HL := Lib.hid hL
      clear hL
      generalize hT : F k = t at *
      have HT := Lib.hid hT
      clear hT
      go_upto_region 5 with (fail)
      obtain ⟨xb, hxb⟩ : ∃ xb, xb = wr.heap.size := ⟨_, rfl⟩
      rw [← hxb]
      have x0 : (wr.alloc (.cells #[.int .i64 t.k, .int .i64 t.a, .int .u64 (t.x : Nat)] 53)).cell? ⟨xb, 0, none⟩ = some (.int .i64 t.k) := by rw [hxb, cell_alloc_new]; rfl
      have x1 : (wr.alloc (.cells #[.int .i64 t.k, .int .i64 t.a, .int .u64 (t.x : Nat)] 53)).cell? ⟨xb, 1, none⟩ = some (.int .i64 t.a) := by rw [hxb, cell_alloc_new]; rfl
      have x2 : (wr.alloc (.cells #[.int .i64 t.k, .int .i64 t.a, .int .u64 (t.x : Nat)] 53)).cell? ⟨xb, 2, none⟩ = some (.int .u64 (t.x : Nat)) := by rw [hxb, cell_alloc_new]; rfl
      have HO1 : Hid (ROwn (wr.alloc (.cells #[.int .i64 t.k, .int .i64 t.a, .int .u64 (t.x : Nat)] 53)) w.heap.size (.slice A1 L.length c1) L) := Lib.hid (World.ownsRow.alloc HO.out _)
      have HG1 : Hid (w.grownBy (wr.alloc (.cells #[.int .i64 t.k, .int .i64 t.a, .int .u64 (t.x : Nat)] 53)) none) := Lib.hid (grown_trans HG.out (grown_alloc _ _ _))
      generalize wr.alloc (.cells #[.int .i64 t.k, .int .i64 t.a, .int .u64 (t.x : Nat)] 53) = w1 at x0 x1 x2 HO1 HG1 ⊢
      clear hxb HO HG e0 e1 e2
      obtain ⟨ln, hln⟩ : ∃ ln, ln = L.length := ⟨_, rfl⟩
      rw [← hln] at HO1 HP hlen ⊢
      have HLN := Lib.hid hln
      clear hln
      by_cases h1 : ln < 12
      · have d1 : decide ((ln : Int) < 12) = true := decide_eq_true (by omega)
        by_cases h2 : 0 ≤ t.k
        · have d2 : decide (0 ≤ t.k) = true := decide_eq_true h2
          by_cases h3 : t.k ≤ 2
          · have d3 : decide (t.k ≤ 2) = true := decide_eq_true h3
            have HP2 : Hid (rgt F (k + 1) = L ++ [t]) := by rw [if_pos ⟨h1, h2, h3⟩] at HP; exact HP
            clear HP
            go_wp2_with (at_builtin; refine wpList_append_own _ rfl _ _ 28 rfl w.heap.size 53 i0 (.agg #[.int .i64 0, .int .i64 0, .int .u64 0]) 3 24 Try.underlying28 hi hz0 hz1 hz2 rfl (by decide) _ _ _ rfl (HO1.out.alloc _) ⟨w1.heap.size, 0, none⟩ 1 1 [.int .i64 t.k, .int .i64 t.a, .int .u64 (t.x : Nat)] rfl ?c1 ?c2 ?c3 ?c4 ?c5 ?c6 ?_)
            case c1 => rfl
            case c2 => exact fun j u hj => three_cells w1 _ _ _ _ j u hj
            case c3 => exact fun u hu => by simp at hu; rcases hu with rfl | rfl | rfl <;> rfl
            case c4 => have := HLN.out; simp only [maxLen]; omega
            case c5 => have := HLN.out; omega
            case c6 => have := HG1.out.size; simp; omega
            intro v' w2 h2' h3' h4'
            have HE := Lib.hid (ronto_end (t := t) _ HG1.out HO1.out h2' h3')
            clear h2' h3' h4'
            go_wp2
            go_roundw
            case rel => exact ⟨k + 1, by omega, by go_num, by rw [HP2.out]; exact HE.out.1, HE.out.2⟩
            case measure => simp [intOf]; omega
          · have d3 : decide (t.k ≤ 2) = false := decide_eq_false h3
            have HP2 : Hid (rgt F (k + 1) = L) := by rw [if_neg (fun h => h3 h.2.2)] at HP; exact HP
            clear HP
            go_wp2
            go_roundw
            case rel => exact ⟨k + 1, by omega, by go_num, by rw [HP2.out]; exact HO1.out, HG1.out⟩
            case measure => simp [intOf]; omega
        · have d2 : decide (0 ≤ t.k) = false := decide_eq_false h2
          have HP2 : Hid (rgt F (k + 1) = L) := by rw [if_neg (fun h => h2 h.2.1)] at HP; exact HP
          clear HP
          go_wp2
          go_roundw
          case rel => exact ⟨k + 1, by omega, by go_num, by rw [HP2.out]; exact HO1.out, HG1.out⟩
          case measure => simp [intOf]; omega
      · have d1 : decide ((ln : Int) < 12) = false := decide_eq_false (by omega)
        have HP2 : Hid (rgt F (k + 1) = L) := by rw [if_neg (fun h => h1 h.1)] at HP; exact HP
        clear HP
        go_wp2
        go_roundw
        case rel => exact ⟨k + 1, by omega, by go_num, by rw [HP2.out]; exact HO1.out, HG1.out⟩
        case measure => simp [intOf]; omega
    · obtain rfl : k = n := by omega
      go_wp2
      go_ret
      exact ⟨_, rfl, HO.out, HG.out⟩
end Go.Proofs.Ytbpganholopjfaa
