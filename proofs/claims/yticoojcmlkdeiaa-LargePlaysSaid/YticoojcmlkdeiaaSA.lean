/- Plain facts on a page of slots: where slots lie, what links stand in them, and what a call leaves of all that. Of no program but for the links' numbers. -/
import Derived.Test.YticoojcmlkdeiaaLA
import Derived.Test.YticoojcmlkdeiaaAM
import Derived.Test.YticoojcmlkdeiaaCA
namespace Go.Proofs.Yticoojcmlkdeiaa
namespace Ar
theorem wsum_congr {B B' : Nat → Nat} : ∀ (k : Nat), (∀ i, i < k → B i = B' i) → wsum B k = wsum B' k
  | 0, _ => rfl
  | k + 1, h => by
    simp only [wsum]
    rw [wsum_congr k (fun i hi => h i (by omega)), h k (by omega)]
theorem wordAt_congr {B B' : Nat → Nat} {a : Nat} (h : ∀ i, a ≤ i → i < a + 8 → B i = B' i) : wordAt B a = wordAt B' a :=
  wsum_congr 8 (fun i hi => h _ (by omega) (by omega))
theorem wsum_byt (v : Nat) : ∀ k, wsum (byt v) k = v % 256 ^ k
  | 0 => by simp [wsum, Nat.mod_one]
  | k + 1 => by
    simp only [wsum, byt]
    rw [wsum_byt v k, Nat.pow_succ, Nat.mod_mul]
    rw [Nat.mul_comm (256 ^ k)]
theorem wordAt_setW (B : Nat → Nat) (a v : Nat) (hv : v < 18446744073709551616) : wordAt (setW B a v) a = v := by
  unfold wordAt
  rw [wsum_congr (B' := byt v) 8 (fun i hi => by show setW B a v (a + i) = _; unfold setW; rw [if_pos (by omega)]; congr 1; omega), wsum_byt]
  exact Nat.mod_eq_of_lt hv
theorem setW_out {B : Nat → Nat} {a v i : Nat} (h : i < a ∨ a + 8 ≤ i) : setW B a v i = B i := by unfold setW; rw [if_neg (by omega)]
theorem setB_out {B S : Nat → Nat} {a m i : Nat} (h : i < a ∨ a + m ≤ i) : setB B a m S i = B i := by unfold setB; rw [if_neg (by omega)]
theorem setB_in {B S : Nat → Nat} {a m i : Nat} (h : a ≤ i) (h2 : i < a + m) : setB B a m S i = S (i - a) := by unfold setB; rw [if_pos ⟨h, h2⟩]
end Ar

namespace Sl
/-- The classes: a slot's bytes, slots in a page, a block's bytes. -/
def Cls (c s n r : Nat) : Prop := (c = 0 ∧ s = 16 ∧ n = 16 ∧ r = 8) ∨ (c = 1 ∧ s = 32 ∧ n = 8 ∧ r = 24) ∨ (c = 2 ∧ s = 64 ∧ n = 4 ∧ r = 56) ∨ (c = 3 ∧ s = 128 ∧ n = 2 ∧ r = 120)
theorem Cls.cl {c s n r : Nat} (h : Cls c s n r) : Cl c s n r := by
  rcases h with ⟨rfl, rfl, rfl, rfl⟩ | ⟨rfl, rfl, rfl, rfl⟩ | ⟨rfl, rfl, rfl, rfl⟩ | ⟨rfl, rfl, rfl, rfl⟩
  · exact .inl ⟨rfl, rfl, rfl, rfl⟩
  · exact .inr (.inl ⟨rfl, rfl, rfl, rfl⟩)
  · exact .inr (.inr (.inl ⟨rfl, rfl, rfl, rfl⟩))
  · exact .inr (.inr (.inr ⟨rfl, rfl, rfl, rfl⟩))
theorem cls_of (c : Nat) (h : c < 4) : ∃ s n r, Cls c s n r := by
  rcases (by omega : c = 0 ∨ c = 1 ∨ c = 2 ∨ c = 3) with rfl | rfl | rfl | rfl
  · exact ⟨16, 16, 8, .inl ⟨rfl, rfl, rfl, rfl⟩⟩
  · exact ⟨32, 8, 24, .inr (.inl ⟨rfl, rfl, rfl, rfl⟩)⟩
  · exact ⟨64, 4, 56, .inr (.inr (.inl ⟨rfl, rfl, rfl, rfl⟩))⟩
  · exact ⟨128, 2, 120, .inr (.inr (.inr ⟨rfl, rfl, rfl, rfl⟩))⟩
structure Facts (c s n r : Nat) : Prop where
  c4 : c < 4
  s16 : 16 ≤ s
  s128 : s ≤ 128
  n2 : 2 ≤ n
  n16 : n ≤ 16
  rs : r + 8 = s
theorem Cls.facts {c s n r : Nat} (h : Cls c s n r) : Facts c s n r := by
  unfold Cls at h
  exact ⟨by omega, by omega, by omega, by omega, by omega, by omega⟩

/-- Where slot k begins. -/
def bs (g s k : Nat) : Nat := g * 256 + k * s
theorem bs_lo (g s k : Nat) : g * 256 ≤ bs g s k := Nat.le_add_right _ _
theorem bs_hi {c s n r : Nat} (h : Cls c s n r) (g : Nat) {k : Nat} (hk : k < n) : bs g s k + s ≤ g * 256 + 256 := by
  unfold bs
  rcases h with ⟨rfl, rfl, rfl, rfl⟩ | ⟨rfl, rfl, rfl, rfl⟩ | ⟨rfl, rfl, rfl, rfl⟩ | ⟨rfl, rfl, rfl, rfl⟩ <;> omega
theorem bs_mod {c s n r : Nat} (h : Cls c s n r) (g k : Nat) : bs g s k % 16 = 0 := by
  unfold bs
  rcases h with ⟨rfl, rfl, rfl, rfl⟩ | ⟨rfl, rfl, rfl, rfl⟩ | ⟨rfl, rfl, rfl, rfl⟩ | ⟨rfl, rfl, rfl, rfl⟩ <;> omega
theorem r_mod {c s n r : Nat} (h : Cls c s n r) : r % 8 = 0 := by unfold Cls at h; omega
theorem bs_apart {c s n r : Nat} (h : Cls c s n r) (g : Nat) {j k : Nat} (e : j ≠ k) : bs g s j + s ≤ bs g s k ∨ bs g s k + s ≤ bs g s j := by
  unfold bs
  rcases h with ⟨rfl, rfl, rfl, rfl⟩ | ⟨rfl, rfl, rfl, rfl⟩ | ⟨rfl, rfl, rfl, rfl⟩ | ⟨rfl, rfl, rfl, rfl⟩ <;> omega
theorem bs_slot {c s n r : Nat} (h : Cls c s n r) (g : Nat) {k : Nat} (hk : k < n) : bs g s k / 256 = g ∧ bs g s k % 256 / s = k := by
  unfold bs
  rcases h with ⟨rfl, rfl, rfl, rfl⟩ | ⟨rfl, rfl, rfl, rfl⟩ | ⟨rfl, rfl, rfl, rfl⟩ | ⟨rfl, rfl, rfl, rfl⟩ <;> omega

/-- What a link to the first one of a list is made of. -/
def nx (g s : Nat) : List Nat → Nat
  | [] => 0
  | j :: _ => bs g s j + 1
/-- The first one of a list. -/
def fst : List Nat → Int
  | [] => -1
  | j :: _ => j
/-- The slots of a list are linked, each to the next one. -/
def Chain (key g s : Nat) (B : Nat → Nat) : List Nat → Prop
  | [] => True
  | k :: t => Ar.wordAt B (bs g s k) = Li.lk key (bs g s k) (nx g s t) ∧ Chain key g s B t
theorem Chain.congr {key g s : Nat} {B B' : Nat → Nat} : ∀ {F : List Nat}, Chain key g s B F → (∀ k, k ∈ F → ∀ i, bs g s k ≤ i → i < bs g s k + 8 → B i = B' i) → Chain key g s B' F
  | [], _, _ => trivial
  | k :: t, ⟨h1, h2⟩, h => ⟨by rw [← Ar.wordAt_congr (h k (by simp))]; exact h1, Chain.congr h2 (fun j hj => h j (by simp [hj]))⟩
/-- What stands behind a block. -/
def can (key g s k : Nat) : Nat := Li.mix (key ^^^ Li.u (bs g s k))

/-- A slab that is whole: its states (0 free, 1 live, 2 held), its free slots in order, the arena's bytes. -/
structure Inv (key g s n r : Nat) (S : Nat → Nat) (F : List Nat) (B : Nat → Nat) : Prop where
  nd : F.Nodup
  fr : ∀ k, k ∈ F → k < n ∧ S k = 0
  al : ∀ k, k < n → S k = 0 → k ∈ F
  st : ∀ k, S k ≤ 2
  ch : Chain key g s B F
  lv : ∀ k, k < n → S k = 1 → Ar.wordAt B (bs g s k + r) = can key g s k
  hd : ∀ k, k < n → S k = 2 → ∀ i, i < s → B (bs g s k + i) = 221

/-- A list's value at one place turned. -/
def upd (S : Nat → Nat) (k v : Nat) : Nat → Nat := fun j => if j = k then v else S j
theorem upd_same (S : Nat → Nat) (k v : Nat) : upd S k v k = v := by simp [upd]
theorem upd_other {S : Nat → Nat} {k v j : Nat} (h : j ≠ k) : upd S k v j = S j := by simp [upd, h]

theorem Inv.none {key g s n r : Nat} {S : Nat → Nat} {B : Nat → Nat} (h : Inv key g s n r S [] B) {k : Nat} (hk : k < n) : S k ≠ 0 := fun e => by have := h.al k hk e; cases this

/-- The bytes behind a Take of slot k. -/
def takeB (key g s r k : Nat) (B : Nat → Nat) : Nat → Nat := Ar.setW (Ar.setB B (bs g s k) r (fun _ => 0)) (bs g s k + r) (can key g s k)
theorem takeB_out {c key g s n r k : Nat} (hc : Cls c s n r) {B : Nat → Nat} {i : Nat} (h : i < bs g s k ∨ bs g s k + s ≤ i) : takeB key g s r k B i = B i := by
  have := hc.facts.rs
  unfold takeB
  rw [Ar.setW_out (by omega), Ar.setB_out (by omega)]
theorem takeB_in {key g s r k : Nat} {B : Nat → Nat} {i : Nat} (h : i < r) : takeB key g s r k B (bs g s k + i) = 0 := by
  unfold takeB
  rw [Ar.setW_out (by omega), Ar.setB_in (by omega) (by omega)]
theorem Inv.take {c key g s n r k : Nat} {S : Nat → Nat} {t : List Nat} {B : Nat → Nat} (hc : Cls c s n r) (h : Inv key g s n r S (k :: t) B) : Inv key g s n r (upd S k 1) t (takeB key g s r k B) where
  nd := (List.nodup_cons.1 h.nd).2
  fr := fun j hj => by
    have e : j ≠ k := fun e => (List.nodup_cons.1 h.nd).1 (e ▸ hj)
    rw [upd_other e]
    exact h.fr j (by simp [hj])
  al := fun j hj h0 => by
    by_cases e : j = k
    · subst e; rw [upd_same] at h0; omega
    · rw [upd_other e] at h0
      have := h.al j hj h0
      simp only [List.mem_cons] at this
      exact this.resolve_left e
  st := fun j => by
    by_cases e : j = k
    · subst e; rw [upd_same]; omega
    · rw [upd_other e]; exact h.st j
  ch := h.ch.2.congr (fun j hj i h1 h2 => by
    have e : j ≠ k := fun e => (List.nodup_cons.1 h.nd).1 (e ▸ hj)
    have := bs_apart hc g e
    have := hc.facts.s16
    exact (takeB_out hc (by omega)).symm)
  lv := fun j hj h1 => by
    have hr := hc.facts.rs
    by_cases e : j = k
    · subst e
      exact Ar.wordAt_setW _ _ _ (Li.mix_lt _)
    · rw [upd_other e] at h1
      have ha := bs_apart hc g e
      rw [Ar.wordAt_congr (B' := B) (fun i h1 h2 => takeB_out hc (by omega))]
      exact h.lv j hj h1
  hd := fun j hj h2 i hi => by
    by_cases e : j = k
    · subst e; rw [upd_same] at h2; omega
    · rw [upd_other e] at h2
      have ha := bs_apart hc g e
      rw [takeB_out hc (by omega)]
      exact h.hd j hj h2 i hi

def dropB (g s k : Nat) (B : Nat → Nat) : Nat → Nat := Ar.setB B (bs g s k) s (fun _ => 221)
theorem dropB_out {g s k : Nat} {B : Nat → Nat} {i : Nat} (h : i < bs g s k ∨ bs g s k + s ≤ i) : dropB g s k B i = B i := Ar.setB_out h
theorem Inv.drop {c key g s n r k : Nat} {S : Nat → Nat} {F : List Nat} {B : Nat → Nat} (hc : Cls c s n r) (h : Inv key g s n r S F B) (hk : k < n) (h1 : S k = 1) : Inv key g s n r (upd S k 2) F (dropB g s k B) where
  nd := h.nd
  fr := fun j hj => by
    have e : j ≠ k := fun e => by have := (h.fr j hj).2; rw [e] at this; omega
    rw [upd_other e]
    exact h.fr j hj
  al := fun j hj h0 => by
    by_cases e : j = k
    · subst e; rw [upd_same] at h0; omega
    · rw [upd_other e] at h0
      exact h.al j hj h0
  st := fun j => by
    by_cases e : j = k
    · subst e; rw [upd_same]; omega
    · rw [upd_other e]; exact h.st j
  ch := h.ch.congr (fun j hj i h1 h2 => by
    have e : j ≠ k := fun e => by have := (h.fr j hj).2; rw [e] at this; omega
    have := bs_apart hc g e
    have := hc.facts.s16
    exact (Ar.setB_out (by omega)).symm)
  lv := fun j hj h1 => by
    have hr := hc.facts.rs
    by_cases e : j = k
    · subst e; rw [upd_same] at h1; omega
    · rw [upd_other e] at h1
      have ha := bs_apart hc g e
      rw [Ar.wordAt_congr (B' := B) (fun i h1 h2 => dropB_out (by omega))]
      exact h.lv j hj h1
  hd := fun j hj h2 i hi => by
    by_cases e : j = k
    · subst e; exact Ar.setB_in (by omega) (by omega)
    · rw [upd_other e] at h2
      have ha := bs_apart hc g e
      unfold dropB
      rw [Ar.setB_out (by omega)]
      exact h.hd j hj h2 i hi

def giveB (key g s k : Nat) (F : List Nat) (B : Nat → Nat) : Nat → Nat := Ar.setW B (bs g s k) (Li.lk key (bs g s k) (nx g s F))
theorem giveB_out {key g s k : Nat} {F : List Nat} {B : Nat → Nat} {i : Nat} (h : i < bs g s k ∨ bs g s k + 8 ≤ i) : giveB key g s k F B i = B i := Ar.setW_out h
theorem nx_lt {c s n r : Nat} (hc : Cls c s n r) {g : Nat} (hg : g < 256) {F : List Nat} (hF : ∀ k, k ∈ F → k < n) : nx g s F < 4294967296 := by
  cases F with
  | nil => simp [nx]
  | cons j t => have := bs_hi hc g (hF j (by simp)); simp only [nx]; omega
theorem Inv.give {c key g s n r k : Nat} {S : Nat → Nat} {F : List Nat} {B : Nat → Nat} (hc : Cls c s n r) (hg : g < 256) (h : Inv key g s n r S F B) (hk : k < n) (h1 : S k = 2) : Inv key g s n r (upd S k 0) (k :: F) (giveB key g s k F B) where
  nd := List.nodup_cons.2 ⟨fun hj => by have := (h.fr k hj).2; omega, h.nd⟩
  fr := fun j hj => by
    by_cases e : j = k
    · subst e; rw [upd_same]; exact ⟨hk, rfl⟩
    · rw [upd_other e]
      simp only [List.mem_cons] at hj
      exact h.fr j (hj.resolve_left e)
  al := fun j hj h0 => by
    by_cases e : j = k
    · subst e; simp
    · rw [upd_other e] at h0
      simp [h.al j hj h0]
  st := fun j => by
    by_cases e : j = k
    · subst e; rw [upd_same]; omega
    · rw [upd_other e]; exact h.st j
  ch := by
    refine ⟨Ar.wordAt_setW _ _ _ (Li.lk_lt _ _ (by have := nx_lt hc hg (fun k hk => (h.fr k hk).1); omega)), h.ch.congr (fun j hj i h1 h2 => ?_)⟩
    have e : j ≠ k := fun e => by have := (h.fr j hj).2; rw [e] at this; omega
    have := bs_apart hc g e
    have := hc.facts.s16
    exact (Ar.setW_out (by omega)).symm
  lv := fun j hj h1 => by
    have hr := hc.facts.rs
    have := hc.facts.s16
    by_cases e : j = k
    · subst e; rw [upd_same] at h1; omega
    · rw [upd_other e] at h1
      have ha := bs_apart hc g e
      rw [Ar.wordAt_congr (B' := B) (fun i h1 h2 => giveB_out (by omega))]
      exact h.lv j hj h1
  hd := fun j hj h2 i hi => by
    have := hc.facts.s16
    by_cases e : j = k
    · subst e; rw [upd_same] at h2; omega
    · rw [upd_other e] at h2
      have ha := bs_apart hc g e
      unfold giveB
      rw [Ar.setW_out (by omega)]
      exact h.hd j hj h2 i hi

/-- Somebody writes into a live block, within its bounds. -/
theorem Inv.write {c key g s n r k m : Nat} {S : Nat → Nat} {F : List Nat} {B V : Nat → Nat} (hc : Cls c s n r) (h : Inv key g s n r S F B) (hk : k < n) (h1 : S k = 1) (hm : m ≤ r) : Inv key g s n r S F (Ar.setB B (bs g s k) m V) where
  nd := h.nd
  fr := h.fr
  al := h.al
  st := h.st
  ch := h.ch.congr (fun j hj i h1 h2 => by
    have e : j ≠ k := fun e => by have := (h.fr j hj).2; rw [e] at this; omega
    have := bs_apart hc g e
    have := hc.facts.s16
    have := hc.facts.rs
    exact (Ar.setB_out (by omega)).symm)
  lv := fun j hj h1 => by
    have hr := hc.facts.rs
    by_cases e : j = k
    · subst e
      rw [Ar.wordAt_congr (B' := B) (fun i h1 h2 => Ar.setB_out (by omega))]
      exact h.lv j hj h1
    · have ha := bs_apart hc g e
      rw [Ar.wordAt_congr (B' := B) (fun i h1 h2 => Ar.setB_out (by omega))]
      exact h.lv j hj h1
  hd := fun j hj h2 i hi => by
    have hr := hc.facts.rs
    have e : j ≠ k := fun e => by rw [e] at h2; omega
    have ha := bs_apart hc g e
    rw [Ar.setB_out (by omega)]
    exact h.hd j hj h2 i hi

/-- The slots from k on. -/
def from_ (k n : Nat) : List Nat := (List.range' k (n - k))
theorem from_nil (n : Nat) : from_ n n = [] := by simp [from_]
theorem from_cons {k n : Nat} (h : k < n) : from_ k n = k :: from_ (k + 1) n := by
  unfold from_
  rw [show n - k = (n - (k + 1)) + 1 by omega, List.range'_succ]
theorem mem_from {k n j : Nat} : j ∈ from_ k n ↔ k ≤ j ∧ j < n := by unfold from_; rw [List.mem_range'_1]; omega
theorem from_nodup (k n : Nat) : (from_ k n).Nodup := List.nodup_range'
/-- What slot k's link leads to in a new slab. -/
def nxt (g s n k : Nat) : Nat := if k + 1 < n then bs g s (k + 1) + 1 else 0
theorem nx_from {g s n k : Nat} (h : k < n) : nx g s (from_ (k + 1) n) = nxt g s n k := by
  unfold nxt
  by_cases e : k + 1 < n
  · rw [if_pos e, from_cons e]; rfl
  · rw [if_neg e, show k + 1 = n by omega, from_nil]; rfl
/-- The first slots of a new slab are linked. -/
def Laid (key g s n m : Nat) (B : Nat → Nat) : Prop := ∀ k, k < m → Ar.wordAt B (bs g s k) = Li.lk key (bs g s k) (nxt g s n k)
theorem chain_from {key g s n : Nat} {B : Nat → Nat} (h : Laid key g s n n B) : ∀ (d k : Nat), k + d = n → Chain key g s B (from_ k n)
  | 0, k, e => by rw [show k = n by omega, from_nil]; trivial
  | d + 1, k, e => by
    rw [from_cons (by omega)]
    exact ⟨by rw [nx_from (by omega)]; exact h k (by omega), chain_from h d (k + 1) (by omega)⟩
theorem inv_new {key g s n r : Nat} {B : Nat → Nat} (h : Laid key g s n n B) : Inv key g s n r (fun _ => 0) (from_ 0 n) B where
  nd := from_nodup 0 n
  fr := fun k hk => ⟨(mem_from.1 hk).2, rfl⟩
  al := fun k hk _ => mem_from.2 ⟨by omega, hk⟩
  st := fun _ => by omega
  ch := chain_from h n 0 (by omega)
  lv := fun _ _ h => nomatch h
  hd := fun _ _ h => nomatch h
theorem Laid.next {c key g s n r m : Nat} {B : Nat → Nat} (hc : Cls c s n r) (hg : g < 256) (h : Laid key g s n m B) (hm : m < n) : Laid key g s n (m + 1) (Ar.setW B (bs g s m) (Li.lk key (bs g s m) (nxt g s n m))) := fun k hk => by
  by_cases e : k = m
  · subst e
    refine Ar.wordAt_setW _ _ _ (Li.lk_lt _ _ ?_)
    unfold nxt
    split
    · rename_i h1
      have := bs_hi hc g h1
      omega
    · omega
  · have ha := bs_apart hc g e
    have := hc.facts.s16
    rw [Ar.wordAt_congr (B' := B) (fun i h1 h2 => Ar.setW_out (by omega))]
    exact h k (by omega)

/-- How many of the first m slots are of a state. -/
def cnt (S : Nat → Nat) (x : Int) : Nat → Nat
  | 0 => 0
  | m + 1 => cnt S x m + if (S m : Int) = x then 1 else 0
theorem cnt_le (S : Nat → Nat) (x : Int) : ∀ m, cnt S x m ≤ m
  | 0 => Nat.le_refl _
  | m + 1 => by have := cnt_le S x m; simp only [cnt]; split <;> omega
theorem cnt_all {S : Nat → Nat} (h : ∀ k, S k ≤ 2) : ∀ m, cnt S 0 m + cnt S 1 m + cnt S 2 m = m
  | 0 => rfl
  | m + 1 => by
    have h1 := cnt_all h m
    have h2 := h m
    simp only [cnt]
    rcases (by omega : S m = 0 ∨ S m = 1 ∨ S m = 2) with e | e | e <;> rw [e] <;> simp <;> omega
theorem cnt_full {S : Nat → Nat} {x : Nat} : ∀ m, (∀ k, k < m → S k = x) → cnt S x m = m
  | 0, _ => rfl
  | m + 1, h => by
    simp only [cnt]
    rw [cnt_full m (fun k hk => h k (by omega)), h m (by omega), if_pos rfl]
end Sl
end Go.Proofs.Yticoojcmlkdeiaa
