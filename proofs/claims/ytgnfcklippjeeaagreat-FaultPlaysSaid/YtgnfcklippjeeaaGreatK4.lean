/- Merged texts: SA SB SC SD SE NS SF SG. -/
import Derived.Test.YtgnfcklippjeeaaGreatK1
import Derived.Test.YtgnfcklippjeeaaGreatK2
import Derived.Test.YtgnfcklippjeeaaGreatK3
import Derived.Deep.QuietTactic
import Derived.BigQuiet
import Derived.Deep.RegionHeld3
import Derived.Deep.DeepCutAuto
import Derived.Shelf.Bytes.SlCountOne
import Derived.Deep.LoopGhost
/- Plain facts on a page of slots: where slots lie, what links stand in them, and what a call leaves of all that. Of no program but for the links' numbers. -/
namespace Go.Proofs.YtgnfcklippjeeaaGreat
namespace Ar
theorem wsum_congr {B B' : Nat → Nat} : ∀ (k : Nat), (∀ i, i < k → B i = B' i) → wsum B k = wsum B' k
  | 0, _ => rfl
  | k + 1, h => by
    simp only [wsum]
    rw [wsum_congr k (fun i hi => h i (by omega)), h k (by omega)]
theorem wordAt_congr {B B' : Nat → Nat} {a : Nat} (h : ∀ i, a ≤ i → i < a + 8 → B i = B' i) : wordAt B a = wordAt B' a :=
  wsum_congr 8 (fun i hi => h _ (by omega) (by omega))
theorem wsum_byt (v : Nat) : ∀ k, wsum (byt v) k = v % 256 ^ k
  | 0 => by simp [wsum, Nat.mod_one]
  | k + 1 => by
    simp only [wsum, byt]
    rw [wsum_byt v k, Nat.pow_succ, Nat.mod_mul]
    rw [Nat.mul_comm (256 ^ k)]
theorem wordAt_setW (B : Nat → Nat) (a v : Nat) (hv : v < 18446744073709551616) : wordAt (setW B a v) a = v := by
  unfold wordAt
  rw [wsum_congr (B' := byt v) 8 (fun i hi => by show setW B a v (a + i) = _; unfold setW; rw [if_pos (by omega)]; congr 1; omega), wsum_byt]
  exact Nat.mod_eq_of_lt hv
theorem setW_out {B : Nat → Nat} {a v i : Nat} (h : i < a ∨ a + 8 ≤ i) : setW B a v i = B i := by unfold setW; rw [if_neg (by omega)]
theorem setB_out {B S : Nat → Nat} {a m i : Nat} (h : i < a ∨ a + m ≤ i) : setB B a m S i = B i := by unfold setB; rw [if_neg (by omega)]
theorem setB_in {B S : Nat → Nat} {a m i : Nat} (h : a ≤ i) (h2 : i < a + m) : setB B a m S i = S (i - a) := by unfold setB; rw [if_pos ⟨h, h2⟩]
end Ar

namespace Sl
/-- The classes: a slot's bytes, slots in a page, a block's bytes. -/
def Cls (c s n r : Nat) : Prop := (c = 0 ∧ s = 16 ∧ n = 16 ∧ r = 8) ∨ (c = 1 ∧ s = 32 ∧ n = 8 ∧ r = 24) ∨ (c = 2 ∧ s = 64 ∧ n = 4 ∧ r = 56) ∨ (c = 3 ∧ s = 128 ∧ n = 2 ∧ r = 120)
theorem Cls.cl {c s n r : Nat} (h : Cls c s n r) : Cl c s n r := by
  rcases h with ⟨rfl, rfl, rfl, rfl⟩ | ⟨rfl, rfl, rfl, rfl⟩ | ⟨rfl, rfl, rfl, rfl⟩ | ⟨rfl, rfl, rfl, rfl⟩
  · exact .inl ⟨rfl, rfl, rfl, rfl⟩
  · exact .inr (.inl ⟨rfl, rfl, rfl, rfl⟩)
  · exact .inr (.inr (.inl ⟨rfl, rfl, rfl, rfl⟩))
  · exact .inr (.inr (.inr ⟨rfl, rfl, rfl, rfl⟩))
theorem cls_of (c : Nat) (h : c < 4) : ∃ s n r, Cls c s n r := by
  rcases (by omega : c = 0 ∨ c = 1 ∨ c = 2 ∨ c = 3) with rfl | rfl | rfl | rfl
  · exact ⟨16, 16, 8, .inl ⟨rfl, rfl, rfl, rfl⟩⟩
  · exact ⟨32, 8, 24, .inr (.inl ⟨rfl, rfl, rfl, rfl⟩)⟩
  · exact ⟨64, 4, 56, .inr (.inr (.inl ⟨rfl, rfl, rfl, rfl⟩))⟩
  · exact ⟨128, 2, 120, .inr (.inr (.inr ⟨rfl, rfl, rfl, rfl⟩))⟩
structure Facts (c s n r : Nat) : Prop where
  c4 : c < 4
  s16 : 16 ≤ s
  s128 : s ≤ 128
  n2 : 2 ≤ n
  n16 : n ≤ 16
  rs : r + 8 = s
theorem Cls.facts {c s n r : Nat} (h : Cls c s n r) : Facts c s n r := by
  unfold Cls at h
  exact ⟨by omega, by omega, by omega, by omega, by omega, by omega⟩

/-- Where slot k begins. -/
def bs (g s k : Nat) : Nat := g * 256 + k * s
theorem bs_lo (g s k : Nat) : g * 256 ≤ bs g s k := Nat.le_add_right _ _
theorem bs_hi {c s n r : Nat} (h : Cls c s n r) (g : Nat) {k : Nat} (hk : k < n) : bs g s k + s ≤ g * 256 + 256 := by
  unfold bs
  rcases h with ⟨rfl, rfl, rfl, rfl⟩ | ⟨rfl, rfl, rfl, rfl⟩ | ⟨rfl, rfl, rfl, rfl⟩ | ⟨rfl, rfl, rfl, rfl⟩ <;> omega
theorem bs_mod {c s n r : Nat} (h : Cls c s n r) (g k : Nat) : bs g s k % 16 = 0 := by
  unfold bs
  rcases h with ⟨rfl, rfl, rfl, rfl⟩ | ⟨rfl, rfl, rfl, rfl⟩ | ⟨rfl, rfl, rfl, rfl⟩ | ⟨rfl, rfl, rfl, rfl⟩ <;> omega
theorem r_mod {c s n r : Nat} (h : Cls c s n r) : r % 8 = 0 := by unfold Cls at h; omega
theorem bs_apart {c s n r : Nat} (h : Cls c s n r) (g : Nat) {j k : Nat} (e : j ≠ k) : bs g s j + s ≤ bs g s k ∨ bs g s k + s ≤ bs g s j := by
  unfold bs
  rcases h with ⟨rfl, rfl, rfl, rfl⟩ | ⟨rfl, rfl, rfl, rfl⟩ | ⟨rfl, rfl, rfl, rfl⟩ | ⟨rfl, rfl, rfl, rfl⟩ <;> omega
theorem bs_slot {c s n r : Nat} (h : Cls c s n r) (g : Nat) {k : Nat} (hk : k < n) : bs g s k / 256 = g ∧ bs g s k % 256 / s = k := by
  unfold bs
  rcases h with ⟨rfl, rfl, rfl, rfl⟩ | ⟨rfl, rfl, rfl, rfl⟩ | ⟨rfl, rfl, rfl, rfl⟩ | ⟨rfl, rfl, rfl, rfl⟩ <;> omega

/-- What a link to the first one of a list is made of. -/
def nx (g s : Nat) : List Nat → Nat
  | [] => 0
  | j :: _ => bs g s j + 1
/-- The first one of a list. -/
def fst : List Nat → Int
  | [] => -1
  | j :: _ => j
/-- The slots of a list are linked, each to the next one. -/
def Chain (key g s : Nat) (B : Nat → Nat) : List Nat → Prop
  | [] => True
  | k :: t => Ar.wordAt B (bs g s k) = Li.lk key (bs g s k) (nx g s t) ∧ Chain key g s B t
theorem Chain.congr {key g s : Nat} {B B' : Nat → Nat} : ∀ {F : List Nat}, Chain key g s B F → (∀ k, k ∈ F → ∀ i, bs g s k ≤ i → i < bs g s k + 8 → B i = B' i) → Chain key g s B' F
  | [], _, _ => trivial
  | k :: t, ⟨h1, h2⟩, h => ⟨by rw [← Ar.wordAt_congr (h k (by simp))]; exact h1, Chain.congr h2 (fun j hj => h j (by simp [hj]))⟩
/-- What stands behind a block. -/
def can (key g s k : Nat) : Nat := Li.mix (key ^^^ Li.u (bs g s k))

/-- A slab that is whole: its states (0 free, 1 live, 2 held), its free slots in order, the arena's bytes. -/
structure Inv (key g s n r : Nat) (S : Nat → Nat) (F : List Nat) (B : Nat → Nat) : Prop where
  nd : F.Nodup
  fr : ∀ k, k ∈ F → k < n ∧ S k = 0
  al : ∀ k, k < n → S k = 0 → k ∈ F
  st : ∀ k, S k ≤ 2
  ch : Chain key g s B F
  lv : ∀ k, k < n → S k = 1 → Ar.wordAt B (bs g s k + r) = can key g s k
  hd : ∀ k, k < n → S k = 2 → ∀ i, i < s → B (bs g s k + i) = 221

/-- A list's value at one place turned. -/
def upd (S : Nat → Nat) (k v : Nat) : Nat → Nat := fun j => if j = k then v else S j
theorem upd_same (S : Nat → Nat) (k v : Nat) : upd S k v k = v := by simp [upd]
theorem upd_other {S : Nat → Nat} {k v j : Nat} (h : j ≠ k) : upd S k v j = S j := by simp [upd, h]

theorem Inv.none {key g s n r : Nat} {S : Nat → Nat} {B : Nat → Nat} (h : Inv key g s n r S [] B) {k : Nat} (hk : k < n) : S k ≠ 0 := fun e => by have := h.al k hk e; cases this

/-- The bytes behind a Take of slot k. -/
def takeB (key g s r k : Nat) (B : Nat → Nat) : Nat → Nat := Ar.setW (Ar.setB B (bs g s k) r (fun _ => 0)) (bs g s k + r) (can key g s k)
theorem takeB_out {c key g s n r k : Nat} (hc : Cls c s n r) {B : Nat → Nat} {i : Nat} (h : i < bs g s k ∨ bs g s k + s ≤ i) : takeB key g s r k B i = B i := by
  have := hc.facts.rs
  unfold takeB
  rw [Ar.setW_out (by omega), Ar.setB_out (by omega)]
theorem takeB_in {key g s r k : Nat} {B : Nat → Nat} {i : Nat} (h : i < r) : takeB key g s r k B (bs g s k + i) = 0 := by
  unfold takeB
  rw [Ar.setW_out (by omega), Ar.setB_in (by omega) (by omega)]
theorem Inv.take {c key g s n r k : Nat} {S : Nat → Nat} {t : List Nat} {B : Nat → Nat} (hc : Cls c s n r) (h : Inv key g s n r S (k :: t) B) : Inv key g s n r (upd S k 1) t (takeB key g s r k B) where
  nd := (List.nodup_cons.1 h.nd).2
  fr := fun j hj => by
    have e : j ≠ k := fun e => (List.nodup_cons.1 h.nd).1 (e ▸ hj)
    rw [upd_other e]
    exact h.fr j (by simp [hj])
  al := fun j hj h0 => by
    by_cases e : j = k
    · subst e; rw [upd_same] at h0; omega
    · rw [upd_other e] at h0
      have := h.al j hj h0
      simp only [List.mem_cons] at this
      exact this.resolve_left e
  st := fun j => by
    by_cases e : j = k
    · subst e; rw [upd_same]; omega
    · rw [upd_other e]; exact h.st j
  ch := h.ch.2.congr (fun j hj i h1 h2 => by
    have e : j ≠ k := fun e => (List.nodup_cons.1 h.nd).1 (e ▸ hj)
    have := bs_apart hc g e
    have := hc.facts.s16
    exact (takeB_out hc (by omega)).symm)
  lv := fun j hj h1 => by
    have hr := hc.facts.rs
    by_cases e : j = k
    · subst e
      exact Ar.wordAt_setW _ _ _ (Li.mix_lt _)
    · rw [upd_other e] at h1
      have ha := bs_apart hc g e
      rw [Ar.wordAt_congr (B' := B) (fun i h1 h2 => takeB_out hc (by omega))]
      exact h.lv j hj h1
  hd := fun j hj h2 i hi => by
    by_cases e : j = k
    · subst e; rw [upd_same] at h2; omega
    · rw [upd_other e] at h2
      have ha := bs_apart hc g e
      rw [takeB_out hc (by omega)]
      exact h.hd j hj h2 i hi

def dropB (g s k : Nat) (B : Nat → Nat) : Nat → Nat := Ar.setB B (bs g s k) s (fun _ => 221)
theorem dropB_out {g s k : Nat} {B : Nat → Nat} {i : Nat} (h : i < bs g s k ∨ bs g s k + s ≤ i) : dropB g s k B i = B i := Ar.setB_out h
theorem Inv.drop {c key g s n r k : Nat} {S : Nat → Nat} {F : List Nat} {B : Nat → Nat} (hc : Cls c s n r) (h : Inv key g s n r S F B) (hk : k < n) (h1 : S k = 1) : Inv key g s n r (upd S k 2) F (dropB g s k B) where
  nd := h.nd
  fr := fun j hj => by
    have e : j ≠ k := fun e => by have := (h.fr j hj).2; rw [e] at this; omega
    rw [upd_other e]
    exact h.fr j hj
  al := fun j hj h0 => by
    by_cases e : j = k
    · subst e; rw [upd_same] at h0; omega
    · rw [upd_other e] at h0
      exact h.al j hj h0
  st := fun j => by
    by_cases e : j = k
    · subst e; rw [upd_same]; omega
    · rw [upd_other e]; exact h.st j
  ch := h.ch.congr (fun j hj i h1 h2 => by
    have e : j ≠ k := fun e => by have := (h.fr j hj).2; rw [e] at this; omega
    have := bs_apart hc g e
    have := hc.facts.s16
    exact (Ar.setB_out (by omega)).symm)
  lv := fun j hj h1 => by
    have hr := hc.facts.rs
    by_cases e : j = k
    · subst e; rw [upd_same] at h1; omega
    · rw [upd_other e] at h1
      have ha := bs_apart hc g e
      rw [Ar.wordAt_congr (B' := B) (fun i h1 h2 => dropB_out (by omega))]
      exact h.lv j hj h1
  hd := fun j hj h2 i hi => by
    by_cases e : j = k
    · subst e; exact Ar.setB_in (by omega) (by omega)
    · rw [upd_other e] at h2
      have ha := bs_apart hc g e
      unfold dropB
      rw [Ar.setB_out (by omega)]
      exact h.hd j hj h2 i hi

def giveB (key g s k : Nat) (F : List Nat) (B : Nat → Nat) : Nat → Nat := Ar.setW B (bs g s k) (Li.lk key (bs g s k) (nx g s F))
theorem giveB_out {key g s k : Nat} {F : List Nat} {B : Nat → Nat} {i : Nat} (h : i < bs g s k ∨ bs g s k + 8 ≤ i) : giveB key g s k F B i = B i := Ar.setW_out h
theorem nx_lt {c s n r : Nat} (hc : Cls c s n r) {g : Nat} (hg : g < 256) {F : List Nat} (hF : ∀ k, k ∈ F → k < n) : nx g s F < 4294967296 := by
  cases F with
  | nil => simp [nx]
  | cons j t => have := bs_hi hc g (hF j (by simp)); simp only [nx]; omega
theorem Inv.give {c key g s n r k : Nat} {S : Nat → Nat} {F : List Nat} {B : Nat → Nat} (hc : Cls c s n r) (hg : g < 256) (h : Inv key g s n r S F B) (hk : k < n) (h1 : S k = 2) : Inv key g s n r (upd S k 0) (k :: F) (giveB key g s k F B) where
  nd := List.nodup_cons.2 ⟨fun hj => by have := (h.fr k hj).2; omega, h.nd⟩
  fr := fun j hj => by
    by_cases e : j = k
    · subst e; rw [upd_same]; exact ⟨hk, rfl⟩
    · rw [upd_other e]
      simp only [List.mem_cons] at hj
      exact h.fr j (hj.resolve_left e)
  al := fun j hj h0 => by
    by_cases e : j = k
    · subst e; simp
    · rw [upd_other e] at h0
      simp [h.al j hj h0]
  st := fun j => by
    by_cases e : j = k
    · subst e; rw [upd_same]; omega
    · rw [upd_other e]; exact h.st j
  ch := by
    refine ⟨Ar.wordAt_setW _ _ _ (Li.lk_lt _ _ (by have := nx_lt hc hg (fun k hk => (h.fr k hk).1); omega)), h.ch.congr (fun j hj i h1 h2 => ?_)⟩
    have e : j ≠ k := fun e => by have := (h.fr j hj).2; rw [e] at this; omega
    have := bs_apart hc g e
    have := hc.facts.s16
    exact (Ar.setW_out (by omega)).symm
  lv := fun j hj h1 => by
    have hr := hc.facts.rs
    have := hc.facts.s16
    by_cases e : j = k
    · subst e; rw [upd_same] at h1; omega
    · rw [upd_other e] at h1
      have ha := bs_apart hc g e
      rw [Ar.wordAt_congr (B' := B) (fun i h1 h2 => giveB_out (by omega))]
      exact h.lv j hj h1
  hd := fun j hj h2 i hi => by
    have := hc.facts.s16
    by_cases e : j = k
    · subst e; rw [upd_same] at h2; omega
    · rw [upd_other e] at h2
      have ha := bs_apart hc g e
      unfold giveB
      rw [Ar.setW_out (by omega)]
      exact h.hd j hj h2 i hi

/-- Somebody writes into a live block, within its bounds. -/
theorem Inv.write {c key g s n r k m : Nat} {S : Nat → Nat} {F : List Nat} {B V : Nat → Nat} (hc : Cls c s n r) (h : Inv key g s n r S F B) (hk : k < n) (h1 : S k = 1) (hm : m ≤ r) : Inv key g s n r S F (Ar.setB B (bs g s k) m V) where
  nd := h.nd
  fr := h.fr
  al := h.al
  st := h.st
  ch := h.ch.congr (fun j hj i h1 h2 => by
    have e : j ≠ k := fun e => by have := (h.fr j hj).2; rw [e] at this; omega
    have := bs_apart hc g e
    have := hc.facts.s16
    have := hc.facts.rs
    exact (Ar.setB_out (by omega)).symm)
  lv := fun j hj h1 => by
    have hr := hc.facts.rs
    by_cases e : j = k
    · subst e
      rw [Ar.wordAt_congr (B' := B) (fun i h1 h2 => Ar.setB_out (by omega))]
      exact h.lv j hj h1
    · have ha := bs_apart hc g e
      rw [Ar.wordAt_congr (B' := B) (fun i h1 h2 => Ar.setB_out (by omega))]
      exact h.lv j hj h1
  hd := fun j hj h2 i hi => by
    have hr := hc.facts.rs
    have e : j ≠ k := fun e => by rw [e] at h2; omega
    have ha := bs_apart hc g e
    rw [Ar.setB_out (by omega)]
    exact h.hd j hj h2 i hi

/-- The slots from k on. -/
def from_ (k n : Nat) : List Nat := (List.range' k (n - k))
theorem from_nil (n : Nat) : from_ n n = [] := by simp [from_]
theorem from_cons {k n : Nat} (h : k < n) : from_ k n = k :: from_ (k + 1) n := by
  unfold from_
  rw [show n - k = (n - (k + 1)) + 1 by omega, List.range'_succ]
theorem mem_from {k n j : Nat} : j ∈ from_ k n ↔ k ≤ j ∧ j < n := by unfold from_; rw [List.mem_range'_1]; omega
theorem from_nodup (k n : Nat) : (from_ k n).Nodup := List.nodup_range'
/-- What slot k's link leads to in a new slab. -/
def nxt (g s n k : Nat) : Nat := if k + 1 < n then bs g s (k + 1) + 1 else 0
theorem nx_from {g s n k : Nat} (h : k < n) : nx g s (from_ (k + 1) n) = nxt g s n k := by
  unfold nxt
  by_cases e : k + 1 < n
  · rw [if_pos e, from_cons e]; rfl
  · rw [if_neg e, show k + 1 = n by omega, from_nil]; rfl
/-- The first slots of a new slab are linked. -/
def Laid (key g s n m : Nat) (B : Nat → Nat) : Prop := ∀ k, k < m → Ar.wordAt B (bs g s k) = Li.lk key (bs g s k) (nxt g s n k)
theorem chain_from {key g s n : Nat} {B : Nat → Nat} (h : Laid key g s n n B) : ∀ (d k : Nat), k + d = n → Chain key g s B (from_ k n)
  | 0, k, e => by rw [show k = n by omega, from_nil]; trivial
  | d + 1, k, e => by
    rw [from_cons (by omega)]
    exact ⟨by rw [nx_from (by omega)]; exact h k (by omega), chain_from h d (k + 1) (by omega)⟩
theorem inv_new {key g s n r : Nat} {B : Nat → Nat} (h : Laid key g s n n B) : Inv key g s n r (fun _ => 0) (from_ 0 n) B where
  nd := from_nodup 0 n
  fr := fun k hk => ⟨(mem_from.1 hk).2, rfl⟩
  al := fun k hk _ => mem_from.2 ⟨by omega, hk⟩
  st := fun _ => by omega
  ch := chain_from h n 0 (by omega)
  lv := fun _ _ h => nomatch h
  hd := fun _ _ h => nomatch h
theorem Laid.next {c key g s n r m : Nat} {B : Nat → Nat} (hc : Cls c s n r) (hg : g < 256) (h : Laid key g s n m B) (hm : m < n) : Laid key g s n (m + 1) (Ar.setW B (bs g s m) (Li.lk key (bs g s m) (nxt g s n m))) := fun k hk => by
  by_cases e : k = m
  · subst e
    refine Ar.wordAt_setW _ _ _ (Li.lk_lt _ _ ?_)
    unfold nxt
    split
    · rename_i h1
      have := bs_hi hc g h1
      omega
    · omega
  · have ha := bs_apart hc g e
    have := hc.facts.s16
    rw [Ar.wordAt_congr (B' := B) (fun i h1 h2 => Ar.setW_out (by omega))]
    exact h k (by omega)

/-- How many of the first m slots are of a state. -/
def cnt (S : Nat → Nat) (x : Int) : Nat → Nat
  | 0 => 0
  | m + 1 => cnt S x m + if (S m : Int) = x then 1 else 0
theorem cnt_le (S : Nat → Nat) (x : Int) : ∀ m, cnt S x m ≤ m
  | 0 => Nat.le_refl _
  | m + 1 => by have := cnt_le S x m; simp only [cnt]; split <;> omega
theorem cnt_all {S : Nat → Nat} (h : ∀ k, S k ≤ 2) : ∀ m, cnt S 0 m + cnt S 1 m + cnt S 2 m = m
  | 0 => rfl
  | m + 1 => by
    have h1 := cnt_all h m
    have h2 := h m
    simp only [cnt]
    rcases (by omega : S m = 0 ∨ S m = 1 ∨ S m = 2) with e | e | e <;> rw [e] <;> simp <;> omega
theorem cnt_full {S : Nat → Nat} {x : Nat} : ∀ m, (∀ k, k < m → S k = x) → cnt S x m = m
  | 0, _ => rfl
  | m + 1, h => by
    simp only [cnt]
    rw [cnt_full m (fun k hk => h k (by omega)), h m (by omega), if_pos rfl]
end Sl
end Go.Proofs.YtgnfcklippjeeaaGreat

/- A slab in the world; the walks of slots, there, base, guard, State, wrong, Count. -/
namespace Go.Proofs.YtgnfcklippjeeaaGreat
open Go.RowKit
open Sl (Cls bs)

/-- Of what was there nothing has turned but blocks that may. -/
structure Fr (may : Nat → Prop) (w w' : World) : Prop where
  os : w'.os = w.os
  tape : w'.tape = w.tape
  output : w'.output = w.output
  size : w.heap.size ≤ w'.heap.size
  block : ∀ i, i < w.heap.size → ¬ may i → w'.heap[i]? = w.heap[i]?
theorem fr_none {may : Nat → Prop} {w w' : World} (h : w.grownBy w' none) : Fr may w w' := ⟨h.os, h.tape, h.output, h.size, fun i hi _ => h.block i hi (by simp)⟩
theorem fr_some {may : Nat → Prop} {q : Nat} {w w' : World} (h : w.grownBy w' (some q)) (hq : q < w.heap.size → may q) : Fr may w w' := ⟨h.os, h.tape, h.output, h.size, fun i hi hm => h.block i hi (fun e => hm (by cases e; exact hq hi))⟩
theorem fr_refl (may : Nat → Prop) (w : World) : Fr may w w := ⟨rfl, rfl, rfl, Nat.le_refl _, fun _ _ _ => rfl⟩
theorem Fr.trans {may : Nat → Prop} {a b c : World} (h : Fr may a b) (k : Fr may b c) : Fr may a c :=
  ⟨k.os.trans h.os, k.tape.trans h.tape, k.output.trans h.output, Nat.le_trans h.size k.size, fun i hi hm => (k.block i (Nat.lt_of_lt_of_le hi h.size) hm).trans (h.block i hi hm)⟩
theorem Fr.cell {may : Nat → Prop} {w w' : World} (h : Fr may w w') {b o : Nat} {v : Value} (hc : w.cell? ⟨b, o, none⟩ = some v) (hb : ¬ may b) : w'.cell? ⟨b, o, none⟩ = some v := by
  rw [World.cell?_of_block (w := w) (h.block b (World.block_lt_of_cell? w ⟨b, o, none⟩ hc) hb)]
  exact hc
theorem Fr.frozen {may : Nat → Prop} {w w' : World} (h : Fr may w w') {b o : Nat} (hlt : b < w.heap.size) (hb : ¬ may b) : w'.frozen? ⟨b, o, none⟩ = w.frozen? ⟨b, o, none⟩ :=
  World.frozen?_of_block (w := w) (h.block b hlt hb)
theorem Fr.drew {may : Nat → Prop} {a b : World} (h : Fr may a b) : Fr may a b.drew := ⟨h.os, h.tape, h.output, h.size, h.block⟩
theorem Fr.grown {may : Nat → Prop} {a w w' : World} (h : a.grownBy w none) (k : Fr may w w') (hm : ∀ i, i < a.heap.size → ¬ may i) : a.grownBy w' none :=
  ⟨k.os.trans h.os, k.tape.trans h.tape, k.output.trans h.output, Nat.le_trans h.size k.size, fun i hi _ => (k.block i (Nat.lt_of_lt_of_le hi h.size) (hm i hi)).trans (h.block i hi (by simp))⟩

theorem quiet_drew {P : Program} {f : FuncId} {args : Array Value} {w : World} {n : Nat} {v : Value}
    (h : Calls P f args (w.drewN n) fun e w' => e = .returned v ∧ ∃ d, w' = (w.drewN n).drewN d) : Calls P f args (w.drewN n) fun e w'' => e = .returned v ∧ ∃ m, w'' = w.drewN m :=
  h.mono fun _ _ ⟨he, _, hd⟩ => ⟨he, _, hd.trans (World.drewN_drewN _ _ _)⟩

/-- A row of n bits. -/
def Row (w : World) (p q n : Nat) (b : Nat → Bool) : Prop := ∃ cap ws, Bs.SetAt w p q n cap ws ∧ ∀ k, k < n → M.bit ws k = b k
theorem Row.grown {w w' : World} {p q n : Nat} {b : Nat → Bool} {r : Option Nat} (h : Row w p q n b) (hg : w.grownBy w' r) (hp : some p ≠ r) (hq : some q ≠ r) : Row w' p q n b := by
  obtain ⟨cap, ws, h1, h2⟩ := h
  exact ⟨cap, ws, h1.grown hg hp hq, h2⟩
theorem Row.congr {w : World} {p q n : Nat} {b b' : Nat → Bool} (h : Row w p q n b) (e : ∀ k, k < n → b k = b' k) : Row w p q n b' := by
  obtain ⟨cap, ws, h1, h2⟩ := h
  exact ⟨cap, ws, h1, fun k hk => (h2 k hk).trans (e k hk)⟩
theorem Row.len {w : World} {p q n : Nat} {b : Nat → Bool} (h : Row w p q n b) :
    Calls Tryz.prog 178 #[.pointer (some ⟨p, 0, none⟩)] w fun e w' => e = .returned (.int .i64 n) ∧ w = w' := by
  obtain ⟨cap, ws, h1, h2⟩ := h
  exact Bs.len_at h1
theorem Row.has {w : World} {p q n : Nat} {b : Nat → Bool} (h : Row w p q n b) {k : Nat} (hk : k < n) :
    Calls Tryz.prog 123 #[.pointer (some ⟨p, 0, none⟩), .int .i64 k] w fun e w' => e = .returned (.bool (b k)) ∧ w = w' := by
  obtain ⟨cap, ws, h1, h2⟩ := h
  refine (Bs.has_at h1 k).mono ?_
  rintro e w' ⟨he, hw⟩
  refine ⟨he.trans (ret_bool ?_), hw⟩
  rw [Int.toNat_natCast, h2 k hk]
  simp
theorem Row.put {w : World} {p q n : Nat} {b : Nat → Bool} (h : Row w p q n b) {k : Nat} (hk : k < n) (v : Bool) :
    Calls Tryz.prog 128 #[.pointer (some ⟨p, 0, none⟩), .int .i64 k, .bool v] w fun e w' => e = .returned (.int .i64 0) ∧ Row w' p q n (fun j => if j = k then v else b j) ∧ w.grownBy w' (some q) := by
  obtain ⟨cap, ws, h1, h2⟩ := h
  refine (Bs.put_in h1 k v (by omega) (by omega)).mono ?_
  rintro e w' ⟨he, hs, hg⟩
  refine ⟨he, ⟨cap, _, hs, fun j hj => ?_⟩, hg⟩
  have := h1.len
  rw [Int.toNat_natCast, M.bit_put ws k j v (by omega)]
  show _ = if j = k then v else b j
  split
  · rfl
  · exact h2 j hj
theorem Row.qlt {w : World} {p q n : Nat} {b : Nat → Bool} (h : Row w p q n b) : q < w.heap.size := by
  obtain ⟨cap, ws, h1, h2⟩ := h
  exact h1.qlt
theorem Row.plt {w : World} {p q n : Nat} {b : Nat → Bool} (h : Row w p q n b) : p < w.heap.size := by
  obtain ⟨cap, ws, h1, h2⟩ := h
  exact World.block_lt_of_cell? w ⟨p, 0, none⟩ h1.c0

/-- Where a slab's parts lie: itself, the arena, its bytes, the two rows, their words. -/
structure Pl where
  p : Nat
  pa : Nat
  qa : Nat
  pl : Nat
  ql : Nat
  ph : Nat
  qh : Nat
/-- The numbers of a slab: key, page, class, a slot's bytes, slots, a block's bytes, owner; the arena's bytes. -/
structure Nm where
  key : Nat
  g : Nat
  c : Nat
  s : Nat
  n : Nat
  r : Nat
  o : Int
  N : Nat
  acap : Nat
structure Apart (X : Pl) : Prop where
  h1 : X.p ≠ X.pa ∧ X.p ≠ X.qa ∧ X.p ≠ X.pl ∧ X.p ≠ X.ql ∧ X.p ≠ X.ph ∧ X.p ≠ X.qh
  h2 : X.ql ≠ X.pa ∧ X.ql ≠ X.qa ∧ X.ql ≠ X.pl ∧ X.ql ≠ X.ph ∧ X.ql ≠ X.qh
  h3 : X.qh ≠ X.pa ∧ X.qh ≠ X.qa ∧ X.qh ≠ X.pl ∧ X.qh ≠ X.ph
  h4 : X.qa ≠ X.pa ∧ X.qa ≠ X.pl ∧ X.qa ≠ X.ph
structure Ok (Y : Nm) : Prop where
  c : Cls Y.c Y.s Y.n Y.r
  g : Y.g * 256 + 256 ≤ Y.N
  N : Y.N ≤ 65536
  k : Y.key < 18446744073709551616
/-- The slab's own cells. -/
structure Own (w : World) (X : Pl) (Y : Nm) (f : Int) : Prop where
  c0 : w.cell? ⟨X.p, 0, none⟩ = some (.pointer (some ⟨X.pa, 0, none⟩))
  c1 : w.cell? ⟨X.p, 1, none⟩ = some (.int .u64 (Y.key : Nat))
  c2 : w.cell? ⟨X.p, 2, none⟩ = some (.int .i64 (Y.g : Nat))
  c3 : w.cell? ⟨X.p, 3, none⟩ = some (.int .i64 (Y.c : Nat))
  c4 : w.cell? ⟨X.p, 4, none⟩ = some (.int .i64 Y.o)
  c5 : w.cell? ⟨X.p, 5, none⟩ = some (.pointer (some ⟨X.pl, 0, none⟩))
  c6 : w.cell? ⟨X.p, 6, none⟩ = some (.pointer (some ⟨X.ph, 0, none⟩))
  c7 : w.cell? ⟨X.p, 7, none⟩ = some (.int .i64 f)
  fz : ∀ k, w.frozen? ⟨X.p, k, none⟩ = false
theorem Own.grown {w w' : World} {X : Pl} {Y : Nm} {f : Int} {r : Option Nat} (h : Own w X Y f) (hg : w.grownBy w' r) (hp : some X.p ≠ r) : Own w' X Y f :=
  ⟨hg.cell h.c0 hp, hg.cell h.c1 hp, hg.cell h.c2 hp, hg.cell h.c3 hp, hg.cell h.c4 hp, hg.cell h.c5 hp, hg.cell h.c6 hp, hg.cell h.c7 hp, fun k => by rw [World.frozen?_of_block (w := w) (hg.block X.p (World.block_lt_of_cell? w ⟨X.p, 0, none⟩ h.c0) hp)]; exact h.fz k⟩
theorem Own.plt {w : World} {X : Pl} {Y : Nm} {f : Int} (h : Own w X Y f) : X.p < w.heap.size := World.block_lt_of_cell? w ⟨X.p, 0, none⟩ h.c0
def is1 (S : Nat → Nat) : Nat → Bool := fun k => decide (S k = 1)
def is2 (S : Nat → Nat) : Nat → Bool := fun k => decide (S k = 2)
/-- A slab, of states S, whose first free slot is f, in an arena of bytes B. -/
structure SlAt (w : World) (X : Pl) (Y : Nm) (S : Nat → Nat) (f : Int) (B : Nat → Nat) : Prop where
  own : Own w X Y f
  ar : An.ArAt w X.pa X.qa Y.N Y.acap B none
  l : Row w X.pl X.ql Y.n (is1 S)
  h : Row w X.ph X.qh Y.n (is2 S)
  ap : Apart X
  ok : Ok Y
theorem some_ne {a b : Nat} (h : a ≠ b) : some a ≠ some b := by simpa using h
theorem SlAt.grown {w w' : World} {X : Pl} {Y : Nm} {S : Nat → Nat} {f : Int} {B : Nat → Nat} (h : SlAt w X Y S f B) (hg : w.grownBy w' none) : SlAt w' X Y S f B :=
  ⟨h.own.grown hg (by simp), h.ar.grown hg (by simp) (by simp), h.l.grown hg (by simp) (by simp), h.h.grown hg (by simp) (by simp), h.ap, h.ok⟩
/-- The blocks that a slab's calls write into. -/
def Pl.may (X : Pl) (i : Nat) : Prop := i = X.p ∨ i = X.qa ∨ i = X.ql ∨ i = X.qh

/-- A number that is a slot's, or none's. -/
def isK (n : Nat) (k : Int) : Bool := decide (0 ≤ k ∧ k < n)
theorem isK_t {n : Nat} {k : Int} (h : isK n k = true) : ∃ j : Nat, k = j ∧ j < n := by
  simp [isK] at h
  exact ⟨k.toNat, by omega, by omega⟩
theorem isK_of {n k : Nat} (h : k < n) : isK n (k : Int) = true := by simp [isK, h]
theorem isK_f {n : Nat} {k : Int} (h : isK n k = false) : k < 0 ∨ n ≤ k := by
  simp [isK] at h
  omega

set_option maxHeartbeats 400000 in
theorem slots_nil (w : World) :
    Calls Tryz.prog 135 #[.pointer none] w fun e w' => e = .returned (.int .i64 0) ∧ w = w' := by
  go_enter Tryz.func135, Tryz.ntmps135
  go_wp2
  go_ret
  exact ⟨rfl, rfl⟩
set_option maxHeartbeats 400000 in
theorem slots_at {w : World} {X : Pl} {Y : Nm} {S : Nat → Nat} {f : Int} {B : Nat → Nat} (h : SlAt w X Y S f B) :
    Calls Tryz.prog 135 #[.pointer (some ⟨X.p, 0, none⟩)] w fun e w' => e = .returned (.int .i64 Y.n) ∧ w = w' := by
  have c5 := h.own.c5
  have HL := Lib.hid h.l.len
  clear h
  go_enter Tryz.func135, Tryz.ntmps135
  go_wp2_with (go_at_call 178; refine HL.out.mono ?_; rintro e w' ⟨rfl, rfl⟩)
  go_ret
  exact ⟨rfl, rfl⟩
set_option maxHeartbeats 400000 in
theorem sthere_core (v : Value) (n : Nat) (k : Int) (w : World) (hl : Calls Tryz.prog 135 #[v] w fun e w' => e = .returned (.int .i64 n) ∧ w = w') :
    Calls Tryz.prog 145 #[v, .int .i64 k] w fun e w' => e = .returned (.bool (isK n k)) ∧ w = w' := by
  have HL := Lib.hid hl
  clear hl
  by_cases h0 : 0 ≤ k
  · have h1 : decide (0 ≤ k) = true := by simpa using h0
    have HB := Lib.hid (show decide (k < (n : Int)) = isK n k by simp [isK, h0])
    clear h0
    go_enter Tryz.func145, Tryz.ntmps145
    go_wp2_with (go_at_call 135; refine HL.out.mono ?_; rintro e w' ⟨rfl, rfl⟩)
    go_ret
    exact ⟨ret_bool HB.out, rfl⟩
  · have h1 : decide (0 ≤ k) = false := by simpa using h0
    have HB := Lib.hid (show false = isK n k by simp [isK, h0])
    clear h0
    go_enter Tryz.func145, Tryz.ntmps145
    go_wp2
    go_ret
    exact ⟨ret_bool HB.out, rfl⟩
theorem sthere_nil (k : Int) (w : World) : Calls Tryz.prog 145 #[.pointer none, .int .i64 k] w fun e w' => e = .returned (.bool false) ∧ w = w' :=
  (sthere_core _ 0 k w (slots_nil w)).mono fun _ _ ⟨he, hw⟩ => ⟨he.trans (ret_bool (by simp [isK])), hw⟩
theorem sthere_at {w : World} {X : Pl} {Y : Nm} {S : Nat → Nat} {f : Int} {B : Nat → Nat} (h : SlAt w X Y S f B) (k : Int) :
    Calls Tryz.prog 145 #[.pointer (some ⟨X.p, 0, none⟩), .int .i64 k] w fun e w' => e = .returned (.bool (isK Y.n k)) ∧ w = w' := sthere_core _ _ k w (slots_at h)

/-- Where a slot begins; -1: there is none. -/
def baseV (Y : Nm) (k : Int) : Int := if isK Y.n k = true then bs Y.g Y.s k.toNat else -1
theorem baseV_in {Y : Nm} {k : Nat} (h : k < Y.n) : baseV Y k = bs Y.g Y.s k := by unfold baseV; rw [if_pos (isK_of h), Int.toNat_natCast]
theorem baseV_out {Y : Nm} {k : Int} (h : isK Y.n k = false) : baseV Y k = -1 := by unfold baseV; rw [if_neg (by rw [h]; simp)]
theorem cbase_at {Y : Nm} (h : Ok Y) (k : Int) (w : World) :
    Calls Tryz.prog 139 #[.int .i64 (Y.g : Nat), .int .i64 (Y.c : Nat), .int .i64 k] w fun e w' => e = .returned (.int .i64 (baseV Y k)) ∧ w = w' := by
  have := h.N
  have := h.g
  cases hk : isK Y.n k with
  | true =>
    obtain ⟨j, rfl, hj⟩ := isK_t hk
    rw [baseV_in hj]
    exact base_core _ _ w h.c.cl (by omega) (by omega) (by omega) (by omega)
  | false =>
    rw [baseV_out hk]
    have := isK_f hk
    exact base_off _ _ w h.c.cl (by omega)
set_option maxHeartbeats 400000 in
theorem sbase_own {w : World} {X : Pl} {Y : Nm} {f : Int} (h : Own w X Y f) (ok : Ok Y) (k : Int) :
    Calls Tryz.prog 130 #[.pointer (some ⟨X.p, 0, none⟩), .int .i64 k] w fun e w' => e = .returned (.int .i64 (baseV Y k)) ∧ ∃ d, w' = w.drewN d := by
  have c2 := h.c2
  have c3 := h.c3
  have HB := Lib.hid (fun w => cbase_at ok k w)
  clear h ok
  generalize baseV Y k = b at *
  go_enter Tryz.func130, Tryz.ntmps130
  go_wp2
  go_quiet ((go_at_call 139; exact quiet_left (HB.out _)))
  go_wp2
  go_ret
  exact ⟨rfl, _, rfl⟩
theorem sbase_at {w : World} {X : Pl} {Y : Nm} {S : Nat → Nat} {f : Int} {B : Nat → Nat} (h : SlAt w X Y S f B) (k : Int) :
    Calls Tryz.prog 130 #[.pointer (some ⟨X.p, 0, none⟩), .int .i64 k] w fun e w' => e = .returned (.int .i64 (baseV Y k)) ∧ ∃ d, w' = w.drewN d := sbase_own h.own h.ok k
/-- A slab's cells, at whatever world that drew on. -/
theorem Own.drewN {w : World} {X : Pl} {Y : Nm} {f : Int} (h : Own w X Y f) (d : Nat) : Own (w.drewN d) X Y f := h.grown (grown_drew (grown_refl w none) d) (by simp)
theorem bs_bd {Y : Nm} (h : Ok Y) {k : Nat} (hk : k < Y.n) : bs Y.g Y.s k + Y.s ≤ Y.N := by have := Sl.bs_hi h.c Y.g hk; have := h.g; omega
theorem room_at {Y : Nm} (h : Ok Y) (w : World) : Calls Tryz.prog 140 #[.int .i64 (Y.c : Nat)] w fun e w' => e = .returned (.int .i64 (Y.r : Nat)) ∧ w = w' := room_yes w h.c.cl
theorem size_at {Y : Nm} (h : Ok Y) (w : World) : Calls Tryz.prog 131 #[.int .i64 (Y.c : Nat)] w fun e w' => e = .returned (.int .i64 (Y.s : Nat)) ∧ w = w' := size_yes w h.c.cl
set_option maxHeartbeats 400000 in
theorem guard_at {w : World} {X : Pl} {Y : Nm} {S : Nat → Nat} {f : Int} {B : Nat → Nat} (h : SlAt w X Y S f B) {k : Nat} (hk : k < Y.n) :
    Calls Tryz.prog 148 #[.pointer (some ⟨X.p, 0, none⟩), .int .i64 k] w fun e w' => e = .returned (.int .i64 ((bs Y.g Y.s k + Y.r : Nat) : Int)) ∧ ∃ d, w' = w.drewN d := by
  have c3 := h.own.c3
  have HB := Lib.hid (fun d => sbase_own (h.own.drewN d) h.ok (k : Int))
  rw [baseV_in hk] at HB
  have HR := Lib.hid (fun w => room_at h.ok w)
  have b1 := bs_bd h.ok hk
  have b2 := h.ok.c.facts.rs
  have b3 := h.ok.N
  have e1 : IntKind.i64.wrap ((bs Y.g Y.s k : Nat) + (Y.r : Nat)) = ((bs Y.g Y.s k + Y.r : Nat) : Int) := by rw [IntKind.wrap_i64]; omega
  clear h hk b1 b2 b3
  generalize ((bs Y.g Y.s k + Y.r : Nat) : Int) = b at *
  generalize bs Y.g Y.s k = x at *
  go_enter Tryz.func148, Tryz.ntmps148
  go_wp2
  go_quiet (first
    | (go_at_call 130; exact quiet_drew (HB.out _))
    | (go_at_call 140; exact quiet_left (HR.out _)))
  go_wp2
  go_ret
  exact ⟨rfl, _, rfl⟩

/-- What a slot is; -1: there is none. -/
def stV (Y : Nm) (S : Nat → Nat) (k : Int) : Int := if isK Y.n k = true then (S k.toNat : Nat) else -1
theorem stV_in {Y : Nm} {S : Nat → Nat} {k : Nat} (h : k < Y.n) : stV Y S k = S k := by unfold stV; rw [if_pos (isK_of h), Int.toNat_natCast]
theorem stV_out {Y : Nm} {S : Nat → Nat} {k : Int} (h : isK Y.n k = false) : stV Y S k = -1 := by unfold stV; rw [if_neg (by rw [h]; simp)]
set_option maxHeartbeats 400000 in
theorem state_out (v : Value) (k : Int) (w : World) (hl : Calls Tryz.prog 145 #[v, .int .i64 k] w fun e w' => e = .returned (.bool false) ∧ w = w') :
    Calls Tryz.prog 118 #[v, .int .i64 k] w fun e w' => e = .returned (.int .i64 (-1)) ∧ w = w' := by
  have HL := Lib.hid hl
  clear hl
  go_enter Tryz.func118, Tryz.ntmps118
  go_wp2_with (go_at_call 145; refine HL.out.mono ?_; rintro e w' ⟨rfl, rfl⟩)
  go_ret
  exact ⟨rfl, rfl⟩
set_option maxHeartbeats 1000000 in
theorem state_in {w : World} {X : Pl} {Y : Nm} {S : Nat → Nat} {f : Int} {B : Nat → Nat} (h : SlAt w X Y S f B) {k : Nat} (hk : k < Y.n) (hS : S k ≤ 2) :
    Calls Tryz.prog 118 #[.pointer (some ⟨X.p, 0, none⟩), .int .i64 k] w fun e w' => e = .returned (.int .i64 (S k : Nat)) ∧ w = w' := by
  have HT := sthere_at h (k : Int)
  rw [isK_of hk] at HT
  have HT := Lib.hid HT
  have c5 := h.own.c5
  have c6 := h.own.c6
  have HB := Lib.hid (h.l.has hk)
  have HC := Lib.hid (h.h.has hk)
  clear h
  rcases (by omega : S k = 0 ∨ S k = 1 ∨ S k = 2) with e | e | e
  all_goals
    rw [show is1 S k = decide (S k = 1) from rfl, e] at HB
    rw [show is2 S k = decide (S k = 2) from rfl, e] at HC
    rw [e]
    clear e hS hk
    go_enter Tryz.func118, Tryz.ntmps118
    go_wp2_with (go_at_call 145; refine HT.out.mono ?_; rintro e w' ⟨rfl, rfl⟩)
    go_wp2_with fail
    first
      | (go_at_call 123; refine HB.out.mono ?_; rintro e w' ⟨rfl, rfl⟩)
      | skip
    go_wp2_with fail
    first
      | (go_at_call 123; refine HC.out.mono ?_; rintro e w' ⟨rfl, rfl⟩; go_wp2)
      | skip
    go_ret
    exact ⟨rfl, rfl⟩
theorem state_at {w : World} {X : Pl} {Y : Nm} {S : Nat → Nat} {f : Int} {B : Nat → Nat} (h : SlAt w X Y S f B) (hS : ∀ k, S k ≤ 2) (k : Int) :
    Calls Tryz.prog 118 #[.pointer (some ⟨X.p, 0, none⟩), .int .i64 k] w fun e w' => e = .returned (.int .i64 (stV Y S k)) ∧ w = w' := by
  cases hk : isK Y.n k with
  | true =>
    obtain ⟨j, rfl, hj⟩ := isK_t hk
    rw [stV_in hj]
    exact state_in h hj (hS j)
  | false =>
    rw [stV_out hk]
    have := sthere_at h k
    rw [hk] at this
    exact state_out _ k w this
theorem state_nil (k : Int) (w : World) : Calls Tryz.prog 118 #[.pointer none, .int .i64 k] w fun e w' => e = .returned (.int .i64 (-1)) ∧ w = w' := state_out _ k w (sthere_nil k w)

/-- What is wrong with slot k, if it has to be in a state. -/
def wrV (Y : Nm) (S : Nat → Nat) (k x : Int) : Int := if isK Y.n k = true then (if stV Y S k = x then 0 else 8) else 3
set_option maxHeartbeats 400000 in
theorem wrong_nil (k x : Int) (w : World) :
    Calls Tryz.prog 127 #[.pointer none, .int .i64 k, .int .i64 x] w fun e w' => e = .returned (.int .i64 2) ∧ w = w' := by
  go_enter Tryz.func127, Tryz.ntmps127
  go_wp2
  go_ret
  exact ⟨rfl, rfl⟩
set_option maxHeartbeats 1000000 in
theorem wrong_at {w : World} {X : Pl} {Y : Nm} {S : Nat → Nat} {f : Int} {B : Nat → Nat} (h : SlAt w X Y S f B) (hS : ∀ k, S k ≤ 2) (k x : Int) :
    Calls Tryz.prog 127 #[.pointer (some ⟨X.p, 0, none⟩), .int .i64 k, .int .i64 x] w fun e w' => e = .returned (.int .i64 (wrV Y S k x)) ∧ w = w' := by
  have HT := sthere_at h k
  have HS := Lib.hid (state_at h hS k)
  clear h hS
  unfold wrV
  cases hk : isK Y.n k with
  | false =>
    rw [if_neg (by simp)]
    rw [hk] at HT
    have HT := Lib.hid HT
    clear hk HS
    go_enter Tryz.func127, Tryz.ntmps127
    go_wp2_with (go_at_call 145; refine HT.out.mono ?_; rintro e w' ⟨rfl, rfl⟩)
    go_ret
    exact ⟨rfl, rfl⟩
  | true =>
    rw [if_pos rfl]
    rw [hk] at HT
    have HT := Lib.hid HT
    clear hk
    generalize stV Y S k = y at *
    by_cases e : y = x
    · rw [if_pos e]
      have e1 : (y != x) = false := by simpa using e
      clear e
      go_enter Tryz.func127, Tryz.ntmps127
      go_wp2_with (first
        | (go_at_call 145; refine HT.out.mono ?_; rintro e w' ⟨rfl, rfl⟩)
        | (go_at_call 118; refine HS.out.mono ?_; rintro e w' ⟨rfl, rfl⟩))
      go_ret
      exact ⟨rfl, rfl⟩
    · rw [if_neg e]
      have e1 : (y != x) = true := by simpa using e
      clear e
      go_enter Tryz.func127, Tryz.ntmps127
      go_wp2_with (first
        | (go_at_call 145; refine HT.out.mono ?_; rintro e w' ⟨rfl, rfl⟩)
        | (go_at_call 118; refine HS.out.mono ?_; rintro e w' ⟨rfl, rfl⟩))
      go_ret
      exact ⟨rfl, rfl⟩
end Go.Proofs.YtgnfcklippjeeaaGreat

/- The walks of a slab's stands, gone, lead, next; bytes.Count of one byte. -/
namespace Go.Proofs.YtgnfcklippjeeaaGreat
open Go.RowKit
open Sl (Cls bs)

theorem drew_grownBy {w w' : World} {r : Option Nat} (h : ∃ d, w' = w.drewN d) : w.grownBy w' r := by obtain ⟨d, rfl⟩ := h; exact grown_drew (grown_refl _ _) d
/-- The word at a place of the arena. -/
theorem word_in {w : World} {p q N cap : Nat} {B : Nat → Nat} {wk : Option Addr} (h : An.ArAt w p q N cap B wk) {a : Nat} (ha : a + 8 ≤ N) (hm : a % 8 = 0) :
    Calls Tryz.prog 174 #[.pointer (some ⟨p, 0, none⟩), .int .i64 a] w fun e w' => e = .returned (.tuple #[.int .u64 (Ar.wordAt B a : Nat), .int .i64 0]) ∧ w = w' := by
  have e : An.wbE N a = 0 := by
    unfold An.wbE
    rw [if_pos ((An.inB_iff _ _ _).2 (by omega)), if_pos (by omega)]
  have := An.word_at h (a : Int)
  rw [e] at this
  unfold An.wordV at this
  rw [if_pos e, Int.toNat_natCast] at this
  exact this
/-- .. and written. -/
theorem setword_in {w : World} {p q N cap : Nat} {B : Nat → Nat} (h : An.ArAt w p q N cap B none) {a v : Nat} (ha : a + 8 ≤ N) (hm : a % 8 = 0) :
    Calls Tryz.prog 147 #[.pointer (some ⟨p, 0, none⟩), .int .i64 a, .int .u64 v] w fun e w' => e = .returned (.int .i64 0) ∧ An.ArAt w' p q N cap (Ar.setW B a v) none ∧ w.grownBy w' (some q) := by
  have e : An.wbE N a = 0 := by
    unfold An.wbE
    rw [if_pos ((An.inB_iff _ _ _).2 (by omega)), if_pos (by omega)]
  refine (An.setword_good p q N cap a v B w h.c0 h.small e (fun w' => w = w') (fun w' hw => hw ▸ h.b) (An.open_none h a 8 ha)).mono ?_
  rintro e w' ⟨he, w1, rfl, hg, hb⟩
  have hp : some p ≠ some q := some_ne h.ne
  exact ⟨he, ⟨hg.cell h.c0 hp, hg.cell h.c1 hp, fun k => by rw [World.frozen?_of_block (w := w) (hg.block p h.plt hp)]; exact h.fz k, hb, h.ne, h.hcap, h.small, h.page, fun i => by rw [Ar.setW_is]; exact Ar.setB_lt h.lt (Ar.byt_lt v) _ _ _⟩, hg⟩
theorem SlAt.arena {w w' : World} {X : Pl} {Y : Nm} {S : Nat → Nat} {f : Int} {B B' : Nat → Nat} (h : SlAt w X Y S f B) (hg : w.grownBy w' (some X.qa)) (ha : An.ArAt w' X.pa X.qa Y.N Y.acap B' none) : SlAt w' X Y S f B' :=
  ⟨h.own.grown hg (some_ne h.ap.h1.2.1), ha, h.l.grown hg (some_ne h.ap.h4.2.1.symm) (some_ne h.ap.h2.2.1), h.h.grown hg (some_ne h.ap.h4.2.2.symm) (some_ne h.ap.h3.2.1), h.ap, h.ok⟩

set_option maxRecDepth 100000 in
set_option maxHeartbeats 1000000 in
theorem stands_dec {w : World} {X : Pl} {Y : Nm} {S : Nat → Nat} {f : Int} {B : Nat → Nat} (h : SlAt w X Y S f B) {k : Nat} (hk : k < Y.n) :
    Calls Tryz.prog 124 #[.pointer (some ⟨X.p, 0, none⟩), .int .i64 k] w fun e w' => e = .returned (.bool (decide (Ar.wordAt B (bs Y.g Y.s k + Y.r) = Sl.can Y.key Y.g Y.s k))) ∧ w.grownBy w' none := by
  have c0 := h.own.c0
  have HC1 := Lib.hid (fun W (g : w.grownBy W none) => (h.own.grown g (by simp)).c1)
  have hG := Lib.hid (fun d => guard_at (h.grown (grown_drew (grown_refl w none) d)) hk)
  have HW : Hid (∀ d, Calls Tryz.prog 174 #[.pointer (some ⟨X.pa, 0, none⟩), .int .i64 ((bs Y.g Y.s k + Y.r : Nat) : Int)] (w.drewN d) fun e w' => e = .returned (.tuple #[.int .u64 (Ar.wordAt B (bs Y.g Y.s k + Y.r) : Nat), .int .i64 0]) ∧ w.drewN d = w') := Lib.hid (fun d => by
    have b1 := bs_bd h.ok hk
    have b2 := h.ok.c.facts.rs
    have b3 := Sl.bs_mod h.ok.c Y.g k
    have b4 := Sl.r_mod h.ok.c
    have := word_in (h.grown (grown_drew (grown_refl w none) d)).ar (a := bs Y.g Y.s k + Y.r) (by omega) (by omega)
    exact this)
  have HE : Hid ((((Ar.wordAt B (bs Y.g Y.s k + Y.r) : Nat) : Int) == ((Sl.can Y.key Y.g Y.s k : Nat) : Int)) = decide (Ar.wordAt B (bs Y.g Y.s k + Y.r) = Sl.can Y.key Y.g Y.s k)) := Lib.hid (by
    by_cases e : Ar.wordAt B (bs Y.g Y.s k + Y.r) = Sl.can Y.key Y.g Y.s k
    · rw [e]; simp
    · rw [show decide _ = false from by simpa using e]
      simp only [beq_eq_false_iff_ne]
      omega)
  have HB : Hid (∀ W, w.grownBy W none → Calls Tryz.prog 130 #[.pointer (some ⟨X.p, 0, none⟩), .int .i64 k] W fun e w' => e = .returned (.int .i64 (bs Y.g Y.s k : Nat)) ∧ W.grownBy w' none) := Lib.hid (fun W g => by
    have := sbase_own (h.own.grown g (by simp)) h.ok (k : Int)
    rw [baseV_in hk] at this
    exact this.mono fun _ _ ⟨he, hd⟩ => ⟨he, drew_grownBy hd⟩)
  have HK : Hid (∀ W, Calls Tryz.prog 149 #[.agg #[.int .u64 (Y.key : Nat)], .int .i64 (bs Y.g Y.s k : Nat)] W fun e w' => e = .returned (.int .u64 (Sl.can Y.key Y.g Y.s k : Nat)) ∧ W.grownBy w' none) := Lib.hid (fun W => canary_at Y.key h.ok.k _ W)
  clear h hk
  generalize decide (Ar.wordAt B (bs Y.g Y.s k + Y.r) = Sl.can Y.key Y.g Y.s k) = bb at *
  generalize Ar.wordAt B (bs Y.g Y.s k + Y.r) = z0 at *
  generalize Sl.can Y.key Y.g Y.s k = z at *
  generalize ((bs Y.g Y.s k + Y.r : Nat) : Int) = y at *
  generalize bs Y.g Y.s k = x at *
  go_enter Tryz.func124, Tryz.ntmps124
  go_wp2
  go_quiet (first
    | (go_at_call 148; exact quiet_drew (hG.out _))
    | (go_at_call 174; exact quiet_left (HW.out _)))
  rename_i nq
  have hg0 := grown_drew (grown_refl w none) nq
  have c1 := HC1.out _ hg0
  generalize w.drewN nq = w1 at *
  have hg1 := grown_drew1 hg0
  clear hG HW c0
  go_upto_region 2 with (fail)
  go_region_held3 (fun w' => w'.cell? ⟨X.p, 1, none⟩ = some (.int .u64 (Y.key : Nat)))
    (first | exact c1 | exact HC1.out _ (by assumption))
    (first
    | (go_at_call 130; refine (HB.out _ (by assumption)).mono ?_; rintro e w3 ⟨rfl, m⟩; have hg2 := grown_trans hg1 m; clear m)
    | (go_at_call 149; refine (HK.out _).mono ?_; rintro e w4 ⟨rfl, m⟩; have hg3 := grown_trans hg2 m; clear m))
  have HGE := Lib.hid hg3
  clear hg0 hg1 hg2 hg3
  go_wp2
  go_ret
  exact ⟨ret_bool HE.out, HGE.out⟩
theorem stands_at {w : World} {X : Pl} {Y : Nm} {S : Nat → Nat} {f : Int} {B : Nat → Nat} (h : SlAt w X Y S f B) {k : Nat} (hk : k < Y.n) (hw : Ar.wordAt B (bs Y.g Y.s k + Y.r) = Sl.can Y.key Y.g Y.s k) :
    Calls Tryz.prog 124 #[.pointer (some ⟨X.p, 0, none⟩), .int .i64 k] w fun e w' => e = .returned (.bool true) ∧ w.grownBy w' none := by
  have := stands_dec h hk
  rw [decide_eq_true hw] at this
  exact this

theorem count_all {n : Nat} {B : Nat → Nat} (h : ∀ i, i < n → B i = 221) : Lib.countByte (Lib.bytesOf ((List.range n).map fun i => ((B i : Nat) : Int))) 221 = n := by
  have e : Lib.bytesOf ((List.range n).map fun i => ((B i : Nat) : Int)) = List.replicate n (221 : UInt8) := by
    unfold Lib.bytesOf
    rw [List.map_map]
    apply List.ext_getElem (by simp)
    intro i h1 h2
    simp at h1
    simp [h i h1]
  rw [e]
  unfold Lib.countByte
  exact List.count_replicate_self
set_option maxRecDepth 100000 in
set_option maxHeartbeats 1000000 in
theorem bcount_at (q n cap q2 cap2 : Nat) (B : Nat → Nat) (w : World) (hc : ∀ i, i < n → w.cell? ⟨q, i, none⟩ = some (.int .u8 (B i : Nat))) (hc2 : w.cell? ⟨q2, 0, none⟩ = some (.int .u8 221)) (hB : ∀ i, i < n → B i = 221) :
    Calls Tryz.prog 176 #[.slice (some ⟨q, 0, none⟩) n cap, .slice (some ⟨q2, 0, none⟩) 1 cap2] w fun e w' => e = .returned (.int .i64 (n : Nat)) ∧ w = w' := by
  have HR := Lib.hid (Lib.run_countSlice (P := Tryz.prog) w q 0 n cap ((List.range n).map fun i => ((B i : Nat) : Int)) (by simp) (fun i hi => by rw [Nat.zero_add, hc i hi]; simp [List.getD_eq_getElem?_getD, hi]) 221)
  have HN := Lib.hid (count_all hB)
  clear hc hB
  go_enter Tryz.func176, Tryz.ntmps176
  go_wp2
  rw [run_callFunc_extern Tryz.func189 (by kernel_rfl) (by kernel_rfl) (by kernel_rfl) (e := Extern.BytealgCount.count) (by kernel_rfl), HR.out]
  simp only [Result.andThen]
  rw [Oper.upon_value]
  go_wp2
  go_ret
  exact ⟨ret_int (congrArg Nat.cast HN.out), rfl⟩

set_option maxRecDepth 100000 in
set_option maxHeartbeats 1000000 in
theorem gone_at {w : World} {X : Pl} {Y : Nm} {S : Nat → Nat} {f : Int} {B : Nat → Nat} (h : SlAt w X Y S f B) {k : Nat} (hk : k < Y.n) (hw : ∀ i, i < Y.s → B (bs Y.g Y.s k + i) = 221) :
    Calls Tryz.prog 125 #[.pointer (some ⟨X.p, 0, none⟩), .int .i64 k] w fun e w' => e = .returned (.bool true) ∧ w.grownBy w' none := by
  have HO := Lib.hid (fun W (g : w.grownBy W none) => And.intro (h.own.grown g (by simp)).c0 (h.own.grown g (by simp)).c3)
  have HB : Hid (∀ W, w.grownBy W none → Calls Tryz.prog 130 #[.pointer (some ⟨X.p, 0, none⟩), .int .i64 k] W fun e w' => e = .returned (.int .i64 (bs Y.g Y.s k : Nat)) ∧ W.grownBy w' none) := Lib.hid (fun W g => by
    have := sbase_own (h.own.grown g (by simp)) h.ok (k : Int)
    rw [baseV_in hk] at this
    exact this.mono fun _ _ ⟨he, hd⟩ => ⟨he, drew_grownBy hd⟩)
  have HS : Hid (∀ W, Calls Tryz.prog 131 #[.int .i64 (Y.c : Nat)] W fun e w' => e = .returned (.int .i64 (Y.s : Nat)) ∧ W = w') := Lib.hid (fun W => size_at h.ok W)
  have HL : Hid (∀ W, w.grownBy W none → Calls Tryz.prog 175 #[.pointer (some ⟨X.pa, 0, none⟩), .int .i64 (bs Y.g Y.s k : Nat), .int .i64 (Y.s : Nat)] W fun e w' => An.LoadRes W w' Y.s (fun i => B (bs Y.g Y.s k + i)) e) := Lib.hid (fun W g => An.aload_good (h.grown g).ar _ _ (bs_bd h.ok hk))
  have HW := Lib.hid hw
  have hs := h.ok.c.facts.s128
  clear h hw hk
  have e0 := (HO.out _ (grown_refl w none)).1
  have e1 := (HO.out _ (grown_refl w none)).2
  have hg1 := grown_drew1 (grown_refl w none)
  generalize bs Y.g Y.s k = x at *
  go_enter Tryz.func125, Tryz.ntmps125
  go_upto_region 1 with (fail)
  go_cut [5] (fun v W => ∃ q cap, v = .slice (some ⟨q, 0, none⟩) Y.s cap ∧ An.BytesAt W q Y.s (fun i => B (x + i)) ∧ w.grownBy W none)
  case first =>
    go_region_held3 (fun w' => w'.cell? ⟨X.p, 0, none⟩ = some (.pointer (some ⟨X.pa, 0, none⟩)) ∧ w'.cell? ⟨X.p, 3, none⟩ = some (.int .i64 (Y.c : Nat)))
      (first | exact ⟨e0, e1⟩ | exact HO.out _ (by assumption))
      (first
      | (go_at_call 130; refine (HB.out _ (by assumption)).mono ?_; rintro e w3 ⟨rfl, m⟩; have hg2 := grown_trans hg1 m; clear m)
      | (go_at_call 131; refine (HS.out _).mono ?_; rintro e w3 ⟨rfl, rfl⟩)
      | (go_at_call 175; refine (HL.out _ (by assumption)).mono ?_; rintro e w5 ⟨q5, cap5, rfl, k1, k2, k3, k4⟩; have K := Lib.hid k3; have hg5 := grown_trans hg2 k4; clear k1 k2 k3 k4))
    all_goals
      go_wp2
      go_meet
      exact ⟨_, _, rfl, K.out, hg5⟩
  case rest =>
    obtain ⟨q, cap, rfl, hb, hg⟩ := hcut
    have HG := Lib.hid hg
    have HBB := Lib.hid hb
    have HC := Lib.hid (fun W (q2 c2 : Nat) (g : wc.grownBy W none) (h2 : W.cell? ⟨q2, 0, none⟩ = some (.int .u8 221)) => bcount_at q Y.s cap q2 c2 (fun i => B (x + i)) W (hb.grown g (by simp)).c h2 HW.out)
    clear hg hb HB HS HL HO e0 e1 hg1
    go_wp2_with fail
    refine (HC.out _ _ _ (grown_alloc _ _ _) (by rw [cell_alloc_new]; rfl)).mono ?_
    rintro e w' ⟨rfl, rfl⟩
    go_wp2
    go_ret
    exact ⟨rfl, grown_trans HG.out (grown_alloc _ _ _)⟩

/-- What a link to a slot is made of. -/
def toV (Y : Nm) (k : Int) : Nat := if isK Y.n k = true then bs Y.g Y.s k.toNat + 1 else 0
theorem toV_lt {Y : Nm} (h : Ok Y) (k : Int) : toV Y k < 65537 := by
  unfold toV
  split
  · rename_i hk
    obtain ⟨j, rfl, hj⟩ := isK_t hk
    have := bs_bd h hj
    have := h.c.facts.s16
    have := h.N
    rw [Int.toNat_natCast]
    omega
  · omega
theorem toV_base (Y : Nm) (k : Int) : baseV Y k + 1 = toV Y k := by
  unfold toV baseV
  split
  · omega
  · rfl
/-- A link is written. -/
theorem cput_at {Y : Nm} (h : Ok Y) (k : Nat) (j : Int) (w : World) :
    Calls Tryz.prog 177 #[.agg #[.int .u64 (Y.key : Nat)], .int .i64 (bs Y.g Y.s k : Nat), .int .i64 (baseV Y j)] w fun e w' => e = .returned (.int .u64 (Li.lk Y.key (bs Y.g Y.s k : Nat) (toV Y j) : Nat)) ∧ w.grownBy w' none := by
  have := toV_base Y j
  have := toV_lt h j
  exact put_in Y.key (toV Y j) _ (baseV Y j) w (by omega) (by omega) (by omega) (by omega)
set_option maxRecDepth 100000 in
set_option maxHeartbeats 1000000 in
theorem lead_at {w : World} {X : Pl} {Y : Nm} {S : Nat → Nat} {f : Int} {B : Nat → Nat} (h : SlAt w X Y S f B) {k : Nat} (hk : k < Y.n) (j : Int) :
    Calls Tryz.prog 134 #[.pointer (some ⟨X.p, 0, none⟩), .int .i64 k, .int .i64 j] w fun e w' => e = .returned (.tuple #[]) ∧ SlAt w' X Y S f (Ar.setW B (bs Y.g Y.s k) (Li.lk Y.key (bs Y.g Y.s k : Nat) (toV Y j))) ∧ w.grownBy w' (some X.qa) := by
  have HO := Lib.hid (fun W (g : w.grownBy W none) => And.intro (h.own.grown g (by simp)).c0 (h.own.grown g (by simp)).c1)
  have HB1 : Hid (Calls Tryz.prog 130 #[.pointer (some ⟨X.p, 0, none⟩), .int .i64 k] w fun e w' => e = .returned (.int .i64 (bs Y.g Y.s k : Nat)) ∧ w.grownBy w' none) := Lib.hid (by
    have := sbase_own h.own h.ok (k : Int)
    rw [baseV_in hk] at this
    exact this.mono fun _ _ ⟨he, hd⟩ => ⟨he, drew_grownBy hd⟩)
  have HB : Hid (∀ W, w.grownBy W none → Calls Tryz.prog 130 #[.pointer (some ⟨X.p, 0, none⟩), .int .i64 j] W fun e w' => e = .returned (.int .i64 (baseV Y j)) ∧ W.grownBy w' none) := Lib.hid (fun W g => by
    have := sbase_own (h.own.grown g (by simp)) h.ok j
    exact this.mono fun _ _ ⟨he, hd⟩ => ⟨he, drew_grownBy hd⟩)
  have HP := Lib.hid (fun W => cput_at h.ok k j W)
  have HS : Hid (∀ W, w.grownBy W none → Calls Tryz.prog 147 #[.pointer (some ⟨X.pa, 0, none⟩), .int .i64 (bs Y.g Y.s k : Nat), .int .u64 (Li.lk Y.key (bs Y.g Y.s k : Nat) (toV Y j) : Nat)] W fun e w' => e = .returned (.int .i64 0) ∧ SlAt w' X Y S f (Ar.setW B (bs Y.g Y.s k) (Li.lk Y.key (bs Y.g Y.s k : Nat) (toV Y j))) ∧ W.grownBy w' (some X.qa)) := Lib.hid (fun W g => by
    have hW := h.grown g
    have b1 := bs_bd h.ok hk
    have b2 := h.ok.c.facts.s16
    have b3 := Sl.bs_mod h.ok.c Y.g k
    exact (setword_in hW.ar (by omega) (by omega)).mono fun _ _ ⟨he, ha, hg⟩ => ⟨he, hW.arena hg ha, hg⟩)
  clear h hk
  generalize (Li.lk Y.key (bs Y.g Y.s k : Nat) (toV Y j)) = z at *
  generalize baseV Y j = y at *
  generalize bs Y.g Y.s k = x at *
  go_enter Tryz.func134, Tryz.ntmps134
  go_wp2_with fail
  refine HB1.out.mono ?_
  rintro e w1 ⟨rfl, hg0⟩
  have e0 := (HO.out _ hg0).1
  have e1 := (HO.out _ hg0).2
  have hg1 := grown_drew1 hg0
  clear HB1 hg0
  go_upto_region 1 with (fail)
  go_region_held3 (fun w' => w'.cell? ⟨X.p, 0, none⟩ = some (.pointer (some ⟨X.pa, 0, none⟩)) ∧ w'.cell? ⟨X.p, 1, none⟩ = some (.int .u64 (Y.key : Nat)))
    (first | exact ⟨e0, e1⟩ | exact HO.out _ (by assumption) | exact HS3.out)
    (first
    | (go_at_call 130; refine (HB.out _ (by assumption)).mono ?_; rintro e w3 ⟨rfl, m⟩; have hg2 := grown_trans hg1 m; clear m)
    | (go_at_call 177; refine (HP.out _).mono ?_; rintro e w3 ⟨rfl, m⟩; have hg3 := grown_trans hg2 m; clear m)
    | (go_at_call 147; refine (HS.out _ (by assumption)).mono ?_; rintro e w5 ⟨rfl, k3, k4⟩; have K := Lib.hid (And.intro k3 (grown_trans (grown_none hg3) k4)); have HS3 := Lib.hid (And.intro k3.own.c0 k3.own.c1); clear k3 k4))
  clear hg1 hg2 hg3 HO HB HP HS e0 e1 HS3
  go_wp2
  go_end0
  exact ⟨rfl, K.out⟩

set_option maxRecDepth 100000 in
set_option maxHeartbeats 1000000 in
theorem next_nil {w : World} {X : Pl} {Y : Nm} {S : Nat → Nat} {f : Int} {B : Nat → Nat} (h : SlAt w X Y S f B) {k : Nat} (hk : k < Y.n) (hw : Ar.wordAt B (bs Y.g Y.s k) = Li.lk Y.key (bs Y.g Y.s k : Nat) 0) :
    Calls Tryz.prog 146 #[.pointer (some ⟨X.p, 0, none⟩), .int .i64 k] w fun e w' => e = .returned (.tuple #[.int .i64 (-1), .bool true]) ∧ w.grownBy w' none := by
  have HO := Lib.hid (fun W (g : w.grownBy W none) => And.intro (h.own.grown g (by simp)).c0 (h.own.grown g (by simp)).c1)
  have HB : Hid (Calls Tryz.prog 130 #[.pointer (some ⟨X.p, 0, none⟩), .int .i64 k] w fun e w' => e = .returned (.int .i64 (bs Y.g Y.s k : Nat)) ∧ w.grownBy w' none) := Lib.hid (by
    have := sbase_own h.own h.ok (k : Int)
    rw [baseV_in hk] at this
    exact this.mono fun _ _ ⟨he, hd⟩ => ⟨he, drew_grownBy hd⟩)
  have HW : Hid (∀ W, w.grownBy W none → Calls Tryz.prog 174 #[.pointer (some ⟨X.pa, 0, none⟩), .int .i64 (bs Y.g Y.s k : Nat)] W fun e w' => e = .returned (.tuple #[.int .u64 (Li.lk Y.key (bs Y.g Y.s k : Nat) 0 : Nat), .int .i64 0]) ∧ W = w') := Lib.hid (fun W g => by
    have b1 := bs_bd h.ok hk
    have b2 := h.ok.c.facts.s16
    have b3 := Sl.bs_mod h.ok.c Y.g k
    have := word_in (h.grown g).ar (a := bs Y.g Y.s k) (by omega) (by omega)
    rw [hw] at this
    exact this)
  have HG : Hid (∀ W, Calls Tryz.prog 179 #[.agg #[.int .u64 (Y.key : Nat)], .int .i64 (bs Y.g Y.s k : Nat), .int .u64 (Li.lk Y.key (bs Y.g Y.s k : Nat) 0 : Nat)] W fun e w' => e = .returned (.tuple #[.int .i64 (-1), .bool true]) ∧ W.grownBy w' none) := Lib.hid (fun W => by
    have t := get_some Y.key (Li.lk Y.key (bs Y.g Y.s k : Nat) 0) (bs Y.g Y.s k : Nat) W (by omega) (Li.lk_lt _ _ (by omega)) (by rw [Li.bare_lk]; omega)
    rw [Li.bare_lk] at t
    exact t)
  clear h hw hk
  generalize (Li.lk Y.key (bs Y.g Y.s k : Nat) 0) = z at *
  generalize bs Y.g Y.s k = x at *
  go_enter Tryz.func146, Tryz.ntmps146
  go_wp2_with fail
  refine HB.out.mono ?_
  rintro e w1 ⟨rfl, hg1⟩
  have e0 := (HO.out _ hg1).1
  have e1 := (HO.out _ hg1).2
  have HG1 := Lib.hid hg1
  clear HB hg1
  go_wp2_with fail
  refine (HW.out _ HG1.out).mono ?_
  rintro e w2 ⟨rfl, rfl⟩
  go_wp2_with fail
  refine (HG.out _).mono ?_
  rintro e w3 ⟨rfl, hg3⟩
  have HE := Lib.hid (grown_trans HG1.out hg3)
  clear hg3 e0 e1
  go_wp2
  go_ret2
  exact ⟨rfl, HE.out⟩
set_option maxRecDepth 100000 in
set_option maxHeartbeats 2000000 in
theorem next_cons {w : World} {X : Pl} {Y : Nm} {S : Nat → Nat} {f : Int} {B : Nat → Nat} (h : SlAt w X Y S f B) {k j : Nat} (hk : k < Y.n) (hj : j < Y.n) (hjk : j ≠ k) (hS : S j = 0) (hw : Ar.wordAt B (bs Y.g Y.s k) = Li.lk Y.key (bs Y.g Y.s k : Nat) (bs Y.g Y.s j + 1)) :
    Calls Tryz.prog 146 #[.pointer (some ⟨X.p, 0, none⟩), .int .i64 k] w fun e w' => e = .returned (.tuple #[.int .i64 j, .bool true]) ∧ w.grownBy w' none := by
  have HO := Lib.hid (fun W (g : w.grownBy W none) => And.intro (h.own.grown g (by simp)).c0 (And.intro (h.own.grown g (by simp)).c1 (h.own.grown g (by simp)).c3))
  have HB : Hid (Calls Tryz.prog 130 #[.pointer (some ⟨X.p, 0, none⟩), .int .i64 k] w fun e w' => e = .returned (.int .i64 (bs Y.g Y.s k : Nat)) ∧ w.grownBy w' none) := Lib.hid (by
    have := sbase_own h.own h.ok (k : Int)
    rw [baseV_in hk] at this
    exact this.mono fun _ _ ⟨he, hd⟩ => ⟨he, drew_grownBy hd⟩)
  have HBj : Hid (∀ W, w.grownBy W none → Calls Tryz.prog 130 #[.pointer (some ⟨X.p, 0, none⟩), .int .i64 j] W fun e w' => e = .returned (.int .i64 (bs Y.g Y.s j : Nat)) ∧ W.grownBy w' none) := Lib.hid (fun W g => by
    have := sbase_own (h.own.grown g (by simp)) h.ok (j : Int)
    rw [baseV_in hj] at this
    exact this.mono fun _ _ ⟨he, hd⟩ => ⟨he, drew_grownBy hd⟩)
  have HW : Hid (∀ W, w.grownBy W none → Calls Tryz.prog 174 #[.pointer (some ⟨X.pa, 0, none⟩), .int .i64 (bs Y.g Y.s k : Nat)] W fun e w' => e = .returned (.tuple #[.int .u64 (Li.lk Y.key (bs Y.g Y.s k : Nat) (bs Y.g Y.s j + 1) : Nat), .int .i64 0]) ∧ W = w') := Lib.hid (fun W g => by
    have b1 := bs_bd h.ok hk
    have b2 := h.ok.c.facts.s16
    have b3 := Sl.bs_mod h.ok.c Y.g k
    have := word_in (h.grown g).ar (a := bs Y.g Y.s k) (by omega) (by omega)
    rw [hw] at this
    exact this)
  have b5 := bs_bd h.ok hj
  have b6 := h.ok.N
  have b7 := h.ok.c.facts.s16
  have HG : Hid (∀ W, Calls Tryz.prog 179 #[.agg #[.int .u64 (Y.key : Nat)], .int .i64 (bs Y.g Y.s k : Nat), .int .u64 (Li.lk Y.key (bs Y.g Y.s k : Nat) (bs Y.g Y.s j + 1) : Nat)] W fun e w' => e = .returned (.tuple #[.int .i64 (bs Y.g Y.s j : Nat), .bool true]) ∧ W.grownBy w' none) := Lib.hid (fun W => by
    have t := get_some Y.key (Li.lk Y.key (bs Y.g Y.s k : Nat) (bs Y.g Y.s j + 1)) (bs Y.g Y.s k : Nat) W (by omega) (Li.lk_lt _ _ (by omega)) (by rw [Li.bare_lk]; omega)
    rw [Li.bare_lk, show (((bs Y.g Y.s j + 1 : Nat) : Int) - 1) = (bs Y.g Y.s j : Nat) by omega] at t
    exact t)
  have HSl : Hid (∀ W, Calls Tryz.prog 78 #[.int .i64 (bs Y.g Y.s j : Nat), .int .i64 (Y.c : Nat)] W fun e w' => e = .returned (.tuple #[.int .i64 (Y.g : Nat), .int .i64 j]) ∧ W.grownBy w' none) := Lib.hid (fun W => by
    obtain ⟨s1, s2⟩ := Sl.bs_slot h.ok.c Y.g hj
    refine (slot_yes (bs Y.g Y.s j) W h.ok.c.cl (by omega)).mono ?_
    rintro e w' ⟨he, hd⟩
    refine ⟨he.trans ?_, drew_grownBy hd⟩
    rw [show ((bs Y.g Y.s j : Nat) : Int) / 256 = (Y.g : Nat) by omega, show ((bs Y.g Y.s j : Nat) : Int) % 256 / (Y.s : Nat) = (j : Nat) from by exact_mod_cast congrArg (Nat.cast (R := Int)) s2])
  have HSt : Hid (∀ W, w.grownBy W none → Calls Tryz.prog 118 #[.pointer (some ⟨X.p, 0, none⟩), .int .i64 j] W fun e w' => e = .returned (.int .i64 0) ∧ W = w') := Lib.hid (fun W g => by
    have := state_in (h.grown g) hj (by omega)
    rw [hS] at this
    exact this)
  have hne : ((j : Int) != (k : Int)) = true := by simp; omega
  have hnn : (((bs Y.g Y.s j : Nat) : Int) == -1) = false := by simp
  clear h hw hk hj hjk hS b5 b6 b7
  generalize (Li.lk Y.key (bs Y.g Y.s k : Nat) (bs Y.g Y.s j + 1)) = z at *
  generalize bs Y.g Y.s k = x at *
  generalize bs Y.g Y.s j = y at *
  go_enter Tryz.func146, Tryz.ntmps146
  go_wp2_with fail
  refine HB.out.mono ?_
  rintro e w1 ⟨rfl, hg1⟩
  have e0 := (HO.out _ hg1).1
  have e1 := (HO.out _ hg1).2.1
  have HG1 := Lib.hid hg1
  clear HB hg1
  go_wp2_with fail
  refine (HW.out _ HG1.out).mono ?_
  rintro e w2 ⟨rfl, rfl⟩
  go_wp2_with fail
  refine (HG.out _).mono ?_
  rintro e w3 ⟨rfl, hg3⟩
  have HG3 := Lib.hid (grown_trans HG1.out hg3)
  have e3 := (HO.out _ HG3.out).2.2
  clear hg3 e0 e1 HG1
  go_wp2_with fail
  refine (HSl.out _).mono ?_
  rintro e w4 ⟨rfl, hg4⟩
  have HG4 := Lib.hid (grown_trans HG3.out hg4)
  clear hg4 HG3 e3
  go_wp2_with fail
  refine (HSt.out _ HG4.out).mono ?_
  rintro e w5 ⟨rfl, rfl⟩
  go_wp2_with fail
  refine (HBj.out _ HG4.out).mono ?_
  rintro e w6 ⟨rfl, hg6⟩
  have HE := Lib.hid (grown_trans HG4.out hg6)
  clear hg6 HG4
  go_wp2
  go_ret2
  exact ⟨rfl, HE.out⟩
/-- next, of a free slot of a slab that is whole. -/
theorem next_at {w : World} {X : Pl} {Y : Nm} {S : Nat → Nat} {f : Int} {B : Nat → Nat} (h : SlAt w X Y S f B) {k : Nat} {t pre : List Nat} (hI : Sl.Inv Y.key Y.g Y.s Y.n Y.r S (pre ++ k :: t) B) :
    Calls Tryz.prog 146 #[.pointer (some ⟨X.p, 0, none⟩), .int .i64 k] w fun e w' => e = .returned (.tuple #[.int .i64 (Sl.fst t), .bool true]) ∧ w.grownBy w' none := by
  have hk := hI.fr k (by simp)
  have hc : ∀ (l : List Nat), Sl.Chain Y.key Y.g Y.s B (l ++ k :: t) → Ar.wordAt B (bs Y.g Y.s k) = Li.lk Y.key (bs Y.g Y.s k) (Sl.nx Y.g Y.s t) := fun l => by
    induction l with
    | nil => exact fun h => h.1
    | cons a l ih => exact fun h => ih h.2
  have hw := hc pre hI.ch
  cases t with
  | nil => exact next_nil h hk.1 hw
  | cons j t =>
    have hj := hI.fr j (by simp)
    have hn := hI.nd
    refine next_cons h hk.1 hj.1 (fun e => ?_) hj.2 hw
    subst e
    rw [List.nodup_append] at hn
    simp at hn
end Go.Proofs.YtgnfcklippjeeaaGreat

/- The walks of a slab's Count, led, Check's question, every, Check. -/
namespace Go.Proofs.YtgnfcklippjeeaaGreat
open Go.RowKit
open Sl (Cls bs)

set_option maxRecDepth 100000 in
set_option maxHeartbeats 1000000 in
theorem count_at {w : World} {X : Pl} {Y : Nm} {S : Nat → Nat} {f : Int} {B : Nat → Nat} (h : SlAt w X Y S f B) (hS : ∀ k, S k ≤ 2) (x : Int) :
    Calls Tryz.prog 70 #[.pointer (some ⟨X.p, 0, none⟩), .int .i64 x] w fun e w' => e = .returned (.int .i64 (Sl.cnt S x Y.n : Nat)) ∧ w = w' := by
  have HN := Lib.hid (slots_at h)
  have HS : Hid (∀ m, m < Y.n → Calls Tryz.prog 118 #[.pointer (some ⟨X.p, 0, none⟩), .int .i64 m] w fun e w' => e = .returned (.int .i64 (S m : Nat)) ∧ w = w') := Lib.hid (fun m hm => state_in h hm (hS m))
  have hn := h.ok.c.facts.n16
  clear h hS
  go_enter Tryz.func70, Tryz.ntmps70
  go_wp2_with fail
  refine HN.out.mono ?_
  rintro e w' ⟨rfl, rfl⟩
  clear HN
  go_wp2_with fail
  go_loop [5, 9] (fun c i => ∃ m : Nat, m ≤ Y.n ∧ i = .int .i64 m ∧ c = .int .i64 (Sl.cnt S x m : Nat)) (fun _ i => Y.n - (intOf i).toNat)
  case atStart => exact ⟨0, Nat.zero_le _, rfl, rfl⟩
  case round =>
    obtain ⟨m, hm, rfl, rfl⟩ := hrel
    have hcl := Sl.cnt_le S x m
    by_cases hlt : m < Y.n
    · have HT := Lib.hid (HS.out m hlt)
      by_cases e : ((S m : Nat) : Int) = x
      · have he : (((S m : Nat) : Int) == x) = true := by simpa using e
        have HC : Hid (Sl.cnt S x (m + 1) = Sl.cnt S x m + 1) := Lib.hid (by simp only [Sl.cnt]; rw [if_pos e])
        clear e
        generalize S m = y at *
        go_wp2_with (go_at_call 118; refine HT.out.mono ?_; rintro e w' ⟨rfl, rfl⟩)
        go_round
        case rel => exact ⟨m + 1, by omega, by go_num, vint (by rw [HC.out]; omega)⟩
        case measure => simp [intOf]; omega
      · have he : (((S m : Nat) : Int) == x) = false := by simpa using e
        have HC : Hid (Sl.cnt S x (m + 1) = Sl.cnt S x m) := Lib.hid (by simp only [Sl.cnt]; rw [if_neg e]; omega)
        clear e
        generalize S m = y at *
        go_wp2_with (go_at_call 118; refine HT.out.mono ?_; rintro e w' ⟨rfl, rfl⟩)
        go_round
        case rel => exact ⟨m + 1, by omega, by go_num, vint (by rw [HC.out])⟩
        case measure => simp [intOf]; omega
    · obtain rfl : m = Y.n := by omega
      go_wp2
      go_ret
      exact ⟨rfl, rfl⟩

/-- The slots that links lead to. -/
def Led (w w' : World) (n : Nat) (F : List Nat) (e : Ending) : Prop :=
  ∃ p q, e = .returned (.tuple #[.pointer (some ⟨p, 0, none⟩), .bool true]) ∧ Row w' p q n (fun k => decide (k ∈ F)) ∧ w.heap.size ≤ p ∧ w.heap.size ≤ q ∧ w.grownBy w' none
theorem bnew_row (n : Nat) (hn : n ≤ 65536) (w : World) :
    Calls Tryz.prog 172 #[.int .i64 n] w fun e w' => ∃ p q, e = .returned (.pointer (some ⟨p, 0, none⟩)) ∧ Row w' p q n (fun _ => false) ∧ w.heap.size ≤ p ∧ w.heap.size ≤ q ∧ p ≠ q ∧ w.grownBy w' none := by
  have hc : Bs.clampN (n : Int) = n := by unfold Bs.clampN; rw [if_neg (by omega), if_pos (by omega), Int.toNat_natCast]
  refine (Bs.new_at (n : Int) w).mono ?_
  rintro e w' ⟨p, q, cap, he, hs, h1, h2, hg⟩
  rw [hc] at hs
  exact ⟨p, q, he, ⟨cap, _, hs, fun k _ => Bs.zeros_bit n k⟩, h1, h2, hs.ne, hg⟩

set_option maxRecDepth 100000 in
set_option maxHeartbeats 2000000 in
theorem led_at {w : World} {X : Pl} {Y : Nm} {S : Nat → Nat} {F : List Nat} {B : Nat → Nat} (h : SlAt w X Y S (Sl.fst F) B) (hI : Sl.Inv Y.key Y.g Y.s Y.n Y.r S F B) :
    Calls Tryz.prog 120 #[.pointer (some ⟨X.p, 0, none⟩)] w fun e w' => Led w w' Y.n F e := by
  have HN := Lib.hid (slots_at h)
  have hn := h.ok.c.facts.n16
  have HC7 := Lib.hid (fun W (g : w.grownBy W none) => (h.own.grown g (by simp)).c7)
  have HT := Lib.hid (fun W (g : w.grownBy W none) k => sthere_at (h.grown g) k)
  have HX := Lib.hid (fun W (g : w.grownBy W none) k t pre (e : F = pre ++ k :: t) => next_at (h.grown g) (k := k) (t := t) (pre := pre) (by rw [← e]; exact hI))
  have HF := Lib.hid hI.fr
  have HND := Lib.hid hI.nd
  clear h hI
  go_enter Tryz.func120, Tryz.ntmps120
  go_wp2_with fail
  refine HN.out.mono ?_
  rintro e w' ⟨rfl, rfl⟩
  clear HN
  go_wp2_with fail
  refine (bnew_row Y.n (by omega) w).mono ?_
  rintro e w1 ⟨p, q, rfl, hr, hp, hq, hpq, hg⟩
  have c7 := HC7.out _ hg
  have HR := Lib.hid hr
  have HG := Lib.hid hg
  have HPQ := Lib.hid (And.intro hp (And.intro hq hpq))
  clear hr hg hp hq hpq
  generalize hf : Sl.fst F = f0 at *
  have HF0 := Lib.hid hf
  clear hf
  go_wp2_with fail
  go_loopg [5, 6] F.length (fun gk v u wr => ∃ pre t, F = pre ++ t ∧ t.length = gk ∧ v = .int .i64 (Sl.fst t) ∧ u = .bool true ∧ Row wr p q Y.n (fun k => decide (k ∈ pre)) ∧ w.grownBy wr none)
  case atStart => exact ⟨[], F, rfl, rfl, by rw [HF0.out], rfl, HR.out.congr (fun k _ => by simp), HG.out⟩
  case round =>
    obtain ⟨pre, t, hE, ht, rfl, rfl, hrow, hg⟩ := hrel
    have HE := Lib.hid hE
    have HG' := Lib.hid hg
    have HRR := Lib.hid hrow
    clear hE hg hrow
    cases t with
    | nil =>
      have hT := HT.out _ HG'.out (-1)
      rw [show isK Y.n (-1) = false by simp [isK]] at hT
      have HTT := Lib.hid hT
      clear hT
      rw [show Sl.fst [] = -1 from rfl]
      go_wp2_with (go_at_call 145; refine HTT.out.mono ?_; rintro e w' ⟨rfl, rfl⟩)
      go_ret2
      exact ⟨p, q, rfl, by have := HE.out; rw [List.append_nil] at this; subst this; exact HRR.out, HPQ.out.1, HPQ.out.2.1, HG'.out⟩
    | cons k t =>
      have hk := (HF.out k (by rw [HE.out]; simp)).1
      have hT := HT.out _ HG'.out (k : Int)
      rw [isK_of hk] at hT
      have HTT := Lib.hid hT
      clear hT
      have hH := HRR.out.has hk
      rw [show decide (k ∈ pre) = false from by
        have := HND.out
        rw [HE.out, List.nodup_append] at this
        simp only [decide_eq_false_iff_not]
        intro hm
        exact this.2.2 k hm k (by simp) rfl] at hH
      have HHH := Lib.hid hH
      clear hH
      have HPP := Lib.hid (HRR.out.put hk true)
      rw [show Sl.fst (k :: t) = (k : Int) from rfl]
      go_wp2_with (first
        | (go_at_call 145; refine HTT.out.mono ?_; rintro e w' ⟨rfl, rfl⟩)
        | (go_at_call 123; refine HHH.out.mono ?_; rintro e w' ⟨rfl, rfl⟩))
      refine HPP.out.mono ?_
      rintro e w2 ⟨rfl, hr2, hg2⟩
      have HR2 := Lib.hid hr2
      have HG2 := Lib.hid (grown_own HG'.out hg2 HPQ.out.2.1)
      clear hr2 hg2 HPP HHH HTT
      go_wp2_with fail
      refine (HX.out _ HG2.out k t pre HE.out).mono ?_
      rintro e w3 ⟨rfl, hg3⟩
      have HR3 := Lib.hid (HR2.out.grown hg3 (by simp) (by simp))
      have HG3 := Lib.hid (grown_trans HG2.out hg3)
      clear hg3 HR2 HG2
      go_wp2
      go_roundg t.length
      case measure => simp at ht; omega
      case rel => exact ⟨pre ++ [k], t, by rw [HE.out]; simp, rfl, rfl, rfl, HR3.out.congr (fun j _ => by by_cases e : j = k <;> simp [e]), HG3.out⟩

/-- What Check asks of a slot. -/
def Asked (w : World) (X : Pl) (cs cl p : Nat) : Prop := w.cell? ⟨cs, 0, none⟩ = some (.pointer (some ⟨X.p, 0, none⟩)) ∧ w.cell? ⟨cl, 0, none⟩ = some (.pointer (some ⟨p, 0, none⟩))
theorem Asked.grown {w w' : World} {X : Pl} {cs cl p : Nat} (h : Asked w X cs cl p) (hg : w.grownBy w' none) : Asked w' X cs cl p := ⟨hg.cell h.1 (by simp), hg.cell h.2 (by simp)⟩
set_option maxRecDepth 100000 in
set_option maxHeartbeats 1000000 in
theorem ask_at {w : World} {X : Pl} {Y : Nm} {S : Nat → Nat} {F : List Nat} {B : Nat → Nat} {f : Int} {cs cl p q k : Nat} (h : SlAt w X Y S f B) (hI : Sl.Inv Y.key Y.g Y.s Y.n Y.r S F B) (hA : Asked w X cs cl p) (hr : Row w p q Y.n (fun k => decide (k ∈ F))) (hk : k < Y.n) :
    Calls Tryz.prog 122 #[.int .i64 k, .pointer (some ⟨cs, 0, none⟩), .pointer (some ⟨cl, 0, none⟩)] w fun e w' => e = .returned (.bool true) ∧ w.grownBy w' none := by
  obtain ⟨a1, a2⟩ := hA
  have HT := state_in h hk (hI.st k)
  rcases (by have := hI.st k; omega : S k = 0 ∨ S k = 1 ∨ S k = 2) with e | e | e
  · rw [e] at HT
    have HT := Lib.hid HT
    have HH := hr.has hk
    rw [show decide (k ∈ F) = true by simpa using hI.al k hk e] at HH
    have HH := Lib.hid HH
    clear h hI hr hk e
    go_enter Tryz.func122, Tryz.ntmps122
    go_wp2_with (first
      | (go_at_call 118; refine HT.out.mono ?_; rintro e w' ⟨rfl, rfl⟩)
      | (go_at_call 123; refine HH.out.mono ?_; rintro e w' ⟨rfl, rfl⟩))
    go_ret
    exact ⟨rfl, grown_refl _ _⟩
  · rw [e] at HT
    have HT := Lib.hid HT
    have HH := Lib.hid (stands_at h hk (hI.lv k hk e))
    clear h hI hr hk e
    go_enter Tryz.func122, Tryz.ntmps122
    go_wp2_with (first
      | (go_at_call 118; refine HT.out.mono ?_; rintro e w' ⟨rfl, rfl⟩)
      | (go_at_call 124; refine HH.out.mono ?_; rintro e w2 ⟨rfl, hg⟩; have HG := Lib.hid hg; clear hg))
    go_ret
    exact ⟨rfl, HG.out⟩
  · rw [e] at HT
    have HT := Lib.hid HT
    have HH := Lib.hid (gone_at h hk (hI.hd k hk e))
    clear h hI hr hk e
    go_enter Tryz.func122, Tryz.ntmps122
    go_wp2_with (first
      | (go_at_call 118; refine HT.out.mono ?_; rintro e w' ⟨rfl, rfl⟩)
      | (go_at_call 125; refine HH.out.mono ?_; rintro e w2 ⟨rfl, hg⟩; have HG := Lib.hid hg; clear hg))
    go_ret
    exact ⟨rfl, HG.out⟩

theorem mk_func (fn : Fn) (first cap : Array Value) (w : World) : (Instr.makeFunc fn first cap).run Tryz.prog w = .ok (.func fn first cap) w := rfl
theorem call_ask (args : Array Value) (w : World) : (callFunc 122 args).run Tryz.prog w = .ok (.enter 122 args) w := by
  kernel_rfl
set_option maxRecDepth 100000 in
set_option maxHeartbeats 1000000 in
theorem every_at {w : World} {X : Pl} {Y : Nm} {S : Nat → Nat} {f : Int} {B : Nat → Nat} {cs cl : Nat} (h : SlAt w X Y S f B)
    (hA : ∀ W, w.grownBy W none → ∀ k, k < Y.n → Calls Tryz.prog 122 #[.int .i64 k, .pointer (some ⟨cs, 0, none⟩), .pointer (some ⟨cl, 0, none⟩)] W fun e w' => e = .returned (.bool true) ∧ W.grownBy w' none) :
    Calls Tryz.prog 121 #[.pointer (some ⟨X.p, 0, none⟩), .func (.func 122) #[] #[.pointer (some ⟨cs, 0, none⟩), .pointer (some ⟨cl, 0, none⟩)]] w fun e w' => e = .returned (.bool true) ∧ w.grownBy w' none := by
  have HN := Lib.hid (slots_at h)
  have hn := h.ok.c.facts.n16
  have HA := Lib.hid hA
  have hca := call_ask
  clear h hA
  go_enter Tryz.func121, Tryz.ntmps121
  go_wp2_with fail
  refine HN.out.mono ?_
  rintro e w' ⟨rfl, rfl⟩
  clear HN
  go_wp2_with fail
  go_loopw [8] (fun i wr => ∃ m : Nat, m ≤ Y.n ∧ i = .int .i64 m ∧ w.grownBy wr none) (fun i _ => Y.n - (intOf i).toNat)
  case atStart => exact ⟨0, Nat.zero_le _, rfl, grown_refl _ _⟩
  case round =>
    obtain ⟨m, hm, rfl, hg⟩ := hrel
    have HG := Lib.hid hg
    clear hg
    by_cases hlt : m < Y.n
    · have HT := Lib.hid (HA.out _ HG.out m hlt)
      go_wp2_with fail
      refine HT.out.mono ?_
      rintro e w2 ⟨rfl, hg2⟩
      have HG2 := Lib.hid (grown_trans HG.out hg2)
      clear hg2 HT
      go_wp2
      go_roundw
      case rel => exact ⟨m + 1, by omega, by go_num, HG2.out⟩
      case measure => simp [intOf]; omega
    · obtain rfl : m = Y.n := by omega
      go_wp2
      go_ret
      exact ⟨rfl, HG.out⟩

set_option maxHeartbeats 400000 in
theorem check_nil (w : World) :
    Calls Tryz.prog 64 #[.pointer none] w fun e w' => e = .returned (.int .i64 2) ∧ w.grownBy w' none := by
  go_enter Tryz.func64, Tryz.ntmps64
  go_wp2
  go_ret
  exact ⟨rfl, grown_alloc _ _ _⟩
set_option maxRecDepth 100000 in
set_option maxHeartbeats 1000000 in
/-- Check, of a slab that is whole. -/
theorem check_at {w : World} {X : Pl} {Y : Nm} {S : Nat → Nat} {F : List Nat} {B : Nat → Nat} (h : SlAt w X Y S (Sl.fst F) B) (hI : Sl.Inv Y.key Y.g Y.s Y.n Y.r S F B) :
    Calls Tryz.prog 64 #[.pointer (some ⟨X.p, 0, none⟩)] w fun e w' => e = .returned (.int .i64 0) ∧ w.grownBy w' none := by
  have HL := Lib.hid (fun W (g : w.grownBy W none) => led_at (h.grown g) hI)
  have HQ := Lib.hid (fun W (g : w.grownBy W none) cs cl p q (hA : Asked W X cs cl p) (hr : Row W p q Y.n (fun k => decide (k ∈ F))) => every_at (h.grown g) (cs := cs) (cl := cl) (fun W2 g2 k hk => ask_at (h.grown (grown_trans g g2)) hI (hA.grown g2) (hr.grown g2 (by simp) (by simp)) hk))
  have hmf := mk_func
  clear h hI
  have hs0 : (w.alloc (.cells #[.pointer (some ⟨X.p, 0, none⟩)] 114)).cell? ⟨w.heap.size, 0, none⟩ = some (.pointer (some ⟨X.p, 0, none⟩)) := by rw [cell_alloc_new]; rfl
  have HG0 := Lib.hid (grown_alloc w (.cells #[.pointer (some ⟨X.p, 0, none⟩)] 114) none)
  go_enter Tryz.func64, Tryz.ntmps64
  go_upto_region 1 with (fail)
  generalize w.alloc (.cells #[.pointer (some ⟨X.p, 0, none⟩)] 114) = w1 at *
  generalize w.heap.size = cs at *
  go_wp2_with fail
  refine (HL.out _ HG0.out).mono ?_
  rintro e w2 ⟨p, q, rfl, hr, hp, hq, hg⟩
  have hs2 := hg.cell hs0 (by simp)
  have HG2 := Lib.hid (grown_trans HG0.out hg)
  have HR := Lib.hid hr
  clear hr hp hq hg hs0 HL HG0
  go_upto_region 4 with (fail)
  have hg3 := grown_alloc w2 (.cells #[.pointer (some ⟨p, 0, none⟩)] 175) none
  have hs3 := hg3.cell hs2 (by simp)
  have hl3 : (w2.alloc (.cells #[.pointer (some ⟨p, 0, none⟩)] 175)).cell? ⟨w2.heap.size, 0, none⟩ = some (.pointer (some ⟨p, 0, none⟩)) := by rw [cell_alloc_new]; rfl
  have HG3 := Lib.hid (grown_trans HG2.out hg3)
  have HE := Lib.hid (HQ.out _ HG3.out cs w2.heap.size p q ⟨hs3, hl3⟩ (HR.out.grown hg3 (by simp) (by simp)))
  clear hg3 hl3 hs2 HQ HR HG2
  generalize w2.alloc (.cells #[.pointer (some ⟨p, 0, none⟩)] 175) = w3 at *
  generalize w2.heap.size = cl at *
  go_wp2_with fail
  refine HE.out.mono ?_
  rintro e w4 ⟨rfl, hg4⟩
  have HG4 := Lib.hid (grown_trans HG3.out hg4)
  clear hg4 HE HG3 hs3
  go_wp2
  go_ret
  exact ⟨rfl, HG4.out⟩
end Go.Proofs.YtgnfcklippjeeaaGreat

/- The walks of a slab's Take, Drop, Give. -/
namespace Go.Proofs.YtgnfcklippjeeaaGreat
open Go.RowKit
open Sl (Cls bs upd)

theorem is1_upd (S : Nat → Nat) (k v j : Nat) : is1 (upd S k v) j = if j = k then decide (v = 1) else is1 S j := by
  unfold is1 upd
  split <;> rfl
theorem is2_upd (S : Nat → Nat) (k v j : Nat) : is2 (upd S k v) j = if j = k then decide (v = 2) else is2 S j := by
  unfold is2 upd
  split <;> rfl
/-- The first slot is another one. -/
theorem SlAt.first {w : World} {X : Pl} {Y : Nm} {S : Nat → Nat} {f : Int} {B : Nat → Nat} (h : SlAt w X Y S f B) (f' : Int) : SlAt (w.setCell ⟨X.p, 7, none⟩ (.int .i64 f')) X Y S f' B := by
  have hg := An.agrown_set w X.p 7 (.int .i64 f')
  obtain ⟨a1, a2, a3, a4, a5, a6⟩ := h.ap.h1
  have ho : ∀ o v, o ≠ 7 → w.cell? ⟨X.p, o, none⟩ = some v → (w.setCell ⟨X.p, 7, none⟩ (.int .i64 f')).cell? ⟨X.p, o, none⟩ = some v := fun o v ne hc => by
    rw [World.cell?_setCell_other _ _ _ _ (fun x => ne (congrArg Addr.off x).symm)]; exact hc
  refine ⟨⟨ho _ _ (by decide) h.own.c0, ho _ _ (by decide) h.own.c1, ho _ _ (by decide) h.own.c2, ho _ _ (by decide) h.own.c3, ho _ _ (by decide) h.own.c4, ho _ _ (by decide) h.own.c5, ho _ _ (by decide) h.own.c6, ?_, fun k => by rw [World.frozen?_setCell]; exact h.own.fz k⟩,
    h.ar.grown hg (some_ne a1.symm) (some_ne a2.symm), h.l.grown hg (some_ne a3.symm) (some_ne a4.symm), h.h.grown hg (some_ne a5.symm) (some_ne a6.symm), h.ap, h.ok⟩
  exact World.cell?_setCell_same' _ _ _ (by rw [h.own.c7]; rfl)
/-- A live bit is another one. -/
theorem SlAt.live {w w' : World} {X : Pl} {Y : Nm} {S : Nat → Nat} {f : Int} {B : Nat → Nat} (h : SlAt w X Y S f B) {S' : Nat → Nat} {b : Nat → Bool} (hg : w.grownBy w' (some X.ql)) (hr : Row w' X.pl X.ql Y.n b) (e1 : ∀ k, k < Y.n → b k = is1 S' k) (e2 : ∀ k, k < Y.n → is2 S k = is2 S' k) : SlAt w' X Y S' f B :=
  ⟨h.own.grown hg (some_ne h.ap.h1.2.2.2.1), h.ar.grown hg (some_ne h.ap.h2.1.symm) (some_ne h.ap.h2.2.1.symm), hr.congr e1, (h.h.grown hg (some_ne h.ap.h2.2.2.2.1.symm) (some_ne h.ap.h2.2.2.2.2.symm)).congr e2, h.ap, h.ok⟩
theorem SlAt.held {w w' : World} {X : Pl} {Y : Nm} {S : Nat → Nat} {f : Int} {B : Nat → Nat} (h : SlAt w X Y S f B) {S' : Nat → Nat} {b : Nat → Bool} (hg : w.grownBy w' (some X.qh)) (hr : Row w' X.ph X.qh Y.n b) (e1 : ∀ k, k < Y.n → is1 S k = is1 S' k) (e2 : ∀ k, k < Y.n → b k = is2 S' k) : SlAt w' X Y S' f B :=
  ⟨h.own.grown hg (some_ne h.ap.h1.2.2.2.2.2), h.ar.grown hg (some_ne h.ap.h3.1.symm) (some_ne h.ap.h3.2.1.symm), (h.l.grown hg (some_ne h.ap.h3.2.2.1.symm) (some_ne h.ap.h2.2.2.2.2)).congr e1, hr.congr e2, h.ap, h.ok⟩
/-- What reads, at whatever world that grew. -/
theorem SlAt.base_g {w : World} {X : Pl} {Y : Nm} {S : Nat → Nat} {f : Int} {B : Nat → Nat} (h : SlAt w X Y S f B) {k : Nat} (hk : k < Y.n) (W : World) (g : w.grownBy W none) :
    Calls Tryz.prog 130 #[.pointer (some ⟨X.p, 0, none⟩), .int .i64 k] W fun e w' => e = .returned (.int .i64 (bs Y.g Y.s k : Nat)) ∧ W.grownBy w' none := by
  have := sbase_own (h.own.grown g (by simp)) h.ok (k : Int)
  rw [baseV_in hk] at this
  exact this.mono fun _ _ ⟨he, hd⟩ => ⟨he, drew_grownBy hd⟩
theorem SlAt.guard_g {w : World} {X : Pl} {Y : Nm} {S : Nat → Nat} {f : Int} {B : Nat → Nat} (h : SlAt w X Y S f B) {k : Nat} (hk : k < Y.n) (W : World) (g : w.grownBy W none) :
    Calls Tryz.prog 148 #[.pointer (some ⟨X.p, 0, none⟩), .int .i64 k] W fun e w' => e = .returned (.int .i64 ((bs Y.g Y.s k + Y.r : Nat) : Int)) ∧ W.grownBy w' none :=
  (guard_at (h.grown g) hk).mono fun _ _ ⟨he, hd⟩ => ⟨he, drew_grownBy hd⟩
theorem SlAt.fill_g {w : World} {X : Pl} {Y : Nm} {S : Nat → Nat} {f : Int} {B : Nat → Nat} (h : SlAt w X Y S f B) {a m c : Nat} (ha : a + m ≤ Y.N) (hc : c < 256) (W : World) (g : w.grownBy W none) :
    Calls Tryz.prog 129 #[.pointer (some ⟨X.pa, 0, none⟩), .int .i64 a, .int .i64 m, .int .u8 c] W fun e w' => e = .returned (.int .i64 0) ∧ SlAt w' X Y S f (Ar.setB B a m (fun _ => c)) ∧ W.grownBy w' (some X.qa) :=
  (An.fill_good (h.grown g).ar a m c ha hc).mono fun _ _ ⟨he, ha, hg⟩ => ⟨he, (h.grown g).arena hg ha, hg⟩
theorem SlAt.word_g {w : World} {X : Pl} {Y : Nm} {S : Nat → Nat} {f : Int} {B : Nat → Nat} (h : SlAt w X Y S f B) {a v : Nat} (ha : a + 8 ≤ Y.N) (hm : a % 8 = 0) (W : World) (g : w.grownBy W none) :
    Calls Tryz.prog 147 #[.pointer (some ⟨X.pa, 0, none⟩), .int .i64 a, .int .u64 v] W fun e w' => e = .returned (.int .i64 0) ∧ SlAt w' X Y S f (Ar.setW B a v) ∧ W.grownBy w' (some X.qa) :=
  (setword_in (h.grown g).ar ha hm).mono fun _ _ ⟨he, ha, hg⟩ => ⟨he, (h.grown g).arena hg ha, hg⟩
theorem SlAt.own_g {w : World} {X : Pl} {Y : Nm} {S : Nat → Nat} {f : Int} {B : Nat → Nat} (h : SlAt w X Y S f B) (W : World) (g : w.grownBy W none) : Own W X Y f := h.own.grown g (by simp)

set_option maxHeartbeats 400000 in
theorem take_nil (w : World) :
    Calls Tryz.prog 87 #[.pointer none] w fun e w' => e = .returned (.tuple #[.int .i64 0, .int .i64 2]) ∧ w = w' := by
  go_enter Tryz.func87, Tryz.ntmps87
  go_wp2
  go_ret2
  exact ⟨rfl, rfl⟩
set_option maxHeartbeats 400000 in
theorem take_none {w : World} {X : Pl} {Y : Nm} {S : Nat → Nat} {B : Nat → Nat} (h : SlAt w X Y S (-1) B) :
    Calls Tryz.prog 87 #[.pointer (some ⟨X.p, 0, none⟩)] w fun e w' => e = .returned (.tuple #[.int .i64 0, .int .i64 5]) ∧ w = w' := by
  have HT := sthere_at h (-1)
  rw [show isK Y.n (-1) = false by simp [isK]] at HT
  have HT := Lib.hid HT
  have c7 := h.own.c7
  clear h
  go_enter Tryz.func87, Tryz.ntmps87
  go_wp2_with (go_at_call 145; refine HT.out.mono ?_; rintro e w' ⟨rfl, rfl⟩)
  go_ret2
  exact ⟨rfl, rfl⟩

/-- The block is filled. -/
def Filled (w W : World) (X : Pl) (Y : Nm) (S : Nat → Nat) (f : Int) (B : Nat → Nat) : Prop := SlAt W X Y S f B ∧ w.grownBy W (some X.qa)
set_option maxRecDepth 100000 in
set_option maxHeartbeats 2000000 in
theorem take_core {w : World} {X : Pl} {Y : Nm} {S : Nat → Nat} {B : Nat → Nat} {k : Nat} {f' : Int} (h : SlAt w X Y S k B) (hk : k < Y.n) (hS : S k = 0)
    (hN : Calls Tryz.prog 146 #[.pointer (some ⟨X.p, 0, none⟩), .int .i64 k] w fun e w' => e = .returned (.tuple #[.int .i64 f', .bool true]) ∧ w.grownBy w' none) :
    Calls Tryz.prog 87 #[.pointer (some ⟨X.p, 0, none⟩)] w fun e w' => e = .returned (.tuple #[.int .i64 k, .int .i64 0]) ∧ SlAt w' X Y (upd S k 1) f' (Sl.takeB Y.key Y.g Y.s Y.r k B) ∧ Fr X.may w w' := by
  have HT := sthere_at h (k : Int)
  rw [isK_of hk] at HT
  have HT := Lib.hid HT
  have c7 := h.own.c7
  have HN := Lib.hid hN
  have H := Lib.hid h
  have HK := Lib.hid hk
  have HS0 := Lib.hid hS
  have HTB : Hid (Ar.setW (Ar.setB B (bs Y.g Y.s k) Y.r fun _ => 0) (bs Y.g Y.s k + Y.r) (Sl.can Y.key Y.g Y.s k) = Sl.takeB Y.key Y.g Y.s Y.r k B) := Lib.hid rfl
  clear h hk hS hN
  generalize Sl.takeB Y.key Y.g Y.s Y.r k B = B' at *
  go_enter Tryz.func87, Tryz.ntmps87
  go_wp2_with (go_at_call 145; refine HT.out.mono ?_; rintro e w' ⟨rfl, rfl⟩)
  refine HN.out.mono ?_
  rintro e w1 ⟨rfl, hg1⟩
  have H1 := Lib.hid (H.out.grown hg1)
  have HF1 := Lib.hid (fr_none (may := X.may) hg1)
  clear hg1 HN HT c7
  have z7 := H1.out.own.fz 7
  have d7 := H1.out.own.c7
  go_upto_region 10 with (fail)
  have H2 := Lib.hid (H1.out.first f')
  have HF2 := Lib.hid (HF1.out.trans (fr_some (An.agrown_set w1 X.p 7 (.int .i64 f')) (fun _ => .inl rfl)))
  clear z7 d7 H1 HF1
  generalize w1.setCell ⟨X.p, 7, none⟩ (.int .i64 f') = w2 at *
  have c5 := H2.out.own.c5
  have HP := Lib.hid (H2.out.l.put HK.out true)
  go_wp2_with fail
  refine HP.out.mono ?_
  rintro e w3 ⟨rfl, hr, hg3⟩
  have H3 := Lib.hid (H2.out.live (S' := upd S k 1) hg3 hr (fun j _ => by rw [is1_upd]; rfl) (fun j _ => by
    rw [is2_upd]
    by_cases e : j = k
    · subst e; rw [if_pos rfl]; unfold is2; rw [HS0.out]; rfl
    · rw [if_neg e]))
  have HF3 := Lib.hid (HF2.out.trans (fr_some (may := X.may) hg3 (fun _ => .inr (.inr (.inl rfl)))))
  clear hr hg3 HP H2 HF2 c5
  have HB := Lib.hid (fun W g => H3.out.base_g HK.out W g)
  have HR := Lib.hid (fun W => room_at H3.out.ok W)
  have hbd := bs_bd H3.out.ok HK.out
  have hrs := H3.out.ok.c.facts.rs
  have HFi := Lib.hid (fun W g => H3.out.fill_g (a := bs Y.g Y.s k) (m := Y.r) (c := 0) (by omega) (by omega) W g)
  have HO := Lib.hid (fun W g => And.intro (H3.out.own_g W g).c0 (H3.out.own_g W g).c3)
  obtain ⟨e0, e1⟩ := HO.out _ (grown_refl w3 none)
  have hg1 := grown_drew1 (grown_refl w3 none)
  clear hbd hrs
  go_upto_region 11 with (fail)
  go_cut [] (fun W => Filled w3 W X Y (upd S k 1) f' (Ar.setB B (bs Y.g Y.s k) Y.r (fun _ => 0)))
  case first =>
    generalize bs Y.g Y.s k = x at *
    go_region_held3 (fun w' => w'.cell? ⟨X.p, 0, none⟩ = some (.pointer (some ⟨X.pa, 0, none⟩)) ∧ w'.cell? ⟨X.p, 3, none⟩ = some (.int .i64 (Y.c : Nat)))
      (first | exact ⟨e0, e1⟩ | exact HO.out _ (by assumption) | exact HS3.out)
      (first
      | (go_at_call 130; refine (HB.out _ (by assumption)).mono ?_; rintro e w4 ⟨rfl, m⟩; have hg2 := grown_trans hg1 m; clear m)
      | (go_at_call 140; refine (HR.out _).mono ?_; rintro e w4 ⟨rfl, rfl⟩)
      | (go_at_call 129; refine (HFi.out _ (by assumption)).mono ?_; rintro e w5 ⟨rfl, k3, k4⟩; have K := Lib.hid (And.intro k3 (grown_trans (grown_none hg2) k4)); have HS3 := Lib.hid (And.intro k3.own.c0 k3.own.c3); clear k3 k4))
    all_goals
      go_wp2
      go_meet
      exact K.out
  case rest =>
    have H4 := Lib.hid hcut.1
    have HF4 := Lib.hid (HF3.out.trans (fr_some (may := X.may) hcut.2 (fun _ => .inr (.inl rfl))))
    clear hcut HB HR HFi HO e0 e1 hg1 H3 HF3
    obtain ⟨w4, rfl⟩ : ∃ w4 : World, w4 = wc := ⟨_, rfl⟩
    have hbd := bs_bd H4.out.ok HK.out
    have hrs := H4.out.ok.c.facts.rs
    have hm1 := Sl.bs_mod H4.out.ok.c Y.g k
    have hm2 := Sl.r_mod H4.out.ok.c
    have HB := Lib.hid (fun W g => H4.out.base_g HK.out W g)
    have HGd := Lib.hid (fun W g => H4.out.guard_g HK.out W g)
    have HC : Hid (∀ W, Calls Tryz.prog 149 #[.agg #[.int .u64 (Y.key : Nat)], .int .i64 (bs Y.g Y.s k : Nat)] W fun e w' => e = .returned (.int .u64 (Sl.can Y.key Y.g Y.s k : Nat)) ∧ W.grownBy w' none) := Lib.hid (fun W => canary_at Y.key H4.out.ok.k _ W)
    have HW := Lib.hid (fun W g => H4.out.word_g (a := bs Y.g Y.s k + Y.r) (v := Sl.can Y.key Y.g Y.s k) (by omega) (by omega) W g)
    rw [HTB.out] at HW
    have HO := Lib.hid (fun W g => And.intro (H4.out.own_g W g).c0 (H4.out.own_g W g).c1)
    obtain ⟨e0, e1⟩ := HO.out _ (grown_refl w4 none)
    have hg0 := grown_drew1 (grown_refl w4 none)
    clear hbd hrs hm1 hm2 HTB
    generalize Sl.can Y.key Y.g Y.s k = z at *
    generalize ((bs Y.g Y.s k + Y.r : Nat) : Int) = y at *
    generalize bs Y.g Y.s k = x at *
    go_upto_region 12 with (fail)
    go_region_held3 (fun w' => w'.cell? ⟨X.p, 0, none⟩ = some (.pointer (some ⟨X.pa, 0, none⟩)) ∧ w'.cell? ⟨X.p, 1, none⟩ = some (.int .u64 (Y.key : Nat)))
      (first | exact ⟨e0, e1⟩ | exact HO.out _ (by assumption) | exact HS3.out)
      (first
      | (go_at_call 130; refine (HB.out _ (by assumption)).mono ?_; rintro e w5 ⟨rfl, m⟩; have hg := grown_trans (by assumption : w4.grownBy _ none) m; clear m)
      | (go_at_call 148; refine (HGd.out _ (by assumption)).mono ?_; rintro e w5 ⟨rfl, m⟩; have hg := grown_trans (by assumption : w4.grownBy _ none) m; clear m)
      | (go_at_call 149; refine (HC.out _).mono ?_; rintro e w5 ⟨rfl, m⟩; have hg := grown_trans (by assumption : w4.grownBy _ none) m; clear m)
      | (go_at_call 147; refine (HW.out _ (by assumption)).mono ?_; rintro e w6 ⟨rfl, k3, k4⟩; have K := Lib.hid (And.intro k3 (grown_trans (grown_none (by assumption : w4.grownBy _ none)) k4)); have HS3 := Lib.hid (And.intro k3.own.c0 k3.own.c1); clear k3 k4))
    all_goals
      go_wp2
      go_ret2
      exact ⟨rfl, K.out.1, HF4.out.trans (fr_some K.out.2 (fun _ => .inr (.inl rfl)))⟩

theorem take_some {w : World} {X : Pl} {Y : Nm} {S : Nat → Nat} {B : Nat → Nat} {k : Nat} {t : List Nat} (h : SlAt w X Y S k B) (hI : Sl.Inv Y.key Y.g Y.s Y.n Y.r S (k :: t) B) :
    Calls Tryz.prog 87 #[.pointer (some ⟨X.p, 0, none⟩)] w fun e w' => e = .returned (.tuple #[.int .i64 k, .int .i64 0]) ∧ SlAt w' X Y (upd S k 1) (Sl.fst t) (Sl.takeB Y.key Y.g Y.s Y.r k B) ∧ Fr X.may w w' :=
  take_core h (hI.fr k (by simp)).1 (hI.fr k (by simp)).2 (next_at h (pre := []) hI)
set_option maxRecDepth 100000 in
set_option maxHeartbeats 1000000 in
/-- Take, where the first one's link leads nowhere. -/
theorem take_form {w : World} {X : Pl} {Y : Nm} {S : Nat → Nat} {B : Nat → Nat} {k : Nat} (h : SlAt w X Y S k B) (hk : k < Y.n)
    (hN : Calls Tryz.prog 146 #[.pointer (some ⟨X.p, 0, none⟩), .int .i64 k] w fun e w' => (∃ x : Int, e = .returned (.tuple #[.int .i64 x, .bool false])) ∧ w.grownBy w' none) :
    Calls Tryz.prog 87 #[.pointer (some ⟨X.p, 0, none⟩)] w fun e w' => e = .returned (.tuple #[.int .i64 0, .int .i64 4]) ∧ w.grownBy w' none := by
  have HT := sthere_at h (k : Int)
  rw [isK_of hk] at HT
  have HT := Lib.hid HT
  have c7 := h.own.c7
  have HN := Lib.hid hN
  clear h hk hN
  go_enter Tryz.func87, Tryz.ntmps87
  go_wp2_with (go_at_call 145; refine HT.out.mono ?_; rintro e w' ⟨rfl, rfl⟩)
  refine HN.out.mono ?_
  rintro e w1 ⟨⟨x, rfl⟩, hg1⟩
  have HG := Lib.hid hg1
  clear hg1 HN HT c7
  go_wp2
  go_ret2
  exact ⟨rfl, HG.out⟩

set_option maxRecDepth 100000 in
set_option maxHeartbeats 1000000 in
theorem drop_bad (v : Value) (er k : Int) (w : World) (hz : er ≠ 0)
    (hw : Calls Tryz.prog 127 #[v, .int .i64 k, .int .i64 1] w fun e w' => e = .returned (.int .i64 er) ∧ w = w') :
    Calls Tryz.prog 66 #[v, .int .i64 k] w fun e w' => e = .returned (.tuple #[.bool false, .int .i64 er]) ∧ w = w' := by
  have HW := Lib.hid hw
  have hz' : (er != 0) = true := by simpa using hz
  clear hw hz
  go_enter Tryz.func66, Tryz.ntmps66
  go_wp2_with (go_at_call 127; refine HW.out.mono ?_; rintro e w' ⟨rfl, rfl⟩)
  go_ret2
  exact ⟨rfl, rfl⟩
set_option maxRecDepth 100000 in
set_option maxHeartbeats 1000000 in
theorem give_bad (v : Value) (er k : Int) (w : World) (hz : er ≠ 0)
    (hw : Calls Tryz.prog 127 #[v, .int .i64 k, .int .i64 2] w fun e w' => e = .returned (.int .i64 er) ∧ w = w') :
    Calls Tryz.prog 69 #[v, .int .i64 k] w fun e w' => e = .returned (.int .i64 er) ∧ w = w' := by
  have HW := Lib.hid hw
  have hz' : (er != 0) = true := by simpa using hz
  clear hw hz
  go_enter Tryz.func69, Tryz.ntmps69
  go_wp2_with (go_at_call 127; refine HW.out.mono ?_; rintro e w' ⟨rfl, rfl⟩)
  go_ret
  exact ⟨rfl, rfl⟩

set_option maxRecDepth 100000 in
set_option maxHeartbeats 2000000 in
theorem drop_core {w : World} {X : Pl} {Y : Nm} {S : Nat → Nat} {f : Int} {B : Nat → Nat} {k : Nat} (h : SlAt w X Y S f B) (hst : ∀ k, S k ≤ 2) (hk : k < Y.n) (hS : S k = 1) :
    Calls Tryz.prog 66 #[.pointer (some ⟨X.p, 0, none⟩), .int .i64 k] w fun e w' => e = .returned (.tuple #[.bool (decide (Ar.wordAt B (bs Y.g Y.s k + Y.r) = Sl.can Y.key Y.g Y.s k)), .int .i64 0]) ∧ SlAt w' X Y (upd S k 2) f (Sl.dropB Y.g Y.s k B) ∧ Fr X.may w w' := by
  have hW := wrong_at h hst (k : Int) 1
  rw [show wrV Y S (k : Int) 1 = 0 by unfold wrV; rw [if_pos (isK_of hk), if_pos (by rw [stV_in hk, hS]; rfl)]] at hW
  have HW := Lib.hid hW
  have HSt := Lib.hid (stands_dec h hk)
  have H := Lib.hid h
  have HK := Lib.hid hk
  have HTB : Hid ((Ar.setB B (bs Y.g Y.s k) Y.s fun _ => 221) = Sl.dropB Y.g Y.s k B) := Lib.hid rfl
  clear h hst hk hS hW
  generalize Sl.dropB Y.g Y.s k B = B' at *
  generalize decide (Ar.wordAt B (bs Y.g Y.s k + Y.r) = Sl.can Y.key Y.g Y.s k) = bb at *
  go_enter Tryz.func66, Tryz.ntmps66
  go_wp2_with (go_at_call 127; refine HW.out.mono ?_; rintro e w' ⟨rfl, rfl⟩)
  refine HSt.out.mono ?_
  rintro e w1 ⟨rfl, hg1⟩
  have H1 := Lib.hid (H.out.grown hg1)
  have HF1 := Lib.hid (fr_none (may := X.may) hg1)
  clear hg1 HSt HW
  have c5 := H1.out.own.c5
  have HP := Lib.hid (H1.out.l.put HK.out false)
  go_wp2_with fail
  refine HP.out.mono ?_
  rintro e w2 ⟨rfl, hr, hg⟩
  have HL2 := Lib.hid hr
  have HO2 := Lib.hid (H1.out.own.grown hg (some_ne H1.out.ap.h1.2.2.2.1))
  have HH2 := Lib.hid (H1.out.h.grown hg (some_ne H1.out.ap.h2.2.2.2.1.symm) (some_ne H1.out.ap.h2.2.2.2.2.symm))
  have HG2 := Lib.hid hg
  have HF2 := Lib.hid (HF1.out.trans (fr_some (may := X.may) hg (fun _ => .inr (.inr (.inl rfl)))))
  clear hr hg HP HF1 c5
  have c6 := HO2.out.c6
  have HP := Lib.hid (HH2.out.put HK.out true)
  go_wp2_with fail
  refine HP.out.mono ?_
  rintro e w3 ⟨rfl, hr, hg⟩
  have H3 : Hid (SlAt w3 X Y (upd S k 2) f B) := Lib.hid (by
    have a := H1.out.ap
    refine ⟨HO2.out.grown hg (some_ne a.h1.2.2.2.2.2), (H1.out.ar.grown HG2.out (some_ne a.h2.1.symm) (some_ne a.h2.2.1.symm)).grown hg (some_ne a.h3.1.symm) (some_ne a.h3.2.1.symm), (HL2.out.grown hg (some_ne a.h3.2.2.1.symm) (some_ne a.h2.2.2.2.2)).congr (fun j _ => ?_), hr.congr (fun j _ => ?_), a, H1.out.ok⟩
    · rw [is1_upd]; rfl
    · rw [is2_upd]; rfl)
  have HF3 := Lib.hid (HF2.out.trans (fr_some (may := X.may) hg (fun _ => .inr (.inr (.inr rfl)))))
  clear hr hg HP HF2 c6 HO2 HH2 HG2 HL2 H1
  have HB := Lib.hid (fun W g => H3.out.base_g HK.out W g)
  have HR := Lib.hid (fun W => size_at H3.out.ok W)
  have hbd := bs_bd H3.out.ok HK.out
  have HFi := Lib.hid (fun W g => H3.out.fill_g (a := bs Y.g Y.s k) (m := Y.s) (c := 221) (by omega) (by omega) W g)
  rw [HTB.out] at HFi
  have HO := Lib.hid (fun W g => And.intro (H3.out.own_g W g).c0 (H3.out.own_g W g).c3)
  obtain ⟨e0, e1⟩ := HO.out _ (grown_refl w3 none)
  have hg1 := grown_drew1 (grown_refl w3 none)
  clear hbd
  go_upto_region 7 with (fail)
  clear HTB
  generalize bs Y.g Y.s k = x at *
  go_region_held3 (fun w' => w'.cell? ⟨X.p, 0, none⟩ = some (.pointer (some ⟨X.pa, 0, none⟩)) ∧ w'.cell? ⟨X.p, 3, none⟩ = some (.int .i64 (Y.c : Nat)))
    (first | exact ⟨e0, e1⟩ | exact HO.out _ (by assumption) | exact HS3.out)
    (first
    | (go_at_call 130; refine (HB.out _ (by assumption)).mono ?_; rintro e w4 ⟨rfl, m⟩; have hg2 := grown_trans hg1 m; clear m)
    | (go_at_call 131; refine (HR.out _).mono ?_; rintro e w4 ⟨rfl, rfl⟩)
    | (go_at_call 129; refine (HFi.out _ (by assumption)).mono ?_; rintro e w5 ⟨rfl, k3, k4⟩; have K := Lib.hid (And.intro k3 (grown_trans (grown_none hg2) k4)); have HS3 := Lib.hid (And.intro k3.own.c0 k3.own.c3); clear k3 k4))
  all_goals
    go_wp2
    go_ret2
    exact ⟨rfl, K.out.1, HF3.out.trans (fr_some K.out.2 (fun _ => .inr (.inl rfl)))⟩

theorem toV_fst {Y : Nm} {F : List Nat} (h : ∀ k, k ∈ F → k < Y.n) : toV Y (Sl.fst F) = Sl.nx Y.g Y.s F := by
  cases F with
  | nil => unfold toV; rw [if_neg (by simp [isK, Sl.fst])]; rfl
  | cons j t => unfold toV; rw [show Sl.fst (j :: t) = (j : Int) from rfl, if_pos (isK_of (h j (by simp))), Int.toNat_natCast]; rfl
set_option maxRecDepth 100000 in
set_option maxHeartbeats 2000000 in
theorem give_core {w : World} {X : Pl} {Y : Nm} {S : Nat → Nat} {f : Int} {B : Nat → Nat} {k : Nat} (h : SlAt w X Y S f B) (hst : ∀ k, S k ≤ 2) (hk : k < Y.n) (hS : S k = 2) :
    Calls Tryz.prog 69 #[.pointer (some ⟨X.p, 0, none⟩), .int .i64 k] w fun e w' => e = .returned (.int .i64 0) ∧ SlAt w' X Y (upd S k 0) k (Ar.setW B (bs Y.g Y.s k) (Li.lk Y.key (bs Y.g Y.s k : Nat) (toV Y f))) ∧ Fr X.may w w' := by
  have hW := wrong_at h hst (k : Int) 2
  rw [show wrV Y S (k : Int) 2 = 0 by unfold wrV; rw [if_pos (isK_of hk), if_pos (by rw [stV_in hk, hS]; rfl)]] at hW
  have HW := Lib.hid hW
  have H := Lib.hid h
  have HK := Lib.hid hk
  have HS := Lib.hid hS
  clear h hst hk hS hW
  have c6 := H.out.own.c6
  have HP := Lib.hid (H.out.h.put HK.out false)
  have HGB : Hid (Ar.setW B (bs Y.g Y.s k) (Li.lk Y.key (bs Y.g Y.s k : Nat) (toV Y f)) = Ar.setW B (bs Y.g Y.s k) (Li.lk Y.key (bs Y.g Y.s k : Nat) (toV Y f))) := Lib.hid rfl
  generalize hB' : Ar.setW B (bs Y.g Y.s k) (Li.lk Y.key (bs Y.g Y.s k : Nat) (toV Y f)) = B' at HGB ⊢
  have HB' := Lib.hid hB'
  clear hB'
  go_enter Tryz.func69, Tryz.ntmps69
  go_wp2_with (go_at_call 127; refine HW.out.mono ?_; rintro e w' ⟨rfl, rfl⟩)
  refine HP.out.mono ?_
  rintro e w1 ⟨rfl, hr, hg⟩
  have H1 := Lib.hid (H.out.held (S' := upd S k 0) hg hr (fun j _ => by
    rw [is1_upd]
    by_cases e : j = k
    · subst e; rw [if_pos rfl]; unfold is1; rw [HS.out]; rfl
    · rw [if_neg e]) (fun j _ => by rw [is2_upd]; rfl))
  have HF1 := Lib.hid (fr_some (may := X.may) hg (fun _ => .inr (.inr (.inr rfl))))
  clear hr hg HP c6 HW
  have c7 := H1.out.own.c7
  have hL := lead_at H1.out HK.out f
  rw [HB'.out] at hL
  have HL := Lib.hid hL
  clear hL
  go_wp2_with fail
  refine HL.out.mono ?_
  rintro e w2 ⟨rfl, hs, hg⟩
  have H2 := Lib.hid hs
  have HF2 := Lib.hid (HF1.out.trans (fr_some (may := X.may) hg (fun _ => .inr (.inl rfl))))
  clear hs hg HL c7
  have z7 := H2.out.own.fz 7
  have d7 := H2.out.own.c7
  go_wp2
  go_ret
  exact ⟨rfl, H2.out.first k, HF2.out.trans (fr_some (An.agrown_set w2 X.p 7 _) (fun _ => .inl rfl))⟩
end Go.Proofs.YtgnfcklippjeeaaGreat

/- Plain facts on a page of slots that need not be whole: where a link leads, the bytes of a new page; next, of a link that leads nowhere. -/
namespace Go.Proofs.YtgnfcklippjeeaaGreat
open Go.RowKit
open Sl (Cls bs upd)

namespace Sl
/-- Where slot k's link leads: to none, to another free slot, nowhere. -/
def LnkIs (key g s n : Nat) (S B : Nat → Nat) (k : Nat) (x : Int) : Prop :=
  (x = -1 ∧ Ar.wordAt B (bs g s k) = Li.lk key (bs g s k : Nat) 0) ∨
  (∃ j, j < n ∧ x = (j : Int) ∧ j ≠ k ∧ S j = 0 ∧ Ar.wordAt B (bs g s k) = Li.lk key (bs g s k : Nat) (bs g s j + 1)) ∨
  (x = -2 ∧ Ar.wordAt B (bs g s k) ≠ Li.lk key (bs g s k : Nat) 0 ∧ ∀ j, j < n → j ≠ k → S j = 0 → Ar.wordAt B (bs g s k) ≠ Li.lk key (bs g s k : Nat) (bs g s j + 1))
theorem lnk_ex (key g s n : Nat) (S B : Nat → Nat) (k : Nat) : ∃ x, LnkIs key g s n S B k x := by
  classical
  by_cases h0 : Ar.wordAt B (bs g s k) = Li.lk key (bs g s k : Nat) 0
  · exact ⟨-1, .inl ⟨rfl, h0⟩⟩
  · by_cases h1 : ∃ j, j < n ∧ j ≠ k ∧ S j = 0 ∧ Ar.wordAt B (bs g s k) = Li.lk key (bs g s k : Nat) (bs g s j + 1)
    · obtain ⟨j, a, b, c, d⟩ := h1
      exact ⟨j, .inr (.inl ⟨j, a, rfl, b, c, d⟩)⟩
    · exact ⟨-2, .inr (.inr ⟨rfl, h0, fun j a b c d => h1 ⟨j, a, b, c, d⟩⟩)⟩
/-- The first free slot's number: none's, or a free one's. -/
def FOk (n : Nat) (S : Nat → Nat) (f : Int) : Prop := f = -1 ∨ ∃ k : Nat, k < n ∧ f = (k : Int) ∧ S k = 0
theorem LnkIs.fok {key g s n : Nat} {S B : Nat → Nat} {k : Nat} {x : Int} (h : LnkIs key g s n S B k x) (hx : x ≠ -2) : FOk n (upd S k 1) x := by
  rcases h with ⟨rfl, _⟩ | ⟨j, hj, rfl, hjk, h0, _⟩ | ⟨rfl, _⟩
  · exact .inl rfl
  · exact .inr ⟨j, hj, rfl, by rw [upd_other hjk]; exact h0⟩
  · exact absurd rfl hx

/-- The bytes of a page of which some slots are linked, each to the next one. -/
def layF (key g s n : Nat) (P : Nat → Bool) (B : Nat → Nat) : Nat → Nat := fun i =>
  if g * 256 ≤ i ∧ (i - g * 256) / s < n ∧ P ((i - g * 256) / s) = true ∧ (i - g * 256) % s < 8 then Ar.byt (Li.lk key (bs g s ((i - g * 256) / s) : Nat) (nxt g s n ((i - g * 256) / s))) ((i - g * 256) % s) else B i
theorem layF_none {key g s n : Nat} {P : Nat → Bool} {B : Nat → Nat} (h : ∀ j, j < n → P j = false) : layF key g s n P B = B := by
  funext i
  unfold layF
  rw [if_neg]
  rintro ⟨_, h1, h2, _⟩
  rw [h _ h1] at h2
  cases h2
theorem layF_congr {key g s n : Nat} {P Q : Nat → Bool} {B : Nat → Nat} (h : ∀ j, j < n → P j = Q j) : layF key g s n P B = layF key g s n Q B := by
  funext i
  unfold layF
  by_cases h1 : (i - g * 256) / s < n
  · rw [h _ h1]
  · rw [if_neg (fun x => h1 x.2.1), if_neg (fun x => h1 x.2.1)]
theorem bs_div {c s n r : Nat} (hc : Cls c s n r) (g k i : Nat) (h : bs g s k ≤ i) (h2 : i < bs g s k + s) : g * 256 ≤ i ∧ (i - g * 256) / s = k ∧ (i - g * 256) % s = i - bs g s k := by
  unfold bs at *
  rcases hc with ⟨rfl, rfl, rfl, rfl⟩ | ⟨rfl, rfl, rfl, rfl⟩ | ⟨rfl, rfl, rfl, rfl⟩ | ⟨rfl, rfl, rfl, rfl⟩ <;> omega
theorem div_bs {c s n r : Nat} (hc : Cls c s n r) (g k i : Nat) (h : g * 256 ≤ i) (h2 : (i - g * 256) / s = k) (h3 : (i - g * 256) % s < 8) : bs g s k ≤ i ∧ i < bs g s k + 8 := by
  unfold bs
  rcases hc with ⟨rfl, rfl, rfl, rfl⟩ | ⟨rfl, rfl, rfl, rfl⟩ | ⟨rfl, rfl, rfl, rfl⟩ | ⟨rfl, rfl, rfl, rfl⟩ <;> omega
theorem layF_step {c key g s n r k : Nat} {P : Nat → Bool} {B : Nat → Nat} (hc : Cls c s n r) (hk : k < n) :
    layF key g s n (fun j => P j || decide (j = k)) B = Ar.setW (layF key g s n P B) (bs g s k) (Li.lk key (bs g s k : Nat) (nxt g s n k)) := by
  funext i
  have hs := hc.facts.s16
  by_cases hin : bs g s k ≤ i ∧ i < bs g s k + 8
  · obtain ⟨h1, h2, h3⟩ := bs_div hc g k i hin.1 (by omega)
    unfold Ar.setW
    rw [if_pos hin]
    unfold layF
    rw [h2, h3, if_pos ⟨h1, hk, by simp, by omega⟩]
  · rw [Ar.setW_out (by omega)]
    unfold layF
    by_cases h1 : g * 256 ≤ i ∧ (i - g * 256) / s < n ∧ P ((i - g * 256) / s) = true ∧ (i - g * 256) % s < 8
    · rw [if_pos h1, if_pos ⟨h1.1, h1.2.1, by simp [h1.2.2.1], h1.2.2.2⟩]
    · rw [if_neg h1, if_neg]
      rintro ⟨a1, a2, a3, a4⟩
      simp only [Bool.or_eq_true, decide_eq_true_eq] at a3
      rcases a3 with a3 | a3
      · exact h1 ⟨a1, a2, a3, a4⟩
      · exact hin (div_bs hc g k i a1 a3 a4)
theorem layF_out {c key g s n r : Nat} {P : Nat → Bool} {B : Nat → Nat} (hc : Cls c s n r) {i : Nat} (h : i < g * 256 ∨ g * 256 + 256 ≤ i) : layF key g s n P B i = B i := by
  unfold layF
  rw [if_neg]
  rintro ⟨a1, a2, _, _⟩
  rcases hc with ⟨rfl, rfl, rfl, rfl⟩ | ⟨rfl, rfl, rfl, rfl⟩ | ⟨rfl, rfl, rfl, rfl⟩ | ⟨rfl, rfl, rfl, rfl⟩ <;> omega
theorem layF_lt {key g s n : Nat} {P : Nat → Bool} {B : Nat → Nat} (h : ∀ i, B i < 256) (i : Nat) : layF key g s n P B i < 256 := by
  unfold layF
  split
  · exact Ar.byt_lt _ _
  · exact h _
theorem layF_word {c key g s n r k : Nat} {B : Nat → Nat} (hc : Cls c s n r) (hg : g < 256) (hk : k < n) : Ar.wordAt (layF key g s n (fun _ => true) B) (bs g s k) = Li.lk key (bs g s k : Nat) (nxt g s n k) := by
  have e : layF key g s n (fun _ => true) B = Ar.setW (layF key g s n (fun j => decide (j ≠ k)) B) (bs g s k) (Li.lk key (bs g s k : Nat) (nxt g s n k)) := by
    rw [← layF_step hc hk]
    exact layF_congr (fun j _ => by by_cases e : j = k <;> simp [e])
  rw [e]
  refine Ar.wordAt_setW _ _ _ (Li.lk_lt _ _ ?_)
  unfold nxt
  split
  · rename_i h
    have := bs_hi hc g h
    omega
  · omega
end Sl
open Sl (LnkIs)

theorem next_ok {w : World} {X : Pl} {Y : Nm} {S : Nat → Nat} {f : Int} {B : Nat → Nat} {k : Nat} {x : Int} (h : SlAt w X Y S f B) (hk : k < Y.n) (hx : LnkIs Y.key Y.g Y.s Y.n S B k x) (h2 : x ≠ -2) :
    Calls Tryz.prog 146 #[.pointer (some ⟨X.p, 0, none⟩), .int .i64 k] w fun e w' => e = .returned (.tuple #[.int .i64 x, .bool true]) ∧ w.grownBy w' none := by
  rcases hx with ⟨rfl, hw⟩ | ⟨j, hj, rfl, hjk, h0, hw⟩ | ⟨rfl, _⟩
  · exact next_nil h hk hw
  · exact next_cons h hk hj hjk h0 hw
  · exact absurd rfl h2

set_option maxRecDepth 100000 in
set_option maxHeartbeats 2000000 in
theorem next_no {w : World} {X : Pl} {Y : Nm} {S : Nat → Nat} {f : Int} {B : Nat → Nat} {k : Nat} (h : SlAt w X Y S f B) (hst : ∀ k, S k ≤ 2) (hk : k < Y.n) (hx : LnkIs Y.key Y.g Y.s Y.n S B k (-2)) :
    Calls Tryz.prog 146 #[.pointer (some ⟨X.p, 0, none⟩), .int .i64 k] w fun e w' => (∃ x : Int, e = .returned (.tuple #[.int .i64 x, .bool false])) ∧ w.grownBy w' none := by
  obtain ⟨hx1, hx2⟩ : Ar.wordAt B (bs Y.g Y.s k) ≠ Li.lk Y.key (bs Y.g Y.s k : Nat) 0 ∧ ∀ j, j < Y.n → j ≠ k → S j = 0 → Ar.wordAt B (bs Y.g Y.s k) ≠ Li.lk Y.key (bs Y.g Y.s k : Nat) (bs Y.g Y.s j + 1) := by
    rcases hx with ⟨h, _⟩ | ⟨j, _, h, _⟩ | ⟨_, h⟩
    · omega
    · omega
    · exact h
  clear hx
  have HO := Lib.hid (fun W (g : w.grownBy W none) => And.intro (h.own.grown g (by simp)).c0 (And.intro (h.own.grown g (by simp)).c1 (h.own.grown g (by simp)).c3))
  have HB : Hid (Calls Tryz.prog 130 #[.pointer (some ⟨X.p, 0, none⟩), .int .i64 k] w fun e w' => e = .returned (.int .i64 (bs Y.g Y.s k : Nat)) ∧ w.grownBy w' none) := Lib.hid (by
    have := sbase_own h.own h.ok (k : Int)
    rw [baseV_in hk] at this
    exact this.mono fun _ _ ⟨he, hd⟩ => ⟨he, drew_grownBy hd⟩)
  have HBj : Hid (∀ W, w.grownBy W none → ∀ j : Int, Calls Tryz.prog 130 #[.pointer (some ⟨X.p, 0, none⟩), .int .i64 j] W fun e w' => e = .returned (.int .i64 (baseV Y j)) ∧ W.grownBy w' none) := Lib.hid (fun W g j =>
    (sbase_own (h.own.grown g (by simp)) h.ok j).mono fun _ _ ⟨he, hd⟩ => ⟨he, drew_grownBy hd⟩)
  have HSt : Hid (∀ W, w.grownBy W none → ∀ j : Int, Calls Tryz.prog 118 #[.pointer (some ⟨X.p, 0, none⟩), .int .i64 j] W fun e w' => e = .returned (.int .i64 (stV Y S j)) ∧ W = w') := Lib.hid (fun W g j => state_at (h.grown g) hst j)
  obtain ⟨v, hv⟩ : ∃ v, Ar.wordAt B (bs Y.g Y.s k) = v := ⟨_, rfl⟩
  have hv64 : v < 18446744073709551616 := by
    rw [← hv]
    have := Ar.wsum_lt (B := fun i => B (bs Y.g Y.s k + i)) (fun i => h.ar.lt _) 8
    exact Nat.lt_of_lt_of_le this (Ar.pow_le 8 (by omega))
  have HW : Hid (∀ W, w.grownBy W none → Calls Tryz.prog 174 #[.pointer (some ⟨X.pa, 0, none⟩), .int .i64 (bs Y.g Y.s k : Nat)] W fun e w' => e = .returned (.tuple #[.int .u64 (v : Nat), .int .i64 0]) ∧ W = w') := Lib.hid (fun W g => by
    have b1 := bs_bd h.ok hk
    have b2 := h.ok.c.facts.s16
    have b3 := Sl.bs_mod h.ok.c Y.g k
    have := word_in (h.grown g).ar (a := bs Y.g Y.s k) (by omega) (by omega)
    rw [hv] at this
    exact this)
  have hbr := Li.lk_bare Y.key (bs Y.g Y.s k : Nat) v
  rw [hv] at hx1 hx2
  have cls := h.ok.c
  have hN := h.ok.N
  clear hv h
  by_cases hbig : 2147483648 < Li.bare Y.key (bs Y.g Y.s k : Nat) v
  · have HG := Lib.hid (fun W => get_none Y.key v (bs Y.g Y.s k : Nat) W (by omega) hv64 hbig)
    clear hbig hv64 hbr hx1 hx2 hN hk
    generalize bs Y.g Y.s k = x at *
    go_enter Tryz.func146, Tryz.ntmps146
    go_wp2_with fail
    refine HB.out.mono ?_
    rintro e w1 ⟨rfl, hg1⟩
    have e0 := (HO.out _ hg1).1
    have e1 := (HO.out _ hg1).2.1
    have HG1 := Lib.hid hg1
    clear HB hg1
    go_wp2_with fail
    refine (HW.out _ HG1.out).mono ?_
    rintro e w2 ⟨rfl, rfl⟩
    go_wp2_with fail
    refine (HG.out _).mono ?_
    rintro e w3 ⟨rfl, hg3⟩
    have HE := Lib.hid (grown_trans HG1.out hg3)
    clear hg3 e0 e1
    go_wp2
    go_ret2
    exact ⟨⟨_, rfl⟩, HE.out⟩
  · have HG := Lib.hid (fun W => get_some Y.key v (bs Y.g Y.s k : Nat) W (by omega) hv64 (by omega))
    obtain ⟨b, hb⟩ : ∃ b, Li.bare Y.key (bs Y.g Y.s k : Nat) v = b := ⟨_, rfl⟩
    rw [hb] at HG hbig hbr
    have hb0 : b ≠ 0 := fun e => hx1 (by rw [← hbr, e])
    have hb1 : b ≤ 2147483648 := by omega
    obtain ⟨t, ht⟩ : ∃ t : Nat, b = t + 1 := ⟨b - 1, by omega⟩
    subst ht
    rw [show (((t + 1 : Nat) : Int) - 1) = (t : Int) by omega] at HG
    have hnn : ((t : Int) == -1) = false := by simp
    have hno : ∀ j, j < Y.n → j ≠ k → S j = 0 → bs Y.g Y.s j ≠ t := fun j a1 a2 a3 e => hx2 j a1 a2 a3 (by rw [← hbr, e])
    clear hbig hv64 hbr hx1 hx2 hb hb0
    -- the number of the slot that it would be
    obtain ⟨p, m, HSl⟩ : ∃ p m : Int, Hid (∀ W, Calls Tryz.prog 78 #[.int .i64 (t : Nat), .int .i64 (Y.c : Nat)] W fun e w' => e = .returned (.tuple #[.int .i64 p, .int .i64 m]) ∧ W.grownBy w' none) := by
      by_cases h1 : t < 65536
      · exact ⟨_, _, Lib.hid (fun W => (slot_yes t W cls.cl h1).mono fun _ _ ⟨he, hd⟩ => ⟨he, drew_grownBy hd⟩)⟩
      · exact ⟨_, _, Lib.hid (fun W => (slot_out t Y.c W (by omega)).mono fun _ _ ⟨he, hd⟩ => ⟨he, hd ▸ grown_refl _ _⟩)⟩
    have HNE : Hid (m ≠ (k : Int) → stV Y S m = 0 → baseV Y m ≠ (t : Int)) := Lib.hid (fun a1 a2 a3 => by
      cases hm : isK Y.n m with
      | false => rw [stV_out hm] at a2; omega
      | true =>
        obtain ⟨j, rfl, hj⟩ := isK_t hm
        rw [stV_in hj] at a2
        rw [baseV_in hj] at a3
        exact hno j hj (by omega) (by omega) (by omega))
    clear hno cls hN
    by_cases c1 : m = (k : Int)
    · have d1 : (m != (k : Int)) = false := by simpa using c1
      clear c1 hk
      generalize bs Y.g Y.s k = x at *
      go_enter Tryz.func146, Tryz.ntmps146
      go_wp2_with fail
      refine HB.out.mono ?_
      rintro e w1 ⟨rfl, hg1⟩
      have e0 := (HO.out _ hg1).1
      have e1 := (HO.out _ hg1).2.1
      have HG1 := Lib.hid hg1
      clear HB hg1
      go_wp2_with fail
      refine (HW.out _ HG1.out).mono ?_
      rintro e w2 ⟨rfl, rfl⟩
      go_wp2_with fail
      refine (HG.out _).mono ?_
      rintro e w3 ⟨rfl, hg3⟩
      have HG3 := Lib.hid (grown_trans HG1.out hg3)
      have e3 := (HO.out _ HG3.out).2.2
      clear hg3 e0 e1 HG1
      go_wp2_with fail
      refine (HSl.out _).mono ?_
      rintro e w4 ⟨rfl, hg4⟩
      have HG4 := Lib.hid (grown_trans HG3.out hg4)
      clear hg4 HG3 e3
      go_wp2
      go_ret2
      exact ⟨⟨_, rfl⟩, HG4.out⟩
    · have d1 : (m != (k : Int)) = true := by simpa using c1
      by_cases c2 : stV Y S m = 0
      · have d2 : (baseV Y m == (t : Int)) = false := by simpa using HNE.out c1 c2
        have HS2 : Hid (∀ W, w.grownBy W none → Calls Tryz.prog 118 #[.pointer (some ⟨X.p, 0, none⟩), .int .i64 m] W fun e w' => e = .returned (.int .i64 0) ∧ W = w') := Lib.hid (fun W g => by have := HSt.out W g m; rw [c2] at this; exact this)
        have HB2 := Lib.hid (fun W g => HBj.out W g m)
        clear c1 c2 hk HNE HSt HBj
        generalize baseV Y m = y at *
        generalize bs Y.g Y.s k = x at *
        go_enter Tryz.func146, Tryz.ntmps146
        go_wp2_with fail
        refine HB.out.mono ?_
        rintro e w1 ⟨rfl, hg1⟩
        have e0 := (HO.out _ hg1).1
        have e1 := (HO.out _ hg1).2.1
        have HG1 := Lib.hid hg1
        clear HB hg1
        go_wp2_with fail
        refine (HW.out _ HG1.out).mono ?_
        rintro e w2 ⟨rfl, rfl⟩
        go_wp2_with fail
        refine (HG.out _).mono ?_
        rintro e w3 ⟨rfl, hg3⟩
        have HG3 := Lib.hid (grown_trans HG1.out hg3)
        have e3 := (HO.out _ HG3.out).2.2
        clear hg3 e0 e1 HG1
        go_wp2_with fail
        refine (HSl.out _).mono ?_
        rintro e w4 ⟨rfl, hg4⟩
        have HG4 := Lib.hid (grown_trans HG3.out hg4)
        clear hg4 HG3 e3
        go_wp2_with fail
        refine (HS2.out _ HG4.out).mono ?_
        rintro e w5 ⟨rfl, rfl⟩
        go_wp2_with fail
        refine (HB2.out _ HG4.out).mono ?_
        rintro e w6 ⟨rfl, hg6⟩
        have HE := Lib.hid (grown_trans HG4.out hg6)
        clear hg6 HG4
        go_wp2
        go_ret2
        exact ⟨⟨_, rfl⟩, HE.out⟩
      · have d2 : (stV Y S m == 0) = false := by simpa using c2
        have HS2 := Lib.hid (fun W g => HSt.out W g m)
        clear c1 c2 hk HNE HSt HBj
        generalize stV Y S m = y at *
        generalize bs Y.g Y.s k = x at *
        go_enter Tryz.func146, Tryz.ntmps146
        go_wp2_with fail
        refine HB.out.mono ?_
        rintro e w1 ⟨rfl, hg1⟩
        have e0 := (HO.out _ hg1).1
        have e1 := (HO.out _ hg1).2.1
        have HG1 := Lib.hid hg1
        clear HB hg1
        go_wp2_with fail
        refine (HW.out _ HG1.out).mono ?_
        rintro e w2 ⟨rfl, rfl⟩
        go_wp2_with fail
        refine (HG.out _).mono ?_
        rintro e w3 ⟨rfl, hg3⟩
        have HG3 := Lib.hid (grown_trans HG1.out hg3)
        have e3 := (HO.out _ HG3.out).2.2
        clear hg3 e0 e1 HG1
        go_wp2_with fail
        refine (HSl.out _).mono ?_
        rintro e w4 ⟨rfl, hg4⟩
        have HG4 := Lib.hid (grown_trans HG3.out hg4)
        clear hg4 HG3 e3
        go_wp2_with fail
        refine (HS2.out _ HG4.out).mono ?_
        rintro e w5 ⟨rfl, rfl⟩
        go_wp2
        go_ret2
        exact ⟨⟨_, rfl⟩, HG4.out⟩
end Go.Proofs.YtgnfcklippjeeaaGreat

/- The walks of a slab's lay and Make. -/
namespace Go.Proofs.YtgnfcklippjeeaaGreat
open Go.RowKit
open Sl (Cls bs upd)

/-- What is asked of a page and a class can't be. -/
def LayBad (N : Nat) (page c : Int) : Prop := No c ∨ (∃ s n r, Cl c s n r) ∧ (page < 0 ∨ (N : Int) / 256 ≤ page)
theorem cl_pos {c s n r : Int} (h : Cl c s n r) : 2 ≤ n ∧ n ≤ 16 := by unfold Cl at h; omega
set_option maxRecDepth 100000 in
set_option maxHeartbeats 1000000 in
theorem lay_bad {w : World} {p pa qa N cap : Nat} {B : Nat → Nat} {wk : Option Addr} {page c : Int} (h : An.ArAt w pa qa N cap B wk) (c0 : w.cell? ⟨p, 0, none⟩ = some (.pointer (some ⟨pa, 0, none⟩))) (c2 : w.cell? ⟨p, 2, none⟩ = some (.int .i64 page)) (c3 : w.cell? ⟨p, 3, none⟩ = some (.int .i64 c)) (hb : LayBad N page c) :
    Calls Tryz.prog 144 #[.pointer (some ⟨p, 0, none⟩)] w fun e w' => e = .returned (.int .i64 1) ∧ w.grownBy w' none := by
  have hN := h.small
  rcases hb with hc | ⟨⟨s, n, r, hc⟩, hp⟩
  · have HS := Lib.hid (fun w => slots_no c w hc)
    clear h hc
    go_enter Tryz.func144, Tryz.ntmps144
    go_wp2_with (go_at_call 142; refine (HS.out _).mono ?_; rintro e w' ⟨rfl, rfl⟩)
    go_quiet (fail)
    go_wp2
    go_ret
    exact ⟨rfl, grown_drew (grown_refl _ _) _⟩
  · have HS := Lib.hid (fun w => slots_yes w hc)
    have hn := (cl_pos hc).1
    have hn0 : (n == 0) = false := by simp; omega
    clear hc hn
    by_cases h0 : page < 0
    · have h1 : decide (page < 0) = true := by simpa using h0
      clear h hp h0
      go_enter Tryz.func144, Tryz.ntmps144
      go_wp2_with (go_at_call 142; refine (HS.out _).mono ?_; rintro e w' ⟨rfl, rfl⟩)
      go_quiet (fail)
      go_wp2
      go_ret
      exact ⟨rfl, grown_drew (grown_refl _ _) _⟩
    · have h1 : decide (page < 0) = false := by simpa using h0
      have h2 : decide ((N : Int) / 256 ≤ page) = true := by simp; omega
      have HL := Lib.hid (fun d => An.alen_core pa qa N cap (w.drewN d) (by simpa using h.c0))
      clear h hp h0
      go_enter Tryz.func144, Tryz.ntmps144
      go_wp2_with (go_at_call 142; refine (HS.out _).mono ?_; rintro e w' ⟨rfl, rfl⟩)
      go_quiet ((go_at_call 24; exact quiet_left (HL.out _)))
      go_wp2
      go_ret
      exact ⟨rfl, grown_drew (grown_refl _ _) _⟩

/-- A slab that is not laid yet. -/
structure Raw (w : World) (p pa : Nat) (Y : Nm) : Prop where
  c0 : w.cell? ⟨p, 0, none⟩ = some (.pointer (some ⟨pa, 0, none⟩))
  c1 : w.cell? ⟨p, 1, none⟩ = some (.int .u64 (Y.key : Nat))
  c2 : w.cell? ⟨p, 2, none⟩ = some (.int .i64 (Y.g : Nat))
  c3 : w.cell? ⟨p, 3, none⟩ = some (.int .i64 (Y.c : Nat))
  c4 : w.cell? ⟨p, 4, none⟩ = some (.int .i64 Y.o)
  c5 : w.cell? ⟨p, 5, none⟩ = some (.pointer none)
  c6 : w.cell? ⟨p, 6, none⟩ = some (.pointer none)
  c7 : w.cell? ⟨p, 7, none⟩ = some (.int .i64 0)
  fz : ∀ k, w.frozen? ⟨p, k, none⟩ = false
theorem Raw.grown {w w' : World} {p pa : Nat} {Y : Nm} {r : Option Nat} (h : Raw w p pa Y) (hg : w.grownBy w' r) (hp : some p ≠ r) : Raw w' p pa Y :=
  ⟨hg.cell h.c0 hp, hg.cell h.c1 hp, hg.cell h.c2 hp, hg.cell h.c3 hp, hg.cell h.c4 hp, hg.cell h.c5 hp, hg.cell h.c6 hp, hg.cell h.c7 hp, fun k => by rw [World.frozen?_of_block (w := w) (hg.block p (World.block_lt_of_cell? w ⟨p, 0, none⟩ h.c0) hp)]; exact h.fz k⟩
/-- The rows are put into the slab. -/
theorem Raw.own {w : World} {X : Pl} {Y : Nm} (h : Raw w X.p X.pa Y) : Own ((w.setCell ⟨X.p, 5, none⟩ (.pointer (some ⟨X.pl, 0, none⟩))).setCell ⟨X.p, 6, none⟩ (.pointer (some ⟨X.ph, 0, none⟩))) X Y 0 := by
  have o1 : ∀ (o : Nat) (v u : Value) (W : World) (i : Nat), o ≠ i → W.cell? ⟨X.p, o, none⟩ = some v → (W.setCell ⟨X.p, i, none⟩ u).cell? ⟨X.p, o, none⟩ = some v := fun o v u W i ne hc => by
    rw [World.cell?_setCell_other _ _ _ _ (fun x => ne (congrArg Addr.off x).symm)]; exact hc
  have o2 : ∀ (o : Nat) (v : Value), o ≠ 5 → o ≠ 6 → w.cell? ⟨X.p, o, none⟩ = some v → ((w.setCell ⟨X.p, 5, none⟩ (.pointer (some ⟨X.pl, 0, none⟩))).setCell ⟨X.p, 6, none⟩ (.pointer (some ⟨X.ph, 0, none⟩))).cell? ⟨X.p, o, none⟩ = some v := fun o v n5 n6 hc => o1 o v _ _ 6 n6 (o1 o v _ _ 5 n5 hc)
  refine ⟨o2 _ _ (by decide) (by decide) h.c0, o2 _ _ (by decide) (by decide) h.c1, o2 _ _ (by decide) (by decide) h.c2, o2 _ _ (by decide) (by decide) h.c3, o2 _ _ (by decide) (by decide) h.c4, ?_, ?_, o2 _ _ (by decide) (by decide) h.c7, fun k => by rw [World.frozen?_setCell, World.frozen?_setCell]; exact h.fz k⟩
  · exact o1 5 _ _ _ 6 (by decide) (World.cell?_setCell_same' _ _ _ (by rw [h.c5]; rfl))
  · exact World.cell?_setCell_same' _ _ _ (by rw [o1 6 _ _ _ 5 (by decide) h.c6]; rfl)

theorem toV_nxt {Y : Nm} {m : Nat} : toV Y ((m : Int) + 1) = Sl.nxt Y.g Y.s Y.n m := by
  unfold toV Sl.nxt
  by_cases e : m + 1 < Y.n
  · rw [if_pos e, show (m : Int) + 1 = ((m + 1 : Nat) : Int) by omega, if_pos (isK_of e), Int.toNat_natCast]
  · rw [if_neg e, if_neg (by simp [isK]; omega)]

/-- A slab that is laid. -/
def LaidSlab (w w' : World) (p pa qa : Nat) (Y : Nm) (B0 : Nat → Nat) : Prop :=
  ∃ X : Pl, X.p = p ∧ X.pa = pa ∧ X.qa = qa ∧ SlAt w' X Y (fun _ => 0) 0 (Sl.layF Y.key Y.g Y.s Y.n (fun _ => true) B0) ∧ w.heap.size ≤ X.pl ∧ w.heap.size ≤ X.ph ∧ w.heap.size ≤ X.ql ∧ w.heap.size ≤ X.qh ∧ Fr (fun i => i = p ∨ i = qa) w w'
set_option maxRecDepth 100000 in
set_option maxHeartbeats 2000000 in
theorem lay_ok {w : World} {p pa qa : Nat} {B : Nat → Nat} {Y : Nm} (h : Raw w p pa Y) (ha : An.ArAt w pa qa Y.N Y.acap B none) (ok : Ok Y) (hne : p ≠ pa ∧ p ≠ qa) :
    Calls Tryz.prog 144 #[.pointer (some ⟨p, 0, none⟩)] w fun e w' => e = .returned (.int .i64 0) ∧ LaidSlab w w' p pa qa Y B := by
  have hn1 := ok.c.facts.n2
  have hn2 := ok.c.facts.n16
  have hg := ok.g
  have hN := ok.N
  have HS := Lib.hid (fun w => slots_yes w ok.c.cl)
  have HL := Lib.hid (fun d => An.alen_core pa qa Y.N Y.acap (w.drewN d) (by simpa using ha.c0))
  have h0 : (((Y.n : Nat) : Int) == 0) = false := by simp; omega
  have h1 : decide ((Y.g : Int) < 0) = false := by simp
  have h3 : IntKind.i64.wrap ((Y.N : Int) / 256) = (Y.N : Int) / 256 := by rw [IntKind.wrap_i64]; omega
  have h2 : decide ((Y.N : Int) / 256 ≤ (Y.g : Int)) = false := by simp; omega
  have c0 := h.c0
  have c2 := h.c2
  have c3 := h.c3
  have HR := Lib.hid h
  have HA := Lib.hid ha
  have HK := Lib.hid ok
  have HNE := Lib.hid hne
  have HPL := Lib.hid (World.block_lt_of_cell? w ⟨p, 0, none⟩ c0)
  clear h ha ok hne
  go_enter Tryz.func144, Tryz.ntmps144
  go_wp2_with (go_at_call 142; refine (HS.out _).mono ?_; rintro e w' ⟨rfl, rfl⟩)
  go_quiet ((go_at_call 24; exact quiet_left (HL.out _)))
  rename_i nq
  have hg1 := grown_drew (grown_refl w none) nq
  have HG1 := Lib.hid hg1
  clear HL HS c0 c2 c3 hg1 h0 h2 h1 h3
  generalize w.drewN nq = w1 at *
  go_upto_region 4 with (fail)
  go_wp2_with fail
  refine (bnew_row Y.n (by omega) w1).mono ?_
  rintro e w2 ⟨pl, ql, rfl, hr1, hp1, hq1, hpq1, hg2⟩
  have HL2 := Lib.hid hr1
  have HG2 := Lib.hid (grown_trans HG1.out hg2)
  have s1 := HG1.out.size
  have s2 := hg2.size
  have HQ1 := Lib.hid (And.intro (Nat.le_trans s1 hp1) (And.intro (Nat.le_trans s1 hq1) hpq1))
  clear hr1 hp1 hq1 hpq1 hg2
  go_wp2_with fail
  refine (bnew_row Y.n (by omega) w2).mono ?_
  rintro e w3 ⟨ph, qh, rfl, hr3, hp3, hq3, hpq3, hg3⟩
  have HL3 := Lib.hid (HL2.out.grown hg3 (by simp) (by simp))
  have HH3 := Lib.hid hr3
  have HG3 := Lib.hid (grown_trans HG2.out hg3)
  have HPL2 := HL2.out.plt
  have HQL2 := HL2.out.qlt
  have HQ3 := Lib.hid (And.intro hp3 (And.intro hq3 (And.intro hpq3 (And.intro HPL2 (And.intro HQL2 (Nat.le_trans s1 s2))))))
  clear hr3 hp3 hq3 hpq3 hg3 HL2 HG2 s1 s2 HPL2 HQL2
  have d5 := (HR.out.grown HG3.out (by simp)).c5
  have d6 := (HR.out.grown HG3.out (by simp)).c6
  have z5 := (HR.out.grown HG3.out (by simp)).fz
  go_upto_region 5 with (fail)
  have HX : Hid (SlAt ((w3.setCell ⟨p, 5, none⟩ (.pointer (some ⟨pl, 0, none⟩))).setCell ⟨p, 6, none⟩ (.pointer (some ⟨ph, 0, none⟩))) ⟨p, pa, qa, pl, ql, ph, qh⟩ Y (fun _ => 0) 0 B) := Lib.hid (by
    obtain ⟨a1, a2, a3⟩ := HQ1.out
    obtain ⟨b1, b2, b3, b4, b5, b6⟩ := HQ3.out
    obtain ⟨n1, n2⟩ := HNE.out
    have pp := HPL.out
    have pap := HA.out.plt
    have qap := HA.out.b.qlt
    have g1 : w3.grownBy ((w3.setCell ⟨p, 5, none⟩ (.pointer (some ⟨pl, 0, none⟩))).setCell ⟨p, 6, none⟩ (.pointer (some ⟨ph, 0, none⟩))) (some p) := grown_trans (An.agrown_set _ _ _ _) (An.agrown_set _ _ _ _)
    have haa := HA.out.ne
    have pap' : pa < w.heap.size := pap
    have qap' : qa < w.heap.size := qap
    have pp' : p < w.heap.size := pp
    refine ⟨Raw.own (X := ⟨p, pa, qa, pl, ql, ph, qh⟩) (HR.out.grown HG3.out (by simp)), (HA.out.grown HG3.out (by simp) (by simp)).grown g1 (some_ne n1.symm) (some_ne n2.symm),
      (HL3.out.grown g1 (some_ne (by omega)) (some_ne (by omega))).congr (fun _ _ => rfl), (HH3.out.grown g1 (some_ne (by omega)) (some_ne (by omega))).congr (fun _ _ => rfl), ⟨⟨n1, n2, ?_, ?_, ?_, ?_⟩, ⟨?_, ?_, ?_, ?_, ?_⟩, ⟨?_, ?_, ?_, ?_⟩, ⟨?_, ?_, ?_⟩⟩, HK.out⟩ <;> (simp only; omega))
  have HF : Hid (Fr (fun i => i = p ∨ i = qa) w ((w3.setCell ⟨p, 5, none⟩ (.pointer (some ⟨pl, 0, none⟩))).setCell ⟨p, 6, none⟩ (.pointer (some ⟨ph, 0, none⟩)))) :=
    Lib.hid ((fr_none HG3.out).trans (fr_some (grown_trans (An.agrown_set _ _ _ _) (An.agrown_set _ _ _ _)) (fun _ => .inl rfl)))
  have HQQ : Hid (w.heap.size ≤ pl ∧ w.heap.size ≤ ph ∧ w.heap.size ≤ ql ∧ w.heap.size ≤ qh) := Lib.hid ⟨HQ1.out.1, Nat.le_trans HQ3.out.2.2.2.2.2 HQ3.out.1, HQ1.out.2.1, Nat.le_trans HQ3.out.2.2.2.2.2 HQ3.out.2.1⟩
  clear d5 d6 z5 HL3 HH3 HG3 HQ1 HQ3 HG1 HR HA
  generalize (w3.setCell ⟨p, 5, none⟩ (.pointer (some ⟨pl, 0, none⟩))).setCell ⟨p, 6, none⟩ (.pointer (some ⟨ph, 0, none⟩)) = w4 at *
  go_wp2_with fail
  go_loopw [43] (fun i wr => ∃ (m : Nat) (B' : Nat → Nat), m ≤ Y.n ∧ i = .int .i64 m ∧ SlAt wr ⟨p, pa, qa, pl, ql, ph, qh⟩ Y (fun _ => 0) 0 B' ∧ B' = Sl.layF Y.key Y.g Y.s Y.n (fun j => decide (j < m)) B ∧ Fr (fun i => i = p ∨ i = qa) w wr) (fun i _ => Y.n - (intOf i).toNat)
  case atStart => exact ⟨0, B, Nat.zero_le _, rfl, HX.out, (Sl.layF_none (fun j _ => by simp)).symm, HF.out⟩
  case round =>
    obtain ⟨m, B', hm, rfl, hx, hl, hf⟩ := hrel
    have HX' := Lib.hid hx
    have HL' := Lib.hid hl
    have HF' := Lib.hid hf
    clear hx hl hf
    by_cases hlt : m < Y.n
    · have hT := lead_at HX'.out hlt ((m : Int) + 1)
      rw [toV_nxt] at hT
      have HT := Lib.hid hT
      clear hT
      go_wp2_with fail
      refine HT.out.mono ?_
      rintro e w5 ⟨rfl, hx, hg⟩
      have HX5 := Lib.hid hx
      have HF5 := Lib.hid (HF'.out.trans (fr_some hg (fun _ => .inr rfl)))
      clear hx hg HT
      go_wp2
      go_roundw
      case rel => exact ⟨m + 1, _, by omega, by go_num, HX5.out, (by rw [HL'.out, ← Sl.layF_step HK.out.c hlt]; exact Sl.layF_congr (fun j _ => by simp [Nat.lt_succ_iff, Nat.le_iff_lt_or_eq] )), HF5.out⟩
      case measure => simp [intOf]; omega
    · obtain rfl : m = Y.n := by omega
      go_wp2
      go_ret
      exact ⟨rfl, ⟨p, pa, qa, pl, ql, ph, qh⟩, rfl, rfl, rfl, (by rw [HL'.out] at HX'; rw [Sl.layF_congr (Q := fun j => decide (j < Y.n)) (fun j hj => by simp [hj])]; exact HX'.out), HQQ.out.1, HQQ.out.2.1, HQQ.out.2.2.1, HQQ.out.2.2.2, HF'.out⟩
end Go.Proofs.YtgnfcklippjeeaaGreat

/- The walks of slab.Make. -/
namespace Go.Proofs.YtgnfcklippjeeaaGreat
open Go.RowKit
open Sl (Cls bs upd)

set_option maxHeartbeats 400000 in
theorem smk_nil (k : Nat) (page c o : Int) (w : World) :
    Calls Tryz.prog 86 #[.pointer none, .agg #[.int .u64 k], .int .i64 page, .int .i64 c, .int .i64 o] w fun e w' => e = .returned (.tuple #[.pointer none, .int .i64 2]) ∧ w.grownBy w' none := by
  go_enter Tryz.func86, Tryz.ntmps86
  go_wp2
  go_ret2
  exact ⟨rfl, grown_alloc _ _ _⟩
set_option maxRecDepth 100000 in
set_option maxHeartbeats 1000000 in
theorem smk_bad {w : World} {pa qa N cap : Nat} {B : Nat → Nat} {wk : Option Addr} (k : Nat) (page c o : Int) (h : An.ArAt w pa qa N cap B wk) (hb : LayBad N page c) :
    Calls Tryz.prog 86 #[.pointer (some ⟨pa, 0, none⟩), .agg #[.int .u64 k], .int .i64 page, .int .i64 c, .int .i64 o] w fun e w' => e = .returned (.tuple #[.pointer none, .int .i64 1]) ∧ w.grownBy w' none := by
  have HL := Lib.hid (fun W p (g : w.grownBy W none) c0 c2 c3 => lay_bad (p := p) (h.grown g (by simp) (by simp)) c0 c2 c3 hb)
  clear h hb
  go_enter Tryz.func86, Tryz.ntmps86
  go_upto_region 4 with (fail)
  have g1 := grown_trans (grown_alloc w (.cells #[.int .u64 k] 107) none) (grown_alloc (w.alloc (.cells #[.int .u64 k] 107)) (.cells #[.pointer (some ⟨pa, 0, none⟩), .int .u64 k, .int .i64 page, .int .i64 c, .int .i64 o, .pointer none, .pointer none, .int .i64 0] 183) none)
  have s1 : (w.alloc (.cells #[.int .u64 k] 107)).heap.size = w.heap.size + 1 := by simp
  have HC := Lib.hid (HL.out _ (w.heap.size + 1) g1 (by rw [← s1, cell_alloc_new]; rfl) (by rw [← s1, cell_alloc_new]; rfl) (by rw [← s1, cell_alloc_new]; rfl))
  have HG := Lib.hid g1
  clear HL g1 s1
  go_wp2_with fail
  refine HC.out.mono ?_
  rintro e w2 ⟨rfl, hg⟩
  have HG2 := Lib.hid (grown_trans HG.out hg)
  clear hg HC HG
  go_wp2
  go_ret2
  exact ⟨rfl, HG2.out⟩

/-- A new slab. -/
def SlMade (w w' : World) (pa qa : Nat) (Y : Nm) (B0 : Nat → Nat) (e : Ending) : Prop :=
  ∃ X : Pl, e = .returned (.tuple #[.pointer (some ⟨X.p, 0, none⟩), .int .i64 0]) ∧ X.pa = pa ∧ X.qa = qa ∧ SlAt w' X Y (fun _ => 0) 0 (Sl.layF Y.key Y.g Y.s Y.n (fun _ => true) B0) ∧ w.heap.size ≤ X.p ∧ w.heap.size ≤ X.pl ∧ w.heap.size ≤ X.ph ∧ w.heap.size ≤ X.ql ∧ w.heap.size ≤ X.qh ∧ Fr (fun i => i = qa) w w'
set_option maxRecDepth 100000 in
set_option maxHeartbeats 1000000 in
theorem smk_ok {w : World} {pa qa : Nat} {B : Nat → Nat} {Y : Nm} (h : An.ArAt w pa qa Y.N Y.acap B none) (ok : Ok Y) :
    Calls Tryz.prog 86 #[.pointer (some ⟨pa, 0, none⟩), .agg #[.int .u64 Y.key], .int .i64 Y.g, .int .i64 Y.c, .int .i64 Y.o] w fun e w' => SlMade w w' pa qa Y B e := by
  have HL := Lib.hid (fun W p (g : w.grownBy W none) hr hne => lay_ok (p := p) hr (h.grown g (by simp) (by simp)) ok hne)
  have HP := Lib.hid (And.intro h.plt h.b.qlt)
  clear h ok
  go_enter Tryz.func86, Tryz.ntmps86
  go_upto_region 4 with (fail)
  have g1 := grown_trans (grown_alloc w (.cells #[.int .u64 Y.key] 107) none) (grown_alloc (w.alloc (.cells #[.int .u64 Y.key] 107)) (.cells #[.pointer (some ⟨pa, 0, none⟩), .int .u64 Y.key, .int .i64 Y.g, .int .i64 Y.c, .int .i64 Y.o, .pointer none, .pointer none, .int .i64 0] 183) none)
  have s1 : (w.alloc (.cells #[.int .u64 Y.key] 107)).heap.size = w.heap.size + 1 := by simp
  have HC := Lib.hid (HL.out _ (w.heap.size + 1) g1
    (by constructor
        · rw [← s1, cell_alloc_new]; rfl
        · rw [← s1, cell_alloc_new]; rfl
        · rw [← s1, cell_alloc_new]; rfl
        · rw [← s1, cell_alloc_new]; rfl
        · rw [← s1, cell_alloc_new]; rfl
        · rw [← s1, cell_alloc_new]; rfl
        · rw [← s1, cell_alloc_new]; rfl
        · rw [← s1, cell_alloc_new]; rfl
        · intro k; rw [← s1]; exact frozen_alloc_new ..) (by obtain ⟨h1, h2⟩ := HP.out; omega))
  have HG := Lib.hid g1
  clear HL g1 s1
  go_wp2_with fail
  refine HC.out.mono ?_
  rintro e w2 ⟨rfl, hl⟩
  have HLS := Lib.hid hl
  clear hl HC
  go_wp2
  go_ret2
  obtain ⟨X, e1, e2, e3, hx, h3, h4, h1, h2, hf⟩ := HLS.out
  have hs := HG.out.size
  refine ⟨X, congrArg (fun x => Ending.returned (.tuple #[.pointer (some ⟨x, 0, none⟩), .int .i64 0])) e1.symm, e2, e3, hx, by omega, Nat.le_trans hs h3, Nat.le_trans hs h4, Nat.le_trans hs h1, Nat.le_trans hs h2, ?_⟩
  exact ⟨hf.os.trans HG.out.os, hf.tape.trans HG.out.tape, hf.output.trans HG.out.output, Nat.le_trans hs hf.size, fun i hi hm => (hf.block i (Nat.lt_of_lt_of_le hi hs) (by omega)).trans (HG.out.block i hi (by simp))⟩

set_option maxHeartbeats 400000 in
theorem page_nil (w : World) : Calls Tryz.prog 138 #[.pointer none] w fun e w' => e = .returned (.int .i64 0) ∧ w = w' := by
  go_enter Tryz.func138, Tryz.ntmps138
  go_wp2
  go_ret
  exact ⟨rfl, rfl⟩
set_option maxHeartbeats 400000 in
theorem class_nil (w : World) : Calls Tryz.prog 79 #[.pointer none] w fun e w' => e = .returned (.int .i64 0) ∧ w = w' := by
  go_enter Tryz.func79, Tryz.ntmps79
  go_wp2
  go_ret
  exact ⟨rfl, rfl⟩
set_option maxHeartbeats 400000 in
theorem owner_nil (w : World) : Calls Tryz.prog 91 #[.pointer none] w fun e w' => e = .returned (.int .i64 0) ∧ w = w' := by
  go_enter Tryz.func91, Tryz.ntmps91
  go_wp2
  go_ret
  exact ⟨rfl, rfl⟩
set_option maxRecDepth 100000 in
set_option maxHeartbeats 400000 in
theorem count_nil (x : Int) (w : World) : Calls Tryz.prog 70 #[.pointer none, .int .i64 x] w fun e w' => e = .returned (.int .i64 0) ∧ w = w' := by
  go_enter Tryz.func70, Tryz.ntmps70
  go_wp2_with (go_at_call 135; refine (slots_nil _).mono ?_; rintro e w' ⟨rfl, rfl⟩)
  go_loop [5, 9] (fun c i => c = .int .i64 0 ∧ i = .int .i64 0) (fun _ _ => 0)
  case atStart => exact ⟨rfl, rfl⟩
  case round =>
    obtain ⟨rfl, rfl⟩ := hrel
    go_wp2
    go_ret
    exact ⟨rfl, rfl⟩
end Go.Proofs.YtgnfcklippjeeaaGreat
