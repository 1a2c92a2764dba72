/- Merged texts: PMath PA PB PB2 PS PC PD PE PF PH PJ. -/
import Derived.Test.YtgnfcklippjeeaaGreatRows
import Derived.WalkKit
import Derived.WalkSpells
import Derived.WalkLawsBesides
import Derived.Lib.Hide
import Derived.Laws.MakeOwn
import Derived.Outline
import Derived.Deep.DeepCutAuto
import Derived.LoopTactic
import Derived.RegionTactic
import Derived.Deep.RegionWith
import Derived.Deep.RegionLaw
import Derived.Lib.SliceRun
import Derived.Laws.IdiomCopy
import Derived.IntWalk
import Derived.Deep.QuietTactic
import Derived.BigQuiet
import Derived.OwnWalk
/- Plain facts on rows of pages, of no program: what is free, stretches of free pages, what mapping and freeing leave. -/
namespace Go.Proofs.YtgnfcklippjeeaaGreat
namespace Pg

/-- A page's row: kind, class, owner, run. -/
structure Row where
  k : Int
  c : Int
  o : Int
  r : Int

def zero : Row := ⟨0, 0, 0, 0⟩
def tail : Row := ⟨3, 0, 0, 0⟩
def isZero (x : Row) : Bool := x.k == 0 && (x.c == 0 && (x.o == 0 && x.r == 0))
theorem isZero_iff (x : Row) : isZero x = true ↔ x = zero := by
  obtain ⟨a, b, c, d⟩ := x
  simp [isZero, zero]
def isHead (x : Row) : Bool := x.k == 1 || (x.k == 2 || x.k == 4)
theorem isHead_iff (x : Row) : isHead x = true ↔ (x.k = 1 ∨ x.k = 2 ∨ x.k = 4) := by simp [isHead]
theorem head_zero : isHead zero = false := rfl
theorem head_tail : isHead tail = false := rfl
theorem zero_ne_tail : zero ≠ tail := by intro h; cases h
def may (x : Row) : Bool := isHead x && (decide (1 ≤ x.r) && decide (x.r ≤ 256))
theorem may_iff (x : Row) : may x = true ↔ (isHead x = true ∧ 1 ≤ x.r ∧ x.r ≤ 256) := by simp [may]

/-- Each page is free, or a first one with its Tails behind it, or a Tail of a first one. -/
def Ok (R : Nat → Row) (n : Nat) : Prop :=
  ∀ i, i < n → R i = zero ∨ (isHead (R i) = true ∧ 1 ≤ (R i).r ∧ (R i).r ≤ 256 ∧ i + (R i).r ≤ n ∧ ∀ j, i < j → (j : Int) < i + (R i).r → R j = tail) ∨
    (R i = tail ∧ ∃ k, k < i ∧ isHead (R k) = true ∧ (i : Int) < k + (R k).r)

def lay (R : Nat → Row) (at_ : Nat) (r : Row) : Nat → Row := fun i => if i = at_ then r else if at_ < i ∧ (i : Int) < at_ + r.r then tail else R i
def clr (R : Nat → Row) (at_ m : Nat) : Nat → Row := fun i => if at_ ≤ i ∧ i < at_ + m then zero else R i

theorem ok_new (n : Nat) : Ok (fun _ => zero) n := fun _ _ => .inl rfl

theorem Ok.headr {R : Nat → Row} {n i : Nat} (h : Ok R n) (hi : i < n) (hh : isHead (R i) = true) : 1 ≤ (R i).r ∧ (R i).r ≤ 256 ∧ i + (R i).r ≤ n ∧ ∀ j, i < j → (j : Int) < i + (R i).r → R j = tail := by
  rcases h i hi with e | ⟨_, h1, h2, h3, h4⟩ | ⟨e, _⟩
  · rw [e, head_zero] at hh; cases hh
  · exact ⟨h1, h2, h3, h4⟩
  · rw [e, head_tail] at hh; cases hh

theorem ok_lay {R : Nat → Row} {n at_ : Nat} {r : Row} (h : Ok R n) (hr : may r = true) (hn : at_ + r.r ≤ n) (hz : ∀ i : Nat, at_ ≤ i → (i : Int) < at_ + r.r → R i = zero) : Ok (lay R at_ r) n := by
  obtain ⟨hh, h1, h256⟩ := (may_iff r).1 hr
  intro i hi
  by_cases e : i = at_
  · subst e
    refine .inr (.inl ?_)
    have e0 : lay R i r i = r := by simp [lay]
    rw [e0]
    refine ⟨hh, h1, h256, hn, fun j h3 h4 => ?_⟩
    simp only [lay]
    rw [if_neg (by omega), if_pos ⟨h3, h4⟩]
  · by_cases hin : at_ < i ∧ (i : Int) < at_ + r.r
    · refine .inr (.inr ⟨?_, at_, hin.1, ?_, ?_⟩)
      · simp only [lay]; rw [if_neg e, if_pos hin]
      · simp only [lay, if_true]; exact hh
      · simp only [lay, if_true]; exact hin.2
    · have ei : lay R at_ r i = R i := by simp only [lay]; rw [if_neg e, if_neg hin]
      rcases h i hi with e1 | ⟨g0, g1, g2, g3, g4⟩ | ⟨e1, k, g1, g2, g3⟩
      · exact .inl (ei.trans e1)
      · refine .inr (.inl ?_)
        rw [ei]
        refine ⟨g0, g1, g2, g3, fun j h3 h4 => ?_⟩
        have t := g4 j h3 h4
        have nj : ¬ (at_ ≤ j ∧ (j : Int) < at_ + r.r) := fun x => zero_ne_tail ((hz j x.1 x.2).symm.trans t)
        simp only [lay]
        rw [if_neg (by omega), if_neg (by omega)]
        exact t
      · refine .inr (.inr ⟨ei.trans e1, k, g1, ?_, ?_⟩)
        all_goals
          have nk : ¬ (at_ ≤ k ∧ (k : Int) < at_ + r.r) := fun x => by
            have := hz k x.1 x.2
            rw [this, head_zero] at g2
            cases g2
          have ek : lay R at_ r k = R k := by
            simp only [lay]
            rw [if_neg (by omega), if_neg (by omega)]
          rw [ek]
          assumption

theorem ok_clr {R : Nat → Row} {n at_ : Nat} (h : Ok R n) (hat : at_ < n) (hh : isHead (R at_) = true) : Ok (clr R at_ (R at_).r.toNat) n := by
  obtain ⟨a1, a2, a3, a4⟩ := h.headr hat hh
  intro i hi
  by_cases hin : at_ ≤ i ∧ i < at_ + (R at_).r.toNat
  · exact .inl (by simp only [clr]; rw [if_pos hin])
  · have ei : clr R at_ (R at_).r.toNat i = R i := by simp only [clr]; rw [if_neg hin]
    rcases h i hi with e1 | ⟨g0, g1, g2, g3, g4⟩ | ⟨e1, k, g1, g2, g3⟩
    · exact .inl (ei.trans e1)
    · refine .inr (.inl ?_)
      rw [ei]
      refine ⟨g0, g1, g2, g3, fun j h3 h4 => ?_⟩
      have t := g4 j h3 h4
      have nj : ¬ (at_ ≤ j ∧ j < at_ + (R at_).r.toNat) := fun x => by
        by_cases h5 : at_ = j
        · subst h5; rw [t, head_tail] at hh; cases hh
        · by_cases h6 : i < at_
          · have := g4 at_ h6 (by omega)
            rw [this, head_tail] at hh; cases hh
          · have : R i = tail := a4 i (by omega) (by omega)
            rw [this, head_tail] at g0; cases g0
      simp only [clr]
      rw [if_neg nj]
      exact t
    · refine .inr (.inr ⟨ei.trans e1, k, g1, ?_, ?_⟩)
      all_goals
        have hk : k ≠ at_ := fun x => by subst x; exact hin ⟨by omega, by omega⟩
        have nk : ¬ (at_ ≤ k ∧ k < at_ + (R at_).r.toNat) := fun x => by
          have := a4 k (by omega) (by omega)
          rw [this, head_tail] at g2; cases g2
        have ek : clr R at_ (R at_).r.toNat k = R k := by simp only [clr]; rw [if_neg nk]
        rw [ek]
        assumption

/-- The first page that a page belongs to. -/
theorem owner {R : Nat → Row} {n i : Nat} (h : Ok R n) (hi : i < n) (hz : isZero (R i) = false) : ∃ k, k ≤ i ∧ isHead (R k) = true ∧ (i : Int) < k + (R k).r ∧ ∀ j, k < j → j ≤ i → isHead (R j) = false := by
  rcases h i hi with e | ⟨h0, h1, h2, h3, h4⟩ | ⟨e, k, h1, h2, h3⟩
  · rw [(isZero_iff _).2 e] at hz; cases hz
  · exact ⟨i, Nat.le_refl _, h0, by omega, fun j a b => by omega⟩
  · obtain ⟨_, _, _, g⟩ := h.headr (by omega) h2
    refine ⟨k, by omega, h2, h3, fun j a b => ?_⟩
    rw [g j a (by omega), head_tail]
theorem owner_uniq {R : Nat → Row} {n i k j : Nat} (h : Ok R n) (hi : i < n) (hk : k ≤ i) (hkh : isHead (R k) = true) (hki : (i : Int) < k + (R k).r) (hj : j ≤ i) (hjh : isHead (R j) = true) (hji : (i : Int) < j + (R j).r) : k = j := by
  obtain ⟨_, _, _, g1⟩ := h.headr (by omega) hkh
  obtain ⟨_, _, _, g2⟩ := h.headr (by omega) hjh
  rcases Nat.lt_trichotomy k j with a | a | a
  · have := g1 j a (by omega); rw [this, head_tail] at hjh; cases hjh
  · exact a
  · have := g2 k a (by omega); rw [this, head_tail] at hkh; cases hkh
theorem owner_zero {R : Nat → Row} {n i k : Nat} (h : Ok R n) (hi : i < n) (hz : isZero (R i) = true) (hk : k ≤ i) (hkh : isHead (R k) = true) (hki : (i : Int) < k + (R k).r) : False := by
  have e := (isZero_iff _).1 hz
  obtain ⟨_, _, _, g⟩ := h.headr (by omega) hkh
  by_cases a : k = i
  · subst a; rw [e, head_zero] at hkh; cases hkh
  · have := g i (by omega) hki
    rw [e] at this
    exact zero_ne_tail this

/-- A stretch of m from k on. -/
def Run (F : Nat → Prop) (k m : Nat) : Prop := ∀ i, k ≤ i → i < k + m → F i
/-- What a search for the longest stretch knows behind place e. -/
structure Str (F : Nat → Prop) (first e at_ most cur : Nat) : Prop where
  lo : first + cur ≤ e
  run : ∀ i, e - cur ≤ i → i < e → F i
  edge : first + cur = e ∨ ¬ F (e - cur - 1)
  best : 0 < most → Run F at_ most ∧ at_ + most ≤ e ∧ first ≤ at_
  max : ∀ k m, first ≤ k → 1 ≤ m → k + m ≤ e → Run F k m → m ≤ most
  fst : ∀ k, first ≤ k → 0 < most → k + most ≤ e → Run F k most → at_ ≤ k
  le : cur ≤ most

theorem str_new (F : Nat → Prop) (first : Nat) : Str F first first 0 0 0 :=
  ⟨by omega, fun i a b => by omega, .inl rfl, fun h => absurd h (by omega), fun k m a b c => by omega, fun k a b => by omega, Nat.le_refl _⟩

theorem str_ends {F : Nat → Prop} {first e at_ most cur : Nat} (h : Str F first e at_ most cur) {k m : Nat} (hk : first ≤ k) (_hm : 1 ≤ m) (he : k + m = e + 1) (hr : Run F k m) : m ≤ cur + 1 := by
  rcases h.edge with a | a
  · omega
  · by_cases hm2 : m ≤ cur + 1
    · exact hm2
    · exact absurd (hr (e - cur - 1) (by omega) (by omega)) a

theorem str_more {F : Nat → Prop} {first e at_ most cur : Nat} (h : Str F first e at_ most cur) (hF : F e) (hgt : most < cur + 1) : Str F first (e + 1) (e - cur) (cur + 1) (cur + 1) := by
  have hlo := h.lo
  have run' : ∀ i, e - cur ≤ i → i < e + 1 → F i := fun i a b => by
    by_cases c : i = e
    · exact c ▸ hF
    · exact h.run i a (by omega)
  refine ⟨by omega, fun i a b => run' i (by omega) b, ?_, fun _ => ⟨fun i a b => run' i a (by omega), by omega, by omega⟩, fun k m a b c d => ?_, fun k a b c d => ?_, Nat.le_refl _⟩
  · rcases h.edge with a | a
    · exact .inl (by omega)
    · exact .inr (by rw [show e + 1 - (cur + 1) - 1 = e - cur - 1 by omega]; exact a)
  · by_cases x : k + m ≤ e
    · have := h.max k m a b x d
      omega
    · exact str_ends h a b (by omega) d
  · by_cases x : k + (cur + 1) ≤ e
    · have := h.max k (cur + 1) a (by omega) x d
      omega
    · omega
theorem str_same {F : Nat → Prop} {first e at_ most cur : Nat} (h : Str F first e at_ most cur) (hF : F e) (hgt : ¬ most < cur + 1) : Str F first (e + 1) at_ most (cur + 1) := by
  have hlo := h.lo
  refine ⟨by omega, fun i a b => ?_, ?_, fun x => ?_, fun k m a b c d => ?_, fun k a b c d => ?_, by omega⟩
  · by_cases c : i = e
    · exact c ▸ hF
    · exact h.run i (by omega) (by omega)
  · rcases h.edge with a | a
    · exact .inl (by omega)
    · exact .inr (by rw [show e + 1 - (cur + 1) - 1 = e - cur - 1 by omega]; exact a)
  · obtain ⟨p, q, r⟩ := h.best x
    exact ⟨p, by omega, r⟩
  · by_cases x : k + m ≤ e
    · exact h.max k m a b x d
    · have := str_ends h a b (by omega) d
      omega
  · by_cases x : k + most ≤ e
    · exact h.fst k a b x d
    · obtain ⟨_, q, _⟩ := h.best b
      by_cases y : at_ ≤ k
      · exact y
      · omega
theorem str_none {F : Nat → Prop} {first e at_ most cur : Nat} (h : Str F first e at_ most cur) (hF : ¬ F e) : Str F first (e + 1) at_ most 0 := by
  have hlo := h.lo
  refine ⟨by omega, fun i a b => by omega, .inr (by simpa using hF), fun x => ?_, fun k m a b c d => ?_, fun k a b c d => ?_, Nat.zero_le _⟩
  · obtain ⟨p, q, r⟩ := h.best x
    exact ⟨p, by omega, r⟩
  · by_cases x : k + m ≤ e
    · exact h.max k m a b x d
    · exact absurd (d e (by omega) (by omega)) hF
  · by_cases x : k + most ≤ e
    · exact h.fst k a b x d
    · exact absurd (d e (by omega) (by omega)) hF

/-- What a stretch is of: free pages from lo up to but not hi. -/
def Fr (R : Nat → Row) (n : Nat) (lo hi : Int) (i : Nat) : Prop := i < n ∧ lo ≤ i ∧ (i : Int) < hi ∧ isZero (R i) = true

/-- What a search found: the longest stretch, or the first one of so many as are enough. -/
structure Found (F : Nat → Prop) (enough at_ most : Nat) : Prop where
  le : most ≤ enough
  best : 0 < most → Run F at_ most ∧ ∀ k, Run F k most → at_ ≤ k
  max : most < enough → ∀ k m, 1 ≤ m → Run F k m → m ≤ most

/-- The loop's end: all pages of the part were seen, or there were enough. -/
theorem str_found {F : Nat → Prop} {first e at_ most cur enough last : Nat} (h : Str F first e at_ most cur) (he : e = last ∨ most = enough) (hle : most ≤ enough) (hlo : ∀ i, F i → first ≤ i) (hhi : ∀ i, F i → i < last) (_hel : e ≤ last) : Found F enough at_ most := by
  refine ⟨hle, fun x => ⟨(h.best x).1, fun k hk => ?_⟩, fun x k m a b => ?_⟩
  · have h1 := hlo k (hk k (Nat.le_refl _) (by omega))
    by_cases y : k + most ≤ e
    · exact h.fst k h1 x y hk
    · obtain ⟨_, q, _⟩ := h.best x
      omega
  · have h1 := hlo k (b k (Nat.le_refl _) (by omega))
    have h2 := hhi (k + m - 1) (b (k + m - 1) (by omega) (by omega))
    rcases he with rfl | rfl
    · exact h.max k m h1 a (by omega) b
    · omega

/-- The first place of so many free ones, -1: none. -/
def Place (F : Nat → Prop) (m : Nat) (x : Int) : Prop := (∃ k : Nat, x = k ∧ Run F k m ∧ ∀ j, j < k → ¬ Run F j m) ∨ (x = -1 ∧ ∀ k, ¬ Run F k m)
theorem place_uniq {F : Nat → Prop} {m : Nat} {x y : Int} (h : Place F m x) (g : Place F m y) : x = y := by
  rcases h with ⟨k, rfl, a, b⟩ | ⟨rfl, a⟩
  · rcases g with ⟨j, rfl, c, d⟩ | ⟨rfl, c⟩
    · rcases Nat.lt_trichotomy k j with e | e | e
      · exact absurd a (d k e)
      · rw [e]
      · exact absurd c (b j e)
    · exact absurd a (c k)
  · rcases g with ⟨j, rfl, c, d⟩ | ⟨rfl, c⟩
    · exact absurd c (a j)
    · rfl
theorem found_place {F : Nat → Prop} {enough at_ : Nat} (h : Found F enough at_ enough) (h1 : 1 ≤ enough) : Place F enough at_ :=
  .inl ⟨at_, rfl, (h.best h1).1, fun j hj hr => by have := (h.best h1).2 j hr; omega⟩
theorem found_none {F : Nat → Prop} {enough at_ most : Nat} (h : Found F enough at_ most) (h1 : most < enough) : Place F enough (-1) :=
  .inr ⟨rfl, fun k hr => by have := h.max h1 k enough (by omega) hr; omega⟩

/-- The greatest m of which there is a stretch (0: none). -/
def Longest (F : Nat → Prop) (m : Nat) : Prop := (0 < m → ∃ k, Run F k m) ∧ ∀ k, ¬ Run F k (m + 1)
theorem run_less {F : Nat → Prop} {k m m' : Nat} (h : Run F k m) (hm : m' ≤ m) : Run F k m' := fun i a b => h i a (by omega)
theorem longest_uniq {F : Nat → Prop} {m m' : Nat} (h : Longest F m) (g : Longest F m') : m = m' := by
  rcases Nat.lt_trichotomy m m' with a | a | a
  · obtain ⟨k, hk⟩ := g.1 (by omega)
    exact absurd (run_less hk (by omega)) (h.2 k)
  · exact a
  · obtain ⟨k, hk⟩ := h.1 (by omega)
    exact absurd (run_less hk (by omega)) (g.2 k)
theorem found_longest {F : Nat → Prop} {enough at_ most n : Nat} (h : Found F enough at_ most) (hF : ∀ i, F i → i < n) (hn : n ≤ enough) : Longest F most := by
  refine ⟨fun x => ⟨at_, (h.best x).1⟩, fun k hr => ?_⟩
  by_cases x : most < enough
  · have := h.max x k (most + 1) (by omega) hr
    omega
  · have := hF (k + most) (hr _ (by omega) (by omega))
    have := h.le
    omega
theorem longest_le {F : Nat → Prop} {m n : Nat} (h : Longest F m) (hF : ∀ i, F i → i < n) : m ≤ n := by
  by_cases x : 0 < m
  · obtain ⟨k, hk⟩ := h.1 x
    have := hF (k + m - 1) (hk _ (by omega) (by omega))
    omega
  · omega

/-- How many of the first e pages, from lo up to but not hi, are of a kind. -/
def cnt (R : Nat → Row) (lo hi kind : Int) : Nat → Nat
  | 0 => 0
  | e + 1 => cnt R lo hi kind e + if lo ≤ e ∧ (e : Int) < hi ∧ (R e).k = kind then 1 else 0
theorem cnt_le (R : Nat → Row) (lo hi kind : Int) : ∀ e, cnt R lo hi kind e ≤ e
  | 0 => Nat.le_refl _
  | e + 1 => by have := cnt_le R lo hi kind e; simp only [cnt]; split <;> omega
theorem cnt_lo (R : Nat → Row) (lo hi kind : Int) : ∀ e : Nat, (e : Int) ≤ lo → cnt R lo hi kind e = 0
  | 0, _ => rfl
  | e + 1, h => by simp only [cnt]; rw [cnt_lo R lo hi kind e (by omega), if_neg (by omega)]
theorem cnt_hi (R : Nat → Row) (lo hi kind : Int) (e : Nat) (he : hi ≤ e) : ∀ d, cnt R lo hi kind (e + d) = cnt R lo hi kind e
  | 0 => rfl
  | d + 1 => by
    show cnt R lo hi kind (e + d + 1) = _
    simp only [cnt]
    rw [cnt_hi R lo hi kind e he d, if_neg (by omega)]
    omega

/-- The runs of the first pages among the first e ones, together. -/
def runs (R : Nat → Row) : Nat → Int
  | 0 => 0
  | e + 1 => runs R e + if isHead (R e) = true then (R e).r else 0
theorem runs_cov {R : Nat → Row} {n : Nat} (h : Ok R n) : ∀ e, e ≤ n → ∃ ov : Nat, runs R e + cnt R 0 n 0 e = e + ov ∧ e + ov ≤ n ∧ (∀ i, e ≤ i → i < e + ov → R i = tail) ∧ (e + ov < n → R (e + ov) ≠ tail)
  | 0, _ => by
    refine ⟨0, by simp [runs, cnt], by omega, fun i a b => by omega, fun hn e => ?_⟩
    rcases h 0 (by omega) with g | ⟨g, _⟩ | ⟨_, k, g, _⟩
    · rw [g] at e; exact zero_ne_tail e
    · rw [e, head_tail] at g; cases g
    · omega
  | e + 1, he => by
    obtain ⟨ov, h1, h2, h3, h4⟩ := runs_cov h e (by omega)
    rcases h e (by omega) with g | ⟨g0, g1, g2, g3, g4⟩ | ⟨g, k, k1, k2, k3⟩
    · have hov : ov = 0 := by
        by_cases x : ov = 0
        · exact x
        · have := h3 e (by omega) (by omega)
          rw [g] at this
          exact absurd this zero_ne_tail
      subst hov
      refine ⟨0, ?_, by omega, fun i a b => by omega, fun hn e1 => ?_⟩
      · simp only [runs, cnt]
        rw [g, if_neg (by simp [head_zero]), if_pos ⟨by omega, by omega, rfl⟩]
        omega
      · rcases h (e + 1) (by omega) with q | ⟨q, _⟩ | ⟨_, k, q, q2, q3⟩
        · rw [Nat.add_zero, q] at e1; exact zero_ne_tail e1
        · rw [Nat.add_zero] at e1; rw [e1, head_tail] at q; cases q
        · by_cases x : k = e
          · subst x; rw [g, head_zero] at q2; cases q2
          · obtain ⟨_, _, _, t⟩ := h.headr (by omega) q2
            have := t e (by omega) (by omega)
            rw [g] at this
            exact zero_ne_tail this
    · have hov : ov = 0 := by
        by_cases x : ov = 0
        · exact x
        · have := h3 e (by omega) (by omega)
          rw [this, head_tail] at g0
          cases g0
      subst hov
      have hk0 : (R e).k ≠ 0 := by
        rcases (isHead_iff _).1 g0 with x | x | x <;> omega
      refine ⟨(R e).r.toNat - 1, ?_, by omega, fun i a b => g4 i (by omega) (by omega), fun hn e1 => ?_⟩
      · simp only [runs, cnt]
        rw [if_pos g0, if_neg (fun x => hk0 x.2.2)]
        omega
      · rcases h (e + 1 + ((R e).r.toNat - 1)) hn with q | ⟨q, _⟩ | ⟨_, k, q, q2, q3⟩
        · rw [q] at e1; exact zero_ne_tail e1
        · rw [e1, head_tail] at q; cases q
        · obtain ⟨_, _, _, t⟩ := h.headr (by omega) q2
          rcases Nat.lt_trichotomy k e with x | x | x
          · have := t e x (by omega)
            rw [this, head_tail] at g0; cases g0
          · subst x; omega
          · by_cases y : k < e + 1 + ((R e).r.toNat - 1)
            · have := g4 k x (by omega)
              rw [this, head_tail] at q2; cases q2
            · omega
    · have hov : 0 < ov := by
        by_cases x : 0 < ov
        · exact x
        · have e0 : ov = 0 := by omega
          subst e0
          exact absurd g (h4 (by omega))
      refine ⟨ov - 1, ?_, by omega, fun i a b => h3 i (by omega) (by omega), fun hn => ?_⟩
      · simp only [runs, cnt]
        rw [g, if_neg (by simp [head_tail]), if_neg (by simp [tail])]
        omega
      · have e1 : e + 1 + (ov - 1) = e + ov := by omega
        rw [e1]
        exact h4 (by omega)
theorem runs_all {R : Nat → Row} {n : Nat} (h : Ok R n) : runs R n + cnt R 0 n 0 n = n := by
  obtain ⟨ov, h1, h2, _, _⟩ := runs_cov h n (Nat.le_refl _)
  omega
end Pg
end Go.Proofs.YtgnfcklippjeeaaGreat

/- The walks of what reads a table of pages: Len, Row, heads, part, stretch. -/
namespace Go.Proofs.YtgnfcklippjeeaaGreat.Pt
open Go.RowKit

theorem ret_int {k : IntKind} {a b : Int} (h : a = b) : Ending.returned (.int k a) = .returned (.int k b) := by rw [h]
theorem ret_bool {a b : Bool} (h : a = b) : Ending.returned (.bool a) = .returned (.bool b) := by rw [h]

theorem grown_refl (w : World) (r : Option Nat) : w.grownBy w r := ⟨rfl, rfl, rfl, Nat.le_refl _, fun _ _ _ => rfl⟩
theorem grown_trans {a b c : World} {r : Option Nat} (h : a.grownBy b r) (k : b.grownBy c r) : a.grownBy c r :=
  ⟨k.os.trans h.os, k.tape.trans h.tape, k.output.trans h.output, Nat.le_trans h.size k.size, fun i hi hr => (k.block i (Nat.lt_of_lt_of_le hi h.size) hr).trans (h.block i hi hr)⟩
theorem grown_own {a b c : World} {r : Option Nat} {q : Nat} (h : a.grownBy b r) (k : b.grownBy c (some q)) (hq : a.heap.size ≤ q) : a.grownBy c r :=
  ⟨k.os.trans h.os, k.tape.trans h.tape, k.output.trans h.output, Nat.le_trans h.size k.size, fun i hi hr => (k.block i (Nat.lt_of_lt_of_le hi h.size) (fun e => by injection e; omega)).trans (h.block i hi hr)⟩
theorem grown_none {a b : World} {r : Option Nat} (h : a.grownBy b none) : a.grownBy b r := ⟨h.os, h.tape, h.output, h.size, fun i hi _ => h.block i hi (by simp)⟩
theorem grown_below {a b : World} (h : a.grownBy b none) : Below a.heap.size a b := ⟨h.os, h.tape, h.output, h.size, fun i hi => h.block i hi (by simp)⟩
theorem grown_of_below {a b : World} (h : Below a.heap.size a b) : a.grownBy b none := ⟨h.os, h.tape, h.output, h.size, fun i hi _ => h.block i hi⟩
theorem grown_drew {a b : World} {r : Option Nat} (h : a.grownBy b r) (d : Nat) : a.grownBy (b.drewN d) r := ⟨h.os, h.tape, h.output, h.size, h.block⟩
theorem grown_drewN {a b : World} {d : Nat} {r : Option Nat} (h : (a.drewN d).grownBy b r) : a.grownBy b r := ⟨h.os, h.tape, h.output, h.size, h.block⟩
theorem grown_alloc (w : World) (o : Obj) (r : Option Nat) : w.grownBy (w.alloc o) r := World.grownBy_alloc _ _ _
theorem cell_alloc_new (w : World) (cs : Array Value) (t : TypeId) (k : Nat) : (w.alloc (.cells cs t)).cell? ⟨w.heap.size, k, none⟩ = cs[k]? := by
  have h : (w.alloc (.cells cs t)).heap[w.heap.size]? = some (.cells cs t) := heap_alloc_new w _
  simp only [World.cell?, h]
  rfl
theorem frozen_alloc_new (w : World) (cs : Array Value) (t : TypeId) (k : Nat) : (w.alloc (.cells cs t)).frozen? ⟨w.heap.size, k, none⟩ = false := by
  have h : (w.alloc (.cells cs t)).heap[w.heap.size]? = some (.cells cs t) := heap_alloc_new w _
  simp only [World.frozen?, h]
  simp

theorem new_cell {w w1 : World} {cs : Array Value} {t : TypeId} {r : Option Nat} (hg : (w.alloc (.cells cs t)).grownBy w1 r) (hr : some w.heap.size ≠ r) (k : Nat) {v : Value} (hk : cs[k]? = some v) : w1.cell? ⟨w.heap.size, k, none⟩ = some v :=
  hg.cell (by rw [cell_alloc_new]; exact hk) hr

/-- A row as a value. -/
def rv (x : Pg.Row) : Value := .agg #[.int .i64 x.k, .int .i64 x.c, .int .i64 x.o, .int .i64 x.r]

/-- Rows in block q. -/
structure RowsAt (w : World) (q n : Nat) (R : Nat → Pg.Row) : Prop where
  c0 : ∀ i, i < n → w.cell? ⟨q, i * 4, none⟩ = some (.int .i64 (R i).k)
  c1 : ∀ i, i < n → w.cell? ⟨q, i * 4 + 1, none⟩ = some (.int .i64 (R i).c)
  c2 : ∀ i, i < n → w.cell? ⟨q, i * 4 + 2, none⟩ = some (.int .i64 (R i).o)
  c3 : ∀ i, i < n → w.cell? ⟨q, i * 4 + 3, none⟩ = some (.int .i64 (R i).r)
  fz : ∀ k, w.frozen? ⟨q, k, none⟩ = false
  qlt : q < w.heap.size

theorem RowsAt.grown {w w' : World} {q n : Nat} {R : Nat → Pg.Row} {r : Option Nat} (h : RowsAt w q n R) (hg : w.grownBy w' r) (hr : some q ≠ r) : RowsAt w' q n R where
  c0 := fun i hi => hg.cell (h.c0 i hi) hr
  c1 := fun i hi => hg.cell (h.c1 i hi) hr
  c2 := fun i hi => hg.cell (h.c2 i hi) hr
  c3 := fun i hi => hg.cell (h.c3 i hi) hr
  fz := fun k => by rw [World.frozen?_of_block (w := w) (hg.block q h.qlt hr)]; exact h.fz k
  qlt := Nat.lt_of_lt_of_le h.qlt hg.size

theorem RowsAt.drew {w : World} {q n : Nat} {R : Nat → Pg.Row} (h : RowsAt w q n R) : RowsAt w.drew q n R := ⟨h.c0, h.c1, h.c2, h.c3, h.fz, h.qlt⟩
theorem grown_drew1 {a b : World} {r : Option Nat} (h : a.grownBy b r) : a.grownBy b.drew r := ⟨h.os, h.tape, h.output, h.size, h.block⟩

/-- A table of n pages: the object at block p, its rows at block q. -/
structure TabAt (w : World) (p q n cap : Nat) (R : Nat → Pg.Row) : Prop where
  c : w.cell? ⟨p, 0, none⟩ = some (.slice (some ⟨q, 0, none⟩) n cap)
  rows : RowsAt w q n R
  ne : p ≠ q
  hcap : n ≤ cap
  small : n ≤ 256
  ok : Pg.Ok R n

theorem TabAt.plt {w : World} {p q n cap : Nat} {R : Nat → Pg.Row} (h : TabAt w p q n cap R) : p < w.heap.size := World.block_lt_of_cell? w ⟨p, 0, none⟩ h.c
theorem TabAt.grown {w w' : World} {p q n cap : Nat} {R : Nat → Pg.Row} {r : Option Nat} (h : TabAt w p q n cap R) (hg : w.grownBy w' r) (hp : some p ≠ r) (hq : some q ≠ r) : TabAt w' p q n cap R where
  c := hg.cell h.c hp
  rows := h.rows.grown hg hq
  ne := h.ne
  hcap := h.hcap
  small := h.small
  ok := h.ok

set_option maxHeartbeats 400000 in
theorem plen_nil (w : World) :
    Calls Tryz.prog 26 #[.pointer none] w fun e w' => e = .returned (.int .i64 0) ∧ w = w' := by
  go_enter Tryz.func26, Tryz.ntmps26
  go_wp2
  go_ret
  exact ⟨rfl, rfl⟩
set_option maxHeartbeats 400000 in
theorem plen_core (p q n cap : Nat) (w : World) (h0 : w.cell? ⟨p, 0, none⟩ = some (.slice (some ⟨q, 0, none⟩) n cap)) :
    Calls Tryz.prog 26 #[.pointer (some ⟨p, 0, none⟩)] w fun e w' => e = .returned (.int .i64 n) ∧ w = w' := by
  go_enter Tryz.func26, Tryz.ntmps26
  go_wp2
  go_ret
  exact ⟨rfl, rfl⟩
theorem plen_at {w : World} {p q n cap : Nat} {R : Nat → Pg.Row} (h : TabAt w p q n cap R) :
    Calls Tryz.prog 26 #[.pointer (some ⟨p, 0, none⟩)] w fun e w' => e = .returned (.int .i64 n) ∧ w = w' := plen_core p q n cap w h.c

set_option maxHeartbeats 400000 in
theorem heads_at (x : Pg.Row) (w : World) :
    Calls Tryz.prog 132 #[rv x] w fun e w' => e = .returned (.bool (Pg.isHead x)) ∧ w.grownBy w' none := by
  obtain ⟨a, b, c, d⟩ := x
  obtain ⟨h, hh⟩ : ∃ h, h = Pg.isHead ⟨a, b, c, d⟩ := ⟨_, rfl⟩
  rw [← hh]
  have HH := Lib.hid hh
  clear hh
  show Calls Tryz.prog 132 #[.agg #[.int .i64 a, .int .i64 b, .int .i64 c, .int .i64 d]] w _
  by_cases h1 : a = 1
  · subst h1
    go_enter Tryz.func132, Tryz.ntmps132
    go_wp2
    go_ret
    exact ⟨ret_bool (by rw [HH.out]; rfl), grown_alloc _ _ _⟩
  · by_cases h2 : a = 2
    · subst h2
      go_enter Tryz.func132, Tryz.ntmps132
      go_wp2
      go_ret
      exact ⟨ret_bool (by rw [HH.out]; rfl), grown_alloc _ _ _⟩
    · have n1 : (a == 1) = false := by simpa using h1
      have n2 : (a == 2) = false := by simpa using h2
      have n4 : (a == 4) = h := by rw [HH.out]; simp [Pg.isHead, n1, n2]
      clear HH
      go_enter Tryz.func132, Tryz.ntmps132
      go_wp2
      go_ret
      exact ⟨rfl, grown_alloc _ _ _⟩

/-- That page's row; noughts, if there is none. -/
def getR (R : Nat → Pg.Row) (n : Nat) (i : Int) : Pg.Row := if 0 ≤ i ∧ i < n then R i.toNat else Pg.zero
theorem getR_out {R : Nat → Pg.Row} {n : Nat} {i : Int} (h : ¬ (0 ≤ i ∧ i < n)) : getR R n i = Pg.zero := if_neg h
theorem getR_in {R : Nat → Pg.Row} {n i : Nat} (h : i < n) : getR R n i = R i := by unfold getR; rw [if_pos ⟨by omega, by omega⟩]; rfl

set_option maxHeartbeats 400000 in
theorem prow_neg (v : Value) (i : Int) (w : World) (hi : i < 0) :
    Calls Tryz.prog 34 #[v, .int .i64 i] w fun e w' => e = .returned (rv Pg.zero) ∧ w.grownBy w' none := by
  go_enter Tryz.func34, Tryz.ntmps34
  go_wp2
  exact bodyPost_ret (v := rv Pg.zero) (by simp [results, Tryz.results34, go_sem, rv, Pg.zero]) rfl ⟨rfl, grown_alloc _ _ _⟩
set_option maxHeartbeats 400000 in
theorem prow_out (v : Value) (i n : Int) (w : World) (hi : 0 ≤ i) (hn : n ≤ i)
    (hl : ∀ W, w.grownBy W none → Calls Tryz.prog 26 #[v] W fun e w' => e = .returned (.int .i64 n) ∧ W = w') :
    Calls Tryz.prog 34 #[v, .int .i64 i] w fun e w' => e = .returned (rv Pg.zero) ∧ w.grownBy w' none := by
  have HL := Lib.hid hl
  clear hl
  go_enter Tryz.func34, Tryz.ntmps34
  go_wp2_with (go_at_call 26; refine (HL.out _ (grown_alloc _ _ _)).mono ?_; rintro e w' ⟨rfl, rfl⟩)
  exact bodyPost_ret (v := rv Pg.zero) (by simp [results, Tryz.results34, go_sem, rv, Pg.zero]) rfl ⟨rfl, grown_alloc _ _ _⟩
set_option maxHeartbeats 400000 in
theorem prow_core (p q n cap i : Nat) (a b c d : Int) (w : World) (hi : i < n) (h0 : w.cell? ⟨p, 0, none⟩ = some (.slice (some ⟨q, 0, none⟩) n cap))
    (c0 : w.cell? ⟨q, i * 4, none⟩ = some (.int .i64 a)) (c1 : w.cell? ⟨q, i * 4 + 1, none⟩ = some (.int .i64 b)) (c2 : w.cell? ⟨q, i * 4 + 2, none⟩ = some (.int .i64 c)) (c3 : w.cell? ⟨q, i * 4 + 3, none⟩ = some (.int .i64 d)) :
    Calls Tryz.prog 34 #[.pointer (some ⟨p, 0, none⟩), .int .i64 i] w fun e w' => e = .returned (.agg #[.int .i64 a, .int .i64 b, .int .i64 c, .int .i64 d]) ∧ w.grownBy w' none := by
  have hd : (i : Int) < n := by omega
  have g := grown_alloc w (.cells #[.int .i64 0, .int .i64 0, .int .i64 0, .int .i64 0] 75) none
  have e0 := g.cell h0 (by simp)
  have e1 := g.cell c0 (by simp)
  have e2 := g.cell c1 (by simp)
  have e3 := g.cell c2 (by simp)
  have e4 := g.cell c3 (by simp)
  clear h0 c0 c1 c2 c3
  go_enter Tryz.func34, Tryz.ntmps34
  clear g
  go_wp2_with (go_at_call 26; refine (plen_core p q n cap _ e0).mono ?_; rintro e w' ⟨rfl, rfl⟩)
  exact bodyPost_ret (v := .agg #[.int .i64 a, .int .i64 b, .int .i64 c, .int .i64 d]) (by simp [results, Tryz.results34, go_sem]) rfl ⟨rfl, grown_alloc _ _ _⟩
theorem prow_nil (i : Int) (w : World) :
    Calls Tryz.prog 34 #[.pointer none, .int .i64 i] w fun e w' => e = .returned (rv Pg.zero) ∧ w.grownBy w' none := by
  by_cases h : i < 0
  · exact prow_neg _ i w h
  · exact prow_out _ i 0 w (by omega) (by omega) (fun W _ => plen_nil W)
end Go.Proofs.YtgnfcklippjeeaaGreat.Pt

/- The walks of a table's part, stretch, Longest, Count. -/
namespace Go.Proofs.YtgnfcklippjeeaaGreat.Pt
open Go.RowKit

theorem prow_at {w : World} {p q n cap : Nat} {R : Nat → Pg.Row} (h : TabAt w p q n cap R) (i : Int) :
    Calls Tryz.prog 34 #[.pointer (some ⟨p, 0, none⟩), .int .i64 i] w fun e w' => e = .returned (rv (getR R n i)) ∧ w.grownBy w' none := by
  by_cases h0 : i < 0
  · rw [getR_out (by omega)]; exact prow_neg _ i w h0
  · by_cases h1 : (n : Int) ≤ i
    · rw [getR_out (by omega)]
      exact prow_out _ i n w (by omega) h1 (fun W g => plen_at (h.grown g (by simp) (by simp)))
    · obtain ⟨k, rfl⟩ : ∃ k : Nat, i = k := ⟨i.toNat, by omega⟩
      have hk : k < n := by omega
      rw [getR_in hk]
      exact prow_core p q n cap k _ _ _ _ w hk h.c (h.rows.c0 k hk) (h.rows.c1 k hk) (h.rows.c2 k hk) (h.rows.c3 k hk)

/-- L, M: where a part begins and ends. -/
def Part (n : Nat) (lo hi L M : Int) : Prop := ((lo < 0 ∧ L = 0) ∨ (0 ≤ lo ∧ L = lo)) ∧ ((hi ≤ n ∧ M = hi) ∨ (n < hi ∧ M = n))
theorem part_ex (n : Nat) (lo hi : Int) : ∃ L M, Part n lo hi L M := by
  refine ⟨if lo < 0 then 0 else lo, if hi ≤ n then hi else n, ?_, ?_⟩ <;> split <;> omega
theorem vint {a b : Int} (h : a = b) : Value.int .i64 a = .int .i64 b := by rw [h]

set_option maxHeartbeats 400000 in
theorem part_none (v : Value) (n : Nat) (lo hi : Int) (L M : Int) (w : World) (hP : Part n lo hi L M)
    (hl : Calls Tryz.prog 26 #[v] w fun e w' => e = .returned (.int .i64 n) ∧ w = w') (h : M ≤ L) :
    Calls Tryz.prog 71 #[v, .int .i64 lo, .int .i64 hi] w fun e w' => e = .returned (.tuple #[.slice none 0 0, .int .i64 0]) ∧ w = w' := by
  have HP := Lib.hid hP
  have HL := Lib.hid hl
  clear hP hl
  go_enter Tryz.func71, Tryz.ntmps71
  go_upto_region 1 with (fail)
  go_cut [1, 2] (fun s1 s2 wx => s1 = .int .i64 L ∧ s2 = .int .i64 M ∧ wx = w)
  case first =>
    go_wp2_with (go_at_call 26; refine HL.out.mono ?_; rintro e w' ⟨rfl, rfl⟩)
    all_goals
      go_meet
      have hp := HP.out
      unfold Part at hp
      exact ⟨vint (by omega), vint (by omega), rfl⟩
  case rest =>
    obtain ⟨rfl, rfl, rfl⟩ := hcut
    clear HP
    go_wp2
    go_ret2
    exact ⟨rfl, rfl⟩
set_option maxHeartbeats 400000 in
theorem part_some (p q n cap : Nat) (lo hi : Int) (L M : Nat) (w : World) (hP : Part n lo hi L M) (hc : n ≤ cap)
    (h0 : w.cell? ⟨p, 0, none⟩ = some (.slice (some ⟨q, 0, none⟩) n cap)) (h : L < M) (hM : M ≤ n) :
    Calls Tryz.prog 71 #[.pointer (some ⟨p, 0, none⟩), .int .i64 lo, .int .i64 hi] w fun e w' => e = .returned (.tuple #[.slice (some ⟨q, L * 4, none⟩) (M - L) (cap - L), .int .i64 L]) ∧ w = w' := by
  have HP := Lib.hid hP
  have hd : ¬ (M : Int) ≤ L := by omega
  have hcl : ¬ cap = L := by omega
  clear hP
  go_enter Tryz.func71, Tryz.ntmps71
  go_upto_region 1 with (fail)
  go_cut [1, 2] (fun s1 s2 wx => s1 = .int .i64 L ∧ s2 = .int .i64 M ∧ wx = w)
  case first =>
    go_wp2_with (go_at_call 26; refine (plen_core p q n cap _ h0).mono ?_; rintro e w' ⟨rfl, rfl⟩)
    all_goals
      go_meet
      have hp := HP.out
      unfold Part at hp
      exact ⟨vint (by omega), vint (by omega), rfl⟩
  case rest =>
    obtain ⟨rfl, rfl, rfl⟩ := hcut
    clear HP
    have hM1 : (M : Int) ≤ n := by omega
    have hM2 : (M : Int) ≤ cap := by omega
    have hM3 : (L : Int) ≤ M := by omega
    go_wp2
    go_ret2
    exact ⟨rfl, rfl⟩

/-- The rows of a part, from L up to but not M. -/
structure PartAt (w : World) (q L m : Nat) (R : Nat → Pg.Row) : Prop where
  c0 : ∀ i, i < m → w.cell? ⟨q, L * 4 + i * 4, none⟩ = some (.int .i64 (R (L + i)).k)
  c1 : ∀ i, i < m → w.cell? ⟨q, L * 4 + i * 4 + 1, none⟩ = some (.int .i64 (R (L + i)).c)
  c2 : ∀ i, i < m → w.cell? ⟨q, L * 4 + i * 4 + 2, none⟩ = some (.int .i64 (R (L + i)).o)
  c3 : ∀ i, i < m → w.cell? ⟨q, L * 4 + i * 4 + 3, none⟩ = some (.int .i64 (R (L + i)).r)
theorem RowsAt.part {w : World} {q n L m : Nat} {R : Nat → Pg.Row} (h : RowsAt w q n R) (hm : L + m ≤ n) : PartAt w q L m R where
  c0 := fun i hi => by have := h.c0 (L + i) (by omega); rwa [show (L + i) * 4 = L * 4 + i * 4 by omega] at this
  c1 := fun i hi => by have := h.c1 (L + i) (by omega); rwa [show (L + i) * 4 = L * 4 + i * 4 by omega] at this
  c2 := fun i hi => by have := h.c2 (L + i) (by omega); rwa [show (L + i) * 4 = L * 4 + i * 4 by omega] at this
  c3 := fun i hi => by have := h.c3 (L + i) (by omega); rwa [show (L + i) * 4 = L * 4 + i * 4 by omega] at this
theorem PartAt.grown {w w' : World} {q L m : Nat} {R : Nat → Pg.Row} {r : Option Nat} (h : PartAt w q L m R) (hg : w.grownBy w' r) (hr : some q ≠ r) : PartAt w' q L m R where
  c0 := fun i hi => hg.cell (h.c0 i hi) hr
  c1 := fun i hi => hg.cell (h.c1 i hi) hr
  c2 := fun i hi => hg.cell (h.c2 i hi) hr
  c3 := fun i hi => hg.cell (h.c3 i hi) hr

/-- How many of the first i rows behind L are of that kind. -/
def cntFrom (R : Nat → Pg.Row) (kind : Int) (L : Nat) : Nat → Nat
  | 0 => 0
  | e + 1 => cntFrom R kind L e + if (R (L + e)).k = kind then 1 else 0
theorem cntFrom_le (R : Nat → Pg.Row) (kind : Int) (L : Nat) : ∀ e, cntFrom R kind L e ≤ e
  | 0 => Nat.le_refl _
  | e + 1 => by have := cntFrom_le R kind L e; simp only [cntFrom]; split <;> omega

set_option maxRecDepth 100000 in
set_option maxHeartbeats 1000000 in
theorem count_core (v : Value) (lo hi kind : Int) (q L m cap : Nat) (R : Nat → Pg.Row) (w : World) (hm : m ≤ 256) (hpt : PartAt w q L m R)
    (hp : Calls Tryz.prog 71 #[v, .int .i64 lo, .int .i64 hi] w fun e w' => e = .returned (.tuple #[.slice (some ⟨q, L * 4, none⟩) m cap, .int .i64 L]) ∧ w = w') :
    Calls Tryz.prog 21 #[v, .int .i64 lo, .int .i64 hi, .int .i64 kind] w fun e w' => e = .returned (.int .i64 (cntFrom R kind L m : Nat)) ∧ w.grownBy w' none := by
  have HP := Lib.hid hp
  have HPT := Lib.hid hpt
  clear hp hpt
  have hg0 := Lib.hid (grown_refl w none)
  go_enter Tryz.func21, Tryz.ntmps21
  go_wp2_with (go_at_call 71; refine HP.out.mono ?_; rintro e w' ⟨rfl, rfl⟩)
  go_loopw [9, 23] (fun c i wr => ∃ k : Nat, k ≤ m ∧ i = .int .i64 k ∧ c = .int .i64 (cntFrom R kind L k : Nat) ∧ w.grownBy wr none) (fun _ i _ => m - (intOf i).toNat)
  case atStart => exact ⟨0, Nat.zero_le _, rfl, rfl, grown_refl _ _⟩
  case round =>
    obtain ⟨k, hk, rfl, rfl, hg⟩ := hrel
    have HG := Lib.hid hg
    clear hg
    have hb := cntFrom_le R kind L k
    by_cases hlt : k < m
    · have d0 := HG.out.cell (HPT.out.c0 k hlt) (by simp)
      have d1 := HG.out.cell (HPT.out.c1 k hlt) (by simp)
      have d2 := HG.out.cell (HPT.out.c2 k hlt) (by simp)
      have d3 := HG.out.cell (HPT.out.c3 k hlt) (by simp)
      have HS : Hid (cntFrom R kind L (k + 1) = cntFrom R kind L k + if (R (L + k)).k = kind then 1 else 0) := rfl
      generalize R (L + k) = x at *
      obtain ⟨a, b, c, d⟩ := x
      dsimp only at d0 d1 d2 d3
      generalize cntFrom R kind L k = y at *
      by_cases hkd : a = kind
      · have hkd' : (a == kind) = true := by simpa using hkd
        have HK := Lib.hid hkd
        clear hkd
        go_wp2
        go_roundw
        case rel => exact ⟨k + 1, by omega, by go_num, by rw [HS.out]; simp [HK.out], grown_trans HG.out (grown_alloc _ _ _)⟩
        case measure => simp [intOf]; omega
      · have hkd' : (a == kind) = false := by simpa using hkd
        have HK := Lib.hid hkd
        clear hkd
        go_wp2
        go_roundw
        case rel => exact ⟨k + 1, by omega, by go_num, by rw [HS.out]; simp [HK.out], grown_trans HG.out (grown_alloc _ _ _)⟩
        case measure => simp [intOf]; omega
    · obtain rfl : k = m := by omega
      go_wp2
      go_ret
      exact ⟨rfl, HG.out⟩
end Go.Proofs.YtgnfcklippjeeaaGreat.Pt

/- The walk of a table's stretch, and of Longest. -/
namespace Go.Proofs.YtgnfcklippjeeaaGreat.Pt
open Go.RowKit

theorem nz_row {x : Pg.Row} (h : Pg.isZero x = false) : ¬ (x.k = 0 ∧ x.c = 0 ∧ x.o = 0 ∧ x.r = 0) := by
  rintro ⟨a, b, c, d⟩
  obtain ⟨k, o, p, r⟩ := x
  simp only at a b c d
  subst a b c d
  cases h

/-- What a search answers. -/
def StrRes (F : Nat → Prop) (E : Nat) (w : World) (e : Ending) (w' : World) : Prop :=
  ∃ at_ most : Nat, e = .returned (.tuple #[.int .i64 at_, .int .i64 most]) ∧ Pg.Found F E at_ most ∧ w.grownBy w' none
theorem vtuple {a b c d : Int} (h : a = c) (k : b = d) : Ending.returned (.tuple #[.int .i64 a, .int .i64 b]) = .returned (.tuple #[.int .i64 c, .int .i64 d]) := by rw [h, k]

set_option maxRecDepth 100000 in
set_option maxHeartbeats 4000000 in
theorem stretch_core (v : Value) (lo hi : Int) (q L m cap E n : Nat) (R : Nat → Pg.Row) (w : World) (hm : m ≤ 256) (hE : 1 ≤ E) (hE2 : E ≤ 256) (hL : L + m ≤ n) (hn : n ≤ 256) (hpt : PartAt w q L m R)
    (hF : ∀ i, Pg.Fr R n lo hi i ↔ (L ≤ i ∧ i < L + m ∧ Pg.isZero (R i) = true))
    (hp : Calls Tryz.prog 71 #[v, .int .i64 lo, .int .i64 hi] w fun e w' => e = .returned (.tuple #[.slice (some ⟨q, L * 4, none⟩) m cap, .int .i64 L]) ∧ w = w') :
    Calls Tryz.prog 143 #[v, .int .i64 lo, .int .i64 hi, .int .i64 E] w (StrRes (Pg.Fr R n lo hi) E w) := by
  have HP := Lib.hid hp
  have HPT := Lib.hid hpt
  have HF := Lib.hid hF
  clear hp hpt hF
  go_enter Tryz.func143, Tryz.ntmps143
  go_wp2_with (go_at_call 71; refine HP.out.mono ?_; rintro e w' ⟨rfl, rfl⟩)
  go_loopw [10, 11, 12, 26] (fun a b c i wr => ∃ k at_ most cur : Nat, k ≤ m ∧ i = .int .i64 k ∧ a = .int .i64 at_ ∧ b = .int .i64 most ∧ c = .int .i64 cur ∧ Pg.Str (Pg.Fr R n lo hi) L (L + k) at_ most cur ∧ most < E ∧ w.grownBy wr none) (fun _ _ _ i _ => m - (intOf i).toNat)
  case atStart => exact ⟨0, 0, 0, 0, Nat.zero_le _, rfl, rfl, rfl, rfl, Pg.str_new _ _, by omega, grown_refl _ _⟩
  case round =>
    obtain ⟨k, at_, most, cur, hk, rfl, rfl, rfl, rfl, hs, hmE, hg⟩ := hrel
    have HG := Lib.hid hg
    have HS := Lib.hid hs
    have hcl := hs.le
    have hlo := hs.lo
    clear hg hs
    by_cases hlt : k < m
    · have d0 := HG.out.cell (HPT.out.c0 k hlt) (by simp)
      have d1 := HG.out.cell (HPT.out.c1 k hlt) (by simp)
      have d2 := HG.out.cell (HPT.out.c2 k hlt) (by simp)
      have d3 := HG.out.cell (HPT.out.c3 k hlt) (by simp)
      by_cases hz : Pg.isZero (R (L + k)) = true
      · have HFr := Lib.hid ((HF.out (L + k)).2 ⟨by omega, by omega, hz⟩)
        have hx := (Pg.isZero_iff _).1 hz
        rw [hx] at d0 d1 d2 d3
        clear hx hz
        simp only [Pg.zero] at d0 d1 d2 d3
        by_cases hgt : most < cur + 1
        · have hgt' : (most : Int) < cur + 1 := by omega
          have HN := Lib.hid (Pg.str_more HS.out HFr.out hgt)
          by_cases hen : cur + 1 = E
          · have hen' : ((cur : Int) + 1 == E) = true := by simp; omega
            have HEN := Lib.hid hen
            clear hen
            go_wp2
            go_ret2
            exact ⟨L + k - cur, cur + 1, vtuple (by omega) (by omega), Pg.str_found HN.out (.inr HEN.out) (by omega) (fun i h => ((HF.out i).1 h).1) (fun i h => ((HF.out i).1 h).2.1) (by omega), grown_trans HG.out (grown_alloc _ _ _)⟩
          · have hen' : ((cur : Int) + 1 == E) = false := by simp; omega
            have HEN := Lib.hid hen
            clear hen
            go_wp2
            go_roundw
            case rel => exact ⟨k + 1, L + k - cur, cur + 1, cur + 1, by omega, by go_num, vint (by omega), by go_num, by go_num, HN.out, by have := HEN.out; omega, grown_trans HG.out (grown_alloc _ _ _)⟩
            case measure => simp [intOf]; omega
        · have hgt' : ¬ (most : Int) < cur + 1 := by omega
          have HN := Lib.hid (Pg.str_same HS.out HFr.out hgt)
          have hen' : ((most : Int) == E) = false := by simp; omega
          go_wp2
          go_roundw
          case rel => exact ⟨k + 1, at_, most, cur + 1, by omega, by go_num, rfl, rfl, by go_num, HN.out, by omega, grown_trans HG.out (grown_alloc _ _ _)⟩
          case measure => simp [intOf]; omega
      · have hz : Pg.isZero (R (L + k)) = false := by simpa using hz
        have HN := Lib.hid (Pg.str_none HS.out (fun h => by have := ((HF.out _).1 h).2.2; rw [hz] at this; cases this))
        have HX := Lib.hid (nz_row hz)
        clear hz
        generalize R (L + k) = x at *
        obtain ⟨xk, xc, xo, xr⟩ := x
        have hgt' : ¬ (most : Int) < 0 := by omega
        have hen' : ((most : Int) == E) = false := by simp; omega
        dsimp only at d0 d1 d2 d3
        obtain ⟨wo, rfl⟩ : ∃ wo : World, wo = wr := ⟨_, rfl⟩
        go_upto_region 7 with (fail)
        go_cut [35] (fun s wx => s = .bool true ∧ wo.grownBy wx none)
        case first =>
          go_wp2
          all_goals
            first
            | (go_meet; exact ⟨rfl, grown_alloc _ _ _⟩)
            | (exfalso; exact HX.out ⟨‹xk = 0›, ‹xc = 0›, ‹xo = 0›, ‹xr = 0›⟩)
        case rest =>
          obtain ⟨rfl, hgc⟩ := hcut
          have HGC := Lib.hid hgc
          clear hgc
          go_wp2
          go_roundw
          case rel => exact ⟨k + 1, at_, most, 0, by omega, by go_num, rfl, rfl, rfl, HN.out, by omega, grown_trans HG.out HGC.out⟩
          case measure => simp [intOf]; omega
    · obtain rfl : k = m := by omega
      go_wp2
      go_ret2
      exact ⟨at_, most, rfl, Pg.str_found HS.out (.inl rfl) (by omega) (fun i h => ((HF.out i).1 h).1) (fun i h => ((HF.out i).1 h).2.1) (Nat.le_refl _), HG.out⟩

set_option maxRecDepth 100000 in
set_option maxHeartbeats 1000000 in
theorem stretch_none (v : Value) (lo hi E : Int) (w : World)
    (hp : Calls Tryz.prog 71 #[v, .int .i64 lo, .int .i64 hi] w fun e w' => e = .returned (.tuple #[.slice none 0 0, .int .i64 0]) ∧ w = w') :
    Calls Tryz.prog 143 #[v, .int .i64 lo, .int .i64 hi, .int .i64 E] w fun e w' => e = .returned (.tuple #[.int .i64 0, .int .i64 0]) ∧ w = w' := by
  have HP := Lib.hid hp
  clear hp
  go_enter Tryz.func143, Tryz.ntmps143
  go_wp2_with (go_at_call 71; refine HP.out.mono ?_; rintro e w' ⟨rfl, rfl⟩)
  go_loop [10, 11, 12, 26] (fun a b c i => i = .int .i64 0 ∧ a = .int .i64 0 ∧ b = .int .i64 0 ∧ c = .int .i64 0) (fun _ _ _ i => 0 - (intOf i).toNat)
  case atStart => exact ⟨rfl, rfl, rfl, rfl⟩
  case round =>
    obtain ⟨rfl, rfl, rfl, rfl⟩ := hrel
    go_wp2
    go_ret2
    exact ⟨rfl, rfl⟩
set_option maxRecDepth 100000 in
set_option maxHeartbeats 1000000 in
theorem count_none (v : Value) (lo hi kind : Int) (w : World)
    (hp : Calls Tryz.prog 71 #[v, .int .i64 lo, .int .i64 hi] w fun e w' => e = .returned (.tuple #[.slice none 0 0, .int .i64 0]) ∧ w = w') :
    Calls Tryz.prog 21 #[v, .int .i64 lo, .int .i64 hi, .int .i64 kind] w fun e w' => e = .returned (.int .i64 0) ∧ w = w' := by
  have HP := Lib.hid hp
  clear hp
  go_enter Tryz.func21, Tryz.ntmps21
  go_wp2_with (go_at_call 71; refine HP.out.mono ?_; rintro e w' ⟨rfl, rfl⟩)
  go_loop [9, 23] (fun c i => i = .int .i64 0 ∧ c = .int .i64 0) (fun _ i => 0 - (intOf i).toNat)
  case atStart => exact ⟨rfl, rfl⟩
  case round =>
    obtain ⟨rfl, rfl⟩ := hrel
    go_wp2
    go_ret
    exact ⟨rfl, rfl⟩

theorem found_none0 {F : Nat → Prop} {E : Nat} (h : ∀ i, ¬ F i) : Pg.Found F E 0 0 :=
  ⟨Nat.zero_le _, fun x => absurd x (by omega), fun _ k m a b => absurd (b k (Nat.le_refl _) (by omega)) (h k)⟩

/-- What of a part's ends is known: it is empty, or goes from L up to but not M. -/
theorem part_cases (n : Nat) (lo hi : Int) (R : Nat → Pg.Row) : (∃ L M : Int, Part n lo hi L M ∧ M ≤ L ∧ ∀ i, ¬ Pg.Fr R n lo hi i) ∨
    (∃ L M : Nat, Part n lo hi L M ∧ L < M ∧ M ≤ n ∧ ∀ i : Nat, (i < n ∧ lo ≤ i ∧ (i : Int) < hi) ↔ (L ≤ i ∧ i < L + (M - L))) := by
  obtain ⟨L, M, h⟩ := part_ex n lo hi
  have hh := h
  unfold Part at hh
  by_cases hlt : M ≤ L
  · exact .inl ⟨L, M, h, hlt, fun i ⟨a, b, c, _⟩ => by omega⟩
  · obtain ⟨l, rfl⟩ : ∃ l : Nat, L = l := ⟨L.toNat, by omega⟩
    obtain ⟨m, rfl⟩ : ∃ m : Nat, M = m := ⟨M.toNat, by omega⟩
    exact .inr ⟨l, m, h, by omega, by omega, fun i => by omega⟩

theorem stretch_at {w : World} {p q n cap : Nat} {R : Nat → Pg.Row} (h : TabAt w p q n cap R) (lo hi E : Int) (h1 : 1 ≤ E) (h2 : E ≤ 256) :
    Calls Tryz.prog 143 #[.pointer (some ⟨p, 0, none⟩), .int .i64 lo, .int .i64 hi, .int .i64 E] w (StrRes (Pg.Fr R n lo hi) E.toNat w) := by
  obtain ⟨e, rfl⟩ : ∃ e : Nat, E = e := ⟨E.toNat, by omega⟩
  rw [Int.toNat_natCast]
  rcases part_cases n lo hi R with ⟨L, M, hP, hlt, hno⟩ | ⟨L, M, hP, hlt, hM, hin⟩
  · exact (stretch_none _ lo hi e w (part_none _ n lo hi L M w hP (plen_at h) hlt)).mono fun _ _ ⟨he, hw⟩ => ⟨0, 0, he, found_none0 hno, hw ▸ grown_refl _ _⟩
  · exact stretch_core _ lo hi q L (M - L) (cap - L) e n R w (by have := h.small; omega) (by omega) (by omega) (by omega) h.small (h.rows.part (by omega))
      (fun i => ⟨fun ⟨a, b, c, d⟩ => ⟨((hin i).1 ⟨a, b, c⟩).1, ((hin i).1 ⟨a, b, c⟩).2, d⟩, fun ⟨a, b, c⟩ => ⟨((hin i).2 ⟨a, b⟩).1, ((hin i).2 ⟨a, b⟩).2.1, ((hin i).2 ⟨a, b⟩).2.2, c⟩⟩)
      (part_some p q n cap lo hi L M w hP h.hcap h.c hlt hM)

/-- What Longest answers. -/
def LongRes (F : Nat → Prop) (n : Nat) (w : World) (e : Ending) (w' : World) : Prop := ∃ m : Nat, e = .returned (.int .i64 m) ∧ Pg.Longest F m ∧ m ≤ n ∧ w.grownBy w' none
theorem cntFrom_is (R : Nat → Pg.Row) (lo hi kind : Int) (L : Nat) (m : Nat) (hin : ∀ i : Nat, L ≤ i → i < L + m → lo ≤ i ∧ (i : Int) < hi) (hL : lo ≤ L ∧ (0 < L → (L : Int) ≤ lo)) : ∀ e, e ≤ m → cntFrom R kind L e = Pg.cnt R lo hi kind (L + e)
  | 0, _ => by
    show 0 = Pg.cnt R lo hi kind L
    by_cases h0 : 0 < L
    · exact (Pg.cnt_lo R lo hi kind L (hL.2 h0)).symm
    · have : L = 0 := by omega
      subst this; rfl
  | e + 1, h => by
    show cntFrom R kind L e + (if (R (L + e)).k = kind then 1 else 0) = Pg.cnt R lo hi kind (L + e) + if lo ≤ ((L + e : Nat) : Int) ∧ ((L + e : Nat) : Int) < hi ∧ (R (L + e)).k = kind then 1 else 0
    rw [cntFrom_is R lo hi kind L m hin hL e (by omega)]
    have g := hin (L + e) (by omega) (by omega)
    by_cases hk : (R (L + e)).k = kind
    · rw [if_pos hk, if_pos ⟨g.1, g.2, hk⟩]
    · rw [if_neg hk, if_neg (fun x => hk x.2.2)]
theorem cnt_empty (R : Nat → Pg.Row) (lo hi kind : Int) : ∀ n : Nat, (∀ i : Nat, i < n → ¬ (lo ≤ i ∧ (i : Int) < hi)) → Pg.cnt R lo hi kind n = 0
  | 0, _ => rfl
  | n + 1, h => by
    show Pg.cnt R lo hi kind n + _ = 0
    rw [cnt_empty R lo hi kind n (fun i hi => h i (by omega)), if_neg (fun x => h n (by omega) ⟨x.1, x.2.1⟩)]
theorem cntFrom_all (R : Nat → Pg.Row) (n : Nat) (lo hi kind : Int) (L M : Nat) (hP : Part n lo hi L M) (hlt : L < M) (hM : M ≤ n) : cntFrom R kind L (M - L) = Pg.cnt R lo hi kind n := by
  unfold Part at hP
  rw [cntFrom_is R lo hi kind L (M - L) (fun i a b => by omega) (by omega) (M - L) (Nat.le_refl _)]
  have e1 : L + (M - L) = M := by omega
  rw [e1]
  by_cases h : hi ≤ M
  · have e2 : n = M + (n - M) := by omega
    rw [e2, Pg.cnt_hi R lo hi kind M h]
  · have e3 : n = M := by omega
    rw [e3]

theorem count_at {w : World} {p q n cap : Nat} {R : Nat → Pg.Row} (h : TabAt w p q n cap R) (lo hi kind : Int) :
    Calls Tryz.prog 21 #[.pointer (some ⟨p, 0, none⟩), .int .i64 lo, .int .i64 hi, .int .i64 kind] w fun e w' => e = .returned (.int .i64 (Pg.cnt R lo hi kind n : Nat)) ∧ w.grownBy w' none := by
  rcases part_cases n lo hi R with ⟨L, M, hP, hlt, _⟩ | ⟨L, M, hP, hlt, hM, _⟩
  · have e0 : Pg.cnt R lo hi kind n = 0 := cnt_empty R lo hi kind n (fun i hi' => by unfold Part at hP; omega)
    rw [e0]
    exact (count_none _ lo hi kind w (part_none _ n lo hi L M w hP (plen_at h) hlt)).mono fun _ _ ⟨he, hw⟩ => ⟨he, hw ▸ grown_refl _ _⟩
  · rw [← cntFrom_all R n lo hi kind L M hP hlt hM]
    exact count_core _ lo hi kind q L (M - L) (cap - L) R w (by have := h.small; omega) (h.rows.part (by omega)) (part_some p q n cap lo hi L M w hP h.hcap h.c hlt hM)

theorem count_nil (lo hi kind : Int) (w : World) :
    Calls Tryz.prog 21 #[.pointer none, .int .i64 lo, .int .i64 hi, .int .i64 kind] w fun e w' => e = .returned (.int .i64 0) ∧ w = w' := by
  obtain ⟨L, M, hP⟩ := part_ex 0 lo hi
  exact count_none _ lo hi kind w (part_none _ 0 lo hi L M w hP (plen_nil w) (by unfold Part at hP; omega))
end Go.Proofs.YtgnfcklippjeeaaGreat.Pt

/- What storing a row leaves of rows. -/
namespace Go.Proofs.YtgnfcklippjeeaaGreat.Pt
open Go.RowKit

theorem grown_set (w : World) (b i : Nat) (v : Value) : w.grownBy (w.setCell ⟨b, i, none⟩ v) (some b) :=
  ⟨rfl, rfl, rfl, by simp [World.setCell], fun j _ hj => Below.heap_setCell w ⟨b, i, none⟩ v j (fun e => hj (by rw [e]))⟩
theorem grown_to_set {a w : World} {b : Nat} (h : a.grownBy w (some b)) (i : Nat) (v : Value) : a.grownBy (w.setCell ⟨b, i, none⟩ v) (some b) := grown_trans h (grown_set w b i v)

def setRow (w : World) (q a : Nat) (x : Pg.Row) : World :=
  (((w.setCell ⟨q, a * 4, none⟩ (.int .i64 x.k)).setCell ⟨q, a * 4 + 1, none⟩ (.int .i64 x.c)).setCell ⟨q, a * 4 + 2, none⟩ (.int .i64 x.o)).setCell ⟨q, a * 4 + 3, none⟩ (.int .i64 x.r)
theorem grown_setRow (w : World) (q a : Nat) (x : Pg.Row) : w.grownBy (setRow w q a x) (some q) :=
  grown_to_set (grown_to_set (grown_to_set (grown_set w q _ _) _ _) _ _) _ _

theorem set_far (w : World) (q i j : Nat) (v : Value) (h : i ≠ j) : (w.setCell ⟨q, i, none⟩ v).cell? ⟨q, j, none⟩ = w.cell? ⟨q, j, none⟩ :=
  World.cell?_setCell_other w _ _ _ (fun e => h (congrArg Addr.off e))
theorem setRow_far (w : World) (q a j : Nat) (x : Pg.Row) (h : j < a * 4 ∨ a * 4 + 3 < j) : (setRow w q a x).cell? ⟨q, j, none⟩ = w.cell? ⟨q, j, none⟩ := by
  unfold setRow
  rw [set_far _ _ _ _ _ (by omega), set_far _ _ _ _ _ (by omega), set_far _ _ _ _ _ (by omega), set_far _ _ _ _ _ (by omega)]
theorem set_same (w : World) (q i : Nat) (v : Value) (h : (w.cell? ⟨q, i, none⟩).isSome = true) : (w.setCell ⟨q, i, none⟩ v).cell? ⟨q, i, none⟩ = some v := World.cell?_setCell_same' w _ _ h
theorem setRow_same (w : World) (q a : Nat) (x : Pg.Row) (h0 : (w.cell? ⟨q, a * 4, none⟩).isSome = true) (h1 : (w.cell? ⟨q, a * 4 + 1, none⟩).isSome = true) (h2 : (w.cell? ⟨q, a * 4 + 2, none⟩).isSome = true) (h3 : (w.cell? ⟨q, a * 4 + 3, none⟩).isSome = true) :
    (setRow w q a x).cell? ⟨q, a * 4, none⟩ = some (.int .i64 x.k) ∧ (setRow w q a x).cell? ⟨q, a * 4 + 1, none⟩ = some (.int .i64 x.c) ∧ (setRow w q a x).cell? ⟨q, a * 4 + 2, none⟩ = some (.int .i64 x.o) ∧ (setRow w q a x).cell? ⟨q, a * 4 + 3, none⟩ = some (.int .i64 x.r) := by
  unfold setRow
  refine ⟨?_, ?_, ?_, ?_⟩
  · rw [set_far _ _ _ _ _ (by omega), set_far _ _ _ _ _ (by omega), set_far _ _ _ _ _ (by omega), set_same _ _ _ _ h0]
  · rw [set_far _ _ _ _ _ (by omega), set_far _ _ _ _ _ (by omega), set_same _ _ _ _ (by rw [set_far _ _ _ _ _ (by omega)]; exact h1)]
  · rw [set_far _ _ _ _ _ (by omega), set_same _ _ _ _ (by rw [set_far _ _ _ _ _ (by omega), set_far _ _ _ _ _ (by omega)]; exact h2)]
  · rw [set_same _ _ _ _ (by rw [set_far _ _ _ _ _ (by omega), set_far _ _ _ _ _ (by omega), set_far _ _ _ _ _ (by omega)]; exact h3)]
theorem setRow_fz (w : World) (q a : Nat) (x : Pg.Row) (p : Addr) : (setRow w q a x).frozen? p = w.frozen? p := by
  unfold setRow
  rw [World.frozen?_setCell, World.frozen?_setCell, World.frozen?_setCell, World.frozen?_setCell]

theorem rows_set {w : World} {q n : Nat} {R : Nat → Pg.Row} (h : RowsAt w q n R) (a : Nat) (ha : a < n) (x : Pg.Row) (S : Nat → Pg.Row) (hS : ∀ i, i < n → S i = if i = a then x else R i) : RowsAt (setRow w q a x) q n S := by
  obtain ⟨s0, s1, s2, s3⟩ := setRow_same w q a x (by rw [h.c0 a ha]; rfl) (by rw [h.c1 a ha]; rfl) (by rw [h.c2 a ha]; rfl) (by rw [h.c3 a ha]; rfl)
  have far : ∀ i j, i ≠ a → j < 4 → (setRow w q a x).cell? ⟨q, i * 4 + j, none⟩ = w.cell? ⟨q, i * 4 + j, none⟩ := fun i j e hj => setRow_far _ _ _ _ _ (by omega)
  refine ⟨fun i hi => ?_, fun i hi => ?_, fun i hi => ?_, fun i hi => ?_, fun k => by rw [setRow_fz]; exact h.fz k, by have := (grown_setRow w q a x).size; have := h.qlt; omega⟩
  · rw [hS i hi]
    by_cases e : i = a
    · subst e; rw [if_pos rfl]; exact s0
    · rw [if_neg e]; exact (far i 0 e (by omega)).trans (h.c0 i hi)
  · rw [hS i hi]
    by_cases e : i = a
    · subst e; rw [if_pos rfl]; exact s1
    · rw [if_neg e]; exact (far i 1 e (by omega)).trans (h.c1 i hi)
  · rw [hS i hi]
    by_cases e : i = a
    · subst e; rw [if_pos rfl]; exact s2
    · rw [if_neg e]; exact (far i 2 e (by omega)).trans (h.c2 i hi)
  · rw [hS i hi]
    by_cases e : i = a
    · subst e; rw [if_pos rfl]; exact s3
    · rw [if_neg e]; exact (far i 3 e (by omega)).trans (h.c3 i hi)

/-- A first page and m Tails behind it. -/
def layK (R : Nat → Pg.Row) (a : Nat) (x : Pg.Row) (m : Nat) : Nat → Pg.Row := fun i => if i = a then x else if a < i ∧ i < a + 1 + m then Pg.tail else R i
theorem layK_zero (R : Nat → Pg.Row) (a : Nat) (x : Pg.Row) (i : Nat) : layK R a x 0 i = if i = a then x else R i := by
  unfold layK
  by_cases h : i = a
  · rw [if_pos h, if_pos h]
  · rw [if_neg h, if_neg h, if_neg (by omega)]
theorem layK_succ (R : Nat → Pg.Row) (a : Nat) (x : Pg.Row) (m i : Nat) : layK R a x (m + 1) i = if i = a + 1 + m then Pg.tail else layK R a x m i := by
  unfold layK
  by_cases h : i = a
  · rw [if_pos h, if_pos h, if_neg (by omega)]
  · rw [if_neg h, if_neg h]
    by_cases g : i = a + 1 + m
    · rw [if_pos g, if_pos (by omega)]
    · rw [if_neg g]
      by_cases k : a < i ∧ i < a + 1 + m
      · rw [if_pos k, if_pos (by omega)]
      · rw [if_neg k, if_neg (by omega)]
theorem layK_all (R : Nat → Pg.Row) (a : Nat) (x : Pg.Row) (m : Nat) (h : (m : Int) = x.r - 1) : layK R a x m = Pg.lay R a x := by
  funext i
  unfold layK Pg.lay
  by_cases g : i = a
  · rw [if_pos g, if_pos g]
  · rw [if_neg g, if_neg g]
    by_cases k : a < i ∧ i < a + 1 + m
    · rw [if_pos k, if_pos (by omega)]
    · rw [if_neg k, if_neg (by omega)]
end Go.Proofs.YtgnfcklippjeeaaGreat.Pt

/- The walks of a table's Head, Map, Unmap. -/
namespace Go.Proofs.YtgnfcklippjeeaaGreat.Pt
open Go.RowKit

set_option maxRecDepth 100000 in
set_option maxHeartbeats 1000000 in
theorem head_none (v : Value) (i : Int) (w : World)
    (hr : Calls Tryz.prog 34 #[v, .int .i64 i] w fun e w' => e = .returned (rv Pg.zero) ∧ w.grownBy w' none) :
    Calls Tryz.prog 81 #[v, .int .i64 i] w fun e w' => e = .returned (.tuple #[.int .i64 0, .bool false]) ∧ w.grownBy w' none := by
  have HR := Lib.hid hr
  clear hr
  go_enter Tryz.func81, Tryz.ntmps81
  go_wp2_with (go_at_call 34; refine HR.out.mono ?_; rintro e w1 ⟨rfl, hg⟩; have HG := Lib.hid hg; clear hg; simp only [rv, Pg.zero])
  go_ret2
  exact ⟨rfl, HG.out⟩

/-- What Head answers of a page that belongs to one. -/
def HeadRes (R : Nat → Pg.Row) (i : Nat) (w : World) (e : Ending) (w' : World) : Prop :=
  ∃ k : Nat, e = .returned (.tuple #[.int .i64 k, .bool true]) ∧ k ≤ i ∧ Pg.isHead (R k) = true ∧ (i : Int) < k + (R k).r ∧ w.grownBy w' none

set_option maxRecDepth 100000 in
set_option maxHeartbeats 2000000 in
theorem head_some {w : World} {p q n cap : Nat} {R : Nat → Pg.Row} (h : TabAt w p q n cap R) (i : Nat) (hi : i < n) (hz : Pg.isZero (R i) = false) :
    Calls Tryz.prog 81 #[.pointer (some ⟨p, 0, none⟩), .int .i64 i] w (HeadRes R i w) := by
  obtain ⟨k, hk1, hk2, hk3, hk4⟩ := Pg.owner h.ok hi hz
  have HR := Lib.hid (prow_at h i)
  have HX := Lib.hid (nz_row hz)
  have H := Lib.hid h
  have hn := h.small
  have HK2 := Lib.hid hk2
  have HK4 := Lib.hid hk4
  have HGI := Lib.hid (getR_in (R := R) hi)
  clear h hz hk2 hk4
  go_enter Tryz.func81, Tryz.ntmps81
  go_upto_region 1 with (fail)
  go_cut [10] (fun s wx => s = .bool false ∧ w.grownBy wx none)
  case first =>
    go_wp2_with fail
    refine HR.out.mono ?_
    rintro e w1 ⟨rfl, hg⟩
    have HG := Lib.hid hg
    clear hg
    rw [HGI.out]
    simp only [rv]
    generalize R i = x at *
    obtain ⟨xk, xc, xo, xr⟩ := x
    go_wp2
    all_goals
      first
      | (go_meet; exact ⟨rfl, HG.out⟩)
      | (exfalso; exact HX.out ⟨‹xk = 0›, ‹xc = 0›, ‹xo = 0›, ‹xr = 0›⟩)
  case rest =>
    obtain ⟨rfl, hg⟩ := hcut
    have HG := Lib.hid hg
    clear hg
    go_wp2_with fail
    go_loopw [1] (fun a wr => ∃ j : Nat, k ≤ j ∧ j ≤ i ∧ a = .int .i64 j ∧ w.grownBy wr none) (fun a _ => (intOf a).toNat)
    case atStart => exact ⟨i, hk1, Nat.le_refl _, rfl, HG.out⟩
    case round =>
      clear HG
      obtain ⟨j, hj1, hj2, rfl, hg⟩ := hrel
      have HT := Lib.hid (H.out.grown hg (by simp) (by simp))
      have HG := Lib.hid hg
      clear hg
      have hjn : j < n := by omega
      have c := HT.out.c
      have d0 := HT.out.rows.c0 j hjn
      have d1 := HT.out.rows.c1 j hjn
      have d2 := HT.out.rows.c2 j hjn
      have d3 := HT.out.rows.c3 j hjn
      by_cases hjk : j = k
      · subst hjk
        have HK := Lib.hid (fun W => heads_at (R j) W)
        rw [HK2.out] at HK
        have HHD := HK2
        clear HK2
        have HE := Lib.hid (show HeadRes R i w (.returned (.tuple #[.int .i64 j, .bool true])) = HeadRes R i w (.returned (.tuple #[.int .i64 j, .bool true])) from rfl)
        have HF : Hid (∀ W, w.grownBy W none → HeadRes R i w (.returned (.tuple #[.int .i64 j, .bool true])) W) := fun W hW => ⟨j, rfl, hj2, HHD.out, hk3, hW⟩
        clear HHD HK4 hk3 HE
        generalize R j = x at *
        obtain ⟨xk, xc, xo, xr⟩ := x
        simp only [rv] at HK
        go_wp2_with (go_at_call 132; refine (HK.out _).mono ?_; rintro e w1 ⟨rfl, hg⟩; have HG1 := Lib.hid hg; clear hg)
        go_ret2
        exact HF.out _ (grown_trans HG.out HG1.out)
      · have HK := Lib.hid (fun W => heads_at (R j) W)
        rw [HK4.out j (by omega) hj2] at HK
        have hj1' : (1 : Int) ≤ j := by omega
        clear HK4 HK2
        generalize R j = x at *
        obtain ⟨xk, xc, xo, xr⟩ := x
        simp only [rv] at HK
        go_wp2_with (go_at_call 132; refine (HK.out _).mono ?_; rintro e w1 ⟨rfl, hg⟩; have HG1 := Lib.hid hg; clear hg)
        go_roundw
        case rel => exact ⟨j - 1, by omega, by omega, vint (by omega), grown_trans HG.out HG1.out⟩
        case measure => simp [intOf]; omega

/-- What Map answers and leaves: of what may not be; of no room; of the first room. -/
inductive MapRes (w : World) (p q n cap : Nat) (R : Nat → Pg.Row) (lo hi : Int) (x : Pg.Row) : Ending → World → Prop
  | arg {w' : World} (h : Pg.may x = false) (hg : w.grownBy w' none) : MapRes w p q n cap R lo hi x (.returned (.tuple #[.int .i64 0, .int .i64 1])) w'
  | full {w' : World} (h : Pg.may x = true) (hp : Pg.Place (Pg.Fr R n lo hi) x.r.toNat (-1)) (hg : w.grownBy w' none) : MapRes w p q n cap R lo hi x (.returned (.tuple #[.int .i64 0, .int .i64 5])) w'
  | ok {w' : World} (h : Pg.may x = true) (at_ : Nat) (hp : Pg.Place (Pg.Fr R n lo hi) x.r.toNat at_) (hn : at_ + x.r ≤ n) (ht : TabAt w' p q n cap (Pg.lay R at_ x)) (hg : w.grownBy w' (some q)) : MapRes w p q n cap R lo hi x (.returned (.tuple #[.int .i64 at_, .int .i64 0])) w'

set_option maxRecDepth 100000 in
set_option maxHeartbeats 4000000 in
theorem map_go {w : World} {p q n cap : Nat} {R : Nat → Pg.Row} (h : TabAt w p q n cap R) (lo hi : Int) (a b c d : Int) (hmay : Pg.may ⟨a, b, c, d⟩ = true) :
    Calls Tryz.prog 84 #[.pointer (some ⟨p, 0, none⟩), .int .i64 lo, .int .i64 hi, .agg #[.int .i64 a, .int .i64 b, .int .i64 c, .int .i64 d]] w (MapRes w p q n cap R lo hi ⟨a, b, c, d⟩) := by
  obtain ⟨hh, h1, h2⟩ := (Pg.may_iff _).1 hmay
  simp only at h1 h2
  have HMAY := Lib.hid hmay
  clear hmay
  have HS := Lib.hid (fun (W : World) (g : w.grownBy W none) => stretch_at (h.grown g (by simp) (by simp)) lo hi d h1 h2)
  have H := Lib.hid h
  have hok := Lib.hid h.ok
  have hcap := h.hcap
  have HK := Lib.hid (fun W => heads_at ⟨a, b, c, d⟩ W)
  rw [hh] at HK
  simp only [rv] at HK
  have HHH := Lib.hid hh
  clear h hh
  go_enter Tryz.func84, Tryz.ntmps84
  go_wp2_with fail
  refine (HK.out _).mono ?_
  rintro e w1 ⟨rfl, hg⟩
  have HG := Lib.hid hg
  have e0 := new_cell hg (by simp) 0 (v := .int .i64 a) rfl
  have e1 := new_cell hg (by simp) 1 (v := .int .i64 b) rfl
  have e2 := new_cell hg (by simp) 2 (v := .int .i64 c) rfl
  have e3 := new_cell hg (by simp) 3 (v := .int .i64 d) rfl
  clear hg
  go_wp2_with fail
  refine (HS.out _ (grown_trans (grown_alloc _ _ _) HG.out)).mono ?_
  rintro e w2 ⟨at_, most, rfl, hf, hg⟩
  have HFD := Lib.hid hf
  have hle := hf.le
  clear hf
  have HG2 := Lib.hid (grown_trans (grown_trans (grown_alloc _ _ _) HG.out) hg)
  have f0 := hg.cell e0 (by simp)
  have f1 := hg.cell e1 (by simp)
  have f2 := hg.cell e2 (by simp)
  have f3 := hg.cell e3 (by simp)
  have HT := Lib.hid (H.out.grown HG2.out (by simp) (by simp))
  have c2 := HT.out.c
  have hob := HT.out.rows.qlt
  have hn256 := H.out.small
  have HQ := Lib.hid (show q < w.heap.size from H.out.rows.qlt)
  clear hg e0 e1 e2 e3 H HS HK HG
  by_cases hlt : (most : Int) < d
  · have HFULL := Lib.hid (MapRes.full (w := w) (p := p) (q := q) (n := n) (cap := cap) (R := R) (lo := lo) (hi := hi) (x := ⟨a, b, c, d⟩) HMAY.out (Pg.found_none HFD.out (by show most < d.toNat; omega)) HG2.out)
    clear HFD
    go_wp2
    go_ret2
    exact HFULL.out
  obtain rfl : most = d.toNat := by omega
  have hrun := (HFD.out.best (by omega)).1
  have hat : at_ + d ≤ n := by
    have := (hrun (at_ + d.toNat - 1) (by omega) (by omega)).1
    omega
  have hz := Lib.hid (show ∀ i : Nat, at_ ≤ i → (i : Int) < at_ + d → R i = Pg.zero from fun i x y => (Pg.isZero_iff _).1 (hrun i x (by omega)).2.2.2)
  have HPL := Lib.hid (Pg.found_place HFD.out (by omega))
  have hdd : ((d.toNat : Nat) : Int) = d := by omega
  rw [hdd]
  clear hrun HFD hdd hlt hle
  have ha : (at_ : Int) < n := by omega
  obtain ⟨w3, rfl⟩ : ∃ w3 : World, w3 = w2 := ⟨_, rfl⟩
  go_upto_region 8 with (fail)
  go_cut [] (fun wx => ∃ W, wx = World.drew W ∧ W = setRow w3 q at_ ⟨a, b, c, d⟩)
  case first =>
    have d0 := HT.out.rows.c0 at_ (by omega)
    have d1 := HT.out.rows.c1 at_ (by omega)
    have d2 := HT.out.rows.c2 at_ (by omega)
    have d3 := HT.out.rows.c3 at_ (by omega)
    have z0 := HT.out.rows.fz
    go_region
    go_wp2
    go_meet
    exact ⟨_, rfl, rfl⟩
  case rest =>
    obtain ⟨W, hw1, hw2⟩ := hcut
    have hgW := grown_setRow w3 q at_ ⟨a, b, c, d⟩
    have HR := Lib.hid (rows_set HT.out.rows at_ (by omega) ⟨a, b, c, d⟩ (layK R at_ ⟨a, b, c, d⟩ 0) (fun i _ => layK_zero _ _ _ i))
    rw [← hw2] at hgW HR
    have hgX : w3.grownBy wc (some q) := by rw [hw1]; exact grown_drew1 hgW
    have HRX := Lib.hid (show RowsAt wc q n (layK R at_ ⟨a, b, c, d⟩ 0) by rw [hw1]; exact HR.out.drew)
    have hq := HQ.out
    have hne : w.heap.size ≠ q := by omega
    have hnp := HT.out.ne
    have f3' := hgX.cell f3 (by simp; omega)
    have c2' := hgX.cell c2 (by simpa using hnp)
    have HG3 := Lib.hid hgX
    clear hw1 hw2 hgW HR hgX f0 f1 f2 f3 c2 HT
    have HG30 := Lib.hid (grown_trans (grown_none HG2.out) HG3.out)
    go_wp2_with fail
    go_loopw [51] (fun i wr => ∃ k : Nat, (k : Int) ≤ d - 1 ∧ i = .int .i64 k ∧ RowsAt wr q n (layK R at_ ⟨a, b, c, d⟩ k) ∧ wc.grownBy wr (some q)) (fun i _ => d.toNat - (intOf i).toNat)
    case atStart => exact ⟨0, by omega, rfl, HRX.out, grown_refl _ _⟩
    case round =>
      clear HRX
      obtain ⟨k, hk, rfl, hr, hg⟩ := hrel
      have HR := Lib.hid hr
      have HG := Lib.hid hg
      have c3 := hg.cell c2' (by simpa using hnp)
      clear hr hg f3' c2'
      by_cases hlt : (k : Int) < d - 1
      · have hj : at_ + 1 + k < n := by omega
        have hj' : (at_ : Int) + 1 + k < n := by omega
        obtain ⟨wo, rfl⟩ : ∃ wo : World, wo = wr := ⟨_, rfl⟩
        have d0 := HR.out.c0 _ hj
        have d1 := HR.out.c1 _ hj
        have d2 := HR.out.c2 _ hj
        have d3 := HR.out.c3 _ hj
        have z0 := HR.out.fz
        have ha2 : at_ ≤ 256 := by omega
        have hk2 : k ≤ 256 := by omega
        have HRN := Lib.hid (rows_set HR.out (at_ + 1 + k) hj Pg.tail (layK R at_ ⟨a, b, c, d⟩ (k + 1)) (fun i _ => layK_succ _ _ _ _ i))
        have HGN := Lib.hid (grown_trans HG.out (grown_setRow wo q (at_ + 1 + k) Pg.tail))
        go_wp2
        go_roundw
        case rel => exact ⟨k + 1, by omega, by go_num, HRN.out, HGN.out⟩
        case measure => simp [intOf]; omega
      · have HE := Lib.hid (layK_all R at_ ⟨a, b, c, d⟩ k (by show (k : Int) = d - 1; omega))
        have HM : Hid (Pg.may ⟨a, b, c, d⟩ = true) := (Pg.may_iff _).2 ⟨HHH.out, h1, h2⟩
        go_wp2
        go_ret2
        exact MapRes.ok HMAY.out at_ HPL.out hat ⟨c3, HE.out ▸ HR.out, hnp, hcap, hn256, Pg.ok_lay hok.out HM.out hat hz.out⟩ (grown_trans HG30.out HG.out)

set_option maxRecDepth 100000 in
set_option maxHeartbeats 2000000 in
theorem map_arg (p : Nat) (w : World) (lo hi : Int) (a b c d : Int) (h : Pg.may ⟨a, b, c, d⟩ = false) :
    Calls Tryz.prog 84 #[.pointer (some ⟨p, 0, none⟩), .int .i64 lo, .int .i64 hi, .agg #[.int .i64 a, .int .i64 b, .int .i64 c, .int .i64 d]] w fun e w' => e = .returned (.tuple #[.int .i64 0, .int .i64 1]) ∧ w.grownBy w' none := by
  have HK := Lib.hid (fun W => heads_at ⟨a, b, c, d⟩ W)
  simp only [rv] at HK
  have hm : ¬ (Pg.isHead ⟨a, b, c, d⟩ = true ∧ 1 ≤ d ∧ d ≤ 256) := fun x => by rw [(Pg.may_iff _).2 x] at h; cases h
  clear h
  generalize Pg.isHead ⟨a, b, c, d⟩ = hd at *
  cases hd with
  | false =>
    clear hm
    go_enter Tryz.func84, Tryz.ntmps84
    go_wp2_with fail
    refine (HK.out _).mono ?_
    rintro e w1 ⟨rfl, hg⟩
    have HG := Lib.hid (grown_trans (grown_alloc _ _ _) hg)
    clear hg
    go_wp2
    go_ret2
    exact ⟨rfl, HG.out⟩
  | true =>
    have hm' : d < 1 ∨ 256 < d := by
      by_cases x : d < 1
      · exact .inl x
      · exact .inr (by have : ¬ (1 ≤ d ∧ d ≤ 256) := fun y => hm ⟨rfl, y⟩; omega)
    clear hm
    by_cases x : d < 1
    · clear hm'
      go_enter Tryz.func84, Tryz.ntmps84
      go_wp2_with fail
      refine (HK.out _).mono ?_
      rintro e w1 ⟨rfl, hg⟩
      have HG := Lib.hid (grown_trans (grown_alloc _ _ _) hg)
      have e3 := new_cell hg (by simp) 3 (v := .int .i64 d) rfl
      clear hg
      go_wp2
      go_ret2
      exact ⟨rfl, HG.out⟩
    · have y : 256 < d := by omega
      clear hm'
      go_enter Tryz.func84, Tryz.ntmps84
      go_wp2_with fail
      refine (HK.out _).mono ?_
      rintro e w1 ⟨rfl, hg⟩
      have HG := Lib.hid (grown_trans (grown_alloc _ _ _) hg)
      have e3 := new_cell hg (by simp) 3 (v := .int .i64 d) rfl
      clear hg
      go_wp2
      go_ret2
      exact ⟨rfl, HG.out⟩
set_option maxHeartbeats 1000000 in
theorem map_nil (w : World) (lo hi : Int) (a b c d : Int) :
    Calls Tryz.prog 84 #[.pointer none, .int .i64 lo, .int .i64 hi, .agg #[.int .i64 a, .int .i64 b, .int .i64 c, .int .i64 d]] w fun e w' => e = .returned (.tuple #[.int .i64 0, .int .i64 2]) ∧ w.grownBy w' none := by
  go_enter Tryz.func84, Tryz.ntmps84
  go_wp2
  go_ret2
  exact ⟨rfl, grown_alloc _ _ _⟩


theorem map_at {w : World} {p q n cap : Nat} {R : Nat → Pg.Row} (h : TabAt w p q n cap R) (lo hi : Int) (a b c d : Int) :
    Calls Tryz.prog 84 #[.pointer (some ⟨p, 0, none⟩), .int .i64 lo, .int .i64 hi, .agg #[.int .i64 a, .int .i64 b, .int .i64 c, .int .i64 d]] w (MapRes w p q n cap R lo hi ⟨a, b, c, d⟩) := by
  by_cases hm : Pg.may ⟨a, b, c, d⟩ = true
  · exact map_go h lo hi a b c d hm
  · have hm : Pg.may ⟨a, b, c, d⟩ = false := by simpa using hm
    exact (map_arg p w lo hi a b c d hm).mono fun _ _ ⟨he, hg⟩ => he ▸ MapRes.arg hm hg
end Go.Proofs.YtgnfcklippjeeaaGreat.Pt

/- The walks of a table's Unmap; New, Copy. -/
namespace Go.Proofs.YtgnfcklippjeeaaGreat.Pt
open Go.RowKit

theorem step_clear {P : Program} {ops : Array Oper} {o : Oper} {a : Act} {w w' : World} {K : Act → World → Prop} {Q : Exit → Act → World → Prop} {E : Prop}
    (hg : o.guard = none) (x : Operand) (t : TypeId) (hop : o.op = Op.call { callee := Callee.builtin Builtin.clear, args := #[x], argTypes := #[t] })
    (v : Value) (hx : a.eval x = v) (hrun : ∀ ty, (Builtin.clear_ #[t] ty #[v]).run P w = .ok (.tuple #[]) w')
    (hK : K (a.put o.dst (.tuple #[])) w') :
    if Region.wanted o (yielded ops a.tmps) = true then Oper.wp P o a w K Q else E := by
  have hw : Region.wanted o (yielded ops a.tmps) = true := by simp [Region.wanted, hg]
  rw [if_pos hw]
  unfold Oper.wp
  simp [execOp, hop, resolve, invoke, builtin, hx, hrun, Result.andThen]
  exact hK

theorem zero_row (w : World) : (zeroValue 75).run Tryz.prog w = .ok (.agg #[.int .i64 0, .int .i64 0, .int .i64 0, .int .i64 0]) w := by kernel_rfl

theorem zeroCells_row (n : Nat) : (Builtin.zeroCells (Value.agg #[.int .i64 0, .int .i64 0, .int .i64 0, .int .i64 0]).cells n).toList = List.replicate (n * 4) (.int .i64 0) := by
  have h4 : ∀ i, i < 4 → (#[Value.int .i64 0, .int .i64 0, .int .i64 0, .int .i64 0] : Array Value)[i]! = .int .i64 0 := by
    intro i hi
    match i, hi with
    | 0, _ => rfl
    | 1, _ => rfl
    | 2, _ => rfl
    | 3, _ => rfl
  apply List.ext_getElem
  · simp [Builtin.zeroCells, Value.cells]
  · intro i h1 h2
    simp [Builtin.zeroCells, Value.cells]
    have := h4 (i % 4) (Nat.mod_lt _ (by omega))
    simpa using this

theorem run_clear_rows (w : World) (q o m c : Nat) (hm : 0 < m) (hc : ∀ j, j < m * 4 → (w.cell? ⟨q, o + j, none⟩).isSome = true) (hf : ∀ j, j < m * 4 → w.frozen? ⟨q, o + j, none⟩ = false) (ty : TypeId) :
    (Builtin.clear_ #[116] ty #[.slice (some ⟨q, o, none⟩) m c]).run Tryz.prog w = .ok (.tuple #[]) (w.setCells q o (List.replicate (m * 4) (.int .i64 0))) := by
  have hst := run_storeCells_cells (P := Tryz.prog) q o (List.replicate (m * 4) (.int .i64 0)) 0 w (by simpa using hc) (by simpa using hf) (by intro v hv'; rw [List.eq_of_mem_replicate hv']; rfl)
  simp only [Nat.add_zero] at hst
  have hz := zeroCells_row m
  obtain ⟨m', rfl⟩ : ∃ m', m = m' + 1 := ⟨m - 1, by omega⟩
  simp only [Builtin.clear_]
  simp [run_underlying Tryz.underlying116, hz, hst]

theorem grown_setCells (q : Nat) : ∀ (vs : List Value) (o : Nat) (w : World), w.grownBy (w.setCells q o vs) (some q)
  | [], _, w => grown_refl w _
  | v :: r, o, w => grown_trans (grown_set w q o v) (grown_setCells q r (o + 1) _)

theorem rows_clear {w : World} {q n : Nat} {R : Nat → Pg.Row} (h : RowsAt w q n R) (a m : Nat) (ham : a + m ≤ n) : RowsAt (w.setCells q (a * 4) (List.replicate (m * 4) (.int .i64 0))) q n (Pg.clr R a m) := by
  have some_ : ∀ j, j < m * 4 → (w.cell? ⟨q, a * 4 + j, none⟩).isSome = true := by
    intro j hj
    have hi : a + j / 4 < n := by omega
    rcases (by omega : j % 4 = 0 ∨ j % 4 = 1 ∨ j % 4 = 2 ∨ j % 4 = 3) with e | e | e | e
    · rw [show a * 4 + j = (a + j / 4) * 4 by omega, h.c0 _ hi]; rfl
    · rw [show a * 4 + j = (a + j / 4) * 4 + 1 by omega, h.c1 _ hi]; rfl
    · rw [show a * 4 + j = (a + j / 4) * 4 + 2 by omega, h.c2 _ hi]; rfl
    · rw [show a * 4 + j = (a + j / 4) * 4 + 3 by omega, h.c3 _ hi]; rfl
  have inn : ∀ j, a * 4 ≤ j → j < (a + m) * 4 → (w.setCells q (a * 4) (List.replicate (m * 4) (.int .i64 0))).cell? ⟨q, j, none⟩ = some (.int .i64 0) := by
    intro j h1 h2
    have := World.cell?_setCells_in q (List.replicate (m * 4) (Value.int .i64 0)) (a * 4) w (by simpa using some_) (j - a * 4) (by simp; omega)
    rw [show a * 4 + (j - a * 4) = j by omega] at this
    rw [this]
    simp
  have out : ∀ j, j < a * 4 ∨ (a + m) * 4 ≤ j → (w.setCells q (a * 4) (List.replicate (m * 4) (.int .i64 0))).cell? ⟨q, j, none⟩ = w.cell? ⟨q, j, none⟩ := by
    intro j hj
    exact World.cell?_setCells_out q _ _ _ _ (fun _ _ => by simp; omega)
  refine ⟨fun i hi => ?_, fun i hi => ?_, fun i hi => ?_, fun i hi => ?_, fun k => ?_, Nat.lt_of_lt_of_le h.qlt (grown_setCells q _ _ _).size⟩
  · by_cases e : a ≤ i ∧ i < a + m
    · rw [inn _ (by omega) (by omega), Pg.clr, if_pos e]; rfl
    · rw [out _ (by omega), Pg.clr, if_neg e]; exact h.c0 i hi
  · by_cases e : a ≤ i ∧ i < a + m
    · rw [inn _ (by omega) (by omega), Pg.clr, if_pos e]; rfl
    · rw [out _ (by omega), Pg.clr, if_neg e]; exact h.c1 i hi
  · by_cases e : a ≤ i ∧ i < a + m
    · rw [inn _ (by omega) (by omega), Pg.clr, if_pos e]; rfl
    · rw [out _ (by omega), Pg.clr, if_neg e]; exact h.c2 i hi
  · by_cases e : a ≤ i ∧ i < a + m
    · rw [inn _ (by omega) (by omega), Pg.clr, if_pos e]; rfl
    · rw [out _ (by omega), Pg.clr, if_neg e]; exact h.c3 i hi
  · rw [World.frozen?_setCells]; exact h.fz k

set_option maxRecDepth 100000 in
set_option maxHeartbeats 2000000 in
theorem unmap_none (p : Nat) (i : Int) (x : Pg.Row) (w : World) (hh : Pg.isHead x = false)
    (hr : Calls Tryz.prog 34 #[.pointer (some ⟨p, 0, none⟩), .int .i64 i] w fun e w' => e = .returned (rv x) ∧ w.grownBy w' none) :
    Calls Tryz.prog 67 #[.pointer (some ⟨p, 0, none⟩), .int .i64 i] w fun e w' => e = .returned (.int .i64 6) ∧ w.grownBy w' none := by
  have HR := Lib.hid hr
  have HK := Lib.hid (fun W => heads_at x W)
  rw [hh] at HK
  clear hr hh
  obtain ⟨a, b, c, d⟩ := x
  simp only [rv] at HR HK
  go_enter Tryz.func67, Tryz.ntmps67
  go_wp2_with fail
  refine HR.out.mono ?_
  rintro e w1 ⟨rfl, hg⟩
  have HG := Lib.hid hg
  clear hg
  go_wp2_with fail
  refine (HK.out _).mono ?_
  rintro e w2 ⟨rfl, hg⟩
  have HG2 := Lib.hid (grown_trans HG.out (grown_trans (grown_alloc _ _ _) hg))
  clear hg HG
  go_wp2
  go_ret
  exact ⟨rfl, HG2.out⟩

set_option maxRecDepth 100000 in
set_option maxHeartbeats 2000000 in
theorem unmap_core {w : World} {p q n cap : Nat} {R : Nat → Pg.Row} (h : TabAt w p q n cap R) (i : Nat) (hi : i < n) (hh : Pg.isHead (R i) = true) (m : Nat) (hmr : (R i).r = m) :
    Calls Tryz.prog 67 #[.pointer (some ⟨p, 0, none⟩), .int .i64 i] w fun e w' => e = .returned (.int .i64 0) ∧ TabAt w' p q n cap (Pg.clr R i m) ∧ w.grownBy w' (some q) := by
  have HR := prow_at h i
  rw [getR_in hi] at HR
  have HR := Lib.hid HR
  have HK := Lib.hid (fun W => heads_at (R i) W)
  rw [hh] at HK
  have H := Lib.hid h
  obtain ⟨r1, r2, r3, _⟩ := h.ok.headr hi hh
  have hok := Pg.ok_clr h.ok hi hh
  rw [hmr, Int.toNat_natCast] at hok
  have hok := Lib.hid hok
  have hcap := h.hcap
  have hn256 := h.small
  have hnp := h.ne
  have hqlt := h.rows.qlt
  clear h hh
  have hx : ∃ a b c, R i = ⟨a, b, c, m⟩ := ⟨_, _, _, by rw [← hmr]⟩
  obtain ⟨a, b, c, hx⟩ := hx
  rw [hx] at HR HK r1 r2 r3
  simp only [rv] at HR HK r1 r2 r3
  clear hmr hx
  go_enter Tryz.func67, Tryz.ntmps67
  go_wp2_with fail
  refine HR.out.mono ?_
  rintro e w1 ⟨rfl, hg⟩
  have HG := Lib.hid hg
  clear hg HR
  go_wp2_with fail
  refine (HK.out _).mono ?_
  rintro e w2 ⟨rfl, hg⟩
  have HG2 := Lib.hid (grown_trans HG.out (grown_trans (grown_alloc _ _ _) hg))
  have e3 := new_cell hg (by simp) 3 (v := .int .i64 m) rfl
  clear hg HG
  have HT := Lib.hid (H.out.grown HG2.out (by simp) (by simp))
  have c2 := HT.out.c
  have him : i + m ≤ n := by omega
  have him' : (i : Int) + m ≤ n := by omega
  have him2 : (i : Int) + m ≤ cap := by omega
  have hin : (i : Int) ≤ i + m := by omega
  have hci : ¬ cap = i := by omega
  have hi256 : i ≤ 256 := by omega
  have hm256 : m ≤ 256 := by omega
  have hrun : ∀ ty, _ := fun ty => run_clear_rows w2.drew q (i * 4) m (cap - i) (by omega) (fun j hj => by
    have hi' : i + j / 4 < n := by omega
    rcases (by omega : j % 4 = 0 ∨ j % 4 = 1 ∨ j % 4 = 2 ∨ j % 4 = 3) with e | e | e | e
    · rw [show i * 4 + j = (i + j / 4) * 4 by omega, World.cell?_drew, HT.out.rows.c0 _ hi']; rfl
    · rw [show i * 4 + j = (i + j / 4) * 4 + 1 by omega, World.cell?_drew, HT.out.rows.c1 _ hi']; rfl
    · rw [show i * 4 + j = (i + j / 4) * 4 + 2 by omega, World.cell?_drew, HT.out.rows.c2 _ hi']; rfl
    · rw [show i * 4 + j = (i + j / 4) * 4 + 3 by omega, World.cell?_drew, HT.out.rows.c3 _ hi']; rfl) (fun j _ => HT.out.rows.fz _) ty
  have HRUN := Lib.hid hrun
  have HF := Lib.hid (rows_clear HT.out.rows.drew i m him)
  have HGF := Lib.hid (grown_trans (grown_none HG2.out) (grown_trans (grown_drew1 (grown_refl w2 _)) (grown_setCells q (List.replicate (m * 4) (.int .i64 0)) (i * 4) w2.drew)))
  have HTB := Lib.hid (TabAt.mk (cap := cap) (HGF.out.cell (grown_none (r := some q) (grown_refl w none) |>.cell H.out.c (by simpa using hnp)) (by simpa using hnp)) HF.out hnp hcap hn256 hok.out)
  clear hrun HK H HF
  have q1 : IntKind.i64.wrap ((i : Int) + m) = (i : Int) + m := IntWalk.i64_in _ (by omega)
  have q2 : (0 : Int) ≤ (i : Int) + m := by omega
  have q3 : ((i : Int) + m).toNat = i + m := by omega
  have q4 : i + m - i = m := by omega
  have q5 : i ≤ i + m := by omega
  go_wp2_with fail
  go_region_law (refine step_clear rfl _ _ rfl _ rfl HRUN.out ?_)
  all_goals
    clear q1 q2 q3 q4 q5
    go_wp2
    go_ret
    exact ⟨rfl, HTB.out, HGF.out⟩

theorem unmap_first {w : World} {p q n cap : Nat} {R : Nat → Pg.Row} (h : TabAt w p q n cap R) (i : Nat) (hi : i < n) (hh : Pg.isHead (R i) = true) :
    Calls Tryz.prog 67 #[.pointer (some ⟨p, 0, none⟩), .int .i64 i] w fun e w' => e = .returned (.int .i64 0) ∧ TabAt w' p q n cap (Pg.clr R i (R i).r.toNat) ∧ w.grownBy w' (some q) :=
  unmap_core h i hi hh _ (by have := (h.ok.headr hi hh).1; omega)
theorem unmap_other {w : World} {p q n cap : Nat} {R : Nat → Pg.Row} (h : TabAt w p q n cap R) (i : Int) (hh : Pg.isHead (getR R n i) = false) :
    Calls Tryz.prog 67 #[.pointer (some ⟨p, 0, none⟩), .int .i64 i] w fun e w' => e = .returned (.int .i64 6) ∧ w.grownBy w' none :=
  unmap_none p i _ w hh (prow_at h i)
set_option maxHeartbeats 400000 in
theorem unmap_nil (i : Int) (w : World) :
    Calls Tryz.prog 67 #[.pointer none, .int .i64 i] w fun e w' => e = .returned (.int .i64 2) ∧ w = w' := by
  go_enter Tryz.func67, Tryz.ntmps67
  go_wp2
  go_ret
  exact ⟨rfl, rfl⟩

theorem run_make_rowN {P : Program} (t e : TypeId) (i : TypeInfo) (z : Value) (ht : P.underlying t = some (.slice e)) (hi : P.info? e = some i) (hz : i.zero = some z)
    (kl kc : IntKind) (n c : Nat) (hnc : n ≤ c) (hbytes : i.bytes * c ≤ 281474976710656) (h63 : c ≤ 9223372036854775807) (w : World) :
    (Instr.makeSlice t (.int kl (n : Int)) (.int kc (c : Int))).run P w = .ok (.slice (some ⟨w.heap.size, 0, none⟩) n c) (w.alloc (.cells (madeCells z.cells (c * i.size)) e)) := by
  have hb : (i.bytes : Int) * (c : Int) ≤ 281474976710656 := by
    have h : ((i.bytes * c : Nat) : Int) ≤ 281474976710656 := by omega
    rwa [Int.natCast_mul] at h
  have hr := run_make (P := P) w t e i z ht hi hz kl kc n c (by omega) (by omega) hb (by omega)
  simp only [Int.toNat_natCast] at hr
  exact hr

theorem infoRow : (Tryz.prog.info? 75).map (fun i => (i.zero, i.size, i.bytes)) = some (some (.agg #[.int .i64 0, .int .i64 0, .int .i64 0, .int .i64 0]), 4, 32) := by kernel_rfl
theorem infoRRow : (Tryz.prog.info? 161).map (fun i => (i.zero, i.size, i.bytes)) = some (some (.agg #[.int .i64 0, .int .i64 0, .int .i64 0, .int .i64 0]), 4, 32) := by kernel_rfl

/-- n rows of noughts. -/
def zeroRows (n : Nat) : Array Value := madeCells (Value.agg #[.int .i64 0, .int .i64 0, .int .i64 0, .int .i64 0]).cells (n * 4)
theorem zeroRows_at (n k : Nat) (h : k < n * 4) : (zeroRows n)[k]? = some (.int .i64 0) := by
  have h4 : ∀ i, i < 4 → (#[Value.int .i64 0, .int .i64 0, .int .i64 0, .int .i64 0] : Array Value)[i]! = .int .i64 0 := by
    intro i hi
    match i, hi with
    | 0, _ => rfl
    | 1, _ => rfl
    | 2, _ => rfl
    | 3, _ => rfl
  have := h4 (k % 4) (Nat.mod_lt _ (by omega))
  simp [zeroRows, madeCells, Value.cells, h]
  simpa using this
theorem rows_new (w : World) (t : TypeId) (n : Nat) : RowsAt (w.alloc (.cells (zeroRows n) t)) w.heap.size n (fun _ => Pg.zero) where
  c0 := fun i hi => by rw [cell_alloc_new]; exact zeroRows_at n _ (by omega)
  c1 := fun i hi => by rw [cell_alloc_new]; exact zeroRows_at n _ (by omega)
  c2 := fun i hi => by rw [cell_alloc_new]; exact zeroRows_at n _ (by omega)
  c3 := fun i hi => by rw [cell_alloc_new]; exact zeroRows_at n _ (by omega)
  fz := fun k => frozen_alloc_new ..
  qlt := by simp
theorem make_rows (w : World) (n : Nat) (hn : n ≤ 256) : (Instr.makeSlice 116 (.int .i64 (n : Int)) (.int .i64 (n : Int))).run Tryz.prog w =
    .ok (.slice (some ⟨w.heap.size, 0, none⟩) n n) (w.alloc (.cells (zeroRows n) 75)) := by
  obtain ⟨i0, hi, hz0, hz1, hz2⟩ := info_parts infoRow
  have h := run_make_rowN (P := Tryz.prog) 116 75 i0 _ Tryz.underlying116 hi hz0 .i64 .i64 n n (Nat.le_refl _) (by rw [hz2]; omega) (by omega) w
  rw [hz1] at h
  exact h
theorem make_rrows (w : World) (n : Nat) (hn : n ≤ 256) : (Instr.makeSlice 42 (.int .i64 (n : Int)) (.int .i64 (n : Int))).run Tryz.prog w =
    .ok (.slice (some ⟨w.heap.size, 0, none⟩) n n) (w.alloc (.cells (zeroRows n) 161)) := by
  obtain ⟨i0, hi, hz0, hz1, hz2⟩ := info_parts infoRRow
  have h := run_make_rowN (P := Tryz.prog) 42 161 i0 _ Tryz.underlying42 hi hz0 .i64 .i64 n n (Nat.le_refl _) (by rw [hz2]; omega) (by omega) w
  rw [hz1] at h
  exact h

/-- A new table: the object and its rows lie in new blocks; nothing that was there has turned. -/
def PMade (w w' : World) (n : Nat) (R : Nat → Pg.Row) (e : Ending) : Prop :=
  ∃ p q cap, e = .returned (.pointer (some ⟨p, 0, none⟩)) ∧ TabAt w' p q n cap R ∧ w.heap.size ≤ p ∧ w.heap.size ≤ q ∧ w.grownBy w' none

theorem pnew_made (w : World) (n : Nat) (hn : n ≤ 256) :
    PMade w ((w.alloc (.cells (zeroRows n) 75)).alloc (.cells #[.slice (some ⟨w.heap.size, 0, none⟩) n n] 128)) n (fun _ => Pg.zero) (.returned (.pointer (some ⟨w.heap.size + 1, 0, none⟩))) := by
  have hs : (w.alloc (.cells (zeroRows n) 75)).heap.size = w.heap.size + 1 := by simp
  have g := grown_alloc (w.alloc (.cells (zeroRows n) 75)) (.cells #[.slice (some ⟨w.heap.size, 0, none⟩) n n] 128) none
  refine ⟨w.heap.size + 1, w.heap.size, n, rfl, ⟨?_, (rows_new w _ n).grown g (by simp), by omega, Nat.le_refl _, hn, Pg.ok_new n⟩, by omega, Nat.le_refl _, grown_trans (grown_alloc _ _ _) g⟩
  rw [← hs, cell_alloc_new]
  rfl

/-- How many pages are made of a number. -/
def clamp256 (n : Int) : Nat := if n < 0 then 0 else if n ≤ 256 then n.toNat else 256
theorem clamp256_le (n : Int) : clamp256 n ≤ 256 := by unfold clamp256; split <;> (try split) <;> omega
theorem clamp256_is (n : Int) : (n < 0 ∧ clamp256 n = 0) ∨ (0 ≤ n ∧ n ≤ 256 ∧ (clamp256 n : Int) = n) ∨ (256 < n ∧ clamp256 n = 256) := by unfold clamp256; split <;> (try split) <;> omega

set_option maxHeartbeats 800000 in
theorem pnew_neg (n : Int) (w : World) (h : n < 0) :
    Calls Tryz.prog 75 #[.int .i64 n] w fun e w' => PMade w w' 0 (fun _ => Pg.zero) e := by
  have hmk : (Instr.makeSlice 116 (.int .i64 0) (.int .i64 0)).run Tryz.prog w = .ok (.slice (some ⟨w.heap.size, 0, none⟩) 0 0) (w.alloc (.cells (zeroRows 0) 75)) := make_rows w 0 (by omega)
  have HM := Lib.hid (pnew_made w 0 (by omega))
  generalize zeroRows 0 = z at *
  go_enter Tryz.func75, Tryz.ntmps75
  go_wp2
  go_ret
  exact HM.out
set_option maxHeartbeats 800000 in
theorem pnew_big (n : Int) (w : World) (h : 256 < n) :
    Calls Tryz.prog 75 #[.int .i64 n] w fun e w' => PMade w w' 256 (fun _ => Pg.zero) e := by
  have hmk : (Instr.makeSlice 116 (.int .i64 256) (.int .i64 256)).run Tryz.prog w = .ok (.slice (some ⟨w.heap.size, 0, none⟩) 256 256) (w.alloc (.cells (zeroRows 256) 75)) := make_rows w 256 (by omega)
  have HM := Lib.hid (pnew_made w 256 (by omega))
  have h0 : 0 < n := by omega
  generalize zeroRows 256 = z at *
  go_enter Tryz.func75, Tryz.ntmps75
  go_wp2
  go_ret
  exact HM.out
set_option maxHeartbeats 800000 in
theorem pnew_mid (n : Nat) (w : World) (h : n ≤ 256) :
    Calls Tryz.prog 75 #[.int .i64 n] w fun e w' => PMade w w' n (fun _ => Pg.zero) e := by
  have hmk := make_rows w n h
  have HM := Lib.hid (pnew_made w n h)
  have h0 : 0 ≤ (n : Int) := by omega
  have h1 : (n : Int) ≤ 256 := by omega
  generalize zeroRows n = z at *
  go_enter Tryz.func75, Tryz.ntmps75
  go_wp2
  go_ret
  exact HM.out
theorem pnew_at (n : Int) (w : World) :
    Calls Tryz.prog 75 #[.int .i64 n] w fun e w' => PMade w w' (clamp256 n) (fun _ => Pg.zero) e := by
  rcases clamp256_is n with ⟨h, e⟩ | ⟨h0, h1, e⟩ | ⟨h, e⟩
  · rw [e]; exact pnew_neg n w h
  · obtain ⟨k, rfl⟩ : ∃ k : Nat, n = k := ⟨n.toNat, by omega⟩
    rw [show clamp256 (k : Int) = k by omega]
    exact pnew_mid k w (by omega)
  · rw [e]; exact pnew_big n w h

end Go.Proofs.YtgnfcklippjeeaaGreat.Pt

/- The walks of what copies rows: slices.Clone over rows, a table's Copy. -/
namespace Go.Proofs.YtgnfcklippjeeaaGreat.Pt
open Go.RowKit

theorem addr_add (q j : Nat) : (⟨q, 0, none⟩ : Addr).add j = ⟨q, j, none⟩ := by
  by_cases h : j = 0
  · subst h; rfl
  · simp [Addr.add, h]

/-- The cells of a row. -/
def rcell (x : Pg.Row) (j : Nat) : Value := if j = 0 then .int .i64 x.k else if j = 1 then .int .i64 x.c else if j = 2 then .int .i64 x.o else .int .i64 x.r
/-- The cells of n rows. -/
def rcells (R : Nat → Pg.Row) (n : Nat) : List Value := (List.range (n * 4)).map fun i => rcell (R (i / 4)) (i % 4)
theorem rcells_length (R : Nat → Pg.Row) (n : Nat) : (rcells R n).length = n * 4 := by simp [rcells]
theorem rcells_at (R : Nat → Pg.Row) (n i : Nat) (h : i < n * 4) : (rcells R n)[i]? = some (rcell (R (i / 4)) (i % 4)) := by simp [rcells, h]
theorem rcells_one (R : Nat → Pg.Row) (n : Nat) : ∀ u ∈ rcells R n, u.oneCell' = true := by
  intro u hu
  obtain ⟨i, _, rfl⟩ := List.mem_map.1 hu
  unfold rcell
  split
  · rfl
  · split
    · rfl
    · split <;> rfl
theorem RowsAt.cell {w : World} {q n : Nat} {R : Nat → Pg.Row} (h : RowsAt w q n R) (i : Nat) (hi : i < n * 4) : w.cell? ⟨q, i, none⟩ = some (rcell (R (i / 4)) (i % 4)) := by
  have h4 : i / 4 < n := by omega
  rcases (by omega : i % 4 = 0 ∨ i % 4 = 1 ∨ i % 4 = 2 ∨ i % 4 = 3) with e | e | e | e
  · have := h.c0 _ h4; rw [show i / 4 * 4 = i by omega] at this; rw [this, e]; rfl
  · have := h.c1 _ h4; rw [show i / 4 * 4 + 1 = i by omega] at this; rw [this, e]; rfl
  · have := h.c2 _ h4; rw [show i / 4 * 4 + 2 = i by omega] at this; rw [this, e]; rfl
  · have := h.c3 _ h4; rw [show i / 4 * 4 + 3 = i by omega] at this; rw [this, e]; rfl
theorem rows_of_cells {w : World} {q n : Nat} {R : Nat → Pg.Row} (h : ∀ i, i < n * 4 → w.cell? ⟨q, i, none⟩ = some (rcell (R (i / 4)) (i % 4))) (hf : ∀ k, w.frozen? ⟨q, k, none⟩ = false) (hq : q < w.heap.size) : RowsAt w q n R where
  c0 := fun i hi => by rw [h _ (by omega), show i * 4 / 4 = i by omega, show i * 4 % 4 = 0 by omega]; rfl
  c1 := fun i hi => by rw [h _ (by omega), show (i * 4 + 1) / 4 = i by omega, show (i * 4 + 1) % 4 = 1 by omega]; rfl
  c2 := fun i hi => by rw [h _ (by omega), show (i * 4 + 2) / 4 = i by omega, show (i * 4 + 2) % 4 = 2 by omega]; rfl
  c3 := fun i hi => by rw [h _ (by omega), show (i * 4 + 3) / 4 = i by omega, show (i * 4 + 3) % 4 = 3 by omega]; rfl
  fz := hf
  qlt := hq

/-- A slice of rows of the call's own. -/
def PRows (w w' : World) (n : Nat) (R : Nat → Pg.Row) (e : Ending) : Prop :=
  ∃ q cap, e = .returned (.slice (some ⟨q, 0, none⟩) n cap) ∧ n ≤ cap ∧ w.heap.size ≤ q ∧ RowsAt w' q n R ∧ w.grownBy w' none

theorem prows_end (T : TypeId) (w w' : World) (n : Nat) (R : Nat → Pg.Row) (v : Value) (hown : w'.ownsRow w.heap.size T 4 v n (rcells R n)) (hg : w.grownBy w' none) (hv : v ≠ .slice none 0 0) : PRows w w' n R (.returned v) := by
  obtain ⟨-, hn | ⟨g, cap, cur, rfl, hbg, hh, hnc, hcm, hcs, htake⟩⟩ := hown
  · exact absurd hn.1 hv
  · refine ⟨g, cap, rfl, hnc, hbg, rows_of_cells (fun i hi => ?_) (fun k => ?_) (Array.getElem?_eq_some_iff.1 hh).1, hg⟩
    · have e : w'.cell? ⟨g, i, none⟩ = cur[i]? := by simp only [World.cell?, hh]; rfl
      have t := congrArg (fun l => l[i]?) htake
      simp only [List.getElem?_take, hi, if_true, Array.getElem?_toList] at t
      rw [e, t, rcells_at R n i hi]
    · simp only [World.frozen?, hh]
      simp

end Go.Proofs.YtgnfcklippjeeaaGreat.Pt

/- The walks of the reference's In, First, May, New, Place, Head. -/
namespace Go.Proofs.YtgnfcklippjeeaaGreat.Pt
open Go.RowKit

set_option maxHeartbeats 400000 in
theorem in_at (k lo hi : Int) (b : Bool) (w : World) (hb : b = true ↔ lo ≤ k ∧ k < hi) :
    Calls Tryz.prog 157 #[.int .i64 k, .int .i64 lo, .int .i64 hi] w fun e w' => e = .returned (.bool b) ∧ w = w' := by
  cases b with
  | true =>
    obtain ⟨h1, h2⟩ := hb.1 rfl
    clear hb
    go_enter Tryz.func157, Tryz.ntmps157
    go_wp2
    go_ret
    exact ⟨rfl, rfl⟩
  | false =>
    have h : ¬ (lo ≤ k ∧ k < hi) := fun x => by have := hb.2 x; cases this
    clear hb
    by_cases h1 : lo ≤ k
    · have h2 : decide (k < hi) = false := by simp; omega
      clear h
      go_enter Tryz.func157, Tryz.ntmps157
      go_wp2
      go_ret
      exact ⟨rfl, rfl⟩
    · have h2 : decide (lo ≤ k) = false := by simp; omega
      clear h h1
      go_enter Tryz.func157, Tryz.ntmps157
      go_wp2
      go_ret
      exact ⟨rfl, rfl⟩

/-- New rows of the call's own. -/
theorem rnew_rows (w : World) (n : Nat) : PRows w (w.alloc (.cells (zeroRows n) 161)) n (fun _ => Pg.zero) (.returned (.slice (some ⟨w.heap.size, 0, none⟩) n n)) :=
  ⟨_, n, rfl, Nat.le_refl _, Nat.le_refl _, rows_new w _ n, grown_alloc _ _ _⟩

set_option maxHeartbeats 800000 in
theorem rnew_neg (n : Int) (w : World) (h : n < 0) :
    Calls Tryz.prog 102 #[.int .i64 n] w fun e w' => PRows w w' 0 (fun _ => Pg.zero) e := by
  have hmk : (Instr.makeSlice 42 (.int .i64 0) (.int .i64 0)).run Tryz.prog w = .ok (.slice (some ⟨w.heap.size, 0, none⟩) 0 0) (w.alloc (.cells (zeroRows 0) 161)) := make_rrows w 0 (by omega)
  have HM := Lib.hid (rnew_rows w 0)
  generalize zeroRows 0 = z at *
  go_enter Tryz.func102, Tryz.ntmps102
  go_wp2
  go_ret
  exact HM.out
set_option maxHeartbeats 800000 in
theorem rnew_big (n : Int) (w : World) (h : 256 < n) :
    Calls Tryz.prog 102 #[.int .i64 n] w fun e w' => PRows w w' 256 (fun _ => Pg.zero) e := by
  have hmk : (Instr.makeSlice 42 (.int .i64 256) (.int .i64 256)).run Tryz.prog w = .ok (.slice (some ⟨w.heap.size, 0, none⟩) 256 256) (w.alloc (.cells (zeroRows 256) 161)) := make_rrows w 256 (by omega)
  have HM := Lib.hid (rnew_rows w 256)
  have h0 : ¬ n < 0 := by omega
  generalize zeroRows 256 = z at *
  go_enter Tryz.func102, Tryz.ntmps102
  go_wp2
  go_ret
  exact HM.out
set_option maxHeartbeats 800000 in
theorem rnew_mid (n : Nat) (w : World) (h : n ≤ 256) :
    Calls Tryz.prog 102 #[.int .i64 n] w fun e w' => PRows w w' n (fun _ => Pg.zero) e := by
  have hmk := make_rrows w n h
  have HM := Lib.hid (rnew_rows w n)
  have h0 : ¬ (n : Int) < 0 := by omega
  have h1 : ¬ 256 < (n : Int) := by omega
  generalize zeroRows n = z at *
  go_enter Tryz.func102, Tryz.ntmps102
  go_wp2
  go_ret
  exact HM.out
theorem rnew_at (n : Int) (w : World) : Calls Tryz.prog 102 #[.int .i64 n] w fun e w' => PRows w w' (clamp256 n) (fun _ => Pg.zero) e := by
  rcases clamp256_is n with ⟨h, e⟩ | ⟨h0, h1, e⟩ | ⟨h, e⟩
  · rw [e]; exact rnew_neg n w h
  · obtain ⟨k, rfl⟩ : ∃ k : Nat, n = k := ⟨n.toNat, by omega⟩
    rw [show clamp256 (k : Int) = k by omega]
    exact rnew_mid k w (by omega)
  · rw [e]; exact rnew_big n w h

/-- What Place answers. -/
def PlaceRes (F : Nat → Prop) (m : Nat) (w : World) (e : Ending) (w' : World) : Prop := ∃ x : Int, e = .returned (.int .i64 x) ∧ Pg.Place F m x ∧ w = w'

set_option maxRecDepth 100000 in
set_option maxHeartbeats 4000000 in
theorem place_at (q n cap m : Nat) (R : Nat → Pg.Row) (lo hi : Int) (w : World) (hn : n ≤ 256) (hm1 : 1 ≤ m) (hm : m ≤ 257) (hrow : RowsAt w q n R) :
    Calls Tryz.prog 104 #[.slice (some ⟨q, 0, none⟩) n cap, .int .i64 lo, .int .i64 hi, .int .i64 m] w (PlaceRes (Pg.Fr R n lo hi) m w) := by
  have HR := Lib.hid hrow
  clear hrow
  go_enter Tryz.func104, Tryz.ntmps104
  go_wp2_with fail
  go_loop [9, 10, 11, 14] (fun _ _ _ i => ∃ k : Nat, k ≤ n ∧ i = .int .i64 k ∧ ∀ j, j < k → ¬ Pg.Run (Pg.Fr R n lo hi) j m) (fun _ _ _ i => n - (intOf i).toNat)
  case atStart => exact ⟨0, Nat.zero_le _, rfl, fun j hj => by omega⟩
  case round =>
    obtain ⟨k, hk, rfl, hno⟩ := hrel
    have HNO := Lib.hid hno
    clear hno
    by_cases hlt : k < n
    · obtain ⟨b0, hb0⟩ : ∃ b0 : Bool, b0 = true ↔ (m : Int) ≤ n - k := ⟨decide ((m : Int) ≤ n - k), by simp⟩
      have HB0 := Lib.hid hb0
      clear hb0
      go_upto_region 4 with (fail)
      go_cut [10] (fun s wx => s = .bool b0 ∧ wx = w)
      case first =>
        have hk2 : k ≤ 256 := by omega
        go_wp2
        go_meet
        exact ⟨by congr 1; rw [Bool.eq_iff_iff, HB0.out]; simp, rfl⟩
      case rest =>
        obtain ⟨rfl, rfl⟩ := hcut
        go_wp2_with fail
        go_loop [10, 11] (fun s i => ∃ (j : Nat) (b : Bool), j ≤ m ∧ i = .int .i64 ((k : Int) + j) ∧ s = .bool b ∧ (b = true → k + m ≤ n ∧ ∀ x, k ≤ x → x < k + j → Pg.Fr R n lo hi x) ∧ (b = false → ¬ Pg.Run (Pg.Fr R n lo hi) k m)) (fun _ i => k + m - (intOf i).toNat)
        case atStart => exact ⟨0, b0, Nat.zero_le _, vint (by omega), rfl, fun h => ⟨by have := HB0.out.1 h; omega, fun x _ _ => by omega⟩, fun h hr => by
          have := (hr (k + m - 1) (by omega) (by omega)).1
          have := HB0.out.2 (by omega)
          rw [h] at this
          cases this⟩
        case round =>
          obtain ⟨j, b, hj, rfl, rfl, hyes, hnob⟩ := hrel
          have HY := Lib.hid hyes
          have HN := Lib.hid hnob
          clear hyes hnob
          have hk2 : k ≤ 256 := by omega
          have hj2 : j ≤ 257 := by omega
          cases b with
          | false =>
            have HX := Lib.hid (HN.out rfl)
            go_wp2
            go_round
            case rel => exact ⟨k + 1, by omega, by go_num, fun j hj => by
              by_cases e : j = k
              · subst e; exact HX.out
              · exact HNO.out j (by omega)⟩
            case measure => simp [intOf]; omega
          | true =>
            by_cases hjm : j < m
            · have hjm' : (k : Int) + j < k + m := by omega
              obtain ⟨hkm, hall⟩ := HY.out rfl
              have HA := Lib.hid hall
              clear hall
              have hx : k + j < n := by omega
              have hx' : (k : Int) + j < n := by omega
              by_cases hio : lo ≤ (k : Int) + j ∧ (k : Int) + j < hi
              · have HI := Lib.hid (in_at ((k : Int) + j) lo hi true wc ⟨fun _ => hio, fun _ => rfl⟩)
                have d0 := HR.out.c0 _ hx
                have d1 := HR.out.c1 _ hx
                have d2 := HR.out.c2 _ hx
                have d3 := HR.out.c3 _ hx
                have HIO := Lib.hid hio
                clear hio
                by_cases hz : Pg.isZero (R (k + j)) = true
                · have HF := Lib.hid (show Pg.Fr R n lo hi (k + j) from ⟨hx, by have := HIO.out.1; omega, by have := HIO.out.2; omega, hz⟩)
                  have hx0 := (Pg.isZero_iff _).1 hz
                  rw [hx0] at d0 d1 d2 d3
                  clear hx0 hz
                  simp only [Pg.zero] at d0 d1 d2 d3
                  go_wp2_with (go_at_call 157; refine HI.out.mono ?_; rintro e w' ⟨rfl, rfl⟩)
                  go_round
                  case rel => exact ⟨j + 1, true, by omega, vint (by omega), rfl, fun _ => ⟨hkm, fun x h1 h2 => by
                    by_cases e : x = k + j
                    · subst e; exact HF.out
                    · exact HA.out x h1 (by omega)⟩, fun h => by cases h⟩
                  case measure => simp [intOf]; omega
                · have HZ := Lib.hid (show ¬ Pg.Run (Pg.Fr R n lo hi) k m from fun hr => hz (hr (k + j) (by omega) (by omega)).2.2.2)
                  have HX := Lib.hid (nz_row (x := R (k + j)) (by simpa using hz))
                  clear hz
                  generalize R (k + j) = x at *
                  obtain ⟨xk, xc, xo, xr⟩ := x
                  dsimp only at d0 d1 d2 d3
                  go_wp2_with (go_at_call 157; refine HI.out.mono ?_; rintro e w' ⟨rfl, rfl⟩)
                  all_goals
                    first
                    | (exfalso; exact HX.out ⟨‹xk = 0›, ‹xc = 0›, ‹xo = 0›, ‹xr = 0›⟩)
                    | (go_round
                       case rel => exact ⟨j + 1, false, by omega, vint (by omega), rfl, (fun h => by cases h), fun _ => HZ.out⟩
                       case measure => simp [intOf]; omega)
              · have HI := Lib.hid (in_at ((k : Int) + j) lo hi false wc ⟨(fun h => by cases h), fun h => absurd h hio⟩)
                have HZ := Lib.hid (show ¬ Pg.Run (Pg.Fr R n lo hi) k m from fun hr => hio (by have := hr (k + j) (by omega) (by omega); have h1 := this.2.1; have h2 := this.2.2.1; omega))
                clear hio
                go_wp2_with (go_at_call 157; refine HI.out.mono ?_; rintro e w' ⟨rfl, rfl⟩)
                go_round
                case rel => exact ⟨j + 1, false, by omega, vint (by omega), rfl, (fun h => by cases h), fun _ => HZ.out⟩
                case measure => simp [intOf]; omega
            · obtain rfl : j = m := by omega
              obtain ⟨hkm, hall⟩ := HY.out rfl
              have HA := Lib.hid hall
              clear hall
              have hjm' : ¬ (k : Int) + j < k + j := by omega
              go_wp2
              go_ret
              exact ⟨k, rfl, .inl ⟨k, rfl, fun i h1 h2 => HA.out i h1 h2, HNO.out⟩, rfl⟩
    · obtain rfl : k = n := by omega
      go_wp2
      go_ret
      exact ⟨-1, rfl, .inr ⟨rfl, fun j hr => by
        by_cases hjk : j < k
        · exact HNO.out j hjk hr
        · have := (hr j (Nat.le_refl _) (by omega)).1
          omega⟩, rfl⟩
end Go.Proofs.YtgnfcklippjeeaaGreat.Pt

/- The walks of the reference's Lay and Clear; of the law's ours and Same. -/
namespace Go.Proofs.YtgnfcklippjeeaaGreat.Pt
open Go.RowKit

/-- Rows of which m from a on are x. -/
def fillK (R : Nat → Pg.Row) (a m : Nat) (x : Pg.Row) : Nat → Pg.Row := fun i => if a ≤ i ∧ i < a + m then x else R i
theorem fillK_zero (R : Nat → Pg.Row) (a : Nat) (x : Pg.Row) : fillK R a 0 x = R := by
  funext i
  unfold fillK
  rw [if_neg (by omega)]
theorem fillK_succ (R : Nat → Pg.Row) (a m : Nat) (x : Pg.Row) (i : Nat) : fillK R a (m + 1) x i = if i = a + m then x else fillK R a m x i := by
  unfold fillK
  by_cases g : i = a + m
  · rw [if_pos g, if_pos (by omega)]
  · rw [if_neg g]
    by_cases k : a ≤ i ∧ i < a + m
    · rw [if_pos k, if_pos (by omega)]
    · rw [if_neg k, if_neg (by omega)]
theorem fillK_lay (R : Nat → Pg.Row) (a m : Nat) (x : Pg.Row) (h : (m : Int) = x.r) (i : Nat) : Pg.lay R a x i = if i = a then x else fillK R a m Pg.tail i := by
  unfold Pg.lay fillK
  by_cases g : i = a
  · rw [if_pos g, if_pos g]
  · rw [if_neg g, if_neg g]
    by_cases k : a ≤ i ∧ i < a + m
    · rw [if_pos k, if_pos (by omega)]
    · rw [if_neg k, if_neg (by omega)]

set_option maxRecDepth 100000 in
set_option maxHeartbeats 4000000 in
theorem rlay_at (q n cap at_ m : Nat) (R : Nat → Pg.Row) (a b c : Int) (w : World) (hn : n ≤ 256) (h1 : 1 ≤ m) (hm : at_ + m ≤ n) (hrow : RowsAt w q n R) :
    Calls Tryz.prog 105 #[.slice (some ⟨q, 0, none⟩) n cap, .int .i64 at_, .agg #[.int .i64 a, .int .i64 b, .int .i64 c, .int .i64 m]] w fun e w' => PRows w w' n (Pg.lay R at_ ⟨a, b, c, m⟩) e := by
  have HR := Lib.hid hrow
  clear hrow
  obtain ⟨i0, hi, hz0, hz1, hz2⟩ := info_parts infoRRow
  have hat : at_ ≤ 256 := by omega
  have hm2 : m ≤ 256 := by omega
  have hat3 : (at_ : Int) < n := by omega
  go_enter Tryz.func105, Tryz.ntmps105
  go_upto_region 0 with (fail)
  go_cut [5, 6] (fun s5 s6 wx => s5 = .pointer (some ⟨w.heap.size, 0, none⟩) ∧ s6 = .slice none 0 0 ∧ wx.cell? ⟨w.heap.size, 0, none⟩ = some (.int .i64 a) ∧ wx.cell? ⟨w.heap.size, 1, none⟩ = some (.int .i64 b) ∧ wx.cell? ⟨w.heap.size, 2, none⟩ = some (.int .i64 c) ∧ wx.cell? ⟨w.heap.size, 3, none⟩ = some (.int .i64 m) ∧ w.heap.size < wx.heap.size ∧ w.grownBy wx none)
  case first =>
    go_wp2
    go_meet
    exact ⟨rfl, rfl, by rw [cell_alloc_new]; rfl, by rw [cell_alloc_new]; rfl, by rw [cell_alloc_new]; rfl, by rw [cell_alloc_new]; rfl, by simp, grown_alloc _ _ _⟩
  case rest =>
  obtain ⟨rfl, rfl, e0, e1, e2, e3, hsz, hgb⟩ := hcut
  have HGB := Lib.hid hgb
  have HR2 := Lib.hid (HR.out.grown hgb (by simp))
  obtain ⟨ob, hob⟩ : ∃ ob, ob = w.heap.size := ⟨_, rfl⟩
  rw [← hob] at e0 e1 e2 e3 hsz ⊢
  have HOB := Lib.hid hob
  have hql := HR.out.qlt
  clear hgb hob HR
  obtain ⟨w0, rfl⟩ : ∃ w0 : World, w0 = wc := ⟨_, rfl⟩
  go_wp2_with (at_builtin; refine wpList_append_own _ rfl _ _ 42 rfl w0.heap.size 161 i0 (.agg #[.int .i64 0, .int .i64 0, .int .i64 0, .int .i64 0]) 4 32 Tryz.underlying42 hi hz0 hz1 hz2 rfl (by decide) _ _ _ rfl (World.ownsRow_made w0 #[] 0 (Nat.le_refl _) (Nat.zero_le _) rfl) ⟨q, 0, none⟩ n cap (rcells R n) rfl ?c1 ?c2 ?c3 ?c4 ?c5 ?c6 ?_)
  case c1 => exact rcells_length R n
  case c2 =>
    intro j u hj
    have hj' : j < n * 4 := by
      have := (List.getElem?_eq_some_iff.1 hj).1
      rwa [rcells_length] at this
    rw [rcells_at R n j hj'] at hj
    rw [addr_add]
    have h2 := (grown_alloc w0 (.cells #[] 161) none).cell (HR2.out.cell j hj') (by simp)
    rw [← hj]
    exact h2
  case c3 => exact rcells_one R n
  case c4 => simp only [maxLen]; omega
  case c5 => omega
  case c6 => simp
  intro v' w1 hown hgrow hiff
  have hv : v' ≠ .slice none 0 0 := fun e => hiff e
  obtain ⟨q1, cap1, hv1, k1, k2, k3, k4⟩ := prows_end _ w0 w1 n R v' (by simpa using hown) (grown_own (grown_alloc w0 _ none) hgrow (Nat.le_refl _)) hv
  obtain rfl : v' = .slice (some ⟨q1, 0, none⟩) n cap1 := by injection hv1
  clear hown hgrow hiff hv hv1 hz0 hz1 hz2 hi
  have e3' := k4.cell e3 (by simp)
  have e0' := k4.cell e0 (by simp)
  have e1' := k4.cell e1 (by simp)
  have e2' := k4.cell e2 (by simp)
  have K := Lib.hid (And.intro k1 (And.intro k2 (And.intro k3 k4)))
  have hoq : ob ≠ q1 := by omega
  have hk1 : (n : Int) ≤ cap1 := by omega
  have hq1 := k2
  clear k1 k2 k3 k4 e0 e1 e2 e3
  obtain ⟨w2, rfl⟩ : ∃ w2 : World, w2 = w1 := ⟨_, rfl⟩
  go_wp2_with fail
  go_loopw [8] (fun i wr => ∃ k : Nat, k ≤ m ∧ i = .int .i64 ((at_ : Int) + k) ∧ RowsAt wr q1 n (fillK R at_ k Pg.tail) ∧ w2.grownBy wr (some q1)) (fun i _ => at_ + m - (intOf i).toNat)
  case atStart => exact ⟨0, Nat.zero_le _, vint (by omega), by rw [fillK_zero]; exact K.out.2.2.1, grown_refl _ _⟩
  case round =>
    obtain ⟨k, hk, rfl, hr, hg⟩ := hrel
    have HRK := Lib.hid hr
    have HG := Lib.hid hg
    have f3 := hg.cell e3' (by simp; omega)
    clear hr hg
    have hk256 : k ≤ 256 := by omega
    by_cases hlt : k < m
    · have hlt' : (at_ : Int) + k < at_ + m := by omega
      have hj : at_ + k < n := by omega
      have hj' : (at_ : Int) + k < n := by omega
      have d0 := HRK.out.c0 _ hj
      have d1 := HRK.out.c1 _ hj
      have d2 := HRK.out.c2 _ hj
      have d3 := HRK.out.c3 _ hj
      have z0 := HRK.out.fz
      have HRN := Lib.hid (rows_set HRK.out (at_ + k) hj Pg.tail (fillK R at_ (k + 1) Pg.tail) (fun i _ => fillK_succ _ _ _ _ i))
      have HGN := Lib.hid (grown_trans HG.out (grown_setRow wr q1 (at_ + k) Pg.tail))
      go_wp2
      go_roundw
      case rel => exact ⟨k + 1, by omega, vint (by omega), HRN.out, HGN.out⟩
      case measure => simp [intOf]; omega
    · obtain rfl : k = m := by omega
      have hlt' : ¬ (at_ : Int) + k < at_ + k := by omega
      have f0 := HG.out.cell e0' (by simp; omega)
      have f1 := HG.out.cell e1' (by simp; omega)
      have f2 := HG.out.cell e2' (by simp; omega)
      have hj : at_ < n := by omega
      have d0 := HRK.out.c0 _ hj
      have d1 := HRK.out.c1 _ hj
      have d2 := HRK.out.c2 _ hj
      have d3 := HRK.out.c3 _ hj
      have z0 := HRK.out.fz
      have HRN := Lib.hid (rows_set HRK.out at_ hj ⟨a, b, c, k⟩ (Pg.lay R at_ ⟨a, b, c, k⟩) (fun i _ => fillK_lay R at_ k ⟨a, b, c, k⟩ rfl i))
      have HGN := Lib.hid (grown_own HGB.out (grown_own K.out.2.2.2 (grown_trans HG.out (grown_setRow wr q1 at_ ⟨a, b, c, k⟩)) K.out.2.1 |> grown_none (r := some q1)) (Nat.le_trans HGB.out.size K.out.2.1))
      go_wp2
      go_ret
      exact ⟨q1, cap1, rfl, K.out.1, Nat.le_trans HGB.out.size K.out.2.1, HRN.out, HGN.out⟩

set_option maxRecDepth 100000 in
set_option maxHeartbeats 4000000 in
theorem rclear_at (q n cap at_ m : Nat) (R : Nat → Pg.Row) (w : World) (hn : n ≤ 256) (h1 : 1 ≤ m) (hm : at_ + m ≤ n) (hmr : (R at_).r = m) (hrow : RowsAt w q n R) :
    Calls Tryz.prog 111 #[.slice (some ⟨q, 0, none⟩) n cap, .int .i64 at_] w fun e w' => PRows w w' n (Pg.clr R at_ m) e := by
  have HR := Lib.hid hrow
  clear hrow
  obtain ⟨i0, hi, hz0, hz1, hz2⟩ := info_parts infoRRow
  have hat : at_ ≤ 256 := by omega
  have hm2 : m ≤ 256 := by omega
  have hat3 : (at_ : Int) < n := by omega
  have HMR := Lib.hid hmr
  clear hmr
  go_enter Tryz.func111, Tryz.ntmps111
  obtain ⟨w0, rfl⟩ : ∃ w0 : World, w0 = w := ⟨_, rfl⟩
  go_wp2_with (at_builtin; refine wpList_append_own _ rfl _ _ 42 rfl w0.heap.size 161 i0 (.agg #[.int .i64 0, .int .i64 0, .int .i64 0, .int .i64 0]) 4 32 Tryz.underlying42 hi hz0 hz1 hz2 rfl (by decide) _ _ _ rfl (World.ownsRow_made w0 #[] 0 (Nat.le_refl _) (Nat.zero_le _) rfl) ⟨q, 0, none⟩ n cap (rcells R n) rfl ?c1 ?c2 ?c3 ?c4 ?c5 ?c6 ?_)
  case c1 => exact rcells_length R n
  case c2 =>
    intro j u hj
    have hj' : j < n * 4 := by
      have := (List.getElem?_eq_some_iff.1 hj).1
      rwa [rcells_length] at this
    rw [rcells_at R n j hj'] at hj
    rw [addr_add]
    have h2 := (grown_alloc w0 (.cells #[] 161) none).cell (HR.out.cell j hj') (by simp)
    rw [← hj]
    exact h2
  case c3 => exact rcells_one R n
  case c4 => simp only [maxLen]; omega
  case c5 => omega
  case c6 => simp
  intro v' w1 hown hgrow hiff
  have hv : v' ≠ .slice none 0 0 := fun e => hiff e
  obtain ⟨q1, cap1, hv1, k1, k2, k3, k4⟩ := prows_end _ w0 w1 n R v' (by simpa using hown) (grown_own (grown_alloc w0 _ none) hgrow (Nat.le_refl _)) hv
  obtain rfl : v' = .slice (some ⟨q1, 0, none⟩) n cap1 := by injection hv1
  clear hown hgrow hiff hv hv1 hz0 hz1 hz2 hi
  have e3 := k4.cell (HR.out.c3 at_ (by omega)) (by simp)
  rw [HMR.out] at e3
  have K := Lib.hid (And.intro k1 (And.intro k2 (And.intro k3 k4)))
  have hk1 : (n : Int) ≤ cap1 := by omega
  clear k1 k2 k3 k4
  obtain ⟨w2, rfl⟩ : ∃ w2 : World, w2 = w1 := ⟨_, rfl⟩
  go_wp2_with fail
  go_loopw [7] (fun i wr => ∃ k : Nat, k ≤ m ∧ i = .int .i64 ((at_ : Int) + k) ∧ RowsAt wr q1 n (fillK R at_ k Pg.zero) ∧ w2.grownBy wr (some q1)) (fun i _ => at_ + m - (intOf i).toNat)
  case atStart => exact ⟨0, Nat.zero_le _, vint (by omega), by rw [fillK_zero]; exact K.out.2.2.1, grown_refl _ _⟩
  case round =>
    obtain ⟨k, hk, rfl, hr, hg⟩ := hrel
    have HRK := Lib.hid hr
    have HG := Lib.hid hg
    clear hr hg
    have hk256 : k ≤ 256 := by omega
    by_cases hlt : k < m
    · have hlt' : (at_ : Int) + k < at_ + m := by omega
      have hj : at_ + k < n := by omega
      have hj' : (at_ : Int) + k < n := by omega
      have d0 := HRK.out.c0 _ hj
      have d1 := HRK.out.c1 _ hj
      have d2 := HRK.out.c2 _ hj
      have d3 := HRK.out.c3 _ hj
      have z0 := HRK.out.fz
      have HRN := Lib.hid (rows_set HRK.out (at_ + k) hj Pg.zero (fillK R at_ (k + 1) Pg.zero) (fun i _ => fillK_succ _ _ _ _ i))
      have HGN := Lib.hid (grown_trans HG.out (grown_setRow wr q1 (at_ + k) Pg.zero))
      go_wp2
      go_roundw
      case rel => exact ⟨k + 1, by omega, vint (by omega), HRN.out, HGN.out⟩
      case measure => simp [intOf]; omega
    · obtain rfl : k = m := by omega
      have hlt' : ¬ (at_ : Int) + k < at_ + k := by omega
      have HGN := Lib.hid (grown_own K.out.2.2.2 HG.out K.out.2.1)
      go_wp2
      go_ret
      exact ⟨q1, cap1, rfl, K.out.1, K.out.2.1, HRK.out, HGN.out⟩

end Go.Proofs.YtgnfcklippjeeaaGreat.Pt

/- The walks of the law's awake, and of PagesNil. -/
namespace Go.Proofs.YtgnfcklippjeeaaGreat.Pt
open Go.RowKit

/-- What Map answers when the place is known. -/
theorem map_place {w : World} {p q n cap : Nat} {R : Nat → Pg.Row} (h : TabAt w p q n cap R) (lo hi : Int) (x : Pg.Row) (hm : Pg.may x = true) (at_ : Nat) (hp : Pg.Place (Pg.Fr R n lo hi) x.r.toNat at_) :
    Calls Tryz.prog 84 #[.pointer (some ⟨p, 0, none⟩), .int .i64 lo, .int .i64 hi, .agg #[.int .i64 x.k, .int .i64 x.c, .int .i64 x.o, .int .i64 x.r]] w fun e w' => e = .returned (.tuple #[.int .i64 at_, .int .i64 0]) ∧ at_ + x.r ≤ n ∧ TabAt w' p q n cap (Pg.lay R at_ x) ∧ w.grownBy w' (some q) := by
  refine (map_at h lo hi x.k x.c x.o x.r).mono ?_
  intro e w' hr
  cases hr with
  | arg ha hg => exact absurd (hm.symm.trans ha) (by simp)
  | full ha hf hg => have := Pg.place_uniq hp hf; omega
  | ok ha a2 hf hn ht hg =>
    have : (at_ : Int) = a2 := Pg.place_uniq hp hf
    obtain rfl : at_ = a2 := by omega
    exact ⟨rfl, hn, ht, hg⟩
theorem map_noplace {w : World} {p q n cap : Nat} {R : Nat → Pg.Row} (h : TabAt w p q n cap R) (lo hi : Int) (x : Pg.Row) (hm : Pg.may x = true) (hp : Pg.Place (Pg.Fr R n lo hi) x.r.toNat (-1)) :
    Calls Tryz.prog 84 #[.pointer (some ⟨p, 0, none⟩), .int .i64 lo, .int .i64 hi, .agg #[.int .i64 x.k, .int .i64 x.c, .int .i64 x.o, .int .i64 x.r]] w fun e w' => e = .returned (.tuple #[.int .i64 0, .int .i64 5]) ∧ w.grownBy w' none := by
  refine (map_at h lo hi x.k x.c x.o x.r).mono ?_
  intro e w' hr
  cases hr with
  | arg ha hg => exact absurd (hm.symm.trans ha) (by simp)
  | full ha hf hg => exact ⟨rfl, hg⟩
  | ok ha a2 hf hn ht hg => have := Pg.place_uniq hp hf; omega
theorem head_owner {w : World} {p q n cap : Nat} {R : Nat → Pg.Row} (h : TabAt w p q n cap R) (i k : Nat) (hi : i < n) (hki : k ≤ i) (hh : Pg.isHead (R k) = true) (hr : (i : Int) < k + (R k).r) :
    Calls Tryz.prog 81 #[.pointer (some ⟨p, 0, none⟩), .int .i64 i] w fun e w' => e = .returned (.tuple #[.int .i64 k, .bool true]) ∧ w.grownBy w' none := by
  have hz : Pg.isZero (R i) = false := by
    cases hz : Pg.isZero (R i) with
    | false => rfl
    | true => exact (Pg.owner_zero h.ok hi hz hki hh hr).elim
  refine (head_some h i hi hz).mono ?_
  rintro e w' ⟨k2, rfl, h1, h2, h3, hg⟩
  obtain rfl := Pg.owner_uniq h.ok hi hki hh hr h1 h2 h3
  exact ⟨rfl, hg⟩

def awR : Nat → Pg.Row := Pg.lay (fun _ => Pg.zero) 1 ⟨2, 0, 0, 2⟩
theorem aw_place : Pg.Place (Pg.Fr (fun _ => Pg.zero) 4 1 4) 2 1 :=
  .inl ⟨1, rfl, fun i h1 h2 => ⟨by omega, by omega, by omega, rfl⟩, fun j hj hr => by have := (hr j (Nat.le_refl _) (by omega)).2.1; omega⟩
theorem aw0 : awR 0 = Pg.zero := by simp [awR, Pg.lay]
theorem aw1 : awR 1 = ⟨2, 0, 0, 2⟩ := by simp [awR, Pg.lay]
theorem aw2 : awR 2 = Pg.tail := by simp [awR, Pg.lay]
theorem aw3 : awR 3 = Pg.zero := by simp [awR, Pg.lay]
theorem aw_long : Pg.Longest (Pg.Fr awR 4 0 4) 1 := by
  refine ⟨fun _ => ⟨3, fun i h1 h2 => ?_⟩, fun k hr => ?_⟩
  · obtain rfl : i = 3 := by omega
    exact ⟨by omega, by omega, by omega, by rw [aw3]; rfl⟩
  · have h0 := hr k (Nat.le_refl _) (by omega)
    have h1 := hr (k + 1) (by omega) (by omega)
    have hk : k < 3 := by have := h1.1; omega
    rcases (by omega : k = 0 ∨ k = 1 ∨ k = 2) with rfl | rfl | rfl
    · have := h1.2.2.2; rw [aw1] at this; cases this
    · have := h0.2.2.2; rw [aw1] at this; cases this
    · have := h0.2.2.2; rw [aw2] at this; cases this

theorem quiet_left {P : Program} {f : FuncId} {args : Array Value} {w : World} {n : Nat} {v : Value}
    (h : Calls P f args (w.drewN n) fun e w' => e = .returned v ∧ w.drewN n = w') : Calls P f args (w.drewN n) fun e w'' => e = .returned v ∧ ∃ m, w'' = w.drewN m :=
  h.mono fun _ _ ⟨he, hm⟩ => ⟨he, n, hm.symm⟩

end Go.Proofs.YtgnfcklippjeeaaGreat.Pt
