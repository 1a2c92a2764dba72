/- Plain facts on rows of pages, of no program: what is free, stretches of free pages, what mapping and freeing leave. -/
namespace Go.Proofs.Ytbpganholopjfaa
namespace Pg

/-- A page's row: kind, class, owner, run. -/
structure Row where
  k : Int
  c : Int
  o : Int
  r : Int

def zero : Row := ⟨0, 0, 0, 0⟩
def tail : Row := ⟨3, 0, 0, 0⟩
def isZero (x : Row) : Bool := x.k == 0 && (x.c == 0 && (x.o == 0 && x.r == 0))
theorem isZero_iff (x : Row) : isZero x = true ↔ x = zero := by
  obtain ⟨a, b, c, d⟩ := x
  simp [isZero, zero]
def isHead (x : Row) : Bool := x.k == 1 || (x.k == 2 || x.k == 4)
theorem isHead_iff (x : Row) : isHead x = true ↔ (x.k = 1 ∨ x.k = 2 ∨ x.k = 4) := by simp [isHead]
theorem head_zero : isHead zero = false := rfl
theorem head_tail : isHead tail = false := rfl
theorem zero_ne_tail : zero ≠ tail := by intro h; cases h
def may (x : Row) : Bool := isHead x && (decide (1 ≤ x.r) && decide (x.r ≤ 256))
theorem may_iff (x : Row) : may x = true ↔ (isHead x = true ∧ 1 ≤ x.r ∧ x.r ≤ 256) := by simp [may]

/-- Each page is free, or a first one with its Tails behind it, or a Tail of a first one. -/
def Ok (R : Nat → Row) (n : Nat) : Prop :=
  ∀ i, i < n → R i = zero ∨ (isHead (R i) = true ∧ 1 ≤ (R i).r ∧ (R i).r ≤ 256 ∧ i + (R i).r ≤ n ∧ ∀ j, i < j → (j : Int) < i + (R i).r → R j = tail) ∨
    (R i = tail ∧ ∃ k, k < i ∧ isHead (R k) = true ∧ (i : Int) < k + (R k).r)

def lay (R : Nat → Row) (at_ : Nat) (r : Row) : Nat → Row := fun i => if i = at_ then r else if at_ < i ∧ (i : Int) < at_ + r.r then tail else R i
def clr (R : Nat → Row) (at_ m : Nat) : Nat → Row := fun i => if at_ ≤ i ∧ i < at_ + m then zero else R i

theorem ok_new (n : Nat) : Ok (fun _ => zero) n := fun _ _ => .inl rfl

theorem Ok.headr {R : Nat → Row} {n i : Nat} (h : Ok R n) (hi : i < n) (hh : isHead (R i) = true) : 1 ≤ (R i).r ∧ (R i).r ≤ 256 ∧ i + (R i).r ≤ n ∧ ∀ j, i < j → (j : Int) < i + (R i).r → R j = tail := by
  rcases h i hi with e | ⟨_, h1, h2, h3, h4⟩ | ⟨e, _⟩
  · rw [e, head_zero] at hh; cases hh
  · exact ⟨h1, h2, h3, h4⟩
  · rw [e, head_tail] at hh; cases hh

theorem ok_lay {R : Nat → Row} {n at_ : Nat} {r : Row} (h : Ok R n) (hr : may r = true) (hn : at_ + r.r ≤ n) (hz : ∀ i : Nat, at_ ≤ i → (i : Int) < at_ + r.r → R i = zero) : Ok (lay R at_ r) n := by
  obtain ⟨hh, h1, h256⟩ := (may_iff r).1 hr
  intro i hi
  by_cases e : i = at_
  · subst e
    refine .inr (.inl ?_)
    have e0 : lay R i r i = r := by simp [lay]
    rw [e0]
    refine ⟨hh, h1, h256, hn, fun j h3 h4 => ?_⟩
    simp only [lay]
    rw [if_neg (by omega), if_pos ⟨h3, h4⟩]
  · by_cases hin : at_ < i ∧ (i : Int) < at_ + r.r
    · refine .inr (.inr ⟨?_, at_, hin.1, ?_, ?_⟩)
      · simp only [lay]; rw [if_neg e, if_pos hin]
      · simp only [lay, if_true]; exact hh
      · simp only [lay, if_true]; exact hin.2
    · have ei : lay R at_ r i = R i := by simp only [lay]; rw [if_neg e, if_neg hin]
      rcases h i hi with e1 | ⟨g0, g1, g2, g3, g4⟩ | ⟨e1, k, g1, g2, g3⟩
      · exact .inl (ei.trans e1)
      · refine .inr (.inl ?_)
        rw [ei]
        refine ⟨g0, g1, g2, g3, fun j h3 h4 => ?_⟩
        have t := g4 j h3 h4
        have nj : ¬ (at_ ≤ j ∧ (j : Int) < at_ + r.r) := fun x => zero_ne_tail ((hz j x.1 x.2).symm.trans t)
        simp only [lay]
        rw [if_neg (by omega), if_neg (by omega)]
        exact t
      · refine .inr (.inr ⟨ei.trans e1, k, g1, ?_, ?_⟩)
        all_goals
          have nk : ¬ (at_ ≤ k ∧ (k : Int) < at_ + r.r) := fun x => by
            have := hz k x.1 x.2
            rw [this, head_zero] at g2
            cases g2
          have ek : lay R at_ r k = R k := by
            simp only [lay]
            rw [if_neg (by omega), if_neg (by omega)]
          rw [ek]
          assumption

theorem ok_clr {R : Nat → Row} {n at_ : Nat} (h : Ok R n) (hat : at_ < n) (hh : isHead (R at_) = true) : Ok (clr R at_ (R at_).r.toNat) n := by
  obtain ⟨a1, a2, a3, a4⟩ := h.headr hat hh
  intro i hi
  by_cases hin : at_ ≤ i ∧ i < at_ + (R at_).r.toNat
  · exact .inl (by simp only [clr]; rw [if_pos hin])
  · have ei : clr R at_ (R at_).r.toNat i = R i := by simp only [clr]; rw [if_neg hin]
    rcases h i hi with e1 | ⟨g0, g1, g2, g3, g4⟩ | ⟨e1, k, g1, g2, g3⟩
    · exact .inl (ei.trans e1)
    · refine .inr (.inl ?_)
      rw [ei]
      refine ⟨g0, g1, g2, g3, fun j h3 h4 => ?_⟩
      have t := g4 j h3 h4
      have nj : ¬ (at_ ≤ j ∧ j < at_ + (R at_).r.toNat) := fun x => by
        by_cases h5 : at_ = j
        · subst h5; rw [t, head_tail] at hh; cases hh
        · by_cases h6 : i < at_
          · have := g4 at_ h6 (by omega)
            rw [this, head_tail] at hh; cases hh
          · have : R i = tail := a4 i (by omega) (by omega)
            rw [this, head_tail] at g0; cases g0
      simp only [clr]
      rw [if_neg nj]
      exact t
    · refine .inr (.inr ⟨ei.trans e1, k, g1, ?_, ?_⟩)
      all_goals
        have hk : k ≠ at_ := fun x => by subst x; exact hin ⟨by omega, by omega⟩
        have nk : ¬ (at_ ≤ k ∧ k < at_ + (R at_).r.toNat) := fun x => by
          have := a4 k (by omega) (by omega)
          rw [this, head_tail] at g2; cases g2
        have ek : clr R at_ (R at_).r.toNat k = R k := by simp only [clr]; rw [if_neg nk]
        rw [ek]
        assumption

/-- The first page that a page belongs to. -/
theorem owner {R : Nat → Row} {n i : Nat} (h : Ok R n) (hi : i < n) (hz : isZero (R i) = false) : ∃ k, k ≤ i ∧ isHead (R k) = true ∧ (i : Int) < k + (R k).r ∧ ∀ j, k < j → j ≤ i → isHead (R j) = false := by
  rcases h i hi with e | ⟨h0, h1, h2, h3, h4⟩ | ⟨e, k, h1, h2, h3⟩
  · rw [(isZero_iff _).2 e] at hz; cases hz
  · exact ⟨i, Nat.le_refl _, h0, by omega, fun j a b => by omega⟩
  · obtain ⟨_, _, _, g⟩ := h.headr (by omega) h2
    refine ⟨k, by omega, h2, h3, fun j a b => ?_⟩
    rw [g j a (by omega), head_tail]
theorem owner_uniq {R : Nat → Row} {n i k j : Nat} (h : Ok R n) (hi : i < n) (hk : k ≤ i) (hkh : isHead (R k) = true) (hki : (i : Int) < k + (R k).r) (hj : j ≤ i) (hjh : isHead (R j) = true) (hji : (i : Int) < j + (R j).r) : k = j := by
  obtain ⟨_, _, _, g1⟩ := h.headr (by omega) hkh
  obtain ⟨_, _, _, g2⟩ := h.headr (by omega) hjh
  rcases Nat.lt_trichotomy k j with a | a | a
  · have := g1 j a (by omega); rw [this, head_tail] at hjh; cases hjh
  · exact a
  · have := g2 k a (by omega); rw [this, head_tail] at hkh; cases hkh
theorem owner_zero {R : Nat → Row} {n i k : Nat} (h : Ok R n) (hi : i < n) (hz : isZero (R i) = true) (hk : k ≤ i) (hkh : isHead (R k) = true) (hki : (i : Int) < k + (R k).r) : False := by
  have e := (isZero_iff _).1 hz
  obtain ⟨_, _, _, g⟩ := h.headr (by omega) hkh
  by_cases a : k = i
  · subst a; rw [e, head_zero] at hkh; cases hkh
  · have := g i (by omega) hki
    rw [e] at this
    exact zero_ne_tail this

/-- A stretch of m from k on. -/
def Run (F : Nat → Prop) (k m : Nat) : Prop := ∀ i, k ≤ i → i < k + m → F i
/-- What a search for the longest stretch knows behind place e. -/
structure Str (F : Nat → Prop) (first e at_ most cur : Nat) : Prop where
  lo : first + cur ≤ e
  run : ∀ i, e - cur ≤ i → i < e → F i
  edge : first + cur = e ∨ ¬ F (e - cur - 1)
  best : 0 < most → Run F at_ most ∧ at_ + most ≤ e ∧ first ≤ at_
  max : ∀ k m, first ≤ k → 1 ≤ m → k + m ≤ e → Run F k m → m ≤ most
  fst : ∀ k, first ≤ k → 0 < most → k + most ≤ e → Run F k most → at_ ≤ k
  le : cur ≤ most

theorem str_new (F : Nat → Prop) (first : Nat) : Str F first first 0 0 0 :=
  ⟨by omega, fun i a b => by omega, .inl rfl, fun h => absurd h (by omega), fun k m a b c => by omega, fun k a b => by omega, Nat.le_refl _⟩

theorem str_ends {F : Nat → Prop} {first e at_ most cur : Nat} (h : Str F first e at_ most cur) {k m : Nat} (hk : first ≤ k) (_hm : 1 ≤ m) (he : k + m = e + 1) (hr : Run F k m) : m ≤ cur + 1 := by
  rcases h.edge with a | a
  · omega
  · by_cases hm2 : m ≤ cur + 1
    · exact hm2
    · exact absurd (hr (e - cur - 1) (by omega) (by omega)) a

theorem str_more {F : Nat → Prop} {first e at_ most cur : Nat} (h : Str F first e at_ most cur) (hF : F e) (hgt : most < cur + 1) : Str F first (e + 1) (e - cur) (cur + 1) (cur + 1) := by
  have hlo := h.lo
  have run' : ∀ i, e - cur ≤ i → i < e + 1 → F i := fun i a b => by
    by_cases c : i = e
    · exact c ▸ hF
    · exact h.run i a (by omega)
  refine ⟨by omega, fun i a b => run' i (by omega) b, ?_, fun _ => ⟨fun i a b => run' i a (by omega), by omega, by omega⟩, fun k m a b c d => ?_, fun k a b c d => ?_, Nat.le_refl _⟩
  · rcases h.edge with a | a
    · exact .inl (by omega)
    · exact .inr (by rw [show e + 1 - (cur + 1) - 1 = e - cur - 1 by omega]; exact a)
  · by_cases x : k + m ≤ e
    · have := h.max k m a b x d
      omega
    · exact str_ends h a b (by omega) d
  · by_cases x : k + (cur + 1) ≤ e
    · have := h.max k (cur + 1) a (by omega) x d
      omega
    · omega
theorem str_same {F : Nat → Prop} {first e at_ most cur : Nat} (h : Str F first e at_ most cur) (hF : F e) (hgt : ¬ most < cur + 1) : Str F first (e + 1) at_ most (cur + 1) := by
  have hlo := h.lo
  refine ⟨by omega, fun i a b => ?_, ?_, fun x => ?_, fun k m a b c d => ?_, fun k a b c d => ?_, by omega⟩
  · by_cases c : i = e
    · exact c ▸ hF
    · exact h.run i (by omega) (by omega)
  · rcases h.edge with a | a
    · exact .inl (by omega)
    · exact .inr (by rw [show e + 1 - (cur + 1) - 1 = e - cur - 1 by omega]; exact a)
  · obtain ⟨p, q, r⟩ := h.best x
    exact ⟨p, by omega, r⟩
  · by_cases x : k + m ≤ e
    · exact h.max k m a b x d
    · have := str_ends h a b (by omega) d
      omega
  · by_cases x : k + most ≤ e
    · exact h.fst k a b x d
    · obtain ⟨_, q, _⟩ := h.best b
      by_cases y : at_ ≤ k
      · exact y
      · omega
theorem str_none {F : Nat → Prop} {first e at_ most cur : Nat} (h : Str F first e at_ most cur) (hF : ¬ F e) : Str F first (e + 1) at_ most 0 := by
  have hlo := h.lo
  refine ⟨by omega, fun i a b => by omega, .inr (by simpa using hF), fun x => ?_, fun k m a b c d => ?_, fun k a b c d => ?_, Nat.zero_le _⟩
  · obtain ⟨p, q, r⟩ := h.best x
    exact ⟨p, by omega, r⟩
  · by_cases x : k + m ≤ e
    · exact h.max k m a b x d
    · exact absurd (d e (by omega) (by omega)) hF
  · by_cases x : k + most ≤ e
    · exact h.fst k a b x d
    · exact absurd (d e (by omega) (by omega)) hF

/-- What a stretch is of: free pages from lo up to but not hi. -/
def Fr (R : Nat → Row) (n : Nat) (lo hi : Int) (i : Nat) : Prop := i < n ∧ lo ≤ i ∧ (i : Int) < hi ∧ isZero (R i) = true

/-- What a search found: the longest stretch, or the first one of so many as are enough. -/
structure Found (F : Nat → Prop) (enough at_ most : Nat) : Prop where
  le : most ≤ enough
  best : 0 < most → Run F at_ most ∧ ∀ k, Run F k most → at_ ≤ k
  max : most < enough → ∀ k m, 1 ≤ m → Run F k m → m ≤ most

/-- The loop's end: all pages of the part were seen, or there were enough. -/
theorem str_found {F : Nat → Prop} {first e at_ most cur enough last : Nat} (h : Str F first e at_ most cur) (he : e = last ∨ most = enough) (hle : most ≤ enough) (hlo : ∀ i, F i → first ≤ i) (hhi : ∀ i, F i → i < last) (_hel : e ≤ last) : Found F enough at_ most := by
  refine ⟨hle, fun x => ⟨(h.best x).1, fun k hk => ?_⟩, fun x k m a b => ?_⟩
  · have h1 := hlo k (hk k (Nat.le_refl _) (by omega))
    by_cases y : k + most ≤ e
    · exact h.fst k h1 x y hk
    · obtain ⟨_, q, _⟩ := h.best x
      omega
  · have h1 := hlo k (b k (Nat.le_refl _) (by omega))
    have h2 := hhi (k + m - 1) (b (k + m - 1) (by omega) (by omega))
    rcases he with rfl | rfl
    · exact h.max k m h1 a (by omega) b
    · omega

/-- The first place of so many free ones, -1: none. -/
def Place (F : Nat → Prop) (m : Nat) (x : Int) : Prop := (∃ k : Nat, x = k ∧ Run F k m ∧ ∀ j, j < k → ¬ Run F j m) ∨ (x = -1 ∧ ∀ k, ¬ Run F k m)
theorem place_uniq {F : Nat → Prop} {m : Nat} {x y : Int} (h : Place F m x) (g : Place F m y) : x = y := by
  rcases h with ⟨k, rfl, a, b⟩ | ⟨rfl, a⟩
  · rcases g with ⟨j, rfl, c, d⟩ | ⟨rfl, c⟩
    · rcases Nat.lt_trichotomy k j with e | e | e
      · exact absurd a (d k e)
      · rw [e]
      · exact absurd c (b j e)
    · exact absurd a (c k)
  · rcases g with ⟨j, rfl, c, d⟩ | ⟨rfl, c⟩
    · exact absurd c (a j)
    · rfl
theorem found_place {F : Nat → Prop} {enough at_ : Nat} (h : Found F enough at_ enough) (h1 : 1 ≤ enough) : Place F enough at_ :=
  .inl ⟨at_, rfl, (h.best h1).1, fun j hj hr => by have := (h.best h1).2 j hr; omega⟩
theorem found_none {F : Nat → Prop} {enough at_ most : Nat} (h : Found F enough at_ most) (h1 : most < enough) : Place F enough (-1) :=
  .inr ⟨rfl, fun k hr => by have := h.max h1 k enough (by omega) hr; omega⟩

/-- The greatest m of which there is a stretch (0: none). -/
def Longest (F : Nat → Prop) (m : Nat) : Prop := (0 < m → ∃ k, Run F k m) ∧ ∀ k, ¬ Run F k (m + 1)
theorem run_less {F : Nat → Prop} {k m m' : Nat} (h : Run F k m) (hm : m' ≤ m) : Run F k m' := fun i a b => h i a (by omega)
theorem longest_uniq {F : Nat → Prop} {m m' : Nat} (h : Longest F m) (g : Longest F m') : m = m' := by
  rcases Nat.lt_trichotomy m m' with a | a | a
  · obtain ⟨k, hk⟩ := g.1 (by omega)
    exact absurd (run_less hk (by omega)) (h.2 k)
  · exact a
  · obtain ⟨k, hk⟩ := h.1 (by omega)
    exact absurd (run_less hk (by omega)) (g.2 k)
theorem found_longest {F : Nat → Prop} {enough at_ most n : Nat} (h : Found F enough at_ most) (hF : ∀ i, F i → i < n) (hn : n ≤ enough) : Longest F most := by
  refine ⟨fun x => ⟨at_, (h.best x).1⟩, fun k hr => ?_⟩
  by_cases x : most < enough
  · have := h.max x k (most + 1) (by omega) hr
    omega
  · have := hF (k + most) (hr _ (by omega) (by omega))
    have := h.le
    omega
theorem longest_le {F : Nat → Prop} {m n : Nat} (h : Longest F m) (hF : ∀ i, F i → i < n) : m ≤ n := by
  by_cases x : 0 < m
  · obtain ⟨k, hk⟩ := h.1 x
    have := hF (k + m - 1) (hk _ (by omega) (by omega))
    omega
  · omega

/-- How many of the first e pages, from lo up to but not hi, are of a kind. -/
def cnt (R : Nat → Row) (lo hi kind : Int) : Nat → Nat
  | 0 => 0
  | e + 1 => cnt R lo hi kind e + if lo ≤ e ∧ (e : Int) < hi ∧ (R e).k = kind then 1 else 0
theorem cnt_le (R : Nat → Row) (lo hi kind : Int) : ∀ e, cnt R lo hi kind e ≤ e
  | 0 => Nat.le_refl _
  | e + 1 => by have := cnt_le R lo hi kind e; simp only [cnt]; split <;> omega
theorem cnt_lo (R : Nat → Row) (lo hi kind : Int) : ∀ e : Nat, (e : Int) ≤ lo → cnt R lo hi kind e = 0
  | 0, _ => rfl
  | e + 1, h => by simp only [cnt]; rw [cnt_lo R lo hi kind e (by omega), if_neg (by omega)]
theorem cnt_hi (R : Nat → Row) (lo hi kind : Int) (e : Nat) (he : hi ≤ e) : ∀ d, cnt R lo hi kind (e + d) = cnt R lo hi kind e
  | 0 => rfl
  | d + 1 => by
    show cnt R lo hi kind (e + d + 1) = _
    simp only [cnt]
    rw [cnt_hi R lo hi kind e he d, if_neg (by omega)]
    omega

/-- The runs of the first pages among the first e ones, together. -/
def runs (R : Nat → Row) : Nat → Int
  | 0 => 0
  | e + 1 => runs R e + if isHead (R e) = true then (R e).r else 0
theorem runs_cov {R : Nat → Row} {n : Nat} (h : Ok R n) : ∀ e, e ≤ n → ∃ ov : Nat, runs R e + cnt R 0 n 0 e = e + ov ∧ e + ov ≤ n ∧ (∀ i, e ≤ i → i < e + ov → R i = tail) ∧ (e + ov < n → R (e + ov) ≠ tail)
  | 0, _ => by
    refine ⟨0, by simp [runs, cnt], by omega, fun i a b => by omega, fun hn e => ?_⟩
    rcases h 0 (by omega) with g | ⟨g, _⟩ | ⟨_, k, g, _⟩
    · rw [g] at e; exact zero_ne_tail e
    · rw [e, head_tail] at g; cases g
    · omega
  | e + 1, he => by
    obtain ⟨ov, h1, h2, h3, h4⟩ := runs_cov h e (by omega)
    rcases h e (by omega) with g | ⟨g0, g1, g2, g3, g4⟩ | ⟨g, k, k1, k2, k3⟩
    · have hov : ov = 0 := by
        by_cases x : ov = 0
        · exact x
        · have := h3 e (by omega) (by omega)
          rw [g] at this
          exact absurd this zero_ne_tail
      subst hov
      refine ⟨0, ?_, by omega, fun i a b => by omega, fun hn e1 => ?_⟩
      · simp only [runs, cnt]
        rw [g, if_neg (by simp [head_zero]), if_pos ⟨by omega, by omega, rfl⟩]
        omega
      · rcases h (e + 1) (by omega) with q | ⟨q, _⟩ | ⟨_, k, q, q2, q3⟩
        · rw [Nat.add_zero, q] at e1; exact zero_ne_tail e1
        · rw [Nat.add_zero] at e1; rw [e1, head_tail] at q; cases q
        · by_cases x : k = e
          · subst x; rw [g, head_zero] at q2; cases q2
          · obtain ⟨_, _, _, t⟩ := h.headr (by omega) q2
            have := t e (by omega) (by omega)
            rw [g] at this
            exact zero_ne_tail this
    · have hov : ov = 0 := by
        by_cases x : ov = 0
        · exact x
        · have := h3 e (by omega) (by omega)
          rw [this, head_tail] at g0
          cases g0
      subst hov
      have hk0 : (R e).k ≠ 0 := by
        rcases (isHead_iff _).1 g0 with x | x | x <;> omega
      refine ⟨(R e).r.toNat - 1, ?_, by omega, fun i a b => g4 i (by omega) (by omega), fun hn e1 => ?_⟩
      · simp only [runs, cnt]
        rw [if_pos g0, if_neg (fun x => hk0 x.2.2)]
        omega
      · rcases h (e + 1 + ((R e).r.toNat - 1)) hn with q | ⟨q, _⟩ | ⟨_, k, q, q2, q3⟩
        · rw [q] at e1; exact zero_ne_tail e1
        · rw [e1, head_tail] at q; cases q
        · obtain ⟨_, _, _, t⟩ := h.headr (by omega) q2
          rcases Nat.lt_trichotomy k e with x | x | x
          · have := t e x (by omega)
            rw [this, head_tail] at g0; cases g0
          · subst x; omega
          · by_cases y : k < e + 1 + ((R e).r.toNat - 1)
            · have := g4 k x (by omega)
              rw [this, head_tail] at q2; cases q2
            · omega
    · have hov : 0 < ov := by
        by_cases x : 0 < ov
        · exact x
        · have e0 : ov = 0 := by omega
          subst e0
          exact absurd g (h4 (by omega))
      refine ⟨ov - 1, ?_, by omega, fun i a b => h3 i (by omega) (by omega), fun hn => ?_⟩
      · simp only [runs, cnt]
        rw [g, if_neg (by simp [head_tail]), if_neg (by simp [tail])]
        omega
      · have e1 : e + 1 + (ov - 1) = e + ov := by omega
        rw [e1]
        exact h4 (by omega)
theorem runs_all {R : Nat → Row} {n : Nat} (h : Ok R n) : runs R n + cnt R 0 n 0 n = n := by
  obtain ⟨ov, h1, h2, _, _⟩ := runs_cov h n (Nat.le_refl _)
  omega
end Pg
end Go.Proofs.Ytbpganholopjfaa
