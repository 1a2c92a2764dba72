/- The walk of a table's stretch, and of Longest. -/
import Derived.Test.YtbpganholopjfaaPB
namespace Go.Proofs.Ytbpganholopjfaa
open Go.RowKit

theorem nz_row {x : Pg.Row} (h : Pg.isZero x = false) : ¬ (x.k = 0 ∧ x.c = 0 ∧ x.o = 0 ∧ x.r = 0) := by
  rintro ⟨a, b, c, d⟩
  obtain ⟨k, o, p, r⟩ := x
  simp only at a b c d
  subst a b c d
  cases h

/-- What a search answers. -/
def StrRes (F : Nat → Prop) (E : Nat) (w : World) (e : Ending) (w' : World) : Prop :=
  ∃ at_ most : Nat, e = .returned (.tuple #[.int .i64 at_, .int .i64 most]) ∧ Pg.Found F E at_ most ∧ w.grownBy w' none
theorem vtuple {a b c d : Int} (h : a = c) (k : b = d) : Ending.returned (.tuple #[.int .i64 a, .int .i64 b]) = .returned (.tuple #[.int .i64 c, .int .i64 d]) := by rw [h, k]

set_option maxRecDepth 100000 in
set_option maxHeartbeats 4000000 in
theorem stretch_core (v : Value) (lo hi : Int) (q L m cap E n : Nat) (R : Nat → Pg.Row) (w : World) (hm : m ≤ 256) (hE : 1 ≤ E) (hE2 : E ≤ 256) (hL : L + m ≤ n) (hn : n ≤ 256) (hpt : PartAt w q L m R)
    (hF : ∀ i, Pg.Fr R n lo hi i ↔ (L ≤ i ∧ i < L + m ∧ Pg.isZero (R i) = true))
    (hp : Calls Try.prog 73 #[v, .int .i64 lo, .int .i64 hi] w fun e w' => e = .returned (.tuple #[.slice (some ⟨q, L * 4, none⟩) m cap, .int .i64 L]) ∧ w = w') :
    Calls Try.prog 65 #[v, .int .i64 lo, .int .i64 hi, .int .i64 E] w (StrRes (Pg.Fr R n lo hi) E w) := by
  have HP := Lib.hid hp
  have HPT := Lib.hid hpt
  have HF := Lib.hid hF
  clear hp hpt hF
  go_enter Try.func65, Try.ntmps65
  go_wp2_with (go_at_call 73; refine HP.out.mono ?_; rintro e w' ⟨rfl, rfl⟩)
  go_loopw [10, 11, 12, 26] (fun a b c i wr => ∃ k at_ most cur : Nat, k ≤ m ∧ i = .int .i64 k ∧ a = .int .i64 at_ ∧ b = .int .i64 most ∧ c = .int .i64 cur ∧ Pg.Str (Pg.Fr R n lo hi) L (L + k) at_ most cur ∧ most < E ∧ w.grownBy wr none) (fun _ _ _ i _ => m - (intOf i).toNat)
  case atStart => exact ⟨0, 0, 0, 0, Nat.zero_le _, rfl, rfl, rfl, rfl, Pg.str_new _ _, by omega, grown_refl _ _⟩
  case round =>
    obtain ⟨k, at_, most, cur, hk, rfl, rfl, rfl, rfl, hs, hmE, hg⟩ := hrel
    have HG := Lib.hid hg
    have HS := Lib.hid hs
    have hcl := hs.le
    have hlo := hs.lo
    clear hg hs
    by_cases hlt : k < m
    · have d0 := HG.out.cell (HPT.out.c0 k hlt) (by simp)
      have d1 := HG.out.cell (HPT.out.c1 k hlt) (by simp)
      have d2 := HG.out.cell (HPT.out.c2 k hlt) (by simp)
      have d3 := HG.out.cell (HPT.out.c3 k hlt) (by simp)
      by_cases hz : Pg.isZero (R (L + k)) = true
      · have HFr := Lib.hid ((HF.out (L + k)).2 ⟨by omega, by omega, hz⟩)
        have hx := (Pg.isZero_iff _).1 hz
        rw [hx] at d0 d1 d2 d3
        clear hx hz
        simp only [Pg.zero] at d0 d1 d2 d3
        by_cases hgt : most < cur + 1
        · have hgt' : (most : Int) < cur + 1 := by omega
          have HN := Lib.hid (Pg.str_more HS.out HFr.out hgt)
          by_cases hen : cur + 1 = E
          · have hen' : ((cur : Int) + 1 == E) = true := by simp; omega
            have HEN := Lib.hid hen
            clear hen
            go_wp2
            go_ret2
            exact ⟨L + k - cur, cur + 1, vtuple (by omega) (by omega), Pg.str_found HN.out (.inr HEN.out) (by omega) (fun i h => ((HF.out i).1 h).1) (fun i h => ((HF.out i).1 h).2.1) (by omega), grown_trans HG.out (grown_alloc _ _ _)⟩
          · have hen' : ((cur : Int) + 1 == E) = false := by simp; omega
            have HEN := Lib.hid hen
            clear hen
            go_wp2
            go_roundw
            case rel => exact ⟨k + 1, L + k - cur, cur + 1, cur + 1, by omega, by go_num, vint (by omega), by go_num, by go_num, HN.out, by have := HEN.out; omega, grown_trans HG.out (grown_alloc _ _ _)⟩
            case measure => simp [intOf]; omega
        · have hgt' : ¬ (most : Int) < cur + 1 := by omega
          have HN := Lib.hid (Pg.str_same HS.out HFr.out hgt)
          have hen' : ((most : Int) == E) = false := by simp; omega
          go_wp2
          go_roundw
          case rel => exact ⟨k + 1, at_, most, cur + 1, by omega, by go_num, rfl, rfl, by go_num, HN.out, by omega, grown_trans HG.out (grown_alloc _ _ _)⟩
          case measure => simp [intOf]; omega
      · have hz : Pg.isZero (R (L + k)) = false := by simpa using hz
        have HN := Lib.hid (Pg.str_none HS.out (fun h => by have := ((HF.out _).1 h).2.2; rw [hz] at this; cases this))
        have HX := Lib.hid (nz_row hz)
        clear hz
        generalize R (L + k) = x at *
        obtain ⟨xk, xc, xo, xr⟩ := x
        have hgt' : ¬ (most : Int) < 0 := by omega
        have hen' : ((most : Int) == E) = false := by simp; omega
        dsimp only at d0 d1 d2 d3
        obtain ⟨wo, rfl⟩ : ∃ wo : World, wo = wr := ⟨_, rfl⟩
        go_upto_region 7 with (fail)
        go_cut [35] (fun s wx => s = .bool true ∧ wo.grownBy wx none)
        case first =>
          go_wp2
          all_goals
            first
            | (go_meet; exact ⟨rfl, grown_alloc _ _ _⟩)
            | (exfalso; exact HX.out ⟨‹xk = 0›, ‹xc = 0›, ‹xo = 0›, ‹xr = 0›⟩)
        case rest =>
          obtain ⟨rfl, hgc⟩ := hcut
          have HGC := Lib.hid hgc
          clear hgc
          go_wp2
          go_roundw
          case rel => exact ⟨k + 1, at_, most, 0, by omega, by go_num, rfl, rfl, rfl, HN.out, by omega, grown_trans HG.out HGC.out⟩
          case measure => simp [intOf]; omega
    · obtain rfl : k = m := by omega
      go_wp2
      go_ret2
      exact ⟨at_, most, rfl, Pg.str_found HS.out (.inl rfl) (by omega) (fun i h => ((HF.out i).1 h).1) (fun i h => ((HF.out i).1 h).2.1) (Nat.le_refl _), HG.out⟩

set_option maxRecDepth 100000 in
set_option maxHeartbeats 1000000 in
theorem stretch_none (v : Value) (lo hi E : Int) (w : World)
    (hp : Calls Try.prog 73 #[v, .int .i64 lo, .int .i64 hi] w fun e w' => e = .returned (.tuple #[.slice none 0 0, .int .i64 0]) ∧ w = w') :
    Calls Try.prog 65 #[v, .int .i64 lo, .int .i64 hi, .int .i64 E] w fun e w' => e = .returned (.tuple #[.int .i64 0, .int .i64 0]) ∧ w = w' := by
  have HP := Lib.hid hp
  clear hp
  go_enter Try.func65, Try.ntmps65
  go_wp2_with (go_at_call 73; refine HP.out.mono ?_; rintro e w' ⟨rfl, rfl⟩)
  go_loop [10, 11, 12, 26] (fun a b c i => i = .int .i64 0 ∧ a = .int .i64 0 ∧ b = .int .i64 0 ∧ c = .int .i64 0) (fun _ _ _ i => 0 - (intOf i).toNat)
  case atStart => exact ⟨rfl, rfl, rfl, rfl⟩
  case round =>
    obtain ⟨rfl, rfl, rfl, rfl⟩ := hrel
    go_wp2
    go_ret2
    exact ⟨rfl, rfl⟩
set_option maxRecDepth 100000 in
set_option maxHeartbeats 1000000 in
theorem count_none (v : Value) (lo hi kind : Int) (w : World)
    (hp : Calls Try.prog 73 #[v, .int .i64 lo, .int .i64 hi] w fun e w' => e = .returned (.tuple #[.slice none 0 0, .int .i64 0]) ∧ w = w') :
    Calls Try.prog 42 #[v, .int .i64 lo, .int .i64 hi, .int .i64 kind] w fun e w' => e = .returned (.int .i64 0) ∧ w = w' := by
  have HP := Lib.hid hp
  clear hp
  go_enter Try.func42, Try.ntmps42
  go_wp2_with (go_at_call 73; refine HP.out.mono ?_; rintro e w' ⟨rfl, rfl⟩)
  go_loop [9, 23] (fun c i => i = .int .i64 0 ∧ c = .int .i64 0) (fun _ i => 0 - (intOf i).toNat)
  case atStart => exact ⟨rfl, rfl⟩
  case round =>
    obtain ⟨rfl, rfl⟩ := hrel
    go_wp2
    go_ret
    exact ⟨rfl, rfl⟩

theorem found_none0 {F : Nat → Prop} {E : Nat} (h : ∀ i, ¬ F i) : Pg.Found F E 0 0 :=
  ⟨Nat.zero_le _, fun x => absurd x (by omega), fun _ k m a b => absurd (b k (Nat.le_refl _) (by omega)) (h k)⟩

/-- What of a part's ends is known: it is empty, or goes from L up to but not M. -/
theorem part_cases (n : Nat) (lo hi : Int) (R : Nat → Pg.Row) : (∃ L M : Int, Part n lo hi L M ∧ M ≤ L ∧ ∀ i, ¬ Pg.Fr R n lo hi i) ∨
    (∃ L M : Nat, Part n lo hi L M ∧ L < M ∧ M ≤ n ∧ ∀ i : Nat, (i < n ∧ lo ≤ i ∧ (i : Int) < hi) ↔ (L ≤ i ∧ i < L + (M - L))) := by
  obtain ⟨L, M, h⟩ := part_ex n lo hi
  have hh := h
  unfold Part at hh
  by_cases hlt : M ≤ L
  · exact .inl ⟨L, M, h, hlt, fun i ⟨a, b, c, _⟩ => by omega⟩
  · obtain ⟨l, rfl⟩ : ∃ l : Nat, L = l := ⟨L.toNat, by omega⟩
    obtain ⟨m, rfl⟩ : ∃ m : Nat, M = m := ⟨M.toNat, by omega⟩
    exact .inr ⟨l, m, h, by omega, by omega, fun i => by omega⟩

theorem stretch_at {w : World} {p q n cap : Nat} {R : Nat → Pg.Row} (h : TabAt w p q n cap R) (lo hi E : Int) (h1 : 1 ≤ E) (h2 : E ≤ 256) :
    Calls Try.prog 65 #[.pointer (some ⟨p, 0, none⟩), .int .i64 lo, .int .i64 hi, .int .i64 E] w (StrRes (Pg.Fr R n lo hi) E.toNat w) := by
  obtain ⟨e, rfl⟩ : ∃ e : Nat, E = e := ⟨E.toNat, by omega⟩
  rw [Int.toNat_natCast]
  rcases part_cases n lo hi R with ⟨L, M, hP, hlt, hno⟩ | ⟨L, M, hP, hlt, hM, hin⟩
  · exact (stretch_none _ lo hi e w (part_none _ n lo hi L M w hP (plen_at h) hlt)).mono fun _ _ ⟨he, hw⟩ => ⟨0, 0, he, found_none0 hno, hw ▸ grown_refl _ _⟩
  · exact stretch_core _ lo hi q L (M - L) (cap - L) e n R w (by have := h.small; omega) (by omega) (by omega) (by omega) h.small (h.rows.part (by omega))
      (fun i => ⟨fun ⟨a, b, c, d⟩ => ⟨((hin i).1 ⟨a, b, c⟩).1, ((hin i).1 ⟨a, b, c⟩).2, d⟩, fun ⟨a, b, c⟩ => ⟨((hin i).2 ⟨a, b⟩).1, ((hin i).2 ⟨a, b⟩).2.1, ((hin i).2 ⟨a, b⟩).2.2, c⟩⟩)
      (part_some p q n cap lo hi L M w hP h.hcap h.c hlt hM)

/-- What Longest answers. -/
def LongRes (F : Nat → Prop) (n : Nat) (w : World) (e : Ending) (w' : World) : Prop := ∃ m : Nat, e = .returned (.int .i64 m) ∧ Pg.Longest F m ∧ m ≤ n ∧ w.grownBy w' none
set_option maxHeartbeats 1000000 in
theorem longest_at {w : World} {p q n cap : Nat} {R : Nat → Pg.Row} (h : TabAt w p q n cap R) (lo hi : Int) :
    Calls Try.prog 44 #[.pointer (some ⟨p, 0, none⟩), .int .i64 lo, .int .i64 hi] w (LongRes (Pg.Fr R n lo hi) n w) := by
  have HC := Lib.hid (stretch_at h lo hi 256 (by omega) (by omega))
  have hs := h.small
  clear h
  go_enter Try.func44, Try.ntmps44
  go_wp2_with (go_at_call 65; refine HC.out.mono ?_; rintro e w' ⟨a, m, rfl, hf, hg⟩; have HR := Lib.hid (And.intro hf hg); clear hf hg)
  go_ret
  have hl := Pg.found_longest (n := n) HR.out.1 (fun i h => h.1) hs
  exact ⟨m, rfl, hl, Pg.longest_le hl (fun i h => h.1), HR.out.2⟩

theorem cntFrom_is (R : Nat → Pg.Row) (lo hi kind : Int) (L : Nat) (m : Nat) (hin : ∀ i : Nat, L ≤ i → i < L + m → lo ≤ i ∧ (i : Int) < hi) (hL : lo ≤ L ∧ (0 < L → (L : Int) ≤ lo)) : ∀ e, e ≤ m → cntFrom R kind L e = Pg.cnt R lo hi kind (L + e)
  | 0, _ => by
    show 0 = Pg.cnt R lo hi kind L
    by_cases h0 : 0 < L
    · exact (Pg.cnt_lo R lo hi kind L (hL.2 h0)).symm
    · have : L = 0 := by omega
      subst this; rfl
  | e + 1, h => by
    show cntFrom R kind L e + (if (R (L + e)).k = kind then 1 else 0) = Pg.cnt R lo hi kind (L + e) + if lo ≤ ((L + e : Nat) : Int) ∧ ((L + e : Nat) : Int) < hi ∧ (R (L + e)).k = kind then 1 else 0
    rw [cntFrom_is R lo hi kind L m hin hL e (by omega)]
    have g := hin (L + e) (by omega) (by omega)
    by_cases hk : (R (L + e)).k = kind
    · rw [if_pos hk, if_pos ⟨g.1, g.2, hk⟩]
    · rw [if_neg hk, if_neg (fun x => hk x.2.2)]
theorem cnt_empty (R : Nat → Pg.Row) (lo hi kind : Int) : ∀ n : Nat, (∀ i : Nat, i < n → ¬ (lo ≤ i ∧ (i : Int) < hi)) → Pg.cnt R lo hi kind n = 0
  | 0, _ => rfl
  | n + 1, h => by
    show Pg.cnt R lo hi kind n + _ = 0
    rw [cnt_empty R lo hi kind n (fun i hi => h i (by omega)), if_neg (fun x => h n (by omega) ⟨x.1, x.2.1⟩)]
theorem cntFrom_all (R : Nat → Pg.Row) (n : Nat) (lo hi kind : Int) (L M : Nat) (hP : Part n lo hi L M) (hlt : L < M) (hM : M ≤ n) : cntFrom R kind L (M - L) = Pg.cnt R lo hi kind n := by
  unfold Part at hP
  rw [cntFrom_is R lo hi kind L (M - L) (fun i a b => by omega) (by omega) (M - L) (Nat.le_refl _)]
  have e1 : L + (M - L) = M := by omega
  rw [e1]
  by_cases h : hi ≤ M
  · have e2 : n = M + (n - M) := by omega
    rw [e2, Pg.cnt_hi R lo hi kind M h]
  · have e3 : n = M := by omega
    rw [e3]

theorem count_at {w : World} {p q n cap : Nat} {R : Nat → Pg.Row} (h : TabAt w p q n cap R) (lo hi kind : Int) :
    Calls Try.prog 42 #[.pointer (some ⟨p, 0, none⟩), .int .i64 lo, .int .i64 hi, .int .i64 kind] w fun e w' => e = .returned (.int .i64 (Pg.cnt R lo hi kind n : Nat)) ∧ w.grownBy w' none := by
  rcases part_cases n lo hi R with ⟨L, M, hP, hlt, _⟩ | ⟨L, M, hP, hlt, hM, _⟩
  · have e0 : Pg.cnt R lo hi kind n = 0 := cnt_empty R lo hi kind n (fun i hi' => by unfold Part at hP; omega)
    rw [e0]
    exact (count_none _ lo hi kind w (part_none _ n lo hi L M w hP (plen_at h) hlt)).mono fun _ _ ⟨he, hw⟩ => ⟨he, hw ▸ grown_refl _ _⟩
  · rw [← cntFrom_all R n lo hi kind L M hP hlt hM]
    exact count_core _ lo hi kind q L (M - L) (cap - L) R w (by have := h.small; omega) (h.rows.part (by omega)) (part_some p q n cap lo hi L M w hP h.hcap h.c hlt hM)

set_option maxRecDepth 100000 in
set_option maxHeartbeats 1000000 in
theorem longest_nil (lo hi : Int) (w : World) :
    Calls Try.prog 44 #[.pointer none, .int .i64 lo, .int .i64 hi] w fun e w' => e = .returned (.int .i64 0) ∧ w = w' := by
  obtain ⟨L, M, hP⟩ := part_ex 0 lo hi
  have HC := Lib.hid (stretch_none (.pointer none) lo hi 256 w (part_none _ 0 lo hi L M w hP (plen_nil w) (by unfold Part at hP; omega)))
  go_enter Try.func44, Try.ntmps44
  go_wp2_with (go_at_call 65; refine HC.out.mono ?_; rintro e w' ⟨rfl, rfl⟩)
  go_ret
  exact ⟨rfl, rfl⟩
theorem count_nil (lo hi kind : Int) (w : World) :
    Calls Try.prog 42 #[.pointer none, .int .i64 lo, .int .i64 hi, .int .i64 kind] w fun e w' => e = .returned (.int .i64 0) ∧ w = w' := by
  obtain ⟨L, M, hP⟩ := part_ex 0 lo hi
  exact count_none _ lo hi kind w (part_none _ 0 lo hi L M w hP (plen_nil w) (by unfold Part at hP; omega))
end Go.Proofs.Ytbpganholopjfaa
