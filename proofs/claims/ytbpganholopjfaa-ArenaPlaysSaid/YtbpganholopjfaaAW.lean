/- The walk of ArenaWhole. -/
import Derived.Test.YtbpganholopjfaaAV
import Derived.Deep.RegionHeld3
namespace Go.Proofs.Ytbpganholopjfaa
open Go.RowKit

/-- What was told, cell by cell. -/
def ToldAt (w : World) (A : Option Addr) (L : List Nat) : Prop := L.length = 0 ∨ ∃ b, A = some ⟨b, 0, none⟩ ∧ b < w.heap.size ∧ ∀ i, i < L.length → w.cell? ⟨b, i, none⟩ = some (.int .u64 (L.getD i 0 : Nat))
theorem ToldAt.grown {w w' : World} {A : Option Addr} {L : List Nat} (h : ToldAt w A L) (g : w.grownBy w' none) : ToldAt w' A L :=
  h.imp id (fun ⟨b, e, hb, h⟩ => ⟨b, e, Nat.lt_of_lt_of_le hb g.size, fun i hi => g.cell (h i hi) (by simp)⟩)
theorem told_at {w : World} {base c : Nat} {A : Option Addr} {L : List Nat} (h : Told w base (.slice A L.length c) L) : ToldAt w A L := by
  obtain ⟨-, ⟨h1, h2⟩ | ⟨g, cap, cur, e, hbg, hh, hnc, hcm, hcs, htake⟩⟩ := h.row
  · exact .inl h2
  · injection e with e1 _ _
    refine .inr ⟨g, e1, (Array.getElem?_eq_some_iff.1 hh).1, fun i hi => ?_⟩
    have e : w.cell? ⟨g, i, none⟩ = cur[i]? := by simp only [World.cell?, hh]; rfl
    have t := congrArg (fun l => l[i]?) htake
    simp only [List.getElem?_take, show i < L.length * 1 by omega, if_true, Array.getElem?_toList] at t
    rw [e, t]
    simp [u64s, hi, List.getD]
theorem tl_at (N : Nat) (F : Nat → A3) (B : Nat → Nat) (k : Nat) (h0 : (F k).k = 0) : ∀ d, (tl N F B k).length < (tl N F B (k + 1 + d)).length ∧ (tl N F B (k + 1 + d)).getD (tl N F B k).length 0 = wordV (bk F B k) N (F k).a
  | 0 => by
    rw [Nat.add_zero, tl, if_pos h0]
    exact ⟨by simp, by simp [List.getD]⟩
  | d + 1 => by
    obtain ⟨h1, h2⟩ := tl_at N F B k h0 d
    rw [show k + 1 + (d + 1) = (k + 1 + d) + 1 by omega, tl]
    split
    · refine ⟨by rw [List.length_append]; omega, ?_⟩
      rw [← h2]
      simp [List.getD, List.getElem?_append_left h1]
    · exact ⟨h1, h2⟩
theorem wb_ok {N : Nat} {a : Int} (h : wbE N a = 0) : 0 ≤ a ∧ a.toNat + 8 ≤ N := by
  unfold wbE at h
  split at h
  · rename_i h1
    unfold inB at h1
    simp at h1
    omega
  · simp at h
theorem erA_wb {N : Nat} {t : A3} (h : erA N t = 0) (h2 : t.k ≠ 2) : wbE N t.a = 0 := by
  unfold erA at h
  rwa [if_neg h2] at h
/-- What the loop of ArenaWhole knows. -/
structure WL (w wr : World) (q c N rt : Nat) (F : Nat → A3) (B : Nat → Nat) (k : Nat) : Prop where
  le : k ≤ rt
  ls : Ls wr q N c (bk F B k)
  fr : w.grownBy wr none

theorem Ls.grown {w w' : World} {q n c : Nat} {B : Nat → Nat} (h : Ls w q n c B) (g : w.grownBy w' none) : Ls w' q n c B := ⟨h.b.grown g (by simp), h.cap, h.small, h.lt⟩
theorem ActsAt.fr2 {w w' : World} {A : Option Addr} {n p q : Nat} {F : Nat → A3} (h : ActsAt w A n F) (g : Fr (fun i => i = p ∨ i = q) w w') (hab : ∀ b off, A = some ⟨b, off, none⟩ → b < w.heap.size ∧ b ≠ p ∧ b ≠ q) : ActsAt w' A n F :=
  h.imp id (fun ⟨b, off, e, hb, h⟩ => ⟨b, off, e, Nat.lt_of_lt_of_le hb g.size, fun i hi => (h i hi).fr g (by have := hab b off e; omega)⟩)

set_option maxRecDepth 100000 in
set_option maxHeartbeats 4000000 in
theorem whole_walk (A A2 : Option Addr) (m bc n lc : Nat) (S : Nat → Nat) (F : Nat → A3) (w : World) (hm : m ≤ 9223372036854775807) (hbc : m ≤ bc) (hB : BytesArg w A m S) (hS : ∀ i, S i < 256) (hn : n ≤ 9223372036854775807) (hlc : n ≤ lc) (hA : ActsAt w A2 n F) (hx : ∀ i, i < n → (F i).x < 18446744073709551616) :
    Calls Try.prog 4 #[.slice A m bc, .slice A2 n lc] w fun e w' => e = .returned (.bool true) ∧ w.grownBy w' none := by
  have H := Lib.hid (And.intro hB (And.intro hS (And.intro hA hx)))
  have HN := Lib.hid (anew_at 1 1 w (by omega) (.inr (.inl ⟨by omega, by omega, rfl⟩)))
  obtain ⟨M, hM, hM2⟩ : ∃ M : Nat, M ≤ 256 ∧ ((m ≤ 256 ∧ M = m) ∨ (256 < m ∧ M = 256)) := by
    by_cases h : m ≤ 256
    · exact ⟨m, h, .inl ⟨h, rfl⟩⟩
    · exact ⟨256, Nat.le_refl _, .inr ⟨by omega, rfl⟩⟩
  have HM2 := Lib.hid hM2
  clear hB hS hA hx hM2
  obtain ⟨i0, hi, hz0, hz1, hz2⟩ := info_parts infoByte
  go_enter Try.func4, Try.ntmps4
  go_wp2_with fail
  refine HN.out.mono ?_
  rintro e w1 ⟨p, q, cap, rfl, har, hp, hq, hg⟩
  have har : ArAt w1 p q 256 cap (fun _ => 0) none := har
  have G1 := Lib.hid (And.intro har (And.intro hp (And.intro hq hg)))
  clear har hp hq hg HN
  go_upto_if 20 with (fail)
  go_cut [0] (fun s wx => s = .slice A M bc ∧ wx = w1)
  case first =>
    rcases HM2.out with ⟨h1, rfl⟩ | ⟨h1, rfl⟩
    · have d : decide ((256 : Int) < M) = false := decide_eq_false (by omega)
      go_wp2
      go_meet
      exact ⟨rfl, rfl⟩
    · have d : decide ((256 : Int) < m) = true := decide_eq_true (by omega)
      obtain ⟨b, off, rfl⟩ : ∃ b off, A = some ⟨b, off, none⟩ := by
        rcases H.out.1 with h | ⟨b, off, e, _⟩
        · omega
        · exact ⟨b, off, e⟩
      have d2 : (256 : Int) ≤ bc := by omega
      go_wp2
      go_meet
      exact ⟨rfl, rfl⟩
  case rest =>
  obtain ⟨rfl, rfl⟩ := hcut
  obtain ⟨w2, rfl⟩ : ∃ w2 : World, w2 = wc := ⟨_, rfl⟩
  have hMm : M ≤ m := by have := HM2.out; omega
  have HST := Lib.hid (store_good G1.out.1 0 M bc A S (by omega) H.out.2.1 (H.out.1.at G1.out.2.2.2 hMm))
  go_wp2_with fail
  refine HST.out.mono ?_
  rintro e w3 ⟨rfl, har, hg⟩
  have G3 := Lib.hid (And.intro har (grown_own G1.out.2.2.2 hg G1.out.2.2.1))
  have HLD := Lib.hid (aload_good har 0 256 (by omega))
  clear har hg HST
  obtain ⟨B0, hB0⟩ : ∃ B0, B0 = Ar.setB (fun _ => 0) 0 M S := ⟨_, rfl⟩
  rw [← hB0] at G3 HLD
  simp only [Nat.zero_add] at HLD
  have hB256 : ∀ i, B0 i < 256 := by rw [hB0]; exact Ar.setB_lt (by simp) H.out.2.1 _ _
  have HB := Lib.hid hB256
  clear hB0 hB256
  go_wp2_with fail
  refine HLD.out.mono ?_
  rintro e w4 ⟨q2, cap2, rfl, k1, k2, k3, k4⟩
  have G4 := Lib.hid (And.intro (G3.out.1.grown k4 (by simp) (by simp)) (And.intro (grown_trans G3.out.2 k4) (And.intro k1 k3)))
  have K2 := Lib.hid k2
  have HR := Lib.hid (right_at A2 n lc F w4 hn hlc (H.out.2.2.1.grown G4.out.2.1))
  clear k1 k2 k3 k4 HLD
  go_wp2_with fail
  refine HR.out.mono ?_
  rintro e w6 ⟨v, rfl, hown, hg⟩
  obtain ⟨A3', c3, rfl⟩ := own_shape hown
  have hacts := acts_of_own hown (fun i hi => rgt_x F n H.out.2.2.2 n (Nat.le_refl _) _ (getA_mem hi))
  have hab := acts_hab hown G4.out.1.plt G4.out.1.b.qlt
  have hcap := own_cap hown
  have hokk : ∀ i, i < (rgt F n).length → okA (getA (rgt F n) i) := fun i hi => rgt_ok F n _ (getA_mem hi)
  have hRl : (rgt F n).length ≤ 12 := rgt_len F n
  clear hown HR
  generalize (rgt F n).length = rl at *
  generalize getA (rgt F n) = G at *
  have HD := Lib.hid (do_at (G4.out.1.grown hg (by simp) (by simp)) (by omega) hcap hokk hacts hab)
  have HOK := Lib.hid hokk
  have G6 := Lib.hid (And.intro (G4.out.1.grown hg (by simp) (by simp)) (And.intro (grown_trans G4.out.2.1 hg) (G4.out.2.2.2.grown hg (by simp))))
  have HAC := Lib.hid (And.intro hacts hab)
  clear hg hacts hab hokk
  go_wp2_with fail
  refine HD.out.mono ?_
  rintro e w7 ⟨rt, fl, At, ct, base, rfl, hrun, harc, _, htold, hfr⟩
  have ine : ¬ (q2 = p ∨ q2 = q) := by
    have := G3.out.1.plt
    have := G3.out.1.b.qlt
    have := K2.out
    omega
  have HT7 := Lib.hid (told_at htold)
  have HA7 := Lib.hid (HAC.out.1.fr2 hfr HAC.out.2)
  have G7 := Lib.hid (And.intro harc (And.intro (hfr.grown G6.out.2.1 (fun i x => by have := G1.out.2.1; have := G1.out.2.2.1; omega)) (G6.out.2.2.fr hfr ine)))
  have HRUN := Lib.hid hrun
  have hrtle : rt ≤ rl := hrun.le
  clear htold harc hfr ine hrun HD HAC
  go_wp2_with (at_builtin; refine wpList_append_own _ rfl _ _ 25 rfl w7.heap.size 5 i0 (.int .u8 0) 1 1 Try.underlying25 hi hz0 hz1 hz2 rfl (by decide) _ _ _ rfl (World.ownsRow_made w7 #[] 0 (Nat.le_refl _) (Nat.zero_le _) rfl) ⟨q2, 0, none⟩ 256 cap2 (bvals B0 256) rfl ?c1 ?c2 ?c3 ?c4 ?c5 ?c6 ?_)
  case c1 => rw [bvals_length]
  case c2 =>
    intro j u hj
    have hj' : j < 256 := by
      have := (List.getElem?_eq_some_iff.1 hj).1
      rwa [bvals_length] at this
    rw [bvals_at B0 256 j hj'] at hj
    rw [aaddr_add]
    have h2 := (grown_alloc w7 (.cells #[] 5) none).cell (G7.out.2.2.c j hj') (by simp)
    rw [← hj, ← h2]
  case c3 => exact bvals_one B0 256
  case c4 => simp only [maxLen]; omega
  case c5 => omega
  case c6 => simp
  intro v' w8 hown hgrow hiff
  have hv : v' ≠ .slice none 0 0 := fun e => hiff e
  obtain ⟨q1, cap1, rfl, k1, k2, k3, k4⟩ := bytesNew_val (bytes_end w7 w8 256 B0 v' (by simpa using hown) (grown_own (grown_alloc w7 _ none) hgrow (Nat.le_refl _)) hv)
  clear hown hgrow hiff hv hi hz0 hz1 hz2
  have HL0 : Hid (WL w7 w8 q1 cap1 256 rt G B0 0) := Lib.hid ⟨Nat.zero_le _, ⟨k3, k1, by omega, HB.out⟩, k4⟩
  clear k1 k2 k3 k4
  go_wp2_with fail
  obtain ⟨wl, rfl⟩ : ∃ wl : World, wl = w8 := ⟨_, rfl⟩
  go_loopw [12, 13, 14] (fun s kk i wr => ∃ k qw cw : Nat, i = .int .i64 k ∧ kk = .int .i64 (tl 256 G B0 k).length ∧ s = .slice (some ⟨qw, 0, none⟩) 256 cw ∧ WL w7 wr qw cw 256 rt G B0 k) (fun _ _ i _ => rt - (intOf i).toNat)
  case atStart => exact ⟨0, q1, cap1, rfl, rfl, rfl, HL0.out⟩
  case round =>
    clear HL0
    obtain ⟨k, qw, cw, rfl, rfl, rfl, hl⟩ := hrel
    have hk := hl.le
    have HL := Lib.hid hl
    clear hl
    by_cases hlt : k < rt
    · have hkl : k < rl := by omega
      obtain ⟨b, off, rfl, hbl, hact⟩ : ∃ b off, A3' = some ⟨b, off, none⟩ ∧ b < w7.heap.size ∧ ∀ i, i < rl → ActAt w7 b (off + i * 3) (G i) := by
        rcases HA7.out with h0 | h; omega; exact h
      have hat := (hact k hkl).grown HL.out.fr
      have e0 := hat.c0
      have e1 := hat.c1
      have e2 := hat.c2
      have hxl := hat.lt
      have hok := HOK.out k hkl
      have her := HRUN.out.ok k hlt
      clear hact hat
      obtain ⟨t, hT⟩ : ∃ t, t = G k := ⟨_, rfl⟩
      rw [← hT] at e0 e1 e2 hxl hok her
      have HT := Lib.hid hT
      clear hT
      obtain ⟨tk, ta, tx⟩ := t
      obtain ⟨ok0, ok2⟩ := hok
      simp only at e0 e1 e2 hxl ok0 ok2
      have hkk : tk = 0 ∨ tk = 1 ∨ tk = 2 := by omega
      rcases hkk with rfl | rfl | rfl
      · have hw := erA_wb her (by simp)
        simp only at hw
        have hta := tl_at 256 G B0 k (by rw [← HT.out]) (rt - (k + 1))
        rw [show k + 1 + (rt - (k + 1)) = rt by omega, ← HT.out] at hta
        simp only at hta
        obtain ⟨ht1, ht2⟩ := hta
        obtain ⟨tb, rfl, _, htc⟩ : ∃ b, At = some ⟨b, 0, none⟩ ∧ b < w7.heap.size ∧ ∀ i, i < (tl 256 G B0 rt).length → w7.cell? ⟨b, i, none⟩ = some (.int .u64 ((tl 256 G B0 rt).getD i 0 : Nat)) := by
          rcases HT7.out with h0 | h; omega; exact h
        have e3 := HL.out.fr.cell (htc _ ht1) (by simp)
        rw [ht2] at e3
        have hkn : (tl 256 G B0 (k + 1)).length = (tl 256 G B0 k).length + 1 := by rw [tl, if_pos (by rw [← HT.out])]; simp
        have HKN := Lib.hid hkn
        have HBK : Hid (bk G B0 (k + 1) = bk G B0 k) := Lib.hid (by rw [bk, if_neg (by rw [← HT.out]; simp)])
        have hkl2 := tl_len 256 G B0 k
        have HW := Lib.hid (rword_at HL.out.ls ta)
        clear ht2 htc hw her hkn
        generalize wordV (bk G B0 k) 256 ta = wv at *
        generalize (tl 256 G B0 rt).length = lt at *
        generalize (tl 256 G B0 k).length = lk at *
        go_wp2_with fail
        refine HW.out.mono ?_
        rintro e w' ⟨rfl, rfl⟩
        go_wp2
        go_roundw
        case rel => exact ⟨k + 1, qw, cw, by go_num, by rw [HKN.out]; go_num, rfl, ⟨hlt, by rw [HBK.out]; exact HL.out.ls, HL.out.fr⟩⟩
        case measure => simp [intOf]; omega
      · have hw := erA_wb her (by simp)
        simp only at hw
        obtain ⟨h0, h8, _⟩ := wbE_zero hw
        obtain ⟨a, rfl⟩ : ∃ a : Nat, ta = a := ⟨ta.toNat, by omega⟩
        have ha8 : a + 8 ≤ 256 := by omega
        have hkn : (tl 256 G B0 (k + 1)).length = (tl 256 G B0 k).length := by rw [tl, if_neg (by rw [← HT.out]; simp)]
        have HKN := Lib.hid hkn
        have HBK : Hid (bk G B0 (k + 1) = Ar.setB (bk G B0 k) a 8 (Ar.byt tx)) := Lib.hid (by rw [bk, if_pos (by rw [← HT.out]), ← HT.out, ← Ar.setW_is]; rfl)
        have HPUT := Lib.hid (fun W => rput_at tx hxl W)
        clear hkn her hw h0 h8
        generalize (tl 256 G B0 k).length = lk at *
        go_upto_region 19 with (fail)
        have hgr := grown_refl wr none
        go_region_held3 (fun w' => w'.cell? ⟨b, off + k * 3 + 1, none⟩ = some (.int .i64 (a : Nat)) ∧ w'.cell? ⟨b, off + k * 3 + 2, none⟩ = some (.int .u64 (tx : Nat)))
          (first | exact ⟨e1, e2⟩ | exact ⟨z1, z2⟩ | exact ⟨y1, y2⟩)
          (first
          | (go_at_call 18; refine (HPUT.out _).mono ?_; rintro e w3 ⟨qp, cp, rfl, m1, m2, m3, m4⟩; have m5 := grown_trans (grown_drew1 hgr) m4; have y1 := m5.cell e1 (by simp); have y2 := m5.cell e2 (by simp); have HWI := Lib.hid (rwith_at (HL.out.ls.grown m5) a 8 ha8 (Ar.byt tx) (some ⟨qp, 0, none⟩) cp (.inr ⟨qp, 0, rfl, fun i hi => by rw [Nat.zero_add]; exact m3.c i hi⟩)); clear m1 m2 m3 m4)
          | (go_at_call 14; refine HWI.out.mono ?_; rintro e w5 ⟨qn, cn, rfl, m1, m2, m3, m4⟩; have z1 := m4.cell y1 (by simp); have z2 := m4.cell y2 (by simp); have HN : Hid (WL w7 w5 qn cn 256 rt G B0 (k + 1)) := Lib.hid ⟨hlt, ⟨by rw [HBK.out]; exact m3, m1, by omega, bk_lt HB.out _⟩, grown_trans HL.out.fr (grown_trans m5 m4)⟩; clear m1 m2 m3 m4))
        all_goals
          go_wp2
          go_roundw
          case rel => exact ⟨k + 1, qn, cn, by go_num, by rw [HKN.out], rfl, HN.out⟩
          case measure => simp [intOf]; omega
      · have hkn : (tl 256 G B0 (k + 1)).length = (tl 256 G B0 k).length := by rw [tl, if_neg (by rw [← HT.out]; simp)]
        have HKN := Lib.hid hkn
        have HBK : Hid (bk G B0 (k + 1) = bk G B0 k) := Lib.hid (by rw [bk, if_neg (by rw [← HT.out]; simp)])
        clear hkn
        generalize (tl 256 G B0 k).length = lk at *
        go_wp2
        go_roundw
        case rel => exact ⟨k + 1, qw, cw, by go_num, by rw [HKN.out], rfl, ⟨hlt, by rw [HBK.out]; exact HL.out.ls, HL.out.fr⟩⟩
        case measure => simp [intOf]; omega
    · obtain rfl : k = rt := by omega
      have HAR := Lib.hid (G7.out.1.grown HL.out.fr (by simp) (by simp))
      have HEND := Lib.hid (grown_trans G7.out.2.1 HL.out.fr)
      have HOLD : Hid (Ls wr q2 256 cap2 B0) := Lib.hid ⟨G7.out.2.2.grown HL.out.fr (by simp), G4.out.2.2.1, by omega, HB.out⟩
      have hrun := HRUN.out.end_
      by_cases hf : fl = 0
      · subst hf
        obtain rfl : k = rl := by
          rcases hrun with ⟨h, _⟩ | ⟨_, h, _⟩
          · exact h
          · exact absurd rfl h
        have har := HAR.out
        rw [if_pos rfl] at har
        have HSM := Lib.hid (same_at har HL.out.ls (fun i _ => rfl))
        clear har hrun
        generalize (tl 256 G B0 k).length = lk
        go_wp2_with fail
        refine HSM.out.mono ?_
        rintro e w13 ⟨rfl, hg⟩
        have G13 := Lib.hid (grown_trans HEND.out hg)
        clear hg
        go_wp2_with fail
        refine (awake_at _).mono ?_
        rintro e w14 ⟨rfl, hg⟩
        have G14 := Lib.hid (grown_trans G13.out hg)
        clear hg
        go_wp2
        go_ret
        exact ⟨rfl, G14.out⟩
      · have har := HAR.out
        rw [if_neg hf] at har
        have HSM := Lib.hid (same_at har HOLD.out (fun i _ => rfl))
        have hfd : decide (fl = 0) = false := decide_eq_false hf
        clear har hrun
        generalize (tl 256 G B0 k).length = lk
        go_wp2_with fail
        refine HSM.out.mono ?_
        rintro e w13 ⟨rfl, hg⟩
        have G13 := Lib.hid (grown_trans HEND.out hg)
        clear hg
        go_wp2_with fail
        refine (awake_at _).mono ?_
        rintro e w14 ⟨rfl, hg⟩
        have G14 := Lib.hid (grown_trans G13.out hg)
        clear hg
        go_wp2
        go_ret
        exact ⟨rfl, G14.out⟩
end Go.Proofs.Ytbpganholopjfaa
