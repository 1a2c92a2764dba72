/- The walk of the law SlabWhole. -/
import Derived.Test.YticoojcmlkdeiaaSJ
namespace Go.Proofs.Yticoojcmlkdeiaa
open Go.RowKit
open Sl (Cls bs upd)

/-- A call, as it stands in memory. -/
structure SOp where
  k : Int
  n : Int
  a : Int
  bA : Option Addr
  bl : Nat
  bc : Nat
deriving Inhabited
structure SOpAt (w : World) (b o : Nat) (t : SOp) : Prop where
  e0 : w.cell? ⟨b, o, none⟩ = some (.int .i64 t.k)
  e1 : w.cell? ⟨b, o + 1, none⟩ = some (.int .i64 t.n)
  e2 : w.cell? ⟨b, o + 2, none⟩ = some (.int .i64 t.a)
  e3 : w.cell? ⟨b, o + 3, none⟩ = some (.slice t.bA t.bl t.bc)
theorem SOpAt.grown {w w' : World} {b o : Nat} {t : SOp} (h : SOpAt w b o t) (hg : w.grownBy w' none) : SOpAt w' b o t := ⟨hg.cell h.e0 (by simp), hg.cell h.e1 (by simp), hg.cell h.e2 (by simp), hg.cell h.e3 (by simp)⟩
def SOpsAt (w : World) (A : Option Addr) (n : Nat) (O : Nat → SOp) : Prop := n = 0 ∨ ∃ b off, A = some ⟨b, off, none⟩ ∧ ∀ i, i < n → SOpAt w b (off + i * 4) (O i)

theorem SlAt.new_ne {w : World} {X : Pl} {Y : Nm} {S : Nat → Nat} {f : Int} {B : Nat → Nat} (h : SlAt w X Y S f B) : ¬ X.may w.heap.size := by
  have a1 := h.own.plt
  have a2 := h.ar.b.qlt
  have a3 := h.l.qlt
  have a4 := h.h.qlt
  unfold Pl.may
  omega
/-- What stands at a round's head of SlabWhole. -/
def WRel (w wr : World) (pp : Nat) (X : Pl) (Y : Nm) (ls : Int) : Prop := ∃ S F B, Young w wr X Y S F B ∧ Pair wr pp X ∧ (ls = -1 ∨ (0 ≤ ls ∧ ls = Sl.fst F))
set_option maxRecDepth 100000 in
set_option maxHeartbeats 40000000 in
theorem slabWhole_cls {c s n r : Nat} (seed : Nat) (cl : Int) (A : Option Addr) (len cap : Nat) (O : Nat → SOp) (w : World) (hcl : cl % 4 = (c : Int)) (hc : Cls c s n r) (hm : len ≤ 9223372036854775807) (hO : SOpsAt w A len O) :
    Calls Try.prog 3 #[.int .u64 seed, .int .i64 cl, .slice A len cap] w fun e w' => e = .returned (.bool true) ∧ w.grownBy w' none := by
  have e1 : bits .and .i64 cl 3 = (c : Int) := (i64_and3 cl).trans hcl
  have HM := Lib.hid (pmake_at seed 9 w hc (by omega))
  have HO := Lib.hid hO
  clear hc hcl hO
  go_enter Try.func3, Try.ntmps3
  go_wp2_with fail
  refine HM.out.mono ?_
  rintro e w1 ⟨pp, acap, X, B, rfl, hp0, hp1, hy, hpp, hnm⟩
  have HR := Lib.hid (show WRel w w1 pp X (nm seed c s n r acap) (-1) from ⟨_, _, _, hy, ⟨hp0, hp1, hnm⟩, .inl rfl⟩)
  clear hp0 hp1 hy hpp hnm HM
  generalize nm seed c s n r acap = Y at *
  go_wp2_with fail
  obtain ⟨w2, rfl⟩ : ∃ w2 : World, w2 = w1 := ⟨_, rfl⟩
  go_loopw [8, 23] (fun lst i wr => ∃ (m : Nat) (ls : Int), m ≤ len ∧ i = .int .i64 m ∧ lst = .int .i64 ls ∧ WRel w wr pp X Y ls) (fun _ i _ => len - (intOf i).toNat)
  case atStart => exact ⟨0, -1, Nat.zero_le _, rfl, rfl, HR.out⟩
  case round =>
    clear HR e1
    obtain ⟨m, ls, hm, rfl, rfl, hr⟩ := hrel
    obtain ⟨S, F, B', hy, hp, hls⟩ := hr
    have HY := Lib.hid hy
    have HP := Lib.hid hp
    have HL := Lib.hid hls
    clear hy hp hls
    by_cases hlt : m < len
    · obtain ⟨b, off, rfl, hO⟩ := HO.out.resolve_left (by omega)
      have hg := HY.out.all
      obtain ⟨d0, d1, d2, d3⟩ := (hO m hlt).grown hg
      clear hg hO
      generalize O m = t at *
      obtain ⟨tk, tn, ta, tA, tl, tc⟩ := t
      simp only at d0 d1 d2 d3
      go_upto_region 8 with (fail)
      have hg3 := grown_alloc wr (.cells #[.int .i64 tk, .int .i64 tn, .int .i64 ta, .slice tA tl tc] 28) none
      have o0 : (wr.alloc (.cells #[.int .i64 tk, .int .i64 tn, .int .i64 ta, .slice tA tl tc] 28)).cell? ⟨wr.heap.size, 0, none⟩ = some (.int .i64 tk) := by rw [cell_alloc_new]; rfl
      have o1 : (wr.alloc (.cells #[.int .i64 tk, .int .i64 tn, .int .i64 ta, .slice tA tl tc] 28)).cell? ⟨wr.heap.size, 1, none⟩ = some (.int .i64 tn) := by rw [cell_alloc_new]; rfl
      have HY3 := Lib.hid (HY.out.grown hg3)
      have HP3 := Lib.hid (HP.out.grown hg3)
      have HNO := Lib.hid HY.out.at_.new_ne
      clear d0 d1 d2 d3 hg3 HY HP
      generalize wr.alloc (.cells #[.int .i64 tk, .int .i64 tn, .int .i64 ta, .slice tA tl tc] 28) = w3 at *
      generalize wr.heap.size = ob at *
      have p1 := HP3.out.2.1
      by_cases h50 : 50 ≤ m
      · clear o0 o1 p1
        go_wp2_with (go_at_call 15; refine (sawake_at _).mono ?_; rintro e w7 ⟨rfl, hg⟩; have HE := Lib.hid (grown_trans HY3.out.all hg); clear hg)
        go_ret
        exact ⟨rfl, HE.out⟩
      · rcases (by omega : tk = 0 ∨ tk = 1 ∨ tk = 2 ∨ tk = 3 ∨ tk = 4 ∨ tk = 5 ∨ tk = 6 ∨ (tk < 0 ∨ 6 < tk)) with rfl | rfl | rfl | rfl | rfl | rfl | rfl | hk
        · cases F with
          | nil =>
            obtain rfl : ls = -1 := by
              rcases HL.out with h | ⟨h1, h2⟩
              · exact h
              · rw [h2] at h1; simp [Sl.fst] at h1
            have HT := Lib.hid HY3.out.take0
            go_wp2_with fail
            refine HT.out.mono ?_
            rintro e w4 ⟨rfl, rfl⟩
            clear HT p1
            have p2 := HP3.out.2.1
            have HC := Lib.hid HY3.out.check
            go_wp2_with fail
            refine HC.out.mono ?_
            rintro e w9 ⟨rfl, hg⟩
            have HY9 := Lib.hid (HY3.out.grown hg)
            have HP9 := Lib.hid (HP3.out.grown hg)
            clear hg HC p2
            go_wp2
            go_roundw
            case rel => exact ⟨m + 1, -1, by omega, by go_num, rfl, _, _, _, HY9.out, HP9.out, .inl rfl⟩
            case measure => simp [intOf]; omega
          | cons k t =>
            have HT := Lib.hid HY3.out.take
            have hls : ls = -1 ∨ ls = (k : Int) := by
              rcases HL.out with h | ⟨h1, h2⟩
              · exact .inl h
              · exact .inr h2
            go_wp2_with fail
            refine HT.out.mono ?_
            rintro e w4 ⟨rfl, hy, hf⟩
            have HY4 := Lib.hid hy
            have HP4 := Lib.hid (HP3.out.fr hf)
            clear hy hf HT p1
            rcases hls with rfl | rfl
            · have p2 := HP4.out.2.1
              have HC := Lib.hid HY4.out.check
              go_wp2_with fail
              refine HC.out.mono ?_
              rintro e w9 ⟨rfl, hg⟩
              have HY9 := Lib.hid (HY4.out.grown hg)
              have HP9 := Lib.hid (HP4.out.grown hg)
              clear hg HC p2
              go_wp2
              go_roundw
              case rel => exact ⟨m + 1, -1, by omega, by go_num, rfl, _, _, _, HY9.out, HP9.out, .inl rfl⟩
              case measure => simp [intOf]; omega
            · have hk0 : ((k : Nat) : Int) ≥ 0 := by omega
              have p2 := HP4.out.2.1
              have HC := Lib.hid HY4.out.check
              go_wp2_with fail
              refine HC.out.mono ?_
              rintro e w9 ⟨rfl, hg⟩
              have HY9 := Lib.hid (HY4.out.grown hg)
              have HP9 := Lib.hid (HP4.out.grown hg)
              clear hg HC p2
              go_wp2
              go_roundw
              case rel => exact ⟨m + 1, -1, by omega, by go_num, rfl, _, _, _, HY9.out, HP9.out, .inl rfl⟩
              case measure => simp [intOf]; omega
        · cases F with
          | nil =>
            obtain rfl : ls = -1 := by
              rcases HL.out with h | ⟨h1, h2⟩
              · exact h
              · rw [h2] at h1; simp [Sl.fst] at h1
            have HT := Lib.hid HY3.out.take0
            go_wp2_with fail
            refine HT.out.mono ?_
            rintro e w4 ⟨rfl, rfl⟩
            clear HT p1
            have p2 := HP3.out.2.1
            have HC := Lib.hid HY3.out.check
            go_wp2_with fail
            refine HC.out.mono ?_
            rintro e w9 ⟨rfl, hg⟩
            have HY9 := Lib.hid (HY3.out.grown hg)
            have HP9 := Lib.hid (HP3.out.grown hg)
            clear hg HC p2
            go_wp2
            go_roundw
            case rel => exact ⟨m + 1, -1, by omega, by go_num, rfl, _, _, _, HY9.out, HP9.out, .inl rfl⟩
            case measure => simp [intOf]; omega
          | cons k t =>
            have HT := Lib.hid HY3.out.take
            have hls : ls = -1 ∨ ls = (k : Int) := by
              rcases HL.out with h | ⟨h1, h2⟩
              · exact .inl h
              · exact .inr h2
            go_wp2_with fail
            refine HT.out.mono ?_
            rintro e w4 ⟨rfl, hy, hf⟩
            have HY4 := Lib.hid hy
            have HP4 := Lib.hid (HP3.out.fr hf)
            clear hy hf HT p1
            rcases hls with rfl | rfl
            · have p2 := HP4.out.2.1
              have HC := Lib.hid HY4.out.check
              go_wp2_with fail
              refine HC.out.mono ?_
              rintro e w9 ⟨rfl, hg⟩
              have HY9 := Lib.hid (HY4.out.grown hg)
              have HP9 := Lib.hid (HP4.out.grown hg)
              clear hg HC p2
              go_wp2
              go_roundw
              case rel => exact ⟨m + 1, -1, by omega, by go_num, rfl, _, _, _, HY9.out, HP9.out, .inl rfl⟩
              case measure => simp [intOf]; omega
            · have hk0 : ((k : Nat) : Int) ≥ 0 := by omega
              have p2 := HP4.out.2.1
              have HC := Lib.hid HY4.out.check
              go_wp2_with fail
              refine HC.out.mono ?_
              rintro e w9 ⟨rfl, hg⟩
              have HY9 := Lib.hid (HY4.out.grown hg)
              have HP9 := Lib.hid (HP4.out.grown hg)
              clear hg HC p2
              go_wp2
              go_roundw
              case rel => exact ⟨m + 1, -1, by omega, by go_num, rfl, _, _, _, HY9.out, HP9.out, .inl rfl⟩
              case measure => simp [intOf]; omega
        · cases F with
          | nil =>
            obtain rfl : ls = -1 := by
              rcases HL.out with h | ⟨h1, h2⟩
              · exact h
              · rw [h2] at h1; simp [Sl.fst] at h1
            have HT := Lib.hid HY3.out.take0
            go_wp2_with fail
            refine HT.out.mono ?_
            rintro e w4 ⟨rfl, rfl⟩
            clear HT p1
            have p2 := HP3.out.2.1
            have HC := Lib.hid HY3.out.check
            go_wp2_with fail
            refine HC.out.mono ?_
            rintro e w9 ⟨rfl, hg⟩
            have HY9 := Lib.hid (HY3.out.grown hg)
            have HP9 := Lib.hid (HP3.out.grown hg)
            clear hg HC p2
            go_wp2
            go_roundw
            case rel => exact ⟨m + 1, -1, by omega, by go_num, rfl, _, _, _, HY9.out, HP9.out, .inl rfl⟩
            case measure => simp [intOf]; omega
          | cons k t =>
            have HT := Lib.hid HY3.out.take
            have hls : ls = -1 ∨ ls = (k : Int) := by
              rcases HL.out with h | ⟨h1, h2⟩
              · exact .inl h
              · exact .inr h2
            go_wp2_with fail
            refine HT.out.mono ?_
            rintro e w4 ⟨rfl, hy, hf⟩
            have HY4 := Lib.hid hy
            have HP4 := Lib.hid (HP3.out.fr hf)
            clear hy hf HT p1
            rcases hls with rfl | rfl
            · have p2 := HP4.out.2.1
              have HC := Lib.hid HY4.out.check
              go_wp2_with fail
              refine HC.out.mono ?_
              rintro e w9 ⟨rfl, hg⟩
              have HY9 := Lib.hid (HY4.out.grown hg)
              have HP9 := Lib.hid (HP4.out.grown hg)
              clear hg HC p2
              go_wp2
              go_roundw
              case rel => exact ⟨m + 1, -1, by omega, by go_num, rfl, _, _, _, HY9.out, HP9.out, .inl rfl⟩
              case measure => simp [intOf]; omega
            · have hk0 : ((k : Nat) : Int) ≥ 0 := by omega
              have p2 := HP4.out.2.1
              have HC := Lib.hid HY4.out.check
              go_wp2_with fail
              refine HC.out.mono ?_
              rintro e w9 ⟨rfl, hg⟩
              have HY9 := Lib.hid (HY4.out.grown hg)
              have HP9 := Lib.hid (HP4.out.grown hg)
              clear hg HC p2
              go_wp2
              go_roundw
              case rel => exact ⟨m + 1, -1, by omega, by go_num, rfl, _, _, _, HY9.out, HP9.out, .inl rfl⟩
              case measure => simp [intOf]; omega
        · have HYd := Lib.hid (HY3.out.grown (grown_drew1 (grown_refl w3 none)))
          have HPd := Lib.hid (HP3.out.grown (grown_drew1 (grown_refl w3 none)))
          have HO1 := Lib.hid ((grown_drew1 (grown_refl w3 none)).cell o1 (by simp))
          by_cases hn : isK Y.n tn = true ∧ stV Y S tn = 1
          · obtain ⟨hk, hs⟩ := hn
            obtain ⟨j, rfl, hj⟩ := isK_t hk
            rw [stV_in hj] at hs
            have HD := Lib.hid (HYd.out.drop hj (by omega))
            clear hk hs
            go_upto_region 19 with (fail)
            go_region_held3 (fun w' => w'.cell? ⟨pp, 1, none⟩ = some (.pointer (some ⟨X.p, 0, none⟩)) ∧ w'.cell? ⟨ob, 1, none⟩ = some (.int .i64 (j : Nat)))
              (first | exact ⟨p1, o1⟩ | exact HS4.out)
              (first
              | (go_at_call 12; refine HD.out.mono ?_; rintro e w4 ⟨rfl, hy, hf⟩; have HY4 := Lib.hid hy; have HP4 := Lib.hid (HPd.out.fr hf); have HO4 := Lib.hid (hf.cell HO1.out HNO.out); have HS4 := Lib.hid (And.intro HP4.out.2.1 HO4.out); clear hy hf))
            clear HD p1 o1
            have p2 := HP4.out.2.1
            have HC := Lib.hid HY4.out.check
            go_wp2_with fail
            refine HC.out.mono ?_
            rintro e w9 ⟨rfl, hg⟩
            have HY9 := Lib.hid (HY4.out.grown hg)
            have HP9 := Lib.hid (HP4.out.grown hg)
            clear hg HC p2
            go_wp2
            go_roundw
            case rel => exact ⟨m + 1, ls, by omega, by go_num, rfl, _, _, _, HY9.out, HP9.out, HL.out⟩
            case measure => simp [intOf]; omega
          · obtain ⟨er, hz, hd⟩ := HYd.out.drop_no hn
            have HD := Lib.hid hd
            have hz' : (er == 0) = false := by simpa using hz
            clear hd hz hn
            go_upto_region 19 with (fail)
            go_region_held3 (fun w' => w'.cell? ⟨pp, 1, none⟩ = some (.pointer (some ⟨X.p, 0, none⟩)) ∧ w'.cell? ⟨ob, 1, none⟩ = some (.int .i64 tn))
              (first | exact ⟨p1, o1⟩ | exact HS4.out)
              (first
              | (go_at_call 12; refine HD.out.mono ?_; rintro e w4 ⟨rfl, rfl⟩; have HS4 := Lib.hid (And.intro HPd.out.2.1 HO1.out)))
            clear HD p1 o1
            have p2 := HPd.out.2.1
            have HC := Lib.hid HYd.out.check
            go_wp2_with fail
            refine HC.out.mono ?_
            rintro e w9 ⟨rfl, hg⟩
            have HY9 := Lib.hid (HYd.out.grown hg)
            have HP9 := Lib.hid (HPd.out.grown hg)
            clear hg HC p2
            go_wp2
            go_roundw
            case rel => exact ⟨m + 1, ls, by omega, by go_num, rfl, _, _, _, HY9.out, HP9.out, HL.out⟩
            case measure => simp [intOf]; omega
        · have HYd := Lib.hid (HY3.out.grown (grown_drew1 (grown_refl w3 none)))
          have HPd := Lib.hid (HP3.out.grown (grown_drew1 (grown_refl w3 none)))
          have HO1 := Lib.hid ((grown_drew1 (grown_refl w3 none)).cell o1 (by simp))
          by_cases hn : isK Y.n tn = true ∧ stV Y S tn = 1
          · obtain ⟨hk, hs⟩ := hn
            obtain ⟨j, rfl, hj⟩ := isK_t hk
            rw [stV_in hj] at hs
            have HD := Lib.hid (HYd.out.drop hj (by omega))
            clear hk hs
            go_upto_region 19 with (fail)
            go_region_held3 (fun w' => w'.cell? ⟨pp, 1, none⟩ = some (.pointer (some ⟨X.p, 0, none⟩)) ∧ w'.cell? ⟨ob, 1, none⟩ = some (.int .i64 (j : Nat)))
              (first | exact ⟨p1, o1⟩ | exact HS4.out)
              (first
              | (go_at_call 12; refine HD.out.mono ?_; rintro e w4 ⟨rfl, hy, hf⟩; have HY4 := Lib.hid hy; have HP4 := Lib.hid (HPd.out.fr hf); have HO4 := Lib.hid (hf.cell HO1.out HNO.out); have HS4 := Lib.hid (And.intro HP4.out.2.1 HO4.out); clear hy hf))
            clear HD p1 o1
            have p2 := HP4.out.2.1
            have HC := Lib.hid HY4.out.check
            go_wp2_with fail
            refine HC.out.mono ?_
            rintro e w9 ⟨rfl, hg⟩
            have HY9 := Lib.hid (HY4.out.grown hg)
            have HP9 := Lib.hid (HP4.out.grown hg)
            clear hg HC p2
            go_wp2
            go_roundw
            case rel => exact ⟨m + 1, ls, by omega, by go_num, rfl, _, _, _, HY9.out, HP9.out, HL.out⟩
            case measure => simp [intOf]; omega
          · obtain ⟨er, hz, hd⟩ := HYd.out.drop_no hn
            have HD := Lib.hid hd
            have hz' : (er == 0) = false := by simpa using hz
            clear hd hz hn
            go_upto_region 19 with (fail)
            go_region_held3 (fun w' => w'.cell? ⟨pp, 1, none⟩ = some (.pointer (some ⟨X.p, 0, none⟩)) ∧ w'.cell? ⟨ob, 1, none⟩ = some (.int .i64 tn))
              (first | exact ⟨p1, o1⟩ | exact HS4.out)
              (first
              | (go_at_call 12; refine HD.out.mono ?_; rintro e w4 ⟨rfl, rfl⟩; have HS4 := Lib.hid (And.intro HPd.out.2.1 HO1.out)))
            clear HD p1 o1
            have p2 := HPd.out.2.1
            have HC := Lib.hid HYd.out.check
            go_wp2_with fail
            refine HC.out.mono ?_
            rintro e w9 ⟨rfl, hg⟩
            have HY9 := Lib.hid (HYd.out.grown hg)
            have HP9 := Lib.hid (HPd.out.grown hg)
            clear hg HC p2
            go_wp2
            go_roundw
            case rel => exact ⟨m + 1, ls, by omega, by go_num, rfl, _, _, _, HY9.out, HP9.out, HL.out⟩
            case measure => simp [intOf]; omega
        · have HYd := Lib.hid (HY3.out.grown (grown_drew1 (grown_refl w3 none)))
          have HPd := Lib.hid (HP3.out.grown (grown_drew1 (grown_refl w3 none)))
          have HO1 := Lib.hid ((grown_drew1 (grown_refl w3 none)).cell o1 (by simp))
          by_cases hn : isK Y.n tn = true ∧ stV Y S tn = 2
          · obtain ⟨hk, hs⟩ := hn
            obtain ⟨j, rfl, hj⟩ := isK_t hk
            rw [stV_in hj] at hs
            have HD := Lib.hid (HYd.out.give hj (by omega))
            clear hk hs
            go_upto_region 24 with (fail)
            go_region_held3 (fun w' => w'.cell? ⟨pp, 1, none⟩ = some (.pointer (some ⟨X.p, 0, none⟩)) ∧ w'.cell? ⟨ob, 1, none⟩ = some (.int .i64 (j : Nat)))
              (first | exact ⟨p1, o1⟩ | exact HS4.out)
              (first
              | (go_at_call 13; refine HD.out.mono ?_; rintro e w4 ⟨rfl, hy, hf⟩; have HY4 := Lib.hid hy; have HP4 := Lib.hid (HPd.out.fr hf); have HO4 := Lib.hid (hf.cell HO1.out HNO.out); have HS4 := Lib.hid (And.intro HP4.out.2.1 HO4.out); clear hy hf))
            clear HD p1 o1
            have o4 := HO4.out
            have p2 := HP4.out.2.1
            have HC := Lib.hid HY4.out.check
            go_wp2_with fail
            refine HC.out.mono ?_
            rintro e w9 ⟨rfl, hg⟩
            have HY9 := Lib.hid (HY4.out.grown hg)
            have HP9 := Lib.hid (HP4.out.grown hg)
            clear hg HC p2
            go_wp2
            go_roundw
            case rel => exact ⟨m + 1, j, by omega, by go_num, rfl, _, _, _, HY9.out, HP9.out, .inr ⟨by omega, rfl⟩⟩
            case measure => simp [intOf]; omega
          · obtain ⟨er, hz, hd⟩ := HYd.out.give_no hn
            have HD := Lib.hid hd
            have hz' : (er == 0) = false := by simpa using hz
            clear hd hz hn
            go_upto_region 24 with (fail)
            go_region_held3 (fun w' => w'.cell? ⟨pp, 1, none⟩ = some (.pointer (some ⟨X.p, 0, none⟩)) ∧ w'.cell? ⟨ob, 1, none⟩ = some (.int .i64 tn))
              (first | exact ⟨p1, o1⟩ | exact HS4.out)
              (first
              | (go_at_call 13; refine HD.out.mono ?_; rintro e w4 ⟨rfl, rfl⟩; have HS4 := Lib.hid (And.intro HPd.out.2.1 HO1.out)))
            clear HD p1 o1
            have p2 := HPd.out.2.1
            have HC := Lib.hid HYd.out.check
            go_wp2_with fail
            refine HC.out.mono ?_
            rintro e w9 ⟨rfl, hg⟩
            have HY9 := Lib.hid (HYd.out.grown hg)
            have HP9 := Lib.hid (HPd.out.grown hg)
            clear hg HC p2
            go_wp2
            go_roundw
            case rel => exact ⟨m + 1, ls, by omega, by go_num, rfl, _, _, _, HY9.out, HP9.out, HL.out⟩
            case measure => simp [intOf]; omega
        · have HYd := Lib.hid (HY3.out.grown (grown_drew1 (grown_refl w3 none)))
          have HPd := Lib.hid (HP3.out.grown (grown_drew1 (grown_refl w3 none)))
          have HO1 := Lib.hid ((grown_drew1 (grown_refl w3 none)).cell o1 (by simp))
          by_cases hn : isK Y.n tn = true ∧ stV Y S tn = 2
          · obtain ⟨hk, hs⟩ := hn
            obtain ⟨j, rfl, hj⟩ := isK_t hk
            rw [stV_in hj] at hs
            have HD := Lib.hid (HYd.out.give hj (by omega))
            clear hk hs
            go_upto_region 24 with (fail)
            go_region_held3 (fun w' => w'.cell? ⟨pp, 1, none⟩ = some (.pointer (some ⟨X.p, 0, none⟩)) ∧ w'.cell? ⟨ob, 1, none⟩ = some (.int .i64 (j : Nat)))
              (first | exact ⟨p1, o1⟩ | exact HS4.out)
              (first
              | (go_at_call 13; refine HD.out.mono ?_; rintro e w4 ⟨rfl, hy, hf⟩; have HY4 := Lib.hid hy; have HP4 := Lib.hid (HPd.out.fr hf); have HO4 := Lib.hid (hf.cell HO1.out HNO.out); have HS4 := Lib.hid (And.intro HP4.out.2.1 HO4.out); clear hy hf))
            clear HD p1 o1
            have o4 := HO4.out
            have p2 := HP4.out.2.1
            have HC := Lib.hid HY4.out.check
            go_wp2_with fail
            refine HC.out.mono ?_
            rintro e w9 ⟨rfl, hg⟩
            have HY9 := Lib.hid (HY4.out.grown hg)
            have HP9 := Lib.hid (HP4.out.grown hg)
            clear hg HC p2
            go_wp2
            go_roundw
            case rel => exact ⟨m + 1, j, by omega, by go_num, rfl, _, _, _, HY9.out, HP9.out, .inr ⟨by omega, rfl⟩⟩
            case measure => simp [intOf]; omega
          · obtain ⟨er, hz, hd⟩ := HYd.out.give_no hn
            have HD := Lib.hid hd
            have hz' : (er == 0) = false := by simpa using hz
            clear hd hz hn
            go_upto_region 24 with (fail)
            go_region_held3 (fun w' => w'.cell? ⟨pp, 1, none⟩ = some (.pointer (some ⟨X.p, 0, none⟩)) ∧ w'.cell? ⟨ob, 1, none⟩ = some (.int .i64 tn))
              (first | exact ⟨p1, o1⟩ | exact HS4.out)
              (first
              | (go_at_call 13; refine HD.out.mono ?_; rintro e w4 ⟨rfl, rfl⟩; have HS4 := Lib.hid (And.intro HPd.out.2.1 HO1.out)))
            clear HD p1 o1
            have p2 := HPd.out.2.1
            have HC := Lib.hid HYd.out.check
            go_wp2_with fail
            refine HC.out.mono ?_
            rintro e w9 ⟨rfl, hg⟩
            have HY9 := Lib.hid (HYd.out.grown hg)
            have HP9 := Lib.hid (HPd.out.grown hg)
            clear hg HC p2
            go_wp2
            go_roundw
            case rel => exact ⟨m + 1, ls, by omega, by go_num, rfl, _, _, _, HY9.out, HP9.out, HL.out⟩
            case measure => simp [intOf]; omega
        · have f0 : (tk == 0) = false := by simp; omega
          have f1 : (tk == 1) = false := by simp; omega
          have f2 : (tk == 2) = false := by simp; omega
          have f3 : (tk == 3) = false := by simp; omega
          have f4 : (tk == 4) = false := by simp; omega
          have f5 : (tk == 5) = false := by simp; omega
          have f6 : (tk == 6) = false := by simp; omega
          clear hk
          have p2 := HP3.out.2.1
          have HC := Lib.hid HY3.out.check
          go_wp2_with fail
          refine HC.out.mono ?_
          rintro e w9 ⟨rfl, hg⟩
          have HY9 := Lib.hid (HY3.out.grown hg)
          have HP9 := Lib.hid (HP3.out.grown hg)
          clear hg HC p2
          go_wp2
          go_roundw
          case rel => exact ⟨m + 1, ls, by omega, by go_num, rfl, _, _, _, HY9.out, HP9.out, HL.out⟩
          case measure => simp [intOf]; omega
    · obtain rfl : m = len := by omega
      go_wp2_with (go_at_call 15; refine (sawake_at _).mono ?_; rintro e w7 ⟨rfl, hg⟩; have HE := Lib.hid (grown_trans HY.out.all hg); clear hg)
      go_ret
      exact ⟨rfl, HE.out⟩

theorem slabWhole_walk (seed : Nat) (cl : Int) (A : Option Addr) (len cap : Nat) (O : Nat → SOp) (w : World) (hm : len ≤ 9223372036854775807) (hO : SOpsAt w A len O) :
    Calls Try.prog 3 #[.int .u64 seed, .int .i64 cl, .slice A len cap] w fun e w' => e = .returned (.bool true) ∧ w.grownBy w' none := by
  obtain ⟨s, n, r, hc⟩ := Sl.cls_of (cl % 4).toNat (by omega)
  exact slabWhole_cls seed cl A len cap O w (by omega) hc hm hO
end Go.Proofs.Yticoojcmlkdeiaa
