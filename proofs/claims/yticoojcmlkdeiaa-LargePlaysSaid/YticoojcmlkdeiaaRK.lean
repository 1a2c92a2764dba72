/- LargePlays: the switch: somebody writes. -/
import Derived.Test.YticoojcmlkdeiaaRJ
namespace Go.Proofs.Yticoojcmlkdeiaa
open Go.RowKit
open Sl (upd)
open Lg (pgs)
open Rf (LZ)

theorem RgAt.setb {b0 : Nat} {w : World} {r q q' cap cap' key N : Nat} {A : Option Addr} {vc : Nat} {L : List (Nat × Nat)} {B B' : Nat → Nat} (h : RgAt b0 w r q cap key N A vc L B) (hb : An.BytesAt w q' N B') (hc : N ≤ cap') (hlt : ∀ i, B' i < 256) (hr : q' ≠ r) (h0 : b0 ≤ q') (hg : L.length ≠ 0 → ∀ a, A = some a → a.block ≠ q') :
    RgAt b0 (w.setCell ⟨r, 0, none⟩ (.slice (some ⟨q', 0, none⟩) N cap')) r q' cap' key N A vc L B' := by
  have gs := An.agrown_set w r 0 (.slice (some ⟨q', 0, none⟩) N cap')
  have ho : ∀ k x, k ≠ 0 → w.cell? ⟨r, k, none⟩ = some x → (w.setCell ⟨r, 0, none⟩ (.slice (some ⟨q', 0, none⟩) N cap')).cell? ⟨r, k, none⟩ = some x := fun k x ne hx => by
    rw [World.cell?_setCell_other _ _ _ _ (fun e => ne (congrArg Addr.off e).symm)]; exact hx
  exact ⟨World.cell?_setCell_same' _ _ _ (by rw [h.c0]; rfl), ho _ _ (by decide) h.c1, ho _ _ (by decide) h.c2, fun k => by rw [World.frozen?_setCell]; exact h.fz k, hb.grown gs (some_ne hr), hc, h.hv,
    (by
      by_cases hl : L.length = 0
      · exact .inl hl
      · exact h.els.imp id (fun ⟨g, e, n1, n2, hcs⟩ => ⟨g, e, n1, hg hl _ e, fun i hi => ⟨gs.cell (hcs i hi).1 (some_ne n1), gs.cell (hcs i hi).2 (some_ne n1)⟩⟩)), hr, h.r0, h0, h.small, hlt, h.k⟩
set_option maxRecDepth 100000 in
set_option maxHeartbeats 8000000 in
theorem pcase_store {u0 u1 u2 u3 u4 u5 u6 u9 u12 u14 u15 u16 u17 u18 u19 u20 u21 u22 u23 u24 u25 u26 u27 u28 u29 u30 u31 u32 u33 u34 u35 u36 u37 u38 u39 u40 u41 u45 u46 u47 u48 u49 u50 u51 u52 u53 u54 u55 u56 u57 u58 u59 u61 u62 u63 u64 u65 u66 u67 u68 u69 u70 u71 u72 u73 u74 u75 u76 u77 u78 u79 u80 u81 u82 u83 u84 u85 u86 u87 u88 u89 u90 u91 u92 u93 u94 u95 u96 u97 u98 u99 u100 u101 u102 u103 u104 u105 u106 u107 u108 u109 u110 u111 u112 u113 u114 u115 u116 u117 u118 u119 u120 u121 u122 u123 u124 u125 u126 u127 u128 u129 u130 u131 u132 u133 u134 u135 u136 u137 u138 u139 u140 u141 u142 u143 u144 u145 u146 u147 u148 u149 u150 u151 u152 u153 u154 u155 u156 u157 u158 u159 u160 u161 u162 u163 u164 u165 u166 u167 u168 u169 u170 u171 u172 u173 u174 u175 u176 u177 u178 u179 u180 u181 u182 u183 u184 u185 u186 u187 u188 u189 u190 u191 u192 u193 u194 u195 u196 u197 u198 u199 u200 u201 u202 u203 u204 : Value} {R : Exit → Go.Act → World → Prop} {w0 w3 : World} {X : Lp} {r cnt q cap vc ob m K nn : Nat} {A : Option Addr} {L : List (Nat × Nat)} {Z B : Nat → Nat} {t : LOp} {c42 c43 c44 : Value} (HT : Hid (TBeg w0 w3 X r cnt q cap vc ob m K A L Z B t)) (hk : t.k = 5) (hend : ∀ a w, TEnd w0 X r nn (K + 1) c42 c43 c44 a w → R .normal a w) :
    Code.wp Try.prog psw R ⟨#[u0, u1, u2, u3, u4, u5, u6, .int .i64 (nn : Nat), .pointer (some ⟨X.pa, 0, none⟩), u9, .pointer (some ⟨X.p, 0, none⟩), .pointer (some ⟨r, 0, none⟩), u12, .pointer (some ⟨ob, 0, none⟩), u14, u15, u16, u17, u18, u19, u20, u21, u22, u23, u24, u25, u26, u27, u28, u29, u30, u31, u32, u33, u34, u35, u36, u37, u38, u39, u40, u41, c42, c43, c44, u45, u46, u47, u48, u49, u50, u51, u52, u53, u54, u55, u56, u57, u58, u59, .int .i64 t.k, u61, u62, u63, u64, u65, u66, u67, u68, u69, u70, u71, u72, u73, u74, u75, u76, u77, u78, u79, u80, u81, u82, u83, u84, u85, u86, u87, u88, u89, u90, u91, u92, u93, u94, u95, u96, u97, u98, u99, u100, u101, u102, u103, u104, u105, u106, u107, u108, u109, u110, u111, u112, u113, u114, u115, u116, u117, u118, u119, u120, u121, u122, u123, u124, u125, u126, u127, u128, u129, u130, u131, u132, u133, u134, u135, u136, u137, u138, u139, u140, u141, u142, u143, u144, u145, u146, u147, u148, u149, u150, u151, u152, u153, u154, u155, u156, u157, u158, u159, u160, u161, u162, u163, u164, u165, u166, u167, u168, u169, u170, u171, u172, u173, u174, u175, u176, u177, u178, u179, u180, u181, u182, u183, u184, u185, u186, u187, u188, u189, u190, u191, u192, u193, u194, u195, u196, u197, u198, u199, u200, u201, u202, u203, u204], []⟩ w3 := by
  obtain ⟨tk, tp, tn, ta, bA, bl, bc, V⟩ := t
  have o1 : w3.cell? ⟨ob, 1, none⟩ = some (.int .i64 tp) := HT.out.o.c1
  have o2 : w3.cell? ⟨ob, 2, none⟩ = some (.int .i64 tn) := HT.out.o.c2
  have o3 : w3.cell? ⟨ob, 3, none⟩ = some (.int .i64 ta) := HT.out.o.c3
  have o4 : w3.cell? ⟨ob, 4, none⟩ = some (.slice bA m bc) := HT.out.o.c4
  simp only at hk
  subst hk
  obtain ⟨D, hd⟩ := HT.out.pl.y.at_
  have hsm := hd.ar.small
  have hml := HT.out.m60
  by_cases hb : An.inB X.N ta m = true
  · obtain ⟨h0, -, h8⟩ := (An.inB_iff _ _ _).1 hb
    obtain ⟨a, rfl⟩ : ∃ a : Nat, ta = a := ⟨ta.toNat, by omega⟩
    have hbd : a + m ≤ X.N := by omega
    have HST := Lib.hid (HT.out.pl.y.store a m bc bA (V := V) hbd HT.out.row.lt ((HT.out.row.b.grown HT.out.pl.y.all).less HT.out.ml))
    clear hb h0 h8 hd
    obtain ⟨i0, hi, hz0, hz1, hz2⟩ := info_parts An.infoByte
    conv => arg 2; whnf
    go_wp2_with fail
    refine HST.out.mono ?_
    rintro e w4 ⟨rfl, hy, hf⟩
    have y3 := hf.cell o3 HT.out.om
    have y4 := hf.cell o4 HT.out.om
    have HY := Lib.hid hy
    have HR4 := Lib.hid (HT.out.pl.mid hf)
    have c0 := HR4.out.c0
    have c0' := (grown_alloc w4 (.cells #[] 5) none).cell c0 (by simp)
    have HBV := Lib.hid ((HT.out.row.b.grown HY.out.all).less HT.out.ml)
    clear hy hf o1 o2 o3 o4 HST
    go_wp2_with (at_builtin; refine wpList_append_own _ rfl _ _ 26 rfl w4.heap.size 5 i0 (.int .u8 0) 1 1 Try.underlying26 hi hz0 hz1 hz2 rfl (by decide) _ _ _ rfl (World.ownsRow_made w4 #[] 0 (Nat.le_refl _) (Nat.zero_le _) rfl) ⟨q, 0, none⟩ X.N cap (An.bvals B X.N) rfl ?c1 ?c2 ?c3 ?c4 ?c5 ?c6 ?_)
    case c1 => rw [An.bvals_length, Nat.mul_one]
    case c2 =>
      intro j u hj
      have hj' : j < X.N := by
        have := (List.getElem?_eq_some_iff.1 hj).1
        rwa [An.bvals_length] at this
      rw [An.bvals_at B X.N j hj'] at hj
      have h2 := (grown_alloc w4 (.cells #[] 5) none).cell (HR4.out.b.c j hj') (by simp)
      rw [← hj, An.aaddr_add]
      simpa using h2
    case c3 => exact An.bvals_one B X.N
    case c4 => simp only [maxLen]; omega
    case c5 => omega
    case c6 => simp
    intro v' w5 hown hgrow hiff
    have hv : v' ≠ .slice none 0 0 := fun e => hiff e
    obtain ⟨q1, cap1, rfl, k1, k2, k3, k4⟩ := An.bytesNew_val (An.bytes_end w4 w5 X.N B v' (by simpa using hown) (grown_own (grown_alloc w4 _ none) hgrow (Nat.le_refl _)) hv)
    clear hown hgrow hiff hv hi hz0 hz1 hz2 c0 c0'
    have y3' := y3
    have y3 := k4.cell y3 (by simp)
    have y4 := k4.cell y4 (by simp)
    have HY5 := Lib.hid (HY.out.grown k4)
    have HR5 := Lib.hid (HR4.out.grown k4)
    have HK := Lib.hid (And.intro k1 (And.intro k2 k3))
    have HBV5 := Lib.hid (HBV.out.grown k4)
    have hw45 := k4.size
    have haN : (a : Int) ≤ X.N := by omega
    have hNc : (X.N : Int) ≤ cap1 := by omega
    have hac : (a : Int) ≤ cap1 := by omega
    have hfr5 := Lib.hid k4
    clear k1 k2 k3 k4
    have HFIN : Hid (∀ w7, An.BytesAt w7 q1 X.N (Ar.setB B a m V) → w5.grownBy w7 (some q1) → w7.cell? ⟨r, 0, none⟩ = some (.slice (some ⟨q, 0, none⟩) X.N cap) ∧ w7.frozen? ⟨r, 0, none⟩ = false ∧ PL8 w0 (w7.setCell ⟨r, 0, none⟩ (.slice (some ⟨q1, 0, none⟩) X.N cap1)) X r cnt q1 cap1 vc A L Z (Ar.setB B a m V)) := Lib.hid (fun w7 hb7 hg7 => by
      have hq1 := HK.out.2.1
      have hrl := HR4.out.rlt
      have G := grown_own hfr5.out hg7 hq1
      have h7 := HR4.out.grown G
      have hw0 := HY.out.all.size
      refine ⟨h7.c0, h7.fz 0, (HY.out.grown G).other (An.agrown_set _ _ _ _) HT.out.pl.r1 HT.out.pl.r2 HT.out.pl.r3 HT.out.pl.g.r0, ?_, HT.out.pl.z, HT.out.pl.r1, HT.out.pl.r2, HT.out.pl.r3, HY.out.not_may hq1, HT.out.pl.na⟩
      refine h7.setb hb7 HK.out.1 (Ar.setB_lt HR4.out.lt HT.out.row.lt _ _) (by omega) (by omega) (fun hl b e => ?_)
      rcases HR4.out.els with h | ⟨g, e2, _, _, hc⟩
      · exact absurd h hl
      · have hgl : g < w4.heap.size := World.block_lt_of_cell? w4 ⟨g, 0 * 2, none⟩ (hc 0 (by omega)).1
        rw [e] at e2
        cases e2
        show g ≠ q1
        omega)
    have HKK : Hid (cnt ≤ K + 1 ∧ L.length ≤ K + 1) := Lib.hid (by have := HT.out.kc; have := HT.out.kl; omega)
    have hb5 : An.BytesAt w5.drew q1 X.N B := HK.out.2.2.grown (grown_drew1 (grown_refl w5 none)) (by simp)
    have hs5 := HBV5.out.grown (grown_drew1 (grown_refl w5 none))
    have hobl : ob < w5.heap.size := World.block_lt_of_cell? w5 ⟨ob, 3, none⟩ y3
    have hobq : ob ≠ q1 := by have := HK.out.2.1; have := World.block_lt_of_cell? w4 ⟨ob, 3, none⟩ y3'; simp at this; omega
    by_cases hca : cap1 = a
    · have hm0 : m = 0 := by omega
      subst hm0
      obtain ⟨w7, hcp, hb7, hg7⟩ := An.copy_run2 hb5 0 (X.N - a) 0 0 (by omega) (by omega) V bA bc (.inl rfl)
      have e0 : Ar.setB B 0 0 V = Ar.setB B a 0 V := by funext i; unfold Ar.setB; rw [if_neg (by omega), if_neg (by omega)]
      rw [e0] at hb7
      obtain ⟨d0, z0, hpl⟩ := HFIN.out w7 hb7 (grown_trans (grown_drew1 (grown_refl w5 _)) hg7)
      have HPL := Lib.hid hpl
      have hcp := hcp 3
      have HCP := Lib.hid hcp
      have hg57 := grown_trans (grown_drew1 (grown_refl w5 (some q1))) hg7
      have v3 := hg57.cell y3 (some_ne hobq)
      have v4 := hg57.cell y4 (some_ne hobq)
      clear hpl HFIN hb7 hg7 hb5 hs5 e0 hcp hg57
      subst hca
      go_upto_region 25 with (fail)
      go_region_held3 (fun w' => w'.cell? ⟨ob, 3, none⟩ = some (.int .i64 (cap1 : Nat)) ∧ w'.cell? ⟨ob, 4, none⟩ = some (.slice bA 0 bc))
        (first | exact ⟨y3, y4⟩ | exact ⟨v3, v4⟩)
        (refine step_copy_run rfl _ _ _ rfl (.slice (some ⟨q1, 0, none⟩) (X.N - cap1) 0) (.slice bA 0 bc) _ _ rfl rfl HCP.out ?_)
      all_goals
        clear HCP HK HR4 HR5 HBV HBV5 HY HY5 hfr5 y3 y4
        go_wp2
        exact ⟨rfl, rfl, rfl, rfl, rfl, rfl, rfl, rfl, rfl, cnt, q1, cap1, vc, A, L, Z, _, HPL.out, HKK.out⟩
    · obtain ⟨w7, hcp, hb7, hg7⟩ := An.copy_run2 hb5 a (X.N - a) m (cap1 - a) (by omega) (fun _ => hbd) V bA bc hs5
      obtain ⟨d0, z0, hpl⟩ := HFIN.out w7 hb7 (grown_trans (grown_drew1 (grown_refl w5 _)) hg7)
      have HPL := Lib.hid hpl
      have HCP := Lib.hid hcp
      have hg57 := grown_trans (grown_drew1 (grown_refl w5 (some q1))) hg7
      have v3 := hg57.cell y3 (some_ne hobq)
      have v4 := hg57.cell y4 (some_ne hobq)
      clear hpl HFIN hb7 hg7 hb5 hs5 hcp hg57
      go_upto_region 25 with (fail)
      go_region_held3 (fun w' => w'.cell? ⟨ob, 3, none⟩ = some (.int .i64 (a : Nat)) ∧ w'.cell? ⟨ob, 4, none⟩ = some (.slice bA m bc))
        (first | exact ⟨y3, y4⟩ | exact ⟨v3, v4⟩)
        (refine step_copy_run rfl _ _ _ rfl (.slice (some ⟨q1, a, none⟩) (X.N - a) (cap1 - a)) (.slice bA m bc) _ _ rfl rfl (HCP.out _) ?_)
      all_goals
        clear HCP HK HR4 HR5 HBV HBV5 HY HY5 hfr5 y3 y4
        go_wp2
        exact ⟨rfl, rfl, rfl, rfl, rfl, rfl, rfl, rfl, rfl, cnt, q1, cap1, vc, A, L, Z, _, HPL.out, HKK.out⟩
  · have hbf : An.inB X.N ta m = false := by simpa using hb
    have HST := Lib.hid (An.store_bad X.pa X.qa X.N X.cap ta bA m bc w3 hd.ar.c0 hsm (by omega) hbf)
    have HPL := Lib.hid HT.out.pl
    have HKK : Hid (cnt ≤ K + 1 ∧ L.length ≤ K + 1) := Lib.hid (by have := HT.out.kc; have := HT.out.kl; omega)
    clear hb hbf hsm hd
    conv => arg 2; whnf
    go_wp2_with fail
    refine HST.out.mono ?_
    rintro e w' ⟨rfl, rfl⟩
    clear o1 o2 o3 o4 HST
    go_wp2
    exact ⟨rfl, rfl, rfl, rfl, rfl, rfl, rfl, rfl, rfl, cnt, q, cap, vc, A, L, Z, B, HPL.out, HKK.out⟩
end Go.Proofs.Yticoojcmlkdeiaa
