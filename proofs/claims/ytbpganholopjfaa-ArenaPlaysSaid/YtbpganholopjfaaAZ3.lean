/- ArenaPlays: SetWord. -/
import Derived.Test.YtbpganholopjfaaAY
import Derived.Deep.RegionHeld3
import Derived.BigQuiet
namespace Go.Proofs.Ytbpganholopjfaa
open Go.RowKit
set_option maxRecDepth 100000 in
set_option maxHeartbeats 4000000 in
theorem pcase_setword {u0 u1 u2 u3 u4 u7 u9 u10 u11 u12 u13 u14 u15 u16 u17 u18 u19 u20 u21 u22 u23 u24 u25 u26 u27 u28 u29 u30 u31 u32 u36 u37 u38 u39 u40 u41 u42 u43 u44 u45 u46 u47 u48 u49 u50 u51 u52 u53 u54 u55 u56 u57 u58 u59 u60 u61 u62 u63 u64 u65 u66 u67 u68 u69 u70 u71 u72 u73 u74 u75 u76 u77 u78 u79 u80 u81 u82 u83 u84 u85 u86 u87 u88 u89 u90 u91 u92 u93 u94 u95 u96 u97 u98 u99 u100 u101 u102 u103 u104 u105 u106 u107 u108 u109 u110 u111 u112 u113 u114 u115 u116 u117 u118 u119 u120 u121 u122 u123 u124 u125 u126 u127 u128 u129 u130 u131 u132 u133 u134 u135 u136 u137 u138 u139 u140 u141 u142 u143 u144 u145 u146 u147 u148 u149 u150 u151 u152 u153 u154 u155 u156 u157 u158 u159 u160 u161 u162 u163 u164 u165 u166 u167 u168 u169 u170 u171 u172 u173 u174 u175 u176 u177 u178 u179 u180 u181 u182 u183 u184 u185 u186 u187 u188 u189 u190 u191 u192 u193 u194 u195 u196 u197 u198 u199 u200 u201 u202 u203 u204 u205 u206 u207 u208 u209 u210 u211 u212 u213 u214 u215 u216 u217 u218 u219 u220 u221 u222 u223 u224 u225 u226 u227 u228 u229 u230 u231 u232 u233 u234 u235 u236 u237 u238 u239 u240 u241 u242 u243 u244 u245 : Value} {R : Exit → Go.Act → World → Prop} {w0 w3 : World} {p q cap q1 c1 N ob M : Nat} {B : Nat → Nat} {t : AOp} {c33 c34 c35 : Value} (HT : Hid (TBeg w0 w3 p q cap q1 c1 N ob M B t)) (hk : t.k = 3) (hend : ∀ a w, TEnd w0 p q cap N c33 c34 c35 a w → R .normal a w) :
    Code.wp Try.prog ptail R ⟨#[u0, u1, u2, u3, u4, .pointer (some ⟨p, 0, none⟩), .slice (some ⟨q1, 0, none⟩) N c1, u7, .pointer (some ⟨ob, 0, none⟩), u9, u10, u11, u12, u13, u14, u15, u16, u17, u18, u19, u20, u21, u22, u23, u24, u25, u26, u27, u28, u29, u30, u31, u32, c33, c34, c35, u36, u37, u38, u39, u40, u41, u42, u43, u44, u45, u46, u47, u48, u49, u50, u51, u52, u53, u54, u55, u56, u57, u58, u59, u60, u61, u62, u63, u64, u65, u66, u67, u68, u69, u70, u71, u72, u73, u74, u75, u76, u77, u78, u79, u80, u81, u82, u83, u84, u85, u86, u87, u88, u89, u90, u91, u92, u93, u94, u95, u96, u97, u98, u99, u100, u101, u102, u103, u104, u105, u106, u107, u108, u109, u110, u111, u112, u113, u114, u115, u116, u117, u118, u119, u120, u121, u122, u123, u124, u125, u126, u127, u128, u129, u130, u131, u132, u133, u134, u135, u136, u137, u138, u139, u140, u141, u142, u143, u144, u145, u146, u147, u148, u149, u150, u151, u152, u153, u154, u155, u156, u157, u158, u159, u160, u161, u162, u163, u164, u165, u166, u167, u168, u169, u170, u171, u172, u173, u174, u175, u176, u177, u178, u179, u180, u181, u182, u183, u184, u185, u186, u187, u188, u189, u190, u191, u192, u193, u194, u195, u196, u197, u198, u199, u200, u201, u202, u203, u204, u205, u206, u207, u208, u209, u210, u211, u212, u213, u214, u215, u216, u217, u218, u219, u220, u221, u222, u223, u224, u225, u226, u227, u228, u229, u230, u231, u232, u233, u234, u235, u236, u237, u238, u239, u240, u241, u242, u243, u244, u245], []⟩ w3 := by
  obtain ⟨tk, ta, tn, tc, tx, bA, bl, bc, bS, aA, al, ac, aF⟩ := t
  have o0 : w3.cell? ⟨ob, 0, none⟩ = some (.int .i64 tk) := HT.out.oc.c0
  have o1 : w3.cell? ⟨ob, 1, none⟩ = some (.int .i64 ta) := HT.out.oc.c1
  have o2 : w3.cell? ⟨ob, 2, none⟩ = some (.int .i64 tn) := HT.out.oc.c2
  have o3 : w3.cell? ⟨ob, 3, none⟩ = some (.int .u8 (tc : Nat)) := HT.out.oc.c3
  have o4 : w3.cell? ⟨ob, 4, none⟩ = some (.int .u64 (tx : Nat)) := HT.out.oc.c4
  have o5 : w3.cell? ⟨ob, 5, none⟩ = some (.slice bA M bc) := HT.out.oc.c5
  have o6 : w3.cell? ⟨ob, 6, none⟩ = some (.slice aA al ac) := HT.out.oc.c6
  simp only at hk
  clear o2 o3 o5 o6
  subst hk
  have hsm := HT.out.pl.ls.small
  have HW := Lib.hid (rword_at HT.out.pl.ls ta)
  by_cases he : wbE N ta = 0
  · obtain ⟨h0, h8, _⟩ := wbE_zero he
    obtain ⟨a, rfl⟩ : ∃ a : Nat, ta = a := ⟨ta.toNat, by omega⟩
    have hbd : a + 8 ≤ N := by omega
    rw [he] at HW
    have HST := Lib.hid (setword_good p q N cap a tx B w3 HT.out.pl.ar.c0 hsm he (fun w' => w3 = w') (fun w' e => by rw [← e]; exact HT.out.pl.ar.b) ((open_none HT.out.pl.ar a 8 hbd).mono (fun e w' h => h)))
    have HPUT := Lib.hid (fun W => rput_at tx HT.out.rows.hx W)
    clear he h0 h8 hsm
    generalize wordV B N a = wv at HW
    conv => arg 2; whnf
    go_wp2_with fail
    refine HW.out.mono ?_
    rintro e w' ⟨rfl, rfl⟩
    go_wp2_with fail
    refine HST.out.mono ?_
    rintro e w4 ⟨rfl, w', rfl, hg, hb4⟩
    have x1 := hg.cell o1 (by have := HT.out.oq; simp; omega)
    have x4 := hg.cell o4 (by have := HT.out.oq; simp; omega)
    have H4 := Lib.hid (And.intro (HT.out.pl.ar.put hb4 hg (by rw [Ar.setW_is]; exact Ar.setB_lt HT.out.pl.ar.lt (Ar.byt_lt _) _ _)) hg)
    have hgr := grown_refl w4 none
    clear hb4 hg o0 o1 o4
    go_upto_region 30 with (fail)
    go_region_held3 (fun w' => w'.cell? ⟨ob, 1, none⟩ = some (.int .i64 (a : Nat)) ∧ w'.cell? ⟨ob, 4, none⟩ = some (.int .u64 (tx : Nat)))
      (first | exact ⟨x1, x4⟩ | exact ⟨z1, z4⟩ | exact ⟨y1, y4⟩)
      (first
      | (go_at_call 18; refine (HPUT.out _).mono ?_; rintro e w5 ⟨qp, cp, rfl, m1, m2, m3, m4⟩; have m5 := grown_trans (grown_drew1 hgr) m4; have y1 := m5.cell x1 (by simp); have y4 := m5.cell x4 (by simp); have HWI := Lib.hid (rwith_at ((HT.out.pl.lsq H4.out.2).grown m5) a 8 hbd (Ar.byt tx) (some ⟨qp, 0, none⟩) cp (.inr ⟨qp, 0, rfl, fun i hi => by rw [Nat.zero_add]; exact m3.c i hi⟩)); clear m1 m2 m3 m4)
      | (go_at_call 14; refine HWI.out.mono ?_; rintro e w6 ⟨qn, cn, rfl, m1, m2, m3, m4⟩; have z1 := m4.cell y1 (by simp); have z4 := m4.cell y4 (by simp); have HPL := Lib.hid (HT.out.pl.next H4.out.1 H4.out.2 (grown_trans m5 m4) (Nat.le_trans m5.size m2) (by rw [Ar.setW_is]; exact m3) m1); clear m1 m2 m3 m4))
    have HSM := Lib.hid (same_at HPL.out.ar HPL.out.ls (fun i _ => rfl))
    go_wp2_with fail
    refine HSM.out.mono ?_
    rintro e w9 ⟨rfl, hg9⟩
    have HE := Lib.hid (HPL.out.grown hg9)
    clear hg9
    go_wp2
    exact ⟨rfl, rfl, rfl, rfl, rfl, rfl, _, _, _, rfl, HE.out⟩
  · obtain ⟨er, her⟩ : ∃ er, wbE N ta = er := ⟨_, rfl⟩
    have HST := Lib.hid (setword_bad p q N cap ta er tx w3 HT.out.pl.ar.c0 hsm her (by rw [← her]; exact he))
    rw [her] at HW he
    have HPL := Lib.hid HT.out.pl
    have hd : decide (er = 0) = false := decide_eq_false he
    clear her hsm
    generalize wordV B N ta = wv at HW
    conv => arg 2; whnf
    go_wp2_with fail
    refine HW.out.mono ?_
    rintro e w' ⟨rfl, rfl⟩
    go_wp2_with fail
    refine HST.out.mono ?_
    rintro e w' ⟨rfl, rfl⟩
    have HSM := Lib.hid (same_at HPL.out.ar HPL.out.ls (fun i _ => rfl))
    go_wp2_with fail
    refine HSM.out.mono ?_
    rintro e w9 ⟨rfl, hg9⟩
    have HE := Lib.hid (HPL.out.grown hg9)
    clear hg9
    go_wp2
    exact ⟨rfl, rfl, rfl, rfl, rfl, rfl, _, _, _, rfl, HE.out⟩
end Go.Proofs.Ytbpganholopjfaa
