/- ArenaPlays: a call of no kind. -/
import Derived.Test.YtbpganholopjfaaAY
import Derived.Deep.RegionHeld3
import Derived.BigQuiet
namespace Go.Proofs.Ytbpganholopjfaa
open Go.RowKit
set_option maxRecDepth 100000 in
set_option maxHeartbeats 4000000 in
theorem pcase_other {u0 u1 u2 u3 u4 u7 u9 u10 u11 u12 u13 u14 u15 u16 u17 u18 u19 u20 u21 u22 u23 u24 u25 u26 u27 u28 u29 u30 u31 u32 u36 u37 u38 u39 u40 u41 u42 u43 u44 u45 u46 u47 u48 u49 u50 u51 u52 u53 u54 u55 u56 u57 u58 u59 u60 u61 u62 u63 u64 u65 u66 u67 u68 u69 u70 u71 u72 u73 u74 u75 u76 u77 u78 u79 u80 u81 u82 u83 u84 u85 u86 u87 u88 u89 u90 u91 u92 u93 u94 u95 u96 u97 u98 u99 u100 u101 u102 u103 u104 u105 u106 u107 u108 u109 u110 u111 u112 u113 u114 u115 u116 u117 u118 u119 u120 u121 u122 u123 u124 u125 u126 u127 u128 u129 u130 u131 u132 u133 u134 u135 u136 u137 u138 u139 u140 u141 u142 u143 u144 u145 u146 u147 u148 u149 u150 u151 u152 u153 u154 u155 u156 u157 u158 u159 u160 u161 u162 u163 u164 u165 u166 u167 u168 u169 u170 u171 u172 u173 u174 u175 u176 u177 u178 u179 u180 u181 u182 u183 u184 u185 u186 u187 u188 u189 u190 u191 u192 u193 u194 u195 u196 u197 u198 u199 u200 u201 u202 u203 u204 u205 u206 u207 u208 u209 u210 u211 u212 u213 u214 u215 u216 u217 u218 u219 u220 u221 u222 u223 u224 u225 u226 u227 u228 u229 u230 u231 u232 u233 u234 u235 u236 u237 u238 u239 u240 u241 u242 u243 u244 u245 : Value} {R : Exit → Go.Act → World → Prop} {w0 w3 : World} {p q cap q1 c1 N ob M : Nat} {B : Nat → Nat} {t : AOp} {c33 c34 c35 : Value} (HT : Hid (TBeg w0 w3 p q cap q1 c1 N ob M B t)) (hk : ¬ t.k = 0 ∧ ¬ t.k = 1 ∧ ¬ t.k = 2 ∧ ¬ t.k = 3 ∧ ¬ t.k = 4 ∧ ¬ t.k = 5 ∧ ¬ t.k = 6) (hend : ∀ a w, TEnd w0 p q cap N c33 c34 c35 a w → R .normal a w) :
    Code.wp Try.prog ptail R ⟨#[u0, u1, u2, u3, u4, .pointer (some ⟨p, 0, none⟩), .slice (some ⟨q1, 0, none⟩) N c1, u7, .pointer (some ⟨ob, 0, none⟩), u9, u10, u11, u12, u13, u14, u15, u16, u17, u18, u19, u20, u21, u22, u23, u24, u25, u26, u27, u28, u29, u30, u31, u32, c33, c34, c35, u36, u37, u38, u39, u40, u41, u42, u43, u44, u45, u46, u47, u48, u49, u50, u51, u52, u53, u54, u55, u56, u57, u58, u59, u60, u61, u62, u63, u64, u65, u66, u67, u68, u69, u70, u71, u72, u73, u74, u75, u76, u77, u78, u79, u80, u81, u82, u83, u84, u85, u86, u87, u88, u89, u90, u91, u92, u93, u94, u95, u96, u97, u98, u99, u100, u101, u102, u103, u104, u105, u106, u107, u108, u109, u110, u111, u112, u113, u114, u115, u116, u117, u118, u119, u120, u121, u122, u123, u124, u125, u126, u127, u128, u129, u130, u131, u132, u133, u134, u135, u136, u137, u138, u139, u140, u141, u142, u143, u144, u145, u146, u147, u148, u149, u150, u151, u152, u153, u154, u155, u156, u157, u158, u159, u160, u161, u162, u163, u164, u165, u166, u167, u168, u169, u170, u171, u172, u173, u174, u175, u176, u177, u178, u179, u180, u181, u182, u183, u184, u185, u186, u187, u188, u189, u190, u191, u192, u193, u194, u195, u196, u197, u198, u199, u200, u201, u202, u203, u204, u205, u206, u207, u208, u209, u210, u211, u212, u213, u214, u215, u216, u217, u218, u219, u220, u221, u222, u223, u224, u225, u226, u227, u228, u229, u230, u231, u232, u233, u234, u235, u236, u237, u238, u239, u240, u241, u242, u243, u244, u245], []⟩ w3 := by
  obtain ⟨tk, ta, tn, tc, tx, bA, bl, bc, bS, aA, al, ac, aF⟩ := t
  have o0 : w3.cell? ⟨ob, 0, none⟩ = some (.int .i64 tk) := HT.out.oc.c0
  have o1 : w3.cell? ⟨ob, 1, none⟩ = some (.int .i64 ta) := HT.out.oc.c1
  have o2 : w3.cell? ⟨ob, 2, none⟩ = some (.int .i64 tn) := HT.out.oc.c2
  have o3 : w3.cell? ⟨ob, 3, none⟩ = some (.int .u8 (tc : Nat)) := HT.out.oc.c3
  have o4 : w3.cell? ⟨ob, 4, none⟩ = some (.int .u64 (tx : Nat)) := HT.out.oc.c4
  have o5 : w3.cell? ⟨ob, 5, none⟩ = some (.slice bA M bc) := HT.out.oc.c5
  have o6 : w3.cell? ⟨ob, 6, none⟩ = some (.slice aA al ac) := HT.out.oc.c6
  simp only at hk
  obtain ⟨k0, k1, k2, k3, k4, k5, k6⟩ := hk
  have HPL := Lib.hid HT.out.pl
  clear o1 o2 o3 o4 o5 o6
  conv => arg 2; whnf
  have HSM := Lib.hid (same_at HPL.out.ar HPL.out.ls (fun i _ => rfl))
  go_wp2_with fail
  refine HSM.out.mono ?_
  rintro e w9 ⟨rfl, hg9⟩
  have HE := Lib.hid (HPL.out.grown hg9)
  clear hg9
  go_wp2
  exact ⟨rfl, rfl, rfl, rfl, rfl, rfl, _, _, _, rfl, HE.out⟩
end Go.Proofs.Ytbpganholopjfaa
