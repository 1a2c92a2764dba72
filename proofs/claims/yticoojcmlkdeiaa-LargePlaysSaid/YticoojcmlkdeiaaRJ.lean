/- LargePlays: the switch. -/
import Derived.Test.YticoojcmlkdeiaaRI
namespace Go.Proofs.Yticoojcmlkdeiaa
open Go.RowKit
open Sl (upd)
open Lg (pgs)
open Rf (LZ)

/-- A call of the law's. -/
structure LOp where
  k : Int
  p : Int
  n : Int
  a : Int
  bA : Option Addr
  bl : Nat
  bc : Nat
  V : Nat → Nat
instance : Inhabited LOp := ⟨⟨0, 0, 0, 0, none, 0, 0, fun _ => 0⟩⟩
structure LCells (w : World) (b o : Nat) (t : LOp) (m : Nat) : Prop where
  c0 : w.cell? ⟨b, o, none⟩ = some (.int .i64 t.k)
  c1 : w.cell? ⟨b, o + 1, none⟩ = some (.int .i64 t.p)
  c2 : w.cell? ⟨b, o + 2, none⟩ = some (.int .i64 t.n)
  c3 : w.cell? ⟨b, o + 3, none⟩ = some (.int .i64 t.a)
  c4 : w.cell? ⟨b, o + 4, none⟩ = some (.slice t.bA m t.bc)
structure LRow (w : World) (t : LOp) : Prop where
  wp : WF t.p
  b : BArg w t.bA t.bl t.V
  bc : t.bl ≤ t.bc
  bm : t.bl ≤ 9223372036854775807
  lt : ∀ i, t.V i < 256
/-- What the switch begins with. -/
structure TBeg (w0 w3 : World) (X : Lp) (r cnt q cap vc ob m K : Nat) (A : Option Addr) (L : List (Nat × Nat)) (Z B : Nat → Nat) (t : LOp) : Prop where
  pl : PL8 w0 w3 X r cnt q cap vc A L Z B
  kc : cnt ≤ K
  kl : L.length ≤ K
  k : K ≤ 900
  row : LRow w0 t
  o : LCells w3 ob 0 t m
  om : ¬ X.may ob
  nr : ob ≠ r
  m60 : m ≤ 60
  ml : m ≤ t.bl
set_option maxRecDepth 100000 in
set_option maxHeartbeats 8000000 in
theorem pcase_other {u0 u1 u2 u3 u4 u5 u6 u9 u12 u14 u15 u16 u17 u18 u19 u20 u21 u22 u23 u24 u25 u26 u27 u28 u29 u30 u31 u32 u33 u34 u35 u36 u37 u38 u39 u40 u41 u45 u46 u47 u48 u49 u50 u51 u52 u53 u54 u55 u56 u57 u58 u59 u61 u62 u63 u64 u65 u66 u67 u68 u69 u70 u71 u72 u73 u74 u75 u76 u77 u78 u79 u80 u81 u82 u83 u84 u85 u86 u87 u88 u89 u90 u91 u92 u93 u94 u95 u96 u97 u98 u99 u100 u101 u102 u103 u104 u105 u106 u107 u108 u109 u110 u111 u112 u113 u114 u115 u116 u117 u118 u119 u120 u121 u122 u123 u124 u125 u126 u127 u128 u129 u130 u131 u132 u133 u134 u135 u136 u137 u138 u139 u140 u141 u142 u143 u144 u145 u146 u147 u148 u149 u150 u151 u152 u153 u154 u155 u156 u157 u158 u159 u160 u161 u162 u163 u164 u165 u166 u167 u168 u169 u170 u171 u172 u173 u174 u175 u176 u177 u178 u179 u180 u181 u182 u183 u184 u185 u186 u187 u188 u189 u190 u191 u192 u193 u194 u195 u196 u197 u198 u199 u200 u201 u202 u203 u204 : Value} {R : Exit → Go.Act → World → Prop} {w0 w3 : World} {X : Lp} {r cnt q cap vc ob m K nn : Nat} {A : Option Addr} {L : List (Nat × Nat)} {Z B : Nat → Nat} {t : LOp} {c42 c43 c44 : Value} (HT : Hid (TBeg w0 w3 X r cnt q cap vc ob m K A L Z B t)) (hk : ¬ t.k = 0 ∧ ¬ t.k = 1 ∧ ¬ t.k = 2 ∧ ¬ t.k = 3 ∧ ¬ t.k = 4 ∧ ¬ t.k = 5) (hend : ∀ a w, TEnd w0 X r nn (K + 1) c42 c43 c44 a w → R .normal a w) :
    Code.wp Try.prog psw R ⟨#[u0, u1, u2, u3, u4, u5, u6, .int .i64 (nn : Nat), .pointer (some ⟨X.pa, 0, none⟩), u9, .pointer (some ⟨X.p, 0, none⟩), .pointer (some ⟨r, 0, none⟩), u12, .pointer (some ⟨ob, 0, none⟩), u14, u15, u16, u17, u18, u19, u20, u21, u22, u23, u24, u25, u26, u27, u28, u29, u30, u31, u32, u33, u34, u35, u36, u37, u38, u39, u40, u41, c42, c43, c44, u45, u46, u47, u48, u49, u50, u51, u52, u53, u54, u55, u56, u57, u58, u59, .int .i64 t.k, u61, u62, u63, u64, u65, u66, u67, u68, u69, u70, u71, u72, u73, u74, u75, u76, u77, u78, u79, u80, u81, u82, u83, u84, u85, u86, u87, u88, u89, u90, u91, u92, u93, u94, u95, u96, u97, u98, u99, u100, u101, u102, u103, u104, u105, u106, u107, u108, u109, u110, u111, u112, u113, u114, u115, u116, u117, u118, u119, u120, u121, u122, u123, u124, u125, u126, u127, u128, u129, u130, u131, u132, u133, u134, u135, u136, u137, u138, u139, u140, u141, u142, u143, u144, u145, u146, u147, u148, u149, u150, u151, u152, u153, u154, u155, u156, u157, u158, u159, u160, u161, u162, u163, u164, u165, u166, u167, u168, u169, u170, u171, u172, u173, u174, u175, u176, u177, u178, u179, u180, u181, u182, u183, u184, u185, u186, u187, u188, u189, u190, u191, u192, u193, u194, u195, u196, u197, u198, u199, u200, u201, u202, u203, u204], []⟩ w3 := by
  obtain ⟨tk, tp, tn, ta, bA, bl, bc, V⟩ := t
  have o1 : w3.cell? ⟨ob, 1, none⟩ = some (.int .i64 tp) := HT.out.o.c1
  have o2 : w3.cell? ⟨ob, 2, none⟩ = some (.int .i64 tn) := HT.out.o.c2
  have o3 : w3.cell? ⟨ob, 3, none⟩ = some (.int .i64 ta) := HT.out.o.c3
  have o4 : w3.cell? ⟨ob, 4, none⟩ = some (.slice bA m bc) := HT.out.o.c4
  simp only at hk
  obtain ⟨k0, k1, k2, k3, k4, k5⟩ := hk
  have HPL := Lib.hid HT.out.pl
  have HK : Hid (cnt ≤ K + 1 ∧ L.length ≤ K + 1) := Lib.hid (by have := HT.out.kc; have := HT.out.kl; omega)
  clear o1 o2 o3 o4
  conv => arg 2; whnf
  go_wp2
  exact ⟨rfl, rfl, rfl, rfl, rfl, rfl, rfl, rfl, rfl, cnt, q, cap, vc, A, L, Z, B, HPL.out, HK.out⟩
set_option maxRecDepth 100000 in
set_option maxHeartbeats 8000000 in
theorem pcase_drop {u0 u1 u2 u3 u4 u5 u6 u9 u12 u14 u15 u16 u17 u18 u19 u20 u21 u22 u23 u24 u25 u26 u27 u28 u29 u30 u31 u32 u33 u34 u35 u36 u37 u38 u39 u40 u41 u45 u46 u47 u48 u49 u50 u51 u52 u53 u54 u55 u56 u57 u58 u59 u61 u62 u63 u64 u65 u66 u67 u68 u69 u70 u71 u72 u73 u74 u75 u76 u77 u78 u79 u80 u81 u82 u83 u84 u85 u86 u87 u88 u89 u90 u91 u92 u93 u94 u95 u96 u97 u98 u99 u100 u101 u102 u103 u104 u105 u106 u107 u108 u109 u110 u111 u112 u113 u114 u115 u116 u117 u118 u119 u120 u121 u122 u123 u124 u125 u126 u127 u128 u129 u130 u131 u132 u133 u134 u135 u136 u137 u138 u139 u140 u141 u142 u143 u144 u145 u146 u147 u148 u149 u150 u151 u152 u153 u154 u155 u156 u157 u158 u159 u160 u161 u162 u163 u164 u165 u166 u167 u168 u169 u170 u171 u172 u173 u174 u175 u176 u177 u178 u179 u180 u181 u182 u183 u184 u185 u186 u187 u188 u189 u190 u191 u192 u193 u194 u195 u196 u197 u198 u199 u200 u201 u202 u203 u204 : Value} {R : Exit → Go.Act → World → Prop} {w0 w3 : World} {X : Lp} {r cnt q cap vc ob m K nn : Nat} {A : Option Addr} {L : List (Nat × Nat)} {Z B : Nat → Nat} {t : LOp} {c42 c43 c44 : Value} (HT : Hid (TBeg w0 w3 X r cnt q cap vc ob m K A L Z B t)) (hk : t.k = 3 ∨ t.k = 4) (hend : ∀ a w, TEnd w0 X r nn (K + 1) c42 c43 c44 a w → R .normal a w) :
    Code.wp Try.prog psw R ⟨#[u0, u1, u2, u3, u4, u5, u6, .int .i64 (nn : Nat), .pointer (some ⟨X.pa, 0, none⟩), u9, .pointer (some ⟨X.p, 0, none⟩), .pointer (some ⟨r, 0, none⟩), u12, .pointer (some ⟨ob, 0, none⟩), u14, u15, u16, u17, u18, u19, u20, u21, u22, u23, u24, u25, u26, u27, u28, u29, u30, u31, u32, u33, u34, u35, u36, u37, u38, u39, u40, u41, c42, c43, c44, u45, u46, u47, u48, u49, u50, u51, u52, u53, u54, u55, u56, u57, u58, u59, .int .i64 t.k, u61, u62, u63, u64, u65, u66, u67, u68, u69, u70, u71, u72, u73, u74, u75, u76, u77, u78, u79, u80, u81, u82, u83, u84, u85, u86, u87, u88, u89, u90, u91, u92, u93, u94, u95, u96, u97, u98, u99, u100, u101, u102, u103, u104, u105, u106, u107, u108, u109, u110, u111, u112, u113, u114, u115, u116, u117, u118, u119, u120, u121, u122, u123, u124, u125, u126, u127, u128, u129, u130, u131, u132, u133, u134, u135, u136, u137, u138, u139, u140, u141, u142, u143, u144, u145, u146, u147, u148, u149, u150, u151, u152, u153, u154, u155, u156, u157, u158, u159, u160, u161, u162, u163, u164, u165, u166, u167, u168, u169, u170, u171, u172, u173, u174, u175, u176, u177, u178, u179, u180, u181, u182, u183, u184, u185, u186, u187, u188, u189, u190, u191, u192, u193, u194, u195, u196, u197, u198, u199, u200, u201, u202, u203, u204], []⟩ w3 := by
  obtain ⟨tk, tp, tn, ta, bA, bl, bc, V⟩ := t
  have o1 : w3.cell? ⟨ob, 1, none⟩ = some (.int .i64 tp) := HT.out.o.c1
  have o2 : w3.cell? ⟨ob, 2, none⟩ = some (.int .i64 tn) := HT.out.o.c2
  have o3 : w3.cell? ⟨ob, 3, none⟩ = some (.int .i64 ta) := HT.out.o.c3
  have o4 : w3.cell? ⟨ob, 4, none⟩ = some (.slice bA m bc) := HT.out.o.c4
  simp only at hk
  obtain ⟨b, c, hd⟩ := both_drop HT.out.pl (by have := HT.out.kl; have := HT.out.k; omega) tp HT.out.row.wp
  have HD := Lib.hid hd
  clear hd o2 o3 o4
  have hbb : (b != b) = false := by simp
  have hcc : (c != c) = false := by simp
  rcases hk with rfl | rfl
  all_goals
    conv => arg 2; whnf
    go_wp2_with fail
    refine HD.out.mono ?_
    rintro e w4 ⟨rfl, hf, hr⟩
    have y1 := hf.cell o1 HT.out.om
    have HR := Lib.hid (hr w4 (grown_refl w4 none))
    clear hf hr o1
    go_wp2_with fail
    refine HR.out.mono ?_
    rintro e w5 ⟨rfl, hg, hout⟩
    have HO := Lib.hid hout
    clear hg hout y1 HR HD
    go_wp2
    obtain ⟨cnt', q', cap', vc', A', L', Z', B', hpl, h1, h2⟩ := HO.out
    have h3 := HT.out.kc
    have h4 := HT.out.kl
    exact ⟨rfl, rfl, rfl, rfl, rfl, rfl, rfl, rfl, rfl, cnt', q', cap', vc', A', L', Z', B', hpl, by omega, by omega⟩
set_option maxRecDepth 100000 in
set_option maxHeartbeats 8000000 in
theorem pcase_make {u0 u1 u2 u3 u4 u5 u6 u9 u12 u14 u15 u16 u17 u18 u19 u20 u21 u22 u23 u24 u25 u26 u27 u28 u29 u30 u31 u32 u33 u34 u35 u36 u37 u38 u39 u40 u41 u45 u46 u47 u48 u49 u50 u51 u52 u53 u54 u55 u56 u57 u58 u59 u61 u62 u63 u64 u65 u66 u67 u68 u69 u70 u71 u72 u73 u74 u75 u76 u77 u78 u79 u80 u81 u82 u83 u84 u85 u86 u87 u88 u89 u90 u91 u92 u93 u94 u95 u96 u97 u98 u99 u100 u101 u102 u103 u104 u105 u106 u107 u108 u109 u110 u111 u112 u113 u114 u115 u116 u117 u118 u119 u120 u121 u122 u123 u124 u125 u126 u127 u128 u129 u130 u131 u132 u133 u134 u135 u136 u137 u138 u139 u140 u141 u142 u143 u144 u145 u146 u147 u148 u149 u150 u151 u152 u153 u154 u155 u156 u157 u158 u159 u160 u161 u162 u163 u164 u165 u166 u167 u168 u169 u170 u171 u172 u173 u174 u175 u176 u177 u178 u179 u180 u181 u182 u183 u184 u185 u186 u187 u188 u189 u190 u191 u192 u193 u194 u195 u196 u197 u198 u199 u200 u201 u202 u203 u204 : Value} {R : Exit → Go.Act → World → Prop} {w0 w3 : World} {X : Lp} {r cnt q cap vc ob m K nn : Nat} {A : Option Addr} {L : List (Nat × Nat)} {Z B : Nat → Nat} {t : LOp} {c42 c43 c44 : Value} (HT : Hid (TBeg w0 w3 X r cnt q cap vc ob m K A L Z B t)) (hk : t.k = 0 ∨ t.k = 1 ∨ t.k = 2) (hend : ∀ a w, TEnd w0 X r nn (K + 1) c42 c43 c44 a w → R .normal a w) :
    Code.wp Try.prog psw R ⟨#[u0, u1, u2, u3, u4, u5, u6, .int .i64 (nn : Nat), .pointer (some ⟨X.pa, 0, none⟩), u9, .pointer (some ⟨X.p, 0, none⟩), .pointer (some ⟨r, 0, none⟩), u12, .pointer (some ⟨ob, 0, none⟩), u14, u15, u16, u17, u18, u19, u20, u21, u22, u23, u24, u25, u26, u27, u28, u29, u30, u31, u32, u33, u34, u35, u36, u37, u38, u39, u40, u41, c42, c43, c44, u45, u46, u47, u48, u49, u50, u51, u52, u53, u54, u55, u56, u57, u58, u59, .int .i64 t.k, u61, u62, u63, u64, u65, u66, u67, u68, u69, u70, u71, u72, u73, u74, u75, u76, u77, u78, u79, u80, u81, u82, u83, u84, u85, u86, u87, u88, u89, u90, u91, u92, u93, u94, u95, u96, u97, u98, u99, u100, u101, u102, u103, u104, u105, u106, u107, u108, u109, u110, u111, u112, u113, u114, u115, u116, u117, u118, u119, u120, u121, u122, u123, u124, u125, u126, u127, u128, u129, u130, u131, u132, u133, u134, u135, u136, u137, u138, u139, u140, u141, u142, u143, u144, u145, u146, u147, u148, u149, u150, u151, u152, u153, u154, u155, u156, u157, u158, u159, u160, u161, u162, u163, u164, u165, u166, u167, u168, u169, u170, u171, u172, u173, u174, u175, u176, u177, u178, u179, u180, u181, u182, u183, u184, u185, u186, u187, u188, u189, u190, u191, u192, u193, u194, u195, u196, u197, u198, u199, u200, u201, u202, u203, u204], []⟩ w3 := by
  obtain ⟨tk, tp, tn, ta, bA, bl, bc, V⟩ := t
  have o1 : w3.cell? ⟨ob, 1, none⟩ = some (.int .i64 tp) := HT.out.o.c1
  have o2 : w3.cell? ⟨ob, 2, none⟩ = some (.int .i64 tn) := HT.out.o.c2
  have o3 : w3.cell? ⟨ob, 3, none⟩ = some (.int .i64 ta) := HT.out.o.c3
  have o4 : w3.cell? ⟨ob, 4, none⟩ = some (.slice bA m bc) := HT.out.o.c4
  simp only at hk
  obtain ⟨c, hd⟩ := both_make (HT.out.pl.grown (grown_drew1 (grown_refl w3 none))) (by have := HT.out.kc; have := HT.out.k; omega) (by have := HT.out.kl; have := HT.out.k; omega) tp tn
  have HD := Lib.hid hd
  clear hd o3 o4
  have hcc : (c != c) = false := by simp
  rcases hk with rfl | rfl | rfl
  all_goals
    conv => arg 2; whnf
    go_upto_region 14 with (fail)
    go_region_held3 (fun w' => w'.cell? ⟨ob, 1, none⟩ = some (.int .i64 tp) ∧ w'.cell? ⟨ob, 2, none⟩ = some (.int .i64 tn))
      (first | exact ⟨o1, o2⟩ | exact ⟨y3, y4⟩ | exact ⟨y1, y2⟩)
      (first
      | (go_at_call 29; (with_reducible refine HD.out.mono ?_); rintro e w4 ⟨rfl, hf, hr⟩; have y1 := hf.cell (by simpa using o1) HT.out.om; have y2 := hf.cell (by simpa using o2) HT.out.om; have HR := Lib.hid (hr w4 (grown_refl w4 none)); clear hf hr)
      | (go_at_call 30; (with_reducible refine HR.out.mono ?_); rintro e w5 ⟨rfl, hg, hout⟩; have HO := Lib.hid hout; have y3 := hg.cell y1 (some_ne HT.out.nr); have y4 := hg.cell y2 (some_ne HT.out.nr); clear hg hout))
    clear o1 o2 y1 y2 y3 y4 HR HD
    go_wp2
    obtain ⟨cnt', q', cap', vc', A', L', Z', B', hpl, h1, h2⟩ := HO.out
    have h3 := HT.out.kc
    have h4 := HT.out.kl
    exact ⟨rfl, rfl, rfl, rfl, rfl, rfl, rfl, rfl, rfl, cnt', q', cap', vc', A', L', Z', B', hpl, by omega, by omega⟩
end Go.Proofs.Yticoojcmlkdeiaa
