/- ArenaPlays: the switch; a round; the loop; the walk. -/
import Derived.Test.YtbpganholopjfaaAZx
import Derived.Test.YtbpganholopjfaaAZ0
import Derived.Test.YtbpganholopjfaaAZ2
import Derived.Test.YtbpganholopjfaaAZ3
import Derived.Test.YtbpganholopjfaaAZ4
import Derived.Test.YtbpganholopjfaaAZ5
import Derived.Test.YtbpganholopjfaaAZ6
namespace Go.Proofs.Ytbpganholopjfaa
open Go.RowKit
set_option maxRecDepth 100000 in
set_option maxHeartbeats 4000000 in
theorem pcases {u0 u1 u2 u3 u4 u7 u9 u10 u11 u12 u13 u14 u15 u16 u17 u18 u19 u20 u21 u22 u23 u24 u25 u26 u27 u28 u29 u30 u31 u32 u36 u37 u38 u39 u40 u41 u42 u43 u44 u45 u46 u47 u48 u49 u50 u51 u52 u53 u54 u55 u56 u57 u58 u59 u60 u61 u62 u63 u64 u65 u66 u67 u68 u69 u70 u71 u72 u73 u74 u75 u76 u77 u78 u79 u80 u81 u82 u83 u84 u85 u86 u87 u88 u89 u90 u91 u92 u93 u94 u95 u96 u97 u98 u99 u100 u101 u102 u103 u104 u105 u106 u107 u108 u109 u110 u111 u112 u113 u114 u115 u116 u117 u118 u119 u120 u121 u122 u123 u124 u125 u126 u127 u128 u129 u130 u131 u132 u133 u134 u135 u136 u137 u138 u139 u140 u141 u142 u143 u144 u145 u146 u147 u148 u149 u150 u151 u152 u153 u154 u155 u156 u157 u158 u159 u160 u161 u162 u163 u164 u165 u166 u167 u168 u169 u170 u171 u172 u173 u174 u175 u176 u177 u178 u179 u180 u181 u182 u183 u184 u185 u186 u187 u188 u189 u190 u191 u192 u193 u194 u195 u196 u197 u198 u199 u200 u201 u202 u203 u204 u205 u206 u207 u208 u209 u210 u211 u212 u213 u214 u215 u216 u217 u218 u219 u220 u221 u222 u223 u224 u225 u226 u227 u228 u229 u230 u231 u232 u233 u234 u235 u236 u237 u238 u239 u240 u241 u242 u243 u244 u245 : Value} {R : Exit → Go.Act → World → Prop} {w0 w3 : World} {p q cap q1 c1 N ob M : Nat} {B : Nat → Nat} {t : AOp} {c33 c34 c35 : Value} (HT : Hid (TBeg w0 w3 p q cap q1 c1 N ob M B t)) (hend : ∀ a w, TEnd w0 p q cap N c33 c34 c35 a w → R .normal a w) :
    Code.wp Try.prog ptail R ⟨#[u0, u1, u2, u3, u4, .pointer (some ⟨p, 0, none⟩), .slice (some ⟨q1, 0, none⟩) N c1, u7, .pointer (some ⟨ob, 0, none⟩), u9, u10, u11, u12, u13, u14, u15, u16, u17, u18, u19, u20, u21, u22, u23, u24, u25, u26, u27, u28, u29, u30, u31, u32, c33, c34, c35, u36, u37, u38, u39, u40, u41, u42, u43, u44, u45, u46, u47, u48, u49, u50, u51, u52, u53, u54, u55, u56, u57, u58, u59, u60, u61, u62, u63, u64, u65, u66, u67, u68, u69, u70, u71, u72, u73, u74, u75, u76, u77, u78, u79, u80, u81, u82, u83, u84, u85, u86, u87, u88, u89, u90, u91, u92, u93, u94, u95, u96, u97, u98, u99, u100, u101, u102, u103, u104, u105, u106, u107, u108, u109, u110, u111, u112, u113, u114, u115, u116, u117, u118, u119, u120, u121, u122, u123, u124, u125, u126, u127, u128, u129, u130, u131, u132, u133, u134, u135, u136, u137, u138, u139, u140, u141, u142, u143, u144, u145, u146, u147, u148, u149, u150, u151, u152, u153, u154, u155, u156, u157, u158, u159, u160, u161, u162, u163, u164, u165, u166, u167, u168, u169, u170, u171, u172, u173, u174, u175, u176, u177, u178, u179, u180, u181, u182, u183, u184, u185, u186, u187, u188, u189, u190, u191, u192, u193, u194, u195, u196, u197, u198, u199, u200, u201, u202, u203, u204, u205, u206, u207, u208, u209, u210, u211, u212, u213, u214, u215, u216, u217, u218, u219, u220, u221, u222, u223, u224, u225, u226, u227, u228, u229, u230, u231, u232, u233, u234, u235, u236, u237, u238, u239, u240, u241, u242, u243, u244, u245], []⟩ w3 := by
  by_cases k0 : t.k = 0 ∨ t.k = 1
  · exact pcase_store HT k0 hend
  by_cases k2 : t.k = 2
  · exact pcase_fill HT k2 hend
  by_cases k3 : t.k = 3
  · exact pcase_setword HT k3 hend
  by_cases k4 : t.k = 4
  · exact pcase_word HT k4 hend
  by_cases k5 : t.k = 5
  · exact pcase_load HT k5 hend
  by_cases k6 : t.k = 6
  · exact pcase_do HT k6 hend
  exact pcase_other HT ⟨fun h => k0 (.inl h), fun h => k0 (.inr h), k2, k3, k4, k5, k6⟩ hend

structure PInv (w0 : World) (p q cap N : Nat) (A : Option Addr) (len lcap k : Nat) (x : Go.Act) (w : World) : Prop where
  size : x.tmps.size = 246
  defers : x.defers = []
  s5 : x.tmps[5]? = some (.pointer (some ⟨p, 0, none⟩))
  s33 : x.tmps[33]? = some (.slice A len lcap)
  s34 : x.tmps[34]? = some (.int .i64 len)
  s35 : x.tmps[35]? = some (.int .i64 k)
  le : k ≤ len
  row : ∃ q2 c2 B, x.tmps[6]? = some (.slice (some ⟨q2, 0, none⟩) N c2) ∧ PL w0 w p q cap q2 c2 N B
structure PExit (w0 : World) (x : Go.Act) (w : World) : Prop where
  size : x.tmps.size = 246
  defers : x.defers = []
  fr : w0.grownBy w none
theorem OCells.cut {w : World} {b m : Nat} {t : AOp} (h : OCells w b 0 t m) (M : Nat) : OCells (w.setCell ⟨b, 5, none⟩ (.slice t.bA M t.bc)) b 0 t M := by
  have h0 := h.c0
  have h1 := h.c1
  have h2 := h.c2
  have h3 := h.c3
  have h4 := h.c4
  have h5 := h.c5
  have h6 := h.c6
  simp only [Nat.zero_add] at h0 h1 h2 h3 h4 h5 h6
  refine ⟨?_, ?_, ?_, ?_, ?_, ?_, ?_⟩
  all_goals (try simp only [Nat.zero_add])
  · rw [World.cell?_setCell_other _ _ _ _ (by simp)]; exact h0
  · rw [World.cell?_setCell_other _ _ _ _ (by simp)]; exact h1
  · rw [World.cell?_setCell_other _ _ _ _ (by simp)]; exact h2
  · rw [World.cell?_setCell_other _ _ _ _ (by simp)]; exact h3
  · rw [World.cell?_setCell_other _ _ _ _ (by simp)]; exact h4
  · exact World.cell?_setCell_same' _ _ _ (by rw [h5]; rfl)
  · rw [World.cell?_setCell_other _ _ _ _ (by simp)]; exact h6
set_option maxRecDepth 100000 in
set_option maxHeartbeats 4000000 in
theorem pround {u0 u1 u2 u3 u4 u7 u8 u9 u10 u11 u12 u13 u14 u15 u16 u17 u18 u19 u20 u21 u22 u23 u24 u25 u26 u27 u28 u29 u30 u31 u32 u36 u37 u38 u39 u40 u41 u42 u43 u44 u45 u46 u47 u48 u49 u50 u51 u52 u53 u54 u55 u56 u57 u58 u59 u60 u61 u62 u63 u64 u65 u66 u67 u68 u69 u70 u71 u72 u73 u74 u75 u76 u77 u78 u79 u80 u81 u82 u83 u84 u85 u86 u87 u88 u89 u90 u91 u92 u93 u94 u95 u96 u97 u98 u99 u100 u101 u102 u103 u104 u105 u106 u107 u108 u109 u110 u111 u112 u113 u114 u115 u116 u117 u118 u119 u120 u121 u122 u123 u124 u125 u126 u127 u128 u129 u130 u131 u132 u133 u134 u135 u136 u137 u138 u139 u140 u141 u142 u143 u144 u145 u146 u147 u148 u149 u150 u151 u152 u153 u154 u155 u156 u157 u158 u159 u160 u161 u162 u163 u164 u165 u166 u167 u168 u169 u170 u171 u172 u173 u174 u175 u176 u177 u178 u179 u180 u181 u182 u183 u184 u185 u186 u187 u188 u189 u190 u191 u192 u193 u194 u195 u196 u197 u198 u199 u200 u201 u202 u203 u204 u205 u206 u207 u208 u209 u210 u211 u212 u213 u214 u215 u216 u217 u218 u219 u220 u221 u222 u223 u224 u225 u226 u227 u228 u229 u230 u231 u232 u233 u234 u235 u236 u237 u238 u239 u240 u241 u242 u243 u244 u245 : Value} {K : Go.Act → World → Prop} {Q : Exit → Go.Act → World → Prop} {w0 wr : World} {p q cap q1 c1 N len lcap k ba oa : Nat} {B : Nat → Nat} {t : AOp} (HP : Hid (PL w0 wr p q cap q1 c1 N B)) (hk : k < len) (HOP : Hid (OCells w0 ba (oa + k * 7) t t.bl ∧ ORows w0 t)) (hend : ∀ x w, PInv w0 p q cap N (some ⟨ba, oa, none⟩) len lcap (k + 1) x w → K x w) (hexit : ∀ x w, PExit w0 x w → Q (.exit 0) x w) :
    Code.wp Try.prog pbody (Exit.then K Q) ⟨#[u0, u1, u2, u3, u4, .pointer (some ⟨p, 0, none⟩), .slice (some ⟨q1, 0, none⟩) N c1, u7, u8, u9, u10, u11, u12, u13, u14, u15, u16, u17, u18, u19, u20, u21, u22, u23, u24, u25, u26, u27, u28, u29, u30, u31, u32, .slice (some ⟨ba, oa, none⟩) len lcap, .int .i64 (len : Nat), .int .i64 (k : Nat), u36, u37, u38, u39, u40, u41, u42, u43, u44, u45, u46, u47, u48, u49, u50, u51, u52, u53, u54, u55, u56, u57, u58, u59, u60, u61, u62, u63, u64, u65, u66, u67, u68, u69, u70, u71, u72, u73, u74, u75, u76, u77, u78, u79, u80, u81, u82, u83, u84, u85, u86, u87, u88, u89, u90, u91, u92, u93, u94, u95, u96, u97, u98, u99, u100, u101, u102, u103, u104, u105, u106, u107, u108, u109, u110, u111, u112, u113, u114, u115, u116, u117, u118, u119, u120, u121, u122, u123, u124, u125, u126, u127, u128, u129, u130, u131, u132, u133, u134, u135, u136, u137, u138, u139, u140, u141, u142, u143, u144, u145, u146, u147, u148, u149, u150, u151, u152, u153, u154, u155, u156, u157, u158, u159, u160, u161, u162, u163, u164, u165, u166, u167, u168, u169, u170, u171, u172, u173, u174, u175, u176, u177, u178, u179, u180, u181, u182, u183, u184, u185, u186, u187, u188, u189, u190, u191, u192, u193, u194, u195, u196, u197, u198, u199, u200, u201, u202, u203, u204, u205, u206, u207, u208, u209, u210, u211, u212, u213, u214, u215, u216, u217, u218, u219, u220, u221, u222, u223, u224, u225, u226, u227, u228, u229, u230, u231, u232, u233, u234, u235, u236, u237, u238, u239, u240, u241, u242, u243, u244, u245], []⟩ wr := by
  have d0 := HP.out.fr.cell HOP.out.1.c0 (by simp)
  have d1 := HP.out.fr.cell HOP.out.1.c1 (by simp)
  have d2 := HP.out.fr.cell HOP.out.1.c2 (by simp)
  have d3 := HP.out.fr.cell HOP.out.1.c3 (by simp)
  have d4 := HP.out.fr.cell HOP.out.1.c4 (by simp)
  have d5 := HP.out.fr.cell HOP.out.1.c5 (by simp)
  have d6 := HP.out.fr.cell HOP.out.1.c6 (by simp)
  conv => arg 2; whnf
  go_upto_region 5 with (fail)
  go_cut [7, 8] from 36 to 243 (fun s7 s8 wx => ∃ ob : Nat, s7 = .int .i64 k ∧ s8 = .pointer (some ⟨ob, 0, none⟩) ∧ wr.heap.size ≤ ob ∧ OCells wx ob 0 t t.bl ∧ (∀ j, wx.frozen? ⟨ob, j, none⟩ = false) ∧ wr.grownBy wx none)
  case first =>
    go_wp2
    go_meet
    exact ⟨wr.heap.size, rfl, rfl, Nat.le_refl _, ⟨by rw [cell_alloc_new]; rfl, by rw [cell_alloc_new]; rfl, by rw [cell_alloc_new]; rfl, by rw [cell_alloc_new]; rfl, by rw [cell_alloc_new]; rfl, by rw [cell_alloc_new]; rfl, by rw [cell_alloc_new]; rfl⟩, fun j => frozen_alloc_new .., grown_alloc _ _ _⟩
  case rest =>
  obtain ⟨ob, rfl, rfl, hob, oc, ofz, hgo⟩ := hcut
  have HP3 := Lib.hid (HP.out.grown hgo)
  have hobl := HP.out.wlt
  have hfs := HP.out.fr.size
  have HOB := Lib.hid (show ob ≠ p ∧ ob ≠ q ∧ ob ≠ q1 ∧ w0.heap.size ≤ ob by omega)
  clear hobl hfs hob hgo HP d0 d1 d2 d3 d4 d5 d6
  obtain ⟨w3, rfl⟩ : ∃ w3 : World, w3 = wc := ⟨_, rfl⟩
  by_cases h30 : 30 ≤ k
  · have h30' : decide ((30 : Int) ≤ k) = true := decide_eq_true (by omega)
    clear oc ofz
    go_wp2
    exact ⟨rfl, rfl, HP3.out.fr⟩
  · have h30' : decide ((30 : Int) ≤ k) = false := decide_eq_false (by omega)
    obtain ⟨M, hM, hM2⟩ : ∃ M : Nat, M ≤ 300 ∧ ((t.bl ≤ 300 ∧ M = t.bl) ∨ (300 < t.bl ∧ M = 300)) := by
      by_cases h : t.bl ≤ 300
      · exact ⟨t.bl, h, .inl ⟨h, rfl⟩⟩
      · exact ⟨300, Nat.le_refl _, .inr ⟨by omega, rfl⟩⟩
    have HM2 := Lib.hid hM2
    have OC := Lib.hid oc
    have OF := Lib.hid ofz
    have x5 : w3.cell? ⟨ob, 5, none⟩ = some (.slice t.bA t.bl t.bc) := OC.out.c5
    have z5 := OF.out 5
    clear oc ofz hM2
    go_upto_if 45 with (fail)
    go_cut [] from 36 to 243 (fun wx => OCells wx ob 0 t M ∧ PL w0 wx p q cap q1 c1 N B)
    case first =>
      rcases HM2.out with ⟨h1, rfl⟩ | ⟨h1, rfl⟩
      · have d : decide ((300 : Int) < t.bl) = false := decide_eq_false (by omega)
        go_wp2
        go_meet
        exact ⟨OC.out, HP3.out⟩
      · have d : decide ((300 : Int) < t.bl) = true := decide_eq_true (by omega)
        obtain ⟨b, off, hbA⟩ : ∃ b off, t.bA = some ⟨b, off, none⟩ := by
          rcases HOP.out.2.b with h | ⟨b, off, e, _⟩
          · omega
          · exact ⟨b, off, e⟩
        have hbA' := hbA
        rw [hbA] at x5
        have d2 : (300 : Int) ≤ t.bc := by have := HOP.out.2.bcap; omega
        have HBA := Lib.hid hbA
        clear hbA hbA'
        go_wp2
        go_meet
        refine ⟨?_, HP3.out.grown1 (agrown_set _ _ _ _) HOB.out.1 HOB.out.2.1 HOB.out.2.2.1 HOB.out.2.2.2⟩
        rw [← HBA.out]
        exact OC.out.cut 300
    case rest =>
    obtain ⟨oc, hpl⟩ := hcut
    have HT : Hid (TBeg w0 wc p q cap q1 c1 N ob M B t) := Lib.hid ⟨hpl, HOP.out.2, HOB.out.1, HOB.out.2.1, HOB.out.2.2.1, oc, hM, by have := HM2.out; omega⟩
    clear oc hpl
    rename_i hK
    refine hK _ _ ?_
    refine pcases HT ?_
    intro x w hT
    obtain ⟨q2, c2, B2, e6, HP9⟩ := hT.row
    obtain ⟨u, rfl⟩ := frame_plays hT.size hT.defers
    have e5 : u 5 = .pointer (some ⟨p, 0, none⟩) := Option.some.inj hT.s5
    have e6 : u 6 = .slice (some ⟨q2, 0, none⟩) N c2 := Option.some.inj e6
    have e33 : u 33 = .slice (some ⟨ba, oa, none⟩) len lcap := Option.some.inj hT.s33
    have e34 : u 34 = .int .i64 (len : Nat) := Option.some.inj hT.s34
    have e35 : u 35 = .int .i64 (k : Nat) := Option.some.inj hT.s35
    rw [e5, e6, e33, e34, e35]
    have HP9 := Lib.hid HP9
    clear hT e5 e6 e33 e34 e35
    go_wp2
    exact ⟨rfl, rfl, rfl, rfl, rfl, by go_num, hk, _, _, _, rfl, HP9.out⟩
set_option maxRecDepth 100000 in
set_option maxHeartbeats 4000000 in
theorem pexit {u0 u1 u2 u3 u4 u7 u8 u9 u10 u11 u12 u13 u14 u15 u16 u17 u18 u19 u20 u21 u22 u23 u24 u25 u26 u27 u28 u29 u30 u31 u32 u36 u37 u38 u39 u40 u41 u42 u43 u44 u45 u46 u47 u48 u49 u50 u51 u52 u53 u54 u55 u56 u57 u58 u59 u60 u61 u62 u63 u64 u65 u66 u67 u68 u69 u70 u71 u72 u73 u74 u75 u76 u77 u78 u79 u80 u81 u82 u83 u84 u85 u86 u87 u88 u89 u90 u91 u92 u93 u94 u95 u96 u97 u98 u99 u100 u101 u102 u103 u104 u105 u106 u107 u108 u109 u110 u111 u112 u113 u114 u115 u116 u117 u118 u119 u120 u121 u122 u123 u124 u125 u126 u127 u128 u129 u130 u131 u132 u133 u134 u135 u136 u137 u138 u139 u140 u141 u142 u143 u144 u145 u146 u147 u148 u149 u150 u151 u152 u153 u154 u155 u156 u157 u158 u159 u160 u161 u162 u163 u164 u165 u166 u167 u168 u169 u170 u171 u172 u173 u174 u175 u176 u177 u178 u179 u180 u181 u182 u183 u184 u185 u186 u187 u188 u189 u190 u191 u192 u193 u194 u195 u196 u197 u198 u199 u200 u201 u202 u203 u204 u205 u206 u207 u208 u209 u210 u211 u212 u213 u214 u215 u216 u217 u218 u219 u220 u221 u222 u223 u224 u225 u226 u227 u228 u229 u230 u231 u232 u233 u234 u235 u236 u237 u238 u239 u240 u241 u242 u243 u244 u245 : Value} {K : Go.Act → World → Prop} {Q : Exit → Go.Act → World → Prop} {w0 wr : World} {p q1 c1 N len lcap : Nat} {A : Option Addr} (HG : Hid (w0.grownBy wr none)) (hexit : ∀ x w, PExit w0 x w → Q (.exit 0) x w) :
    Code.wp Try.prog pbody (Exit.then K Q) ⟨#[u0, u1, u2, u3, u4, .pointer (some ⟨p, 0, none⟩), .slice (some ⟨q1, 0, none⟩) N c1, u7, u8, u9, u10, u11, u12, u13, u14, u15, u16, u17, u18, u19, u20, u21, u22, u23, u24, u25, u26, u27, u28, u29, u30, u31, u32, .slice A len lcap, .int .i64 (len : Nat), .int .i64 (len : Nat), u36, u37, u38, u39, u40, u41, u42, u43, u44, u45, u46, u47, u48, u49, u50, u51, u52, u53, u54, u55, u56, u57, u58, u59, u60, u61, u62, u63, u64, u65, u66, u67, u68, u69, u70, u71, u72, u73, u74, u75, u76, u77, u78, u79, u80, u81, u82, u83, u84, u85, u86, u87, u88, u89, u90, u91, u92, u93, u94, u95, u96, u97, u98, u99, u100, u101, u102, u103, u104, u105, u106, u107, u108, u109, u110, u111, u112, u113, u114, u115, u116, u117, u118, u119, u120, u121, u122, u123, u124, u125, u126, u127, u128, u129, u130, u131, u132, u133, u134, u135, u136, u137, u138, u139, u140, u141, u142, u143, u144, u145, u146, u147, u148, u149, u150, u151, u152, u153, u154, u155, u156, u157, u158, u159, u160, u161, u162, u163, u164, u165, u166, u167, u168, u169, u170, u171, u172, u173, u174, u175, u176, u177, u178, u179, u180, u181, u182, u183, u184, u185, u186, u187, u188, u189, u190, u191, u192, u193, u194, u195, u196, u197, u198, u199, u200, u201, u202, u203, u204, u205, u206, u207, u208, u209, u210, u211, u212, u213, u214, u215, u216, u217, u218, u219, u220, u221, u222, u223, u224, u225, u226, u227, u228, u229, u230, u231, u232, u233, u234, u235, u236, u237, u238, u239, u240, u241, u242, u243, u244, u245], []⟩ wr := by
  conv => arg 2; whnf
  go_wp2
  exact ⟨rfl, rfl, HG.out⟩
set_option maxRecDepth 100000 in
set_option maxHeartbeats 4000000 in
theorem ploop {u0 u1 u2 u3 u4 u7 u8 u9 u10 u11 u12 u13 u14 u15 u16 u17 u18 u19 u20 u21 u22 u23 u24 u25 u26 u27 u28 u29 u30 u31 u32 u36 u37 u38 u39 u40 u41 u42 u43 u44 u45 u46 u47 u48 u49 u50 u51 u52 u53 u54 u55 u56 u57 u58 u59 u60 u61 u62 u63 u64 u65 u66 u67 u68 u69 u70 u71 u72 u73 u74 u75 u76 u77 u78 u79 u80 u81 u82 u83 u84 u85 u86 u87 u88 u89 u90 u91 u92 u93 u94 u95 u96 u97 u98 u99 u100 u101 u102 u103 u104 u105 u106 u107 u108 u109 u110 u111 u112 u113 u114 u115 u116 u117 u118 u119 u120 u121 u122 u123 u124 u125 u126 u127 u128 u129 u130 u131 u132 u133 u134 u135 u136 u137 u138 u139 u140 u141 u142 u143 u144 u145 u146 u147 u148 u149 u150 u151 u152 u153 u154 u155 u156 u157 u158 u159 u160 u161 u162 u163 u164 u165 u166 u167 u168 u169 u170 u171 u172 u173 u174 u175 u176 u177 u178 u179 u180 u181 u182 u183 u184 u185 u186 u187 u188 u189 u190 u191 u192 u193 u194 u195 u196 u197 u198 u199 u200 u201 u202 u203 u204 u205 u206 u207 u208 u209 u210 u211 u212 u213 u214 u215 u216 u217 u218 u219 u220 u221 u222 u223 u224 u225 u226 u227 u228 u229 u230 u231 u232 u233 u234 u235 u236 u237 u238 u239 u240 u241 u242 u243 u244 u245 : Value} {Q : Exit → Go.Act → World → Prop} {w0 wr : World} {p q cap q1 c1 N len lcap : Nat} {A : Option Addr} {B : Nat → Nat} {O : Nat → AOp} (HP : Hid (PL w0 wr p q cap q1 c1 N B)) (hlen : len ≤ 9223372036854775807) (HA : Hid (AOpsAt w0 A len O)) (hexit : ∀ x w, PExit w0 x w → Q (.exit 0) x w) :
    Code.wp Try.prog (Code.loop pbody) Q ⟨#[u0, u1, u2, u3, u4, .pointer (some ⟨p, 0, none⟩), .slice (some ⟨q1, 0, none⟩) N c1, u7, u8, u9, u10, u11, u12, u13, u14, u15, u16, u17, u18, u19, u20, u21, u22, u23, u24, u25, u26, u27, u28, u29, u30, u31, u32, .slice A len lcap, .int .i64 (len : Nat), .int .i64 0, u36, u37, u38, u39, u40, u41, u42, u43, u44, u45, u46, u47, u48, u49, u50, u51, u52, u53, u54, u55, u56, u57, u58, u59, u60, u61, u62, u63, u64, u65, u66, u67, u68, u69, u70, u71, u72, u73, u74, u75, u76, u77, u78, u79, u80, u81, u82, u83, u84, u85, u86, u87, u88, u89, u90, u91, u92, u93, u94, u95, u96, u97, u98, u99, u100, u101, u102, u103, u104, u105, u106, u107, u108, u109, u110, u111, u112, u113, u114, u115, u116, u117, u118, u119, u120, u121, u122, u123, u124, u125, u126, u127, u128, u129, u130, u131, u132, u133, u134, u135, u136, u137, u138, u139, u140, u141, u142, u143, u144, u145, u146, u147, u148, u149, u150, u151, u152, u153, u154, u155, u156, u157, u158, u159, u160, u161, u162, u163, u164, u165, u166, u167, u168, u169, u170, u171, u172, u173, u174, u175, u176, u177, u178, u179, u180, u181, u182, u183, u184, u185, u186, u187, u188, u189, u190, u191, u192, u193, u194, u195, u196, u197, u198, u199, u200, u201, u202, u203, u204, u205, u206, u207, u208, u209, u210, u211, u212, u213, u214, u215, u216, u217, u218, u219, u220, u221, u222, u223, u224, u225, u226, u227, u228, u229, u230, u231, u232, u233, u234, u235, u236, u237, u238, u239, u240, u241, u242, u243, u244, u245], []⟩ wr := by
  refine wp_loop (fun x w => ∃ k, PInv w0 p q cap N A len lcap k x w) (fun x _ => len - (intOf (x.tmps[35]?.getD .nilFunc)).toNat) ?_ ?_
  · exact ⟨0, rfl, rfl, rfl, rfl, rfl, rfl, Nat.zero_le _, _, _, _, rfl, HP.out⟩
  · rintro x w ⟨k, hI⟩
    have hmu : (intOf (x.tmps[35]?.getD .nilFunc)).toNat = k := by rw [hI.s35]; simp [intOf]
    rw [hmu]
    obtain ⟨q2, c2, B2, e6, HP9⟩ := hI.row
    obtain ⟨u, rfl⟩ := frame_plays hI.size hI.defers
    have e5 : u 5 = .pointer (some ⟨p, 0, none⟩) := Option.some.inj hI.s5
    have e6 : u 6 = .slice (some ⟨q2, 0, none⟩) N c2 := Option.some.inj e6
    have e33 : u 33 = .slice A len lcap := Option.some.inj hI.s33
    have e34 : u 34 = .int .i64 (len : Nat) := Option.some.inj hI.s34
    have e35 : u 35 = .int .i64 (k : Nat) := Option.some.inj hI.s35
    rw [e5, e6, e33, e34, e35]
    by_cases hk : k < len
    · obtain ⟨ba, oa, rfl, hop⟩ : ∃ bb off, A = some ⟨bb, off, none⟩ ∧ (OCells w0 bb (off + k * 7) (O k) (O k).bl ∧ ORows w0 (O k)) := by
        rcases HA.out with h | ⟨bb, off, h1, h2, h3⟩
        · omega
        · exact ⟨bb, off, h1, h3 k hk⟩
      refine pround (Lib.hid HP9) hk (Lib.hid hop) (fun x w h => ⟨⟨_, h⟩, ?_⟩) hexit
      rw [h.s35]
      simp [intOf]
      omega
    · obtain rfl : k = len := by have := hI.le; omega
      exact pexit (Lib.hid HP9.fr) hexit

theorem amod4 (n : Int) : ∃ (m : Int) (N : Nat), Int.tmod n 4 = m ∧ N ≤ 256 ∧ N * 256 ≤ 65536 ∧ ((m < 0 ∧ N = 0) ∨ (0 ≤ m ∧ m ≤ 256 ∧ (N : Int) = m) ∨ (256 < m ∧ N = 256)) := by
  have h1 : Int.tmod n 4 < 4 := Int.tmod_lt_of_pos n (by omega)
  generalize hm : Int.tmod n 4 = m at h1
  refine ⟨m, m.toNat, rfl, by omega, by omega, by omega⟩

set_option maxRecDepth 100000 in
set_option maxHeartbeats 4000000 in
theorem aplays_walk (n0 : Int) (A : Option Addr) (len lcap : Nat) (O : Nat → AOp) (w : World) (hlen : len ≤ 9223372036854775807) (hA : AOpsAt w A len O) :
    Calls Try.prog 3 #[.int .i64 n0, .slice A len lcap] w fun e w' => e = .returned (.bool true) ∧ w.grownBy w' none := by
  have HA := Lib.hid hA
  clear hA
  obtain ⟨m, N0, hm, hN, hN2, hcl⟩ := amod4 n0
  have HM := Lib.hid hm
  have HCL := Lib.hid hcl
  clear hm hcl
  go_enter Try.func3, Try.ntmps3
  go_upto_region 1 with (fail)
  go_cut [0] (fun s0 wx => s0 = .int .i64 m ∧ wx = w)
  case first =>
    go_wp2
    go_meet
    exact ⟨vint HM.out, rfl⟩
  case rest =>
  obtain ⟨rfl, rfl⟩ := hcut
  obtain ⟨w0, rfl⟩ : ∃ w0 : World, w0 = wc := ⟨_, rfl⟩
  clear HM
  go_wp2_with fail
  refine (anew_at m N0 w0 hN HCL.out).mono ?_
  rintro e w1 ⟨p, q, cap, rfl, har, hp, hq, hg⟩
  have HAR := Lib.hid har
  have HG := Lib.hid hg
  clear har hg
  go_wp2_with fail
  refine (rnew_at m N0 w1 hN HCL.out).mono ?_
  rintro e w2 ⟨qw, cw, rfl, hc, hqw, hb, hg⟩
  generalize N0 * 256 = N at *
  have hpl := HAR.out.plt
  have hql := HAR.out.b.qlt
  have hgs := HG.out.size
  have HP : Hid (PL w0 w2 p q cap qw cw N (fun _ => 0)) := ⟨HAR.out.grown hg (by simp) (by simp), ⟨hb, hc, hN2, fun i => by simp⟩, by omega, by omega, hp, hq, by omega, grown_trans HG.out hg⟩
  clear hb hg hp hq hqw hpl hql hgs HAR HG hc hN HCL
  go_wp2_with fail
  refine ploop HP hlen HA ?_
  intro x w5 hX
  obtain ⟨u, rfl⟩ := frame_plays hX.size hX.defers
  have HX := Lib.hid hX.fr
  clear hX HP
  go_wp2_with fail
  refine (awake_at _).mono ?_
  rintro e w6 ⟨rfl, hg⟩
  have HG6 := Lib.hid (grown_trans HX.out hg)
  clear hg
  go_wp2
  go_ret
  exact ⟨rfl, HG6.out⟩
end Go.Proofs.Ytbpganholopjfaa
