/- ArenaPlays: the loop that fills the reference's bytes. -/
import Derived.Test.YtbpganholopjfaaAY
import Derived.Deep.RegionHeld3
import Derived.BigQuiet
namespace Go.Proofs.Ytbpganholopjfaa
open Go.RowKit

structure FInv (p ob q1 c1 N a n tc : Nat) (ok : Bool) (w4 : World) (B : Nat → Nat) (c33 c34 c35 : Value) (j : Nat) (x : Go.Act) (w : World) : Prop where
  size : x.tmps.size = 246
  defers : x.defers = []
  s5 : x.tmps[5]? = some (.pointer (some ⟨p, 0, none⟩))
  s6 : x.tmps[6]? = some (.slice (some ⟨q1, 0, none⟩) N c1)
  s8 : x.tmps[8]? = some (.pointer (some ⟨ob, 0, none⟩))
  s10 : x.tmps[10]? = some (.bool ok)
  s11 : x.tmps[11]? = some (.int .i64 j)
  s33 : x.tmps[33]? = some c33
  s34 : x.tmps[34]? = some c34
  s35 : x.tmps[35]? = some c35
  jn : j ≤ n
  b : BytesAt w q1 N (Ar.setB B a j (fun _ => tc))
  g : w4.grownBy w (some q1)
structure FOps (ob N a n tc q1 : Nat) (ok : Bool) (w4 : World) : Prop where
  ow : ob ≠ q1
  lt : a + n ≤ N
  small : N ≤ 65536
  ok0 : ok = false → n = 0
  c : ok = true → w4.cell? ⟨ob, 1, none⟩ = some (.int .i64 a) ∧ w4.cell? ⟨ob, 2, none⟩ = some (.int .i64 n) ∧ w4.cell? ⟨ob, 3, none⟩ = some (.int .u8 (tc : Nat))
set_option maxRecDepth 100000 in
set_option maxHeartbeats 4000000 in
theorem pfill_round {u0 u1 u2 u3 u4 u7 u9 u12 u13 u14 u15 u16 u17 u18 u19 u20 u21 u22 u23 u24 u25 u26 u27 u28 u29 u30 u31 u32 u36 u37 u38 u39 u40 u41 u42 u43 u44 u45 u46 u47 u48 u49 u50 u51 u52 u53 u54 u55 u56 u57 u58 u59 u60 u61 u62 u63 u64 u65 u66 u67 u68 u69 u70 u71 u72 u73 u74 u75 u76 u77 u78 u79 u80 u81 u82 u83 u84 u85 u86 u87 u88 u89 u90 u91 u92 u93 u94 u95 u96 u97 u98 u99 u100 u101 u102 u103 u104 u105 u106 u107 u108 u109 u110 u111 u112 u113 u114 u115 u116 u117 u118 u119 u120 u121 u122 u123 u124 u125 u126 u127 u128 u129 u130 u131 u132 u133 u134 u135 u136 u137 u138 u139 u140 u141 u142 u143 u144 u145 u146 u147 u148 u149 u150 u151 u152 u153 u154 u155 u156 u157 u158 u159 u160 u161 u162 u163 u164 u165 u166 u167 u168 u169 u170 u171 u172 u173 u174 u175 u176 u177 u178 u179 u180 u181 u182 u183 u184 u185 u186 u187 u188 u189 u190 u191 u192 u193 u194 u195 u196 u197 u198 u199 u200 u201 u202 u203 u204 u205 u206 u207 u208 u209 u210 u211 u212 u213 u214 u215 u216 u217 u218 u219 u220 u221 u222 u223 u224 u225 u226 u227 u228 u229 u230 u231 u232 u233 u234 u235 u236 u237 u238 u239 u240 u241 u242 u243 u244 u245 : Value} {K : Go.Act → World → Prop} {Q : Exit → Go.Act → World → Prop} {w4 w5 : World} {p ob q1 c1 N a n tc j : Nat} {B : Nat → Nat} {c33 c34 c35 : Value} (HO : Hid (FOps ob N a n tc q1 true w4)) (hj : j < n) (HB : Hid (BytesAt w5 q1 N (Ar.setB B a j (fun _ => tc)))) (HG : Hid (w4.grownBy w5 (some q1))) (hend : ∀ x w, FInv p ob q1 c1 N a n tc true w4 B c33 c34 c35 (j + 1) x w → K x w) :
    Code.wp Try.prog pfill (Exit.then K Q) ⟨#[u0, u1, u2, u3, u4, .pointer (some ⟨p, 0, none⟩), .slice (some ⟨q1, 0, none⟩) N c1, u7, .pointer (some ⟨ob, 0, none⟩), u9, .bool true, .int .i64 (j : Nat), u12, u13, u14, u15, u16, u17, u18, u19, u20, u21, u22, u23, u24, u25, u26, u27, u28, u29, u30, u31, u32, c33, c34, c35, u36, u37, u38, u39, u40, u41, u42, u43, u44, u45, u46, u47, u48, u49, u50, u51, u52, u53, u54, u55, u56, u57, u58, u59, u60, u61, u62, u63, u64, u65, u66, u67, u68, u69, u70, u71, u72, u73, u74, u75, u76, u77, u78, u79, u80, u81, u82, u83, u84, u85, u86, u87, u88, u89, u90, u91, u92, u93, u94, u95, u96, u97, u98, u99, u100, u101, u102, u103, u104, u105, u106, u107, u108, u109, u110, u111, u112, u113, u114, u115, u116, u117, u118, u119, u120, u121, u122, u123, u124, u125, u126, u127, u128, u129, u130, u131, u132, u133, u134, u135, u136, u137, u138, u139, u140, u141, u142, u143, u144, u145, u146, u147, u148, u149, u150, u151, u152, u153, u154, u155, u156, u157, u158, u159, u160, u161, u162, u163, u164, u165, u166, u167, u168, u169, u170, u171, u172, u173, u174, u175, u176, u177, u178, u179, u180, u181, u182, u183, u184, u185, u186, u187, u188, u189, u190, u191, u192, u193, u194, u195, u196, u197, u198, u199, u200, u201, u202, u203, u204, u205, u206, u207, u208, u209, u210, u211, u212, u213, u214, u215, u216, u217, u218, u219, u220, u221, u222, u223, u224, u225, u226, u227, u228, u229, u230, u231, u232, u233, u234, u235, u236, u237, u238, u239, u240, u241, u242, u243, u244, u245], []⟩ w5 := by
  have hlt := HO.out.lt
  have hsm := HO.out.small
  have hob : some ob ≠ some q1 := by simpa using HO.out.ow
  have o1 := HG.out.cell (HO.out.c rfl).1 hob
  have o2 := HG.out.cell (HO.out.c rfl).2.1 hob
  have o3 := HG.out.cell (HO.out.c rfl).2.2 hob
  have hw : IntKind.i64.wrap ((a : Int) + (j : Int)) = ((a + j : Nat) : Int) := by rw [IntKind.wrap_i64]; omega
  have haj : ((a + j : Nat) : Int) < N := by omega
  have haj0 : (0 : Int) ≤ ((a + j : Nat) : Int) := by omega
  have d0 := HB.out.c (a + j) (by omega)
  have z0 := HB.out.fz
  generalize Ar.setB B a j (fun _ => tc) (a + j) = old at d0
  conv => arg 2; whnf
  go_wp2
  refine ⟨rfl, rfl, rfl, rfl, rfl, rfl, by go_num, rfl, rfl, rfl, hj, ⟨fun i hi => ?_, fun j => by rw [World.frozen?_setCell]; exact HB.out.fz j, by have := HB.out.qlt; simpa [World.setCell] using this⟩, grown_trans HG.out (agrown_set _ _ _ _)⟩
  by_cases e : i = a + j
  · subst e
    rw [World.cell?_setCell_same' _ _ _ (by rw [HB.out.c _ hi]; rfl)]
    unfold Ar.setB
    rw [if_pos (by omega)]
  · rw [World.cell?_setCell_other _ _ _ _ (fun x => e (congrArg Addr.off x).symm), HB.out.c i hi]
    unfold Ar.setB
    by_cases e2 : a ≤ i ∧ i < a + j
    · rw [if_pos e2, if_pos (by omega)]
    · rw [if_neg e2, if_neg (by omega)]
set_option maxRecDepth 100000 in
set_option maxHeartbeats 4000000 in
theorem pfill_exit {u0 u1 u2 u3 u4 u7 u9 u12 u13 u14 u15 u16 u17 u18 u19 u20 u21 u22 u23 u24 u25 u26 u27 u28 u29 u30 u31 u32 u36 u37 u38 u39 u40 u41 u42 u43 u44 u45 u46 u47 u48 u49 u50 u51 u52 u53 u54 u55 u56 u57 u58 u59 u60 u61 u62 u63 u64 u65 u66 u67 u68 u69 u70 u71 u72 u73 u74 u75 u76 u77 u78 u79 u80 u81 u82 u83 u84 u85 u86 u87 u88 u89 u90 u91 u92 u93 u94 u95 u96 u97 u98 u99 u100 u101 u102 u103 u104 u105 u106 u107 u108 u109 u110 u111 u112 u113 u114 u115 u116 u117 u118 u119 u120 u121 u122 u123 u124 u125 u126 u127 u128 u129 u130 u131 u132 u133 u134 u135 u136 u137 u138 u139 u140 u141 u142 u143 u144 u145 u146 u147 u148 u149 u150 u151 u152 u153 u154 u155 u156 u157 u158 u159 u160 u161 u162 u163 u164 u165 u166 u167 u168 u169 u170 u171 u172 u173 u174 u175 u176 u177 u178 u179 u180 u181 u182 u183 u184 u185 u186 u187 u188 u189 u190 u191 u192 u193 u194 u195 u196 u197 u198 u199 u200 u201 u202 u203 u204 u205 u206 u207 u208 u209 u210 u211 u212 u213 u214 u215 u216 u217 u218 u219 u220 u221 u222 u223 u224 u225 u226 u227 u228 u229 u230 u231 u232 u233 u234 u235 u236 u237 u238 u239 u240 u241 u242 u243 u244 u245 : Value} {K : Go.Act → World → Prop} {Q : Exit → Go.Act → World → Prop} {w4 w5 : World} {p ob q1 c1 N a n tc : Nat} {ok : Bool} {B : Nat → Nat} {c33 c34 c35 : Value} (HO : Hid (FOps ob N a n tc q1 ok w4)) (HB : Hid (BytesAt w5 q1 N (Ar.setB B a n (fun _ => tc)))) (HG : Hid (w4.grownBy w5 (some q1))) (hend : ∀ x w, FInv p ob q1 c1 N a n tc ok w4 B c33 c34 c35 n x w → Q (.exit 3) x w) :
    Code.wp Try.prog pfill (Exit.then K Q) ⟨#[u0, u1, u2, u3, u4, .pointer (some ⟨p, 0, none⟩), .slice (some ⟨q1, 0, none⟩) N c1, u7, .pointer (some ⟨ob, 0, none⟩), u9, .bool ok, .int .i64 (n : Nat), u12, u13, u14, u15, u16, u17, u18, u19, u20, u21, u22, u23, u24, u25, u26, u27, u28, u29, u30, u31, u32, c33, c34, c35, u36, u37, u38, u39, u40, u41, u42, u43, u44, u45, u46, u47, u48, u49, u50, u51, u52, u53, u54, u55, u56, u57, u58, u59, u60, u61, u62, u63, u64, u65, u66, u67, u68, u69, u70, u71, u72, u73, u74, u75, u76, u77, u78, u79, u80, u81, u82, u83, u84, u85, u86, u87, u88, u89, u90, u91, u92, u93, u94, u95, u96, u97, u98, u99, u100, u101, u102, u103, u104, u105, u106, u107, u108, u109, u110, u111, u112, u113, u114, u115, u116, u117, u118, u119, u120, u121, u122, u123, u124, u125, u126, u127, u128, u129, u130, u131, u132, u133, u134, u135, u136, u137, u138, u139, u140, u141, u142, u143, u144, u145, u146, u147, u148, u149, u150, u151, u152, u153, u154, u155, u156, u157, u158, u159, u160, u161, u162, u163, u164, u165, u166, u167, u168, u169, u170, u171, u172, u173, u174, u175, u176, u177, u178, u179, u180, u181, u182, u183, u184, u185, u186, u187, u188, u189, u190, u191, u192, u193, u194, u195, u196, u197, u198, u199, u200, u201, u202, u203, u204, u205, u206, u207, u208, u209, u210, u211, u212, u213, u214, u215, u216, u217, u218, u219, u220, u221, u222, u223, u224, u225, u226, u227, u228, u229, u230, u231, u232, u233, u234, u235, u236, u237, u238, u239, u240, u241, u242, u243, u244, u245], []⟩ w5 := by
  cases ok with
  | false =>
    conv => arg 2; whnf
    go_wp2
    exact ⟨rfl, rfl, rfl, rfl, rfl, rfl, rfl, rfl, rfl, rfl, Nat.le_refl _, HB.out, HG.out⟩
  | true =>
    have o2 := HG.out.cell (HO.out.c rfl).2.1 (by simpa using HO.out.ow)
    conv => arg 2; whnf
    go_wp2
    exact ⟨rfl, rfl, rfl, rfl, rfl, rfl, rfl, rfl, rfl, rfl, Nat.le_refl _, HB.out, HG.out⟩
set_option maxRecDepth 100000 in
set_option maxHeartbeats 4000000 in
theorem pfill_loop {u0 u1 u2 u3 u4 u7 u9 u12 u13 u14 u15 u16 u17 u18 u19 u20 u21 u22 u23 u24 u25 u26 u27 u28 u29 u30 u31 u32 u36 u37 u38 u39 u40 u41 u42 u43 u44 u45 u46 u47 u48 u49 u50 u51 u52 u53 u54 u55 u56 u57 u58 u59 u60 u61 u62 u63 u64 u65 u66 u67 u68 u69 u70 u71 u72 u73 u74 u75 u76 u77 u78 u79 u80 u81 u82 u83 u84 u85 u86 u87 u88 u89 u90 u91 u92 u93 u94 u95 u96 u97 u98 u99 u100 u101 u102 u103 u104 u105 u106 u107 u108 u109 u110 u111 u112 u113 u114 u115 u116 u117 u118 u119 u120 u121 u122 u123 u124 u125 u126 u127 u128 u129 u130 u131 u132 u133 u134 u135 u136 u137 u138 u139 u140 u141 u142 u143 u144 u145 u146 u147 u148 u149 u150 u151 u152 u153 u154 u155 u156 u157 u158 u159 u160 u161 u162 u163 u164 u165 u166 u167 u168 u169 u170 u171 u172 u173 u174 u175 u176 u177 u178 u179 u180 u181 u182 u183 u184 u185 u186 u187 u188 u189 u190 u191 u192 u193 u194 u195 u196 u197 u198 u199 u200 u201 u202 u203 u204 u205 u206 u207 u208 u209 u210 u211 u212 u213 u214 u215 u216 u217 u218 u219 u220 u221 u222 u223 u224 u225 u226 u227 u228 u229 u230 u231 u232 u233 u234 u235 u236 u237 u238 u239 u240 u241 u242 u243 u244 u245 : Value} {Q : Exit → Go.Act → World → Prop} {w4 : World} {p ob q1 c1 N a n tc : Nat} {ok : Bool} {B : Nat → Nat} {c33 c34 c35 : Value} (HO : Hid (FOps ob N a n tc q1 ok w4)) (HB : Hid (BytesAt w4 q1 N B)) (hend : ∀ x w, FInv p ob q1 c1 N a n tc ok w4 B c33 c34 c35 n x w → Q (.exit 3) x w) :
    Code.wp Try.prog (Code.loop pfill) Q ⟨#[u0, u1, u2, u3, u4, .pointer (some ⟨p, 0, none⟩), .slice (some ⟨q1, 0, none⟩) N c1, u7, .pointer (some ⟨ob, 0, none⟩), u9, .bool ok, .int .i64 0, u12, u13, u14, u15, u16, u17, u18, u19, u20, u21, u22, u23, u24, u25, u26, u27, u28, u29, u30, u31, u32, c33, c34, c35, u36, u37, u38, u39, u40, u41, u42, u43, u44, u45, u46, u47, u48, u49, u50, u51, u52, u53, u54, u55, u56, u57, u58, u59, u60, u61, u62, u63, u64, u65, u66, u67, u68, u69, u70, u71, u72, u73, u74, u75, u76, u77, u78, u79, u80, u81, u82, u83, u84, u85, u86, u87, u88, u89, u90, u91, u92, u93, u94, u95, u96, u97, u98, u99, u100, u101, u102, u103, u104, u105, u106, u107, u108, u109, u110, u111, u112, u113, u114, u115, u116, u117, u118, u119, u120, u121, u122, u123, u124, u125, u126, u127, u128, u129, u130, u131, u132, u133, u134, u135, u136, u137, u138, u139, u140, u141, u142, u143, u144, u145, u146, u147, u148, u149, u150, u151, u152, u153, u154, u155, u156, u157, u158, u159, u160, u161, u162, u163, u164, u165, u166, u167, u168, u169, u170, u171, u172, u173, u174, u175, u176, u177, u178, u179, u180, u181, u182, u183, u184, u185, u186, u187, u188, u189, u190, u191, u192, u193, u194, u195, u196, u197, u198, u199, u200, u201, u202, u203, u204, u205, u206, u207, u208, u209, u210, u211, u212, u213, u214, u215, u216, u217, u218, u219, u220, u221, u222, u223, u224, u225, u226, u227, u228, u229, u230, u231, u232, u233, u234, u235, u236, u237, u238, u239, u240, u241, u242, u243, u244, u245], []⟩ w4 := by
  refine wp_loop (fun x w => ∃ j, FInv p ob q1 c1 N a n tc ok w4 B c33 c34 c35 j x w) (fun x _ => n - (intOf (x.tmps[11]?.getD .nilFunc)).toNat) ?_ ?_
  · refine ⟨0, rfl, rfl, rfl, rfl, rfl, rfl, rfl, rfl, rfl, rfl, Nat.zero_le _, ?_, grown_refl _ _⟩
    have e : Ar.setB B a 0 (fun _ => tc) = B := by funext i; unfold Ar.setB; rw [if_neg (by omega)]
    rw [e]
    exact HB.out
  · rintro x w ⟨j, hI⟩
    have hmu : (intOf (x.tmps[11]?.getD .nilFunc)).toNat = j := by rw [hI.s11]; simp [intOf]
    rw [hmu]
    obtain ⟨u, rfl⟩ := frame_plays hI.size hI.defers
    have e5 : u 5 = .pointer (some ⟨p, 0, none⟩) := Option.some.inj hI.s5
    have e6 : u 6 = .slice (some ⟨q1, 0, none⟩) N c1 := Option.some.inj hI.s6
    have e8 : u 8 = .pointer (some ⟨ob, 0, none⟩) := Option.some.inj hI.s8
    have e10 : u 10 = .bool ok := Option.some.inj hI.s10
    have e11 : u 11 = .int .i64 j := Option.some.inj hI.s11
    have e33 : u 33 = c33 := Option.some.inj hI.s33
    have e34 : u 34 = c34 := Option.some.inj hI.s34
    have e35 : u 35 = c35 := Option.some.inj hI.s35
    rw [e5, e6, e8, e10, e11, e33, e34, e35]
    by_cases hj : j < n
    · obtain rfl : ok = true := by
        cases ok with
        | true => rfl
        | false => have := HO.out.ok0 rfl; omega
      refine pfill_round HO hj (Lib.hid hI.b) (Lib.hid hI.g) (fun x w h => ⟨⟨_, h⟩, ?_⟩)
      rw [h.s11]
      simp [intOf]
      omega
    · obtain rfl : j = n := by have := hI.jn; omega
      exact pfill_exit HO (Lib.hid hI.b) (Lib.hid hI.g) hend
end Go.Proofs.Ytbpganholopjfaa
