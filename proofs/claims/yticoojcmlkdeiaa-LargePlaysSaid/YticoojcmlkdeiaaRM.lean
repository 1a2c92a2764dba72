/- LargePlays: the loop; the beginning. -/
import Derived.Test.YticoojcmlkdeiaaRL
import Derived.Deep.RegionLaw
namespace Go.Proofs.Yticoojcmlkdeiaa
open Go.RowKit
open Sl (upd)
open Lg (pgs)
open Rf (LZ)

set_option maxRecDepth 100000 in
set_option maxHeartbeats 8000000 in
theorem pexit {u0 u1 u2 u3 u4 u5 u6 u9 u12 u13 u14 u15 u16 u17 u18 u19 u20 u21 u22 u23 u24 u25 u26 u27 u28 u29 u30 u31 u32 u33 u34 u35 u36 u37 u38 u39 u40 u41 u45 u46 u47 u48 u49 u50 u51 u52 u53 u54 u55 u56 u57 u58 u59 u60 u61 u62 u63 u64 u65 u66 u67 u68 u69 u70 u71 u72 u73 u74 u75 u76 u77 u78 u79 u80 u81 u82 u83 u84 u85 u86 u87 u88 u89 u90 u91 u92 u93 u94 u95 u96 u97 u98 u99 u100 u101 u102 u103 u104 u105 u106 u107 u108 u109 u110 u111 u112 u113 u114 u115 u116 u117 u118 u119 u120 u121 u122 u123 u124 u125 u126 u127 u128 u129 u130 u131 u132 u133 u134 u135 u136 u137 u138 u139 u140 u141 u142 u143 u144 u145 u146 u147 u148 u149 u150 u151 u152 u153 u154 u155 u156 u157 u158 u159 u160 u161 u162 u163 u164 u165 u166 u167 u168 u169 u170 u171 u172 u173 u174 u175 u176 u177 u178 u179 u180 u181 u182 u183 u184 u185 u186 u187 u188 u189 u190 u191 u192 u193 u194 u195 u196 u197 u198 u199 u200 u201 u202 u203 u204 : Value} {K : Go.Act → World → Prop} {Q : Exit → Go.Act → World → Prop} {w0 wr : World} {X : Lp} {r nn len lcap : Nat} {A0 : Option Addr} (HG : Hid (w0.grownBy wr none)) (hexit : ∀ x w, PExit w0 x w → Q (.exit 0) x w) :
    Code.wp Try.prog pbody (Exit.then K Q) ⟨#[u0, u1, u2, u3, u4, u5, u6, .int .i64 (nn : Nat), .pointer (some ⟨X.pa, 0, none⟩), u9, .pointer (some ⟨X.p, 0, none⟩), .pointer (some ⟨r, 0, none⟩), u12, u13, u14, u15, u16, u17, u18, u19, u20, u21, u22, u23, u24, u25, u26, u27, u28, u29, u30, u31, u32, u33, u34, u35, u36, u37, u38, u39, u40, u41, .slice A0 len lcap, .int .i64 (len : Nat), .int .i64 (len : Nat), u45, u46, u47, u48, u49, u50, u51, u52, u53, u54, u55, u56, u57, u58, u59, u60, u61, u62, u63, u64, u65, u66, u67, u68, u69, u70, u71, u72, u73, u74, u75, u76, u77, u78, u79, u80, u81, u82, u83, u84, u85, u86, u87, u88, u89, u90, u91, u92, u93, u94, u95, u96, u97, u98, u99, u100, u101, u102, u103, u104, u105, u106, u107, u108, u109, u110, u111, u112, u113, u114, u115, u116, u117, u118, u119, u120, u121, u122, u123, u124, u125, u126, u127, u128, u129, u130, u131, u132, u133, u134, u135, u136, u137, u138, u139, u140, u141, u142, u143, u144, u145, u146, u147, u148, u149, u150, u151, u152, u153, u154, u155, u156, u157, u158, u159, u160, u161, u162, u163, u164, u165, u166, u167, u168, u169, u170, u171, u172, u173, u174, u175, u176, u177, u178, u179, u180, u181, u182, u183, u184, u185, u186, u187, u188, u189, u190, u191, u192, u193, u194, u195, u196, u197, u198, u199, u200, u201, u202, u203, u204], []⟩ wr := by
  conv => arg 2; whnf
  go_wp2
  exact ⟨rfl, rfl, HG.out⟩
set_option maxRecDepth 100000 in
set_option maxHeartbeats 8000000 in
theorem ploop {u0 u1 u2 u3 u4 u5 u6 u9 u12 u13 u14 u15 u16 u17 u18 u19 u20 u21 u22 u23 u24 u25 u26 u27 u28 u29 u30 u31 u32 u33 u34 u35 u36 u37 u38 u39 u40 u41 u45 u46 u47 u48 u49 u50 u51 u52 u53 u54 u55 u56 u57 u58 u59 u60 u61 u62 u63 u64 u65 u66 u67 u68 u69 u70 u71 u72 u73 u74 u75 u76 u77 u78 u79 u80 u81 u82 u83 u84 u85 u86 u87 u88 u89 u90 u91 u92 u93 u94 u95 u96 u97 u98 u99 u100 u101 u102 u103 u104 u105 u106 u107 u108 u109 u110 u111 u112 u113 u114 u115 u116 u117 u118 u119 u120 u121 u122 u123 u124 u125 u126 u127 u128 u129 u130 u131 u132 u133 u134 u135 u136 u137 u138 u139 u140 u141 u142 u143 u144 u145 u146 u147 u148 u149 u150 u151 u152 u153 u154 u155 u156 u157 u158 u159 u160 u161 u162 u163 u164 u165 u166 u167 u168 u169 u170 u171 u172 u173 u174 u175 u176 u177 u178 u179 u180 u181 u182 u183 u184 u185 u186 u187 u188 u189 u190 u191 u192 u193 u194 u195 u196 u197 u198 u199 u200 u201 u202 u203 u204 : Value} {Q : Exit → Go.Act → World → Prop} {w0 wr : World} {X : Lp} {r q cap nn len lcap vc : Nat} {A0 A : Option Addr} {Z B : Nat → Nat} {O : Nat → LOp} (HP : Hid (PL8 w0 wr X r 0 q cap vc A [] Z B)) (HN : Hid (X.N = nn * 256)) (HA : Hid (LOpsAt w0 A0 len O)) (hexit : ∀ x w, PExit w0 x w → Q (.exit 0) x w) :
    Code.wp Try.prog (Code.loop pbody) Q ⟨#[u0, u1, u2, u3, u4, u5, u6, .int .i64 (nn : Nat), .pointer (some ⟨X.pa, 0, none⟩), u9, .pointer (some ⟨X.p, 0, none⟩), .pointer (some ⟨r, 0, none⟩), u12, u13, u14, u15, u16, u17, u18, u19, u20, u21, u22, u23, u24, u25, u26, u27, u28, u29, u30, u31, u32, u33, u34, u35, u36, u37, u38, u39, u40, u41, .slice A0 len lcap, .int .i64 (len : Nat), .int .i64 0, u45, u46, u47, u48, u49, u50, u51, u52, u53, u54, u55, u56, u57, u58, u59, u60, u61, u62, u63, u64, u65, u66, u67, u68, u69, u70, u71, u72, u73, u74, u75, u76, u77, u78, u79, u80, u81, u82, u83, u84, u85, u86, u87, u88, u89, u90, u91, u92, u93, u94, u95, u96, u97, u98, u99, u100, u101, u102, u103, u104, u105, u106, u107, u108, u109, u110, u111, u112, u113, u114, u115, u116, u117, u118, u119, u120, u121, u122, u123, u124, u125, u126, u127, u128, u129, u130, u131, u132, u133, u134, u135, u136, u137, u138, u139, u140, u141, u142, u143, u144, u145, u146, u147, u148, u149, u150, u151, u152, u153, u154, u155, u156, u157, u158, u159, u160, u161, u162, u163, u164, u165, u166, u167, u168, u169, u170, u171, u172, u173, u174, u175, u176, u177, u178, u179, u180, u181, u182, u183, u184, u185, u186, u187, u188, u189, u190, u191, u192, u193, u194, u195, u196, u197, u198, u199, u200, u201, u202, u203, u204], []⟩ wr := by
  refine wp_loop (fun x w => ∃ k, PInv w0 X r nn A0 len lcap k x w) (fun x _ => len - (intOf (x.tmps[44]?.getD .nilFunc)).toNat) ?_ ?_
  · exact ⟨0, rfl, rfl, rfl, rfl, rfl, rfl, rfl, rfl, rfl, Nat.zero_le _, 0, q, cap, vc, A, [], Z, B, HP.out, Nat.le_refl _, Nat.le_refl _⟩
  · rintro x w ⟨k, hI⟩
    have hmu : (intOf (x.tmps[44]?.getD .nilFunc)).toNat = k := by rw [hI.s44]; simp [intOf]
    rw [hmu]
    obtain ⟨cnt2, q2, cap2, vc2, A2, L2, Z2, B2, hp2, hc2, hl2⟩ := hI.row
    obtain ⟨u, rfl⟩ := frame_plays hI.size hI.defers
    have e7 : u 7 = .int .i64 (nn : Nat) := Option.some.inj hI.s7
    have e8 : u 8 = .pointer (some ⟨X.pa, 0, none⟩) := Option.some.inj hI.s8
    have e10 : u 10 = .pointer (some ⟨X.p, 0, none⟩) := Option.some.inj hI.s10
    have e11 : u 11 = .pointer (some ⟨r, 0, none⟩) := Option.some.inj hI.s11
    have e42 : u 42 = .slice A0 len lcap := Option.some.inj hI.s42
    have e43 : u 43 = .int .i64 (len : Nat) := Option.some.inj hI.s43
    have e44 : u 44 = .int .i64 (k : Nat) := Option.some.inj hI.s44
    rw [e7, e8, e10, e11, e42, e43, e44]
    by_cases hk : k < len
    · obtain ⟨ba, oa, rfl, hO⟩ : ∃ b off, A0 = some ⟨b, off, none⟩ ∧ ∀ i, i < len → LCells w0 b (off + i * 5) (O i) (O i).bl ∧ LRow w0 (O i) := by
        rcases HA.out with h0 | h
        · omega
        · exact h
      refine pround (Lib.hid hp2) (Lib.hid (And.intro hc2 hl2)) HN hk (Lib.hid (hO k hk)) (fun x w h => ⟨⟨_, h⟩, ?_⟩) hexit
      rw [h.s44]
      simp [intOf]
      omega
    · obtain rfl : k = len := by have := hI.le; omega
      exact pexit (X := X) (r := r) (nn := nn) (lcap := lcap) (A0 := A0) (Lib.hid hp2.y.all) hexit

theorem pl8_start {w0 w3 : World} {X : Lp} {q : Nat} (hy : LgY w0 w3 X 0 (fun _ => 0) (fun _ => 0)) (hb : An.BytesAt w3 q X.N (fun _ => 0)) (hq0 : w0.heap.size ≤ q) (hqm : ¬ X.may q) :
    PL8 w0 (w3.alloc (.cells #[.slice (some ⟨q, 0, none⟩) X.N X.N, .int .u64 (X.key : Nat), .slice none 0 0] 63)) X w3.heap.size 0 q X.N 0 none [] (fun _ => 0) (fun _ => 0) := by
  obtain ⟨D, hd⟩ := hy.at_
  have hp : X.p < w3.heap.size := World.block_lt_of_cell? w3 ⟨X.p, 0, none⟩ hd.c0
  have hpa := hd.ar.plt
  have hqa := hd.ar.b.qlt
  have hmb := hd.map.lt
  have hql := hb.qlt
  have hw := hy.all.size
  have hg := grown_alloc w3 (.cells #[.slice (some ⟨q, 0, none⟩) X.N X.N, .int .u64 (X.key : Nat), .slice none 0 0] 63) none
  refine ⟨hy.grown hg, ⟨?_, ?_, ?_, fun k => frozen_alloc_new .., hb.grown hg (by simp), Nat.le_refl _, Nat.zero_le _, .inl rfl, by omega, hw, hq0, hd.ar.small, fun _ => by decide, hd.k⟩, Rf.lz_nil, by omega, by omega, hy.not_may (Nat.le_refl _), hqm, fun a e => by cases e⟩
  all_goals (rw [cell_alloc_new]; rfl)
end Go.Proofs.Yticoojcmlkdeiaa
