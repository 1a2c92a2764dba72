/- LargePlays: a round, the loop. -/
import Derived.Test.YticoojcmlkdeiaaRK
import Derived.Deep.CutBlock
namespace Go.Proofs.Yticoojcmlkdeiaa
open Go.RowKit
open Sl (upd)
open Lg (pgs)
open Rf (LZ)

set_option maxRecDepth 100000 in
set_option maxHeartbeats 8000000 in
theorem pcases {u0 u1 u2 u3 u4 u5 u6 u9 u12 u14 u15 u16 u17 u18 u19 u20 u21 u22 u23 u24 u25 u26 u27 u28 u29 u30 u31 u32 u33 u34 u35 u36 u37 u38 u39 u40 u41 u45 u46 u47 u48 u49 u50 u51 u52 u53 u54 u55 u56 u57 u58 u59 u61 u62 u63 u64 u65 u66 u67 u68 u69 u70 u71 u72 u73 u74 u75 u76 u77 u78 u79 u80 u81 u82 u83 u84 u85 u86 u87 u88 u89 u90 u91 u92 u93 u94 u95 u96 u97 u98 u99 u100 u101 u102 u103 u104 u105 u106 u107 u108 u109 u110 u111 u112 u113 u114 u115 u116 u117 u118 u119 u120 u121 u122 u123 u124 u125 u126 u127 u128 u129 u130 u131 u132 u133 u134 u135 u136 u137 u138 u139 u140 u141 u142 u143 u144 u145 u146 u147 u148 u149 u150 u151 u152 u153 u154 u155 u156 u157 u158 u159 u160 u161 u162 u163 u164 u165 u166 u167 u168 u169 u170 u171 u172 u173 u174 u175 u176 u177 u178 u179 u180 u181 u182 u183 u184 u185 u186 u187 u188 u189 u190 u191 u192 u193 u194 u195 u196 u197 u198 u199 u200 u201 u202 u203 u204 : Value} {R : Exit → Go.Act → World → Prop} {w0 w3 : World} {X : Lp} {r cnt q cap vc ob m K nn : Nat} {A : Option Addr} {L : List (Nat × Nat)} {Z B : Nat → Nat} {t : LOp} {c42 c43 c44 : Value} (HT : Hid (TBeg w0 w3 X r cnt q cap vc ob m K A L Z B t)) (hend : ∀ a w, TEnd w0 X r nn (K + 1) c42 c43 c44 a w → R .normal a w) :
    Code.wp Try.prog psw R ⟨#[u0, u1, u2, u3, u4, u5, u6, .int .i64 (nn : Nat), .pointer (some ⟨X.pa, 0, none⟩), u9, .pointer (some ⟨X.p, 0, none⟩), .pointer (some ⟨r, 0, none⟩), u12, .pointer (some ⟨ob, 0, none⟩), u14, u15, u16, u17, u18, u19, u20, u21, u22, u23, u24, u25, u26, u27, u28, u29, u30, u31, u32, u33, u34, u35, u36, u37, u38, u39, u40, u41, c42, c43, c44, u45, u46, u47, u48, u49, u50, u51, u52, u53, u54, u55, u56, u57, u58, u59, .int .i64 t.k, u61, u62, u63, u64, u65, u66, u67, u68, u69, u70, u71, u72, u73, u74, u75, u76, u77, u78, u79, u80, u81, u82, u83, u84, u85, u86, u87, u88, u89, u90, u91, u92, u93, u94, u95, u96, u97, u98, u99, u100, u101, u102, u103, u104, u105, u106, u107, u108, u109, u110, u111, u112, u113, u114, u115, u116, u117, u118, u119, u120, u121, u122, u123, u124, u125, u126, u127, u128, u129, u130, u131, u132, u133, u134, u135, u136, u137, u138, u139, u140, u141, u142, u143, u144, u145, u146, u147, u148, u149, u150, u151, u152, u153, u154, u155, u156, u157, u158, u159, u160, u161, u162, u163, u164, u165, u166, u167, u168, u169, u170, u171, u172, u173, u174, u175, u176, u177, u178, u179, u180, u181, u182, u183, u184, u185, u186, u187, u188, u189, u190, u191, u192, u193, u194, u195, u196, u197, u198, u199, u200, u201, u202, u203, u204], []⟩ w3 := by
  by_cases k0 : t.k = 0 ∨ t.k = 1 ∨ t.k = 2
  · exact pcase_make HT k0 hend
  by_cases k3 : t.k = 3 ∨ t.k = 4
  · exact pcase_drop HT k3 hend
  by_cases k5 : t.k = 5
  · exact pcase_store HT k5 hend
  exact pcase_other HT ⟨fun h => k0 (.inl h), fun h => k0 (.inr (.inl h)), fun h => k0 (.inr (.inr h)), fun h => k3 (.inl h), fun h => k3 (.inr h), k5⟩ hend

structure PInv (w0 : World) (X : Lp) (r nn : Nat) (A0 : Option Addr) (len lcap k : Nat) (x : Go.Act) (w : World) : Prop where
  size : x.tmps.size = 205
  defers : x.defers = []
  s7 : x.tmps[7]? = some (.int .i64 (nn : Nat))
  s8 : x.tmps[8]? = some (.pointer (some ⟨X.pa, 0, none⟩))
  s10 : x.tmps[10]? = some (.pointer (some ⟨X.p, 0, none⟩))
  s11 : x.tmps[11]? = some (.pointer (some ⟨r, 0, none⟩))
  s42 : x.tmps[42]? = some (.slice A0 len lcap)
  s43 : x.tmps[43]? = some (.int .i64 len)
  s44 : x.tmps[44]? = some (.int .i64 k)
  le : k ≤ len
  row : ∃ cnt q cap vc A L Z B, PL8 w0 w X r cnt q cap vc A L Z B ∧ cnt ≤ k ∧ L.length ≤ k
structure PExit (w0 : World) (x : Go.Act) (w : World) : Prop where
  size : x.tmps.size = 205
  defers : x.defers = []
  fr : w0.grownBy w none
def LOpsAt (w : World) (A : Option Addr) (n : Nat) (F : Nat → LOp) : Prop := n = 0 ∨ ∃ b off, A = some ⟨b, off, none⟩ ∧ ∀ i, i < n → LCells w b (off + i * 5) (F i) (F i).bl ∧ LRow w (F i)
theorem LCells.cut {w : World} {b m : Nat} {t : LOp} (h : LCells w b 0 t m) (m2 : Nat) : LCells (w.setCell ⟨b, 4, none⟩ (.slice t.bA m2 t.bc)) b 0 t m2 := by
  have h0 := h.c0
  have h1 := h.c1
  have h2 := h.c2
  have h3 := h.c3
  have h4 := h.c4
  simp only [Nat.zero_add] at h0 h1 h2 h3 h4
  refine ⟨?_, ?_, ?_, ?_, ?_⟩
  all_goals (try simp only [Nat.zero_add])
  · rw [World.cell?_setCell_other _ _ _ _ (by simp)]; exact h0
  · rw [World.cell?_setCell_other _ _ _ _ (by simp)]; exact h1
  · rw [World.cell?_setCell_other _ _ _ _ (by simp)]; exact h2
  · rw [World.cell?_setCell_other _ _ _ _ (by simp)]; exact h3
  · exact World.cell?_setCell_same' _ _ _ (by rw [h4]; rfl)
/-- A box of the law's own is written into. -/
theorem PL8.young {w0 w w' : World} {X : Lp} {r cnt q cap vc ob : Nat} {A : Option Addr} {L : List (Nat × Nat)} {Z B : Nat → Nat} (h : PL8 w0 w X r cnt q cap vc A L Z B) {w1 : World} (h1 : w.grownBy w1 none) (hob : w.heap.size ≤ ob) (hg : w1.grownBy w' (some ob)) : PL8 w0 w' X r cnt q cap vc A L Z B :=
  h.grown (grown_own h1 hg hob)
set_option maxRecDepth 100000 in
set_option maxHeartbeats 8000000 in
theorem pround {u0 u1 u2 u3 u4 u5 u6 u9 u12 u13 u14 u15 u16 u17 u18 u19 u20 u21 u22 u23 u24 u25 u26 u27 u28 u29 u30 u31 u32 u33 u34 u35 u36 u37 u38 u39 u40 u41 u45 u46 u47 u48 u49 u50 u51 u52 u53 u54 u55 u56 u57 u58 u59 u60 u61 u62 u63 u64 u65 u66 u67 u68 u69 u70 u71 u72 u73 u74 u75 u76 u77 u78 u79 u80 u81 u82 u83 u84 u85 u86 u87 u88 u89 u90 u91 u92 u93 u94 u95 u96 u97 u98 u99 u100 u101 u102 u103 u104 u105 u106 u107 u108 u109 u110 u111 u112 u113 u114 u115 u116 u117 u118 u119 u120 u121 u122 u123 u124 u125 u126 u127 u128 u129 u130 u131 u132 u133 u134 u135 u136 u137 u138 u139 u140 u141 u142 u143 u144 u145 u146 u147 u148 u149 u150 u151 u152 u153 u154 u155 u156 u157 u158 u159 u160 u161 u162 u163 u164 u165 u166 u167 u168 u169 u170 u171 u172 u173 u174 u175 u176 u177 u178 u179 u180 u181 u182 u183 u184 u185 u186 u187 u188 u189 u190 u191 u192 u193 u194 u195 u196 u197 u198 u199 u200 u201 u202 u203 u204 : Value} {K : Go.Act → World → Prop} {Q : Exit → Go.Act → World → Prop} {w0 wr : World} {X : Lp} {r cnt q cap vc nn len lcap k ba oa : Nat} {A : Option Addr} {L : List (Nat × Nat)} {Z B : Nat → Nat} {t : LOp} (HP : Hid (PL8 w0 wr X r cnt q cap vc A L Z B)) (HKK : Hid (cnt ≤ k ∧ L.length ≤ k)) (HN : Hid (X.N = nn * 256)) (hk : k < len) (HOP : Hid (LCells w0 ba (oa + k * 5) t t.bl ∧ LRow w0 t)) (hend : ∀ x w, PInv w0 X r nn (some ⟨ba, oa, none⟩) len lcap (k + 1) x w → K x w) (hexit : ∀ x w, PExit w0 x w → Q (.exit 0) x w) :
    Code.wp Try.prog pbody (Exit.then K Q) ⟨#[u0, u1, u2, u3, u4, u5, u6, .int .i64 (nn : Nat), .pointer (some ⟨X.pa, 0, none⟩), u9, .pointer (some ⟨X.p, 0, none⟩), .pointer (some ⟨r, 0, none⟩), u12, u13, u14, u15, u16, u17, u18, u19, u20, u21, u22, u23, u24, u25, u26, u27, u28, u29, u30, u31, u32, u33, u34, u35, u36, u37, u38, u39, u40, u41, .slice (some ⟨ba, oa, none⟩) len lcap, .int .i64 (len : Nat), .int .i64 (k : Nat), u45, u46, u47, u48, u49, u50, u51, u52, u53, u54, u55, u56, u57, u58, u59, u60, u61, u62, u63, u64, u65, u66, u67, u68, u69, u70, u71, u72, u73, u74, u75, u76, u77, u78, u79, u80, u81, u82, u83, u84, u85, u86, u87, u88, u89, u90, u91, u92, u93, u94, u95, u96, u97, u98, u99, u100, u101, u102, u103, u104, u105, u106, u107, u108, u109, u110, u111, u112, u113, u114, u115, u116, u117, u118, u119, u120, u121, u122, u123, u124, u125, u126, u127, u128, u129, u130, u131, u132, u133, u134, u135, u136, u137, u138, u139, u140, u141, u142, u143, u144, u145, u146, u147, u148, u149, u150, u151, u152, u153, u154, u155, u156, u157, u158, u159, u160, u161, u162, u163, u164, u165, u166, u167, u168, u169, u170, u171, u172, u173, u174, u175, u176, u177, u178, u179, u180, u181, u182, u183, u184, u185, u186, u187, u188, u189, u190, u191, u192, u193, u194, u195, u196, u197, u198, u199, u200, u201, u202, u203, u204], []⟩ wr := by
  have d0 := HP.out.y.all.cell HOP.out.1.c0 (by simp)
  have d1 := HP.out.y.all.cell HOP.out.1.c1 (by simp)
  have d2 := HP.out.y.all.cell HOP.out.1.c2 (by simp)
  have d3 := HP.out.y.all.cell HOP.out.1.c3 (by simp)
  have d4 := HP.out.y.all.cell HOP.out.1.c4 (by simp)
  conv => arg 2; whnf
  go_upto_region 6 with (fail)
  go_cut [12, 13] from 45 to 203 (fun s12 s13 wx => ∃ ob : Nat, s12 = .int .i64 k ∧ s13 = .pointer (some ⟨ob, 0, none⟩) ∧ wr.heap.size ≤ ob ∧ LCells wx ob 0 t t.bl ∧ (∀ j, wx.frozen? ⟨ob, j, none⟩ = false) ∧ wr.grownBy wx none)
  case first =>
    go_wp2
    go_meet
    exact ⟨wr.heap.size, rfl, rfl, Nat.le_refl _, ⟨by rw [cell_alloc_new]; rfl, by rw [cell_alloc_new]; rfl, by rw [cell_alloc_new]; rfl, by rw [cell_alloc_new]; rfl, by rw [cell_alloc_new]; rfl⟩, fun j => frozen_alloc_new .., grown_alloc _ _ _⟩
  case rest =>
  obtain ⟨ob, rfl, rfl, hob, oc, ofz, hgo⟩ := hcut
  have HG := Lib.hid hgo
  have HOB := Lib.hid hob
  clear hob hgo d0 d1 d2 d3 d4
  obtain ⟨w3, rfl⟩ : ∃ w3 : World, w3 = wc := ⟨_, rfl⟩
  by_cases h25 : 25 ≤ k
  · have h25' : decide ((25 : Int) ≤ k) = true := decide_eq_true (by omega)
    clear oc ofz
    go_wp2
    exact ⟨rfl, rfl, grown_trans HP.out.y.all HG.out⟩
  · have h25' : decide ((25 : Int) ≤ k) = false := decide_eq_false (by omega)
    obtain ⟨m, hm, hm2⟩ : ∃ m : Nat, m ≤ 60 ∧ ((t.bl ≤ 60 ∧ m = t.bl) ∨ (60 < t.bl ∧ m = 60)) := by
      by_cases h : t.bl ≤ 60
      · exact ⟨t.bl, h, .inl ⟨h, rfl⟩⟩
      · exact ⟨60, Nat.le_refl _, .inr ⟨by omega, rfl⟩⟩
    have HM2 := Lib.hid hm2
    have OC := Lib.hid oc
    have OF := Lib.hid ofz
    have x4 : w3.cell? ⟨ob, 4, none⟩ = some (.slice t.bA t.bl t.bc) := OC.out.c4
    have z4 := OF.out 4
    clear oc ofz hm2
    go_upto_if 54 with (fail)
    go_cut [] from 45 to 203 (fun wx => LCells wx ob 0 t m ∧ PL8 w0 wx X r cnt q cap vc A L Z B)
    case first =>
      rcases HM2.out with ⟨h1, rfl⟩ | ⟨h1, rfl⟩
      · have d : decide ((60 : Int) < t.bl) = false := decide_eq_false (by omega)
        go_wp2
        go_meet
        exact ⟨OC.out, HP.out.grown HG.out⟩
      · have d : decide ((60 : Int) < t.bl) = true := decide_eq_true (by omega)
        obtain ⟨b, off, hbA⟩ : ∃ b off, t.bA = some ⟨b, off, none⟩ := by
          rcases HOP.out.2.b with h | ⟨b, off, e, _⟩
          · omega
          · exact ⟨b, off, e⟩
        rw [hbA] at x4
        have d2 : (60 : Int) ≤ t.bc := by have := HOP.out.2.bc; omega
        have HBA := Lib.hid hbA
        clear hbA
        go_wp2
        go_meet
        refine ⟨?_, HP.out.young HG.out HOB.out (An.agrown_set _ _ _ _)⟩
        rw [← HBA.out]
        exact OC.out.cut 60
    case rest =>
    obtain ⟨oc, hpl⟩ := hcut
    have hlt : w0.heap.size ≤ wr.heap.size := HP.out.y.all.size
    have HT : Hid (TBeg w0 wc X r cnt q cap vc ob m k A L Z B t) := Lib.hid ⟨hpl, HKK.out.1, HKK.out.2, by omega, HOP.out.2, oc, HP.out.y.not_may HOB.out, by have := HP.out.g.rlt; have := HOB.out; omega, hm, by have := HM2.out; omega⟩
    have x0 : wc.cell? ⟨ob, 0, none⟩ = some (.int .i64 t.k) := oc.c0
    clear oc hpl hlt x4 z4 OC OF
    rename_i hK
    refine hK _ _ ?_
    go_upto_block 2 with (fail)
    rename_i hK2
    refine pcases HT ?_
    intro x w hT
    obtain ⟨cnt2, q2, cap2, vc2, A2, L2, Z2, B2, hp2, hc2, hl2⟩ := hT.row
    obtain ⟨u, rfl⟩ := frame_plays hT.size hT.defers
    have e7 : u 7 = .int .i64 (nn : Nat) := Option.some.inj hT.s7
    have e8 : u 8 = .pointer (some ⟨X.pa, 0, none⟩) := Option.some.inj hT.s8
    have e10 : u 10 = .pointer (some ⟨X.p, 0, none⟩) := Option.some.inj hT.s10
    have e11 : u 11 = .pointer (some ⟨r, 0, none⟩) := Option.some.inj hT.s11
    have e42 : u 42 = .slice (some ⟨ba, oa, none⟩) len lcap := Option.some.inj hT.s42
    have e43 : u 43 = .int .i64 (len : Nat) := Option.some.inj hT.s43
    have e44 : u 44 = .int .i64 (k : Nat) := Option.some.inj hT.s44
    rw [e7, e8, e10, e11, e42, e43, e44]
    have HP2 := Lib.hid hp2
    have HK2 := Lib.hid (And.intro hc2 hl2)
    have hl3 : L2.length ≤ 1000 := by omega
    clear hT e7 e8 e10 e11 e42 e43 e44 hp2 hc2 hl2
    refine hK2 _ _ ?_
    refine prest_at HP2 hl3 HN.out HK2 ?_
    intro x w hT
    obtain ⟨cnt3, q3, cap3, vc3, A3, L3, Z3, B3, hp3, hc3, hl3⟩ := hT.row
    obtain ⟨u, rfl⟩ := frame_plays hT.size hT.defers
    have e7 : u 7 = .int .i64 (nn : Nat) := Option.some.inj hT.s7
    have e8 : u 8 = .pointer (some ⟨X.pa, 0, none⟩) := Option.some.inj hT.s8
    have e10 : u 10 = .pointer (some ⟨X.p, 0, none⟩) := Option.some.inj hT.s10
    have e11 : u 11 = .pointer (some ⟨r, 0, none⟩) := Option.some.inj hT.s11
    have e42 : u 42 = .slice (some ⟨ba, oa, none⟩) len lcap := Option.some.inj hT.s42
    have e43 : u 43 = .int .i64 (len : Nat) := Option.some.inj hT.s43
    have e44 : u 44 = .int .i64 (k : Nat) := Option.some.inj hT.s44
    rw [e7, e8, e10, e11, e42, e43, e44]
    have HP3 := Lib.hid (And.intro hp3 (And.intro hc3 hl3))
    clear hT e7 e8 e10 e11 e42 e43 e44 hp3 hc3 hl3 HT HP2 HK2
    go_wp2
    exact ⟨rfl, rfl, rfl, rfl, rfl, rfl, rfl, rfl, by go_num, hk, cnt3, q3, cap3, vc3, A3, L3, Z3, B3, HP3.out.1, HP3.out.2⟩
end Go.Proofs.Yticoojcmlkdeiaa
