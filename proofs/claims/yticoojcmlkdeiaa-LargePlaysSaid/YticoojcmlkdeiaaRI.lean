/- LargePlays: the code's pieces; what stands behind the switch. -/
import Derived.Test.YticoojcmlkdeiaaRH
import Derived.BigQuiet
import Derived.Deep.RegionHeld3
namespace Go.Proofs.Yticoojcmlkdeiaa
open Go.RowKit
open Sl (upd)
open Lg (pgs)
open Rf (LZ)

/-- The first loop's round. -/
def loopIn : Code → Option Code
  | .loop c => some c
  | .block _ c => loopIn c
  | .scope c => loopIn c
  | .seq a b => (loopIn a).or (loopIn b)
  | .cond _ a b => (loopIn a).or (loopIn b)
  | _ => none
def sndS : Code → Code
  | .seq _ b => b
  | c => c
def fstS : Code → Code
  | .seq a _ => a
  | c => c
def inB : Code → Code
  | .block _ c => c
  | c => c
noncomputable def pbody : Code := ((Try.f7.body.bind loopIn).getD .skip)
noncomputable def pround0 : Code := inB (fstS (sndS (sndS pbody)))
noncomputable def psw : Code := sndS (fstS (sndS (sndS (sndS pround0))))
noncomputable def prest : Code := sndS (sndS (sndS (sndS pround0)))
set_option maxRecDepth 100000 in
theorem frame_plays {a : Go.Act} (h : a.tmps.size = 205) (hd : a.defers = []) : ∃ u : Nat → Value, a = ⟨#[u 0, u 1, u 2, u 3, u 4, u 5, u 6, u 7, u 8, u 9, u 10, u 11, u 12, u 13, u 14, u 15, u 16, u 17, u 18, u 19, u 20, u 21, u 22, u 23, u 24, u 25, u 26, u 27, u 28, u 29, u 30, u 31, u 32, u 33, u 34, u 35, u 36, u 37, u 38, u 39, u 40, u 41, u 42, u 43, u 44, u 45, u 46, u 47, u 48, u 49, u 50, u 51, u 52, u 53, u 54, u 55, u 56, u 57, u 58, u 59, u 60, u 61, u 62, u 63, u 64, u 65, u 66, u 67, u 68, u 69, u 70, u 71, u 72, u 73, u 74, u 75, u 76, u 77, u 78, u 79, u 80, u 81, u 82, u 83, u 84, u 85, u 86, u 87, u 88, u 89, u 90, u 91, u 92, u 93, u 94, u 95, u 96, u 97, u 98, u 99, u 100, u 101, u 102, u 103, u 104, u 105, u 106, u 107, u 108, u 109, u 110, u 111, u 112, u 113, u 114, u 115, u 116, u 117, u 118, u 119, u 120, u 121, u 122, u 123, u 124, u 125, u 126, u 127, u 128, u 129, u 130, u 131, u 132, u 133, u 134, u 135, u 136, u 137, u 138, u 139, u 140, u 141, u 142, u 143, u 144, u 145, u 146, u 147, u 148, u 149, u 150, u 151, u 152, u 153, u 154, u 155, u 156, u 157, u 158, u 159, u 160, u 161, u 162, u 163, u 164, u 165, u 166, u 167, u 168, u 169, u 170, u 171, u 172, u 173, u 174, u 175, u 176, u 177, u 178, u 179, u 180, u 181, u 182, u 183, u 184, u 185, u 186, u 187, u 188, u 189, u 190, u 191, u 192, u 193, u 194, u 195, u 196, u 197, u 198, u 199, u 200, u 201, u 202, u 203, u 204], []⟩ := by
  obtain ⟨⟨t⟩, d⟩ := a
  simp only [List.size_toArray] at h hd
  subst hd
  have key : t = (List.range 205).map (fun i => t.getD i .nilFunc) := by
    apply List.ext_getElem?
    intro i
    by_cases hi : i < 205
    · simp [hi, List.getD, List.getElem?_eq_getElem (show i < t.length by omega)]
    · rw [List.getElem?_eq_none (by omega), List.getElem?_eq_none (by simp; omega)]
  generalize (fun i => t.getD i Value.nilFunc) = u at key
  exact ⟨u, by rw [key]; rfl⟩

/-- What a round ends with. -/
structure TEnd (w0 : World) (X : Lp) (r nn K : Nat) (c42 c43 c44 : Value) (a : Go.Act) (w : World) : Prop where
  size : a.tmps.size = 205
  defers : a.defers = []
  s7 : a.tmps[7]? = some (.int .i64 (nn : Nat))
  s8 : a.tmps[8]? = some (.pointer (some ⟨X.pa, 0, none⟩))
  s10 : a.tmps[10]? = some (.pointer (some ⟨X.p, 0, none⟩))
  s11 : a.tmps[11]? = some (.pointer (some ⟨r, 0, none⟩))
  s42 : a.tmps[42]? = some c42
  s43 : a.tmps[43]? = some c43
  s44 : a.tmps[44]? = some c44
  row : ∃ cnt q cap vc A L Z B, PL8 w0 w X r cnt q cap vc A L Z B ∧ cnt ≤ K ∧ L.length ≤ K

theorem all_cells {w : World} {base n c : Nat} {A : Option Addr} {L : List (Nat × Nat)} (h : w.ownsRow base 3 1 (.slice A n c) n ((firsts L).map encZ)) (_ : n = L.length) : n = 0 ∨ ∃ g, A = some ⟨g, 0, none⟩ ∧ ∀ i (hi : i < L.length), w.cell? ⟨g, i, none⟩ = some (.int .i64 (L[i].1 : Nat)) := by
  rcases h.2 with ⟨_, h2⟩ | ⟨g, cap, cur, e, _⟩
  · exact .inl h2
  · injection e with e _ _
    subst e
    refine .inr ⟨g, rfl, fun i hi => ?_⟩
    have := h.cells (g := g) rfl i (.int .i64 (L[i].1 : Nat)) (by simp [firsts, encZ, hi])
    rwa [An.aaddr_add] at this
theorem all_iff {key : Nat} {L : List (Nat × Nat)} {Z B : Nat → Nat} (h : LZ L Z) : Lg.All key Z B ↔ ∀ t (_ : t < L.length), Ar.wordAt B (Lg.grd L[t].1 L[t].2) = Lg.can key L[t].1 := by
  constructor
  · intro ha t ht
    obtain ⟨e1, e2⟩ := h.at_ ht
    have := ha L[t].1 (by omega)
    rwa [e1] at this
  · intro ha k hk
    obtain ⟨i, hi, e⟩ := List.mem_iff_getElem.1 ((h.mem k (Z k)).2 ⟨rfl, hk⟩)
    have := ha i hi
    rw [e] at this
    exact this
set_option maxRecDepth 100000 in
set_option maxHeartbeats 8000000 in
theorem prest_at {u0 u1 u2 u3 u4 u5 u6 u9 u12 u13 u14 u15 u16 u17 u18 u19 u20 u21 u22 u23 u24 u25 u26 u27 u28 u29 u30 u31 u32 u33 u34 u35 u36 u37 u38 u39 u40 u41 u45 u46 u47 u48 u49 u50 u51 u52 u53 u54 u55 u56 u57 u58 u59 u60 u61 u62 u63 u64 u65 u66 u67 u68 u69 u70 u71 u72 u73 u74 u75 u76 u77 u78 u79 u80 u81 u82 u83 u84 u85 u86 u87 u88 u89 u90 u91 u92 u93 u94 u95 u96 u97 u98 u99 u100 u101 u102 u103 u104 u105 u106 u107 u108 u109 u110 u111 u112 u113 u114 u115 u116 u117 u118 u119 u120 u121 u122 u123 u124 u125 u126 u127 u128 u129 u130 u131 u132 u133 u134 u135 u136 u137 u138 u139 u140 u141 u142 u143 u144 u145 u146 u147 u148 u149 u150 u151 u152 u153 u154 u155 u156 u157 u158 u159 u160 u161 u162 u163 u164 u165 u166 u167 u168 u169 u170 u171 u172 u173 u174 u175 u176 u177 u178 u179 u180 u181 u182 u183 u184 u185 u186 u187 u188 u189 u190 u191 u192 u193 u194 u195 u196 u197 u198 u199 u200 u201 u202 u203 u204 : Value} {R : Exit → Go.Act → World → Prop} {w0 w : World} {X : Lp} {r cnt q cap vc nn K : Nat} {A : Option Addr} {L : List (Nat × Nat)} {Z B : Nat → Nat} {c42 c43 c44 : Value} (HP : Hid (PL8 w0 w X r cnt q cap vc A L Z B)) (hlen : L.length ≤ 1000) (hN : X.N = nn * 256) (HK : Hid (cnt ≤ K ∧ L.length ≤ K)) (hend : ∀ a w, TEnd w0 X r nn K c42 c43 c44 a w → R .normal a w) :
    Code.wp Try.prog prest R ⟨#[u0, u1, u2, u3, u4, u5, u6, .int .i64 (nn : Nat), .pointer (some ⟨X.pa, 0, none⟩), u9, .pointer (some ⟨X.p, 0, none⟩), .pointer (some ⟨r, 0, none⟩), u12, u13, u14, u15, u16, u17, u18, u19, u20, u21, u22, u23, u24, u25, u26, u27, u28, u29, u30, u31, u32, u33, u34, u35, u36, u37, u38, u39, u40, u41, c42, c43, c44, u45, u46, u47, u48, u49, u50, u51, u52, u53, u54, u55, u56, u57, u58, u59, u60, u61, u62, u63, u64, u65, u66, u67, u68, u69, u70, u71, u72, u73, u74, u75, u76, u77, u78, u79, u80, u81, u82, u83, u84, u85, u86, u87, u88, u89, u90, u91, u92, u93, u94, u95, u96, u97, u98, u99, u100, u101, u102, u103, u104, u105, u106, u107, u108, u109, u110, u111, u112, u113, u114, u115, u116, u117, u118, u119, u120, u121, u122, u123, u124, u125, u126, u127, u128, u129, u130, u131, u132, u133, u134, u135, u136, u137, u138, u139, u140, u141, u142, u143, u144, u145, u146, u147, u148, u149, u150, u151, u152, u153, u154, u155, u156, u157, u158, u159, u160, u161, u162, u163, u164, u165, u166, u167, u168, u169, u170, u171, u172, u173, u174, u175, u176, u177, u178, u179, u180, u181, u182, u183, u184, u185, u186, u187, u188, u189, u190, u191, u192, u193, u194, u195, u196, u197, u198, u199, u200, u201, u202, u203, u204], []⟩ w := by
  obtain ⟨D, hd⟩ := HP.out.y.at_
  have HALL := Lib.hid (lall_at hd HP.out.z hlen)
  have HINV := Lib.hid hd.inv
  have hsm := hd.ar.small
  have HNN : Hid (256 * (nn : Int) = (X.N : Int)) := Lib.hid (by omega)
  have hnn : (nn : Int) ≤ 256 := by omega
  have HXN := Lib.hid hN
  clear hd hN hsm
  obtain ⟨nl, hnl⟩ : ∃ nl, L.length = nl := ⟨_, rfl⟩
  have HNL := Lib.hid hnl
  rw [hnl] at HALL hlen
  have hli : (nl : Int) ≤ 1000 := by omega
  clear hnl hlen
  conv => arg 2; whnf
  go_wp2_with fail
  refine HALL.out.mono ?_
  rintro e w1 ⟨v, rfl, hown, hg⟩
  obtain ⟨A2, k2, rfl, hk2⟩ := bown_shape hown
  have HOWN := Lib.hid (all_cells hown HNL.out.symm)
  have HP1 := Lib.hid (HP.out.grown hg)
  have hk2i : (nl : Int) ≤ k2 := by omega
  have c2 := HP1.out.g.c2
  rw [HNL.out] at c2
  clear hown hg HALL hk2 HP
  go_wp2_with fail
  obtain ⟨wx, hwx⟩ : ∃ wx : World, wx = w1 := ⟨_, rfl⟩
  clear hwx
  go_loopw [19, 144] (fun b i wr => ∃ (j : Nat) (bb : Bool), j ≤ nl ∧ i = .int .i64 j ∧ b = .bool bb ∧ (bb = true ↔ ∀ t (_ : t < j) (h : t < L.length), Ar.wordAt B (Lg.grd L[t].1 L[t].2) = Lg.can X.key L[t].1) ∧ w1.grownBy wr none) (fun _ i _ => nl - (intOf i).toNat)
  case atStart => exact ⟨0, true, by omega, rfl, rfl, ⟨fun _ t ht => by omega, fun _ => rfl⟩, grown_refl _ _⟩
  case round =>
    obtain ⟨j, bb, hj, rfl, rfl, hbb, hg⟩ := hrel
    have HG := Lib.hid hg
    have HBB := Lib.hid hbb
    clear hg hbb
    by_cases hlt : j < nl
    · have hjl : j < L.length := by rw [HNL.out]; exact hlt
      obtain ⟨gb, rfl, hc⟩ : ∃ g, A = some ⟨g, 0, none⟩ ∧ ∀ i (h : i < L.length), w1.cell? ⟨g, i * 2, none⟩ = some (.int .i64 (L[i].1 : Nat)) ∧ w1.cell? ⟨g, i * 2 + 1, none⟩ = some (.int .i64 (L[i].2 : Nat)) := by
        rcases HP1.out.g.els with h0 | ⟨g, e, _, _, h⟩
        · omega
        · exact ⟨g, e, h⟩
      obtain ⟨ga, rfl, hca⟩ : ∃ g, A2 = some ⟨g, 0, none⟩ ∧ ∀ i (hi : i < L.length), w1.cell? ⟨g, i, none⟩ = some (.int .i64 (L[i].1 : Nat)) := by
        rcases HOWN.out with h0 | h
        · omega
        · exact h
      have d0 := HG.out.cell (hc j hjl).1 (by simp)
      have d1 := HG.out.cell (hc j hjl).2 (by simp)
      have a0 := HG.out.cell (hca j hjl) (by simp)
      obtain ⟨z1, z2⟩ := HP1.out.z.at_ hjl
      have z3 := HINV.out.gr L[j].1 (by omega)
      have z4 := HINV.out.fit L[j].1 (by omega)
      have HBN : Hid (∀ b2 : Bool, (b2 = true ↔ (bb = true ∧ Ar.wordAt B (Lg.grd (L[j]'hjl).1 (L[j]'hjl).2) = Lg.can X.key (L[j]'hjl).1)) → (b2 = true ↔ ∀ t (_ : t < j + 1) (h : t < L.length), Ar.wordAt B (Lg.grd L[t].1 L[t].2) = Lg.can X.key L[t].1)) := Lib.hid (fun b2 hb2 => by
        rw [hb2, HBB.out]
        constructor
        · rintro ⟨k1, k2⟩ t ht hl
          by_cases e : t < j
          · exact k1 t e hl
          · obtain rfl : t = j := by omega
            exact k2
        · intro k1
          exact ⟨fun t ht hl => k1 t (by omega) hl, k1 j (by omega) hjl⟩)
      obtain ⟨p, hp⟩ : ∃ p, (L[j]'hjl).1 = p := ⟨_, rfl⟩
      obtain ⟨m, hm⟩ : ∃ m, (L[j]'hjl).2 = m := ⟨_, rfl⟩
      rw [hp] at d0 a0 z1 z3 z4 HBN
      rw [hm] at d1 z1 HBN
      rw [z1] at z3 z4
      have HST := Lib.hid (fun W (gW : w1.grownBy W none) => rstands_at (HP1.out.g.grown gW) p m z3.1 z3.2 z4)
      have HSZ : Hid (∀ W, w1.grownBy W none → Calls Try.prog 35 #[.pointer (some ⟨X.p, 0, none⟩), .int .i64 p] W fun e w' => e = .returned (.int .i64 m) ∧ W = w') := Lib.hid (fun W gW => by
        obtain ⟨D, hd⟩ := (HP1.out.y.grown gW).at_
        have := lsize_at hd (p : Int) ⟨by omega, by have := hd.ar.small; omega⟩
        rw [zV_in, z1] at this
        exact this)
      have hpi : (p : Int) ≤ 65536 := by have := HNN.out; omega
      have hmi : (m : Int) ≤ 4096 := by omega
      have hj0 : (0 : Int) ≤ (j : Int) := by omega
      have hji : (j : Int) < (nl : Int) := by omega
      clear hc hca z1 z2 z3 z4 hp hm
      go_upto_region 34 with (fail)
      obtain ⟨xb, hxb⟩ : ∃ xb, xb = wr.heap.size := ⟨_, rfl⟩
      rw [← hxb]
      have HX : Hid ((wr.alloc (.cells #[.int .i64 p, .int .i64 m] 70)).cell? ⟨xb, 0, none⟩ = some (.int .i64 p) ∧ (wr.alloc (.cells #[.int .i64 p, .int .i64 m] 70)).cell? ⟨xb, 1, none⟩ = some (.int .i64 m) ∧ (wr.alloc (.cells #[.int .i64 p, .int .i64 m] 70)).cell? ⟨ga, j, none⟩ = some (.int .i64 p)) := Lib.hid ⟨by rw [hxb, cell_alloc_new]; rfl, by rw [hxb, cell_alloc_new]; rfl, (grown_alloc wr _ none).cell a0 (by simp)⟩
      have HG1 : Hid (w1.grownBy (wr.alloc (.cells #[.int .i64 p, .int .i64 m] 70)) none) := Lib.hid (grown_trans HG.out (grown_alloc _ _ _))
      generalize wr.alloc (.cells #[.int .i64 p, .int .i64 m] 70) = w2 at HX HG1 ⊢
      have x0 := HX.out.1
      have x1 := HX.out.2.1
      have HS2 := Lib.hid (HST.out _ HG1.out)
      clear hxb d0 d1 a0 HG HST HBB
      obtain ⟨st, hst⟩ : ∃ st, decide (Ar.wordAt B (Lg.grd p m) = Lg.can X.key p) = st := ⟨_, rfl⟩
      rw [hst] at HS2
      have HSTB : Hid (st = true ↔ Ar.wordAt B (Lg.grd p m) = Lg.can X.key p) := Lib.hid (by rw [← hst]; simp)
      clear hst
      cases bb with
      | true =>
        go_upto_region 35 with ((go_at_call 34; (with_reducible refine HS2.out.mono ?_); rintro e w3 ⟨rfl, hg⟩; have HG3 := Lib.hid (grown_trans HG1.out hg); have y0 := hg.cell HX.out.1 (by simp); have y1 := hg.cell HX.out.2.1 (by simp); have ya := hg.cell HX.out.2.2 (by simp); clear hg))
        have HSZ3 := Lib.hid (fun d => HSZ.out (w3.drewN d) (grown_drew HG3.out d))
        clear x0 x1 HSZ HX HS2 HG1
        go_quiet ((go_at_call 35; exact quiet_left (HSZ3.out _)))
        rename_i nq
        have HG4 := Lib.hid (grown_drew HG3.out nq)
        clear y0 y1 ya HSZ3 HG3
        go_wp2
        go_roundw
        case rel => exact ⟨j + 1, st, by omega, by go_num, rfl, HBN.out st (by rw [HSTB.out]; simp), HG4.out⟩
        case measure => simp [intOf]; omega
      | false =>
        go_upto_region 35 with (fail)
        have y0 := HX.out.1
        have y1 := HX.out.2.1
        have ya := HX.out.2.2
        have HSZ3 := Lib.hid (fun d => HSZ.out (w2.drewN d) (grown_drew HG1.out d))
        clear x0 x1 HSZ HX HS2
        go_quiet ((go_at_call 35; exact quiet_left (HSZ3.out _)))
        rename_i nq
        have HG4 := Lib.hid (grown_drew HG1.out nq)
        clear y0 y1 ya HSZ3 HG1
        go_wp2
        go_roundw
        case rel => exact ⟨j + 1, false, by omega, by go_num, rfl, HBN.out false (by simp), HG4.out⟩
        case measure => simp [intOf]; omega
    · obtain rfl : j = nl := by omega
      have HP2 := Lib.hid (HP1.out.grown HG.out)
      have HALB : Hid (bb = true ↔ Lg.All X.key Z B) := Lib.hid (by
        rw [all_iff HP1.out.z, HBB.out]
        exact ⟨fun h t ht => h t (by rw [← HNL.out]; exact ht) ht, fun h t _ ht => h t ht⟩)
      have HLO : Hid (Calls Try.prog 18 #[.pointer (some ⟨X.pa, 0, none⟩), .int .i64 0, .int .i64 (X.N : Nat)] wr fun e w' => An.LoadRes wr w' X.N B e) := Lib.hid (by
        have := HP2.out.y.load 0 X.N (by omega)
        simpa using this)
      have hnn2 := HNN.out
      clear HP1 HG HBB HOWN c2 HINV
      go_wp2_with fail
      refine HLO.out.mono ?_
      rintro e w4 ⟨q2, k2, rfl, m1, m2, m3, m4⟩
      have HP4 := Lib.hid (HP2.out.grown m4)
      have hd4 := m4
      have HO : Hid (∀ W, w4.grownBy W none → W.cell? ⟨r, 0, none⟩ = some (.slice (some ⟨q, 0, none⟩) X.N cap) ∧ (convert 26 9 (.slice (some ⟨q2, 0, none⟩) X.N k2)).run Try.prog W = .ok (.string (strOfNums ((List.range X.N).map fun i => ((B i : Nat) : Int)))) W ∧ (convert 26 9 (.slice (some ⟨q, 0, none⟩) X.N cap)).run Try.prog W = .ok (.string (strOfNums ((List.range X.N).map fun i => ((B i : Nat) : Int)))) W) := Lib.hid (fun W gW =>
        ⟨(HP4.out.g.grown gW).c0, conv_same W q2 X.N k2 B B (m3.grown gW (by simp)) (fun _ _ => rfl), conv_same W q X.N cap B B (HP4.out.g.b.grown gW (by simp)) (fun _ _ => rfl)⟩)
      generalize strOfNums ((List.range X.N).map fun i => ((B i : Nat) : Int)) = str at HO
      have HCK : Hid (∀ W, w4.grownBy W none → Calls Try.prog 36 #[.pointer (some ⟨X.p, 0, none⟩)] W fun e w' => e = .returned (.int .i64 (if bb = true then 0 else 4)) ∧ W.grownBy w' none) := Lib.hid (fun W gW => by
        refine ((HP4.out.y.grown gW).check).mono ?_
        rintro e w' ⟨x, rfl, hx, hx0, hg⟩
        refine ⟨?_, hg⟩
        rw [← HALB.out] at hx0
        cases bb with
        | true => rw [hx0.2 rfl]; rfl
        | false =>
          have : x ≠ 0 := fun e => by have := hx0.1 e; cases this
          have : x = 4 := by omega
          rw [this]; rfl)
      have HSZ : Hid (∀ W, w4.grownBy W none → Calls Try.prog 35 #[.pointer (some ⟨X.p, 0, none⟩), .int .i64 (-1)] W fun e w' => e = .returned (.int .i64 0) ∧ W = w') := Lib.hid (fun W gW => by
        obtain ⟨D, hd⟩ := (HP4.out.y.grown gW).at_
        exact lsize_at hd (-1) ⟨by omega, by omega⟩)
      have e0 := HO.out _ (grown_refl w4 none)
      have hg0 := grown_drew1 (grown_refl w4 none)
      clear m1 m2 m3 m4 hd4 HLO HP2 HALB
      cases bb with
      | true =>
        have HCK : Hid (∀ W, w4.grownBy W none → Calls Try.prog 36 #[.pointer (some ⟨X.p, 0, none⟩)] W fun e w' => e = .returned (.int .i64 0) ∧ W.grownBy w' none) := HCK
        go_upto_region 39 with (fail)
        go_region_held3 (fun w' => w'.cell? ⟨r, 0, none⟩ = some (.slice (some ⟨q, 0, none⟩) X.N cap) ∧ (convert 26 9 (.slice (some ⟨q2, 0, none⟩) X.N k2)).run Try.prog w' = .ok (.string str) w' ∧ (convert 26 9 (.slice (some ⟨q, 0, none⟩) X.N cap)).run Try.prog w' = .ok (.string str) w')
          (first | exact e0 | exact HO.out _ (by assumption))
          (first
          | (go_at_call 36; (with_reducible refine (HCK.out _ (by assumption)).mono ?_); rintro e w5 ⟨rfl, m⟩; have hg1 := grown_trans hg0 m; clear m)
          | (go_at_call 35; (with_reducible refine (HSZ.out _ (by assumption)).mono ?_); rintro e w6 ⟨rfl, rfl⟩))
        all_goals
          have HP5 := Lib.hid (HP4.out.grown hg1)
          clear HCK HSZ HO e0 hg0 hg1 HP4
          go_wp2
          exact ⟨rfl, rfl, rfl, rfl, rfl, rfl, rfl, rfl, rfl, cnt, q, cap, vc, _, L, Z, B, HP5.out, HK.out⟩
      | false =>
        have HCK : Hid (∀ W, w4.grownBy W none → Calls Try.prog 36 #[.pointer (some ⟨X.p, 0, none⟩)] W fun e w' => e = .returned (.int .i64 4) ∧ W.grownBy w' none) := HCK
        go_upto_region 39 with (fail)
        go_region_held3 (fun w' => w'.cell? ⟨r, 0, none⟩ = some (.slice (some ⟨q, 0, none⟩) X.N cap) ∧ (convert 26 9 (.slice (some ⟨q2, 0, none⟩) X.N k2)).run Try.prog w' = .ok (.string str) w' ∧ (convert 26 9 (.slice (some ⟨q, 0, none⟩) X.N cap)).run Try.prog w' = .ok (.string str) w')
          (first | exact e0 | exact HO.out _ (by assumption))
          (first
          | (go_at_call 36; (with_reducible refine (HCK.out _ (by assumption)).mono ?_); rintro e w5 ⟨rfl, m⟩; have hg1 := grown_trans hg0 m; clear m)
          | (go_at_call 35; (with_reducible refine (HSZ.out _ (by assumption)).mono ?_); rintro e w6 ⟨rfl, rfl⟩))
        all_goals
          have HP5 := Lib.hid (HP4.out.grown hg1)
          clear HCK HSZ HO e0 hg0 hg1 HP4
          go_wp2
          exact ⟨rfl, rfl, rfl, rfl, rfl, rfl, rfl, rfl, rfl, cnt, q, cap, vc, _, L, Z, B, HP5.out, HK.out⟩
end Go.Proofs.Yticoojcmlkdeiaa
