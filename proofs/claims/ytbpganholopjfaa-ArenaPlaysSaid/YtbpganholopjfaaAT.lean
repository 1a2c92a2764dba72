/- The walk of the reference's Do. -/
import Derived.Test.YtbpganholopjfaaAS
import Derived.Deep.RegionLaw
namespace Go.Proofs.Ytbpganholopjfaa
open Go.RowKit

theorem bk_lt {F : Nat → A3} {B : Nat → Nat} (h : ∀ i, B i < 256) : ∀ k i, bk F B k i < 256
  | 0, i => h i
  | k + 1, i => by
    unfold bk
    split
    · rw [Ar.setW_is]; exact Ar.setB_lt (bk_lt h k) (Ar.byt_lt _) _ _ _
    · exact bk_lt h k i
theorem ActAt.grown' {w w' : World} {b o : Nat} {t : A3} {r : Option Nat} (h : ActAt w b o t) (g : w.grownBy w' r) (hb : some b ≠ r) : ActAt w' b o t := ⟨g.cell h.c0 hb, g.cell h.c1 hb, g.cell h.c2 hb, h.lt⟩

/-- copy by an equation, as one step of a region that draws. -/
theorem step_copy_run {P : Program} {ops : Array Oper} {o : Oper} {a : Go.Act} {w : World} {K : Go.Act → World → Prop} {Q : Exit → Go.Act → World → Prop} {E : Prop}
    (hg : o.guard = none) (s x : Operand) (t : TypeId) (hop : o.op = Op.call { callee := Callee.builtin Builtin.copy, args := #[s, x], argTypes := #[t, t] })
    (v1 v2 v' : Value) (w' : World) (hs : a.eval s = v1) (hx : a.eval x = v2) (hrun : (Builtin.copy_ #[t, t] o.type #[v1, v2]).run P w = .ok v' w') (hK : K (a.put o.dst v') w') :
    if Region.wanted o (yielded ops a.tmps) = true then Oper.wp P o a w K Q else E := by
  have hw : Region.wanted o (yielded ops a.tmps) = true := by simp [Region.wanted, hg]
  rw [if_pos hw]
  unfold Oper.wp execOp
  simp only [hop, resolve, invoke, builtin, Sem.run_bind, Sem.run_pure, Result.andThen_ok, List.map_toArray, List.map_cons, List.map_nil, hs, hx, hrun]
  exact hK

/-- What the reference's Do leaves. -/
def RefDo (w : World) (q N n : Nat) (F : Nat → A3) (B : Nat → Nat) (e : Ending) (w' : World) : Prop :=
  ∃ rt fl q' c', (q' = q ∨ w.heap.size ≤ q') ∧ e = .returned (.tuple #[.int .i64 (rt : Nat), .int .i64 fl, .slice (some ⟨q', 0, none⟩) N c']) ∧ ActsRun N n F rt fl ∧ Ls w' q' N c' (if fl = 0 then bk F B rt else B) ∧ w.grownBy w' none

/-- What the reference's loop knows. -/
structure RefL (w w1 wr : World) (q1 N n : Nat) (F : Nat → A3) (B : Nat → Nat) (k : Nat) : Prop where
  le : k ≤ n
  ok : ∀ j, j < k → erA N (F j) = 0
  b : BytesAt wr q1 N (bk F B k)
  fr : w1.grownBy wr (some q1)
  fr0 : w.grownBy w1 none
  q1 : w.heap.size ≤ q1
theorem RefL.all {w w1 wr : World} {q1 N n : Nat} {F : Nat → A3} {B : Nat → Nat} {k : Nat} (h : RefL w w1 wr q1 N n F B k) : w.grownBy wr none := grown_own h.fr0 h.fr h.q1
theorem RefL.grown {w w1 wr w' : World} {q1 N n : Nat} {F : Nat → A3} {B : Nat → Nat} {k : Nat} (h : RefL w w1 wr q1 N n F B k) (g : wr.grownBy w' none) : RefL w w1 w' q1 N n F B k :=
  ⟨h.le, h.ok, h.b.grown g (by simp), grown_trans h.fr (grown_none g), h.fr0, h.q1⟩
theorem RefL.next {w w1 wr w' : World} {q1 N n : Nat} {F : Nat → A3} {B : Nat → Nat} {k : Nat} (h : RefL w w1 wr q1 N n F B k) (hk : k < n) (he : erA N (F k) = 0) (h1 : (F k).k ≠ 1) (g : wr.grownBy w' none) : RefL w w1 w' q1 N n F B (k + 1) := by
  have e : bk F B (k + 1) = bk F B k := by rw [bk, if_neg h1]
  refine ⟨hk, fun j hj => ?_, by rw [e]; exact h.b.grown g (by simp), grown_trans h.fr (grown_none g), h.fr0, h.q1⟩
  by_cases hjk : j = k
  · rw [hjk]; exact he
  · exact h.ok j (by omega)
theorem RefL.set {w w1 wr w' : World} {q1 N n : Nat} {F : Nat → A3} {B : Nat → Nat} {k : Nat} (h : RefL w w1 wr q1 N n F B k) (hk : k < n) (he : erA N (F k) = 0) (hb : BytesAt w' q1 N (bk F B (k + 1))) (g : wr.grownBy w' (some q1)) : RefL w w1 w' q1 N n F B (k + 1) := by
  refine ⟨hk, fun j hj => ?_, hb, grown_trans h.fr g, h.fr0, h.q1⟩
  by_cases hjk : j = k
  · rw [hjk]; exact he
  · exact h.ok j (by omega)
theorem RefL.done {w w1 wr : World} {q1 N n c1 : Nat} {F : Nat → A3} {B : Nat → Nat} (h : RefL w w1 wr q1 N n F B n) (hc : N ≤ c1) (hN : N ≤ 65536) (hB : ∀ i, B i < 256) (q : Nat) : RefDo w q N n F B (.returned (.tuple #[.int .i64 (n : Nat), .int .i64 0, .slice (some ⟨q1, 0, none⟩) N c1])) wr :=
  ⟨n, 0, q1, c1, .inr h.q1, rfl, ⟨Nat.le_refl _, h.ok, .inl ⟨rfl, rfl⟩⟩, by rw [if_pos rfl]; exact ⟨h.b, hc, hN, bk_lt hB n⟩, h.all⟩
theorem RefL.stop {w w1 wr : World} {q q1 N n c k : Nat} {er : Int} {F : Nat → A3} {B : Nat → Nat} (h : RefL w w1 wr q1 N n F B k) (hk : k < n) (he : erA N (F k) = er) (hz : er ≠ 0) (hl : Ls w q N c B) : RefDo w q N n F B (.returned (.tuple #[.int .i64 (k : Nat), .int .i64 er, .slice (some ⟨q, 0, none⟩) N c])) wr :=
  ⟨k, er, q, c, .inl rfl, rfl, ⟨h.le, h.ok, .inr ⟨hk, hz, he.symm⟩⟩, by rw [if_neg hz]; exact ⟨hl.b.grown h.all (by simp), hl.cap, hl.small, hl.lt⟩, h.all⟩

set_option maxRecDepth 100000 in
set_option maxHeartbeats 4000000 in
theorem rdo_at {w : World} {q N c n ca : Nat} {B : Nat → Nat} {A : Option Addr} {F : Nat → A3} (h : Ls w q N c B) (hn : n ≤ 1000000) (hc : n ≤ ca) (hF : ∀ i, i < n → okA (F i)) (hact : ActsAt w A n F) :
    Calls Try.prog 23 #[.slice (some ⟨q, 0, none⟩) N c, .slice A n ca] w (RefDo w q N n F B) := by
  have H := Lib.hid h
  have hN := h.small
  have HACT := Lib.hid hact
  have HOK := Lib.hid hF
  clear h hact hF
  obtain ⟨i0, hi, hz0, hz1, hz2⟩ := info_parts infoByte
  go_enter Try.func23, Try.ntmps23
  go_wp2_with (at_builtin; refine wpList_append_own _ rfl _ _ 25 rfl w.heap.size 5 i0 (.int .u8 0) 1 1 Try.underlying25 hi hz0 hz1 hz2 rfl (by decide) _ _ _ rfl (World.ownsRow_made w #[] 0 (Nat.le_refl _) (Nat.zero_le _) rfl) ⟨q, 0, none⟩ N c (bvals B N) rfl ?c1 ?c2 ?c3 ?c4 ?c5 ?c6 ?_)
  case c1 => rw [bvals_length]; omega
  case c2 =>
    intro j u hj
    have hj' : j < N := by
      have := (List.getElem?_eq_some_iff.1 hj).1
      rwa [bvals_length] at this
    rw [bvals_at B N j hj'] at hj
    rw [aaddr_add]
    have h2 := (grown_alloc w (.cells #[] 5) none).cell (H.out.b.c j hj') (by simp)
    rw [← hj]
    exact h2
  case c3 => exact bvals_one B N
  case c4 => simp only [maxLen]; omega
  case c5 => omega
  case c6 => simp
  intro v' w1 hown hgrow hiff
  have hv : v' ≠ .slice none 0 0 := fun e => hiff e
  obtain ⟨q1, cap1, rfl, k1, k2, k3, k4⟩ := bytesNew_val (bytes_end w w1 N B v' (by simpa using hown) (grown_own (grown_alloc w _ none) hgrow (Nat.le_refl _)) hv)
  clear hown hgrow hiff hv hi hz0 hz1 hz2
  have HL0 : Hid (RefL w w1 w1 q1 N n F B 0) := Lib.hid ⟨Nat.zero_le _, fun j hj => by omega, k3, grown_refl _ _, k4, k2⟩
  have HK := Lib.hid (And.intro k1 (And.intro k2 k4))
  have hNc : (N : Int) ≤ cap1 := by omega
  clear k1 k2 k3 k4
  go_wp2_with fail
  obtain ⟨w2, rfl⟩ : ∃ w2 : World, w2 = w1 := ⟨_, rfl⟩
  go_loopw [16] (fun i wr => ∃ k : Nat, i = .int .i64 k ∧ RefL w w2 wr q1 N n F B k) (fun i _ => n - (intOf i).toNat)
  case atStart => exact ⟨0, rfl, HL0.out⟩
  case round =>
    clear HL0
    obtain ⟨k, rfl, hl⟩ := hrel
    have hk := hl.le
    have HL := Lib.hid hl
    clear hl
    by_cases hlt : k < n
    · obtain ⟨b, off, rfl, hbl, hact⟩ : ∃ b off, A = some ⟨b, off, none⟩ ∧ b < w.heap.size ∧ ∀ i, i < n → ActAt w b (off + i * 3) (F i) := by
        rcases HACT.out with h0 | h; omega; exact h
      have hat := (hact k hlt).grown HL.out.all
      have e0 := hat.c0
      have e1 := hat.c1
      have e2 := hat.c2
      have hxl := hat.lt
      have hok := HOK.out k hlt
      clear hact hat
      obtain ⟨t, hT⟩ : ∃ t, t = F k := ⟨_, rfl⟩
      rw [← hT] at e0 e1 e2 hxl hok
      have HT := Lib.hid hT
      clear hT
      obtain ⟨tk, ta, tx⟩ := t
      obtain ⟨ok0, ok2⟩ := hok
      simp only at e0 e1 e2 hxl ok0 ok2
      go_upto_region 5 with (fail)
      obtain ⟨xb, hxb⟩ : ∃ xb, xb = wr.heap.size := ⟨_, rfl⟩
      rw [← hxb]
      have x0 : (wr.alloc (.cells #[.int .i64 tk, .int .i64 ta, .int .u64 (tx : Nat)] 53)).cell? ⟨xb, 0, none⟩ = some (.int .i64 tk) := by rw [hxb, cell_alloc_new]; rfl
      have x1 : (wr.alloc (.cells #[.int .i64 tk, .int .i64 ta, .int .u64 (tx : Nat)] 53)).cell? ⟨xb, 1, none⟩ = some (.int .i64 ta) := by rw [hxb, cell_alloc_new]; rfl
      have x2 : (wr.alloc (.cells #[.int .i64 tk, .int .i64 ta, .int .u64 (tx : Nat)] 53)).cell? ⟨xb, 2, none⟩ = some (.int .u64 (tx : Nat)) := by rw [hxb, cell_alloc_new]; rfl
      have HL1 : Hid (RefL w w2 (wr.alloc (.cells #[.int .i64 tk, .int .i64 ta, .int .u64 (tx : Nat)] 53)) q1 N n F B k) := Lib.hid (HL.out.grown (grown_alloc _ _ _))
      have HXB : Hid (xb ≠ q1) := Lib.hid (by rw [hxb]; have := HL.out.b.qlt; omega)
      generalize wr.alloc (.cells #[.int .i64 tk, .int .i64 ta, .int .u64 (tx : Nat)] 53) = w3 at x0 x1 x2 HL1 ⊢
      clear hxb HL e0 e1 e2
      have hkk : tk = 0 ∨ tk = 1 ∨ tk = 2 := by omega
      have HW := rword_at (w := w3) (q := q1) (N := N) (c := cap1) ⟨HL1.out.b, HK.out.1, hN, bk_lt H.out.lt k⟩ ta
      have HNX := Lib.hid (fun he h1 => HL1.out.next hlt he h1 (grown_refl w3 none))
      have HST := Lib.hid (fun er he hz => HL1.out.stop (er := er) hlt he hz H.out)
      rcases hkk with rfl | rfl | rfl
      · by_cases he : wbE N ta = 0
        · rw [he] at HW
          have HW := Lib.hid HW
          have HN := Lib.hid (HNX.out (by rw [← HT.out]; unfold erA; rw [if_neg (by simp)]; exact he) (by rw [← HT.out]; simp))
          generalize wordV (bk F B k) N ta = v at HW
          clear he HNX HST
          go_wp2_with (go_at_call 16; refine HW.out.mono ?_; rintro e w' ⟨rfl, rfl⟩)
          go_roundw
          case rel => exact ⟨k + 1, by go_num, HN.out⟩
          case measure => simp [intOf]; omega
        · obtain ⟨er, her⟩ : ∃ er, wbE N ta = er := ⟨_, rfl⟩
          rw [her] at HW
          have HW := Lib.hid HW
          have hz : er ≠ 0 := by rw [← her]; exact he
          have HS := Lib.hid (HST.out er (by rw [← HT.out]; unfold erA; rw [if_neg (by simp)]; exact her) hz)
          have hz' : (er != 0) = true := by simpa using hz
          generalize wordV (bk F B k) N ta = v at HW
          clear he her HNX HST hz
          go_wp2_with (go_at_call 16; refine HW.out.mono ?_; rintro e w' ⟨rfl, rfl⟩)
          go_ret3
          exact HS.out
      · by_cases he : wbE N ta = 0
        · rw [he] at HW
          have HW := Lib.hid HW
          have h8 := wbE_zero he
          obtain ⟨a, rfl⟩ : ∃ a : Nat, ta = a := ⟨ta.toNat, by omega⟩
          have hb8 : a + 8 ≤ N := by omega
          have hat : a ≤ 65536 := by omega
          have haN : (a : Int) ≤ N := by omega
          have hca : ¬ cap1 = a := by omega
          have HER : Hid (erA N (F k) = 0) := Lib.hid (by rw [← HT.out]; unfold erA; rw [if_neg (by simp)]; exact he)
          have HBK : Hid (bk F B (k + 1) = Ar.setB (bk F B k) a 8 (Ar.byt tx)) := Lib.hid (by rw [bk, ← HT.out, if_pos rfl]; rfl)
          have HPUT := Lib.hid (fun W => rput_at tx hxl W)
          have hgr := grown_refl w3 none
          generalize wordV (bk F B k) N (a : Int) = v at HW
          clear he HNX HST h8
          go_wp2_with (go_at_call 16; refine HW.out.mono ?_; rintro e w' ⟨rfl, rfl⟩)
          go_upto_region 13 with (fail)
          go_region_law (first
            | (refine step_copy_run rfl _ _ _ rfl _ _ _ _ rfl rfl (hcp _) ?_)
            | (go_simp; go_wp2_with (go_at_call 18; refine (HPUT.out _).mono ?_; rintro e w4 ⟨qp, cp, rfl, m1, m2, m3, m4⟩; have m5 := grown_trans (grown_drew1 hgr) m4; have y1 := m5.cell x1 (by simp); have y2 := m5.cell x2 (by simp); obtain ⟨w5, hcp, hb5, hg5⟩ := copy_run2 (HL1.out.b.grown m5 (by simp)) a (N - a) 8 (cap1 - a) (by omega) (fun _ => hb8) (Ar.byt tx) (some ⟨qp, 0, none⟩) cp (.inr ⟨qp, 0, rfl, fun i hi => by rw [Nat.zero_add]; exact m3.c i hi⟩); have HN := Lib.hid (HL1.out.set hlt HER.out (by rw [HBK.out]; exact hb5) (grown_trans (grown_none m5) hg5)); clear m1 m2 m3 m4 m5 hb5 hg5)))
          all_goals
            go_wp2
            go_roundw
            case rel => exact ⟨k + 1, by go_num, HN.out⟩
            case measure => simp [intOf]; omega
        · obtain ⟨er, her⟩ : ∃ er, wbE N ta = er := ⟨_, rfl⟩
          rw [her] at HW
          have HW := Lib.hid HW
          have hz : er ≠ 0 := by rw [← her]; exact he
          have HS := Lib.hid (HST.out er (by rw [← HT.out]; unfold erA; rw [if_neg (by simp)]; exact her) hz)
          have hz' : (er != 0) = true := by simpa using hz
          generalize wordV (bk F B k) N ta = v at HW
          clear he her HNX HST hz
          go_wp2_with (go_at_call 16; refine HW.out.mono ?_; rintro e w' ⟨rfl, rfl⟩)
          go_ret3
          exact HS.out
      · by_cases hx : tx % 2 = 1
        · have d : ((tx : Int) % 2 = 1) := by omega
          have HN := Lib.hid (HNX.out (by rw [← HT.out]; unfold erA; rw [if_pos rfl, if_pos hx]) (by rw [← HT.out]; simp))
          clear HNX HST HW
          go_wp2_with fail
          go_roundw
          case rel => exact ⟨k + 1, by go_num, HN.out⟩
          case measure => simp [intOf]; omega
        · have d : ((tx : Int) % 2 = 0) := by omega
          have HS := Lib.hid (HST.out 8 (by rw [← HT.out]; unfold erA; rw [if_pos rfl, if_neg hx]) (by decide))
          clear HNX HST HW
          go_wp2_with fail
          go_ret3
          exact HS.out
    · obtain rfl : k = n := by omega
      have HD := Lib.hid (HL.out.done HK.out.1 hN H.out.lt q)
      go_wp2
      go_ret3
      exact HD.out
end Go.Proofs.Ytbpganholopjfaa
