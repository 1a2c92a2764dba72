/- The walk of RemoteOrder. -/
import Derived.Test.YtldpljfanlhooaaMi
import Derived.Deep.CutBlock
import Derived.BigQuiet
namespace Go.Proofs.Ytldpljfanlhooaa
open Go.RowKit
open Is

/-- One round of the search: what is to come lies in what is left. -/
theorem seek {x : Int} {r G : List Int} {k : Nat} (h : (x :: r).Sublist (G.drop k)) : ∃ y, k < G.length ∧ G[k]? = some y ∧ (y ≠ x → (x :: r).Sublist (G.drop (k + 1))) ∧ r.Sublist (G.drop (k + 1)) := by
  have hk : k < G.length := by
    apply Classical.byContradiction
    intro hk
    rw [List.drop_of_length_le (by omega)] at h
    cases h
  rw [List.drop_eq_getElem_cons hk] at h
  refine ⟨G[k], hk, by simp [hk], fun hne => ?_, ?_⟩
  · cases h with
    | cons _ h => exact h
    | cons_cons _ h => exact absurd rfl hne
  · cases h with
    | cons _ h => exact (List.sublist_cons_self _ _).trans h
    | cons_cons _ h => exact h
theorem sub_drop (S : List Cl12) (i : Nat) (h : i < S.length) (f t : Int) : sub (S.drop i) f t = (if S[i].f = f ∧ S[i].t = t then [S[i].a] else []) ++ sub (S.drop (i + 1)) f t := by
  rw [List.drop_eq_getElem_cons h, ← List.singleton_append, sub_append, sub_one]
theorem sub_take (S : List Cl12) (i : Nat) (h : i < S.length) (f t : Int) : sub (S.take (i + 1)) f t = sub (S.take i) f t ++ (if S[i].f = f ∧ S[i].t = t then [S[i].a] else []) := by
  rw [List.take_succ_eq_append_getElem h, sub_append, sub_one]
set_option maxRecDepth 100000 in
set_option maxHeartbeats 8000000 in
theorem remoteOrder_walk (b0 : Int) (A0 : Option Addr) (len cap : Nat) (O : Nat → Cl12) (w : World) (hlen : len ≤ 9223372036854775807) (hO : Calls12 w A0 len O) :
    Calls Try.prog 7 #[.int .i64 b0, .slice A0 len cap] w fun e w' => e = .returned (.bool true) ∧ w.grownBy w' none := by
  have HO := Lib.hid hO
  have hli : (len : Int) ≤ 9223372036854775807 := by omega
  have HLI := Lib.hid hlen
  have HNW := Lib.hid (fun W => new_k 4 b0 W)
  rw [show thrV 4 = 4 from rfl] at HNW
  clear hO hlen
  go_enter Try.func7, Try.ntmps7
  go_wp2_with fail
  refine (HNW.out w).mono ?_
  rintro e w1 ⟨A, rfl, hn, -, hml, hg⟩
  have HC0 : Hid (P1 w w1 A 0 [] (.slice none 0 0) none) := Lib.hid ⟨hn, by omega, by simp, _, _, ⟨hml.kept (grown_refl _ none) (fun q e => by cases e) (fun i hi => by
      rcases hi with hi | hi | hi | hi
      · exact .inl hi
      · cases hi
      · cases hi
      · cases hi), oown_nil _ _, ow_nil _ _, fun q hq => (by cases hq), frN_grown hg (fun i hi => ⟨hi, by simp⟩)⟩, tag_nil, (by
    rw [hn]
    decide)⟩
  clear hml hg hn HNW
  go_upto_block 0 with (fail)
  go_cut [6] from 7 to 57 (fun s W => ∃ (S : List Cl12) (j : Nat) (S0 : Option Addr) (c0 : Nat), s = .slice S0 S.length c0 ∧ P1 w W A j S s none)
  case first =>
    go_wp2_with fail
    go_loopw [6, 24] (fun s i wr => ∃ (j : Nat) (S : List Cl12) (S0 : Option Addr) (c0 : Nat), j ≤ len ∧ i = .int .i64 j ∧ s = .slice S0 S.length c0 ∧ P1 w wr A j S s none) (fun _ i _ => len - (intOf i).toNat)
    case atStart => exact ⟨0, [], none, 0, by omega, rfl, rfl, HC0.out⟩
    case round =>
      obtain ⟨j, S, S0, c0, hj, rfl, rfl, hc⟩ := hrel
      have HC := Lib.hid hc
      clear hc HC0
      by_cases hlt : j < len
      · have hji : (j : Int) < len := by omega
        obtain ⟨c, off, rfl, hcb, hcc⟩ := HO.out.resolve_left (by omega)
        obtain ⟨ck, cf, ct, ca, -, -⟩ := hcc j hlt
        have hfr : FrN (fun i => i < w.heap.size) w wr := by obtain ⟨_, _, _, _, _, h, _⟩ := HC.out; exact h.fr
        replace ck := hfr.cell ck hcb
        replace cf := hfr.cell cf hcb
        replace ct := hfr.cell ct hcb
        replace ca := hfr.cell ca hcb
        obtain ⟨⟨kk, f, t, a⟩, he⟩ : ∃ t : Cl12, O j = t := ⟨_, rfl⟩
        rw [he] at ck cf ct ca
        have HJ : Hid (j < len ∧ j ≤ 40) := Lib.hid ⟨hlt, HC.out.2.1⟩
        obtain ⟨f', hf'⟩ : ∃ f' : Int, bits .and .i64 f 3 = f' := ⟨_, rfl⟩
        obtain ⟨t', ht'⟩ : ∃ t' : Int, bits .and .i64 t 3 = t' := ⟨_, rfl⟩
        have HF : Hid (0 ≤ f' ∧ f' < 4) := Lib.hid (by rw [← hf', i64_and3]; omega)
        have HT : Hid (0 ≤ t' ∧ t' < 4) := Lib.hid (by rw [← ht', i64_and3]; omega)
        simp only [] at ck cf ct ca
        clear hcc hcb he hlt hj hfr
        by_cases h40 : j < 40
        · have hd : decide ((j : Int) ≥ 40) = false := decide_eq_false (by omega)
          have hd' : decide ((40 : Int) ≤ j) = false := decide_eq_false (by omega)
          have H40 := Lib.hid h40
          clear h40
          go_upto_region 8 with (fail)
          have x0 : (wr.alloc (.cells #[.int .i64 kk, .int .i64 f', .int .i64 t', .int .i64 a] 47)).cell? ⟨wr.heap.size, 0, none⟩ = some (.int .i64 kk) := by rw [cell_alloc_new]; rfl
          have x1 : (wr.alloc (.cells #[.int .i64 kk, .int .i64 f', .int .i64 t', .int .i64 a] 47)).cell? ⟨wr.heap.size, 1, none⟩ = some (.int .i64 f') := by rw [cell_alloc_new]; rfl
          have x2 : (wr.alloc (.cells #[.int .i64 kk, .int .i64 f', .int .i64 t', .int .i64 a] 47)).cell? ⟨wr.heap.size, 2, none⟩ = some (.int .i64 t') := by rw [cell_alloc_new]; rfl
          have x3 : (wr.alloc (.cells #[.int .i64 kk, .int .i64 f', .int .i64 t', .int .i64 a] 47)).cell? ⟨wr.heap.size, 3, none⟩ = some (.int .i64 a) := by rw [cell_alloc_new]; rfl
          have HP := Lib.hid (p1_post (o := ⟨kk, f', t', a⟩) (HC.out.ext (grown_alloc wr (.cells #[.int .i64 kk, .int .i64 f', .int .i64 t', .int .i64 a] 47) none) (Nat.le_refl _) (by simp)) H40.out HF.out HT.out)
          simp only [] at HP
          generalize wr.alloc (.cells #[.int .i64 kk, .int .i64 f', .int .i64 t', .int .i64 a] 47) = w2 at *
          generalize wr.heap.size = x at *
          clear ck cf ct ca HC hf' ht'
          go_wp2_with fail
          refine HP.out.mono ?_
          rintro e w3 ⟨⟨rfl, hne, hq⟩ | ⟨rfl, heq, hp⟩, hcells⟩
          · replace x0 := hcells _ _ x0
            replace x1 := hcells _ _ x1
            replace x2 := hcells _ _ x2
            replace x3 := hcells _ _ x3
            obtain ⟨A1, c1, w4, hrun, hp4⟩ := q1_app hq 41
            have HP4 := Lib.hid hp4
            clear hp4 hne hq hcells HP
            simp only [] at hrun
            go_wp2_with (at_builtin; refine wpList_append_run rfl _ _ _ rfl _ _ _ _ rfl rfl hrun ?_)
            go_roundw
            case rel => exact ⟨j + 1, S ++ [⟨kk, f', t', a⟩], A1, c1, by have := HJ.out; omega, by go_num, by rw [List.length_append, List.length_singleton], HP4.out⟩
            case measure => have := HJ.out; simp [intOf]; omega
          · replace x0 := hcells _ _ x0
            replace x1 := hcells _ _ x1
            replace x2 := hcells _ _ x2
            have hb : (f' != t') = false := by simpa using heq
            have HP4 := Lib.hid hp
            clear hp heq hcells HP
            go_wp2
            go_roundw
            case rel => exact ⟨j + 1, S, S0, c0, by have := HJ.out; omega, by go_num, rfl, HP4.out⟩
            case measure => have := HJ.out; simp [intOf]; omega
        · have hd : decide ((j : Int) ≥ 40) = true := decide_eq_true (by omega)
          have hd' : decide ((40 : Int) ≤ j) = true := decide_eq_true (by omega)
          have HP4 := Lib.hid (HC.out.grown (grown_alloc wr (.cells #[.int .i64 kk, .int .i64 f, .int .i64 t, .int .i64 a] 47) none))
          clear h40
          go_wp2
          go_meet
          exact ⟨S, j, S0, c0, rfl, HP4.out⟩
      · have hji : ¬ (j : Int) < len := by omega
        clear hlt hj
        go_wp2
        go_meet
        exact ⟨S, j, S0, c0, rfl, HC.out⟩
  case rest =>
    obtain ⟨S, j, S0, c0, rfl, hc⟩ := hcut
    have HC := Lib.hid hc.to2
    clear hc HC0
    obtain ⟨w2, rfl⟩ : ∃ w2 : World, w2 = wc := ⟨_, rfl⟩
    clear HO
    go_wp2_with fail
    go_loopw [9] (fun i wr => ∃ q : Nat, i = .int .i64 q ∧ P2 w wr A q S (.slice S0 S.length c0)) (fun i _ => 4 - (intOf i).toNat)
    case atStart => exact ⟨0, rfl, HC.out⟩
    case round =>
      obtain ⟨q, rfl, hc⟩ := hrel
      have HC2 := Lib.hid hc
      clear hc HC
      by_cases hlt : q < 4
      · have hqi : (q : Int) < 4 := by omega
        have HQ := Lib.hid hlt
        clear hlt
        go_wp2_with fail
        refine (p2_send HC2.out HQ.out).mono ?_
        rintro e w3 ⟨⟨z, rfl⟩, hc⟩
        have HC3 := Lib.hid hc
        clear hc HC2
        go_wp2
        go_roundw
        case rel => exact ⟨q + 1, by go_num, HC3.out⟩
        case measure => have := HQ.out; simp [intOf]; omega
      · have hq4 : q = 4 := by have := HC2.out.2.1; omega
        have hqi : ¬ (q : Int) < 4 := by omega
        have HC3 := Lib.hid (P2.to3 (hq4 ▸ HC2.out))
        generalize (q : Int) = qz at *
        clear hq4
        clear hlt HC2
        go_wp2_with fail
        go_loopw [10] (fun i wr => ∃ (q : Nat) (g : Value) (G : List Int), q ≤ 4 ∧ i = .int .i64 q ∧ P3 w wr A q S (.slice S0 S.length c0) g G) (fun i _ => 4 - (intOf i).toNat)
        case atStart => exact ⟨0, _, _, by omega, rfl, HC3.out⟩
        case round =>
          obtain ⟨q, g, G, hq4, rfl, hc⟩ := hrel
          have HC4 := Lib.hid hc
          clear hc HC3
          by_cases hlt : q < 4
          · have hqi : (q : Int) < 4 := by omega
            have HQ := Lib.hid hlt
            have HC5 := Lib.hid (HC4.out.to4 hlt)
            clear hlt HC4 hq4
            go_wp2_with fail
            go_loopw [11, 12] (fun v i wr => ∃ (i' : Nat) (G : List Int) (A1 : Option Addr) (c1 : Nat), i' ≤ 41 ∧ i = .int .i64 i' ∧ v = .slice A1 G.length c1 ∧ P4 w wr A q S (.slice S0 S.length c0) v G i') (fun _ i _ => 41 - (intOf i).toNat)
            case atStart => exact ⟨0, [], none, 0, by omega, rfl, rfl, HC5.out⟩
            case round =>
              obtain ⟨i, G, A1, c1, hi, rfl, rfl, hc⟩ := hrel
              have HC6 := Lib.hid hc
              clear hc HC5
              by_cases hlt : i < 41
              · have hii : (i : Int) < 41 := by omega
                have HI := Lib.hid hlt
                clear hlt hi
                go_wp2_with fail
                refine (p4_next HC6.out).mono ?_
                rintro e w3 (⟨x, rfl, hq⟩ | ⟨rfl, hp⟩)
                · obtain ⟨A2, c2, w4, hrun, hp4⟩ := q4_app hq 25
                  have HP4 := Lib.hid hp4
                  clear hp4 hq HC6
                  go_wp2_with (at_builtin; refine wpList_append_run rfl _ _ _ rfl _ _ _ _ rfl rfl hrun ?_)
                  go_roundw
                  case rel => exact ⟨i + 1, G ++ [x], A2, c2, by have := HI.out; omega, by go_num, by rw [List.length_append, List.length_singleton], HP4.out⟩
                  case measure => have := HI.out; simp [intOf]; omega
                · have HP4 := Lib.hid hp
                  clear hp HC6
                  go_wp2
                  go_roundw
                  case rel => exact ⟨i + 1, G, A1, c1, by have := HI.out; omega, by go_num, rfl, HP4.out⟩
                  case measure => have := HI.out; simp [intOf]; omega
              · have hi41 : i = 41 := by omega
                have hii : ¬ (i : Int) < 41 := by omega
                obtain ⟨hp, hfit, hgl⟩ := P4.to5 (hi41 ▸ HC6.out)
                have HP3 := Lib.hid hp
                have HFIT := Lib.hid hfit
                have hgi : (G.length : Int) ≤ 40 := by omega
                have HGL := Lib.hid hgl
                have HSC := Lib.hid (by
                  obtain ⟨_, _, _, _, _, h, _⟩ := HP3.out
                  exact h.so.shape)
                have HGC := Lib.hid (by
                  obtain ⟨_, _, _, _, _, h, _⟩ := HP3.out
                  exact h.go.rd)
                generalize (i : Int) = iz at *
                clear hp hfit hgl hlt hi HC6 hi41
                obtain ⟨w5, rfl⟩ : ∃ w5 : World, w5 = wr := ⟨_, rfl⟩
                have HSUM : Hid (∀ f, f ≤ 4 → sumN (fun f => (sub S f q).length) f ≤ 40) := Lib.hid (fun f hf => by
                  have h1 := sumN_le (g := fun f => (sub S f q).length) hf
                  have h2 := HFIT.out.2
                  have h3 := HGL.out
                  omega)
                have HSL : Hid (S.length ≤ 40) := Lib.hid HP3.out.2.1
                have hsl : (S.length : Int) ≤ 40 := by have := HSL.out; omega
                have HQQ : Hid (q < 4) := HQ
                go_wp2_with fail
                go_loopw [15, 16] (fun n f wr => ∃ f' : Nat, f = .int .i64 f' ∧ f' ≤ 4 ∧ n = .int .i64 (sumN (fun f => (sub S f q).length) f' : Nat) ∧ w5.grownBy wr none) (fun _ f _ => 4 - (intOf f).toNat)
                case atStart => exact ⟨0, rfl, by omega, rfl, grown_refl _ _⟩
                case round =>
                  obtain ⟨f, rfl, hf, rfl, hg⟩ := hrel
                  have HG := Lib.hid hg
                  clear hg
                  by_cases hlt : f < 4
                  · have hfi : (f : Int) < 4 := by omega
                    have HFF := Lib.hid hlt
                    have hn0 := HSUM.out f hf
                    have HN1 : Hid (sumN (fun f => (sub S f q).length) (f + 1) = sumN (fun f => (sub S f q).length) f + (sub S f q).length) := Lib.hid rfl
                    generalize sumN (fun f => (sub S f q).length) f = n0 at *
                    have HN0 := Lib.hid hn0
                    clear hlt hf hn0
                    go_wp2_with fail
                    go_loopw [15, 17, 90] (fun n k i wr => ∃ i' k' : Nat, i = .int .i64 i' ∧ i' ≤ S.length ∧ k = .int .i64 k' ∧ k' ≤ G.length ∧ n = .int .i64 (n0 + (sub (S.take i') f q).length : Nat) ∧ (sub (S.drop i') f q).Sublist (G.drop k') ∧ w5.grownBy wr none) (fun _ _ i _ => S.length - (intOf i).toNat)
                    case atStart => exact ⟨0, 0, rfl, by omega, rfl, by omega, rfl, by rw [List.drop_zero, List.drop_zero]; exact HFIT.out.1 f HFF.out, HG.out⟩
                    case round =>
                      obtain ⟨i, k, rfl, hi, rfl, hk, rfl, hsb, hg⟩ := hrel
                      have HG6 := Lib.hid hg
                      clear hg HG
                      by_cases hlt : i < S.length
                      · have hii : (i : Int) < S.length := by omega
                        have HI := Lib.hid hlt
                        obtain ⟨SA, sc, hse, hsc⟩ := HSC.out
                        obtain ⟨sg, rfl, -, -, hcell⟩ := hsc.resolve_left (by omega)
                        injection hse with hse1 hse2 hse3
                        subst hse1
                        obtain ⟨ck, cf, ct, ca⟩ := hcell i hlt
                        have HD := Lib.hid (sub_drop S i hlt f q)
                        have HT := Lib.hid (sub_take S i hlt f q)
                        obtain ⟨⟨kk, fi, ti, ai⟩, he⟩ : ∃ o : Cl12, S[i]'hlt = o := ⟨_, rfl⟩
                        rw [he] at ck cf ct ca HD HT
                        simp only [] at ck cf ct ca HD HT
                        replace ck := HG6.out.cell ck (by simp)
                        replace cf := HG6.out.cell cf (by simp)
                        replace ct := HG6.out.cell ct (by simp)
                        replace ca := HG6.out.cell ca (by simp)
                        have HK := Lib.hid (And.intro hk hsb)
                        have hnn : n0 + (sub (S.take i) f q).length ≤ 80 := by
                          have h1 := sub_len (S.take i) f q
                          have h2 : (S.take i).length ≤ 40 := by have := HSL.out; rw [List.length_take]; omega
                          have h3 := HN0.out
                          omega
                        have HTN : Hid ((sub (S.take (i + 1)) f q).length = (sub (S.take i) f q).length + (if fi = f ∧ ti = q then 1 else 0)) := Lib.hid (by rw [HT.out, List.length_append]; split <;> rfl)
                        generalize (sub (S.take i) f q).length = m0 at *
                        have hni : ((n0 + m0 : Nat) : Int) ≤ 80 := by omega
                        have HNN := Lib.hid hnn
                        have x1 : (wr.alloc (.cells #[.int .i64 kk, .int .i64 fi, .int .i64 ti, .int .i64 ai] 47)).cell? ⟨wr.heap.size, 1, none⟩ = some (.int .i64 fi) := by rw [cell_alloc_new]; rfl
                        have x2 : (wr.alloc (.cells #[.int .i64 kk, .int .i64 fi, .int .i64 ti, .int .i64 ai] 47)).cell? ⟨wr.heap.size, 2, none⟩ = some (.int .i64 ti) := by rw [cell_alloc_new]; rfl
                        have x3 : (wr.alloc (.cells #[.int .i64 kk, .int .i64 fi, .int .i64 ti, .int .i64 ai] 47)).cell? ⟨wr.heap.size, 3, none⟩ = some (.int .i64 ai) := by rw [cell_alloc_new]; rfl
                        have HG7 := Lib.hid (grown_trans HG6.out (grown_alloc wr (.cells #[.int .i64 kk, .int .i64 fi, .int .i64 ti, .int .i64 ai] 47) none))
                        clear hsc hcell he hsb hk hi hlt hnn HT
                        go_upto_region 35 with (fail)
                        generalize wr.alloc (.cells #[.int .i64 kk, .int .i64 fi, .int .i64 ti, .int .i64 ai] 47) = w7 at *
                        generalize wr.heap.size = x at *
                        clear ck cf ct ca HG6
                        by_cases hfe : fi = f
                        · have b1 : (fi != (f : Int)) = false := by simpa using hfe
                          by_cases hte : ti = q
                          · have b2 : (ti != (q : Int)) = false := by simpa using hte
                            rw [if_pos ⟨hfe, hte⟩] at HD HTN
                            have HSB : Hid ((ai :: sub (S.drop (i + 1)) f q).Sublist (G.drop k)) := Lib.hid (by have := HK.out.2; rw [HD.out] at this; exact this)
                            clear hfe hte
                            go_wp2_with fail
                            go_loopw [17] (fun kv wr => ∃ k' : Nat, kv = .int .i64 k' ∧ (ai :: sub (S.drop (i + 1)) f q).Sublist (G.drop k') ∧ w7.grownBy wr none) (fun kv _ => G.length - (intOf kv).toNat)
                            case atStart => exact ⟨k, rfl, HSB.out, grown_refl _ _⟩
                            case round =>
                              obtain ⟨k2, rfl, hsb2, hg8⟩ := hrel
                              have HG8 := Lib.hid (grown_trans HG7.out hg8)
                              have HG9 := Lib.hid hg8
                              obtain ⟨y, hkl, hy, hne, hr⟩ := seek hsb2
                              obtain ⟨GA, gc, hge, -, hgc⟩ := HGC.out.shape
                              obtain ⟨gg, go, rfl, -, -, hgcell⟩ := hgc.resolve_left (by omega)
                              injection hge with e1 e2 e3
                              subst e1
                              have cy := hgcell k2 hkl
                              rw [(List.getElem?_eq_some_iff.1 hy).2] at cy
                              replace cy := HG8.out.cell cy (by simp)
                              replace x3 := hg8.cell x3 (by simp)
                              have b3 : decide ((k2 : Int) < G.length) = true := decide_eq_true (by omega)
                              have b5 : decide ((k2 : Int) ≥ G.length) = false := decide_eq_false (by omega)
                              have b6 : decide ((G.length : Int) ≤ k2) = false := decide_eq_false (by omega)
                              have hkk : (k2 : Int) < G.length := by omega
                              have HKL := Lib.hid hkl
                              have HNX := Lib.hid (And.intro hne hr)
                              clear hgc hgcell hy hne hr hsb2 hg8 hkl x1 x2 HK HSB b1 b2
                              by_cases hya : y = ai
                              · have b4 : (y != ai) = false := by simpa using hya
                                have HTE : Hid (n0 + (sub (S.take (i + 1)) f q).length = n0 + m0 + 1) := Lib.hid (by have := HTN.out; omega)
                                clear hya
                                go_upto_region 37 with (fail)
                                go_quiet (fail)
                                go_wp2_with fail
                                go_roundw
                                case rel =>
                                  refine ⟨_, _, _, _, _, ?_, rfl, rfl, rfl, rfl, rfl⟩
                                  exact ⟨i + 1, by go_num, HI.out, k2 + 1, by go_num, HKL.out, vint (by have := HTE.out; omega), HNX.out.2, grown_drew HG8.out _⟩
                                case measure => have := HI.out; simp [intOf]; omega
                              · have b4 : (y != ai) = true := by simpa using hya
                                have HN2 := Lib.hid (HNX.out.1 hya)
                                clear hya
                                go_upto_region 37 with (fail)
                                go_quiet (fail)
                                go_wp2_with fail
                                go_roundw
                                case rel => exact ⟨k2 + 1, by go_num, HN2.out, grown_drew HG9.out _⟩
                                case measure => have := HKL.out; simp [intOf]; omega
                          · have b2 : (ti != (q : Int)) = true := by simpa using hte
                            rw [if_neg (fun h => hte h.2)] at HD HTN
                            have HSB : Hid ((sub (S.drop (i + 1)) f q).Sublist (G.drop k)) := Lib.hid (by have := HK.out.2; rw [HD.out] at this; exact this)
                            have HTE : Hid (n0 + (sub (S.take (i + 1)) f q).length = n0 + m0) := Lib.hid (by have := HTN.out; omega)
                            clear hfe hte
                            go_wp2_with fail
                            go_roundw
                            case rel => exact ⟨i + 1, k, by go_num, HI.out, rfl, HK.out.1, by rw [HTE.out], HSB.out, HG7.out⟩
                            case measure => have := HI.out; simp [intOf]; omega
                        · have b1 : (fi != (f : Int)) = true := by simpa using hfe
                          rw [if_neg (fun h => hfe h.1)] at HD HTN
                          have HSB : Hid ((sub (S.drop (i + 1)) f q).Sublist (G.drop k)) := Lib.hid (by have := HK.out.2; rw [HD.out] at this; exact this)
                          have HTE : Hid (n0 + (sub (S.take (i + 1)) f q).length = n0 + m0) := Lib.hid (by have := HTN.out; omega)
                          clear hfe
                          go_wp2_with fail
                          go_roundw
                          case rel => exact ⟨i + 1, k, by go_num, HI.out, rfl, HK.out.1, by rw [HTE.out], HSB.out, HG7.out⟩
                          case measure => have := HI.out; simp [intOf]; omega
                      · have hii : ¬ (i : Int) < S.length := by omega
                        have HNE : Hid (sumN (fun f => (sub S f q).length) (f + 1) = n0 + (sub (S.take i) f q).length) := Lib.hid (by rw [HN1.out, List.take_of_length_le (by omega)])
                        clear hlt hi hk hsb
                        go_wp2_with fail
                        go_roundw
                        case rel => exact ⟨f + 1, by go_num, by have := HFF.out; omega, by rw [HNE.out], HG6.out⟩
                        case measure => have := HFF.out; simp [intOf]; omega
                  · have hf4 : f = 4 := by omega
                    have hfi : ¬ (f : Int) < 4 := by omega
                    have hsum : sumN (fun f => (sub S f q).length) f = G.length := by rw [hf4]; exact HFIT.out.2
                    rw [hsum]
                    have hb : ((G.length : Int) != (G.length : Int)) = false := by simp
                    have HP6 := Lib.hid (HP3.out.grown HG.out)
                    clear hlt hf hf4 hsum HG HP3
                    go_wp2_with fail
                    go_roundw
                    case rel => exact ⟨q + 1, _, _, HQQ.out, by go_num, HP6.out⟩
                    case measure => have := HQQ.out; simp [intOf]; omega
          · have hq : q = 4 := by omega
            have hqi : ¬ (q : Int) < 4 := by omega
            have HC5 := Lib.hid (hq ▸ HC4.out)
            clear hlt hq hq4
            go_wp2_with fail
            refine (p3_all HC5.out).mono ?_
            rintro e w3 ⟨Av, cv, rfl, hfr⟩
            have HF3 := Lib.hid hfr
            clear hfr
            go_wp2_with fail
            refine (awake12_at w3).mono ?_
            rintro e w4 ⟨rfl, hg⟩
            have HF4 : Hid (FrN (fun i => i < w.heap.size) w w4) := Lib.hid (HF3.out.trans (frN_grown hg (fun i hi => ⟨Nat.lt_of_lt_of_le hi HF3.out.size, by simp⟩)))
            clear hg
            go_wp2
            go_ret
            exact ⟨rfl, grown_of_below (HF4.out.below (fun i hi => hi))⟩
end Go.Proofs.Ytldpljfanlhooaa
