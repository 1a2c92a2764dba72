/- The walks of an arena's Store, Fill, SetWord. -/
import Derived.Test.YticoojcmlkdeiaaAC
namespace Go.Proofs.Yticoojcmlkdeiaa.An
open Go.RowKit

/-- What writing into an arena's bytes leaves of a world that open left. -/
def Wrote (G : World → Prop) (q N : Nat) (B' : Nat → Nat) (w'' : World) : Prop := ∃ w', G w' ∧ w'.grownBy w'' (some q) ∧ BytesAt w'' q N B'

set_option maxHeartbeats 1000000 in
theorem setword_bad (p q N cap : Nat) (at_ er : Int) (v : Nat) (w : World) (h0 : w.cell? ⟨p, 0, none⟩ = some (.slice (some ⟨q, 0, none⟩) N cap)) (hN : N ≤ 65536) (he : wbE N at_ = er) (hz : er ≠ 0) :
    Calls Try.prog 45 #[.pointer (some ⟨p, 0, none⟩), .int .i64 at_, .int .u64 v] w fun e w' => e = .returned (.int .i64 er) ∧ w = w' := by
  have HC := wbounds_at p q N cap at_ w h0 hN
  rw [he] at HC
  have HC := Lib.hid HC
  have hz' : (er != 0) = true := by simpa using hz
  clear he hz
  go_enter Try.func45, Try.ntmps45
  go_wp2_with (go_at_call 85; refine HC.out.mono ?_; rintro e w' ⟨rfl, rfl⟩)
  go_ret
  exact ⟨rfl, rfl⟩
set_option maxHeartbeats 800000 in
theorem setword_nil (at_ : Int) (v : Nat) (w : World) :
    Calls Try.prog 45 #[.pointer none, .int .i64 at_, .int .u64 v] w fun e w' => e = .returned (.int .i64 2) ∧ w = w' := by
  go_enter Try.func45, Try.ntmps45
  go_wp2_with (go_at_call 85; refine (wbounds_nil at_ _).mono ?_; rintro e w' ⟨rfl, rfl⟩)
  go_ret
  exact ⟨rfl, rfl⟩
set_option maxHeartbeats 2000000 in
theorem setword_good (p q N cap at_ v : Nat) (B : Nat → Nat) (w : World) (h0 : w.cell? ⟨p, 0, none⟩ = some (.slice (some ⟨q, 0, none⟩) N cap)) (hN : N ≤ 65536) (he : wbE N at_ = 0) (G : World → Prop)
    (hG : ∀ w', G w' → BytesAt w' q N B)
    (hopen : Calls Try.prog 59 #[.pointer (some ⟨p, 0, none⟩), .int .i64 at_, .int .i64 8] w fun e w' => OpenRes q at_ 8 e ∧ G w') :
    Calls Try.prog 45 #[.pointer (some ⟨p, 0, none⟩), .int .i64 at_, .int .u64 v] w fun e w' => e = .returned (.int .i64 0) ∧ Wrote G q N (Ar.setW B at_ v) w' := by
  have HC := wbounds_at p q N cap at_ w h0 hN
  rw [he] at HC
  have HC := Lib.hid HC
  obtain ⟨_, h8, _⟩ := wbE_zero he
  have h8' : at_ + 8 ≤ N := by omega
  have HO := Lib.hid hopen
  have HG := Lib.hid hG
  clear he hopen hG
  go_enter Try.func45, Try.ntmps45
  go_wp2_with fail
  refine HC.out.mono ?_
  rintro e w' ⟨rfl, rfl⟩
  go_wp2_with fail
  refine HO.out.mono ?_
  rintro e w1 ⟨⟨o, c, rfl, ho⟩, hg⟩
  obtain rfl : o = at_ := ho (by omega)
  have HG1 := Lib.hid hg
  clear hg ho
  go_wp2_with fail
  refine (put_at v w1).mono ?_
  rintro e w2 ⟨s, sc, rfl, _, hs, hb, hg⟩
  have hbw := HG.out _ HG1.out
  obtain ⟨w3, hrun, hb3, hg3⟩ := copy_run (hbw.grown hg (by simp)) o 8 c (fun _ => h8') (Ar.byt v) (some ⟨s, 0, none⟩) sc (.inr ⟨s, 0, rfl, fun i hi => by rw [Nat.zero_add]; exact hb.c i hi⟩)
  have HW := Lib.hid (show Wrote G q N (Ar.setW B o v) w3 from ⟨w1, HG1.out, grown_trans (grown_none hg) hg3, hb3⟩)
  clear hb hg hb3 hg3 hbw hs
  go_wp2
  go_ret
  exact ⟨rfl, HW.out⟩

set_option maxHeartbeats 800000 in
theorem store_nil (at_ : Int) (A : Option Addr) (n c : Nat) (w : World) :
    Calls Try.prog 19 #[.pointer none, .int .i64 at_, .slice A n c] w fun e w' => e = .returned (.int .i64 2) ∧ w = w' := by
  go_enter Try.func19, Try.ntmps19
  go_wp2_with (go_at_call 57; refine (bounds_nil at_ n _).mono ?_; rintro e w' ⟨rfl, rfl⟩)
  go_ret
  exact ⟨rfl, rfl⟩
set_option maxHeartbeats 800000 in
theorem store_bad (p q N cap : Nat) (at_ : Int) (A : Option Addr) (n c : Nat) (w : World) (h0 : w.cell? ⟨p, 0, none⟩ = some (.slice (some ⟨q, 0, none⟩) N cap)) (hN : N ≤ 65536) (hn : (n : Int) ≤ 9223372036854775807) (hb : inB N at_ n = false) :
    Calls Try.prog 19 #[.pointer (some ⟨p, 0, none⟩), .int .i64 at_, .slice A n c] w fun e w' => e = .returned (.int .i64 3) ∧ w = w' := by
  have HC := bounds_at p q N cap at_ n w h0 hN hn
  rw [hb] at HC
  have HC := Lib.hid HC
  clear hb hn
  go_enter Try.func19, Try.ntmps19
  go_wp2_with (go_at_call 57; refine HC.out.mono ?_; rintro e w' ⟨rfl, rfl⟩)
  go_ret
  exact ⟨rfl, rfl⟩
set_option maxHeartbeats 2000000 in
theorem store_good {w : World} {p q N cap : Nat} {B : Nat → Nat} (h : ArAt w p q N cap B none) (at_ n c : Nat) (A : Option Addr) (S : Nat → Nat) (hb : at_ + n ≤ N) (hS : ∀ i, S i < 256)
    (hs : n = 0 ∨ ∃ b off, A = some ⟨b, off, none⟩ ∧ ∀ i, i < n → w.cell? ⟨b, off + i, none⟩ = some (.int .u8 (S i : Nat))) :
    Calls Try.prog 19 #[.pointer (some ⟨p, 0, none⟩), .int .i64 at_, .slice A n c] w fun e w' => e = .returned (.int .i64 0) ∧ ArAt w' p q N cap (Ar.setB B at_ n S) none ∧ w.grownBy w' (some q) := by
  have hN := h.small
  have HC := bounds_at p q N cap at_ n w h.c0 hN (by omega)
  rw [(inB_iff _ _ _).2 (by omega : (0 : Int) ≤ at_ ∧ (0 : Int) ≤ n ∧ (at_ : Int) + n ≤ N)] at HC
  have HC := Lib.hid HC
  have HO := Lib.hid (open_none h at_ n hb)
  have H := Lib.hid h
  have HS := Lib.hid hs
  clear h hs
  go_enter Try.func19, Try.ntmps19
  go_wp2_with fail
  refine HC.out.mono ?_
  rintro e w' ⟨rfl, rfl⟩
  go_wp2_with fail
  refine HO.out.mono ?_
  rintro e w' ⟨⟨o, oc, rfl, ho⟩, rfl⟩
  obtain ⟨w3, hrun, hb3, hg3⟩ := copy_run H.out.b o n oc (fun h => by rw [ho h]; exact hb) S A c HS.out
  have HR : Hid (ArAt w3 p q N cap (Ar.setB B at_ n S) none ∧ w.grownBy w3 (some q)) := by
    refine ⟨⟨hg3.cell H.out.c0 (by simpa using H.out.ne), hg3.cell H.out.c1 (by simpa using H.out.ne), fun k => by rw [World.frozen?_of_block (w := w) (hg3.block p H.out.plt (by simpa using H.out.ne))]; exact H.out.fz k, ?_, H.out.ne, H.out.hcap, H.out.small, H.out.page, fun i => Ar.setB_lt H.out.lt hS _ _ _⟩, hg3⟩
    by_cases h0 : 0 < n
    · rw [← ho h0]; exact hb3
    · have e : ∀ o, Ar.setB B o n S = B := fun o => by funext i; unfold Ar.setB; rw [if_neg (by omega)]
      rw [e] at hb3 ⊢
      exact hb3
  clear hb3 hg3 ho HC HO H HS
  go_wp2
  go_ret
  exact ⟨rfl, HR.out⟩

set_option maxHeartbeats 800000 in
theorem fill_nil (at_ n c : Int) (w : World) :
    Calls Try.prog 38 #[.pointer none, .int .i64 at_, .int .i64 n, .int .u8 c] w fun e w' => e = .returned (.int .i64 2) ∧ w = w' := by
  go_enter Try.func38, Try.ntmps38
  go_wp2_with (go_at_call 57; refine (bounds_nil at_ n _).mono ?_; rintro e w' ⟨rfl, rfl⟩)
  go_ret
  exact ⟨rfl, rfl⟩
set_option maxHeartbeats 800000 in
theorem fill_bad (p q N cap : Nat) (at_ n c : Int) (w : World) (h0 : w.cell? ⟨p, 0, none⟩ = some (.slice (some ⟨q, 0, none⟩) N cap)) (hN : N ≤ 65536) (hn : n ≤ 9223372036854775807) (hb : inB N at_ n = false) :
    Calls Try.prog 38 #[.pointer (some ⟨p, 0, none⟩), .int .i64 at_, .int .i64 n, .int .u8 c] w fun e w' => e = .returned (.int .i64 3) ∧ w = w' := by
  have HC := bounds_at p q N cap at_ n w h0 hN hn
  rw [hb] at HC
  have HC := Lib.hid HC
  clear hb hn
  go_enter Try.func38, Try.ntmps38
  go_wp2_with (go_at_call 57; refine HC.out.mono ?_; rintro e w' ⟨rfl, rfl⟩)
  go_ret
  exact ⟨rfl, rfl⟩
set_option maxRecDepth 100000 in
set_option maxHeartbeats 2000000 in
theorem fill_good {w : World} {p q N cap : Nat} {B : Nat → Nat} (h : ArAt w p q N cap B none) (at_ n c : Nat) (hb : at_ + n ≤ N) (hc : c < 256) :
    Calls Try.prog 38 #[.pointer (some ⟨p, 0, none⟩), .int .i64 at_, .int .i64 n, .int .u8 c] w fun e w' => e = .returned (.int .i64 0) ∧ ArAt w' p q N cap (Ar.setB B at_ n (fun _ => c)) none ∧ w.grownBy w' (some q) := by
  have hN := h.small
  have HC := bounds_at p q N cap at_ n w h.c0 hN (by omega)
  rw [(inB_iff _ _ _).2 (by omega : (0 : Int) ≤ at_ ∧ (0 : Int) ≤ n ∧ (at_ : Int) + n ≤ N)] at HC
  have HC := Lib.hid HC
  have HO := Lib.hid (open_none h at_ n hb)
  have H := Lib.hid h
  have hn2 : n ≤ 65536 := by omega
  clear h
  go_enter Try.func38, Try.ntmps38
  go_wp2_with fail
  refine HC.out.mono ?_
  rintro e w' ⟨rfl, rfl⟩
  go_wp2_with fail
  refine HO.out.mono ?_
  rintro e w' ⟨⟨o, oc, rfl, ho⟩, rfl⟩
  have HOO := Lib.hid ho
  clear ho HC HO
  go_wp2_with fail
  go_loopw [25] (fun i wr => ∃ k : Nat, k ≤ n ∧ i = .int .i64 k ∧ BytesAt wr q N (Ar.setB B at_ k (fun _ => c)) ∧ w.grownBy wr (some q)) (fun i _ => n - (intOf i).toNat)
  case atStart => exact ⟨0, Nat.zero_le _, rfl, by
    have e : Ar.setB B at_ 0 (fun _ => c) = B := by funext i; unfold Ar.setB; rw [if_neg (by omega)]
    rw [e]; exact H.out.b, grown_refl _ _⟩
  case round =>
    obtain ⟨k, hk, rfl, hbb, hg⟩ := hrel
    have HB := Lib.hid hbb
    have HG := Lib.hid hg
    clear hbb hg
    by_cases hlt : k < n
    · obtain rfl : o = at_ := HOO.out (by omega)
      have d0 := HB.out.c (o + k) (by omega)
      have z0 := HB.out.fz
      generalize Ar.setB B o k (fun _ => c) (o + k) = old at d0
      go_wp2
      go_roundw
      case rel =>
        refine ⟨k + 1, by omega, by go_num, ⟨fun i hi => ?_, fun j => by rw [World.frozen?_setCell]; exact HB.out.fz j, by have := HB.out.qlt; simpa [World.setCell] using this⟩, grown_trans HG.out (agrown_set _ _ _ _)⟩
        by_cases e : i = o + k
        · subst e
          rw [World.cell?_setCell_same' _ _ _ (by rw [HB.out.c _ hi]; rfl)]
          unfold Ar.setB
          rw [if_pos (by omega)]
        · rw [World.cell?_setCell_other _ _ _ _ (fun x => e (congrArg Addr.off x).symm), HB.out.c i hi]
          unfold Ar.setB
          by_cases e2 : o ≤ i ∧ i < o + k
          · rw [if_pos e2, if_pos (by omega)]
          · rw [if_neg e2, if_neg (by omega)]
      case measure => simp [intOf]; omega
    · obtain rfl : k = n := by omega
      go_wp2
      go_ret
      exact ⟨rfl, ⟨HG.out.cell H.out.c0 (by simpa using H.out.ne), HG.out.cell H.out.c1 (by simpa using H.out.ne), fun j => by rw [World.frozen?_of_block (w := w) (HG.out.block p H.out.plt (by simpa using H.out.ne))]; exact H.out.fz j, HB.out, H.out.ne, H.out.hcap, H.out.small, H.out.page, fun i => Ar.setB_lt H.out.lt (fun _ => hc) _ _ _⟩, HG.out⟩
end Go.Proofs.Yticoojcmlkdeiaa.An
