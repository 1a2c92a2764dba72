/- The law's Step, all of it where nobody writes. -/
import Derived.Test.YtgnfcklippjeeaaGreatSA
import Derived.Test.YtgnfcklippjeeaaGreatSB
import Derived.Test.YtgnfcklippjeeaaGreatSC
import Derived.Test.YtgnfcklippjeeaaGreatSD
import Derived.Test.YtgnfcklippjeeaaGreatSE
import Derived.Test.YtgnfcklippjeeaaGreatSF
import Derived.Test.YtgnfcklippjeeaaGreatSG
import Derived.Test.YtgnfcklippjeeaaGreatSH
import Derived.Test.YtgnfcklippjeeaaGreatSI
import Derived.Test.YtgnfcklippjeeaaGreatSJ
import Derived.Test.YtgnfcklippjeeaaGreatSK
import Derived.Test.YtgnfcklippjeeaaGreatSL
import Derived.Test.YtgnfcklippjeeaaGreatSM
namespace Go.Proofs.YtgnfcklippjeeaaGreat
open Go.RowKit

theorem step_most {w0 w : World} {A : Rp} {D : Dp} {T : Nat → Nat} {V : St} {cnt pp : Nat} (h : PrAt w0 w A D T V V cnt pp) (hcnt : cnt ≤ 100000) (k c o p a n : Int) (hwp : WF p) (b : Bool) (bA : Option Addr) (bl bc : Nat) (hbc : bl ≤ bc) (hbA : bl = 0 ∨ ∃ x y, bA = some ⟨x, y, none⟩) (others : Bool) (ho : others = false ∨ k ≠ 8) :
    Calls Tryz.prog 11 #[.pointer (some ⟨pp, 0, none⟩), opV k c o p a n b (.slice bA bl bc), .bool others] w fun e w' => e = .returned (.bool true) ∧ StepTo w0 w w' A D T V cnt pp := by
  by_cases e0 : k = 0
  · subst e0; exact step_open h hcnt c o p a n b bA bl bc hbc hbA others
  by_cases e1 : k = 1
  · subst e1; exact step_take1 h hcnt c o p a n hwp b bA bl bc hbc hbA others
  by_cases e2 : k = 2
  · subst e2; exact step_take2 h hcnt c o p a n hwp b bA bl bc hbc hbA others
  by_cases e3 : k = 3
  · subst e3; exact step_drop3 h hcnt c o p a n b bA bl bc hbc hbA others
  by_cases e4 : k = 4
  · subst e4; exact step_drop4 h hcnt c o p a n b bA bl bc hbc hbA others
  by_cases e5 : k = 5
  · subst e5; exact step_give h hcnt c o p a n b bA bl bc hbc hbA others
  by_cases e6 : k = 6
  · subst e6; exact step_shut h hcnt c o p a n hwp b bA bl bc hbc hbA others
  by_cases e7 : k = 7
  · subst e7; exact step_great h hcnt c o p a n b bA bl bc hbc hbA others
  by_cases e8 : k = 8
  · subst e8
    obtain rfl := ho.resolve_right (fun x => x rfl)
    exact step_quiet h hcnt c o p a n b bA bl bc hbc hbA
  by_cases e9 : k = 9
  · subst e9; exact step_find h hcnt c o p a n b bA bl bc hbc hbA others
  by_cases e10 : k = 10
  · subst e10
    obtain ⟨y, hy⟩ := home_ex h.d.ok c o
    by_cases hn : y < 0
    · exact step_home0 h hcnt c o p a n hy hn b bA bl bc hbc hbA others
    · exact step_home1 h hcnt c o p a n hy hn b bA bl bc hbc hbA others
  have f : ∀ x : Int, k ≠ x → (k == x) = false := fun x hx => by simpa using hx
  exact step_owner h hcnt (f 0 e0) (f 1 e1) (f 2 e2) (f 3 e3) (f 4 e4) (f 5 e5) (f 6 e6) (f 7 e7) (f 8 e8) (f 9 e9) (f 10 e10) c o p a n b bA bl bc hbc hbA others
end Go.Proofs.YtgnfcklippjeeaaGreat
