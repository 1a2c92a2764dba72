/- The code of ArenaPlays in pieces; what a round of its loop begins and ends with. -/
import Derived.Test.YtbpganholopjfaaAX
namespace Go.Proofs.Ytbpganholopjfaa
open Go.RowKit

/-- The first loop's round. -/
def loopIn : Code → Option Code
  | .loop c => some c
  | .block _ c => loopIn c
  | .scope c => loopIn c
  | .seq a b => (loopIn a).or (loopIn b)
  | .cond _ a b => (loopIn a).or (loopIn b)
  | _ => none
def hasRegion (n : Nat) : Code → Bool
  | .region m _ _ => m == n
  | .loop c => hasRegion n c
  | .seq a b => hasRegion n a || hasRegion n b
  | .block _ c => hasRegion n c
  | .scope c => hasRegion n c
  | .cond _ a b => hasRegion n a || hasRegion n b
  | _ => false
/-- The code behind the statement that holds region n. -/
def behind (n : Nat) : Code → Option Code
  | .loop c => behind n c
  | .block _ c => behind n c
  | .scope c => behind n c
  | .seq a b => if hasRegion n a then (behind n a).or (some b) else behind n b
  | .cond _ a b => if hasRegion n a then behind n a else behind n b
  | _ => none

noncomputable def pbody : Code := ((Try.f3.body.bind loopIn).getD .skip)
noncomputable def ptail : Code := ((Try.f3.body.bind (behind 8)).getD .skip)
noncomputable def pfill : Code := (((Try.f3.body.bind loopIn).bind loopIn).getD .skip)
set_option maxRecDepth 100000 in
theorem frame_plays {a : Go.Act} (h : a.tmps.size = 246) (hd : a.defers = []) : ∃ u : Nat → Value, a = ⟨#[u 0, u 1, u 2, u 3, u 4, u 5, u 6, u 7, u 8, u 9, u 10, u 11, u 12, u 13, u 14, u 15, u 16, u 17, u 18, u 19, u 20, u 21, u 22, u 23, u 24, u 25, u 26, u 27, u 28, u 29, u 30, u 31, u 32, u 33, u 34, u 35, u 36, u 37, u 38, u 39, u 40, u 41, u 42, u 43, u 44, u 45, u 46, u 47, u 48, u 49, u 50, u 51, u 52, u 53, u 54, u 55, u 56, u 57, u 58, u 59, u 60, u 61, u 62, u 63, u 64, u 65, u 66, u 67, u 68, u 69, u 70, u 71, u 72, u 73, u 74, u 75, u 76, u 77, u 78, u 79, u 80, u 81, u 82, u 83, u 84, u 85, u 86, u 87, u 88, u 89, u 90, u 91, u 92, u 93, u 94, u 95, u 96, u 97, u 98, u 99, u 100, u 101, u 102, u 103, u 104, u 105, u 106, u 107, u 108, u 109, u 110, u 111, u 112, u 113, u 114, u 115, u 116, u 117, u 118, u 119, u 120, u 121, u 122, u 123, u 124, u 125, u 126, u 127, u 128, u 129, u 130, u 131, u 132, u 133, u 134, u 135, u 136, u 137, u 138, u 139, u 140, u 141, u 142, u 143, u 144, u 145, u 146, u 147, u 148, u 149, u 150, u 151, u 152, u 153, u 154, u 155, u 156, u 157, u 158, u 159, u 160, u 161, u 162, u 163, u 164, u 165, u 166, u 167, u 168, u 169, u 170, u 171, u 172, u 173, u 174, u 175, u 176, u 177, u 178, u 179, u 180, u 181, u 182, u 183, u 184, u 185, u 186, u 187, u 188, u 189, u 190, u 191, u 192, u 193, u 194, u 195, u 196, u 197, u 198, u 199, u 200, u 201, u 202, u 203, u 204, u 205, u 206, u 207, u 208, u 209, u 210, u 211, u 212, u 213, u 214, u 215, u 216, u 217, u 218, u 219, u 220, u 221, u 222, u 223, u 224, u 225, u 226, u 227, u 228, u 229, u 230, u 231, u 232, u 233, u 234, u 235, u 236, u 237, u 238, u 239, u 240, u 241, u 242, u 243, u 244, u 245], []⟩ := by
  obtain ⟨⟨t⟩, d⟩ := a
  simp only [List.size_toArray] at h hd
  subst hd
  have key : t = (List.range 246).map (fun i => t.getD i .nilFunc) := by
    apply List.ext_getElem?
    intro i
    by_cases hi : i < 246
    · simp [hi, List.getD, List.getElem?_eq_getElem (show i < t.length by omega)]
    · rw [List.getElem?_eq_none (by omega), List.getElem?_eq_none (by simp; omega)]
  generalize (fun i => t.getD i Value.nilFunc) = u at key
  exact ⟨u, by rw [key]; rfl⟩

/-- What stands behind the switch. -/
structure TEnd (w0 : World) (p q cap N : Nat) (c33 c34 c35 : Value) (a : Go.Act) (w : World) : Prop where
  size : a.tmps.size = 246
  defers : a.defers = []
  s5 : a.tmps[5]? = some (.pointer (some ⟨p, 0, none⟩))
  s33 : a.tmps[33]? = some c33
  s34 : a.tmps[34]? = some c34
  s35 : a.tmps[35]? = some c35
  row : ∃ q2 c2 B, a.tmps[6]? = some (.slice (some ⟨q2, 0, none⟩) N c2) ∧ PL w0 w p q cap q2 c2 N B
/-- What the switch begins with. -/
structure TBeg (w0 w3 : World) (p q cap q1 c1 N ob M : Nat) (B : Nat → Nat) (t : AOp) : Prop where
  pl : PL w0 w3 p q cap q1 c1 N B
  rows : ORows w0 t
  op : ob ≠ p
  oq : ob ≠ q
  ow : ob ≠ q1
  oc : OCells w3 ob 0 t M
  m : M ≤ 300
  ml : M ≤ t.bl
theorem ArAt.put {w w' : World} {p q N cap : Nat} {B B' : Nat → Nat} (h : ArAt w p q N cap B none) (hb : BytesAt w' q N B') (g : w.grownBy w' (some q)) (hB : ∀ i, B' i < 256) : ArAt w' p q N cap B' none :=
  ⟨g.cell h.c0 (by simpa using h.ne), g.cell h.c1 (by simpa using h.ne), fun j => by rw [World.frozen?_of_block (w := w) (g.block p h.plt (by simpa using h.ne))]; exact h.fz j, hb, h.ne, h.hcap, h.small, h.page, hB⟩
end Go.Proofs.Ytbpganholopjfaa
