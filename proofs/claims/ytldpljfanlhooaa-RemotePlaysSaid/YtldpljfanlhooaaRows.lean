/-
  No cell of these rows narrows 'for every input' (looked for: loops, veiled, ifaces, maps, wideKeys, modest, calm, conditions, laid).
  DERIVED. THE GIVEN ROWS OF THIS SEAT. 7 by the template 'for every input the law returns true; each argument reads behind the call as it read before'; 0 by the template 'total and deterministic' (their statements: YtldpljfanlhooaaTotals.lean).
  GIVEN WITH THE SEED: the statements are not yours to turn. If you find one false, say at which input.
  Laid BY PROGRAM, IN A SANDBOX (cutbox-rows.mjs): the forced cells as the released guide's own fill.sh prints them over the translation cafc082f91b199f6… (all of the seat's roots in one cut). By AI agents, Wed Nov 11 2026. No macro, syntax, notation, axiom, sorry.
-/
import Derived.Test.YtldpljfanlhooaaChecked
import GoSem.Claim
import GoSem.ClaimJoined
import GoSem.ClaimMapViews
import Derived.JoinedTies
import Derived.KernelRfl
namespace Go.Proofs.Ytldpljfanlhooaa
/- THE CELL 'sum', in the pinned program and in every row, IS THE sha256 OF THE DUMP (.gsa) THAT YtldpljfanlhooaaProg.lean LOADS. Nothing in Lean hashes anything: it is a label: what it is worth is what the hold of that sum in a sandbox is worth. -/
noncomputable def Try.pinned : Pinned := { name := "ytldpljfanlhooaa", sum := "cafc082f91b199f63cc649c2b30e521f9017f18f2892d74a3404c6228769ce0c", checked := Try.checked }
namespace Rows
def none {H : Type} : Left H := { results := [], args := [] }

/-- 'tumbrellaw11.QuarPlays': WHATEVER THE INPUT: true; the input reads as it did. -/
def quarPlaysSpec : ChangeSpec := { name := "quarPlays", fn := fun _ => fun
  | [d1, d2] => { results := [.lit (.bool true)], args := [d1, d2] }
  | _ => none }
def quarPlaysRow : OpenClaim := { program := "ytldpljfanlhooaa", sum := "cafc082f91b199f63cc649c2b30e521f9017f18f2892d74a3404c6228769ce0c", func := "tumbrel/tumbrellaw11.QuarPlays", spec := "quarPlays", plainKeys := false, apart := false }
def QuarPlaysSaid : Prop := quarPlaysRow.holds Try.pinned (OpenSpec.ofChange quarPlaysSpec)

/-- ITS FALSE NEIGHBOUR: 'it returns false'. Refute it at one input. -/
def quarPlaysWrong : ChangeSpec := { name := "quarPlays", fn := fun _ => fun
  | [d1, d2] => { results := [.lit (.bool false)], args := [d1, d2] }
  | _ => none }
def QuarPlaysWrongFalsely : Prop := quarPlaysRow.holds Try.pinned (OpenSpec.ofChange quarPlaysWrong)

/-- 'tumbrellaw11.QuarOrder': WHATEVER THE INPUT: true; the input reads as it did. -/
def quarOrderSpec : ChangeSpec := { name := "quarOrder", fn := fun _ => fun
  | [d1, d2] => { results := [.lit (.bool true)], args := [d1, d2] }
  | _ => none }
def quarOrderRow : OpenClaim := { program := "ytldpljfanlhooaa", sum := "cafc082f91b199f63cc649c2b30e521f9017f18f2892d74a3404c6228769ce0c", func := "tumbrel/tumbrellaw11.QuarOrder", spec := "quarOrder", plainKeys := false, apart := false }
def QuarOrderSaid : Prop := quarOrderRow.holds Try.pinned (OpenSpec.ofChange quarOrderSpec)

/-- ITS FALSE NEIGHBOUR: 'it returns false'. Refute it at one input. -/
def quarOrderWrong : ChangeSpec := { name := "quarOrder", fn := fun _ => fun
  | [d1, d2] => { results := [.lit (.bool false)], args := [d1, d2] }
  | _ => none }
def QuarOrderWrongFalsely : Prop := quarOrderRow.holds Try.pinned (OpenSpec.ofChange quarOrderWrong)

/-- 'tumbrellaw11.QuarNil': WHATEVER THE INPUT: true; the input reads as it did. -/
def quarNilSpec : ChangeSpec := { name := "quarNil", fn := fun _ => fun
  | [d] => { results := [.lit (.bool true)], args := [d] }
  | _ => none }
def quarNilRow : OpenClaim := { program := "ytldpljfanlhooaa", sum := "cafc082f91b199f63cc649c2b30e521f9017f18f2892d74a3404c6228769ce0c", func := "tumbrel/tumbrellaw11.QuarNil", spec := "quarNil", plainKeys := false, apart := false }
def QuarNilSaid : Prop := quarNilRow.holds Try.pinned (OpenSpec.ofChange quarNilSpec)

/-- ITS FALSE NEIGHBOUR: 'it returns false'. Refute it at one input. -/
def quarNilWrong : ChangeSpec := { name := "quarNil", fn := fun _ => fun
  | [d] => { results := [.lit (.bool false)], args := [d] }
  | _ => none }
def QuarNilWrongFalsely : Prop := quarNilRow.holds Try.pinned (OpenSpec.ofChange quarNilWrong)

/-- 'tumbrellaw12.RemotePlays': WHATEVER THE INPUT: true; the input reads as it did. -/
def remotePlaysSpec : ChangeSpec := { name := "remotePlays", fn := fun _ => fun
  | [d1, d2, d3] => { results := [.lit (.bool true)], args := [d1, d2, d3] }
  | _ => none }
def remotePlaysRow : OpenClaim := { program := "ytldpljfanlhooaa", sum := "cafc082f91b199f63cc649c2b30e521f9017f18f2892d74a3404c6228769ce0c", func := "tumbrel/tumbrellaw12.RemotePlays", spec := "remotePlays", plainKeys := false, apart := false }
def RemotePlaysSaid : Prop := remotePlaysRow.holds Try.pinned (OpenSpec.ofChange remotePlaysSpec)

/-- ITS FALSE NEIGHBOUR: 'it returns false'. Refute it at one input. -/
def remotePlaysWrong : ChangeSpec := { name := "remotePlays", fn := fun _ => fun
  | [d1, d2, d3] => { results := [.lit (.bool false)], args := [d1, d2, d3] }
  | _ => none }
def RemotePlaysWrongFalsely : Prop := remotePlaysRow.holds Try.pinned (OpenSpec.ofChange remotePlaysWrong)

/-- 'tumbrellaw12.RemoteOrder': WHATEVER THE INPUT: true; the input reads as it did. -/
def remoteOrderSpec : ChangeSpec := { name := "remoteOrder", fn := fun _ => fun
  | [d1, d2] => { results := [.lit (.bool true)], args := [d1, d2] }
  | _ => none }
def remoteOrderRow : OpenClaim := { program := "ytldpljfanlhooaa", sum := "cafc082f91b199f63cc649c2b30e521f9017f18f2892d74a3404c6228769ce0c", func := "tumbrel/tumbrellaw12.RemoteOrder", spec := "remoteOrder", plainKeys := false, apart := false }
def RemoteOrderSaid : Prop := remoteOrderRow.holds Try.pinned (OpenSpec.ofChange remoteOrderSpec)

/-- ITS FALSE NEIGHBOUR: 'it returns false'. Refute it at one input. -/
def remoteOrderWrong : ChangeSpec := { name := "remoteOrder", fn := fun _ => fun
  | [d1, d2] => { results := [.lit (.bool false)], args := [d1, d2] }
  | _ => none }
def RemoteOrderWrongFalsely : Prop := remoteOrderRow.holds Try.pinned (OpenSpec.ofChange remoteOrderWrong)

/-- 'tumbrellaw12.RemoteNil': WHATEVER THE INPUT: true; the input reads as it did. -/
def remoteNilSpec : ChangeSpec := { name := "remoteNil", fn := fun _ => fun
  | [d1, d2] => { results := [.lit (.bool true)], args := [d1, d2] }
  | _ => none }
def remoteNilRow : OpenClaim := { program := "ytldpljfanlhooaa", sum := "cafc082f91b199f63cc649c2b30e521f9017f18f2892d74a3404c6228769ce0c", func := "tumbrel/tumbrellaw12.RemoteNil", spec := "remoteNil", plainKeys := false, apart := false }
def RemoteNilSaid : Prop := remoteNilRow.holds Try.pinned (OpenSpec.ofChange remoteNilSpec)

/-- ITS FALSE NEIGHBOUR: 'it returns false'. Refute it at one input. -/
def remoteNilWrong : ChangeSpec := { name := "remoteNil", fn := fun _ => fun
  | [d1, d2] => { results := [.lit (.bool false)], args := [d1, d2] }
  | _ => none }
def RemoteNilWrongFalsely : Prop := remoteNilRow.holds Try.pinned (OpenSpec.ofChange remoteNilWrong)

/-- 'tumbrellaw12.RemoteCounts': WHATEVER THE INPUT: true; the input reads as it did. -/
def remoteCountsSpec : ChangeSpec := { name := "remoteCounts", fn := fun _ => fun
  | [d1, d2, d3] => { results := [.lit (.bool true)], args := [d1, d2, d3] }
  | _ => none }
def remoteCountsRow : OpenClaim := { program := "ytldpljfanlhooaa", sum := "cafc082f91b199f63cc649c2b30e521f9017f18f2892d74a3404c6228769ce0c", func := "tumbrel/tumbrellaw12.RemoteCounts", spec := "remoteCounts", plainKeys := false, apart := false }
def RemoteCountsSaid : Prop := remoteCountsRow.holds Try.pinned (OpenSpec.ofChange remoteCountsSpec)

/-- ITS FALSE NEIGHBOUR: 'it returns false'. Refute it at one input. -/
def remoteCountsWrong : ChangeSpec := { name := "remoteCounts", fn := fun _ => fun
  | [d1, d2, d3] => { results := [.lit (.bool false)], args := [d1, d2, d3] }
  | _ => none }
def RemoteCountsWrongFalsely : Prop := remoteCountsRow.holds Try.pinned (OpenSpec.ofChange remoteCountsWrong)

/- THE SECOND FORM. 'bulk': how many values and letters a reading holds, each counted each time it is reached (what is shared counts as often as it is met; a slice's spare places count too). A statement '..UptoSaid' is the law's where the arguments, and the package variables that the reading takes, are together of bulk at most 1048576: NARROWER than '..Said'. Prove '..Said' where nothing that the law and all that it calls make is longer than what came in: it says more and counts as full. Else prove '..UptoSaid'. A law counts once. -/
mutual
def uptoBulk {H : Type} : DataW H → Nat
  | .lit (.string bytes) => bytes.length + 1
  | .lit _ => 1
  | .nil => 1
  | .ptr d => uptoBulk d + 1
  | .slice elems spare => uptoBulkAll elems + uptoBulkAll spare + 1
  | .agg parts => uptoBulkAll parts + 1
  | .iface _ d => uptoBulk d + 1
  | .map entries => uptoBulkEntries entries + 1
  | .held _ => 1
def uptoBulkAll {H : Type} : List (DataW H) → Nat
  | [] => 0
  | d :: r => uptoBulk d + uptoBulkAll r
def uptoBulkEntries {H : Type} : List (Lit × DataW H) → Nat
  | [] => 0
  | x :: r => uptoBulkEntry x + uptoBulkEntries r
def uptoBulkEntry {H : Type} : Lit × DataW H → Nat
  | (.string bytes, d) => bytes.length + uptoBulk d + 1
  | (_, d) => uptoBulk d + 1
 end
def uptoSmall : (H : Type) → List (DataW H) → Bool := fun _ ds => decide (uptoBulkAll ds ≤ 1048576)
def OpenSpec.upto (s : _root_.Go.ChangeSpec) : _root_.Go.OpenSpec := { _root_.Go.OpenSpec.ofChange s with cond := some uptoSmall }

/-- 'tumbrellaw11.QuarPlays', WHERE WHAT IT READS IS OF BULK AT MOST 1048576: true; the input reads as it did. -/
def quarPlaysUptoRow : OpenClaim := { program := "ytldpljfanlhooaa", sum := "cafc082f91b199f63cc649c2b30e521f9017f18f2892d74a3404c6228769ce0c", func := "tumbrel/tumbrellaw11.QuarPlays", spec := "quarPlays", plainKeys := false, apart := false, narrowed := true }
def QuarPlaysUptoSaid : Prop := quarPlaysUptoRow.holds Try.pinned (OpenSpec.upto quarPlaysSpec)

/-- 'tumbrellaw11.QuarOrder', WHERE WHAT IT READS IS OF BULK AT MOST 1048576: true; the input reads as it did. -/
def quarOrderUptoRow : OpenClaim := { program := "ytldpljfanlhooaa", sum := "cafc082f91b199f63cc649c2b30e521f9017f18f2892d74a3404c6228769ce0c", func := "tumbrel/tumbrellaw11.QuarOrder", spec := "quarOrder", plainKeys := false, apart := false, narrowed := true }
def QuarOrderUptoSaid : Prop := quarOrderUptoRow.holds Try.pinned (OpenSpec.upto quarOrderSpec)

/-- 'tumbrellaw11.QuarNil', WHERE WHAT IT READS IS OF BULK AT MOST 1048576: true; the input reads as it did. -/
def quarNilUptoRow : OpenClaim := { program := "ytldpljfanlhooaa", sum := "cafc082f91b199f63cc649c2b30e521f9017f18f2892d74a3404c6228769ce0c", func := "tumbrel/tumbrellaw11.QuarNil", spec := "quarNil", plainKeys := false, apart := false, narrowed := true }
def QuarNilUptoSaid : Prop := quarNilUptoRow.holds Try.pinned (OpenSpec.upto quarNilSpec)

/-- 'tumbrellaw12.RemotePlays', WHERE WHAT IT READS IS OF BULK AT MOST 1048576: true; the input reads as it did. -/
def remotePlaysUptoRow : OpenClaim := { program := "ytldpljfanlhooaa", sum := "cafc082f91b199f63cc649c2b30e521f9017f18f2892d74a3404c6228769ce0c", func := "tumbrel/tumbrellaw12.RemotePlays", spec := "remotePlays", plainKeys := false, apart := false, narrowed := true }
def RemotePlaysUptoSaid : Prop := remotePlaysUptoRow.holds Try.pinned (OpenSpec.upto remotePlaysSpec)

/-- 'tumbrellaw12.RemoteOrder', WHERE WHAT IT READS IS OF BULK AT MOST 1048576: true; the input reads as it did. -/
def remoteOrderUptoRow : OpenClaim := { program := "ytldpljfanlhooaa", sum := "cafc082f91b199f63cc649c2b30e521f9017f18f2892d74a3404c6228769ce0c", func := "tumbrel/tumbrellaw12.RemoteOrder", spec := "remoteOrder", plainKeys := false, apart := false, narrowed := true }
def RemoteOrderUptoSaid : Prop := remoteOrderUptoRow.holds Try.pinned (OpenSpec.upto remoteOrderSpec)

/-- 'tumbrellaw12.RemoteNil', WHERE WHAT IT READS IS OF BULK AT MOST 1048576: true; the input reads as it did. -/
def remoteNilUptoRow : OpenClaim := { program := "ytldpljfanlhooaa", sum := "cafc082f91b199f63cc649c2b30e521f9017f18f2892d74a3404c6228769ce0c", func := "tumbrel/tumbrellaw12.RemoteNil", spec := "remoteNil", plainKeys := false, apart := false, narrowed := true }
def RemoteNilUptoSaid : Prop := remoteNilUptoRow.holds Try.pinned (OpenSpec.upto remoteNilSpec)

/-- 'tumbrellaw12.RemoteCounts', WHERE WHAT IT READS IS OF BULK AT MOST 1048576: true; the input reads as it did. -/
def remoteCountsUptoRow : OpenClaim := { program := "ytldpljfanlhooaa", sum := "cafc082f91b199f63cc649c2b30e521f9017f18f2892d74a3404c6228769ce0c", func := "tumbrel/tumbrellaw12.RemoteCounts", spec := "remoteCounts", plainKeys := false, apart := false, narrowed := true }
def RemoteCountsUptoSaid : Prop := remoteCountsUptoRow.holds Try.pinned (OpenSpec.upto remoteCountsSpec)

end Rows
end Go.Proofs.Ytldpljfanlhooaa
