/-
  No cell of these rows narrows 'for every input' (looked for: loops, veiled, ifaces, maps, wideKeys, modest, calm, conditions, laid).
  DERIVED. THE GIVEN ROWS OF THIS SEAT. 3 by the template 'for every input the law returns true; each argument reads behind the call as it read before'; 0 by the template 'total and deterministic' (their statements: YtnkfibkmjmnhjaaTotals.lean).
  GIVEN WITH THE SEED: the statements are not yours to turn. If you find one false, say at which input.
  Laid BY PROGRAM, IN A SANDBOX (cutbox-rows.mjs): the forced cells as the released guide's own fill.sh prints them over the translation 8db23310735415d9… (all of the seat's roots in one cut). By AI agents, Wed Nov 11 2026. No macro, syntax, notation, axiom, sorry.
-/
import Derived.Test.YtnkfibkmjmnhjaaChecked
import GoSem.Claim
import GoSem.ClaimJoined
import GoSem.ClaimMapViews
import Derived.JoinedTies
import Derived.KernelRfl
namespace Go.Proofs.Ytnkfibkmjmnhjaa
/- THE CELL 'sum', in the pinned program and in every row, IS THE sha256 OF THE DUMP (.gsa) THAT YtnkfibkmjmnhjaaProg.lean LOADS. Nothing in Lean hashes anything: it is a label: what it is worth is what the hold of that sum in a sandbox is worth. -/
noncomputable def Try.pinned : Pinned := { name := "ytnkfibkmjmnhjaa", sum := "8db23310735415d9083f740d221a62f8deb5e3dc3f9afb7c2bbb8fc47f5b5e84", checked := Try.checked }
namespace Rows
def none {H : Type} : Left H := { results := [], args := [] }

/-- 'lockkeeperlaw22.SplitCalls': WHATEVER THE INPUT: true; the input reads as it did. -/
def splitCallsSpec : ChangeSpec := { name := "splitCalls", fn := fun _ => fun
  | [d1, d2, d3] => { results := [.lit (.bool true)], args := [d1, d2, d3] }
  | _ => none }
def splitCallsRow : OpenClaim := { program := "ytnkfibkmjmnhjaa", sum := "8db23310735415d9083f740d221a62f8deb5e3dc3f9afb7c2bbb8fc47f5b5e84", func := "lockkeeper/lockkeeperlaw22.SplitCalls", spec := "splitCalls", unfollowed := true, recurses := true, apart := false }
def SplitCallsSaid : Prop := splitCallsRow.holds Try.pinned (OpenSpec.ofChange splitCallsSpec)

/-- ITS FALSE NEIGHBOUR: 'it returns false'. Refute it at one input. -/
def splitCallsWrong : ChangeSpec := { name := "splitCalls", fn := fun _ => fun
  | [d1, d2, d3] => { results := [.lit (.bool false)], args := [d1, d2, d3] }
  | _ => none }
def SplitCallsWrongFalsely : Prop := splitCallsRow.holds Try.pinned (OpenSpec.ofChange splitCallsWrong)

/-- 'lockkeeperlaw22.SplitWithin': WHATEVER THE INPUT: true; the input reads as it did. -/
def splitWithinSpec : ChangeSpec := { name := "splitWithin", fn := fun _ => fun
  | [d1, d2, d3] => { results := [.lit (.bool true)], args := [d1, d2, d3] }
  | _ => none }
def splitWithinRow : OpenClaim := { program := "ytnkfibkmjmnhjaa", sum := "8db23310735415d9083f740d221a62f8deb5e3dc3f9afb7c2bbb8fc47f5b5e84", func := "lockkeeper/lockkeeperlaw22.SplitWithin", spec := "splitWithin", unfollowed := true, recurses := true, apart := false }
def SplitWithinSaid : Prop := splitWithinRow.holds Try.pinned (OpenSpec.ofChange splitWithinSpec)

/-- ITS FALSE NEIGHBOUR: 'it returns false'. Refute it at one input. -/
def splitWithinWrong : ChangeSpec := { name := "splitWithin", fn := fun _ => fun
  | [d1, d2, d3] => { results := [.lit (.bool false)], args := [d1, d2, d3] }
  | _ => none }
def SplitWithinWrongFalsely : Prop := splitWithinRow.holds Try.pinned (OpenSpec.ofChange splitWithinWrong)

/-- 'lockkeeperlaw22.SplitChains': WHATEVER THE INPUT: true; the input reads as it did. -/
def splitChainsSpec : ChangeSpec := { name := "splitChains", fn := fun _ => fun
  | [d1, d2, d3] => { results := [.lit (.bool true)], args := [d1, d2, d3] }
  | _ => none }
def splitChainsRow : OpenClaim := { program := "ytnkfibkmjmnhjaa", sum := "8db23310735415d9083f740d221a62f8deb5e3dc3f9afb7c2bbb8fc47f5b5e84", func := "lockkeeper/lockkeeperlaw22.SplitChains", spec := "splitChains", unfollowed := true, recurses := true, apart := false }
def SplitChainsSaid : Prop := splitChainsRow.holds Try.pinned (OpenSpec.ofChange splitChainsSpec)

/-- ITS FALSE NEIGHBOUR: 'it returns false'. Refute it at one input. -/
def splitChainsWrong : ChangeSpec := { name := "splitChains", fn := fun _ => fun
  | [d1, d2, d3] => { results := [.lit (.bool false)], args := [d1, d2, d3] }
  | _ => none }
def SplitChainsWrongFalsely : Prop := splitChainsRow.holds Try.pinned (OpenSpec.ofChange splitChainsWrong)

/- THE SECOND FORM. 'bulk': how many values and letters a reading holds, each counted each time it is reached (what is shared counts as often as it is met; a slice's spare places count too). A statement '..UptoSaid' is the law's where the arguments, and the package variables that the reading takes, are together of bulk at most 1048576: NARROWER than '..Said'. Prove '..Said' where nothing that the law and all that it calls make is longer than what came in: it says more and counts as full. Else prove '..UptoSaid'. A law counts once. -/
mutual
def uptoBulk {H : Type} : DataW H → Nat
  | .lit (.string bytes) => bytes.length + 1
  | .lit _ => 1
  | .nil => 1
  | .ptr d => uptoBulk d + 1
  | .slice elems spare => uptoBulkAll elems + uptoBulkAll spare + 1
  | .agg parts => uptoBulkAll parts + 1
  | .iface _ d => uptoBulk d + 1
  | .map entries => uptoBulkEntries entries + 1
  | .held _ => 1
def uptoBulkAll {H : Type} : List (DataW H) → Nat
  | [] => 0
  | d :: r => uptoBulk d + uptoBulkAll r
def uptoBulkEntries {H : Type} : List (Lit × DataW H) → Nat
  | [] => 0
  | x :: r => uptoBulkEntry x + uptoBulkEntries r
def uptoBulkEntry {H : Type} : Lit × DataW H → Nat
  | (.string bytes, d) => bytes.length + uptoBulk d + 1
  | (_, d) => uptoBulk d + 1
 end
def uptoSmall : (H : Type) → List (DataW H) → Bool := fun _ ds => decide (uptoBulkAll ds ≤ 1048576)
def OpenSpec.upto (s : _root_.Go.ChangeSpec) : _root_.Go.OpenSpec := { _root_.Go.OpenSpec.ofChange s with cond := some uptoSmall }

/-- 'lockkeeperlaw22.SplitCalls', WHERE WHAT IT READS IS OF BULK AT MOST 1048576: true; the input reads as it did. -/
def splitCallsUptoRow : OpenClaim := { program := "ytnkfibkmjmnhjaa", sum := "8db23310735415d9083f740d221a62f8deb5e3dc3f9afb7c2bbb8fc47f5b5e84", func := "lockkeeper/lockkeeperlaw22.SplitCalls", spec := "splitCalls", unfollowed := true, recurses := true, apart := false, narrowed := true }
def SplitCallsUptoSaid : Prop := splitCallsUptoRow.holds Try.pinned (OpenSpec.upto splitCallsSpec)

/-- 'lockkeeperlaw22.SplitWithin', WHERE WHAT IT READS IS OF BULK AT MOST 1048576: true; the input reads as it did. -/
def splitWithinUptoRow : OpenClaim := { program := "ytnkfibkmjmnhjaa", sum := "8db23310735415d9083f740d221a62f8deb5e3dc3f9afb7c2bbb8fc47f5b5e84", func := "lockkeeper/lockkeeperlaw22.SplitWithin", spec := "splitWithin", unfollowed := true, recurses := true, apart := false, narrowed := true }
def SplitWithinUptoSaid : Prop := splitWithinUptoRow.holds Try.pinned (OpenSpec.upto splitWithinSpec)

/-- 'lockkeeperlaw22.SplitChains', WHERE WHAT IT READS IS OF BULK AT MOST 1048576: true; the input reads as it did. -/
def splitChainsUptoRow : OpenClaim := { program := "ytnkfibkmjmnhjaa", sum := "8db23310735415d9083f740d221a62f8deb5e3dc3f9afb7c2bbb8fc47f5b5e84", func := "lockkeeper/lockkeeperlaw22.SplitChains", spec := "splitChains", unfollowed := true, recurses := true, apart := false, narrowed := true }
def SplitChainsUptoSaid : Prop := splitChainsUptoRow.holds Try.pinned (OpenSpec.upto splitChainsSpec)

end Rows
end Go.Proofs.Ytnkfibkmjmnhjaa
