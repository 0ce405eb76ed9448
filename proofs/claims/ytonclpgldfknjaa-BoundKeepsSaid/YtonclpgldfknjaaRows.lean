/-
  No cell of these rows narrows 'for every input' (looked for: loops, veiled, ifaces, maps, wideKeys, modest, calm, conditions, laid).
  DERIVED. THE GIVEN ROWS OF THIS SEAT. 4 by the template 'for every input the law returns true; each argument reads behind the call as it read before'; 0 by the template 'total and deterministic' (their statements: YtonclpgldfknjaaTotals.lean).
  GIVEN WITH THE SEED: the statements are not yours to turn. If you find one false, say at which input.
  Laid BY PROGRAM, IN A SANDBOX (cutbox-rows.mjs): the forced cells as the released guide's own fill.sh prints them over the translation 26f21775c28ac374… (all of the seat's roots in one cut). By AI agents, Wed Nov 11 2026. No macro, syntax, notation, axiom, sorry.
-/
import Derived.Test.YtonclpgldfknjaaChecked
import GoSem.Claim
import GoSem.ClaimJoined
import GoSem.ClaimMapViews
import Derived.JoinedTies
import Derived.KernelRfl
namespace Go.Proofs.Ytonclpgldfknjaa
/- THE CELL 'sum', in the pinned program and in every row, IS THE sha256 OF THE DUMP (.gsa) THAT YtonclpgldfknjaaProg.lean LOADS. Nothing in Lean hashes anything: it is a label: what it is worth is what the hold of that sum in a sandbox is worth. -/
noncomputable def Try.pinned : Pinned := { name := "ytonclpgldfknjaa", sum := "26f21775c28ac37454ea52d06406f96ab36d45878a5a2537768a6be968d9e14d", checked := Try.checked }
namespace Rows
def none {H : Type} : Left H := { results := [], args := [] }

/-- 'lockkeeperlaw01.BoundKeeps': WHATEVER THE INPUT: true; the input reads as it did. -/
def boundKeepsSpec : ChangeSpec := { name := "boundKeeps", fn := fun _ => fun
  | [d1, d2] => { results := [.lit (.bool true)], args := [d1, d2] }
  | _ => none }
def boundKeepsRow : OpenClaim := { program := "ytonclpgldfknjaa", sum := "26f21775c28ac37454ea52d06406f96ab36d45878a5a2537768a6be968d9e14d", func := "lockkeeper/lockkeeperlaw01.BoundKeeps", spec := "boundKeeps", unfollowed := true, recurses := true, apart := false }
def BoundKeepsSaid : Prop := boundKeepsRow.holds Try.pinned (OpenSpec.ofChange boundKeepsSpec)

/-- ITS FALSE NEIGHBOUR: 'it returns false'. Refute it at one input. -/
def boundKeepsWrong : ChangeSpec := { name := "boundKeeps", fn := fun _ => fun
  | [d1, d2] => { results := [.lit (.bool false)], args := [d1, d2] }
  | _ => none }
def BoundKeepsWrongFalsely : Prop := boundKeepsRow.holds Try.pinned (OpenSpec.ofChange boundKeepsWrong)

/-- 'lockkeeperlaw01.BoundSums': WHATEVER THE INPUT: true; the input reads as it did. -/
def boundSumsSpec : ChangeSpec := { name := "boundSums", fn := fun _ => fun
  | [d1, d2] => { results := [.lit (.bool true)], args := [d1, d2] }
  | _ => none }
def boundSumsRow : OpenClaim := { program := "ytonclpgldfknjaa", sum := "26f21775c28ac37454ea52d06406f96ab36d45878a5a2537768a6be968d9e14d", func := "lockkeeper/lockkeeperlaw01.BoundSums", spec := "boundSums", unfollowed := true, recurses := true, apart := false }
def BoundSumsSaid : Prop := boundSumsRow.holds Try.pinned (OpenSpec.ofChange boundSumsSpec)

/-- ITS FALSE NEIGHBOUR: 'it returns false'. Refute it at one input. -/
def boundSumsWrong : ChangeSpec := { name := "boundSums", fn := fun _ => fun
  | [d1, d2] => { results := [.lit (.bool false)], args := [d1, d2] }
  | _ => none }
def BoundSumsWrongFalsely : Prop := boundSumsRow.holds Try.pinned (OpenSpec.ofChange boundSumsWrong)

/-- 'lockkeeperlaw01.BoundShares': WHATEVER THE INPUT: true; the input reads as it did. -/
def boundSharesSpec : ChangeSpec := { name := "boundShares", fn := fun _ => fun
  | [d1, d2, d3] => { results := [.lit (.bool true)], args := [d1, d2, d3] }
  | _ => none }
def boundSharesRow : OpenClaim := { program := "ytonclpgldfknjaa", sum := "26f21775c28ac37454ea52d06406f96ab36d45878a5a2537768a6be968d9e14d", func := "lockkeeper/lockkeeperlaw01.BoundShares", spec := "boundShares", unfollowed := true, recurses := true, apart := false }
def BoundSharesSaid : Prop := boundSharesRow.holds Try.pinned (OpenSpec.ofChange boundSharesSpec)

/-- ITS FALSE NEIGHBOUR: 'it returns false'. Refute it at one input. -/
def boundSharesWrong : ChangeSpec := { name := "boundShares", fn := fun _ => fun
  | [d1, d2, d3] => { results := [.lit (.bool false)], args := [d1, d2, d3] }
  | _ => none }
def BoundSharesWrongFalsely : Prop := boundSharesRow.holds Try.pinned (OpenSpec.ofChange boundSharesWrong)

/-- 'lockkeeperlaw01.BoundTicks': WHATEVER THE INPUT: true; the input reads as it did. -/
def boundTicksSpec : ChangeSpec := { name := "boundTicks", fn := fun _ => fun
  | [d1, d2] => { results := [.lit (.bool true)], args := [d1, d2] }
  | _ => none }
def boundTicksRow : OpenClaim := { program := "ytonclpgldfknjaa", sum := "26f21775c28ac37454ea52d06406f96ab36d45878a5a2537768a6be968d9e14d", func := "lockkeeper/lockkeeperlaw01.BoundTicks", spec := "boundTicks", unfollowed := true, recurses := true, apart := false }
def BoundTicksSaid : Prop := boundTicksRow.holds Try.pinned (OpenSpec.ofChange boundTicksSpec)

/-- ITS FALSE NEIGHBOUR: 'it returns false'. Refute it at one input. -/
def boundTicksWrong : ChangeSpec := { name := "boundTicks", fn := fun _ => fun
  | [d1, d2] => { results := [.lit (.bool false)], args := [d1, d2] }
  | _ => none }
def BoundTicksWrongFalsely : Prop := boundTicksRow.holds Try.pinned (OpenSpec.ofChange boundTicksWrong)

/- THE SECOND FORM. 'bulk': how many values and letters a reading holds, each counted each time it is reached (what is shared counts as often as it is met; a slice's spare places count too). A statement '..UptoSaid' is the law's where the arguments, and the package variables that the reading takes, are together of bulk at most 1048576: NARROWER than '..Said'. Prove '..Said' where nothing that the law and all that it calls make is longer than what came in: it says more and counts as full. Else prove '..UptoSaid'. A law counts once. -/
mutual
def uptoBulk {H : Type} : DataW H → Nat
  | .lit (.string bytes) => bytes.length + 1
  | .lit _ => 1
  | .nil => 1
  | .ptr d => uptoBulk d + 1
  | .slice elems spare => uptoBulkAll elems + uptoBulkAll spare + 1
  | .agg parts => uptoBulkAll parts + 1
  | .iface _ d => uptoBulk d + 1
  | .map entries => uptoBulkEntries entries + 1
  | .held _ => 1
def uptoBulkAll {H : Type} : List (DataW H) → Nat
  | [] => 0
  | d :: r => uptoBulk d + uptoBulkAll r
def uptoBulkEntries {H : Type} : List (Lit × DataW H) → Nat
  | [] => 0
  | x :: r => uptoBulkEntry x + uptoBulkEntries r
def uptoBulkEntry {H : Type} : Lit × DataW H → Nat
  | (.string bytes, d) => bytes.length + uptoBulk d + 1
  | (_, d) => uptoBulk d + 1
 end
def uptoSmall : (H : Type) → List (DataW H) → Bool := fun _ ds => decide (uptoBulkAll ds ≤ 1048576)
def OpenSpec.upto (s : _root_.Go.ChangeSpec) : _root_.Go.OpenSpec := { _root_.Go.OpenSpec.ofChange s with cond := some uptoSmall }

/-- 'lockkeeperlaw01.BoundKeeps', WHERE WHAT IT READS IS OF BULK AT MOST 1048576: true; the input reads as it did. -/
def boundKeepsUptoRow : OpenClaim := { program := "ytonclpgldfknjaa", sum := "26f21775c28ac37454ea52d06406f96ab36d45878a5a2537768a6be968d9e14d", func := "lockkeeper/lockkeeperlaw01.BoundKeeps", spec := "boundKeeps", unfollowed := true, recurses := true, apart := false, narrowed := true }
def BoundKeepsUptoSaid : Prop := boundKeepsUptoRow.holds Try.pinned (OpenSpec.upto boundKeepsSpec)

/-- 'lockkeeperlaw01.BoundSums', WHERE WHAT IT READS IS OF BULK AT MOST 1048576: true; the input reads as it did. -/
def boundSumsUptoRow : OpenClaim := { program := "ytonclpgldfknjaa", sum := "26f21775c28ac37454ea52d06406f96ab36d45878a5a2537768a6be968d9e14d", func := "lockkeeper/lockkeeperlaw01.BoundSums", spec := "boundSums", unfollowed := true, recurses := true, apart := false, narrowed := true }
def BoundSumsUptoSaid : Prop := boundSumsUptoRow.holds Try.pinned (OpenSpec.upto boundSumsSpec)

/-- 'lockkeeperlaw01.BoundShares', WHERE WHAT IT READS IS OF BULK AT MOST 1048576: true; the input reads as it did. -/
def boundSharesUptoRow : OpenClaim := { program := "ytonclpgldfknjaa", sum := "26f21775c28ac37454ea52d06406f96ab36d45878a5a2537768a6be968d9e14d", func := "lockkeeper/lockkeeperlaw01.BoundShares", spec := "boundShares", unfollowed := true, recurses := true, apart := false, narrowed := true }
def BoundSharesUptoSaid : Prop := boundSharesUptoRow.holds Try.pinned (OpenSpec.upto boundSharesSpec)

/-- 'lockkeeperlaw01.BoundTicks', WHERE WHAT IT READS IS OF BULK AT MOST 1048576: true; the input reads as it did. -/
def boundTicksUptoRow : OpenClaim := { program := "ytonclpgldfknjaa", sum := "26f21775c28ac37454ea52d06406f96ab36d45878a5a2537768a6be968d9e14d", func := "lockkeeper/lockkeeperlaw01.BoundTicks", spec := "boundTicks", unfollowed := true, recurses := true, apart := false, narrowed := true }
def BoundTicksUptoSaid : Prop := boundTicksUptoRow.holds Try.pinned (OpenSpec.upto boundTicksSpec)

end Rows
end Go.Proofs.Ytonclpgldfknjaa
