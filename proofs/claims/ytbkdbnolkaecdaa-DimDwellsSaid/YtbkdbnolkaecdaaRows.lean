/-
  No cell of these rows narrows 'for every input' (looked for: loops, veiled, ifaces, maps, wideKeys, modest, calm, conditions, laid).
  DERIVED. THE GIVEN ROWS OF THIS SEAT. 3 by the template 'for every input the law returns true; each argument reads behind the call as it read before'; 0 by the template 'total and deterministic' (their statements: YtbkdbnolkaecdaaTotals.lean).
  GIVEN WITH THE SEED: the statements are not yours to turn. If you find one false, say at which input.
  Laid BY PROGRAM, IN A SANDBOX (cutbox-rows.mjs): the forced cells as the released guide's own fill.sh prints them over the translation df3d7d745ae1e0bb… (all of the seat's roots in one cut). By AI agents, Wed Nov 11 2026. No macro, syntax, notation, axiom, sorry.
-/
import Derived.Test.YtbkdbnolkaecdaaChecked
import GoSem.Claim
import GoSem.ClaimJoined
import GoSem.ClaimMapViews
import Derived.JoinedTies
import Derived.KernelRfl
namespace Go.Proofs.Ytbkdbnolkaecdaa
/- THE CELL 'sum', in the pinned program and in every row, IS THE sha256 OF THE DUMP (.gsa) THAT YtbkdbnolkaecdaaProg.lean LOADS. Nothing in Lean hashes anything: it is a label: what it is worth is what the hold of that sum in a sandbox is worth. -/
noncomputable def Try.pinned : Pinned := { name := "ytbkdbnolkaecdaa", sum := "df3d7d745ae1e0bbc8428cc9d13085a0887010711e43a12936884243f32e2b95", checked := Try.checked }
namespace Rows
def none {H : Type} : Left H := { results := [], args := [] }

/-- 'lockkeeperlaw17.DimSteps': WHATEVER THE INPUT: true; the input reads as it did. -/
def dimStepsSpec : ChangeSpec := { name := "dimSteps", fn := fun _ => fun
  | [d1, d2, d3] => { results := [.lit (.bool true)], args := [d1, d2, d3] }
  | _ => none }
def dimStepsRow : OpenClaim := { program := "ytbkdbnolkaecdaa", sum := "df3d7d745ae1e0bbc8428cc9d13085a0887010711e43a12936884243f32e2b95", func := "lockkeeper/lockkeeperlaw17.DimSteps", spec := "dimSteps", unfollowed := true, recurses := true, apart := false }
def DimStepsSaid : Prop := dimStepsRow.holds Try.pinned (OpenSpec.ofChange dimStepsSpec)

/-- ITS FALSE NEIGHBOUR: 'it returns false'. Refute it at one input. -/
def dimStepsWrong : ChangeSpec := { name := "dimSteps", fn := fun _ => fun
  | [d1, d2, d3] => { results := [.lit (.bool false)], args := [d1, d2, d3] }
  | _ => none }
def DimStepsWrongFalsely : Prop := dimStepsRow.holds Try.pinned (OpenSpec.ofChange dimStepsWrong)

/-- 'lockkeeperlaw17.DimDwells': WHATEVER THE INPUT: true; the input reads as it did. -/
def dimDwellsSpec : ChangeSpec := { name := "dimDwells", fn := fun _ => fun
  | [d1, d2, d3] => { results := [.lit (.bool true)], args := [d1, d2, d3] }
  | _ => none }
def dimDwellsRow : OpenClaim := { program := "ytbkdbnolkaecdaa", sum := "df3d7d745ae1e0bbc8428cc9d13085a0887010711e43a12936884243f32e2b95", func := "lockkeeper/lockkeeperlaw17.DimDwells", spec := "dimDwells", unfollowed := true, recurses := true, apart := false }
def DimDwellsSaid : Prop := dimDwellsRow.holds Try.pinned (OpenSpec.ofChange dimDwellsSpec)

/-- ITS FALSE NEIGHBOUR: 'it returns false'. Refute it at one input. -/
def dimDwellsWrong : ChangeSpec := { name := "dimDwells", fn := fun _ => fun
  | [d1, d2, d3] => { results := [.lit (.bool false)], args := [d1, d2, d3] }
  | _ => none }
def DimDwellsWrongFalsely : Prop := dimDwellsRow.holds Try.pinned (OpenSpec.ofChange dimDwellsWrong)

/-- 'lockkeeperlaw17.DimNobody': WHATEVER THE INPUT: true; the input reads as it did. -/
def dimNobodySpec : ChangeSpec := { name := "dimNobody", fn := fun _ => fun
  | [d1, d2, d3] => { results := [.lit (.bool true)], args := [d1, d2, d3] }
  | _ => none }
def dimNobodyRow : OpenClaim := { program := "ytbkdbnolkaecdaa", sum := "df3d7d745ae1e0bbc8428cc9d13085a0887010711e43a12936884243f32e2b95", func := "lockkeeper/lockkeeperlaw17.DimNobody", spec := "dimNobody", unfollowed := true, recurses := true, apart := false }
def DimNobodySaid : Prop := dimNobodyRow.holds Try.pinned (OpenSpec.ofChange dimNobodySpec)

/-- ITS FALSE NEIGHBOUR: 'it returns false'. Refute it at one input. -/
def dimNobodyWrong : ChangeSpec := { name := "dimNobody", fn := fun _ => fun
  | [d1, d2, d3] => { results := [.lit (.bool false)], args := [d1, d2, d3] }
  | _ => none }
def DimNobodyWrongFalsely : Prop := dimNobodyRow.holds Try.pinned (OpenSpec.ofChange dimNobodyWrong)

/- THE SECOND FORM. 'bulk': how many values and letters a reading holds, each counted each time it is reached (what is shared counts as often as it is met; a slice's spare places count too). A statement '..UptoSaid' is the law's where the arguments, and the package variables that the reading takes, are together of bulk at most 1048576: NARROWER than '..Said'. Prove '..Said' where nothing that the law and all that it calls make is longer than what came in: it says more and counts as full. Else prove '..UptoSaid'. A law counts once. -/
mutual
def uptoBulk {H : Type} : DataW H → Nat
  | .lit (.string bytes) => bytes.length + 1
  | .lit _ => 1
  | .nil => 1
  | .ptr d => uptoBulk d + 1
  | .slice elems spare => uptoBulkAll elems + uptoBulkAll spare + 1
  | .agg parts => uptoBulkAll parts + 1
  | .iface _ d => uptoBulk d + 1
  | .map entries => uptoBulkEntries entries + 1
  | .held _ => 1
def uptoBulkAll {H : Type} : List (DataW H) → Nat
  | [] => 0
  | d :: r => uptoBulk d + uptoBulkAll r
def uptoBulkEntries {H : Type} : List (Lit × DataW H) → Nat
  | [] => 0
  | x :: r => uptoBulkEntry x + uptoBulkEntries r
def uptoBulkEntry {H : Type} : Lit × DataW H → Nat
  | (.string bytes, d) => bytes.length + uptoBulk d + 1
  | (_, d) => uptoBulk d + 1
 end
def uptoSmall : (H : Type) → List (DataW H) → Bool := fun _ ds => decide (uptoBulkAll ds ≤ 1048576)
def OpenSpec.upto (s : _root_.Go.ChangeSpec) : _root_.Go.OpenSpec := { _root_.Go.OpenSpec.ofChange s with cond := some uptoSmall }

/-- 'lockkeeperlaw17.DimSteps', WHERE WHAT IT READS IS OF BULK AT MOST 1048576: true; the input reads as it did. -/
def dimStepsUptoRow : OpenClaim := { program := "ytbkdbnolkaecdaa", sum := "df3d7d745ae1e0bbc8428cc9d13085a0887010711e43a12936884243f32e2b95", func := "lockkeeper/lockkeeperlaw17.DimSteps", spec := "dimSteps", unfollowed := true, recurses := true, apart := false, narrowed := true }
def DimStepsUptoSaid : Prop := dimStepsUptoRow.holds Try.pinned (OpenSpec.upto dimStepsSpec)

/-- 'lockkeeperlaw17.DimDwells', WHERE WHAT IT READS IS OF BULK AT MOST 1048576: true; the input reads as it did. -/
def dimDwellsUptoRow : OpenClaim := { program := "ytbkdbnolkaecdaa", sum := "df3d7d745ae1e0bbc8428cc9d13085a0887010711e43a12936884243f32e2b95", func := "lockkeeper/lockkeeperlaw17.DimDwells", spec := "dimDwells", unfollowed := true, recurses := true, apart := false, narrowed := true }
def DimDwellsUptoSaid : Prop := dimDwellsUptoRow.holds Try.pinned (OpenSpec.upto dimDwellsSpec)

/-- 'lockkeeperlaw17.DimNobody', WHERE WHAT IT READS IS OF BULK AT MOST 1048576: true; the input reads as it did. -/
def dimNobodyUptoRow : OpenClaim := { program := "ytbkdbnolkaecdaa", sum := "df3d7d745ae1e0bbc8428cc9d13085a0887010711e43a12936884243f32e2b95", func := "lockkeeper/lockkeeperlaw17.DimNobody", spec := "dimNobody", unfollowed := true, recurses := true, apart := false, narrowed := true }
def DimNobodyUptoSaid : Prop := dimNobodyUptoRow.holds Try.pinned (OpenSpec.upto dimNobodySpec)

end Rows
end Go.Proofs.Ytbkdbnolkaecdaa
