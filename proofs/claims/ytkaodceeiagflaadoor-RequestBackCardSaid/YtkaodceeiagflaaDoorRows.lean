/-
  NARROWER THAN 'FOR EVERY INPUT', by the rows' own cells (each row's printed sentence says how): RequestPuts: laid · RequestGets: laid · RequestBack: laid.
  DERIVED. THE GIVEN ROWS OF THIS SEAT. 3 by the template 'for every input the law returns true; each argument reads behind the call as it read before'; 0 by the template 'total and deterministic' (their statements: YtkaodceeiagflaaDoorTotals.lean).
  GIVEN WITH THE SEED: the statements are not yours to turn. If you find one false, say at which input.
  Laid BY PROGRAM, IN A SANDBOX (cutbox-rows.mjs): the forced cells as the released guide's own fill.sh prints them over the translation 6d0bd16d2764eb6a… (all of the seat's roots in one cut). By AI agents, Wed Nov 11 2026. No macro, syntax, notation, axiom, sorry.
-/
import Derived.Test.YtkaodceeiagflaaDoorChecked
import GoSem.Claim
import GoSem.ClaimJoined
import GoSem.ClaimMapViews
import Derived.JoinedTies
import Derived.KernelRfl
namespace Go.Proofs.YtkaodceeiagflaaDoor
/- THE CELL 'sum', in the pinned program and in every row, IS THE sha256 OF THE DUMP (.gsa) THAT YtkaodceeiagflaaDoorProg.lean LOADS. Nothing in Lean hashes anything: it is a label: what it is worth is what the hold of that sum in a sandbox is worth. -/
noncomputable def Tryd.pinned : Pinned := { name := "ytkaodceeiagflaadoor", sum := "6d0bd16d2764eb6a79aefd2e48bdead6868e795dcfa707d3c1995db225e8fd32", checked := Tryd.checked }
namespace Rows
def none {H : Type} : Left H := { results := [], args := [] }

/- WHAT THE LISTED PACKAGE-LEVEL VARIABLES READ AS WHEN THE CALL BEGINS. Each datum BY PROGRAM (the guide's laid-datum.mjs) off the statement by which the dump's own 'gosem.cut.vars' lays the variable. In a bare row this is a premise. The card (YtkaodceeiagflaaDoorCards.lean) ties it to the program's text. -/
def laid_lockkeeper_request_widths {H : Type} : DataW H := .agg [.lit (.int .i64 6), .lit (.int .i64 1), .lit (.int .i64 1), .lit (.int .i64 1), .lit (.int .i64 6), .lit (.int .i64 2)]

/-- 'lockkeeperlaw24.RequestPuts': WHATEVER THE INPUT: true; the input reads as it did. -/
def requestPutsSpec : ChangeSpec := { name := "requestPuts", fn := fun _ => fun
  | [d1, d2, d3] => { results := [.lit (.bool true)], args := [d1, d2, d3] }
  | _ => none }
def requestPutsRow : OpenClaim := { program := "ytkaodceeiagflaadoor", sum := "6d0bd16d2764eb6a79aefd2e48bdead6868e795dcfa707d3c1995db225e8fd32", func := "lockkeeper/lockkeeperlaw24.RequestPuts", spec := "requestPuts", unfollowed := true, recurses := true, named := ["lockkeeper/request.widths"], apart := false, laid := [("lockkeeper/request.widths", laid_lockkeeper_request_widths)] }
def RequestPutsSaid : Prop := requestPutsRow.holds Tryd.pinned (OpenSpec.ofChange requestPutsSpec)

/-- ITS FALSE NEIGHBOUR: 'it returns false'. Refute it at one input. -/
def requestPutsWrong : ChangeSpec := { name := "requestPuts", fn := fun _ => fun
  | [d1, d2, d3] => { results := [.lit (.bool false)], args := [d1, d2, d3] }
  | _ => none }
def RequestPutsWrongFalsely : Prop := requestPutsRow.holds Tryd.pinned (OpenSpec.ofChange requestPutsWrong)

/-- 'lockkeeperlaw24.RequestGets': WHATEVER THE INPUT: true; the input reads as it did. -/
def requestGetsSpec : ChangeSpec := { name := "requestGets", fn := fun _ => fun
  | [d] => { results := [.lit (.bool true)], args := [d] }
  | _ => none }
def requestGetsRow : OpenClaim := { program := "ytkaodceeiagflaadoor", sum := "6d0bd16d2764eb6a79aefd2e48bdead6868e795dcfa707d3c1995db225e8fd32", func := "lockkeeper/lockkeeperlaw24.RequestGets", spec := "requestGets", unfollowed := true, recurses := true, named := ["lockkeeper/request.widths"], apart := false, laid := [("lockkeeper/request.widths", laid_lockkeeper_request_widths)] }
def RequestGetsSaid : Prop := requestGetsRow.holds Tryd.pinned (OpenSpec.ofChange requestGetsSpec)

/-- ITS FALSE NEIGHBOUR: 'it returns false'. Refute it at one input. -/
def requestGetsWrong : ChangeSpec := { name := "requestGets", fn := fun _ => fun
  | [d] => { results := [.lit (.bool false)], args := [d] }
  | _ => none }
def RequestGetsWrongFalsely : Prop := requestGetsRow.holds Tryd.pinned (OpenSpec.ofChange requestGetsWrong)

/-- 'lockkeeperlaw24.RequestBack': WHATEVER THE INPUT: true; the input reads as it did. -/
def requestBackSpec : ChangeSpec := { name := "requestBack", fn := fun _ => fun
  | [d1, d2] => { results := [.lit (.bool true)], args := [d1, d2] }
  | _ => none }
def requestBackRow : OpenClaim := { program := "ytkaodceeiagflaadoor", sum := "6d0bd16d2764eb6a79aefd2e48bdead6868e795dcfa707d3c1995db225e8fd32", func := "lockkeeper/lockkeeperlaw24.RequestBack", spec := "requestBack", unfollowed := true, recurses := true, named := ["lockkeeper/request.widths"], apart := false, laid := [("lockkeeper/request.widths", laid_lockkeeper_request_widths)] }
def RequestBackSaid : Prop := requestBackRow.holds Tryd.pinned (OpenSpec.ofChange requestBackSpec)

/-- ITS FALSE NEIGHBOUR: 'it returns false'. Refute it at one input. -/
def requestBackWrong : ChangeSpec := { name := "requestBack", fn := fun _ => fun
  | [d1, d2] => { results := [.lit (.bool false)], args := [d1, d2] }
  | _ => none }
def RequestBackWrongFalsely : Prop := requestBackRow.holds Tryd.pinned (OpenSpec.ofChange requestBackWrong)

/- THE SECOND FORM. 'bulk': how many values and letters a reading holds, each counted each time it is reached (what is shared counts as often as it is met; a slice's spare places count too). A statement '..UptoSaid' is the law's where the arguments, and the package variables that the reading takes, are together of bulk at most 1048576: NARROWER than '..Said'. Prove '..Said' where nothing that the law and all that it calls make is longer than what came in: it says more and counts as full. Else prove '..UptoSaid'. A law counts once. -/
mutual
def uptoBulk {H : Type} : DataW H → Nat
  | .lit (.string bytes) => bytes.length + 1
  | .lit _ => 1
  | .nil => 1
  | .ptr d => uptoBulk d + 1
  | .slice elems spare => uptoBulkAll elems + uptoBulkAll spare + 1
  | .agg parts => uptoBulkAll parts + 1
  | .iface _ d => uptoBulk d + 1
  | .map entries => uptoBulkEntries entries + 1
  | .held _ => 1
def uptoBulkAll {H : Type} : List (DataW H) → Nat
  | [] => 0
  | d :: r => uptoBulk d + uptoBulkAll r
def uptoBulkEntries {H : Type} : List (Lit × DataW H) → Nat
  | [] => 0
  | x :: r => uptoBulkEntry x + uptoBulkEntries r
def uptoBulkEntry {H : Type} : Lit × DataW H → Nat
  | (.string bytes, d) => bytes.length + uptoBulk d + 1
  | (_, d) => uptoBulk d + 1
 end
def uptoSmall : (H : Type) → List (DataW H) → Bool := fun _ ds => decide (uptoBulkAll ds ≤ 1048576)
def OpenSpec.upto (s : _root_.Go.ChangeSpec) : _root_.Go.OpenSpec := { _root_.Go.OpenSpec.ofChange s with cond := some uptoSmall }

/-- 'lockkeeperlaw24.RequestPuts', WHERE WHAT IT READS IS OF BULK AT MOST 1048576: true; the input reads as it did. -/
def requestPutsUptoRow : OpenClaim := { program := "ytkaodceeiagflaadoor", sum := "6d0bd16d2764eb6a79aefd2e48bdead6868e795dcfa707d3c1995db225e8fd32", func := "lockkeeper/lockkeeperlaw24.RequestPuts", spec := "requestPuts", unfollowed := true, recurses := true, named := ["lockkeeper/request.widths"], apart := false, laid := [("lockkeeper/request.widths", laid_lockkeeper_request_widths)], narrowed := true }
def RequestPutsUptoSaid : Prop := requestPutsUptoRow.holds Tryd.pinned (OpenSpec.upto requestPutsSpec)

/-- 'lockkeeperlaw24.RequestGets', WHERE WHAT IT READS IS OF BULK AT MOST 1048576: true; the input reads as it did. -/
def requestGetsUptoRow : OpenClaim := { program := "ytkaodceeiagflaadoor", sum := "6d0bd16d2764eb6a79aefd2e48bdead6868e795dcfa707d3c1995db225e8fd32", func := "lockkeeper/lockkeeperlaw24.RequestGets", spec := "requestGets", unfollowed := true, recurses := true, named := ["lockkeeper/request.widths"], apart := false, laid := [("lockkeeper/request.widths", laid_lockkeeper_request_widths)], narrowed := true }
def RequestGetsUptoSaid : Prop := requestGetsUptoRow.holds Tryd.pinned (OpenSpec.upto requestGetsSpec)

/-- 'lockkeeperlaw24.RequestBack', WHERE WHAT IT READS IS OF BULK AT MOST 1048576: true; the input reads as it did. -/
def requestBackUptoRow : OpenClaim := { program := "ytkaodceeiagflaadoor", sum := "6d0bd16d2764eb6a79aefd2e48bdead6868e795dcfa707d3c1995db225e8fd32", func := "lockkeeper/lockkeeperlaw24.RequestBack", spec := "requestBack", unfollowed := true, recurses := true, named := ["lockkeeper/request.widths"], apart := false, laid := [("lockkeeper/request.widths", laid_lockkeeper_request_widths)], narrowed := true }
def RequestBackUptoSaid : Prop := requestBackUptoRow.holds Tryd.pinned (OpenSpec.upto requestBackSpec)

end Rows
end Go.Proofs.YtkaodceeiagflaaDoor
