/-
  NARROWER THAN 'FOR EVERY INPUT', by the rows' own cells (each row's printed sentence says how): EventVersion: laid.
  DERIVED. THE GIVEN ROWS OF THIS SEAT. 1 by the template 'for every input the law returns true; each argument reads behind the call as it read before'; 0 by the template 'total and deterministic' (their statements: YtnlhajhbmkhnjabDoorTotals.lean).
  GIVEN WITH THE SEED: the statements are not yours to turn. If you find one false, say at which input.
  Laid BY PROGRAM, IN A SANDBOX (cutbox-rows.mjs): the forced cells as the released guide's own fill.sh prints them over the translation f90d80852213e9c9… (all of the seat's roots in one cut). By AI agents, Wed Nov 11 2026. No macro, syntax, notation, axiom, sorry.
-/
import Derived.Test.YtnlhajhbmkhnjabDoorChecked
import GoSem.Claim
import GoSem.ClaimJoined
import GoSem.ClaimMapViews
import Derived.JoinedTies
import Derived.KernelRfl
namespace Go.Proofs.YtnlhajhbmkhnjabDoor
/- THE CELL 'sum', in the pinned program and in every row, IS THE sha256 OF THE DUMP (.gsa) THAT YtnlhajhbmkhnjabDoorProg.lean LOADS. Nothing in Lean hashes anything: it is a label: what it is worth is what the hold of that sum in a sandbox is worth. -/
noncomputable def Tryd.pinned : Pinned := { name := "ytnlhajhbmkhnjabdoor", sum := "f90d80852213e9c97e9a40e9cfb3c26bdcd89b8c95b048ecf46c89dcdee7e0e5", checked := Tryd.checked }
namespace Rows
def none {H : Type} : Left H := { results := [], args := [] }

/- WHAT THE LISTED PACKAGE-LEVEL VARIABLES READ AS WHEN THE CALL BEGINS. Each datum BY PROGRAM (the guide's laid-datum.mjs) off the statement by which the dump's own 'gosem.cut.vars' lays the variable. In a bare row this is a premise. The card (YtnlhajhbmkhnjabDoorCards.lean) ties it to the program's text. -/
def laid_encore_event_fields {H : Type} : DataW H := .agg [.lit (.int .i64 0), .lit (.int .i64 31), .lit (.int .i64 27), .lit (.int .i64 7), .lit (.int .i64 7), .lit (.int .i64 19), .lit (.int .i64 23), .lit (.int .i64 23), .lit (.int .i64 3), .lit (.int .i64 11), .lit (.int .i64 25), .lit (.int .i64 31), .lit (.int .i64 7), .lit (.int .i64 7), .lit (.int .i64 1), .lit (.int .i64 21)]

/-- 'encorelaw08.EventVersion': WHATEVER THE INPUT: true; the input reads as it did. -/
def eventVersionSpec : ChangeSpec := { name := "eventVersion", fn := fun _ => fun
  | [d1, d2] => { results := [.lit (.bool true)], args := [d1, d2] }
  | _ => none }
def eventVersionRow : OpenClaim := { program := "ytnlhajhbmkhnjabdoor", sum := "f90d80852213e9c97e9a40e9cfb3c26bdcd89b8c95b048ecf46c89dcdee7e0e5", func := "encore/encorelaw08.EventVersion", spec := "eventVersion", inPlace := ["internal/bytealg.MakeNoZero"], unfollowed := true, recurses := true, named := ["encore/event.fields"], apart := false, laid := [("encore/event.fields", laid_encore_event_fields)] }
def EventVersionSaid : Prop := eventVersionRow.holds Tryd.pinned (OpenSpec.ofChange eventVersionSpec)

/-- ITS FALSE NEIGHBOUR: 'it returns false'. Refute it at one input. -/
def eventVersionWrong : ChangeSpec := { name := "eventVersion", fn := fun _ => fun
  | [d1, d2] => { results := [.lit (.bool false)], args := [d1, d2] }
  | _ => none }
def EventVersionWrongFalsely : Prop := eventVersionRow.holds Tryd.pinned (OpenSpec.ofChange eventVersionWrong)

/- THE SECOND FORM. 'bulk': how many values and letters a reading holds, each counted each time it is reached (what is shared counts as often as it is met; a slice's spare places count too). A statement '..UptoSaid' is the law's where the arguments, and the package variables that the reading takes, are together of bulk at most 1048576: NARROWER than '..Said'. Prove '..Said' where nothing that the law and all that it calls make is longer than what came in: it says more and counts as full. Else prove '..UptoSaid'. A law counts once. -/
mutual
def uptoBulk {H : Type} : DataW H → Nat
  | .lit (.string bytes) => bytes.length + 1
  | .lit _ => 1
  | .nil => 1
  | .ptr d => uptoBulk d + 1
  | .slice elems spare => uptoBulkAll elems + uptoBulkAll spare + 1
  | .agg parts => uptoBulkAll parts + 1
  | .iface _ d => uptoBulk d + 1
  | .map entries => uptoBulkEntries entries + 1
  | .held _ => 1
def uptoBulkAll {H : Type} : List (DataW H) → Nat
  | [] => 0
  | d :: r => uptoBulk d + uptoBulkAll r
def uptoBulkEntries {H : Type} : List (Lit × DataW H) → Nat
  | [] => 0
  | x :: r => uptoBulkEntry x + uptoBulkEntries r
def uptoBulkEntry {H : Type} : Lit × DataW H → Nat
  | (.string bytes, d) => bytes.length + uptoBulk d + 1
  | (_, d) => uptoBulk d + 1
 end
def uptoSmall : (H : Type) → List (DataW H) → Bool := fun _ ds => decide (uptoBulkAll ds ≤ 1048576)
def OpenSpec.upto (s : _root_.Go.ChangeSpec) : _root_.Go.OpenSpec := { _root_.Go.OpenSpec.ofChange s with cond := some uptoSmall }

/-- 'encorelaw08.EventVersion', WHERE WHAT IT READS IS OF BULK AT MOST 1048576: true; the input reads as it did. -/
def eventVersionUptoRow : OpenClaim := { program := "ytnlhajhbmkhnjabdoor", sum := "f90d80852213e9c97e9a40e9cfb3c26bdcd89b8c95b048ecf46c89dcdee7e0e5", func := "encore/encorelaw08.EventVersion", spec := "eventVersion", inPlace := ["internal/bytealg.MakeNoZero"], unfollowed := true, recurses := true, named := ["encore/event.fields"], apart := false, laid := [("encore/event.fields", laid_encore_event_fields)], narrowed := true }
def EventVersionUptoSaid : Prop := eventVersionUptoRow.holds Tryd.pinned (OpenSpec.upto eventVersionSpec)

end Rows
end Go.Proofs.YtnlhajhbmkhnjabDoor
