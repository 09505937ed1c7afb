/-
  NARROWER THAN 'FOR EVERY INPUT', by the rows' own cells (each row's printed sentence says how): CrcOf: laid · CrcMore: laid · CrcJoin: laid · CrcRows: laid · CrcThree: laid · CrcTurned: laid · CrcOver: laid · CrcKnown: laid.
  DERIVED. THE GIVEN ROWS OF THIS SEAT. 8 by the template 'for every input the law returns true; each argument reads behind the call as it read before'; 0 by the template 'total and deterministic' (their statements: YtjogcmlmegjlbaaDoorTotals.lean).
  GIVEN WITH THE SEED: the statements are not yours to turn. If you find one false, say at which input.
  Laid BY PROGRAM, IN A SANDBOX (cutbox-rows.mjs): the forced cells as the released guide's own fill.sh prints them over the translation de7d14ea3f98d622… (all of the seat's roots in one cut). By AI agents, Wed Nov 11 2026. No macro, syntax, notation, axiom, sorry.
-/
import Derived.Test.YtjogcmlmegjlbaaDoorChecked
import GoSem.Claim
import GoSem.ClaimJoined
import GoSem.ClaimMapViews
import Derived.JoinedTies
import Derived.KernelRfl
namespace Go.Proofs.YtjogcmlmegjlbaaDoor
/- THE CELL 'sum', in the pinned program and in every row, IS THE sha256 OF THE DUMP (.gsa) THAT YtjogcmlmegjlbaaDoorProg.lean LOADS. Nothing in Lean hashes anything: it is a label: what it is worth is what the hold of that sum in a sandbox is worth. -/
noncomputable def Tryd.pinned : Pinned := { name := "ytjogcmlmegjlbaadoor", sum := "de7d14ea3f98d622b1c417cccfee8113492a814538deaa6cfd4228ed42844e7d", checked := Tryd.checked }
namespace Rows
def none {H : Type} : Left H := { results := [], args := [] }

/- WHAT THE LISTED PACKAGE-LEVEL VARIABLES READ AS WHEN THE CALL BEGINS. Each datum BY PROGRAM (the guide's laid-datum.mjs) off the statement by which the dump's own 'gosem.cut.vars' lays the variable. In a bare row this is a premise. The card (YtjogcmlmegjlbaaDoorCards.lean) ties it to the program's text. -/
def laid_encore_crc_fourBits {H : Type} : DataW H := .agg [.lit (.int .u32 0), .lit (.int .u32 274646895), .lit (.int .u32 549293790), .lit (.int .u32 820201905), .lit (.int .u32 1098587580), .lit (.int .u32 1361435347), .lit (.int .u32 1640403810), .lit (.int .u32 1905808397), .lit (.int .u32 2197175160), .lit (.int .u32 2460548119), .lit (.int .u32 2722870694), .lit (.int .u32 2987750089), .lit (.int .u32 3280807620), .lit (.int .u32 3553878443), .lit (.int .u32 3811616794), .lit (.int .u32 4084100981)]

/-- 'encorelaw01.CrcOf': WHATEVER THE INPUT: true; the input reads as it did. -/
def crcOfSpec : ChangeSpec := { name := "crcOf", fn := fun _ => fun
  | [d] => { results := [.lit (.bool true)], args := [d] }
  | _ => none }
def crcOfRow : OpenClaim := { program := "ytjogcmlmegjlbaadoor", sum := "de7d14ea3f98d622b1c417cccfee8113492a814538deaa6cfd4228ed42844e7d", func := "encore/encorelaw01.CrcOf", spec := "crcOf", named := ["encore/crc.fourBits"], apart := false, laid := [("encore/crc.fourBits", laid_encore_crc_fourBits)] }
def CrcOfSaid : Prop := crcOfRow.holds Tryd.pinned (OpenSpec.ofChange crcOfSpec)

/-- ITS FALSE NEIGHBOUR: 'it returns false'. Refute it at one input. -/
def crcOfWrong : ChangeSpec := { name := "crcOf", fn := fun _ => fun
  | [d] => { results := [.lit (.bool false)], args := [d] }
  | _ => none }
def CrcOfWrongFalsely : Prop := crcOfRow.holds Tryd.pinned (OpenSpec.ofChange crcOfWrong)

/-- 'encorelaw01.CrcMore': WHATEVER THE INPUT: true; the input reads as it did. -/
def crcMoreSpec : ChangeSpec := { name := "crcMore", fn := fun _ => fun
  | [d1, d2] => { results := [.lit (.bool true)], args := [d1, d2] }
  | _ => none }
def crcMoreRow : OpenClaim := { program := "ytjogcmlmegjlbaadoor", sum := "de7d14ea3f98d622b1c417cccfee8113492a814538deaa6cfd4228ed42844e7d", func := "encore/encorelaw01.CrcMore", spec := "crcMore", named := ["encore/crc.fourBits"], apart := false, laid := [("encore/crc.fourBits", laid_encore_crc_fourBits)] }
def CrcMoreSaid : Prop := crcMoreRow.holds Tryd.pinned (OpenSpec.ofChange crcMoreSpec)

/-- ITS FALSE NEIGHBOUR: 'it returns false'. Refute it at one input. -/
def crcMoreWrong : ChangeSpec := { name := "crcMore", fn := fun _ => fun
  | [d1, d2] => { results := [.lit (.bool false)], args := [d1, d2] }
  | _ => none }
def CrcMoreWrongFalsely : Prop := crcMoreRow.holds Tryd.pinned (OpenSpec.ofChange crcMoreWrong)

/-- 'encorelaw01.CrcJoin': WHATEVER THE INPUT: true; the input reads as it did. -/
def crcJoinSpec : ChangeSpec := { name := "crcJoin", fn := fun _ => fun
  | [d1, d2, d3] => { results := [.lit (.bool true)], args := [d1, d2, d3] }
  | _ => none }
def crcJoinRow : OpenClaim := { program := "ytjogcmlmegjlbaadoor", sum := "de7d14ea3f98d622b1c417cccfee8113492a814538deaa6cfd4228ed42844e7d", func := "encore/encorelaw01.CrcJoin", spec := "crcJoin", named := ["encore/crc.fourBits"], apart := false, laid := [("encore/crc.fourBits", laid_encore_crc_fourBits)] }
def CrcJoinSaid : Prop := crcJoinRow.holds Tryd.pinned (OpenSpec.ofChange crcJoinSpec)

/-- ITS FALSE NEIGHBOUR: 'it returns false'. Refute it at one input. -/
def crcJoinWrong : ChangeSpec := { name := "crcJoin", fn := fun _ => fun
  | [d1, d2, d3] => { results := [.lit (.bool false)], args := [d1, d2, d3] }
  | _ => none }
def CrcJoinWrongFalsely : Prop := crcJoinRow.holds Tryd.pinned (OpenSpec.ofChange crcJoinWrong)

/-- 'encorelaw01.CrcRows': WHATEVER THE INPUT: true; the input reads as it did. -/
def crcRowsSpec : ChangeSpec := { name := "crcRows", fn := fun _ => fun
  | [d1, d2] => { results := [.lit (.bool true)], args := [d1, d2] }
  | _ => none }
def crcRowsRow : OpenClaim := { program := "ytjogcmlmegjlbaadoor", sum := "de7d14ea3f98d622b1c417cccfee8113492a814538deaa6cfd4228ed42844e7d", func := "encore/encorelaw01.CrcRows", spec := "crcRows", named := ["encore/crc.fourBits"], apart := false, laid := [("encore/crc.fourBits", laid_encore_crc_fourBits)] }
def CrcRowsSaid : Prop := crcRowsRow.holds Tryd.pinned (OpenSpec.ofChange crcRowsSpec)

/-- ITS FALSE NEIGHBOUR: 'it returns false'. Refute it at one input. -/
def crcRowsWrong : ChangeSpec := { name := "crcRows", fn := fun _ => fun
  | [d1, d2] => { results := [.lit (.bool false)], args := [d1, d2] }
  | _ => none }
def CrcRowsWrongFalsely : Prop := crcRowsRow.holds Tryd.pinned (OpenSpec.ofChange crcRowsWrong)

/-- 'encorelaw01.CrcThree': WHATEVER THE INPUT: true; the input reads as it did. -/
def crcThreeSpec : ChangeSpec := { name := "crcThree", fn := fun _ => fun
  | [d1, d2, d3] => { results := [.lit (.bool true)], args := [d1, d2, d3] }
  | _ => none }
def crcThreeRow : OpenClaim := { program := "ytjogcmlmegjlbaadoor", sum := "de7d14ea3f98d622b1c417cccfee8113492a814538deaa6cfd4228ed42844e7d", func := "encore/encorelaw01.CrcThree", spec := "crcThree", named := ["encore/crc.fourBits"], apart := false, laid := [("encore/crc.fourBits", laid_encore_crc_fourBits)] }
def CrcThreeSaid : Prop := crcThreeRow.holds Tryd.pinned (OpenSpec.ofChange crcThreeSpec)

/-- ITS FALSE NEIGHBOUR: 'it returns false'. Refute it at one input. -/
def crcThreeWrong : ChangeSpec := { name := "crcThree", fn := fun _ => fun
  | [d1, d2, d3] => { results := [.lit (.bool false)], args := [d1, d2, d3] }
  | _ => none }
def CrcThreeWrongFalsely : Prop := crcThreeRow.holds Tryd.pinned (OpenSpec.ofChange crcThreeWrong)

/-- 'encorelaw01.CrcTurned': WHATEVER THE INPUT: true; the input reads as it did. -/
def crcTurnedSpec : ChangeSpec := { name := "crcTurned", fn := fun _ => fun
  | [d1, d2, d3] => { results := [.lit (.bool true)], args := [d1, d2, d3] }
  | _ => none }
def crcTurnedRow : OpenClaim := { program := "ytjogcmlmegjlbaadoor", sum := "de7d14ea3f98d622b1c417cccfee8113492a814538deaa6cfd4228ed42844e7d", func := "encore/encorelaw01.CrcTurned", spec := "crcTurned", named := ["encore/crc.fourBits"], apart := false, laid := [("encore/crc.fourBits", laid_encore_crc_fourBits)] }
def CrcTurnedSaid : Prop := crcTurnedRow.holds Tryd.pinned (OpenSpec.ofChange crcTurnedSpec)

/-- ITS FALSE NEIGHBOUR: 'it returns false'. Refute it at one input. -/
def crcTurnedWrong : ChangeSpec := { name := "crcTurned", fn := fun _ => fun
  | [d1, d2, d3] => { results := [.lit (.bool false)], args := [d1, d2, d3] }
  | _ => none }
def CrcTurnedWrongFalsely : Prop := crcTurnedRow.holds Tryd.pinned (OpenSpec.ofChange crcTurnedWrong)

/-- 'encorelaw01.CrcOver': WHATEVER THE INPUT: true; the input reads as it did. -/
def crcOverSpec : ChangeSpec := { name := "crcOver", fn := fun _ => fun
  | [d1, d2, d3] => { results := [.lit (.bool true)], args := [d1, d2, d3] }
  | _ => none }
def crcOverRow : OpenClaim := { program := "ytjogcmlmegjlbaadoor", sum := "de7d14ea3f98d622b1c417cccfee8113492a814538deaa6cfd4228ed42844e7d", func := "encore/encorelaw01.CrcOver", spec := "crcOver", named := ["encore/crc.fourBits"], apart := false, laid := [("encore/crc.fourBits", laid_encore_crc_fourBits)] }
def CrcOverSaid : Prop := crcOverRow.holds Tryd.pinned (OpenSpec.ofChange crcOverSpec)

/-- ITS FALSE NEIGHBOUR: 'it returns false'. Refute it at one input. -/
def crcOverWrong : ChangeSpec := { name := "crcOver", fn := fun _ => fun
  | [d1, d2, d3] => { results := [.lit (.bool false)], args := [d1, d2, d3] }
  | _ => none }
def CrcOverWrongFalsely : Prop := crcOverRow.holds Tryd.pinned (OpenSpec.ofChange crcOverWrong)

/-- 'encorelaw01.CrcKnown': WHATEVER THE INPUT: true; the input reads as it did. -/
def crcKnownSpec : ChangeSpec := { name := "crcKnown", fn := fun _ => fun
  | [] => { results := [.lit (.bool true)], args := [] }
  | _ => none }
def crcKnownRow : OpenClaim := { program := "ytjogcmlmegjlbaadoor", sum := "de7d14ea3f98d622b1c417cccfee8113492a814538deaa6cfd4228ed42844e7d", func := "encore/encorelaw01.CrcKnown", spec := "crcKnown", named := ["encore/crc.fourBits"], apart := false, laid := [("encore/crc.fourBits", laid_encore_crc_fourBits)] }
def CrcKnownSaid : Prop := crcKnownRow.holds Tryd.pinned (OpenSpec.ofChange crcKnownSpec)

/-- ITS FALSE NEIGHBOUR: 'it returns false'. Refute it at one input. -/
def crcKnownWrong : ChangeSpec := { name := "crcKnown", fn := fun _ => fun
  | [] => { results := [.lit (.bool false)], args := [] }
  | _ => none }
def CrcKnownWrongFalsely : Prop := crcKnownRow.holds Tryd.pinned (OpenSpec.ofChange crcKnownWrong)

/- THE SECOND FORM. 'bulk': how many values and letters a reading holds, each counted each time it is reached (what is shared counts as often as it is met; a slice's spare places count too). A statement '..UptoSaid' is the law's where the arguments, and the package variables that the reading takes, are together of bulk at most 1048576: NARROWER than '..Said'. Prove '..Said' where nothing that the law and all that it calls make is longer than what came in: it says more and counts as full. Else prove '..UptoSaid'. A law counts once. -/
mutual
def uptoBulk {H : Type} : DataW H → Nat
  | .lit (.string bytes) => bytes.length + 1
  | .lit _ => 1
  | .nil => 1
  | .ptr d => uptoBulk d + 1
  | .slice elems spare => uptoBulkAll elems + uptoBulkAll spare + 1
  | .agg parts => uptoBulkAll parts + 1
  | .iface _ d => uptoBulk d + 1
  | .map entries => uptoBulkEntries entries + 1
  | .held _ => 1
def uptoBulkAll {H : Type} : List (DataW H) → Nat
  | [] => 0
  | d :: r => uptoBulk d + uptoBulkAll r
def uptoBulkEntries {H : Type} : List (Lit × DataW H) → Nat
  | [] => 0
  | x :: r => uptoBulkEntry x + uptoBulkEntries r
def uptoBulkEntry {H : Type} : Lit × DataW H → Nat
  | (.string bytes, d) => bytes.length + uptoBulk d + 1
  | (_, d) => uptoBulk d + 1
 end
def uptoSmall : (H : Type) → List (DataW H) → Bool := fun _ ds => decide (uptoBulkAll ds ≤ 1048576)
def OpenSpec.upto (s : _root_.Go.ChangeSpec) : _root_.Go.OpenSpec := { _root_.Go.OpenSpec.ofChange s with cond := some uptoSmall }

/-- 'encorelaw01.CrcOf', WHERE WHAT IT READS IS OF BULK AT MOST 1048576: true; the input reads as it did. -/
def crcOfUptoRow : OpenClaim := { program := "ytjogcmlmegjlbaadoor", sum := "de7d14ea3f98d622b1c417cccfee8113492a814538deaa6cfd4228ed42844e7d", func := "encore/encorelaw01.CrcOf", spec := "crcOf", named := ["encore/crc.fourBits"], apart := false, laid := [("encore/crc.fourBits", laid_encore_crc_fourBits)], narrowed := true }
def CrcOfUptoSaid : Prop := crcOfUptoRow.holds Tryd.pinned (OpenSpec.upto crcOfSpec)

/-- 'encorelaw01.CrcMore', WHERE WHAT IT READS IS OF BULK AT MOST 1048576: true; the input reads as it did. -/
def crcMoreUptoRow : OpenClaim := { program := "ytjogcmlmegjlbaadoor", sum := "de7d14ea3f98d622b1c417cccfee8113492a814538deaa6cfd4228ed42844e7d", func := "encore/encorelaw01.CrcMore", spec := "crcMore", named := ["encore/crc.fourBits"], apart := false, laid := [("encore/crc.fourBits", laid_encore_crc_fourBits)], narrowed := true }
def CrcMoreUptoSaid : Prop := crcMoreUptoRow.holds Tryd.pinned (OpenSpec.upto crcMoreSpec)

/-- 'encorelaw01.CrcJoin', WHERE WHAT IT READS IS OF BULK AT MOST 1048576: true; the input reads as it did. -/
def crcJoinUptoRow : OpenClaim := { program := "ytjogcmlmegjlbaadoor", sum := "de7d14ea3f98d622b1c417cccfee8113492a814538deaa6cfd4228ed42844e7d", func := "encore/encorelaw01.CrcJoin", spec := "crcJoin", named := ["encore/crc.fourBits"], apart := false, laid := [("encore/crc.fourBits", laid_encore_crc_fourBits)], narrowed := true }
def CrcJoinUptoSaid : Prop := crcJoinUptoRow.holds Tryd.pinned (OpenSpec.upto crcJoinSpec)

/-- 'encorelaw01.CrcRows', WHERE WHAT IT READS IS OF BULK AT MOST 1048576: true; the input reads as it did. -/
def crcRowsUptoRow : OpenClaim := { program := "ytjogcmlmegjlbaadoor", sum := "de7d14ea3f98d622b1c417cccfee8113492a814538deaa6cfd4228ed42844e7d", func := "encore/encorelaw01.CrcRows", spec := "crcRows", named := ["encore/crc.fourBits"], apart := false, laid := [("encore/crc.fourBits", laid_encore_crc_fourBits)], narrowed := true }
def CrcRowsUptoSaid : Prop := crcRowsUptoRow.holds Tryd.pinned (OpenSpec.upto crcRowsSpec)

/-- 'encorelaw01.CrcThree', WHERE WHAT IT READS IS OF BULK AT MOST 1048576: true; the input reads as it did. -/
def crcThreeUptoRow : OpenClaim := { program := "ytjogcmlmegjlbaadoor", sum := "de7d14ea3f98d622b1c417cccfee8113492a814538deaa6cfd4228ed42844e7d", func := "encore/encorelaw01.CrcThree", spec := "crcThree", named := ["encore/crc.fourBits"], apart := false, laid := [("encore/crc.fourBits", laid_encore_crc_fourBits)], narrowed := true }
def CrcThreeUptoSaid : Prop := crcThreeUptoRow.holds Tryd.pinned (OpenSpec.upto crcThreeSpec)

/-- 'encorelaw01.CrcTurned', WHERE WHAT IT READS IS OF BULK AT MOST 1048576: true; the input reads as it did. -/
def crcTurnedUptoRow : OpenClaim := { program := "ytjogcmlmegjlbaadoor", sum := "de7d14ea3f98d622b1c417cccfee8113492a814538deaa6cfd4228ed42844e7d", func := "encore/encorelaw01.CrcTurned", spec := "crcTurned", named := ["encore/crc.fourBits"], apart := false, laid := [("encore/crc.fourBits", laid_encore_crc_fourBits)], narrowed := true }
def CrcTurnedUptoSaid : Prop := crcTurnedUptoRow.holds Tryd.pinned (OpenSpec.upto crcTurnedSpec)

/-- 'encorelaw01.CrcOver', WHERE WHAT IT READS IS OF BULK AT MOST 1048576: true; the input reads as it did. -/
def crcOverUptoRow : OpenClaim := { program := "ytjogcmlmegjlbaadoor", sum := "de7d14ea3f98d622b1c417cccfee8113492a814538deaa6cfd4228ed42844e7d", func := "encore/encorelaw01.CrcOver", spec := "crcOver", named := ["encore/crc.fourBits"], apart := false, laid := [("encore/crc.fourBits", laid_encore_crc_fourBits)], narrowed := true }
def CrcOverUptoSaid : Prop := crcOverUptoRow.holds Tryd.pinned (OpenSpec.upto crcOverSpec)

/-- 'encorelaw01.CrcKnown', WHERE WHAT IT READS IS OF BULK AT MOST 1048576: true; the input reads as it did. -/
def crcKnownUptoRow : OpenClaim := { program := "ytjogcmlmegjlbaadoor", sum := "de7d14ea3f98d622b1c417cccfee8113492a814538deaa6cfd4228ed42844e7d", func := "encore/encorelaw01.CrcKnown", spec := "crcKnown", named := ["encore/crc.fourBits"], apart := false, laid := [("encore/crc.fourBits", laid_encore_crc_fourBits)], narrowed := true }
def CrcKnownUptoSaid : Prop := crcKnownUptoRow.holds Tryd.pinned (OpenSpec.upto crcKnownSpec)

end Rows
end Go.Proofs.YtjogcmlmegjlbaaDoor
