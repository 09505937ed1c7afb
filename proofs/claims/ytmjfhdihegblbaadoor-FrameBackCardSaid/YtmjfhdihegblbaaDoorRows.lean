/-
  NARROWER THAN 'FOR EVERY INPUT', by the rows' own cells (each row's printed sentence says how): FramePacks: laid · FrameTakes: laid · FrameBack: laid · FrameAgain: laid · FrameTurned: laid · FrameSum: laid · FrameKnown: laid.
  DERIVED. THE GIVEN ROWS OF THIS SEAT. 7 by the template 'for every input the law returns true; each argument reads behind the call as it read before'; 0 by the template 'total and deterministic' (their statements: YtmjfhdihegblbaaDoorTotals.lean).
  GIVEN WITH THE SEED: the statements are not yours to turn. If you find one false, say at which input.
  Laid BY PROGRAM, IN A SANDBOX (cutbox-rows.mjs): the forced cells as the released guide's own fill.sh prints them over the translation 449557fa745e9088… (all of the seat's roots in one cut). By AI agents, Wed Nov 11 2026. No macro, syntax, notation, axiom, sorry.
-/
import Derived.Test.YtmjfhdihegblbaaDoorChecked
import GoSem.Claim
import GoSem.ClaimJoined
import GoSem.ClaimMapViews
import Derived.JoinedTies
import Derived.KernelRfl
namespace Go.Proofs.YtmjfhdihegblbaaDoor
/- THE CELL 'sum', in the pinned program and in every row, IS THE sha256 OF THE DUMP (.gsa) THAT YtmjfhdihegblbaaDoorProg.lean LOADS. Nothing in Lean hashes anything: it is a label: what it is worth is what the hold of that sum in a sandbox is worth. -/
noncomputable def Tryd.pinned : Pinned := { name := "ytmjfhdihegblbaadoor", sum := "449557fa745e9088254e3956452cc9873f7bdc86132520b648d0a752bc727d64", checked := Tryd.checked }
namespace Rows
def none {H : Type} : Left H := { results := [], args := [] }

/- WHAT THE LISTED PACKAGE-LEVEL VARIABLES READ AS WHEN THE CALL BEGINS. Each datum BY PROGRAM (the guide's laid-datum.mjs) off the statement by which the dump's own 'gosem.cut.vars' lays the variable. In a bare row this is a premise. The card (YtmjfhdihegblbaaDoorCards.lean) ties it to the program's text. -/
def laid_encore_crc_fourBits {H : Type} : DataW H := .agg [.lit (.int .u32 0), .lit (.int .u32 274646895), .lit (.int .u32 549293790), .lit (.int .u32 820201905), .lit (.int .u32 1098587580), .lit (.int .u32 1361435347), .lit (.int .u32 1640403810), .lit (.int .u32 1905808397), .lit (.int .u32 2197175160), .lit (.int .u32 2460548119), .lit (.int .u32 2722870694), .lit (.int .u32 2987750089), .lit (.int .u32 3280807620), .lit (.int .u32 3553878443), .lit (.int .u32 3811616794), .lit (.int .u32 4084100981)]

/-- 'encorelaw04.FramePacks': WHATEVER THE INPUT: true; the input reads as it did. -/
def framePacksSpec : ChangeSpec := { name := "framePacks", fn := fun _ => fun
  | [d1, d2] => { results := [.lit (.bool true)], args := [d1, d2] }
  | _ => none }
def framePacksRow : OpenClaim := { program := "ytmjfhdihegblbaadoor", sum := "449557fa745e9088254e3956452cc9873f7bdc86132520b648d0a752bc727d64", func := "encore/encorelaw04.FramePacks", spec := "framePacks", unfollowed := true, recurses := true, named := ["encore/crc.fourBits"], apart := false, laid := [("encore/crc.fourBits", laid_encore_crc_fourBits)] }
def FramePacksSaid : Prop := framePacksRow.holds Tryd.pinned (OpenSpec.ofChange framePacksSpec)

/-- ITS FALSE NEIGHBOUR: 'it returns false'. Refute it at one input. -/
def framePacksWrong : ChangeSpec := { name := "framePacks", fn := fun _ => fun
  | [d1, d2] => { results := [.lit (.bool false)], args := [d1, d2] }
  | _ => none }
def FramePacksWrongFalsely : Prop := framePacksRow.holds Tryd.pinned (OpenSpec.ofChange framePacksWrong)

/-- 'encorelaw04.FrameTakes': WHATEVER THE INPUT: true; the input reads as it did. -/
def frameTakesSpec : ChangeSpec := { name := "frameTakes", fn := fun _ => fun
  | [d] => { results := [.lit (.bool true)], args := [d] }
  | _ => none }
def frameTakesRow : OpenClaim := { program := "ytmjfhdihegblbaadoor", sum := "449557fa745e9088254e3956452cc9873f7bdc86132520b648d0a752bc727d64", func := "encore/encorelaw04.FrameTakes", spec := "frameTakes", unfollowed := true, recurses := true, named := ["encore/crc.fourBits"], apart := false, laid := [("encore/crc.fourBits", laid_encore_crc_fourBits)] }
def FrameTakesSaid : Prop := frameTakesRow.holds Tryd.pinned (OpenSpec.ofChange frameTakesSpec)

/-- ITS FALSE NEIGHBOUR: 'it returns false'. Refute it at one input. -/
def frameTakesWrong : ChangeSpec := { name := "frameTakes", fn := fun _ => fun
  | [d] => { results := [.lit (.bool false)], args := [d] }
  | _ => none }
def FrameTakesWrongFalsely : Prop := frameTakesRow.holds Tryd.pinned (OpenSpec.ofChange frameTakesWrong)

/-- 'encorelaw04.FrameBack': WHATEVER THE INPUT: true; the input reads as it did. -/
def frameBackSpec : ChangeSpec := { name := "frameBack", fn := fun _ => fun
  | [d1, d2] => { results := [.lit (.bool true)], args := [d1, d2] }
  | _ => none }
def frameBackRow : OpenClaim := { program := "ytmjfhdihegblbaadoor", sum := "449557fa745e9088254e3956452cc9873f7bdc86132520b648d0a752bc727d64", func := "encore/encorelaw04.FrameBack", spec := "frameBack", unfollowed := true, recurses := true, named := ["encore/crc.fourBits"], apart := false, laid := [("encore/crc.fourBits", laid_encore_crc_fourBits)] }
def FrameBackSaid : Prop := frameBackRow.holds Tryd.pinned (OpenSpec.ofChange frameBackSpec)

/-- ITS FALSE NEIGHBOUR: 'it returns false'. Refute it at one input. -/
def frameBackWrong : ChangeSpec := { name := "frameBack", fn := fun _ => fun
  | [d1, d2] => { results := [.lit (.bool false)], args := [d1, d2] }
  | _ => none }
def FrameBackWrongFalsely : Prop := frameBackRow.holds Tryd.pinned (OpenSpec.ofChange frameBackWrong)

/-- 'encorelaw04.FrameAgain': WHATEVER THE INPUT: true; the input reads as it did. -/
def frameAgainSpec : ChangeSpec := { name := "frameAgain", fn := fun _ => fun
  | [d] => { results := [.lit (.bool true)], args := [d] }
  | _ => none }
def frameAgainRow : OpenClaim := { program := "ytmjfhdihegblbaadoor", sum := "449557fa745e9088254e3956452cc9873f7bdc86132520b648d0a752bc727d64", func := "encore/encorelaw04.FrameAgain", spec := "frameAgain", unfollowed := true, recurses := true, named := ["encore/crc.fourBits"], apart := false, laid := [("encore/crc.fourBits", laid_encore_crc_fourBits)] }
def FrameAgainSaid : Prop := frameAgainRow.holds Tryd.pinned (OpenSpec.ofChange frameAgainSpec)

/-- ITS FALSE NEIGHBOUR: 'it returns false'. Refute it at one input. -/
def frameAgainWrong : ChangeSpec := { name := "frameAgain", fn := fun _ => fun
  | [d] => { results := [.lit (.bool false)], args := [d] }
  | _ => none }
def FrameAgainWrongFalsely : Prop := frameAgainRow.holds Tryd.pinned (OpenSpec.ofChange frameAgainWrong)

/-- 'encorelaw04.FrameTurned': WHATEVER THE INPUT: true; the input reads as it did. -/
def frameTurnedSpec : ChangeSpec := { name := "frameTurned", fn := fun _ => fun
  | [d1, d2] => { results := [.lit (.bool true)], args := [d1, d2] }
  | _ => none }
def frameTurnedRow : OpenClaim := { program := "ytmjfhdihegblbaadoor", sum := "449557fa745e9088254e3956452cc9873f7bdc86132520b648d0a752bc727d64", func := "encore/encorelaw04.FrameTurned", spec := "frameTurned", unfollowed := true, recurses := true, named := ["encore/crc.fourBits"], apart := false, laid := [("encore/crc.fourBits", laid_encore_crc_fourBits)] }
def FrameTurnedSaid : Prop := frameTurnedRow.holds Tryd.pinned (OpenSpec.ofChange frameTurnedSpec)

/-- ITS FALSE NEIGHBOUR: 'it returns false'. Refute it at one input. -/
def frameTurnedWrong : ChangeSpec := { name := "frameTurned", fn := fun _ => fun
  | [d1, d2] => { results := [.lit (.bool false)], args := [d1, d2] }
  | _ => none }
def FrameTurnedWrongFalsely : Prop := frameTurnedRow.holds Tryd.pinned (OpenSpec.ofChange frameTurnedWrong)

/-- 'encorelaw04.FrameSum': WHATEVER THE INPUT: true; the input reads as it did. -/
def frameSumSpec : ChangeSpec := { name := "frameSum", fn := fun _ => fun
  | [d] => { results := [.lit (.bool true)], args := [d] }
  | _ => none }
def frameSumRow : OpenClaim := { program := "ytmjfhdihegblbaadoor", sum := "449557fa745e9088254e3956452cc9873f7bdc86132520b648d0a752bc727d64", func := "encore/encorelaw04.FrameSum", spec := "frameSum", unfollowed := true, recurses := true, named := ["encore/crc.fourBits"], apart := false, laid := [("encore/crc.fourBits", laid_encore_crc_fourBits)] }
def FrameSumSaid : Prop := frameSumRow.holds Tryd.pinned (OpenSpec.ofChange frameSumSpec)

/-- ITS FALSE NEIGHBOUR: 'it returns false'. Refute it at one input. -/
def frameSumWrong : ChangeSpec := { name := "frameSum", fn := fun _ => fun
  | [d] => { results := [.lit (.bool false)], args := [d] }
  | _ => none }
def FrameSumWrongFalsely : Prop := frameSumRow.holds Tryd.pinned (OpenSpec.ofChange frameSumWrong)

/-- 'encorelaw04.FrameKnown': WHATEVER THE INPUT: true; the input reads as it did. -/
def frameKnownSpec : ChangeSpec := { name := "frameKnown", fn := fun _ => fun
  | [] => { results := [.lit (.bool true)], args := [] }
  | _ => none }
def frameKnownRow : OpenClaim := { program := "ytmjfhdihegblbaadoor", sum := "449557fa745e9088254e3956452cc9873f7bdc86132520b648d0a752bc727d64", func := "encore/encorelaw04.FrameKnown", spec := "frameKnown", unfollowed := true, recurses := true, named := ["encore/crc.fourBits"], apart := false, laid := [("encore/crc.fourBits", laid_encore_crc_fourBits)] }
def FrameKnownSaid : Prop := frameKnownRow.holds Tryd.pinned (OpenSpec.ofChange frameKnownSpec)

/-- ITS FALSE NEIGHBOUR: 'it returns false'. Refute it at one input. -/
def frameKnownWrong : ChangeSpec := { name := "frameKnown", fn := fun _ => fun
  | [] => { results := [.lit (.bool false)], args := [] }
  | _ => none }
def FrameKnownWrongFalsely : Prop := frameKnownRow.holds Tryd.pinned (OpenSpec.ofChange frameKnownWrong)

/- THE SECOND FORM. 'bulk': how many values and letters a reading holds, each counted each time it is reached (what is shared counts as often as it is met; a slice's spare places count too). A statement '..UptoSaid' is the law's where the arguments, and the package variables that the reading takes, are together of bulk at most 1048576: NARROWER than '..Said'. Prove '..Said' where nothing that the law and all that it calls make is longer than what came in: it says more and counts as full. Else prove '..UptoSaid'. A law counts once. -/
mutual
def uptoBulk {H : Type} : DataW H → Nat
  | .lit (.string bytes) => bytes.length + 1
  | .lit _ => 1
  | .nil => 1
  | .ptr d => uptoBulk d + 1
  | .slice elems spare => uptoBulkAll elems + uptoBulkAll spare + 1
  | .agg parts => uptoBulkAll parts + 1
  | .iface _ d => uptoBulk d + 1
  | .map entries => uptoBulkEntries entries + 1
  | .held _ => 1
def uptoBulkAll {H : Type} : List (DataW H) → Nat
  | [] => 0
  | d :: r => uptoBulk d + uptoBulkAll r
def uptoBulkEntries {H : Type} : List (Lit × DataW H) → Nat
  | [] => 0
  | x :: r => uptoBulkEntry x + uptoBulkEntries r
def uptoBulkEntry {H : Type} : Lit × DataW H → Nat
  | (.string bytes, d) => bytes.length + uptoBulk d + 1
  | (_, d) => uptoBulk d + 1
 end
def uptoSmall : (H : Type) → List (DataW H) → Bool := fun _ ds => decide (uptoBulkAll ds ≤ 1048576)
def OpenSpec.upto (s : _root_.Go.ChangeSpec) : _root_.Go.OpenSpec := { _root_.Go.OpenSpec.ofChange s with cond := some uptoSmall }

/-- 'encorelaw04.FramePacks', WHERE WHAT IT READS IS OF BULK AT MOST 1048576: true; the input reads as it did. -/
def framePacksUptoRow : OpenClaim := { program := "ytmjfhdihegblbaadoor", sum := "449557fa745e9088254e3956452cc9873f7bdc86132520b648d0a752bc727d64", func := "encore/encorelaw04.FramePacks", spec := "framePacks", unfollowed := true, recurses := true, named := ["encore/crc.fourBits"], apart := false, laid := [("encore/crc.fourBits", laid_encore_crc_fourBits)], narrowed := true }
def FramePacksUptoSaid : Prop := framePacksUptoRow.holds Tryd.pinned (OpenSpec.upto framePacksSpec)

/-- 'encorelaw04.FrameTakes', WHERE WHAT IT READS IS OF BULK AT MOST 1048576: true; the input reads as it did. -/
def frameTakesUptoRow : OpenClaim := { program := "ytmjfhdihegblbaadoor", sum := "449557fa745e9088254e3956452cc9873f7bdc86132520b648d0a752bc727d64", func := "encore/encorelaw04.FrameTakes", spec := "frameTakes", unfollowed := true, recurses := true, named := ["encore/crc.fourBits"], apart := false, laid := [("encore/crc.fourBits", laid_encore_crc_fourBits)], narrowed := true }
def FrameTakesUptoSaid : Prop := frameTakesUptoRow.holds Tryd.pinned (OpenSpec.upto frameTakesSpec)

/-- 'encorelaw04.FrameBack', WHERE WHAT IT READS IS OF BULK AT MOST 1048576: true; the input reads as it did. -/
def frameBackUptoRow : OpenClaim := { program := "ytmjfhdihegblbaadoor", sum := "449557fa745e9088254e3956452cc9873f7bdc86132520b648d0a752bc727d64", func := "encore/encorelaw04.FrameBack", spec := "frameBack", unfollowed := true, recurses := true, named := ["encore/crc.fourBits"], apart := false, laid := [("encore/crc.fourBits", laid_encore_crc_fourBits)], narrowed := true }
def FrameBackUptoSaid : Prop := frameBackUptoRow.holds Tryd.pinned (OpenSpec.upto frameBackSpec)

/-- 'encorelaw04.FrameAgain', WHERE WHAT IT READS IS OF BULK AT MOST 1048576: true; the input reads as it did. -/
def frameAgainUptoRow : OpenClaim := { program := "ytmjfhdihegblbaadoor", sum := "449557fa745e9088254e3956452cc9873f7bdc86132520b648d0a752bc727d64", func := "encore/encorelaw04.FrameAgain", spec := "frameAgain", unfollowed := true, recurses := true, named := ["encore/crc.fourBits"], apart := false, laid := [("encore/crc.fourBits", laid_encore_crc_fourBits)], narrowed := true }
def FrameAgainUptoSaid : Prop := frameAgainUptoRow.holds Tryd.pinned (OpenSpec.upto frameAgainSpec)

/-- 'encorelaw04.FrameTurned', WHERE WHAT IT READS IS OF BULK AT MOST 1048576: true; the input reads as it did. -/
def frameTurnedUptoRow : OpenClaim := { program := "ytmjfhdihegblbaadoor", sum := "449557fa745e9088254e3956452cc9873f7bdc86132520b648d0a752bc727d64", func := "encore/encorelaw04.FrameTurned", spec := "frameTurned", unfollowed := true, recurses := true, named := ["encore/crc.fourBits"], apart := false, laid := [("encore/crc.fourBits", laid_encore_crc_fourBits)], narrowed := true }
def FrameTurnedUptoSaid : Prop := frameTurnedUptoRow.holds Tryd.pinned (OpenSpec.upto frameTurnedSpec)

/-- 'encorelaw04.FrameSum', WHERE WHAT IT READS IS OF BULK AT MOST 1048576: true; the input reads as it did. -/
def frameSumUptoRow : OpenClaim := { program := "ytmjfhdihegblbaadoor", sum := "449557fa745e9088254e3956452cc9873f7bdc86132520b648d0a752bc727d64", func := "encore/encorelaw04.FrameSum", spec := "frameSum", unfollowed := true, recurses := true, named := ["encore/crc.fourBits"], apart := false, laid := [("encore/crc.fourBits", laid_encore_crc_fourBits)], narrowed := true }
def FrameSumUptoSaid : Prop := frameSumUptoRow.holds Tryd.pinned (OpenSpec.upto frameSumSpec)

/-- 'encorelaw04.FrameKnown', WHERE WHAT IT READS IS OF BULK AT MOST 1048576: true; the input reads as it did. -/
def frameKnownUptoRow : OpenClaim := { program := "ytmjfhdihegblbaadoor", sum := "449557fa745e9088254e3956452cc9873f7bdc86132520b648d0a752bc727d64", func := "encore/encorelaw04.FrameKnown", spec := "frameKnown", unfollowed := true, recurses := true, named := ["encore/crc.fourBits"], apart := false, laid := [("encore/crc.fourBits", laid_encore_crc_fourBits)], narrowed := true }
def FrameKnownUptoSaid : Prop := frameKnownUptoRow.holds Tryd.pinned (OpenSpec.upto frameKnownSpec)

end Rows
end Go.Proofs.YtmjfhdihegblbaaDoor
