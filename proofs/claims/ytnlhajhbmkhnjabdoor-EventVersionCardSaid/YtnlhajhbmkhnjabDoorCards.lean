/-
  DERIVED. GIVEN WITH THE SEED: THE CARDS: each row of YtnlhajhbmkhnjabDoorRows.lean that lists a variable, with what it lists TIED to the program's text (the seventh form; the later family's looks); each row that meets fmt, with fmt's text TOLD by the authors' own Lean function (tested against real Go, not proved from fmt's source: count such statements apart). THE CARD IS WHAT COUNTS. Prove the row's statement (the work); the ties are given (YtnlhajhbmkhnjabDoorTie.lean); close each card by the builder's one call (the guide's Derived/Test/ToyasCard.lean, 'card_holds'). Laid BY PROGRAM, IN A SANDBOX (cutbox-door.mjs). By AI agents, Wed Nov 11 2026. No macro, syntax, notation, axiom, sorry.
-/
import Derived.Test.YtnlhajhbmkhnjabDoorRows
import GoSem.ClaimSeven
namespace Go.Proofs.YtnlhajhbmkhnjabDoor
namespace Rows

/-- THE TIED CARD OF 'encorelaw08.EventVersion'. -/
def eventVersionCard : Claim7 := { stood := { row := eventVersionRow, standIns := [], harness := (true, "1681531caa8e1a8683d447493985f555c94793956629b8b920bb9676e8f20767"), looks := false }, kinds := [], alts := [], laidByText := true, laidKinds := [.data], laidTests := true, laidLooks := .later }
def EventVersionCardSaid : Prop := Claim7.holds Tryd.pinned (.plain (OpenSpec.ofChange eventVersionSpec)) eventVersionCard

/-- THE SECOND FORM's CARD OF 'encorelaw08.EventVersion'. -/
def eventVersionUptoCard : Claim7 := { stood := { row := eventVersionUptoRow, standIns := [], harness := (true, "1681531caa8e1a8683d447493985f555c94793956629b8b920bb9676e8f20767"), looks := false }, kinds := [], alts := [], laidByText := true, laidKinds := [.data], laidTests := true, laidLooks := .later }
def EventVersionUptoCardSaid : Prop := Claim7.holds Tryd.pinned (.plain (OpenSpec.upto eventVersionSpec)) eventVersionUptoCard
end Rows
end Go.Proofs.YtnlhajhbmkhnjabDoor
