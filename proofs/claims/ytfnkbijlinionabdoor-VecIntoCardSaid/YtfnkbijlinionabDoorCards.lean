/-
  DERIVED. GIVEN WITH THE SEED: THE CARDS: each row of YtfnkbijlinionabDoorRows.lean that lists a variable, with what it lists TIED to the program's text (the seventh form; the later family's looks); each row that meets fmt, with fmt's text TOLD by the authors' own Lean function (tested against real Go, not proved from fmt's source: count such statements apart). THE CARD IS WHAT COUNTS. Prove the row's statement (the work); the ties are given (YtfnkbijlinionabDoorTie.lean); close each card by the builder's one call (the guide's Derived/Test/ToyasCard.lean, 'card_holds'). Laid BY PROGRAM, IN A SANDBOX (cutbox-door.mjs). By AI agents, Wed Nov 11 2026. No macro, syntax, notation, axiom, sorry.
-/
import Derived.Test.YtfnkbijlinionabDoorRows
import GoSem.ClaimSeven
namespace Go.Proofs.YtfnkbijlinionabDoor
namespace Rows

/-- THE TIED CARD OF 'marlinspikelaw06.VecInto'. -/
def vecIntoCard : Claim7 := { stood := { row := vecIntoRow, standIns := [], harness := (true, "f9d857c9d59d92dccc6175d3fa1a98691a5be5cec90094204383e557a245e448"), looks := true }, kinds := [], alts := [], laidByText := true, laidKinds := [.data, .data, .data, .data, .sentinel, .sentinel, .pinned], laidTests := true, laidLooks := .later }
def VecIntoCardSaid : Prop := Claim7.holds Tryd.pinned (.plain (OpenSpec.ofChange vecIntoSpec)) vecIntoCard

/-- THE SECOND FORM's CARD OF 'marlinspikelaw06.VecInto'. -/
def vecIntoUptoCard : Claim7 := { stood := { row := vecIntoUptoRow, standIns := [], harness := (true, "f9d857c9d59d92dccc6175d3fa1a98691a5be5cec90094204383e557a245e448"), looks := true }, kinds := [], alts := [], laidByText := true, laidKinds := [.data, .data, .data, .data, .sentinel, .sentinel, .pinned], laidTests := true, laidLooks := .later }
def VecIntoUptoCardSaid : Prop := Claim7.holds Tryd.pinned (.plain (OpenSpec.upto vecIntoSpec)) vecIntoUptoCard
end Rows
end Go.Proofs.YtfnkbijlinionabDoor
