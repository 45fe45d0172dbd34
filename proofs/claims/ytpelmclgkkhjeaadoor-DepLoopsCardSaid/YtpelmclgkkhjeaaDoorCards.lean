/-
  DERIVED. GIVEN WITH THE SEED: THE CARDS: each row of YtpelmclgkkhjeaaDoorRows.lean that lists a variable, with what it lists TIED to the program's text (the seventh form; the later family's looks); each row that meets fmt, with fmt's text TOLD by the authors' own Lean function (tested against real Go, not proved from fmt's source: count such statements apart). THE CARD IS WHAT COUNTS. Prove the row's statement (the work); the ties are given (YtpelmclgkkhjeaaDoorTie.lean); close each card by the builder's one call (the guide's Derived/Test/ToyasCard.lean, 'card_holds'). Laid BY PROGRAM, IN A SANDBOX (cutbox-door.mjs). By AI agents, Wed Nov 11 2026. No macro, syntax, notation, axiom, sorry.
-/
import Derived.Test.YtpelmclgkkhjeaaDoorRows
import GoSem.ClaimSeven
namespace Go.Proofs.YtpelmclgkkhjeaaDoor
namespace Rows

/-- THE TIED CARD OF 'marlinspikelaw07.DepLoops'. -/
def depLoopsCard : Claim7 := { stood := { row := depLoopsRow, standIns := [], harness := (true, "ac88cfadade4c7258b38454cd11040db47707c75d3b018ae060e9bbf3151ef41"), looks := false }, kinds := [], alts := [], laidByText := true, laidKinds := [.data, .data, .data], laidTests := true, laidLooks := .later }
def DepLoopsCardSaid : Prop := Claim7.holds Tryd.pinned (.plain (OpenSpec.ofChange depLoopsSpec)) depLoopsCard

/-- THE SECOND FORM's CARD OF 'marlinspikelaw07.DepLoops'. -/
def depLoopsUptoCard : Claim7 := { stood := { row := depLoopsUptoRow, standIns := [], harness := (true, "ac88cfadade4c7258b38454cd11040db47707c75d3b018ae060e9bbf3151ef41"), looks := false }, kinds := [], alts := [], laidByText := true, laidKinds := [.data, .data, .data], laidTests := true, laidLooks := .later }
def DepLoopsUptoCardSaid : Prop := Claim7.holds Tryd.pinned (.plain (OpenSpec.upto depLoopsSpec)) depLoopsUptoCard
end Rows
end Go.Proofs.YtpelmclgkkhjeaaDoor
