/-
  DERIVED. GIVEN WITH THE SEED: THE CARDS: each row of YtmnmcikbbfcjcaaGreatDoorRows.lean that lists a variable, with what it lists TIED to the program's text (the seventh form; the later family's looks); each row that meets fmt, with fmt's text TOLD by the authors' own Lean function (tested against real Go, not proved from fmt's source: count such statements apart). THE CARD IS WHAT COUNTS. Prove the row's statement (the work); the ties are given (YtmnmcikbbfcjcaaGreatDoorTie.lean); close each card by the builder's one call (the guide's Derived/Test/ToyasCard.lean, 'card_holds'). Laid BY PROGRAM, IN A SANDBOX (cutbox-door.mjs). By AI agents, Wed Nov 11 2026. No macro, syntax, notation, axiom, sorry.
-/
import Derived.Test.YtmnmcikbbfcjcaaGreatDoorRows
import GoSem.ClaimSeven
namespace Go.Proofs.YtmnmcikbbfcjcaaGreatDoor
namespace Rows

/-- THE TIED CARD OF 'marlinspikelaw12.PoolLoads'. -/
def poolLoadsCard : Claim7 := { stood := { row := poolLoadsRow, standIns := [], harness := (true, "46569375b41a5da434415a3ea7dab18bed84cada9c39cf914c2e02304ed390ff"), looks := false }, kinds := [], alts := [], laidByText := true, laidKinds := [.data, .data, .data, .data, .data, .pinned], laidTests := true, laidLooks := .later }
def PoolLoadsCardSaid : Prop := Claim7.holds Tryz.pinned (.plain (OpenSpec.ofChange poolLoadsSpec)) poolLoadsCard

/-- THE SECOND FORM's CARD OF 'marlinspikelaw12.PoolLoads'. -/
def poolLoadsUptoCard : Claim7 := { stood := { row := poolLoadsUptoRow, standIns := [], harness := (true, "46569375b41a5da434415a3ea7dab18bed84cada9c39cf914c2e02304ed390ff"), looks := false }, kinds := [], alts := [], laidByText := true, laidKinds := [.data, .data, .data, .data, .data, .pinned], laidTests := true, laidLooks := .later }
def PoolLoadsUptoCardSaid : Prop := Claim7.holds Tryz.pinned (.plain (OpenSpec.upto poolLoadsSpec)) poolLoadsUptoCard
end Rows
end Go.Proofs.YtmnmcikbbfcjcaaGreatDoor
