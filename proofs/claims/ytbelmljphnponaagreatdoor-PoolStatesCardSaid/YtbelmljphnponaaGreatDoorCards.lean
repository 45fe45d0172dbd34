/-
  DERIVED. GIVEN WITH THE SEED: THE CARDS: each row of YtbelmljphnponaaGreatDoorRows.lean that lists a variable, with what it lists TIED to the program's text (the seventh form; the later family's looks); each row that meets fmt, with fmt's text TOLD by the authors' own Lean function (tested against real Go, not proved from fmt's source: count such statements apart). THE CARD IS WHAT COUNTS. Prove the row's statement (the work); the ties are given (YtbelmljphnponaaGreatDoorTie.lean); close each card by the builder's one call (the guide's Derived/Test/ToyasCard.lean, 'card_holds'). Laid BY PROGRAM, IN A SANDBOX (cutbox-door.mjs). By AI agents, Wed Nov 11 2026. No macro, syntax, notation, axiom, sorry.
-/
import Derived.Test.YtbelmljphnponaaGreatDoorRows
import GoSem.ClaimSeven
namespace Go.Proofs.YtbelmljphnponaaGreatDoor
namespace Rows

/-- THE TIED CARD OF 'marlinspikelaw12.PoolStates'. -/
def poolStatesCard : Claim7 := { stood := { row := poolStatesRow, standIns := [], harness := (true, "e9e5c6174dc82bb2552dc13cd4bdb5e3b11da0fabf40acb8eb6bfeeac1fc3db9"), looks := false }, kinds := [], alts := [], laidByText := true, laidKinds := [.data, .data, .data, .data, .data, .pinned], laidTests := true, laidLooks := .later }
def PoolStatesCardSaid : Prop := Claim7.holds Tryz.pinned (.plain (OpenSpec.ofChange poolStatesSpec)) poolStatesCard

/-- THE TIED CARD OF 'marlinspikelaw12.PoolRefused'. -/
def poolRefusedCard : Claim7 := { stood := { row := poolRefusedRow, standIns := [], harness := (true, "e9e5c6174dc82bb2552dc13cd4bdb5e3b11da0fabf40acb8eb6bfeeac1fc3db9"), looks := false }, kinds := [], alts := [], laidByText := true, laidKinds := [.data, .data, .data, .data, .data, .pinned], laidTests := true, laidLooks := .later }
def PoolRefusedCardSaid : Prop := Claim7.holds Tryz.pinned (.plain (OpenSpec.ofChange poolRefusedSpec)) poolRefusedCard

/-- THE TIED CARD OF 'marlinspikelaw12.PoolSaved'. -/
def poolSavedCard : Claim7 := { stood := { row := poolSavedRow, standIns := [], harness := (true, "e9e5c6174dc82bb2552dc13cd4bdb5e3b11da0fabf40acb8eb6bfeeac1fc3db9"), looks := false }, kinds := [], alts := [], laidByText := true, laidKinds := [.data, .data, .data, .data, .data, .pinned], laidTests := true, laidLooks := .later }
def PoolSavedCardSaid : Prop := Claim7.holds Tryz.pinned (.plain (OpenSpec.ofChange poolSavedSpec)) poolSavedCard

/-- THE TIED CARD OF 'marlinspikelaw12.PoolLoads'. -/
def poolLoadsCard : Claim7 := { stood := { row := poolLoadsRow, standIns := [], harness := (true, "e9e5c6174dc82bb2552dc13cd4bdb5e3b11da0fabf40acb8eb6bfeeac1fc3db9"), looks := false }, kinds := [], alts := [], laidByText := true, laidKinds := [.data, .data, .data, .data, .data, .pinned], laidTests := true, laidLooks := .later }
def PoolLoadsCardSaid : Prop := Claim7.holds Tryz.pinned (.plain (OpenSpec.ofChange poolLoadsSpec)) poolLoadsCard

/-- THE TIED CARD OF 'marlinspikelaw12.PoolNobody'. -/
def poolNobodyCard : Claim7 := { stood := { row := poolNobodyRow, standIns := [], harness := (true, "e9e5c6174dc82bb2552dc13cd4bdb5e3b11da0fabf40acb8eb6bfeeac1fc3db9"), looks := false }, kinds := [], alts := [], laidByText := true, laidKinds := [.data, .data, .data, .data, .data, .pinned], laidTests := true, laidLooks := .later }
def PoolNobodyCardSaid : Prop := Claim7.holds Tryz.pinned (.plain (OpenSpec.ofChange poolNobodySpec)) poolNobodyCard

/-- THE SECOND FORM's CARD OF 'marlinspikelaw12.PoolStates'. -/
def poolStatesUptoCard : Claim7 := { stood := { row := poolStatesUptoRow, standIns := [], harness := (true, "e9e5c6174dc82bb2552dc13cd4bdb5e3b11da0fabf40acb8eb6bfeeac1fc3db9"), looks := false }, kinds := [], alts := [], laidByText := true, laidKinds := [.data, .data, .data, .data, .data, .pinned], laidTests := true, laidLooks := .later }
def PoolStatesUptoCardSaid : Prop := Claim7.holds Tryz.pinned (.plain (OpenSpec.upto poolStatesSpec)) poolStatesUptoCard

/-- THE SECOND FORM's CARD OF 'marlinspikelaw12.PoolRefused'. -/
def poolRefusedUptoCard : Claim7 := { stood := { row := poolRefusedUptoRow, standIns := [], harness := (true, "e9e5c6174dc82bb2552dc13cd4bdb5e3b11da0fabf40acb8eb6bfeeac1fc3db9"), looks := false }, kinds := [], alts := [], laidByText := true, laidKinds := [.data, .data, .data, .data, .data, .pinned], laidTests := true, laidLooks := .later }
def PoolRefusedUptoCardSaid : Prop := Claim7.holds Tryz.pinned (.plain (OpenSpec.upto poolRefusedSpec)) poolRefusedUptoCard

/-- THE SECOND FORM's CARD OF 'marlinspikelaw12.PoolSaved'. -/
def poolSavedUptoCard : Claim7 := { stood := { row := poolSavedUptoRow, standIns := [], harness := (true, "e9e5c6174dc82bb2552dc13cd4bdb5e3b11da0fabf40acb8eb6bfeeac1fc3db9"), looks := false }, kinds := [], alts := [], laidByText := true, laidKinds := [.data, .data, .data, .data, .data, .pinned], laidTests := true, laidLooks := .later }
def PoolSavedUptoCardSaid : Prop := Claim7.holds Tryz.pinned (.plain (OpenSpec.upto poolSavedSpec)) poolSavedUptoCard

/-- THE SECOND FORM's CARD OF 'marlinspikelaw12.PoolLoads'. -/
def poolLoadsUptoCard : Claim7 := { stood := { row := poolLoadsUptoRow, standIns := [], harness := (true, "e9e5c6174dc82bb2552dc13cd4bdb5e3b11da0fabf40acb8eb6bfeeac1fc3db9"), looks := false }, kinds := [], alts := [], laidByText := true, laidKinds := [.data, .data, .data, .data, .data, .pinned], laidTests := true, laidLooks := .later }
def PoolLoadsUptoCardSaid : Prop := Claim7.holds Tryz.pinned (.plain (OpenSpec.upto poolLoadsSpec)) poolLoadsUptoCard

/-- THE SECOND FORM's CARD OF 'marlinspikelaw12.PoolNobody'. -/
def poolNobodyUptoCard : Claim7 := { stood := { row := poolNobodyUptoRow, standIns := [], harness := (true, "e9e5c6174dc82bb2552dc13cd4bdb5e3b11da0fabf40acb8eb6bfeeac1fc3db9"), looks := false }, kinds := [], alts := [], laidByText := true, laidKinds := [.data, .data, .data, .data, .data, .pinned], laidTests := true, laidLooks := .later }
def PoolNobodyUptoCardSaid : Prop := Claim7.holds Tryz.pinned (.plain (OpenSpec.upto poolNobodySpec)) poolNobodyUptoCard
end Rows
end Go.Proofs.YtbelmljphnponaaGreatDoor
