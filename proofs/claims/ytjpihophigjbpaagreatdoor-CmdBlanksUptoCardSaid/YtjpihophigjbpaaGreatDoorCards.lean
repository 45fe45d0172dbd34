/-
  DERIVED. GIVEN WITH THE SEED: THE CARDS: each row of YtjpihophigjbpaaGreatDoorRows.lean that lists a variable, with what it lists TIED to the program's text (the seventh form; the later family's looks); each row that meets fmt, with fmt's text TOLD by the authors' own Lean function (tested against real Go, not proved from fmt's source: count such statements apart). THE CARD IS WHAT COUNTS. Prove the row's statement (the work); the ties are given (YtjpihophigjbpaaGreatDoorTie.lean); close each card by the builder's one call (the guide's Derived/Test/ToyasCard.lean, 'card_holds'). Laid BY PROGRAM, IN A SANDBOX (cutbox-door.mjs). By AI agents, Wed Nov 11 2026. No macro, syntax, notation, axiom, sorry.
-/
import Derived.Test.YtjpihophigjbpaaGreatDoorRows
import GoSem.ClaimSeven
namespace Go.Proofs.YtjpihophigjbpaaGreatDoor
namespace Rows

/-- THE TIED CARD OF 'marlinspikelaw10.CmdBack'. -/
def cmdBackCard : Claim7 := { stood := { row := cmdBackRow, standIns := [], harness := (true, "6d516cc18c0b2b7132e7749f1775fca3adce2bc0a67d6825e09a5d9d7f0aedc4"), looks := true }, kinds := [], alts := [], laidByText := true, laidKinds := [.data, .data, .data, .data, .sentinel, .sentinel, .pinned], laidTests := true, laidLooks := .later }
def CmdBackCardSaid : Prop := Claim7.holds Tryz.pinned (.plain (OpenSpec.ofChange cmdBackSpec)) cmdBackCard

/-- THE TIED CARD OF 'marlinspikelaw10.CmdMay'. -/
def cmdMayCard : Claim7 := { stood := { row := cmdMayRow, standIns := [], harness := (true, "6d516cc18c0b2b7132e7749f1775fca3adce2bc0a67d6825e09a5d9d7f0aedc4"), looks := true }, kinds := [], alts := [], laidByText := true, laidKinds := [.data, .data, .data, .data, .sentinel, .sentinel, .pinned], laidTests := true, laidLooks := .later }
def CmdMayCardSaid : Prop := Claim7.holds Tryz.pinned (.plain (OpenSpec.ofChange cmdMaySpec)) cmdMayCard

/-- THE TIED CARD OF 'marlinspikelaw10.CmdOrder'. -/
def cmdOrderCard : Claim7 := { stood := { row := cmdOrderRow, standIns := [], harness := (true, "6d516cc18c0b2b7132e7749f1775fca3adce2bc0a67d6825e09a5d9d7f0aedc4"), looks := true }, kinds := [], alts := [], laidByText := true, laidKinds := [.data, .data, .data, .data, .sentinel, .sentinel, .pinned], laidTests := true, laidLooks := .later }
def CmdOrderCardSaid : Prop := Claim7.holds Tryz.pinned (.plain (OpenSpec.ofChange cmdOrderSpec)) cmdOrderCard

/-- THE TIED CARD OF 'marlinspikelaw10.CmdBlanks'. -/
def cmdBlanksCard : Claim7 := { stood := { row := cmdBlanksRow, standIns := [], harness := (true, "6d516cc18c0b2b7132e7749f1775fca3adce2bc0a67d6825e09a5d9d7f0aedc4"), looks := true }, kinds := [], alts := [], laidByText := true, laidKinds := [.data, .data, .data, .data, .sentinel, .sentinel, .pinned], laidTests := true, laidLooks := .later }
def CmdBlanksCardSaid : Prop := Claim7.holds Tryz.pinned (.plain (OpenSpec.ofChange cmdBlanksSpec)) cmdBlanksCard

/-- THE SECOND FORM's CARD OF 'marlinspikelaw10.CmdBack'. -/
def cmdBackUptoCard : Claim7 := { stood := { row := cmdBackUptoRow, standIns := [], harness := (true, "6d516cc18c0b2b7132e7749f1775fca3adce2bc0a67d6825e09a5d9d7f0aedc4"), looks := true }, kinds := [], alts := [], laidByText := true, laidKinds := [.data, .data, .data, .data, .sentinel, .sentinel, .pinned], laidTests := true, laidLooks := .later }
def CmdBackUptoCardSaid : Prop := Claim7.holds Tryz.pinned (.plain (OpenSpec.upto cmdBackSpec)) cmdBackUptoCard

/-- THE SECOND FORM's CARD OF 'marlinspikelaw10.CmdMay'. -/
def cmdMayUptoCard : Claim7 := { stood := { row := cmdMayUptoRow, standIns := [], harness := (true, "6d516cc18c0b2b7132e7749f1775fca3adce2bc0a67d6825e09a5d9d7f0aedc4"), looks := true }, kinds := [], alts := [], laidByText := true, laidKinds := [.data, .data, .data, .data, .sentinel, .sentinel, .pinned], laidTests := true, laidLooks := .later }
def CmdMayUptoCardSaid : Prop := Claim7.holds Tryz.pinned (.plain (OpenSpec.upto cmdMaySpec)) cmdMayUptoCard

/-- THE SECOND FORM's CARD OF 'marlinspikelaw10.CmdOrder'. -/
def cmdOrderUptoCard : Claim7 := { stood := { row := cmdOrderUptoRow, standIns := [], harness := (true, "6d516cc18c0b2b7132e7749f1775fca3adce2bc0a67d6825e09a5d9d7f0aedc4"), looks := true }, kinds := [], alts := [], laidByText := true, laidKinds := [.data, .data, .data, .data, .sentinel, .sentinel, .pinned], laidTests := true, laidLooks := .later }
def CmdOrderUptoCardSaid : Prop := Claim7.holds Tryz.pinned (.plain (OpenSpec.upto cmdOrderSpec)) cmdOrderUptoCard

/-- THE SECOND FORM's CARD OF 'marlinspikelaw10.CmdBlanks'. -/
def cmdBlanksUptoCard : Claim7 := { stood := { row := cmdBlanksUptoRow, standIns := [], harness := (true, "6d516cc18c0b2b7132e7749f1775fca3adce2bc0a67d6825e09a5d9d7f0aedc4"), looks := true }, kinds := [], alts := [], laidByText := true, laidKinds := [.data, .data, .data, .data, .sentinel, .sentinel, .pinned], laidTests := true, laidLooks := .later }
def CmdBlanksUptoCardSaid : Prop := Claim7.holds Tryz.pinned (.plain (OpenSpec.upto cmdBlanksSpec)) cmdBlanksUptoCard
end Rows
end Go.Proofs.YtjpihophigjbpaaGreatDoor
