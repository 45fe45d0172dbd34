/-
  DERIVED. GIVEN WITH THE SEED: THE CARDS: each row of YtghnpkpmgpbmcaaGreatDoorRows.lean that lists a variable, with what it lists TIED to the program's text (the seventh form; the later family's looks); each row that meets fmt, with fmt's text TOLD by the authors' own Lean function (tested against real Go, not proved from fmt's source: count such statements apart). THE CARD IS WHAT COUNTS. Prove the row's statement (the work); the ties are given (YtghnpkpmgpbmcaaGreatDoorTie.lean); close each card by the builder's one call (the guide's Derived/Test/ToyasCard.lean, 'card_holds'). Laid BY PROGRAM, IN A SANDBOX (cutbox-door.mjs). By AI agents, Wed Nov 11 2026. No macro, syntax, notation, axiom, sorry.
-/
import Derived.Test.YtghnpkpmgpbmcaaGreatDoorRows
import GoSem.ClaimSeven
namespace Go.Proofs.YtghnpkpmgpbmcaaGreatDoor
namespace Rows

/-- THE TIED CARD OF 'marlinspikelaw09.ConfParses'. -/
def confParsesCard : Claim7 := { stood := { row := confParsesRow, standIns := [], harness := (true, "9760a431293318235a5feadd767bcd3e2e41c6d334d926082747f7cccabec352"), looks := true }, kinds := [], alts := [], laidByText := true, laidKinds := [.data, .data, .data, .data, .sentinel, .sentinel, .pinned], laidTests := true, laidLooks := .later }
def ConfParsesCardSaid : Prop := Claim7.holds Tryz.pinned (.plain (OpenSpec.ofChange confParsesSpec)) confParsesCard

/-- THE TIED CARD OF 'marlinspikelaw09.ConfFinds'. -/
def confFindsCard : Claim7 := { stood := { row := confFindsRow, standIns := [], harness := (true, "9760a431293318235a5feadd767bcd3e2e41c6d334d926082747f7cccabec352"), looks := true }, kinds := [], alts := [], laidByText := true, laidKinds := [.data, .data, .data, .data, .sentinel, .sentinel, .pinned], laidTests := true, laidLooks := .later }
def ConfFindsCardSaid : Prop := Claim7.holds Tryz.pinned (.plain (OpenSpec.ofChange confFindsSpec)) confFindsCard

/-- THE TIED CARD OF 'marlinspikelaw09.ConfMay'. -/
def confMayCard : Claim7 := { stood := { row := confMayRow, standIns := [], harness := (true, "9760a431293318235a5feadd767bcd3e2e41c6d334d926082747f7cccabec352"), looks := true }, kinds := [], alts := [], laidByText := true, laidKinds := [.data, .data, .data, .data, .sentinel, .sentinel, .pinned], laidTests := true, laidLooks := .later }
def ConfMayCardSaid : Prop := Claim7.holds Tryz.pinned (.plain (OpenSpec.ofChange confMaySpec)) confMayCard

/-- THE TIED CARD OF 'marlinspikelaw09.ConfLists'. -/
def confListsCard : Claim7 := { stood := { row := confListsRow, standIns := [], harness := (true, "9760a431293318235a5feadd767bcd3e2e41c6d334d926082747f7cccabec352"), looks := true }, kinds := [], alts := [], laidByText := true, laidKinds := [.data, .data, .data, .data, .sentinel, .sentinel, .pinned], laidTests := true, laidLooks := .later }
def ConfListsCardSaid : Prop := Claim7.holds Tryz.pinned (.plain (OpenSpec.ofChange confListsSpec)) confListsCard

/-- THE TIED CARD OF 'marlinspikelaw09.ConfSets'. -/
def confSetsCard : Claim7 := { stood := { row := confSetsRow, standIns := [], harness := (true, "9760a431293318235a5feadd767bcd3e2e41c6d334d926082747f7cccabec352"), looks := true }, kinds := [], alts := [], laidByText := true, laidKinds := [.data, .data, .data, .data, .sentinel, .sentinel, .pinned], laidTests := true, laidLooks := .later }
def ConfSetsCardSaid : Prop := Claim7.holds Tryz.pinned (.plain (OpenSpec.ofChange confSetsSpec)) confSetsCard

/-- THE SECOND FORM's CARD OF 'marlinspikelaw09.ConfParses'. -/
def confParsesUptoCard : Claim7 := { stood := { row := confParsesUptoRow, standIns := [], harness := (true, "9760a431293318235a5feadd767bcd3e2e41c6d334d926082747f7cccabec352"), looks := true }, kinds := [], alts := [], laidByText := true, laidKinds := [.data, .data, .data, .data, .sentinel, .sentinel, .pinned], laidTests := true, laidLooks := .later }
def ConfParsesUptoCardSaid : Prop := Claim7.holds Tryz.pinned (.plain (OpenSpec.upto confParsesSpec)) confParsesUptoCard

/-- THE SECOND FORM's CARD OF 'marlinspikelaw09.ConfFinds'. -/
def confFindsUptoCard : Claim7 := { stood := { row := confFindsUptoRow, standIns := [], harness := (true, "9760a431293318235a5feadd767bcd3e2e41c6d334d926082747f7cccabec352"), looks := true }, kinds := [], alts := [], laidByText := true, laidKinds := [.data, .data, .data, .data, .sentinel, .sentinel, .pinned], laidTests := true, laidLooks := .later }
def ConfFindsUptoCardSaid : Prop := Claim7.holds Tryz.pinned (.plain (OpenSpec.upto confFindsSpec)) confFindsUptoCard

/-- THE SECOND FORM's CARD OF 'marlinspikelaw09.ConfMay'. -/
def confMayUptoCard : Claim7 := { stood := { row := confMayUptoRow, standIns := [], harness := (true, "9760a431293318235a5feadd767bcd3e2e41c6d334d926082747f7cccabec352"), looks := true }, kinds := [], alts := [], laidByText := true, laidKinds := [.data, .data, .data, .data, .sentinel, .sentinel, .pinned], laidTests := true, laidLooks := .later }
def ConfMayUptoCardSaid : Prop := Claim7.holds Tryz.pinned (.plain (OpenSpec.upto confMaySpec)) confMayUptoCard

/-- THE SECOND FORM's CARD OF 'marlinspikelaw09.ConfLists'. -/
def confListsUptoCard : Claim7 := { stood := { row := confListsUptoRow, standIns := [], harness := (true, "9760a431293318235a5feadd767bcd3e2e41c6d334d926082747f7cccabec352"), looks := true }, kinds := [], alts := [], laidByText := true, laidKinds := [.data, .data, .data, .data, .sentinel, .sentinel, .pinned], laidTests := true, laidLooks := .later }
def ConfListsUptoCardSaid : Prop := Claim7.holds Tryz.pinned (.plain (OpenSpec.upto confListsSpec)) confListsUptoCard

/-- THE SECOND FORM's CARD OF 'marlinspikelaw09.ConfSets'. -/
def confSetsUptoCard : Claim7 := { stood := { row := confSetsUptoRow, standIns := [], harness := (true, "9760a431293318235a5feadd767bcd3e2e41c6d334d926082747f7cccabec352"), looks := true }, kinds := [], alts := [], laidByText := true, laidKinds := [.data, .data, .data, .data, .sentinel, .sentinel, .pinned], laidTests := true, laidLooks := .later }
def ConfSetsUptoCardSaid : Prop := Claim7.holds Tryz.pinned (.plain (OpenSpec.upto confSetsSpec)) confSetsUptoCard
end Rows
end Go.Proofs.YtghnpkpmgpbmcaaGreatDoor
