/-
  DERIVED. GIVEN WITH THE SEED: THE CARDS: each row of YtmdebbkmhcfpfaaDoorRows.lean that lists a variable, with what it lists TIED to the program's text (the seventh form; the later family's looks); each row that meets fmt, with fmt's text TOLD by the authors' own Lean function (tested against real Go, not proved from fmt's source: count such statements apart). THE CARD IS WHAT COUNTS. Prove the row's statement (the work); the ties are given (YtmdebbkmhcfpfaaDoorTie.lean); close each card by the builder's one call (the guide's Derived/Test/ToyasCard.lean, 'card_holds'). Laid BY PROGRAM, IN A SANDBOX (cutbox-door.mjs). By AI agents, Wed Nov 11 2026. No macro, syntax, notation, axiom, sorry.
-/
import Derived.Test.YtmdebbkmhcfpfaaDoorRows
import GoSem.ClaimSeven
namespace Go.Proofs.YtmdebbkmhcfpfaaDoor
namespace Rows

/-- THE TIED CARD OF 'marlinspikelaw11.NodeTells'. -/
def nodeTellsCard : Claim7 := { stood := { row := nodeTellsRow, standIns := [], harness := (true, "ced2c09c2660df92fb06f028c2ef4725790d40651c224f77e1cda20bbcad5e8e"), looks := false }, kinds := [], alts := [], laidByText := true, laidKinds := [.data], laidTests := true, laidLooks := .later }
def NodeTellsCardSaid : Prop := Claim7.holds Tryd.pinned (.plain (OpenSpec.ofChange nodeTellsSpec)) nodeTellsCard

/-- THE TIED CARD OF 'marlinspikelaw11.NodeMay'. -/
def nodeMayCard : Claim7 := { stood := { row := nodeMayRow, standIns := [], harness := (true, "ced2c09c2660df92fb06f028c2ef4725790d40651c224f77e1cda20bbcad5e8e"), looks := false }, kinds := [], alts := [], laidByText := true, laidKinds := [.data], laidTests := true, laidLooks := .later }
def NodeMayCardSaid : Prop := Claim7.holds Tryd.pinned (.plain (OpenSpec.ofChange nodeMaySpec)) nodeMayCard

/-- THE TIED CARD OF 'marlinspikelaw11.NodeReach'. -/
def nodeReachCard : Claim7 := { stood := { row := nodeReachRow, standIns := [], harness := (true, "ced2c09c2660df92fb06f028c2ef4725790d40651c224f77e1cda20bbcad5e8e"), looks := false }, kinds := [], alts := [], laidByText := true, laidKinds := [.data], laidTests := true, laidLooks := .later }
def NodeReachCardSaid : Prop := Claim7.holds Tryd.pinned (.plain (OpenSpec.ofChange nodeReachSpec)) nodeReachCard

/-- THE TIED CARD OF 'marlinspikelaw11.NodeTries'. -/
def nodeTriesCard : Claim7 := { stood := { row := nodeTriesRow, standIns := [], harness := (true, "ced2c09c2660df92fb06f028c2ef4725790d40651c224f77e1cda20bbcad5e8e"), looks := false }, kinds := [], alts := [], laidByText := true, laidKinds := [.data], laidTests := true, laidLooks := .later }
def NodeTriesCardSaid : Prop := Claim7.holds Tryd.pinned (.plain (OpenSpec.ofChange nodeTriesSpec)) nodeTriesCard

/-- THE TIED CARD OF 'marlinspikelaw11.NodeIdle'. -/
def nodeIdleCard : Claim7 := { stood := { row := nodeIdleRow, standIns := [], harness := (true, "ced2c09c2660df92fb06f028c2ef4725790d40651c224f77e1cda20bbcad5e8e"), looks := false }, kinds := [], alts := [], laidByText := true, laidKinds := [.data], laidTests := true, laidLooks := .later }
def NodeIdleCardSaid : Prop := Claim7.holds Tryd.pinned (.plain (OpenSpec.ofChange nodeIdleSpec)) nodeIdleCard

/-- THE SECOND FORM's CARD OF 'marlinspikelaw11.NodeTells'. -/
def nodeTellsUptoCard : Claim7 := { stood := { row := nodeTellsUptoRow, standIns := [], harness := (true, "ced2c09c2660df92fb06f028c2ef4725790d40651c224f77e1cda20bbcad5e8e"), looks := false }, kinds := [], alts := [], laidByText := true, laidKinds := [.data], laidTests := true, laidLooks := .later }
def NodeTellsUptoCardSaid : Prop := Claim7.holds Tryd.pinned (.plain (OpenSpec.upto nodeTellsSpec)) nodeTellsUptoCard

/-- THE SECOND FORM's CARD OF 'marlinspikelaw11.NodeMay'. -/
def nodeMayUptoCard : Claim7 := { stood := { row := nodeMayUptoRow, standIns := [], harness := (true, "ced2c09c2660df92fb06f028c2ef4725790d40651c224f77e1cda20bbcad5e8e"), looks := false }, kinds := [], alts := [], laidByText := true, laidKinds := [.data], laidTests := true, laidLooks := .later }
def NodeMayUptoCardSaid : Prop := Claim7.holds Tryd.pinned (.plain (OpenSpec.upto nodeMaySpec)) nodeMayUptoCard

/-- THE SECOND FORM's CARD OF 'marlinspikelaw11.NodeReach'. -/
def nodeReachUptoCard : Claim7 := { stood := { row := nodeReachUptoRow, standIns := [], harness := (true, "ced2c09c2660df92fb06f028c2ef4725790d40651c224f77e1cda20bbcad5e8e"), looks := false }, kinds := [], alts := [], laidByText := true, laidKinds := [.data], laidTests := true, laidLooks := .later }
def NodeReachUptoCardSaid : Prop := Claim7.holds Tryd.pinned (.plain (OpenSpec.upto nodeReachSpec)) nodeReachUptoCard

/-- THE SECOND FORM's CARD OF 'marlinspikelaw11.NodeTries'. -/
def nodeTriesUptoCard : Claim7 := { stood := { row := nodeTriesUptoRow, standIns := [], harness := (true, "ced2c09c2660df92fb06f028c2ef4725790d40651c224f77e1cda20bbcad5e8e"), looks := false }, kinds := [], alts := [], laidByText := true, laidKinds := [.data], laidTests := true, laidLooks := .later }
def NodeTriesUptoCardSaid : Prop := Claim7.holds Tryd.pinned (.plain (OpenSpec.upto nodeTriesSpec)) nodeTriesUptoCard

/-- THE SECOND FORM's CARD OF 'marlinspikelaw11.NodeIdle'. -/
def nodeIdleUptoCard : Claim7 := { stood := { row := nodeIdleUptoRow, standIns := [], harness := (true, "ced2c09c2660df92fb06f028c2ef4725790d40651c224f77e1cda20bbcad5e8e"), looks := false }, kinds := [], alts := [], laidByText := true, laidKinds := [.data], laidTests := true, laidLooks := .later }
def NodeIdleUptoCardSaid : Prop := Claim7.holds Tryd.pinned (.plain (OpenSpec.upto nodeIdleSpec)) nodeIdleUptoCard
end Rows
end Go.Proofs.YtmdebbkmhcfpfaaDoor
