/-
  DERIVED. GIVEN WITH THE SEED: THE CARDS: each row of YtkmknogejhhajabDoorRows.lean that lists a variable, with what it lists TIED to the program's text (the seventh form; the later family's looks); each row that meets fmt, with fmt's text TOLD by the authors' own Lean function (tested against real Go, not proved from fmt's source: count such statements apart). THE CARD IS WHAT COUNTS. Prove the row's statement (the work); the ties are given (YtkmknogejhhajabDoorTie.lean); close each card by the builder's one call (the guide's Derived/Test/ToyasCard.lean, 'card_holds'). Laid BY PROGRAM, IN A SANDBOX (cutbox-door.mjs). By AI agents, Wed Nov 11 2026. No macro, syntax, notation, axiom, sorry.
-/
import Derived.Test.YtkmknogejhhajabDoorRows
import GoSem.ClaimSeven
namespace Go.Proofs.YtkmknogejhhajabDoor
namespace Rows

/-- THE TIED CARD OF 'marlinspikelaw05.HostNumbers'. -/
def hostNumbersCard : Claim7 := { stood := { row := hostNumbersRow, standIns := [], harness := (true, "ad2f90bdef0ef72a292cd6d4bcc0de830b7ed2bb816dc6d2ccfa88f7ddc01f65"), looks := false }, kinds := [], alts := [], laidByText := true, laidKinds := [.data, .data, .data], laidTests := true, laidLooks := .later }
def HostNumbersCardSaid : Prop := Claim7.holds Tryd.pinned (.plain (OpenSpec.ofChange hostNumbersSpec)) hostNumbersCard

/-- THE TIED CARD OF 'marlinspikelaw05.HostSorts'. -/
def hostSortsCard : Claim7 := { stood := { row := hostSortsRow, standIns := [], harness := (true, "ad2f90bdef0ef72a292cd6d4bcc0de830b7ed2bb816dc6d2ccfa88f7ddc01f65"), looks := false }, kinds := [], alts := [], laidByText := true, laidKinds := [.data, .data, .data], laidTests := true, laidLooks := .later }
def HostSortsCardSaid : Prop := Claim7.holds Tryd.pinned (.plain (OpenSpec.ofChange hostSortsSpec)) hostSortsCard

/-- THE SECOND FORM's CARD OF 'marlinspikelaw05.HostNumbers'. -/
def hostNumbersUptoCard : Claim7 := { stood := { row := hostNumbersUptoRow, standIns := [], harness := (true, "ad2f90bdef0ef72a292cd6d4bcc0de830b7ed2bb816dc6d2ccfa88f7ddc01f65"), looks := false }, kinds := [], alts := [], laidByText := true, laidKinds := [.data, .data, .data], laidTests := true, laidLooks := .later }
def HostNumbersUptoCardSaid : Prop := Claim7.holds Tryd.pinned (.plain (OpenSpec.upto hostNumbersSpec)) hostNumbersUptoCard

/-- THE SECOND FORM's CARD OF 'marlinspikelaw05.HostSorts'. -/
def hostSortsUptoCard : Claim7 := { stood := { row := hostSortsUptoRow, standIns := [], harness := (true, "ad2f90bdef0ef72a292cd6d4bcc0de830b7ed2bb816dc6d2ccfa88f7ddc01f65"), looks := false }, kinds := [], alts := [], laidByText := true, laidKinds := [.data, .data, .data], laidTests := true, laidLooks := .later }
def HostSortsUptoCardSaid : Prop := Claim7.holds Tryd.pinned (.plain (OpenSpec.upto hostSortsSpec)) hostSortsUptoCard
end Rows
end Go.Proofs.YtkmknogejhhajabDoor
