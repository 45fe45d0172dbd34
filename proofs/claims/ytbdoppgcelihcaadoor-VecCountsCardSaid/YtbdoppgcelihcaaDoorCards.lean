/-
  DERIVED. GIVEN WITH THE SEED: THE CARDS: each row of YtbdoppgcelihcaaDoorRows.lean that lists a variable, with what it lists TIED to the program's text (the seventh form; the later family's looks); each row that meets fmt, with fmt's text TOLD by the authors' own Lean function (tested against real Go, not proved from fmt's source: count such statements apart). THE CARD IS WHAT COUNTS. Prove the row's statement (the work); the ties are given (YtbdoppgcelihcaaDoorTie.lean); close each card by the builder's one call (the guide's Derived/Test/ToyasCard.lean, 'card_holds'). Laid BY PROGRAM, IN A SANDBOX (cutbox-door.mjs). By AI agents, Wed Nov 11 2026. No macro, syntax, notation, axiom, sorry.
-/
import Derived.Test.YtbdoppgcelihcaaDoorRows
import GoSem.ClaimSeven
namespace Go.Proofs.YtbdoppgcelihcaaDoor
namespace Rows

/-- THE TIED CARD OF 'marlinspikelaw05.HostNumbers'. -/
def hostNumbersCard : Claim7 := { stood := { row := hostNumbersRow, standIns := [], harness := (true, "21fe2d4f4eb5a868ff40d6de3654ae6d822904df4b84bb23abd920e47b573a8b"), looks := true }, kinds := [], alts := [], laidByText := true, laidKinds := [.data, .data, .data], laidTests := true, laidLooks := .later }
def HostNumbersCardSaid : Prop := Claim7.holds Tryd.pinned (.plain (OpenSpec.ofChange hostNumbersSpec)) hostNumbersCard

/-- THE TIED CARD OF 'marlinspikelaw05.HostSorts'. -/
def hostSortsCard : Claim7 := { stood := { row := hostSortsRow, standIns := [], harness := (true, "21fe2d4f4eb5a868ff40d6de3654ae6d822904df4b84bb23abd920e47b573a8b"), looks := true }, kinds := [], alts := [], laidByText := true, laidKinds := [.data, .data, .data], laidTests := true, laidLooks := .later }
def HostSortsCardSaid : Prop := Claim7.holds Tryd.pinned (.plain (OpenSpec.ofChange hostSortsSpec)) hostSortsCard

/-- THE TIED CARD OF 'marlinspikelaw06.VecCounts'. -/
def vecCountsCard : Claim7 := { stood := { row := vecCountsRow, standIns := [], harness := (true, "21fe2d4f4eb5a868ff40d6de3654ae6d822904df4b84bb23abd920e47b573a8b"), looks := true }, kinds := [], alts := [], laidByText := true, laidKinds := [.data, .data, .data, .data, .sentinel, .sentinel, .pinned], laidTests := true, laidLooks := .later }
def VecCountsCardSaid : Prop := Claim7.holds Tryd.pinned (.plain (OpenSpec.ofChange vecCountsSpec)) vecCountsCard

/-- THE SECOND FORM's CARD OF 'marlinspikelaw05.HostNumbers'. -/
def hostNumbersUptoCard : Claim7 := { stood := { row := hostNumbersUptoRow, standIns := [], harness := (true, "21fe2d4f4eb5a868ff40d6de3654ae6d822904df4b84bb23abd920e47b573a8b"), looks := true }, kinds := [], alts := [], laidByText := true, laidKinds := [.data, .data, .data], laidTests := true, laidLooks := .later }
def HostNumbersUptoCardSaid : Prop := Claim7.holds Tryd.pinned (.plain (OpenSpec.upto hostNumbersSpec)) hostNumbersUptoCard

/-- THE SECOND FORM's CARD OF 'marlinspikelaw05.HostSorts'. -/
def hostSortsUptoCard : Claim7 := { stood := { row := hostSortsUptoRow, standIns := [], harness := (true, "21fe2d4f4eb5a868ff40d6de3654ae6d822904df4b84bb23abd920e47b573a8b"), looks := true }, kinds := [], alts := [], laidByText := true, laidKinds := [.data, .data, .data], laidTests := true, laidLooks := .later }
def HostSortsUptoCardSaid : Prop := Claim7.holds Tryd.pinned (.plain (OpenSpec.upto hostSortsSpec)) hostSortsUptoCard

/-- THE SECOND FORM's CARD OF 'marlinspikelaw06.VecCounts'. -/
def vecCountsUptoCard : Claim7 := { stood := { row := vecCountsUptoRow, standIns := [], harness := (true, "21fe2d4f4eb5a868ff40d6de3654ae6d822904df4b84bb23abd920e47b573a8b"), looks := true }, kinds := [], alts := [], laidByText := true, laidKinds := [.data, .data, .data, .data, .sentinel, .sentinel, .pinned], laidTests := true, laidLooks := .later }
def VecCountsUptoCardSaid : Prop := Claim7.holds Tryd.pinned (.plain (OpenSpec.upto vecCountsSpec)) vecCountsUptoCard
end Rows
end Go.Proofs.YtbdoppgcelihcaaDoor
