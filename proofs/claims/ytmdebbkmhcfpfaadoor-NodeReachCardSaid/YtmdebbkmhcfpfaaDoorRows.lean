/-
  NARROWER THAN 'FOR EVERY INPUT', by the rows' own cells (each row's printed sentence says how): NodeTells: laid · NodeMay: laid · NodeReach: laid · NodeTries: laid · NodeIdle: laid.
  DERIVED. THE GIVEN ROWS OF THIS SEAT. 5 by the template 'for every input the law returns true; each argument reads behind the call as it read before'; 0 by the template 'total and deterministic' (their statements: YtmdebbkmhcfpfaaDoorTotals.lean).
  GIVEN WITH THE SEED: the statements are not yours to turn. If you find one false, say at which input.
  Laid BY PROGRAM, IN A SANDBOX (cutbox-rows.mjs): the forced cells as the released guide's own fill.sh prints them over the translation 6ad55dbced6bb4cc… (all of the seat's roots in one cut). By AI agents, Wed Nov 11 2026. No macro, syntax, notation, axiom, sorry.
-/
import Derived.Test.YtmdebbkmhcfpfaaDoorChecked
import GoSem.Claim
import GoSem.ClaimJoined
import GoSem.ClaimMapViews
import Derived.JoinedTies
import Derived.KernelRfl
namespace Go.Proofs.YtmdebbkmhcfpfaaDoor
/- THE CELL 'sum', in the pinned program and in every row, IS THE sha256 OF THE DUMP (.gsa) THAT YtmdebbkmhcfpfaaDoorProg.lean LOADS. Nothing in Lean hashes anything: it is a label: what it is worth is what the hold of that sum in a sandbox is worth. -/
noncomputable def Tryd.pinned : Pinned := { name := "ytmdebbkmhcfpfaadoor", sum := "6ad55dbced6bb4ccde25a24692a46fb97abc42386aca1c91e2a5c076681b5086", checked := Tryd.checked }
namespace Rows
def none {H : Type} : Left H := { results := [], args := [] }

/- WHAT THE LISTED PACKAGE-LEVEL VARIABLES READ AS WHEN THE CALL BEGINS. Each datum BY PROGRAM (the guide's laid-datum.mjs) off the statement by which the dump's own 'gosem.cut.vars' lays the variable. In a bare row this is a premise. The card (YtmdebbkmhcfpfaaDoorCards.lean) ties it to the program's text. -/
def laid_marlinspike_node_table {H : Type} : DataW H := .agg [.agg [.lit (.int .i64 0), .lit (.int .i64 2), .lit (.int .i64 0), .lit (.int .i64 0), .lit (.int .i64 0), .lit (.int .i64 0), .lit (.int .i64 6), .lit (.int .i64 0), .lit (.int .i64 7), .lit (.int .i64 0), .lit (.int .i64 0), .lit (.int .i64 0)], .agg [.lit (.int .i64 0), .lit (.int .i64 0), .lit (.int .i64 3), .lit (.int .i64 1), .lit (.int .i64 0), .lit (.int .i64 0), .lit (.int .i64 0), .lit (.int .i64 0), .lit (.int .i64 7), .lit (.int .i64 0), .lit (.int .i64 0), .lit (.int .i64 0)], .agg [.lit (.int .i64 0), .lit (.int .i64 0), .lit (.int .i64 0), .lit (.int .i64 0), .lit (.int .i64 4), .lit (.int .i64 0), .lit (.int .i64 6), .lit (.int .i64 0), .lit (.int .i64 7), .lit (.int .i64 0), .lit (.int .i64 8), .lit (.int .i64 0)], .agg [.lit (.int .i64 0), .lit (.int .i64 0), .lit (.int .i64 0), .lit (.int .i64 0), .lit (.int .i64 0), .lit (.int .i64 3), .lit (.int .i64 5), .lit (.int .i64 0), .lit (.int .i64 7), .lit (.int .i64 0), .lit (.int .i64 0), .lit (.int .i64 0)], .agg [.lit (.int .i64 0), .lit (.int .i64 0), .lit (.int .i64 0), .lit (.int .i64 0), .lit (.int .i64 0), .lit (.int .i64 6), .lit (.int .i64 0), .lit (.int .i64 4), .lit (.int .i64 7), .lit (.int .i64 0), .lit (.int .i64 0), .lit (.int .i64 0)], .agg [.lit (.int .i64 0), .lit (.int .i64 0), .lit (.int .i64 0), .lit (.int .i64 0), .lit (.int .i64 0), .lit (.int .i64 0), .lit (.int .i64 0), .lit (.int .i64 3), .lit (.int .i64 7), .lit (.int .i64 0), .lit (.int .i64 0), .lit (.int .i64 0)], .agg [.lit (.int .i64 0), .lit (.int .i64 0), .lit (.int .i64 0), .lit (.int .i64 0), .lit (.int .i64 0), .lit (.int .i64 0), .lit (.int .i64 0), .lit (.int .i64 0), .lit (.int .i64 0), .lit (.int .i64 1), .lit (.int .i64 0), .lit (.int .i64 0)], .agg [.lit (.int .i64 0), .lit (.int .i64 0), .lit (.int .i64 0), .lit (.int .i64 0), .lit (.int .i64 0), .lit (.int .i64 0), .lit (.int .i64 0), .lit (.int .i64 0), .lit (.int .i64 7), .lit (.int .i64 0), .lit (.int .i64 0), .lit (.int .i64 1)]]

/-- 'marlinspikelaw11.NodeTells': WHATEVER THE INPUT: true; the input reads as it did. -/
def nodeTellsSpec : ChangeSpec := { name := "nodeTells", fn := fun _ => fun
  | [d1, d2, d3] => { results := [.lit (.bool true)], args := [d1, d2, d3] }
  | _ => none }
def nodeTellsRow : OpenClaim := { program := "ytmdebbkmhcfpfaadoor", sum := "6ad55dbced6bb4ccde25a24692a46fb97abc42386aca1c91e2a5c076681b5086", func := "marlinspike/marlinspikelaw11.NodeTells", spec := "nodeTells", named := ["marlinspike/node.table"], apart := false, laid := [("marlinspike/node.table", laid_marlinspike_node_table)] }
def NodeTellsSaid : Prop := nodeTellsRow.holds Tryd.pinned (OpenSpec.ofChange nodeTellsSpec)

/-- ITS FALSE NEIGHBOUR: 'it returns false'. Refute it at one input. -/
def nodeTellsWrong : ChangeSpec := { name := "nodeTells", fn := fun _ => fun
  | [d1, d2, d3] => { results := [.lit (.bool false)], args := [d1, d2, d3] }
  | _ => none }
def NodeTellsWrongFalsely : Prop := nodeTellsRow.holds Tryd.pinned (OpenSpec.ofChange nodeTellsWrong)

/-- 'marlinspikelaw11.NodeMay': WHATEVER THE INPUT: true; the input reads as it did. -/
def nodeMaySpec : ChangeSpec := { name := "nodeMay", fn := fun _ => fun
  | [d1, d2, d3] => { results := [.lit (.bool true)], args := [d1, d2, d3] }
  | _ => none }
def nodeMayRow : OpenClaim := { program := "ytmdebbkmhcfpfaadoor", sum := "6ad55dbced6bb4ccde25a24692a46fb97abc42386aca1c91e2a5c076681b5086", func := "marlinspike/marlinspikelaw11.NodeMay", spec := "nodeMay", named := ["marlinspike/node.table"], apart := false, laid := [("marlinspike/node.table", laid_marlinspike_node_table)] }
def NodeMaySaid : Prop := nodeMayRow.holds Tryd.pinned (OpenSpec.ofChange nodeMaySpec)

/-- ITS FALSE NEIGHBOUR: 'it returns false'. Refute it at one input. -/
def nodeMayWrong : ChangeSpec := { name := "nodeMay", fn := fun _ => fun
  | [d1, d2, d3] => { results := [.lit (.bool false)], args := [d1, d2, d3] }
  | _ => none }
def NodeMayWrongFalsely : Prop := nodeMayRow.holds Tryd.pinned (OpenSpec.ofChange nodeMayWrong)

/-- 'marlinspikelaw11.NodeReach': WHATEVER THE INPUT: true; the input reads as it did. -/
def nodeReachSpec : ChangeSpec := { name := "nodeReach", fn := fun _ => fun
  | [d1, d2] => { results := [.lit (.bool true)], args := [d1, d2] }
  | _ => none }
def nodeReachRow : OpenClaim := { program := "ytmdebbkmhcfpfaadoor", sum := "6ad55dbced6bb4ccde25a24692a46fb97abc42386aca1c91e2a5c076681b5086", func := "marlinspike/marlinspikelaw11.NodeReach", spec := "nodeReach", named := ["marlinspike/node.table"], apart := false, laid := [("marlinspike/node.table", laid_marlinspike_node_table)] }
def NodeReachSaid : Prop := nodeReachRow.holds Tryd.pinned (OpenSpec.ofChange nodeReachSpec)

/-- ITS FALSE NEIGHBOUR: 'it returns false'. Refute it at one input. -/
def nodeReachWrong : ChangeSpec := { name := "nodeReach", fn := fun _ => fun
  | [d1, d2] => { results := [.lit (.bool false)], args := [d1, d2] }
  | _ => none }
def NodeReachWrongFalsely : Prop := nodeReachRow.holds Tryd.pinned (OpenSpec.ofChange nodeReachWrong)

/-- 'marlinspikelaw11.NodeTries': WHATEVER THE INPUT: true; the input reads as it did. -/
def nodeTriesSpec : ChangeSpec := { name := "nodeTries", fn := fun _ => fun
  | [d1, d2] => { results := [.lit (.bool true)], args := [d1, d2] }
  | _ => none }
def nodeTriesRow : OpenClaim := { program := "ytmdebbkmhcfpfaadoor", sum := "6ad55dbced6bb4ccde25a24692a46fb97abc42386aca1c91e2a5c076681b5086", func := "marlinspike/marlinspikelaw11.NodeTries", spec := "nodeTries", named := ["marlinspike/node.table"], apart := false, laid := [("marlinspike/node.table", laid_marlinspike_node_table)] }
def NodeTriesSaid : Prop := nodeTriesRow.holds Tryd.pinned (OpenSpec.ofChange nodeTriesSpec)

/-- ITS FALSE NEIGHBOUR: 'it returns false'. Refute it at one input. -/
def nodeTriesWrong : ChangeSpec := { name := "nodeTries", fn := fun _ => fun
  | [d1, d2] => { results := [.lit (.bool false)], args := [d1, d2] }
  | _ => none }
def NodeTriesWrongFalsely : Prop := nodeTriesRow.holds Tryd.pinned (OpenSpec.ofChange nodeTriesWrong)

/-- 'marlinspikelaw11.NodeIdle': WHATEVER THE INPUT: true; the input reads as it did. -/
def nodeIdleSpec : ChangeSpec := { name := "nodeIdle", fn := fun _ => fun
  | [d1, d2] => { results := [.lit (.bool true)], args := [d1, d2] }
  | _ => none }
def nodeIdleRow : OpenClaim := { program := "ytmdebbkmhcfpfaadoor", sum := "6ad55dbced6bb4ccde25a24692a46fb97abc42386aca1c91e2a5c076681b5086", func := "marlinspike/marlinspikelaw11.NodeIdle", spec := "nodeIdle", named := ["marlinspike/node.table"], apart := false, laid := [("marlinspike/node.table", laid_marlinspike_node_table)] }
def NodeIdleSaid : Prop := nodeIdleRow.holds Tryd.pinned (OpenSpec.ofChange nodeIdleSpec)

/-- ITS FALSE NEIGHBOUR: 'it returns false'. Refute it at one input. -/
def nodeIdleWrong : ChangeSpec := { name := "nodeIdle", fn := fun _ => fun
  | [d1, d2] => { results := [.lit (.bool false)], args := [d1, d2] }
  | _ => none }
def NodeIdleWrongFalsely : Prop := nodeIdleRow.holds Tryd.pinned (OpenSpec.ofChange nodeIdleWrong)

/- THE SECOND FORM. 'bulk': how many values and letters a reading holds, each counted each time it is reached (what is shared counts as often as it is met; a slice's spare places count too). A statement '..UptoSaid' is the law's where the arguments, and the package variables that the reading takes, are together of bulk at most 1048576: NARROWER than '..Said'. Prove '..Said' where nothing that the law and all that it calls make is longer than what came in: it says more and counts as full. Else prove '..UptoSaid'. A law counts once. -/
mutual
def uptoBulk {H : Type} : DataW H → Nat
  | .lit (.string bytes) => bytes.length + 1
  | .lit _ => 1
  | .nil => 1
  | .ptr d => uptoBulk d + 1
  | .slice elems spare => uptoBulkAll elems + uptoBulkAll spare + 1
  | .agg parts => uptoBulkAll parts + 1
  | .iface _ d => uptoBulk d + 1
  | .map entries => uptoBulkEntries entries + 1
  | .held _ => 1
def uptoBulkAll {H : Type} : List (DataW H) → Nat
  | [] => 0
  | d :: r => uptoBulk d + uptoBulkAll r
def uptoBulkEntries {H : Type} : List (Lit × DataW H) → Nat
  | [] => 0
  | x :: r => uptoBulkEntry x + uptoBulkEntries r
def uptoBulkEntry {H : Type} : Lit × DataW H → Nat
  | (.string bytes, d) => bytes.length + uptoBulk d + 1
  | (_, d) => uptoBulk d + 1
 end
def uptoSmall : (H : Type) → List (DataW H) → Bool := fun _ ds => decide (uptoBulkAll ds ≤ 1048576)
def OpenSpec.upto (s : _root_.Go.ChangeSpec) : _root_.Go.OpenSpec := { _root_.Go.OpenSpec.ofChange s with cond := some uptoSmall }

/-- 'marlinspikelaw11.NodeTells', WHERE WHAT IT READS IS OF BULK AT MOST 1048576: true; the input reads as it did. -/
def nodeTellsUptoRow : OpenClaim := { program := "ytmdebbkmhcfpfaadoor", sum := "6ad55dbced6bb4ccde25a24692a46fb97abc42386aca1c91e2a5c076681b5086", func := "marlinspike/marlinspikelaw11.NodeTells", spec := "nodeTells", named := ["marlinspike/node.table"], apart := false, laid := [("marlinspike/node.table", laid_marlinspike_node_table)], narrowed := true }
def NodeTellsUptoSaid : Prop := nodeTellsUptoRow.holds Tryd.pinned (OpenSpec.upto nodeTellsSpec)

/-- 'marlinspikelaw11.NodeMay', WHERE WHAT IT READS IS OF BULK AT MOST 1048576: true; the input reads as it did. -/
def nodeMayUptoRow : OpenClaim := { program := "ytmdebbkmhcfpfaadoor", sum := "6ad55dbced6bb4ccde25a24692a46fb97abc42386aca1c91e2a5c076681b5086", func := "marlinspike/marlinspikelaw11.NodeMay", spec := "nodeMay", named := ["marlinspike/node.table"], apart := false, laid := [("marlinspike/node.table", laid_marlinspike_node_table)], narrowed := true }
def NodeMayUptoSaid : Prop := nodeMayUptoRow.holds Tryd.pinned (OpenSpec.upto nodeMaySpec)

/-- 'marlinspikelaw11.NodeReach', WHERE WHAT IT READS IS OF BULK AT MOST 1048576: true; the input reads as it did. -/
def nodeReachUptoRow : OpenClaim := { program := "ytmdebbkmhcfpfaadoor", sum := "6ad55dbced6bb4ccde25a24692a46fb97abc42386aca1c91e2a5c076681b5086", func := "marlinspike/marlinspikelaw11.NodeReach", spec := "nodeReach", named := ["marlinspike/node.table"], apart := false, laid := [("marlinspike/node.table", laid_marlinspike_node_table)], narrowed := true }
def NodeReachUptoSaid : Prop := nodeReachUptoRow.holds Tryd.pinned (OpenSpec.upto nodeReachSpec)

/-- 'marlinspikelaw11.NodeTries', WHERE WHAT IT READS IS OF BULK AT MOST 1048576: true; the input reads as it did. -/
def nodeTriesUptoRow : OpenClaim := { program := "ytmdebbkmhcfpfaadoor", sum := "6ad55dbced6bb4ccde25a24692a46fb97abc42386aca1c91e2a5c076681b5086", func := "marlinspike/marlinspikelaw11.NodeTries", spec := "nodeTries", named := ["marlinspike/node.table"], apart := false, laid := [("marlinspike/node.table", laid_marlinspike_node_table)], narrowed := true }
def NodeTriesUptoSaid : Prop := nodeTriesUptoRow.holds Tryd.pinned (OpenSpec.upto nodeTriesSpec)

/-- 'marlinspikelaw11.NodeIdle', WHERE WHAT IT READS IS OF BULK AT MOST 1048576: true; the input reads as it did. -/
def nodeIdleUptoRow : OpenClaim := { program := "ytmdebbkmhcfpfaadoor", sum := "6ad55dbced6bb4ccde25a24692a46fb97abc42386aca1c91e2a5c076681b5086", func := "marlinspike/marlinspikelaw11.NodeIdle", spec := "nodeIdle", named := ["marlinspike/node.table"], apart := false, laid := [("marlinspike/node.table", laid_marlinspike_node_table)], narrowed := true }
def NodeIdleUptoSaid : Prop := nodeIdleUptoRow.holds Tryd.pinned (OpenSpec.upto nodeIdleSpec)

end Rows
end Go.Proofs.YtmdebbkmhcfpfaaDoor
