/-
  NARROWER THAN 'FOR EVERY INPUT', by the rows' own cells (each row's printed sentence says how): RecBytes: laid · RecTakes: laid · RecBack: laid · RecEdges: laid.
  DERIVED. THE GIVEN ROWS OF THIS SEAT. 4 by the template 'for every input the law returns true; each argument reads behind the call as it read before'; 0 by the template 'total and deterministic' (their statements: YtimoncjdfmfojaaDoorTotals.lean).
  GIVEN WITH THE SEED: the statements are not yours to turn. If you find one false, say at which input.
  Laid BY PROGRAM, IN A SANDBOX (cutbox-rows.mjs): the forced cells as the released guide's own fill.sh prints them over the translation 6f419332d3f2af6c… (all of the seat's roots in one cut). By AI agents, Wed Nov 11 2026. No macro, syntax, notation, axiom, sorry.
-/
import Derived.Test.YtimoncjdfmfojaaDoorChecked
import GoSem.Claim
import GoSem.ClaimJoined
import GoSem.ClaimMapViews
import Derived.JoinedTies
import Derived.KernelRfl
namespace Go.Proofs.YtimoncjdfmfojaaDoor
/- THE CELL 'sum', in the pinned program and in every row, IS THE sha256 OF THE DUMP (.gsa) THAT YtimoncjdfmfojaaDoorProg.lean LOADS. Nothing in Lean hashes anything: it is a label: what it is worth is what the hold of that sum in a sandbox is worth. -/
noncomputable def Tryd.pinned : Pinned := { name := "ytimoncjdfmfojaadoor", sum := "6f419332d3f2af6c14e6ab95d5cdf8c70436c57868c073716adca29cee0ecb0e", checked := Tryd.checked }
namespace Rows
def none {H : Type} : Left H := { results := [], args := [] }

/- WHAT THE LISTED PACKAGE-LEVEL VARIABLES READ AS WHEN THE CALL BEGINS. Each datum BY PROGRAM (the guide's laid-datum.mjs) off the statement by which the dump's own 'gosem.cut.vars' lays the variable. In a bare row this is a premise. The card (YtimoncjdfmfojaaDoorCards.lean) ties it to the program's text. -/
def laid_fairway_sum_steps {H : Type} : DataW H := .agg [.lit (.int .u32 0), .lit (.int .u32 274646895), .lit (.int .u32 549293790), .lit (.int .u32 820201905), .lit (.int .u32 1098587580), .lit (.int .u32 1361435347), .lit (.int .u32 1640403810), .lit (.int .u32 1905808397), .lit (.int .u32 2197175160), .lit (.int .u32 2460548119), .lit (.int .u32 2722870694), .lit (.int .u32 2987750089), .lit (.int .u32 3280807620), .lit (.int .u32 3553878443), .lit (.int .u32 3811616794), .lit (.int .u32 4084100981)]

/-- 'fairwaylaw10.RecBytes': WHATEVER THE INPUT: true; the input reads as it did. -/
def recBytesSpec : ChangeSpec := { name := "recBytes", fn := fun _ => fun
  | [d] => { results := [.lit (.bool true)], args := [d] }
  | _ => none }
def recBytesRow : OpenClaim := { program := "ytimoncjdfmfojaadoor", sum := "6f419332d3f2af6c14e6ab95d5cdf8c70436c57868c073716adca29cee0ecb0e", func := "fairway/fairwaylaw10.RecBytes", spec := "recBytes", inPlace := ["internal/abi.NoEscape"], named := ["fairway/sum.steps"], apart := false, laid := [("fairway/sum.steps", laid_fairway_sum_steps)] }
def RecBytesSaid : Prop := recBytesRow.holds Tryd.pinned (OpenSpec.ofChange recBytesSpec)

/-- ITS FALSE NEIGHBOUR: 'it returns false'. Refute it at one input. -/
def recBytesWrong : ChangeSpec := { name := "recBytes", fn := fun _ => fun
  | [d] => { results := [.lit (.bool false)], args := [d] }
  | _ => none }
def RecBytesWrongFalsely : Prop := recBytesRow.holds Tryd.pinned (OpenSpec.ofChange recBytesWrong)

/-- 'fairwaylaw10.RecTakes': WHATEVER THE INPUT: true; the input reads as it did. -/
def recTakesSpec : ChangeSpec := { name := "recTakes", fn := fun _ => fun
  | [d] => { results := [.lit (.bool true)], args := [d] }
  | _ => none }
def recTakesRow : OpenClaim := { program := "ytimoncjdfmfojaadoor", sum := "6f419332d3f2af6c14e6ab95d5cdf8c70436c57868c073716adca29cee0ecb0e", func := "fairway/fairwaylaw10.RecTakes", spec := "recTakes", inPlace := ["internal/abi.NoEscape"], named := ["fairway/sum.steps"], apart := false, laid := [("fairway/sum.steps", laid_fairway_sum_steps)] }
def RecTakesSaid : Prop := recTakesRow.holds Tryd.pinned (OpenSpec.ofChange recTakesSpec)

/-- ITS FALSE NEIGHBOUR: 'it returns false'. Refute it at one input. -/
def recTakesWrong : ChangeSpec := { name := "recTakes", fn := fun _ => fun
  | [d] => { results := [.lit (.bool false)], args := [d] }
  | _ => none }
def RecTakesWrongFalsely : Prop := recTakesRow.holds Tryd.pinned (OpenSpec.ofChange recTakesWrong)

/-- 'fairwaylaw10.RecBack': WHATEVER THE INPUT: true; the input reads as it did. -/
def recBackSpec : ChangeSpec := { name := "recBack", fn := fun _ => fun
  | [d] => { results := [.lit (.bool true)], args := [d] }
  | _ => none }
def recBackRow : OpenClaim := { program := "ytimoncjdfmfojaadoor", sum := "6f419332d3f2af6c14e6ab95d5cdf8c70436c57868c073716adca29cee0ecb0e", func := "fairway/fairwaylaw10.RecBack", spec := "recBack", inPlace := ["internal/abi.NoEscape"], named := ["fairway/sum.steps"], apart := false, laid := [("fairway/sum.steps", laid_fairway_sum_steps)] }
def RecBackSaid : Prop := recBackRow.holds Tryd.pinned (OpenSpec.ofChange recBackSpec)

/-- ITS FALSE NEIGHBOUR: 'it returns false'. Refute it at one input. -/
def recBackWrong : ChangeSpec := { name := "recBack", fn := fun _ => fun
  | [d] => { results := [.lit (.bool false)], args := [d] }
  | _ => none }
def RecBackWrongFalsely : Prop := recBackRow.holds Tryd.pinned (OpenSpec.ofChange recBackWrong)

/-- 'fairwaylaw10.RecEdges': WHATEVER THE INPUT: true; the input reads as it did. -/
def recEdgesSpec : ChangeSpec := { name := "recEdges", fn := fun _ => fun
  | [d] => { results := [.lit (.bool true)], args := [d] }
  | _ => none }
def recEdgesRow : OpenClaim := { program := "ytimoncjdfmfojaadoor", sum := "6f419332d3f2af6c14e6ab95d5cdf8c70436c57868c073716adca29cee0ecb0e", func := "fairway/fairwaylaw10.RecEdges", spec := "recEdges", inPlace := ["internal/abi.NoEscape"], named := ["fairway/sum.steps"], apart := false, laid := [("fairway/sum.steps", laid_fairway_sum_steps)] }
def RecEdgesSaid : Prop := recEdgesRow.holds Tryd.pinned (OpenSpec.ofChange recEdgesSpec)

/-- ITS FALSE NEIGHBOUR: 'it returns false'. Refute it at one input. -/
def recEdgesWrong : ChangeSpec := { name := "recEdges", fn := fun _ => fun
  | [d] => { results := [.lit (.bool false)], args := [d] }
  | _ => none }
def RecEdgesWrongFalsely : Prop := recEdgesRow.holds Tryd.pinned (OpenSpec.ofChange recEdgesWrong)

/- THE SECOND FORM. 'bulk': how many values and letters a reading holds, each counted each time it is reached (what is shared counts as often as it is met; a slice's spare places count too). A statement '..UptoSaid' is the law's where the arguments, and the package variables that the reading takes, are together of bulk at most 1048576: NARROWER than '..Said'. Prove '..Said' where nothing that the law and all that it calls make is longer than what came in: it says more and counts as full. Else prove '..UptoSaid'. A law counts once. -/
mutual
def uptoBulk {H : Type} : DataW H → Nat
  | .lit (.string bytes) => bytes.length + 1
  | .lit _ => 1
  | .nil => 1
  | .ptr d => uptoBulk d + 1
  | .slice elems spare => uptoBulkAll elems + uptoBulkAll spare + 1
  | .agg parts => uptoBulkAll parts + 1
  | .iface _ d => uptoBulk d + 1
  | .map entries => uptoBulkEntries entries + 1
  | .held _ => 1
def uptoBulkAll {H : Type} : List (DataW H) → Nat
  | [] => 0
  | d :: r => uptoBulk d + uptoBulkAll r
def uptoBulkEntries {H : Type} : List (Lit × DataW H) → Nat
  | [] => 0
  | x :: r => uptoBulkEntry x + uptoBulkEntries r
def uptoBulkEntry {H : Type} : Lit × DataW H → Nat
  | (.string bytes, d) => bytes.length + uptoBulk d + 1
  | (_, d) => uptoBulk d + 1
 end
def uptoSmall : (H : Type) → List (DataW H) → Bool := fun _ ds => decide (uptoBulkAll ds ≤ 1048576)
def OpenSpec.upto (s : _root_.Go.ChangeSpec) : _root_.Go.OpenSpec := { _root_.Go.OpenSpec.ofChange s with cond := some uptoSmall }

/-- 'fairwaylaw10.RecBytes', WHERE WHAT IT READS IS OF BULK AT MOST 1048576: true; the input reads as it did. -/
def recBytesUptoRow : OpenClaim := { program := "ytimoncjdfmfojaadoor", sum := "6f419332d3f2af6c14e6ab95d5cdf8c70436c57868c073716adca29cee0ecb0e", func := "fairway/fairwaylaw10.RecBytes", spec := "recBytes", inPlace := ["internal/abi.NoEscape"], named := ["fairway/sum.steps"], apart := false, laid := [("fairway/sum.steps", laid_fairway_sum_steps)], narrowed := true }
def RecBytesUptoSaid : Prop := recBytesUptoRow.holds Tryd.pinned (OpenSpec.upto recBytesSpec)

/-- 'fairwaylaw10.RecTakes', WHERE WHAT IT READS IS OF BULK AT MOST 1048576: true; the input reads as it did. -/
def recTakesUptoRow : OpenClaim := { program := "ytimoncjdfmfojaadoor", sum := "6f419332d3f2af6c14e6ab95d5cdf8c70436c57868c073716adca29cee0ecb0e", func := "fairway/fairwaylaw10.RecTakes", spec := "recTakes", inPlace := ["internal/abi.NoEscape"], named := ["fairway/sum.steps"], apart := false, laid := [("fairway/sum.steps", laid_fairway_sum_steps)], narrowed := true }
def RecTakesUptoSaid : Prop := recTakesUptoRow.holds Tryd.pinned (OpenSpec.upto recTakesSpec)

/-- 'fairwaylaw10.RecBack', WHERE WHAT IT READS IS OF BULK AT MOST 1048576: true; the input reads as it did. -/
def recBackUptoRow : OpenClaim := { program := "ytimoncjdfmfojaadoor", sum := "6f419332d3f2af6c14e6ab95d5cdf8c70436c57868c073716adca29cee0ecb0e", func := "fairway/fairwaylaw10.RecBack", spec := "recBack", inPlace := ["internal/abi.NoEscape"], named := ["fairway/sum.steps"], apart := false, laid := [("fairway/sum.steps", laid_fairway_sum_steps)], narrowed := true }
def RecBackUptoSaid : Prop := recBackUptoRow.holds Tryd.pinned (OpenSpec.upto recBackSpec)

/-- 'fairwaylaw10.RecEdges', WHERE WHAT IT READS IS OF BULK AT MOST 1048576: true; the input reads as it did. -/
def recEdgesUptoRow : OpenClaim := { program := "ytimoncjdfmfojaadoor", sum := "6f419332d3f2af6c14e6ab95d5cdf8c70436c57868c073716adca29cee0ecb0e", func := "fairway/fairwaylaw10.RecEdges", spec := "recEdges", inPlace := ["internal/abi.NoEscape"], named := ["fairway/sum.steps"], apart := false, laid := [("fairway/sum.steps", laid_fairway_sum_steps)], narrowed := true }
def RecEdgesUptoSaid : Prop := recEdgesUptoRow.holds Tryd.pinned (OpenSpec.upto recEdgesSpec)

end Rows
end Go.Proofs.YtimoncjdfmfojaaDoor
