/-
  No cell of these rows narrows 'for every input' (looked for: loops, veiled, ifaces, maps, wideKeys, modest, calm, conditions, laid).
  DERIVED. THE GIVEN ROWS OF THIS SEAT. 3 by the template 'for every input the law returns true; each argument reads behind the call as it read before'; 0 by the template 'total and deterministic' (their statements: YtijpieaanlnibaaTotals.lean).
  GIVEN WITH THE SEED: the statements are not yours to turn. If you find one false, say at which input.
  Laid BY PROGRAM, IN A SANDBOX (cutbox-rows.mjs): the forced cells as the released guide's own fill.sh prints them over the translation 43ad551fd808cfcb… (all of the seat's roots in one cut). By AI agents, Wed Nov 11 2026. No macro, syntax, notation, axiom, sorry.
-/
import Derived.Test.YtijpieaanlnibaaChecked
import GoSem.Claim
import GoSem.ClaimJoined
import GoSem.ClaimMapViews
import Derived.JoinedTies
import Derived.KernelRfl
namespace Go.Proofs.Ytijpieaanlnibaa
/- THE CELL 'sum', in the pinned program and in every row, IS THE sha256 OF THE DUMP (.gsa) THAT YtijpieaanlnibaaProg.lean LOADS. Nothing in Lean hashes anything: it is a label: what it is worth is what the hold of that sum in a sandbox is worth. -/
noncomputable def Try.pinned : Pinned := { name := "ytijpieaanlnibaa", sum := "43ad551fd808cfcbae59dee236dccd3c159a88d5630b57dd59a1abbbf66cf260", checked := Try.checked }
namespace Rows
def none {H : Type} : Left H := { results := [], args := [] }

/-- 'fairwaylaw12.IndexMarks': WHATEVER THE INPUT: true; the input reads as it did. -/
def indexMarksSpec : ChangeSpec := { name := "indexMarks", fn := fun _ => fun
  | [d] => { results := [.lit (.bool true)], args := [d] }
  | _ => none }
def indexMarksRow : OpenClaim := { program := "ytijpieaanlnibaa", sum := "43ad551fd808cfcbae59dee236dccd3c159a88d5630b57dd59a1abbbf66cf260", func := "fairway/fairwaylaw12.IndexMarks", spec := "indexMarks", apart := false }
def IndexMarksSaid : Prop := indexMarksRow.holds Try.pinned (OpenSpec.ofChange indexMarksSpec)

/-- ITS FALSE NEIGHBOUR: 'it returns false'. Refute it at one input. -/
def indexMarksWrong : ChangeSpec := { name := "indexMarks", fn := fun _ => fun
  | [d] => { results := [.lit (.bool false)], args := [d] }
  | _ => none }
def IndexMarksWrongFalsely : Prop := indexMarksRow.holds Try.pinned (OpenSpec.ofChange indexMarksWrong)

/-- 'fairwaylaw12.IndexFroms': WHATEVER THE INPUT: true; the input reads as it did. -/
def indexFromsSpec : ChangeSpec := { name := "indexFroms", fn := fun _ => fun
  | [d] => { results := [.lit (.bool true)], args := [d] }
  | _ => none }
def indexFromsRow : OpenClaim := { program := "ytijpieaanlnibaa", sum := "43ad551fd808cfcbae59dee236dccd3c159a88d5630b57dd59a1abbbf66cf260", func := "fairway/fairwaylaw12.IndexFroms", spec := "indexFroms", unfollowed := true, recurses := true, apart := false }
def IndexFromsSaid : Prop := indexFromsRow.holds Try.pinned (OpenSpec.ofChange indexFromsSpec)

/-- ITS FALSE NEIGHBOUR: 'it returns false'. Refute it at one input. -/
def indexFromsWrong : ChangeSpec := { name := "indexFroms", fn := fun _ => fun
  | [d] => { results := [.lit (.bool false)], args := [d] }
  | _ => none }
def IndexFromsWrongFalsely : Prop := indexFromsRow.holds Try.pinned (OpenSpec.ofChange indexFromsWrong)

/-- 'fairwaylaw12.IndexLooks': WHATEVER THE INPUT: true; the input reads as it did. -/
def indexLooksSpec : ChangeSpec := { name := "indexLooks", fn := fun _ => fun
  | [d] => { results := [.lit (.bool true)], args := [d] }
  | _ => none }
def indexLooksRow : OpenClaim := { program := "ytijpieaanlnibaa", sum := "43ad551fd808cfcbae59dee236dccd3c159a88d5630b57dd59a1abbbf66cf260", func := "fairway/fairwaylaw12.IndexLooks", spec := "indexLooks", unfollowed := true, recurses := true, apart := false }
def IndexLooksSaid : Prop := indexLooksRow.holds Try.pinned (OpenSpec.ofChange indexLooksSpec)

/-- ITS FALSE NEIGHBOUR: 'it returns false'. Refute it at one input. -/
def indexLooksWrong : ChangeSpec := { name := "indexLooks", fn := fun _ => fun
  | [d] => { results := [.lit (.bool false)], args := [d] }
  | _ => none }
def IndexLooksWrongFalsely : Prop := indexLooksRow.holds Try.pinned (OpenSpec.ofChange indexLooksWrong)

/- THE SECOND FORM. 'bulk': how many values and letters a reading holds, each counted each time it is reached (what is shared counts as often as it is met; a slice's spare places count too). A statement '..UptoSaid' is the law's where the arguments, and the package variables that the reading takes, are together of bulk at most 1048576: NARROWER than '..Said'. Prove '..Said' where nothing that the law and all that it calls make is longer than what came in: it says more and counts as full. Else prove '..UptoSaid'. A law counts once. -/
mutual
def uptoBulk {H : Type} : DataW H → Nat
  | .lit (.string bytes) => bytes.length + 1
  | .lit _ => 1
  | .nil => 1
  | .ptr d => uptoBulk d + 1
  | .slice elems spare => uptoBulkAll elems + uptoBulkAll spare + 1
  | .agg parts => uptoBulkAll parts + 1
  | .iface _ d => uptoBulk d + 1
  | .map entries => uptoBulkEntries entries + 1
  | .held _ => 1
def uptoBulkAll {H : Type} : List (DataW H) → Nat
  | [] => 0
  | d :: r => uptoBulk d + uptoBulkAll r
def uptoBulkEntries {H : Type} : List (Lit × DataW H) → Nat
  | [] => 0
  | x :: r => uptoBulkEntry x + uptoBulkEntries r
def uptoBulkEntry {H : Type} : Lit × DataW H → Nat
  | (.string bytes, d) => bytes.length + uptoBulk d + 1
  | (_, d) => uptoBulk d + 1
 end
def uptoSmall : (H : Type) → List (DataW H) → Bool := fun _ ds => decide (uptoBulkAll ds ≤ 1048576)
def OpenSpec.upto (s : _root_.Go.ChangeSpec) : _root_.Go.OpenSpec := { _root_.Go.OpenSpec.ofChange s with cond := some uptoSmall }

/-- 'fairwaylaw12.IndexMarks', WHERE WHAT IT READS IS OF BULK AT MOST 1048576: true; the input reads as it did. -/
def indexMarksUptoRow : OpenClaim := { program := "ytijpieaanlnibaa", sum := "43ad551fd808cfcbae59dee236dccd3c159a88d5630b57dd59a1abbbf66cf260", func := "fairway/fairwaylaw12.IndexMarks", spec := "indexMarks", apart := false, narrowed := true }
def IndexMarksUptoSaid : Prop := indexMarksUptoRow.holds Try.pinned (OpenSpec.upto indexMarksSpec)

/-- 'fairwaylaw12.IndexFroms', WHERE WHAT IT READS IS OF BULK AT MOST 1048576: true; the input reads as it did. -/
def indexFromsUptoRow : OpenClaim := { program := "ytijpieaanlnibaa", sum := "43ad551fd808cfcbae59dee236dccd3c159a88d5630b57dd59a1abbbf66cf260", func := "fairway/fairwaylaw12.IndexFroms", spec := "indexFroms", unfollowed := true, recurses := true, apart := false, narrowed := true }
def IndexFromsUptoSaid : Prop := indexFromsUptoRow.holds Try.pinned (OpenSpec.upto indexFromsSpec)

/-- 'fairwaylaw12.IndexLooks', WHERE WHAT IT READS IS OF BULK AT MOST 1048576: true; the input reads as it did. -/
def indexLooksUptoRow : OpenClaim := { program := "ytijpieaanlnibaa", sum := "43ad551fd808cfcbae59dee236dccd3c159a88d5630b57dd59a1abbbf66cf260", func := "fairway/fairwaylaw12.IndexLooks", spec := "indexLooks", unfollowed := true, recurses := true, apart := false, narrowed := true }
def IndexLooksUptoSaid : Prop := indexLooksUptoRow.holds Try.pinned (OpenSpec.upto indexLooksSpec)

end Rows
end Go.Proofs.Ytijpieaanlnibaa
