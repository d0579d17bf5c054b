/-
  No cell of these rows narrows 'for every input' (looked for: loops, veiled, ifaces, maps, wideKeys, modest, calm, conditions, laid).
  DERIVED. THE GIVEN ROWS OF THIS SEAT. 4 by the template 'for every input the law returns true; each argument reads behind the call as it read before'; 0 by the template 'total and deterministic' (their statements: YthdefnfpjbpbkaaTotals.lean).
  GIVEN WITH THE SEED: the statements are not yours to turn. If you find one false, say at which input.
  Laid BY PROGRAM, IN A SANDBOX (cutbox-rows.mjs): the forced cells as the released guide's own fill.sh prints them over the translation 9238287f0fe1a511… (all of the seat's roots in one cut). By AI agents, Wed Nov 11 2026. No macro, syntax, notation, axiom, sorry.
-/
import Derived.Test.YthdefnfpjbpbkaaChecked
import GoSem.Claim
import GoSem.ClaimJoined
import GoSem.ClaimMapViews
import Derived.JoinedTies
import Derived.KernelRfl
namespace Go.Proofs.Ythdefnfpjbpbkaa
/- THE CELL 'sum', in the pinned program and in every row, IS THE sha256 OF THE DUMP (.gsa) THAT YthdefnfpjbpbkaaProg.lean LOADS. Nothing in Lean hashes anything: it is a label: what it is worth is what the hold of that sum in a sandbox is worth. -/
noncomputable def Try.pinned : Pinned := { name := "ythdefnfpjbpbkaa", sum := "9238287f0fe1a511c88ee70c60a7a56cff5b7173d90865ea37586922b839951c", checked := Try.checked }
namespace Rows
def none {H : Type} : Left H := { results := [], args := [] }

/-- 'fairwaylaw14.FoldTells': WHATEVER THE INPUT: true; the input reads as it did. -/
def foldTellsSpec : ChangeSpec := { name := "foldTells", fn := fun _ => fun
  | [d] => { results := [.lit (.bool true)], args := [d] }
  | _ => none }
def foldTellsRow : OpenClaim := { program := "ythdefnfpjbpbkaa", sum := "9238287f0fe1a511c88ee70c60a7a56cff5b7173d90865ea37586922b839951c", func := "fairway/fairwaylaw14.FoldTells", spec := "foldTells", unfollowed := true, recurses := true, apart := false }
def FoldTellsSaid : Prop := foldTellsRow.holds Try.pinned (OpenSpec.ofChange foldTellsSpec)

/-- ITS FALSE NEIGHBOUR: 'it returns false'. Refute it at one input. -/
def foldTellsWrong : ChangeSpec := { name := "foldTells", fn := fun _ => fun
  | [d] => { results := [.lit (.bool false)], args := [d] }
  | _ => none }
def FoldTellsWrongFalsely : Prop := foldTellsRow.holds Try.pinned (OpenSpec.ofChange foldTellsWrong)

/-- 'fairwaylaw14.FoldSame': WHATEVER THE INPUT: true; the input reads as it did. -/
def foldSameSpec : ChangeSpec := { name := "foldSame", fn := fun _ => fun
  | [d] => { results := [.lit (.bool true)], args := [d] }
  | _ => none }
def foldSameRow : OpenClaim := { program := "ythdefnfpjbpbkaa", sum := "9238287f0fe1a511c88ee70c60a7a56cff5b7173d90865ea37586922b839951c", func := "fairway/fairwaylaw14.FoldSame", spec := "foldSame", unfollowed := true, recurses := true, apart := false }
def FoldSameSaid : Prop := foldSameRow.holds Try.pinned (OpenSpec.ofChange foldSameSpec)

/-- ITS FALSE NEIGHBOUR: 'it returns false'. Refute it at one input. -/
def foldSameWrong : ChangeSpec := { name := "foldSame", fn := fun _ => fun
  | [d] => { results := [.lit (.bool false)], args := [d] }
  | _ => none }
def FoldSameWrongFalsely : Prop := foldSameRow.holds Try.pinned (OpenSpec.ofChange foldSameWrong)

/-- 'fairwaylaw14.FoldGraves': WHATEVER THE INPUT: true; the input reads as it did. -/
def foldGravesSpec : ChangeSpec := { name := "foldGraves", fn := fun _ => fun
  | [d] => { results := [.lit (.bool true)], args := [d] }
  | _ => none }
def foldGravesRow : OpenClaim := { program := "ythdefnfpjbpbkaa", sum := "9238287f0fe1a511c88ee70c60a7a56cff5b7173d90865ea37586922b839951c", func := "fairway/fairwaylaw14.FoldGraves", spec := "foldGraves", unfollowed := true, recurses := true, apart := false }
def FoldGravesSaid : Prop := foldGravesRow.holds Try.pinned (OpenSpec.ofChange foldGravesSpec)

/-- ITS FALSE NEIGHBOUR: 'it returns false'. Refute it at one input. -/
def foldGravesWrong : ChangeSpec := { name := "foldGraves", fn := fun _ => fun
  | [d] => { results := [.lit (.bool false)], args := [d] }
  | _ => none }
def FoldGravesWrongFalsely : Prop := foldGravesRow.holds Try.pinned (OpenSpec.ofChange foldGravesWrong)

/-- 'fairwaylaw14.FoldOpens': WHATEVER THE INPUT: true; the input reads as it did. -/
def foldOpensSpec : ChangeSpec := { name := "foldOpens", fn := fun _ => fun
  | [d] => { results := [.lit (.bool true)], args := [d] }
  | _ => none }
def foldOpensRow : OpenClaim := { program := "ythdefnfpjbpbkaa", sum := "9238287f0fe1a511c88ee70c60a7a56cff5b7173d90865ea37586922b839951c", func := "fairway/fairwaylaw14.FoldOpens", spec := "foldOpens", unfollowed := true, recurses := true, apart := false }
def FoldOpensSaid : Prop := foldOpensRow.holds Try.pinned (OpenSpec.ofChange foldOpensSpec)

/-- ITS FALSE NEIGHBOUR: 'it returns false'. Refute it at one input. -/
def foldOpensWrong : ChangeSpec := { name := "foldOpens", fn := fun _ => fun
  | [d] => { results := [.lit (.bool false)], args := [d] }
  | _ => none }
def FoldOpensWrongFalsely : Prop := foldOpensRow.holds Try.pinned (OpenSpec.ofChange foldOpensWrong)

/- THE SECOND FORM. 'bulk': how many values and letters a reading holds, each counted each time it is reached (what is shared counts as often as it is met; a slice's spare places count too). A statement '..UptoSaid' is the law's where the arguments, and the package variables that the reading takes, are together of bulk at most 1048576: NARROWER than '..Said'. Prove '..Said' where nothing that the law and all that it calls make is longer than what came in: it says more and counts as full. Else prove '..UptoSaid'. A law counts once. -/
mutual
def uptoBulk {H : Type} : DataW H → Nat
  | .lit (.string bytes) => bytes.length + 1
  | .lit _ => 1
  | .nil => 1
  | .ptr d => uptoBulk d + 1
  | .slice elems spare => uptoBulkAll elems + uptoBulkAll spare + 1
  | .agg parts => uptoBulkAll parts + 1
  | .iface _ d => uptoBulk d + 1
  | .map entries => uptoBulkEntries entries + 1
  | .held _ => 1
def uptoBulkAll {H : Type} : List (DataW H) → Nat
  | [] => 0
  | d :: r => uptoBulk d + uptoBulkAll r
def uptoBulkEntries {H : Type} : List (Lit × DataW H) → Nat
  | [] => 0
  | x :: r => uptoBulkEntry x + uptoBulkEntries r
def uptoBulkEntry {H : Type} : Lit × DataW H → Nat
  | (.string bytes, d) => bytes.length + uptoBulk d + 1
  | (_, d) => uptoBulk d + 1
 end
def uptoSmall : (H : Type) → List (DataW H) → Bool := fun _ ds => decide (uptoBulkAll ds ≤ 1048576)
def OpenSpec.upto (s : _root_.Go.ChangeSpec) : _root_.Go.OpenSpec := { _root_.Go.OpenSpec.ofChange s with cond := some uptoSmall }

/-- 'fairwaylaw14.FoldTells', WHERE WHAT IT READS IS OF BULK AT MOST 1048576: true; the input reads as it did. -/
def foldTellsUptoRow : OpenClaim := { program := "ythdefnfpjbpbkaa", sum := "9238287f0fe1a511c88ee70c60a7a56cff5b7173d90865ea37586922b839951c", func := "fairway/fairwaylaw14.FoldTells", spec := "foldTells", unfollowed := true, recurses := true, apart := false, narrowed := true }
def FoldTellsUptoSaid : Prop := foldTellsUptoRow.holds Try.pinned (OpenSpec.upto foldTellsSpec)

/-- 'fairwaylaw14.FoldSame', WHERE WHAT IT READS IS OF BULK AT MOST 1048576: true; the input reads as it did. -/
def foldSameUptoRow : OpenClaim := { program := "ythdefnfpjbpbkaa", sum := "9238287f0fe1a511c88ee70c60a7a56cff5b7173d90865ea37586922b839951c", func := "fairway/fairwaylaw14.FoldSame", spec := "foldSame", unfollowed := true, recurses := true, apart := false, narrowed := true }
def FoldSameUptoSaid : Prop := foldSameUptoRow.holds Try.pinned (OpenSpec.upto foldSameSpec)

/-- 'fairwaylaw14.FoldGraves', WHERE WHAT IT READS IS OF BULK AT MOST 1048576: true; the input reads as it did. -/
def foldGravesUptoRow : OpenClaim := { program := "ythdefnfpjbpbkaa", sum := "9238287f0fe1a511c88ee70c60a7a56cff5b7173d90865ea37586922b839951c", func := "fairway/fairwaylaw14.FoldGraves", spec := "foldGraves", unfollowed := true, recurses := true, apart := false, narrowed := true }
def FoldGravesUptoSaid : Prop := foldGravesUptoRow.holds Try.pinned (OpenSpec.upto foldGravesSpec)

/-- 'fairwaylaw14.FoldOpens', WHERE WHAT IT READS IS OF BULK AT MOST 1048576: true; the input reads as it did. -/
def foldOpensUptoRow : OpenClaim := { program := "ythdefnfpjbpbkaa", sum := "9238287f0fe1a511c88ee70c60a7a56cff5b7173d90865ea37586922b839951c", func := "fairway/fairwaylaw14.FoldOpens", spec := "foldOpens", unfollowed := true, recurses := true, apart := false, narrowed := true }
def FoldOpensUptoSaid : Prop := foldOpensUptoRow.holds Try.pinned (OpenSpec.upto foldOpensSpec)

end Rows
end Go.Proofs.Ythdefnfpjbpbkaa
