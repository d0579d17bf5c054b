/-
  No cell of these rows narrows 'for every input' (looked for: loops, veiled, ifaces, maps, wideKeys, modest, calm, conditions, laid).
  DERIVED. THE GIVEN ROWS OF THIS SEAT. 4 by the template 'for every input the law returns true; each argument reads behind the call as it read before'; 0 by the template 'total and deterministic' (their statements: YtgadgmcabjnjjaaTotals.lean).
  GIVEN WITH THE SEED: the statements are not yours to turn. If you find one false, say at which input.
  Laid BY PROGRAM, IN A SANDBOX (cutbox-rows.mjs): the forced cells as the released guide's own fill.sh prints them over the translation 5c6fcabb138ce164… (all of the seat's roots in one cut). By AI agents, Wed Nov 11 2026. No macro, syntax, notation, axiom, sorry.
-/
import Derived.Test.YtgadgmcabjnjjaaChecked
import GoSem.Claim
import GoSem.ClaimJoined
import GoSem.ClaimMapViews
import Derived.JoinedTies
import Derived.KernelRfl
namespace Go.Proofs.Ytgadgmcabjnjjaa
/- THE CELL 'sum', in the pinned program and in every row, IS THE sha256 OF THE DUMP (.gsa) THAT YtgadgmcabjnjjaaProg.lean LOADS. Nothing in Lean hashes anything: it is a label: what it is worth is what the hold of that sum in a sandbox is worth. -/
noncomputable def Try.pinned : Pinned := { name := "ytgadgmcabjnjjaa", sum := "5c6fcabb138ce164636ab1d3bb197ffdb4fb4e9912ea8d1560e911c4f9b07cdb", checked := Try.checked }
namespace Rows
def none {H : Type} : Left H := { results := [], args := [] }

/-- 'fairwaylaw13.KeepOlds': WHATEVER THE INPUT: true; the input reads as it did. -/
def keepOldsSpec : ChangeSpec := { name := "keepOlds", fn := fun _ => fun
  | [d] => { results := [.lit (.bool true)], args := [d] }
  | _ => none }
def keepOldsRow : OpenClaim := { program := "ytgadgmcabjnjjaa", sum := "5c6fcabb138ce164636ab1d3bb197ffdb4fb4e9912ea8d1560e911c4f9b07cdb", func := "fairway/fairwaylaw13.KeepOlds", spec := "keepOlds", apart := false }
def KeepOldsSaid : Prop := keepOldsRow.holds Try.pinned (OpenSpec.ofChange keepOldsSpec)

/-- ITS FALSE NEIGHBOUR: 'it returns false'. Refute it at one input. -/
def keepOldsWrong : ChangeSpec := { name := "keepOlds", fn := fun _ => fun
  | [d] => { results := [.lit (.bool false)], args := [d] }
  | _ => none }
def KeepOldsWrongFalsely : Prop := keepOldsRow.holds Try.pinned (OpenSpec.ofChange keepOldsWrong)

/-- 'fairwaylaw13.KeepTwice': WHATEVER THE INPUT: true; the input reads as it did. -/
def keepTwiceSpec : ChangeSpec := { name := "keepTwice", fn := fun _ => fun
  | [d] => { results := [.lit (.bool true)], args := [d] }
  | _ => none }
def keepTwiceRow : OpenClaim := { program := "ytgadgmcabjnjjaa", sum := "5c6fcabb138ce164636ab1d3bb197ffdb4fb4e9912ea8d1560e911c4f9b07cdb", func := "fairway/fairwaylaw13.KeepTwice", spec := "keepTwice", apart := false }
def KeepTwiceSaid : Prop := keepTwiceRow.holds Try.pinned (OpenSpec.ofChange keepTwiceSpec)

/-- ITS FALSE NEIGHBOUR: 'it returns false'. Refute it at one input. -/
def keepTwiceWrong : ChangeSpec := { name := "keepTwice", fn := fun _ => fun
  | [d] => { results := [.lit (.bool false)], args := [d] }
  | _ => none }
def KeepTwiceWrongFalsely : Prop := keepTwiceRow.holds Try.pinned (OpenSpec.ofChange keepTwiceWrong)

/-- 'fairwaylaw13.KeepBytes': WHATEVER THE INPUT: true; the input reads as it did. -/
def keepBytesSpec : ChangeSpec := { name := "keepBytes", fn := fun _ => fun
  | [d] => { results := [.lit (.bool true)], args := [d] }
  | _ => none }
def keepBytesRow : OpenClaim := { program := "ytgadgmcabjnjjaa", sum := "5c6fcabb138ce164636ab1d3bb197ffdb4fb4e9912ea8d1560e911c4f9b07cdb", func := "fairway/fairwaylaw13.KeepBytes", spec := "keepBytes", apart := false }
def KeepBytesSaid : Prop := keepBytesRow.holds Try.pinned (OpenSpec.ofChange keepBytesSpec)

/-- ITS FALSE NEIGHBOUR: 'it returns false'. Refute it at one input. -/
def keepBytesWrong : ChangeSpec := { name := "keepBytes", fn := fun _ => fun
  | [d] => { results := [.lit (.bool false)], args := [d] }
  | _ => none }
def KeepBytesWrongFalsely : Prop := keepBytesRow.holds Try.pinned (OpenSpec.ofChange keepBytesWrong)

/-- 'fairwaylaw13.KeepAges': WHATEVER THE INPUT: true; the input reads as it did. -/
def keepAgesSpec : ChangeSpec := { name := "keepAges", fn := fun _ => fun
  | [d] => { results := [.lit (.bool true)], args := [d] }
  | _ => none }
def keepAgesRow : OpenClaim := { program := "ytgadgmcabjnjjaa", sum := "5c6fcabb138ce164636ab1d3bb197ffdb4fb4e9912ea8d1560e911c4f9b07cdb", func := "fairway/fairwaylaw13.KeepAges", spec := "keepAges", apart := false }
def KeepAgesSaid : Prop := keepAgesRow.holds Try.pinned (OpenSpec.ofChange keepAgesSpec)

/-- ITS FALSE NEIGHBOUR: 'it returns false'. Refute it at one input. -/
def keepAgesWrong : ChangeSpec := { name := "keepAges", fn := fun _ => fun
  | [d] => { results := [.lit (.bool false)], args := [d] }
  | _ => none }
def KeepAgesWrongFalsely : Prop := keepAgesRow.holds Try.pinned (OpenSpec.ofChange keepAgesWrong)

/- THE SECOND FORM. 'bulk': how many values and letters a reading holds, each counted each time it is reached (what is shared counts as often as it is met; a slice's spare places count too). A statement '..UptoSaid' is the law's where the arguments, and the package variables that the reading takes, are together of bulk at most 1048576: NARROWER than '..Said'. Prove '..Said' where nothing that the law and all that it calls make is longer than what came in: it says more and counts as full. Else prove '..UptoSaid'. A law counts once. -/
mutual
def uptoBulk {H : Type} : DataW H → Nat
  | .lit (.string bytes) => bytes.length + 1
  | .lit _ => 1
  | .nil => 1
  | .ptr d => uptoBulk d + 1
  | .slice elems spare => uptoBulkAll elems + uptoBulkAll spare + 1
  | .agg parts => uptoBulkAll parts + 1
  | .iface _ d => uptoBulk d + 1
  | .map entries => uptoBulkEntries entries + 1
  | .held _ => 1
def uptoBulkAll {H : Type} : List (DataW H) → Nat
  | [] => 0
  | d :: r => uptoBulk d + uptoBulkAll r
def uptoBulkEntries {H : Type} : List (Lit × DataW H) → Nat
  | [] => 0
  | x :: r => uptoBulkEntry x + uptoBulkEntries r
def uptoBulkEntry {H : Type} : Lit × DataW H → Nat
  | (.string bytes, d) => bytes.length + uptoBulk d + 1
  | (_, d) => uptoBulk d + 1
 end
def uptoSmall : (H : Type) → List (DataW H) → Bool := fun _ ds => decide (uptoBulkAll ds ≤ 1048576)
def OpenSpec.upto (s : _root_.Go.ChangeSpec) : _root_.Go.OpenSpec := { _root_.Go.OpenSpec.ofChange s with cond := some uptoSmall }

/-- 'fairwaylaw13.KeepOlds', WHERE WHAT IT READS IS OF BULK AT MOST 1048576: true; the input reads as it did. -/
def keepOldsUptoRow : OpenClaim := { program := "ytgadgmcabjnjjaa", sum := "5c6fcabb138ce164636ab1d3bb197ffdb4fb4e9912ea8d1560e911c4f9b07cdb", func := "fairway/fairwaylaw13.KeepOlds", spec := "keepOlds", apart := false, narrowed := true }
def KeepOldsUptoSaid : Prop := keepOldsUptoRow.holds Try.pinned (OpenSpec.upto keepOldsSpec)

/-- 'fairwaylaw13.KeepTwice', WHERE WHAT IT READS IS OF BULK AT MOST 1048576: true; the input reads as it did. -/
def keepTwiceUptoRow : OpenClaim := { program := "ytgadgmcabjnjjaa", sum := "5c6fcabb138ce164636ab1d3bb197ffdb4fb4e9912ea8d1560e911c4f9b07cdb", func := "fairway/fairwaylaw13.KeepTwice", spec := "keepTwice", apart := false, narrowed := true }
def KeepTwiceUptoSaid : Prop := keepTwiceUptoRow.holds Try.pinned (OpenSpec.upto keepTwiceSpec)

/-- 'fairwaylaw13.KeepBytes', WHERE WHAT IT READS IS OF BULK AT MOST 1048576: true; the input reads as it did. -/
def keepBytesUptoRow : OpenClaim := { program := "ytgadgmcabjnjjaa", sum := "5c6fcabb138ce164636ab1d3bb197ffdb4fb4e9912ea8d1560e911c4f9b07cdb", func := "fairway/fairwaylaw13.KeepBytes", spec := "keepBytes", apart := false, narrowed := true }
def KeepBytesUptoSaid : Prop := keepBytesUptoRow.holds Try.pinned (OpenSpec.upto keepBytesSpec)

/-- 'fairwaylaw13.KeepAges', WHERE WHAT IT READS IS OF BULK AT MOST 1048576: true; the input reads as it did. -/
def keepAgesUptoRow : OpenClaim := { program := "ytgadgmcabjnjjaa", sum := "5c6fcabb138ce164636ab1d3bb197ffdb4fb4e9912ea8d1560e911c4f9b07cdb", func := "fairway/fairwaylaw13.KeepAges", spec := "keepAges", apart := false, narrowed := true }
def KeepAgesUptoSaid : Prop := keepAgesUptoRow.holds Try.pinned (OpenSpec.upto keepAgesSpec)

end Rows
end Go.Proofs.Ytgadgmcabjnjjaa
