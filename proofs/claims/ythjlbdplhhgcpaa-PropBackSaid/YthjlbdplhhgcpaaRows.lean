/-
  No cell of these rows narrows 'for every input' (looked for: loops, veiled, ifaces, maps, wideKeys, modest, calm, conditions, laid).
  DERIVED. THE GIVEN ROWS OF THIS SEAT. 8 by the template 'for every input the law returns true; each argument reads behind the call as it read before'; 0 by the template 'total and deterministic' (their statements: YthjlbdplhhgcpaaTotals.lean).
  GIVEN WITH THE SEED: the statements are not yours to turn. If you find one false, say at which input.
  Laid BY PROGRAM, IN A SANDBOX (cutbox-rows.mjs): the forced cells as the released guide's own fill.sh prints them over the translation 7aaadfef6d702dca… (all of the seat's roots in one cut). By AI agents, Wed Nov 11 2026. No macro, syntax, notation, axiom, sorry.
-/
import Derived.Test.YthjlbdplhhgcpaaChecked
import GoSem.Claim
import GoSem.ClaimJoined
import GoSem.ClaimMapViews
import Derived.JoinedTies
import Derived.KernelRfl
namespace Go.Proofs.Ythjlbdplhhgcpaa
/- THE CELL 'sum', in the pinned program and in every row, IS THE sha256 OF THE DUMP (.gsa) THAT YthjlbdplhhgcpaaProg.lean LOADS. Nothing in Lean hashes anything: it is a label: what it is worth is what the hold of that sum in a sandbox is worth. -/
noncomputable def Try.pinned : Pinned := { name := "ythjlbdplhhgcpaa", sum := "7aaadfef6d702dca7d8412aec216eef909b1b547e2c0e7ad09e1c1c346d1bd09", checked := Try.checked }
namespace Rows
def none {H : Type} : Left H := { results := [], args := [] }

/-- 'fairwaylaw4.PropKinds': WHATEVER THE INPUT: true; the input reads as it did. -/
def propKindsSpec : ChangeSpec := { name := "propKinds", fn := fun _ => fun
  | [d] => { results := [.lit (.bool true)], args := [d] }
  | _ => none }
def propKindsRow : OpenClaim := { program := "ythjlbdplhhgcpaa", sum := "7aaadfef6d702dca7d8412aec216eef909b1b547e2c0e7ad09e1c1c346d1bd09", func := "fairway/fairwaylaw4.PropKinds", spec := "propKinds", inPlace := ["internal/abi.NoEscape"], apart := false }
def PropKindsSaid : Prop := propKindsRow.holds Try.pinned (OpenSpec.ofChange propKindsSpec)

/-- ITS FALSE NEIGHBOUR: 'it returns false'. Refute it at one input. -/
def propKindsWrong : ChangeSpec := { name := "propKinds", fn := fun _ => fun
  | [d] => { results := [.lit (.bool false)], args := [d] }
  | _ => none }
def PropKindsWrongFalsely : Prop := propKindsRow.holds Try.pinned (OpenSpec.ofChange propKindsWrong)

/-- 'fairwaylaw4.PropBytes': WHATEVER THE INPUT: true; the input reads as it did. -/
def propBytesSpec : ChangeSpec := { name := "propBytes", fn := fun _ => fun
  | [d] => { results := [.lit (.bool true)], args := [d] }
  | _ => none }
def propBytesRow : OpenClaim := { program := "ythjlbdplhhgcpaa", sum := "7aaadfef6d702dca7d8412aec216eef909b1b547e2c0e7ad09e1c1c346d1bd09", func := "fairway/fairwaylaw4.PropBytes", spec := "propBytes", inPlace := ["internal/abi.NoEscape"], apart := false }
def PropBytesSaid : Prop := propBytesRow.holds Try.pinned (OpenSpec.ofChange propBytesSpec)

/-- ITS FALSE NEIGHBOUR: 'it returns false'. Refute it at one input. -/
def propBytesWrong : ChangeSpec := { name := "propBytes", fn := fun _ => fun
  | [d] => { results := [.lit (.bool false)], args := [d] }
  | _ => none }
def PropBytesWrongFalsely : Prop := propBytesRow.holds Try.pinned (OpenSpec.ofChange propBytesWrong)

/-- 'fairwaylaw4.PropTakes': WHATEVER THE INPUT: true; the input reads as it did. -/
def propTakesSpec : ChangeSpec := { name := "propTakes", fn := fun _ => fun
  | [d] => { results := [.lit (.bool true)], args := [d] }
  | _ => none }
def propTakesRow : OpenClaim := { program := "ythjlbdplhhgcpaa", sum := "7aaadfef6d702dca7d8412aec216eef909b1b547e2c0e7ad09e1c1c346d1bd09", func := "fairway/fairwaylaw4.PropTakes", spec := "propTakes", inPlace := ["internal/abi.NoEscape"], apart := false }
def PropTakesSaid : Prop := propTakesRow.holds Try.pinned (OpenSpec.ofChange propTakesSpec)

/-- ITS FALSE NEIGHBOUR: 'it returns false'. Refute it at one input. -/
def propTakesWrong : ChangeSpec := { name := "propTakes", fn := fun _ => fun
  | [d] => { results := [.lit (.bool false)], args := [d] }
  | _ => none }
def PropTakesWrongFalsely : Prop := propTakesRow.holds Try.pinned (OpenSpec.ofChange propTakesWrong)

/-- 'fairwaylaw4.PropBack': WHATEVER THE INPUT: true; the input reads as it did. -/
def propBackSpec : ChangeSpec := { name := "propBack", fn := fun _ => fun
  | [d] => { results := [.lit (.bool true)], args := [d] }
  | _ => none }
def propBackRow : OpenClaim := { program := "ythjlbdplhhgcpaa", sum := "7aaadfef6d702dca7d8412aec216eef909b1b547e2c0e7ad09e1c1c346d1bd09", func := "fairway/fairwaylaw4.PropBack", spec := "propBack", inPlace := ["internal/abi.NoEscape"], apart := false }
def PropBackSaid : Prop := propBackRow.holds Try.pinned (OpenSpec.ofChange propBackSpec)

/-- ITS FALSE NEIGHBOUR: 'it returns false'. Refute it at one input. -/
def propBackWrong : ChangeSpec := { name := "propBack", fn := fun _ => fun
  | [d] => { results := [.lit (.bool false)], args := [d] }
  | _ => none }
def PropBackWrongFalsely : Prop := propBackRow.holds Try.pinned (OpenSpec.ofChange propBackWrong)

/-- 'fairwaylaw4.PropOnce': WHATEVER THE INPUT: true; the input reads as it did. -/
def propOnceSpec : ChangeSpec := { name := "propOnce", fn := fun _ => fun
  | [d] => { results := [.lit (.bool true)], args := [d] }
  | _ => none }
def propOnceRow : OpenClaim := { program := "ythjlbdplhhgcpaa", sum := "7aaadfef6d702dca7d8412aec216eef909b1b547e2c0e7ad09e1c1c346d1bd09", func := "fairway/fairwaylaw4.PropOnce", spec := "propOnce", inPlace := ["internal/abi.NoEscape"], apart := false }
def PropOnceSaid : Prop := propOnceRow.holds Try.pinned (OpenSpec.ofChange propOnceSpec)

/-- ITS FALSE NEIGHBOUR: 'it returns false'. Refute it at one input. -/
def propOnceWrong : ChangeSpec := { name := "propOnce", fn := fun _ => fun
  | [d] => { results := [.lit (.bool false)], args := [d] }
  | _ => none }
def PropOnceWrongFalsely : Prop := propOnceRow.holds Try.pinned (OpenSpec.ofChange propOnceWrong)

/-- 'fairwaylaw4.PropNumbers': WHATEVER THE INPUT: true; the input reads as it did. -/
def propNumbersSpec : ChangeSpec := { name := "propNumbers", fn := fun _ => fun
  | [d] => { results := [.lit (.bool true)], args := [d] }
  | _ => none }
def propNumbersRow : OpenClaim := { program := "ythjlbdplhhgcpaa", sum := "7aaadfef6d702dca7d8412aec216eef909b1b547e2c0e7ad09e1c1c346d1bd09", func := "fairway/fairwaylaw4.PropNumbers", spec := "propNumbers", inPlace := ["internal/abi.NoEscape"], apart := false }
def PropNumbersSaid : Prop := propNumbersRow.holds Try.pinned (OpenSpec.ofChange propNumbersSpec)

/-- ITS FALSE NEIGHBOUR: 'it returns false'. Refute it at one input. -/
def propNumbersWrong : ChangeSpec := { name := "propNumbers", fn := fun _ => fun
  | [d] => { results := [.lit (.bool false)], args := [d] }
  | _ => none }
def PropNumbersWrongFalsely : Prop := propNumbersRow.holds Try.pinned (OpenSpec.ofChange propNumbersWrong)

/-- 'fairwaylaw4.PropTexts': WHATEVER THE INPUT: true; the input reads as it did. -/
def propTextsSpec : ChangeSpec := { name := "propTexts", fn := fun _ => fun
  | [d] => { results := [.lit (.bool true)], args := [d] }
  | _ => none }
def propTextsRow : OpenClaim := { program := "ythjlbdplhhgcpaa", sum := "7aaadfef6d702dca7d8412aec216eef909b1b547e2c0e7ad09e1c1c346d1bd09", func := "fairway/fairwaylaw4.PropTexts", spec := "propTexts", inPlace := ["internal/abi.NoEscape"], apart := false }
def PropTextsSaid : Prop := propTextsRow.holds Try.pinned (OpenSpec.ofChange propTextsSpec)

/-- ITS FALSE NEIGHBOUR: 'it returns false'. Refute it at one input. -/
def propTextsWrong : ChangeSpec := { name := "propTexts", fn := fun _ => fun
  | [d] => { results := [.lit (.bool false)], args := [d] }
  | _ => none }
def PropTextsWrongFalsely : Prop := propTextsRow.holds Try.pinned (OpenSpec.ofChange propTextsWrong)

/-- 'fairwaylaw4.PropPairs': WHATEVER THE INPUT: true; the input reads as it did. -/
def propPairsSpec : ChangeSpec := { name := "propPairs", fn := fun _ => fun
  | [d] => { results := [.lit (.bool true)], args := [d] }
  | _ => none }
def propPairsRow : OpenClaim := { program := "ythjlbdplhhgcpaa", sum := "7aaadfef6d702dca7d8412aec216eef909b1b547e2c0e7ad09e1c1c346d1bd09", func := "fairway/fairwaylaw4.PropPairs", spec := "propPairs", inPlace := ["internal/abi.NoEscape"], apart := false }
def PropPairsSaid : Prop := propPairsRow.holds Try.pinned (OpenSpec.ofChange propPairsSpec)

/-- ITS FALSE NEIGHBOUR: 'it returns false'. Refute it at one input. -/
def propPairsWrong : ChangeSpec := { name := "propPairs", fn := fun _ => fun
  | [d] => { results := [.lit (.bool false)], args := [d] }
  | _ => none }
def PropPairsWrongFalsely : Prop := propPairsRow.holds Try.pinned (OpenSpec.ofChange propPairsWrong)

/- THE SECOND FORM. 'bulk': how many values and letters a reading holds, each counted each time it is reached (what is shared counts as often as it is met; a slice's spare places count too). A statement '..UptoSaid' is the law's where the arguments, and the package variables that the reading takes, are together of bulk at most 1048576: NARROWER than '..Said'. Prove '..Said' where nothing that the law and all that it calls make is longer than what came in: it says more and counts as full. Else prove '..UptoSaid'. A law counts once. -/
mutual
def uptoBulk {H : Type} : DataW H → Nat
  | .lit (.string bytes) => bytes.length + 1
  | .lit _ => 1
  | .nil => 1
  | .ptr d => uptoBulk d + 1
  | .slice elems spare => uptoBulkAll elems + uptoBulkAll spare + 1
  | .agg parts => uptoBulkAll parts + 1
  | .iface _ d => uptoBulk d + 1
  | .map entries => uptoBulkEntries entries + 1
  | .held _ => 1
def uptoBulkAll {H : Type} : List (DataW H) → Nat
  | [] => 0
  | d :: r => uptoBulk d + uptoBulkAll r
def uptoBulkEntries {H : Type} : List (Lit × DataW H) → Nat
  | [] => 0
  | x :: r => uptoBulkEntry x + uptoBulkEntries r
def uptoBulkEntry {H : Type} : Lit × DataW H → Nat
  | (.string bytes, d) => bytes.length + uptoBulk d + 1
  | (_, d) => uptoBulk d + 1
 end
def uptoSmall : (H : Type) → List (DataW H) → Bool := fun _ ds => decide (uptoBulkAll ds ≤ 1048576)
def OpenSpec.upto (s : _root_.Go.ChangeSpec) : _root_.Go.OpenSpec := { _root_.Go.OpenSpec.ofChange s with cond := some uptoSmall }

/-- 'fairwaylaw4.PropKinds', WHERE WHAT IT READS IS OF BULK AT MOST 1048576: true; the input reads as it did. -/
def propKindsUptoRow : OpenClaim := { program := "ythjlbdplhhgcpaa", sum := "7aaadfef6d702dca7d8412aec216eef909b1b547e2c0e7ad09e1c1c346d1bd09", func := "fairway/fairwaylaw4.PropKinds", spec := "propKinds", inPlace := ["internal/abi.NoEscape"], apart := false, narrowed := true }
def PropKindsUptoSaid : Prop := propKindsUptoRow.holds Try.pinned (OpenSpec.upto propKindsSpec)

/-- 'fairwaylaw4.PropBytes', WHERE WHAT IT READS IS OF BULK AT MOST 1048576: true; the input reads as it did. -/
def propBytesUptoRow : OpenClaim := { program := "ythjlbdplhhgcpaa", sum := "7aaadfef6d702dca7d8412aec216eef909b1b547e2c0e7ad09e1c1c346d1bd09", func := "fairway/fairwaylaw4.PropBytes", spec := "propBytes", inPlace := ["internal/abi.NoEscape"], apart := false, narrowed := true }
def PropBytesUptoSaid : Prop := propBytesUptoRow.holds Try.pinned (OpenSpec.upto propBytesSpec)

/-- 'fairwaylaw4.PropTakes', WHERE WHAT IT READS IS OF BULK AT MOST 1048576: true; the input reads as it did. -/
def propTakesUptoRow : OpenClaim := { program := "ythjlbdplhhgcpaa", sum := "7aaadfef6d702dca7d8412aec216eef909b1b547e2c0e7ad09e1c1c346d1bd09", func := "fairway/fairwaylaw4.PropTakes", spec := "propTakes", inPlace := ["internal/abi.NoEscape"], apart := false, narrowed := true }
def PropTakesUptoSaid : Prop := propTakesUptoRow.holds Try.pinned (OpenSpec.upto propTakesSpec)

/-- 'fairwaylaw4.PropBack', WHERE WHAT IT READS IS OF BULK AT MOST 1048576: true; the input reads as it did. -/
def propBackUptoRow : OpenClaim := { program := "ythjlbdplhhgcpaa", sum := "7aaadfef6d702dca7d8412aec216eef909b1b547e2c0e7ad09e1c1c346d1bd09", func := "fairway/fairwaylaw4.PropBack", spec := "propBack", inPlace := ["internal/abi.NoEscape"], apart := false, narrowed := true }
def PropBackUptoSaid : Prop := propBackUptoRow.holds Try.pinned (OpenSpec.upto propBackSpec)

/-- 'fairwaylaw4.PropOnce', WHERE WHAT IT READS IS OF BULK AT MOST 1048576: true; the input reads as it did. -/
def propOnceUptoRow : OpenClaim := { program := "ythjlbdplhhgcpaa", sum := "7aaadfef6d702dca7d8412aec216eef909b1b547e2c0e7ad09e1c1c346d1bd09", func := "fairway/fairwaylaw4.PropOnce", spec := "propOnce", inPlace := ["internal/abi.NoEscape"], apart := false, narrowed := true }
def PropOnceUptoSaid : Prop := propOnceUptoRow.holds Try.pinned (OpenSpec.upto propOnceSpec)

/-- 'fairwaylaw4.PropNumbers', WHERE WHAT IT READS IS OF BULK AT MOST 1048576: true; the input reads as it did. -/
def propNumbersUptoRow : OpenClaim := { program := "ythjlbdplhhgcpaa", sum := "7aaadfef6d702dca7d8412aec216eef909b1b547e2c0e7ad09e1c1c346d1bd09", func := "fairway/fairwaylaw4.PropNumbers", spec := "propNumbers", inPlace := ["internal/abi.NoEscape"], apart := false, narrowed := true }
def PropNumbersUptoSaid : Prop := propNumbersUptoRow.holds Try.pinned (OpenSpec.upto propNumbersSpec)

/-- 'fairwaylaw4.PropTexts', WHERE WHAT IT READS IS OF BULK AT MOST 1048576: true; the input reads as it did. -/
def propTextsUptoRow : OpenClaim := { program := "ythjlbdplhhgcpaa", sum := "7aaadfef6d702dca7d8412aec216eef909b1b547e2c0e7ad09e1c1c346d1bd09", func := "fairway/fairwaylaw4.PropTexts", spec := "propTexts", inPlace := ["internal/abi.NoEscape"], apart := false, narrowed := true }
def PropTextsUptoSaid : Prop := propTextsUptoRow.holds Try.pinned (OpenSpec.upto propTextsSpec)

/-- 'fairwaylaw4.PropPairs', WHERE WHAT IT READS IS OF BULK AT MOST 1048576: true; the input reads as it did. -/
def propPairsUptoRow : OpenClaim := { program := "ythjlbdplhhgcpaa", sum := "7aaadfef6d702dca7d8412aec216eef909b1b547e2c0e7ad09e1c1c346d1bd09", func := "fairway/fairwaylaw4.PropPairs", spec := "propPairs", inPlace := ["internal/abi.NoEscape"], apart := false, narrowed := true }
def PropPairsUptoSaid : Prop := propPairsUptoRow.holds Try.pinned (OpenSpec.upto propPairsSpec)

end Rows
end Go.Proofs.Ythjlbdplhhgcpaa
