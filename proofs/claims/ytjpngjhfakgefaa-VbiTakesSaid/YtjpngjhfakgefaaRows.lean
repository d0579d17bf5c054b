/-
  No cell of these rows narrows 'for every input' (looked for: loops, veiled, ifaces, maps, wideKeys, modest, calm, conditions, laid).
  DERIVED. THE GIVEN ROWS OF THIS SEAT. 6 by the template 'for every input the law returns true; each argument reads behind the call as it read before'; 0 by the template 'total and deterministic' (their statements: YtjpngjhfakgefaaTotals.lean).
  GIVEN WITH THE SEED: the statements are not yours to turn. If you find one false, say at which input.
  Laid BY PROGRAM, IN A SANDBOX (cutbox-rows.mjs): the forced cells as the released guide's own fill.sh prints them over the translation ffd0b93bb5587cb1… (all of the seat's roots in one cut). By AI agents, Wed Nov 11 2026. No macro, syntax, notation, axiom, sorry.
-/
import Derived.Test.YtjpngjhfakgefaaChecked
import GoSem.Claim
import GoSem.ClaimJoined
import GoSem.ClaimMapViews
import Derived.JoinedTies
import Derived.KernelRfl
namespace Go.Proofs.Ytjpngjhfakgefaa
/- THE CELL 'sum', in the pinned program and in every row, IS THE sha256 OF THE DUMP (.gsa) THAT YtjpngjhfakgefaaProg.lean LOADS. Nothing in Lean hashes anything: it is a label: what it is worth is what the hold of that sum in a sandbox is worth. -/
noncomputable def Try.pinned : Pinned := { name := "ytjpngjhfakgefaa", sum := "ffd0b93bb5587cb1a9d53a2fb4feb232c9d5d1dfdf5a05e0a9db32495d2c5dc1", checked := Try.checked }
namespace Rows
def none {H : Type} : Left H := { results := [], args := [] }

/-- 'fairwaylaw2.VbiNums': WHATEVER THE INPUT: true; the input reads as it did. -/
def vbiNumsSpec : ChangeSpec := { name := "vbiNums", fn := fun _ => fun
  | [d] => { results := [.lit (.bool true)], args := [d] }
  | _ => none }
def vbiNumsRow : OpenClaim := { program := "ytjpngjhfakgefaa", sum := "ffd0b93bb5587cb1a9d53a2fb4feb232c9d5d1dfdf5a05e0a9db32495d2c5dc1", func := "fairway/fairwaylaw2.VbiNums", spec := "vbiNums", apart := false }
def VbiNumsSaid : Prop := vbiNumsRow.holds Try.pinned (OpenSpec.ofChange vbiNumsSpec)

/-- ITS FALSE NEIGHBOUR: 'it returns false'. Refute it at one input. -/
def vbiNumsWrong : ChangeSpec := { name := "vbiNums", fn := fun _ => fun
  | [d] => { results := [.lit (.bool false)], args := [d] }
  | _ => none }
def VbiNumsWrongFalsely : Prop := vbiNumsRow.holds Try.pinned (OpenSpec.ofChange vbiNumsWrong)

/-- 'fairwaylaw2.VbiTakes': WHATEVER THE INPUT: true; the input reads as it did. -/
def vbiTakesSpec : ChangeSpec := { name := "vbiTakes", fn := fun _ => fun
  | [d] => { results := [.lit (.bool true)], args := [d] }
  | _ => none }
def vbiTakesRow : OpenClaim := { program := "ytjpngjhfakgefaa", sum := "ffd0b93bb5587cb1a9d53a2fb4feb232c9d5d1dfdf5a05e0a9db32495d2c5dc1", func := "fairway/fairwaylaw2.VbiTakes", spec := "vbiTakes", apart := false }
def VbiTakesSaid : Prop := vbiTakesRow.holds Try.pinned (OpenSpec.ofChange vbiTakesSpec)

/-- ITS FALSE NEIGHBOUR: 'it returns false'. Refute it at one input. -/
def vbiTakesWrong : ChangeSpec := { name := "vbiTakes", fn := fun _ => fun
  | [d] => { results := [.lit (.bool false)], args := [d] }
  | _ => none }
def VbiTakesWrongFalsely : Prop := vbiTakesRow.holds Try.pinned (OpenSpec.ofChange vbiTakesWrong)

/-- 'fairwaylaw2.VbiTexts': WHATEVER THE INPUT: true; the input reads as it did. -/
def vbiTextsSpec : ChangeSpec := { name := "vbiTexts", fn := fun _ => fun
  | [d] => { results := [.lit (.bool true)], args := [d] }
  | _ => none }
def vbiTextsRow : OpenClaim := { program := "ytjpngjhfakgefaa", sum := "ffd0b93bb5587cb1a9d53a2fb4feb232c9d5d1dfdf5a05e0a9db32495d2c5dc1", func := "fairway/fairwaylaw2.VbiTexts", spec := "vbiTexts", apart := false }
def VbiTextsSaid : Prop := vbiTextsRow.holds Try.pinned (OpenSpec.ofChange vbiTextsSpec)

/-- ITS FALSE NEIGHBOUR: 'it returns false'. Refute it at one input. -/
def vbiTextsWrong : ChangeSpec := { name := "vbiTexts", fn := fun _ => fun
  | [d] => { results := [.lit (.bool false)], args := [d] }
  | _ => none }
def VbiTextsWrongFalsely : Prop := vbiTextsRow.holds Try.pinned (OpenSpec.ofChange vbiTextsWrong)

/-- 'fairwaylaw2.VbiBins': WHATEVER THE INPUT: true; the input reads as it did. -/
def vbiBinsSpec : ChangeSpec := { name := "vbiBins", fn := fun _ => fun
  | [d] => { results := [.lit (.bool true)], args := [d] }
  | _ => none }
def vbiBinsRow : OpenClaim := { program := "ytjpngjhfakgefaa", sum := "ffd0b93bb5587cb1a9d53a2fb4feb232c9d5d1dfdf5a05e0a9db32495d2c5dc1", func := "fairway/fairwaylaw2.VbiBins", spec := "vbiBins", apart := false }
def VbiBinsSaid : Prop := vbiBinsRow.holds Try.pinned (OpenSpec.ofChange vbiBinsSpec)

/-- ITS FALSE NEIGHBOUR: 'it returns false'. Refute it at one input. -/
def vbiBinsWrong : ChangeSpec := { name := "vbiBins", fn := fun _ => fun
  | [d] => { results := [.lit (.bool false)], args := [d] }
  | _ => none }
def VbiBinsWrongFalsely : Prop := vbiBinsRow.holds Try.pinned (OpenSpec.ofChange vbiBinsWrong)

/-- 'fairwaylaw2.VbiBack': WHATEVER THE INPUT: true; the input reads as it did. -/
def vbiBackSpec : ChangeSpec := { name := "vbiBack", fn := fun _ => fun
  | [d] => { results := [.lit (.bool true)], args := [d] }
  | _ => none }
def vbiBackRow : OpenClaim := { program := "ytjpngjhfakgefaa", sum := "ffd0b93bb5587cb1a9d53a2fb4feb232c9d5d1dfdf5a05e0a9db32495d2c5dc1", func := "fairway/fairwaylaw2.VbiBack", spec := "vbiBack", apart := false }
def VbiBackSaid : Prop := vbiBackRow.holds Try.pinned (OpenSpec.ofChange vbiBackSpec)

/-- ITS FALSE NEIGHBOUR: 'it returns false'. Refute it at one input. -/
def vbiBackWrong : ChangeSpec := { name := "vbiBack", fn := fun _ => fun
  | [d] => { results := [.lit (.bool false)], args := [d] }
  | _ => none }
def VbiBackWrongFalsely : Prop := vbiBackRow.holds Try.pinned (OpenSpec.ofChange vbiBackWrong)

/-- 'fairwaylaw2.VbiEdges': WHATEVER THE INPUT: true; the input reads as it did. -/
def vbiEdgesSpec : ChangeSpec := { name := "vbiEdges", fn := fun _ => fun
  | [d] => { results := [.lit (.bool true)], args := [d] }
  | _ => none }
def vbiEdgesRow : OpenClaim := { program := "ytjpngjhfakgefaa", sum := "ffd0b93bb5587cb1a9d53a2fb4feb232c9d5d1dfdf5a05e0a9db32495d2c5dc1", func := "fairway/fairwaylaw2.VbiEdges", spec := "vbiEdges", apart := false }
def VbiEdgesSaid : Prop := vbiEdgesRow.holds Try.pinned (OpenSpec.ofChange vbiEdgesSpec)

/-- ITS FALSE NEIGHBOUR: 'it returns false'. Refute it at one input. -/
def vbiEdgesWrong : ChangeSpec := { name := "vbiEdges", fn := fun _ => fun
  | [d] => { results := [.lit (.bool false)], args := [d] }
  | _ => none }
def VbiEdgesWrongFalsely : Prop := vbiEdgesRow.holds Try.pinned (OpenSpec.ofChange vbiEdgesWrong)

/- THE SECOND FORM. 'bulk': how many values and letters a reading holds, each counted each time it is reached (what is shared counts as often as it is met; a slice's spare places count too). A statement '..UptoSaid' is the law's where the arguments, and the package variables that the reading takes, are together of bulk at most 1048576: NARROWER than '..Said'. Prove '..Said' where nothing that the law and all that it calls make is longer than what came in: it says more and counts as full. Else prove '..UptoSaid'. A law counts once. -/
mutual
def uptoBulk {H : Type} : DataW H → Nat
  | .lit (.string bytes) => bytes.length + 1
  | .lit _ => 1
  | .nil => 1
  | .ptr d => uptoBulk d + 1
  | .slice elems spare => uptoBulkAll elems + uptoBulkAll spare + 1
  | .agg parts => uptoBulkAll parts + 1
  | .iface _ d => uptoBulk d + 1
  | .map entries => uptoBulkEntries entries + 1
  | .held _ => 1
def uptoBulkAll {H : Type} : List (DataW H) → Nat
  | [] => 0
  | d :: r => uptoBulk d + uptoBulkAll r
def uptoBulkEntries {H : Type} : List (Lit × DataW H) → Nat
  | [] => 0
  | x :: r => uptoBulkEntry x + uptoBulkEntries r
def uptoBulkEntry {H : Type} : Lit × DataW H → Nat
  | (.string bytes, d) => bytes.length + uptoBulk d + 1
  | (_, d) => uptoBulk d + 1
 end
def uptoSmall : (H : Type) → List (DataW H) → Bool := fun _ ds => decide (uptoBulkAll ds ≤ 1048576)
def OpenSpec.upto (s : _root_.Go.ChangeSpec) : _root_.Go.OpenSpec := { _root_.Go.OpenSpec.ofChange s with cond := some uptoSmall }

/-- 'fairwaylaw2.VbiNums', WHERE WHAT IT READS IS OF BULK AT MOST 1048576: true; the input reads as it did. -/
def vbiNumsUptoRow : OpenClaim := { program := "ytjpngjhfakgefaa", sum := "ffd0b93bb5587cb1a9d53a2fb4feb232c9d5d1dfdf5a05e0a9db32495d2c5dc1", func := "fairway/fairwaylaw2.VbiNums", spec := "vbiNums", apart := false, narrowed := true }
def VbiNumsUptoSaid : Prop := vbiNumsUptoRow.holds Try.pinned (OpenSpec.upto vbiNumsSpec)

/-- 'fairwaylaw2.VbiTakes', WHERE WHAT IT READS IS OF BULK AT MOST 1048576: true; the input reads as it did. -/
def vbiTakesUptoRow : OpenClaim := { program := "ytjpngjhfakgefaa", sum := "ffd0b93bb5587cb1a9d53a2fb4feb232c9d5d1dfdf5a05e0a9db32495d2c5dc1", func := "fairway/fairwaylaw2.VbiTakes", spec := "vbiTakes", apart := false, narrowed := true }
def VbiTakesUptoSaid : Prop := vbiTakesUptoRow.holds Try.pinned (OpenSpec.upto vbiTakesSpec)

/-- 'fairwaylaw2.VbiTexts', WHERE WHAT IT READS IS OF BULK AT MOST 1048576: true; the input reads as it did. -/
def vbiTextsUptoRow : OpenClaim := { program := "ytjpngjhfakgefaa", sum := "ffd0b93bb5587cb1a9d53a2fb4feb232c9d5d1dfdf5a05e0a9db32495d2c5dc1", func := "fairway/fairwaylaw2.VbiTexts", spec := "vbiTexts", apart := false, narrowed := true }
def VbiTextsUptoSaid : Prop := vbiTextsUptoRow.holds Try.pinned (OpenSpec.upto vbiTextsSpec)

/-- 'fairwaylaw2.VbiBins', WHERE WHAT IT READS IS OF BULK AT MOST 1048576: true; the input reads as it did. -/
def vbiBinsUptoRow : OpenClaim := { program := "ytjpngjhfakgefaa", sum := "ffd0b93bb5587cb1a9d53a2fb4feb232c9d5d1dfdf5a05e0a9db32495d2c5dc1", func := "fairway/fairwaylaw2.VbiBins", spec := "vbiBins", apart := false, narrowed := true }
def VbiBinsUptoSaid : Prop := vbiBinsUptoRow.holds Try.pinned (OpenSpec.upto vbiBinsSpec)

/-- 'fairwaylaw2.VbiBack', WHERE WHAT IT READS IS OF BULK AT MOST 1048576: true; the input reads as it did. -/
def vbiBackUptoRow : OpenClaim := { program := "ytjpngjhfakgefaa", sum := "ffd0b93bb5587cb1a9d53a2fb4feb232c9d5d1dfdf5a05e0a9db32495d2c5dc1", func := "fairway/fairwaylaw2.VbiBack", spec := "vbiBack", apart := false, narrowed := true }
def VbiBackUptoSaid : Prop := vbiBackUptoRow.holds Try.pinned (OpenSpec.upto vbiBackSpec)

/-- 'fairwaylaw2.VbiEdges', WHERE WHAT IT READS IS OF BULK AT MOST 1048576: true; the input reads as it did. -/
def vbiEdgesUptoRow : OpenClaim := { program := "ytjpngjhfakgefaa", sum := "ffd0b93bb5587cb1a9d53a2fb4feb232c9d5d1dfdf5a05e0a9db32495d2c5dc1", func := "fairway/fairwaylaw2.VbiEdges", spec := "vbiEdges", apart := false, narrowed := true }
def VbiEdgesUptoSaid : Prop := vbiEdgesUptoRow.holds Try.pinned (OpenSpec.upto vbiEdgesSpec)

end Rows
end Go.Proofs.Ytjpngjhfakgefaa
