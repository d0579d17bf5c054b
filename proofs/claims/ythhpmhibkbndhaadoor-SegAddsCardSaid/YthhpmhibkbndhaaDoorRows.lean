/-
  NARROWER THAN 'FOR EVERY INPUT', by the rows' own cells (each row's printed sentence says how): SegAdds: laid · SegParses: laid · SegBack: laid.
  DERIVED. THE GIVEN ROWS OF THIS SEAT. 3 by the template 'for every input the law returns true; each argument reads behind the call as it read before'; 0 by the template 'total and deterministic' (their statements: YthhpmhibkbndhaaDoorTotals.lean).
  GIVEN WITH THE SEED: the statements are not yours to turn. If you find one false, say at which input.
  Laid BY PROGRAM, IN A SANDBOX (cutbox-rows.mjs): the forced cells as the released guide's own fill.sh prints them over the translation bc4e9291d4189822… (all of the seat's roots in one cut). By AI agents, Wed Nov 11 2026. No macro, syntax, notation, axiom, sorry.
-/
import Derived.Test.YthhpmhibkbndhaaDoorChecked
import GoSem.Claim
import GoSem.ClaimJoined
import GoSem.ClaimMapViews
import Derived.JoinedTies
import Derived.KernelRfl
namespace Go.Proofs.YthhpmhibkbndhaaDoor
/- THE CELL 'sum', in the pinned program and in every row, IS THE sha256 OF THE DUMP (.gsa) THAT YthhpmhibkbndhaaDoorProg.lean LOADS. Nothing in Lean hashes anything: it is a label: what it is worth is what the hold of that sum in a sandbox is worth. -/
noncomputable def Tryd.pinned : Pinned := { name := "ythhpmhibkbndhaadoor", sum := "bc4e9291d41898222e83ffbd15ec03fc4778b2e46eb9630c0a1d6821417649c6", checked := Tryd.checked }
namespace Rows
def none {H : Type} : Left H := { results := [], args := [] }

/- WHAT THE LISTED PACKAGE-LEVEL VARIABLES READ AS WHEN THE CALL BEGINS. Each datum BY PROGRAM (the guide's laid-datum.mjs) off the statement by which the dump's own 'gosem.cut.vars' lays the variable. In a bare row this is a premise. The card (YthhpmhibkbndhaaDoorCards.lean) ties it to the program's text. -/
def laid_fairway_sum_steps {H : Type} : DataW H := .agg [.lit (.int .u32 0), .lit (.int .u32 274646895), .lit (.int .u32 549293790), .lit (.int .u32 820201905), .lit (.int .u32 1098587580), .lit (.int .u32 1361435347), .lit (.int .u32 1640403810), .lit (.int .u32 1905808397), .lit (.int .u32 2197175160), .lit (.int .u32 2460548119), .lit (.int .u32 2722870694), .lit (.int .u32 2987750089), .lit (.int .u32 3280807620), .lit (.int .u32 3553878443), .lit (.int .u32 3811616794), .lit (.int .u32 4084100981)]

/-- 'fairwaylaw11.SegAdds': WHATEVER THE INPUT: true; the input reads as it did. -/
def segAddsSpec : ChangeSpec := { name := "segAdds", fn := fun _ => fun
  | [d] => { results := [.lit (.bool true)], args := [d] }
  | _ => none }
def segAddsRow : OpenClaim := { program := "ythhpmhibkbndhaadoor", sum := "bc4e9291d41898222e83ffbd15ec03fc4778b2e46eb9630c0a1d6821417649c6", func := "fairway/fairwaylaw11.SegAdds", spec := "segAdds", inPlace := ["internal/abi.NoEscape"], unfollowed := true, recurses := true, named := ["fairway/sum.steps"], apart := false, laid := [("fairway/sum.steps", laid_fairway_sum_steps)] }
def SegAddsSaid : Prop := segAddsRow.holds Tryd.pinned (OpenSpec.ofChange segAddsSpec)

/-- ITS FALSE NEIGHBOUR: 'it returns false'. Refute it at one input. -/
def segAddsWrong : ChangeSpec := { name := "segAdds", fn := fun _ => fun
  | [d] => { results := [.lit (.bool false)], args := [d] }
  | _ => none }
def SegAddsWrongFalsely : Prop := segAddsRow.holds Tryd.pinned (OpenSpec.ofChange segAddsWrong)

/-- 'fairwaylaw11.SegParses': WHATEVER THE INPUT: true; the input reads as it did. -/
def segParsesSpec : ChangeSpec := { name := "segParses", fn := fun _ => fun
  | [d] => { results := [.lit (.bool true)], args := [d] }
  | _ => none }
def segParsesRow : OpenClaim := { program := "ythhpmhibkbndhaadoor", sum := "bc4e9291d41898222e83ffbd15ec03fc4778b2e46eb9630c0a1d6821417649c6", func := "fairway/fairwaylaw11.SegParses", spec := "segParses", unfollowed := true, recurses := true, named := ["fairway/sum.steps"], apart := false, laid := [("fairway/sum.steps", laid_fairway_sum_steps)] }
def SegParsesSaid : Prop := segParsesRow.holds Tryd.pinned (OpenSpec.ofChange segParsesSpec)

/-- ITS FALSE NEIGHBOUR: 'it returns false'. Refute it at one input. -/
def segParsesWrong : ChangeSpec := { name := "segParses", fn := fun _ => fun
  | [d] => { results := [.lit (.bool false)], args := [d] }
  | _ => none }
def SegParsesWrongFalsely : Prop := segParsesRow.holds Tryd.pinned (OpenSpec.ofChange segParsesWrong)

/-- 'fairwaylaw11.SegBack': WHATEVER THE INPUT: true; the input reads as it did. -/
def segBackSpec : ChangeSpec := { name := "segBack", fn := fun _ => fun
  | [d] => { results := [.lit (.bool true)], args := [d] }
  | _ => none }
def segBackRow : OpenClaim := { program := "ythhpmhibkbndhaadoor", sum := "bc4e9291d41898222e83ffbd15ec03fc4778b2e46eb9630c0a1d6821417649c6", func := "fairway/fairwaylaw11.SegBack", spec := "segBack", inPlace := ["internal/abi.NoEscape"], unfollowed := true, recurses := true, named := ["fairway/sum.steps"], apart := false, laid := [("fairway/sum.steps", laid_fairway_sum_steps)] }
def SegBackSaid : Prop := segBackRow.holds Tryd.pinned (OpenSpec.ofChange segBackSpec)

/-- ITS FALSE NEIGHBOUR: 'it returns false'. Refute it at one input. -/
def segBackWrong : ChangeSpec := { name := "segBack", fn := fun _ => fun
  | [d] => { results := [.lit (.bool false)], args := [d] }
  | _ => none }
def SegBackWrongFalsely : Prop := segBackRow.holds Tryd.pinned (OpenSpec.ofChange segBackWrong)

/- THE SECOND FORM. 'bulk': how many values and letters a reading holds, each counted each time it is reached (what is shared counts as often as it is met; a slice's spare places count too). A statement '..UptoSaid' is the law's where the arguments, and the package variables that the reading takes, are together of bulk at most 1048576: NARROWER than '..Said'. Prove '..Said' where nothing that the law and all that it calls make is longer than what came in: it says more and counts as full. Else prove '..UptoSaid'. A law counts once. -/
mutual
def uptoBulk {H : Type} : DataW H → Nat
  | .lit (.string bytes) => bytes.length + 1
  | .lit _ => 1
  | .nil => 1
  | .ptr d => uptoBulk d + 1
  | .slice elems spare => uptoBulkAll elems + uptoBulkAll spare + 1
  | .agg parts => uptoBulkAll parts + 1
  | .iface _ d => uptoBulk d + 1
  | .map entries => uptoBulkEntries entries + 1
  | .held _ => 1
def uptoBulkAll {H : Type} : List (DataW H) → Nat
  | [] => 0
  | d :: r => uptoBulk d + uptoBulkAll r
def uptoBulkEntries {H : Type} : List (Lit × DataW H) → Nat
  | [] => 0
  | x :: r => uptoBulkEntry x + uptoBulkEntries r
def uptoBulkEntry {H : Type} : Lit × DataW H → Nat
  | (.string bytes, d) => bytes.length + uptoBulk d + 1
  | (_, d) => uptoBulk d + 1
 end
def uptoSmall : (H : Type) → List (DataW H) → Bool := fun _ ds => decide (uptoBulkAll ds ≤ 1048576)
def OpenSpec.upto (s : _root_.Go.ChangeSpec) : _root_.Go.OpenSpec := { _root_.Go.OpenSpec.ofChange s with cond := some uptoSmall }

/-- 'fairwaylaw11.SegAdds', WHERE WHAT IT READS IS OF BULK AT MOST 1048576: true; the input reads as it did. -/
def segAddsUptoRow : OpenClaim := { program := "ythhpmhibkbndhaadoor", sum := "bc4e9291d41898222e83ffbd15ec03fc4778b2e46eb9630c0a1d6821417649c6", func := "fairway/fairwaylaw11.SegAdds", spec := "segAdds", inPlace := ["internal/abi.NoEscape"], unfollowed := true, recurses := true, named := ["fairway/sum.steps"], apart := false, laid := [("fairway/sum.steps", laid_fairway_sum_steps)], narrowed := true }
def SegAddsUptoSaid : Prop := segAddsUptoRow.holds Tryd.pinned (OpenSpec.upto segAddsSpec)

/-- 'fairwaylaw11.SegParses', WHERE WHAT IT READS IS OF BULK AT MOST 1048576: true; the input reads as it did. -/
def segParsesUptoRow : OpenClaim := { program := "ythhpmhibkbndhaadoor", sum := "bc4e9291d41898222e83ffbd15ec03fc4778b2e46eb9630c0a1d6821417649c6", func := "fairway/fairwaylaw11.SegParses", spec := "segParses", unfollowed := true, recurses := true, named := ["fairway/sum.steps"], apart := false, laid := [("fairway/sum.steps", laid_fairway_sum_steps)], narrowed := true }
def SegParsesUptoSaid : Prop := segParsesUptoRow.holds Tryd.pinned (OpenSpec.upto segParsesSpec)

/-- 'fairwaylaw11.SegBack', WHERE WHAT IT READS IS OF BULK AT MOST 1048576: true; the input reads as it did. -/
def segBackUptoRow : OpenClaim := { program := "ythhpmhibkbndhaadoor", sum := "bc4e9291d41898222e83ffbd15ec03fc4778b2e46eb9630c0a1d6821417649c6", func := "fairway/fairwaylaw11.SegBack", spec := "segBack", inPlace := ["internal/abi.NoEscape"], unfollowed := true, recurses := true, named := ["fairway/sum.steps"], apart := false, laid := [("fairway/sum.steps", laid_fairway_sum_steps)], narrowed := true }
def SegBackUptoSaid : Prop := segBackUptoRow.holds Tryd.pinned (OpenSpec.upto segBackSpec)

end Rows
end Go.Proofs.YthhpmhibkbndhaaDoor
