/-
  No cell of these rows narrows 'for every input' (looked for: loops, veiled, ifaces, maps, wideKeys, modest, calm, conditions, laid).
  DERIVED. THE GIVEN ROWS OF THIS SEAT. 16 by the template 'for every input the law returns true; each argument reads behind the call as it read before'; 0 by the template 'total and deterministic' (their statements: YtiancngpknnkaaaGreatTotals.lean).
  GIVEN WITH THE SEED: the statements are not yours to turn. If you find one false, say at which input.
  Laid BY PROGRAM, IN A SANDBOX (cutbox-rows.mjs): the forced cells as the released guide's own fill.sh prints them over the translation a1f0c62999482310… (all of the seat's roots in one cut). By AI agents, Wed Nov 11 2026. No macro, syntax, notation, axiom, sorry.
-/
import Derived.Test.YtiancngpknnkaaaGreatChecked
import GoSem.Claim
import GoSem.ClaimJoined
import GoSem.ClaimMapViews
import Derived.JoinedTies
import Derived.KernelRfl
namespace Go.Proofs.YtiancngpknnkaaaGreat
/- THE CELL 'sum', in the pinned program and in every row, IS THE sha256 OF THE DUMP (.gsa) THAT YtiancngpknnkaaaGreatProg.lean LOADS. Nothing in Lean hashes anything: it is a label: what it is worth is what the hold of that sum in a sandbox is worth. -/
noncomputable def Tryz.pinned : Pinned := { name := "ytiancngpknnkaaagreat", sum := "a1f0c62999482310b3a3d48f1fe00d42371a637c721f25ee7a8b835e759a871b", checked := Tryz.checked }
namespace Rows
def none {H : Type} : Left H := { results := [], args := [] }

/-- 'fairwaylaw5.PackBytes': WHATEVER THE INPUT: true; the input reads as it did. -/
def packBytesSpec : ChangeSpec := { name := "packBytes", fn := fun _ => fun
  | [d] => { results := [.lit (.bool true)], args := [d] }
  | _ => none }
def packBytesRow : OpenClaim := { program := "ytiancngpknnkaaagreat", sum := "a1f0c62999482310b3a3d48f1fe00d42371a637c721f25ee7a8b835e759a871b", func := "fairway/fairwaylaw5.PackBytes", spec := "packBytes", inPlace := ["internal/abi.NoEscape"], unfollowed := true, recurses := true, apart := false }
def PackBytesSaid : Prop := packBytesRow.holds Tryz.pinned (OpenSpec.ofChange packBytesSpec)

/-- ITS FALSE NEIGHBOUR: 'it returns false'. Refute it at one input. -/
def packBytesWrong : ChangeSpec := { name := "packBytes", fn := fun _ => fun
  | [d] => { results := [.lit (.bool false)], args := [d] }
  | _ => none }
def PackBytesWrongFalsely : Prop := packBytesRow.holds Tryz.pinned (OpenSpec.ofChange packBytesWrong)

/-- 'fairwaylaw5.PackBack': WHATEVER THE INPUT: true; the input reads as it did. -/
def packBackSpec : ChangeSpec := { name := "packBack", fn := fun _ => fun
  | [d] => { results := [.lit (.bool true)], args := [d] }
  | _ => none }
def packBackRow : OpenClaim := { program := "ytiancngpknnkaaagreat", sum := "a1f0c62999482310b3a3d48f1fe00d42371a637c721f25ee7a8b835e759a871b", func := "fairway/fairwaylaw5.PackBack", spec := "packBack", inPlace := ["internal/abi.NoEscape"], unfollowed := true, recurses := true, apart := false }
def PackBackSaid : Prop := packBackRow.holds Tryz.pinned (OpenSpec.ofChange packBackSpec)

/-- ITS FALSE NEIGHBOUR: 'it returns false'. Refute it at one input. -/
def packBackWrong : ChangeSpec := { name := "packBack", fn := fun _ => fun
  | [d] => { results := [.lit (.bool false)], args := [d] }
  | _ => none }
def PackBackWrongFalsely : Prop := packBackRow.holds Tryz.pinned (OpenSpec.ofChange packBackWrong)

/-- 'fairwaylaw5.PackConnects': WHATEVER THE INPUT: true; the input reads as it did. -/
def packConnectsSpec : ChangeSpec := { name := "packConnects", fn := fun _ => fun
  | [d] => { results := [.lit (.bool true)], args := [d] }
  | _ => none }
def packConnectsRow : OpenClaim := { program := "ytiancngpknnkaaagreat", sum := "a1f0c62999482310b3a3d48f1fe00d42371a637c721f25ee7a8b835e759a871b", func := "fairway/fairwaylaw5.PackConnects", spec := "packConnects", inPlace := ["internal/abi.NoEscape"], unfollowed := true, recurses := true, apart := false }
def PackConnectsSaid : Prop := packConnectsRow.holds Tryz.pinned (OpenSpec.ofChange packConnectsSpec)

/-- ITS FALSE NEIGHBOUR: 'it returns false'. Refute it at one input. -/
def packConnectsWrong : ChangeSpec := { name := "packConnects", fn := fun _ => fun
  | [d] => { results := [.lit (.bool false)], args := [d] }
  | _ => none }
def PackConnectsWrongFalsely : Prop := packConnectsRow.holds Tryz.pinned (OpenSpec.ofChange packConnectsWrong)

/-- 'fairwaylaw5.PackConnAcks': WHATEVER THE INPUT: true; the input reads as it did. -/
def packConnAcksSpec : ChangeSpec := { name := "packConnAcks", fn := fun _ => fun
  | [d] => { results := [.lit (.bool true)], args := [d] }
  | _ => none }
def packConnAcksRow : OpenClaim := { program := "ytiancngpknnkaaagreat", sum := "a1f0c62999482310b3a3d48f1fe00d42371a637c721f25ee7a8b835e759a871b", func := "fairway/fairwaylaw5.PackConnAcks", spec := "packConnAcks", inPlace := ["internal/abi.NoEscape"], unfollowed := true, recurses := true, apart := false }
def PackConnAcksSaid : Prop := packConnAcksRow.holds Tryz.pinned (OpenSpec.ofChange packConnAcksSpec)

/-- ITS FALSE NEIGHBOUR: 'it returns false'. Refute it at one input. -/
def packConnAcksWrong : ChangeSpec := { name := "packConnAcks", fn := fun _ => fun
  | [d] => { results := [.lit (.bool false)], args := [d] }
  | _ => none }
def PackConnAcksWrongFalsely : Prop := packConnAcksRow.holds Tryz.pinned (OpenSpec.ofChange packConnAcksWrong)

/-- 'fairwaylaw5.PackPublishs': WHATEVER THE INPUT: true; the input reads as it did. -/
def packPublishsSpec : ChangeSpec := { name := "packPublishs", fn := fun _ => fun
  | [d] => { results := [.lit (.bool true)], args := [d] }
  | _ => none }
def packPublishsRow : OpenClaim := { program := "ytiancngpknnkaaagreat", sum := "a1f0c62999482310b3a3d48f1fe00d42371a637c721f25ee7a8b835e759a871b", func := "fairway/fairwaylaw5.PackPublishs", spec := "packPublishs", inPlace := ["internal/abi.NoEscape"], unfollowed := true, recurses := true, apart := false }
def PackPublishsSaid : Prop := packPublishsRow.holds Tryz.pinned (OpenSpec.ofChange packPublishsSpec)

/-- ITS FALSE NEIGHBOUR: 'it returns false'. Refute it at one input. -/
def packPublishsWrong : ChangeSpec := { name := "packPublishs", fn := fun _ => fun
  | [d] => { results := [.lit (.bool false)], args := [d] }
  | _ => none }
def PackPublishsWrongFalsely : Prop := packPublishsRow.holds Tryz.pinned (OpenSpec.ofChange packPublishsWrong)

/-- 'fairwaylaw5.PackPubAcks': WHATEVER THE INPUT: true; the input reads as it did. -/
def packPubAcksSpec : ChangeSpec := { name := "packPubAcks", fn := fun _ => fun
  | [d] => { results := [.lit (.bool true)], args := [d] }
  | _ => none }
def packPubAcksRow : OpenClaim := { program := "ytiancngpknnkaaagreat", sum := "a1f0c62999482310b3a3d48f1fe00d42371a637c721f25ee7a8b835e759a871b", func := "fairway/fairwaylaw5.PackPubAcks", spec := "packPubAcks", inPlace := ["internal/abi.NoEscape"], unfollowed := true, recurses := true, apart := false }
def PackPubAcksSaid : Prop := packPubAcksRow.holds Tryz.pinned (OpenSpec.ofChange packPubAcksSpec)

/-- ITS FALSE NEIGHBOUR: 'it returns false'. Refute it at one input. -/
def packPubAcksWrong : ChangeSpec := { name := "packPubAcks", fn := fun _ => fun
  | [d] => { results := [.lit (.bool false)], args := [d] }
  | _ => none }
def PackPubAcksWrongFalsely : Prop := packPubAcksRow.holds Tryz.pinned (OpenSpec.ofChange packPubAcksWrong)

/-- 'fairwaylaw5.PackPubRecs': WHATEVER THE INPUT: true; the input reads as it did. -/
def packPubRecsSpec : ChangeSpec := { name := "packPubRecs", fn := fun _ => fun
  | [d] => { results := [.lit (.bool true)], args := [d] }
  | _ => none }
def packPubRecsRow : OpenClaim := { program := "ytiancngpknnkaaagreat", sum := "a1f0c62999482310b3a3d48f1fe00d42371a637c721f25ee7a8b835e759a871b", func := "fairway/fairwaylaw5.PackPubRecs", spec := "packPubRecs", inPlace := ["internal/abi.NoEscape"], unfollowed := true, recurses := true, apart := false }
def PackPubRecsSaid : Prop := packPubRecsRow.holds Tryz.pinned (OpenSpec.ofChange packPubRecsSpec)

/-- ITS FALSE NEIGHBOUR: 'it returns false'. Refute it at one input. -/
def packPubRecsWrong : ChangeSpec := { name := "packPubRecs", fn := fun _ => fun
  | [d] => { results := [.lit (.bool false)], args := [d] }
  | _ => none }
def PackPubRecsWrongFalsely : Prop := packPubRecsRow.holds Tryz.pinned (OpenSpec.ofChange packPubRecsWrong)

/-- 'fairwaylaw5.PackPubRels': WHATEVER THE INPUT: true; the input reads as it did. -/
def packPubRelsSpec : ChangeSpec := { name := "packPubRels", fn := fun _ => fun
  | [d] => { results := [.lit (.bool true)], args := [d] }
  | _ => none }
def packPubRelsRow : OpenClaim := { program := "ytiancngpknnkaaagreat", sum := "a1f0c62999482310b3a3d48f1fe00d42371a637c721f25ee7a8b835e759a871b", func := "fairway/fairwaylaw5.PackPubRels", spec := "packPubRels", inPlace := ["internal/abi.NoEscape"], unfollowed := true, recurses := true, apart := false }
def PackPubRelsSaid : Prop := packPubRelsRow.holds Tryz.pinned (OpenSpec.ofChange packPubRelsSpec)

/-- ITS FALSE NEIGHBOUR: 'it returns false'. Refute it at one input. -/
def packPubRelsWrong : ChangeSpec := { name := "packPubRels", fn := fun _ => fun
  | [d] => { results := [.lit (.bool false)], args := [d] }
  | _ => none }
def PackPubRelsWrongFalsely : Prop := packPubRelsRow.holds Tryz.pinned (OpenSpec.ofChange packPubRelsWrong)

/-- 'fairwaylaw5.PackPubComps': WHATEVER THE INPUT: true; the input reads as it did. -/
def packPubCompsSpec : ChangeSpec := { name := "packPubComps", fn := fun _ => fun
  | [d] => { results := [.lit (.bool true)], args := [d] }
  | _ => none }
def packPubCompsRow : OpenClaim := { program := "ytiancngpknnkaaagreat", sum := "a1f0c62999482310b3a3d48f1fe00d42371a637c721f25ee7a8b835e759a871b", func := "fairway/fairwaylaw5.PackPubComps", spec := "packPubComps", inPlace := ["internal/abi.NoEscape"], unfollowed := true, recurses := true, apart := false }
def PackPubCompsSaid : Prop := packPubCompsRow.holds Tryz.pinned (OpenSpec.ofChange packPubCompsSpec)

/-- ITS FALSE NEIGHBOUR: 'it returns false'. Refute it at one input. -/
def packPubCompsWrong : ChangeSpec := { name := "packPubComps", fn := fun _ => fun
  | [d] => { results := [.lit (.bool false)], args := [d] }
  | _ => none }
def PackPubCompsWrongFalsely : Prop := packPubCompsRow.holds Tryz.pinned (OpenSpec.ofChange packPubCompsWrong)

/-- 'fairwaylaw5.PackSubAcks': WHATEVER THE INPUT: true; the input reads as it did. -/
def packSubAcksSpec : ChangeSpec := { name := "packSubAcks", fn := fun _ => fun
  | [d] => { results := [.lit (.bool true)], args := [d] }
  | _ => none }
def packSubAcksRow : OpenClaim := { program := "ytiancngpknnkaaagreat", sum := "a1f0c62999482310b3a3d48f1fe00d42371a637c721f25ee7a8b835e759a871b", func := "fairway/fairwaylaw5.PackSubAcks", spec := "packSubAcks", inPlace := ["internal/abi.NoEscape"], unfollowed := true, recurses := true, apart := false }
def PackSubAcksSaid : Prop := packSubAcksRow.holds Tryz.pinned (OpenSpec.ofChange packSubAcksSpec)

/-- ITS FALSE NEIGHBOUR: 'it returns false'. Refute it at one input. -/
def packSubAcksWrong : ChangeSpec := { name := "packSubAcks", fn := fun _ => fun
  | [d] => { results := [.lit (.bool false)], args := [d] }
  | _ => none }
def PackSubAcksWrongFalsely : Prop := packSubAcksRow.holds Tryz.pinned (OpenSpec.ofChange packSubAcksWrong)

/-- 'fairwaylaw5.PackUnsubAcks': WHATEVER THE INPUT: true; the input reads as it did. -/
def packUnsubAcksSpec : ChangeSpec := { name := "packUnsubAcks", fn := fun _ => fun
  | [d] => { results := [.lit (.bool true)], args := [d] }
  | _ => none }
def packUnsubAcksRow : OpenClaim := { program := "ytiancngpknnkaaagreat", sum := "a1f0c62999482310b3a3d48f1fe00d42371a637c721f25ee7a8b835e759a871b", func := "fairway/fairwaylaw5.PackUnsubAcks", spec := "packUnsubAcks", inPlace := ["internal/abi.NoEscape"], unfollowed := true, recurses := true, apart := false }
def PackUnsubAcksSaid : Prop := packUnsubAcksRow.holds Tryz.pinned (OpenSpec.ofChange packUnsubAcksSpec)

/-- ITS FALSE NEIGHBOUR: 'it returns false'. Refute it at one input. -/
def packUnsubAcksWrong : ChangeSpec := { name := "packUnsubAcks", fn := fun _ => fun
  | [d] => { results := [.lit (.bool false)], args := [d] }
  | _ => none }
def PackUnsubAcksWrongFalsely : Prop := packUnsubAcksRow.holds Tryz.pinned (OpenSpec.ofChange packUnsubAcksWrong)

/-- 'fairwaylaw5.PackPingReqs': WHATEVER THE INPUT: true; the input reads as it did. -/
def packPingReqsSpec : ChangeSpec := { name := "packPingReqs", fn := fun _ => fun
  | [d] => { results := [.lit (.bool true)], args := [d] }
  | _ => none }
def packPingReqsRow : OpenClaim := { program := "ytiancngpknnkaaagreat", sum := "a1f0c62999482310b3a3d48f1fe00d42371a637c721f25ee7a8b835e759a871b", func := "fairway/fairwaylaw5.PackPingReqs", spec := "packPingReqs", inPlace := ["internal/abi.NoEscape"], unfollowed := true, recurses := true, apart := false }
def PackPingReqsSaid : Prop := packPingReqsRow.holds Tryz.pinned (OpenSpec.ofChange packPingReqsSpec)

/-- ITS FALSE NEIGHBOUR: 'it returns false'. Refute it at one input. -/
def packPingReqsWrong : ChangeSpec := { name := "packPingReqs", fn := fun _ => fun
  | [d] => { results := [.lit (.bool false)], args := [d] }
  | _ => none }
def PackPingReqsWrongFalsely : Prop := packPingReqsRow.holds Tryz.pinned (OpenSpec.ofChange packPingReqsWrong)

/-- 'fairwaylaw5.PackPingResps': WHATEVER THE INPUT: true; the input reads as it did. -/
def packPingRespsSpec : ChangeSpec := { name := "packPingResps", fn := fun _ => fun
  | [d] => { results := [.lit (.bool true)], args := [d] }
  | _ => none }
def packPingRespsRow : OpenClaim := { program := "ytiancngpknnkaaagreat", sum := "a1f0c62999482310b3a3d48f1fe00d42371a637c721f25ee7a8b835e759a871b", func := "fairway/fairwaylaw5.PackPingResps", spec := "packPingResps", inPlace := ["internal/abi.NoEscape"], unfollowed := true, recurses := true, apart := false }
def PackPingRespsSaid : Prop := packPingRespsRow.holds Tryz.pinned (OpenSpec.ofChange packPingRespsSpec)

/-- ITS FALSE NEIGHBOUR: 'it returns false'. Refute it at one input. -/
def packPingRespsWrong : ChangeSpec := { name := "packPingResps", fn := fun _ => fun
  | [d] => { results := [.lit (.bool false)], args := [d] }
  | _ => none }
def PackPingRespsWrongFalsely : Prop := packPingRespsRow.holds Tryz.pinned (OpenSpec.ofChange packPingRespsWrong)

/-- 'fairwaylaw5.PackDisconnects': WHATEVER THE INPUT: true; the input reads as it did. -/
def packDisconnectsSpec : ChangeSpec := { name := "packDisconnects", fn := fun _ => fun
  | [d] => { results := [.lit (.bool true)], args := [d] }
  | _ => none }
def packDisconnectsRow : OpenClaim := { program := "ytiancngpknnkaaagreat", sum := "a1f0c62999482310b3a3d48f1fe00d42371a637c721f25ee7a8b835e759a871b", func := "fairway/fairwaylaw5.PackDisconnects", spec := "packDisconnects", inPlace := ["internal/abi.NoEscape"], unfollowed := true, recurses := true, apart := false }
def PackDisconnectsSaid : Prop := packDisconnectsRow.holds Tryz.pinned (OpenSpec.ofChange packDisconnectsSpec)

/-- ITS FALSE NEIGHBOUR: 'it returns false'. Refute it at one input. -/
def packDisconnectsWrong : ChangeSpec := { name := "packDisconnects", fn := fun _ => fun
  | [d] => { results := [.lit (.bool false)], args := [d] }
  | _ => none }
def PackDisconnectsWrongFalsely : Prop := packDisconnectsRow.holds Tryz.pinned (OpenSpec.ofChange packDisconnectsWrong)

/-- 'fairwaylaw5.PackAuths': WHATEVER THE INPUT: true; the input reads as it did. -/
def packAuthsSpec : ChangeSpec := { name := "packAuths", fn := fun _ => fun
  | [d] => { results := [.lit (.bool true)], args := [d] }
  | _ => none }
def packAuthsRow : OpenClaim := { program := "ytiancngpknnkaaagreat", sum := "a1f0c62999482310b3a3d48f1fe00d42371a637c721f25ee7a8b835e759a871b", func := "fairway/fairwaylaw5.PackAuths", spec := "packAuths", inPlace := ["internal/abi.NoEscape"], unfollowed := true, recurses := true, apart := false }
def PackAuthsSaid : Prop := packAuthsRow.holds Tryz.pinned (OpenSpec.ofChange packAuthsSpec)

/-- ITS FALSE NEIGHBOUR: 'it returns false'. Refute it at one input. -/
def packAuthsWrong : ChangeSpec := { name := "packAuths", fn := fun _ => fun
  | [d] => { results := [.lit (.bool false)], args := [d] }
  | _ => none }
def PackAuthsWrongFalsely : Prop := packAuthsRow.holds Tryz.pinned (OpenSpec.ofChange packAuthsWrong)

/-- 'fairwaylaw6.FrameExact': WHATEVER THE INPUT: true; the input reads as it did. -/
def frameExactSpec : ChangeSpec := { name := "frameExact", fn := fun _ => fun
  | [d] => { results := [.lit (.bool true)], args := [d] }
  | _ => none }
def frameExactRow : OpenClaim := { program := "ytiancngpknnkaaagreat", sum := "a1f0c62999482310b3a3d48f1fe00d42371a637c721f25ee7a8b835e759a871b", func := "fairway/fairwaylaw6.FrameExact", spec := "frameExact", unfollowed := true, recurses := true, apart := false }
def FrameExactSaid : Prop := frameExactRow.holds Tryz.pinned (OpenSpec.ofChange frameExactSpec)

/-- ITS FALSE NEIGHBOUR: 'it returns false'. Refute it at one input. -/
def frameExactWrong : ChangeSpec := { name := "frameExact", fn := fun _ => fun
  | [d] => { results := [.lit (.bool false)], args := [d] }
  | _ => none }
def FrameExactWrongFalsely : Prop := frameExactRow.holds Tryz.pinned (OpenSpec.ofChange frameExactWrong)

/- THE SECOND FORM. 'bulk': how many values and letters a reading holds, each counted each time it is reached (what is shared counts as often as it is met; a slice's spare places count too). A statement '..UptoSaid' is the law's where the arguments, and the package variables that the reading takes, are together of bulk at most 1048576: NARROWER than '..Said'. Prove '..Said' where nothing that the law and all that it calls make is longer than what came in: it says more and counts as full. Else prove '..UptoSaid'. A law counts once. -/
mutual
def uptoBulk {H : Type} : DataW H → Nat
  | .lit (.string bytes) => bytes.length + 1
  | .lit _ => 1
  | .nil => 1
  | .ptr d => uptoBulk d + 1
  | .slice elems spare => uptoBulkAll elems + uptoBulkAll spare + 1
  | .agg parts => uptoBulkAll parts + 1
  | .iface _ d => uptoBulk d + 1
  | .map entries => uptoBulkEntries entries + 1
  | .held _ => 1
def uptoBulkAll {H : Type} : List (DataW H) → Nat
  | [] => 0
  | d :: r => uptoBulk d + uptoBulkAll r
def uptoBulkEntries {H : Type} : List (Lit × DataW H) → Nat
  | [] => 0
  | x :: r => uptoBulkEntry x + uptoBulkEntries r
def uptoBulkEntry {H : Type} : Lit × DataW H → Nat
  | (.string bytes, d) => bytes.length + uptoBulk d + 1
  | (_, d) => uptoBulk d + 1
 end
def uptoSmall : (H : Type) → List (DataW H) → Bool := fun _ ds => decide (uptoBulkAll ds ≤ 1048576)
def OpenSpec.upto (s : _root_.Go.ChangeSpec) : _root_.Go.OpenSpec := { _root_.Go.OpenSpec.ofChange s with cond := some uptoSmall }

/-- 'fairwaylaw5.PackBytes', WHERE WHAT IT READS IS OF BULK AT MOST 1048576: true; the input reads as it did. -/
def packBytesUptoRow : OpenClaim := { program := "ytiancngpknnkaaagreat", sum := "a1f0c62999482310b3a3d48f1fe00d42371a637c721f25ee7a8b835e759a871b", func := "fairway/fairwaylaw5.PackBytes", spec := "packBytes", inPlace := ["internal/abi.NoEscape"], unfollowed := true, recurses := true, apart := false, narrowed := true }
def PackBytesUptoSaid : Prop := packBytesUptoRow.holds Tryz.pinned (OpenSpec.upto packBytesSpec)

/-- 'fairwaylaw5.PackBack', WHERE WHAT IT READS IS OF BULK AT MOST 1048576: true; the input reads as it did. -/
def packBackUptoRow : OpenClaim := { program := "ytiancngpknnkaaagreat", sum := "a1f0c62999482310b3a3d48f1fe00d42371a637c721f25ee7a8b835e759a871b", func := "fairway/fairwaylaw5.PackBack", spec := "packBack", inPlace := ["internal/abi.NoEscape"], unfollowed := true, recurses := true, apart := false, narrowed := true }
def PackBackUptoSaid : Prop := packBackUptoRow.holds Tryz.pinned (OpenSpec.upto packBackSpec)

/-- 'fairwaylaw5.PackConnects', WHERE WHAT IT READS IS OF BULK AT MOST 1048576: true; the input reads as it did. -/
def packConnectsUptoRow : OpenClaim := { program := "ytiancngpknnkaaagreat", sum := "a1f0c62999482310b3a3d48f1fe00d42371a637c721f25ee7a8b835e759a871b", func := "fairway/fairwaylaw5.PackConnects", spec := "packConnects", inPlace := ["internal/abi.NoEscape"], unfollowed := true, recurses := true, apart := false, narrowed := true }
def PackConnectsUptoSaid : Prop := packConnectsUptoRow.holds Tryz.pinned (OpenSpec.upto packConnectsSpec)

/-- 'fairwaylaw5.PackConnAcks', WHERE WHAT IT READS IS OF BULK AT MOST 1048576: true; the input reads as it did. -/
def packConnAcksUptoRow : OpenClaim := { program := "ytiancngpknnkaaagreat", sum := "a1f0c62999482310b3a3d48f1fe00d42371a637c721f25ee7a8b835e759a871b", func := "fairway/fairwaylaw5.PackConnAcks", spec := "packConnAcks", inPlace := ["internal/abi.NoEscape"], unfollowed := true, recurses := true, apart := false, narrowed := true }
def PackConnAcksUptoSaid : Prop := packConnAcksUptoRow.holds Tryz.pinned (OpenSpec.upto packConnAcksSpec)

/-- 'fairwaylaw5.PackPublishs', WHERE WHAT IT READS IS OF BULK AT MOST 1048576: true; the input reads as it did. -/
def packPublishsUptoRow : OpenClaim := { program := "ytiancngpknnkaaagreat", sum := "a1f0c62999482310b3a3d48f1fe00d42371a637c721f25ee7a8b835e759a871b", func := "fairway/fairwaylaw5.PackPublishs", spec := "packPublishs", inPlace := ["internal/abi.NoEscape"], unfollowed := true, recurses := true, apart := false, narrowed := true }
def PackPublishsUptoSaid : Prop := packPublishsUptoRow.holds Tryz.pinned (OpenSpec.upto packPublishsSpec)

/-- 'fairwaylaw5.PackPubAcks', WHERE WHAT IT READS IS OF BULK AT MOST 1048576: true; the input reads as it did. -/
def packPubAcksUptoRow : OpenClaim := { program := "ytiancngpknnkaaagreat", sum := "a1f0c62999482310b3a3d48f1fe00d42371a637c721f25ee7a8b835e759a871b", func := "fairway/fairwaylaw5.PackPubAcks", spec := "packPubAcks", inPlace := ["internal/abi.NoEscape"], unfollowed := true, recurses := true, apart := false, narrowed := true }
def PackPubAcksUptoSaid : Prop := packPubAcksUptoRow.holds Tryz.pinned (OpenSpec.upto packPubAcksSpec)

/-- 'fairwaylaw5.PackPubRecs', WHERE WHAT IT READS IS OF BULK AT MOST 1048576: true; the input reads as it did. -/
def packPubRecsUptoRow : OpenClaim := { program := "ytiancngpknnkaaagreat", sum := "a1f0c62999482310b3a3d48f1fe00d42371a637c721f25ee7a8b835e759a871b", func := "fairway/fairwaylaw5.PackPubRecs", spec := "packPubRecs", inPlace := ["internal/abi.NoEscape"], unfollowed := true, recurses := true, apart := false, narrowed := true }
def PackPubRecsUptoSaid : Prop := packPubRecsUptoRow.holds Tryz.pinned (OpenSpec.upto packPubRecsSpec)

/-- 'fairwaylaw5.PackPubRels', WHERE WHAT IT READS IS OF BULK AT MOST 1048576: true; the input reads as it did. -/
def packPubRelsUptoRow : OpenClaim := { program := "ytiancngpknnkaaagreat", sum := "a1f0c62999482310b3a3d48f1fe00d42371a637c721f25ee7a8b835e759a871b", func := "fairway/fairwaylaw5.PackPubRels", spec := "packPubRels", inPlace := ["internal/abi.NoEscape"], unfollowed := true, recurses := true, apart := false, narrowed := true }
def PackPubRelsUptoSaid : Prop := packPubRelsUptoRow.holds Tryz.pinned (OpenSpec.upto packPubRelsSpec)

/-- 'fairwaylaw5.PackPubComps', WHERE WHAT IT READS IS OF BULK AT MOST 1048576: true; the input reads as it did. -/
def packPubCompsUptoRow : OpenClaim := { program := "ytiancngpknnkaaagreat", sum := "a1f0c62999482310b3a3d48f1fe00d42371a637c721f25ee7a8b835e759a871b", func := "fairway/fairwaylaw5.PackPubComps", spec := "packPubComps", inPlace := ["internal/abi.NoEscape"], unfollowed := true, recurses := true, apart := false, narrowed := true }
def PackPubCompsUptoSaid : Prop := packPubCompsUptoRow.holds Tryz.pinned (OpenSpec.upto packPubCompsSpec)

/-- 'fairwaylaw5.PackSubAcks', WHERE WHAT IT READS IS OF BULK AT MOST 1048576: true; the input reads as it did. -/
def packSubAcksUptoRow : OpenClaim := { program := "ytiancngpknnkaaagreat", sum := "a1f0c62999482310b3a3d48f1fe00d42371a637c721f25ee7a8b835e759a871b", func := "fairway/fairwaylaw5.PackSubAcks", spec := "packSubAcks", inPlace := ["internal/abi.NoEscape"], unfollowed := true, recurses := true, apart := false, narrowed := true }
def PackSubAcksUptoSaid : Prop := packSubAcksUptoRow.holds Tryz.pinned (OpenSpec.upto packSubAcksSpec)

/-- 'fairwaylaw5.PackUnsubAcks', WHERE WHAT IT READS IS OF BULK AT MOST 1048576: true; the input reads as it did. -/
def packUnsubAcksUptoRow : OpenClaim := { program := "ytiancngpknnkaaagreat", sum := "a1f0c62999482310b3a3d48f1fe00d42371a637c721f25ee7a8b835e759a871b", func := "fairway/fairwaylaw5.PackUnsubAcks", spec := "packUnsubAcks", inPlace := ["internal/abi.NoEscape"], unfollowed := true, recurses := true, apart := false, narrowed := true }
def PackUnsubAcksUptoSaid : Prop := packUnsubAcksUptoRow.holds Tryz.pinned (OpenSpec.upto packUnsubAcksSpec)

/-- 'fairwaylaw5.PackPingReqs', WHERE WHAT IT READS IS OF BULK AT MOST 1048576: true; the input reads as it did. -/
def packPingReqsUptoRow : OpenClaim := { program := "ytiancngpknnkaaagreat", sum := "a1f0c62999482310b3a3d48f1fe00d42371a637c721f25ee7a8b835e759a871b", func := "fairway/fairwaylaw5.PackPingReqs", spec := "packPingReqs", inPlace := ["internal/abi.NoEscape"], unfollowed := true, recurses := true, apart := false, narrowed := true }
def PackPingReqsUptoSaid : Prop := packPingReqsUptoRow.holds Tryz.pinned (OpenSpec.upto packPingReqsSpec)

/-- 'fairwaylaw5.PackPingResps', WHERE WHAT IT READS IS OF BULK AT MOST 1048576: true; the input reads as it did. -/
def packPingRespsUptoRow : OpenClaim := { program := "ytiancngpknnkaaagreat", sum := "a1f0c62999482310b3a3d48f1fe00d42371a637c721f25ee7a8b835e759a871b", func := "fairway/fairwaylaw5.PackPingResps", spec := "packPingResps", inPlace := ["internal/abi.NoEscape"], unfollowed := true, recurses := true, apart := false, narrowed := true }
def PackPingRespsUptoSaid : Prop := packPingRespsUptoRow.holds Tryz.pinned (OpenSpec.upto packPingRespsSpec)

/-- 'fairwaylaw5.PackDisconnects', WHERE WHAT IT READS IS OF BULK AT MOST 1048576: true; the input reads as it did. -/
def packDisconnectsUptoRow : OpenClaim := { program := "ytiancngpknnkaaagreat", sum := "a1f0c62999482310b3a3d48f1fe00d42371a637c721f25ee7a8b835e759a871b", func := "fairway/fairwaylaw5.PackDisconnects", spec := "packDisconnects", inPlace := ["internal/abi.NoEscape"], unfollowed := true, recurses := true, apart := false, narrowed := true }
def PackDisconnectsUptoSaid : Prop := packDisconnectsUptoRow.holds Tryz.pinned (OpenSpec.upto packDisconnectsSpec)

/-- 'fairwaylaw5.PackAuths', WHERE WHAT IT READS IS OF BULK AT MOST 1048576: true; the input reads as it did. -/
def packAuthsUptoRow : OpenClaim := { program := "ytiancngpknnkaaagreat", sum := "a1f0c62999482310b3a3d48f1fe00d42371a637c721f25ee7a8b835e759a871b", func := "fairway/fairwaylaw5.PackAuths", spec := "packAuths", inPlace := ["internal/abi.NoEscape"], unfollowed := true, recurses := true, apart := false, narrowed := true }
def PackAuthsUptoSaid : Prop := packAuthsUptoRow.holds Tryz.pinned (OpenSpec.upto packAuthsSpec)

/-- 'fairwaylaw6.FrameExact', WHERE WHAT IT READS IS OF BULK AT MOST 1048576: true; the input reads as it did. -/
def frameExactUptoRow : OpenClaim := { program := "ytiancngpknnkaaagreat", sum := "a1f0c62999482310b3a3d48f1fe00d42371a637c721f25ee7a8b835e759a871b", func := "fairway/fairwaylaw6.FrameExact", spec := "frameExact", unfollowed := true, recurses := true, apart := false, narrowed := true }
def FrameExactUptoSaid : Prop := frameExactUptoRow.holds Tryz.pinned (OpenSpec.upto frameExactSpec)

end Rows
end Go.Proofs.YtiancngpknnkaaaGreat
