/- The document's own answer on packets: what stands behind the length of a packet that may be; its bytes. -/
import Derived.Test.YtiancngpknnkaaaGreatK00
import Derived.Test.YtiancngpknnkaaaGreatK14
set_option maxRecDepth 100000
set_option maxHeartbeats 64000000
namespace Go.Proofs.YtiancngpknnkaaaGreat
open Go.RowKit Go.Lib Prp Pkt Vbi
theorem num_doc (n : Int) : (Part.number n).okB = idB n := by
 unfold Part.okB idB
 exact decide_eq_decide.2 (by omega)
open Go.RowKit Go.Lib Prp Pkt Vbi
theorem num_part {n : Int} (h : (Part.number n).okB = true) : 1 ≤ n ∧ n < 65536 := of_decide_eq_true h
end Go.Proofs.YtiancngpknnkaaaGreat
