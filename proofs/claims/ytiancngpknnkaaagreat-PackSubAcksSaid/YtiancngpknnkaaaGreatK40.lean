/- Packets that may be but for their length, and the document's own bytes of them: what holds kind by kind. -/
import Derived.Test.YtiancngpknnkaaaGreatK00
import Derived.Test.YtiancngpknnkaaaGreatK14
import Derived.Test.YtiancngpknnkaaaGreatK39
set_option maxRecDepth 100000
set_option maxHeartbeats 64000000
namespace Go.Proofs.YtiancngpknnkaaaGreat
open Go.RowKit Go.Lib Prp Pkt Vbi
theorem PropBytes_ok (place : Int) (l : List P) (A : Option Addr) (c : Nat) (S : ByteArray) (w : World) (hp : propsB place l = true) (h : PropsAt w w.heap.size A l) (hS : propStr l = S) :
  Calls Tryz.prog 94 #[.slice A l.length c] w fun e w' => e = .returned (.string S) ∧ Below w.heap.size w w' :=
 RPropBytes_is l A c S w (props_all hp).1 (props_all hp).2 h hS
end Go.Proofs.YtiancngpknnkaaaGreat
