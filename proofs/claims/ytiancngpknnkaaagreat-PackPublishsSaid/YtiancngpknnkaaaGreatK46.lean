/- The document's own answer: a number as two bytes. -/
import Derived.Test.YtiancngpknnkaaaGreatK00
import Derived.Test.YtiancngpknnkaaaGreatK38
set_option maxRecDepth 100000
set_option maxHeartbeats 64000000
namespace Go.Proofs.YtiancngpknnkaaaGreat
open Go.RowKit Go.Lib Vbi Txt
theorem RFixed_two (n : Nat) (S : ByteArray) (w : World) (hn : n < 65536) (hS : strOfNums (fixZ 2 n) = S) :
  Calls Tryz.prog 93 #[.int .i64 (n : Int), .int .i64 2] w fun e w' => e = .returned (.string S) ∧ Below w.heap.size w w' := by
 rw [← hS]; exact RFixed_ok n 2 w (by omega) (by omega)
end Go.Proofs.YtiancngpknnkaaaGreat
