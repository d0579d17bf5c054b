/- The document's own: the packet that bytes begin with (their first byte is none of a Subscribe or an Unsubscribe). -/
import Derived.Test.YtdbbcfohjkgdcaaGreatL00
import Derived.Test.YtdbbcfohjkgdcaaGreatL27
set_option maxRecDepth 100000
set_option maxHeartbeats 64000000
namespace Go.Proofs.YtdbbcfohjkgdcaaGreat
open Go.RowKit Go.Lib Prp Pkt Vbi
def NoAsk (s : ByteArray) : Prop := idOf s ≠ 130 ∧ idOf s ≠ 162
theorem RTake_is (s : ByteArray) (w : World) (hn : NoAsk s) (hs : s.size ≤ 268435456) :
  Calls Tryz.prog 47 #[.string s] w (GivesPk (takeS s) w) := (RTakeN_of s w (fun t W ht h0 h1 => rbody_is (idOf s) t W h0 h1 hn.1 hn.2 ht) hs).mono fun _ _ h => h.pk
end Go.Proofs.YtdbbcfohjkgdcaaGreat
