/- Package pack: the packet that bytes begin with. -/
import Derived.Test.YtdbbcfohjkgdcaaGreatL00
import Derived.Test.YtdbbcfohjkgdcaaGreatL18
set_option maxRecDepth 100000
set_option maxHeartbeats 64000000
namespace Go.Proofs.YtdbbcfohjkgdcaaGreat
open Go.RowKit Go.Lib Prp Pkt Vbi
theorem PTake_is (s : ByteArray) (w : World) (hs : s.size ≤ 268435456) :
  Calls Tryz.prog 46 #[.string s] w (GivesPk (takeS s) w) := (PTakeN_is s w hs).mono fun _ _ h => h.pk
end Go.Proofs.YtdbbcfohjkgdcaaGreat
