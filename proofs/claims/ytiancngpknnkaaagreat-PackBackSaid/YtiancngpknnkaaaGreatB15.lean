/- The document's own answer: is a property's value one of its kind? -/
import Derived.Test.YtiancngpknnkaaaGreatB05
import Derived.Test.YtiancngpknnkaaaGreatB03
set_option maxRecDepth 100000
set_option maxHeartbeats 64000000
namespace Go.Proofs.YtiancngpknnkaaaGreat
open Go.RowKit Go.Lib Prp Vbi Txt
end Go.Proofs.YtiancngpknnkaaaGreat
