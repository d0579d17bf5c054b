/- The document's own answer on packets: what stands behind the length of a packet that may be; its bytes. -/
import Derived.Test.YtiancngpknnkaaaGreatK00
import Derived.Test.YtiancngpknnkaaaGreatK15
set_option maxRecDepth 100000
set_option maxHeartbeats 64000000
namespace Go.Proofs.YtiancngpknnkaaaGreat
open Go.RowKit Go.Lib Prp Pkt Vbi
theorem parts_of (p : Pk) {l : List Part} (hg : goodP p = true) (h : partsL p = l) : allOk l = true ∧ restP p = allStr l := by
 obtain ⟨_, h2⟩ := good_parts hg
 unfold restP
 rw [h] at h2 ⊢
 exact ⟨h2, rfl⟩
end Go.Proofs.YtiancngpknnkaaaGreat
