/- Plain facts on packets: which may be but for their length, in the document's own order of asking. -/
import Derived.Test.YtiancngpknnkaaaGreatK00
import Derived.Test.YtiancngpknnkaaaGreatK11
import Derived.Test.YtiancngpknnkaaaGreatK13
set_option maxRecDepth 100000
set_option maxHeartbeats 64000000
namespace Go.Proofs.YtiancngpknnkaaaGreat
open Go.RowKit Go.Lib Prp Pkt Vbi
theorem re_zero {p : Pk} (hF : fieldB p = true) (h : p.kind = 1 ∨ p.kind = 3 ∨ p.kind = 8 ∨ p.kind = 9 ∨ p.kind = 10 ∨ p.kind = 11) : p.re = 0 := by
 unfold fieldB fieldOf at hF
 simp only [Bool.and_eq_true, Bool.or_eq_true, Bool.not_eq_true', decide_eq_true_eq, bne_eq_false_iff_eq] at hF
 rcases hF.2.2.2.2.1 with h1 | h1
 ·exact h1
 ·omega
end Go.Proofs.YtiancngpknnkaaaGreat
