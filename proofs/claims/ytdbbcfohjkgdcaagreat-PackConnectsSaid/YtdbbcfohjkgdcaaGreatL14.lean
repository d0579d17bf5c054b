/- Package pack: the parts of a packet that are its codes, its filters. -/
import Derived.Test.YtdbbcfohjkgdcaaGreatL00
import Derived.Test.YtdbbcfohjkgdcaaGreatL12
set_option maxRecDepth 100000
set_option maxHeartbeats 64000000
namespace Go.Proofs.YtdbbcfohjkgdcaaGreat
open Go.RowKit Go.Lib Prp Pkt
theorem info_fil : (Tryz.prog.info? 75).map (fun i => (i.zero, i.size, i.bytes)) = some (some (.agg #[.string ⟨#[]⟩, .int .i64 0, .bool false, .bool false, .int .i64 0]), 5, 40) := by kernel_rfl
theorem info_int : (Tryz.prog.info? 3).map (fun i => (i.zero, i.size, i.bytes)) = some (some (.int .i64 0), 1, 8) := by kernel_rfl
theorem one_fcells (p : Fl) : ∀ u ∈ fcells p, u.oneCell' = true := by
 intro u hu
 unfold fcells at hu
 simp at hu
 rcases hu with rfl | rfl | rfl | rfl | rfl <;> rfl
open Go.RowKit Go.Lib Prp Pkt Vbi Txt
theorem KP.grown {w W W' : World} {g : Nat} {p : Pk} {a : Ad} (h : KP w g p a W) (hg : w.heap.size = g) (hb : Below (w.heap.size + 1) W W') : KP w g p a W' := by
 refine .mk (.mk ?_ (h.b.trans (hb.mono (by omega)))) (h.out.2.below (hb.mono (by omega)))
 obtain ⟨T, hT⟩ := h.k.out.1
 exact ⟨T, (hb.block g (by omega)).trans hT⟩
end Go.Proofs.YtdbbcfohjkgdcaaGreat
