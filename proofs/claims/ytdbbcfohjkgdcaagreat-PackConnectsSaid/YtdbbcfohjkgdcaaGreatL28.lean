/- The document's own: may a packet be: its box, and the box of one that has just what its kind has. -/
import Derived.Test.YtdbbcfohjkgdcaaGreatL00
import Derived.Test.YtdbbcfohjkgdcaaGreatL25
set_option maxRecDepth 100000
set_option maxHeartbeats 64000000
namespace Go.Proofs.YtdbbcfohjkgdcaaGreat
open Go.RowKit Go.Lib Prp Pkt Vbi
@[irreducible] def Pair (w : World) (g g3 : Nat) (p : Pk) (a : Ad) (N : Pk) (a' : Ad) (W : World) : Prop :=
 Box W g (pkArr p a) ∧ Box W g3 (pkArr N a') ∧ PkAt W w.heap.size p a ∧ Below w.heap.size w W ∧ w.heap.size ≤ g ∧ w.heap.size ≤ g3 ∧ g ≠ g3
section
variable {w W W' : World} {g g3 : Nat} {p N N' : Pk} {a a' a'' : Ad}
theorem Pair.mk (h : Box W g (pkArr p a) ∧ Box W g3 (pkArr N a') ∧ PkAt W w.heap.size p a ∧ Below w.heap.size w W ∧ w.heap.size ≤ g ∧ w.heap.size ≤ g3 ∧ g ≠ g3) : Pair w g g3 p a N a' W := by unfold Pair; exact h
theorem Pair.out (h : Pair w g g3 p a N a' W) : Box W g (pkArr p a) ∧ Box W g3 (pkArr N a') ∧ PkAt W w.heap.size p a ∧ Below w.heap.size w W ∧ w.heap.size ≤ g ∧ w.heap.size ≤ g3 ∧ g ≠ g3 := by unfold Pair at h; exact h
theorem Pair.b (h : Pair w g g3 p a N a' W) : Below w.heap.size w W := h.out.2.2.2.1
theorem Pair.at (h : Pair w g g3 p a N a' W) : PkAt W W.heap.size p a := h.out.2.2.1.mono h.b.size
theorem Pair.below (h : Pair w g g3 p a N a' W) (hb : Below W.heap.size W W') : Pair w g g3 p a N a' W' := by
 obtain ⟨h1, h2, h3, h4, h5, h6, h7⟩ := h.out
 exact .mk ⟨h1.below hb, h2.below hb, h3.below (hb.mono h4.size), h4.trans (hb.mono h4.size), h5, h6, h7⟩
theorem Pair.put (h : Pair w g g3 p a N a' W) (i : Nat) (v : Value) (N' : Pk) (a'' : Ad) (he : (pkArr N a').setIfInBounds i v = pkArr N' a'') : Pair w g g3 p a N' a'' (W.setCell ⟨g3, i, none⟩ v) := by
 obtain ⟨h1, h2, h3, h4, h5, h6, h7⟩ := h.out
 refine .mk ⟨Box.far h1 h7 v, ?_, h3.below ((Below.refl w.heap.size W).setCell (p := ⟨g3, i, none⟩) h6 v), h4.setCell (p := ⟨g3, i, none⟩) h6 v, h5, h6, h7⟩
 rw [← he]
 exact h2.put i v
theorem Pair.putw (h : Pair w g g3 p a N a' W) : Pair w g g3 p a { N with w := p.w } { a' with wa := a.wa, wc := a.wc } (W.setCells g3 14 (wlArr p.w a.wa a.wc).toList) :=
 (((((h.put 14 (.bool p.w.has) { N with w := { N.w with has := p.w.has } } a' rfl).put 15 (.int .i64 p.w.q) { N with w := { N.w with has := p.w.has, q := p.w.q } } a' rfl).put 16 (.bool p.w.ret) { N with w := { N.w with has := p.w.has, q := p.w.q, ret := p.w.ret } } a' rfl).put 17 (.string p.w.t) { N with w := { N.w with has := p.w.has, q := p.w.q, ret := p.w.ret, t := p.w.t } } a' rfl).put 18 (.string p.w.b) { N with w := { N.w with has := p.w.has, q := p.w.q, ret := p.w.ret, t := p.w.t, b := p.w.b } } a' rfl).put 19 (.slice a.wa p.w.ps.length a.wc) { N with w := p.w } { a' with wa := a.wa, wc := a.wc } rfl
@[irreducible] def Trio (w : World) (g g3 g4 : Nat) (p : Pk) (a : Ad) (N : Pk) (a' : Ad) (W : World) : Prop := Pair w g g3 p a N a' W ∧ Box W g4 (wlArr p.w a.wa a.wc) ∧ g4 ≠ g3
theorem Trio.mk {g4 : Nat} (h : Pair w g g3 p a N a' W ∧ Box W g4 (wlArr p.w a.wa a.wc) ∧ g4 ≠ g3) : Trio w g g3 g4 p a N a' W := by unfold Trio; exact h
theorem Trio.out {g4 : Nat} (h : Trio w g g3 g4 p a N a' W) : Pair w g g3 p a N a' W ∧ Box W g4 (wlArr p.w a.wa a.wc) ∧ g4 ≠ g3 := by unfold Trio at h; exact h
theorem Trio.below {g4 : Nat} (h : Trio w g g3 g4 p a N a' W) (hb : Below W.heap.size W W') : Trio w g g3 g4 p a N a' W' := .mk ⟨h.out.1.below hb, h.out.2.1.below hb, h.out.2.2⟩
theorem Trio.put {g4 : Nat} (h : Trio w g g3 g4 p a N a' W) (i : Nat) (v : Value) (N' : Pk) (a'' : Ad) (he : (pkArr N a').setIfInBounds i v = pkArr N' a'') : Trio w g g3 g4 p a N' a'' (W.setCell ⟨g3, i, none⟩ v) :=
 .mk ⟨h.out.1.put i v N' a'' he, Box.far h.out.2.1 h.out.2.2 v, h.out.2.2⟩
theorem Trio.putw {g4 : Nat} (h : Trio w g g3 g4 p a N a' W) : Trio w g g3 g4 p a { N with w := p.w } { a' with wa := a.wa, wc := a.wc } (W.setCells g3 14 (wlArr p.w a.wa a.wc).toList) :=
 .mk ⟨h.out.1.putw, Box.far (p := ⟨g3, 19, none⟩) (Box.far (p := ⟨g3, 18, none⟩) (Box.far (p := ⟨g3, 17, none⟩) (Box.far (p := ⟨g3, 16, none⟩) (Box.far (p := ⟨g3, 15, none⟩) (Box.far (p := ⟨g3, 14, none⟩) h.out.2.1 h.out.2.2 _) h.out.2.2 _) h.out.2.2 _) h.out.2.2 _) h.out.2.2 _) h.out.2.2 _, h.out.2.2⟩
end
end Go.Proofs.YtdbbcfohjkgdcaaGreat
