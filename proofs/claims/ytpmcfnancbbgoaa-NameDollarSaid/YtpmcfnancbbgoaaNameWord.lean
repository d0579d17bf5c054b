/- Two cells that stay, carried through a region that draws. -/
import Derived.Test.YtpmcfnancbbgoaaInRegion
import Derived.Test.YtpmcfnancbbgoaaStrMem
import Derived.Deep.Cut
namespace Go.Proofs.Ytpmcfnancbbgoaa
open Go.RowKit Go.Lib

/-- Two cells hold x and y; below B nothing has turned since w. -/
@[irreducible] def TwoAt (w : World) (B : Nat) (p q : Addr) (x y : Value) (W : World) : Prop := W.cell? p = some x ∧ W.cell? q = some y ∧ Below B w W ∧ p.block < B ∧ q.block < B
section
variable {w W W' : World} {B : Nat} {p q : Addr} {x y : Value}
theorem TwoAt.mk (h : W.cell? p = some x ∧ W.cell? q = some y ∧ Below B w W ∧ p.block < B ∧ q.block < B) : TwoAt w B p q x y W := by unfold TwoAt; exact h
theorem TwoAt.out (h : TwoAt w B p q x y W) : W.cell? p = some x ∧ W.cell? q = some y ∧ Below B w W ∧ p.block < B ∧ q.block < B := by unfold TwoAt at h; exact h
theorem TwoAt.below (h : TwoAt w B p q x y W) (hs : B ≤ W.heap.size) (hb : Below W.heap.size W W') : TwoAt w B p q x y W' := by
  obtain ⟨h1, h2, h3, h4, h5⟩ := h.out
  exact .mk ⟨(hb.cell (Nat.lt_of_lt_of_le h4 hs)).trans h1, (hb.cell (Nat.lt_of_lt_of_le h5 hs)).trans h2, h3.trans (hb.mono hs), h4, h5⟩
theorem TwoAt.drewN (h : TwoAt w B p q x y W) (n : Nat) : TwoAt w B p q x y (W.drewN n) := by
  obtain ⟨h1, h2, h3, h4, h5⟩ := h.out
  exact .mk ⟨h1, h2, below_drewN h3 n, h4, h5⟩
end
end Go.Proofs.Ytpmcfnancbbgoaa
