/- PropNumbers: the law one, for its kinds. -/
import Derived.Test.YthjlbdplhhgcpaaPropOne
namespace Go.Proofs.Ythjlbdplhhgcpaa
open Go.RowKit Go.Lib Prp

set_option maxRecDepth 100000 in
theorem PropNumbers_any (A : Option Addr) (n c : Nat) (w : World) (h : Asks w A n) :
    Calls Try.prog 8 #[.slice A n c] w fun e w' => e = .returned (.bool true) ∧ Below w.heap.size w w' := by
  have H := Lib.hid (one_any A n c 1 4 w h)
  clear h
  go_enter Try.func8, Try.ntmps8
  go_wp2_with fail
  refine H.out.mono ?_
  rintro e w1 ⟨rfl, hb⟩
  go_wp2_with fail
  go_ret
  exact ⟨rfl, hb⟩
end Go.Proofs.Ythjlbdplhhgcpaa
