/- PropTexts: the law one, for its kinds. -/
import Derived.Test.YthjlbdplhhgcpaaPropOne
namespace Go.Proofs.Ythjlbdplhhgcpaa
open Go.RowKit Go.Lib Prp

set_option maxRecDepth 100000 in
theorem PropTexts_any (A : Option Addr) (n c : Nat) (w : World) (h : Asks w A n) :
    Calls Try.prog 9 #[.slice A n c] w fun e w' => e = .returned (.bool true) ∧ Below w.heap.size w w' := by
  have H := Lib.hid (one_any A n c 5 6 w h)
  clear h
  go_enter Try.func9, Try.ntmps9
  go_wp2_with fail
  refine H.out.mono ?_
  rintro e w1 ⟨rfl, hb⟩
  go_wp2_with fail
  go_ret
  exact ⟨rfl, hb⟩
end Go.Proofs.Ythjlbdplhhgcpaa
