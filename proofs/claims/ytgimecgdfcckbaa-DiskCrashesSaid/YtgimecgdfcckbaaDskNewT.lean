/- What the laws on a disk call beside it: New that takes, Within. -/
import Derived.Test.YtgimecgdfcckbaaDskTwice
namespace Go.Proofs.Ytgimecgdfcckbaa.Dsk
open Go.RowKit Go.Lib Go.Maps

def GivesNewT (R : List Fl) (W : World) (e : Ending) (w' : World) : Prop := ∃ d X, e = .returned (.tuple #[.pointer (some ⟨d, 0, none⟩), .int .i64 0]) ∧ Dk w' X d R 0 false ∧ (∀ k, X k → W.heap.size ≤ k) ∧ Below W.heap.size W w'
set_option maxHeartbeats 1000000 in
theorem within_lit (x : Int) (hx : x = 3 ∨ x = 6 ∨ x = 8 ∨ x = 9 ∨ x = 10 ∨ x = 12) (w : World) : Calls Try.prog 40 #[.int .i64 x, .int .i64 13] w fun e w' => e = .returned (.int .i64 x) ∧ w' = w := by
  rcases hx with rfl | rfl | rfl | rfl | rfl | rfl <;>
  · go_enter Try.func40, Try.ntmps40
    go_wp2
    go_ret
    exact ⟨rfl, rfl⟩

end Go.Proofs.Ytgimecgdfcckbaa.Dsk
