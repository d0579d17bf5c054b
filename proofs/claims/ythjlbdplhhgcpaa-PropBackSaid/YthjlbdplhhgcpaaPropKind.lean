/- Package prop, and the document's own answer: which kind a property is of; which places there are. -/
import Derived.Test.YthjlbdplhhgcpaaTextLeaf
import Derived.Test.YthjlbdplhhgcpaaPropPlain
namespace Go.Proofs.Ythjlbdplhhgcpaa
open Go.RowKit Go.Lib Prp

theorem ne_false {a b : Int} (h : a ≠ b) : (a == b) = false := by rw [beq_eq_false_iff_ne]; exact h

set_option maxRecDepth 100000 in
set_option maxHeartbeats 8000000 in
theorem Kind_is (id K E : Int) (w : World) (hK : kindZ id = K) (hE : kindErr id = E) :
    Calls Try.prog 11 #[.int .i64 id] w fun e w' => e = .returned (.tuple #[.int .i64 K, .int .i64 E]) ∧ w = w' := by
  rcases kind_cases id with c | c | c | c | c | c | c | c
  · rcases c with rfl | rfl | rfl | rfl | rfl | rfl | rfl | rfl <;>
    · obtain rfl : 1 = K := hK
      obtain rfl : 0 = E := hE
      go_enter Try.func11, Try.ntmps11
      go_wp2
      go_ret2
      exact ⟨rfl, rfl⟩
  · rcases c with rfl | rfl | rfl | rfl <;>
    · obtain rfl : 2 = K := hK
      obtain rfl : 0 = E := hE
      go_enter Try.func11, Try.ntmps11
      go_wp2
      go_ret2
      exact ⟨rfl, rfl⟩
  · rcases c with rfl | rfl | rfl | rfl <;>
    · obtain rfl : 3 = K := hK
      obtain rfl : 0 = E := hE
      go_enter Try.func11, Try.ntmps11
      go_wp2
      go_ret2
      exact ⟨rfl, rfl⟩
  · obtain rfl := c
    obtain rfl : 4 = K := hK
    obtain rfl : 0 = E := hE
    go_enter Try.func11, Try.ntmps11
    go_wp2
    go_ret2
    exact ⟨rfl, rfl⟩
  · rcases c with rfl | rfl | rfl | rfl | rfl | rfl | rfl <;>
    · obtain rfl : 5 = K := hK
      obtain rfl : 0 = E := hE
      go_enter Try.func11, Try.ntmps11
      go_wp2
      go_ret2
      exact ⟨rfl, rfl⟩
  · rcases c with rfl | rfl <;>
    · obtain rfl : 6 = K := hK
      obtain rfl : 0 = E := hE
      go_enter Try.func11, Try.ntmps11
      go_wp2
      go_ret2
      exact ⟨rfl, rfl⟩
  · obtain rfl := c
    obtain rfl : 7 = K := hK
    obtain rfl : 0 = E := hE
    go_enter Try.func11, Try.ntmps11
    go_wp2
    go_ret2
    exact ⟨rfl, rfl⟩
  · obtain rfl : 0 = K := (kind_none c).symm.trans hK
    obtain rfl : 3 = E := by rw [← hE]; unfold kindErr; rw [if_pos (kind_none c)]
    clear hK hE
    obtain ⟨⟨a1, a2, a3, a4, a5, a6, a7, a8⟩, ⟨b1, b2, b3, b4⟩, ⟨c1, c2, c3, c4⟩, d1, ⟨e1, e2, e3, e4, e5, e6, e7⟩, ⟨f1, f2⟩, g1⟩ := c
    replace a1 := ne_false a1
    replace a2 := ne_false a2
    replace a3 := ne_false a3
    replace a4 := ne_false a4
    replace a5 := ne_false a5
    replace a6 := ne_false a6
    replace a7 := ne_false a7
    replace a8 := ne_false a8
    replace b1 := ne_false b1
    replace b2 := ne_false b2
    replace b3 := ne_false b3
    replace b4 := ne_false b4
    replace c1 := ne_false c1
    replace c2 := ne_false c2
    replace c3 := ne_false c3
    replace c4 := ne_false c4
    replace d1 := ne_false d1
    replace e1 := ne_false e1
    replace e2 := ne_false e2
    replace e3 := ne_false e3
    replace e4 := ne_false e4
    replace e5 := ne_false e5
    replace e6 := ne_false e6
    replace e7 := ne_false e7
    replace f1 := ne_false f1
    replace f2 := ne_false f2
    replace g1 := ne_false g1
    go_enter Try.func11, Try.ntmps11
    go_wp2
    go_ret2
    exact ⟨rfl, rfl⟩
end Go.Proofs.Ythjlbdplhhgcpaa
