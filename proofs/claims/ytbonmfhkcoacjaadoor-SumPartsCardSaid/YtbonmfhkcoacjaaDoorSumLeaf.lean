/- The small functions of the third layer's statements: a number brought within bounds; the word that everybody asks. -/
import Derived.Test.YtbonmfhkcoacjaaDoorSumRef
import Derived.IntWalk
namespace Go.Proofs.YtbonmfhkcoacjaaDoor
open Go.RowKit Go.Lib Crc

/-- The bound of a 64-bit number without a sign. -/
def big64 : Int := 18446744073709551616
/-- Where a number lies among so many. -/
def within (n m : Int) : Int := n % big64 % m
theorem within_lt {n m : Int} (h : 0 < m) : 0 ≤ within n m ∧ within n m < m := ⟨Int.emod_nonneg _ (by omega), Int.emod_lt_of_pos _ h⟩
set_option maxHeartbeats 1000000 in
theorem Within_any (n m : Int) (w : World) (h2 : 0 < m) (h3 : m ≤ 9223372036854775807) :
    Calls Tryd.prog 8 #[.int .i64 n, .int .i64 m] w fun e w' => e = .returned (.int .i64 (within n m)) ∧ w = w' := by
  go_enter Tryd.func8, Tryd.ntmps8
  go_wp2
  go_ret
  refine ⟨ret_int ?_, rfl⟩
  have e : IntKind.u64.wrap n = n % big64 := by unfold IntKind.wrap big64; simp [IntKind.bits, IntKind.signed]
  rw [e, Int.tmod_eq_emod_of_nonneg (Int.emod_nonneg _ (by decide))]
  have hw := within_lt (n := n) h2
  unfold within at hw ⊢
  exact IntWalk.wrap64_in _ ⟨by omega, by omega⟩

set_option maxRecDepth 100000 in
set_option maxHeartbeats 1000000 in
theorem wakes_any (w : World) (ht : Tab w) : Calls Tryd.prog 7 #[] w fun e w' => e = .returned (.bool true) ∧ Below w.heap.size w w' := by
  have HN := Lib.hid (fun W (h : Tab W) => Sum_is 0 ⟨#[49, 50, 51, 52, 53, 54, 55, 56, 57]⟩ 3808858755 W (by omega) (by decide) h sum_word)
  have HT := Lib.hid ht
  clear ht
  go_enter Tryd.func7, Tryd.ntmps7
  go_wp2_with fail
  refine (HN.out _ HT.out).mono ?_
  rintro e w1 ⟨rfl, hb⟩
  go_wp2_with fail
  go_ret
  exact ⟨rfl, hb⟩
end Go.Proofs.YtbonmfhkcoacjaaDoor
