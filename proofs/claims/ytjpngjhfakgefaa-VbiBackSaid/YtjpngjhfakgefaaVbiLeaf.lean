/- The small functions of the second layer's statements: an error's number; what is too long; numbers within bounds; a call that is right. -/
import Derived.Test.YtjpngjhfakgefaaVbiNum
namespace Go.Proofs.Ytjpngjhfakgefaa
open Go.RowKit Go.Lib Vbi

set_option maxHeartbeats 1000000 in
theorem num_same (n : Int) (w : World) :
    Calls Try.prog 15 #[.int .i64 n] w fun e w' => e = .returned (.int .i64 n) ∧ w = w' := by
  go_enter Try.func15, Try.ntmps15
  go_wp2
  go_ret
  exact ⟨rfl, rfl⟩

def heavyB (n m : Nat) : Bool := decide (3000 < n ∨ 3000 < m)
theorem heavy_not {n m : Nat} (h : heavyB n m = false) : n ≤ 3000 ∧ m ≤ 3000 := by
  unfold heavyB at h
  have := of_decide_eq_false h
  omega
set_option maxRecDepth 100000 in
set_option maxHeartbeats 1000000 in
theorem heavy_any (x : Int) (s y : ByteArray) (w : World) :
    Calls Try.prog 17 #[.agg #[.int .i64 x, .string s, .string y]] w fun e w' => e = .returned (.bool (heavyB s.size y.size)) ∧ Below w.heap.size w w' := by
  by_cases h1 : 3000 < s.size
  · go_enter Try.func17, Try.ntmps17
    go_wp2
    go_ret
    exact ⟨ret_bool (dec_true (.inl h1)), (Below.refl _ _).alloc (Nat.le_refl _) _⟩
  · go_enter Try.func17, Try.ntmps17
    go_wp2
    go_ret
    refine ⟨ret_bool ?_, (Below.refl _ _).alloc (Nat.le_refl _) _⟩
    unfold heavyB
    first | exact dec_dec (by omega) | (refine bool_dec ?_; simp; omega)
theorem heavy_is (x : Int) (s y : ByteArray) (w : World) (b : Bool) (h : heavyB s.size y.size = b) :
    Calls Try.prog 17 #[.agg #[.int .i64 x, .string s, .string y]] w fun e w' => e = .returned (.bool b) ∧ Below w.heap.size w w' := by
  rw [← h]; exact heavy_any x s y w

theorem str321 : numStr 321 = ⟨#[193, 2]⟩ := by
  unfold numStr
  rw [if_pos (by omega), show (321 : Int).toNat = 321 from rfl, numZ_two (by omega) (by omega)]
  rfl
theorem err321 : numErr 321 = 0 := by unfold numErr; rw [if_pos (by omega)]
set_option maxRecDepth 100000 in
set_option maxHeartbeats 1000000 in
theorem wakes_any (w : World) : Calls Try.prog 16 #[] w fun e w' => e = .returned (.bool true) ∧ Below w.heap.size w w' := by
  have HN := Lib.hid (fun W => Num_is 321 _ _ W str321 err321)
  go_enter Try.func16, Try.ntmps16
  go_wp2_with fail
  refine (HN.out _).mono ?_
  rintro e w1 ⟨rfl, hb⟩
  go_wp2_with (go_at_call 15; refine (num_same _ _).mono ?_; rintro e w' ⟨rfl, rfl⟩)
  go_ret
  exact ⟨rfl, hb⟩
end Go.Proofs.Ytjpngjhfakgefaa
