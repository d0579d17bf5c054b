/- The small functions of package text and of the document's own answer: which code point may be in a text; numbers brought within bounds; an error's number. -/
import Derived.Test.YtdogeljlcnlbkaaShelf
import Derived.Test.YtdogeljlcnlbkaaTextPlain
import Derived.WalkKit
import Derived.WalkSpells
import Derived.WalkLawsBesides
import Derived.Lib.Hide
namespace Go.Proofs.Ytdogeljlcnlbkaa
open Go.RowKit Go.Lib Txt

theorem ret_bool {a b : Bool} (h : a = b) : Ending.returned (.bool a) = .returned (.bool b) := by rw [h]
theorem ret_int {k : IntKind} {a b : Int} (h : a = b) : Ending.returned (.int k a) = .returned (.int k b) := by rw [h]
theorem bool_dec {b : Bool} {p : Prop} [Decidable p] (h : b = true ↔ p) : b = decide p := by
  rw [Bool.eq_iff_iff, h]; simp
theorem dec_false {p : Prop} [Decidable p] (h : ¬ p) : false = decide p := (decide_eq_false h).symm
theorem dec_true {p : Prop} [Decidable p] (h : p) : true = decide p := (decide_eq_true h).symm
theorem dec_dec {p q : Prop} [Decidable p] [Decidable q] (h : q ↔ p) : decide q = decide p := decide_eq_decide.2 h

set_option maxHeartbeats 1000000 in
theorem good_any (n : Int) (w : World) (h0 : -9223372036854775808 ≤ n) (h1 : n ≤ 9223372036854775807) :
    Calls Try.prog 66 #[.int .i64 n] w fun e w' => e = .returned (.bool (good n)) ∧ w' = w := by
  go_enter Try.func66, Try.ntmps66
  go_wp2
  all_goals (go_ret; refine ⟨ret_bool ?_, rfl⟩; unfold good; first | exact dec_false (by omega) | exact dec_dec (by omega) | exact dec_true (by omega))

def ctl (n : Int) : Bool := decide (n < 32 ∨ (127 ≤ n ∧ n ≤ 159))
def noc (n : Int) : Bool := decide (65534 ≤ n % 65536 ∨ (64976 ≤ n ∧ n ≤ 65007))

set_option maxHeartbeats 1000000 in
theorem isControl_any (n : Int) (w : World) :
    Calls Try.prog 73 #[.int .i32 n] w fun e w' => e = .returned (.bool (ctl n)) ∧ w' = w := by
  go_enter Try.func73, Try.ntmps73
  go_wp2
  all_goals (go_ret; refine ⟨ret_bool ?_, rfl⟩; unfold ctl; first | exact dec_false (by omega) | exact dec_dec (by omega) | exact dec_true (by omega) | (refine bool_dec ?_; simp; omega))

theorem and_fffe (m : Nat) : m &&& 65534 = m % 65536 / 2 * 2 := by
  have h1 : (m &&& 65534) / 2 = m / 2 % 32768 := by rw [Nat.and_div_two]; exact Nat.and_two_pow_sub_one_eq_mod _ 15
  have h2 : (m &&& 65534) % 2 = 0 := by
    have := Nat.and_mod_two_pow (a := m) (b := 65534) (n := 1)
    simpa using this
  omega
theorem ofInt_i32 (a : Nat) (ha : a < 2147483648) : (BitVec.ofInt 32 (a : Int)).toNat = a := by
  rw [BitVec.ofInt_natCast, BitVec.toNat_ofNat]; exact Nat.mod_eq_of_lt (by omega)
theorem i32_and_nat (a b : Nat) (ha : a < 2147483648) (hb : b < 2147483648) : bits .and .i32 (a : Int) (b : Int) = ((a &&& b : Nat) : Int) := by
  have hx : a &&& b < 2 ^ 31 := Nat.and_lt_two_pow _ (by omega)
  show IntKind.i32.wrap ((BitVec.ofInt 32 (a : Int) &&& BitVec.ofInt 32 (b : Int)).toNat : Int) = _
  rw [BitVec.toNat_and, ofInt_i32 a ha, ofInt_i32 b hb]
  unfold IntKind.wrap
  simp [IntKind.bits, IntKind.signed]
  omega

set_option maxHeartbeats 1000000 in
theorem isNoCharacter_any (n : Int) (w : World) (h0 : 0 ≤ n) (h1 : n ≤ 1114111) :
    Calls Try.prog 74 #[.int .i32 n] w fun e w' => e = .returned (.bool (noc n)) ∧ w' = w := by
  obtain ⟨x, hx, hiff⟩ : ∃ x : Int, bits .and .i32 n 65534 = x ∧ (x = 65534 ↔ 65534 ≤ n % 65536) := by
    refine ⟨_, rfl, ?_⟩
    obtain ⟨m, rfl⟩ := Int.eq_ofNat_of_zero_le h0
    rw [show (65534 : Int) = ((65534 : Nat) : Int) from rfl, i32_and_nat m 65534 (by omega) (by omega), and_fffe]
    omega
  have H := Lib.hid hiff
  clear hiff
  go_enter Try.func74, Try.ntmps74
  go_wp2
  all_goals (go_ret; refine ⟨ret_bool ?_, rfl⟩; have hiff := H.out; clear H; unfold noc; first | exact dec_false (by omega) | exact dec_dec (by omega) | exact dec_true (by omega) | (refine bool_dec ?_; simp; omega))

set_option maxHeartbeats 1000000 in
/-- text.mayBe: may a code point be in a text? -/
theorem mayBe_any (n : Int) (w : World) :
    Calls Try.prog 67 #[.int .i32 n] w fun e w' => e = .returned (.bool (good n)) ∧ w' = w := by
  by_cases hv : Lib.validRune n = true
  · have hb : 0 ≤ n ∧ n ≤ 1114111 ∧ (n < 55296 ∨ 57343 < n) := by unfold Lib.validRune at hv; have := of_decide_eq_true hv; omega
    cases hc : ctl n with
    | true =>
      have hg : good n = false := by rw [good_not]; unfold ctl at hc; have := of_decide_eq_true hc; omega
      have Hg := Lib.hid hg
      clear hg
      go_enter Try.func67, Try.ntmps67
      go_wp2_with (first | (go_at_call 72; refine (Try.utf8_ValidRune _ _).mono ?_; rintro e w' ⟨rfl, rfl⟩) | (go_at_call 73; refine (isControl_any _ _).mono ?_; rintro e w' ⟨rfl, rfl⟩))
      go_ret
      exact ⟨ret_bool (by rw [Hg.out]), rfl⟩
    | false =>
      have hg : good n = !noc n := by
        unfold ctl at hc
        have hc' := of_decide_eq_false hc
        cases hn : noc n with
        | true => rw [Bool.not_true, good_not]; unfold noc at hn; have := of_decide_eq_true hn; omega
        | false => rw [Bool.not_false, good_iff]; unfold noc at hn; have := of_decide_eq_false hn; omega
      have Hg := Lib.hid hg
      clear hg
      obtain ⟨b0, b1, _⟩ := hb
      go_enter Try.func67, Try.ntmps67
      go_wp2_with (first | (go_at_call 72; refine (Try.utf8_ValidRune _ _).mono ?_; rintro e w' ⟨rfl, rfl⟩) | (go_at_call 73; refine (isControl_any _ _).mono ?_; rintro e w' ⟨rfl, rfl⟩) | (go_at_call 74; refine (isNoCharacter_any _ _ b0 b1).mono ?_; rintro e w' ⟨rfl, rfl⟩))
      go_ret
      exact ⟨ret_bool (by rw [Hg.out]), rfl⟩
  · have hv : Lib.validRune n = false := by simpa using hv
    have hg : good n = false := by rw [good_not]; unfold Lib.validRune at hv; have := of_decide_eq_false hv; omega
    have Hg := Lib.hid hg
    clear hg
    go_enter Try.func67, Try.ntmps67
    go_wp2_with (go_at_call 72; refine (Try.utf8_ValidRune _ _).mono ?_; rintro e w' ⟨rfl, rfl⟩)
    go_ret
    exact ⟨ret_bool (by rw [Hg.out]), rfl⟩

end Go.Proofs.Ytdogeljlcnlbkaa
