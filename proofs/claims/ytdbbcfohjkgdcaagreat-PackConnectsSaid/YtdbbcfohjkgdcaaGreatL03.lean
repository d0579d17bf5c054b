/- The document's own answer: whether bytes may be a text. -/
import Derived.Test.YtdbbcfohjkgdcaaGreatL00
import Derived.Test.YtdbbcfohjkgdcaaGreatL01
import Derived.Test.YtdbbcfohjkgdcaaGreatL02
set_option maxRecDepth 100000
set_option maxHeartbeats 64000000
namespace Go.Proofs.YtdbbcfohjkgdcaaGreat
open Go.RowKit Go.Lib Txt
theorem ret_bool {a b : Bool} (h : a = b) : Ending.returned (.bool a) = .returned (.bool b) := by rw [h]
theorem ret_int {k : IntKind} {a b : Int} (h : a = b) : Ending.returned (.int k a) = .returned (.int k b) := by rw [h]
theorem bool_dec {b : Bool} {p : Prop} [Decidable p] (h : b = true ↔ p) : b = decide p := by
 rw [Bool.eq_iff_iff, h]; simp
theorem dec_false {p : Prop} [Decidable p] (h : ¬ p) : false = decide p := (decide_eq_false h).symm
theorem dec_true {p : Prop} [Decidable p] (h : p) : true = decide p := (decide_eq_true h).symm
theorem dec_dec {p q : Prop} [Decidable p] [Decidable q] (h : q ↔ p) : decide q = decide p := decide_eq_decide.2 h
theorem good_any (n : Int) (w : World) (h0 : -9223372036854775808 ≤ n) (h1 : n ≤ 9223372036854775807) :
  Calls Tryz.prog 116 #[.int .i64 n] w fun e w' => e = .returned (.bool (good n)) ∧ w' = w := by
 go_enter Tryz.func116, Tryz.ntmps116
 go_wp2
 all_goals (go_ret; refine ⟨ret_bool ?_, rfl⟩; unfold good; first | exact dec_false (by omega) | exact dec_dec (by omega) | exact dec_true (by omega))
def ctl (n : Int) : Bool := decide (n < 32 ∨ (127 ≤ n ∧ n ≤ 159))
def noc (n : Int) : Bool := decide (65534 ≤ n % 65536 ∨ (64976 ≤ n ∧ n ≤ 65007))
theorem isControl_any (n : Int) (w : World) :
  Calls Tryz.prog 155 #[.int .i32 n] w fun e w' => e = .returned (.bool (ctl n)) ∧ w' = w := by
 go_enter Tryz.func155, Tryz.ntmps155
 go_wp2
 all_goals (go_ret; refine ⟨ret_bool ?_, rfl⟩; unfold ctl; first | exact dec_false (by omega) | exact dec_dec (by omega) | exact dec_true (by omega) | (refine bool_dec ?_; simp; omega))
theorem and_fffe (m : Nat) : m &&& 65534 = m % 65536 / 2 * 2 := by
 have h1 : (m &&& 65534) / 2 = m / 2 % 32768 := by rw [Nat.and_div_two]; exact Nat.and_two_pow_sub_one_eq_mod _ 15
 have h2 : (m &&& 65534) % 2 = 0 := by
  have := Nat.and_mod_two_pow (a := m) (b := 65534) (n := 1)
  simpa using this
 omega
theorem ofInt_i32 (a : Nat) (ha : a < 2147483648) : (BitVec.ofInt 32 (a : Int)).toNat = a := by
 rw [BitVec.ofInt_natCast, BitVec.toNat_ofNat]; exact Nat.mod_eq_of_lt (by omega)
theorem i32_and_nat (a b : Nat) (ha : a < 2147483648) (hb : b < 2147483648) : bits .and .i32 (a : Int) (b : Int) = ((a &&& b : Nat) : Int) := by
 have hx : a &&& b < 2 ^ 31 := Nat.and_lt_two_pow _ (by omega)
 show IntKind.i32.wrap ((BitVec.ofInt 32 (a : Int) &&& BitVec.ofInt 32 (b : Int)).toNat : Int) = _
 rw [BitVec.toNat_and, ofInt_i32 a ha, ofInt_i32 b hb]
 unfold IntKind.wrap
 simp [IntKind.bits, IntKind.signed]
 omega
theorem isNoCharacter_any (n : Int) (w : World) (h0 : 0 ≤ n) (h1 : n ≤ 1114111) :
  Calls Tryz.prog 156 #[.int .i32 n] w fun e w' => e = .returned (.bool (noc n)) ∧ w' = w := by
 obtain ⟨x, hx, hiff⟩ : ∃ x : Int, bits .and .i32 n 65534 = x ∧ (x = 65534 ↔ 65534 ≤ n % 65536) := by
  refine ⟨_, rfl, ?_⟩
  obtain ⟨m, rfl⟩ := Int.eq_ofNat_of_zero_le h0
  rw [show (65534 : Int) = ((65534 : Nat) : Int) from rfl, i32_and_nat m 65534 (by omega) (by omega), and_fffe]
  omega
 have H := Lib.hid hiff
 clear hiff
 go_enter Tryz.func156, Tryz.ntmps156
 go_wp2
 all_goals (go_ret; refine ⟨ret_bool ?_, rfl⟩; have hiff := H.out; clear H; unfold noc; first | exact dec_false (by omega) | exact dec_dec (by omega) | exact dec_true (by omega) | (refine bool_dec ?_; simp; omega))
theorem mayBe_any (n : Int) (w : World) :
  Calls Tryz.prog 134 #[.int .i32 n] w fun e w' => e = .returned (.bool (good n)) ∧ w' = w := by
 by_cases hv : Lib.validRune n = true
 ·have hb : 0 ≤ n ∧ n ≤ 1114111 ∧ (n < 55296 ∨ 57343 < n) := by unfold Lib.validRune at hv; have := of_decide_eq_true hv; omega
  cases hc : ctl n with
  | true =>
   have hg : good n = false := by rw [good_not]; unfold ctl at hc; have := of_decide_eq_true hc; omega
   have Hg := Lib.hid hg
   clear hg
   go_enter Tryz.func134, Tryz.ntmps134
   go_wp2_with (first | (go_at_call 154; refine (Tryz.utf8_ValidRune _ _).mono ?_; rintro e w' ⟨rfl, rfl⟩) | (go_at_call 155; refine (isControl_any _ _).mono ?_; rintro e w' ⟨rfl, rfl⟩))
   go_ret
   exact ⟨ret_bool (by rw [Hg.out]), rfl⟩
  | false =>
   have hg : good n = !noc n := by
    unfold ctl at hc
    have hc' := of_decide_eq_false hc
    cases hn : noc n with
    | true => rw [Bool.not_true, good_not]; unfold noc at hn; have := of_decide_eq_true hn; omega
    | false => rw [Bool.not_false, good_iff]; unfold noc at hn; have := of_decide_eq_false hn; omega
   have Hg := Lib.hid hg
   clear hg
   obtain ⟨b0, b1, _⟩ := hb
   go_enter Tryz.func134, Tryz.ntmps134
   go_wp2_with (first | (go_at_call 154; refine (Tryz.utf8_ValidRune _ _).mono ?_; rintro e w' ⟨rfl, rfl⟩) | (go_at_call 155; refine (isControl_any _ _).mono ?_; rintro e w' ⟨rfl, rfl⟩) | (go_at_call 156; refine (isNoCharacter_any _ _ b0 b1).mono ?_; rintro e w' ⟨rfl, rfl⟩))
   go_ret
   exact ⟨ret_bool (by rw [Hg.out]), rfl⟩
 ·have hv : Lib.validRune n = false := by simpa using hv
  have hg : good n = false := by rw [good_not]; unfold Lib.validRune at hv; have := of_decide_eq_false hv; omega
  have Hg := Lib.hid hg
  clear hg
  go_enter Tryz.func134, Tryz.ntmps134
  go_wp2_with (go_at_call 154; refine (Tryz.utf8_ValidRune _ _).mono ?_; rintro e w' ⟨rfl, rfl⟩)
  go_ret
  exact ⟨ret_bool (by rw [Hg.out]), rfl⟩
open Go.RowKit Go.Lib Vbi
theorem ofInt_i64 (a : Nat) (ha : a < 9223372036854775808) : (BitVec.ofInt 64 (a : Int)).toNat = a := by
 rw [BitVec.ofInt_natCast, BitVec.toNat_ofNat]; exact Nat.mod_eq_of_lt (by omega)
theorem i64_or_nat (a b : Nat) (ha : a < 9223372036854775808) (hb : b < 9223372036854775808) : bits .or .i64 (a : Int) (b : Int) = ((a ||| b : Nat) : Int) := by
 have hx : a ||| b < 2 ^ 63 := Nat.or_lt_two_pow (by omega) (by omega)
 show IntKind.i64.wrap ((BitVec.ofInt 64 (a : Int) ||| BitVec.ofInt 64 (b : Int)).toNat : Int) = _
 rw [BitVec.toNat_or, ofInt_i64 a ha, ofInt_i64 b hb]
 unfold IntKind.wrap
 simp [IntKind.bits, IntKind.signed]
 omega
theorem i64_or_add (a b k : Nat) (ha : a < 2 ^ k) (hk : k ≤ 40) (hb : b * 2 ^ k < 9223372036854775808) : bits .or .i64 (a : Int) ((b * 2 ^ k : Nat) : Int) = ((a + b * 2 ^ k : Nat) : Int) := by
 have h2 : (2 : Nat) ^ k ≤ 2 ^ 40 := Nat.pow_le_pow_right (by decide) hk
 rw [i64_or_nat a _ (by omega) hb, Nat.or_comm, Nat.mul_comm b, ← Nat.two_pow_add_eq_or_of_lt ha, Nat.add_comm]
theorem data_at (s : ByteArray) (k : Nat) (h : k < s.size) : s.data.toList.drop k = s[k] :: s.data.toList.drop (k + 1) := by
 rw [List.drop_eq_getElem_cons (by simpa using h)]; rfl
theorem data_end (s : ByteArray) (k : Nat) (h : s.size ≤ k) : s.data.toList.drop k = [] := List.drop_of_length_le (by rw [← Lib.size_eq]; exact h)
theorem tn_or0 (m c : Nat) (hm : m < 128 ^ 0) : bits .or .i64 (m : Int) ((c : Int) % 128) = ((m + c % 128 * 128 ^ (3 - 3) : Nat) : Int) := by
 have := i64_or_add m (c % 128) 0 (by simpa using hm) (by omega) (by omega)
 simpa using this
theorem tn_or1 (m c : Nat) (hm : m < 128 ^ 1) : bits .or .i64 (m : Int) ((c : Int) % 128 * 128) = ((m + c % 128 * 128 ^ (3 - 2) : Nat) : Int) := by
 have := i64_or_add m (c % 128) 7 (by omega) (by omega) (by omega)
 simpa using this
theorem tn_or2 (m c : Nat) (hm : m < 128 ^ 2) : bits .or .i64 (m : Int) ((c : Int) % 128 * 16384) = ((m + c % 128 * 128 ^ (3 - 1) : Nat) : Int) := by
 have := i64_or_add m (c % 128) 14 (by omega) (by omega) (by omega)
 simpa using this
theorem tn_or3 (m c : Nat) (hm : m < 128 ^ 3) : bits .or .i64 (m : Int) ((c : Int) % 128 * 2097152) = ((m + c % 128 * 128 ^ (3 - 0) : Nat) : Int) := by
 have := i64_or_add m (c % 128) 21 (by omega) (by omega) (by omega)
 simpa using this
theorem tn_or0z (m c : Nat) (hm : m < 128 ^ 0) (hc : c = 0) : bits .or .i64 (m : Int) 0 = ((m + c % 128 * 128 ^ (3 - 3) : Nat) : Int) := by
 subst hc
 exact tn_or0 m 0 hm
theorem ret_tn {l : List UInt8} {a b c : Int} (h : tn l = (a, b, c)) : Ending.returned (.tuple #[.int .i64 a, .int .i64 b, .int .i64 c]) = .returned (.tuple #[.int .i64 (tn l).1, .int .i64 (tn l).2.1, .int .i64 (tn l).2.2]) := by rw [h]
theorem tn_last {l : List UInt8} {f n : Nat} {b : UInt8} {t : List UInt8} (e : tn l = tnGo (f + 1) n (b :: t)) (h : b.toNat < 128) (hf : b.toNat ≠ 0 ∨ f = 3) : tn l = (((n + b.toNat % 128 * 128 ^ (3 - f) : Nat) : Int), ((4 - f : Nat) : Int), 0) := by
 rw [e, tnGo_last h hf, Nat.mod_eq_of_lt h]
theorem tn_next {l : List UInt8} {f n k : Nat} {b : UInt8} {t : List UInt8} (e : tn l = tnGo (f + 1) n (b :: t)) (h : 128 ≤ b.toNat) (hf : f + k = 3) (hn : n < 128 ^ k) :
  n + b.toNat % 128 * 128 ^ (3 - f) < 128 ^ (k + 1) ∧ tn l = tnGo f (n + b.toNat % 128 * 128 ^ (3 - f)) t := by
 refine ⟨?_, e.trans (tnGo_more h)⟩
 have : 3 - f = k := by omega
 rw [this, Nat.pow_succ]
 have h1 : b.toNat % 128 * 128 ^ k ≤ 127 * 128 ^ k := Nat.mul_le_mul_right _ (by omega)
 omega
@[irreducible] def TnOk (l : List UInt8) (w : World) (e : Ending) (w' : World) : Prop := e = .returned (.tuple #[.int .i64 (tn l).1, .int .i64 (tn l).2.1, .int .i64 (tn l).2.2]) ∧ w' = w
theorem tn_ok {l : List UInt8} {w : World} {a b c : Int} (h : tn l = (a, b, c)) : TnOk l w (.returned (.tuple #[.int .i64 a, .int .i64 b, .int .i64 c])) w := by
 unfold TnOk; exact ⟨ret_tn h, rfl⟩
theorem TakeNum_ok (s : ByteArray) (w : World) (hs : s.size ≤ 9223372036854775807) :
  Calls Tryz.prog 81 #[.string s] w (TnOk s.data.toList w) := by
 go_enter Tryz.func81, Tryz.ntmps81
 go_wp2_with fail
 go_loop [2, 7] (fun n i => ∃ (k m : Nat), k ≤ 4 ∧ k ≤ s.size ∧ i = .int .i64 (k : Int) ∧ n = .int .i64 (m : Int) ∧ m < 128 ^ k ∧ tn s.data.toList = tnGo (4 - k) m (s.data.toList.drop k)) (fun _ i => 4 - (RowKit.intOf i).toNat)
 case atStart => exact ⟨0, 0, by omega, by omega, rfl, rfl, by simp, rfl⟩
 case round =>
  obtain ⟨k, m, hk, hks, rfl, rfl, hm, ht⟩ := hrel
  by_cases h4 : k < 4
  ·by_cases hlt : k < s.size
   ·rw [data_at s k hlt] at ht
    have hb : s[k].toNat < 256 := s[k].toNat_lt
    have hne : ¬ s = ByteArray.empty := by intro h; rw [h] at hlt; exact absurd hlt (by simp)
    rcases (by omega : k = 0 ∨ k = 1 ∨ k = 2 ∨ k = 3) with rfl | rfl | rfl | rfl
    ·have HO := Lib.hid (tn_or0 m s[0].toNat hm)
     have HZ := Lib.hid (tn_or0z m s[0].toNat hm)
     have HM := Lib.hid hm
     have HT := Lib.hid ht
     clear ht hm
     by_cases hc : 128 ≤ s[0].toNat
     ·go_wp2_with fail
      go_round
      case rel => exact ⟨1, _, by omega, by omega, rfl, by rw [HO.out], (tn_next (k := 0) HT.out hc rfl HM.out).1, (tn_next (k := 0) HT.out hc rfl HM.out).2⟩
      case measure => simp [RowKit.intOf]
     ·go_wp2_with fail
      all_goals
       go_ret3
       first | (rw [HZ.out (by assumption)]; exact tn_ok (tn_last HT.out (by omega) (.inr rfl))) | (rw [HO.out]; exact tn_ok (tn_last HT.out (by omega) (.inr rfl)))
    ·have HO := Lib.hid (tn_or1 m s[1].toNat hm)
     have HM := Lib.hid hm
     have HT := Lib.hid ht
     clear ht hm
     by_cases hc : 128 ≤ s[1].toNat
     ·go_wp2_with fail
      go_round
      case rel => exact ⟨2, _, by omega, by omega, rfl, by rw [HO.out], (tn_next (k := 1) HT.out hc rfl HM.out).1, (tn_next (k := 1) HT.out hc rfl HM.out).2⟩
      case measure => simp [RowKit.intOf]
     ·go_wp2_with fail
      ·have hz : s[1].toNat = 0 := by assumption
       go_ret3
       exact tn_ok (HT.out.trans (tnGo_bad hz (by omega)))
      ·have hz : ¬ s[1].toNat = 0 := by assumption
       go_ret3
       rw [HO.out]
       exact tn_ok (tn_last HT.out (by omega) (.inl hz))
    ·have HO := Lib.hid (tn_or2 m s[2].toNat hm)
     have HM := Lib.hid hm
     have HT := Lib.hid ht
     clear ht hm
     by_cases hc : 128 ≤ s[2].toNat
     ·go_wp2_with fail
      go_round
      case rel => exact ⟨3, _, by omega, by omega, rfl, by rw [HO.out], (tn_next (k := 2) HT.out hc rfl HM.out).1, (tn_next (k := 2) HT.out hc rfl HM.out).2⟩
      case measure => simp [RowKit.intOf]
     ·go_wp2_with fail
      ·have hz : s[2].toNat = 0 := by assumption
       go_ret3
       exact tn_ok (HT.out.trans (tnGo_bad hz (by omega)))
      ·have hz : ¬ s[2].toNat = 0 := by assumption
       go_ret3
       rw [HO.out]
       exact tn_ok (tn_last HT.out (by omega) (.inl hz))
    ·have HO := Lib.hid (tn_or3 m s[3].toNat hm)
     have HM := Lib.hid hm
     have HT := Lib.hid ht
     clear ht hm
     by_cases hc : 128 ≤ s[3].toNat
     ·go_wp2_with fail
      go_round
      case rel => exact ⟨4, _, by omega, by omega, rfl, by rw [HO.out], (tn_next (k := 3) HT.out hc rfl HM.out).1, (tn_next (k := 3) HT.out hc rfl HM.out).2⟩
      case measure => simp [RowKit.intOf]
     ·go_wp2_with fail
      ·have hz : s[3].toNat = 0 := by assumption
       go_ret3
       exact tn_ok (HT.out.trans (tnGo_bad hz (by omega)))
      ·have hz : ¬ s[3].toNat = 0 := by assumption
       go_ret3
       rw [HO.out]
       exact tn_ok (tn_last HT.out (by omega) (.inl hz))
   ·rw [data_end s k (by omega)] at ht
    obtain rfl : k = s.size := by omega
    have HT := Lib.hid (ht.trans (show tnGo (4 - s.size) m [] = (0, 0, 7) by obtain ⟨f, hf⟩ : ∃ f, 4 - s.size = f + 1 := ⟨3 - s.size, by omega⟩; rw [hf]; rfl))
    clear ht hm
    go_wp2_with fail
    go_ret3
    exact tn_ok HT.out
  ·obtain rfl : k = 4 := by omega
   have HT := Lib.hid ht
   clear ht hm
   go_wp2_with fail
   go_ret3
   exact tn_ok HT.out
theorem RTakeNum_ok (s : ByteArray) (w : World) (hs : s.size ≤ 9223372036854775807) :
  Calls Tryz.prog 83 #[.string s] w (TnOk s.data.toList w) := by
 go_enter Tryz.func83, Tryz.ntmps83
 go_wp2_with fail
 go_loop [5, 6] (fun n i => ∃ (k m : Nat), k ≤ 4 ∧ k ≤ s.size ∧ i = .int .i64 (k : Int) ∧ n = .int .i64 (m : Int) ∧ m < 128 ^ k ∧ tn s.data.toList = tnGo (4 - k) m (s.data.toList.drop k)) (fun _ i => 4 - (RowKit.intOf i).toNat)
 case atStart => exact ⟨0, 0, by omega, by omega, rfl, rfl, by simp, rfl⟩
 case round =>
  obtain ⟨k, m, hk, hks, rfl, rfl, hm, ht⟩ := hrel
  by_cases h4 : k < 4
  ·by_cases hlt : k < s.size
   ·rw [data_at s k hlt] at ht
    have hb : s[k].toNat < 256 := s[k].toNat_lt
    have hne : ¬ s = ByteArray.empty := by intro h; rw [h] at hlt; exact absurd hlt (by simp)
    rcases (by omega : k = 0 ∨ k = 1 ∨ k = 2 ∨ k = 3) with rfl | rfl | rfl | rfl
    ·have HO := Lib.hid (tn_or0 m s[0].toNat hm)
     have HZ := Lib.hid (tn_or0z m s[0].toNat hm)
     have HM := Lib.hid hm
     have HT := Lib.hid ht
     clear ht hm
     by_cases hc : 128 ≤ s[0].toNat
     ·go_wp2_with fail
      go_round
      case rel => exact ⟨1, _, by omega, by omega, rfl, by rw [HO.out], (tn_next (k := 0) HT.out hc rfl HM.out).1, (tn_next (k := 0) HT.out hc rfl HM.out).2⟩
      case measure => simp [RowKit.intOf]
     ·go_wp2_with fail
      all_goals
       go_ret3
       first | (rw [HZ.out (by assumption)]; exact tn_ok (tn_last HT.out (by omega) (.inr rfl))) | (rw [HO.out]; exact tn_ok (tn_last HT.out (by omega) (.inr rfl)))
    ·have HO := Lib.hid (tn_or1 m s[1].toNat hm)
     have HM := Lib.hid hm
     have HT := Lib.hid ht
     clear ht hm
     by_cases hc : 128 ≤ s[1].toNat
     ·go_wp2_with fail
      go_round
      case rel => exact ⟨2, _, by omega, by omega, rfl, by rw [HO.out], (tn_next (k := 1) HT.out hc rfl HM.out).1, (tn_next (k := 1) HT.out hc rfl HM.out).2⟩
      case measure => simp [RowKit.intOf]
     ·go_wp2_with fail
      ·have hz : s[1].toNat = 0 := by assumption
       go_ret3
       exact tn_ok (HT.out.trans (tnGo_bad hz (by omega)))
      ·have hz : ¬ s[1].toNat = 0 := by assumption
       go_ret3
       rw [HO.out]
       exact tn_ok (tn_last HT.out (by omega) (.inl hz))
    ·have HO := Lib.hid (tn_or2 m s[2].toNat hm)
     have HM := Lib.hid hm
     have HT := Lib.hid ht
     clear ht hm
     by_cases hc : 128 ≤ s[2].toNat
     ·go_wp2_with fail
      go_round
      case rel => exact ⟨3, _, by omega, by omega, rfl, by rw [HO.out], (tn_next (k := 2) HT.out hc rfl HM.out).1, (tn_next (k := 2) HT.out hc rfl HM.out).2⟩
      case measure => simp [RowKit.intOf]
     ·go_wp2_with fail
      ·have hz : s[2].toNat = 0 := by assumption
       go_ret3
       exact tn_ok (HT.out.trans (tnGo_bad hz (by omega)))
      ·have hz : ¬ s[2].toNat = 0 := by assumption
       go_ret3
       rw [HO.out]
       exact tn_ok (tn_last HT.out (by omega) (.inl hz))
    ·have HO := Lib.hid (tn_or3 m s[3].toNat hm)
     have HM := Lib.hid hm
     have HT := Lib.hid ht
     clear ht hm
     by_cases hc : 128 ≤ s[3].toNat
     ·go_wp2_with fail
      go_round
      case rel => exact ⟨4, _, by omega, by omega, rfl, by rw [HO.out], (tn_next (k := 3) HT.out hc rfl HM.out).1, (tn_next (k := 3) HT.out hc rfl HM.out).2⟩
      case measure => simp [RowKit.intOf]
     ·go_wp2_with fail
      ·have hz : s[3].toNat = 0 := by assumption
       go_ret3
       exact tn_ok (HT.out.trans (tnGo_bad hz (by omega)))
      ·have hz : ¬ s[3].toNat = 0 := by assumption
       go_ret3
       rw [HO.out]
       exact tn_ok (tn_last HT.out (by omega) (.inl hz))
   ·rw [data_end s k (by omega)] at ht
    obtain rfl : k = s.size := by omega
    have HT := Lib.hid (ht.trans (show tnGo (4 - s.size) m [] = (0, 0, 7) by obtain ⟨f, hf⟩ : ∃ f, 4 - s.size = f + 1 := ⟨3 - s.size, by omega⟩; rw [hf]; rfl))
    clear ht hm
    go_wp2_with fail
    go_ret3
    exact tn_ok HT.out
  ·obtain rfl : k = 4 := by omega
   have HT := Lib.hid ht
   clear ht hm
   go_wp2_with fail
   go_ret3
   exact tn_ok HT.out
open Go.RowKit Go.Lib Vbi
theorem i64_or8 (m c : Nat) (hm : m < 16777216) (hc : c < 256) : bits .or .i64 ((m : Int) * 256) (c : Int) = ((m * 256 + c : Nat) : Int) := by
 have h := i64_or_nat (m * 256) c (by omega) (by omega)
 rw [Nat.mul_comm m 256, show (256 : Nat) = 2 ^ 8 from rfl, ← Nat.two_pow_add_eq_or_of_lt (by omega)] at h
 rw [show ((m : Int) * 256) = ((2 ^ 8 * m : Nat) : Int) by omega, h]
 omega
@[irreducible] def TfOk (wd : Nat) (l : List UInt8) (w : World) (e : Ending) (w' : World) : Prop := e = .returned (.tuple #[.int .i64 (tfVal wd l), .int .i64 (tfErr wd l)]) ∧ w' = w
theorem tf_ok {wd : Nat} {l : List UInt8} {w : World} {a b : Int} (h : tfVal wd l = a) (h2 : tfErr wd l = b) : TfOk wd l w (.returned (.tuple #[.int .i64 a, .int .i64 b])) w := by
 unfold TfOk; rw [h, h2]; exact ⟨rfl, rfl⟩
@[irreducible] def RTfOk (wd : Nat) (l : List UInt8) (w : World) (e : Ending) (w' : World) : Prop := e = .returned (.tuple #[.int .i64 (tfVal wd l), .bool (decide (tfErr wd l = 0))]) ∧ w' = w
theorem rtf_ok {wd : Nat} {l : List UInt8} {w : World} {a b : Int} {c : Bool} (h : tfVal wd l = a) (h2 : tfErr wd l = b) (h3 : decide (b = 0) = c) : RTfOk wd l w (.returned (.tuple #[.int .i64 a, .bool c])) w := by
 unfold RTfOk; rw [h, h2, h3]; exact ⟨rfl, rfl⟩
theorem tf_cut {wd : Nat} {l : List UInt8} (h : l.length < wd) : tfVal wd l = 0 ∧ tfErr wd l = 7 := by
 unfold tfVal tfErr; rw [if_pos h, if_pos h]; exact ⟨rfl, rfl⟩
theorem tf_good {wd : Nat} {l : List UInt8} (h : wd ≤ l.length) : tfVal wd l = (fixVal (l.take wd) : Nat) ∧ tfErr wd l = 0 := by
 unfold tfVal tfErr; rw [if_neg (by omega), if_neg (by omega)]; exact ⟨rfl, rfl⟩
theorem take_drop_at (s : ByteArray) (wd k : Nat) (hk : k < wd) (h : wd ≤ s.size) : (s.data.toList.take wd).drop k = (s[k]'(by omega)) :: (s.data.toList.take wd).drop (k + 1) := by
 have hl : k < (s.data.toList.take wd).length := by rw [List.length_take, ← Lib.size_eq]; omega
 rw [List.drop_eq_getElem_cons hl, List.getElem_take]; rfl
theorem take_drop_end (s : ByteArray) (wd : Nat) : (s.data.toList.take wd).drop wd = [] := List.drop_of_length_le (by rw [List.length_take]; omega)
theorem pow_lt24 {m k : Nat} (hm : m < 256 ^ k) (hk : k < 4) : m < 16777216 := by
 have : 256 ^ k ≤ 256 ^ 3 := Nat.pow_le_pow_right (by decide) (by omega)
 omega
theorem pow_next {m k c : Nat} (hm : m < 256 ^ k) (hc : c < 256) : m * 256 + c < 256 ^ (k + 1) := by
 rw [Nat.pow_succ]; omega
theorem takeFixed_ok (s : ByteArray) (wd : Nat) (w : World) (hs : s.size ≤ 9223372036854775807) (hw : wd ≤ 4) :
  Calls Tryz.prog 166 #[.string s, .int .i64 (wd : Int)] w (TfOk wd s.data.toList w) := by
 by_cases hcut : s.size < wd
 ·have HC := Lib.hid (tf_cut (wd := wd) (l := s.data.toList) (by rw [← Lib.size_eq]; exact hcut))
  have hcut' : (s.size : Int) < (wd : Int) := by omega
  go_enter Tryz.func166, Tryz.ntmps166
  go_wp2
  go_ret2
  exact tf_ok HC.out.1 HC.out.2
 ·have HC := Lib.hid (tf_good (wd := wd) (l := s.data.toList) (by rw [← Lib.size_eq]; omega))
  have hcut' : ¬ (s.size : Int) < (wd : Int) := by omega
  have hcd : decide ((s.size : Int) < (wd : Int)) = false := by simp; omega
  go_enter Tryz.func166, Tryz.ntmps166
  go_wp2_with fail
  go_loop [6, 13] (fun n i => ∃ (k m : Nat), k ≤ wd ∧ i = .int .i64 (k : Int) ∧ n = .int .i64 (m : Int) ∧ m < 256 ^ k ∧ fixVal (s.data.toList.take wd) = fixGo m ((s.data.toList.take wd).drop k)) (fun _ i => wd - (RowKit.intOf i).toNat)
  case atStart => exact ⟨0, 0, by omega, rfl, rfl, by simp, rfl⟩
  case round =>
   obtain ⟨k, m, hk, rfl, rfl, hm, ht⟩ := hrel
   by_cases hlt : k < wd
   ·rw [take_drop_at s wd k hlt (by omega)] at ht
    have hks : k < s.size := by omega
    have hb : s[k].toNat < 256 := s[k].toNat_lt
    have hm24 := pow_lt24 hm (by omega)
    have HO := Lib.hid (i64_or8 m s[k].toNat hm24 hb)
    have HM := Lib.hid hm
    have HT := Lib.hid ht
    clear ht hm
    go_wp2_with fail
    go_round
    case rel => exact ⟨k + 1, _, by omega, by go_num, by rw [HO.out], pow_next HM.out hb, HT.out.trans (fixGo_cons _ _ _)⟩
    case measure => simp [RowKit.intOf]; omega
   ·obtain rfl : k = wd := by omega
    rw [take_drop_end] at ht
    have HT := Lib.hid ht
    clear ht hm
    go_wp2_with fail
    go_ret2
    exact tf_ok (HC.out.1.trans (by rw [HT.out]; rfl)) HC.out.2
theorem RTakeFixed_ok (s : ByteArray) (wd : Nat) (w : World) (hs : s.size ≤ 9223372036854775807) (hw : wd ≤ 4) :
  Calls Tryz.prog 129 #[.string s, .int .i64 (wd : Int)] w (RTfOk wd s.data.toList w) := by
 by_cases hcut : s.size < wd
 ·have HC := Lib.hid (tf_cut (wd := wd) (l := s.data.toList) (by rw [← Lib.size_eq]; exact hcut))
  have hcut' : (s.size : Int) < (wd : Int) := by omega
  go_enter Tryz.func129, Tryz.ntmps129
  go_wp2
  go_ret2
  exact rtf_ok HC.out.1 HC.out.2 rfl
 ·have HC := Lib.hid (tf_good (wd := wd) (l := s.data.toList) (by rw [← Lib.size_eq]; omega))
  have hcut' : ¬ (s.size : Int) < (wd : Int) := by omega
  have hcd : decide ((s.size : Int) < (wd : Int)) = false := by simp; omega
  go_enter Tryz.func129, Tryz.ntmps129
  go_wp2_with fail
  go_loop [6, 7] (fun n i => ∃ (k m : Nat), k ≤ wd ∧ i = .int .i64 (k : Int) ∧ n = .int .i64 (m : Int) ∧ m < 256 ^ k ∧ fixVal (s.data.toList.take wd) = fixGo m ((s.data.toList.take wd).drop k)) (fun _ i => wd - (RowKit.intOf i).toNat)
  case atStart => exact ⟨0, 0, by omega, rfl, rfl, by simp, rfl⟩
  case round =>
   obtain ⟨k, m, hk, rfl, rfl, hm, ht⟩ := hrel
   by_cases hlt : k < wd
   ·rw [take_drop_at s wd k hlt (by omega)] at ht
    have hks : k < s.size := by omega
    have hb : s[k].toNat < 256 := s[k].toNat_lt
    have hm24 := pow_lt24 hm (by omega)
    have HO := Lib.hid (i64_or8 m s[k].toNat hm24 hb)
    have HM := Lib.hid hm
    have HT := Lib.hid ht
    clear ht hm
    go_wp2_with fail
    go_round
    case rel => exact ⟨k + 1, _, by omega, by go_num, by rw [HO.out], pow_next HM.out hb, HT.out.trans (fixGo_cons _ _ _)⟩
    case measure => simp [RowKit.intOf]; omega
   ·obtain rfl : k = wd := by omega
    rw [take_drop_end] at ht
    have HT := Lib.hid ht
    clear ht hm
    go_wp2_with fail
    go_ret2
    exact rtf_ok (HC.out.1.trans (by rw [HT.out]; rfl)) HC.out.2 rfl
theorem TakeTwo_ok (s : ByteArray) (w : World) (hs : s.size ≤ 9223372036854775807) :
  Calls Tryz.prog 162 #[.string s] w (TfOk 2 s.data.toList w) := by
 go_enter Tryz.func162, Tryz.ntmps162
 go_wp2_with fail
 refine (takeFixed_ok s 2 _ hs (by omega)).mono ?_
 intro e w' h
 unfold TfOk at h
 obtain ⟨rfl, rfl⟩ := h
 go_wp2_with fail
 go_ret2
 exact tf_ok rfl rfl
theorem TakeFour_ok (s : ByteArray) (w : World) (hs : s.size ≤ 9223372036854775807) :
  Calls Tryz.prog 170 #[.string s] w (TfOk 4 s.data.toList w) := by
 go_enter Tryz.func170, Tryz.ntmps170
 go_wp2_with fail
 refine (takeFixed_ok s 4 _ hs (by omega)).mono ?_
 intro e w' h
 unfold TfOk at h
 obtain ⟨rfl, rfl⟩ := h
 go_wp2_with fail
 go_ret2
 exact tf_ok rfl rfl
open Go.RowKit Go.Lib Txt
def okAt (s : ByteArray) (pos : Nat) : Bool := good ((Utf8.decode s pos).1 : Int) && !(decide ((Utf8.decode s pos).1 = 65533) && decide ((Utf8.decode s pos).2 = 1))
theorem okAt_no (s : ByteArray) (pos : Nat) (hp : pos < s.size) (h : okAt s pos = false) : chk (s.data.toList.drop pos) = false := by
 have hne : s.data.toList.drop pos ≠ [] := by
  intro e; have := congrArg List.length e; rw [List.length_drop, ← Lib.size_eq] at this; simp at this; omega
 rw [chk_step _ hne, if_pos]
 rw [pt_eq, decodeL_drop, if_neg]
 intro x
 unfold okAt at h
 rw [x.1] at h
 have : (decide ((Utf8.decode s pos).1 = 65533) && decide ((Utf8.decode s pos).2 = 1)) = false := by
  rw [Bool.and_eq_false_iff, decide_eq_false_iff_not, decide_eq_false_iff_not]
  exact Decidable.not_and_iff_not_or_not.1 x.2
 rw [this] at h
 cases h
theorem okAt_yes (s : ByteArray) (pos : Nat) (hp : pos < s.size) (h : okAt s pos = true) : chk (s.data.toList.drop (pos + (Utf8.decode s pos).2)) = chk (s.data.toList.drop pos) ∧ pos + (Utf8.decode s pos).2 ≤ s.size ∧ 1 ≤ (Utf8.decode s pos).2 := by
 have hne : s.data.toList.drop pos ≠ [] := by
  intro e; have := congrArg List.length e; rw [List.length_drop, ← Lib.size_eq] at this; simp at this; omega
 unfold okAt at h
 rw [Bool.and_eq_true] at h
 obtain ⟨h1, h2⟩ := h
 have h3 : ¬ ((Utf8.decode s pos).1 = 65533 ∧ (Utf8.decode s pos).2 = 1) := by
  intro x
  rw [decide_eq_true x.1, decide_eq_true x.2] at h2
  cases h2
 have hpt : pt (s.data.toList.drop pos) = Utf8.decode s pos := by
  rw [pt_eq, decodeL_drop, if_pos ⟨h1, h3⟩]
 have hw := Lib.decode_width_pos s pos hp
 have hle := pt_le hne
 rw [hpt, List.length_drop, ← Lib.size_eq] at hle
 refine ⟨?_, by omega, hw⟩
 rw [chk_step _ hne, hpt, if_neg (by omega), List.drop_drop]
theorem err_at (s : ByteArray) (pos : Nat) (hp : pos < s.size) (h : (Utf8.decode s pos).1 = 65533) :
  hasPrefix (s.extract pos s.size).data.toList [239, 191, 189] = !decide ((Utf8.decode s pos).2 = 1) := by
 have hne : s.data.toList.drop pos ≠ [] := by
  intro e; have := congrArg List.length e; rw [List.length_drop, ← Lib.size_eq] at this; simp at this; omega
 have e : (s.extract pos s.size).data.toList = s.data.toList.drop pos := by
  rw [Lib.extract_data, List.take_of_length_le]
  rw [List.length_drop, ← Lib.size_eq]; omega
 rw [e, err_prefix _ hne (by rw [decodeL_drop]; exact h), decodeL_drop]
theorem mayBe_at (n : Int) (b : Bool) (w : World) (h : good n = b) :
  Calls Tryz.prog 134 #[.int .i32 n] w fun e w' => e = .returned (.bool b) ∧ w' = w := by
 rw [← h]; exact mayBe_any n w
theorem prefix_at (s p : ByteArray) (b : Bool) (w : World) (h : hasPrefix s.data.toList p.data.toList = b) :
  Calls Tryz.prog 135 #[.string s, .string p] w fun e w' => e = .returned (.bool b) ∧ w' = w := by
 rw [← h]; exact Tryz.strings_HasPrefix s p w
theorem Check_any (s : ByteArray) (w : World) (hm : s.size ≤ 9223372036854775807) :
  Calls Tryz.prog 110 #[.string s] w fun e w' => e = .returned (.int .i64 (textErr s.data.toList)) ∧ Below w.heap.size w w' := by
 by_cases hlim : 1024 < s.size
 ·have H := Lib.hid (show textErr s.data.toList = 2 by unfold textErr; rw [← Lib.size_eq, if_pos hlim])
  go_enter Tryz.func110, Tryz.ntmps110
  go_wp2
  go_ret
  exact ⟨ret_int H.out.symm, Below.refl _ _⟩
 ·have H : Hid (textErr s.data.toList = if chk s.data.toList = true then 0 else 8) := Lib.hid (by unfold textErr; rw [← Lib.size_eq, if_neg hlim])
  have hz : decide (1024 < (s.size : Int)) = false := by simp; omega
  go_enter Tryz.func110, Tryz.ntmps110
  go_wp2_with fail
  go_loopw [4] (fun _ wr => ∃ pos : Nat, pos ≤ s.size ∧ wr = w.iter s pos ∧ chk (s.data.toList.drop pos) = chk s.data.toList) (fun _ wr => s.size - wr.iterPos w.heap.size)
  case atStart => exact ⟨0, Nat.zero_le _, rfl, rfl⟩
  case round =>
   obtain ⟨pos, hps, rfl, hc⟩ := hrel
   have HC := Lib.hid hc
   clear hc
   have hb : ∀ p, Below w.heap.size w (w.iter s p) := fun p => (Below.refl _ w).alloc (Nat.le_refl _) _
   by_cases hp : pos < s.size
   ·have hnx := fun ty => run_next_any (P := Tryz.prog) w s pos ty hp
    have hd1 := decode_le s pos
    have hw0 := Lib.decode_width_pos s pos hp
    have HE := fun h => err_at s pos hp h
    have HO : okAt s pos = (good ((Utf8.decode s pos).1 : Int) && !(decide ((Utf8.decode s pos).1 = 65533) && decide ((Utf8.decode s pos).2 = 1))) := rfl
    have HN := okAt_no s pos hp
    have HY := okAt_yes s pos hp
    generalize Utf8.decode s pos = d at hnx hd1 HE HO HY hw0
    obtain ⟨r, v⟩ := d
    simp only [] at hnx hd1 HE HO HY hw0
    have HO' := Lib.hid HO
    clear HO
    have HE' := Lib.hid HE
    clear HE
    have HN' := Lib.hid HN
    clear HN
    have HY' := Lib.hid HY
    clear HY
    cases hg : good (r : Int) with
    | false =>
     have hg' := Lib.hid hg
     clear hg
     go_wp2_with (go_at_call 134; refine (mayBe_at _ false _ hg'.out).mono ?_; rintro e w' ⟨rfl, rfl⟩)
     go_ret
     refine ⟨ret_int ?_, hb _⟩
     rw [H.out, ← HC.out, HN'.out (by rw [HO'.out, hg'.out]; rfl)]; rfl
    | true =>
     have hg' := Lib.hid hg
     clear hg
     by_cases he : r = 65533
     ·have hq : ((r : Int) == 65533) = true := by simp; omega
      have HE1 := Lib.hid (HE'.out he)
      have he' := Lib.hid he
      clear he
      clear HE'
      by_cases hv : v = 1
      ·have HP := Lib.hid (HE1.out.trans (show (!decide (v = 1)) = false by rw [hv]; rfl))
       have hv' := Lib.hid hv
       clear hv
       clear HE1
       go_wp2_with (first | (go_at_call 134; refine (mayBe_at _ true _ hg'.out).mono ?_; rintro e w' ⟨rfl, rfl⟩) | (go_at_call 135; refine (prefix_at (s.extract pos s.size) ⟨#[239, 191, 189]⟩ false _ HP.out).mono ?_; rintro e w' ⟨rfl, rfl⟩))
       go_ret
       refine ⟨ret_int ?_, hb _⟩
       rw [H.out, ← HC.out, HN'.out (by rw [HO'.out, hg'.out, he'.out, hv'.out]; rfl)]; rfl
      ·have HP := Lib.hid (HE1.out.trans (show (!decide (v = 1)) = true by rw [decide_eq_false hv]; rfl))
       have hv' := Lib.hid hv
       clear hv
       clear HE1
       have HZ := Lib.hid (HY'.out (by rw [HO'.out, hg'.out, he'.out, decide_eq_false hv'.out]; rfl))
       go_wp2_with (first | (go_at_call 134; refine (mayBe_at _ true _ hg'.out).mono ?_; rintro e w' ⟨rfl, rfl⟩) | (go_at_call 135; refine (prefix_at (s.extract pos s.size) ⟨#[239, 191, 189]⟩ true _ HP.out).mono ?_; rintro e w' ⟨rfl, rfl⟩))
       go_roundw
       case rel => exact ⟨pos + v, HZ.out.2.1, rfl, HZ.out.1.trans HC.out⟩
       case measure => simp; omega
     ·have hq : ((r : Int) == 65533) = false := by simp; omega
      have HZ := Lib.hid (HY'.out (by rw [HO'.out, hg'.out, decide_eq_false he]; rfl))
      have he' := Lib.hid he
      clear he
      clear HE'
      go_wp2_with (go_at_call 134; refine (mayBe_at _ true _ hg'.out).mono ?_; rintro e w' ⟨rfl, rfl⟩)
      go_roundw
      case rel => exact ⟨pos + v, HZ.out.2.1, rfl, HZ.out.1.trans HC.out⟩
      case measure => simp; omega
   ·have hnx := fun ty => run_next_end (P := Tryz.prog) w s pos ty hp
    go_wp2
    go_ret
    refine ⟨ret_int ?_, hb _⟩
    rw [H.out, ← HC.out, List.drop_of_length_le (by rw [← Lib.size_eq]; omega), chk_nil]; rfl
open Go.RowKit Go.Lib Txt
def byt (s : ByteArray) (k : Nat) : Nat := (s.data.toList.getD k 0).toNat
theorem byt_at (s : ByteArray) (k : Nat) (h : k < s.size) : s[k].toNat = byt s k := by
 unfold byt
 rw [Lib.getD_at s k h]
theorem byt_lt (s : ByteArray) (k : Nat) : byt s k < 256 := UInt8.toNat_lt _
theorem pt_byt (s : ByteArray) : pt s.data.toList = ptN s.size (byt s 0) (byt s 1) (byt s 2) (byt s 3) := by
 unfold pt byt; rw [← Lib.size_eq]
def racc (s : ByteArray) (c0 : Int) : Nat → Int
 | 0 => c0
 | k + 1 => racc s c0 k * 64 + (byt s (k + 1) : Int) - 128
def conts (s : ByteArray) (k : Nat) : Prop := ∀ j, 1 ≤ j → j ≤ k → 128 ≤ byt s j ∧ byt s j < 192
theorem conts_zero (s : ByteArray) : conts s 0 := fun j h1 h2 => by omega
theorem conts_succ {s : ByteArray} {k : Nat} (h : conts s k) (h1 : 128 ≤ byt s (k + 1)) (h2 : byt s (k + 1) < 192) : conts s (k + 1) := fun j a b => by
 by_cases e : j = k + 1
 ·subst e; exact ⟨h1, h2⟩
 ·exact h j a (by omega)
theorem racc_bd (s : ByteArray) (c0 : Int) (k : Nat) (hk : k ≤ 3) (h0 : 0 ≤ c0) (h1 : c0 < 32) (hc : conts s k) : 0 ≤ racc s c0 k ∧ racc s c0 k < 100000000 := by
 have a1 := hc 1 (by omega)
 have a2 := hc 2 (by omega)
 have a3 := hc 3 (by omega)
 match k, hk with
 | 0, _ => simp only [racc]; omega
 | 1, _ => simp only [racc, Nat.zero_add]; omega
 | 2, _ => simp only [racc, Nat.zero_add, Nat.reduceAdd]; omega
 | 3, _ => simp only [racc, Nat.zero_add, Nat.reduceAdd]; omega
theorem ret_pt {d : Nat × Nat} {a b : Int} (h : ((d.1 : Int), (d.2 : Int)) = (a, b)) : Ending.returned (.tuple #[.int .i64 a, .int .i64 b]) = .returned (.tuple #[.int .i64 (d.1 : Int), .int .i64 (d.2 : Int)]) := by
 obtain ⟨rfl, rfl⟩ := Prod.mk.inj h; rfl
theorem bad_two (s : ByteArray) (h : 192 ≤ byt s 0 ∧ byt s 0 < 224) (hb : s.size < 2 ∨ ∃ j, 1 ≤ j ∧ j < 2 ∧ ¬ (128 ≤ byt s j ∧ byt s j < 192)) : pt s.data.toList = (0, 0) := by
 rw [pt_byt, ptN_two _ _ _ _ _ h (byt_lt s 1) _ rfl]
 apply if_neg
 intro x
 rcases hb with hb | ⟨j, h1, h2, h3⟩
 ·omega
 ·apply h3
  obtain rfl | rfl | rfl : j = 1 ∨ j = 2 ∨ j = 3 := by omega
  all_goals omega
theorem end_two (s : ByteArray) (h : 192 ≤ byt s 0 ∧ byt s 0 < 224) (hs : 2 ≤ s.size) (hc : conts s 1) :
  pt s.data.toList = if 128 ≤ racc s ((byt s 0 : Int) - 192) 1 ∧ good (racc s ((byt s 0 : Int) - 192) 1) = true then ((racc s ((byt s 0 : Int) - 192) 1).toNat, 2) else (0, 0) := by
 have a1 := hc 1 (by omega)
 have a2 := hc 2 (by omega)
 have a3 := hc 3 (by omega)
 have e : (((byt s 0 - 192) * 64 + (byt s 1 - 128) : Nat) : Int) = racc s ((byt s 0 : Int) - 192) 1 := by simp only [racc, Nat.zero_add]; omega
 rw [pt_byt, ptN_two _ _ _ _ _ h (byt_lt s 1) _ rfl, e, ← e]
 simp only [Int.toNat_natCast]
 by_cases hg : good (((byt s 0 - 192) * 64 + (byt s 1 - 128) : Nat) : Int) = true
 ·by_cases hl : 128 ≤ (byt s 0 - 192) * 64 + (byt s 1 - 128)
  ·rw [if_pos, if_pos]
   ·exact ⟨by omega, hg⟩
   ·refine ⟨hs, ?_⟩; simp only [hg, hl, and_true, and_self]; omega
  ·rw [if_neg (fun x => hl (by omega)), if_neg (fun x => hl (by omega))]
 ·rw [if_neg (fun x => hg (by simp only [x])), if_neg (fun x => hg x.2)]
theorem point_two (s : ByteArray) (w : World) (hs : 0 < s.size) (hm : s.size ≤ 9223372036854775807) (hb : 192 ≤ byt s 0) (hb' : byt s 0 < 224) :
  Calls Tryz.prog 100 #[.string s] w fun e w' => e = .returned (.tuple #[.int .i64 ((pt s.data.toList).1 : Int), .int .i64 ((pt s.data.toList).2 : Int)]) ∧ w' = w := by
 have g0 : 192 ≤ s[0].toNat := by rw [byt_at]; exact hb
 have g1 : s[0].toNat < 224 := by rw [byt_at]; exact hb'
 by_cases h3 : s.size < 2
 ·have H := Lib.hid (bad_two s ⟨hb, hb'⟩ (.inl h3))
  go_enter Tryz.func100, Tryz.ntmps100
  go_wp2
  go_ret2
  exact ⟨ret_pt (by rw [H.out]; rfl), rfl⟩
 ·have h3' : 2 ≤ s.size := by omega
  have hd : decide ((s.size : Int) < 2) = false := by simp; omega
  have hd2 : decide ((s[0].toNat : Int) < 224) = true := by simp; omega
  have H0 := Lib.hid (byt_at s 0 hs)
  go_enter Tryz.func100, Tryz.ntmps100
  go_wp2_with fail
  go_loop [7, 8] (fun r i => ∃ k : Nat, k + 1 ≤ 2 ∧ i = .int .i64 ((k + 1 : Nat) : Int) ∧ r = .int .i64 (racc s ((byt s 0 : Int) - 192) k) ∧ conts s k) (fun _ i => 2 - (RowKit.intOf i).toNat)
  case atStart => exact ⟨0, by omega, rfl, by rw [H0.out]; rfl, conts_zero s⟩
  case round =>
   obtain ⟨k, hk, rfl, rfl, hc⟩ := hrel
   obtain ⟨r0, r1⟩ := racc_bd s ((byt s 0 : Int) - 192) k (by omega) (by omega) (by omega) hc
   by_cases hlt : k + 1 < 2
   ·have hlt' : k + 1 < s.size := by omega
    have HB := Lib.hid (byt_at s (k + 1) hlt')
    have hu : s[k + 1].toNat < 256 := UInt8.toNat_lt _
    have HC := Lib.hid hc
    clear hc
    by_cases c1 : s[k + 1].toNat < 128
    ·have HX := Lib.hid (bad_two s ⟨hb, hb'⟩ (.inr ⟨k + 1, by omega, hlt, fun x => by rw [← HB.out] at x; omega⟩))
     go_wp2_with fail
     go_ret2
     exact ⟨ret_pt (by rw [HX.out]; rfl), rfl⟩
    ·by_cases c2 : 192 ≤ s[k + 1].toNat
     ·have HX := Lib.hid (bad_two s ⟨hb, hb'⟩ (.inr ⟨k + 1, by omega, hlt, fun x => by rw [← HB.out] at x; omega⟩))
      go_wp2_with fail
      go_ret2
      exact ⟨ret_pt (by rw [HX.out]; rfl), rfl⟩
     ·go_wp2_with fail
      go_round
      case rel => exact ⟨k + 1, hlt, by go_num, by rw [HB.out]; rfl, conts_succ HC.out (by rw [← HB.out]; omega) (by rw [← HB.out]; omega)⟩
      case measure => simp [RowKit.intOf]; omega
   ·obtain rfl : k = 1 := by omega
    have HE := Lib.hid (end_two s ⟨hb, hb'⟩ h3' hc)
    clear hc hlt
    generalize racc s ((byt s 0 : Int) - 192) 1 = R at r0 r1 HE
    cases hg : good R with
    | false =>
     have HX := Lib.hid (HE.out.trans (if_neg (fun x => by rw [hg] at x; cases x.2)))
     have hg' := Lib.hid hg
     clear hg HE
     by_cases hl : R < 128
     all_goals
      go_wp2_with (go_at_call 116; refine (good_any _ _ (by omega) (by omega)).mono ?_; rw [hg'.out]; rintro e w' ⟨rfl, rfl⟩)
      go_ret2
      exact ⟨ret_pt (by rw [HX.out]; rfl), rfl⟩
    | true =>
     have hg' := Lib.hid hg
     by_cases hl : R < 128
     ·have HX := Lib.hid (HE.out.trans (if_neg (fun x => by omega)))
      clear hg HE
      go_wp2_with (go_at_call 116; refine (good_any _ _ (by omega) (by omega)).mono ?_; rw [hg'.out]; rintro e w' ⟨rfl, rfl⟩)
      go_ret2
      exact ⟨ret_pt (by rw [HX.out]; rfl), rfl⟩
     ·have HX := Lib.hid (HE.out.trans (if_pos ⟨by omega, hg⟩))
      clear hg HE
      go_wp2_with (go_at_call 116; refine (good_any _ _ (by omega) (by omega)).mono ?_; rw [hg'.out]; rintro e w' ⟨rfl, rfl⟩)
      go_ret2
      exact ⟨ret_pt (by rw [HX.out]; simp only [Int.toNat_of_nonneg r0]; rfl), rfl⟩
theorem bad_three (s : ByteArray) (h : 224 ≤ byt s 0 ∧ byt s 0 < 240) (hb : s.size < 3 ∨ ∃ j, 1 ≤ j ∧ j < 3 ∧ ¬ (128 ≤ byt s j ∧ byt s j < 192)) : pt s.data.toList = (0, 0) := by
 rw [pt_byt, ptN_three _ _ _ _ _ h (byt_lt s 1) (byt_lt s 2) _ rfl]
 apply if_neg
 intro x
 rcases hb with hb | ⟨j, h1, h2, h3⟩
 ·omega
 ·apply h3
  obtain rfl | rfl | rfl : j = 1 ∨ j = 2 ∨ j = 3 := by omega
  all_goals omega
theorem end_three (s : ByteArray) (h : 224 ≤ byt s 0 ∧ byt s 0 < 240) (hs : 3 ≤ s.size) (hc : conts s 2) :
  pt s.data.toList = if 2048 ≤ racc s ((byt s 0 : Int) - 224) 2 ∧ good (racc s ((byt s 0 : Int) - 224) 2) = true then ((racc s ((byt s 0 : Int) - 224) 2).toNat, 3) else (0, 0) := by
 have a1 := hc 1 (by omega)
 have a2 := hc 2 (by omega)
 have a3 := hc 3 (by omega)
 have e : ((((byt s 0 - 224) * 64 + (byt s 1 - 128)) * 64 + (byt s 2 - 128) : Nat) : Int) = racc s ((byt s 0 : Int) - 224) 2 := by simp only [racc, Nat.zero_add, Nat.reduceAdd]; omega
 rw [pt_byt, ptN_three _ _ _ _ _ h (byt_lt s 1) (byt_lt s 2) _ rfl, e, ← e]
 simp only [Int.toNat_natCast]
 by_cases hg : good ((((byt s 0 - 224) * 64 + (byt s 1 - 128)) * 64 + (byt s 2 - 128) : Nat) : Int) = true
 ·by_cases hl : 2048 ≤ ((byt s 0 - 224) * 64 + (byt s 1 - 128)) * 64 + (byt s 2 - 128)
  ·rw [if_pos, if_pos]
   ·exact ⟨by omega, hg⟩
   ·refine ⟨hs, ?_⟩; simp only [hg, hl, and_true, and_self]; omega
  ·rw [if_neg (fun x => hl (by omega)), if_neg (fun x => hl (by omega))]
 ·rw [if_neg (fun x => hg (by simp only [x])), if_neg (fun x => hg x.2)]
theorem point_three (s : ByteArray) (w : World) (hs : 0 < s.size) (hm : s.size ≤ 9223372036854775807) (hb : 224 ≤ byt s 0) (hb' : byt s 0 < 240) :
  Calls Tryz.prog 100 #[.string s] w fun e w' => e = .returned (.tuple #[.int .i64 ((pt s.data.toList).1 : Int), .int .i64 ((pt s.data.toList).2 : Int)]) ∧ w' = w := by
 have g0 : 224 ≤ s[0].toNat := by rw [byt_at]; exact hb
 have g1 : s[0].toNat < 240 := by rw [byt_at]; exact hb'
 by_cases h3 : s.size < 3
 ·have H := Lib.hid (bad_three s ⟨hb, hb'⟩ (.inl h3))
  go_enter Tryz.func100, Tryz.ntmps100
  go_wp2
  go_ret2
  exact ⟨ret_pt (by rw [H.out]; rfl), rfl⟩
 ·have h3' : 3 ≤ s.size := by omega
  have hd : decide ((s.size : Int) < 3) = false := by simp; omega
  have hd2 : decide ((s[0].toNat : Int) < 240) = true := by simp; omega
  have H0 := Lib.hid (byt_at s 0 hs)
  go_enter Tryz.func100, Tryz.ntmps100
  go_wp2_with fail
  go_loop [7, 8] (fun r i => ∃ k : Nat, k + 1 ≤ 3 ∧ i = .int .i64 ((k + 1 : Nat) : Int) ∧ r = .int .i64 (racc s ((byt s 0 : Int) - 224) k) ∧ conts s k) (fun _ i => 3 - (RowKit.intOf i).toNat)
  case atStart => exact ⟨0, by omega, rfl, by rw [H0.out]; rfl, conts_zero s⟩
  case round =>
   obtain ⟨k, hk, rfl, rfl, hc⟩ := hrel
   obtain ⟨r0, r1⟩ := racc_bd s ((byt s 0 : Int) - 224) k (by omega) (by omega) (by omega) hc
   by_cases hlt : k + 1 < 3
   ·have hlt' : k + 1 < s.size := by omega
    have HB := Lib.hid (byt_at s (k + 1) hlt')
    have hu : s[k + 1].toNat < 256 := UInt8.toNat_lt _
    have HC := Lib.hid hc
    clear hc
    by_cases c1 : s[k + 1].toNat < 128
    ·have HX := Lib.hid (bad_three s ⟨hb, hb'⟩ (.inr ⟨k + 1, by omega, hlt, fun x => by rw [← HB.out] at x; omega⟩))
     go_wp2_with fail
     go_ret2
     exact ⟨ret_pt (by rw [HX.out]; rfl), rfl⟩
    ·by_cases c2 : 192 ≤ s[k + 1].toNat
     ·have HX := Lib.hid (bad_three s ⟨hb, hb'⟩ (.inr ⟨k + 1, by omega, hlt, fun x => by rw [← HB.out] at x; omega⟩))
      go_wp2_with fail
      go_ret2
      exact ⟨ret_pt (by rw [HX.out]; rfl), rfl⟩
     ·go_wp2_with fail
      go_round
      case rel => exact ⟨k + 1, hlt, by go_num, by rw [HB.out]; rfl, conts_succ HC.out (by rw [← HB.out]; omega) (by rw [← HB.out]; omega)⟩
      case measure => simp [RowKit.intOf]; omega
   ·obtain rfl : k = 2 := by omega
    have HE := Lib.hid (end_three s ⟨hb, hb'⟩ h3' hc)
    clear hc hlt
    generalize racc s ((byt s 0 : Int) - 224) 2 = R at r0 r1 HE
    cases hg : good R with
    | false =>
     have HX := Lib.hid (HE.out.trans (if_neg (fun x => by rw [hg] at x; cases x.2)))
     have hg' := Lib.hid hg
     clear hg HE
     by_cases hl : R < 2048
     all_goals
      go_wp2_with (go_at_call 116; refine (good_any _ _ (by omega) (by omega)).mono ?_; rw [hg'.out]; rintro e w' ⟨rfl, rfl⟩)
      go_ret2
      exact ⟨ret_pt (by rw [HX.out]; rfl), rfl⟩
    | true =>
     have hg' := Lib.hid hg
     by_cases hl : R < 2048
     ·have HX := Lib.hid (HE.out.trans (if_neg (fun x => by omega)))
      clear hg HE
      go_wp2_with (go_at_call 116; refine (good_any _ _ (by omega) (by omega)).mono ?_; rw [hg'.out]; rintro e w' ⟨rfl, rfl⟩)
      go_ret2
      exact ⟨ret_pt (by rw [HX.out]; rfl), rfl⟩
     ·have HX := Lib.hid (HE.out.trans (if_pos ⟨by omega, hg⟩))
      clear hg HE
      go_wp2_with (go_at_call 116; refine (good_any _ _ (by omega) (by omega)).mono ?_; rw [hg'.out]; rintro e w' ⟨rfl, rfl⟩)
      go_ret2
      exact ⟨ret_pt (by rw [HX.out]; simp only [Int.toNat_of_nonneg r0]; rfl), rfl⟩
theorem bad_four (s : ByteArray) (h : 240 ≤ byt s 0 ∧ byt s 0 < 248) (hb : s.size < 4 ∨ ∃ j, 1 ≤ j ∧ j < 4 ∧ ¬ (128 ≤ byt s j ∧ byt s j < 192)) : pt s.data.toList = (0, 0) := by
 rw [pt_byt, ptN_four _ _ _ _ _ h (byt_lt s 1) (byt_lt s 2) (byt_lt s 3) _ rfl]
 apply if_neg
 intro x
 rcases hb with hb | ⟨j, h1, h2, h3⟩
 ·omega
 ·apply h3
  obtain rfl | rfl | rfl : j = 1 ∨ j = 2 ∨ j = 3 := by omega
  all_goals omega
theorem end_four (s : ByteArray) (h : 240 ≤ byt s 0 ∧ byt s 0 < 248) (hs : 4 ≤ s.size) (hc : conts s 3) :
  pt s.data.toList = if 65536 ≤ racc s ((byt s 0 : Int) - 240) 3 ∧ good (racc s ((byt s 0 : Int) - 240) 3) = true then ((racc s ((byt s 0 : Int) - 240) 3).toNat, 4) else (0, 0) := by
 have a1 := hc 1 (by omega)
 have a2 := hc 2 (by omega)
 have a3 := hc 3 (by omega)
 have e : (((((byt s 0 - 240) * 64 + (byt s 1 - 128)) * 64 + (byt s 2 - 128)) * 64 + (byt s 3 - 128) : Nat) : Int) = racc s ((byt s 0 : Int) - 240) 3 := by simp only [racc, Nat.zero_add, Nat.reduceAdd]; omega
 rw [pt_byt, ptN_four _ _ _ _ _ h (byt_lt s 1) (byt_lt s 2) (byt_lt s 3) _ rfl, e, ← e]
 simp only [Int.toNat_natCast]
 by_cases hg : good (((((byt s 0 - 240) * 64 + (byt s 1 - 128)) * 64 + (byt s 2 - 128)) * 64 + (byt s 3 - 128) : Nat) : Int) = true
 ·by_cases hl : 65536 ≤ (((byt s 0 - 240) * 64 + (byt s 1 - 128)) * 64 + (byt s 2 - 128)) * 64 + (byt s 3 - 128)
  ·rw [if_pos, if_pos]
   ·exact ⟨by omega, hg⟩
   ·refine ⟨hs, ?_⟩; simp only [hg, hl, and_true, and_self]; omega
  ·rw [if_neg (fun x => hl (by omega)), if_neg (fun x => hl (by omega))]
 ·rw [if_neg (fun x => hg (by simp only [x])), if_neg (fun x => hg x.2)]
theorem point_four (s : ByteArray) (w : World) (hs : 0 < s.size) (hm : s.size ≤ 9223372036854775807) (hb : 240 ≤ byt s 0) (hb' : byt s 0 < 248) :
  Calls Tryz.prog 100 #[.string s] w fun e w' => e = .returned (.tuple #[.int .i64 ((pt s.data.toList).1 : Int), .int .i64 ((pt s.data.toList).2 : Int)]) ∧ w' = w := by
 have g0 : 240 ≤ s[0].toNat := by rw [byt_at]; exact hb
 have g1 : s[0].toNat < 248 := by rw [byt_at]; exact hb'
 by_cases h3 : s.size < 4
 ·have H := Lib.hid (bad_four s ⟨hb, hb'⟩ (.inl h3))
  go_enter Tryz.func100, Tryz.ntmps100
  go_wp2
  go_ret2
  exact ⟨ret_pt (by rw [H.out]; rfl), rfl⟩
 ·have h3' : 4 ≤ s.size := by omega
  have hd : decide ((s.size : Int) < 4) = false := by simp; omega
  have hd2 : decide ((s[0].toNat : Int) < 248) = true := by simp; omega
  have H0 := Lib.hid (byt_at s 0 hs)
  go_enter Tryz.func100, Tryz.ntmps100
  go_wp2_with fail
  go_loop [7, 8] (fun r i => ∃ k : Nat, k + 1 ≤ 4 ∧ i = .int .i64 ((k + 1 : Nat) : Int) ∧ r = .int .i64 (racc s ((byt s 0 : Int) - 240) k) ∧ conts s k) (fun _ i => 4 - (RowKit.intOf i).toNat)
  case atStart => exact ⟨0, by omega, rfl, by rw [H0.out]; rfl, conts_zero s⟩
  case round =>
   obtain ⟨k, hk, rfl, rfl, hc⟩ := hrel
   obtain ⟨r0, r1⟩ := racc_bd s ((byt s 0 : Int) - 240) k (by omega) (by omega) (by omega) hc
   by_cases hlt : k + 1 < 4
   ·have hlt' : k + 1 < s.size := by omega
    have HB := Lib.hid (byt_at s (k + 1) hlt')
    have hu : s[k + 1].toNat < 256 := UInt8.toNat_lt _
    have HC := Lib.hid hc
    clear hc
    by_cases c1 : s[k + 1].toNat < 128
    ·have HX := Lib.hid (bad_four s ⟨hb, hb'⟩ (.inr ⟨k + 1, by omega, hlt, fun x => by rw [← HB.out] at x; omega⟩))
     go_wp2_with fail
     go_ret2
     exact ⟨ret_pt (by rw [HX.out]; rfl), rfl⟩
    ·by_cases c2 : 192 ≤ s[k + 1].toNat
     ·have HX := Lib.hid (bad_four s ⟨hb, hb'⟩ (.inr ⟨k + 1, by omega, hlt, fun x => by rw [← HB.out] at x; omega⟩))
      go_wp2_with fail
      go_ret2
      exact ⟨ret_pt (by rw [HX.out]; rfl), rfl⟩
     ·go_wp2_with fail
      go_round
      case rel => exact ⟨k + 1, hlt, by go_num, by rw [HB.out]; rfl, conts_succ HC.out (by rw [← HB.out]; omega) (by rw [← HB.out]; omega)⟩
      case measure => simp [RowKit.intOf]; omega
   ·obtain rfl : k = 3 := by omega
    have HE := Lib.hid (end_four s ⟨hb, hb'⟩ h3' hc)
    clear hc hlt
    generalize racc s ((byt s 0 : Int) - 240) 3 = R at r0 r1 HE
    cases hg : good R with
    | false =>
     have HX := Lib.hid (HE.out.trans (if_neg (fun x => by rw [hg] at x; cases x.2)))
     have hg' := Lib.hid hg
     clear hg HE
     by_cases hl : R < 65536
     all_goals
      go_wp2_with (go_at_call 116; refine (good_any _ _ (by omega) (by omega)).mono ?_; rw [hg'.out]; rintro e w' ⟨rfl, rfl⟩)
      go_ret2
      exact ⟨ret_pt (by rw [HX.out]; rfl), rfl⟩
    | true =>
     have hg' := Lib.hid hg
     by_cases hl : R < 65536
     ·have HX := Lib.hid (HE.out.trans (if_neg (fun x => by omega)))
      clear hg HE
      go_wp2_with (go_at_call 116; refine (good_any _ _ (by omega) (by omega)).mono ?_; rw [hg'.out]; rintro e w' ⟨rfl, rfl⟩)
      go_ret2
      exact ⟨ret_pt (by rw [HX.out]; rfl), rfl⟩
     ·have HX := Lib.hid (HE.out.trans (if_pos ⟨by omega, hg⟩))
      clear hg HE
      go_wp2_with (go_at_call 116; refine (good_any _ _ (by omega) (by omega)).mono ?_; rw [hg'.out]; rintro e w' ⟨rfl, rfl⟩)
      go_ret2
      exact ⟨ret_pt (by rw [HX.out]; simp only [Int.toNat_of_nonneg r0]; rfl), rfl⟩
theorem point_low (s : ByteArray) (w : World) (hs : 0 < s.size) (hm : s.size ≤ 9223372036854775807) (hb : byt s 0 < 128) :
  Calls Tryz.prog 100 #[.string s] w fun e w' => e = .returned (.tuple #[.int .i64 ((pt s.data.toList).1 : Int), .int .i64 ((pt s.data.toList).2 : Int)]) ∧ w' = w := by
 have g1 : s[0].toNat < 128 := by rw [byt_at]; exact hb
 have HE := Lib.hid ((pt_byt s).trans (ptN_one _ _ _ _ _ hb))
 have HB := Lib.hid (byt_at s 0 hs)
 cases hg : good (byt s 0 : Int) with
 | false =>
  have HX := Lib.hid (HE.out.trans (if_neg (by rw [hg]; simp)))
  have hg' := Lib.hid hg
  clear hg HE
  go_enter Tryz.func100, Tryz.ntmps100
  go_wp2_with fail
  refine wp_loop_rounds 1 ?_
  rw [rounds_succ]
  go_wp2_with (go_at_call 116; refine (good_any _ _ (by omega) (by omega)).mono ?_; rw [HB.out, hg'.out]; rintro e w' ⟨rfl, rfl⟩)
  go_ret2
  exact ⟨ret_pt (by rw [HX.out]; rfl), rfl⟩
 | true =>
  have HX := Lib.hid (HE.out.trans (if_pos hg))
  have hg' := Lib.hid hg
  clear hg HE
  go_enter Tryz.func100, Tryz.ntmps100
  go_wp2_with fail
  refine wp_loop_rounds 1 ?_
  rw [rounds_succ]
  go_wp2_with (go_at_call 116; refine (good_any _ _ (by omega) (by omega)).mono ?_; rw [HB.out, hg'.out]; rintro e w' ⟨rfl, rfl⟩)
  go_ret2
  exact ⟨ret_pt (by rw [HX.out]; rfl), rfl⟩
theorem point_none (s : ByteArray) (w : World) (hs : 0 < s.size) (hb : (128 ≤ byt s 0 ∧ byt s 0 < 192) ∨ 248 ≤ byt s 0) :
  Calls Tryz.prog 100 #[.string s] w fun e w' => e = .returned (.tuple #[.int .i64 ((pt s.data.toList).1 : Int), .int .i64 ((pt s.data.toList).2 : Int)]) ∧ w' = w := by
 have H := Lib.hid ((pt_byt s).trans (ptN_none _ _ _ _ _ (by have := byt_lt s 0; omega)))
 have g := byt_lt s 0
 rw [← byt_at s 0 hs] at hb g
 rcases hb with hb | hb
 ·obtain ⟨b0, b1⟩ := hb
  go_enter Tryz.func100, Tryz.ntmps100
  go_wp2
  go_ret2
  exact ⟨ret_pt (by rw [H.out]; rfl), rfl⟩
 ·go_enter Tryz.func100, Tryz.ntmps100
  go_wp2
  go_ret2
  exact ⟨ret_pt (by rw [H.out]; rfl), rfl⟩
theorem point_any (s : ByteArray) (w : World) (hs : 0 < s.size) (hm : s.size ≤ 9223372036854775807) :
  Calls Tryz.prog 100 #[.string s] w fun e w' => e = .returned (.tuple #[.int .i64 ((pt s.data.toList).1 : Int), .int .i64 ((pt s.data.toList).2 : Int)]) ∧ w' = w := by
 by_cases h1 : byt s 0 < 128
 ·exact point_low s w hs hm h1
 ·by_cases h2 : byt s 0 < 192
  ·exact point_none s w hs (.inl ⟨by omega, h2⟩)
  ·by_cases h3 : byt s 0 < 224
   ·exact point_two s w hs hm (by omega) h3
   ·by_cases h4 : byt s 0 < 240
    ·exact point_three s w hs hm (by omega) h4
    ·by_cases h5 : byt s 0 < 248
     ·exact point_four s w hs hm (by omega) h5
     ·exact point_none s w hs (.inr (by omega))
open Go.RowKit Go.Lib Txt
def strLen : Value → Nat
 | .string t => t.size
 | _ => 0
theorem data_ne {t : ByteArray} (h : 0 < t.size) : t.data.toList ≠ [] := by
 intro e; rw [Lib.size_eq, e] at h; simp at h
theorem data_cut (t : ByteArray) (k : Nat) : (t.extract k t.size).data.toList = t.data.toList.drop k := by
 rw [Lib.extract_data, List.take_of_length_le]
 rw [List.length_drop, ← Lib.size_eq]; omega
theorem size_cut (t : ByteArray) (k : Nat) : (t.extract k t.size).size = t.size - k := by
 rw [Lib.size_eq, data_cut, List.length_drop, ← Lib.size_eq]
theorem RText_any (s : ByteArray) (w : World) :
  Calls Tryz.prog 75 #[.string s] w fun e w' => e = .returned (.int .i64 (textErr s.data.toList)) ∧ w' = w := by
 by_cases hlim : 1024 < s.size
 ·have H := Lib.hid (show textErr s.data.toList = 2 by unfold textErr; rw [← Lib.size_eq, if_pos hlim])
  go_enter Tryz.func75, Tryz.ntmps75
  go_wp2
  go_ret
  exact ⟨ret_int H.out.symm, rfl⟩
 ·have H : Hid (textErr s.data.toList = if chk s.data.toList = true then 0 else 8) := Lib.hid (by unfold textErr; rw [← Lib.size_eq, if_neg hlim])
  have hz : decide (1024 < (s.size : Int)) = false := by simp; omega
  go_enter Tryz.func75, Tryz.ntmps75
  go_wp2_with fail
  go_loop [0] (fun v => ∃ t : ByteArray, v = .string t ∧ t.size ≤ s.size ∧ chk t.data.toList = chk s.data.toList) (fun v => strLen v)
  case atStart => exact ⟨s, rfl, Nat.le_refl _, rfl⟩
  case round =>
   obtain ⟨t, rfl, hts, hc⟩ := hrel
   have HC := Lib.hid hc
   clear hc
   by_cases hp : 0 < t.size
   ·have HS := Lib.hid (chk_step t.data.toList (data_ne hp))
    have hle := pt_le (data_ne hp)
    rw [← Lib.size_eq] at hle
    have HP := Lib.hid (fun W => point_any t W hp (by omega))
    generalize hd : pt t.data.toList = d at HS hle HP
    clear hd
    obtain ⟨r, n⟩ := d
    simp only [] at hle
    by_cases hn : n = 0
    ·subst hn
     go_wp2_with (go_at_call 100; refine (HP.out _).mono ?_; rintro e w' ⟨rfl, rfl⟩)
     go_ret
     refine ⟨ret_int ?_, rfl⟩
     rw [H.out, ← HC.out, HS.out]; rfl
    ·have hb : ((n : Int) == 0) = false := by simp; omega
     go_wp2_with (go_at_call 100; refine (HP.out _).mono ?_; rintro e w' ⟨rfl, rfl⟩)
     go_round
     case rel => exact ⟨_, rfl, by rw [size_cut]; omega, by rw [data_cut, ← HC.out, HS.out, if_neg hn]⟩
     case measure => simp [strLen]; omega
   ·go_wp2
    go_ret
    refine ⟨ret_int ?_, rfl⟩
    have e : t.data.toList = [] := List.eq_nil_of_length_eq_zero (by rw [← Lib.size_eq]; omega)
    rw [H.out, ← HC.out, e, chk_nil]; rfl
end Go.Proofs.YtdbbcfohjkgdcaaGreat
