/- Package vbi, and the document's own answer: texts, or bytes, with their lengths ahead: both ways. -/
import Derived.Test.YtiancngpknnkaaaF00
import Derived.Test.YtiancngpknnkaaaF01
import Derived.Test.YtiancngpknnkaaaF02
set_option maxRecDepth 100000
set_option maxHeartbeats 64000000
namespace Go.Proofs.Ytiancngpknnkaaa
open Go.RowKit Go.Lib Txt
theorem ret_bool {a b : Bool} (h : a = b) : Ending.returned (.bool a) = .returned (.bool b) := by rw [h]
theorem ret_int {k : IntKind} {a b : Int} (h : a = b) : Ending.returned (.int k a) = .returned (.int k b) := by rw [h]
theorem bool_dec {b : Bool} {p : Prop} [Decidable p] (h : b = true ↔ p) : b = decide p := by
 rw [Bool.eq_iff_iff, h]; simp
theorem dec_false {p : Prop} [Decidable p] (h : ¬ p) : false = decide p := (decide_eq_false h).symm
theorem dec_true {p : Prop} [Decidable p] (h : p) : true = decide p := (decide_eq_true h).symm
theorem dec_dec {p q : Prop} [Decidable p] [Decidable q] (h : q ↔ p) : decide q = decide p := decide_eq_decide.2 h
def ctl (n : Int) : Bool := decide (n < 32 ∨ (127 ≤ n ∧ n ≤ 159))
def noc (n : Int) : Bool := decide (65534 ≤ n % 65536 ∨ (64976 ≤ n ∧ n ≤ 65007))
theorem isControl_any (n : Int) (w : World) :
  Calls Try.prog 76 #[.int .i32 n] w fun e w' => e = .returned (.bool (ctl n)) ∧ w' = w := by
 go_enter Try.func76, Try.ntmps76
 go_wp2
 all_goals (go_ret; refine ⟨ret_bool ?_, rfl⟩; unfold ctl; first | exact dec_false (by omega) | exact dec_dec (by omega) | exact dec_true (by omega) | (refine bool_dec ?_; simp; omega))
theorem and_fffe (m : Nat) : m &&& 65534 = m % 65536 / 2 * 2 := by
 have h1 : (m &&& 65534) / 2 = m / 2 % 32768 := by rw [Nat.and_div_two]; exact Nat.and_two_pow_sub_one_eq_mod _ 15
 have h2 : (m &&& 65534) % 2 = 0 := by
  have := Nat.and_mod_two_pow (a := m) (b := 65534) (n := 1)
  simpa using this
 omega
theorem ofInt_i32 (a : Nat) (ha : a < 2147483648) : (BitVec.ofInt 32 (a : Int)).toNat = a := by
 rw [BitVec.ofInt_natCast, BitVec.toNat_ofNat]; exact Nat.mod_eq_of_lt (by omega)
theorem i32_and_nat (a b : Nat) (ha : a < 2147483648) (hb : b < 2147483648) : bits .and .i32 (a : Int) (b : Int) = ((a &&& b : Nat) : Int) := by
 have hx : a &&& b < 2 ^ 31 := Nat.and_lt_two_pow _ (by omega)
 show IntKind.i32.wrap ((BitVec.ofInt 32 (a : Int) &&& BitVec.ofInt 32 (b : Int)).toNat : Int) = _
 rw [BitVec.toNat_and, ofInt_i32 a ha, ofInt_i32 b hb]
 unfold IntKind.wrap
 simp [IntKind.bits, IntKind.signed]
 omega
theorem isNoCharacter_any (n : Int) (w : World) (h0 : 0 ≤ n) (h1 : n ≤ 1114111) :
  Calls Try.prog 77 #[.int .i32 n] w fun e w' => e = .returned (.bool (noc n)) ∧ w' = w := by
 obtain ⟨x, hx, hiff⟩ : ∃ x : Int, bits .and .i32 n 65534 = x ∧ (x = 65534 ↔ 65534 ≤ n % 65536) := by
  refine ⟨_, rfl, ?_⟩
  obtain ⟨m, rfl⟩ := Int.eq_ofNat_of_zero_le h0
  rw [show (65534 : Int) = ((65534 : Nat) : Int) from rfl, i32_and_nat m 65534 (by omega) (by omega), and_fffe]
  omega
 have H := Lib.hid hiff
 clear hiff
 go_enter Try.func77, Try.ntmps77
 go_wp2
 all_goals (go_ret; refine ⟨ret_bool ?_, rfl⟩; have hiff := H.out; clear H; unfold noc; first | exact dec_false (by omega) | exact dec_dec (by omega) | exact dec_true (by omega) | (refine bool_dec ?_; simp; omega))
theorem mayBe_any (n : Int) (w : World) :
  Calls Try.prog 67 #[.int .i32 n] w fun e w' => e = .returned (.bool (good n)) ∧ w' = w := by
 by_cases hv : Lib.validRune n = true
 ·have hb : 0 ≤ n ∧ n ≤ 1114111 ∧ (n < 55296 ∨ 57343 < n) := by unfold Lib.validRune at hv; have := of_decide_eq_true hv; omega
  cases hc : ctl n with
  | true =>
   have hg : good n = false := by rw [good_not]; unfold ctl at hc; have := of_decide_eq_true hc; omega
   have Hg := Lib.hid hg
   clear hg
   go_enter Try.func67, Try.ntmps67
   go_wp2_with (first | (go_at_call 75; refine (Try.utf8_ValidRune _ _).mono ?_; rintro e w' ⟨rfl, rfl⟩) | (go_at_call 76; refine (isControl_any _ _).mono ?_; rintro e w' ⟨rfl, rfl⟩))
   go_ret
   exact ⟨ret_bool (by rw [Hg.out]), rfl⟩
  | false =>
   have hg : good n = !noc n := by
    unfold ctl at hc
    have hc' := of_decide_eq_false hc
    cases hn : noc n with
    | true => rw [Bool.not_true, good_not]; unfold noc at hn; have := of_decide_eq_true hn; omega
    | false => rw [Bool.not_false, good_iff]; unfold noc at hn; have := of_decide_eq_false hn; omega
   have Hg := Lib.hid hg
   clear hg
   obtain ⟨b0, b1, _⟩ := hb
   go_enter Try.func67, Try.ntmps67
   go_wp2_with (first | (go_at_call 75; refine (Try.utf8_ValidRune _ _).mono ?_; rintro e w' ⟨rfl, rfl⟩) | (go_at_call 76; refine (isControl_any _ _).mono ?_; rintro e w' ⟨rfl, rfl⟩) | (go_at_call 77; refine (isNoCharacter_any _ _ b0 b1).mono ?_; rintro e w' ⟨rfl, rfl⟩))
   go_ret
   exact ⟨ret_bool (by rw [Hg.out]), rfl⟩
 ·have hv : Lib.validRune n = false := by simpa using hv
  have hg : good n = false := by rw [good_not]; unfold Lib.validRune at hv; have := of_decide_eq_false hv; omega
  have Hg := Lib.hid hg
  clear hg
  go_enter Try.func67, Try.ntmps67
  go_wp2_with (go_at_call 75; refine (Try.utf8_ValidRune _ _).mono ?_; rintro e w' ⟨rfl, rfl⟩)
  go_ret
  exact ⟨ret_bool (by rw [Hg.out]), rfl⟩
open Go.RowKit Go.Lib Vbi
theorem ofInt_i64 (a : Nat) (ha : a < 9223372036854775808) : (BitVec.ofInt 64 (a : Int)).toNat = a := by
 rw [BitVec.ofInt_natCast, BitVec.toNat_ofNat]; exact Nat.mod_eq_of_lt (by omega)
theorem i64_or_nat (a b : Nat) (ha : a < 9223372036854775808) (hb : b < 9223372036854775808) : bits .or .i64 (a : Int) (b : Int) = ((a ||| b : Nat) : Int) := by
 have hx : a ||| b < 2 ^ 63 := Nat.or_lt_two_pow (by omega) (by omega)
 show IntKind.i64.wrap ((BitVec.ofInt 64 (a : Int) ||| BitVec.ofInt 64 (b : Int)).toNat : Int) = _
 rw [BitVec.toNat_or, ofInt_i64 a ha, ofInt_i64 b hb]
 unfold IntKind.wrap
 simp [IntKind.bits, IntKind.signed]
 omega
theorem i64_or_add (a b k : Nat) (ha : a < 2 ^ k) (hk : k ≤ 40) (hb : b * 2 ^ k < 9223372036854775808) : bits .or .i64 (a : Int) ((b * 2 ^ k : Nat) : Int) = ((a + b * 2 ^ k : Nat) : Int) := by
 have h2 : (2 : Nat) ^ k ≤ 2 ^ 40 := Nat.pow_le_pow_right (by decide) hk
 rw [i64_or_nat a _ (by omega) hb, Nat.or_comm, Nat.mul_comm b, ← Nat.two_pow_add_eq_or_of_lt ha, Nat.add_comm]
theorem data_at (s : ByteArray) (k : Nat) (h : k < s.size) : s.data.toList.drop k = s[k] :: s.data.toList.drop (k + 1) := by
 rw [List.drop_eq_getElem_cons (by simpa using h)]; rfl
theorem data_end (s : ByteArray) (k : Nat) (h : s.size ≤ k) : s.data.toList.drop k = [] := List.drop_of_length_le (by rw [← Lib.size_eq]; exact h)
theorem tn_or0 (m c : Nat) (hm : m < 128 ^ 0) : bits .or .i64 (m : Int) ((c : Int) % 128) = ((m + c % 128 * 128 ^ (3 - 3) : Nat) : Int) := by
 have := i64_or_add m (c % 128) 0 (by simpa using hm) (by omega) (by omega)
 simpa using this
theorem tn_or1 (m c : Nat) (hm : m < 128 ^ 1) : bits .or .i64 (m : Int) ((c : Int) % 128 * 128) = ((m + c % 128 * 128 ^ (3 - 2) : Nat) : Int) := by
 have := i64_or_add m (c % 128) 7 (by omega) (by omega) (by omega)
 simpa using this
theorem tn_or2 (m c : Nat) (hm : m < 128 ^ 2) : bits .or .i64 (m : Int) ((c : Int) % 128 * 16384) = ((m + c % 128 * 128 ^ (3 - 1) : Nat) : Int) := by
 have := i64_or_add m (c % 128) 14 (by omega) (by omega) (by omega)
 simpa using this
theorem tn_or3 (m c : Nat) (hm : m < 128 ^ 3) : bits .or .i64 (m : Int) ((c : Int) % 128 * 2097152) = ((m + c % 128 * 128 ^ (3 - 0) : Nat) : Int) := by
 have := i64_or_add m (c % 128) 21 (by omega) (by omega) (by omega)
 simpa using this
theorem tn_or0z (m c : Nat) (hm : m < 128 ^ 0) (hc : c = 0) : bits .or .i64 (m : Int) 0 = ((m + c % 128 * 128 ^ (3 - 3) : Nat) : Int) := by
 subst hc
 exact tn_or0 m 0 hm
theorem ret_tn {l : List UInt8} {a b c : Int} (h : tn l = (a, b, c)) : Ending.returned (.tuple #[.int .i64 a, .int .i64 b, .int .i64 c]) = .returned (.tuple #[.int .i64 (tn l).1, .int .i64 (tn l).2.1, .int .i64 (tn l).2.2]) := by rw [h]
theorem tn_last {l : List UInt8} {f n : Nat} {b : UInt8} {t : List UInt8} (e : tn l = tnGo (f + 1) n (b :: t)) (h : b.toNat < 128) (hf : b.toNat ≠ 0 ∨ f = 3) : tn l = (((n + b.toNat % 128 * 128 ^ (3 - f) : Nat) : Int), ((4 - f : Nat) : Int), 0) := by
 rw [e, tnGo_last h hf, Nat.mod_eq_of_lt h]
theorem tn_next {l : List UInt8} {f n k : Nat} {b : UInt8} {t : List UInt8} (e : tn l = tnGo (f + 1) n (b :: t)) (h : 128 ≤ b.toNat) (hf : f + k = 3) (hn : n < 128 ^ k) :
  n + b.toNat % 128 * 128 ^ (3 - f) < 128 ^ (k + 1) ∧ tn l = tnGo f (n + b.toNat % 128 * 128 ^ (3 - f)) t := by
 refine ⟨?_, e.trans (tnGo_more h)⟩
 have : 3 - f = k := by omega
 rw [this, Nat.pow_succ]
 have h1 : b.toNat % 128 * 128 ^ k ≤ 127 * 128 ^ k := Nat.mul_le_mul_right _ (by omega)
 omega
@[irreducible] def TnOk (l : List UInt8) (w : World) (e : Ending) (w' : World) : Prop := e = .returned (.tuple #[.int .i64 (tn l).1, .int .i64 (tn l).2.1, .int .i64 (tn l).2.2]) ∧ w' = w
theorem tn_ok {l : List UInt8} {w : World} {a b c : Int} (h : tn l = (a, b, c)) : TnOk l w (.returned (.tuple #[.int .i64 a, .int .i64 b, .int .i64 c])) w := by
 unfold TnOk; exact ⟨ret_tn h, rfl⟩
theorem TakeNum_ok (s : ByteArray) (w : World) (hs : s.size ≤ 9223372036854775807) :
  Calls Try.prog 26 #[.string s] w (TnOk s.data.toList w) := by
 go_enter Try.func26, Try.ntmps26
 go_wp2_with fail
 go_loop [2, 7] (fun n i => ∃ (k m : Nat), k ≤ 4 ∧ k ≤ s.size ∧ i = .int .i64 (k : Int) ∧ n = .int .i64 (m : Int) ∧ m < 128 ^ k ∧ tn s.data.toList = tnGo (4 - k) m (s.data.toList.drop k)) (fun _ i => 4 - (RowKit.intOf i).toNat)
 case atStart => exact ⟨0, 0, by omega, by omega, rfl, rfl, by simp, rfl⟩
 case round =>
  obtain ⟨k, m, hk, hks, rfl, rfl, hm, ht⟩ := hrel
  by_cases h4 : k < 4
  ·by_cases hlt : k < s.size
   ·rw [data_at s k hlt] at ht
    have hb : s[k].toNat < 256 := s[k].toNat_lt
    have hne : ¬ s = ByteArray.empty := by intro h; rw [h] at hlt; exact absurd hlt (by simp)
    rcases (by omega : k = 0 ∨ k = 1 ∨ k = 2 ∨ k = 3) with rfl | rfl | rfl | rfl
    ·have HO := Lib.hid (tn_or0 m s[0].toNat hm)
     have HZ := Lib.hid (tn_or0z m s[0].toNat hm)
     have HM := Lib.hid hm
     have HT := Lib.hid ht
     clear ht hm
     by_cases hc : 128 ≤ s[0].toNat
     ·go_wp2_with fail
      go_round
      case rel => exact ⟨1, _, by omega, by omega, rfl, by rw [HO.out], (tn_next (k := 0) HT.out hc rfl HM.out).1, (tn_next (k := 0) HT.out hc rfl HM.out).2⟩
      case measure => simp [RowKit.intOf]
     ·go_wp2_with fail
      all_goals
       go_ret3
       first | (rw [HZ.out (by assumption)]; exact tn_ok (tn_last HT.out (by omega) (.inr rfl))) | (rw [HO.out]; exact tn_ok (tn_last HT.out (by omega) (.inr rfl)))
    ·have HO := Lib.hid (tn_or1 m s[1].toNat hm)
     have HM := Lib.hid hm
     have HT := Lib.hid ht
     clear ht hm
     by_cases hc : 128 ≤ s[1].toNat
     ·go_wp2_with fail
      go_round
      case rel => exact ⟨2, _, by omega, by omega, rfl, by rw [HO.out], (tn_next (k := 1) HT.out hc rfl HM.out).1, (tn_next (k := 1) HT.out hc rfl HM.out).2⟩
      case measure => simp [RowKit.intOf]
     ·go_wp2_with fail
      ·have hz : s[1].toNat = 0 := by assumption
       go_ret3
       exact tn_ok (HT.out.trans (tnGo_bad hz (by omega)))
      ·have hz : ¬ s[1].toNat = 0 := by assumption
       go_ret3
       rw [HO.out]
       exact tn_ok (tn_last HT.out (by omega) (.inl hz))
    ·have HO := Lib.hid (tn_or2 m s[2].toNat hm)
     have HM := Lib.hid hm
     have HT := Lib.hid ht
     clear ht hm
     by_cases hc : 128 ≤ s[2].toNat
     ·go_wp2_with fail
      go_round
      case rel => exact ⟨3, _, by omega, by omega, rfl, by rw [HO.out], (tn_next (k := 2) HT.out hc rfl HM.out).1, (tn_next (k := 2) HT.out hc rfl HM.out).2⟩
      case measure => simp [RowKit.intOf]
     ·go_wp2_with fail
      ·have hz : s[2].toNat = 0 := by assumption
       go_ret3
       exact tn_ok (HT.out.trans (tnGo_bad hz (by omega)))
      ·have hz : ¬ s[2].toNat = 0 := by assumption
       go_ret3
       rw [HO.out]
       exact tn_ok (tn_last HT.out (by omega) (.inl hz))
    ·have HO := Lib.hid (tn_or3 m s[3].toNat hm)
     have HM := Lib.hid hm
     have HT := Lib.hid ht
     clear ht hm
     by_cases hc : 128 ≤ s[3].toNat
     ·go_wp2_with fail
      go_round
      case rel => exact ⟨4, _, by omega, by omega, rfl, by rw [HO.out], (tn_next (k := 3) HT.out hc rfl HM.out).1, (tn_next (k := 3) HT.out hc rfl HM.out).2⟩
      case measure => simp [RowKit.intOf]
     ·go_wp2_with fail
      ·have hz : s[3].toNat = 0 := by assumption
       go_ret3
       exact tn_ok (HT.out.trans (tnGo_bad hz (by omega)))
      ·have hz : ¬ s[3].toNat = 0 := by assumption
       go_ret3
       rw [HO.out]
       exact tn_ok (tn_last HT.out (by omega) (.inl hz))
   ·rw [data_end s k (by omega)] at ht
    obtain rfl : k = s.size := by omega
    have HT := Lib.hid (ht.trans (show tnGo (4 - s.size) m [] = (0, 0, 7) by obtain ⟨f, hf⟩ : ∃ f, 4 - s.size = f + 1 := ⟨3 - s.size, by omega⟩; rw [hf]; rfl))
    clear ht hm
    go_wp2_with fail
    go_ret3
    exact tn_ok HT.out
  ·obtain rfl : k = 4 := by omega
   have HT := Lib.hid ht
   clear ht hm
   go_wp2_with fail
   go_ret3
   exact tn_ok HT.out
open Go.RowKit Go.Lib Vbi
theorem i64_or8 (m c : Nat) (hm : m < 16777216) (hc : c < 256) : bits .or .i64 ((m : Int) * 256) (c : Int) = ((m * 256 + c : Nat) : Int) := by
 have h := i64_or_nat (m * 256) c (by omega) (by omega)
 rw [Nat.mul_comm m 256, show (256 : Nat) = 2 ^ 8 from rfl, ← Nat.two_pow_add_eq_or_of_lt (by omega)] at h
 rw [show ((m : Int) * 256) = ((2 ^ 8 * m : Nat) : Int) by omega, h]
 omega
@[irreducible] def TfOk (wd : Nat) (l : List UInt8) (w : World) (e : Ending) (w' : World) : Prop := e = .returned (.tuple #[.int .i64 (tfVal wd l), .int .i64 (tfErr wd l)]) ∧ w' = w
theorem tf_ok {wd : Nat} {l : List UInt8} {w : World} {a b : Int} (h : tfVal wd l = a) (h2 : tfErr wd l = b) : TfOk wd l w (.returned (.tuple #[.int .i64 a, .int .i64 b])) w := by
 unfold TfOk; rw [h, h2]; exact ⟨rfl, rfl⟩
theorem tf_cut {wd : Nat} {l : List UInt8} (h : l.length < wd) : tfVal wd l = 0 ∧ tfErr wd l = 7 := by
 unfold tfVal tfErr; rw [if_pos h, if_pos h]; exact ⟨rfl, rfl⟩
theorem tf_good {wd : Nat} {l : List UInt8} (h : wd ≤ l.length) : tfVal wd l = (fixVal (l.take wd) : Nat) ∧ tfErr wd l = 0 := by
 unfold tfVal tfErr; rw [if_neg (by omega), if_neg (by omega)]; exact ⟨rfl, rfl⟩
theorem take_drop_at (s : ByteArray) (wd k : Nat) (hk : k < wd) (h : wd ≤ s.size) : (s.data.toList.take wd).drop k = (s[k]'(by omega)) :: (s.data.toList.take wd).drop (k + 1) := by
 have hl : k < (s.data.toList.take wd).length := by rw [List.length_take, ← Lib.size_eq]; omega
 rw [List.drop_eq_getElem_cons hl, List.getElem_take]; rfl
theorem take_drop_end (s : ByteArray) (wd : Nat) : (s.data.toList.take wd).drop wd = [] := List.drop_of_length_le (by rw [List.length_take]; omega)
theorem pow_lt24 {m k : Nat} (hm : m < 256 ^ k) (hk : k < 4) : m < 16777216 := by
 have : 256 ^ k ≤ 256 ^ 3 := Nat.pow_le_pow_right (by decide) (by omega)
 omega
theorem pow_next {m k c : Nat} (hm : m < 256 ^ k) (hc : c < 256) : m * 256 + c < 256 ^ (k + 1) := by
 rw [Nat.pow_succ]; omega
theorem takeFixed_ok (s : ByteArray) (wd : Nat) (w : World) (hs : s.size ≤ 9223372036854775807) (hw : wd ≤ 4) :
  Calls Try.prog 63 #[.string s, .int .i64 (wd : Int)] w (TfOk wd s.data.toList w) := by
 by_cases hcut : s.size < wd
 ·have HC := Lib.hid (tf_cut (wd := wd) (l := s.data.toList) (by rw [← Lib.size_eq]; exact hcut))
  have hcut' : (s.size : Int) < (wd : Int) := by omega
  go_enter Try.func63, Try.ntmps63
  go_wp2
  go_ret2
  exact tf_ok HC.out.1 HC.out.2
 ·have HC := Lib.hid (tf_good (wd := wd) (l := s.data.toList) (by rw [← Lib.size_eq]; omega))
  have hcut' : ¬ (s.size : Int) < (wd : Int) := by omega
  have hcd : decide ((s.size : Int) < (wd : Int)) = false := by simp; omega
  go_enter Try.func63, Try.ntmps63
  go_wp2_with fail
  go_loop [6, 13] (fun n i => ∃ (k m : Nat), k ≤ wd ∧ i = .int .i64 (k : Int) ∧ n = .int .i64 (m : Int) ∧ m < 256 ^ k ∧ fixVal (s.data.toList.take wd) = fixGo m ((s.data.toList.take wd).drop k)) (fun _ i => wd - (RowKit.intOf i).toNat)
  case atStart => exact ⟨0, 0, by omega, rfl, rfl, by simp, rfl⟩
  case round =>
   obtain ⟨k, m, hk, rfl, rfl, hm, ht⟩ := hrel
   by_cases hlt : k < wd
   ·rw [take_drop_at s wd k hlt (by omega)] at ht
    have hks : k < s.size := by omega
    have hb : s[k].toNat < 256 := s[k].toNat_lt
    have hm24 := pow_lt24 hm (by omega)
    have HO := Lib.hid (i64_or8 m s[k].toNat hm24 hb)
    have HM := Lib.hid hm
    have HT := Lib.hid ht
    clear ht hm
    go_wp2_with fail
    go_round
    case rel => exact ⟨k + 1, _, by omega, by go_num, by rw [HO.out], pow_next HM.out hb, HT.out.trans (fixGo_cons _ _ _)⟩
    case measure => simp [RowKit.intOf]; omega
   ·obtain rfl : k = wd := by omega
    rw [take_drop_end] at ht
    have HT := Lib.hid ht
    clear ht hm
    go_wp2_with fail
    go_ret2
    exact tf_ok (HC.out.1.trans (by rw [HT.out]; rfl)) HC.out.2
theorem TakeTwo_ok (s : ByteArray) (w : World) (hs : s.size ≤ 9223372036854775807) :
  Calls Try.prog 59 #[.string s] w (TfOk 2 s.data.toList w) := by
 go_enter Try.func59, Try.ntmps59
 go_wp2_with fail
 refine (takeFixed_ok s 2 _ hs (by omega)).mono ?_
 intro e w' h
 unfold TfOk at h
 obtain ⟨rfl, rfl⟩ := h
 go_wp2_with fail
 go_ret2
 exact tf_ok rfl rfl
theorem TakeFour_ok (s : ByteArray) (w : World) (hs : s.size ≤ 9223372036854775807) :
  Calls Try.prog 80 #[.string s] w (TfOk 4 s.data.toList w) := by
 go_enter Try.func80, Try.ntmps80
 go_wp2_with fail
 refine (takeFixed_ok s 4 _ hs (by omega)).mono ?_
 intro e w' h
 unfold TfOk at h
 obtain ⟨rfl, rfl⟩ := h
 go_wp2_with fail
 go_ret2
 exact tf_ok rfl rfl
open Go.RowKit Go.Lib Txt
def okAt (s : ByteArray) (pos : Nat) : Bool := good ((Utf8.decode s pos).1 : Int) && !(decide ((Utf8.decode s pos).1 = 65533) && decide ((Utf8.decode s pos).2 = 1))
theorem okAt_no (s : ByteArray) (pos : Nat) (hp : pos < s.size) (h : okAt s pos = false) : chk (s.data.toList.drop pos) = false := by
 have hne : s.data.toList.drop pos ≠ [] := by
  intro e; have := congrArg List.length e; rw [List.length_drop, ← Lib.size_eq] at this; simp at this; omega
 rw [chk_step _ hne, if_pos]
 rw [pt_eq, decodeL_drop, if_neg]
 intro x
 unfold okAt at h
 rw [x.1] at h
 have : (decide ((Utf8.decode s pos).1 = 65533) && decide ((Utf8.decode s pos).2 = 1)) = false := by
  rw [Bool.and_eq_false_iff, decide_eq_false_iff_not, decide_eq_false_iff_not]
  exact Decidable.not_and_iff_not_or_not.1 x.2
 rw [this] at h
 cases h
theorem okAt_yes (s : ByteArray) (pos : Nat) (hp : pos < s.size) (h : okAt s pos = true) : chk (s.data.toList.drop (pos + (Utf8.decode s pos).2)) = chk (s.data.toList.drop pos) ∧ pos + (Utf8.decode s pos).2 ≤ s.size ∧ 1 ≤ (Utf8.decode s pos).2 := by
 have hne : s.data.toList.drop pos ≠ [] := by
  intro e; have := congrArg List.length e; rw [List.length_drop, ← Lib.size_eq] at this; simp at this; omega
 unfold okAt at h
 rw [Bool.and_eq_true] at h
 obtain ⟨h1, h2⟩ := h
 have h3 : ¬ ((Utf8.decode s pos).1 = 65533 ∧ (Utf8.decode s pos).2 = 1) := by
  intro x
  rw [decide_eq_true x.1, decide_eq_true x.2] at h2
  cases h2
 have hpt : pt (s.data.toList.drop pos) = Utf8.decode s pos := by
  rw [pt_eq, decodeL_drop, if_pos ⟨h1, h3⟩]
 have hw := Lib.decode_width_pos s pos hp
 have hle := pt_le hne
 rw [hpt, List.length_drop, ← Lib.size_eq] at hle
 refine ⟨?_, by omega, hw⟩
 rw [chk_step _ hne, hpt, if_neg (by omega), List.drop_drop]
theorem err_at (s : ByteArray) (pos : Nat) (hp : pos < s.size) (h : (Utf8.decode s pos).1 = 65533) :
  hasPrefix (s.extract pos s.size).data.toList [239, 191, 189] = !decide ((Utf8.decode s pos).2 = 1) := by
 have hne : s.data.toList.drop pos ≠ [] := by
  intro e; have := congrArg List.length e; rw [List.length_drop, ← Lib.size_eq] at this; simp at this; omega
 have e : (s.extract pos s.size).data.toList = s.data.toList.drop pos := by
  rw [Lib.extract_data, List.take_of_length_le]
  rw [List.length_drop, ← Lib.size_eq]; omega
 rw [e, err_prefix _ hne (by rw [decodeL_drop]; exact h), decodeL_drop]
theorem mayBe_at (n : Int) (b : Bool) (w : World) (h : good n = b) :
  Calls Try.prog 67 #[.int .i32 n] w fun e w' => e = .returned (.bool b) ∧ w' = w := by
 rw [← h]; exact mayBe_any n w
theorem prefix_at (s p : ByteArray) (b : Bool) (w : World) (h : hasPrefix s.data.toList p.data.toList = b) :
  Calls Try.prog 68 #[.string s, .string p] w fun e w' => e = .returned (.bool b) ∧ w' = w := by
 rw [← h]; exact Try.strings_HasPrefix s p w
theorem Check_any (s : ByteArray) (w : World) (hm : s.size ≤ 9223372036854775807) :
  Calls Try.prog 64 #[.string s] w fun e w' => e = .returned (.int .i64 (textErr s.data.toList)) ∧ Below w.heap.size w w' := by
 by_cases hlim : 1024 < s.size
 ·have H := Lib.hid (show textErr s.data.toList = 2 by unfold textErr; rw [← Lib.size_eq, if_pos hlim])
  go_enter Try.func64, Try.ntmps64
  go_wp2
  go_ret
  exact ⟨ret_int H.out.symm, Below.refl _ _⟩
 ·have H : Hid (textErr s.data.toList = if chk s.data.toList = true then 0 else 8) := Lib.hid (by unfold textErr; rw [← Lib.size_eq, if_neg hlim])
  have hz : decide (1024 < (s.size : Int)) = false := by simp; omega
  go_enter Try.func64, Try.ntmps64
  go_wp2_with fail
  go_loopw [4] (fun _ wr => ∃ pos : Nat, pos ≤ s.size ∧ wr = w.iter s pos ∧ chk (s.data.toList.drop pos) = chk s.data.toList) (fun _ wr => s.size - wr.iterPos w.heap.size)
  case atStart => exact ⟨0, Nat.zero_le _, rfl, rfl⟩
  case round =>
   obtain ⟨pos, hps, rfl, hc⟩ := hrel
   have HC := Lib.hid hc
   clear hc
   have hb : ∀ p, Below w.heap.size w (w.iter s p) := fun p => (Below.refl _ w).alloc (Nat.le_refl _) _
   by_cases hp : pos < s.size
   ·have hnx := fun ty => run_next_any (P := Try.prog) w s pos ty hp
    have hd1 := decode_le s pos
    have hw0 := Lib.decode_width_pos s pos hp
    have HE := fun h => err_at s pos hp h
    have HO : okAt s pos = (good ((Utf8.decode s pos).1 : Int) && !(decide ((Utf8.decode s pos).1 = 65533) && decide ((Utf8.decode s pos).2 = 1))) := rfl
    have HN := okAt_no s pos hp
    have HY := okAt_yes s pos hp
    generalize Utf8.decode s pos = d at hnx hd1 HE HO HY hw0
    obtain ⟨r, v⟩ := d
    simp only [] at hnx hd1 HE HO HY hw0
    have HO' := Lib.hid HO
    clear HO
    have HE' := Lib.hid HE
    clear HE
    have HN' := Lib.hid HN
    clear HN
    have HY' := Lib.hid HY
    clear HY
    cases hg : good (r : Int) with
    | false =>
     have hg' := Lib.hid hg
     clear hg
     go_wp2_with (go_at_call 67; refine (mayBe_at _ false _ hg'.out).mono ?_; rintro e w' ⟨rfl, rfl⟩)
     go_ret
     refine ⟨ret_int ?_, hb _⟩
     rw [H.out, ← HC.out, HN'.out (by rw [HO'.out, hg'.out]; rfl)]; rfl
    | true =>
     have hg' := Lib.hid hg
     clear hg
     by_cases he : r = 65533
     ·have hq : ((r : Int) == 65533) = true := by simp; omega
      have HE1 := Lib.hid (HE'.out he)
      have he' := Lib.hid he
      clear he
      clear HE'
      by_cases hv : v = 1
      ·have HP := Lib.hid (HE1.out.trans (show (!decide (v = 1)) = false by rw [hv]; rfl))
       have hv' := Lib.hid hv
       clear hv
       clear HE1
       go_wp2_with (first | (go_at_call 67; refine (mayBe_at _ true _ hg'.out).mono ?_; rintro e w' ⟨rfl, rfl⟩) | (go_at_call 68; refine (prefix_at (s.extract pos s.size) ⟨#[239, 191, 189]⟩ false _ HP.out).mono ?_; rintro e w' ⟨rfl, rfl⟩))
       go_ret
       refine ⟨ret_int ?_, hb _⟩
       rw [H.out, ← HC.out, HN'.out (by rw [HO'.out, hg'.out, he'.out, hv'.out]; rfl)]; rfl
      ·have HP := Lib.hid (HE1.out.trans (show (!decide (v = 1)) = true by rw [decide_eq_false hv]; rfl))
       have hv' := Lib.hid hv
       clear hv
       clear HE1
       have HZ := Lib.hid (HY'.out (by rw [HO'.out, hg'.out, he'.out, decide_eq_false hv'.out]; rfl))
       go_wp2_with (first | (go_at_call 67; refine (mayBe_at _ true _ hg'.out).mono ?_; rintro e w' ⟨rfl, rfl⟩) | (go_at_call 68; refine (prefix_at (s.extract pos s.size) ⟨#[239, 191, 189]⟩ true _ HP.out).mono ?_; rintro e w' ⟨rfl, rfl⟩))
       go_roundw
       case rel => exact ⟨pos + v, HZ.out.2.1, rfl, HZ.out.1.trans HC.out⟩
       case measure => simp; omega
     ·have hq : ((r : Int) == 65533) = false := by simp; omega
      have HZ := Lib.hid (HY'.out (by rw [HO'.out, hg'.out, decide_eq_false he]; rfl))
      have he' := Lib.hid he
      clear he
      clear HE'
      go_wp2_with (go_at_call 67; refine (mayBe_at _ true _ hg'.out).mono ?_; rintro e w' ⟨rfl, rfl⟩)
      go_roundw
      case rel => exact ⟨pos + v, HZ.out.2.1, rfl, HZ.out.1.trans HC.out⟩
      case measure => simp; omega
   ·have hnx := fun ty => run_next_end (P := Try.prog) w s pos ty hp
    go_wp2
    go_ret
    refine ⟨ret_int ?_, hb _⟩
    rw [H.out, ← HC.out, List.drop_of_length_le (by rw [← Lib.size_eq]; omega), chk_nil]; rfl
open Go.RowKit Go.Lib Vbi Txt
def binErr (s : ByteArray) : Int := if 1024 < s.size then 2 else 0
def tbN (s : ByteArray) : Nat := fixVal (s.data.toList.take 2)
def tb (s : ByteArray) : ByteArray × Int × Int :=
 if s.size < 2 then (⟨#[]⟩, 0, 7) else if 1024 < tbN s then (⟨#[]⟩, 0, 2) else if s.size < 2 + tbN s then (⟨#[]⟩, 0, 7) else (s.extract 2 (2 + tbN s), ((2 + tbN s : Nat) : Int), 0)
theorem tb_cases (s : ByteArray) : (s.size < 2 ∧ tb s = (⟨#[]⟩, 0, 7)) ∨ (2 ≤ s.size ∧ 1024 < tbN s ∧ tb s = (⟨#[]⟩, 0, 2)) ∨ (2 ≤ s.size ∧ tbN s ≤ 1024 ∧ s.size < 2 + tbN s ∧ tb s = (⟨#[]⟩, 0, 7)) ∨
  (tbN s ≤ 1024 ∧ 2 + tbN s ≤ s.size ∧ tb s = (s.extract 2 (2 + tbN s), ((2 + tbN s : Nat) : Int), 0)) := by
 unfold tb
 by_cases h1 : s.size < 2
 ·rw [if_pos h1]; exact .inl ⟨h1, rfl⟩
 ·rw [if_neg h1]
  by_cases h2 : 1024 < tbN s
  ·rw [if_pos h2]; exact .inr (.inl ⟨by omega, h2, rfl⟩)
  ·rw [if_neg h2]
   by_cases h3 : s.size < 2 + tbN s
   ·rw [if_pos h3]; exact .inr (.inr (.inl ⟨by omega, by omega, h3, rfl⟩))
   ·rw [if_neg h3]; exact .inr (.inr (.inr ⟨by omega, by omega, rfl⟩))
theorem Clone_same (s : ByteArray) (w : World) (h : s.size ≤ 281474976710656) :
  Calls Try.prog 16 #[.string s] w fun e w' => e = .returned (.string s) ∧ Below w.heap.size w w' := by
 have HC := Lib.hid (fun W => Try.stringslite_Clone s W h)
 go_enter Try.func16, Try.ntmps16
 go_wp2_with fail
 refine (HC.out _).mono ?_
 rintro e w1 ⟨rfl, hb⟩
 go_wp2_with fail
 go_ret
 exact ⟨rfl, hb⟩
theorem fix2_size (n : Nat) : (strOfNums (fixZ 2 n)).size = 2 := by rw [strOfNums_size, fixZ_len]
theorem TakeTwo_cut (s : ByteArray) (w : World) (hs : s.size < 2) : Calls Try.prog 59 #[.string s] w fun e w' => e = .returned (.tuple #[.int .i64 0, .int .i64 7]) ∧ w = w' :=
 (TakeTwo_ok s w (by omega)).mono fun e w' h => by
  unfold TfOk at h
  rw [(tf_cut (wd := 2) (l := s.data.toList) (by rw [← Lib.size_eq]; exact hs)).1, (tf_cut (wd := 2) (l := s.data.toList) (by rw [← Lib.size_eq]; exact hs)).2] at h
  exact ⟨h.1, h.2.symm⟩
theorem TakeTwo_good (s : ByteArray) (n : Nat) (w : World) (hs : 2 ≤ s.size) (hm : s.size ≤ 9223372036854775807) (hn : tbN s = n) : Calls Try.prog 59 #[.string s] w fun e w' => e = .returned (.tuple #[.int .i64 (n : Int), .int .i64 0]) ∧ w = w' :=
 (TakeTwo_ok s w hm).mono fun e w' h => by
  subst hn
  unfold TfOk at h
  rw [(tf_good (wd := 2) (l := s.data.toList) (by rw [← Lib.size_eq]; exact hs)).1, (tf_good (wd := 2) (l := s.data.toList) (by rw [← Lib.size_eq]; exact hs)).2] at h
  exact ⟨h.1, h.2.symm⟩
theorem TakeBin_is (s S : ByteArray) (K E : Int) (w : World) (hm : s.size ≤ 281474976710656) (h : tb s = (S, K, E)) :
  Calls Try.prog 52 #[.string s] w fun e w' => e = .returned (.tuple #[.string S, .int .i64 K, .int .i64 E]) ∧ Below w.heap.size w w' := by
 obtain ⟨n, hn⟩ : ∃ n, tbN s = n := ⟨_, rfl⟩
 rcases tb_cases s with ⟨h1, e⟩ | ⟨h1, h2, e⟩ | ⟨h1, h2, h3, e⟩ | ⟨h1, h2, e⟩
 ·rw [e] at h
  obtain ⟨rfl, rfl, rfl⟩ : ⟨#[]⟩ = S ∧ 0 = K ∧ 7 = E := by simpa using h
  have HT := Lib.hid (fun W => TakeTwo_cut s W h1)
  clear h e hn
  go_enter Try.func52, Try.ntmps52
  go_wp2_with fail
  refine (HT.out _).mono ?_
  rintro e w1 ⟨rfl, rfl⟩
  go_wp2_with fail
  go_ret3
  exact ⟨rfl, Below.refl _ _⟩
 ·rw [e] at h
  obtain ⟨rfl, rfl, rfl⟩ : ⟨#[]⟩ = S ∧ 0 = K ∧ 2 = E := by simpa using h
  have HT := Lib.hid (fun W => TakeTwo_good s n W h1 (by omega) hn)
  rw [hn] at h2
  clear h e hn
  go_enter Try.func52, Try.ntmps52
  go_wp2_with fail
  refine (HT.out _).mono ?_
  rintro e w1 ⟨rfl, rfl⟩
  go_wp2_with fail
  go_ret3
  exact ⟨rfl, Below.refl _ _⟩
 ·rw [e] at h
  obtain ⟨rfl, rfl, rfl⟩ : ⟨#[]⟩ = S ∧ 0 = K ∧ 7 = E := by simpa using h
  have HT := Lib.hid (fun W => TakeTwo_good s n W h1 (by omega) hn)
  rw [hn] at h2 h3
  clear h e hn
  go_enter Try.func52, Try.ntmps52
  go_wp2_with fail
  refine (HT.out _).mono ?_
  rintro e w1 ⟨rfl, rfl⟩
  go_wp2_with fail
  go_ret3
  exact ⟨rfl, Below.refl _ _⟩
 ·rw [e] at h
  rw [hn] at h h1 h2
  obtain ⟨hS, rfl, rfl⟩ : s.extract 2 (2 + n) = S ∧ ((2 + n : Nat) : Int) = K ∧ 0 = E := by
   injection h with a b
   injection b with b c
   exact ⟨a, b, c⟩
  have HT := Lib.hid (fun W => TakeTwo_good s n W (by omega) (by omega) hn)
  have hz : (s.extract 2 (2 + n)).size ≤ 1024 := by rw [ByteArray.size_extract]; omega
  have HC := Lib.hid (fun W => Clone_same (s.extract 2 (2 + n)) W (by omega))
  have HS := Lib.hid hS
  clear h e hn hS
  go_enter Try.func52, Try.ntmps52
  go_wp2_with fail
  refine (HT.out _).mono ?_
  rintro e w1 ⟨rfl, rfl⟩
  go_wp2_with (go_at_call 16; refine (HC.out _).mono ?_; rintro e w1 ⟨rfl, hb⟩)
  go_ret3
  refine ⟨?_, hb⟩
  rw [← HS.out]
  rfl
open Go.RowKit Go.Lib Vbi Txt
def loErr (t : Bool) (s : ByteArray) : Int := if t = true then textErr s.data.toList else binErr s
def tlErr (t : Bool) (s : ByteArray) : Int := if t = true then textErr s.data.toList else 0
def tl (t : Bool) (s : ByteArray) : ByteArray × Int × Int := if (tb s).2.2 = 0 ∧ tlErr t (tb s).1 ≠ 0 then (⟨#[]⟩, 0, tlErr t (tb s).1) else tb s
theorem textErr_zero {l : List UInt8} (h : textErr l = 0) : l.length ≤ 1024 := by
 unfold textErr at h
 by_cases c : 1024 < l.length
 ·rw [if_pos c] at h; cases h
 ·omega
theorem loErr_zero {t : Bool} {s : ByteArray} (h : loErr t s = 0) : s.size ≤ 1024 := by
 unfold loErr at h
 cases t with
 | true => rw [if_pos rfl] at h; rw [Lib.size_eq]; exact textErr_zero h
 | false =>
  rw [if_neg (by simp)] at h
  unfold binErr at h
  by_cases c : 1024 < s.size
  ·rw [if_pos c] at h; cases h
  ·omega
theorem Check_eq (s : ByteArray) (E : Int) (w : World) (hm : s.size ≤ 9223372036854775807) (hE : textErr s.data.toList = E) :
  Calls Try.prog 64 #[.string s] w fun e w' => e = .returned (.int .i64 E) ∧ Below w.heap.size w w' := by
 rw [← hE]; exact Check_any s w hm
theorem tl_bad {t : Bool} {s : ByteArray} (h : (tb s).2.2 ≠ 0) : tl t s = tb s := by unfold tl; rw [if_neg (fun x => h x.1)]
theorem tl_false (s : ByteArray) : tl false s = tb s := by
 unfold tl; rw [if_neg (fun x => x.2 rfl)]
theorem tl_good {t : Bool} {s T : ByteArray} {K : Int} (h : tb s = (T, K, 0)) (h2 : tlErr t T = 0) : tl t s = (T, K, 0) := by
 unfold tl; rw [if_neg (fun x => x.2 (by rw [h]; exact h2)), h]
theorem tl_wrong {t : Bool} {s T : ByteArray} {K : Int} (h : tb s = (T, K, 0)) (h2 : tlErr t T ≠ 0) : tl t s = (⟨#[]⟩, 0, tlErr t T) := by
 unfold tl; rw [h, if_pos ⟨rfl, h2⟩]
theorem tb_err (s : ByteArray) : ((tb s).2.2 ≠ 0 ∧ (tb s).1 = ⟨#[]⟩ ∧ (tb s).2.1 = 0) ∨ (∃ T K, tb s = (T, K, 0) ∧ T.size ≤ 1024) := by
 rcases tb_cases s with ⟨_, e⟩ | ⟨_, _, e⟩ | ⟨_, _, _, e⟩ | ⟨h1, h2, e⟩
 ·left; rw [e]; simp
 ·left; rw [e]; simp
 ·left; rw [e]; simp
 ·right; exact ⟨_, _, e, by rw [ByteArray.size_extract]; omega⟩
theorem TakeText_is (s S : ByteArray) (K E : Int) (w : World) (hm : s.size ≤ 281474976710656) (h : tl true s = (S, K, E)) :
  Calls Try.prog 60 #[.string s] w fun e w' => e = .returned (.tuple #[.string S, .int .i64 K, .int .i64 E]) ∧ Below w.heap.size w w' := by
 rcases tb_err s with ⟨h0, h1, h2⟩ | ⟨T, K', hT, hz⟩
 ·rw [tl_bad h0] at h
  rw [h] at h0 h1 h2
  simp only [] at h0 h1 h2
  subst h1 h2
  have HB := Lib.hid (fun W => TakeBin_is s _ _ E W hm h)
  have hne : (E != 0) = true := by rw [bne_iff_ne]; exact h0
  have heq : (E == 0) = false := by rw [beq_eq_false_iff_ne]; exact h0
  clear h h0
  go_enter Try.func60, Try.ntmps60
  go_wp2_with fail
  refine (HB.out _).mono ?_
  rintro e w1 ⟨rfl, hb1⟩
  have HX := Lib.hid hb1
  clear hb1
  go_wp2_with fail
  go_ret3
  exact ⟨rfl, HX.out⟩
 ·have HB := Lib.hid (fun W => TakeBin_is s _ _ 0 W hm hT)
  by_cases hc : textErr T.data.toList = 0
  ·rw [tl_good (t := true) hT hc] at h
   obtain ⟨rfl, rfl, rfl⟩ : T = S ∧ K' = K ∧ 0 = E := by
    injection h with a b
    injection b with b c
    exact ⟨a, b, c⟩
   have HK := Lib.hid (fun W => Check_eq T 0 W (by omega) hc)
   clear h hc hT
   go_enter Try.func60, Try.ntmps60
   go_wp2_with fail
   refine (HB.out _).mono ?_
   rintro e w1 ⟨rfl, hb1⟩
   have HX := Lib.hid hb1
   clear hb1
   go_wp2_with fail
   refine (HK.out _).mono ?_
   rintro e w2 ⟨rfl, hb2⟩
   go_wp2_with fail
   go_ret3
   exact ⟨rfl, HX.out.trans (hb2.mono HX.out.size)⟩
  ·rw [tl_wrong (t := true) hT hc] at h
   have he : textErr T.data.toList = E := by
    injection h with a b
    injection b with b c
   obtain ⟨rfl, rfl⟩ : ⟨#[]⟩ = S ∧ 0 = K := by
    injection h with a b
    injection b with b c
    exact ⟨a, b⟩
   have HK := Lib.hid (fun W => Check_eq T E W (by omega) he)
   have hne : (E != 0) = true := by rw [bne_iff_ne, ← he]; exact hc
   clear h hc hT he
   go_enter Try.func60, Try.ntmps60
   go_wp2_with fail
   refine (HB.out _).mono ?_
   rintro e w1 ⟨rfl, hb1⟩
   have HX := Lib.hid hb1
   clear hb1
   go_wp2_with fail
   refine (HK.out _).mono ?_
   rintro e w2 ⟨rfl, hb2⟩
   go_wp2_with fail
   go_ret3
   exact ⟨rfl, HX.out.trans (hb2.mono HX.out.size)⟩
end Go.Proofs.Ytiancngpknnkaaa
