/- text.Check: whether any bytes may be a text. -/
import Derived.Test.YtdbbcfohjkgdcaaGreatM00
import Derived.Test.YtdbbcfohjkgdcaaGreatM01
import Derived.Test.YtdbbcfohjkgdcaaGreatM02
set_option maxRecDepth 100000
set_option maxHeartbeats 64000000
namespace Go.Proofs.YtdbbcfohjkgdcaaGreat
open Go.RowKit Go.Lib Txt
theorem ret_bool {a b : Bool} (h : a = b) : Ending.returned (.bool a) = .returned (.bool b) := by rw [h]
theorem ret_int {k : IntKind} {a b : Int} (h : a = b) : Ending.returned (.int k a) = .returned (.int k b) := by rw [h]
theorem bool_dec {b : Bool} {p : Prop} [Decidable p] (h : b = true ↔ p) : b = decide p := by
 rw [Bool.eq_iff_iff, h]; simp
theorem dec_false {p : Prop} [Decidable p] (h : ¬ p) : false = decide p := (decide_eq_false h).symm
theorem dec_true {p : Prop} [Decidable p] (h : p) : true = decide p := (decide_eq_true h).symm
theorem dec_dec {p q : Prop} [Decidable p] [Decidable q] (h : q ↔ p) : decide q = decide p := decide_eq_decide.2 h
theorem good_any (n : Int) (w : World) (h0 : -9223372036854775808 ≤ n) (h1 : n ≤ 9223372036854775807) :
  Calls Tryz.prog 116 #[.int .i64 n] w fun e w' => e = .returned (.bool (good n)) ∧ w' = w := by
 go_enter Tryz.func116, Tryz.ntmps116
 go_wp2
 all_goals (go_ret; refine ⟨ret_bool ?_, rfl⟩; unfold good; first | exact dec_false (by omega) | exact dec_dec (by omega) | exact dec_true (by omega))
def ctl (n : Int) : Bool := decide (n < 32 ∨ (127 ≤ n ∧ n ≤ 159))
def noc (n : Int) : Bool := decide (65534 ≤ n % 65536 ∨ (64976 ≤ n ∧ n ≤ 65007))
theorem isControl_any (n : Int) (w : World) :
  Calls Tryz.prog 155 #[.int .i32 n] w fun e w' => e = .returned (.bool (ctl n)) ∧ w' = w := by
 go_enter Tryz.func155, Tryz.ntmps155
 go_wp2
 all_goals (go_ret; refine ⟨ret_bool ?_, rfl⟩; unfold ctl; first | exact dec_false (by omega) | exact dec_dec (by omega) | exact dec_true (by omega) | (refine bool_dec ?_; simp; omega))
theorem and_fffe (m : Nat) : m &&& 65534 = m % 65536 / 2 * 2 := by
 have h1 : (m &&& 65534) / 2 = m / 2 % 32768 := by rw [Nat.and_div_two]; exact Nat.and_two_pow_sub_one_eq_mod _ 15
 have h2 : (m &&& 65534) % 2 = 0 := by
  have := Nat.and_mod_two_pow (a := m) (b := 65534) (n := 1)
  simpa using this
 omega
theorem ofInt_i32 (a : Nat) (ha : a < 2147483648) : (BitVec.ofInt 32 (a : Int)).toNat = a := by
 rw [BitVec.ofInt_natCast, BitVec.toNat_ofNat]; exact Nat.mod_eq_of_lt (by omega)
theorem i32_and_nat (a b : Nat) (ha : a < 2147483648) (hb : b < 2147483648) : bits .and .i32 (a : Int) (b : Int) = ((a &&& b : Nat) : Int) := by
 have hx : a &&& b < 2 ^ 31 := Nat.and_lt_two_pow _ (by omega)
 show IntKind.i32.wrap ((BitVec.ofInt 32 (a : Int) &&& BitVec.ofInt 32 (b : Int)).toNat : Int) = _
 rw [BitVec.toNat_and, ofInt_i32 a ha, ofInt_i32 b hb]
 unfold IntKind.wrap
 simp [IntKind.bits, IntKind.signed]
 omega
theorem isNoCharacter_any (n : Int) (w : World) (h0 : 0 ≤ n) (h1 : n ≤ 1114111) :
  Calls Tryz.prog 156 #[.int .i32 n] w fun e w' => e = .returned (.bool (noc n)) ∧ w' = w := by
 obtain ⟨x, hx, hiff⟩ : ∃ x : Int, bits .and .i32 n 65534 = x ∧ (x = 65534 ↔ 65534 ≤ n % 65536) := by
  refine ⟨_, rfl, ?_⟩
  obtain ⟨m, rfl⟩ := Int.eq_ofNat_of_zero_le h0
  rw [show (65534 : Int) = ((65534 : Nat) : Int) from rfl, i32_and_nat m 65534 (by omega) (by omega), and_fffe]
  omega
 have H := Lib.hid hiff
 clear hiff
 go_enter Tryz.func156, Tryz.ntmps156
 go_wp2
 all_goals (go_ret; refine ⟨ret_bool ?_, rfl⟩; have hiff := H.out; clear H; unfold noc; first | exact dec_false (by omega) | exact dec_dec (by omega) | exact dec_true (by omega) | (refine bool_dec ?_; simp; omega))
theorem mayBe_any (n : Int) (w : World) :
  Calls Tryz.prog 134 #[.int .i32 n] w fun e w' => e = .returned (.bool (good n)) ∧ w' = w := by
 by_cases hv : Lib.validRune n = true
 ·have hb : 0 ≤ n ∧ n ≤ 1114111 ∧ (n < 55296 ∨ 57343 < n) := by unfold Lib.validRune at hv; have := of_decide_eq_true hv; omega
  cases hc : ctl n with
  | true =>
   have hg : good n = false := by rw [good_not]; unfold ctl at hc; have := of_decide_eq_true hc; omega
   have Hg := Lib.hid hg
   clear hg
   go_enter Tryz.func134, Tryz.ntmps134
   go_wp2_with (first | (go_at_call 154; refine (Tryz.utf8_ValidRune _ _).mono ?_; rintro e w' ⟨rfl, rfl⟩) | (go_at_call 155; refine (isControl_any _ _).mono ?_; rintro e w' ⟨rfl, rfl⟩))
   go_ret
   exact ⟨ret_bool (by rw [Hg.out]), rfl⟩
  | false =>
   have hg : good n = !noc n := by
    unfold ctl at hc
    have hc' := of_decide_eq_false hc
    cases hn : noc n with
    | true => rw [Bool.not_true, good_not]; unfold noc at hn; have := of_decide_eq_true hn; omega
    | false => rw [Bool.not_false, good_iff]; unfold noc at hn; have := of_decide_eq_false hn; omega
   have Hg := Lib.hid hg
   clear hg
   obtain ⟨b0, b1, _⟩ := hb
   go_enter Tryz.func134, Tryz.ntmps134
   go_wp2_with (first | (go_at_call 154; refine (Tryz.utf8_ValidRune _ _).mono ?_; rintro e w' ⟨rfl, rfl⟩) | (go_at_call 155; refine (isControl_any _ _).mono ?_; rintro e w' ⟨rfl, rfl⟩) | (go_at_call 156; refine (isNoCharacter_any _ _ b0 b1).mono ?_; rintro e w' ⟨rfl, rfl⟩))
   go_ret
   exact ⟨ret_bool (by rw [Hg.out]), rfl⟩
 ·have hv : Lib.validRune n = false := by simpa using hv
  have hg : good n = false := by rw [good_not]; unfold Lib.validRune at hv; have := of_decide_eq_false hv; omega
  have Hg := Lib.hid hg
  clear hg
  go_enter Tryz.func134, Tryz.ntmps134
  go_wp2_with (go_at_call 154; refine (Tryz.utf8_ValidRune _ _).mono ?_; rintro e w' ⟨rfl, rfl⟩)
  go_ret
  exact ⟨ret_bool (by rw [Hg.out]), rfl⟩
open Go.RowKit Go.Lib Vbi
theorem ofInt_i64 (a : Nat) (ha : a < 9223372036854775808) : (BitVec.ofInt 64 (a : Int)).toNat = a := by
 rw [BitVec.ofInt_natCast, BitVec.toNat_ofNat]; exact Nat.mod_eq_of_lt (by omega)
theorem i64_or_nat (a b : Nat) (ha : a < 9223372036854775808) (hb : b < 9223372036854775808) : bits .or .i64 (a : Int) (b : Int) = ((a ||| b : Nat) : Int) := by
 have hx : a ||| b < 2 ^ 63 := Nat.or_lt_two_pow (by omega) (by omega)
 show IntKind.i64.wrap ((BitVec.ofInt 64 (a : Int) ||| BitVec.ofInt 64 (b : Int)).toNat : Int) = _
 rw [BitVec.toNat_or, ofInt_i64 a ha, ofInt_i64 b hb]
 unfold IntKind.wrap
 simp [IntKind.bits, IntKind.signed]
 omega
theorem i64_or_add (a b k : Nat) (ha : a < 2 ^ k) (hk : k ≤ 40) (hb : b * 2 ^ k < 9223372036854775808) : bits .or .i64 (a : Int) ((b * 2 ^ k : Nat) : Int) = ((a + b * 2 ^ k : Nat) : Int) := by
 have h2 : (2 : Nat) ^ k ≤ 2 ^ 40 := Nat.pow_le_pow_right (by decide) hk
 rw [i64_or_nat a _ (by omega) hb, Nat.or_comm, Nat.mul_comm b, ← Nat.two_pow_add_eq_or_of_lt ha, Nat.add_comm]
theorem data_at (s : ByteArray) (k : Nat) (h : k < s.size) : s.data.toList.drop k = s[k] :: s.data.toList.drop (k + 1) := by
 rw [List.drop_eq_getElem_cons (by simpa using h)]; rfl
theorem data_end (s : ByteArray) (k : Nat) (h : s.size ≤ k) : s.data.toList.drop k = [] := List.drop_of_length_le (by rw [← Lib.size_eq]; exact h)
theorem tn_or0 (m c : Nat) (hm : m < 128 ^ 0) : bits .or .i64 (m : Int) ((c : Int) % 128) = ((m + c % 128 * 128 ^ (3 - 3) : Nat) : Int) := by
 have := i64_or_add m (c % 128) 0 (by simpa using hm) (by omega) (by omega)
 simpa using this
theorem tn_or1 (m c : Nat) (hm : m < 128 ^ 1) : bits .or .i64 (m : Int) ((c : Int) % 128 * 128) = ((m + c % 128 * 128 ^ (3 - 2) : Nat) : Int) := by
 have := i64_or_add m (c % 128) 7 (by omega) (by omega) (by omega)
 simpa using this
theorem tn_or2 (m c : Nat) (hm : m < 128 ^ 2) : bits .or .i64 (m : Int) ((c : Int) % 128 * 16384) = ((m + c % 128 * 128 ^ (3 - 1) : Nat) : Int) := by
 have := i64_or_add m (c % 128) 14 (by omega) (by omega) (by omega)
 simpa using this
theorem tn_or3 (m c : Nat) (hm : m < 128 ^ 3) : bits .or .i64 (m : Int) ((c : Int) % 128 * 2097152) = ((m + c % 128 * 128 ^ (3 - 0) : Nat) : Int) := by
 have := i64_or_add m (c % 128) 21 (by omega) (by omega) (by omega)
 simpa using this
theorem tn_or0z (m c : Nat) (hm : m < 128 ^ 0) (hc : c = 0) : bits .or .i64 (m : Int) 0 = ((m + c % 128 * 128 ^ (3 - 3) : Nat) : Int) := by
 subst hc
 exact tn_or0 m 0 hm
theorem ret_tn {l : List UInt8} {a b c : Int} (h : tn l = (a, b, c)) : Ending.returned (.tuple #[.int .i64 a, .int .i64 b, .int .i64 c]) = .returned (.tuple #[.int .i64 (tn l).1, .int .i64 (tn l).2.1, .int .i64 (tn l).2.2]) := by rw [h]
theorem tn_last {l : List UInt8} {f n : Nat} {b : UInt8} {t : List UInt8} (e : tn l = tnGo (f + 1) n (b :: t)) (h : b.toNat < 128) (hf : b.toNat ≠ 0 ∨ f = 3) : tn l = (((n + b.toNat % 128 * 128 ^ (3 - f) : Nat) : Int), ((4 - f : Nat) : Int), 0) := by
 rw [e, tnGo_last h hf, Nat.mod_eq_of_lt h]
theorem tn_next {l : List UInt8} {f n k : Nat} {b : UInt8} {t : List UInt8} (e : tn l = tnGo (f + 1) n (b :: t)) (h : 128 ≤ b.toNat) (hf : f + k = 3) (hn : n < 128 ^ k) :
  n + b.toNat % 128 * 128 ^ (3 - f) < 128 ^ (k + 1) ∧ tn l = tnGo f (n + b.toNat % 128 * 128 ^ (3 - f)) t := by
 refine ⟨?_, e.trans (tnGo_more h)⟩
 have : 3 - f = k := by omega
 rw [this, Nat.pow_succ]
 have h1 : b.toNat % 128 * 128 ^ k ≤ 127 * 128 ^ k := Nat.mul_le_mul_right _ (by omega)
 omega
@[irreducible] def TnOk (l : List UInt8) (w : World) (e : Ending) (w' : World) : Prop := e = .returned (.tuple #[.int .i64 (tn l).1, .int .i64 (tn l).2.1, .int .i64 (tn l).2.2]) ∧ w' = w
theorem tn_ok {l : List UInt8} {w : World} {a b c : Int} (h : tn l = (a, b, c)) : TnOk l w (.returned (.tuple #[.int .i64 a, .int .i64 b, .int .i64 c])) w := by
 unfold TnOk; exact ⟨ret_tn h, rfl⟩
theorem TakeNum_ok (s : ByteArray) (w : World) (hs : s.size ≤ 9223372036854775807) :
  Calls Tryz.prog 81 #[.string s] w (TnOk s.data.toList w) := by
 go_enter Tryz.func81, Tryz.ntmps81
 go_wp2_with fail
 go_loop [2, 7] (fun n i => ∃ (k m : Nat), k ≤ 4 ∧ k ≤ s.size ∧ i = .int .i64 (k : Int) ∧ n = .int .i64 (m : Int) ∧ m < 128 ^ k ∧ tn s.data.toList = tnGo (4 - k) m (s.data.toList.drop k)) (fun _ i => 4 - (RowKit.intOf i).toNat)
 case atStart => exact ⟨0, 0, by omega, by omega, rfl, rfl, by simp, rfl⟩
 case round =>
  obtain ⟨k, m, hk, hks, rfl, rfl, hm, ht⟩ := hrel
  by_cases h4 : k < 4
  ·by_cases hlt : k < s.size
   ·rw [data_at s k hlt] at ht
    have hb : s[k].toNat < 256 := s[k].toNat_lt
    have hne : ¬ s = ByteArray.empty := by intro h; rw [h] at hlt; exact absurd hlt (by simp)
    rcases (by omega : k = 0 ∨ k = 1 ∨ k = 2 ∨ k = 3) with rfl | rfl | rfl | rfl
    ·have HO := Lib.hid (tn_or0 m s[0].toNat hm)
     have HZ := Lib.hid (tn_or0z m s[0].toNat hm)
     have HM := Lib.hid hm
     have HT := Lib.hid ht
     clear ht hm
     by_cases hc : 128 ≤ s[0].toNat
     ·go_wp2_with fail
      go_round
      case rel => exact ⟨1, _, by omega, by omega, rfl, by rw [HO.out], (tn_next (k := 0) HT.out hc rfl HM.out).1, (tn_next (k := 0) HT.out hc rfl HM.out).2⟩
      case measure => simp [RowKit.intOf]
     ·go_wp2_with fail
      all_goals
       go_ret3
       first | (rw [HZ.out (by assumption)]; exact tn_ok (tn_last HT.out (by omega) (.inr rfl))) | (rw [HO.out]; exact tn_ok (tn_last HT.out (by omega) (.inr rfl)))
    ·have HO := Lib.hid (tn_or1 m s[1].toNat hm)
     have HM := Lib.hid hm
     have HT := Lib.hid ht
     clear ht hm
     by_cases hc : 128 ≤ s[1].toNat
     ·go_wp2_with fail
      go_round
      case rel => exact ⟨2, _, by omega, by omega, rfl, by rw [HO.out], (tn_next (k := 1) HT.out hc rfl HM.out).1, (tn_next (k := 1) HT.out hc rfl HM.out).2⟩
      case measure => simp [RowKit.intOf]
     ·go_wp2_with fail
      ·have hz : s[1].toNat = 0 := by assumption
       go_ret3
       exact tn_ok (HT.out.trans (tnGo_bad hz (by omega)))
      ·have hz : ¬ s[1].toNat = 0 := by assumption
       go_ret3
       rw [HO.out]
       exact tn_ok (tn_last HT.out (by omega) (.inl hz))
    ·have HO := Lib.hid (tn_or2 m s[2].toNat hm)
     have HM := Lib.hid hm
     have HT := Lib.hid ht
     clear ht hm
     by_cases hc : 128 ≤ s[2].toNat
     ·go_wp2_with fail
      go_round
      case rel => exact ⟨3, _, by omega, by omega, rfl, by rw [HO.out], (tn_next (k := 2) HT.out hc rfl HM.out).1, (tn_next (k := 2) HT.out hc rfl HM.out).2⟩
      case measure => simp [RowKit.intOf]
     ·go_wp2_with fail
      ·have hz : s[2].toNat = 0 := by assumption
       go_ret3
       exact tn_ok (HT.out.trans (tnGo_bad hz (by omega)))
      ·have hz : ¬ s[2].toNat = 0 := by assumption
       go_ret3
       rw [HO.out]
       exact tn_ok (tn_last HT.out (by omega) (.inl hz))
    ·have HO := Lib.hid (tn_or3 m s[3].toNat hm)
     have HM := Lib.hid hm
     have HT := Lib.hid ht
     clear ht hm
     by_cases hc : 128 ≤ s[3].toNat
     ·go_wp2_with fail
      go_round
      case rel => exact ⟨4, _, by omega, by omega, rfl, by rw [HO.out], (tn_next (k := 3) HT.out hc rfl HM.out).1, (tn_next (k := 3) HT.out hc rfl HM.out).2⟩
      case measure => simp [RowKit.intOf]
     ·go_wp2_with fail
      ·have hz : s[3].toNat = 0 := by assumption
       go_ret3
       exact tn_ok (HT.out.trans (tnGo_bad hz (by omega)))
      ·have hz : ¬ s[3].toNat = 0 := by assumption
       go_ret3
       rw [HO.out]
       exact tn_ok (tn_last HT.out (by omega) (.inl hz))
   ·rw [data_end s k (by omega)] at ht
    obtain rfl : k = s.size := by omega
    have HT := Lib.hid (ht.trans (show tnGo (4 - s.size) m [] = (0, 0, 7) by obtain ⟨f, hf⟩ : ∃ f, 4 - s.size = f + 1 := ⟨3 - s.size, by omega⟩; rw [hf]; rfl))
    clear ht hm
    go_wp2_with fail
    go_ret3
    exact tn_ok HT.out
  ·obtain rfl : k = 4 := by omega
   have HT := Lib.hid ht
   clear ht hm
   go_wp2_with fail
   go_ret3
   exact tn_ok HT.out
open Go.RowKit Go.Lib Vbi
theorem i64_or8 (m c : Nat) (hm : m < 16777216) (hc : c < 256) : bits .or .i64 ((m : Int) * 256) (c : Int) = ((m * 256 + c : Nat) : Int) := by
 have h := i64_or_nat (m * 256) c (by omega) (by omega)
 rw [Nat.mul_comm m 256, show (256 : Nat) = 2 ^ 8 from rfl, ← Nat.two_pow_add_eq_or_of_lt (by omega)] at h
 rw [show ((m : Int) * 256) = ((2 ^ 8 * m : Nat) : Int) by omega, h]
 omega
@[irreducible] def TfOk (wd : Nat) (l : List UInt8) (w : World) (e : Ending) (w' : World) : Prop := e = .returned (.tuple #[.int .i64 (tfVal wd l), .int .i64 (tfErr wd l)]) ∧ w' = w
theorem tf_ok {wd : Nat} {l : List UInt8} {w : World} {a b : Int} (h : tfVal wd l = a) (h2 : tfErr wd l = b) : TfOk wd l w (.returned (.tuple #[.int .i64 a, .int .i64 b])) w := by
 unfold TfOk; rw [h, h2]; exact ⟨rfl, rfl⟩
theorem tf_cut {wd : Nat} {l : List UInt8} (h : l.length < wd) : tfVal wd l = 0 ∧ tfErr wd l = 7 := by
 unfold tfVal tfErr; rw [if_pos h, if_pos h]; exact ⟨rfl, rfl⟩
theorem tf_good {wd : Nat} {l : List UInt8} (h : wd ≤ l.length) : tfVal wd l = (fixVal (l.take wd) : Nat) ∧ tfErr wd l = 0 := by
 unfold tfVal tfErr; rw [if_neg (by omega), if_neg (by omega)]; exact ⟨rfl, rfl⟩
theorem take_drop_at (s : ByteArray) (wd k : Nat) (hk : k < wd) (h : wd ≤ s.size) : (s.data.toList.take wd).drop k = (s[k]'(by omega)) :: (s.data.toList.take wd).drop (k + 1) := by
 have hl : k < (s.data.toList.take wd).length := by rw [List.length_take, ← Lib.size_eq]; omega
 rw [List.drop_eq_getElem_cons hl, List.getElem_take]; rfl
theorem take_drop_end (s : ByteArray) (wd : Nat) : (s.data.toList.take wd).drop wd = [] := List.drop_of_length_le (by rw [List.length_take]; omega)
theorem pow_lt24 {m k : Nat} (hm : m < 256 ^ k) (hk : k < 4) : m < 16777216 := by
 have : 256 ^ k ≤ 256 ^ 3 := Nat.pow_le_pow_right (by decide) (by omega)
 omega
theorem pow_next {m k c : Nat} (hm : m < 256 ^ k) (hc : c < 256) : m * 256 + c < 256 ^ (k + 1) := by
 rw [Nat.pow_succ]; omega
theorem takeFixed_ok (s : ByteArray) (wd : Nat) (w : World) (hs : s.size ≤ 9223372036854775807) (hw : wd ≤ 4) :
  Calls Tryz.prog 166 #[.string s, .int .i64 (wd : Int)] w (TfOk wd s.data.toList w) := by
 by_cases hcut : s.size < wd
 ·have HC := Lib.hid (tf_cut (wd := wd) (l := s.data.toList) (by rw [← Lib.size_eq]; exact hcut))
  have hcut' : (s.size : Int) < (wd : Int) := by omega
  go_enter Tryz.func166, Tryz.ntmps166
  go_wp2
  go_ret2
  exact tf_ok HC.out.1 HC.out.2
 ·have HC := Lib.hid (tf_good (wd := wd) (l := s.data.toList) (by rw [← Lib.size_eq]; omega))
  have hcut' : ¬ (s.size : Int) < (wd : Int) := by omega
  have hcd : decide ((s.size : Int) < (wd : Int)) = false := by simp; omega
  go_enter Tryz.func166, Tryz.ntmps166
  go_wp2_with fail
  go_loop [6, 13] (fun n i => ∃ (k m : Nat), k ≤ wd ∧ i = .int .i64 (k : Int) ∧ n = .int .i64 (m : Int) ∧ m < 256 ^ k ∧ fixVal (s.data.toList.take wd) = fixGo m ((s.data.toList.take wd).drop k)) (fun _ i => wd - (RowKit.intOf i).toNat)
  case atStart => exact ⟨0, 0, by omega, rfl, rfl, by simp, rfl⟩
  case round =>
   obtain ⟨k, m, hk, rfl, rfl, hm, ht⟩ := hrel
   by_cases hlt : k < wd
   ·rw [take_drop_at s wd k hlt (by omega)] at ht
    have hks : k < s.size := by omega
    have hb : s[k].toNat < 256 := s[k].toNat_lt
    have hm24 := pow_lt24 hm (by omega)
    have HO := Lib.hid (i64_or8 m s[k].toNat hm24 hb)
    have HM := Lib.hid hm
    have HT := Lib.hid ht
    clear ht hm
    go_wp2_with fail
    go_round
    case rel => exact ⟨k + 1, _, by omega, by go_num, by rw [HO.out], pow_next HM.out hb, HT.out.trans (fixGo_cons _ _ _)⟩
    case measure => simp [RowKit.intOf]; omega
   ·obtain rfl : k = wd := by omega
    rw [take_drop_end] at ht
    have HT := Lib.hid ht
    clear ht hm
    go_wp2_with fail
    go_ret2
    exact tf_ok (HC.out.1.trans (by rw [HT.out]; rfl)) HC.out.2
theorem TakeTwo_ok (s : ByteArray) (w : World) (hs : s.size ≤ 9223372036854775807) :
  Calls Tryz.prog 162 #[.string s] w (TfOk 2 s.data.toList w) := by
 go_enter Tryz.func162, Tryz.ntmps162
 go_wp2_with fail
 refine (takeFixed_ok s 2 _ hs (by omega)).mono ?_
 intro e w' h
 unfold TfOk at h
 obtain ⟨rfl, rfl⟩ := h
 go_wp2_with fail
 go_ret2
 exact tf_ok rfl rfl
theorem TakeFour_ok (s : ByteArray) (w : World) (hs : s.size ≤ 9223372036854775807) :
  Calls Tryz.prog 170 #[.string s] w (TfOk 4 s.data.toList w) := by
 go_enter Tryz.func170, Tryz.ntmps170
 go_wp2_with fail
 refine (takeFixed_ok s 4 _ hs (by omega)).mono ?_
 intro e w' h
 unfold TfOk at h
 obtain ⟨rfl, rfl⟩ := h
 go_wp2_with fail
 go_ret2
 exact tf_ok rfl rfl
open Go.RowKit Go.Lib Vbi
theorem info_byte : (Tryz.prog.info? 5).map (fun i => (i.zero, i.size, i.bytes)) = some (some (.int .u8 0), 1, 1) := by kernel_rfl
theorem conv_bytes {w : World} {B : Nat} {v : Value} {zs : List Int} (h : w.ownsRow B 5 1 v zs.length (zs.map (Value.int .u8))) : (convert 68 9 v).run Tryz.prog w = .ok (.string (strOfNums zs)) w := by
 rcases h.2 with ⟨rfl, hn⟩ | ⟨g, cap, cur, rfl, _⟩
 ·have : zs = [] := List.eq_nil_of_length_eq_zero hn
  subst this
  exact run_convert_bytes_nil w 68 5 Tryz.underlying68 Tryz.underlying5 0 0 9 Tryz.underlying9
 ·refine run_convert_bytes_arg w 68 5 Tryz.underlying68 Tryz.underlying5 g 0 zs.length cap zs rfl (fun i hi => ?_) 9 Tryz.underlying9
  have := h.cells (g := g) rfl i (.int .u8 (zs.getD i 0)) (by simp [List.getElem?_eq_getElem hi])
  rw [add_new] at this
  rw [Nat.zero_add]; exact this
theorem numZ_short {n m : Nat} {zs : List Int} (hn : n < 268435456) (hm : m < 268435456) (h : numZ n = zs ++ numZ m) : zs.length ≤ 3 := by
 have h1 := congrArg List.length h
 rw [List.length_append, numZ_len hn, numZ_len hm] at h1
 have := numLen_le n
 have := numLen_le m
 omega
theorem numZ_go {n m : Nat} {zs : List Int} (h : numZ n = zs ++ numZ m) (hm : 128 ≤ m) : numZ n = (zs ++ [(m : Int) % 128 + 128]) ++ numZ (m / 128) := by
 rw [h, numZ_more hm]; simp
theorem numZ_stop {n m : Nat} {zs : List Int} (h : numZ n = zs ++ numZ m) (hm : m < 128) : zs ++ [(m : Int)] = numZ n := by
 rw [h, numZ_last hm]
theorem RNum_ok (n : Nat) (w : World) (hn : n < 268435456) :
  Calls Tryz.prog 42 #[.int .i64 (n : Int)] w fun e w' => e = .returned (.string (strOfNums (numZ n))) ∧ Below w.heap.size w w' := by
 obtain ⟨i0, hi, hz0, hz1, hz2⟩ := info_parts info_byte
 go_enter Tryz.func42, Tryz.ntmps42
 go_wp2_with fail
 go_loopw [0, 3] (fun nv v wr => ∃ (m : Nat) (zs : List Int), nv = .int .i64 (m : Int) ∧ m < 268435456 ∧ numZ n = zs ++ numZ m ∧ wr.ownsRow w.heap.size 5 1 v zs.length (zs.map (Value.int .u8)) ∧ Below w.heap.size w wr) (fun nv _ _ => (RowKit.intOf nv).toNat)
 case atStart => exact ⟨n, [], rfl, hn, rfl, World.ownsRow_nil _ _ _ _, Below.refl _ _⟩
 case round =>
  obtain ⟨m, zs, rfl, hm, hz, hown, hnx⟩ := hrel
  have h2 := hnx.size
  have hzl := numZ_short hn hm hz
  by_cases hlt : 128 ≤ m
  ·have HZ := Lib.hid (numZ_go hz hlt)
   clear hz
   go_wp2_with (at_builtin; refine wpList_append_own _ rfl _ _ 68 rfl w.heap.size 5 i0 (.int .u8 0) 1 1 Tryz.underlying68 hi hz0 hz1 hz2 rfl (by decide) _ _ _ rfl (hown.alloc _) ⟨wr.heap.size, 0, none⟩ 1 1 [.int .u8 ((m : Int) % 128 + 128)] rfl rfl ?c1 ?c2 ?c3 ?c4 ?c5 ?_)
   case c1 => exact cell_one_new _ _ _
   case c2 => intro u hu; simp at hu; subst hu; rfl
   case c3 => unfold maxLen; omega
   case c4 => omega
   case c5 => simp; omega
   intro v' w1 hown' hgrow _
   have hnx' := hnx.trans (below_alloc_grown h2 hown hgrow)
   have HO := Lib.hid (own_snoc hown')
   clear hown' hgrow hown
   go_wp2
   go_roundw
   case rel => exact ⟨m / 128, _, rfl, by omega, HZ.out, HO.out, hnx'⟩
   case measure => simp [RowKit.intOf]; omega
  ·have HZ := Lib.hid (numZ_stop hz (by omega))
   clear hz
   go_wp2_with (at_builtin; refine wpList_append_own _ rfl _ _ 68 rfl w.heap.size 5 i0 (.int .u8 0) 1 1 Tryz.underlying68 hi hz0 hz1 hz2 rfl (by decide) _ _ _ rfl (hown.alloc _) ⟨wr.heap.size, 0, none⟩ 1 1 [.int .u8 (m : Int)] rfl rfl ?c1 ?c2 ?c3 ?c4 ?c5 ?_)
   case c1 => exact cell_one_new _ _ _
   case c2 => intro u hu; simp at hu; subst hu; rfl
   case c3 => unfold maxLen; omega
   case c4 => omega
   case c5 => simp; omega
   intro v' w1 hown' hgrow _
   have hnx' := hnx.trans (below_alloc_grown h2 hown hgrow)
   have hcv := conv_bytes (own_snoc hown')
   rw [HZ.out] at hcv
   clear hown' hgrow hown HZ
   go_wp2
   go_ret
   exact ⟨rfl, hnx'⟩
theorem Num_good (n : Nat) (w : World) (hn : n < 268435456) :
  Calls Tryz.prog 32 #[.int .i64 (n : Int)] w fun e w' => e = .returned (.tuple #[.string (strOfNums (numZ n)), .int .i64 0]) ∧ Below w.heap.size w w' := by
 obtain ⟨i0, hi, hz0, hz1, hz2⟩ := info_parts info_byte
 have hd0 : decide ((n : Int) < 0) = false := by simp
 have hd1 : decide ((268435455 : Int) < (n : Int)) = false := by simp; omega
 go_enter Tryz.func32, Tryz.ntmps32
 go_wp2_with fail
 go_loopw [0, 4] (fun nv v wr => ∃ (m : Nat) (zs : List Int), nv = .int .i64 (m : Int) ∧ m < 268435456 ∧ numZ n = zs ++ numZ m ∧ wr.ownsRow w.heap.size 5 1 v zs.length (zs.map (Value.int .u8)) ∧ Below w.heap.size w wr) (fun nv _ _ => (RowKit.intOf nv).toNat)
 case atStart => exact ⟨n, [], rfl, hn, rfl, World.ownsRow_nil _ _ _ _, Below.refl _ _⟩
 case round =>
  obtain ⟨m, zs, rfl, hm, hz, hown, hnx⟩ := hrel
  have h2 := hnx.size
  have hzl := numZ_short hn hm hz
  by_cases hlt : 128 ≤ m
  ·have HZ := Lib.hid (numZ_go hz hlt)
   clear hz
   go_wp2_with (at_builtin; refine wpList_append_own _ rfl _ _ 68 rfl w.heap.size 5 i0 (.int .u8 0) 1 1 Tryz.underlying68 hi hz0 hz1 hz2 rfl (by decide) _ _ _ rfl (hown.alloc _) ⟨wr.heap.size, 0, none⟩ 1 1 [.int .u8 ((m : Int) % 128 + 128)] rfl rfl ?c1 ?c2 ?c3 ?c4 ?c5 ?_)
   case c1 => exact cell_one_new _ _ _
   case c2 => intro u hu; simp at hu; subst hu; rfl
   case c3 => unfold maxLen; omega
   case c4 => omega
   case c5 => simp; omega
   intro v' w1 hown' hgrow _
   have hnx' := hnx.trans (below_alloc_grown h2 hown hgrow)
   have HO := Lib.hid (own_snoc hown')
   clear hown' hgrow hown
   go_wp2
   go_roundw
   case rel => exact ⟨m / 128, _, rfl, by omega, HZ.out, HO.out, hnx'⟩
   case measure => simp [RowKit.intOf]; omega
  ·have HZ := Lib.hid (numZ_stop hz (by omega))
   clear hz
   go_wp2_with (at_builtin; refine wpList_append_own _ rfl _ _ 68 rfl w.heap.size 5 i0 (.int .u8 0) 1 1 Tryz.underlying68 hi hz0 hz1 hz2 rfl (by decide) _ _ _ rfl (hown.alloc _) ⟨wr.heap.size, 0, none⟩ 1 1 [.int .u8 (m : Int)] rfl rfl ?c1 ?c2 ?c3 ?c4 ?c5 ?_)
   case c1 => exact cell_one_new _ _ _
   case c2 => intro u hu; simp at hu; subst hu; rfl
   case c3 => unfold maxLen; omega
   case c4 => omega
   case c5 => simp; omega
   intro v' w1 hown' hgrow _
   have hnx' := hnx.trans (below_alloc_grown h2 hown hgrow)
   have hcv := conv_bytes (own_snoc hown')
   rw [HZ.out] at hcv
   clear hown' hgrow hown HZ
   go_wp2
   go_ret2
   exact ⟨rfl, hnx'⟩
theorem Num_bad (n : Int) (w : World) (hn : n < 0 ∨ 268435455 < n) :
  Calls Tryz.prog 32 #[.int .i64 n] w fun e w' => e = .returned (.tuple #[.string ⟨#[]⟩, .int .i64 2]) ∧ Below w.heap.size w w' := by
 by_cases h0 : n < 0
 ·have hd0 : decide (n < 0) = true := by simp; omega
  go_enter Tryz.func32, Tryz.ntmps32
  go_wp2_with fail
  go_ret2
  exact ⟨rfl, Below.refl _ _⟩
 ·have hd0 : decide (n < 0) = false := by simp; omega
  have hd1 : decide (268435455 < n) = true := by simp; omega
  go_enter Tryz.func32, Tryz.ntmps32
  go_wp2_with fail
  go_ret2
  exact ⟨rfl, Below.refl _ _⟩
theorem Num_is (n : Int) (S : ByteArray) (E : Int) (w : World) (hS : numStr n = S) (hE : numErr n = E) :
  Calls Tryz.prog 32 #[.int .i64 n] w fun e w' => e = .returned (.tuple #[.string S, .int .i64 E]) ∧ Below w.heap.size w w' := by
 subst hS hE
 rcases numErr_cases n with ⟨h0, h1, e1, e2⟩ | ⟨h0, e1, e2⟩
 ·rw [e1, e2]
  obtain ⟨m, rfl⟩ := Int.eq_ofNat_of_zero_le h0
  exact Num_good m w (by omega)
 ·rw [e1, e2]
  exact Num_bad n w h0
open Go.RowKit Go.Lib Vbi
theorem fixZ_step (zs : List Int) (k n : Nat) (x : Int) (hx : ((n / 256 ^ k % 256 : Nat) : Int) = x) : zs ++ fixZ (k + 1) n = (zs ++ [x]) ++ fixZ k n := by
 rw [← hx]
 show zs ++ (((n / 256 ^ k % 256 : Nat) : Int) :: fixZ k n) = _
 simp
theorem RFixed_ok (n wd : Nat) (w : World) (hn : n < 256 ^ wd) (hw : wd ≤ 4) :
  Calls Tryz.prog 78 #[.int .i64 (n : Int), .int .i64 (wd : Int)] w fun e w' => e = .returned (.string (strOfNums (fixZ wd n))) ∧ Below w.heap.size w w' := by
 obtain ⟨i0, hi, hz0, hz1, hz2⟩ := info_parts info_byte
 have hn32 : n < 4294967296 := by
  have : 256 ^ wd ≤ 256 ^ 4 := Nat.pow_le_pow_right (by decide) hw
  omega
 clear hn
 go_enter Tryz.func78, Tryz.ntmps78
 go_wp2_with fail
 go_loopw [5, 6] (fun v iv wr => ∃ (j : Int) (k : Nat) (zs : List Int), iv = .int .i64 j ∧ j = (k : Int) - 1 ∧ k ≤ wd ∧ fixZ wd n = zs ++ fixZ k n ∧ wr.ownsRow w.heap.size 5 1 v zs.length (zs.map (Value.int .u8)) ∧ Below w.heap.size w wr) (fun _ iv _ => (RowKit.intOf iv + 1).toNat)
 case atStart => exact ⟨_, wd, [], rfl, rfl, by omega, rfl, World.ownsRow_nil _ _ _ _, Below.refl _ _⟩
 case round =>
  obtain ⟨j, k, zs, rfl, hj, hk, hz, hown, hnx⟩ := hrel
  have h2 := hnx.size
  have hzl : zs.length ≤ 4 := by
   have := congrArg List.length hz
   rw [List.length_append, fixZ_len, fixZ_len] at this
   omega
  rcases (by omega : k = 0 ∨ k = 1 ∨ k = 2 ∨ k = 3 ∨ k = 4) with rfl | rfl | rfl | rfl | rfl
  ·obtain rfl : j = -1 := by omega
   have hcv := conv_bytes hown
   have hzz : zs = fixZ wd n := by rw [hz]; show zs = zs ++ []; simp
   rw [hzz] at hcv
   clear hz hown hj hzz
   go_wp2_with fail
   go_ret
   exact ⟨rfl, hnx⟩
  ·obtain rfl : j = 0 := by omega
   have HZ := Lib.hid (hz.trans (fixZ_step zs 0 n ((n : Int) % 256) (by omega)))
   clear hz hj
   go_wp2_with (at_builtin; refine wpList_append_own _ rfl _ _ 68 rfl w.heap.size 5 i0 (.int .u8 0) 1 1 Tryz.underlying68 hi hz0 hz1 hz2 rfl (by decide) _ _ _ rfl (hown.alloc _) ⟨wr.heap.size, 0, none⟩ 1 1 [.int .u8 ((n : Int) % 256)] rfl rfl ?c1 ?c2 ?c3 ?c4 ?c5 ?_)
   case c1 => exact cell_one_new _ _ _
   case c2 => intro u hu; simp at hu; subst hu; rfl
   case c3 => unfold maxLen; omega
   case c4 => omega
   case c5 => simp; omega
   intro v' w1 hown' hgrow _
   have hnx' := hnx.trans (below_alloc_grown h2 hown hgrow)
   have HO := Lib.hid (own_snoc hown')
   clear hown' hgrow hown
   go_wp2
   go_roundw
   case rel => exact ⟨-1, 0, _, rfl, rfl, by omega, HZ.out, HO.out, hnx'⟩
   case measure => simp [RowKit.intOf]
  ·obtain rfl : j = 1 := by omega
   have HZ := Lib.hid (hz.trans (fixZ_step zs 1 n ((n : Int) / 256 % 256) (by omega)))
   clear hz hj
   go_wp2_with (at_builtin; refine wpList_append_own _ rfl _ _ 68 rfl w.heap.size 5 i0 (.int .u8 0) 1 1 Tryz.underlying68 hi hz0 hz1 hz2 rfl (by decide) _ _ _ rfl (hown.alloc _) ⟨wr.heap.size, 0, none⟩ 1 1 [.int .u8 ((n : Int) / 256 % 256)] rfl rfl ?c1 ?c2 ?c3 ?c4 ?c5 ?_)
   case c1 => exact cell_one_new _ _ _
   case c2 => intro u hu; simp at hu; subst hu; rfl
   case c3 => unfold maxLen; omega
   case c4 => omega
   case c5 => simp; omega
   intro v' w1 hown' hgrow _
   have hnx' := hnx.trans (below_alloc_grown h2 hown hgrow)
   have HO := Lib.hid (own_snoc hown')
   clear hown' hgrow hown
   go_wp2
   go_roundw
   case rel => exact ⟨0, 1, _, rfl, rfl, by omega, HZ.out, HO.out, hnx'⟩
   case measure => simp [RowKit.intOf]
  ·obtain rfl : j = 2 := by omega
   have HZ := Lib.hid (hz.trans (fixZ_step zs 2 n ((n : Int) / 65536 % 256) (by omega)))
   clear hz hj
   go_wp2_with (at_builtin; refine wpList_append_own _ rfl _ _ 68 rfl w.heap.size 5 i0 (.int .u8 0) 1 1 Tryz.underlying68 hi hz0 hz1 hz2 rfl (by decide) _ _ _ rfl (hown.alloc _) ⟨wr.heap.size, 0, none⟩ 1 1 [.int .u8 ((n : Int) / 65536 % 256)] rfl rfl ?c1 ?c2 ?c3 ?c4 ?c5 ?_)
   case c1 => exact cell_one_new _ _ _
   case c2 => intro u hu; simp at hu; subst hu; rfl
   case c3 => unfold maxLen; omega
   case c4 => omega
   case c5 => simp; omega
   intro v' w1 hown' hgrow _
   have hnx' := hnx.trans (below_alloc_grown h2 hown hgrow)
   have HO := Lib.hid (own_snoc hown')
   clear hown' hgrow hown
   go_wp2
   go_roundw
   case rel => exact ⟨1, 2, _, rfl, rfl, by omega, HZ.out, HO.out, hnx'⟩
   case measure => simp [RowKit.intOf]
  ·obtain rfl : j = 3 := by omega
   have HZ := Lib.hid (hz.trans (fixZ_step zs 3 n ((n : Int) / 16777216) (by omega)))
   clear hz hj
   go_wp2_with (at_builtin; refine wpList_append_own _ rfl _ _ 68 rfl w.heap.size 5 i0 (.int .u8 0) 1 1 Tryz.underlying68 hi hz0 hz1 hz2 rfl (by decide) _ _ _ rfl (hown.alloc _) ⟨wr.heap.size, 0, none⟩ 1 1 [.int .u8 ((n : Int) / 16777216)] rfl rfl ?c1 ?c2 ?c3 ?c4 ?c5 ?_)
   case c1 => exact cell_one_new _ _ _
   case c2 => intro u hu; simp at hu; subst hu; rfl
   case c3 => unfold maxLen; omega
   case c4 => omega
   case c5 => simp; omega
   intro v' w1 hown' hgrow _
   have hnx' := hnx.trans (below_alloc_grown h2 hown hgrow)
   have HO := Lib.hid (own_snoc hown')
   clear hown' hgrow hown
   go_wp2
   go_roundw
   case rel => exact ⟨2, 3, _, rfl, rfl, by omega, HZ.out, HO.out, hnx'⟩
   case measure => simp [RowKit.intOf]
theorem make_2 (w : World) : (Instr.makeSlice 68 (.int .i64 2) (.int .i64 2)).run Tryz.prog w = .ok (.slice (some ⟨w.heap.size, 0, none⟩) 2 2) (w.alloc (.cells #[.int .u8 0, .int .u8 0] 5)) := by kernel_rfl
theorem fixZ_2 (n : Nat) (hn : n < 65536) : fixZ 2 n = [(n : Int) / 256, (n : Int) % 256] := by
 unfold fixZ fixZ fixZ
 simp only [Nat.pow_zero, Nat.pow_one, Nat.div_one]
 congr 1
 omega
theorem fixed2 (n : Nat) (w : World) (hn : n < 65536) :
  Calls Tryz.prog 109 #[.int .i64 (n : Int), .int .i64 2] w fun e w' => e = .returned (.tuple #[.string (strOfNums (fixZ 2 n)), .int .i64 0]) ∧ Below w.heap.size w w' := by
 have hd0 : decide ((n : Int) < 0) = false := by simp
 have hd1 : decide (0 < (n : Int) / 65536) = false := by simp; omega
 have hmk := make_2
 have HF := Lib.hid (fixZ_2 n hn)
 go_enter Tryz.func109, Tryz.ntmps109
 go_wp2_with fail
 go_loopw [21] (fun iv wr => ∃ (k a0 a1 : Int), iv = .int .i64 k ∧ ((k = 0 ∧ a0 = 0 ∧ a1 = 0) ∨ (k = 1 ∧ a0 = 0 ∧ a1 = (n : Int) % 256) ∨ (k = 2 ∧ a0 = (n : Int) / 256 ∧ a1 = (n : Int) % 256)) ∧ wr = w.alloc (.cells #[.int .u8 a0, .int .u8 a1] 5)) (fun iv _ => (2 - RowKit.intOf iv).toNat)
 case atStart => exact ⟨0, 0, 0, rfl, .inl ⟨rfl, rfl, rfl⟩, rfl⟩
 case round =>
  obtain ⟨k, a0, a1, rfl, hk, rfl⟩ := hrel
  rcases hk with ⟨rfl, rfl, rfl⟩ | ⟨rfl, rfl, rfl⟩ | ⟨rfl, rfl, rfl⟩
  ·go_wp2_with fail
   go_roundw
   case rel => exact ⟨1, _, _, rfl, (.inr (.inl ⟨rfl, rfl, rfl⟩)), rfl⟩
   case measure => simp [RowKit.intOf]
  ·go_wp2_with fail
   go_roundw
   case rel => exact ⟨2, _, _, rfl, (.inr (.inr ⟨rfl, rfl, rfl⟩)), rfl⟩
   case measure => simp [RowKit.intOf]
  ·have hcv : (convert 68 9 (.slice (some ⟨w.heap.size, 0, none⟩) 2 2)).run Tryz.prog (w.alloc (.cells #[.int .u8 ((n : Int) / 256), .int .u8 ((n : Int) % 256)] 5)) = .ok (.string (strOfNums (fixZ 2 n))) (w.alloc (.cells #[.int .u8 ((n : Int) / 256), .int .u8 ((n : Int) % 256)] 5)) := by
    have hl := lit_nums w #[.int .u8 ((n : Int) / 256), .int .u8 ((n : Int) % 256)] (fixZ 2 n) .u8 5 (by rw [HF.out]; rfl)
    obtain ⟨a, ha, _, hc⟩ := hl.some_ (by rw [fixZ_len]; omega)
    injection ha with ha
    subst ha
    exact run_convert_bytes_arg _ 68 5 Tryz.underlying68 Tryz.underlying5 w.heap.size 0 2 2 (fixZ 2 n) (fixZ_len _ _) (fun i hi => by
     have := hc i (by rw [fixZ_len]; exact hi)
     rw [add_new] at this
     rw [Nat.zero_add]; exact this) 9 Tryz.underlying9
   go_wp2_with fail
   go_ret2
   exact ⟨rfl, (Below.refl _ _).alloc (Nat.le_refl _) _⟩
theorem make_4 (w : World) : (Instr.makeSlice 68 (.int .i64 4) (.int .i64 4)).run Tryz.prog w = .ok (.slice (some ⟨w.heap.size, 0, none⟩) 4 4) (w.alloc (.cells #[.int .u8 0, .int .u8 0, .int .u8 0, .int .u8 0] 5)) := by kernel_rfl
theorem fixZ_4 (n : Nat) (hn : n < 4294967296) : fixZ 4 n = [(n : Int) / 16777216, (n : Int) / 65536 % 256, (n : Int) / 256 % 256, (n : Int) % 256] := by
 unfold fixZ fixZ fixZ fixZ fixZ
 simp only [Nat.reducePow, Nat.pow_zero, Nat.pow_one, Nat.div_one]
 congr 1
 omega
theorem fixed4 (n : Nat) (w : World) (hn : n < 4294967296) :
  Calls Tryz.prog 109 #[.int .i64 (n : Int), .int .i64 4] w fun e w' => e = .returned (.tuple #[.string (strOfNums (fixZ 4 n)), .int .i64 0]) ∧ Below w.heap.size w w' := by
 have hd0 : decide ((n : Int) < 0) = false := by simp
 have hd1 : decide (0 < (n : Int) / 4294967296) = false := by simp; omega
 have hmk := make_4
 have HF := Lib.hid (fixZ_4 n hn)
 go_enter Tryz.func109, Tryz.ntmps109
 go_wp2_with fail
 go_loopw [21] (fun iv wr => ∃ (k a0 a1 a2 a3 : Int), iv = .int .i64 k ∧ ((k = 0 ∧ a0 = 0 ∧ a1 = 0 ∧ a2 = 0 ∧ a3 = 0) ∨ (k = 1 ∧ a0 = 0 ∧ a1 = 0 ∧ a2 = 0 ∧ a3 = (n : Int) % 256) ∨ (k = 2 ∧ a0 = 0 ∧ a1 = 0 ∧ a2 = (n : Int) / 256 % 256 ∧ a3 = (n : Int) % 256) ∨ (k = 3 ∧ a0 = 0 ∧ a1 = (n : Int) / 65536 % 256 ∧ a2 = (n : Int) / 256 % 256 ∧ a3 = (n : Int) % 256) ∨ (k = 4 ∧ a0 = (n : Int) / 16777216 ∧ a1 = (n : Int) / 65536 % 256 ∧ a2 = (n : Int) / 256 % 256 ∧ a3 = (n : Int) % 256)) ∧ wr = w.alloc (.cells #[.int .u8 a0, .int .u8 a1, .int .u8 a2, .int .u8 a3] 5)) (fun iv _ => (4 - RowKit.intOf iv).toNat)
 case atStart => exact ⟨0, 0, 0, 0, 0, rfl, .inl ⟨rfl, rfl, rfl, rfl, rfl⟩, rfl⟩
 case round =>
  obtain ⟨k, a0, a1, a2, a3, rfl, hk, rfl⟩ := hrel
  rcases hk with ⟨rfl, rfl, rfl, rfl, rfl⟩ | ⟨rfl, rfl, rfl, rfl, rfl⟩ | ⟨rfl, rfl, rfl, rfl, rfl⟩ | ⟨rfl, rfl, rfl, rfl, rfl⟩ | ⟨rfl, rfl, rfl, rfl, rfl⟩
  ·go_wp2_with fail
   go_roundw
   case rel => exact ⟨1, _, _, _, _, rfl, (.inr (.inl ⟨rfl, rfl, rfl, rfl, rfl⟩)), rfl⟩
   case measure => simp [RowKit.intOf]
  ·go_wp2_with fail
   go_roundw
   case rel => exact ⟨2, _, _, _, _, rfl, (.inr (.inr (.inl ⟨rfl, rfl, rfl, rfl, rfl⟩))), rfl⟩
   case measure => simp [RowKit.intOf]
  ·go_wp2_with fail
   go_roundw
   case rel => exact ⟨3, _, _, _, _, rfl, (.inr (.inr (.inr (.inl ⟨rfl, rfl, rfl, rfl, rfl⟩)))), rfl⟩
   case measure => simp [RowKit.intOf]
  ·go_wp2_with fail
   go_roundw
   case rel => exact ⟨4, _, _, _, _, rfl, (.inr (.inr (.inr (.inr ⟨rfl, rfl, rfl, rfl, rfl⟩)))), rfl⟩
   case measure => simp [RowKit.intOf]
  ·have hcv : (convert 68 9 (.slice (some ⟨w.heap.size, 0, none⟩) 4 4)).run Tryz.prog (w.alloc (.cells #[.int .u8 ((n : Int) / 16777216), .int .u8 ((n : Int) / 65536 % 256), .int .u8 ((n : Int) / 256 % 256), .int .u8 ((n : Int) % 256)] 5)) = .ok (.string (strOfNums (fixZ 4 n))) (w.alloc (.cells #[.int .u8 ((n : Int) / 16777216), .int .u8 ((n : Int) / 65536 % 256), .int .u8 ((n : Int) / 256 % 256), .int .u8 ((n : Int) % 256)] 5)) := by
    have hl := lit_nums w #[.int .u8 ((n : Int) / 16777216), .int .u8 ((n : Int) / 65536 % 256), .int .u8 ((n : Int) / 256 % 256), .int .u8 ((n : Int) % 256)] (fixZ 4 n) .u8 5 (by rw [HF.out]; rfl)
    obtain ⟨a, ha, _, hc⟩ := hl.some_ (by rw [fixZ_len]; omega)
    injection ha with ha
    subst ha
    exact run_convert_bytes_arg _ 68 5 Tryz.underlying68 Tryz.underlying5 w.heap.size 0 4 4 (fixZ 4 n) (fixZ_len _ _) (fun i hi => by
     have := hc i (by rw [fixZ_len]; exact hi)
     rw [add_new] at this
     rw [Nat.zero_add]; exact this) 9 Tryz.underlying9
   go_wp2_with fail
   go_ret2
   exact ⟨rfl, (Below.refl _ _).alloc (Nat.le_refl _) _⟩
theorem fixed_bad (n : Int) (wd : Int) (w : World) (hn : (n < 0 ∧ 0 ≤ wd ∧ wd ≤ 4) ∨ (65536 ≤ n ∧ n ≤ 9223372036854775807 ∧ wd = 2) ∨ (4294967296 ≤ n ∧ n ≤ 9223372036854775807 ∧ wd = 4)) :
  Calls Tryz.prog 109 #[.int .i64 n, .int .i64 wd] w fun e w' => e = .returned (.tuple #[.string ⟨#[]⟩, .int .i64 2]) ∧ Below w.heap.size w w' := by
 rcases hn with ⟨h, h1, h2⟩ | ⟨h, h1, rfl⟩ | ⟨h, h1, rfl⟩
 ·have hd0 : decide (n < 0) = true := by simp; omega
  go_enter Tryz.func109, Tryz.ntmps109
  go_wp2_with fail
  go_ret2
  exact ⟨rfl, Below.refl _ _⟩
 ·have hd0 : decide (n < 0) = false := by simp; omega
  have hd1 : decide (0 < n / 65536) = true := by simp; omega
  go_enter Tryz.func109, Tryz.ntmps109
  go_wp2_with fail
  go_ret2
  exact ⟨rfl, Below.refl _ _⟩
 ·have hd0 : decide (n < 0) = false := by simp; omega
  have hd1 : decide (0 < n / 4294967296) = true := by simp; omega
  go_enter Tryz.func109, Tryz.ntmps109
  go_wp2_with fail
  go_ret2
  exact ⟨rfl, Below.refl _ _⟩
theorem Two_fixed (n : Int) (S : ByteArray) (E : Int) (w : World) (h1 : n ≤ 9223372036854775807) (hS : fixStr 2 n = S) (hE : fixErr 2 n = E) :
  Calls Tryz.prog 109 #[.int .i64 n, .int .i64 2] w fun e w' => e = .returned (.tuple #[.string S, .int .i64 E]) ∧ Below w.heap.size w w' := by
 subst hS hE
 rcases fix_cases 2 n with ⟨h0, h1, e1, e2⟩ | ⟨h0, e1, e2⟩
 ·rw [e1, e2]
  obtain ⟨m, rfl⟩ := Int.eq_ofNat_of_zero_le h0
  exact fixed2 m w (by omega)
 ·rw [e1, e2]
  exact fixed_bad n 2 w (by omega)
theorem Two_is (n : Int) (S : ByteArray) (E : Int) (w : World) (h1 : n ≤ 9223372036854775807) (hS : fixStr 2 n = S) (hE : fixErr 2 n = E) :
  Calls Tryz.prog 90 #[.int .i64 n] w fun e w' => e = .returned (.tuple #[.string S, .int .i64 E]) ∧ Below w.heap.size w w' := by
 have HF := Lib.hid (fun W => Two_fixed n S E W h1 hS hE)
 clear hS hE
 go_enter Tryz.func90, Tryz.ntmps90
 go_wp2_with fail
 refine (HF.out _).mono ?_
 rintro e w1 ⟨rfl, hb⟩
 go_wp2_with fail
 go_ret2
 exact ⟨rfl, hb⟩
theorem Four_fixed (n : Int) (S : ByteArray) (E : Int) (w : World) (h1 : n ≤ 9223372036854775807) (hS : fixStr 4 n = S) (hE : fixErr 4 n = E) :
  Calls Tryz.prog 109 #[.int .i64 n, .int .i64 4] w fun e w' => e = .returned (.tuple #[.string S, .int .i64 E]) ∧ Below w.heap.size w w' := by
 subst hS hE
 rcases fix_cases 4 n with ⟨h0, h1, e1, e2⟩ | ⟨h0, e1, e2⟩
 ·rw [e1, e2]
  obtain ⟨m, rfl⟩ := Int.eq_ofNat_of_zero_le h0
  exact fixed4 m w (by omega)
 ·rw [e1, e2]
  exact fixed_bad n 4 w (by omega)
theorem Four_is (n : Int) (S : ByteArray) (E : Int) (w : World) (h1 : n ≤ 9223372036854775807) (hS : fixStr 4 n = S) (hE : fixErr 4 n = E) :
  Calls Tryz.prog 160 #[.int .i64 n] w fun e w' => e = .returned (.tuple #[.string S, .int .i64 E]) ∧ Below w.heap.size w w' := by
 have HF := Lib.hid (fun W => Four_fixed n S E W h1 hS hE)
 clear hS hE
 go_enter Tryz.func160, Tryz.ntmps160
 go_wp2_with fail
 refine (HF.out _).mono ?_
 rintro e w1 ⟨rfl, hb⟩
 go_wp2_with fail
 go_ret2
 exact ⟨rfl, hb⟩
open Go.RowKit Go.Lib Txt
def okAt (s : ByteArray) (pos : Nat) : Bool := good ((Utf8.decode s pos).1 : Int) && !(decide ((Utf8.decode s pos).1 = 65533) && decide ((Utf8.decode s pos).2 = 1))
theorem okAt_no (s : ByteArray) (pos : Nat) (hp : pos < s.size) (h : okAt s pos = false) : chk (s.data.toList.drop pos) = false := by
 have hne : s.data.toList.drop pos ≠ [] := by
  intro e; have := congrArg List.length e; rw [List.length_drop, ← Lib.size_eq] at this; simp at this; omega
 rw [chk_step _ hne, if_pos]
 rw [pt_eq, decodeL_drop, if_neg]
 intro x
 unfold okAt at h
 rw [x.1] at h
 have : (decide ((Utf8.decode s pos).1 = 65533) && decide ((Utf8.decode s pos).2 = 1)) = false := by
  rw [Bool.and_eq_false_iff, decide_eq_false_iff_not, decide_eq_false_iff_not]
  exact Decidable.not_and_iff_not_or_not.1 x.2
 rw [this] at h
 cases h
theorem okAt_yes (s : ByteArray) (pos : Nat) (hp : pos < s.size) (h : okAt s pos = true) : chk (s.data.toList.drop (pos + (Utf8.decode s pos).2)) = chk (s.data.toList.drop pos) ∧ pos + (Utf8.decode s pos).2 ≤ s.size ∧ 1 ≤ (Utf8.decode s pos).2 := by
 have hne : s.data.toList.drop pos ≠ [] := by
  intro e; have := congrArg List.length e; rw [List.length_drop, ← Lib.size_eq] at this; simp at this; omega
 unfold okAt at h
 rw [Bool.and_eq_true] at h
 obtain ⟨h1, h2⟩ := h
 have h3 : ¬ ((Utf8.decode s pos).1 = 65533 ∧ (Utf8.decode s pos).2 = 1) := by
  intro x
  rw [decide_eq_true x.1, decide_eq_true x.2] at h2
  cases h2
 have hpt : pt (s.data.toList.drop pos) = Utf8.decode s pos := by
  rw [pt_eq, decodeL_drop, if_pos ⟨h1, h3⟩]
 have hw := Lib.decode_width_pos s pos hp
 have hle := pt_le hne
 rw [hpt, List.length_drop, ← Lib.size_eq] at hle
 refine ⟨?_, by omega, hw⟩
 rw [chk_step _ hne, hpt, if_neg (by omega), List.drop_drop]
theorem err_at (s : ByteArray) (pos : Nat) (hp : pos < s.size) (h : (Utf8.decode s pos).1 = 65533) :
  hasPrefix (s.extract pos s.size).data.toList [239, 191, 189] = !decide ((Utf8.decode s pos).2 = 1) := by
 have hne : s.data.toList.drop pos ≠ [] := by
  intro e; have := congrArg List.length e; rw [List.length_drop, ← Lib.size_eq] at this; simp at this; omega
 have e : (s.extract pos s.size).data.toList = s.data.toList.drop pos := by
  rw [Lib.extract_data, List.take_of_length_le]
  rw [List.length_drop, ← Lib.size_eq]; omega
 rw [e, err_prefix _ hne (by rw [decodeL_drop]; exact h), decodeL_drop]
theorem mayBe_at (n : Int) (b : Bool) (w : World) (h : good n = b) :
  Calls Tryz.prog 134 #[.int .i32 n] w fun e w' => e = .returned (.bool b) ∧ w' = w := by
 rw [← h]; exact mayBe_any n w
theorem prefix_at (s p : ByteArray) (b : Bool) (w : World) (h : hasPrefix s.data.toList p.data.toList = b) :
  Calls Tryz.prog 135 #[.string s, .string p] w fun e w' => e = .returned (.bool b) ∧ w' = w := by
 rw [← h]; exact Tryz.strings_HasPrefix s p w
theorem Check_any (s : ByteArray) (w : World) (hm : s.size ≤ 9223372036854775807) :
  Calls Tryz.prog 110 #[.string s] w fun e w' => e = .returned (.int .i64 (textErr s.data.toList)) ∧ Below w.heap.size w w' := by
 by_cases hlim : 1024 < s.size
 ·have H := Lib.hid (show textErr s.data.toList = 2 by unfold textErr; rw [← Lib.size_eq, if_pos hlim])
  go_enter Tryz.func110, Tryz.ntmps110
  go_wp2
  go_ret
  exact ⟨ret_int H.out.symm, Below.refl _ _⟩
 ·have H : Hid (textErr s.data.toList = if chk s.data.toList = true then 0 else 8) := Lib.hid (by unfold textErr; rw [← Lib.size_eq, if_neg hlim])
  have hz : decide (1024 < (s.size : Int)) = false := by simp; omega
  go_enter Tryz.func110, Tryz.ntmps110
  go_wp2_with fail
  go_loopw [4] (fun _ wr => ∃ pos : Nat, pos ≤ s.size ∧ wr = w.iter s pos ∧ chk (s.data.toList.drop pos) = chk s.data.toList) (fun _ wr => s.size - wr.iterPos w.heap.size)
  case atStart => exact ⟨0, Nat.zero_le _, rfl, rfl⟩
  case round =>
   obtain ⟨pos, hps, rfl, hc⟩ := hrel
   have HC := Lib.hid hc
   clear hc
   have hb : ∀ p, Below w.heap.size w (w.iter s p) := fun p => (Below.refl _ w).alloc (Nat.le_refl _) _
   by_cases hp : pos < s.size
   ·have hnx := fun ty => run_next_any (P := Tryz.prog) w s pos ty hp
    have hd1 := decode_le s pos
    have hw0 := Lib.decode_width_pos s pos hp
    have HE := fun h => err_at s pos hp h
    have HO : okAt s pos = (good ((Utf8.decode s pos).1 : Int) && !(decide ((Utf8.decode s pos).1 = 65533) && decide ((Utf8.decode s pos).2 = 1))) := rfl
    have HN := okAt_no s pos hp
    have HY := okAt_yes s pos hp
    generalize Utf8.decode s pos = d at hnx hd1 HE HO HY hw0
    obtain ⟨r, v⟩ := d
    simp only [] at hnx hd1 HE HO HY hw0
    have HO' := Lib.hid HO
    clear HO
    have HE' := Lib.hid HE
    clear HE
    have HN' := Lib.hid HN
    clear HN
    have HY' := Lib.hid HY
    clear HY
    cases hg : good (r : Int) with
    | false =>
     have hg' := Lib.hid hg
     clear hg
     go_wp2_with (go_at_call 134; refine (mayBe_at _ false _ hg'.out).mono ?_; rintro e w' ⟨rfl, rfl⟩)
     go_ret
     refine ⟨ret_int ?_, hb _⟩
     rw [H.out, ← HC.out, HN'.out (by rw [HO'.out, hg'.out]; rfl)]; rfl
    | true =>
     have hg' := Lib.hid hg
     clear hg
     by_cases he : r = 65533
     ·have hq : ((r : Int) == 65533) = true := by simp; omega
      have HE1 := Lib.hid (HE'.out he)
      have he' := Lib.hid he
      clear he
      clear HE'
      by_cases hv : v = 1
      ·have HP := Lib.hid (HE1.out.trans (show (!decide (v = 1)) = false by rw [hv]; rfl))
       have hv' := Lib.hid hv
       clear hv
       clear HE1
       go_wp2_with (first | (go_at_call 134; refine (mayBe_at _ true _ hg'.out).mono ?_; rintro e w' ⟨rfl, rfl⟩) | (go_at_call 135; refine (prefix_at (s.extract pos s.size) ⟨#[239, 191, 189]⟩ false _ HP.out).mono ?_; rintro e w' ⟨rfl, rfl⟩))
       go_ret
       refine ⟨ret_int ?_, hb _⟩
       rw [H.out, ← HC.out, HN'.out (by rw [HO'.out, hg'.out, he'.out, hv'.out]; rfl)]; rfl
      ·have HP := Lib.hid (HE1.out.trans (show (!decide (v = 1)) = true by rw [decide_eq_false hv]; rfl))
       have hv' := Lib.hid hv
       clear hv
       clear HE1
       have HZ := Lib.hid (HY'.out (by rw [HO'.out, hg'.out, he'.out, decide_eq_false hv'.out]; rfl))
       go_wp2_with (first | (go_at_call 134; refine (mayBe_at _ true _ hg'.out).mono ?_; rintro e w' ⟨rfl, rfl⟩) | (go_at_call 135; refine (prefix_at (s.extract pos s.size) ⟨#[239, 191, 189]⟩ true _ HP.out).mono ?_; rintro e w' ⟨rfl, rfl⟩))
       go_roundw
       case rel => exact ⟨pos + v, HZ.out.2.1, rfl, HZ.out.1.trans HC.out⟩
       case measure => simp; omega
     ·have hq : ((r : Int) == 65533) = false := by simp; omega
      have HZ := Lib.hid (HY'.out (by rw [HO'.out, hg'.out, decide_eq_false he]; rfl))
      have he' := Lib.hid he
      clear he
      clear HE'
      go_wp2_with (go_at_call 134; refine (mayBe_at _ true _ hg'.out).mono ?_; rintro e w' ⟨rfl, rfl⟩)
      go_roundw
      case rel => exact ⟨pos + v, HZ.out.2.1, rfl, HZ.out.1.trans HC.out⟩
      case measure => simp; omega
   ·have hnx := fun ty => run_next_end (P := Tryz.prog) w s pos ty hp
    go_wp2
    go_ret
    refine ⟨ret_int ?_, hb _⟩
    rw [H.out, ← HC.out, List.drop_of_length_le (by rw [← Lib.size_eq]; omega), chk_nil]; rfl
end Go.Proofs.YtdbbcfohjkgdcaaGreat
