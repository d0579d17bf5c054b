/- Package vbi, and the document's own answer: which number bytes begin with. -/
import Derived.Test.YthjlbdplhhgcpaaTextLeaf
import Derived.Test.YthjlbdplhhgcpaaVbiPlain
namespace Go.Proofs.Ythjlbdplhhgcpaa
open Go.RowKit Go.Lib Vbi

theorem ofInt_i64 (a : Nat) (ha : a < 9223372036854775808) : (BitVec.ofInt 64 (a : Int)).toNat = a := by
  rw [BitVec.ofInt_natCast, BitVec.toNat_ofNat]; exact Nat.mod_eq_of_lt (by omega)
theorem i64_or_nat (a b : Nat) (ha : a < 9223372036854775808) (hb : b < 9223372036854775808) : bits .or .i64 (a : Int) (b : Int) = ((a ||| b : Nat) : Int) := by
  have hx : a ||| b < 2 ^ 63 := Nat.or_lt_two_pow (by omega) (by omega)
  show IntKind.i64.wrap ((BitVec.ofInt 64 (a : Int) ||| BitVec.ofInt 64 (b : Int)).toNat : Int) = _
  rw [BitVec.toNat_or, ofInt_i64 a ha, ofInt_i64 b hb]
  unfold IntKind.wrap
  simp [IntKind.bits, IntKind.signed]
  omega
/-- Bits that have nothing in common. -/
theorem i64_or_add (a b k : Nat) (ha : a < 2 ^ k) (hk : k ≤ 40) (hb : b * 2 ^ k < 9223372036854775808) : bits .or .i64 (a : Int) ((b * 2 ^ k : Nat) : Int) = ((a + b * 2 ^ k : Nat) : Int) := by
  have h2 : (2 : Nat) ^ k ≤ 2 ^ 40 := Nat.pow_le_pow_right (by decide) hk
  rw [i64_or_nat a _ (by omega) hb, Nat.or_comm, Nat.mul_comm b, ← Nat.two_pow_add_eq_or_of_lt ha, Nat.add_comm]

theorem data_at (s : ByteArray) (k : Nat) (h : k < s.size) : s.data.toList.drop k = s[k] :: s.data.toList.drop (k + 1) := by
  rw [List.drop_eq_getElem_cons (by simpa using h)]; rfl
theorem data_end (s : ByteArray) (k : Nat) (h : s.size ≤ k) : s.data.toList.drop k = [] := List.drop_of_length_le (by rw [← Lib.size_eq]; exact h)
theorem tn_or0 (m c : Nat) (hm : m < 128 ^ 0) : bits .or .i64 (m : Int) ((c : Int) % 128) = ((m + c % 128 * 128 ^ (3 - 3) : Nat) : Int) := by
  have := i64_or_add m (c % 128) 0 (by simpa using hm) (by omega) (by omega)
  simpa using this
theorem tn_or1 (m c : Nat) (hm : m < 128 ^ 1) : bits .or .i64 (m : Int) ((c : Int) % 128 * 128) = ((m + c % 128 * 128 ^ (3 - 2) : Nat) : Int) := by
  have := i64_or_add m (c % 128) 7 (by omega) (by omega) (by omega)
  simpa using this
theorem tn_or2 (m c : Nat) (hm : m < 128 ^ 2) : bits .or .i64 (m : Int) ((c : Int) % 128 * 16384) = ((m + c % 128 * 128 ^ (3 - 1) : Nat) : Int) := by
  have := i64_or_add m (c % 128) 14 (by omega) (by omega) (by omega)
  simpa using this
theorem tn_or3 (m c : Nat) (hm : m < 128 ^ 3) : bits .or .i64 (m : Int) ((c : Int) % 128 * 2097152) = ((m + c % 128 * 128 ^ (3 - 0) : Nat) : Int) := by
  have := i64_or_add m (c % 128) 21 (by omega) (by omega) (by omega)
  simpa using this
theorem tn_or0z (m c : Nat) (hm : m < 128 ^ 0) (hc : c = 0) : bits .or .i64 (m : Int) 0 = ((m + c % 128 * 128 ^ (3 - 3) : Nat) : Int) := by
  subst hc
  exact tn_or0 m 0 hm
theorem ret_tn {l : List UInt8} {a b c : Int} (h : tn l = (a, b, c)) : Ending.returned (.tuple #[.int .i64 a, .int .i64 b, .int .i64 c]) = .returned (.tuple #[.int .i64 (tn l).1, .int .i64 (tn l).2.1, .int .i64 (tn l).2.2]) := by rw [h]
theorem tn_last {l : List UInt8} {f n : Nat} {b : UInt8} {t : List UInt8} (e : tn l = tnGo (f + 1) n (b :: t)) (h : b.toNat < 128) (hf : b.toNat ≠ 0 ∨ f = 3) : tn l = (((n + b.toNat % 128 * 128 ^ (3 - f) : Nat) : Int), ((4 - f : Nat) : Int), 0) := by
  rw [e, tnGo_last h hf, Nat.mod_eq_of_lt h]
/-- A round that goes on. -/
theorem tn_next {l : List UInt8} {f n k : Nat} {b : UInt8} {t : List UInt8} (e : tn l = tnGo (f + 1) n (b :: t)) (h : 128 ≤ b.toNat) (hf : f + k = 3) (hn : n < 128 ^ k) :
    n + b.toNat % 128 * 128 ^ (3 - f) < 128 ^ (k + 1) ∧ tn l = tnGo f (n + b.toNat % 128 * 128 ^ (3 - f)) t := by
  refine ⟨?_, e.trans (tnGo_more h)⟩
  have : 3 - f = k := by omega
  rw [this, Nat.pow_succ]
  have h1 : b.toNat % 128 * 128 ^ k ≤ 127 * 128 ^ k := Nat.mul_le_mul_right _ (by omega)
  omega

@[irreducible] def TnOk (l : List UInt8) (w : World) (e : Ending) (w' : World) : Prop := e = .returned (.tuple #[.int .i64 (tn l).1, .int .i64 (tn l).2.1, .int .i64 (tn l).2.2]) ∧ w' = w
theorem tn_ok {l : List UInt8} {w : World} {a b c : Int} (h : tn l = (a, b, c)) : TnOk l w (.returned (.tuple #[.int .i64 a, .int .i64 b, .int .i64 c])) w := by
  unfold TnOk; exact ⟨ret_tn h, rfl⟩

set_option maxRecDepth 100000 in
set_option maxHeartbeats 4000000 in
theorem TakeNum_ok (s : ByteArray) (w : World) (hs : s.size ≤ 9223372036854775807) :
    Calls Try.prog 40 #[.string s] w (TnOk s.data.toList w) := by
  go_enter Try.func40, Try.ntmps40
  go_wp2_with fail
  go_loop [2, 7] (fun n i => ∃ (k m : Nat), k ≤ 4 ∧ k ≤ s.size ∧ i = .int .i64 (k : Int) ∧ n = .int .i64 (m : Int) ∧ m < 128 ^ k ∧ tn s.data.toList = tnGo (4 - k) m (s.data.toList.drop k)) (fun _ i => 4 - (RowKit.intOf i).toNat)
  case atStart => exact ⟨0, 0, by omega, by omega, rfl, rfl, by simp, rfl⟩
  case round =>
    obtain ⟨k, m, hk, hks, rfl, rfl, hm, ht⟩ := hrel
    by_cases h4 : k < 4
    · by_cases hlt : k < s.size
      · rw [data_at s k hlt] at ht
        have hb : s[k].toNat < 256 := s[k].toNat_lt
        have hne : ¬ s = ByteArray.empty := by intro h; rw [h] at hlt; exact absurd hlt (by simp)
        rcases (by omega : k = 0 ∨ k = 1 ∨ k = 2 ∨ k = 3) with rfl | rfl | rfl | rfl
        · have HO := Lib.hid (tn_or0 m s[0].toNat hm)
          have HZ := Lib.hid (tn_or0z m s[0].toNat hm)
          have HM := Lib.hid hm
          have HT := Lib.hid ht
          clear ht hm
          by_cases hc : 128 ≤ s[0].toNat
          · go_wp2_with fail
            go_round
            case rel => exact ⟨1, _, by omega, by omega, rfl, by rw [HO.out], (tn_next (k := 0) HT.out hc rfl HM.out).1, (tn_next (k := 0) HT.out hc rfl HM.out).2⟩
            case measure => simp [RowKit.intOf]
          · go_wp2_with fail
            all_goals
              go_ret3
              first | (rw [HZ.out (by assumption)]; exact tn_ok (tn_last HT.out (by omega) (.inr rfl))) | (rw [HO.out]; exact tn_ok (tn_last HT.out (by omega) (.inr rfl)))
        · have HO := Lib.hid (tn_or1 m s[1].toNat hm)
          have HM := Lib.hid hm
          have HT := Lib.hid ht
          clear ht hm
          by_cases hc : 128 ≤ s[1].toNat
          · go_wp2_with fail
            go_round
            case rel => exact ⟨2, _, by omega, by omega, rfl, by rw [HO.out], (tn_next (k := 1) HT.out hc rfl HM.out).1, (tn_next (k := 1) HT.out hc rfl HM.out).2⟩
            case measure => simp [RowKit.intOf]
          · go_wp2_with fail
            · have hz : s[1].toNat = 0 := by assumption
              go_ret3
              exact tn_ok (HT.out.trans (tnGo_bad hz (by omega)))
            · have hz : ¬ s[1].toNat = 0 := by assumption
              go_ret3
              rw [HO.out]
              exact tn_ok (tn_last HT.out (by omega) (.inl hz))
        · have HO := Lib.hid (tn_or2 m s[2].toNat hm)
          have HM := Lib.hid hm
          have HT := Lib.hid ht
          clear ht hm
          by_cases hc : 128 ≤ s[2].toNat
          · go_wp2_with fail
            go_round
            case rel => exact ⟨3, _, by omega, by omega, rfl, by rw [HO.out], (tn_next (k := 2) HT.out hc rfl HM.out).1, (tn_next (k := 2) HT.out hc rfl HM.out).2⟩
            case measure => simp [RowKit.intOf]
          · go_wp2_with fail
            · have hz : s[2].toNat = 0 := by assumption
              go_ret3
              exact tn_ok (HT.out.trans (tnGo_bad hz (by omega)))
            · have hz : ¬ s[2].toNat = 0 := by assumption
              go_ret3
              rw [HO.out]
              exact tn_ok (tn_last HT.out (by omega) (.inl hz))
        · have HO := Lib.hid (tn_or3 m s[3].toNat hm)
          have HM := Lib.hid hm
          have HT := Lib.hid ht
          clear ht hm
          by_cases hc : 128 ≤ s[3].toNat
          · go_wp2_with fail
            go_round
            case rel => exact ⟨4, _, by omega, by omega, rfl, by rw [HO.out], (tn_next (k := 3) HT.out hc rfl HM.out).1, (tn_next (k := 3) HT.out hc rfl HM.out).2⟩
            case measure => simp [RowKit.intOf]
          · go_wp2_with fail
            · have hz : s[3].toNat = 0 := by assumption
              go_ret3
              exact tn_ok (HT.out.trans (tnGo_bad hz (by omega)))
            · have hz : ¬ s[3].toNat = 0 := by assumption
              go_ret3
              rw [HO.out]
              exact tn_ok (tn_last HT.out (by omega) (.inl hz))
      · rw [data_end s k (by omega)] at ht
        obtain rfl : k = s.size := by omega
        have HT := Lib.hid (ht.trans (show tnGo (4 - s.size) m [] = (0, 0, 7) by obtain ⟨f, hf⟩ : ∃ f, 4 - s.size = f + 1 := ⟨3 - s.size, by omega⟩; rw [hf]; rfl))
        clear ht hm
        go_wp2_with fail
        go_ret3
        exact tn_ok HT.out
    · obtain rfl : k = 4 := by omega
      have HT := Lib.hid ht
      clear ht hm
      go_wp2_with fail
      go_ret3
      exact tn_ok HT.out

set_option maxRecDepth 100000 in
set_option maxHeartbeats 4000000 in
theorem RTakeNum_ok (s : ByteArray) (w : World) (hs : s.size ≤ 9223372036854775807) :
    Calls Try.prog 42 #[.string s] w (TnOk s.data.toList w) := by
  go_enter Try.func42, Try.ntmps42
  go_wp2_with fail
  go_loop [5, 6] (fun n i => ∃ (k m : Nat), k ≤ 4 ∧ k ≤ s.size ∧ i = .int .i64 (k : Int) ∧ n = .int .i64 (m : Int) ∧ m < 128 ^ k ∧ tn s.data.toList = tnGo (4 - k) m (s.data.toList.drop k)) (fun _ i => 4 - (RowKit.intOf i).toNat)
  case atStart => exact ⟨0, 0, by omega, by omega, rfl, rfl, by simp, rfl⟩
  case round =>
    obtain ⟨k, m, hk, hks, rfl, rfl, hm, ht⟩ := hrel
    by_cases h4 : k < 4
    · by_cases hlt : k < s.size
      · rw [data_at s k hlt] at ht
        have hb : s[k].toNat < 256 := s[k].toNat_lt
        have hne : ¬ s = ByteArray.empty := by intro h; rw [h] at hlt; exact absurd hlt (by simp)
        rcases (by omega : k = 0 ∨ k = 1 ∨ k = 2 ∨ k = 3) with rfl | rfl | rfl | rfl
        · have HO := Lib.hid (tn_or0 m s[0].toNat hm)
          have HZ := Lib.hid (tn_or0z m s[0].toNat hm)
          have HM := Lib.hid hm
          have HT := Lib.hid ht
          clear ht hm
          by_cases hc : 128 ≤ s[0].toNat
          · go_wp2_with fail
            go_round
            case rel => exact ⟨1, _, by omega, by omega, rfl, by rw [HO.out], (tn_next (k := 0) HT.out hc rfl HM.out).1, (tn_next (k := 0) HT.out hc rfl HM.out).2⟩
            case measure => simp [RowKit.intOf]
          · go_wp2_with fail
            all_goals
              go_ret3
              first | (rw [HZ.out (by assumption)]; exact tn_ok (tn_last HT.out (by omega) (.inr rfl))) | (rw [HO.out]; exact tn_ok (tn_last HT.out (by omega) (.inr rfl)))
        · have HO := Lib.hid (tn_or1 m s[1].toNat hm)
          have HM := Lib.hid hm
          have HT := Lib.hid ht
          clear ht hm
          by_cases hc : 128 ≤ s[1].toNat
          · go_wp2_with fail
            go_round
            case rel => exact ⟨2, _, by omega, by omega, rfl, by rw [HO.out], (tn_next (k := 1) HT.out hc rfl HM.out).1, (tn_next (k := 1) HT.out hc rfl HM.out).2⟩
            case measure => simp [RowKit.intOf]
          · go_wp2_with fail
            · have hz : s[1].toNat = 0 := by assumption
              go_ret3
              exact tn_ok (HT.out.trans (tnGo_bad hz (by omega)))
            · have hz : ¬ s[1].toNat = 0 := by assumption
              go_ret3
              rw [HO.out]
              exact tn_ok (tn_last HT.out (by omega) (.inl hz))
        · have HO := Lib.hid (tn_or2 m s[2].toNat hm)
          have HM := Lib.hid hm
          have HT := Lib.hid ht
          clear ht hm
          by_cases hc : 128 ≤ s[2].toNat
          · go_wp2_with fail
            go_round
            case rel => exact ⟨3, _, by omega, by omega, rfl, by rw [HO.out], (tn_next (k := 2) HT.out hc rfl HM.out).1, (tn_next (k := 2) HT.out hc rfl HM.out).2⟩
            case measure => simp [RowKit.intOf]
          · go_wp2_with fail
            · have hz : s[2].toNat = 0 := by assumption
              go_ret3
              exact tn_ok (HT.out.trans (tnGo_bad hz (by omega)))
            · have hz : ¬ s[2].toNat = 0 := by assumption
              go_ret3
              rw [HO.out]
              exact tn_ok (tn_last HT.out (by omega) (.inl hz))
        · have HO := Lib.hid (tn_or3 m s[3].toNat hm)
          have HM := Lib.hid hm
          have HT := Lib.hid ht
          clear ht hm
          by_cases hc : 128 ≤ s[3].toNat
          · go_wp2_with fail
            go_round
            case rel => exact ⟨4, _, by omega, by omega, rfl, by rw [HO.out], (tn_next (k := 3) HT.out hc rfl HM.out).1, (tn_next (k := 3) HT.out hc rfl HM.out).2⟩
            case measure => simp [RowKit.intOf]
          · go_wp2_with fail
            · have hz : s[3].toNat = 0 := by assumption
              go_ret3
              exact tn_ok (HT.out.trans (tnGo_bad hz (by omega)))
            · have hz : ¬ s[3].toNat = 0 := by assumption
              go_ret3
              rw [HO.out]
              exact tn_ok (tn_last HT.out (by omega) (.inl hz))
      · rw [data_end s k (by omega)] at ht
        obtain rfl : k = s.size := by omega
        have HT := Lib.hid (ht.trans (show tnGo (4 - s.size) m [] = (0, 0, 7) by obtain ⟨f, hf⟩ : ∃ f, 4 - s.size = f + 1 := ⟨3 - s.size, by omega⟩; rw [hf]; rfl))
        clear ht hm
        go_wp2_with fail
        go_ret3
        exact tn_ok HT.out
    · obtain rfl : k = 4 := by omega
      have HT := Lib.hid ht
      clear ht hm
      go_wp2_with fail
      go_ret3
      exact tn_ok HT.out

end Go.Proofs.Ythjlbdplhhgcpaa
