/- Package vbi, and the document's own answer: numbers of two and of four bytes, the highest first. -/
import Derived.Test.YthjlbdplhhgcpaaVbiTake
import Derived.Test.YthjlbdplhhgcpaaMem
import Derived.LoopN
namespace Go.Proofs.Ythjlbdplhhgcpaa
open Go.RowKit Go.Lib Vbi

theorem i64_or8 (m c : Nat) (hm : m < 16777216) (hc : c < 256) : bits .or .i64 ((m : Int) * 256) (c : Int) = ((m * 256 + c : Nat) : Int) := by
  have h := i64_or_nat (m * 256) c (by omega) (by omega)
  rw [Nat.mul_comm m 256, show (256 : Nat) = 2 ^ 8 from rfl, ← Nat.two_pow_add_eq_or_of_lt (by omega)] at h
  rw [show ((m : Int) * 256) = ((2 ^ 8 * m : Nat) : Int) by omega, h]
  omega

@[irreducible] def TfOk (wd : Nat) (l : List UInt8) (w : World) (e : Ending) (w' : World) : Prop := e = .returned (.tuple #[.int .i64 (tfVal wd l), .int .i64 (tfErr wd l)]) ∧ w' = w
theorem tf_ok {wd : Nat} {l : List UInt8} {w : World} {a b : Int} (h : tfVal wd l = a) (h2 : tfErr wd l = b) : TfOk wd l w (.returned (.tuple #[.int .i64 a, .int .i64 b])) w := by
  unfold TfOk; rw [h, h2]; exact ⟨rfl, rfl⟩
@[irreducible] def RTfOk (wd : Nat) (l : List UInt8) (w : World) (e : Ending) (w' : World) : Prop := e = .returned (.tuple #[.int .i64 (tfVal wd l), .bool (decide (tfErr wd l = 0))]) ∧ w' = w
theorem rtf_ok {wd : Nat} {l : List UInt8} {w : World} {a b : Int} {c : Bool} (h : tfVal wd l = a) (h2 : tfErr wd l = b) (h3 : decide (b = 0) = c) : RTfOk wd l w (.returned (.tuple #[.int .i64 a, .bool c])) w := by
  unfold RTfOk; rw [h, h2, h3]; exact ⟨rfl, rfl⟩
theorem tf_cut {wd : Nat} {l : List UInt8} (h : l.length < wd) : tfVal wd l = 0 ∧ tfErr wd l = 7 := by
  unfold tfVal tfErr; rw [if_pos h, if_pos h]; exact ⟨rfl, rfl⟩
theorem tf_good {wd : Nat} {l : List UInt8} (h : wd ≤ l.length) : tfVal wd l = (fixVal (l.take wd) : Nat) ∧ tfErr wd l = 0 := by
  unfold tfVal tfErr; rw [if_neg (by omega), if_neg (by omega)]; exact ⟨rfl, rfl⟩
theorem take_drop_at (s : ByteArray) (wd k : Nat) (hk : k < wd) (h : wd ≤ s.size) : (s.data.toList.take wd).drop k = (s[k]'(by omega)) :: (s.data.toList.take wd).drop (k + 1) := by
  have hl : k < (s.data.toList.take wd).length := by rw [List.length_take, ← Lib.size_eq]; omega
  rw [List.drop_eq_getElem_cons hl, List.getElem_take]; rfl
theorem take_drop_end (s : ByteArray) (wd : Nat) : (s.data.toList.take wd).drop wd = [] := List.drop_of_length_le (by rw [List.length_take]; omega)
theorem pow_lt24 {m k : Nat} (hm : m < 256 ^ k) (hk : k < 4) : m < 16777216 := by
  have : 256 ^ k ≤ 256 ^ 3 := Nat.pow_le_pow_right (by decide) (by omega)
  omega
theorem pow_next {m k c : Nat} (hm : m < 256 ^ k) (hc : c < 256) : m * 256 + c < 256 ^ (k + 1) := by
  rw [Nat.pow_succ]; omega

set_option maxRecDepth 100000 in
set_option maxHeartbeats 2000000 in
theorem takeFixed_ok (s : ByteArray) (wd : Nat) (w : World) (hs : s.size ≤ 9223372036854775807) (hw : wd ≤ 4) :
    Calls Try.prog 80 #[.string s, .int .i64 (wd : Int)] w (TfOk wd s.data.toList w) := by
  by_cases hcut : s.size < wd
  · have HC := Lib.hid (tf_cut (wd := wd) (l := s.data.toList) (by rw [← Lib.size_eq]; exact hcut))
    have hcut' : (s.size : Int) < (wd : Int) := by omega
    go_enter Try.func80, Try.ntmps80
    go_wp2
    go_ret2
    exact tf_ok HC.out.1 HC.out.2
  · have HC := Lib.hid (tf_good (wd := wd) (l := s.data.toList) (by rw [← Lib.size_eq]; omega))
    have hcut' : ¬ (s.size : Int) < (wd : Int) := by omega
    have hcd : decide ((s.size : Int) < (wd : Int)) = false := by simp; omega
    go_enter Try.func80, Try.ntmps80
    go_wp2_with fail
    go_loop [6, 13] (fun n i => ∃ (k m : Nat), k ≤ wd ∧ i = .int .i64 (k : Int) ∧ n = .int .i64 (m : Int) ∧ m < 256 ^ k ∧ fixVal (s.data.toList.take wd) = fixGo m ((s.data.toList.take wd).drop k)) (fun _ i => wd - (RowKit.intOf i).toNat)
    case atStart => exact ⟨0, 0, by omega, rfl, rfl, by simp, rfl⟩
    case round =>
      obtain ⟨k, m, hk, rfl, rfl, hm, ht⟩ := hrel
      by_cases hlt : k < wd
      · rw [take_drop_at s wd k hlt (by omega)] at ht
        have hks : k < s.size := by omega
        have hb : s[k].toNat < 256 := s[k].toNat_lt
        have hm24 := pow_lt24 hm (by omega)
        have HO := Lib.hid (i64_or8 m s[k].toNat hm24 hb)
        have HM := Lib.hid hm
        have HT := Lib.hid ht
        clear ht hm
        go_wp2_with fail
        go_round
        case rel => exact ⟨k + 1, _, by omega, by go_num, by rw [HO.out], pow_next HM.out hb, HT.out.trans (fixGo_cons _ _ _)⟩
        case measure => simp [RowKit.intOf]; omega
      · obtain rfl : k = wd := by omega
        rw [take_drop_end] at ht
        have HT := Lib.hid ht
        clear ht hm
        go_wp2_with fail
        go_ret2
        exact tf_ok (HC.out.1.trans (by rw [HT.out]; rfl)) HC.out.2

set_option maxRecDepth 100000 in
set_option maxHeartbeats 2000000 in
theorem RTakeFixed_ok (s : ByteArray) (wd : Nat) (w : World) (hs : s.size ≤ 9223372036854775807) (hw : wd ≤ 4) :
    Calls Try.prog 55 #[.string s, .int .i64 (wd : Int)] w (RTfOk wd s.data.toList w) := by
  by_cases hcut : s.size < wd
  · have HC := Lib.hid (tf_cut (wd := wd) (l := s.data.toList) (by rw [← Lib.size_eq]; exact hcut))
    have hcut' : (s.size : Int) < (wd : Int) := by omega
    go_enter Try.func55, Try.ntmps55
    go_wp2
    go_ret2
    exact rtf_ok HC.out.1 HC.out.2 rfl
  · have HC := Lib.hid (tf_good (wd := wd) (l := s.data.toList) (by rw [← Lib.size_eq]; omega))
    have hcut' : ¬ (s.size : Int) < (wd : Int) := by omega
    have hcd : decide ((s.size : Int) < (wd : Int)) = false := by simp; omega
    go_enter Try.func55, Try.ntmps55
    go_wp2_with fail
    go_loop [6, 7] (fun n i => ∃ (k m : Nat), k ≤ wd ∧ i = .int .i64 (k : Int) ∧ n = .int .i64 (m : Int) ∧ m < 256 ^ k ∧ fixVal (s.data.toList.take wd) = fixGo m ((s.data.toList.take wd).drop k)) (fun _ i => wd - (RowKit.intOf i).toNat)
    case atStart => exact ⟨0, 0, by omega, rfl, rfl, by simp, rfl⟩
    case round =>
      obtain ⟨k, m, hk, rfl, rfl, hm, ht⟩ := hrel
      by_cases hlt : k < wd
      · rw [take_drop_at s wd k hlt (by omega)] at ht
        have hks : k < s.size := by omega
        have hb : s[k].toNat < 256 := s[k].toNat_lt
        have hm24 := pow_lt24 hm (by omega)
        have HO := Lib.hid (i64_or8 m s[k].toNat hm24 hb)
        have HM := Lib.hid hm
        have HT := Lib.hid ht
        clear ht hm
        go_wp2_with fail
        go_round
        case rel => exact ⟨k + 1, _, by omega, by go_num, by rw [HO.out], pow_next HM.out hb, HT.out.trans (fixGo_cons _ _ _)⟩
        case measure => simp [RowKit.intOf]; omega
      · obtain rfl : k = wd := by omega
        rw [take_drop_end] at ht
        have HT := Lib.hid ht
        clear ht hm
        go_wp2_with fail
        go_ret2
        exact rtf_ok (HC.out.1.trans (by rw [HT.out]; rfl)) HC.out.2 rfl

set_option maxHeartbeats 1000000 in
theorem TakeTwo_ok (s : ByteArray) (w : World) (hs : s.size ≤ 9223372036854775807) :
    Calls Try.prog 73 #[.string s] w (TfOk 2 s.data.toList w) := by
  go_enter Try.func73, Try.ntmps73
  go_wp2_with fail
  refine (takeFixed_ok s 2 _ hs (by omega)).mono ?_
  intro e w' h
  unfold TfOk at h
  obtain ⟨rfl, rfl⟩ := h
  go_wp2_with fail
  go_ret2
  exact tf_ok rfl rfl
set_option maxHeartbeats 1000000 in
theorem TakeFour_ok (s : ByteArray) (w : World) (hs : s.size ≤ 9223372036854775807) :
    Calls Try.prog 74 #[.string s] w (TfOk 4 s.data.toList w) := by
  go_enter Try.func74, Try.ntmps74
  go_wp2_with fail
  refine (takeFixed_ok s 4 _ hs (by omega)).mono ?_
  intro e w' h
  unfold TfOk at h
  obtain ⟨rfl, rfl⟩ := h
  go_wp2_with fail
  go_ret2
  exact tf_ok rfl rfl
end Go.Proofs.Ythjlbdplhhgcpaa
