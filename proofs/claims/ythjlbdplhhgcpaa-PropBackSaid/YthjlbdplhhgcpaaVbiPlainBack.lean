/- Plain facts: what package vbi writes is taken back. No run of a program is in this file. -/
import Derived.Test.YthjlbdplhhgcpaaVbiLong
namespace Go.Proofs.Ythjlbdplhhgcpaa
open Go.RowKit Go.Lib Vbi

theorem data_add (a b : ByteArray) : (a ++ b).data.toList = a.data.toList ++ b.data.toList := by rw [ByteArray.data_append, Array.toList_append]
theorem data_take (a : ByteArray) (k : Nat) : (a.extract 0 k).data.toList = a.data.toList.take k := by rw [Lib.extract_data]; simp
theorem bytes_ext {a b : ByteArray} (h : a.data.toList = b.data.toList) : a = b := ByteArray.ext (Array.toList_inj.1 h)
theorem num_back {n : Nat} (h : n < 268435456) (y : ByteArray) : tn (strOfNums (numZ n) ++ y).data.toList = ((n : Int), ((strOfNums (numZ n)).size : Int), 0) := by
  rw [data_add, strOf_data, tn_back h, strOfNums_size]
theorem num_cut {n : Nat} (h : n < 268435456) (j : Nat) (hj : j < (strOfNums (numZ n)).size) : tn ((strOfNums (numZ n)).extract 0 j).data.toList = (0, 0, 7) := by
  rw [strOfNums_size] at hj
  rw [data_take, strOf_data]
  exact tn_cut h j hj
theorem num_wrote (y : ByteArray) : (∃ E, tn y.data.toList = (0, 0, E) ∧ E ≠ 0) ∨ ∃ m k : Nat, tn y.data.toList = ((m : Int), (k : Int), 0) ∧ m < 268435456 ∧ k ≤ y.size ∧ strOfNums (numZ m) = y.extract 0 k := by
  rcases tn_wrote y.data.toList with (h | h) | ⟨m, k, h1, h2, h3, h4⟩
  · exact .inl ⟨7, h, by decide⟩
  · exact .inl ⟨8, h, by decide⟩
  · exact .inr ⟨m, k, h1, h2, by rw [Lib.size_eq]; exact h3, bytes_ext (by rw [strOf_data, data_take, h4])⟩

theorem bin_size (s : ByteArray) : (strOfNums (fixZ 2 s.size) ++ s).size = 2 + s.size := by rw [ByteArray.size_append, fix2_size]
theorem tbN_bin (s z : ByteArray) (h : s.size ≤ 1024) (hz : z.data.toList.take 2 = (strOfNums (fixZ 2 s.size)).data.toList) : tbN z = s.size := by
  unfold tbN
  rw [hz, strOf_data]
  have := fix2_back (n := s.size) (by omega) []
  rw [List.append_nil] at this
  rw [List.take_of_length_le (by unfold bytesOf; rw [List.length_map, fixZ_len]; omega)] at this
  exact this
theorem fix2_len (n : Nat) : (strOfNums (fixZ 2 n)).data.toList.length = 2 := by rw [← Lib.size_eq, fix2_size]
theorem bin_back (s y : ByteArray) (h : s.size ≤ 1024) : tb ((strOfNums (fixZ 2 s.size) ++ s) ++ y) = (s, ((strOfNums (fixZ 2 s.size) ++ s).size : Int), 0) := by
  have hN : tbN ((strOfNums (fixZ 2 s.size) ++ s) ++ y) = s.size := by
    refine tbN_bin s _ h ?_
    rw [data_add, data_add, List.append_assoc, List.take_append_of_le_length (by rw [fix2_len]; omega), List.take_of_length_le (by rw [fix2_len]; omega)]
  have hz : ((strOfNums (fixZ 2 s.size) ++ s) ++ y).size = 2 + s.size + y.size := by rw [ByteArray.size_append, bin_size]
  unfold tb
  rw [hN, if_neg (by omega), if_neg (by omega), if_neg (by omega), bin_size]
  refine congrArg (·, ((2 + s.size : Nat) : Int), (0 : Int)) ?_
  apply bytes_ext
  rw [Lib.extract_data, data_add, data_add, List.append_assoc]
  rw [List.drop_append_of_le_length (by rw [fix2_len]; omega), List.drop_of_length_le (by rw [fix2_len]; omega), List.nil_append]
  rw [List.take_append_of_le_length (by rw [← Lib.size_eq]; omega), List.take_of_length_le (by rw [← Lib.size_eq]; omega)]
theorem bin_cut (s : ByteArray) (h : s.size ≤ 1024) : tb ((strOfNums (fixZ 2 s.size) ++ s).extract 0 ((strOfNums (fixZ 2 s.size) ++ s).size - 1)) = (⟨#[]⟩, 0, 7) := by
  have hz : ((strOfNums (fixZ 2 s.size) ++ s).extract 0 ((strOfNums (fixZ 2 s.size) ++ s).size - 1)).size = 1 + s.size := by rw [ByteArray.size_extract, bin_size]; omega
  unfold tb
  rw [hz]
  by_cases h0 : s.size = 0
  · rw [if_pos (by omega)]
  · have hN : tbN ((strOfNums (fixZ 2 s.size) ++ s).extract 0 ((strOfNums (fixZ 2 s.size) ++ s).size - 1)) = s.size := by
      refine tbN_bin s _ h ?_
      rw [data_take, List.take_take, bin_size, data_add, List.take_append_of_le_length (by rw [fix2_len]; omega), List.take_of_length_le (by rw [fix2_len]; omega)]
    rw [hN, if_neg (by omega), if_neg (by omega), if_pos (by omega)]
end Go.Proofs.Ythjlbdplhhgcpaa
