/- Plain facts on properties: what is written is taken back, and what is taken is written again. No run of a program is in this file. -/
import Derived.Test.YthjlbdplhhgcpaaPropTakePlain
namespace Go.Proofs.Ythjlbdplhhgcpaa.Prp
open Go.Lib Vbi

/-! ### what is written is taken -/
theorem fix1_back {n : Nat} (h : n < 256) (t : List UInt8) : fixVal ((bytesOf [(n : Int)] ++ t).take 1) = n := by
  unfold bytesOf
  simp only [List.map_cons, List.map_nil, Int.toNat_natCast, List.cons_append, List.nil_append, List.take_succ_cons, List.take_zero]
  unfold fixVal
  rw [fixGo_cons, u8_ofNat h]
  show 0 * 256 + n = n
  omega
theorem fix4_data {n : Nat} (h : n < 4294967296) : bytesOf (fixZ 4 n) = [UInt8.ofNat (n / 16777216), UInt8.ofNat (n / 65536 % 256), UInt8.ofNat (n / 256 % 256), UInt8.ofNat (n % 256)] := by
  unfold bytesOf fixZ fixZ fixZ fixZ fixZ
  simp only [List.map_cons, List.map_nil, Int.toNat_natCast, Nat.reducePow, Nat.pow_one, Nat.pow_zero, Nat.div_one]
  rw [Nat.mod_eq_of_lt (show n / 16777216 < 256 by omega)]
theorem fix4_back {n : Nat} (h : n < 4294967296) (t : List UInt8) : fixVal ((bytesOf (fixZ 4 n) ++ t).take 4) = n := by
  rw [fix4_data h]
  simp only [List.cons_append, List.nil_append, List.take_succ_cons, List.take_zero]
  unfold fixVal
  rw [fixGo_cons, fixGo_cons, fixGo_cons, fixGo_cons, u8_ofNat (by omega), u8_ofNat (by omega), u8_ofNat (by omega), u8_ofNat (by omega)]
  show (((0 * 256 + n / 16777216) * 256 + n / 65536 % 256) * 256 + n / 256 % 256) * 256 + n % 256 = n
  omega
/-- What tk gives where a value was written. -/
def Gave (k : Int) (p : P) (t : Tk) : Prop := t = ⟨p.n, p.s, p.v, ((valStr k p).size : Int), 0⟩
theorem tkFix_back (wd n : Nat) (S y : ByteArray) (hS : S.size = wd) (h : ∀ t, fixVal ((S.data.toList ++ t).take wd) = n) : tkFix wd (S ++ y) = ⟨(n : Int), ⟨#[]⟩, ⟨#[]⟩, (wd : Int), 0⟩ := by
  unfold tkFix
  rw [if_neg (by rw [ByteArray.size_append]; omega), data_add, h]
theorem tl_back (t : Bool) (s y : ByteArray) (hs : s.size ≤ 1024) (ht : t = true → textB s = true) : tl t ((strOfNums (fixZ 2 s.size) ++ s) ++ y) = (s, ((strOfNums (fixZ 2 s.size) ++ s).size : Int), 0) := by
  refine tl_good (bin_back s y hs) ?_
  cases t with
  | false => rfl
  | true =>
    have := ht rfl
    unfold textB at this
    have h2 := of_decide_eq_true this
    unfold tlErr
    rw [if_pos rfl]
    exact h2
theorem valB_1 {p : P} (h : valB 1 p = true) : (p.n = 0 ∨ p.n = 1) ∧ p.s = ⟨#[]⟩ ∧ p.v = ⟨#[]⟩ := of_decide_eq_true h
theorem valB_2 {p : P} (h : valB 2 p = true) : (0 ≤ p.n ∧ p.n < 65536) ∧ p.s = ⟨#[]⟩ ∧ p.v = ⟨#[]⟩ := of_decide_eq_true h
theorem valB_3 {p : P} (h : valB 3 p = true) : (0 ≤ p.n ∧ p.n < 4294967296) ∧ p.s = ⟨#[]⟩ ∧ p.v = ⟨#[]⟩ := of_decide_eq_true h
theorem valB_4 {p : P} (h : valB 4 p = true) : (0 ≤ p.n ∧ p.n < 268435456) ∧ p.s = ⟨#[]⟩ ∧ p.v = ⟨#[]⟩ := of_decide_eq_true h
theorem valB_5 {p : P} (h : valB 5 p = true) : p.n = 0 ∧ textB p.s = true ∧ p.v = ⟨#[]⟩ := of_decide_eq_true h
theorem valB_6 {p : P} (h : valB 6 p = true) : p.n = 0 ∧ binB p.s = true ∧ p.v = ⟨#[]⟩ := of_decide_eq_true h
theorem valB_7 {p : P} (h : valB 7 p = true) : p.n = 0 ∧ textB p.s = true ∧ textB p.v = true := of_decide_eq_true h
theorem ext_right (a b : ByteArray) : (a ++ b).extract a.size (a ++ b).size = b := by
  apply bytes_ext
  rw [Lib.extract_data, data_add, ByteArray.size_append, Lib.size_eq a, List.drop_left, List.take_of_length_le (by rw [← Lib.size_eq b]; omega)]
theorem str_7 (p : P) : valStr 7 p = (strOfNums (fixZ 2 p.s.size) ++ p.s) ++ (strOfNums (fixZ 2 p.v.size) ++ p.v) := by
  unfold valStr
  rw [if_neg (by decide), if_neg (by decide), if_neg (by decide), if_neg (by decide), if_neg (by decide)]
theorem tk_7 (s : ByteArray) : tk 7 s = tkTwo s := by
  unfold tk
  rw [if_neg (by decide), if_neg (by decide), if_neg (by decide), if_neg (by decide), if_neg (by decide), if_neg (by decide)]
/-- What a value is written as is taken as it. -/
theorem tk_back {k : Int} {p : P} (y : ByteArray) (h0 : 0 ≤ k) (h7 : k ≤ 7) (hk : k ≠ 0) (h : valB k p = true) : Gave k p (tk k (valStr k p ++ y)) := by
  unfold Gave
  rcases kind_seven h0 h7 hk with rfl | rfl | rfl | rfl | rfl | rfl | rfl
  · obtain ⟨hn, hs, hv⟩ := valB_1 h
    obtain ⟨n, hn'⟩ : ∃ n : Nat, p.n = (n : Int) := ⟨p.n.toNat, by omega⟩
    show tkFix 1 (strOfNums [p.n] ++ y) = ⟨p.n, p.s, p.v, ((strOfNums [p.n]).size : Int), 0⟩
    rw [hs, hv, hn', tkFix_back 1 n _ y (by rw [strOfNums_size]; rfl) (fun t => by rw [strOf_data]; exact fix1_back (by omega) t), strOfNums_size]
    rfl
  · obtain ⟨hn, hs, hv⟩ := valB_2 h
    obtain ⟨n, hn'⟩ : ∃ n : Nat, p.n = (n : Int) := ⟨p.n.toNat, by omega⟩
    show tkFix 2 (strOfNums (fixZ 2 p.n.toNat) ++ y) = ⟨p.n, p.s, p.v, ((strOfNums (fixZ 2 p.n.toNat)).size : Int), 0⟩
    rw [hs, hv, hn', Int.toNat_natCast, tkFix_back 2 n _ y (by rw [strOfNums_size, fixZ_len]) (fun t => by rw [strOf_data]; exact fix2_back (by omega) t), strOfNums_size, fixZ_len]
  · obtain ⟨hn, hs, hv⟩ := valB_3 h
    obtain ⟨n, hn'⟩ : ∃ n : Nat, p.n = (n : Int) := ⟨p.n.toNat, by omega⟩
    show tkFix 4 (strOfNums (fixZ 4 p.n.toNat) ++ y) = ⟨p.n, p.s, p.v, ((strOfNums (fixZ 4 p.n.toNat)).size : Int), 0⟩
    rw [hs, hv, hn', Int.toNat_natCast, tkFix_back 4 n _ y (by rw [strOfNums_size, fixZ_len]) (fun t => by rw [strOf_data]; exact fix4_back (by omega) t), strOfNums_size, fixZ_len]
  · obtain ⟨hn, hs, hv⟩ := valB_4 h
    obtain ⟨n, hn'⟩ : ∃ n : Nat, p.n = (n : Int) := ⟨p.n.toNat, by omega⟩
    show tkNum (strOfNums (numZ p.n.toNat) ++ y) = ⟨p.n, p.s, p.v, ((strOfNums (numZ p.n.toNat)).size : Int), 0⟩
    rw [hs, hv, hn', Int.toNat_natCast]
    unfold tkNum
    rw [num_back (by omega) y]
  · obtain ⟨hn, hs, hv⟩ := valB_5 h
    show tkLong true ((strOfNums (fixZ 2 p.s.size) ++ p.s) ++ y) = ⟨p.n, p.s, p.v, ((strOfNums (fixZ 2 p.s.size) ++ p.s).size : Int), 0⟩
    unfold tkLong
    rw [tl_back true p.s y (text_sz hs) (fun _ => hs), hn, hv]
  · obtain ⟨hn, hs, hv⟩ := valB_6 h
    show tkLong false ((strOfNums (fixZ 2 p.s.size) ++ p.s) ++ y) = ⟨p.n, p.s, p.v, ((strOfNums (fixZ 2 p.s.size) ++ p.s).size : Int), 0⟩
    unfold tkLong
    rw [tl_back false p.s y (of_decide_eq_true hs) (fun e => by cases e), hn, hv]
  · obtain ⟨hn, hs, hv⟩ := valB_7 h
    rw [tk_7, str_7]
    have e1 := tl_back true p.s ((strOfNums (fixZ 2 p.v.size) ++ p.v) ++ y) (text_sz hs) (fun _ => hs)
    have e2 := tl_back true p.v y (text_sz hv) (fun _ => hv)
    rw [ByteArray.append_assoc]
    obtain ⟨X, hX⟩ : ∃ X, strOfNums (fixZ 2 p.s.size) ++ p.s = X := ⟨_, rfl⟩
    obtain ⟨Y, hY⟩ : ∃ Y, (strOfNums (fixZ 2 p.v.size) ++ p.v) = Y := ⟨_, rfl⟩
    rw [hX, hY] at e1
    rw [hY] at e2
    rw [hX, hY]
    have e3 : tl true ((X ++ (Y ++ y)).extract (tl true (X ++ (Y ++ y))).2.1.toNat (X ++ (Y ++ y)).size) = (p.v, (Y.size : Int), 0) := by
      rw [e1, Int.toNat_natCast, ext_right]
      exact e2
    rw [two_good (by rw [e1]) (by rw [e3]), e3, e1, hn, ByteArray.size_append]
    rfl
/-- One property. -/
theorem id_byte {id : Int} (h : 1 ≤ id ∧ id ≤ 42) (y : ByteArray) : idOf (strOfNums [id] ++ y) = id ∧ (strOfNums [id] ++ y).extract 1 (strOfNums [id] ++ y).size = y := by
  obtain ⟨n, rfl⟩ : ∃ n : Nat, id = (n : Int) := ⟨id.toNat, by omega⟩
  have hz : (strOfNums [(n : Int)]).size = 1 := by rw [strOfNums_size]; rfl
  refine ⟨?_, ?_⟩
  · unfold idOf
    rw [data_add, strOf_data]
    show (((UInt8.ofNat ((n : Int).toNat)).toNat : Nat) : Int) = _
    rw [Int.toNat_natCast, u8_ofNat (by omega)]
  · have := ext_right (strOfNums [(n : Int)]) y
    rw [hz] at this
    exact this
theorem tone_back {p : P} (y : ByteArray) (hk : kindZ p.id ≠ 0) (h : valB (kindZ p.id) p = true) : tone (oneStr p ++ y) = (p, ((oneStr p).size : Int), 0) := by
  have hr := kind_range p.id
  obtain ⟨i1, i2⟩ := id_byte (kind_id hk) (valStr (kindZ p.id) p ++ y)
  have e : oneStr p ++ y = strOfNums [p.id] ++ (valStr (kindZ p.id) p ++ y) := by unfold oneStr; rw [ByteArray.append_assoc]
  have g := tk_back y hr.1 hr.2 hk h
  unfold Gave at g
  rw [e, tone_good (by rw [i1]; exact hk) (by rw [i1, i2, g]), i1, i2, g]
  have hz : (oneStr p).size = 1 + (valStr (kindZ p.id) p).size := by unfold oneStr; rw [ByteArray.size_append, strOfNums_size]; rfl
  rw [hz]
  show (p, 1 + ((valStr (kindZ p.id) p).size : Int), (0 : Int)) = _
  rw [Int.natCast_add]
  rfl
end Go.Proofs.Ythjlbdplhhgcpaa.Prp
