/- Plain facts on properties: what is written is taken back, and what is taken is written again. No run of a program is in this file. -/
import Derived.Test.YtdbbcfohjkgdcaaGreatL00
import Derived.Test.YtdbbcfohjkgdcaaGreatL06
set_option maxRecDepth 100000
set_option maxHeartbeats 64000000
namespace Go.Proofs.YtdbbcfohjkgdcaaGreat.Prp
open Go.Lib Vbi
theorem tl_sz (t : Bool) (s : ByteArray) : (tl t s).1.size ≤ s.size := by
 by_cases h : (tl t s).2.2 = 0
 ·obtain ⟨m, _, _, _, _, e, _⟩ := tl_took h
  rw [e, ByteArray.size_extract]; omega
 ·rw [(tl_not h).1]; exact Nat.zero_le _
theorem tk_sz (k : Int) (s : ByteArray) : (tk k s).a.size ≤ s.size := by
 have fx : ∀ wd, (tkFix wd s).a.size ≤ s.size := fun wd => by
  rcases fx_cases wd s with ⟨_, e, _, _⟩ | ⟨_, e, _, _⟩ <;> rw [e] <;> exact Nat.zero_le _
 unfold tk
 by_cases h1 : k = 1
 ·rw [if_pos h1]; exact fx 1
 rw [if_neg h1]
 by_cases h2 : k = 2
 ·rw [if_pos h2]; exact fx 2
 rw [if_neg h2]
 by_cases h3 : k = 3
 ·rw [if_pos h3]; exact fx 4
 rw [if_neg h3]
 by_cases h4 : k = 4
 ·rw [if_pos h4]; exact Nat.zero_le _
 rw [if_neg h4]
 by_cases h5 : k = 5
 ·rw [if_pos h5]; exact tl_sz true s
 rw [if_neg h5]
 by_cases h6 : k = 6
 ·rw [if_pos h6]; exact tl_sz false s
 rw [if_neg h6]
 by_cases h : (tl true s).2.2 = 0
 ·by_cases h2 : (tl true (s.extract (tl true s).2.1.toNat s.size)).2.2 = 0
  ·rw [two_good h h2]; exact tl_sz true s
  ·rw [two_bad2 h h2]; exact Nat.zero_le _
 ·rw [two_bad1 h]; exact Nat.zero_le _
theorem ta_err (place : Int) (f : Nat) (l : List P) (s : ByteArray) (h : (ta place f l s).2 ≠ 0) : (ta place f l s).1 = [] := by
 induction f generalizing l s with
 | zero => exact absurd rfl h
 | succ f ih =>
  by_cases h0 : s.size = 0
  ·rw [ta_end h0] at h; exact absurd rfl h
  by_cases he : (tone s).2.2 = 0
  ·cases hm : mayB place l (tone s).1 with
   | false => rw [ta_no h0 he hm]
   | true =>
    by_cases h8 : l.length = 8
    ·rw [ta_full h0 he hm h8]
    ·rw [ta_step h0 he hm h8] at h ⊢
     exact ih _ _ h
  ·rw [ta_bad h0 he]
theorem takeP_cases {place : Int} (s : ByteArray) (hp : placeB place = true) :
  (∃ E, tn s.data.toList = (0, 0, E) ∧ E ≠ 0 ∧ takeP place s = ([], 0, E)) ∨
  (∃ m q : Nat, tn s.data.toList = ((m : Int), (q : Int), 0) ∧ q ≤ s.size ∧ m < 268435456 ∧ s.size < q + m ∧ takeP place s = ([], 0, 7)) ∨
  (∃ (m q : Nat) (E : Int), tn s.data.toList = ((m : Int), (q : Int), 0) ∧ q ≤ s.size ∧ m < 268435456 ∧ q + m ≤ s.size ∧ ta place (s.size + 1) [] (s.extract q (q + m)) = ([], E) ∧ E ≠ 0 ∧ takeP place s = ([], 0, E)) ∨
  (∃ (m q : Nat) (L : List P), tn s.data.toList = ((m : Int), (q : Int), 0) ∧ q ≤ s.size ∧ m < 268435456 ∧ q + m ≤ s.size ∧ ta place (s.size + 1) [] (s.extract q (q + m)) = (L, 0) ∧ takeP place s = (L, (q : Int) + (m : Int), 0)) := by
 unfold takeP
 rw [if_neg (by rw [hp]; decide)]
 rcases num_wrote s with ⟨E, e, hE⟩ | ⟨m, q, e, hm, hq, _⟩
 ·exact .inl ⟨E, e, hE, by rw [e, if_pos hE]⟩
 ·rw [e, if_neg (fun x => x rfl)]
  have e1 : ((q : Int)).toNat = q := Int.toNat_natCast q
  have e2 : ((q : Int) + (m : Int)).toNat = q + m := by omega
  by_cases h7 : s.size < q + m
  ·exact .inr (.inl ⟨m, q, rfl, hq, hm, h7, by rw [if_pos (by show (s.size : Int) - (q : Int) < (m : Int); omega)]⟩)
  ·rw [if_neg (by show ¬ (s.size : Int) - (q : Int) < (m : Int); omega)]
   by_cases hE : (ta place (s.size + 1) [] (s.extract q (q + m))).2 = 0
   ·refine .inr (.inr (.inr ⟨m, q, (ta place (s.size + 1) [] (s.extract q (q + m))).1, rfl, hq, hm, by omega, by rw [← hE], ?_⟩))
    show (if (ta place (s.size + 1) [] (s.extract (q : Int).toNat ((q : Int) + (m : Int)).toNat)).2 ≠ 0 then _ else _) = _
    rw [e1, e2, if_neg (fun x => x hE)]
   ·refine .inr (.inr (.inl ⟨m, q, (ta place (s.size + 1) [] (s.extract q (q + m))).2, rfl, hq, hm, by omega, Prod.ext (ta_err _ _ _ _ hE) rfl, hE, ?_⟩))
    show (if (ta place (s.size + 1) [] (s.extract (q : Int).toNat ((q : Int) + (m : Int)).toNat)).2 ≠ 0 then _ else _) = _
    rw [e1, e2, if_pos hE]
theorem takeP_place {place : Int} (s : ByteArray) (hp : placeB place = false) : takeP place s = ([], 0, 1) := by unfold takeP; rw [if_pos hp]
end Go.Proofs.YtdbbcfohjkgdcaaGreat.Prp
namespace Go.Proofs.YtdbbcfohjkgdcaaGreat.Pkt
open Go.Lib Vbi Prp
def endS (p : Pk) (n : Nat) : St → Pk × Int × Int
 | .ok _ => (p, (n : Int), 0)
 | .bad e => (zp 0, 0, e)
theorem endS_eq (p : Pk) (n : Nat) (st : St) : endS p n st = if st.isBad = false then (p, (n : Int), 0) else (zp 0, 0, st.err) := by
 cases st with
 | ok s => exact (if_pos (show (St.ok s).isBad = false from rfl)).symm
 | bad e => exact (if_neg (show ¬ (St.bad e).isBad = false from fun h => by cases h)).symm
theorem err_ok {st : St} (h : st.isBad = false) : st.err = 0 := by
 cases st with
 | ok s => rfl
 | bad e => cases h
theorem err_bad {st : St} (hw : st.Wf) (h : st.isBad = true) : st.err ≠ 0 := by
 cases st with
 | ok s => cases h
 | bad e => exact hw
def TakeBody (s : ByteArray) (m q : Nat) : Prop :=
 (8192 < 1 + q + m ∧ takeS s = (zp 0, 0, 2)) ∨ (1 + q + m ≤ 8192 ∧ s.size < 1 + q + m ∧ takeS s = (zp 0, 0, 7)) ∨
 (1 + q + m ≤ 8192 ∧ 1 + q + m ≤ s.size ∧ ∃ p st, bodyS (idOf s) (s.extract (1 + q) (1 + q + m)) = (p, st) ∧ takeS s = endS p (1 + q + m) st)
theorem takeS_cases (s : ByteArray) : (s.size = 0 ∧ takeS s = (zp 0, 0, 7)) ∨ (s.size ≠ 0 ∧ ∃ E, tn (s.extract 1 s.size).data.toList = (0, 0, E) ∧ E ≠ 0 ∧ takeS s = (zp 0, 0, E)) ∨
  (s.size ≠ 0 ∧ ∃ m q : Nat, tn (s.extract 1 s.size).data.toList = ((m : Int), (q : Int), 0) ∧ 1 + q ≤ s.size ∧ m < 268435456 ∧ strOfNums (numZ m) = (s.extract 1 s.size).extract 0 q ∧ TakeBody s m q) := by
 by_cases h0 : s.size = 0
 ·refine .inl ⟨h0, ?_⟩
  unfold takeS
  rw [if_pos h0]
 ·refine .inr ?_
  rcases num_wrote (s.extract 1 s.size) with ⟨E, ht, hE⟩ | ⟨m, q, ht, hm, hq, hw⟩
  ·refine .inl ⟨h0, E, ht, hE, ?_⟩
   unfold takeS
   rw [if_neg h0, ht, if_pos hE]
  ·rw [ByteArray.size_extract] at hq
   refine .inr ⟨h0, m, q, ht, by omega, hm, hw, ?_⟩
   unfold TakeBody takeS
   rw [if_neg h0, ht, if_neg (not_not_intro rfl)]
   by_cases h8 : 8192 < 1 + q + m
   ·refine .inl ⟨h8, ?_⟩
    show (if (8192 : Int) < 1 + (q : Int) + (m : Int) then _ else _) = _
    rw [if_pos (by omega)]
   ·refine .inr ?_
    by_cases hl : s.size < 1 + q + m
    ·refine .inl ⟨by omega, hl, ?_⟩
     show (if (8192 : Int) < 1 + (q : Int) + (m : Int) then _ else if (s.size : Int) < 1 + (q : Int) + (m : Int) then _ else _) = _
     rw [if_neg (by omega), if_pos (by omega)]
    ·refine .inr ⟨by omega, by omega, ?_⟩
     have e1 : (1 + (q : Int)).toNat = 1 + q := by omega
     have e2 : (1 + (q : Int) + (m : Int)).toNat = 1 + q + m := by omega
     have key : (if (8192 : Int) < 1 + (q : Int) + (m : Int) then (zp 0, (0 : Int), (2 : Int)) else (if (s.size : Int) < 1 + (q : Int) + (m : Int) then (zp 0, 0, 7) else match bodyS (idOf s) (s.extract (1 + (q : Int)).toNat (1 + (q : Int) + (m : Int)).toNat) with | (p, .ok _) => (p, 1 + (q : Int) + (m : Int), 0) | (_, .bad e) => (zp 0, 0, e))) = match bodyS (idOf s) (s.extract (1 + q) (1 + q + m)) with | (p, .ok _) => (p, 1 + (q : Int) + (m : Int), 0) | (_, .bad e) => (zp 0, 0, e) := by
      rw [if_neg (by omega), if_neg (by omega), e1, e2]
     suffices h : ∃ p st, bodyS (idOf s) (s.extract (1 + q) (1 + q + m)) = (p, st) ∧ (match bodyS (idOf s) (s.extract (1 + q) (1 + q + m)) with | (p, .ok _) => (p, 1 + (q : Int) + (m : Int), (0 : Int)) | (_, .bad e) => (zp 0, 0, e)) = endS p (1 + q + m) st by
      obtain ⟨p, st, h1, h2⟩ := h
      exact ⟨p, st, h1, key.trans h2⟩
     obtain ⟨p, st, hb⟩ : ∃ p st, bodyS (idOf s) (s.extract (1 + q) (1 + q + m)) = (p, st) := ⟨_, _, rfl⟩
     rw [hb]
     refine ⟨p, st, rfl, ?_⟩
     cases st with
     | ok s' =>
      have : (1 + (q : Int) + (m : Int)) = ((1 + q + m : Nat) : Int) := by omega
      show (p, 1 + (q : Int) + (m : Int), (0 : Int)) = (p, ((1 + q + m : Nat) : Int), 0)
      rw [this]
     | bad e => rfl
end Go.Proofs.YtdbbcfohjkgdcaaGreat.Pkt
namespace Go.Proofs.YtdbbcfohjkgdcaaGreat.Prp
open Go.Lib Vbi
theorem fix1_back {n : Nat} (h : n < 256) (t : List UInt8) : fixVal ((bytesOf [(n : Int)] ++ t).take 1) = n := by
 unfold bytesOf
 simp only [List.map_cons, List.map_nil, Int.toNat_natCast, List.cons_append, List.nil_append, List.take_succ_cons, List.take_zero]
 unfold fixVal
 rw [fixGo_cons, u8_ofNat h]
 show 0 * 256 + n = n
 omega
theorem fix4_data {n : Nat} (h : n < 4294967296) : bytesOf (fixZ 4 n) = [UInt8.ofNat (n / 16777216), UInt8.ofNat (n / 65536 % 256), UInt8.ofNat (n / 256 % 256), UInt8.ofNat (n % 256)] := by
 unfold bytesOf fixZ fixZ fixZ fixZ fixZ
 simp only [List.map_cons, List.map_nil, Int.toNat_natCast, Nat.reducePow, Nat.pow_one, Nat.pow_zero, Nat.div_one]
 rw [Nat.mod_eq_of_lt (show n / 16777216 < 256 by omega)]
theorem fix4_back {n : Nat} (h : n < 4294967296) (t : List UInt8) : fixVal ((bytesOf (fixZ 4 n) ++ t).take 4) = n := by
 rw [fix4_data h]
 simp only [List.cons_append, List.nil_append, List.take_succ_cons, List.take_zero]
 unfold fixVal
 rw [fixGo_cons, fixGo_cons, fixGo_cons, fixGo_cons, u8_ofNat (by omega), u8_ofNat (by omega), u8_ofNat (by omega), u8_ofNat (by omega)]
 show (((0 * 256 + n / 16777216) * 256 + n / 65536 % 256) * 256 + n / 256 % 256) * 256 + n % 256 = n
 omega
def Gave (k : Int) (p : P) (t : Tk) : Prop := t = ⟨p.n, p.s, p.v, ((valStr k p).size : Int), 0⟩
theorem tkFix_back (wd n : Nat) (S y : ByteArray) (hS : S.size = wd) (h : ∀ t, fixVal ((S.data.toList ++ t).take wd) = n) : tkFix wd (S ++ y) = ⟨(n : Int), ⟨#[]⟩, ⟨#[]⟩, (wd : Int), 0⟩ := by
 unfold tkFix
 rw [if_neg (by rw [ByteArray.size_append]; omega), data_add, h]
theorem tl_back (t : Bool) (s y : ByteArray) (hs : s.size ≤ 1024) (ht : t = true → textB s = true) : tl t ((strOfNums (fixZ 2 s.size) ++ s) ++ y) = (s, ((strOfNums (fixZ 2 s.size) ++ s).size : Int), 0) := by
 refine tl_good (bin_back s y hs) ?_
 cases t with
 | false => rfl
 | true =>
  have := ht rfl
  unfold textB at this
  have h2 := of_decide_eq_true this
  unfold tlErr
  rw [if_pos rfl]
  exact h2
theorem valB_1 {p : P} (h : valB 1 p = true) : (p.n = 0 ∨ p.n = 1) ∧ p.s = ⟨#[]⟩ ∧ p.v = ⟨#[]⟩ := of_decide_eq_true h
theorem valB_2 {p : P} (h : valB 2 p = true) : (0 ≤ p.n ∧ p.n < 65536) ∧ p.s = ⟨#[]⟩ ∧ p.v = ⟨#[]⟩ := of_decide_eq_true h
theorem valB_3 {p : P} (h : valB 3 p = true) : (0 ≤ p.n ∧ p.n < 4294967296) ∧ p.s = ⟨#[]⟩ ∧ p.v = ⟨#[]⟩ := of_decide_eq_true h
theorem valB_4 {p : P} (h : valB 4 p = true) : (0 ≤ p.n ∧ p.n < 268435456) ∧ p.s = ⟨#[]⟩ ∧ p.v = ⟨#[]⟩ := of_decide_eq_true h
theorem valB_5 {p : P} (h : valB 5 p = true) : p.n = 0 ∧ textB p.s = true ∧ p.v = ⟨#[]⟩ := of_decide_eq_true h
theorem valB_6 {p : P} (h : valB 6 p = true) : p.n = 0 ∧ binB p.s = true ∧ p.v = ⟨#[]⟩ := of_decide_eq_true h
theorem valB_7 {p : P} (h : valB 7 p = true) : p.n = 0 ∧ textB p.s = true ∧ textB p.v = true := of_decide_eq_true h
theorem ext_right (a b : ByteArray) : (a ++ b).extract a.size (a ++ b).size = b := by
 apply bytes_ext
 rw [Lib.extract_data, data_add, ByteArray.size_append, Lib.size_eq a, List.drop_left, List.take_of_length_le (by rw [← Lib.size_eq b]; omega)]
theorem str_7 (p : P) : valStr 7 p = (strOfNums (fixZ 2 p.s.size) ++ p.s) ++ (strOfNums (fixZ 2 p.v.size) ++ p.v) := by
 unfold valStr
 rw [if_neg (by decide), if_neg (by decide), if_neg (by decide), if_neg (by decide), if_neg (by decide)]
theorem tk_7 (s : ByteArray) : tk 7 s = tkTwo s := by
 unfold tk
 rw [if_neg (by decide), if_neg (by decide), if_neg (by decide), if_neg (by decide), if_neg (by decide), if_neg (by decide)]
theorem tk_back {k : Int} {p : P} (y : ByteArray) (h0 : 0 ≤ k) (h7 : k ≤ 7) (hk : k ≠ 0) (h : valB k p = true) : Gave k p (tk k (valStr k p ++ y)) := by
 unfold Gave
 rcases kind_seven h0 h7 hk with rfl | rfl | rfl | rfl | rfl | rfl | rfl
 ·obtain ⟨hn, hs, hv⟩ := valB_1 h
  obtain ⟨n, hn'⟩ : ∃ n : Nat, p.n = (n : Int) := ⟨p.n.toNat, by omega⟩
  show tkFix 1 (strOfNums [p.n] ++ y) = ⟨p.n, p.s, p.v, ((strOfNums [p.n]).size : Int), 0⟩
  rw [hs, hv, hn', tkFix_back 1 n _ y (by rw [strOfNums_size]; rfl) (fun t => by rw [strOf_data]; exact fix1_back (by omega) t), strOfNums_size]
  rfl
 ·obtain ⟨hn, hs, hv⟩ := valB_2 h
  obtain ⟨n, hn'⟩ : ∃ n : Nat, p.n = (n : Int) := ⟨p.n.toNat, by omega⟩
  show tkFix 2 (strOfNums (fixZ 2 p.n.toNat) ++ y) = ⟨p.n, p.s, p.v, ((strOfNums (fixZ 2 p.n.toNat)).size : Int), 0⟩
  rw [hs, hv, hn', Int.toNat_natCast, tkFix_back 2 n _ y (by rw [strOfNums_size, fixZ_len]) (fun t => by rw [strOf_data]; exact fix2_back (by omega) t), strOfNums_size, fixZ_len]
 ·obtain ⟨hn, hs, hv⟩ := valB_3 h
  obtain ⟨n, hn'⟩ : ∃ n : Nat, p.n = (n : Int) := ⟨p.n.toNat, by omega⟩
  show tkFix 4 (strOfNums (fixZ 4 p.n.toNat) ++ y) = ⟨p.n, p.s, p.v, ((strOfNums (fixZ 4 p.n.toNat)).size : Int), 0⟩
  rw [hs, hv, hn', Int.toNat_natCast, tkFix_back 4 n _ y (by rw [strOfNums_size, fixZ_len]) (fun t => by rw [strOf_data]; exact fix4_back (by omega) t), strOfNums_size, fixZ_len]
 ·obtain ⟨hn, hs, hv⟩ := valB_4 h
  obtain ⟨n, hn'⟩ : ∃ n : Nat, p.n = (n : Int) := ⟨p.n.toNat, by omega⟩
  show tkNum (strOfNums (numZ p.n.toNat) ++ y) = ⟨p.n, p.s, p.v, ((strOfNums (numZ p.n.toNat)).size : Int), 0⟩
  rw [hs, hv, hn', Int.toNat_natCast]
  unfold tkNum
  rw [num_back (by omega) y]
 ·obtain ⟨hn, hs, hv⟩ := valB_5 h
  show tkLong true ((strOfNums (fixZ 2 p.s.size) ++ p.s) ++ y) = ⟨p.n, p.s, p.v, ((strOfNums (fixZ 2 p.s.size) ++ p.s).size : Int), 0⟩
  unfold tkLong
  rw [tl_back true p.s y (text_sz hs) (fun _ => hs), hn, hv]
 ·obtain ⟨hn, hs, hv⟩ := valB_6 h
  show tkLong false ((strOfNums (fixZ 2 p.s.size) ++ p.s) ++ y) = ⟨p.n, p.s, p.v, ((strOfNums (fixZ 2 p.s.size) ++ p.s).size : Int), 0⟩
  unfold tkLong
  rw [tl_back false p.s y (of_decide_eq_true hs) (fun e => by cases e), hn, hv]
 ·obtain ⟨hn, hs, hv⟩ := valB_7 h
  rw [tk_7, str_7]
  have e1 := tl_back true p.s ((strOfNums (fixZ 2 p.v.size) ++ p.v) ++ y) (text_sz hs) (fun _ => hs)
  have e2 := tl_back true p.v y (text_sz hv) (fun _ => hv)
  rw [ByteArray.append_assoc]
  obtain ⟨X, hX⟩ : ∃ X, strOfNums (fixZ 2 p.s.size) ++ p.s = X := ⟨_, rfl⟩
  obtain ⟨Y, hY⟩ : ∃ Y, (strOfNums (fixZ 2 p.v.size) ++ p.v) = Y := ⟨_, rfl⟩
  rw [hX, hY] at e1
  rw [hY] at e2
  rw [hX, hY]
  have e3 : tl true ((X ++ (Y ++ y)).extract (tl true (X ++ (Y ++ y))).2.1.toNat (X ++ (Y ++ y)).size) = (p.v, (Y.size : Int), 0) := by
   rw [e1, Int.toNat_natCast, ext_right]
   exact e2
  rw [two_good (by rw [e1]) (by rw [e3]), e3, e1, hn, ByteArray.size_append]
  rfl
theorem id_byte {id : Int} (h : 1 ≤ id ∧ id ≤ 42) (y : ByteArray) : idOf (strOfNums [id] ++ y) = id ∧ (strOfNums [id] ++ y).extract 1 (strOfNums [id] ++ y).size = y := by
 obtain ⟨n, rfl⟩ : ∃ n : Nat, id = (n : Int) := ⟨id.toNat, by omega⟩
 have hz : (strOfNums [(n : Int)]).size = 1 := by rw [strOfNums_size]; rfl
 refine ⟨?_, ?_⟩
 ·unfold idOf
  rw [data_add, strOf_data]
  show (((UInt8.ofNat ((n : Int).toNat)).toNat : Nat) : Int) = _
  rw [Int.toNat_natCast, u8_ofNat (by omega)]
 ·have := ext_right (strOfNums [(n : Int)]) y
  rw [hz] at this
  exact this
theorem tone_back {p : P} (y : ByteArray) (hk : kindZ p.id ≠ 0) (h : valB (kindZ p.id) p = true) : tone (oneStr p ++ y) = (p, ((oneStr p).size : Int), 0) := by
 have hr := kind_range p.id
 obtain ⟨i1, i2⟩ := id_byte (kind_id hk) (valStr (kindZ p.id) p ++ y)
 have e : oneStr p ++ y = strOfNums [p.id] ++ (valStr (kindZ p.id) p ++ y) := by unfold oneStr; rw [ByteArray.append_assoc]
 have g := tk_back y hr.1 hr.2 hk h
 unfold Gave at g
 rw [e, tone_good (by rw [i1]; exact hk) (by rw [i1, i2, g]), i1, i2, g]
 have hz : (oneStr p).size = 1 + (valStr (kindZ p.id) p).size := by unfold oneStr; rw [ByteArray.size_append, strOfNums_size]; rfl
 rw [hz]
 show (p, 1 + ((valStr (kindZ p.id) p).size : Int), (0 : Int)) = _
 rw [Int.natCast_add]
 rfl
end Go.Proofs.YtdbbcfohjkgdcaaGreat.Prp
