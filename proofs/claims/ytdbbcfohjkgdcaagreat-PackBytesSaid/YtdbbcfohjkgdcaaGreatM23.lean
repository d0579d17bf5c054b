/- Plain facts on packets: what is written is taken: a Publish, a Connect; whole packets. No run of a program is in this file. -/
import Derived.Test.YtdbbcfohjkgdcaaGreatM00
import Derived.Test.YtdbbcfohjkgdcaaGreatM10
set_option maxRecDepth 100000
set_option maxHeartbeats 64000000
namespace Go.Proofs.YtdbbcfohjkgdcaaGreat.Prp
open Go.Lib Vbi
theorem fix1_back {n : Nat} (h : n < 256) (t : List UInt8) : fixVal ((bytesOf [(n : Int)] ++ t).take 1) = n := by
 unfold bytesOf
 simp only [List.map_cons, List.map_nil, Int.toNat_natCast, List.cons_append, List.nil_append, List.take_succ_cons, List.take_zero]
 unfold fixVal
 rw [fixGo_cons, u8_ofNat h]
 show 0 * 256 + n = n
 omega
theorem fix4_data {n : Nat} (h : n < 4294967296) : bytesOf (fixZ 4 n) = [UInt8.ofNat (n / 16777216), UInt8.ofNat (n / 65536 % 256), UInt8.ofNat (n / 256 % 256), UInt8.ofNat (n % 256)] := by
 unfold bytesOf fixZ fixZ fixZ fixZ fixZ
 simp only [List.map_cons, List.map_nil, Int.toNat_natCast, Nat.reducePow, Nat.pow_one, Nat.pow_zero, Nat.div_one]
 rw [Nat.mod_eq_of_lt (show n / 16777216 < 256 by omega)]
theorem fix4_back {n : Nat} (h : n < 4294967296) (t : List UInt8) : fixVal ((bytesOf (fixZ 4 n) ++ t).take 4) = n := by
 rw [fix4_data h]
 simp only [List.cons_append, List.nil_append, List.take_succ_cons, List.take_zero]
 unfold fixVal
 rw [fixGo_cons, fixGo_cons, fixGo_cons, fixGo_cons, u8_ofNat (by omega), u8_ofNat (by omega), u8_ofNat (by omega), u8_ofNat (by omega)]
 show (((0 * 256 + n / 16777216) * 256 + n / 65536 % 256) * 256 + n / 256 % 256) * 256 + n % 256 = n
 omega
def Gave (k : Int) (p : P) (t : Tk) : Prop := t = ⟨p.n, p.s, p.v, ((valStr k p).size : Int), 0⟩
theorem tkFix_back (wd n : Nat) (S y : ByteArray) (hS : S.size = wd) (h : ∀ t, fixVal ((S.data.toList ++ t).take wd) = n) : tkFix wd (S ++ y) = ⟨(n : Int), ⟨#[]⟩, ⟨#[]⟩, (wd : Int), 0⟩ := by
 unfold tkFix
 rw [if_neg (by rw [ByteArray.size_append]; omega), data_add, h]
theorem tl_back (t : Bool) (s y : ByteArray) (hs : s.size ≤ 1024) (ht : t = true → textB s = true) : tl t ((strOfNums (fixZ 2 s.size) ++ s) ++ y) = (s, ((strOfNums (fixZ 2 s.size) ++ s).size : Int), 0) := by
 refine tl_good (bin_back s y hs) ?_
 cases t with
 | false => rfl
 | true =>
  have := ht rfl
  unfold textB at this
  have h2 := of_decide_eq_true this
  unfold tlErr
  rw [if_pos rfl]
  exact h2
theorem valB_1 {p : P} (h : valB 1 p = true) : (p.n = 0 ∨ p.n = 1) ∧ p.s = ⟨#[]⟩ ∧ p.v = ⟨#[]⟩ := of_decide_eq_true h
theorem valB_2 {p : P} (h : valB 2 p = true) : (0 ≤ p.n ∧ p.n < 65536) ∧ p.s = ⟨#[]⟩ ∧ p.v = ⟨#[]⟩ := of_decide_eq_true h
theorem valB_3 {p : P} (h : valB 3 p = true) : (0 ≤ p.n ∧ p.n < 4294967296) ∧ p.s = ⟨#[]⟩ ∧ p.v = ⟨#[]⟩ := of_decide_eq_true h
theorem valB_4 {p : P} (h : valB 4 p = true) : (0 ≤ p.n ∧ p.n < 268435456) ∧ p.s = ⟨#[]⟩ ∧ p.v = ⟨#[]⟩ := of_decide_eq_true h
theorem valB_5 {p : P} (h : valB 5 p = true) : p.n = 0 ∧ textB p.s = true ∧ p.v = ⟨#[]⟩ := of_decide_eq_true h
theorem valB_6 {p : P} (h : valB 6 p = true) : p.n = 0 ∧ binB p.s = true ∧ p.v = ⟨#[]⟩ := of_decide_eq_true h
theorem valB_7 {p : P} (h : valB 7 p = true) : p.n = 0 ∧ textB p.s = true ∧ textB p.v = true := of_decide_eq_true h
theorem ext_right (a b : ByteArray) : (a ++ b).extract a.size (a ++ b).size = b := by
 apply bytes_ext
 rw [Lib.extract_data, data_add, ByteArray.size_append, Lib.size_eq a, List.drop_left, List.take_of_length_le (by rw [← Lib.size_eq b]; omega)]
theorem str_7 (p : P) : valStr 7 p = (strOfNums (fixZ 2 p.s.size) ++ p.s) ++ (strOfNums (fixZ 2 p.v.size) ++ p.v) := by
 unfold valStr
 rw [if_neg (by decide), if_neg (by decide), if_neg (by decide), if_neg (by decide), if_neg (by decide)]
theorem tk_7 (s : ByteArray) : tk 7 s = tkTwo s := by
 unfold tk
 rw [if_neg (by decide), if_neg (by decide), if_neg (by decide), if_neg (by decide), if_neg (by decide), if_neg (by decide)]
theorem tk_back {k : Int} {p : P} (y : ByteArray) (h0 : 0 ≤ k) (h7 : k ≤ 7) (hk : k ≠ 0) (h : valB k p = true) : Gave k p (tk k (valStr k p ++ y)) := by
 unfold Gave
 rcases kind_seven h0 h7 hk with rfl | rfl | rfl | rfl | rfl | rfl | rfl
 ·obtain ⟨hn, hs, hv⟩ := valB_1 h
  obtain ⟨n, hn'⟩ : ∃ n : Nat, p.n = (n : Int) := ⟨p.n.toNat, by omega⟩
  show tkFix 1 (strOfNums [p.n] ++ y) = ⟨p.n, p.s, p.v, ((strOfNums [p.n]).size : Int), 0⟩
  rw [hs, hv, hn', tkFix_back 1 n _ y (by rw [strOfNums_size]; rfl) (fun t => by rw [strOf_data]; exact fix1_back (by omega) t), strOfNums_size]
  rfl
 ·obtain ⟨hn, hs, hv⟩ := valB_2 h
  obtain ⟨n, hn'⟩ : ∃ n : Nat, p.n = (n : Int) := ⟨p.n.toNat, by omega⟩
  show tkFix 2 (strOfNums (fixZ 2 p.n.toNat) ++ y) = ⟨p.n, p.s, p.v, ((strOfNums (fixZ 2 p.n.toNat)).size : Int), 0⟩
  rw [hs, hv, hn', Int.toNat_natCast, tkFix_back 2 n _ y (by rw [strOfNums_size, fixZ_len]) (fun t => by rw [strOf_data]; exact fix2_back (by omega) t), strOfNums_size, fixZ_len]
 ·obtain ⟨hn, hs, hv⟩ := valB_3 h
  obtain ⟨n, hn'⟩ : ∃ n : Nat, p.n = (n : Int) := ⟨p.n.toNat, by omega⟩
  show tkFix 4 (strOfNums (fixZ 4 p.n.toNat) ++ y) = ⟨p.n, p.s, p.v, ((strOfNums (fixZ 4 p.n.toNat)).size : Int), 0⟩
  rw [hs, hv, hn', Int.toNat_natCast, tkFix_back 4 n _ y (by rw [strOfNums_size, fixZ_len]) (fun t => by rw [strOf_data]; exact fix4_back (by omega) t), strOfNums_size, fixZ_len]
 ·obtain ⟨hn, hs, hv⟩ := valB_4 h
  obtain ⟨n, hn'⟩ : ∃ n : Nat, p.n = (n : Int) := ⟨p.n.toNat, by omega⟩
  show tkNum (strOfNums (numZ p.n.toNat) ++ y) = ⟨p.n, p.s, p.v, ((strOfNums (numZ p.n.toNat)).size : Int), 0⟩
  rw [hs, hv, hn', Int.toNat_natCast]
  unfold tkNum
  rw [num_back (by omega) y]
 ·obtain ⟨hn, hs, hv⟩ := valB_5 h
  show tkLong true ((strOfNums (fixZ 2 p.s.size) ++ p.s) ++ y) = ⟨p.n, p.s, p.v, ((strOfNums (fixZ 2 p.s.size) ++ p.s).size : Int), 0⟩
  unfold tkLong
  rw [tl_back true p.s y (text_sz hs) (fun _ => hs), hn, hv]
 ·obtain ⟨hn, hs, hv⟩ := valB_6 h
  show tkLong false ((strOfNums (fixZ 2 p.s.size) ++ p.s) ++ y) = ⟨p.n, p.s, p.v, ((strOfNums (fixZ 2 p.s.size) ++ p.s).size : Int), 0⟩
  unfold tkLong
  rw [tl_back false p.s y (of_decide_eq_true hs) (fun e => by cases e), hn, hv]
 ·obtain ⟨hn, hs, hv⟩ := valB_7 h
  rw [tk_7, str_7]
  have e1 := tl_back true p.s ((strOfNums (fixZ 2 p.v.size) ++ p.v) ++ y) (text_sz hs) (fun _ => hs)
  have e2 := tl_back true p.v y (text_sz hv) (fun _ => hv)
  rw [ByteArray.append_assoc]
  obtain ⟨X, hX⟩ : ∃ X, strOfNums (fixZ 2 p.s.size) ++ p.s = X := ⟨_, rfl⟩
  obtain ⟨Y, hY⟩ : ∃ Y, (strOfNums (fixZ 2 p.v.size) ++ p.v) = Y := ⟨_, rfl⟩
  rw [hX, hY] at e1
  rw [hY] at e2
  rw [hX, hY]
  have e3 : tl true ((X ++ (Y ++ y)).extract (tl true (X ++ (Y ++ y))).2.1.toNat (X ++ (Y ++ y)).size) = (p.v, (Y.size : Int), 0) := by
   rw [e1, Int.toNat_natCast, ext_right]
   exact e2
  rw [two_good (by rw [e1]) (by rw [e3]), e3, e1, hn, ByteArray.size_append]
  rfl
theorem id_byte {id : Int} (h : 1 ≤ id ∧ id ≤ 42) (y : ByteArray) : idOf (strOfNums [id] ++ y) = id ∧ (strOfNums [id] ++ y).extract 1 (strOfNums [id] ++ y).size = y := by
 obtain ⟨n, rfl⟩ : ∃ n : Nat, id = (n : Int) := ⟨id.toNat, by omega⟩
 have hz : (strOfNums [(n : Int)]).size = 1 := by rw [strOfNums_size]; rfl
 refine ⟨?_, ?_⟩
 ·unfold idOf
  rw [data_add, strOf_data]
  show (((UInt8.ofNat ((n : Int).toNat)).toNat : Nat) : Int) = _
  rw [Int.toNat_natCast, u8_ofNat (by omega)]
 ·have := ext_right (strOfNums [(n : Int)]) y
  rw [hz] at this
  exact this
theorem tone_back {p : P} (y : ByteArray) (hk : kindZ p.id ≠ 0) (h : valB (kindZ p.id) p = true) : tone (oneStr p ++ y) = (p, ((oneStr p).size : Int), 0) := by
 have hr := kind_range p.id
 obtain ⟨i1, i2⟩ := id_byte (kind_id hk) (valStr (kindZ p.id) p ++ y)
 have e : oneStr p ++ y = strOfNums [p.id] ++ (valStr (kindZ p.id) p ++ y) := by unfold oneStr; rw [ByteArray.append_assoc]
 have g := tk_back y hr.1 hr.2 hk h
 unfold Gave at g
 rw [e, tone_good (by rw [i1]; exact hk) (by rw [i1, i2, g]), i1, i2, g]
 have hz : (oneStr p).size = 1 + (valStr (kindZ p.id) p).size := by unfold oneStr; rw [ByteArray.size_append, strOfNums_size]; rfl
 rw [hz]
 show (p, 1 + ((valStr (kindZ p.id) p).size : Int), (0 : Int)) = _
 rw [Int.natCast_add]
 rfl
open Go.Lib Vbi
def catStr : List P → ByteArray
 | [] => ⟨#[]⟩
 | p :: t => oneStr p ++ catStr t
theorem empty_add (a : ByteArray) : (⟨#[]⟩ : ByteArray) ++ a = a := by
 apply bytes_ext
 rw [data_add]
 rfl
theorem fold_cat (l : List P) (a : ByteArray) : l.foldl (fun a p => a ++ oneStr p) a = a ++ catStr l := by
 induction l generalizing a with
 | nil =>
  show a = a ++ ⟨#[]⟩
  apply bytes_ext
  rw [data_add]
  exact (List.append_nil _).symm
 | cons p t ih =>
  show t.foldl (fun a p => a ++ oneStr p) (a ++ oneStr p) = a ++ (oneStr p ++ catStr t)
  rw [ih, ByteArray.append_assoc]
theorem rest_cat (l : List P) : restStr l = catStr l := by
 unfold restStr
 rw [fold_cat, empty_add]
theorem one_pos (p : P) : 1 ≤ (oneStr p).size := by
 unfold oneStr
 rw [ByteArray.size_append, strOfNums_size]
 show 1 ≤ 1 + _
 omega
theorem good_kind {place : Int} {a : List P} {p : P} (h : goodB place a p = true) : kindZ p.id ≠ 0 ∧ valB (kindZ p.id) p = true ∧ mayB place a p = true := by
 have h2 := h
 rw [good_may, Bool.and_eq_true] at h2
 unfold goodB at h
 rw [Bool.and_eq_true] at h
 exact ⟨stand_kind h.1, h2.2, h2.1⟩
theorem ta_back (place : Int) (l : List P) : ∀ (f : Nat) (a : List P), goodL place a l = true → a.length + l.length ≤ 8 → (catStr l).size < f → ta place f a (catStr l) = (a ++ l, 0) := by
 induction l with
 | nil =>
  intro f a _ _ hf
  obtain ⟨f, rfl⟩ : ∃ f0, f = f0 + 1 := ⟨f - 1, by omega⟩
  rw [ta_end (by rfl), List.append_nil]
 | cons p t ih =>
  intro f a hg h8 hf
  obtain ⟨f, rfl⟩ : ∃ f0, f = f0 + 1 := ⟨f - 1, by omega⟩
  unfold goodL at hg
  rw [Bool.and_eq_true] at hg
  obtain ⟨hk, hv, hm⟩ := good_kind hg.1
  have ht := tone_back (catStr t) hk hv
  have h1 := one_pos p
  have hsz : (catStr (p :: t)).size = (oneStr p).size + (catStr t).size := by show (oneStr p ++ catStr t).size = _; rw [ByteArray.size_append]
  rw [List.length_cons] at h8
  have e : catStr (p :: t) = oneStr p ++ catStr t := rfl
  rw [ta_step (by omega) (by rw [e, ht]) (by rw [e, ht]; exact hm) (by omega), e, ht, Int.toNat_natCast, ext_right, ih f (a ++ [p]) hg.2 (by rw [List.length_append]; show a.length + 1 + t.length ≤ 8; omega) (by omega), List.append_assoc]
  rfl
theorem cat_size {place : Int} (l : List P) : ∀ a : List P, goodL place a l = true → (catStr l).size ≤ 2053 * l.length := by
 induction l with
 | nil => intro a _; exact Nat.zero_le _
 | cons p t ih =>
  intro a hg
  unfold goodL at hg
  rw [Bool.and_eq_true] at hg
  obtain ⟨hk, hv, _⟩ := good_kind hg.1
  have h1 := one_size p.id p.n p.s p.v hk hv
  have h2 := ih _ hg.2
  show (oneStr p ++ catStr t).size ≤ _
  rw [ByteArray.size_append, List.length_cons]
  have h1 : (oneStr p).size ≤ 2053 := h1
  omega
theorem props_parts {place : Int} {l : List P} (h : propsB place l = true) : placeB place = true ∧ l.length ≤ 8 ∧ goodL place [] l = true := by
 unfold propsB at h
 rw [Bool.and_eq_true, Bool.and_eq_true] at h
 exact ⟨h.1, of_decide_eq_true h.2.1, h.2.2⟩
theorem ext_mid (a b c : ByteArray) : (a ++ (b ++ c)).extract a.size (a.size + b.size) = b := by
 apply bytes_ext
 rw [Lib.extract_data, data_add, data_add, Lib.size_eq a, List.drop_left, Nat.add_sub_cancel_left, Lib.size_eq b, List.take_left]
theorem takeP_back {place : Int} {l : List P} (y : ByteArray) (h : propsB place l = true) : takeP place (propStr l ++ y) = (l, ((propStr l).size : Int), 0) := by
 obtain ⟨hp, h8, hg⟩ := props_parts h
 have hcs := cat_size l [] hg
 unfold propStr
 rw [rest_cat]
 obtain ⟨R, hR⟩ : ∃ R, catStr l = R := ⟨_, rfl⟩
 rw [hR] at hcs ⊢
 have hR28 : R.size < 268435456 := by omega
 obtain ⟨N, hN⟩ : ∃ N, strOfNums (numZ R.size) = N := ⟨_, rfl⟩
 have htn := num_back hR28 (R ++ y)
 rw [hN] at htn
 rw [hN, ByteArray.append_assoc]
 have hsz : (N ++ (R ++ y)).size = N.size + R.size + y.size := by rw [ByteArray.size_append, ByteArray.size_append]; omega
 rcases takeP_cases (N ++ (R ++ y)) hp with ⟨E, e, hE, _⟩ | ⟨m, q, e, hq, hm, h7, _⟩ | ⟨m, q, E, e, hq, hm, h7, hta, hE, _⟩ | ⟨m, q, L, e, hq, hm, h7, hta, er⟩
 ·rw [htn] at e
  injection e with _ e2
  injection e2 with _ e3
  exact absurd e3.symm hE
 ·rw [htn] at e
  injection e with e1 e2
  injection e2 with e2 _
  omega
 ·rw [htn] at e
  injection e with e1 e2
  injection e2 with e2 _
  obtain ⟨rfl, rfl⟩ : R.size = m ∧ N.size = q := by omega
  rw [ext_mid, ← hR, ta_back place l _ [] hg (by simpa using h8) (by rw [hR]; omega)] at hta
  injection hta with _ e4
  exact absurd e4.symm hE
 ·rw [htn] at e
  injection e with e1 e2
  injection e2 with e2 _
  obtain ⟨rfl, rfl⟩ : R.size = m ∧ N.size = q := by omega
  rw [ext_mid, ← hR, ta_back place l _ [] hg (by simpa using h8) (by rw [hR]; omega)] at hta
  injection hta with e4 _
  rw [er, ← e4, ByteArray.size_append, Int.natCast_add]
  rfl
end Go.Proofs.YtdbbcfohjkgdcaaGreat.Prp
namespace Go.Proofs.YtdbbcfohjkgdcaaGreat.Pkt
open Go.Lib Vbi Prp
theorem fix_back (wd n : Nat) (S y : ByteArray) (hS : S.size = wd) (h : ∀ t, fixVal ((S.data.toList ++ t).take wd) = n) : fixR wd (S ++ y) = .ok (n : Int) y := by
 unfold fixR
 have e1 : fixVal ((S ++ y).data.toList.take wd) = n := by rw [data_add]; exact h _
 have e2 : (S ++ y).extract wd (S ++ y).size = y := by rw [← hS]; exact ext_right S y
 rw [if_neg (by rw [ByteArray.size_append]; omega), e1, e2]
theorem octet_back {n : Int} (h : 0 ≤ n ∧ n ≤ 255) (y : ByteArray) : octetR (strOfNums [n] ++ y) = .ok n y := by
 obtain ⟨m, rfl⟩ : ∃ m : Nat, n = (m : Int) := ⟨n.toNat, by omega⟩
 exact fix_back 1 m _ y (by rw [strOfNums_size]; rfl) (fun t => by rw [strOf_data]; exact fix1_back (by omega) t)
theorem short_back {n : Int} (h : 0 ≤ n ∧ n < 65536) (y : ByteArray) : shortR (fxStr n ++ y) = .ok n y := by
 obtain ⟨m, rfl⟩ : ∃ m : Nat, n = (m : Int) := ⟨n.toNat, by omega⟩
 exact fix_back 2 m _ y (fix2_size _) (fun t => by show fixVal ((((strOfNums (fixZ 2 ((m : Int)).toNat)).data.toList) ++ t).take 2) = m; rw [strOf_data, Int.toNat_natCast]; exact fix2_back (by omega) t)
theorem number_of {s y : ByteArray} {n : Int} (h : shortR s = .ok n y) (hn : n ≠ 0) : numberR s = .ok n y := by
 unfold shortR fixR at h
 unfold numberR
 by_cases c : s.size < 2
 ·rw [if_pos c] at h; cases h
 ·rw [if_neg c] at h
  injection h with h1 h2
  rw [if_neg c, if_neg (by omega), h1, h2]
theorem number_back {n : Int} (h : 1 ≤ n ∧ n < 65536) (y : ByteArray) : numberR (fxStr n ++ y) = .ok n y := number_of (short_back ⟨by omega, h.2⟩ y) (by omega)
theorem long_back (t : Bool) (s y : ByteArray) (hs : s.size ≤ 1024) (ht : t = true → textB s = true) : longR t (lgStr s ++ y) = .ok s y := by
 unfold longR lgStr
 rw [tl_back t s y hs ht, if_pos rfl]
 show Res.ok s (((strOfNums (fixZ 2 s.size) ++ s) ++ y).extract (((strOfNums (fixZ 2 s.size) ++ s).size : Int)).toNat _) = _
 rw [Int.toNat_natCast, ext_right]
theorem words_back {s : ByteArray} (h : textB s = true) (y : ByteArray) : longR true (lgStr s ++ y) = .ok s y := long_back true s y (text_sz h) (fun _ => h)
theorem sized_back {s : ByteArray} (h : binB s = true) (y : ByteArray) : longR false (lgStr s ++ y) = .ok s y := long_back false s y (by unfold binB at h; exact of_decide_eq_true h) (fun e => by cases e)
theorem props_back {place : Int} {l : List P} (h : propsB place l = true) (y : ByteArray) : propsR place (propStr l ++ y) = .ok l y := by
 unfold propsR
 rw [takeP_back y h, if_pos rfl]
 show Res.ok l ((propStr l ++ y).extract (((propStr l).size : Int)).toNat _) = _
 rw [Int.toNat_natCast, ext_right]
theorem lg_pos (s y : ByteArray) : (lgStr s ++ y).size ≠ 0 := by
 have : (lgStr s).size = 2 + s.size := by unfold lgStr; rw [ByteArray.size_append, fix2_size]
 rw [ByteArray.size_append]
 omega
theorem numZ_pos (n : Nat) : 1 ≤ (numZ n).length := by
 by_cases h : n < 128
 ·rw [numZ_last h]; simp
 ·rw [numZ_more (by omega)]; simp
theorem oc_pos (n : Int) (y : ByteArray) : (strOfNums [n] ++ y).size ≠ 0 := by rw [ByteArray.size_append, strOfNums_size]; simp
theorem pr_pos (l : List P) (y : ByteArray) : (propStr l ++ y).size ≠ 0 := by
 unfold propStr
 rw [ByteArray.size_append, ByteArray.size_append, strOfNums_size]
 have := numZ_pos (restStr l).size
 omega
theorem of_no {b : Bool} {Q : Prop} [Decidable Q] (h : (!b || decide Q) = true) (hn : ¬ Q) : b = false := by
 cases b with
 | false => rfl
 | true => simp at h; exact absurd h hn
theorem E_no {s : ByteArray} (h : (!E s) = false) : s = ⟨#[]⟩ := by
 unfold E at h
 simpa using h
theorem or_no {a b : Bool} (h : (a || b) = false) : a = false ∧ b = false := by cases a <;> cases b <;> simp_all
theorem not_w {w : Wl} (h : wFilled w = false) : w = zw := by
 unfold wFilled at h
 obtain ⟨h1, h⟩ := or_no h
 obtain ⟨h2, h⟩ := or_no h
 obtain ⟨h3, h⟩ := or_no h
 obtain ⟨h4, h⟩ := or_no h
 obtain ⟨h5, h6⟩ := or_no h
 have h2' := of_decide_eq_false h2
 have h6' := of_decide_eq_false h6
 obtain ⟨a, b, c, d, e, f⟩ := w
 have h2'' : b = 0 := Classical.byContradiction h2'
 have h6'' : f = [] := Classical.byContradiction h6'
 have h4' : d = _ := E_no h4
 have h5' : e = _ := E_no h5
 have h1' : a = false := h1
 have h3' : c = false := h3
 subst h1' h2'' h3' h4' h5' h6''
 rfl
theorem not_b1 {p : Pk} (h : b1 p = false) : p.cl = ⟨#[]⟩ ∧ p.clean = false ∧ p.keep = 0 ∧ p.w = zw ∧ p.hu = false ∧ p.u = ⟨#[]⟩ ∧ p.hp = false ∧ p.pw = ⟨#[]⟩ := by
 unfold b1 at h
 obtain ⟨h1, h⟩ := or_no h
 obtain ⟨h2, h⟩ := or_no h
 obtain ⟨h3, h⟩ := or_no h
 obtain ⟨h4, h⟩ := or_no h
 obtain ⟨h5, h⟩ := or_no h
 obtain ⟨h6, h⟩ := or_no h
 obtain ⟨h7, h8⟩ := or_no h
 exact ⟨E_no h1, h2, Classical.byContradiction (of_decide_eq_false h3), not_w h4, h5, E_no h6, h7, E_no h8⟩
theorem not_b3 {p : Pk} (h : b3 p = false) : p.dup = false ∧ p.q = 0 ∧ p.ret = false ∧ p.t = ⟨#[]⟩ ∧ p.b = ⟨#[]⟩ := by
 unfold b3 at h
 obtain ⟨h1, h⟩ := or_no h
 obtain ⟨h2, h⟩ := or_no h
 obtain ⟨h3, h⟩ := or_no h
 obtain ⟨h4, h5⟩ := or_no h
 exact ⟨h1, Classical.byContradiction (of_decide_eq_false h2), h3, E_no h4, E_no h5⟩
structure Fields (p : Pk) : Prop where
 n1 : p.kind ≠ 1 → p.cl = ⟨#[]⟩ ∧ p.clean = false ∧ p.keep = 0 ∧ p.w = zw ∧ p.hu = false ∧ p.u = ⟨#[]⟩ ∧ p.hp = false ∧ p.pw = ⟨#[]⟩
 n2 : p.kind ≠ 2 → p.pre = false
 n3 : p.kind ≠ 3 → p.dup = false ∧ p.q = 0 ∧ p.ret = false ∧ p.t = ⟨#[]⟩ ∧ p.b = ⟨#[]⟩
 n4 : ¬ (p.kind = 3 ∨ p.kind = 4 ∨ p.kind = 5 ∨ p.kind = 6 ∨ p.kind = 7 ∨ p.kind = 8 ∨ p.kind = 10 ∨ p.kind = 9 ∨ p.kind = 11) → p.id = 0
 n5 : ¬ (p.kind = 2 ∨ p.kind = 4 ∨ p.kind = 5 ∨ p.kind = 6 ∨ p.kind = 7 ∨ p.kind = 14 ∨ p.kind = 15) → p.re = 0
 n6 : ¬ (p.kind = 9 ∨ p.kind = 11) → p.cs = []
 n7 : ¬ (p.kind = 8 ∨ p.kind = 10) → p.fs = []
 n8 : (p.kind = 12 ∨ p.kind = 13) → p.ps = []
theorem fields {p : Pk} (h : fieldB p = true) : Fields p := by
 unfold fieldB fieldOf at h
 simp only [Bool.and_eq_true] at h
 obtain ⟨h1, h2, h3, h4, h5, h6, h7, h8⟩ := h
 refine ⟨fun hk => not_b1 (of_no h1 hk), fun hk => of_no h2 hk, fun hk => not_b3 (of_no h3 hk), fun hk => ?_, fun hk => ?_, fun hk => ?_, fun hk => ?_, fun hk => ?_⟩
 ·have := of_no h4 hk; simpa using this
 ·have := of_no h5 hk; simpa using this
 ·have := of_decide_eq_false (of_no h6 hk); exact List.eq_nil_of_length_eq_zero (by omega)
 ·have := of_decide_eq_false (of_no h7 hk); exact List.eq_nil_of_length_eq_zero (by omega)
 ·have := of_decide_eq_false (of_no h8 (by omega)); exact List.eq_nil_of_length_eq_zero (by omega)
theorem ok_octet {n : Int} (h : (Part.octet n).okB = true) : 0 ≤ n ∧ n ≤ 255 := of_decide_eq_true h
theorem ok_short {n : Int} (h : (Part.short n).okB = true) : 0 ≤ n ∧ n < 65536 := of_decide_eq_true h
theorem ok_number {n : Int} (h : (Part.number n).okB = true) : 1 ≤ n ∧ n < 65536 := of_decide_eq_true h
theorem ok_props {k : Int} {l : List P} (h : (Part.props k l).okB = true) : propsB k l = true := h
theorem ok_words {s : ByteArray} (h : (Part.words s).okB = true) : textB s = true := h
theorem ok_sized {s : ByteArray} (h : (Part.sized s).okB = true) : binB s = true := h
theorem ok2 {p q : Part} {l : List Part} (h : allOk (p :: q :: l) = true) : p.okB = true ∧ q.okB = true ∧ allOk l = true := by
 rw [allOk_cons, allOk_cons, Bool.and_eq_true, Bool.and_eq_true] at h; exact h
theorem ok1 {p : Part} {l : List Part} (h : allOk (p :: l) = true) : p.okB = true ∧ allOk l = true := by
 rw [allOk_cons, Bool.and_eq_true] at h; exact h
theorem bit_le (b : Bool) : 0 ≤ bitZ b 1 ∧ bitZ b 1 ≤ 1 := by cases b <;> decide
theorem back_2 {p : Pk} (hk : p.kind = 2) (hf : fieldB p = true) (ho : allOk (partsL p) = true) : partsS (zp 2) (.ok (restP p)) = (p, .ok ⟨#[]⟩) := by
 have F := fields hf
 have e : partsL p = [.octet (bitZ p.pre 1), .octet p.re, .props p.kind p.ps] := by unfold partsL; rw [if_neg (by omega), if_pos hk]
 rw [e] at ho
 obtain ⟨o1, o2, o3⟩ := ok2 ho
 have o3 := (ok1 o3).1
 unfold restP
 rw [e, allStr_cons, allStr_cons, allStr_cons, allStr_nil]
 show ackS (zp 2) _ = _
 unfold ackS
 have r0 : octetR (strOfNums [bitZ p.pre 1] ++ (strOfNums [p.re] ++ (propStr p.ps ++ ⟨#[]⟩))) = _ := octet_back (ok_octet o1) _
 have r1 : octetR (strOfNums [p.re] ++ (propStr p.ps ++ ⟨#[]⟩)) = _ := octet_back (ok_octet o2) _
 have r2 : propsR p.kind (propStr p.ps ++ ⟨#[]⟩) = _ := props_back (ok_props o3) _
 rw [hk] at r2
 simp only [Part.str, run_ok, r0, Res.st, Res.val, (bit_le p.pre).2, decide_true, want_true, r1]
 rw [show (zp 2).kind = 2 from rfl, r2]
 obtain ⟨n1, n2, n3, n4, n5, n6, n7, n8⟩ := F
 have m1 := n1 (by omega)
 have m3 := n3 (by omega)
 have m4 := n4 (by omega)
 have m6 := n6 (by omega)
 have m7 := n7 (by omega)
 clear n1 n2 n3 n4 n5 n6 n7 n8 r0 r1 r2 o1 o2 o3 ho e hf
 obtain ⟨kind, dup, q, ret, id, t, b, re, pre, cs, fs, cl, clean, keep, w, hu, u, hp, pw, ps⟩ := p
 simp only at *
 obtain ⟨rfl, rfl, rfl, rfl, rfl, rfl, rfl, rfl⟩ := m1
 obtain ⟨rfl, rfl, rfl, rfl, rfl⟩ := m3
 subst hk m4 m6 m7
 have : decide (bitZ pre 1 = 1) = pre := by cases pre <;> rfl
 rw [this]
 rfl
open Go.Lib Vbi Prp
theorem more_ok {s : ByteArray} (h : s.size ≠ 0) : (St.ok s).more = true := by unfold St.more; exact decide_eq_true h
theorem reason_back {q p : Pk} (hk : q.kind = p.kind) (h1 : q.re = 0) (h2 : q.ps = []) (ho : allOk (reasonL p) = true) : reasonS q (.ok (allStr (reasonL p))) = ({ q with re := p.re, ps := p.ps }, .ok ⟨#[]⟩) := by
 unfold reasonL at ho ⊢
 by_cases hp : p.ps = []
 ·rw [if_neg (fun h => h hp)] at ho ⊢
  by_cases hr : p.re = 0
  ·rw [if_neg (fun h => h hr), allStr_nil, reasonS_none (by decide), hp, hr, ← h1, ← h2]
  ·rw [if_pos hr] at ho ⊢
   have o1 := ok_octet (ok1 ho).1
   rw [allStr_cons, allStr_nil]
   have r0 : (St.ok ((Part.octet p.re).str ++ ⟨#[]⟩)).run octetR = .ok p.re ⟨#[]⟩ := octet_back o1 _
   show reasonS q (.ok (strOfNums [p.re] ++ ⟨#[]⟩)) = _
   rw [reasonS_one (more_ok (oc_pos p.re ⟨#[]⟩)) r0 rfl, hp, ← h2]
 ·rw [if_pos hp] at ho ⊢
  obtain ⟨o1, o2, _⟩ := ok2 ho
  have o1 := ok_octet o1
  have o2 := ok_props o2
  rw [allStr_cons, allStr_cons, allStr_nil]
  have r0 : (St.ok (strOfNums [p.re] ++ (propStr p.ps ++ ⟨#[]⟩))).run octetR = .ok p.re (propStr p.ps ++ ⟨#[]⟩) := octet_back o1 _
  have r1 : propsR q.kind (propStr p.ps ++ ⟨#[]⟩) = .ok p.ps ⟨#[]⟩ := by rw [hk]; exact props_back o2 _
  obtain ⟨e1, e2⟩ := reasonS_two (p := q) (more_ok (oc_pos p.re (propStr p.ps ++ (⟨#[]⟩ : ByteArray)))) r0 (pr_pos p.ps (⟨#[]⟩ : ByteArray))
  rw [run_ok, r1] at e1 e2
  exact Prod.ext (e2 (by rw [e1]; rfl)) e1
theorem codes_back (m : List Int) : ∀ (f : Nat) (l : List Int), allOk (codeL m) = true → l.length + m.length ≤ 4 → 1 ≤ l.length + m.length → m.length < f → manyR octetR f l (allStr (codeL m)) = .ok (l ++ m) ⟨#[]⟩ := by
 induction m with
 | nil =>
  intro f l _ _ h1 hf
  obtain ⟨f, rfl⟩ : ∃ g, f = g + 1 := ⟨f - 1, by simp at hf; omega⟩
  unfold manyR
  rw [if_pos (show (allStr (codeL [])).size = 0 from rfl), if_neg (by simp at h1; omega), List.append_nil]
  rfl
 | cons c t ih =>
  intro f l ho h4 h1 hf
  simp only [List.length_cons] at h4 h1 hf
  obtain ⟨f, rfl⟩ : ∃ g, f = g + 1 := ⟨f - 1, by omega⟩
  have ho' : allOk (.octet c :: codeL t) = true := ho
  obtain ⟨o1, o2⟩ := ok1 ho'
  have r0 : octetR (strOfNums [c] ++ allStr (codeL t)) = .ok c (allStr (codeL t)) := octet_back (ok_octet o1) _
  have e : allStr (codeL (c :: t)) = strOfNums [c] ++ allStr (codeL t) := allStr_cons _ _
  rw [e]
  conv => lhs; unfold manyR
  rw [if_neg (oc_pos _ _), if_neg (by omega), r0]
  show manyR octetR f (l ++ [c]) (allStr (codeL t)) = _
  rw [ih f (l ++ [c]) o2 (by simp; omega) (by simp; omega) (by omega), List.append_assoc]
  rfl
theorem filterR_of {s s1 s2 t : ByteArray} {n : Int} (r0 : longR true s = .ok t s1) (r1 : octetR s1 = .ok n s2) (h : n % 4 < 3 ∧ n / 16 < 3) : filterR true s = .ok (filOf t n) s2 := by
 have e : filterS true (.ok s) = (filOf t n, .ok s2) := by
  unfold filterS
  simp only [run_ok, r0, Res.st, Res.val, r1, if_true, decide_eq_true h, want_true]
 unfold filterR
 rw [e]
theorem filter_back {f : Fl} (ho : allOk (filterL true [f]) = true) (hm : mayFilB f = true) (y : ByteArray) : filterR true (allStr (filterL true [f]) ++ y) = .ok f y := by
 have e : filterL true [f] = [.words f.t, .octet (filterZ f)] := rfl
 rw [e] at ho ⊢
 obtain ⟨o1, o2, _⟩ := ok2 ho
 have o1 := ok_words o1
 have o2 := ok_octet o2
 unfold mayFilB qosB at hm
 rw [Bool.and_eq_true] at hm
 have q1 := of_decide_eq_true hm.1
 have q2 := of_decide_eq_true hm.2
 rw [allStr_cons, allStr_cons, allStr_nil, ByteArray.append_assoc, ByteArray.append_assoc]
 have r0 : longR true (lgStr f.t ++ (strOfNums [filterZ f] ++ ((⟨#[]⟩ : ByteArray) ++ y))) = .ok f.t _ := words_back o1 _
 have r1 : octetR (strOfNums [filterZ f] ++ ((⟨#[]⟩ : ByteArray) ++ y)) = .ok (filterZ f) _ := octet_back o2 _
 rw [empty_add] at r0 r1 ⊢
 have hn : filterZ f % 4 = f.q ∧ filterZ f / 16 = f.h ∧ decide (filterZ f / 4 % 2 = 1) = f.nl ∧ decide (filterZ f / 8 % 2 = 1) = f.ar := by
  unfold filterZ bitZ
  cases f.nl <;> cases f.ar <;> simp <;> omega
 show filterR true (lgStr f.t ++ (strOfNums [filterZ f] ++ y)) = _
 rw [filterR_of r0 r1 ⟨by omega, by omega⟩]
 show Res.ok (filOf f.t (filterZ f)) y = _
 unfold filOf
 rw [hn.1, hn.2.1, hn.2.2.1, hn.2.2.2]
theorem only_back {f : Fl} (ho : allOk (filterL false [f]) = true) (hm : onlyB f = true) (y : ByteArray) : filterR false (allStr (filterL false [f]) ++ y) = .ok f y := by
 have e : filterL false [f] = [.words f.t] := rfl
 rw [e] at ho ⊢
 have o1 := ok_words (ok1 ho).1
 rw [allStr_cons, allStr_nil, ByteArray.append_assoc, empty_add]
 have r0 : longR true (lgStr f.t ++ y) = .ok f.t y := words_back o1 _
 obtain ⟨t, q, nl, ar, h⟩ := f
 unfold onlyB at hm
 simp only [Bool.and_eq_true, decide_eq_true_eq, Bool.not_eq_true'] at hm
 obtain ⟨rfl, rfl, rfl, rfl⟩ := hm
 unfold filterR filterS
 show (match ((⟨(longR true (lgStr t ++ y)).val ⟨#[]⟩, 0, false, false, 0⟩ : Fl), (longR true (lgStr t ++ y)).st) with
  | (f, .ok s') => Res.ok f s'
  | (_, .bad e) => .bad e) = _
 have r0 : longR true (lgStr t ++ y) = .ok t y := r0
 rw [r0]
 rfl
theorem fil_pos (sub : Bool) (f : Fl) (y : ByteArray) : (allStr (filterL sub [f]) ++ y).size ≠ 0 := by
 cases sub with
 | true =>
  have e : allStr (filterL true [f]) ++ y = lgStr f.t ++ (((Part.octet (filterZ f)).str ++ ⟨#[]⟩) ++ y) := by
   show allStr [.words f.t, .octet (filterZ f)] ++ y = _
   rw [allStr_cons, allStr_cons, allStr_nil, ByteArray.append_assoc]
   rfl
  rw [e]
  exact lg_pos _ _
 | false =>
  have e : allStr (filterL false [f]) ++ y = lgStr f.t ++ (⟨#[]⟩ ++ y) := by
   show allStr [.words f.t] ++ y = _
   rw [allStr_cons, allStr_nil, ByteArray.append_assoc]
   rfl
  rw [e]
  exact lg_pos _ _
theorem filters_back (sub : Bool) (m : List Fl) : ∀ (f : Nat) (l : List Fl), allOk (filterL sub m) = true → (∀ x ∈ m, mayFilB x = true ∧ (sub = true ∨ onlyB x = true)) → l.length + m.length ≤ 4 → 1 ≤ l.length + m.length → m.length < f → manyR (filterR sub) f l (allStr (filterL sub m)) = .ok (l ++ m) ⟨#[]⟩ := by
 induction m with
 | nil =>
  intro f l _ _ _ h1 hf
  obtain ⟨f, rfl⟩ : ∃ g, f = g + 1 := ⟨f - 1, by simp at hf; omega⟩
  unfold manyR
  rw [if_pos (show (allStr (filterL sub [])).size = 0 from rfl), if_neg (by simp at h1; omega), List.append_nil]
  rfl
 | cons c t ih =>
  intro f l ho hm h4 h1 hf
  simp only [List.length_cons] at h4 h1 hf
  obtain ⟨f, rfl⟩ : ∃ g, f = g + 1 := ⟨f - 1, by omega⟩
  have ec : filterL sub (c :: t) = filterL sub [c] ++ filterL sub t := by unfold filterL; rw [List.flatMap_cons, List.flatMap_cons, List.flatMap_nil, List.append_nil]
  rw [ec] at ho ⊢
  rw [allOk_app, Bool.and_eq_true] at ho
  obtain ⟨hc1, hc2⟩ := hm c (List.mem_cons_self ..)
  have r0 : filterR sub (allStr (filterL sub [c]) ++ allStr (filterL sub t)) = .ok c (allStr (filterL sub t)) := by
   cases sub with
   | true => exact filter_back ho.1 hc1 _
   | false => exact only_back ho.1 (hc2.resolve_left (by decide)) _
  rw [allStr_app]
  conv => lhs; unfold manyR
  rw [if_neg (fil_pos _ _ _), if_neg (by omega), r0]
  show manyR (filterR sub) f (l ++ [c]) (allStr (filterL sub t)) = _
  rw [ih f (l ++ [c]) ho.2 (fun x hx => hm x (List.mem_cons_of_mem _ hx)) (by simp; omega) (by simp; omega) (by omega), List.append_assoc]
  rfl
theorem back_12 {p : Pk} (hk : p.kind = 12) (hf : fieldB p = true) : partsS (zp 12) (.ok (restP p)) = (p, .ok ⟨#[]⟩) := by
 have F := fields hf
 have e : restP p = ⟨#[]⟩ := by unfold restP partsL; rw [if_neg (by omega), if_neg (by omega), if_neg (by omega), if_neg (by omega), if_neg (by omega), if_neg (by omega), if_neg (by omega)]; rfl
 rw [e]
 show (zp 12, St.ok _) = _
 obtain ⟨n1, n2, n3, n4, n5, n6, n7, n8⟩ := F
 have m1 := n1 (by omega)
 have m2 := n2 (by omega)
 have m3 := n3 (by omega)
 have m4 := n4 (by omega)
 have m5 := n5 (by omega)
 have m6 := n6 (by omega)
 have m7 := n7 (by omega)
 have m8 := n8 (by omega)
 clear n1 n2 n3 n4 n5 n6 n7 n8 e hf
 obtain ⟨kind, dup, q, ret, id, t, b, re, pre, cs, fs, cl, clean, keep, w, hu, u, hp, pw, ps⟩ := p
 simp only at *
 obtain ⟨rfl, rfl, rfl, rfl, rfl, rfl, rfl, rfl⟩ := m1
 obtain ⟨rfl, rfl, rfl, rfl, rfl⟩ := m3
 subst hk m2 m4 m5 m6 m7 m8
 rfl
theorem back_13 {p : Pk} (hk : p.kind = 13) (hf : fieldB p = true) : partsS (zp 13) (.ok (restP p)) = (p, .ok ⟨#[]⟩) := by
 have F := fields hf
 have e : restP p = ⟨#[]⟩ := by unfold restP partsL; rw [if_neg (by omega), if_neg (by omega), if_neg (by omega), if_neg (by omega), if_neg (by omega), if_neg (by omega), if_neg (by omega)]; rfl
 rw [e]
 show (zp 13, St.ok _) = _
 obtain ⟨n1, n2, n3, n4, n5, n6, n7, n8⟩ := F
 have m1 := n1 (by omega)
 have m2 := n2 (by omega)
 have m3 := n3 (by omega)
 have m4 := n4 (by omega)
 have m5 := n5 (by omega)
 have m6 := n6 (by omega)
 have m7 := n7 (by omega)
 have m8 := n8 (by omega)
 clear n1 n2 n3 n4 n5 n6 n7 n8 e hf
 obtain ⟨kind, dup, q, ret, id, t, b, re, pre, cs, fs, cl, clean, keep, w, hu, u, hp, pw, ps⟩ := p
 simp only at *
 obtain ⟨rfl, rfl, rfl, rfl, rfl, rfl, rfl, rfl⟩ := m1
 obtain ⟨rfl, rfl, rfl, rfl, rfl⟩ := m3
 subst hk m2 m4 m5 m6 m7 m8
 rfl
theorem back_14 {p : Pk} (hk : p.kind = 14) (hf : fieldB p = true) (ho : allOk (partsL p) = true) : partsS (zp 14) (.ok (restP p)) = (p, .ok ⟨#[]⟩) := by
 have F := fields hf
 have e : partsL p = reasonL p := by unfold partsL; rw [if_neg (by omega), if_neg (by omega), if_neg (by omega), if_neg (by omega), if_neg (by omega), if_neg (by omega), if_pos (by omega)]
 rw [e] at ho
 unfold restP
 rw [e]
 show reasonS (zp 14) _ = _
 rw [reason_back (q := zp 14) (p := p) hk.symm rfl rfl ho]
 obtain ⟨n1, n2, n3, n4, n5, n6, n7, n8⟩ := F
 have m1 := n1 (by omega)
 have m2 := n2 (by omega)
 have m3 := n3 (by omega)
 have m4 := n4 (by omega)
 have m6 := n6 (by omega)
 have m7 := n7 (by omega)
 clear n1 n2 n3 n4 n5 n6 n7 n8 e hf ho
 obtain ⟨kind, dup, q, ret, id, t, b, re, pre, cs, fs, cl, clean, keep, w, hu, u, hp, pw, ps⟩ := p
 simp only at *
 obtain ⟨rfl, rfl, rfl, rfl, rfl, rfl, rfl, rfl⟩ := m1
 obtain ⟨rfl, rfl, rfl, rfl, rfl⟩ := m3
 subst hk m2 m4 m6 m7
 rfl
theorem back_15 {p : Pk} (hk : p.kind = 15) (hf : fieldB p = true) (ho : allOk (partsL p) = true) : partsS (zp 15) (.ok (restP p)) = (p, .ok ⟨#[]⟩) := by
 have F := fields hf
 have e : partsL p = reasonL p := by unfold partsL; rw [if_neg (by omega), if_neg (by omega), if_neg (by omega), if_neg (by omega), if_neg (by omega), if_neg (by omega), if_pos (by omega)]
 rw [e] at ho
 unfold restP
 rw [e]
 show reasonS (zp 15) _ = _
 rw [reason_back (q := zp 15) (p := p) hk.symm rfl rfl ho]
 obtain ⟨n1, n2, n3, n4, n5, n6, n7, n8⟩ := F
 have m1 := n1 (by omega)
 have m2 := n2 (by omega)
 have m3 := n3 (by omega)
 have m4 := n4 (by omega)
 have m6 := n6 (by omega)
 have m7 := n7 (by omega)
 clear n1 n2 n3 n4 n5 n6 n7 n8 e hf ho
 obtain ⟨kind, dup, q, ret, id, t, b, re, pre, cs, fs, cl, clean, keep, w, hu, u, hp, pw, ps⟩ := p
 simp only at *
 obtain ⟨rfl, rfl, rfl, rfl, rfl, rfl, rfl, rfl⟩ := m1
 obtain ⟨rfl, rfl, rfl, rfl, rfl⟩ := m3
 subst hk m2 m4 m6 m7
 rfl
theorem back_4 {p : Pk} (hk : p.kind = 4) (hf : fieldB p = true) (ho : allOk (partsL p) = true) : partsS (zp 4) (.ok (restP p)) = (p, .ok ⟨#[]⟩) := by
 have F := fields hf
 have e : partsL p = .number p.id :: reasonL p := by unfold partsL; rw [if_neg (by omega), if_neg (by omega), if_neg (by omega), if_pos (by omega)]; rfl
 rw [e] at ho
 obtain ⟨o1, o2⟩ := ok1 ho
 unfold restP
 rw [e, allStr_cons]
 have r0 : numberR ((Part.number p.id).str ++ allStr (reasonL p)) = .ok p.id (allStr (reasonL p)) := number_back (ok_number o1) _
 show idReasonS (zp 4) _ = _
 unfold idReasonS
 rw [run_ok, r0]
 show reasonS { zp 4 with id := p.id } (.ok (allStr (reasonL p))) = _
 rw [reason_back (q := { zp 4 with id := p.id }) (p := p) hk.symm rfl rfl o2]
 obtain ⟨n1, n2, n3, n4, n5, n6, n7, n8⟩ := F
 have m1 := n1 (by omega)
 have m2 := n2 (by omega)
 have m3 := n3 (by omega)
 have m6 := n6 (by omega)
 have m7 := n7 (by omega)
 clear n1 n2 n3 n4 n5 n6 n7 n8 e hf ho o1 o2 r0
 obtain ⟨kind, dup, q, ret, id, t, b, re, pre, cs, fs, cl, clean, keep, w, hu, u, hp, pw, ps⟩ := p
 simp only at *
 obtain ⟨rfl, rfl, rfl, rfl, rfl, rfl, rfl, rfl⟩ := m1
 obtain ⟨rfl, rfl, rfl, rfl, rfl⟩ := m3
 subst hk m2 m6 m7
 rfl
theorem back_5 {p : Pk} (hk : p.kind = 5) (hf : fieldB p = true) (ho : allOk (partsL p) = true) : partsS (zp 5) (.ok (restP p)) = (p, .ok ⟨#[]⟩) := by
 have F := fields hf
 have e : partsL p = .number p.id :: reasonL p := by unfold partsL; rw [if_neg (by omega), if_neg (by omega), if_neg (by omega), if_pos (by omega)]; rfl
 rw [e] at ho
 obtain ⟨o1, o2⟩ := ok1 ho
 unfold restP
 rw [e, allStr_cons]
 have r0 : numberR ((Part.number p.id).str ++ allStr (reasonL p)) = .ok p.id (allStr (reasonL p)) := number_back (ok_number o1) _
 show idReasonS (zp 5) _ = _
 unfold idReasonS
 rw [run_ok, r0]
 show reasonS { zp 5 with id := p.id } (.ok (allStr (reasonL p))) = _
 rw [reason_back (q := { zp 5 with id := p.id }) (p := p) hk.symm rfl rfl o2]
 obtain ⟨n1, n2, n3, n4, n5, n6, n7, n8⟩ := F
 have m1 := n1 (by omega)
 have m2 := n2 (by omega)
 have m3 := n3 (by omega)
 have m6 := n6 (by omega)
 have m7 := n7 (by omega)
 clear n1 n2 n3 n4 n5 n6 n7 n8 e hf ho o1 o2 r0
 obtain ⟨kind, dup, q, ret, id, t, b, re, pre, cs, fs, cl, clean, keep, w, hu, u, hp, pw, ps⟩ := p
 simp only at *
 obtain ⟨rfl, rfl, rfl, rfl, rfl, rfl, rfl, rfl⟩ := m1
 obtain ⟨rfl, rfl, rfl, rfl, rfl⟩ := m3
 subst hk m2 m6 m7
 rfl
theorem back_6 {p : Pk} (hk : p.kind = 6) (hf : fieldB p = true) (ho : allOk (partsL p) = true) : partsS (zp 6) (.ok (restP p)) = (p, .ok ⟨#[]⟩) := by
 have F := fields hf
 have e : partsL p = .number p.id :: reasonL p := by unfold partsL; rw [if_neg (by omega), if_neg (by omega), if_neg (by omega), if_pos (by omega)]; rfl
 rw [e] at ho
 obtain ⟨o1, o2⟩ := ok1 ho
 unfold restP
 rw [e, allStr_cons]
 have r0 : numberR ((Part.number p.id).str ++ allStr (reasonL p)) = .ok p.id (allStr (reasonL p)) := number_back (ok_number o1) _
 show idReasonS (zp 6) _ = _
 unfold idReasonS
 rw [run_ok, r0]
 show reasonS { zp 6 with id := p.id } (.ok (allStr (reasonL p))) = _
 rw [reason_back (q := { zp 6 with id := p.id }) (p := p) hk.symm rfl rfl o2]
 obtain ⟨n1, n2, n3, n4, n5, n6, n7, n8⟩ := F
 have m1 := n1 (by omega)
 have m2 := n2 (by omega)
 have m3 := n3 (by omega)
 have m6 := n6 (by omega)
 have m7 := n7 (by omega)
 clear n1 n2 n3 n4 n5 n6 n7 n8 e hf ho o1 o2 r0
 obtain ⟨kind, dup, q, ret, id, t, b, re, pre, cs, fs, cl, clean, keep, w, hu, u, hp, pw, ps⟩ := p
 simp only at *
 obtain ⟨rfl, rfl, rfl, rfl, rfl, rfl, rfl, rfl⟩ := m1
 obtain ⟨rfl, rfl, rfl, rfl, rfl⟩ := m3
 subst hk m2 m6 m7
 rfl
theorem back_7 {p : Pk} (hk : p.kind = 7) (hf : fieldB p = true) (ho : allOk (partsL p) = true) : partsS (zp 7) (.ok (restP p)) = (p, .ok ⟨#[]⟩) := by
 have F := fields hf
 have e : partsL p = .number p.id :: reasonL p := by unfold partsL; rw [if_neg (by omega), if_neg (by omega), if_neg (by omega), if_pos (by omega)]; rfl
 rw [e] at ho
 obtain ⟨o1, o2⟩ := ok1 ho
 unfold restP
 rw [e, allStr_cons]
 have r0 : numberR ((Part.number p.id).str ++ allStr (reasonL p)) = .ok p.id (allStr (reasonL p)) := number_back (ok_number o1) _
 show idReasonS (zp 7) _ = _
 unfold idReasonS
 rw [run_ok, r0]
 show reasonS { zp 7 with id := p.id } (.ok (allStr (reasonL p))) = _
 rw [reason_back (q := { zp 7 with id := p.id }) (p := p) hk.symm rfl rfl o2]
 obtain ⟨n1, n2, n3, n4, n5, n6, n7, n8⟩ := F
 have m1 := n1 (by omega)
 have m2 := n2 (by omega)
 have m3 := n3 (by omega)
 have m6 := n6 (by omega)
 have m7 := n7 (by omega)
 clear n1 n2 n3 n4 n5 n6 n7 n8 e hf ho o1 o2 r0
 obtain ⟨kind, dup, q, ret, id, t, b, re, pre, cs, fs, cl, clean, keep, w, hu, u, hp, pw, ps⟩ := p
 simp only at *
 obtain ⟨rfl, rfl, rfl, rfl, rfl, rfl, rfl, rfl⟩ := m1
 obtain ⟨rfl, rfl, rfl, rfl, rfl⟩ := m3
 subst hk m2 m6 m7
 rfl
theorem back_9 {p : Pk} (hk : p.kind = 9) (hf : fieldB p = true) (ho : allOk (partsL p) = true) (hc : countB p.cs.length = true) : partsS (zp 9) (.ok (restP p)) = (p, .ok ⟨#[]⟩) := by
 have F := fields hf
 have e : partsL p = .number p.id :: .props p.kind p.ps :: codeL p.cs := by unfold partsL; rw [if_neg (by omega), if_neg (by omega), if_neg (by omega), if_neg (by omega), if_neg (by omega), if_pos (by omega)]; rfl
 rw [e] at ho
 obtain ⟨o1, o2, o3⟩ := ok2 ho
 have hc' := of_decide_eq_true hc
 unfold restP
 rw [e, allStr_cons, allStr_cons]
 have r0 : numberR ((Part.number p.id).str ++ ((Part.props p.kind p.ps).str ++ allStr (codeL p.cs))) = .ok p.id _ := number_back (ok_number o1) _
 have r1 : propsR p.kind ((Part.props p.kind p.ps).str ++ allStr (codeL p.cs)) = .ok p.ps _ := props_back (ok_props o2) _
 have r2 : manyR octetR 5 [] (allStr (codeL p.cs)) = .ok ([] ++ p.cs) ⟨#[]⟩ := codes_back p.cs 5 [] o3 (by simp; omega) (by simp; omega) (by omega)
 rw [hk] at r1
 rw [hk] at r0 ⊢
 show codesS (zp 9) _ = _
 unfold codesS
 simp only [run_ok, r0, Res.st, Res.val]
 rw [show (zp 9).kind = 9 from rfl, r1]
 simp only [r2, run_ok, List.nil_append]
 obtain ⟨n1, n2, n3, n4, n5, n6, n7, n8⟩ := F
 have m1 := n1 (by omega)
 have m2 := n2 (by omega)
 have m3 := n3 (by omega)
 have m5 := n5 (by omega)
 have m7 := n7 (by omega)
 clear n1 n2 n3 n4 n5 n6 n7 n8 e hf ho o1 o2 o3 r0 r1 r2 hc hc'
 obtain ⟨kind, dup, q, ret, id, t, b, re, pre, cs, fs, cl, clean, keep, w, hu, u, hp, pw, ps⟩ := p
 simp only at *
 obtain ⟨rfl, rfl, rfl, rfl, rfl, rfl, rfl, rfl⟩ := m1
 obtain ⟨rfl, rfl, rfl, rfl, rfl⟩ := m3
 subst hk m2 m5 m7
 rfl
theorem back_11 {p : Pk} (hk : p.kind = 11) (hf : fieldB p = true) (ho : allOk (partsL p) = true) (hc : countB p.cs.length = true) : partsS (zp 11) (.ok (restP p)) = (p, .ok ⟨#[]⟩) := by
 have F := fields hf
 have e : partsL p = .number p.id :: .props p.kind p.ps :: codeL p.cs := by unfold partsL; rw [if_neg (by omega), if_neg (by omega), if_neg (by omega), if_neg (by omega), if_neg (by omega), if_pos (by omega)]; rfl
 rw [e] at ho
 obtain ⟨o1, o2, o3⟩ := ok2 ho
 have hc' := of_decide_eq_true hc
 unfold restP
 rw [e, allStr_cons, allStr_cons]
 have r0 : numberR ((Part.number p.id).str ++ ((Part.props p.kind p.ps).str ++ allStr (codeL p.cs))) = .ok p.id _ := number_back (ok_number o1) _
 have r1 : propsR p.kind ((Part.props p.kind p.ps).str ++ allStr (codeL p.cs)) = .ok p.ps _ := props_back (ok_props o2) _
 have r2 : manyR octetR 5 [] (allStr (codeL p.cs)) = .ok ([] ++ p.cs) ⟨#[]⟩ := codes_back p.cs 5 [] o3 (by simp; omega) (by simp; omega) (by omega)
 rw [hk] at r1
 rw [hk] at r0 ⊢
 show codesS (zp 11) _ = _
 unfold codesS
 simp only [run_ok, r0, Res.st, Res.val]
 rw [show (zp 11).kind = 11 from rfl, r1]
 simp only [r2, run_ok, List.nil_append]
 obtain ⟨n1, n2, n3, n4, n5, n6, n7, n8⟩ := F
 have m1 := n1 (by omega)
 have m2 := n2 (by omega)
 have m3 := n3 (by omega)
 have m5 := n5 (by omega)
 have m7 := n7 (by omega)
 clear n1 n2 n3 n4 n5 n6 n7 n8 e hf ho o1 o2 o3 r0 r1 r2 hc hc'
 obtain ⟨kind, dup, q, ret, id, t, b, re, pre, cs, fs, cl, clean, keep, w, hu, u, hp, pw, ps⟩ := p
 simp only at *
 obtain ⟨rfl, rfl, rfl, rfl, rfl, rfl, rfl, rfl⟩ := m1
 obtain ⟨rfl, rfl, rfl, rfl, rfl⟩ := m3
 subst hk m2 m5 m7
 rfl
theorem back_8 {p : Pk} (hk : p.kind = 8) (hf : fieldB p = true) (ho : allOk (partsL p) = true) (hc : askB p = true) : partsS (zp 8) (.ok (restP p)) = (p, .ok ⟨#[]⟩) := by
 have F := fields hf
 have e : partsL p = .number p.id :: .props p.kind p.ps :: filterL (decide (p.kind = 8)) p.fs := by unfold partsL; rw [if_neg (by omega), if_neg (by omega), if_neg (by omega), if_neg (by omega), if_pos (by omega)]; rfl
 rw [e] at ho
 obtain ⟨o1, o2, o3⟩ := ok2 ho
 unfold askB at hc
 rw [Bool.and_eq_true] at hc
 have hc' := of_decide_eq_true hc.2
 have hall : ∀ x ∈ p.fs, mayFilB x = true ∧ (true = true ∨ onlyB x = true) := fun x hx => by
  have := List.all_eq_true.1 hc.1 x hx
  rw [Bool.and_eq_true, Bool.or_eq_true, decide_eq_true_eq] at this
  exact ⟨this.1, .inl rfl⟩
 unfold restP
 rw [e, allStr_cons, allStr_cons]
 have hd : decide (p.kind = 8) = true := decide_eq_true hk
 rw [hd] at o3 ⊢
 have r0 : numberR ((Part.number p.id).str ++ ((Part.props p.kind p.ps).str ++ allStr (filterL true p.fs))) = .ok p.id _ := number_back (ok_number o1) _
 have r1 : propsR p.kind ((Part.props p.kind p.ps).str ++ allStr (filterL true p.fs)) = .ok p.ps _ := props_back (ok_props o2) _
 have r2 : manyR (filterR true) 5 [] (allStr (filterL true p.fs)) = .ok ([] ++ p.fs) ⟨#[]⟩ := filters_back true p.fs 5 [] o3 hall (by simp; omega) (by simp; omega) (by omega)
 rw [hk] at r1
 rw [hk] at r0 ⊢
 show askS true (zp 8) _ = _
 unfold askS
 simp only [run_ok, r0, Res.st, Res.val]
 rw [show (zp 8).kind = 8 from rfl, r1]
 simp only [r2, run_ok, List.nil_append]
 obtain ⟨n1, n2, n3, n4, n5, n6, n7, n8⟩ := F
 have m1 := n1 (by omega)
 have m2 := n2 (by omega)
 have m3 := n3 (by omega)
 have m5 := n5 (by omega)
 have m6 := n6 (by omega)
 clear n1 n2 n3 n4 n5 n6 n7 n8 e hf ho o1 o2 o3 r0 r1 r2 hc hc' hall hd
 obtain ⟨kind, dup, q, ret, id, t, b, re, pre, cs, fs, cl, clean, keep, w, hu, u, hp, pw, ps⟩ := p
 simp only at *
 obtain ⟨rfl, rfl, rfl, rfl, rfl, rfl, rfl, rfl⟩ := m1
 obtain ⟨rfl, rfl, rfl, rfl, rfl⟩ := m3
 subst hk m2 m5 m6
 rfl
theorem back_10 {p : Pk} (hk : p.kind = 10) (hf : fieldB p = true) (ho : allOk (partsL p) = true) (hc : askB p = true) : partsS (zp 10) (.ok (restP p)) = (p, .ok ⟨#[]⟩) := by
 have F := fields hf
 have e : partsL p = .number p.id :: .props p.kind p.ps :: filterL (decide (p.kind = 8)) p.fs := by unfold partsL; rw [if_neg (by omega), if_neg (by omega), if_neg (by omega), if_neg (by omega), if_pos (by omega)]; rfl
 rw [e] at ho
 obtain ⟨o1, o2, o3⟩ := ok2 ho
 unfold askB at hc
 rw [Bool.and_eq_true] at hc
 have hc' := of_decide_eq_true hc.2
 have hall : ∀ x ∈ p.fs, mayFilB x = true ∧ (false = true ∨ onlyB x = true) := fun x hx => by
  have := List.all_eq_true.1 hc.1 x hx
  rw [Bool.and_eq_true, Bool.or_eq_true, decide_eq_true_eq] at this
  exact ⟨this.1, .inr (this.2.resolve_left (fun h => h hk))⟩
 unfold restP
 rw [e, allStr_cons, allStr_cons]
 have hd : decide (p.kind = 8) = false := decide_eq_false (by omega)
 rw [hd] at o3 ⊢
 have r0 : numberR ((Part.number p.id).str ++ ((Part.props p.kind p.ps).str ++ allStr (filterL false p.fs))) = .ok p.id _ := number_back (ok_number o1) _
 have r1 : propsR p.kind ((Part.props p.kind p.ps).str ++ allStr (filterL false p.fs)) = .ok p.ps _ := props_back (ok_props o2) _
 have r2 : manyR (filterR false) 5 [] (allStr (filterL false p.fs)) = .ok ([] ++ p.fs) ⟨#[]⟩ := filters_back false p.fs 5 [] o3 hall (by simp; omega) (by simp; omega) (by omega)
 rw [hk] at r1
 rw [hk] at r0 ⊢
 show askS false (zp 10) _ = _
 unfold askS
 simp only [run_ok, r0, Res.st, Res.val]
 rw [show (zp 10).kind = 10 from rfl, r1]
 simp only [r2, run_ok, List.nil_append]
 obtain ⟨n1, n2, n3, n4, n5, n6, n7, n8⟩ := F
 have m1 := n1 (by omega)
 have m2 := n2 (by omega)
 have m3 := n3 (by omega)
 have m5 := n5 (by omega)
 have m6 := n6 (by omega)
 clear n1 n2 n3 n4 n5 n6 n7 n8 e hf ho o1 o2 o3 r0 r1 r2 hc hc' hall hd
 obtain ⟨kind, dup, q, ret, id, t, b, re, pre, cs, fs, cl, clean, keep, w, hu, u, hp, pw, ps⟩ := p
 simp only at *
 obtain ⟨rfl, rfl, rfl, rfl, rfl, rfl, rfl, rfl⟩ := m1
 obtain ⟨rfl, rfl, rfl, rfl, rfl⟩ := m3
 subst hk m2 m5 m6
 rfl
open Go.Lib Vbi Prp
theorem bodyR_ok {s : ByteArray} (h : s.size ≤ 1024) : bodyR (.ok s) = (s, .ok ⟨#[]⟩) := by
 unfold bodyR
 rw [show (St.ok s).rest = s from rfl, decide_eq_true h, want_true]
 rfl
theorem back_3 {p : Pk} (hk : p.kind = 3) (hf : fieldB p = true) (ho : allOk (partsL p) = true) (hq : 0 ≤ p.q) (hid : 0 < p.q ∨ p.id = 0) (hb : p.b.size ≤ 1024) :
  partsS { zp 3 with dup := p.dup, q := p.q, ret := p.ret } (.ok (restP p)) = (p, .ok ⟨#[]⟩) := by
 have F := fields hf
 by_cases h0 : p.q = 0
 ·have e : partsL p = [.words p.t, .props p.kind p.ps, .raw p.b] := by unfold partsL; rw [if_neg (by omega), if_neg (by omega), if_pos hk, if_pos h0]
  rw [e] at ho
  obtain ⟨o1, o2, _⟩ := ok2 ho
  unfold restP
  rw [e, allStr_cons, allStr_cons, allStr_cons, allStr_nil]
  have r0 : longR true ((Part.words p.t).str ++ ((Part.props p.kind p.ps).str ++ ((Part.raw p.b).str ++ ⟨#[]⟩))) = .ok p.t _ := words_back (ok_words o1) _
  have r1 : propsR p.kind ((Part.props p.kind p.ps).str ++ ((Part.raw p.b).str ++ ⟨#[]⟩)) = .ok p.ps _ := props_back (ok_props o2) _
  have e4 : (Part.raw p.b).str ++ ⟨#[]⟩ = p.b := add_empty _
  have hn : ¬ 0 < p.q := by omega
  have hid' : p.id = 0 := hid.resolve_left hn
  rw [e4] at r0 r1 ⊢
  rw [hk] at r1 r0 ⊢
  show publishS { zp 3 with dup := p.dup, q := p.q, ret := p.ret } _ = _
  unfold publishS
  simp only [run_ok, r0, Res.st, Res.val, if_neg hn]
  rw [show ({ zp 3 with dup := p.dup, q := p.q, ret := p.ret } : Pk).kind = 3 from rfl, r1]
  simp only [bodyR_ok hb]
  obtain ⟨n1, n2, n3, n4, n5, n6, n7, n8⟩ := F
  have m1 := n1 (by omega)
  have m2 := n2 (by omega)
  have m5 := n5 (by omega)
  have m6 := n6 (by omega)
  have m7 := n7 (by omega)
  clear n1 n2 n3 n4 n5 n6 n7 n8 e hf ho o1 o2 r0 r1 e4 hb hid hq h0 hn
  obtain ⟨kind, dup, q, ret, id, t, b, re, pre, cs, fs, cl, clean, keep, w, hu, u, hp, pw, ps⟩ := p
  simp only at *
  obtain ⟨rfl, rfl, rfl, rfl, rfl, rfl, rfl, rfl⟩ := m1
  subst hk hid' m2 m5 m6 m7
  rfl
 ·have e : partsL p = [.words p.t, .number p.id, .props p.kind p.ps, .raw p.b] := by unfold partsL; rw [if_neg (by omega), if_neg (by omega), if_pos hk, if_neg h0]
  rw [e] at ho
  obtain ⟨o1, o2, o3⟩ := ok2 ho
  have o3 := (ok1 o3).1
  unfold restP
  rw [e, allStr_cons, allStr_cons, allStr_cons, allStr_cons, allStr_nil]
  have r0 : longR true ((Part.words p.t).str ++ ((Part.number p.id).str ++ ((Part.props p.kind p.ps).str ++ ((Part.raw p.b).str ++ ⟨#[]⟩)))) = .ok p.t _ := words_back (ok_words o1) _
  have r2 : numberR ((Part.number p.id).str ++ ((Part.props p.kind p.ps).str ++ ((Part.raw p.b).str ++ ⟨#[]⟩))) = .ok p.id _ := number_back (ok_number o2) _
  have r1 : propsR p.kind ((Part.props p.kind p.ps).str ++ ((Part.raw p.b).str ++ ⟨#[]⟩)) = .ok p.ps _ := props_back (ok_props o3) _
  have e4 : (Part.raw p.b).str ++ ⟨#[]⟩ = p.b := add_empty _
  have hn : 0 < p.q := by omega
  rw [e4] at r0 r1 r2 ⊢
  rw [hk] at r1 r0 r2 ⊢
  show publishS { zp 3 with dup := p.dup, q := p.q, ret := p.ret } _ = _
  unfold publishS
  simp only [run_ok, r0, Res.st, Res.val, if_pos hn, r2]
  rw [show ({ zp 3 with dup := p.dup, q := p.q, ret := p.ret } : Pk).kind = 3 from rfl, r1]
  simp only [bodyR_ok hb]
  obtain ⟨n1, n2, n3, n4, n5, n6, n7, n8⟩ := F
  have m1 := n1 (by omega)
  have m2 := n2 (by omega)
  have m5 := n5 (by omega)
  have m6 := n6 (by omega)
  have m7 := n7 (by omega)
  clear n1 n2 n3 n4 n5 n6 n7 n8 e hf ho o1 o2 o3 r0 r1 r2 e4 hb hid hq h0 hn
  obtain ⟨kind, dup, q, ret, id, t, b, re, pre, cs, fs, cl, clean, keep, w, hu, u, hp, pw, ps⟩ := p
  simp only at *
  obtain ⟨rfl, rfl, rfl, rfl, rfl, rfl, rfl, rfl⟩ := m1
  subst hk m2 m5 m6 m7
  rfl
theorem bit_mul (b : Bool) (k : Int) : bitZ b k = k * bitZ b 1 := by cases b <;> simp [bitZ]
theorem login_bits {p : Pk} (hq : 0 ≤ p.w.q ∧ p.w.q ≤ 2) : loginZ p % 2 = 0 ∧ decide (loginZ p / 2 % 2 = 1) = p.clean ∧ decide (loginZ p / 4 % 2 = 1) = p.w.has ∧ loginZ p / 8 % 4 = p.w.q ∧ decide (loginZ p / 32 % 2 = 1) = p.w.ret ∧ decide (loginZ p / 64 % 2 = 1) = p.hp ∧ decide (loginZ p / 128 = 1) = p.hu := by
 have key : ∀ (b : Bool) (x : Int), x = bitZ b 1 → decide (x = 1) = b := fun b x h => by subst h; cases b <;> rfl
 obtain ⟨n, hn⟩ : ∃ n, loginZ p = n := ⟨_, rfl⟩
 have hn' := hn
 unfold loginZ at hn'
 rw [bit_mul p.clean 2, bit_mul p.w.has 4, bit_mul p.w.ret 32, bit_mul p.hp 64, bit_mul p.hu 128] at hn'
 have b1 := bit_le p.clean
 have b2 := bit_le p.w.has
 have b3 := bit_le p.w.ret
 have b4 := bit_le p.hp
 have b5 := bit_le p.hu
 rw [hn]
 refine ⟨by omega, key _ _ (by omega), key _ _ (by omega), by omega, key _ _ (by omega), key _ _ (by omega), key _ _ (by omega)⟩
theorem will_back {p : Pk} (ho : allOk (willL p) = true) (hl : logInB p = true) (y : ByteArray) : willS (willOf (loginZ p)) (.ok (allStr (willL p) ++ y)) = (p.w, .ok y) ∧ cfB (loginZ p) = true ∧ (0 ≤ p.w.q ∧ p.w.q ≤ 2) := by
 unfold logInB at hl
 simp only [Bool.and_eq_true] at hl
 have hl := hl.2.2
 cases hw : p.w.has with
 | true =>
  rw [hw, if_pos rfl, Bool.and_eq_true] at hl
  have hq : 0 ≤ p.w.q ∧ p.w.q ≤ 2 := of_decide_eq_true hl.1
  obtain ⟨l0, l1, l2, l3, l4, l5, l6⟩ := login_bits hq
  rw [hw] at l2
  have l2 := of_decide_eq_true l2
  have ew : willL p = [.props 0 p.w.ps, .words p.w.t, .sized p.w.b] := by unfold willL; rw [if_pos hw]
  rw [ew] at ho ⊢
  obtain ⟨o1, o2, o3⟩ := ok2 ho
  have o3 := (ok1 o3).1
  have ht : p.w.t ≠ ⟨#[]⟩ := by
   have := hl.2
   unfold E at this
   simpa using this
  have r0 : propsR 0 (propStr p.w.ps ++ (lgStr p.w.t ++ (lgStr p.w.b ++ y))) = .ok p.w.ps _ := props_back (ok_props o1) _
  have r1 : longR true (lgStr p.w.t ++ (lgStr p.w.b ++ y)) = .ok p.w.t _ := words_back (ok_words o2) _
  have r2 : longR false (lgStr p.w.b ++ y) = .ok p.w.b _ := sized_back (ok_sized o3) _
  refine ⟨?_, ?_, hq⟩
  ·have es : allStr [.props 0 p.w.ps, .words p.w.t, .sized p.w.b] ++ y = propStr p.w.ps ++ (lgStr p.w.t ++ (lgStr p.w.b ++ y)) := by
    rw [allStr_cons, allStr_cons, allStr_cons, allStr_nil, add_empty, ByteArray.append_assoc, ByteArray.append_assoc]
    rfl
   rw [es]
   unfold willOf
   rw [if_pos l2, l3, l4]
   unfold willS
   rw [if_pos rfl]
   simp only [run_ok, r0, Res.st, Res.val, r1, decide_eq_true ht, want_true, r2]
   obtain ⟨kind, dup, q, ret, id, t, b, re, pre, cs, fs, cl, clean, keep, w, hu, u, hp, pw, ps⟩ := p
   obtain ⟨a1, a2, a3, a4, a5, a6⟩ := w
   simp only at hw
   subst hw
   rfl
  ·unfold cfB
   exact decide_eq_true ⟨l0, by omega, .inl l2⟩
 | false =>
  rw [hw, if_neg (by decide)] at hl
  have hz : p.w = zw := not_w (by simpa using hl)
  have hq : 0 ≤ p.w.q ∧ p.w.q ≤ 2 := by rw [hz]; decide
  obtain ⟨l0, l1, l2, l3, l4, l5, l6⟩ := login_bits hq
  rw [hw] at l2
  have l2 := of_decide_eq_false l2
  have l4' : ¬ loginZ p / 32 % 2 = 1 := of_decide_eq_false (by rw [l4, hz]; rfl)
  have ew : willL p = [] := by unfold willL; rw [if_neg (by rw [hw]; decide)]
  refine ⟨?_, ?_, hq⟩
  ·rw [ew, allStr_nil, empty_add]
   unfold willOf
   rw [if_neg l2, hz]
   rfl
  ·unfold cfB
   rw [hz] at l3
   have l3 : loginZ p / 8 % 4 = 0 := l3
   exact decide_eq_true ⟨l0, by omega, .inr ⟨l3, by omega⟩⟩
theorem if_back {b t : Bool} {s : ByteArray} {L : List Part} (hL : L = if b = true then [if t = true then Part.words s else Part.sized s] else []) (ho : allOk L = true) (hs : b = false → s = ⟨#[]⟩) (y : ByteArray) : ifR b t (.ok (allStr L ++ y)) = (s, .ok y) := by
 subst hL
 cases b with
 | false =>
  rw [if_neg (by decide), allStr_nil, empty_add, hs rfl]
  rfl
 | true =>
  rw [if_pos rfl] at ho ⊢
  have o1 := (ok1 ho).1
  have r0 : longR t (lgStr s ++ y) = .ok s y := by
   cases t with
   | true => exact words_back (ok_words o1) y
   | false => exact sized_back (ok_sized o1) y
  have es : allStr [if t = true then Part.words s else Part.sized s] ++ y = lgStr s ++ y := by
   rw [allStr_cons, allStr_nil, add_empty]
   cases t <;> rfl
  rw [es]
  unfold ifR
  rw [if_pos rfl, run_ok, r0]
  rfl
theorem back_1 {p : Pk} (hk : p.kind = 1) (hf : fieldB p = true) (ho : allOk (partsL p) = true) (hl : logInB p = true) : partsS (zp 1) (.ok (restP p)) = (p, .ok ⟨#[]⟩) := by
 have F := fields hf
 have e : partsL p = .words mqtt :: .octet 5 :: .octet (loginZ p) :: .short p.keep :: .props p.kind p.ps :: .words p.cl :: (willL p ++ (userL p ++ passL p)) := by
  unfold partsL; rw [if_pos hk]; unfold connectL; rw [List.append_assoc, List.append_assoc]; rfl
 rw [e] at ho
 obtain ⟨o1, o2, ho⟩ := ok2 ho
 obtain ⟨o3, o4, ho⟩ := ok2 ho
 obtain ⟨o5, o6, ho⟩ := ok2 ho
 rw [allOk_app, allOk_app, Bool.and_eq_true, Bool.and_eq_true] at ho
 obtain ⟨o7, o8, o9⟩ := ho
 have hlu : (p.hu = false → p.u = ⟨#[]⟩) ∧ (p.hp = false → p.pw = ⟨#[]⟩) := by
  have h2 := hl
  unfold logInB at h2
  simp only [Bool.and_eq_true, Bool.or_eq_true] at h2
  refine ⟨fun h => ?_, fun h => ?_⟩
  ·rcases h2.1 with h3 | h3
   ·exact of_decide_eq_true h3
   ·rw [h] at h3; cases h3
  ·rcases h2.2.1 with h3 | h3
   ·exact of_decide_eq_true h3
   ·rw [h] at h3; cases h3
 unfold restP
 rw [e]
 simp only [allStr_cons]
 rw [allStr_app, allStr_app]
 obtain ⟨w1, w2, w3⟩ := will_back o7 hl (allStr (userL p) ++ allStr (passL p))
 obtain ⟨l0, l1, l2, l3, l4, l5, l6⟩ := login_bits w3
 have u1 : ifR p.hu true (.ok (allStr (userL p) ++ allStr (passL p))) = _ := if_back (L := userL p) rfl o8 hlu.1 _
 have u2 : ifR p.hp false (.ok (allStr (passL p) ++ ⟨#[]⟩)) = _ := if_back (L := passL p) rfl o9 hlu.2 _
 rw [add_empty] at u2
 obtain ⟨Z, hZ⟩ : ∃ Z, allStr (willL p) ++ (allStr (userL p) ++ allStr (passL p)) = Z := ⟨_, rfl⟩
 rw [hZ] at w1 ⊢
 obtain ⟨n, hn⟩ : ∃ n, loginZ p = n := ⟨_, rfl⟩
 rw [hn] at w1 w2 l0 l1 l2 l3 l4 l5 l6 o3 ⊢
 have r0 : longR true ((Part.words mqtt).str ++ ((Part.octet 5).str ++ ((Part.octet n).str ++ ((Part.short p.keep).str ++ ((Part.props p.kind p.ps).str ++ ((Part.words p.cl).str ++ Z)))))) = .ok mqtt _ := words_back (ok_words o1) _
 have r1 : octetR ((Part.octet 5).str ++ ((Part.octet n).str ++ ((Part.short p.keep).str ++ ((Part.props p.kind p.ps).str ++ ((Part.words p.cl).str ++ Z))))) = .ok 5 _ := octet_back (ok_octet o2) _
 have r2 : octetR ((Part.octet n).str ++ ((Part.short p.keep).str ++ ((Part.props p.kind p.ps).str ++ ((Part.words p.cl).str ++ Z)))) = .ok n _ := octet_back (ok_octet o3) _
 have r3 : shortR ((Part.short p.keep).str ++ ((Part.props p.kind p.ps).str ++ ((Part.words p.cl).str ++ Z))) = .ok p.keep _ := short_back (ok_short o4) _
 have r4 : propsR p.kind ((Part.props p.kind p.ps).str ++ ((Part.words p.cl).str ++ Z)) = .ok p.ps _ := props_back (ok_props o5) _
 have r5 : longR true ((Part.words p.cl).str ++ Z) = .ok p.cl _ := words_back (ok_words o6) _
 obtain ⟨S, hS⟩ : ∃ S, (Part.words mqtt).str ++ ((Part.octet 5).str ++ ((Part.octet n).str ++ ((Part.short p.keep).str ++ ((Part.props p.kind p.ps).str ++ ((Part.words p.cl).str ++ Z))))) = S := ⟨_, rfl⟩
 rw [hS] at r0 ⊢
 have hH : connHead (.ok S) = .ok ((Part.octet n).str ++ ((Part.short p.keep).str ++ ((Part.props p.kind p.ps).str ++ ((Part.words p.cl).str ++ Z)))) := by
  unfold connHead
  simp only [run_ok, r0, Res.st, Res.val, decide_true, want_true, r1]
 have hF : connFlags (.ok S) = n := by unfold connFlags; rw [hH, run_ok, r2]; rfl
 have hC : connSt (.ok S) = .ok ((Part.short p.keep).str ++ ((Part.props p.kind p.ps).str ++ ((Part.words p.cl).str ++ Z))) := by
  unfold connSt
  rw [hF, hH, run_ok, r2, w2, want_true]
  rfl
 show connectS (zp 1) (.ok S) = _
 unfold connectS
 rw [hF, hC]
 unfold withFlags connRest
 rw [hk] at r4 r3 ⊢
 simp only [run_ok, r3, Res.st, Res.val]
 rw [show (zp 1).kind = 1 from rfl, r4]
 simp only [run_ok, r5, w1, l1, l5, l6, u1, u2]
 obtain ⟨n1, n2, n3, n4, n5, n6, n7, n8⟩ := F
 have m2 := n2 (by omega)
 have m3 := n3 (by omega)
 have m4 := n4 (by omega)
 have m5 := n5 (by omega)
 have m6 := n6 (by omega)
 have m7 := n7 (by omega)
 clear n1 n2 n3 n4 n5 n6 n7 n8 e hf o1 o2 o3 o4 o5 o6 o7 o8 o9 r0 r1 r2 r3 r4 r5 w1 w2 w3 u1 u2 l0 l1 l2 l3 l4 l5 l6 hlu hl hn hZ hS hH hF hC
 obtain ⟨kind, dup, q, ret, id, t, b, re, pre, cs, fs, cl, clean, keep, w, hu, u, hp, pw, ps⟩ := p
 simp only at *
 obtain ⟨rfl, rfl, rfl, rfl, rfl⟩ := m3
 subst hk m2 m4 m5 m6 m7
 rfl
end Go.Proofs.YtdbbcfohjkgdcaaGreat.Pkt
