/- Plain facts on packets: what bytes begin with. No run of a program is in this file. -/
import Derived.Test.YtdbbcfohjkgdcaaGreatM00
import Derived.Test.YtdbbcfohjkgdcaaGreatM04
set_option maxRecDepth 100000
set_option maxHeartbeats 64000000
namespace Go.Proofs.YtdbbcfohjkgdcaaGreat
open Go.RowKit Go.Lib Vbi
theorem data_add (a b : ByteArray) : (a ++ b).data.toList = a.data.toList ++ b.data.toList := by rw [ByteArray.data_append, Array.toList_append]
theorem data_take (a : ByteArray) (k : Nat) : (a.extract 0 k).data.toList = a.data.toList.take k := by rw [Lib.extract_data]; simp
theorem bytes_ext {a b : ByteArray} (h : a.data.toList = b.data.toList) : a = b := ByteArray.ext (Array.toList_inj.1 h)
theorem num_back {n : Nat} (h : n < 268435456) (y : ByteArray) : tn (strOfNums (numZ n) ++ y).data.toList = ((n : Int), ((strOfNums (numZ n)).size : Int), 0) := by
 rw [data_add, strOf_data, tn_back h, strOfNums_size]
theorem num_wrote (y : ByteArray) : (∃ E, tn y.data.toList = (0, 0, E) ∧ E ≠ 0) ∨ ∃ m k : Nat, tn y.data.toList = ((m : Int), (k : Int), 0) ∧ m < 268435456 ∧ k ≤ y.size ∧ strOfNums (numZ m) = y.extract 0 k := by
 rcases tn_wrote y.data.toList with (h | h) | ⟨m, k, h1, h2, h3, h4⟩
 ·exact .inl ⟨7, h, by decide⟩
 ·exact .inl ⟨8, h, by decide⟩
 ·exact .inr ⟨m, k, h1, h2, by rw [Lib.size_eq]; exact h3, bytes_ext (by rw [strOf_data, data_take, h4])⟩
theorem bin_size (s : ByteArray) : (strOfNums (fixZ 2 s.size) ++ s).size = 2 + s.size := by rw [ByteArray.size_append, fix2_size]
theorem tbN_bin (s z : ByteArray) (h : s.size ≤ 1024) (hz : z.data.toList.take 2 = (strOfNums (fixZ 2 s.size)).data.toList) : tbN z = s.size := by
 unfold tbN
 rw [hz, strOf_data]
 have := fix2_back (n := s.size) (by omega) []
 rw [List.append_nil] at this
 rw [List.take_of_length_le (by unfold bytesOf; rw [List.length_map, fixZ_len]; omega)] at this
 exact this
theorem fix2_len (n : Nat) : (strOfNums (fixZ 2 n)).data.toList.length = 2 := by rw [← Lib.size_eq, fix2_size]
theorem bin_back (s y : ByteArray) (h : s.size ≤ 1024) : tb ((strOfNums (fixZ 2 s.size) ++ s) ++ y) = (s, ((strOfNums (fixZ 2 s.size) ++ s).size : Int), 0) := by
 have hN : tbN ((strOfNums (fixZ 2 s.size) ++ s) ++ y) = s.size := by
  refine tbN_bin s _ h ?_
  rw [data_add, data_add, List.append_assoc, List.take_append_of_le_length (by rw [fix2_len]; omega), List.take_of_length_le (by rw [fix2_len]; omega)]
 have hz : ((strOfNums (fixZ 2 s.size) ++ s) ++ y).size = 2 + s.size + y.size := by rw [ByteArray.size_append, bin_size]
 unfold tb
 rw [hN, if_neg (by omega), if_neg (by omega), if_neg (by omega), bin_size]
 refine congrArg (·, ((2 + s.size : Nat) : Int), (0 : Int)) ?_
 apply bytes_ext
 rw [Lib.extract_data, data_add, data_add, List.append_assoc]
 rw [List.drop_append_of_le_length (by rw [fix2_len]; omega), List.drop_of_length_le (by rw [fix2_len]; omega), List.nil_append]
 rw [List.take_append_of_le_length (by rw [← Lib.size_eq]; omega), List.take_of_length_le (by rw [← Lib.size_eq]; omega)]
end Go.Proofs.YtdbbcfohjkgdcaaGreat
namespace Go.Proofs.YtdbbcfohjkgdcaaGreat.Prp
open Go.Lib Vbi
structure P where
 id : Int
 n : Int
 s : ByteArray
 v : ByteArray
def kindZ (id : Int) : Int :=
 if id = 1 ∨ id = 23 ∨ id = 25 ∨ id = 36 ∨ id = 37 ∨ id = 40 ∨ id = 41 ∨ id = 42 then 1
 else if id = 19 ∨ id = 33 ∨ id = 34 ∨ id = 35 then 2
 else if id = 2 ∨ id = 17 ∨ id = 24 ∨ id = 39 then 3
 else if id = 11 then 4
 else if id = 3 ∨ id = 8 ∨ id = 18 ∨ id = 21 ∨ id = 26 ∨ id = 28 ∨ id = 31 then 5
 else if id = 9 ∨ id = 22 then 6
 else if id = 38 then 7 else 0
def NoId (id : Int) : Prop := (id ≠ 1 ∧ id ≠ 23 ∧ id ≠ 25 ∧ id ≠ 36 ∧ id ≠ 37 ∧ id ≠ 40 ∧ id ≠ 41 ∧ id ≠ 42) ∧ (id ≠ 19 ∧ id ≠ 33 ∧ id ≠ 34 ∧ id ≠ 35) ∧ (id ≠ 2 ∧ id ≠ 17 ∧ id ≠ 24 ∧ id ≠ 39) ∧ id ≠ 11 ∧
 (id ≠ 3 ∧ id ≠ 8 ∧ id ≠ 18 ∧ id ≠ 21 ∧ id ≠ 26 ∧ id ≠ 28 ∧ id ≠ 31) ∧ (id ≠ 9 ∧ id ≠ 22) ∧ id ≠ 38
theorem kind_cases (id : Int) : (id = 1 ∨ id = 23 ∨ id = 25 ∨ id = 36 ∨ id = 37 ∨ id = 40 ∨ id = 41 ∨ id = 42) ∨ (id = 19 ∨ id = 33 ∨ id = 34 ∨ id = 35) ∨ (id = 2 ∨ id = 17 ∨ id = 24 ∨ id = 39) ∨ id = 11 ∨
  (id = 3 ∨ id = 8 ∨ id = 18 ∨ id = 21 ∨ id = 26 ∨ id = 28 ∨ id = 31) ∨ (id = 9 ∨ id = 22) ∨ id = 38 ∨ NoId id := by
 unfold NoId; omega
theorem kind_none {id : Int} (h : NoId id) : kindZ id = 0 := by
 obtain ⟨h1, h2, h3, h4, h5, h6, h7⟩ := h
 unfold kindZ
 rw [if_neg (by omega), if_neg (by omega), if_neg (by omega), if_neg (by omega), if_neg (by omega), if_neg (by omega), if_neg (by omega)]
theorem kind_range (id : Int) : 0 ≤ kindZ id ∧ kindZ id ≤ 7 := by
 unfold kindZ; repeat' split
 all_goals omega
def kindErr (id : Int) : Int := if kindZ id = 0 then 3 else 0
def placeB (place : Int) : Bool := decide (0 ≤ place ∧ place ≤ 15)
def standL (place : Int) : List Int :=
 if place = 0 then [1, 2, 3, 8, 9, 24, 38]
 else if place = 1 then [17, 21, 22, 23, 25, 33, 34, 38, 39]
 else if place = 2 then [17, 18, 19, 21, 22, 26, 28, 31, 33, 34, 36, 37, 38, 39, 40, 41, 42]
 else if place = 3 then [1, 2, 3, 8, 9, 11, 35, 38]
 else if place = 4 ∨ place = 5 ∨ place = 6 ∨ place = 7 ∨ place = 9 ∨ place = 11 then [31, 38]
 else if place = 8 then [11, 38]
 else if place = 10 then [38]
 else if place = 14 then [17, 28, 31, 38]
 else if place = 15 then [21, 22, 31, 38] else []
def standB (place id : Int) : Bool := (standL place).contains id
theorem place_cases (place : Int) : place = 0 ∨ place = 1 ∨ place = 2 ∨ place = 3 ∨ (place = 4 ∨ place = 5 ∨ place = 6 ∨ place = 7 ∨ place = 9 ∨ place = 11) ∨ place = 8 ∨ place = 10 ∨ place = 14 ∨ place = 15 ∨
  (place ≠ 0 ∧ place ≠ 1 ∧ place ≠ 2 ∧ place ≠ 3 ∧ (place ≠ 4 ∧ place ≠ 5 ∧ place ≠ 6 ∧ place ≠ 7 ∧ place ≠ 9 ∧ place ≠ 11) ∧ place ≠ 8 ∧ place ≠ 10 ∧ place ≠ 14 ∧ place ≠ 15) := by omega
theorem stand_none {place : Int} (h : place ≠ 0 ∧ place ≠ 1 ∧ place ≠ 2 ∧ place ≠ 3 ∧ (place ≠ 4 ∧ place ≠ 5 ∧ place ≠ 6 ∧ place ≠ 7 ∧ place ≠ 9 ∧ place ≠ 11) ∧ place ≠ 8 ∧ place ≠ 10 ∧ place ≠ 14 ∧ place ≠ 15) : standL place = [] := by
 obtain ⟨h1, h2, h3, h4, h5, h6, h7, h8, h9⟩ := h
 unfold standL
 rw [if_neg h1, if_neg h2, if_neg h3, if_neg h4, if_neg (by omega), if_neg h6, if_neg h7, if_neg h8, if_neg h9]
theorem stand_kind {place id : Int} (h : standB place id = true) : kindZ id ≠ 0 := by
 have key : ∀ l : List Int, (∀ x ∈ l, kindZ x ≠ 0) → l.contains id = true → kindZ id ≠ 0 := fun l hl hc => hl id (by simpa using hc)
 unfold standB at h
 rcases place_cases place with rfl | rfl | rfl | rfl | c | rfl | rfl | rfl | rfl | c
 ·exact key _ (by decide) h
 ·exact key _ (by decide) h
 ·exact key _ (by decide) h
 ·exact key _ (by decide) h
 ·rcases c with rfl | rfl | rfl | rfl | rfl | rfl <;> exact key _ (by decide) h
 ·exact key _ (by decide) h
 ·exact key _ (by decide) h
 ·exact key _ (by decide) h
 ·exact key _ (by decide) h
 ·rw [stand_none c] at h; cases h
def repB (place id : Int) : Bool := decide (id = 38 ∨ (id = 11 ∧ place = 3))
def twiceB (place id : Int) (l : List P) : Bool := !repB place id && l.any fun q => decide (q.id = id)
def noZ (id : Int) : Prop := id = 11 ∨ id = 33 ∨ id = 35 ∨ id = 39
instance (id : Int) : Decidable (noZ id) := by unfold noZ; exact inferInstance
def haveB (id n : Int) : Bool := if noZ id then decide (n ≠ 0) else decide (kindZ id ≠ 1 ∨ n = 0 ∨ n = 1)
def textB (s : ByteArray) : Bool := decide (loErr true s = 0)
def binB (s : ByteArray) : Bool := decide (s.size ≤ 1024)
def valB (k : Int) (p : P) : Bool :=
 if k = 1 then decide ((p.n = 0 ∨ p.n = 1) ∧ p.s = ⟨#[]⟩ ∧ p.v = ⟨#[]⟩)
 else if k = 2 then decide ((0 ≤ p.n ∧ p.n < 65536) ∧ p.s = ⟨#[]⟩ ∧ p.v = ⟨#[]⟩)
 else if k = 3 then decide ((0 ≤ p.n ∧ p.n < 4294967296) ∧ p.s = ⟨#[]⟩ ∧ p.v = ⟨#[]⟩)
 else if k = 4 then decide ((0 ≤ p.n ∧ p.n < 268435456) ∧ p.s = ⟨#[]⟩ ∧ p.v = ⟨#[]⟩)
 else if k = 5 then decide (p.n = 0 ∧ textB p.s = true ∧ p.v = ⟨#[]⟩)
 else if k = 6 then decide (p.n = 0 ∧ binB p.s = true ∧ p.v = ⟨#[]⟩)
 else decide (p.n = 0 ∧ textB p.s = true ∧ textB p.v = true)
def valStr (k : Int) (p : P) : ByteArray :=
 if k = 1 then strOfNums [p.n]
 else if k = 2 then strOfNums (fixZ 2 p.n.toNat)
 else if k = 3 then strOfNums (fixZ 4 p.n.toNat)
 else if k = 4 then strOfNums (numZ p.n.toNat)
 else if k = 5 ∨ k = 6 then strOfNums (fixZ 2 p.s.size) ++ p.s
 else (strOfNums (fixZ 2 p.s.size) ++ p.s) ++ (strOfNums (fixZ 2 p.v.size) ++ p.v)
def oneStr (p : P) : ByteArray := strOfNums [p.id] ++ valStr (kindZ p.id) p
def restStr (l : List P) : ByteArray := l.foldl (fun a p => a ++ oneStr p) ⟨#[]⟩
theorem rest_snoc (l : List P) (p : P) : restStr (l ++ [p]) = restStr l ++ oneStr p := by unfold restStr; rw [List.foldl_append]; rfl
def propStr (l : List P) : ByteArray := strOfNums (numZ (restStr l).size) ++ restStr l
def fitsB (p : P) : Bool := decide (kindZ p.id ≠ 0) && (decide (¬ (noZ p.id ∧ p.n = 0)) && valB (kindZ p.id) p)
def mayB (place : Int) (a : List P) (p : P) : Bool := standB place p.id && (haveB p.id p.n && !twiceB place p.id a)
def goodB (place : Int) (a : List P) (p : P) : Bool := standB place p.id && (fitsB p && !twiceB place p.id a)
def goodL (place : Int) : List P → List P → Bool
 | _, [] => true
 | a, p :: t => goodB place a p && goodL place (a ++ [p]) t
def propsB (place : Int) (l : List P) : Bool := placeB place && (decide (l.length ≤ 8) && goodL place [] l)
theorem have_val (p : P) (hk : kindZ p.id ≠ 0) : (haveB p.id p.n && valB (kindZ p.id) p) = fitsB p := by
 unfold fitsB haveB
 rw [decide_eq_true (show kindZ p.id ≠ 0 from hk), Bool.true_and]
 by_cases hz : noZ p.id
 ·rw [if_pos hz]
  congr 1
  by_cases h0 : p.n = 0
  ·rw [decide_eq_false (show ¬ (p.n ≠ 0) from fun h => h h0), decide_eq_false (show ¬ ¬ (noZ p.id ∧ p.n = 0) from fun h => h ⟨hz, h0⟩)]
  ·rw [decide_eq_true (show p.n ≠ 0 from h0), decide_eq_true (show ¬ (noZ p.id ∧ p.n = 0) from fun h => h0 h.2)]
 ·rw [if_neg hz, decide_eq_true (show ¬ (noZ p.id ∧ p.n = 0) from fun h => hz h.1), Bool.true_and]
  by_cases h1 : kindZ p.id = 1
  ·rw [h1]
   by_cases hn : p.n = 0 ∨ p.n = 1
   ·rw [decide_eq_true (.inr hn), Bool.true_and]
   ·rw [decide_eq_false (by omega), Bool.false_and]
    unfold valB
    rw [if_pos rfl, decide_eq_false (fun h => hn h.1)]
  ·rw [decide_eq_true (.inl h1), Bool.true_and]
theorem good_may (place : Int) (a : List P) (p : P) : goodB place a p = (mayB place a p && valB (kindZ p.id) p) := by
 unfold goodB mayB
 cases hs : standB place p.id with
 | false => rfl
 | true =>
  rw [← have_val p (stand_kind hs)]
  cases haveB p.id p.n <;> cases valB (kindZ p.id) p <;> cases twiceB place p.id a <;> rfl
open Go.Lib Vbi
structure Tk where
 n : Int
 a : ByteArray
 b : ByteArray
 k : Int
 e : Int
def tkBad (e : Int) : Tk := ⟨0, ⟨#[]⟩, ⟨#[]⟩, 0, e⟩
def tkFix (wd : Nat) (s : ByteArray) : Tk := if s.size < wd then tkBad 7 else ⟨(fixVal (s.data.toList.take wd) : Nat), ⟨#[]⟩, ⟨#[]⟩, (wd : Int), 0⟩
def tkNum (s : ByteArray) : Tk := ⟨(tn s.data.toList).1, ⟨#[]⟩, ⟨#[]⟩, (tn s.data.toList).2.1, (tn s.data.toList).2.2⟩
def tkLong (t : Bool) (s : ByteArray) : Tk := ⟨0, (tl t s).1, ⟨#[]⟩, (tl t s).2.1, (tl t s).2.2⟩
def tkTwo (s : ByteArray) : Tk :=
 if (tl true s).2.2 ≠ 0 then tkBad (tl true s).2.2
 else if (tl true (s.extract (tl true s).2.1.toNat s.size)).2.2 ≠ 0 then tkBad (tl true (s.extract (tl true s).2.1.toNat s.size)).2.2
 else ⟨0, (tl true s).1, (tl true (s.extract (tl true s).2.1.toNat s.size)).1, (tl true s).2.1 + (tl true (s.extract (tl true s).2.1.toNat s.size)).2.1, 0⟩
def tk (k : Int) (s : ByteArray) : Tk :=
 if k = 1 then tkFix 1 s else if k = 2 then tkFix 2 s else if k = 3 then tkFix 4 s else if k = 4 then tkNum s else if k = 5 then tkLong true s else if k = 6 then tkLong false s else tkTwo s
theorem fixVal_one (l : List UInt8) : fixVal (l.take 1) < 256 := by
 match l with
 | [] => decide
 | a :: t => have := a.toNat_lt; show (0 * 256 + a.toNat) < _; omega
theorem tl_took {t : Bool} {s : ByteArray} (h : (tl t s).2.2 = 0) : ∃ m : Nat, (tl t s).2.1 = ((2 + m : Nat) : Int) ∧ 2 + m ≤ s.size ∧ m ≤ 1024 ∧ tbN s = m ∧ (tl t s).1 = s.extract 2 (2 + m) ∧ (t = true → textB (tl t s).1 = true) := by
 have hb : (tb s).2.2 = 0 := by
  by_cases c : (tb s).2.2 = 0
  ·exact c
  ·rw [tl_bad c] at h; exact absurd h c
 have hc : tlErr t (tb s).1 = 0 := by
  by_cases c : tlErr t (tb s).1 = 0
  ·exact c
  ·obtain ⟨T, K, hT⟩ : ∃ T K, tb s = (T, K, 0) := ⟨(tb s).1, (tb s).2.1, by rw [← hb]⟩
   rw [hT] at c
   rw [tl_wrong hT c] at h
   exact absurd h c
 rcases tb_cases s with ⟨_, e⟩ | ⟨_, _, e⟩ | ⟨_, _, _, e⟩ | ⟨h1, h2, e⟩
 ·rw [e] at hb; cases hb
 ·rw [e] at hb; cases hb
 ·rw [e] at hb; cases hb
 ·rw [e] at hc
  rw [tl_good e hc]
  refine ⟨tbN s, rfl, h2, h1, rfl, rfl, fun ht => ?_⟩
  subst ht
  unfold tlErr at hc
  rw [if_pos rfl] at hc
  unfold textB
  exact decide_eq_true hc
theorem tl_not {t : Bool} {s : ByteArray} (h : (tl t s).2.2 ≠ 0) : (tl t s).1 = ⟨#[]⟩ ∧ (tl t s).2.1 = 0 := by
 by_cases c : (tb s).2.2 = 0
 ·obtain ⟨T, K, hT⟩ : ∃ T K, tb s = (T, K, 0) := ⟨(tb s).1, (tb s).2.1, by rw [← c]⟩
  by_cases d : tlErr t T = 0
  ·rw [tl_good hT d] at h; exact absurd rfl h
  ·rw [tl_wrong hT d]; exact ⟨rfl, rfl⟩
 ·rw [tl_bad c] at h ⊢
  rcases tb_err s with ⟨_, a, b⟩ | ⟨T, K, hT, _⟩
  ·exact ⟨a, b⟩
  ·rw [hT] at h; exact absurd rfl h
theorem text_sz {s : ByteArray} (h : textB s = true) : s.size ≤ 1024 := by
 unfold textB at h
 exact loErr_zero (of_decide_eq_true h)
theorem tk_bound {k : Int} {s : ByteArray} (h : (tk k s).e = 0) : 0 ≤ (tk k s).k ∧ (tk k s).k ≤ (s.size : Int) := by
 have fx : ∀ wd, (tkFix wd s).e = 0 → 0 ≤ (tkFix wd s).k ∧ (tkFix wd s).k ≤ (s.size : Int) := fun wd h => by
  unfold tkFix at h ⊢
  by_cases c : s.size < wd
  ·rw [if_pos c] at h; cases h
  ·rw [if_neg c]; show (0 : Int) ≤ (wd : Int) ∧ (wd : Int) ≤ _; omega
 have lg : ∀ t, (tkLong t s).e = 0 → 0 ≤ (tkLong t s).k ∧ (tkLong t s).k ≤ (s.size : Int) := fun t h => by
  obtain ⟨m, h1, h2, _⟩ := tl_took (t := t) (s := s) h
  show 0 ≤ (tl t s).2.1 ∧ (tl t s).2.1 ≤ _
  rw [h1]; omega
 unfold tk at h ⊢
 by_cases h1 : k = 1
 ·rw [if_pos h1] at h ⊢; exact fx 1 h
 rw [if_neg h1] at h ⊢
 by_cases h2 : k = 2
 ·rw [if_pos h2] at h ⊢; exact fx 2 h
 rw [if_neg h2] at h ⊢
 by_cases h3 : k = 3
 ·rw [if_pos h3] at h ⊢; exact fx 4 h
 rw [if_neg h3] at h ⊢
 by_cases h4 : k = 4
 ·rw [if_pos h4] at h ⊢
  show 0 ≤ (tn s.data.toList).2.1 ∧ (tn s.data.toList).2.1 ≤ _
  rcases num_wrote s with ⟨E, e, _⟩ | ⟨m, q, e, _, hq, _⟩ <;> rw [e]
  ·simp
  ·show (0 : Int) ≤ (q : Int) ∧ (q : Int) ≤ _; omega
 rw [if_neg h4] at h ⊢
 by_cases h5 : k = 5
 ·rw [if_pos h5] at h ⊢; exact lg true h
 rw [if_neg h5] at h ⊢
 by_cases h6 : k = 6
 ·rw [if_pos h6] at h ⊢; exact lg false h
 rw [if_neg h6] at h ⊢
 unfold tkTwo at h ⊢
 by_cases c : (tl true s).2.2 = 0
 ·rw [if_neg (fun x => x c)] at h ⊢
  obtain ⟨m, e1, e2, _⟩ := tl_took c
  by_cases d : (tl true (s.extract (tl true s).2.1.toNat s.size)).2.2 = 0
  ·rw [if_neg (fun x => x d)]
   obtain ⟨m2, f1, f2, _⟩ := tl_took d
   show 0 ≤ (tl true s).2.1 + (tl true (s.extract (tl true s).2.1.toNat s.size)).2.1 ∧ (tl true s).2.1 + (tl true (s.extract (tl true s).2.1.toNat s.size)).2.1 ≤ _
   rw [f1]
   rw [ByteArray.size_extract] at f2
   rw [e1] at f2 ⊢
   rw [Int.toNat_natCast] at f2
   omega
  ·rw [if_pos d] at h; exact absurd h d
 ·rw [if_pos c] at h; exact absurd h c
def inn (e : Int) : Int := if e = 7 then 8 else e
def pz : P := ⟨0, 0, ⟨#[]⟩, ⟨#[]⟩⟩
def idOf (s : ByteArray) : Int := ((s.data.toList.headD 0).toNat : Int)
def tone (s : ByteArray) : P × Int × Int :=
 if kindZ (idOf s) = 0 then (pz, 0, 8)
 else if (tk (kindZ (idOf s)) (s.extract 1 s.size)).e ≠ 0 then (pz, 0, inn (tk (kindZ (idOf s)) (s.extract 1 s.size)).e)
 else (⟨idOf s, (tk (kindZ (idOf s)) (s.extract 1 s.size)).n, (tk (kindZ (idOf s)) (s.extract 1 s.size)).a, (tk (kindZ (idOf s)) (s.extract 1 s.size)).b⟩, 1 + (tk (kindZ (idOf s)) (s.extract 1 s.size)).k, 0)
theorem inn_zero {e : Int} : inn e = 0 ↔ e = 0 := by unfold inn; split <;> omega
theorem tone_none {s : ByteArray} (h : kindZ (idOf s) = 0) : tone s = (pz, 0, 8) := by unfold tone; rw [if_pos h]
theorem tone_bad {s : ByteArray} (h : kindZ (idOf s) ≠ 0) (he : (tk (kindZ (idOf s)) (s.extract 1 s.size)).e ≠ 0) : tone s = (pz, 0, inn (tk (kindZ (idOf s)) (s.extract 1 s.size)).e) := by unfold tone; rw [if_neg h, if_pos he]
theorem tone_good {s : ByteArray} (h : kindZ (idOf s) ≠ 0) (he : (tk (kindZ (idOf s)) (s.extract 1 s.size)).e = 0) :
  tone s = (⟨idOf s, (tk (kindZ (idOf s)) (s.extract 1 s.size)).n, (tk (kindZ (idOf s)) (s.extract 1 s.size)).a, (tk (kindZ (idOf s)) (s.extract 1 s.size)).b⟩, 1 + (tk (kindZ (idOf s)) (s.extract 1 s.size)).k, 0) := by unfold tone; rw [if_neg h, if_neg (fun x => x he)]
theorem tone_cases (s : ByteArray) : (kindZ (idOf s) = 0 ∧ tone s = (pz, 0, 8)) ∨ (kindZ (idOf s) ≠ 0 ∧ (tk (kindZ (idOf s)) (s.extract 1 s.size)).e ≠ 0 ∧ tone s = (pz, 0, inn (tk (kindZ (idOf s)) (s.extract 1 s.size)).e)) ∨
  (kindZ (idOf s) ≠ 0 ∧ (tk (kindZ (idOf s)) (s.extract 1 s.size)).e = 0 ∧ tone s = (⟨idOf s, (tk (kindZ (idOf s)) (s.extract 1 s.size)).n, (tk (kindZ (idOf s)) (s.extract 1 s.size)).a, (tk (kindZ (idOf s)) (s.extract 1 s.size)).b⟩, 1 + (tk (kindZ (idOf s)) (s.extract 1 s.size)).k, 0)) := by
 by_cases h : kindZ (idOf s) = 0
 ·exact .inl ⟨h, tone_none h⟩
 ·by_cases he : (tk (kindZ (idOf s)) (s.extract 1 s.size)).e = 0
  ·exact .inr (.inr ⟨h, he, tone_good h he⟩)
  ·exact .inr (.inl ⟨h, he, tone_bad h he⟩)
theorem tone_bound {s : ByteArray} (hs : 0 < s.size) (h : (tone s).2.2 = 0) : 1 ≤ (tone s).2.1 ∧ (tone s).2.1 ≤ (s.size : Int) := by
 rcases tone_cases s with ⟨_, e⟩ | ⟨_, he, e⟩ | ⟨_, he, e⟩
 ·rw [e] at h; cases h
 ·rw [e] at h; exact absurd (inn_zero.1 h) he
 ·rw [e]
  have := tk_bound he
  rw [ByteArray.size_extract] at this
  show 1 ≤ 1 + (tk (kindZ (idOf s)) (s.extract 1 s.size)).k ∧ 1 + (tk (kindZ (idOf s)) (s.extract 1 s.size)).k ≤ _
  omega
def ta (place : Int) : Nat → List P → ByteArray → List P × Int
 | 0, l, _ => (l, 0)
 | f + 1, l, s => if s.size = 0 then (l, 0) else if (tone s).2.2 ≠ 0 then ([], (tone s).2.2) else if mayB place l (tone s).1 = false then ([], 9) else if l.length = 8 then ([], 2)
  else ta place f (l ++ [(tone s).1]) (s.extract (tone s).2.1.toNat s.size)
theorem ta_end {place : Int} {f : Nat} {l : List P} {s : ByteArray} (h : s.size = 0) : ta place (f + 1) l s = (l, 0) := by unfold ta; rw [if_pos h]
theorem ta_bad {place : Int} {f : Nat} {l : List P} {s : ByteArray} (h : s.size ≠ 0) (he : (tone s).2.2 ≠ 0) : ta place (f + 1) l s = ([], (tone s).2.2) := by unfold ta; rw [if_neg h, if_pos he]
theorem ta_no {place : Int} {f : Nat} {l : List P} {s : ByteArray} (h : s.size ≠ 0) (he : (tone s).2.2 = 0) (hm : mayB place l (tone s).1 = false) : ta place (f + 1) l s = ([], 9) := by unfold ta; rw [if_neg h, if_neg (fun x => x he), if_pos hm]
theorem ta_full {place : Int} {f : Nat} {l : List P} {s : ByteArray} (h : s.size ≠ 0) (he : (tone s).2.2 = 0) (hm : mayB place l (tone s).1 = true) (h8 : l.length = 8) : ta place (f + 1) l s = ([], 2) := by
 unfold ta; rw [if_neg h, if_neg (fun x => x he), if_neg (by rw [hm]; decide), if_pos h8]
theorem ta_step {place : Int} {f : Nat} {l : List P} {s : ByteArray} (h : s.size ≠ 0) (he : (tone s).2.2 = 0) (hm : mayB place l (tone s).1 = true) (h8 : l.length ≠ 8) :
  ta place (f + 1) l s = ta place f (l ++ [(tone s).1]) (s.extract (tone s).2.1.toNat s.size) := by
 conv => lhs; unfold ta
 rw [if_neg h, if_neg (fun x => x he), if_neg (by rw [hm]; decide), if_neg h8]
def takeP (place : Int) (s : ByteArray) : List P × Int × Int :=
 if placeB place = false then ([], 0, 1)
 else if (tn s.data.toList).2.2 ≠ 0 then ([], 0, (tn s.data.toList).2.2)
 else if (s.size : Int) - (tn s.data.toList).2.1 < (tn s.data.toList).1 then ([], 0, 7)
 else if (ta place (s.size + 1) [] (s.extract (tn s.data.toList).2.1.toNat ((tn s.data.toList).2.1 + (tn s.data.toList).1).toNat)).2 ≠ 0 then ([], 0, (ta place (s.size + 1) [] (s.extract (tn s.data.toList).2.1.toNat ((tn s.data.toList).2.1 + (tn s.data.toList).1).toNat)).2)
 else ((ta place (s.size + 1) [] (s.extract (tn s.data.toList).2.1.toNat ((tn s.data.toList).2.1 + (tn s.data.toList).1).toNat)).1, (tn s.data.toList).2.1 + (tn s.data.toList).1, 0)
end Go.Proofs.YtdbbcfohjkgdcaaGreat.Prp
namespace Go.Proofs.YtdbbcfohjkgdcaaGreat.Pkt
open Go.Lib Vbi Prp
structure Fl where
 t : ByteArray
 q : Int
 nl : Bool
 ar : Bool
 h : Int
structure Wl where
 has : Bool
 q : Int
 ret : Bool
 t : ByteArray
 b : ByteArray
 ps : List P
structure Pk where
 kind : Int
 dup : Bool
 q : Int
 ret : Bool
 id : Int
 t : ByteArray
 b : ByteArray
 re : Int
 pre : Bool
 cs : List Int
 fs : List Fl
 cl : ByteArray
 clean : Bool
 keep : Int
 w : Wl
 hu : Bool
 u : ByteArray
 hp : Bool
 pw : ByteArray
 ps : List P
def zw : Wl := ⟨false, 0, false, ⟨#[]⟩, ⟨#[]⟩, []⟩
def zp (kind : Int) : Pk := ⟨kind, false, 0, false, 0, ⟨#[]⟩, ⟨#[]⟩, 0, false, [], [], ⟨#[]⟩, false, 0, zw, false, ⟨#[]⟩, false, ⟨#[]⟩, []⟩
inductive Part
 | octet (n : Int)
 | short (n : Int)
 | number (n : Int)
 | words (s : ByteArray)
 | sized (s : ByteArray)
 | props (place : Int) (l : List P)
 | raw (s : ByteArray)
def lgStr (s : ByteArray) : ByteArray := strOfNums (fixZ 2 s.size) ++ s
def fxStr (n : Int) : ByteArray := strOfNums (fixZ 2 n.toNat)
def Part.okB : Part → Bool
 | .octet n => decide (0 ≤ n ∧ n ≤ 255)
 | .short n => decide (0 ≤ n ∧ n < 65536)
 | .number n => decide (1 ≤ n ∧ n < 65536)
 | .words s => textB s
 | .sized s => binB s
 | .props k l => propsB k l
 | .raw _ => true
def Part.str : Part → ByteArray
 | .octet n => strOfNums [n]
 | .short n => fxStr n
 | .number n => fxStr n
 | .words s => lgStr s
 | .sized s => lgStr s
 | .props _ l => propStr l
 | .raw s => s
def allOk (l : List Part) : Bool := l.all Part.okB
def allStr (l : List Part) : ByteArray := l.foldl (fun a p => a ++ p.str) ⟨#[]⟩
theorem allStr_snoc (l : List Part) (p : Part) : allStr (l ++ [p]) = allStr l ++ p.str := by unfold allStr; rw [List.foldl_append]; rfl
theorem empty_add (s : ByteArray) : (⟨#[]⟩ : ByteArray) ++ s = s := ByteArray.empty_append
theorem add_empty (s : ByteArray) : s ++ (⟨#[]⟩ : ByteArray) = s := ByteArray.append_empty
theorem fold_str (l : List Part) (a : ByteArray) : l.foldl (fun a p => a ++ p.str) a = a ++ allStr l := by
 induction l generalizing a with
 | nil => exact (add_empty a).symm
 | cons p t ih =>
  unfold allStr
  rw [List.foldl_cons, List.foldl_cons, ih, ih, empty_add, ByteArray.append_assoc]
theorem allStr_cons (p : Part) (l : List Part) : allStr (p :: l) = p.str ++ allStr l := by
 show List.foldl _ _ _ = _
 rw [List.foldl_cons, fold_str, empty_add]
theorem allStr_nil : allStr [] = ⟨#[]⟩ := rfl
theorem allStr_app (l m : List Part) : allStr (l ++ m) = allStr l ++ allStr m := by
 show List.foldl _ _ _ = _
 rw [List.foldl_append, fold_str]
 rfl
theorem allOk_cons (p : Part) (l : List Part) : allOk (p :: l) = (p.okB && allOk l) := rfl
theorem allOk_app (l m : List Part) : allOk (l ++ m) = (allOk l && allOk m) := by unfold allOk; rw [List.all_append]
def bitZ (b : Bool) (n : Int) : Int := if b = true then n else 0
def flagsZ (p : Pk) : Int := if p.kind = 6 ∨ p.kind = 8 ∨ p.kind = 10 then 2 else bitZ p.dup 8 + 2 * p.q + bitZ p.ret 1
def loginZ (p : Pk) : Int := bitZ p.clean 2 + bitZ p.w.has 4 + 8 * p.w.q + bitZ p.w.ret 32 + bitZ p.hp 64 + bitZ p.hu 128
def filterZ (f : Fl) : Int := f.q + bitZ f.nl 4 + bitZ f.ar 8 + 16 * f.h
def mqtt : ByteArray := ⟨#[77, 81, 84, 84]⟩
def reasonL (p : Pk) : List Part := if p.ps ≠ [] then [.octet p.re, .props p.kind p.ps] else if p.re ≠ 0 then [.octet p.re] else []
def filterL (sub : Bool) (l : List Fl) : List Part := l.flatMap fun f => if sub = true then [.words f.t, .octet (filterZ f)] else [.words f.t]
def codeL (l : List Int) : List Part := l.map .octet
def willL (p : Pk) : List Part := if p.w.has = true then [.props 0 p.w.ps, .words p.w.t, .sized p.w.b] else []
def userL (p : Pk) : List Part := if p.hu = true then [.words p.u] else []
def passL (p : Pk) : List Part := if p.hp = true then [.sized p.pw] else []
def connectL (p : Pk) : List Part := [.words mqtt, .octet 5, .octet (loginZ p), .short p.keep, .props p.kind p.ps, .words p.cl] ++ willL p ++ userL p ++ passL p
def partsL (p : Pk) : List Part :=
 if p.kind = 1 then connectL p
 else if p.kind = 2 then [.octet (bitZ p.pre 1), .octet p.re, .props p.kind p.ps]
 else if p.kind = 3 then (if p.q = 0 then [.words p.t, .props p.kind p.ps, .raw p.b] else [.words p.t, .number p.id, .props p.kind p.ps, .raw p.b])
 else if p.kind = 4 ∨ p.kind = 5 ∨ p.kind = 6 ∨ p.kind = 7 then [.number p.id] ++ reasonL p
 else if p.kind = 8 ∨ p.kind = 10 then [.number p.id, .props p.kind p.ps] ++ filterL (decide (p.kind = 8)) p.fs
 else if p.kind = 9 ∨ p.kind = 11 then [.number p.id, .props p.kind p.ps] ++ codeL p.cs
 else if p.kind = 14 ∨ p.kind = 15 then reasonL p
 else []
def E (s : ByteArray) : Bool := decide (s = ⟨#[]⟩)
def wFilled (w : Wl) : Bool := w.has || (decide (w.q ≠ 0) || (w.ret || (!E w.t || (!E w.b || decide (w.ps ≠ [])))))
def b1 (p : Pk) : Bool := !E p.cl || (p.clean || (decide (p.keep ≠ 0) || (wFilled p.w || (p.hu || (!E p.u || (p.hp || !E p.pw))))))
def b3 (p : Pk) : Bool := p.dup || (decide (p.q ≠ 0) || (p.ret || (!E p.t || !E p.b)))
def fieldOf (k : Int) (x1 x2 x3 x4 x5 x6 x7 x8 : Bool) : Bool :=
 (!x1 || decide (k = 1)) && ((!x2 || decide (k = 2)) && ((!x3 || decide (k = 3)) && ((!x4 || decide (k = 3 ∨ k = 4 ∨ k = 5 ∨ k = 6 ∨ k = 7 ∨ k = 8 ∨ k = 10 ∨ k = 9 ∨ k = 11)) &&
 ((!x5 || decide (k = 2 ∨ k = 4 ∨ k = 5 ∨ k = 6 ∨ k = 7 ∨ k = 14 ∨ k = 15)) && ((!x6 || decide (k = 9 ∨ k = 11)) && ((!x7 || decide (k = 8 ∨ k = 10)) && (!x8 || decide (k ≠ 12 ∧ k ≠ 13))))))))
def fieldB (p : Pk) : Bool := fieldOf p.kind (b1 p) p.pre (b3 p) (p.id != 0) (p.re != 0) (decide (0 < p.cs.length)) (decide (0 < p.fs.length)) (decide (0 < p.ps.length))
def qosB (n : Int) : Bool := decide (0 ≤ n ∧ n ≤ 2)
def onlyB (f : Fl) : Bool := decide (f.q = 0) && (!f.nl && (!f.ar && decide (f.h = 0)))
def mayFilB (f : Fl) : Bool := qosB f.q && qosB f.h
def countB (n : Nat) : Bool := decide (1 ≤ n ∧ n ≤ 4)
def logInB (p : Pk) : Bool := (E p.u || p.hu) && ((E p.pw || p.hp) && (if p.w.has = true then qosB p.w.q && !E p.w.t else !wFilled p.w))
def sendB (dup : Bool) (q : Int) : Bool := qosB q && (decide (0 < q) || !dup)
def askB (p : Pk) : Bool := p.fs.all (fun f => mayFilB f && (decide (p.kind ≠ 10) || onlyB f)) && countB p.fs.length
def mayP (p : Pk) : Bool :=
 decide (1 ≤ p.kind ∧ p.kind ≤ 15) && (fieldB p && (
  if p.kind = 1 then logInB p
  else if p.kind = 3 then sendB p.dup p.q && ((decide (0 < p.q) || decide (p.id = 0)) && decide (p.b.size ≤ 1024))
  else if p.kind = 8 ∨ p.kind = 10 then askB p
  else if p.kind = 9 ∨ p.kind = 11 then countB p.cs.length
  else true))
def restP (p : Pk) : ByteArray := allStr (partsL p)
def strP (p : Pk) : ByteArray := (strOfNums [16 * p.kind + flagsZ p] ++ strOfNums (numZ (restP p).size)) ++ restP p
def packB (p : Pk) : Bool := mayP p && (allOk (partsL p) && decide ((strP p).size ≤ 8192))
def packStr (p : Pk) : ByteArray := if packB p = true then strP p else ⟨#[]⟩
def packErr (p : Pk) : Int := if packB p = true then 0 else 1
theorem pack_yes {p : Pk} (h : packB p = true) : packStr p = strP p ∧ packErr p = 0 := by unfold packStr packErr; rw [if_pos h, if_pos h]; exact ⟨rfl, rfl⟩
theorem pack_no {p : Pk} (h : packB p = false) : packStr p = ⟨#[]⟩ ∧ packErr p = 1 := by
 have h' : ¬ packB p = true := by rw [h]; decide
 unfold packStr packErr; rw [if_neg h', if_neg h']; exact ⟨rfl, rfl⟩
open Go.Lib Vbi Prp
inductive Res (α : Type)
 | ok (v : α) (s : ByteArray)
 | bad (e : Int)
inductive St
 | ok (s : ByteArray)
 | bad (e : Int)
def Res.st {α : Type} : Res α → St
 | .ok _ s => .ok s
 | .bad e => .bad e
def Res.val {α : Type} (z : α) : Res α → α
 | .ok v _ => v
 | .bad _ => z
def St.run {α : Type} (st : St) (f : ByteArray → Res α) : Res α :=
 match st with
 | .ok s => f s
 | .bad e => .bad e
def St.want (st : St) (b : Bool) (e : Int) : St :=
 match st with
 | .ok s => if b = true then .ok s else .bad e
 | .bad e' => .bad e'
def St.rest : St → ByteArray
 | .ok s => s
 | .bad _ => ⟨#[]⟩
def St.err : St → Int
 | .ok _ => 0
 | .bad e => e
def St.isBad : St → Bool
 | .ok _ => false
 | .bad _ => true
def St.more (st : St) : Bool := decide (st.rest.size ≠ 0)
def St.Wf : St → Prop
 | .ok s => s.size ≤ 268435456
 | .bad e => e ≠ 0
def Res.Wf {α : Type} : Res α → Prop
 | .ok _ s => s.size ≤ 268435456
 | .bad e => e ≠ 0
theorem Res.Wf.st {α : Type} {r : Res α} (h : r.Wf) : r.st.Wf := by cases r <;> exact h
theorem want_true (st : St) (e : Int) : st.want true e = st := by cases st <;> rfl
theorem run_ok {α : Type} (f : ByteArray → Res α) (s : ByteArray) : (St.ok s).run f = f s := rfl
theorem St.Wf.want {st : St} (h : st.Wf) (b : Bool) {e : Int} (he : e ≠ 0) : (st.want b e).Wf := by
 cases st with
 | ok s => cases b with
  | false => exact he
  | true => exact h
 | bad e => exact h
def fixR (wd : Nat) (s : ByteArray) : Res Int := if s.size < wd then .bad 8 else .ok (fixVal (s.data.toList.take wd) : Nat) (s.extract wd s.size)
def octetR (s : ByteArray) : Res Int := fixR 1 s
def shortR (s : ByteArray) : Res Int := fixR 2 s
def numberR (s : ByteArray) : Res Int := if s.size < 2 then .bad 8 else if fixVal (s.data.toList.take 2) = 0 then .bad 8 else .ok (fixVal (s.data.toList.take 2) : Nat) (s.extract 2 s.size)
def longR (t : Bool) (s : ByteArray) : Res ByteArray := if (tl t s).2.2 = 0 then .ok (tl t s).1 (s.extract (tl t s).2.1.toNat s.size) else .bad (inn (tl t s).2.2)
def propsR (place : Int) (s : ByteArray) : Res (List P) := if (takeP place s).2.2 = 0 then .ok (takeP place s).1 (s.extract (takeP place s).2.1.toNat s.size) else .bad (inn (takeP place s).2.2)
theorem inn_ne {e : Int} (h : e ≠ 0) : inn e ≠ 0 := fun x => h (inn_zero.1 x)
theorem octet_range (st : St) : 0 ≤ (st.run octetR).val 0 ∧ (st.run octetR).val 0 ≤ 255 := by
 cases st with
 | bad e => exact ⟨Int.le_refl _, show (0 : Int) ≤ 255 by decide⟩
 | ok s =>
  show 0 ≤ (fixR 1 s).val 0 ∧ (fixR 1 s).val 0 ≤ 255
  unfold fixR
  split
  ·exact ⟨Int.le_refl _, show (0 : Int) ≤ 255 by decide⟩
  ·show (0 : Int) ≤ (fixVal (s.data.toList.take 1) : Nat) ∧ ((fixVal (s.data.toList.take 1) : Nat) : Int) ≤ 255
   have h1 := fixVal_one s.data.toList
   omega
def St.optR {α : Type} (st : St) (f : ByteArray → Res α) (z : α) : α × St := if st.more = true then ((st.run f).val z, (st.run f).st) else (z, st)
def ackS (p : Pk) (st : St) : Pk × St :=
 let r0 := st.run octetR
 let r1 := (r0.st.want (decide (r0.val 0 ≤ 1)) 8).run octetR
 let r2 := r1.st.run (propsR p.kind)
 ({ p with pre := decide (r0.val 0 = 1), re := r1.val 0, ps := r2.val [] }, r2.st)
def reasonS (p : Pk) (st : St) : Pk × St :=
 let a := st.optR octetR p.re
 let b := a.2.optR (propsR p.kind) p.ps
 ({ p with re := a.1, ps := b.1 }, b.2)
def idReasonS (p : Pk) (st : St) : Pk × St :=
 let r := st.run numberR
 reasonS { p with id := r.val 0 } r.st
def bodyR (st : St) : ByteArray × St := ((st.want (decide (st.rest.size ≤ 1024)) 2).rest, match st.want (decide (st.rest.size ≤ 1024)) 2 with | .ok _ => .ok ⟨#[]⟩ | .bad e => .bad e)
def publishS (p : Pk) (st : St) : Pk × St :=
 let r0 := st.run (longR true)
 let r1 := if 0 < p.q then r0.st.run numberR else (match r0.st with | .ok s => .ok p.id s | .bad e => .bad e)
 let r2 := r1.st.run (propsR p.kind)
 ({ p with t := r0.val ⟨#[]⟩, id := if 0 < p.q then r1.val 0 else p.id, ps := r2.val [], b := (bodyR r2.st).1 }, (bodyR r2.st).2)
def cfB (n : Int) : Bool := decide (n % 2 = 0 ∧ n / 8 % 4 < 3 ∧ (n / 4 % 2 = 1 ∨ n / 8 % 4 = 0 ∧ n / 32 % 2 = 0))
def willOf (n : Int) : Wl := if n / 4 % 2 = 1 then ⟨true, n / 8 % 4, decide (n / 32 % 2 = 1), ⟨#[]⟩, ⟨#[]⟩, []⟩ else zw
def willS (w : Wl) (st : St) : Wl × St :=
 if w.has = true then
  let r0 := st.run (propsR 0)
  let r1 := r0.st.run (longR true)
  let r2 := (r1.st.want (decide (r1.val ⟨#[]⟩ ≠ ⟨#[]⟩)) 8).run (longR false)
  ({ w with ps := r0.val [], t := r1.val ⟨#[]⟩, b := r2.val ⟨#[]⟩ }, r2.st)
 else (w, st)
def ifR (b : Bool) (t : Bool) (st : St) : ByteArray × St := if b = true then ((st.run (longR t)).val ⟨#[]⟩, (st.run (longR t)).st) else (⟨#[]⟩, st)
def connHead (st : St) : St :=
 let r0 := st.run (longR true)
 let r1 := (r0.st.want (decide (r0.val ⟨#[]⟩ = mqtt)) 9).run octetR
 r1.st.want (decide (r1.val 0 = 5)) 9
def connFlags (st : St) : Int := ((connHead st).run octetR).val 0
def connSt (st : St) : St := ((connHead st).run octetR).st.want (cfB (connFlags st)) 8
def withFlags (p : Pk) (n : Int) (w : Wl) : Pk := { p with clean := decide (n / 2 % 2 = 1), hp := decide (n / 64 % 2 = 1), hu := decide (n / 128 = 1), w := w }
def connRest (p : Pk) (st : St) : Pk × St :=
 let r3 := st.run shortR
 let r4 := r3.st.run (propsR p.kind)
 let r5 := r4.st.run (longR true)
 let w := willS p.w r5.st
 let a := ifR p.hu true w.2
 let b := ifR p.hp false a.2
 ({ p with keep := r3.val 0, ps := r4.val [], cl := r5.val ⟨#[]⟩, w := w.1, u := a.1, pw := b.1 }, b.2)
def connectS (p : Pk) (st : St) : Pk × St := connRest (withFlags p (connFlags st) (willOf (connFlags st))) (connSt st)
def manyR {α : Type} (one : ByteArray → Res α) : Nat → List α → ByteArray → Res (List α)
 | 0, l, s => .ok l s
 | f + 1, l, s => if s.size = 0 then (if l.length = 0 then .bad 9 else .ok l s) else if l.length = 4 then .bad 2 else match one s with
  | .ok v s' => manyR one f (l ++ [v]) s'
  | .bad e => .bad e
def filOf (t : ByteArray) (n : Int) : Fl := ⟨t, n % 4, decide (n / 4 % 2 = 1), decide (n / 8 % 2 = 1), n / 16⟩
def filterS (sub : Bool) (st : St) : Fl × St :=
 let r0 := st.run (longR true)
 if sub = true then
  let r1 := r0.st.run octetR
  let n := r1.val 0
  (filOf (r0.val ⟨#[]⟩) n, r1.st.want (decide (n % 4 < 3 ∧ n / 16 < 3)) 9)
 else (⟨r0.val ⟨#[]⟩, 0, false, false, 0⟩, r0.st)
def filterR (sub : Bool) (s : ByteArray) : Res Fl := match filterS sub (.ok s) with
 | (f, .ok s') => .ok f s'
 | (_, .bad e) => .bad e
def askS (sub : Bool) (p : Pk) (st : St) : Pk × St :=
 let r0 := st.run numberR
 let r1 := r0.st.run (propsR p.kind)
 let r2 := r1.st.run (manyR (filterR sub) 5 [])
 ({ p with id := r0.val 0, ps := r1.val [], fs := r2.val [] }, r2.st)
def codesS (p : Pk) (st : St) : Pk × St :=
 let r0 := st.run numberR
 let r1 := r0.st.run (propsR p.kind)
 let r2 := r1.st.run (manyR octetR 5 [])
 ({ p with id := r0.val 0, ps := r1.val [], cs := r2.val [] }, r2.st)
def partsS (p : Pk) (st : St) : Pk × St :=
 if p.kind = 1 then connectS p st
 else if p.kind = 2 then ackS p st
 else if p.kind = 3 then publishS p st
 else if p.kind = 4 ∨ p.kind = 5 ∨ p.kind = 6 ∨ p.kind = 7 then idReasonS p st
 else if p.kind = 8 then askS true p st
 else if p.kind = 10 then askS false p st
 else if p.kind = 9 ∨ p.kind = 11 then codesS p st
 else if p.kind = 14 ∨ p.kind = 15 then reasonS p st
 else (p, st)
def headP (c : Int) : Pk := if c / 16 = 3 then { zp 3 with dup := decide (8 ≤ c % 16), q := c % 16 / 2 % 4, ret := decide (c % 2 = 1) } else zp (c / 16)
def headB (c : Int) : Bool := decide (c / 16 ≠ 0) && (if c / 16 = 3 then sendB (headP c).dup (headP c).q else decide (flagsZ (headP c) = c % 16))
def bodyS (c : Int) (s : ByteArray) : Pk × St :=
 let r := partsS (headP c) (if headB c = true then .ok s else .bad 8)
 (r.1, r.2.want (decide (r.2.rest.size = 0)) 8)
def takeS (s : ByteArray) : Pk × Int × Int :=
 if s.size = 0 then (zp 0, 0, 7)
 else if (tn (s.extract 1 s.size).data.toList).2.2 ≠ 0 then (zp 0, 0, (tn (s.extract 1 s.size).data.toList).2.2)
 else if 8192 < 1 + (tn (s.extract 1 s.size).data.toList).2.1 + (tn (s.extract 1 s.size).data.toList).1 then (zp 0, 0, 2)
 else if (s.size : Int) < 1 + (tn (s.extract 1 s.size).data.toList).2.1 + (tn (s.extract 1 s.size).data.toList).1 then (zp 0, 0, 7)
 else match bodyS (idOf s) (s.extract (1 + (tn (s.extract 1 s.size).data.toList).2.1).toNat (1 + (tn (s.extract 1 s.size).data.toList).2.1 + (tn (s.extract 1 s.size).data.toList).1).toNat) with
  | (p, .ok _) => (p, 1 + (tn (s.extract 1 s.size).data.toList).2.1 + (tn (s.extract 1 s.size).data.toList).1, 0)
  | (_, .bad e) => (zp 0, 0, e)
end Go.Proofs.YtdbbcfohjkgdcaaGreat.Pkt
namespace Go.Proofs.YtdbbcfohjkgdcaaGreat.Prp
open Go.Lib Vbi
theorem ta_err (place : Int) (f : Nat) (l : List P) (s : ByteArray) (h : (ta place f l s).2 ≠ 0) : (ta place f l s).1 = [] := by
 induction f generalizing l s with
 | zero => exact absurd rfl h
 | succ f ih =>
  by_cases h0 : s.size = 0
  ·rw [ta_end h0] at h; exact absurd rfl h
  by_cases he : (tone s).2.2 = 0
  ·cases hm : mayB place l (tone s).1 with
   | false => rw [ta_no h0 he hm]
   | true =>
    by_cases h8 : l.length = 8
    ·rw [ta_full h0 he hm h8]
    ·rw [ta_step h0 he hm h8] at h ⊢
     exact ih _ _ h
  ·rw [ta_bad h0 he]
theorem takeP_cases {place : Int} (s : ByteArray) (hp : placeB place = true) :
  (∃ E, tn s.data.toList = (0, 0, E) ∧ E ≠ 0 ∧ takeP place s = ([], 0, E)) ∨
  (∃ m q : Nat, tn s.data.toList = ((m : Int), (q : Int), 0) ∧ q ≤ s.size ∧ m < 268435456 ∧ s.size < q + m ∧ takeP place s = ([], 0, 7)) ∨
  (∃ (m q : Nat) (E : Int), tn s.data.toList = ((m : Int), (q : Int), 0) ∧ q ≤ s.size ∧ m < 268435456 ∧ q + m ≤ s.size ∧ ta place (s.size + 1) [] (s.extract q (q + m)) = ([], E) ∧ E ≠ 0 ∧ takeP place s = ([], 0, E)) ∨
  (∃ (m q : Nat) (L : List P), tn s.data.toList = ((m : Int), (q : Int), 0) ∧ q ≤ s.size ∧ m < 268435456 ∧ q + m ≤ s.size ∧ ta place (s.size + 1) [] (s.extract q (q + m)) = (L, 0) ∧ takeP place s = (L, (q : Int) + (m : Int), 0)) := by
 unfold takeP
 rw [if_neg (by rw [hp]; decide)]
 rcases num_wrote s with ⟨E, e, hE⟩ | ⟨m, q, e, hm, hq, _⟩
 ·exact .inl ⟨E, e, hE, by rw [e, if_pos hE]⟩
 ·rw [e, if_neg (fun x => x rfl)]
  have e1 : ((q : Int)).toNat = q := Int.toNat_natCast q
  have e2 : ((q : Int) + (m : Int)).toNat = q + m := by omega
  by_cases h7 : s.size < q + m
  ·exact .inr (.inl ⟨m, q, rfl, hq, hm, h7, by rw [if_pos (by show (s.size : Int) - (q : Int) < (m : Int); omega)]⟩)
  ·rw [if_neg (by show ¬ (s.size : Int) - (q : Int) < (m : Int); omega)]
   by_cases hE : (ta place (s.size + 1) [] (s.extract q (q + m))).2 = 0
   ·refine .inr (.inr (.inr ⟨m, q, (ta place (s.size + 1) [] (s.extract q (q + m))).1, rfl, hq, hm, by omega, by rw [← hE], ?_⟩))
    show (if (ta place (s.size + 1) [] (s.extract (q : Int).toNat ((q : Int) + (m : Int)).toNat)).2 ≠ 0 then _ else _) = _
    rw [e1, e2, if_neg (fun x => x hE)]
   ·refine .inr (.inr (.inl ⟨m, q, (ta place (s.size + 1) [] (s.extract q (q + m))).2, rfl, hq, hm, by omega, Prod.ext (ta_err _ _ _ _ hE) rfl, hE, ?_⟩))
    show (if (ta place (s.size + 1) [] (s.extract (q : Int).toNat ((q : Int) + (m : Int)).toNat)).2 ≠ 0 then _ else _) = _
    rw [e1, e2, if_pos hE]
theorem takeP_place {place : Int} (s : ByteArray) (hp : placeB place = false) : takeP place s = ([], 0, 1) := by unfold takeP; rw [if_pos hp]
end Go.Proofs.YtdbbcfohjkgdcaaGreat.Prp
namespace Go.Proofs.YtdbbcfohjkgdcaaGreat.Pkt
open Go.Lib Vbi Prp
def endS (p : Pk) (n : Nat) : St → Pk × Int × Int
 | .ok _ => (p, (n : Int), 0)
 | .bad e => (zp 0, 0, e)
theorem endS_eq (p : Pk) (n : Nat) (st : St) : endS p n st = if st.isBad = false then (p, (n : Int), 0) else (zp 0, 0, st.err) := by
 cases st with
 | ok s => exact (if_pos (show (St.ok s).isBad = false from rfl)).symm
 | bad e => exact (if_neg (show ¬ (St.bad e).isBad = false from fun h => by cases h)).symm
theorem err_ok {st : St} (h : st.isBad = false) : st.err = 0 := by
 cases st with
 | ok s => rfl
 | bad e => cases h
theorem err_bad {st : St} (hw : st.Wf) (h : st.isBad = true) : st.err ≠ 0 := by
 cases st with
 | ok s => cases h
 | bad e => exact hw
def TakeBody (s : ByteArray) (m q : Nat) : Prop :=
 (8192 < 1 + q + m ∧ takeS s = (zp 0, 0, 2)) ∨ (1 + q + m ≤ 8192 ∧ s.size < 1 + q + m ∧ takeS s = (zp 0, 0, 7)) ∨
 (1 + q + m ≤ 8192 ∧ 1 + q + m ≤ s.size ∧ ∃ p st, bodyS (idOf s) (s.extract (1 + q) (1 + q + m)) = (p, st) ∧ takeS s = endS p (1 + q + m) st)
theorem takeS_cases (s : ByteArray) : (s.size = 0 ∧ takeS s = (zp 0, 0, 7)) ∨ (s.size ≠ 0 ∧ ∃ E, tn (s.extract 1 s.size).data.toList = (0, 0, E) ∧ E ≠ 0 ∧ takeS s = (zp 0, 0, E)) ∨
  (s.size ≠ 0 ∧ ∃ m q : Nat, tn (s.extract 1 s.size).data.toList = ((m : Int), (q : Int), 0) ∧ 1 + q ≤ s.size ∧ m < 268435456 ∧ strOfNums (numZ m) = (s.extract 1 s.size).extract 0 q ∧ TakeBody s m q) := by
 by_cases h0 : s.size = 0
 ·refine .inl ⟨h0, ?_⟩
  unfold takeS
  rw [if_pos h0]
 ·refine .inr ?_
  rcases num_wrote (s.extract 1 s.size) with ⟨E, ht, hE⟩ | ⟨m, q, ht, hm, hq, hw⟩
  ·refine .inl ⟨h0, E, ht, hE, ?_⟩
   unfold takeS
   rw [if_neg h0, ht, if_pos hE]
  ·rw [ByteArray.size_extract] at hq
   refine .inr ⟨h0, m, q, ht, by omega, hm, hw, ?_⟩
   unfold TakeBody takeS
   rw [if_neg h0, ht, if_neg (not_not_intro rfl)]
   by_cases h8 : 8192 < 1 + q + m
   ·refine .inl ⟨h8, ?_⟩
    show (if (8192 : Int) < 1 + (q : Int) + (m : Int) then _ else _) = _
    rw [if_pos (by omega)]
   ·refine .inr ?_
    by_cases hl : s.size < 1 + q + m
    ·refine .inl ⟨by omega, hl, ?_⟩
     show (if (8192 : Int) < 1 + (q : Int) + (m : Int) then _ else if (s.size : Int) < 1 + (q : Int) + (m : Int) then _ else _) = _
     rw [if_neg (by omega), if_pos (by omega)]
    ·refine .inr ⟨by omega, by omega, ?_⟩
     have e1 : (1 + (q : Int)).toNat = 1 + q := by omega
     have e2 : (1 + (q : Int) + (m : Int)).toNat = 1 + q + m := by omega
     have key : (if (8192 : Int) < 1 + (q : Int) + (m : Int) then (zp 0, (0 : Int), (2 : Int)) else (if (s.size : Int) < 1 + (q : Int) + (m : Int) then (zp 0, 0, 7) else match bodyS (idOf s) (s.extract (1 + (q : Int)).toNat (1 + (q : Int) + (m : Int)).toNat) with | (p, .ok _) => (p, 1 + (q : Int) + (m : Int), 0) | (_, .bad e) => (zp 0, 0, e))) = match bodyS (idOf s) (s.extract (1 + q) (1 + q + m)) with | (p, .ok _) => (p, 1 + (q : Int) + (m : Int), 0) | (_, .bad e) => (zp 0, 0, e) := by
      rw [if_neg (by omega), if_neg (by omega), e1, e2]
     suffices h : ∃ p st, bodyS (idOf s) (s.extract (1 + q) (1 + q + m)) = (p, st) ∧ (match bodyS (idOf s) (s.extract (1 + q) (1 + q + m)) with | (p, .ok _) => (p, 1 + (q : Int) + (m : Int), (0 : Int)) | (_, .bad e) => (zp 0, 0, e)) = endS p (1 + q + m) st by
      obtain ⟨p, st, h1, h2⟩ := h
      exact ⟨p, st, h1, key.trans h2⟩
     obtain ⟨p, st, hb⟩ : ∃ p st, bodyS (idOf s) (s.extract (1 + q) (1 + q + m)) = (p, st) := ⟨_, _, rfl⟩
     rw [hb]
     refine ⟨p, st, rfl, ?_⟩
     cases st with
     | ok s' =>
      have : (1 + (q : Int) + (m : Int)) = ((1 + q + m : Nat) : Int) := by omega
      show (p, 1 + (q : Int) + (m : Int), (0 : Int)) = (p, ((1 + q + m : Nat) : Int), 0)
      rw [this]
     | bad e => rfl
end Go.Proofs.YtdbbcfohjkgdcaaGreat.Pkt
