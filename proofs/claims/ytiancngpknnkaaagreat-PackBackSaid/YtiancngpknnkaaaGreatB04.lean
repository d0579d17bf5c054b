/- What a list of asks (a packet, bytes) is in memory, out of the reading of an argument. -/
import Derived.Test.YtiancngpknnkaaaGreatB03
import Derived.Test.YtiancngpknnkaaaGreatB01
import Derived.Test.YtiancngpknnkaaaGreatRows
import Derived.ProofKit
import Derived.Deep.Slices
import Derived.SizedLaws
import Derived.ChangeOld
import Derived.Below
set_option maxRecDepth 100000
set_option maxHeartbeats 64000000
namespace Go.Proofs.YtiancngpknnkaaaGreat
open Go.RowKit Go.Lib Vbi Txt
def loErr (t : Bool) (s : ByteArray) : Int := if t = true then textErr s.data.toList else binErr s
def loStr (t : Bool) (s : ByteArray) : ByteArray := if loErr t s = 0 then strOfNums (fixZ 2 s.size) ++ s else ⟨#[]⟩
def tlErr (t : Bool) (s : ByteArray) : Int := if t = true then textErr s.data.toList else 0
def tl (t : Bool) (s : ByteArray) : ByteArray × Int × Int := if (tb s).2.2 = 0 ∧ tlErr t (tb s).1 ≠ 0 then (⟨#[]⟩, 0, tlErr t (tb s).1) else tb s
theorem textErr_zero {l : List UInt8} (h : textErr l = 0) : l.length ≤ 1024 := by
  unfold textErr at h
  by_cases c : 1024 < l.length
  · rw [if_pos c] at h; cases h
  · omega
theorem loErr_zero {t : Bool} {s : ByteArray} (h : loErr t s = 0) : s.size ≤ 1024 := by
  unfold loErr at h
  cases t with
  | true => rw [if_pos rfl] at h; rw [Lib.size_eq]; exact textErr_zero h
  | false =>
    rw [if_neg (by simp)] at h
    unfold binErr at h
    by_cases c : 1024 < s.size
    · rw [if_pos c] at h; cases h
    · omega
theorem lo_cases (t : Bool) (s : ByteArray) : (loErr t s = 0 ∧ s.size ≤ 1024 ∧ loStr t s = strOfNums (fixZ 2 s.size) ++ s) ∨ (loErr t s ≠ 0 ∧ loStr t s = ⟨#[]⟩) := by
  unfold loStr
  by_cases h : loErr t s = 0
  · rw [if_pos h]; exact .inl ⟨h, loErr_zero h, rfl⟩
  · rw [if_neg h]; exact .inr ⟨h, rfl⟩
theorem Check_eq (s : ByteArray) (E : Int) (w : World) (hm : s.size ≤ 9223372036854775807) (hE : textErr s.data.toList = E) :
    Calls Tryz.prog 135 #[.string s] w fun e w' => e = .returned (.int .i64 E) ∧ Below w.heap.size w w' := by
  rw [← hE]; exact Check_any s w hm
theorem Text_is (s S : ByteArray) (E : Int) (w : World) (hm : s.size ≤ 9223372036854775807) (hS : loStr true s = S) (hE : loErr true s = E) :
    Calls Tryz.prog 108 #[.string s] w fun e w' => e = .returned (.tuple #[.string S, .int .i64 E]) ∧ Below w.heap.size w w' := by
  have he : textErr s.data.toList = E := by rw [← hE]; rfl
  have HK := Lib.hid (fun W => Check_eq s E W hm he)
  rcases lo_cases true s with ⟨h0, hl, e1⟩ | ⟨h0, e1⟩
  · obtain rfl : 0 = E := h0.symm.trans hE
    have HB := Lib.hid (fun W => Bin_good s S W hl (e1.symm.trans hS))
    clear hS hE he h0 e1
    go_enter Tryz.func108, Tryz.ntmps108
    go_wp2_with fail
    refine (HK.out _).mono ?_
    rintro e w1 ⟨rfl, hb1⟩
    have HX := Lib.hid hb1
    clear hb1
    go_wp2_with fail
    refine (HB.out _).mono ?_
    rintro e w2 ⟨rfl, hb2⟩
    go_wp2_with fail
    go_ret2
    exact ⟨rfl, HX.out.trans (hb2.mono HX.out.size)⟩
  · obtain rfl : ⟨#[]⟩ = S := e1.symm.trans hS
    have hne : (E != 0) = true := by rw [bne_iff_ne, ← hE]; exact h0
    clear hS hE he h0 e1
    go_enter Tryz.func108, Tryz.ntmps108
    go_wp2_with fail
    refine (HK.out _).mono ?_
    rintro e w1 ⟨rfl, hb1⟩
    have HX := Lib.hid hb1
    clear hb1
    go_wp2_with fail
    go_ret2
    exact ⟨rfl, HX.out⟩
theorem tl_bad {t : Bool} {s : ByteArray} (h : (tb s).2.2 ≠ 0) : tl t s = tb s := by unfold tl; rw [if_neg (fun x => h x.1)]
theorem tl_false (s : ByteArray) : tl false s = tb s := by
  unfold tl; rw [if_neg (fun x => x.2 rfl)]
theorem tl_good {t : Bool} {s T : ByteArray} {K : Int} (h : tb s = (T, K, 0)) (h2 : tlErr t T = 0) : tl t s = (T, K, 0) := by
  unfold tl; rw [if_neg (fun x => x.2 (by rw [h]; exact h2)), h]
theorem tl_wrong {t : Bool} {s T : ByteArray} {K : Int} (h : tb s = (T, K, 0)) (h2 : tlErr t T ≠ 0) : tl t s = (⟨#[]⟩, 0, tlErr t T) := by
  unfold tl; rw [h, if_pos ⟨rfl, h2⟩]
theorem tb_err (s : ByteArray) : ((tb s).2.2 ≠ 0 ∧ (tb s).1 = ⟨#[]⟩ ∧ (tb s).2.1 = 0) ∨ (∃ T K, tb s = (T, K, 0) ∧ T.size ≤ 1024) := by
  rcases tb_cases s with ⟨_, e⟩ | ⟨_, _, e⟩ | ⟨_, _, _, e⟩ | ⟨h1, h2, e⟩
  · left; rw [e]; simp
  · left; rw [e]; simp
  · left; rw [e]; simp
  · right; exact ⟨_, _, e, by rw [ByteArray.size_extract]; omega⟩
theorem TakeText_is (s S : ByteArray) (K E : Int) (w : World) (hm : s.size ≤ 281474976710656) (h : tl true s = (S, K, E)) :
    Calls Tryz.prog 167 #[.string s] w fun e w' => e = .returned (.tuple #[.string S, .int .i64 K, .int .i64 E]) ∧ Below w.heap.size w w' := by
  rcases tb_err s with ⟨h0, h1, h2⟩ | ⟨T, K', hT, hz⟩
  · rw [tl_bad h0] at h
    rw [h] at h0 h1 h2
    simp only [] at h0 h1 h2
    subst h1 h2
    have HB := Lib.hid (fun W => TakeBin_is s _ _ E W hm h)
    have hne : (E != 0) = true := by rw [bne_iff_ne]; exact h0
    have heq : (E == 0) = false := by rw [beq_eq_false_iff_ne]; exact h0
    clear h h0
    go_enter Tryz.func167, Tryz.ntmps167
    go_wp2_with fail
    refine (HB.out _).mono ?_
    rintro e w1 ⟨rfl, hb1⟩
    have HX := Lib.hid hb1
    clear hb1
    go_wp2_with fail
    go_ret3
    exact ⟨rfl, HX.out⟩
  · have HB := Lib.hid (fun W => TakeBin_is s _ _ 0 W hm hT)
    by_cases hc : textErr T.data.toList = 0
    · rw [tl_good (t := true) hT hc] at h
      obtain ⟨rfl, rfl, rfl⟩ : T = S ∧ K' = K ∧ 0 = E := by
        injection h with a b
        injection b with b c
        exact ⟨a, b, c⟩
      have HK := Lib.hid (fun W => Check_eq T 0 W (by omega) hc)
      clear h hc hT
      go_enter Tryz.func167, Tryz.ntmps167
      go_wp2_with fail
      refine (HB.out _).mono ?_
      rintro e w1 ⟨rfl, hb1⟩
      have HX := Lib.hid hb1
      clear hb1
      go_wp2_with fail
      refine (HK.out _).mono ?_
      rintro e w2 ⟨rfl, hb2⟩
      go_wp2_with fail
      go_ret3
      exact ⟨rfl, HX.out.trans (hb2.mono HX.out.size)⟩
    · rw [tl_wrong (t := true) hT hc] at h
      have he : textErr T.data.toList = E := by
        injection h with a b
        injection b with b c
      obtain ⟨rfl, rfl⟩ : ⟨#[]⟩ = S ∧ 0 = K := by
        injection h with a b
        injection b with b c
        exact ⟨a, b⟩
      have HK := Lib.hid (fun W => Check_eq T E W (by omega) he)
      have hne : (E != 0) = true := by rw [bne_iff_ne, ← he]; exact hc
      clear h hc hT he
      go_enter Tryz.func167, Tryz.ntmps167
      go_wp2_with fail
      refine (HB.out _).mono ?_
      rintro e w1 ⟨rfl, hb1⟩
      have HX := Lib.hid hb1
      clear hb1
      go_wp2_with fail
      refine (HK.out _).mono ?_
      rintro e w2 ⟨rfl, hb2⟩
      go_wp2_with fail
      go_ret3
      exact ⟨rfl, HX.out.trans (hb2.mono HX.out.size)⟩
open Go.RowKit Go.Lib Vbi
theorem data_add (a b : ByteArray) : (a ++ b).data.toList = a.data.toList ++ b.data.toList := by rw [ByteArray.data_append, Array.toList_append]
theorem data_take (a : ByteArray) (k : Nat) : (a.extract 0 k).data.toList = a.data.toList.take k := by rw [Lib.extract_data]; simp
theorem bytes_ext {a b : ByteArray} (h : a.data.toList = b.data.toList) : a = b := ByteArray.ext (Array.toList_inj.1 h)
theorem num_back {n : Nat} (h : n < 268435456) (y : ByteArray) : tn (strOfNums (numZ n) ++ y).data.toList = ((n : Int), ((strOfNums (numZ n)).size : Int), 0) := by
  rw [data_add, strOf_data, tn_back h, strOfNums_size]
theorem num_cut {n : Nat} (h : n < 268435456) (j : Nat) (hj : j < (strOfNums (numZ n)).size) : tn ((strOfNums (numZ n)).extract 0 j).data.toList = (0, 0, 7) := by
  rw [strOfNums_size] at hj
  rw [data_take, strOf_data]
  exact tn_cut h j hj
theorem num_wrote (y : ByteArray) : (∃ E, tn y.data.toList = (0, 0, E) ∧ E ≠ 0) ∨ ∃ m k : Nat, tn y.data.toList = ((m : Int), (k : Int), 0) ∧ m < 268435456 ∧ k ≤ y.size ∧ strOfNums (numZ m) = y.extract 0 k := by
  rcases tn_wrote y.data.toList with (h | h) | ⟨m, k, h1, h2, h3, h4⟩
  · exact .inl ⟨7, h, by decide⟩
  · exact .inl ⟨8, h, by decide⟩
  · exact .inr ⟨m, k, h1, h2, by rw [Lib.size_eq]; exact h3, bytes_ext (by rw [strOf_data, data_take, h4])⟩
theorem bin_size (s : ByteArray) : (strOfNums (fixZ 2 s.size) ++ s).size = 2 + s.size := by rw [ByteArray.size_append, fix2_size]
theorem tbN_bin (s z : ByteArray) (h : s.size ≤ 1024) (hz : z.data.toList.take 2 = (strOfNums (fixZ 2 s.size)).data.toList) : tbN z = s.size := by
  unfold tbN
  rw [hz, strOf_data]
  have := fix2_back (n := s.size) (by omega) []
  rw [List.append_nil] at this
  rw [List.take_of_length_le (by unfold bytesOf; rw [List.length_map, fixZ_len]; omega)] at this
  exact this
theorem fix2_len (n : Nat) : (strOfNums (fixZ 2 n)).data.toList.length = 2 := by rw [← Lib.size_eq, fix2_size]
theorem bin_back (s y : ByteArray) (h : s.size ≤ 1024) : tb ((strOfNums (fixZ 2 s.size) ++ s) ++ y) = (s, ((strOfNums (fixZ 2 s.size) ++ s).size : Int), 0) := by
  have hN : tbN ((strOfNums (fixZ 2 s.size) ++ s) ++ y) = s.size := by
    refine tbN_bin s _ h ?_
    rw [data_add, data_add, List.append_assoc, List.take_append_of_le_length (by rw [fix2_len]; omega), List.take_of_length_le (by rw [fix2_len]; omega)]
  have hz : ((strOfNums (fixZ 2 s.size) ++ s) ++ y).size = 2 + s.size + y.size := by rw [ByteArray.size_append, bin_size]
  unfold tb
  rw [hN, if_neg (by omega), if_neg (by omega), if_neg (by omega), bin_size]
  refine congrArg (·, ((2 + s.size : Nat) : Int), (0 : Int)) ?_
  apply bytes_ext
  rw [Lib.extract_data, data_add, data_add, List.append_assoc]
  rw [List.drop_append_of_le_length (by rw [fix2_len]; omega), List.drop_of_length_le (by rw [fix2_len]; omega), List.nil_append]
  rw [List.take_append_of_le_length (by rw [← Lib.size_eq]; omega), List.take_of_length_le (by rw [← Lib.size_eq]; omega)]
end Go.Proofs.YtiancngpknnkaaaGreat
namespace Go.Proofs.YtiancngpknnkaaaGreat.Prp
open Go.Lib Vbi
structure P where
  id : Int
  n : Int
  s : ByteArray
  v : ByteArray
def kindZ (id : Int) : Int :=
  if id = 1 ∨ id = 23 ∨ id = 25 ∨ id = 36 ∨ id = 37 ∨ id = 40 ∨ id = 41 ∨ id = 42 then 1
  else if id = 19 ∨ id = 33 ∨ id = 34 ∨ id = 35 then 2
  else if id = 2 ∨ id = 17 ∨ id = 24 ∨ id = 39 then 3
  else if id = 11 then 4
  else if id = 3 ∨ id = 8 ∨ id = 18 ∨ id = 21 ∨ id = 26 ∨ id = 28 ∨ id = 31 then 5
  else if id = 9 ∨ id = 22 then 6
  else if id = 38 then 7 else 0
def NoId (id : Int) : Prop := (id ≠ 1 ∧ id ≠ 23 ∧ id ≠ 25 ∧ id ≠ 36 ∧ id ≠ 37 ∧ id ≠ 40 ∧ id ≠ 41 ∧ id ≠ 42) ∧ (id ≠ 19 ∧ id ≠ 33 ∧ id ≠ 34 ∧ id ≠ 35) ∧ (id ≠ 2 ∧ id ≠ 17 ∧ id ≠ 24 ∧ id ≠ 39) ∧ id ≠ 11 ∧
  (id ≠ 3 ∧ id ≠ 8 ∧ id ≠ 18 ∧ id ≠ 21 ∧ id ≠ 26 ∧ id ≠ 28 ∧ id ≠ 31) ∧ (id ≠ 9 ∧ id ≠ 22) ∧ id ≠ 38
theorem kind_cases (id : Int) : (id = 1 ∨ id = 23 ∨ id = 25 ∨ id = 36 ∨ id = 37 ∨ id = 40 ∨ id = 41 ∨ id = 42) ∨ (id = 19 ∨ id = 33 ∨ id = 34 ∨ id = 35) ∨ (id = 2 ∨ id = 17 ∨ id = 24 ∨ id = 39) ∨ id = 11 ∨
    (id = 3 ∨ id = 8 ∨ id = 18 ∨ id = 21 ∨ id = 26 ∨ id = 28 ∨ id = 31) ∨ (id = 9 ∨ id = 22) ∨ id = 38 ∨ NoId id := by
  unfold NoId; omega
theorem kind_none {id : Int} (h : NoId id) : kindZ id = 0 := by
  obtain ⟨h1, h2, h3, h4, h5, h6, h7⟩ := h
  unfold kindZ
  rw [if_neg (by omega), if_neg (by omega), if_neg (by omega), if_neg (by omega), if_neg (by omega), if_neg (by omega), if_neg (by omega)]
theorem kind_range (id : Int) : 0 ≤ kindZ id ∧ kindZ id ≤ 7 := by
  unfold kindZ; repeat' split
  all_goals omega
def kindErr (id : Int) : Int := if kindZ id = 0 then 3 else 0
def placeB (place : Int) : Bool := decide (0 ≤ place ∧ place ≤ 15)
def standL (place : Int) : List Int :=
  if place = 0 then [1, 2, 3, 8, 9, 24, 38]
  else if place = 1 then [17, 21, 22, 23, 25, 33, 34, 38, 39]
  else if place = 2 then [17, 18, 19, 21, 22, 26, 28, 31, 33, 34, 36, 37, 38, 39, 40, 41, 42]
  else if place = 3 then [1, 2, 3, 8, 9, 11, 35, 38]
  else if place = 4 ∨ place = 5 ∨ place = 6 ∨ place = 7 ∨ place = 9 ∨ place = 11 then [31, 38]
  else if place = 8 then [11, 38]
  else if place = 10 then [38]
  else if place = 14 then [17, 28, 31, 38]
  else if place = 15 then [21, 22, 31, 38] else []
def standB (place id : Int) : Bool := (standL place).contains id
theorem place_cases (place : Int) : place = 0 ∨ place = 1 ∨ place = 2 ∨ place = 3 ∨ (place = 4 ∨ place = 5 ∨ place = 6 ∨ place = 7 ∨ place = 9 ∨ place = 11) ∨ place = 8 ∨ place = 10 ∨ place = 14 ∨ place = 15 ∨
    (place ≠ 0 ∧ place ≠ 1 ∧ place ≠ 2 ∧ place ≠ 3 ∧ (place ≠ 4 ∧ place ≠ 5 ∧ place ≠ 6 ∧ place ≠ 7 ∧ place ≠ 9 ∧ place ≠ 11) ∧ place ≠ 8 ∧ place ≠ 10 ∧ place ≠ 14 ∧ place ≠ 15) := by omega
theorem stand_none {place : Int} (h : place ≠ 0 ∧ place ≠ 1 ∧ place ≠ 2 ∧ place ≠ 3 ∧ (place ≠ 4 ∧ place ≠ 5 ∧ place ≠ 6 ∧ place ≠ 7 ∧ place ≠ 9 ∧ place ≠ 11) ∧ place ≠ 8 ∧ place ≠ 10 ∧ place ≠ 14 ∧ place ≠ 15) : standL place = [] := by
  obtain ⟨h1, h2, h3, h4, h5, h6, h7, h8, h9⟩ := h
  unfold standL
  rw [if_neg h1, if_neg h2, if_neg h3, if_neg h4, if_neg (by omega), if_neg h6, if_neg h7, if_neg h8, if_neg h9]
theorem stand_kind {place id : Int} (h : standB place id = true) : kindZ id ≠ 0 := by
  have key : ∀ l : List Int, (∀ x ∈ l, kindZ x ≠ 0) → l.contains id = true → kindZ id ≠ 0 := fun l hl hc => hl id (by simpa using hc)
  unfold standB at h
  rcases place_cases place with rfl | rfl | rfl | rfl | c | rfl | rfl | rfl | rfl | c
  · exact key _ (by decide) h
  · exact key _ (by decide) h
  · exact key _ (by decide) h
  · exact key _ (by decide) h
  · rcases c with rfl | rfl | rfl | rfl | rfl | rfl <;> exact key _ (by decide) h
  · exact key _ (by decide) h
  · exact key _ (by decide) h
  · exact key _ (by decide) h
  · exact key _ (by decide) h
  · rw [stand_none c] at h; cases h
def repB (place id : Int) : Bool := decide (id = 38 ∨ (id = 11 ∧ place = 3))
def twiceB (place id : Int) (l : List P) : Bool := !repB place id && l.any fun q => decide (q.id = id)
def noZ (id : Int) : Prop := id = 11 ∨ id = 33 ∨ id = 35 ∨ id = 39
instance (id : Int) : Decidable (noZ id) := by unfold noZ; exact inferInstance
def haveB (id n : Int) : Bool := if noZ id then decide (n ≠ 0) else decide (kindZ id ≠ 1 ∨ n = 0 ∨ n = 1)
def textB (s : ByteArray) : Bool := decide (loErr true s = 0)
def binB (s : ByteArray) : Bool := decide (s.size ≤ 1024)
def valB (k : Int) (p : P) : Bool :=
  if k = 1 then decide ((p.n = 0 ∨ p.n = 1) ∧ p.s = ⟨#[]⟩ ∧ p.v = ⟨#[]⟩)
  else if k = 2 then decide ((0 ≤ p.n ∧ p.n < 65536) ∧ p.s = ⟨#[]⟩ ∧ p.v = ⟨#[]⟩)
  else if k = 3 then decide ((0 ≤ p.n ∧ p.n < 4294967296) ∧ p.s = ⟨#[]⟩ ∧ p.v = ⟨#[]⟩)
  else if k = 4 then decide ((0 ≤ p.n ∧ p.n < 268435456) ∧ p.s = ⟨#[]⟩ ∧ p.v = ⟨#[]⟩)
  else if k = 5 then decide (p.n = 0 ∧ textB p.s = true ∧ p.v = ⟨#[]⟩)
  else if k = 6 then decide (p.n = 0 ∧ binB p.s = true ∧ p.v = ⟨#[]⟩)
  else decide (p.n = 0 ∧ textB p.s = true ∧ textB p.v = true)
def valStr (k : Int) (p : P) : ByteArray :=
  if k = 1 then strOfNums [p.n]
  else if k = 2 then strOfNums (fixZ 2 p.n.toNat)
  else if k = 3 then strOfNums (fixZ 4 p.n.toNat)
  else if k = 4 then strOfNums (numZ p.n.toNat)
  else if k = 5 ∨ k = 6 then strOfNums (fixZ 2 p.s.size) ++ p.s
  else (strOfNums (fixZ 2 p.s.size) ++ p.s) ++ (strOfNums (fixZ 2 p.v.size) ++ p.v)
def oneStr (p : P) : ByteArray := strOfNums [p.id] ++ valStr (kindZ p.id) p
def restStr (l : List P) : ByteArray := l.foldl (fun a p => a ++ oneStr p) ⟨#[]⟩
theorem rest_snoc (l : List P) (p : P) : restStr (l ++ [p]) = restStr l ++ oneStr p := by unfold restStr; rw [List.foldl_append]; rfl
def propStr (l : List P) : ByteArray := strOfNums (numZ (restStr l).size) ++ restStr l
def fitsB (p : P) : Bool := decide (kindZ p.id ≠ 0) && (decide (¬ (noZ p.id ∧ p.n = 0)) && valB (kindZ p.id) p)
def mayB (place : Int) (a : List P) (p : P) : Bool := standB place p.id && (haveB p.id p.n && !twiceB place p.id a)
def goodB (place : Int) (a : List P) (p : P) : Bool := standB place p.id && (fitsB p && !twiceB place p.id a)
def goodL (place : Int) : List P → List P → Bool
  | _, [] => true
  | a, p :: t => goodB place a p && goodL place (a ++ [p]) t
def propsB (place : Int) (l : List P) : Bool := placeB place && (decide (l.length ≤ 8) && goodL place [] l)
theorem have_val (p : P) (hk : kindZ p.id ≠ 0) : (haveB p.id p.n && valB (kindZ p.id) p) = fitsB p := by
  unfold fitsB haveB
  rw [decide_eq_true (show kindZ p.id ≠ 0 from hk), Bool.true_and]
  by_cases hz : noZ p.id
  · rw [if_pos hz]
    congr 1
    by_cases h0 : p.n = 0
    · rw [decide_eq_false (show ¬ (p.n ≠ 0) from fun h => h h0), decide_eq_false (show ¬ ¬ (noZ p.id ∧ p.n = 0) from fun h => h ⟨hz, h0⟩)]
    · rw [decide_eq_true (show p.n ≠ 0 from h0), decide_eq_true (show ¬ (noZ p.id ∧ p.n = 0) from fun h => h0 h.2)]
  · rw [if_neg hz, decide_eq_true (show ¬ (noZ p.id ∧ p.n = 0) from fun h => hz h.1), Bool.true_and]
    by_cases h1 : kindZ p.id = 1
    · rw [h1]
      by_cases hn : p.n = 0 ∨ p.n = 1
      · rw [decide_eq_true (.inr hn), Bool.true_and]
      · rw [decide_eq_false (by omega), Bool.false_and]
        unfold valB
        rw [if_pos rfl, decide_eq_false (fun h => hn h.1)]
    · rw [decide_eq_true (.inl h1), Bool.true_and]
theorem good_may (place : Int) (a : List P) (p : P) : goodB place a p = (mayB place a p && valB (kindZ p.id) p) := by
  unfold goodB mayB
  cases hs : standB place p.id with
  | false => rfl
  | true =>
    rw [← have_val p (stand_kind hs)]
    cases haveB p.id p.n <;> cases valB (kindZ p.id) p <;> cases twiceB place p.id a <;> rfl
end Go.Proofs.YtiancngpknnkaaaGreat.Prp
namespace Go.Proofs.YtiancngpknnkaaaGreat
open Go.RowKit Go.Lib Prp
def Box (w : World) (g : Nat) (cs : Array Value) : Prop := ∃ T, w.heap[g]? = some (.cells cs T (0, 0))
section
variable {w w' : World} {g : Nat} {cs : Array Value}
theorem Box.new (w : World) (T : TypeId) (cs : Array Value) : Box (w.alloc (.cells cs T)) w.heap.size cs := ⟨T, heap_alloc_new w _⟩
theorem Box.lt (h : Box w g cs) : g < w.heap.size := by
  obtain ⟨T, h⟩ := h
  exact (Array.getElem?_eq_some_iff.1 h).1
theorem Box.cell (h : Box w g cs) (i : Nat) : w.cell? ⟨g, i, none⟩ = cs[i]? := by
  obtain ⟨T, h⟩ := h
  exact cell_of_row w g i cs T (0, 0) h
theorem Box.frozen (h : Box w g cs) (i : Nat) : w.frozen? ⟨g, i, none⟩ = false := by
  obtain ⟨T, h⟩ := h
  simp [World.frozen?, h]
theorem Box.below (h : Box w g cs) (hb : Below w.heap.size w w') : Box w' g cs := by
  have hl := h.lt
  obtain ⟨T, h⟩ := h
  exact ⟨T, (hb.block g hl).trans h⟩
theorem Box.drewN (h : Box w g cs) (n : Nat) : Box (w.drewN n) g cs := h
theorem Box.drew (h : Box w g cs) : Box w.drew g cs := h
theorem Box.alloc (h : Box w g cs) (o : Obj) : Box (w.alloc o) g cs := h.below ((Below.refl _ _).alloc (Nat.le_refl _) o)
theorem Box.put (h : Box w g cs) (i : Nat) (v : Value) : Box (w.setCell ⟨g, i, none⟩ v) g (cs.setIfInBounds i v) := by
  obtain ⟨T, h⟩ := h
  exact ⟨T, by simp [World.setCell, Array.getElem?_modify, h]⟩
theorem Box.far (h : Box w g cs) {p : Addr} (hp : g ≠ p.block) (v : Value) : Box (w.setCell p v) g cs := by
  obtain ⟨T, h⟩ := h
  exact ⟨T, (Below.heap_setCell w p v g hp).trans h⟩
end
def pcells (p : P) : List Value := [.int .i64 p.id, .int .i64 p.n, .string p.s, .string p.v]
structure Fit (p : P) : Prop where
  i0 : -9223372036854775808 ≤ p.id
  i1 : p.id ≤ 9223372036854775807
  n0 : -9223372036854775808 ≤ p.n
  n1 : p.n ≤ 9223372036854775807
  hs : p.s.size ≤ 140737488351232
  hv : p.v.size ≤ 140737488351232
structure PAt (w : World) (b o : Nat) (p : P) : Prop where
  c0 : w.cell? ⟨b, o, none⟩ = some (.int .i64 p.id)
  c1 : w.cell? ⟨b, o + 1, none⟩ = some (.int .i64 p.n)
  c2 : w.cell? ⟨b, o + 2, none⟩ = some (.string p.s)
  c3 : w.cell? ⟨b, o + 3, none⟩ = some (.string p.v)
def PropsAt (w : World) (B : Nat) (A : Option Addr) (l : List P) : Prop :=
  l = [] ∨ ∃ b o, A = some ⟨b, o, none⟩ ∧ b < B ∧ ∀ j (h : j < l.length), PAt w b (o + j * 4) l[j]
section
variable {w w' : World} {B B' : Nat} {A : Option Addr} {l : List P}
theorem PAt.keep {b o : Nat} {p : P} (h : PAt w b o p) (hk : ∀ i, w'.cell? ⟨b, i, none⟩ = w.cell? ⟨b, i, none⟩) : PAt w' b o p :=
  ⟨(hk _).trans h.c0, (hk _).trans h.c1, (hk _).trans h.c2, (hk _).trans h.c3⟩
theorem PropsAt.none_ : PropsAt w B A [] := .inl rfl
theorem PropsAt.some_ (h : PropsAt w B A l) (hl : 0 < l.length) : ∃ b o, A = some ⟨b, o, none⟩ ∧ b < B ∧ ∀ j (h : j < l.length), PAt w b (o + j * 4) l[j] := by
  rcases h with rfl | h
  · simp at hl
  · exact h
theorem PropsAt.keep (h : PropsAt w B A l) (hk : ∀ p : Addr, p.block < B → w'.cell? p = w.cell? p) : PropsAt w' B A l := by
  rcases h with h | ⟨b, o, h1, h2, h3⟩
  · exact .inl h
  · exact .inr ⟨b, o, h1, h2, fun j hj => (h3 j hj).keep fun i => hk ⟨b, i, none⟩ h2⟩
theorem PropsAt.mono (h : PropsAt w B A l) (hB : B ≤ B') : PropsAt w B' A l := by
  rcases h with h | ⟨b, o, h1, h2, h3⟩
  · exact .inl h
  · exact .inr ⟨b, o, h1, Nat.lt_of_lt_of_le h2 hB, h3⟩
theorem PropsAt.below (h : PropsAt w B A l) (hb : Below B w w') : PropsAt w' B A l := h.keep fun _ hp => hb.cell hp
theorem PropsAt.drewN (h : PropsAt w B A l) (n : Nat) : PropsAt (w.drewN n) B A l := h.keep fun _ _ => rfl
theorem PropsAt.alloc (h : PropsAt w B A l) (hB : B ≤ w.heap.size) (o : Obj) : PropsAt (w.alloc o) B A l := h.keep fun p hp => World.cell?_alloc_lt w o p (by omega)
theorem PropsAt.take (h : PropsAt w B A l) (k : Nat) : PropsAt w B A (l.take k) := by
  rcases h with rfl | ⟨b, o, h1, h2, h3⟩
  · exact .inl (by simp)
  · refine .inr ⟨b, o, h1, h2, fun j hj => ?_⟩
    have hl : j < l.length := by rw [List.length_take] at hj; omega
    rw [List.getElem_take]
    exact h3 j hl
end
def flat (l : List P) : List Value := l.flatMap pcells
theorem flat_snoc (l : List P) (p : P) : flat (l ++ [p]) = flat l ++ pcells p := by unfold flat; rw [List.flatMap_append]; simp
theorem flat_at (l : List P) (j i : Nat) (hj : j < l.length) (hi : i < 4) : (flat l)[j * 4 + i]? = (pcells l[j])[i]? := by
  induction l generalizing j with
  | nil => simp at hj
  | cons p t ih =>
    have e : flat (p :: t) = pcells p ++ flat t := by unfold flat; rw [List.flatMap_cons]
    rw [e]
    cases j with
    | zero =>
      rw [List.getElem?_append_left (by show _ < 4; omega)]
      simp
    | succ m =>
      rw [List.getElem?_append_right (by show 4 ≤ _; omega)]
      have : (m + 1) * 4 + i - (pcells p).length = m * 4 + i := by show _ - 4 = _; omega
      rw [this]
      exact ih m (by simpa using hj)
theorem PropsAt.of_own {w : World} {base e c : Nat} {A : Option Addr} {l : List P} (h : w.ownsRow base e 4 (.slice A l.length c) l.length (flat l)) : PropsAt w w.heap.size A l := by
  rcases h.2 with ⟨hv, hn⟩ | ⟨g, cap, cur, hv, _, hg, hle, _, hsz, htk⟩
  · exact .inl (List.eq_nil_of_length_eq_zero hn)
  · injection hv with hA _ _
    subst hA
    have key := h.cells (g := g) rfl
    refine .inr ⟨g, 0, rfl, (Array.getElem?_eq_some_iff.1 hg).1, fun j hj => ?_⟩
    have hz : ∀ i u, i < 4 → (pcells l[j])[i]? = some u → w.cell? ⟨g, 0 + j * 4 + i, none⟩ = some u := fun i u hi hu => by
      have := key (j * 4 + i) u (by rw [flat_at l j i hj hi]; exact hu)
      rw [add_new] at this
      rw [Nat.zero_add]
      exact this
    exact ⟨hz 0 _ (by omega) rfl, hz 1 _ (by omega) rfl, hz 2 _ (by omega) rfl, hz 3 _ (by omega) rfl⟩
theorem own_slice {w : World} {base e : Nat} {v : Value} {l : List P} (h : w.ownsRow base e 4 v l.length (flat l)) : ∃ A c, v = .slice A l.length c := by
  rcases h.2 with ⟨hv, hn⟩ | ⟨g, cap, cur, hv, _⟩
  · exact ⟨none, 0, by rw [hv, hn]⟩
  · exact ⟨_, cap, hv⟩
open Go.ChangeShapes Go.WideShapes Go.ChangeAt Go.RowKit Prp
theorem ownKnob_none : ownKnob Tryz.prog.godebug = none := by kernel_rfl
theorem laidOut_true : laidOutB Tryz.prog = true := by kernel_rfl
theorem cells_string : Tryz.prog.cellsOf 9 = 1 := by kernel_rfl
theorem cells_int : Tryz.prog.cellsOf 3 = 1 := by kernel_rfl
theorem cells_props : Tryz.prog.cellsOf 26 = 1 := by kernel_rfl
theorem cells_prop : Tryz.prog.cellsOf 103 = 4 := by kernel_rfl
theorem cell_lt {w : World} {a : Addr} {v : Value} (h : w.cell? a = some v) : a.block < w.heap.size := by
  rcases Nat.lt_or_ge a.block w.heap.size with hlt | hge
  · exact hlt
  · unfold World.cell? at h
    rw [Array.getElem?_eq_none hge] at h
    cases h
theorem add_off {b off : Nat} (k : Nat) : ((⟨b, off, none⟩ : Addr).add k) = ⟨b, off + k, none⟩ := by
  unfold Addr.add; split
  · next h => subst h; rfl
  · rfl
theorem int_range {x : Int} (h : (Lit.int .i64 x).wf = true) : -9223372036854775808 ≤ x ∧ x ≤ 9223372036854775807 := by
  have h1 : IntKind.i64.min = -9223372036854775808 := rfl
  have h2 : IntKind.i64.max = 9223372036854775807 := rfl
  simp only [Lit.wf, Bool.and_eq_true, decide_eq_true_eq] at h
  omega
section
variable {H : Type} {enc : TypeId × Value → H} {W : World} {base : Nat} {spare : Nat → Bool} {held : Bool}
def Near (t : TypeId) (d : DataW H) : Prop := ∀ n ∈ d.weights Tryz.prog t, n ≤ reachBytes
theorem near_field {t e : TypeId} {fs : Array Field} {ys : List (DataW H × List MemPlace)} {j : Nat} {f : Field} {y : DataW H × List MemPlace} (hu : Tryz.prog.underlying t = some (.struct fs)) (h : Near t (.agg (ys.map (·.1)))) (hf : fs[j]? = some f) (he : f.type = e) (hy : ys[j]? = some y) : Near e y.1 := by
  subst he
  intro n hn
  refine h n ?_
  rw [DataW.weights, hu]
  refine DataW.weights_mem_each (j := j) ?_ ?_ n hn
  · rw [List.getElem?_map, Array.getElem?_toList, hf]; rfl
  · rw [List.getElem?_map, hy]; rfl
theorem near_all {e : TypeId} {ds : List (DataW H)} {d : DataW H} (hd : d ∈ ds) : ∀ n ∈ d.weights Tryz.prog e, n ∈ DataW.weightsAll Tryz.prog e ds := by
  induction ds with
  | nil => cases hd
  | cons x r ih =>
    intro n hn
    rw [DataW.weightsAll, List.mem_append]
    rcases List.mem_cons.1 hd with rfl | hd
    · exact .inl hn
    · exact .inr (ih hd n hn)
theorem near_elem {t e : TypeId} {elems rest : List (DataW H)} {d : DataW H} (hu : Tryz.prog.underlying t = some (.slice e)) (h : Near t (.slice elems rest)) (hd : d ∈ elems) : Near e d := by
  intro n hn
  refine h n ?_
  rw [DataW.weights, hu]
  exact List.mem_cons_of_mem _ (List.mem_append_left _ (near_all hd n hn))
theorem near_string {t : TypeId} {s : ByteArray} (h : Near t (DataW.lit (H := H) (.string s.data.toList))) : s.size ≤ 140737488351232 := by
  have := h s.data.toList.length (by rw [DataW.weights]; exact List.mem_singleton.2 rfl)
  rw [Lib.size_eq]
  exact this
theorem one_prop {fuel : Nat} {a : Addr} {cs : List Value} {y : DataW H × List MemPlace} (hc : W.cells? base a 4 = some cs) (hw : Near 103 y.1) (h : DataW.trod enc Tryz.prog W base spare held fuel 103 cs = some y) :
    ∃ p, PAt W a.block a.off p ∧ Fit p ∧ a.spot = none := by
  obtain ⟨_, hlen, hcell⟩ := World.cells?_some hc
  match cs, hlen with
  | [v0, v1, v2, v3], _ =>
    have g0 := hcell 0 (by omega)
    have g1 := hcell 1 (by omega)
    have g2 := hcell 2 (by omega)
    have g3 := hcell 3 (by omega)
    change W.cell? (a.add 0) = some v0 at g0
    change W.cell? (a.add 1) = some v1 at g1
    change W.cell? (a.add 2) = some v2 at g2
    change W.cell? (a.add 3) = some v3 at g3
    obtain ⟨ys, n, _, hy, _, hyl, hf⟩ := DataW.trod_struct Tryz.underlying103 h
    subst hy
    have hyl' : ys.length = 4 := by simpa using hyl
    have f0 := hf 0 _ rfl
    have f1 := hf 1 _ rfl
    have f2 := hf 2 _ rfl
    have f3 := hf 3 _ rfl
    rw [List.getElem?_eq_getElem (by omega)] at f0 f1 f2 f3
    change DataW.trod enc Tryz.prog W base spare held n 3 (List.take (Tryz.prog.cellsOf 3) [v0, v1, v2, v3]) = _ at f0
    change DataW.trod enc Tryz.prog W base spare held n 3 (List.take (Tryz.prog.cellsOf 3) [v1, v2, v3]) = _ at f1
    change DataW.trod enc Tryz.prog W base spare held n 9 (List.take (Tryz.prog.cellsOf 9) [v2, v3]) = _ at f2
    change DataW.trod enc Tryz.prog W base spare held n 9 (List.take (Tryz.prog.cellsOf 9) [v3]) = _ at f3
    rw [cells_int] at f0 f1
    rw [cells_string] at f2 f3
    obtain ⟨i, e0, _, wi⟩ := DataW.trod_int Tryz.underlying3 f0
    obtain ⟨x, e1, _, wx⟩ := DataW.trod_int Tryz.underlying3 f1
    have w2 := near_field Tryz.underlying103 hw (j := 2) rfl rfl (List.getElem?_eq_getElem (by omega))
    have w3 := near_field Tryz.underlying103 hw (j := 3) rfl rfl (List.getElem?_eq_getElem (by omega))
    obtain ⟨s, e2, x2, ws⟩ := DataW.trod_string Tryz.underlying9 f2
    obtain ⟨v, e3, x3, wv⟩ := DataW.trod_string Tryz.underlying9 f3
    rw [x2] at w2
    rw [x3] at w3
    have ws := near_string w2
    have wv := near_string w3
    have hsp : a.spot = none := by
      have := World.cell?_spot g0
      simpa [Addr.add] using this
    obtain ⟨b, off, spot⟩ := a
    obtain rfl : spot = none := hsp
    rw [add_off] at g0 g1 g2 g3
    simp at e0 e1 e2 e3
    subst e0 e1 e2 e3
    have ri := int_range wi
    have rx := int_range wx
    exact ⟨⟨i, x, s, v⟩, ⟨g0, g1, g2, g3⟩, ⟨ri.1, ri.2, rx.1, rx.2, ws, wv⟩, rfl⟩
theorem props_of_trod {fuel : Nat} {v : Value} {y : DataW H × List MemPlace} (hw : Near 26 y.1) (h : DataW.trod enc Tryz.prog W base spare held fuel 26 [v] = some y) :
    ∃ A l c, v = .slice A (List.length l) c ∧ PropsAt W W.heap.size A l ∧ (∀ p ∈ l, Fit p) ∧ l.length ≤ c ∧ l.length ≤ 9223372036854775807 := by
  rcases Go.Deep.open_slice Tryz.underlying26 h with ⟨hcs, _⟩ | ⟨a, len, cap, m, k, D, Pl, hcs, _, hl, hcm, hm, hx, hi⟩
  · simp at hcs
    subst hcs
    exact ⟨none, [], 0, rfl, .inl rfl, by simp, by simp, by simp⟩
  · simp at hcs
    subst hcs
    have hml : len ≤ m := by rw [hm]; split <;> omega
    rw [cells_prop] at hi
    have key : ∀ i, i < len → ∃ p, PAt W (a.add (i * 4)).block (a.add (i * 4)).off p ∧ Fit p ∧ (a.add (i * 4)).spot = none := fun i hin => by
      obtain ⟨cs, hc, ht⟩ := hi i (by omega)
      refine one_prop hc ?_ ht
      rw [hx] at hw
      exact near_elem Tryz.underlying26 hw (List.mem_map.2 ⟨i, List.mem_range.2 hin, rfl⟩)
    have hcm' : cap ≤ 9223372036854775807 := by unfold maxLen at hcm; omega
    by_cases h0 : len = 0
    · subst h0
      exact ⟨some a, [], cap, rfl, .inl rfl, by simp, by simp, by simp⟩
    · have hsp : a.spot = none := by
        obtain ⟨_, _, _, h⟩ := key 0 (by omega)
        simpa [Addr.add] using h
      obtain ⟨b, off, spot⟩ := a
      obtain rfl : spot = none := hsp
      have key2 : ∀ i, ∃ p : P, i < len → PAt W b (off + i * 4) p ∧ Fit p := fun i => by
        by_cases hin : i < len
        · obtain ⟨p, hp, hfp, _⟩ := key i hin
          rw [add_off] at hp
          exact ⟨p, fun _ => ⟨hp, hfp⟩⟩
        · exact ⟨⟨0, 0, ⟨#[]⟩, ⟨#[]⟩⟩, fun h => absurd h hin⟩
      obtain ⟨f, hf⟩ := Classical.axiomOfChoice key2
      refine ⟨some ⟨b, off, none⟩, (List.range len).map f, cap, by simp, .inr ⟨b, off, rfl, ?_, fun j hj => ?_⟩, fun p hp => ?_, by simpa using hl, by simp; omega⟩
      · exact cell_lt (hf 0 (by omega)).1.c0
      · have hj' : j < len := by simpa using hj
        rw [List.getElem_map, List.getElem_range]
        exact (hf j hj').1
      · rw [List.mem_map] at hp
        obtain ⟨j, hj, rfl⟩ := hp
        exact (hf j (by simpa using hj)).2
end
end Go.Proofs.YtiancngpknnkaaaGreat
namespace Go.Proofs.YtiancngpknnkaaaGreat.Prp
open Go.Lib Vbi
structure Tk where
  n : Int
  a : ByteArray
  b : ByteArray
  k : Int
  e : Int
def tkBad (e : Int) : Tk := ⟨0, ⟨#[]⟩, ⟨#[]⟩, 0, e⟩
def tkFix (wd : Nat) (s : ByteArray) : Tk := if s.size < wd then tkBad 7 else ⟨(fixVal (s.data.toList.take wd) : Nat), ⟨#[]⟩, ⟨#[]⟩, (wd : Int), 0⟩
def tkNum (s : ByteArray) : Tk := ⟨(tn s.data.toList).1, ⟨#[]⟩, ⟨#[]⟩, (tn s.data.toList).2.1, (tn s.data.toList).2.2⟩
def tkLong (t : Bool) (s : ByteArray) : Tk := ⟨0, (tl t s).1, ⟨#[]⟩, (tl t s).2.1, (tl t s).2.2⟩
def tkTwo (s : ByteArray) : Tk :=
  if (tl true s).2.2 ≠ 0 then tkBad (tl true s).2.2
  else if (tl true (s.extract (tl true s).2.1.toNat s.size)).2.2 ≠ 0 then tkBad (tl true (s.extract (tl true s).2.1.toNat s.size)).2.2
  else ⟨0, (tl true s).1, (tl true (s.extract (tl true s).2.1.toNat s.size)).1, (tl true s).2.1 + (tl true (s.extract (tl true s).2.1.toNat s.size)).2.1, 0⟩
def tk (k : Int) (s : ByteArray) : Tk :=
  if k = 1 then tkFix 1 s else if k = 2 then tkFix 2 s else if k = 3 then tkFix 4 s else if k = 4 then tkNum s else if k = 5 then tkLong true s else if k = 6 then tkLong false s else tkTwo s
theorem fixVal_one (l : List UInt8) : fixVal (l.take 1) < 256 := by
  match l with
  | [] => decide
  | a :: t => have := a.toNat_lt; show (0 * 256 + a.toNat) < _; omega
theorem fixVal_four (l : List UInt8) : fixVal (l.take 4) < 4294967296 := by
  match l with
  | [] => decide
  | [a] => have := a.toNat_lt; show (0 * 256 + a.toNat) < _; omega
  | [a, b] => have := a.toNat_lt; have := b.toNat_lt; show ((0 * 256 + a.toNat) * 256 + b.toNat) < _; omega
  | [a, b, c] => have := a.toNat_lt; have := b.toNat_lt; have := c.toNat_lt; show (((0 * 256 + a.toNat) * 256 + b.toNat) * 256 + c.toNat) < _; omega
  | a :: b :: c :: d :: t => have := a.toNat_lt; have := b.toNat_lt; have := c.toNat_lt; have := d.toNat_lt; show ((((0 * 256 + a.toNat) * 256 + b.toNat) * 256 + c.toNat) * 256 + d.toNat) < _; omega
theorem tl_took {t : Bool} {s : ByteArray} (h : (tl t s).2.2 = 0) : ∃ m : Nat, (tl t s).2.1 = ((2 + m : Nat) : Int) ∧ 2 + m ≤ s.size ∧ m ≤ 1024 ∧ tbN s = m ∧ (tl t s).1 = s.extract 2 (2 + m) ∧ (t = true → textB (tl t s).1 = true) := by
  have hb : (tb s).2.2 = 0 := by
    by_cases c : (tb s).2.2 = 0
    · exact c
    · rw [tl_bad c] at h; exact absurd h c
  have hc : tlErr t (tb s).1 = 0 := by
    by_cases c : tlErr t (tb s).1 = 0
    · exact c
    · obtain ⟨T, K, hT⟩ : ∃ T K, tb s = (T, K, 0) := ⟨(tb s).1, (tb s).2.1, by rw [← hb]⟩
      rw [hT] at c
      rw [tl_wrong hT c] at h
      exact absurd h c
  rcases tb_cases s with ⟨_, e⟩ | ⟨_, _, e⟩ | ⟨_, _, _, e⟩ | ⟨h1, h2, e⟩
  · rw [e] at hb; cases hb
  · rw [e] at hb; cases hb
  · rw [e] at hb; cases hb
  · rw [e] at hc
    rw [tl_good e hc]
    refine ⟨tbN s, rfl, h2, h1, rfl, rfl, fun ht => ?_⟩
    subst ht
    unfold tlErr at hc
    rw [if_pos rfl] at hc
    unfold textB
    exact decide_eq_true hc
theorem tl_not {t : Bool} {s : ByteArray} (h : (tl t s).2.2 ≠ 0) : (tl t s).1 = ⟨#[]⟩ ∧ (tl t s).2.1 = 0 := by
  by_cases c : (tb s).2.2 = 0
  · obtain ⟨T, K, hT⟩ : ∃ T K, tb s = (T, K, 0) := ⟨(tb s).1, (tb s).2.1, by rw [← c]⟩
    by_cases d : tlErr t T = 0
    · rw [tl_good hT d] at h; exact absurd rfl h
    · rw [tl_wrong hT d]; exact ⟨rfl, rfl⟩
  · rw [tl_bad c] at h ⊢
    rcases tb_err s with ⟨_, a, b⟩ | ⟨T, K, hT, _⟩
    · exact ⟨a, b⟩
    · rw [hT] at h; exact absurd rfl h
theorem text_sz {s : ByteArray} (h : textB s = true) : s.size ≤ 1024 := by
  unfold textB at h
  exact loErr_zero (of_decide_eq_true h)
theorem tk_bound {k : Int} {s : ByteArray} (h : (tk k s).e = 0) : 0 ≤ (tk k s).k ∧ (tk k s).k ≤ (s.size : Int) := by
  have fx : ∀ wd, (tkFix wd s).e = 0 → 0 ≤ (tkFix wd s).k ∧ (tkFix wd s).k ≤ (s.size : Int) := fun wd h => by
    unfold tkFix at h ⊢
    by_cases c : s.size < wd
    · rw [if_pos c] at h; cases h
    · rw [if_neg c]; show (0 : Int) ≤ (wd : Int) ∧ (wd : Int) ≤ _; omega
  have lg : ∀ t, (tkLong t s).e = 0 → 0 ≤ (tkLong t s).k ∧ (tkLong t s).k ≤ (s.size : Int) := fun t h => by
    obtain ⟨m, h1, h2, _⟩ := tl_took (t := t) (s := s) h
    show 0 ≤ (tl t s).2.1 ∧ (tl t s).2.1 ≤ _
    rw [h1]; omega
  unfold tk at h ⊢
  by_cases h1 : k = 1
  · rw [if_pos h1] at h ⊢; exact fx 1 h
  rw [if_neg h1] at h ⊢
  by_cases h2 : k = 2
  · rw [if_pos h2] at h ⊢; exact fx 2 h
  rw [if_neg h2] at h ⊢
  by_cases h3 : k = 3
  · rw [if_pos h3] at h ⊢; exact fx 4 h
  rw [if_neg h3] at h ⊢
  by_cases h4 : k = 4
  · rw [if_pos h4] at h ⊢
    show 0 ≤ (tn s.data.toList).2.1 ∧ (tn s.data.toList).2.1 ≤ _
    rcases num_wrote s with ⟨E, e, _⟩ | ⟨m, q, e, _, hq, _⟩ <;> rw [e]
    · simp
    · show (0 : Int) ≤ (q : Int) ∧ (q : Int) ≤ _; omega
  rw [if_neg h4] at h ⊢
  by_cases h5 : k = 5
  · rw [if_pos h5] at h ⊢; exact lg true h
  rw [if_neg h5] at h ⊢
  by_cases h6 : k = 6
  · rw [if_pos h6] at h ⊢; exact lg false h
  rw [if_neg h6] at h ⊢
  unfold tkTwo at h ⊢
  by_cases c : (tl true s).2.2 = 0
  · rw [if_neg (fun x => x c)] at h ⊢
    obtain ⟨m, e1, e2, _⟩ := tl_took c
    by_cases d : (tl true (s.extract (tl true s).2.1.toNat s.size)).2.2 = 0
    · rw [if_neg (fun x => x d)]
      obtain ⟨m2, f1, f2, _⟩ := tl_took d
      show 0 ≤ (tl true s).2.1 + (tl true (s.extract (tl true s).2.1.toNat s.size)).2.1 ∧ (tl true s).2.1 + (tl true (s.extract (tl true s).2.1.toNat s.size)).2.1 ≤ _
      rw [f1]
      rw [ByteArray.size_extract] at f2
      rw [e1] at f2 ⊢
      rw [Int.toNat_natCast] at f2
      omega
    · rw [if_pos d] at h; exact absurd h d
  · rw [if_pos c] at h; exact absurd h c
theorem mk_1 {p : P} (h : (p.n = 0 ∨ p.n = 1) ∧ p.s = ⟨#[]⟩ ∧ p.v = ⟨#[]⟩) : valB 1 p = true := decide_eq_true h
theorem mk_2 {p : P} (h : (0 ≤ p.n ∧ p.n < 65536) ∧ p.s = ⟨#[]⟩ ∧ p.v = ⟨#[]⟩) : valB 2 p = true := decide_eq_true h
theorem mk_3 {p : P} (h : (0 ≤ p.n ∧ p.n < 4294967296) ∧ p.s = ⟨#[]⟩ ∧ p.v = ⟨#[]⟩) : valB 3 p = true := decide_eq_true h
theorem mk_4 {p : P} (h : (0 ≤ p.n ∧ p.n < 268435456) ∧ p.s = ⟨#[]⟩ ∧ p.v = ⟨#[]⟩) : valB 4 p = true := decide_eq_true h
theorem tk_val {k id : Int} {s : ByteArray} (hk0 : 0 ≤ k) (hk7 : k ≤ 7) (hk : k ≠ 0) (h : (tk k s).e = 0) (h1 : k = 1 → (tk k s).n = 0 ∨ (tk k s).n = 1) : valB k ⟨id, (tk k s).n, (tk k s).a, (tk k s).b⟩ = true := by
  have fx : ∀ wd, (tkFix wd s).e = 0 → tkFix wd s = ⟨(fixVal (s.data.toList.take wd) : Nat), ⟨#[]⟩, ⟨#[]⟩, (wd : Int), 0⟩ := fun wd h => by
    unfold tkFix at h ⊢
    by_cases c : s.size < wd
    · rw [if_pos c] at h; cases h
    · rw [if_neg c]
  rcases (by omega : k = 1 ∨ k = 2 ∨ k = 3 ∨ k = 4 ∨ k = 5 ∨ k = 6 ∨ k = 7) with rfl | rfl | rfl | rfl | rfl | rfl | rfl
  · have e := fx 1 h
    have hn := h1 rfl
    change (tkFix 1 s).n = 0 ∨ (tkFix 1 s).n = 1 at hn
    show valB 1 ⟨id, (tkFix 1 s).n, (tkFix 1 s).a, (tkFix 1 s).b⟩ = true
    rw [e] at hn ⊢
    exact mk_1 ⟨hn, rfl, rfl⟩
  · have e := fx 2 h
    show valB 2 ⟨id, (tkFix 2 s).n, (tkFix 2 s).a, (tkFix 2 s).b⟩ = true
    rw [e]
    have := fixVal_two s.data.toList
    exact mk_2 ⟨⟨Int.natCast_nonneg _, Int.ofNat_lt.2 this⟩, rfl, rfl⟩
  · have e := fx 4 h
    show valB 3 ⟨id, (tkFix 4 s).n, (tkFix 4 s).a, (tkFix 4 s).b⟩ = true
    rw [e]
    have := fixVal_four s.data.toList
    exact mk_3 ⟨⟨Int.natCast_nonneg _, Int.ofNat_lt.2 this⟩, rfl, rfl⟩
  · have h' : (tn s.data.toList).2.2 = 0 := h
    show valB 4 ⟨id, (tn s.data.toList).1, ⟨#[]⟩, ⟨#[]⟩⟩ = true
    rcases num_wrote s with ⟨E, e, hE⟩ | ⟨m, q, e, hm, _, _⟩
    · rw [e] at h'; exact absurd h' hE
    · rw [e]
      exact mk_4 ⟨⟨Int.natCast_nonneg _, Int.ofNat_lt.2 hm⟩, rfl, rfl⟩
  · obtain ⟨m, _, _, _, _, _, ht⟩ := tl_took (t := true) (s := s) h
    exact decide_eq_true (p := _ ∧ _ ∧ _) ⟨rfl, ht rfl, rfl⟩
  · obtain ⟨m, _, h2, h3, _, h5, _⟩ := tl_took (t := false) (s := s) h
    refine decide_eq_true (p := _ ∧ _ ∧ _) ⟨rfl, ?_, rfl⟩
    show binB (tl false s).1 = true
    unfold binB
    rw [h5, ByteArray.size_extract]
    exact decide_eq_true (by omega)
  · have h : (tkTwo s).e = 0 := h
    show valB 7 ⟨id, (tkTwo s).n, (tkTwo s).a, (tkTwo s).b⟩ = true
    unfold tkTwo at h ⊢
    by_cases c : (tl true s).2.2 = 0
    · rw [if_neg (fun x => x c)] at h ⊢
      by_cases d : (tl true (s.extract (tl true s).2.1.toNat s.size)).2.2 = 0
      · rw [if_neg (fun x => x d)]
        obtain ⟨m, _, _, _, _, _, ht⟩ := tl_took c
        obtain ⟨m2, _, _, _, _, _, ht2⟩ := tl_took d
        exact decide_eq_true (p := _ ∧ _ ∧ _) ⟨rfl, ht rfl, ht2 rfl⟩
      · rw [if_pos d] at h; exact absurd h d
    · rw [if_pos c] at h; exact absurd h c
def inn (e : Int) : Int := if e = 7 then 8 else e
def pz : P := ⟨0, 0, ⟨#[]⟩, ⟨#[]⟩⟩
def idOf (s : ByteArray) : Int := ((s.data.toList.headD 0).toNat : Int)
def tone (s : ByteArray) : P × Int × Int :=
  if kindZ (idOf s) = 0 then (pz, 0, 8)
  else if (tk (kindZ (idOf s)) (s.extract 1 s.size)).e ≠ 0 then (pz, 0, inn (tk (kindZ (idOf s)) (s.extract 1 s.size)).e)
  else (⟨idOf s, (tk (kindZ (idOf s)) (s.extract 1 s.size)).n, (tk (kindZ (idOf s)) (s.extract 1 s.size)).a, (tk (kindZ (idOf s)) (s.extract 1 s.size)).b⟩, 1 + (tk (kindZ (idOf s)) (s.extract 1 s.size)).k, 0)
theorem inn_zero {e : Int} : inn e = 0 ↔ e = 0 := by unfold inn; split <;> omega
theorem tone_none {s : ByteArray} (h : kindZ (idOf s) = 0) : tone s = (pz, 0, 8) := by unfold tone; rw [if_pos h]
theorem tone_bad {s : ByteArray} (h : kindZ (idOf s) ≠ 0) (he : (tk (kindZ (idOf s)) (s.extract 1 s.size)).e ≠ 0) : tone s = (pz, 0, inn (tk (kindZ (idOf s)) (s.extract 1 s.size)).e) := by unfold tone; rw [if_neg h, if_pos he]
theorem tone_good {s : ByteArray} (h : kindZ (idOf s) ≠ 0) (he : (tk (kindZ (idOf s)) (s.extract 1 s.size)).e = 0) :
    tone s = (⟨idOf s, (tk (kindZ (idOf s)) (s.extract 1 s.size)).n, (tk (kindZ (idOf s)) (s.extract 1 s.size)).a, (tk (kindZ (idOf s)) (s.extract 1 s.size)).b⟩, 1 + (tk (kindZ (idOf s)) (s.extract 1 s.size)).k, 0) := by unfold tone; rw [if_neg h, if_neg (fun x => x he)]
theorem tone_cases (s : ByteArray) : (kindZ (idOf s) = 0 ∧ tone s = (pz, 0, 8)) ∨ (kindZ (idOf s) ≠ 0 ∧ (tk (kindZ (idOf s)) (s.extract 1 s.size)).e ≠ 0 ∧ tone s = (pz, 0, inn (tk (kindZ (idOf s)) (s.extract 1 s.size)).e)) ∨
    (kindZ (idOf s) ≠ 0 ∧ (tk (kindZ (idOf s)) (s.extract 1 s.size)).e = 0 ∧ tone s = (⟨idOf s, (tk (kindZ (idOf s)) (s.extract 1 s.size)).n, (tk (kindZ (idOf s)) (s.extract 1 s.size)).a, (tk (kindZ (idOf s)) (s.extract 1 s.size)).b⟩, 1 + (tk (kindZ (idOf s)) (s.extract 1 s.size)).k, 0)) := by
  by_cases h : kindZ (idOf s) = 0
  · exact .inl ⟨h, tone_none h⟩
  · by_cases he : (tk (kindZ (idOf s)) (s.extract 1 s.size)).e = 0
    · exact .inr (.inr ⟨h, he, tone_good h he⟩)
    · exact .inr (.inl ⟨h, he, tone_bad h he⟩)
theorem tone_bound {s : ByteArray} (hs : 0 < s.size) (h : (tone s).2.2 = 0) : 1 ≤ (tone s).2.1 ∧ (tone s).2.1 ≤ (s.size : Int) := by
  rcases tone_cases s with ⟨_, e⟩ | ⟨_, he, e⟩ | ⟨_, he, e⟩
  · rw [e] at h; cases h
  · rw [e] at h; exact absurd (inn_zero.1 h) he
  · rw [e]
    have := tk_bound he
    rw [ByteArray.size_extract] at this
    show 1 ≤ 1 + (tk (kindZ (idOf s)) (s.extract 1 s.size)).k ∧ 1 + (tk (kindZ (idOf s)) (s.extract 1 s.size)).k ≤ _
    omega
theorem tone_may {s : ByteArray} {place : Int} {l : List P} (h : (tone s).2.2 = 0) : goodB place l (tone s).1 = mayB place l (tone s).1 := by
  rcases tone_cases s with ⟨_, e⟩ | ⟨_, he, e⟩ | ⟨hk, he, e⟩
  · rw [e] at h; cases h
  · rw [e] at h; exact absurd (inn_zero.1 h) he
  · rw [good_may]
    cases hm : mayB place l (tone s).1 with
    | false => rfl
    | true =>
      rw [Bool.true_and]
      rw [e] at hm ⊢
      have hr := kind_range (idOf s)
      show valB (kindZ (idOf s)) ⟨idOf s, (tk (kindZ (idOf s)) (s.extract 1 s.size)).n, (tk (kindZ (idOf s)) (s.extract 1 s.size)).a, (tk (kindZ (idOf s)) (s.extract 1 s.size)).b⟩ = true
      refine tk_val hr.1 hr.2 hk he fun h1 => ?_
      unfold mayB at hm
      rw [Bool.and_eq_true, Bool.and_eq_true] at hm
      have h2 : haveB (idOf s) (tk (kindZ (idOf s)) (s.extract 1 s.size)).n = true := hm.2.1
      unfold haveB at h2
      by_cases hz : noZ (idOf s)
      · unfold noZ at hz
        rcases hz with hz | hz | hz | hz <;> (rw [hz] at h1; cases h1)
      · rw [if_neg hz] at h2
        have := of_decide_eq_true h2
        omega
def ta (place : Int) : Nat → List P → ByteArray → List P × Int
  | 0, l, _ => (l, 0)
  | f + 1, l, s => if s.size = 0 then (l, 0) else if (tone s).2.2 ≠ 0 then ([], (tone s).2.2) else if mayB place l (tone s).1 = false then ([], 9) else if l.length = 8 then ([], 2)
    else ta place f (l ++ [(tone s).1]) (s.extract (tone s).2.1.toNat s.size)
theorem ta_end {place : Int} {f : Nat} {l : List P} {s : ByteArray} (h : s.size = 0) : ta place (f + 1) l s = (l, 0) := by unfold ta; rw [if_pos h]
theorem ta_bad {place : Int} {f : Nat} {l : List P} {s : ByteArray} (h : s.size ≠ 0) (he : (tone s).2.2 ≠ 0) : ta place (f + 1) l s = ([], (tone s).2.2) := by unfold ta; rw [if_neg h, if_pos he]
theorem ta_no {place : Int} {f : Nat} {l : List P} {s : ByteArray} (h : s.size ≠ 0) (he : (tone s).2.2 = 0) (hm : mayB place l (tone s).1 = false) : ta place (f + 1) l s = ([], 9) := by unfold ta; rw [if_neg h, if_neg (fun x => x he), if_pos hm]
theorem ta_full {place : Int} {f : Nat} {l : List P} {s : ByteArray} (h : s.size ≠ 0) (he : (tone s).2.2 = 0) (hm : mayB place l (tone s).1 = true) (h8 : l.length = 8) : ta place (f + 1) l s = ([], 2) := by
  unfold ta; rw [if_neg h, if_neg (fun x => x he), if_neg (by rw [hm]; decide), if_pos h8]
theorem ta_step {place : Int} {f : Nat} {l : List P} {s : ByteArray} (h : s.size ≠ 0) (he : (tone s).2.2 = 0) (hm : mayB place l (tone s).1 = true) (h8 : l.length ≠ 8) :
    ta place (f + 1) l s = ta place f (l ++ [(tone s).1]) (s.extract (tone s).2.1.toNat s.size) := by
  conv => lhs; unfold ta
  rw [if_neg h, if_neg (fun x => x he), if_neg (by rw [hm]; decide), if_neg h8]
def takeP (place : Int) (s : ByteArray) : List P × Int × Int :=
  if placeB place = false then ([], 0, 1)
  else if (tn s.data.toList).2.2 ≠ 0 then ([], 0, (tn s.data.toList).2.2)
  else if (s.size : Int) - (tn s.data.toList).2.1 < (tn s.data.toList).1 then ([], 0, 7)
  else if (ta place (s.size + 1) [] (s.extract (tn s.data.toList).2.1.toNat ((tn s.data.toList).2.1 + (tn s.data.toList).1).toNat)).2 ≠ 0 then ([], 0, (ta place (s.size + 1) [] (s.extract (tn s.data.toList).2.1.toNat ((tn s.data.toList).2.1 + (tn s.data.toList).1).toNat)).2)
  else ((ta place (s.size + 1) [] (s.extract (tn s.data.toList).2.1.toNat ((tn s.data.toList).2.1 + (tn s.data.toList).1).toNat)).1, (tn s.data.toList).2.1 + (tn s.data.toList).1, 0)
end Go.Proofs.YtiancngpknnkaaaGreat.Prp
namespace Go.Proofs.YtiancngpknnkaaaGreat.Pkt
open Go.Lib Vbi Prp
structure Fl where
  t : ByteArray
  q : Int
  nl : Bool
  ar : Bool
  h : Int
structure Wl where
  has : Bool
  q : Int
  ret : Bool
  t : ByteArray
  b : ByteArray
  ps : List P
structure Pk where
  kind : Int
  dup : Bool
  q : Int
  ret : Bool
  id : Int
  t : ByteArray
  b : ByteArray
  re : Int
  pre : Bool
  cs : List Int
  fs : List Fl
  cl : ByteArray
  clean : Bool
  keep : Int
  w : Wl
  hu : Bool
  u : ByteArray
  hp : Bool
  pw : ByteArray
  ps : List P
def zw : Wl := ⟨false, 0, false, ⟨#[]⟩, ⟨#[]⟩, []⟩
def zp (kind : Int) : Pk := ⟨kind, false, 0, false, 0, ⟨#[]⟩, ⟨#[]⟩, 0, false, [], [], ⟨#[]⟩, false, 0, zw, false, ⟨#[]⟩, false, ⟨#[]⟩, []⟩
inductive Part
  | octet (n : Int)
  | short (n : Int)
  | number (n : Int)
  | words (s : ByteArray)
  | sized (s : ByteArray)
  | props (place : Int) (l : List P)
  | raw (s : ByteArray)
def lgStr (s : ByteArray) : ByteArray := strOfNums (fixZ 2 s.size) ++ s
def fxStr (n : Int) : ByteArray := strOfNums (fixZ 2 n.toNat)
def Part.okB : Part → Bool
  | .octet n => decide (0 ≤ n ∧ n ≤ 255)
  | .short n => decide (0 ≤ n ∧ n < 65536)
  | .number n => decide (1 ≤ n ∧ n < 65536)
  | .words s => textB s
  | .sized s => binB s
  | .props k l => propsB k l
  | .raw _ => true
def Part.str : Part → ByteArray
  | .octet n => strOfNums [n]
  | .short n => fxStr n
  | .number n => fxStr n
  | .words s => lgStr s
  | .sized s => lgStr s
  | .props _ l => propStr l
  | .raw s => s
def allOk (l : List Part) : Bool := l.all Part.okB
def allStr (l : List Part) : ByteArray := l.foldl (fun a p => a ++ p.str) ⟨#[]⟩
theorem allStr_snoc (l : List Part) (p : Part) : allStr (l ++ [p]) = allStr l ++ p.str := by unfold allStr; rw [List.foldl_append]; rfl
theorem empty_add (s : ByteArray) : (⟨#[]⟩ : ByteArray) ++ s = s := ByteArray.empty_append
theorem add_empty (s : ByteArray) : s ++ (⟨#[]⟩ : ByteArray) = s := ByteArray.append_empty
theorem fold_str (l : List Part) (a : ByteArray) : l.foldl (fun a p => a ++ p.str) a = a ++ allStr l := by
  induction l generalizing a with
  | nil => exact (add_empty a).symm
  | cons p t ih =>
    unfold allStr
    rw [List.foldl_cons, List.foldl_cons, ih, ih, empty_add, ByteArray.append_assoc]
theorem allStr_cons (p : Part) (l : List Part) : allStr (p :: l) = p.str ++ allStr l := by
  show List.foldl _ _ _ = _
  rw [List.foldl_cons, fold_str, empty_add]
theorem allStr_nil : allStr [] = ⟨#[]⟩ := rfl
theorem allStr_app (l m : List Part) : allStr (l ++ m) = allStr l ++ allStr m := by
  show List.foldl _ _ _ = _
  rw [List.foldl_append, fold_str]
  rfl
theorem allOk_cons (p : Part) (l : List Part) : allOk (p :: l) = (p.okB && allOk l) := rfl
theorem allOk_app (l m : List Part) : allOk (l ++ m) = (allOk l && allOk m) := by unfold allOk; rw [List.all_append]
def bitZ (b : Bool) (n : Int) : Int := if b = true then n else 0
def flagsZ (p : Pk) : Int := if p.kind = 6 ∨ p.kind = 8 ∨ p.kind = 10 then 2 else bitZ p.dup 8 + 2 * p.q + bitZ p.ret 1
def loginZ (p : Pk) : Int := bitZ p.clean 2 + bitZ p.w.has 4 + 8 * p.w.q + bitZ p.w.ret 32 + bitZ p.hp 64 + bitZ p.hu 128
def filterZ (f : Fl) : Int := f.q + bitZ f.nl 4 + bitZ f.ar 8 + 16 * f.h
def mqtt : ByteArray := ⟨#[77, 81, 84, 84]⟩
def reasonL (p : Pk) : List Part := if p.ps ≠ [] then [.octet p.re, .props p.kind p.ps] else if p.re ≠ 0 then [.octet p.re] else []
def filterL (sub : Bool) (l : List Fl) : List Part := l.flatMap fun f => if sub = true then [.words f.t, .octet (filterZ f)] else [.words f.t]
def codeL (l : List Int) : List Part := l.map .octet
def willL (p : Pk) : List Part := if p.w.has = true then [.props 0 p.w.ps, .words p.w.t, .sized p.w.b] else []
def userL (p : Pk) : List Part := if p.hu = true then [.words p.u] else []
def passL (p : Pk) : List Part := if p.hp = true then [.sized p.pw] else []
def connectL (p : Pk) : List Part := [.words mqtt, .octet 5, .octet (loginZ p), .short p.keep, .props p.kind p.ps, .words p.cl] ++ willL p ++ userL p ++ passL p
def partsL (p : Pk) : List Part :=
  if p.kind = 1 then connectL p
  else if p.kind = 2 then [.octet (bitZ p.pre 1), .octet p.re, .props p.kind p.ps]
  else if p.kind = 3 then (if p.q = 0 then [.words p.t, .props p.kind p.ps, .raw p.b] else [.words p.t, .number p.id, .props p.kind p.ps, .raw p.b])
  else if p.kind = 4 ∨ p.kind = 5 ∨ p.kind = 6 ∨ p.kind = 7 then [.number p.id] ++ reasonL p
  else if p.kind = 8 ∨ p.kind = 10 then [.number p.id, .props p.kind p.ps] ++ filterL (decide (p.kind = 8)) p.fs
  else if p.kind = 9 ∨ p.kind = 11 then [.number p.id, .props p.kind p.ps] ++ codeL p.cs
  else if p.kind = 14 ∨ p.kind = 15 then reasonL p
  else []
def E (s : ByteArray) : Bool := decide (s = ⟨#[]⟩)
def wFilled (w : Wl) : Bool := w.has || (decide (w.q ≠ 0) || (w.ret || (!E w.t || (!E w.b || decide (w.ps ≠ [])))))
def b1 (p : Pk) : Bool := !E p.cl || (p.clean || (decide (p.keep ≠ 0) || (wFilled p.w || (p.hu || (!E p.u || (p.hp || !E p.pw))))))
def b3 (p : Pk) : Bool := p.dup || (decide (p.q ≠ 0) || (p.ret || (!E p.t || !E p.b)))
def fieldOf (k : Int) (x1 x2 x3 x4 x5 x6 x7 x8 : Bool) : Bool :=
  (!x1 || decide (k = 1)) && ((!x2 || decide (k = 2)) && ((!x3 || decide (k = 3)) && ((!x4 || decide (k = 3 ∨ k = 4 ∨ k = 5 ∨ k = 6 ∨ k = 7 ∨ k = 8 ∨ k = 10 ∨ k = 9 ∨ k = 11)) &&
  ((!x5 || decide (k = 2 ∨ k = 4 ∨ k = 5 ∨ k = 6 ∨ k = 7 ∨ k = 14 ∨ k = 15)) && ((!x6 || decide (k = 9 ∨ k = 11)) && ((!x7 || decide (k = 8 ∨ k = 10)) && (!x8 || decide (k ≠ 12 ∧ k ≠ 13))))))))
def fieldB (p : Pk) : Bool := fieldOf p.kind (b1 p) p.pre (b3 p) (p.id != 0) (p.re != 0) (decide (0 < p.cs.length)) (decide (0 < p.fs.length)) (decide (0 < p.ps.length))
def qosB (n : Int) : Bool := decide (0 ≤ n ∧ n ≤ 2)
def onlyB (f : Fl) : Bool := decide (f.q = 0) && (!f.nl && (!f.ar && decide (f.h = 0)))
def mayFilB (f : Fl) : Bool := qosB f.q && qosB f.h
def countB (n : Nat) : Bool := decide (1 ≤ n ∧ n ≤ 4)
def logInB (p : Pk) : Bool := (E p.u || p.hu) && ((E p.pw || p.hp) && (if p.w.has = true then qosB p.w.q && !E p.w.t else !wFilled p.w))
def sendB (dup : Bool) (q : Int) : Bool := qosB q && (decide (0 < q) || !dup)
def askB (p : Pk) : Bool := p.fs.all (fun f => mayFilB f && (decide (p.kind ≠ 10) || onlyB f)) && countB p.fs.length
def mayP (p : Pk) : Bool :=
  decide (1 ≤ p.kind ∧ p.kind ≤ 15) && (fieldB p && (
    if p.kind = 1 then logInB p
    else if p.kind = 3 then sendB p.dup p.q && ((decide (0 < p.q) || decide (p.id = 0)) && decide (p.b.size ≤ 1024))
    else if p.kind = 8 ∨ p.kind = 10 then askB p
    else if p.kind = 9 ∨ p.kind = 11 then countB p.cs.length
    else true))
def restP (p : Pk) : ByteArray := allStr (partsL p)
def strP (p : Pk) : ByteArray := (strOfNums [16 * p.kind + flagsZ p] ++ strOfNums (numZ (restP p).size)) ++ restP p
def packB (p : Pk) : Bool := mayP p && (allOk (partsL p) && decide ((strP p).size ≤ 8192))
def packStr (p : Pk) : ByteArray := if packB p = true then strP p else ⟨#[]⟩
def packErr (p : Pk) : Int := if packB p = true then 0 else 1
theorem pack_yes {p : Pk} (h : packB p = true) : packStr p = strP p ∧ packErr p = 0 := by unfold packStr packErr; rw [if_pos h, if_pos h]; exact ⟨rfl, rfl⟩
theorem pack_no {p : Pk} (h : packB p = false) : packStr p = ⟨#[]⟩ ∧ packErr p = 1 := by
  have h' : ¬ packB p = true := by rw [h]; decide
  unfold packStr packErr; rw [if_neg h', if_neg h']; exact ⟨rfl, rfl⟩
end Go.Proofs.YtiancngpknnkaaaGreat.Pkt
namespace Go.Proofs.YtiancngpknnkaaaGreat
open Go.RowKit Go.Lib Prp Pkt
def fcells (f : Fl) : List Value := [.string f.t, .int .i64 f.q, .bool f.nl, .bool f.ar, .int .i64 f.h]
structure FAt (w : World) (b o : Nat) (f : Fl) : Prop where
  c0 : w.cell? ⟨b, o, none⟩ = some (.string f.t)
  c1 : w.cell? ⟨b, o + 1, none⟩ = some (.int .i64 f.q)
  c2 : w.cell? ⟨b, o + 2, none⟩ = some (.bool f.nl)
  c3 : w.cell? ⟨b, o + 3, none⟩ = some (.bool f.ar)
  c4 : w.cell? ⟨b, o + 4, none⟩ = some (.int .i64 f.h)
def FilsAt (w : World) (B : Nat) (A : Option Addr) (l : List Fl) : Prop :=
  l = [] ∨ ∃ b o, A = some ⟨b, o, none⟩ ∧ b < B ∧ ∀ j (h : j < l.length), FAt w b (o + j * 5) l[j]
section
variable {w w' : World} {B B' : Nat} {A : Option Addr} {l : List Fl}
theorem FAt.keep {b o : Nat} {f : Fl} (h : FAt w b o f) (hk : ∀ i, w'.cell? ⟨b, i, none⟩ = w.cell? ⟨b, i, none⟩) : FAt w' b o f :=
  ⟨(hk _).trans h.c0, (hk _).trans h.c1, (hk _).trans h.c2, (hk _).trans h.c3, (hk _).trans h.c4⟩
theorem FilsAt.some_ (h : FilsAt w B A l) (hl : 0 < l.length) : ∃ b o, A = some ⟨b, o, none⟩ ∧ b < B ∧ ∀ j (h : j < l.length), FAt w b (o + j * 5) l[j] := by
  rcases h with rfl | h
  · simp at hl
  · exact h
theorem FilsAt.keep (h : FilsAt w B A l) (hk : ∀ p : Addr, p.block < B → w'.cell? p = w.cell? p) : FilsAt w' B A l := by
  rcases h with h | ⟨b, o, h1, h2, h3⟩
  · exact .inl h
  · exact .inr ⟨b, o, h1, h2, fun j hj => (h3 j hj).keep fun i => hk ⟨b, i, none⟩ h2⟩
theorem FilsAt.mono (h : FilsAt w B A l) (hB : B ≤ B') : FilsAt w B' A l := by
  rcases h with h | ⟨b, o, h1, h2, h3⟩
  · exact .inl h
  · exact .inr ⟨b, o, h1, Nat.lt_of_lt_of_le h2 hB, h3⟩
theorem FilsAt.below (h : FilsAt w B A l) (hb : Below B w w') : FilsAt w' B A l := h.keep fun _ hp => hb.cell hp
end
def flatF (l : List Fl) : List Value := l.flatMap fcells
theorem flatF_snoc (l : List Fl) (p : Fl) : flatF (l ++ [p]) = flatF l ++ fcells p := by unfold flatF; rw [List.flatMap_append]; simp
theorem flatF_at (l : List Fl) (j i : Nat) (hj : j < l.length) (hi : i < 5) : (flatF l)[j * 5 + i]? = (fcells l[j])[i]? := by
  induction l generalizing j with
  | nil => simp at hj
  | cons p t ih =>
    have e : flatF (p :: t) = fcells p ++ flatF t := by unfold flatF; rw [List.flatMap_cons]
    rw [e]
    cases j with
    | zero =>
      rw [List.getElem?_append_left (by show _ < 5; omega)]
      simp
    | succ m =>
      rw [List.getElem?_append_right (by show 5 ≤ _; omega)]
      have : (m + 1) * 5 + i - (fcells p).length = m * 5 + i := by show _ - 5 = _; omega
      rw [this]
      exact ih m (by simpa using hj)
theorem FilsAt.of_own {w : World} {base e c : Nat} {A : Option Addr} {l : List Fl} (h : w.ownsRow base e 5 (.slice A l.length c) l.length (flatF l)) : FilsAt w w.heap.size A l := by
  rcases h.2 with ⟨hv, hn⟩ | ⟨g, cap, cur, hv, _, hg, hle, _, hsz, htk⟩
  · exact .inl (List.eq_nil_of_length_eq_zero hn)
  · injection hv with hA _ _
    subst hA
    have key := h.cells (g := g) rfl
    refine .inr ⟨g, 0, rfl, (Array.getElem?_eq_some_iff.1 hg).1, fun j hj => ?_⟩
    have hz : ∀ i u, i < 5 → (fcells l[j])[i]? = some u → w.cell? ⟨g, 0 + j * 5 + i, none⟩ = some u := fun i u hi hu => by
      have := key (j * 5 + i) u (by rw [flatF_at l j i hj hi]; exact hu)
      rw [add_new] at this
      rw [Nat.zero_add]
      exact this
    exact ⟨hz 0 _ (by omega) rfl, hz 1 _ (by omega) rfl, hz 2 _ (by omega) rfl, hz 3 _ (by omega) rfl, hz 4 _ (by omega) rfl⟩
theorem ownF_slice {w : World} {base e : Nat} {v : Value} {l : List Fl} (h : w.ownsRow base e 5 v l.length (flatF l)) : ∃ A c, v = .slice A l.length c := by
  rcases h.2 with ⟨hv, hn⟩ | ⟨g, cap, cur, hv, _⟩
  · exact ⟨none, 0, by rw [hv, hn]⟩
  · exact ⟨_, cap, hv⟩
structure Ad where
  ca : Option Addr
  cc : Nat
  fa : Option Addr
  fc : Nat
  wa : Option Addr
  wc : Nat
  pa : Option Addr
  pc : Nat
def za : Ad := ⟨none, 0, none, 0, none, 0, none, 0⟩
def wlArr (x : Wl) (A : Option Addr) (c : Nat) : Array Value := #[.bool x.has, .int .i64 x.q, .bool x.ret, .string x.t, .string x.b, .slice A x.ps.length c]
def pkArr (p : Pk) (a : Ad) : Array Value :=
  #[.int .i64 p.kind, .bool p.dup, .int .i64 p.q, .bool p.ret, .int .i64 p.id, .string p.t, .string p.b, .int .i64 p.re, .bool p.pre, .slice a.ca p.cs.length a.cc, .slice a.fa p.fs.length a.fc, .string p.cl, .bool p.clean, .int .i64 p.keep,
    .bool p.w.has, .int .i64 p.w.q, .bool p.w.ret, .string p.w.t, .string p.w.b, .slice a.wa p.w.ps.length a.wc, .bool p.hu, .string p.u, .bool p.hp, .string p.pw, .slice a.pa p.ps.length a.pc]
structure PkAt (w : World) (B : Nat) (p : Pk) (a : Ad) : Prop where
  cs : Nums w B .i64 a.ca p.cs
  fs : FilsAt w B a.fa p.fs
  ws : PropsAt w B a.wa p.w.ps
  ps : PropsAt w B a.pa p.ps
section
variable {w w' : World} {B B' : Nat} {p : Pk} {a : Ad}
theorem PkAt.mono (h : PkAt w B p a) (hB : B ≤ B') : PkAt w B' p a := ⟨h.cs.mono hB, h.fs.mono hB, h.ws.mono hB, h.ps.mono hB⟩
theorem PkAt.below (h : PkAt w B p a) (hb : Below B w w') : PkAt w' B p a := ⟨h.cs.below hb, h.fs.below hb, h.ws.below hb, h.ps.below hb⟩
theorem PkAt.zero (w : World) (B : Nat) (k : Int) : PkAt w B (zp k) za := ⟨.inl rfl, .inl rfl, .inl rfl, .inl rfl⟩
end
@[irreducible] def PkIn (p : Pk) (a : Ad) (W : World) : Prop := PkAt W W.heap.size p a
section
variable {W W' : World} {p : Pk} {a : Ad}
theorem PkIn.mk (h : PkAt W W.heap.size p a) : PkIn p a W := by unfold PkIn; exact h
theorem PkIn.out (h : PkIn p a W) : PkAt W W.heap.size p a := by unfold PkIn at h; exact h
theorem PkIn.below (h : PkIn p a W) (hb : Below W.heap.size W W') : PkIn p a W' := .mk ((h.out.below hb).mono hb.size)
theorem PkIn.alloc (h : PkIn p a W) (o : Obj) : PkIn p a (W.alloc o) := h.below ((Below.refl _ _).alloc (Nat.le_refl _) o)
theorem PkIn.drewN (h : PkIn p a W) (n : Nat) : PkIn p a (W.drewN n) := h.below (below_drewN (Below.refl _ _) n)
end
structure FFit (f : Fl) : Prop where
  q0 : -9223372036854775808 ≤ f.q
  q1 : f.q ≤ 9223372036854775807
  h0 : -9223372036854775808 ≤ f.h
  h1 : f.h ≤ 9223372036854775807
  ht : f.t.size ≤ 140737488351232
structure PkFit (p : Pk) (a : Ad) : Prop where
  kind : -9223372036854775808 ≤ p.kind ∧ p.kind ≤ 9223372036854775807
  q : -9223372036854775808 ≤ p.q ∧ p.q ≤ 9223372036854775807
  id : -9223372036854775808 ≤ p.id ∧ p.id ≤ 9223372036854775807
  re : -9223372036854775808 ≤ p.re ∧ p.re ≤ 9223372036854775807
  keep : -9223372036854775808 ≤ p.keep ∧ p.keep ≤ 9223372036854775807
  wq : -9223372036854775808 ≤ p.w.q ∧ p.w.q ≤ 9223372036854775807
  t : p.t.size ≤ 140737488351232
  b : p.b.size ≤ 140737488351232
  cl : p.cl.size ≤ 140737488351232
  wt : p.w.t.size ≤ 140737488351232
  wb : p.w.b.size ≤ 140737488351232
  u : p.u.size ≤ 140737488351232
  pw : p.pw.size ≤ 140737488351232
  cs : ∀ x ∈ p.cs, -9223372036854775808 ≤ x ∧ x ≤ 9223372036854775807
  fs : ∀ f ∈ p.fs, FFit f
  ws : ∀ x ∈ p.w.ps, Fit x
  ps : ∀ x ∈ p.ps, Fit x
  cl1 : p.cs.length ≤ 9223372036854775807 ∧ p.cs.length ≤ a.cc
  fl1 : p.fs.length ≤ 9223372036854775807 ∧ p.fs.length ≤ a.fc
  wl1 : p.w.ps.length ≤ 9223372036854775807 ∧ p.w.ps.length ≤ a.wc
  pl1 : p.ps.length ≤ 9223372036854775807 ∧ p.ps.length ≤ a.pc
open Go.ChangeShapes Go.WideShapes Go.ChangeAt Go.RowKit Prp Pkt
theorem cells_bool : Tryz.prog.cellsOf 4 = 1 := by kernel_rfl
theorem cells_ints : Tryz.prog.cellsOf 24 = 1 := by kernel_rfl
theorem cells_filters : Tryz.prog.cellsOf 25 = 1 := by kernel_rfl
theorem cells_filter : Tryz.prog.cellsOf 77 = 5 := by kernel_rfl
theorem cells_will : Tryz.prog.cellsOf 28 = 6 := by kernel_rfl
theorem cells_packet : Tryz.prog.cellsOf 30 = 25 := by kernel_rfl
section
variable {H : Type} {enc : TypeId × Value → H} {W : World} {base : Nat} {spare : Nat → Bool} {held : Bool}
theorem one_filter {fuel : Nat} {a : Addr} {cs : List Value} {y : DataW H × List MemPlace} (hc : W.cells? base a 5 = some cs) (hw : Near 77 y.1) (h : DataW.trod enc Tryz.prog W base spare held fuel 77 cs = some y) :
    ∃ p, FAt W a.block a.off p ∧ FFit p ∧ a.spot = none := by
  obtain ⟨_, hlen, hcell⟩ := World.cells?_some hc
  match cs, hlen with
  | [v0, v1, v2, v3, v4], _ =>
    have g0 := hcell 0 (by omega)
    have g1 := hcell 1 (by omega)
    have g2 := hcell 2 (by omega)
    have g3 := hcell 3 (by omega)
    have g4 := hcell 4 (by omega)
    change W.cell? (a.add 0) = some v0 at g0
    change W.cell? (a.add 1) = some v1 at g1
    change W.cell? (a.add 2) = some v2 at g2
    change W.cell? (a.add 3) = some v3 at g3
    change W.cell? (a.add 4) = some v4 at g4
    obtain ⟨ys, n, _, hy, _, hyl, hf⟩ := DataW.trod_struct Tryz.underlying77 h
    subst hy
    have hyl' : ys.length = 5 := by simpa using hyl
    have f0 := hf 0 _ rfl
    have f1 := hf 1 _ rfl
    have f2 := hf 2 _ rfl
    have f3 := hf 3 _ rfl
    have f4 := hf 4 _ rfl
    rw [List.getElem?_eq_getElem (by omega)] at f0 f1 f2 f3 f4
    change DataW.trod enc Tryz.prog W base spare held n 9 (List.take (Tryz.prog.cellsOf 9) [v0, v1, v2, v3, v4]) = _ at f0
    change DataW.trod enc Tryz.prog W base spare held n 3 (List.take (Tryz.prog.cellsOf 3) [v1, v2, v3, v4]) = _ at f1
    change DataW.trod enc Tryz.prog W base spare held n 4 (List.take (Tryz.prog.cellsOf 4) [v2, v3, v4]) = _ at f2
    change DataW.trod enc Tryz.prog W base spare held n 4 (List.take (Tryz.prog.cellsOf 4) [v3, v4]) = _ at f3
    change DataW.trod enc Tryz.prog W base spare held n 3 (List.take (Tryz.prog.cellsOf 3) [v4]) = _ at f4
    rw [cells_string] at f0
    rw [cells_int] at f1
    rw [cells_bool] at f2
    rw [cells_bool] at f3
    rw [cells_int] at f4
    obtain ⟨s, e0, x0, ws⟩ := DataW.trod_string Tryz.underlying9 f0
    obtain ⟨q, e1, _, wq⟩ := DataW.trod_int Tryz.underlying3 f1
    obtain ⟨nl, e2, _⟩ := DataW.trod_bool Tryz.underlying4 f2
    obtain ⟨ar, e3, _⟩ := DataW.trod_bool Tryz.underlying4 f3
    obtain ⟨h', e4, _, wh⟩ := DataW.trod_int Tryz.underlying3 f4
    have w0 := near_field Tryz.underlying77 hw (j := 0) rfl rfl (List.getElem?_eq_getElem (by omega))
    rw [x0] at w0
    have ws := near_string w0
    have hsp : a.spot = none := by
      have := World.cell?_spot g0
      simpa [Addr.add] using this
    obtain ⟨b, off, spot⟩ := a
    obtain rfl : spot = none := hsp
    rw [add_off] at g0 g1 g2 g3 g4
    simp at e0 e1 e2 e3 e4
    subst e0 e1 e2 e3 e4
    have rq := int_range wq
    have rh := int_range wh
    exact ⟨⟨s, q, nl, ar, h'⟩, ⟨g0, g1, g2, g3, g4⟩, ⟨rq.1, rq.2, rh.1, rh.2, ws⟩, rfl⟩
theorem filters_of_trod {fuel : Nat} {v : Value} {y : DataW H × List MemPlace} (hw : Near 25 y.1) (h : DataW.trod enc Tryz.prog W base spare held fuel 25 [v] = some y) :
    ∃ A l c, v = .slice A (List.length l) c ∧ FilsAt W W.heap.size A l ∧ (∀ p ∈ l, FFit p) ∧ l.length ≤ c ∧ l.length ≤ 9223372036854775807 := by
  rcases Go.Deep.open_slice Tryz.underlying25 h with ⟨hcs, _⟩ | ⟨a, len, cap, m, k, D, Pl, hcs, _, hl, hcm, hm, hx, hi⟩
  · simp at hcs
    subst hcs
    exact ⟨none, [], 0, rfl, .inl rfl, by simp, by simp, by simp⟩
  · simp at hcs
    subst hcs
    have hml : len ≤ m := by rw [hm]; split <;> omega
    rw [cells_filter] at hi
    have key : ∀ i, i < len → ∃ p, FAt W (a.add (i * 5)).block (a.add (i * 5)).off p ∧ FFit p ∧ (a.add (i * 5)).spot = none := fun i hin => by
      obtain ⟨cs, hc, ht⟩ := hi i (by omega)
      refine one_filter hc ?_ ht
      rw [hx] at hw
      exact near_elem Tryz.underlying25 hw (List.mem_map.2 ⟨i, List.mem_range.2 hin, rfl⟩)
    have hcm' : cap ≤ 9223372036854775807 := by unfold maxLen at hcm; omega
    by_cases h0 : len = 0
    · subst h0
      exact ⟨some a, [], cap, rfl, .inl rfl, by simp, by simp, by simp⟩
    · have hsp : a.spot = none := by
        obtain ⟨_, _, _, h⟩ := key 0 (by omega)
        simpa [Addr.add] using h
      obtain ⟨b, off, spot⟩ := a
      obtain rfl : spot = none := hsp
      have key2 : ∀ i, ∃ p : Fl, i < len → FAt W b (off + i * 5) p ∧ FFit p := fun i => by
        by_cases hin : i < len
        · obtain ⟨p, hp, hfp, _⟩ := key i hin
          rw [add_off] at hp
          exact ⟨p, fun _ => ⟨hp, hfp⟩⟩
        · exact ⟨⟨⟨#[]⟩, 0, false, false, 0⟩, fun h => absurd h hin⟩
      obtain ⟨f, hf⟩ := Classical.axiomOfChoice key2
      refine ⟨some ⟨b, off, none⟩, (List.range len).map f, cap, by simp, .inr ⟨b, off, rfl, ?_, fun j hj => ?_⟩, fun p hp => ?_, by simpa using hl, by simp; omega⟩
      · exact cell_lt (hf 0 (by omega)).1.c0
      · have hj' : j < len := by simpa using hj
        rw [List.getElem_map, List.getElem_range]
        exact (hf j hj').1
      · rw [List.mem_map] at hp
        obtain ⟨j, hj, rfl⟩ := hp
        exact (hf j (by simpa using hj)).2
theorem ints_of_trod {fuel : Nat} {v : Value} {y : DataW H × List MemPlace} (h : DataW.trod enc Tryz.prog W base spare held fuel 24 [v] = some y) :
    ∃ A l c, v = .slice A (List.length l) c ∧ Nums W W.heap.size .i64 A l ∧ (∀ x ∈ l, -9223372036854775808 ≤ x ∧ x ≤ 9223372036854775807) ∧ l.length ≤ c ∧ l.length ≤ 9223372036854775807 := by
  rcases open_ints Tryz.underlying24 Tryz.underlying3 cells_int h with ⟨e1, _⟩ | ⟨p, len, cap, zs, e1, _, hl, hm, hz, _, hzc, hwz⟩
  · simp at e1
    subst e1
    exact ⟨none, [], 0, rfl, Nums.none_, by simp, by simp, by simp⟩
  · simp at e1
    subst e1
    have hzl : len ≤ zs.length := by rw [hz]; split <;> omega
    have htl : (zs.take len).length = len := by rw [List.length_take]; omega
    unfold maxLen at hm
    refine ⟨some p, zs.take len, cap, by rw [htl], ?_, fun r hr => int_range (hwz r (List.mem_of_mem_take hr)), by omega, by omega⟩
    by_cases h0 : len = 0
    · subst h0; exact Nums.none_
    · refine .inr ⟨p, rfl, ?_, fun j hj => ?_⟩
      · have := cell_lt (hzc 0 (by omega))
        rwa [add_block] at this
      · rw [htl] at hj
        rw [hzc j (by omega)]
        simp [hj]
theorem will_of_trod {fuel : Nat} {v0 v1 v2 v3 v4 v5 : Value} {y : DataW H × List MemPlace} (hw : Near 28 y.1) (h : DataW.trod enc Tryz.prog W base spare held fuel 28 [v0, v1, v2, v3, v4, v5] = some y) :
    ∃ x A c, [v0, v1, v2, v3, v4, v5] = (wlArr x A c).toList ∧ PropsAt W W.heap.size A x.ps ∧ (∀ p ∈ x.ps, Fit p) ∧ x.ps.length ≤ c ∧ x.ps.length ≤ 9223372036854775807 ∧ (-9223372036854775808 ≤ x.q ∧ x.q ≤ 9223372036854775807) ∧ x.t.size ≤ 140737488351232 ∧ x.b.size ≤ 140737488351232 := by
    obtain ⟨ys, n, _, hy, _, hyl, hf⟩ := DataW.trod_struct Tryz.underlying28 h
    subst hy
    have hyl' : ys.length = 6 := by simpa using hyl
    have f0 := hf 0 _ rfl
    have f1 := hf 1 _ rfl
    have f2 := hf 2 _ rfl
    have f3 := hf 3 _ rfl
    have f4 := hf 4 _ rfl
    have f5 := hf 5 _ rfl
    rw [List.getElem?_eq_getElem (by omega)] at f0 f1 f2 f3 f4 f5
    change DataW.trod enc Tryz.prog W base spare held n 4 (List.take (Tryz.prog.cellsOf 4) [v0, v1, v2, v3, v4, v5]) = _ at f0
    rw [cells_bool] at f0
    have f0 : DataW.trod enc Tryz.prog W base spare held n 4 [v0] = _ := f0
    obtain ⟨x0, e0, _⟩ := DataW.trod_bool Tryz.underlying4 f0
    try simp only [List.cons.injEq, and_true] at e0
    change DataW.trod enc Tryz.prog W base spare held n 3 (List.take (Tryz.prog.cellsOf 3) [v1, v2, v3, v4, v5]) = _ at f1
    rw [cells_int] at f1
    have f1 : DataW.trod enc Tryz.prog W base spare held n 3 [v1] = _ := f1
    obtain ⟨x1, e1, _, r1⟩ := DataW.trod_int Tryz.underlying3 f1
    have r1 := int_range r1
    try simp only [List.cons.injEq, and_true] at e1
    change DataW.trod enc Tryz.prog W base spare held n 4 (List.take (Tryz.prog.cellsOf 4) [v2, v3, v4, v5]) = _ at f2
    rw [cells_bool] at f2
    have f2 : DataW.trod enc Tryz.prog W base spare held n 4 [v2] = _ := f2
    obtain ⟨x2, e2, _⟩ := DataW.trod_bool Tryz.underlying4 f2
    try simp only [List.cons.injEq, and_true] at e2
    change DataW.trod enc Tryz.prog W base spare held n 9 (List.take (Tryz.prog.cellsOf 9) [v3, v4, v5]) = _ at f3
    rw [cells_string] at f3
    have f3 : DataW.trod enc Tryz.prog W base spare held n 9 [v3] = _ := f3
    obtain ⟨x3, e3, r3, _⟩ := DataW.trod_string Tryz.underlying9 f3
    have n3 := near_field Tryz.underlying28 hw (j := 3) rfl rfl (List.getElem?_eq_getElem (by omega))
    rw [r3] at n3
    have k3 := near_string n3
    try simp only [List.cons.injEq, and_true] at e3
    change DataW.trod enc Tryz.prog W base spare held n 9 (List.take (Tryz.prog.cellsOf 9) [v4, v5]) = _ at f4
    rw [cells_string] at f4
    have f4 : DataW.trod enc Tryz.prog W base spare held n 9 [v4] = _ := f4
    obtain ⟨x4, e4, r4, _⟩ := DataW.trod_string Tryz.underlying9 f4
    have n4 := near_field Tryz.underlying28 hw (j := 4) rfl rfl (List.getElem?_eq_getElem (by omega))
    rw [r4] at n4
    have k4 := near_string n4
    try simp only [List.cons.injEq, and_true] at e4
    change DataW.trod enc Tryz.prog W base spare held n 26 (List.take (Tryz.prog.cellsOf 26) [v5]) = _ at f5
    rw [cells_props] at f5
    have f5 : DataW.trod enc Tryz.prog W base spare held n 26 [v5] = _ := f5
    have n5 := near_field Tryz.underlying28 hw (j := 5) rfl rfl (List.getElem?_eq_getElem (by omega))
    obtain ⟨A5, x5, c5, e5, m5, t5, p5, l5⟩ := props_of_trod n5 f5
    try simp only [List.cons.injEq, and_true] at e5
    subst e0 e1 e2 e3 e4 e5
    exact ⟨⟨x0, x1, x2, x3, x4, x5⟩, A5, c5, rfl, m5, t5, p5, l5, r1, k3, k4⟩
theorem packet_of_trod {fuel : Nat} {v0 v1 v2 v3 v4 v5 v6 v7 v8 v9 v10 v11 v12 v13 v14 v15 v16 v17 v18 v19 v20 v21 v22 v23 v24 : Value} {y : DataW H × List MemPlace} (hw : Near 30 y.1) (h : DataW.trod enc Tryz.prog W base spare held fuel 30 [v0, v1, v2, v3, v4, v5, v6, v7, v8, v9, v10, v11, v12, v13, v14, v15, v16, v17, v18, v19, v20, v21, v22, v23, v24] = some y) :
    ∃ p a, [v0, v1, v2, v3, v4, v5, v6, v7, v8, v9, v10, v11, v12, v13, v14, v15, v16, v17, v18, v19, v20, v21, v22, v23, v24] = (pkArr p a).toList ∧ PkAt W W.heap.size p a ∧ PkFit p a := by
    obtain ⟨ys, n, _, hy, _, hyl, hf⟩ := DataW.trod_struct Tryz.underlying30 h
    subst hy
    have hyl' : ys.length = 20 := by simpa using hyl
    have f0 := hf 0 _ rfl
    have f1 := hf 1 _ rfl
    have f2 := hf 2 _ rfl
    have f3 := hf 3 _ rfl
    have f4 := hf 4 _ rfl
    have f5 := hf 5 _ rfl
    have f6 := hf 6 _ rfl
    have f7 := hf 7 _ rfl
    have f8 := hf 8 _ rfl
    have f9 := hf 9 _ rfl
    have f10 := hf 10 _ rfl
    have f11 := hf 11 _ rfl
    have f12 := hf 12 _ rfl
    have f13 := hf 13 _ rfl
    have f14 := hf 14 _ rfl
    have f15 := hf 15 _ rfl
    have f16 := hf 16 _ rfl
    have f17 := hf 17 _ rfl
    have f18 := hf 18 _ rfl
    have f19 := hf 19 _ rfl
    rw [List.getElem?_eq_getElem (by omega)] at f0 f1 f2 f3 f4 f5 f6 f7 f8 f9 f10 f11 f12 f13 f14 f15 f16 f17 f18 f19
    change DataW.trod enc Tryz.prog W base spare held n 3 (List.take (Tryz.prog.cellsOf 3) [v0, v1, v2, v3, v4, v5, v6, v7, v8, v9, v10, v11, v12, v13, v14, v15, v16, v17, v18, v19, v20, v21, v22, v23, v24]) = _ at f0
    rw [cells_int] at f0
    have f0 : DataW.trod enc Tryz.prog W base spare held n 3 [v0] = _ := f0
    obtain ⟨x0, e0, _, r0⟩ := DataW.trod_int Tryz.underlying3 f0
    have r0 := int_range r0
    try simp only [List.cons.injEq, and_true] at e0
    change DataW.trod enc Tryz.prog W base spare held n 4 (List.take (Tryz.prog.cellsOf 4) [v1, v2, v3, v4, v5, v6, v7, v8, v9, v10, v11, v12, v13, v14, v15, v16, v17, v18, v19, v20, v21, v22, v23, v24]) = _ at f1
    rw [cells_bool] at f1
    have f1 : DataW.trod enc Tryz.prog W base spare held n 4 [v1] = _ := f1
    obtain ⟨x1, e1, _⟩ := DataW.trod_bool Tryz.underlying4 f1
    try simp only [List.cons.injEq, and_true] at e1
    change DataW.trod enc Tryz.prog W base spare held n 3 (List.take (Tryz.prog.cellsOf 3) [v2, v3, v4, v5, v6, v7, v8, v9, v10, v11, v12, v13, v14, v15, v16, v17, v18, v19, v20, v21, v22, v23, v24]) = _ at f2
    rw [cells_int] at f2
    have f2 : DataW.trod enc Tryz.prog W base spare held n 3 [v2] = _ := f2
    obtain ⟨x2, e2, _, r2⟩ := DataW.trod_int Tryz.underlying3 f2
    have r2 := int_range r2
    try simp only [List.cons.injEq, and_true] at e2
    change DataW.trod enc Tryz.prog W base spare held n 4 (List.take (Tryz.prog.cellsOf 4) [v3, v4, v5, v6, v7, v8, v9, v10, v11, v12, v13, v14, v15, v16, v17, v18, v19, v20, v21, v22, v23, v24]) = _ at f3
    rw [cells_bool] at f3
    have f3 : DataW.trod enc Tryz.prog W base spare held n 4 [v3] = _ := f3
    obtain ⟨x3, e3, _⟩ := DataW.trod_bool Tryz.underlying4 f3
    try simp only [List.cons.injEq, and_true] at e3
    change DataW.trod enc Tryz.prog W base spare held n 3 (List.take (Tryz.prog.cellsOf 3) [v4, v5, v6, v7, v8, v9, v10, v11, v12, v13, v14, v15, v16, v17, v18, v19, v20, v21, v22, v23, v24]) = _ at f4
    rw [cells_int] at f4
    have f4 : DataW.trod enc Tryz.prog W base spare held n 3 [v4] = _ := f4
    obtain ⟨x4, e4, _, r4⟩ := DataW.trod_int Tryz.underlying3 f4
    have r4 := int_range r4
    try simp only [List.cons.injEq, and_true] at e4
    change DataW.trod enc Tryz.prog W base spare held n 9 (List.take (Tryz.prog.cellsOf 9) [v5, v6, v7, v8, v9, v10, v11, v12, v13, v14, v15, v16, v17, v18, v19, v20, v21, v22, v23, v24]) = _ at f5
    rw [cells_string] at f5
    have f5 : DataW.trod enc Tryz.prog W base spare held n 9 [v5] = _ := f5
    obtain ⟨x5, e5, r5, _⟩ := DataW.trod_string Tryz.underlying9 f5
    have n5 := near_field Tryz.underlying30 hw (j := 5) rfl rfl (List.getElem?_eq_getElem (by omega))
    rw [r5] at n5
    have k5 := near_string n5
    try simp only [List.cons.injEq, and_true] at e5
    change DataW.trod enc Tryz.prog W base spare held n 9 (List.take (Tryz.prog.cellsOf 9) [v6, v7, v8, v9, v10, v11, v12, v13, v14, v15, v16, v17, v18, v19, v20, v21, v22, v23, v24]) = _ at f6
    rw [cells_string] at f6
    have f6 : DataW.trod enc Tryz.prog W base spare held n 9 [v6] = _ := f6
    obtain ⟨x6, e6, r6, _⟩ := DataW.trod_string Tryz.underlying9 f6
    have n6 := near_field Tryz.underlying30 hw (j := 6) rfl rfl (List.getElem?_eq_getElem (by omega))
    rw [r6] at n6
    have k6 := near_string n6
    try simp only [List.cons.injEq, and_true] at e6
    change DataW.trod enc Tryz.prog W base spare held n 3 (List.take (Tryz.prog.cellsOf 3) [v7, v8, v9, v10, v11, v12, v13, v14, v15, v16, v17, v18, v19, v20, v21, v22, v23, v24]) = _ at f7
    rw [cells_int] at f7
    have f7 : DataW.trod enc Tryz.prog W base spare held n 3 [v7] = _ := f7
    obtain ⟨x7, e7, _, r7⟩ := DataW.trod_int Tryz.underlying3 f7
    have r7 := int_range r7
    try simp only [List.cons.injEq, and_true] at e7
    change DataW.trod enc Tryz.prog W base spare held n 4 (List.take (Tryz.prog.cellsOf 4) [v8, v9, v10, v11, v12, v13, v14, v15, v16, v17, v18, v19, v20, v21, v22, v23, v24]) = _ at f8
    rw [cells_bool] at f8
    have f8 : DataW.trod enc Tryz.prog W base spare held n 4 [v8] = _ := f8
    obtain ⟨x8, e8, _⟩ := DataW.trod_bool Tryz.underlying4 f8
    try simp only [List.cons.injEq, and_true] at e8
    change DataW.trod enc Tryz.prog W base spare held n 24 (List.take (Tryz.prog.cellsOf 24) [v9, v10, v11, v12, v13, v14, v15, v16, v17, v18, v19, v20, v21, v22, v23, v24]) = _ at f9
    rw [cells_ints] at f9
    have f9 : DataW.trod enc Tryz.prog W base spare held n 24 [v9] = _ := f9
    obtain ⟨A9, x9, c9, e9, m9, t9, p9, l9⟩ := ints_of_trod f9
    try simp only [List.cons.injEq, and_true] at e9
    change DataW.trod enc Tryz.prog W base spare held n 25 (List.take (Tryz.prog.cellsOf 25) [v10, v11, v12, v13, v14, v15, v16, v17, v18, v19, v20, v21, v22, v23, v24]) = _ at f10
    rw [cells_filters] at f10
    have f10 : DataW.trod enc Tryz.prog W base spare held n 25 [v10] = _ := f10
    have n10 := near_field Tryz.underlying30 hw (j := 10) rfl rfl (List.getElem?_eq_getElem (by omega))
    obtain ⟨A10, x10, c10, e10, m10, t10, p10, l10⟩ := filters_of_trod n10 f10
    try simp only [List.cons.injEq, and_true] at e10
    change DataW.trod enc Tryz.prog W base spare held n 9 (List.take (Tryz.prog.cellsOf 9) [v11, v12, v13, v14, v15, v16, v17, v18, v19, v20, v21, v22, v23, v24]) = _ at f11
    rw [cells_string] at f11
    have f11 : DataW.trod enc Tryz.prog W base spare held n 9 [v11] = _ := f11
    obtain ⟨x11, e11, r11, _⟩ := DataW.trod_string Tryz.underlying9 f11
    have n11 := near_field Tryz.underlying30 hw (j := 11) rfl rfl (List.getElem?_eq_getElem (by omega))
    rw [r11] at n11
    have k11 := near_string n11
    try simp only [List.cons.injEq, and_true] at e11
    change DataW.trod enc Tryz.prog W base spare held n 4 (List.take (Tryz.prog.cellsOf 4) [v12, v13, v14, v15, v16, v17, v18, v19, v20, v21, v22, v23, v24]) = _ at f12
    rw [cells_bool] at f12
    have f12 : DataW.trod enc Tryz.prog W base spare held n 4 [v12] = _ := f12
    obtain ⟨x12, e12, _⟩ := DataW.trod_bool Tryz.underlying4 f12
    try simp only [List.cons.injEq, and_true] at e12
    change DataW.trod enc Tryz.prog W base spare held n 3 (List.take (Tryz.prog.cellsOf 3) [v13, v14, v15, v16, v17, v18, v19, v20, v21, v22, v23, v24]) = _ at f13
    rw [cells_int] at f13
    have f13 : DataW.trod enc Tryz.prog W base spare held n 3 [v13] = _ := f13
    obtain ⟨x13, e13, _, r13⟩ := DataW.trod_int Tryz.underlying3 f13
    have r13 := int_range r13
    try simp only [List.cons.injEq, and_true] at e13
    change DataW.trod enc Tryz.prog W base spare held n 28 (List.take (Tryz.prog.cellsOf 28) [v14, v15, v16, v17, v18, v19, v20, v21, v22, v23, v24]) = _ at f14
    rw [cells_will] at f14
    have f14 : DataW.trod enc Tryz.prog W base spare held n 28 [v14, v15, v16, v17, v18, v19] = _ := f14
    have n14 := near_field Tryz.underlying30 hw (j := 14) rfl rfl (List.getElem?_eq_getElem (by omega))
    obtain ⟨x14, A14, c14, e14, m14, t14, p14, l14, q14, s14, z14⟩ := will_of_trod n14 f14
    change DataW.trod enc Tryz.prog W base spare held n 4 (List.take (Tryz.prog.cellsOf 4) [v20, v21, v22, v23, v24]) = _ at f15
    rw [cells_bool] at f15
    have f15 : DataW.trod enc Tryz.prog W base spare held n 4 [v20] = _ := f15
    obtain ⟨x15, e15, _⟩ := DataW.trod_bool Tryz.underlying4 f15
    try simp only [List.cons.injEq, and_true] at e15
    change DataW.trod enc Tryz.prog W base spare held n 9 (List.take (Tryz.prog.cellsOf 9) [v21, v22, v23, v24]) = _ at f16
    rw [cells_string] at f16
    have f16 : DataW.trod enc Tryz.prog W base spare held n 9 [v21] = _ := f16
    obtain ⟨x16, e16, r16, _⟩ := DataW.trod_string Tryz.underlying9 f16
    have n16 := near_field Tryz.underlying30 hw (j := 16) rfl rfl (List.getElem?_eq_getElem (by omega))
    rw [r16] at n16
    have k16 := near_string n16
    try simp only [List.cons.injEq, and_true] at e16
    change DataW.trod enc Tryz.prog W base spare held n 4 (List.take (Tryz.prog.cellsOf 4) [v22, v23, v24]) = _ at f17
    rw [cells_bool] at f17
    have f17 : DataW.trod enc Tryz.prog W base spare held n 4 [v22] = _ := f17
    obtain ⟨x17, e17, _⟩ := DataW.trod_bool Tryz.underlying4 f17
    try simp only [List.cons.injEq, and_true] at e17
    change DataW.trod enc Tryz.prog W base spare held n 9 (List.take (Tryz.prog.cellsOf 9) [v23, v24]) = _ at f18
    rw [cells_string] at f18
    have f18 : DataW.trod enc Tryz.prog W base spare held n 9 [v23] = _ := f18
    obtain ⟨x18, e18, r18, _⟩ := DataW.trod_string Tryz.underlying9 f18
    have n18 := near_field Tryz.underlying30 hw (j := 18) rfl rfl (List.getElem?_eq_getElem (by omega))
    rw [r18] at n18
    have k18 := near_string n18
    try simp only [List.cons.injEq, and_true] at e18
    change DataW.trod enc Tryz.prog W base spare held n 26 (List.take (Tryz.prog.cellsOf 26) [v24]) = _ at f19
    rw [cells_props] at f19
    have f19 : DataW.trod enc Tryz.prog W base spare held n 26 [v24] = _ := f19
    have n19 := near_field Tryz.underlying30 hw (j := 19) rfl rfl (List.getElem?_eq_getElem (by omega))
    obtain ⟨A19, x19, c19, e19, m19, t19, p19, l19⟩ := props_of_trod n19 f19
    try simp only [List.cons.injEq, and_true] at e19
    obtain ⟨hw0, hw1, hw2, hw3, hw4, hw5⟩ : v14 = .bool x14.has ∧ v15 = .int .i64 x14.q ∧ v16 = .bool x14.ret ∧ v17 = .string x14.t ∧ v18 = .string x14.b ∧ v19 = .slice A14 x14.ps.length c14 := by
      simpa [wlArr] using e14
    clear e14
    subst e0 e1 e2 e3 e4 e5 e6 e7 e8 e9 e10 e11 e12 e13 e15 e16 e17 e18 e19 hw0 hw1 hw2 hw3 hw4 hw5
    refine ⟨⟨x0, x1, x2, x3, x4, x5, x6, x7, x8, x9, x10, x11, x12, x13, x14, x15, x16, x17, x18, x19⟩, ⟨A9, c9, A10, c10, A14, c14, A19, c19⟩, rfl, ⟨m9, m10, m14, m19⟩, ?_⟩
    exact ⟨r0, r2, r4, r7, r13, q14, k5, k6, k11, s14, z14, k16, k18, t9, t10, t14, t19, ⟨l9, p9⟩, ⟨l10, p10⟩, ⟨l14, p14⟩, ⟨l19, p19⟩⟩
end
open Go.ChangeShapes Go.WideShapes Go.ChangeAt Go.RowKit Prp Pkt
theorem cells_ask : Tryz.prog.cellsOf 32 = 26 := by kernel_rfl
structure AskAt (w : World) (B b o : Nat) (p : Pk) (a : Ad) (s : ByteArray) : Prop where
  cells : ∀ j v, (pkArr p a)[j]? = some v → w.cell? ⟨b, o + j, none⟩ = some v
  cx : w.cell? ⟨b, o + 25, none⟩ = some (.string s)
  rows : PkAt w B p a
  fit : PkFit p a
  hs : s.size ≤ 140737488351232
  hb : b < B
theorem AskAt.below {w w' : World} {B b o : Nat} {p : Pk} {a : Ad} {s : ByteArray} (h : AskAt w B b o p a s) (hb : Below B w w') : AskAt w' B b o p a s :=
  ⟨fun j v hj => (hb.cell (p := ⟨b, o + j, none⟩) h.hb).trans (h.cells j v hj), (hb.cell (p := ⟨b, o + 25, none⟩) h.hb).trans h.cx, h.rows.below hb, h.fit, h.hs, h.hb⟩
def Asks (w : World) (A : Option Addr) (n : Nat) : Prop :=
  n = 0 ∨ ∃ b off, A = some ⟨b, off, none⟩ ∧ ∀ i, i < n → ∃ p a s, AskAt w w.heap.size b (off + i * 26) p a s
section
variable {H : Type} {enc : TypeId × Value → H} {W : World} {base : Nat} {spare : Nat → Bool} {held : Bool}
theorem one_ask {fuel : Nat} {a : Addr} {cs : List Value} {y : DataW H × List MemPlace} (hc : W.cells? base a 26 = some cs) (hw : Near 32 y.1) (h : DataW.trod enc Tryz.prog W base spare held fuel 32 cs = some y) :
    ∃ p c s, AskAt W W.heap.size a.block a.off p c s ∧ a.spot = none := by
  obtain ⟨_, hlen, hcell⟩ := World.cells?_some hc
  match cs, hlen with
  | [v0, v1, v2, v3, v4, v5, v6, v7, v8, v9, v10, v11, v12, v13, v14, v15, v16, v17, v18, v19, v20, v21, v22, v23, v24, v25], _ =>
    have g0 : W.cell? (a.add 0) = some v0 := hcell 0 (by omega)
    have g25 : W.cell? (a.add 25) = some v25 := hcell 25 (by omega)
    have gj : ∀ j v, [v0, v1, v2, v3, v4, v5, v6, v7, v8, v9, v10, v11, v12, v13, v14, v15, v16, v17, v18, v19, v20, v21, v22, v23, v24][j]? = some v → W.cell? (a.add j) = some v := fun j v hj => by
      have hlt : j < 25 := by
        have := (List.getElem?_eq_some_iff.1 hj).1
        simpa using this
      rw [hcell j (by omega)]
      have e : [v0, v1, v2, v3, v4, v5, v6, v7, v8, v9, v10, v11, v12, v13, v14, v15, v16, v17, v18, v19, v20, v21, v22, v23, v24, v25][j]? = some v := by
        show ([v0, v1, v2, v3, v4, v5, v6, v7, v8, v9, v10, v11, v12, v13, v14, v15, v16, v17, v18, v19, v20, v21, v22, v23, v24] ++ [v25])[j]? = some v
        rw [List.getElem?_append_left (by simpa using hlt)]
        exact hj
      rw [← e]
    obtain ⟨ys, n, _, hy, _, hyl, hf⟩ := DataW.trod_struct Tryz.underlying32 h
    subst hy
    have hyl' : ys.length = 2 := by simpa using hyl
    have f0 := hf 0 _ rfl
    have f1 := hf 1 _ rfl
    rw [List.getElem?_eq_getElem (by omega)] at f0 f1
    change DataW.trod enc Tryz.prog W base spare held n 30 (List.take (Tryz.prog.cellsOf 30) [v0, v1, v2, v3, v4, v5, v6, v7, v8, v9, v10, v11, v12, v13, v14, v15, v16, v17, v18, v19, v20, v21, v22, v23, v24, v25]) = _ at f0
    change DataW.trod enc Tryz.prog W base spare held n 9 (List.take (Tryz.prog.cellsOf 9) [v25]) = _ at f1
    rw [cells_packet] at f0
    rw [cells_string] at f1
    have f0 : DataW.trod enc Tryz.prog W base spare held n 30 [v0, v1, v2, v3, v4, v5, v6, v7, v8, v9, v10, v11, v12, v13, v14, v15, v16, v17, v18, v19, v20, v21, v22, v23, v24] = _ := f0
    have w0 := near_field Tryz.underlying32 hw (j := 0) rfl rfl (List.getElem?_eq_getElem (by omega))
    have w1 := near_field Tryz.underlying32 hw (j := 1) rfl rfl (List.getElem?_eq_getElem (by omega))
    obtain ⟨s, e1, x1, _⟩ := DataW.trod_string Tryz.underlying9 f1
    rw [x1] at w1
    have hs := near_string w1
    obtain ⟨p, c, hp, hat, hfit⟩ := packet_of_trod w0 f0
    have hsp : a.spot = none := by
      have := World.cell?_spot g0
      simpa [Addr.add] using this
    obtain ⟨b, off, spot⟩ := a
    obtain rfl : spot = none := hsp
    rw [add_off] at g25
    simp at e1
    subst e1
    have hb : b < W.heap.size := cell_lt g0
    refine ⟨p, c, s, ⟨fun j v hj => ?_, g25, hat, hfit, hs, hb⟩, rfl⟩
    have := gj j v (by rw [hp, Array.getElem?_toList]; exact hj)
    rwa [add_off] at this
theorem asks_of_trod {A : Option Addr} {n c : Nat} {d : DataW H} {p : List MemPlace} (hw : Near 22 d) (h : DataW.Trod enc Tryz.prog W base (fun _ => true) held 22 (.slice A n c) d p) : Asks W A n := by
  obtain ⟨fuel, hf⟩ := h
  rcases Go.Deep.open_slice Tryz.underlying22 hf with ⟨hcs, _⟩ | ⟨a, len, cap, m, k, D, Pl, hcs, _, hl, _, hm, hx, hi⟩
  · simp [Value.cells] at hcs
    exact .inl hcs.2.1
  · simp [Value.cells] at hcs
    obtain ⟨rfl, rfl, rfl⟩ := hcs
    simp at hm
    subst hm
    by_cases h0 : n = 0
    · exact .inl h0
    · right
      rw [cells_ask] at hi
      have key : ∀ i, i < n → ∃ p c s, AskAt W W.heap.size (a.add (i * 26)).block (a.add (i * 26)).off p c s ∧ (a.add (i * 26)).spot = none := fun i hin => by
        obtain ⟨cs, hc, ht⟩ := hi i (by omega)
        refine one_ask hc ?_ ht
        have hd := congrArg Prod.fst hx
        simp only [] at hd
        rw [hd] at hw
        exact near_elem Tryz.underlying22 hw (List.mem_map.2 ⟨i, List.mem_range.2 (by omega), rfl⟩)
      have hsp : a.spot = none := by
        obtain ⟨_, _, _, _, h⟩ := key 0 (by omega)
        simpa [Addr.add] using h
      obtain ⟨b, off, spot⟩ := a
      obtain rfl : spot = none := hsp
      refine ⟨b, off, rfl, fun i hin => ?_⟩
      obtain ⟨p, c, s, h, _⟩ := key i hin
      rw [add_off] at h
      exact ⟨p, c, s, h⟩
end
end Go.Proofs.YtiancngpknnkaaaGreat
