/- Plain facts on properties: what is written is taken back, all of them, and cut off. No run of a program is in this file. -/
import Derived.Test.YthjlbdplhhgcpaaPropPlainBack
import Derived.Test.YthjlbdplhhgcpaaPropPutTwo
namespace Go.Proofs.Ythjlbdplhhgcpaa.Prp
open Go.Lib Vbi

def catStr : List P → ByteArray
  | [] => ⟨#[]⟩
  | p :: t => oneStr p ++ catStr t
theorem empty_add (a : ByteArray) : (⟨#[]⟩ : ByteArray) ++ a = a := by
  apply bytes_ext
  rw [data_add]
  rfl
theorem fold_cat (l : List P) (a : ByteArray) : l.foldl (fun a p => a ++ oneStr p) a = a ++ catStr l := by
  induction l generalizing a with
  | nil =>
    show a = a ++ ⟨#[]⟩
    apply bytes_ext
    rw [data_add]
    exact (List.append_nil _).symm
  | cons p t ih =>
    show t.foldl (fun a p => a ++ oneStr p) (a ++ oneStr p) = a ++ (oneStr p ++ catStr t)
    rw [ih, ByteArray.append_assoc]
theorem rest_cat (l : List P) : restStr l = catStr l := by
  unfold restStr
  rw [fold_cat, empty_add]
theorem one_pos (p : P) : 1 ≤ (oneStr p).size := by
  unfold oneStr
  rw [ByteArray.size_append, strOfNums_size]
  show 1 ≤ 1 + _
  omega
theorem good_kind {place : Int} {a : List P} {p : P} (h : goodB place a p = true) : kindZ p.id ≠ 0 ∧ valB (kindZ p.id) p = true ∧ mayB place a p = true := by
  have h2 := h
  rw [good_may, Bool.and_eq_true] at h2
  unfold goodB at h
  rw [Bool.and_eq_true] at h
  exact ⟨stand_kind h.1, h2.2, h2.1⟩
theorem ta_back (place : Int) (l : List P) : ∀ (f : Nat) (a : List P), goodL place a l = true → a.length + l.length ≤ 8 → (catStr l).size < f → ta place f a (catStr l) = (a ++ l, 0) := by
  induction l with
  | nil =>
    intro f a _ _ hf
    obtain ⟨f, rfl⟩ : ∃ f0, f = f0 + 1 := ⟨f - 1, by omega⟩
    rw [ta_end (by rfl), List.append_nil]
  | cons p t ih =>
    intro f a hg h8 hf
    obtain ⟨f, rfl⟩ : ∃ f0, f = f0 + 1 := ⟨f - 1, by omega⟩
    unfold goodL at hg
    rw [Bool.and_eq_true] at hg
    obtain ⟨hk, hv, hm⟩ := good_kind hg.1
    have ht := tone_back (catStr t) hk hv
    have h1 := one_pos p
    have hsz : (catStr (p :: t)).size = (oneStr p).size + (catStr t).size := by show (oneStr p ++ catStr t).size = _; rw [ByteArray.size_append]
    rw [List.length_cons] at h8
    have e : catStr (p :: t) = oneStr p ++ catStr t := rfl
    rw [ta_step (by omega) (by rw [e, ht]) (by rw [e, ht]; exact hm) (by omega), e, ht, Int.toNat_natCast, ext_right, ih f (a ++ [p]) hg.2 (by rw [List.length_append]; show a.length + 1 + t.length ≤ 8; omega) (by omega), List.append_assoc]
    rfl
theorem cat_size {place : Int} (l : List P) : ∀ a : List P, goodL place a l = true → (catStr l).size ≤ 2053 * l.length := by
  induction l with
  | nil => intro a _; exact Nat.zero_le _
  | cons p t ih =>
    intro a hg
    unfold goodL at hg
    rw [Bool.and_eq_true] at hg
    obtain ⟨hk, hv, _⟩ := good_kind hg.1
    have h1 := one_size p.id p.n p.s p.v hk hv
    have h2 := ih _ hg.2
    show (oneStr p ++ catStr t).size ≤ _
    rw [ByteArray.size_append, List.length_cons]
    have h1 : (oneStr p).size ≤ 2053 := h1
    omega
theorem props_parts {place : Int} {l : List P} (h : propsB place l = true) : placeB place = true ∧ l.length ≤ 8 ∧ goodL place [] l = true := by
  unfold propsB at h
  rw [Bool.and_eq_true, Bool.and_eq_true] at h
  exact ⟨h.1, of_decide_eq_true h.2.1, h.2.2⟩
theorem ext_mid (a b c : ByteArray) : (a ++ (b ++ c)).extract a.size (a.size + b.size) = b := by
  apply bytes_ext
  rw [Lib.extract_data, data_add, data_add, Lib.size_eq a, List.drop_left, Nat.add_sub_cancel_left, Lib.size_eq b, List.take_left]
/-- What is written is taken, whatever stands behind it. -/
theorem takeP_back {place : Int} {l : List P} (y : ByteArray) (h : propsB place l = true) : takeP place (propStr l ++ y) = (l, ((propStr l).size : Int), 0) := by
  obtain ⟨hp, h8, hg⟩ := props_parts h
  have hcs := cat_size l [] hg
  unfold propStr
  rw [rest_cat]
  obtain ⟨R, hR⟩ : ∃ R, catStr l = R := ⟨_, rfl⟩
  rw [hR] at hcs ⊢
  have hR28 : R.size < 268435456 := by omega
  obtain ⟨N, hN⟩ : ∃ N, strOfNums (numZ R.size) = N := ⟨_, rfl⟩
  have htn := num_back hR28 (R ++ y)
  rw [hN] at htn
  rw [hN, ByteArray.append_assoc]
  have hsz : (N ++ (R ++ y)).size = N.size + R.size + y.size := by rw [ByteArray.size_append, ByteArray.size_append]; omega
  rcases takeP_cases (N ++ (R ++ y)) hp with ⟨E, e, hE, _⟩ | ⟨m, q, e, hq, hm, h7, _⟩ | ⟨m, q, E, e, hq, hm, h7, hta, hE, _⟩ | ⟨m, q, L, e, hq, hm, h7, hta, er⟩
  · rw [htn] at e
    injection e with _ e2
    injection e2 with _ e3
    exact absurd e3.symm hE
  · rw [htn] at e
    injection e with e1 e2
    injection e2 with e2 _
    omega
  · rw [htn] at e
    injection e with e1 e2
    injection e2 with e2 _
    obtain ⟨rfl, rfl⟩ : R.size = m ∧ N.size = q := by omega
    rw [ext_mid, ← hR, ta_back place l _ [] hg (by simpa using h8) (by rw [hR]; omega)] at hta
    injection hta with _ e4
    exact absurd e4.symm hE
  · rw [htn] at e
    injection e with e1 e2
    injection e2 with e2 _
    obtain ⟨rfl, rfl⟩ : R.size = m ∧ N.size = q := by omega
    rw [ext_mid, ← hR, ta_back place l _ [] hg (by simpa using h8) (by rw [hR]; omega)] at hta
    injection hta with e4 _
    rw [er, ← e4, ByteArray.size_append, Int.natCast_add]
    rfl
theorem ext_left (a b : ByteArray) (i : Nat) (h : i ≤ a.size) : (a ++ b).extract 0 i = a.extract 0 i := by
  apply bytes_ext
  rw [data_take, data_take, data_add, List.take_append_of_le_length (by rw [← Lib.size_eq]; exact h)]
theorem ext_both (a b : ByteArray) (i : Nat) (h : a.size ≤ i) : (a ++ b).extract 0 i = a ++ b.extract 0 (i - a.size) := by
  apply bytes_ext
  rw [data_take, data_add, data_add, data_take, List.take_append, List.take_of_length_le (by rw [← Lib.size_eq]; exact h), ← Lib.size_eq]
/-- Cut off anywhere, it is cut off. -/
theorem takeP_cut {place : Int} {l : List P} (h : propsB place l = true) (i : Nat) (hi : i < (propStr l).size) : takeP place ((propStr l).extract 0 i) = ([], 0, 7) := by
  obtain ⟨hp, h8, hg⟩ := props_parts h
  have hcs := cat_size l [] hg
  unfold propStr at hi ⊢
  rw [rest_cat] at hi ⊢
  obtain ⟨R, hR⟩ : ∃ R, catStr l = R := ⟨_, rfl⟩
  rw [hR] at hcs hi ⊢
  have hR28 : R.size < 268435456 := by omega
  obtain ⟨N, hN⟩ : ∃ N, strOfNums (numZ R.size) = N := ⟨_, rfl⟩
  rw [ByteArray.size_append] at hi
  by_cases hiN : i < N.size
  · have htn := num_cut hR28 i (by rw [hN]; rw [hN] at hi; exact hiN)
    rw [hN] at htn hi ⊢
    rw [ext_left N R i (by omega)]
    rcases takeP_cases (N.extract 0 i) hp with ⟨E, e, hE, er⟩ | ⟨m, q, e, _⟩ | ⟨m, q, E, e, _⟩ | ⟨m, q, L, e, _⟩
    · rw [htn] at e
      injection e with _ e2
      injection e2 with _ e3
      rw [er, ← e3]
    all_goals
      rw [htn] at e
      injection e with _ e2
      injection e2 with _ e3
      exact absurd e3 (by decide)
  · have htn := num_back hR28 (R.extract 0 (i - N.size))
    rw [hN] at htn hi ⊢
    rw [ext_both N R i (by omega)]
    have hsz : (N ++ R.extract 0 (i - N.size)).size = i := by rw [ByteArray.size_append, ByteArray.size_extract]; omega
    rcases takeP_cases (N ++ R.extract 0 (i - N.size)) hp with ⟨E, e, hE, _⟩ | ⟨m, q, e, hq, hm, h7, er⟩ | ⟨m, q, E, e, hq, hm, h7, _⟩ | ⟨m, q, L, e, hq, hm, h7, _⟩
    · rw [htn] at e
      injection e with _ e2
      injection e2 with _ e3
      exact absurd e3.symm hE
    · exact er
    all_goals
      rw [htn] at e
      injection e with e1 e2
      injection e2 with e2 _
      omega
end Go.Proofs.Ythjlbdplhhgcpaa.Prp
