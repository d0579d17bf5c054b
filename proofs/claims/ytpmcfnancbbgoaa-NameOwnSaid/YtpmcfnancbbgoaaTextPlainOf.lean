/- Plain facts on the bytes of code points. No run of a program is in this file. -/
import Derived.Test.YtpmcfnancbbgoaaTextPlain
import Derived.Laws.BytesArg
namespace Go.Proofs.Ytpmcfnancbbgoaa.Txt
open Go.Lib

theorem valid_good {r : Int} (h : good r = true) : Utf8.valid r = true := by
  have := (good_iff r).1 h
  unfold Utf8.valid
  simp; omega
theorem encode_good (r : Int) (h : good r = true) : (Utf8.encode r).data.toList = encodeRune r := by
  have hg := (good_iff r).1 h
  unfold Utf8.encode encodeRune
  rw [valid_good h]
  simp only [if_true]
  by_cases c1 : r ≤ 127
  · rw [encodeRuneZ_one (by omega) c1, if_pos (by omega)]; rfl
  · by_cases c2 : r ≤ 2047
    · rw [encodeRuneZ_two (by omega) c2, if_neg (by omega), if_pos (by omega)]
      have e1 : (192 + r / 64).toNat = 0xC0 + r.toNat / 64 := by omega
      have e2 : (128 + r % 64).toNat = 0x80 + r.toNat % 64 := by omega
      simp only [List.map_cons, List.map_nil, e1, e2]
    · by_cases c3 : r ≤ 65535
      · rw [encodeRuneZ_three (by omega), if_neg (by omega), if_neg (by omega), if_pos (by omega)]
        have e1 : (224 + r / 4096).toNat = 0xE0 + r.toNat / 4096 := by omega
        have e2 : (128 + r / 64 % 64).toNat = 0x80 + r.toNat / 64 % 64 := by omega
        have e3 : (128 + r % 64).toNat = 0x80 + r.toNat % 64 := by omega
        simp only [List.map_cons, List.map_nil, e1, e2, e3]
      · rw [encodeRuneZ_four (by omega) (by omega), if_neg (by omega), if_neg (by omega), if_neg (by omega)]
        have e1 : (240 + r / 262144).toNat = 0xF0 + r.toNat / 262144 := by omega
        have e2 : (128 + r / 4096 % 64).toNat = 0x80 + r.toNat / 4096 % 64 := by omega
        have e3 : (128 + r / 64 % 64).toNat = 0x80 + r.toNat / 64 % 64 := by omega
        have e4 : (128 + r % 64).toNat = 0x80 + r.toNat % 64 := by omega
        simp only [List.map_cons, List.map_nil, e1, e2, e3, e4]
theorem encodeZ_len (r : Int) : (encodeRune r).length = (encodeRuneZ r).length := by simp [encodeRune]
theorem runeLen_good (r : Int) (h : good r = true) : runeLen r = ((encodeRuneZ r).length : Int) := by
  have hg := (good_iff r).1 h
  unfold runeLen
  by_cases c1 : r ≤ 127
  · rw [encodeRuneZ_one (by omega) c1]; repeat' split
    all_goals first | rfl | (exfalso; omega)
  · by_cases c2 : r ≤ 2047
    · rw [encodeRuneZ_two (by omega) c2]; repeat' split
      all_goals first | rfl | (exfalso; omega)
    · by_cases c3 : r ≤ 65535
      · rw [encodeRuneZ_three (by omega)]; repeat' split
        all_goals first | rfl | (exfalso; omega)
      · rw [encodeRuneZ_four (by omega) (by omega)]; repeat' split
        all_goals first | rfl | (exfalso; omega)

/-! ### the error of code points, and their bytes -/
def ofGo : Nat → List Int → Int
  | _, [] => 0
  | n, r :: rs => if good r = false then 8 else if 1024 < n + (encodeRuneZ r).length then 2 else ofGo (n + (encodeRuneZ r).length) rs
def ofErr (l : List Int) : Int := ofGo 0 l
def encZ (l : List Int) : List Int := l.flatMap encodeRuneZ
def ofStr (l : List Int) : ByteArray := if ofErr l = 0 then strOfNums (encZ l) else ⟨#[]⟩

theorem ofGo_step {n : Nat} {r : Int} {rs : List Int} (hg : good r = true) (hl : ¬ 1024 < n + (encodeRuneZ r).length) : ofGo n (r :: rs) = ofGo (n + (encodeRuneZ r).length) rs := by
  show (if good r = false then (8 : Int) else _) = _
  rw [if_neg (by rw [hg]; simp), if_neg hl]
theorem ofGo_bad {n : Nat} {r : Int} {rs : List Int} (hg : good r = false) : ofGo n (r :: rs) = 8 := by
  show (if good r = false then (8 : Int) else _) = _
  rw [if_pos hg]
theorem ofGo_long {n : Nat} {r : Int} {rs : List Int} (hg : good r = true) (hl : 1024 < n + (encodeRuneZ r).length) : ofGo n (r :: rs) = 2 := by
  show (if good r = false then (8 : Int) else _) = _
  rw [if_neg (by rw [hg]; simp), if_pos hl]
theorem ofGo_good : ∀ (l : List Int) (n : Nat), ofGo n l = 0 → ∀ r ∈ l, good r = true
  | [], _, _, r, hr => by cases hr
  | x :: xs, n, h, r, hr => by
    cases hg : good x with
    | false => rw [ofGo_bad hg] at h; cases h
    | true =>
      by_cases hl : 1024 < n + (encodeRuneZ x).length
      · rw [ofGo_long hg hl] at h; cases h
      · rw [ofGo_step hg hl] at h
        rcases List.mem_cons.1 hr with rfl | hr
        · exact hg
        · exact ofGo_good xs _ h r hr
theorem ofErr_cases (l : List Int) : ofErr l = 0 ∨ ofErr l ≠ 0 := Classical.em _

/-- string(l) of code points that may be. -/
theorem runesBytes_acc : ∀ (l : List Int) (s : ByteArray), (∀ r ∈ l, good r = true) → (l.foldl (fun r n => r ++ Utf8.encode n) s).data.toList = s.data.toList ++ l.flatMap encodeRune
  | [], s, _ => by simp
  | x :: xs, s, h => by
    rw [List.foldl_cons, runesBytes_acc xs _ (fun r hr => h r (List.mem_cons_of_mem _ hr)), List.flatMap_cons]
    rw [ByteArray.data_append, Array.toList_append, encode_good x (h x (by simp)), List.append_assoc]
theorem strOfNums_enc (l : List Int) : (strOfNums (encZ l)).data.toList = l.flatMap encodeRune := by
  rw [strOfNums_data]
  unfold encZ
  rw [List.map_flatMap]
  rfl
theorem runesBytes_good (l : List Int) (h : ∀ r ∈ l, good r = true) : runesBytes l = strOfNums (encZ l) := by
  apply ByteArray.ext
  apply Array.toList_inj.1
  rw [strOfNums_enc]
  exact runesBytes_acc l _ h
end Go.Proofs.Ytpmcfnancbbgoaa.Txt
