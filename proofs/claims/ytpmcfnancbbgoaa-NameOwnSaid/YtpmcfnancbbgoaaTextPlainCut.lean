/- Plain facts on beginnings of texts. No run of a program is in this file. -/
import Derived.Test.YtpmcfnancbbgoaaTextPlainOf
namespace Go.Proofs.Ytpmcfnancbbgoaa.Txt
open Go.Lib

/-- The bytes of a code point that may be: the first one is no later one, and all others are. -/
theorem ptN_bytes (n b0 b1 b2 b3 : Nat) (h0 : b0 < 256) (h1 : b1 < 256) (h2 : b2 < 256) (h3 : b3 < 256) (h : (ptN n b0 b1 b2 b3).2 ≠ 0) :
    b0 / 64 ≠ 2 ∧ (1 < (ptN n b0 b1 b2 b3).2 → b1 / 64 = 2) ∧ (2 < (ptN n b0 b1 b2 b3).2 → b2 / 64 = 2) ∧ (3 < (ptN n b0 b1 b2 b3).2 → b3 / 64 = 2) := by
  by_cases c1 : b0 < 128
  · rw [ptN_one _ _ _ _ _ c1] at h ⊢
    split
    · simp; omega
    · next hg => rw [if_neg hg] at h; simp at h
  · by_cases c2 : b0 < 192
    · rw [ptN_none _ _ _ _ _ (by omega)] at h; simp at h
    · by_cases c3 : b0 < 224
      · rw [ptN_two _ _ _ _ _ (by omega) h1 _ rfl] at h ⊢
        split
        · next hg => simp; omega
        · next hg => rw [if_neg hg] at h; simp at h
      · by_cases c4 : b0 < 240
        · rw [ptN_three _ _ _ _ _ (by omega) h1 h2 _ rfl] at h ⊢
          split
          · next hg => simp; omega
          · next hg => rw [if_neg hg] at h; simp at h
        · by_cases c5 : b0 < 248
          · rw [ptN_four _ _ _ _ _ (by omega) h1 h2 h3 _ rfl] at h ⊢
            split
            · next hg => simp; omega
            · next hg => rw [if_neg hg] at h; simp at h
          · rw [ptN_none _ _ _ _ _ (by omega)] at h; simp at h
def later (l : List UInt8) (j : Nat) : Prop := (l.getD j 0).toNat / 64 = 2
theorem pt_bytes {l : List UInt8} (h : (pt l).2 ≠ 0) : ¬ later l 0 ∧ ∀ j, 1 ≤ j → j < (pt l).2 → later l j := by
  obtain ⟨a, b, c, d⟩ := ptN_bytes l.length _ _ _ _ (UInt8.toNat_lt _) (UInt8.toNat_lt _) (UInt8.toNat_lt _) (UInt8.toNat_lt _) h
  have h4 := pt_four l
  refine ⟨a, fun j h1 hj => ?_⟩
  unfold pt at hj h4
  obtain rfl | rfl | rfl : j = 1 ∨ j = 2 ∨ j = 3 := by omega
  · exact b hj
  · exact c hj
  · exact d hj
theorem later_drop (l : List UInt8) (k j : Nat) : later (l.drop k) j ↔ later l (k + j) := by
  unfold later; rw [getD_dropU]

/-! ### the longest beginning of at most n bytes that ends between code points -/
def cutN : Nat → List UInt8 → Nat → Nat
  | 0, _, _ => 0
  | f + 1, l, n => if l = [] then 0 else if n < (pt l).2 then 0 else if (pt l).2 = 0 then 0 else (pt l).2 + cutN f (l.drop (pt l).2) (n - (pt l).2)
def cut (l : List UInt8) (n : Nat) : Nat := cutN l.length l n
theorem cutN_nil : ∀ f n, cutN f [] n = 0
  | 0, _ => rfl
  | _ + 1, _ => by simp [cutN]
theorem cutN_fuel : ∀ (f g : Nat) (l : List UInt8) (n : Nat), l.length ≤ f → l.length ≤ g → cutN f l n = cutN g l n
  | 0, g, l, n, hf, _ => by
    have e : l = [] := List.eq_nil_of_length_eq_zero (by omega)
    rw [e, cutN_nil, cutN_nil]
  | f + 1, 0, l, n, _, hg => by
    have e : l = [] := List.eq_nil_of_length_eq_zero (by omega)
    rw [e, cutN_nil, cutN_nil]
  | f + 1, g + 1, l, n, hf, hg => by
    unfold cutN
    by_cases hne : l = []
    · rw [if_pos hne, if_pos hne]
    · rw [if_neg hne, if_neg hne]
      by_cases hz : (pt l).2 = 0
      · simp [hz]
      · have hl : 0 < l.length := List.length_pos_iff.2 hne
        rw [cutN_fuel f g (l.drop (pt l).2) _ (by rw [List.length_drop]; omega) (by rw [List.length_drop]; omega)]
theorem cut_nil (n : Nat) : cut [] n = 0 := rfl
theorem cut_short {l : List UInt8} {n : Nat} (h : n < (pt l).2) : cut l n = 0 := by
  unfold cut
  cases hl : l.length with
  | zero => rfl
  | succ f => unfold cutN; simp [h]
theorem cut_step {l : List UInt8} {n : Nat} (hne : l ≠ []) (hz : (pt l).2 ≠ 0) (h : (pt l).2 ≤ n) : cut l n = (pt l).2 + cut (l.drop (pt l).2) (n - (pt l).2) := by
  have hl : 0 < l.length := List.length_pos_iff.2 hne
  obtain ⟨f, hf⟩ : ∃ f, l.length = f + 1 := ⟨l.length - 1, by omega⟩
  unfold cut
  rw [hf]
  show (if l = [] then 0 else _) = _
  rw [if_neg hne, if_neg (by omega), if_neg hz, cutN_fuel f (l.drop (pt l).2).length _ _ (by rw [List.length_drop]; omega) (Nat.le_refl _)]

theorem cut_facts : ∀ l, chk l = true → ∀ n, cut l n ≤ n ∧ cut l n ≤ l.length ∧ (l.length ≤ n → cut l n = l.length) ∧ chk (l.drop (cut l n)) = true ∧ (n ≤ l.length → n ≤ cut l n + 3) ∧
    (n < l.length → ¬ later l (cut l n) ∧ ∀ j, cut l n < j → j ≤ n → later l j) := by
  apply text_rec
  · intro n
    rw [cut_nil]
    refine ⟨by omega, by simp, fun _ => rfl, rfl, fun h => ?_, fun h => ?_⟩
    · simp at h; omega
    · simp at h
  · intro l hne hc ih n
    have hz := chk_pt hne hc
    have hle := pt_le hne
    have h4 := pt_four l
    obtain ⟨b0, bj⟩ := pt_bytes hz
    by_cases hn : n < (pt l).2
    · rw [cut_short hn]
      refine ⟨by omega, by omega, fun h => by omega, hc, fun _ => by omega, fun _ => ⟨b0, fun j h1 h2 => bj j (by omega) (by omega)⟩⟩
    · obtain ⟨i1, i2, i3, i4, i5, i6⟩ := ih (n - (pt l).2)
      rw [cut_step hne hz (by omega)]
      rw [List.length_drop] at i2 i3 i5 i6
      rw [List.drop_drop] at i4
      refine ⟨by omega, by omega, fun h => by have := i3 (by omega); omega, i4, fun h => by have := i5 (by omega); omega, fun h => ?_⟩
      obtain ⟨j1, j2⟩ := i6 (by omega)
      rw [later_drop] at j1
      refine ⟨j1, fun j h1 h2 => ?_⟩
      have := j2 (j - (pt l).2) (by omega) (by omega)
      rw [later_drop] at this
      rwa [show (pt l).2 + (j - (pt l).2) = j from by omega] at this

/-- What Cut tells. -/
def cutErr (l : List UInt8) (n : Int) : Int := if textErr l ≠ 0 then textErr l else if n < 0 then 1 else 0
def cutStr (s : ByteArray) (n : Int) : ByteArray := if cutErr s.data.toList n = 0 then s.extract 0 (cut s.data.toList n.toNat) else ⟨#[]⟩
theorem extract_all (s : ByteArray) : s.extract 0 s.size = s := by
  apply ByteArray.ext
  apply Array.toList_inj.1
  rw [extract_data]
  simp
  rw [List.take_of_length_le]
  rw [← Lib.size_eq]; exact Nat.le_refl _
end Go.Proofs.Ytpmcfnancbbgoaa.Txt
