/- Plain facts on texts put behind one another, and made again of their code points. No run of a program is in this file. -/
import Derived.Test.YtpmcfnancbbgoaaTextPlainCut
namespace Go.Proofs.Ytpmcfnancbbgoaa.Txt
open Go.Lib

/-- What stands behind a code point's bytes does not matter. -/
theorem ptN_more (n n' b0 b1 b2 b3 c1 c2 c3 : Nat) (h0 : b0 < 256) (h1 : b1 < 256) (h2 : b2 < 256) (h3 : b3 < 256) (hn : n ≤ n')
    (h : (ptN n b0 b1 b2 b3).2 ≠ 0) (e1 : 1 < (ptN n b0 b1 b2 b3).2 → c1 = b1) (e2 : 2 < (ptN n b0 b1 b2 b3).2 → c2 = b2) (e3 : 3 < (ptN n b0 b1 b2 b3).2 → c3 = b3) : ptN n' b0 c1 c2 c3 = ptN n b0 b1 b2 b3 := by
  by_cases k1 : b0 < 128
  · rw [ptN_one _ _ _ _ _ k1, ptN_one _ _ _ _ _ k1]
  · by_cases k2 : b0 < 192
    · rw [ptN_none _ _ _ _ _ (by omega)] at h; simp at h
    · by_cases k3 : b0 < 224
      · rw [ptN_two n _ _ _ _ (by omega) h1 _ rfl] at h e1 e2 e3 ⊢
        by_cases hg : 2 ≤ n ∧ (128 ≤ b1 ∧ b1 < 192) ∧ 128 ≤ (b0 - 192) * 64 + (b1 - 128) ∧ good (((b0 - 192) * 64 + (b1 - 128) : Nat) : Int) = true
        · rw [if_pos hg] at h e1 e2 e3 ⊢
          obtain rfl := e1 (by simp)
          rw [ptN_two n' _ _ _ _ (by omega) h1 _ rfl, if_pos ⟨by omega, hg.2⟩]
        · rw [if_neg hg] at h; simp at h
      · by_cases k4 : b0 < 240
        · rw [ptN_three n _ _ _ _ (by omega) h1 h2 _ rfl] at h e1 e2 e3 ⊢
          by_cases hg : 3 ≤ n ∧ (128 ≤ b1 ∧ b1 < 192) ∧ (128 ≤ b2 ∧ b2 < 192) ∧ 2048 ≤ ((b0 - 224) * 64 + (b1 - 128)) * 64 + (b2 - 128) ∧ good ((((b0 - 224) * 64 + (b1 - 128)) * 64 + (b2 - 128) : Nat) : Int) = true
          · rw [if_pos hg] at h e1 e2 e3 ⊢
            obtain rfl := e1 (by simp)
            obtain rfl := e2 (by simp)
            rw [ptN_three n' _ _ _ _ (by omega) h1 h2 _ rfl, if_pos ⟨by omega, hg.2⟩]
          · rw [if_neg hg] at h; simp at h
        · by_cases k5 : b0 < 248
          · rw [ptN_four n _ _ _ _ (by omega) h1 h2 h3 _ rfl] at h e1 e2 e3 ⊢
            by_cases hg : 4 ≤ n ∧ (128 ≤ b1 ∧ b1 < 192) ∧ (128 ≤ b2 ∧ b2 < 192) ∧ (128 ≤ b3 ∧ b3 < 192) ∧ 65536 ≤ (((b0 - 240) * 64 + (b1 - 128)) * 64 + (b2 - 128)) * 64 + (b3 - 128) ∧ good (((((b0 - 240) * 64 + (b1 - 128)) * 64 + (b2 - 128)) * 64 + (b3 - 128) : Nat) : Int) = true
            · rw [if_pos hg] at h e1 e2 e3 ⊢
              obtain rfl := e1 (by simp)
              obtain rfl := e2 (by simp)
              obtain rfl := e3 (by simp)
              rw [ptN_four n' _ _ _ _ (by omega) h1 h2 h3 _ rfl, if_pos ⟨by omega, hg.2⟩]
            · rw [if_neg hg] at h; simp at h
          · rw [ptN_none _ _ _ _ _ (by omega)] at h; simp at h
theorem getD_append {a b : List UInt8} {k : Nat} (h : k < a.length) : (a ++ b).getD k 0 = a.getD k 0 := by
  simp [List.getD, List.getElem?_append_left h]
theorem pt_append (a b : List UInt8) (hne : a ≠ []) (h : (pt a).2 ≠ 0) : pt (a ++ b) = pt a := by
  have hl : 0 < a.length := List.length_pos_iff.2 hne
  have hle := pt_le hne
  have e0 : (a ++ b).getD 0 0 = a.getD 0 0 := getD_append hl
  unfold pt at h hle ⊢
  rw [e0]
  refine ptN_more a.length _ _ _ _ _ _ _ _ (UInt8.toNat_lt _) (UInt8.toNat_lt _) (UInt8.toNat_lt _) (UInt8.toNat_lt _) (by simp) h (fun h1 => ?_) (fun h1 => ?_) (fun h1 => ?_)
  all_goals rw [getD_append (by omega)]

/-- One text put behind another one may be. -/
theorem chk_append (b : List UInt8) (hb : chk b = true) : ∀ a, chk a = true → chk (a ++ b) = true := by
  apply text_rec
  · simpa using hb
  · intro l hne hc ih
    have hz := chk_pt hne hc
    have hle := pt_le hne
    rw [chk_step (l ++ b) (by simp [hne]), pt_append l b hne hz, if_neg hz, List.drop_append_of_le_length hle]
    exact ih

/-- A text's code points make it again. -/
theorem encodeZ_pt {l : List UInt8} (hne : l ≠ []) (hz : (pt l).2 ≠ 0) : (encodeRuneZ ((pt l).1 : Int)).length = (pt l).2 := by
  have h := congrArg List.length (encode_pt hne hz)
  rw [encodeZ_len, List.length_take] at h
  have := pt_le hne
  omega
theorem ofGo_runes : ∀ l, chk l = true → ∀ n, n + l.length ≤ 1024 → ofGo n (runes l) = 0 := by
  apply text_rec
  · intro n _; rfl
  · intro l hne hc ih n hn
    have hz := chk_pt hne hc
    have hle := pt_le hne
    have hl := encodeZ_pt hne hz
    rw [runes_step l hne hc, ofGo_step (pt_ok hz).2.1 (by omega), hl]
    exact ih _ (by rw [List.length_drop]; omega)
theorem of_runes (s : ByteArray) (hc : chk s.data.toList = true) (hl : s.size ≤ 1024) : ofErr (runes s.data.toList) = 0 ∧ ofStr (runes s.data.toList) = s := by
  have h0 : ofErr (runes s.data.toList) = 0 := ofGo_runes _ hc 0 (by rw [← Lib.size_eq]; omega)
  refine ⟨h0, ?_⟩
  unfold ofStr
  rw [h0, if_pos rfl]
  apply ByteArray.ext
  apply Array.toList_inj.1
  rw [strOfNums_enc, encode_runes _ hc]

/-- A text behind itself. -/
theorem twice_err (s : ByteArray) (hc : chk s.data.toList = true) : textErr (s ++ s).data.toList = if 1024 < 2 * s.size then 2 else 0 := by
  have e : (s ++ s).data.toList = s.data.toList ++ s.data.toList := by rw [ByteArray.data_append, Array.toList_append]
  unfold textErr
  rw [e, chk_append _ hc _ hc, List.length_append, ← Lib.size_eq]
  have : (1024 < s.size + s.size) = (1024 < 2 * s.size) := by rw [show s.size + s.size = 2 * s.size from by omega]
  simp only [this, if_true]
end Go.Proofs.Ytpmcfnancbbgoaa.Txt
