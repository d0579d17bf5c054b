/- Plain facts on texts of UTF-8: which code points may be in a text, which text any bytes are, and what follows. No run of a program is in this file. -/
import Derived.Lib.MapLaws
import Derived.Lib.ValidLaws
import Derived.Lib.RuneBytes
import Derived.Lib.Small
import Derived.Laws.Cover4
namespace Go.Proofs.Ytdogeljlcnlbkaa.Txt
open Go.Lib

/-- May a code point be in a text? -/
def good (r : Int) : Bool := decide (32 ≤ r ∧ (r < 127 ∨ 159 < r) ∧ r ≤ 1114111 ∧ (r < 55296 ∨ 57343 < r) ∧ (r < 64976 ∨ 65007 < r) ∧ r % 65536 < 65534)
theorem good_iff (r : Int) : good r = true ↔ (32 ≤ r ∧ (r < 127 ∨ 159 < r) ∧ r ≤ 1114111 ∧ (r < 55296 ∨ 57343 < r) ∧ (r < 64976 ∨ 65007 < r) ∧ r % 65536 < 65534) := by
  simp [good]
theorem good_not (r : Int) : good r = false ↔ ¬ (32 ≤ r ∧ (r < 127 ∨ 159 < r) ∧ r ≤ 1114111 ∧ (r < 55296 ∨ 57343 < r) ∧ (r < 64976 ∨ 65007 < r) ∧ r % 65536 < 65534) := by
  unfold good; exact decide_eq_false_iff_not
theorem good_err : good 65533 = true := by decide

/-- The code point that bytes begin with, and how many bytes it has; (0, 0): it is none that may be. -/
def ptOf (d : Nat × Nat) : Nat × Nat := if good (d.1 : Int) = true ∧ ¬ (d.1 = 65533 ∧ d.2 = 1) then d else (0, 0)
def ptN (n b0 b1 b2 b3 : Nat) : Nat × Nat := ptOf (decodeN n b0 b1 b2 b3)
def pt (l : List UInt8) : Nat × Nat := ptN l.length (l.getD 0 0).toNat (l.getD 1 0).toNat (l.getD 2 0).toNat (l.getD 3 0).toNat

theorem pt_eq (l : List UInt8) : pt l = if good ((decodeL l).1 : Int) = true ∧ ¬ ((decodeL l).1 = 65533 ∧ (decodeL l).2 = 1) then decodeL l else (0, 0) := by
  unfold pt ptN; rw [← decodeL_N]; rfl

/-! ### a class of first bytes at a time -/
theorem ptOf_bad : ptOf (65533, 1) = (0, 0) := by simp [ptOf]
theorem ptOf_of (r k : Nat) (hk : 2 ≤ k) : ptOf (r, k) = if good (r : Int) = true then (r, k) else (0, 0) := by
  have h1 : ¬ k = 1 := by omega
  simp [ptOf, h1]
theorem ptN_one (n b0 b1 b2 b3 : Nat) (h : b0 < 128) : ptN n b0 b1 b2 b3 = if good (b0 : Int) = true then (b0, 1) else (0, 0) := by
  unfold ptN
  rw [decodeN_ascii _ _ _ _ _ h]
  have h5 : ¬ b0 = 65533 := by omega
  simp [ptOf, h5]
theorem ptN_none (n b0 b1 b2 b3 : Nat) (h : (128 ≤ b0 ∧ b0 < 192) ∨ (248 ≤ b0 ∧ b0 < 256)) : ptN n b0 b1 b2 b3 = (0, 0) := by
  unfold ptN
  rw [decodeN_bad _ _ _ _ _ (by omega)]
  exact ptOf_bad
theorem ptN_two (n b0 b1 b2 b3 : Nat) (h : 192 ≤ b0 ∧ b0 < 224) (h1 : b1 < 256) (r : Nat) (hr : r = (b0 - 192) * 64 + (b1 - 128)) :
    ptN n b0 b1 b2 b3 = if 2 ≤ n ∧ (128 ≤ b1 ∧ b1 < 192) ∧ 128 ≤ r ∧ good (r : Int) = true then (r, 2) else (0, 0) := by
  have ed : decodeN n b0 b1 b2 b3 = if 2 ≤ n ∧ (128 ≤ b1 ∧ b1 < 192) ∧ 128 ≤ r then (r, 2) else (65533, 1) := by
    unfold decodeN
    repeat' split
    all_goals first | rfl | (exfalso; omega) | (apply Prod.ext <;> simp only <;> omega)
  unfold ptN
  rw [ed]
  by_cases hc : 2 ≤ n ∧ (128 ≤ b1 ∧ b1 < 192) ∧ 128 ≤ r
  · rw [if_pos hc, ptOf_of r 2 (by omega)]
    simp [hc]
  · rw [if_neg hc, ptOf_bad]
    rw [if_neg (fun x => hc ⟨x.1, x.2.1, x.2.2.1⟩)]
theorem ptN_three (n b0 b1 b2 b3 : Nat) (h : 224 ≤ b0 ∧ b0 < 240) (h1 : b1 < 256) (h2 : b2 < 256) (r : Nat) (hr : r = ((b0 - 224) * 64 + (b1 - 128)) * 64 + (b2 - 128)) :
    ptN n b0 b1 b2 b3 = if 3 ≤ n ∧ (128 ≤ b1 ∧ b1 < 192) ∧ (128 ≤ b2 ∧ b2 < 192) ∧ 2048 ≤ r ∧ good (r : Int) = true then (r, 3) else (0, 0) := by
  have ed : decodeN n b0 b1 b2 b3 = if 3 ≤ n ∧ (128 ≤ b1 ∧ b1 < 192) ∧ (128 ≤ b2 ∧ b2 < 192) ∧ 2048 ≤ r ∧ (r < 55296 ∨ 57344 ≤ r ∧ r ≤ 1114111) then (r, 3) else (65533, 1) := by
    unfold decodeN
    repeat' split
    all_goals first | rfl | (exfalso; omega) | (apply Prod.ext <;> simp only <;> omega)
  unfold ptN
  rw [ed]
  by_cases hc : 3 ≤ n ∧ (128 ≤ b1 ∧ b1 < 192) ∧ (128 ≤ b2 ∧ b2 < 192) ∧ 2048 ≤ r ∧ (r < 55296 ∨ 57344 ≤ r ∧ r ≤ 1114111)
  · rw [if_pos hc, ptOf_of r 3 (by omega)]
    simp [hc]
  · rw [if_neg hc, ptOf_bad]
    rw [if_neg (fun x => hc ⟨x.1, x.2.1, x.2.2.1, x.2.2.2.1, by have := (good_iff _).1 x.2.2.2.2; omega⟩)]
theorem ptN_four (n b0 b1 b2 b3 : Nat) (h : 240 ≤ b0 ∧ b0 < 248) (h1 : b1 < 256) (h2 : b2 < 256) (h3 : b3 < 256) (r : Nat) (hr : r = (((b0 - 240) * 64 + (b1 - 128)) * 64 + (b2 - 128)) * 64 + (b3 - 128)) :
    ptN n b0 b1 b2 b3 = if 4 ≤ n ∧ (128 ≤ b1 ∧ b1 < 192) ∧ (128 ≤ b2 ∧ b2 < 192) ∧ (128 ≤ b3 ∧ b3 < 192) ∧ 65536 ≤ r ∧ good (r : Int) = true then (r, 4) else (0, 0) := by
  have ed : decodeN n b0 b1 b2 b3 = if 4 ≤ n ∧ (128 ≤ b1 ∧ b1 < 192) ∧ (128 ≤ b2 ∧ b2 < 192) ∧ (128 ≤ b3 ∧ b3 < 192) ∧ 65536 ≤ r ∧ (r < 55296 ∨ 57344 ≤ r ∧ r ≤ 1114111) then (r, 4) else (65533, 1) := by
    unfold decodeN
    repeat' split
    all_goals first | rfl | (exfalso; omega) | (apply Prod.ext <;> simp only <;> omega)
  unfold ptN
  rw [ed]
  by_cases hc : 4 ≤ n ∧ (128 ≤ b1 ∧ b1 < 192) ∧ (128 ≤ b2 ∧ b2 < 192) ∧ (128 ≤ b3 ∧ b3 < 192) ∧ 65536 ≤ r ∧ (r < 55296 ∨ 57344 ≤ r ∧ r ≤ 1114111)
  · rw [if_pos hc, ptOf_of r 4 (by omega)]
    simp [hc]
  · rw [if_neg hc, ptOf_bad]
    rw [if_neg (fun x => hc ⟨x.1, x.2.1, x.2.2.1, x.2.2.2.1, x.2.2.2.2.1, by have := (good_iff _).1 x.2.2.2.2.2; omega⟩)]

/-! ### what a code point that may be is -/
theorem pt_ok {l : List UInt8} (h : (pt l).2 ≠ 0) : pt l = decodeL l ∧ good ((pt l).1 : Int) = true ∧ ¬ ((decodeL l).1 = 65533 ∧ (decodeL l).2 = 1) := by
  rw [pt_eq] at h ⊢
  split
  · next hc => exact ⟨rfl, hc.1, hc.2⟩
  · next hc => rw [if_neg hc] at h; exact absurd rfl h
theorem pt_zero {l : List UInt8} (h : (pt l).2 = 0) : pt l = (0, 0) := by
  rw [pt_eq] at h ⊢
  split
  · next hc => rw [if_pos hc] at h; have := decodeL_width l; omega
  · rfl
theorem pt_le {l : List UInt8} (hne : l ≠ []) : (pt l).2 ≤ l.length := by
  by_cases h : (pt l).2 = 0
  · omega
  · rw [(pt_ok h).1]; exact decodeL_le l hne
theorem pt_four (l : List UInt8) : (pt l).2 ≤ 4 := by
  by_cases h : (pt l).2 = 0
  · omega
  · rw [(pt_ok h).1, decodeL_N]
    unfold decodeN
    repeat' split
    all_goals simp
theorem pt_rune (l : List UInt8) : (pt l).1 ≤ 1114111 := by
  by_cases h : (pt l).2 = 0
  · rw [pt_zero h]; simp
  · rw [(pt_ok h).1]; exact decodeL_rune l

/-! ### which text any bytes are -/
def parseN : Nat → List UInt8 → Option (List Int)
  | 0, _ => some []
  | n + 1, l => if l = [] then some [] else if (pt l).2 = 0 then none else (parseN n (l.drop (pt l).2)).map fun r => ((pt l).1 : Int) :: r
def parse (l : List UInt8) : Option (List Int) := parseN l.length l
theorem parseN_nil : ∀ n, parseN n [] = some []
  | 0 => rfl
  | _ + 1 => by simp [parseN]
theorem parseN_fuel : ∀ (n m : Nat) (l : List UInt8), l.length ≤ n → l.length ≤ m → parseN n l = parseN m l
  | 0, m, l, hn, _ => by
    have : l = [] := List.eq_nil_of_length_eq_zero (by omega)
    subst this
    rw [parseN_nil, parseN_nil]
  | n + 1, 0, l, _, hm => by
    have : l = [] := List.eq_nil_of_length_eq_zero (by omega)
    subst this
    rw [parseN_nil, parseN_nil]
  | n + 1, m + 1, l, hn, hm => by
    unfold parseN
    by_cases hne : l = []
    · simp [hne]
    · rw [if_neg hne, if_neg hne]
      by_cases hz : (pt l).2 = 0
      · rw [if_pos hz, if_pos hz]
      · have hl : 0 < l.length := List.length_pos_iff.2 hne
        rw [if_neg hz, if_neg hz, parseN_fuel n m (l.drop (pt l).2) (by rw [List.length_drop]; omega) (by rw [List.length_drop]; omega)]
theorem parse_nil : parse [] = some [] := rfl
theorem parse_step (l : List UInt8) (hne : l ≠ []) : parse l = if (pt l).2 = 0 then none else (parse (l.drop (pt l).2)).map fun r => ((pt l).1 : Int) :: r := by
  have hl : 0 < l.length := List.length_pos_iff.2 hne
  obtain ⟨n, hn⟩ : ∃ n, l.length = n + 1 := ⟨l.length - 1, by omega⟩
  unfold parse
  rw [hn]
  show (if l = [] then some [] else _) = _
  rw [if_neg hne]
  by_cases hz : (pt l).2 = 0
  · rw [if_pos hz, if_pos hz]
  · rw [if_neg hz, if_neg hz, parseN_fuel n (l.drop (pt l).2).length _ (by rw [List.length_drop]; omega) (Nat.le_refl _)]

/-- May the bytes be a text (their length apart)? Their code points. The error. -/
def chk (l : List UInt8) : Bool := (parse l).isSome
def runes (l : List UInt8) : List Int := (parse l).getD []
def textErr (l : List UInt8) : Int := if 1024 < l.length then 2 else if chk l = true then 0 else 8
theorem chk_nil : chk [] = true := rfl
theorem runes_nil : runes [] = [] := rfl
theorem chk_step (l : List UInt8) (hne : l ≠ []) : chk l = if (pt l).2 = 0 then false else chk (l.drop (pt l).2) := by
  unfold chk
  rw [parse_step l hne]
  split
  · rfl
  · simp
theorem chk_pt {l : List UInt8} (hne : l ≠ []) (h : chk l = true) : (pt l).2 ≠ 0 := by
  intro hz; rw [chk_step l hne, if_pos hz] at h; cases h
theorem chk_drop {l : List UInt8} (hne : l ≠ []) (h : chk l = true) : chk (l.drop (pt l).2) = true := by
  have := chk_pt hne h
  rw [chk_step l hne, if_neg this] at h; exact h
theorem runes_step (l : List UInt8) (hne : l ≠ []) (h : chk l = true) : runes l = ((pt l).1 : Int) :: runes (l.drop (pt l).2) := by
  have hz := chk_pt hne h
  have hd := chk_drop hne h
  unfold chk at hd
  unfold runes
  rw [parse_step l hne, if_neg hz]
  obtain ⟨x, hx⟩ := Option.isSome_iff_exists.1 hd
  rw [hx]; rfl
theorem parse_chk {l : List UInt8} (h : chk l = true) : parse l = some (runes l) := by
  unfold chk at h; unfold runes
  obtain ⟨x, hx⟩ := Option.isSome_iff_exists.1 h
  rw [hx]; rfl

/-- An induction over the code points of a text. -/
theorem text_rec {p : List UInt8 → Prop} (h0 : p []) (h1 : ∀ l, l ≠ [] → chk l = true → p (l.drop (pt l).2) → p l) : ∀ l, chk l = true → p l := by
  have key : ∀ (n : Nat) (l : List UInt8), l.length ≤ n → chk l = true → p l := by
    intro n
    induction n with
    | zero =>
      intro l hl _
      have e : l = [] := List.eq_nil_of_length_eq_zero (by omega)
      rw [e]; exact h0
    | succ n ih =>
      intro l hl hc
      by_cases hne : l = []
      · rw [hne]; exact h0
      · have hz := chk_pt hne hc
        have hl' : 0 < l.length := List.length_pos_iff.2 hne
        exact h1 l hne hc (ih _ (by rw [List.length_drop]; omega) (chk_drop hne hc))
  exact fun l => key l.length l (Nat.le_refl _)

/-! ### the code points of a text make it again -/
theorem runes_good : ∀ l, chk l = true → ∀ r ∈ runes l, good r = true := by
  apply text_rec
  · intro r hr; cases hr
  · intro l hne hc ih r hr
    rw [runes_step l hne hc] at hr
    rcases List.mem_cons.1 hr with rfl | hr
    · exact (pt_ok (chk_pt hne hc)).2.1
    · exact ih r hr
theorem encode_pt {l : List UInt8} (hne : l ≠ []) (hz : (pt l).2 ≠ 0) : encodeRune ((pt l).1 : Int) = l.take (pt l).2 := by
  obtain ⟨e, _, hv⟩ := pt_ok hz
  rw [e]; exact encode_decode l hne hv
theorem encode_runes : ∀ l, chk l = true → (runes l).flatMap encodeRune = l := by
  apply text_rec
  · rfl
  · intro l hne hc ih
    rw [runes_step l hne hc, List.flatMap_cons, ih, encode_pt hne (chk_pt hne hc), List.take_append_drop]

/-! ### U+FFFD, written out or not -/
theorem decodeN_err (n b0 b1 b2 b3 : Nat) (hn : 1 ≤ n) (h0 : b0 < 256) (h1 : b1 < 256) (h2 : b2 < 256) (h : (decodeN n b0 b1 b2 b3).1 = 65533) :
    ((decodeN n b0 b1 b2 b3).2 = 1 ∧ ¬ (3 ≤ n ∧ b0 = 239 ∧ b1 = 191 ∧ b2 = 189)) ∨ ((decodeN n b0 b1 b2 b3).2 = 3 ∧ (3 ≤ n ∧ b0 = 239 ∧ b1 = 191 ∧ b2 = 189)) := by
  unfold decodeN at h ⊢
  repeat' split at h
  all_goals simp only [] at h ⊢
  all_goals (repeat' split)
  all_goals first | (exfalso; omega) | omega
theorem prefix_three (l : List UInt8) (a b c : UInt8) : hasPrefix l [a, b, c] = decide (3 ≤ l.length ∧ l.getD 0 0 = a ∧ l.getD 1 0 = b ∧ l.getD 2 0 = c) := by
  unfold hasPrefix
  match l with
  | [] => simp
  | [x] => simp [List.isPrefixOf]
  | [x, y] => simp [List.isPrefixOf]
  | x :: y :: z :: r =>
    rw [Bool.eq_iff_iff]
    simp [List.isPrefixOf]
    constructor
    · rintro ⟨rfl, rfl, rfl⟩; exact ⟨rfl, rfl, rfl⟩
    · rintro ⟨rfl, rfl, rfl⟩; exact ⟨rfl, rfl, rfl⟩
theorem err_prefix (l : List UInt8) (hne : l ≠ []) (h : (decodeL l).1 = 65533) : hasPrefix l [239, 191, 189] = !decide ((decodeL l).2 = 1) := by
  have hl : 0 < l.length := List.length_pos_iff.2 hne
  rw [decodeL_N] at h ⊢
  rw [prefix_three]
  have e (x : UInt8) (k : Nat) (hk : k < 256) : x = UInt8.ofNat k ↔ x.toNat = k := by
    constructor
    · rintro rfl; simp; omega
    · intro h; rw [← h]; simp
  have e0 := e (l.getD 0 0) 239 (by omega)
  have e1 := e (l.getD 1 0) 191 (by omega)
  have e2 := e (l.getD 2 0) 189 (by omega)
  rcases decodeN_err l.length _ _ _ _ hl (UInt8.toNat_lt _) (UInt8.toNat_lt _) (UInt8.toNat_lt _) h with ⟨ha, hb⟩ | ⟨ha, hb⟩
  · rw [ha, decide_eq_false]
    · rfl
    · intro x; exact hb ⟨x.1, e0.1 x.2.1, e1.1 x.2.2.1, e2.1 x.2.2.2⟩
  · rw [ha, decide_eq_true]
    · rfl
    · exact ⟨hb.1, e0.2 hb.2.1, e1.2 hb.2.2.1, e2.2 hb.2.2.2⟩
end Go.Proofs.Ytdogeljlcnlbkaa.Txt
