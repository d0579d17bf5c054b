/- Plain facts: a name matches itself alone; with one level more generous it is matched; # behind it matches it, and what is beneath. No run of a program is in this file. -/
import Derived.Test.YtpmcfnancbbgoaaNamePlain
import Derived.Test.YtpmcfnancbbgoaaTextPlainBack
namespace Go.Proofs.Ytpmcfnancbbgoaa.Nam
open Go.Lib Txt

theorem mayAsk_snoc : ∀ (ls : List (List UInt8)) (x : List UInt8), ls.all plain = true → level x true = true → mayAsk (ls ++ [x]) = true
  | [], x, _, h => by show (level x true && true) = true; rw [h]; rfl
  | y :: r, x, hp, h => by
    rw [List.all_cons, Bool.and_eq_true] at hp
    show (level y (r ++ [x]).isEmpty && mayAsk (r ++ [x])) = true
    rw [mayAsk_snoc r x hp.2 h]
    unfold level
    rw [hp.1]; simp
theorem meets_under : ∀ (ls ts : List (List UInt8)), meets (ls ++ [[35]]) (ls ++ ts) = true
  | [], [] => rfl
  | [], y :: t => rfl
  | x :: r, ts => by
    show (x == [35] || ((x == [43] || x == x) && meets (r ++ [[35]]) (r ++ ts))) = true
    rw [meets_under r ts]; simp
theorem meets_more : ∀ ls : List (List UInt8), ls.all plain = true → meets (ls ++ [[43]]) ls = false
  | [], _ => rfl
  | x :: r, h => by
    rw [List.all_cons, Bool.and_eq_true] at h
    show (x == [35] || ((x == [43] || x == x) && meets (r ++ [[43]]) r)) = false
    rw [meets_more r h.2, (plain_not h.1).2]; simp
theorem meets_one : ∀ (ls : List (List UInt8)) (y : List UInt8), meets (ls ++ [[43]]) (ls ++ [y]) = true
  | [], y => by show ([43] == [35] || (([43] == [43] || _) && true)) = true; simp
  | x :: r, y => by
    show (x == [35] || ((x == [43] || x == x) && meets (r ++ [[43]]) (r ++ [y]))) = true
    rw [meets_one r y]; simp
theorem meets_set : ∀ (ls : List (List UInt8)) (k : Nat), meets (ls.set k [43]) ls = true
  | [], _ => rfl
  | x :: r, 0 => by
    show ([43] == [35] || (([43] == [43] || _) && meets r r)) = true
    rw [meets_self r]; simp
  | x :: r, k + 1 => by
    show (x == [35] || ((x == [43] || x == x) && meets (r.set k [43]) r)) = true
    rw [meets_set r k]; simp
theorem matches_is {f t : List UInt8} (hf : filterErr f = 0) (ht : topicErr t = 0) (ho : own t = false) : matchB f t = meets (split f) (split t) := by
  unfold matchB
  rw [hf, ht, ho]; simp
theorem text_app {a b : List UInt8} (h : textErr a = 0) (hb : chk b = true) (hl : a.length + b.length ≤ 1024) : textErr (a ++ b) = 0 := by
  unfold textErr
  rw [if_neg (by rw [List.length_append]; omega), if_pos (chk_append b hb a (textErr_zero h).2)]
theorem room_is {l : List UInt8} : room l = true ↔ l ≠ [] ∧ l.count 47 < 16 := by
  unfold room
  rw [Bool.and_eq_true, decide_eq_true_eq]
  constructor
  · rintro ⟨h1, h2⟩
    exact ⟨fun e => (by rw [e] at h1; cases h1), h2⟩
  · rintro ⟨h1, h2⟩
    refine ⟨?_, h2⟩
    cases l with
    | nil => exact absurd rfl h1
    | cons => rfl
theorem own_app {a : List UInt8} (b : List UInt8) (h : a ≠ []) : own (a ++ b) = own a := by
  cases a with
  | nil => exact absurd rfl h
  | cons c r => rfl

/-- A topic's name, not the broker's own, with room behind it. -/
structure Good (t : List UInt8) : Prop where
  ok : topicErr t = 0
  ow : own t = false
  len : t.length ≤ 1020
section
variable {t : List UInt8}
theorem Good.text (h : Good t) : textErr t = 0 := (checkErr_zero.1 (topicErr_zero.1 h.ok).1).1
theorem Good.room (h : Good t) : t ≠ [] ∧ t.count 47 < 16 := room_is.1 (checkErr_zero.1 (topicErr_zero.1 h.ok).1).2
theorem Good.plain (h : Good t) : plain t = true := (topicErr_zero.1 h.ok).2
theorem Good.levels (h : Good t) : (split t).all Nam.plain = true := by rw [plain_split]; exact h.plain
theorem Good.filter (h : Good t) : filterErr t = 0 := filterErr_zero.2 ⟨(topicErr_zero.1 h.ok).1, mayAsk_plain _ h.levels⟩
theorem Good.self (h : Good t) : matchB t t = true := by rw [matches_is h.filter h.ok h.ow, meets_self]
theorem Good.other (h : Good t) : matchB t (t ++ [120]) = false := by
  by_cases ht : topicErr (t ++ [120]) = 0
  · rw [matches_is h.filter ht (by rw [own_app _ h.room.1]; exact h.ow)]
    cases hm : meets (split t) (split (t ++ [120])) with
    | false => rfl
    | true =>
      have := split_inj (meets_plain _ _ h.levels hm)
      have := congrArg List.length this
      simp at this
  · unfold matchB
    rw [decide_eq_false ht]; simp
theorem Good.all (h : Good t) : matchB [35] t = true := by
  rw [matches_is (by decide +kernel) h.ok h.ow]
  have hne := split_ne t
  show meets [[35]] (split t) = true
  cases split t with
  | nil => rfl
  | cons => rfl
theorem Good.count (h : (split t).length < 16) : t.count 47 + 1 < 16 := by rw [split_len] at h; exact h
theorem Good.below (h : Good t) (hl : (split t).length < 16) : filterErr (t ++ [47, 35]) = 0 := by
  refine filterErr_zero.2 ⟨checkErr_zero.2 ⟨text_app h.text (by decide +kernel) (by have := h.len; simp; omega), room_is.2 ⟨by simp, ?_⟩⟩, ?_⟩
  · rw [List.count_append]; have := Good.count hl; show _ + 1 < 16; exact this
  · rw [show t ++ [47, 35] = t ++ 47 :: [35] from rfl, split_append t [35] (by decide)]
    exact mayAsk_snoc _ _ h.levels rfl
theorem Good.beside (h : Good t) (hl : (split t).length < 16) : filterErr (t ++ [47, 43]) = 0 := by
  refine filterErr_zero.2 ⟨checkErr_zero.2 ⟨text_app h.text (by decide +kernel) (by have := h.len; simp; omega), room_is.2 ⟨by simp, ?_⟩⟩, ?_⟩
  · rw [List.count_append]; have := Good.count hl; show _ + 1 < 16; exact this
  · rw [show t ++ [47, 43] = t ++ 47 :: [43] from rfl, split_append t [43] (by decide)]
    exact mayAsk_snoc _ _ h.levels rfl
theorem Good.child (h : Good t) (hl : (split t).length < 16) : topicErr (t ++ [47, 120]) = 0 := by
  refine topicErr_zero.2 ⟨checkErr_zero.2 ⟨text_app h.text (by decide +kernel) (by have := h.len; simp; omega), room_is.2 ⟨by simp, ?_⟩⟩, ?_⟩
  · rw [List.count_append]; have := Good.count hl; show _ + 1 < 16; exact this
  · rw [plain_append, h.plain]; rfl
theorem Good.b1 (h : Good t) (hl : (split t).length < 16) : matchB (t ++ [47, 35]) t = true := by
  rw [matches_is (h.below hl) h.ok h.ow, show t ++ [47, 35] = t ++ 47 :: [35] from rfl, split_append t [35] (by decide)]
  have := meets_under (split t) []
  rwa [List.append_nil] at this
theorem Good.b2 (h : Good t) (hl : (split t).length < 16) : matchB (t ++ [47, 35]) (t ++ [47, 120]) = true := by
  rw [matches_is (h.below hl) (h.child hl) (by rw [own_app _ h.room.1]; exact h.ow), show t ++ [47, 35] = t ++ 47 :: [35] from rfl, split_append t [35] (by decide), show t ++ [47, 120] = t ++ 47 :: [120] from rfl, split_append t [120] (by decide)]
  exact meets_under _ _
theorem Good.b3 (h : Good t) (hl : (split t).length < 16) : matchB (t ++ [47, 43]) t = false := by
  rw [matches_is (h.beside hl) h.ok h.ow, show t ++ [47, 43] = t ++ 47 :: [43] from rfl, split_append t [43] (by decide)]
  exact meets_more _ h.levels
theorem Good.b4 (h : Good t) (hl : (split t).length < 16) : matchB (t ++ [47, 43]) (t ++ [47, 120]) = true := by
  rw [matches_is (h.beside hl) (h.child hl) (by rw [own_app _ h.room.1]; exact h.ow), show t ++ [47, 43] = t ++ 47 :: [43] from rfl, split_append t [43] (by decide), show t ++ [47, 120] = t ++ 47 :: [120] from rfl, split_append t [120] (by decide)]
  exact meets_one _ _
/-- One level more generous. -/
def wider (t : List UInt8) (k : Nat) : List (List UInt8) := (split t).set k [43]
theorem wider_len (k : Nat) : (wider t k).length = (split t).length := by unfold wider; simp
theorem wider_split (k : Nat) : split (join (wider t k)) = wider t k := by
  refine split_join _ (fun e => ?_) fun x hx => ?_
  · have := congrArg List.length e
    rw [wider_len] at this
    exact split_ne t (List.eq_nil_of_length_eq_zero this)
  · rcases List.mem_or_eq_of_mem_set hx with h | rfl
    · exact split_free t x h
    · decide
theorem Good.wide (h : Good t) (k : Nat) (hf : filterErr (join (wider t k)) = 0) : matchB (join (wider t k)) t = true := by
  rw [matches_is hf h.ok h.ow, wider_split]
  exact meets_set _ _
theorem wider_level (h : Good t) (k : Nat) : ∀ x ∈ wider t k, x.length ≤ 1020 := by
  intro x hx
  rcases List.mem_or_eq_of_mem_set hx with hx | rfl
  · have := split_level_len t x hx
    have := h.len
    omega
  · decide
end
theorem join_take_zero (ls : List (List UInt8)) : join (ls.take 0) = [] := rfl
theorem join_take_one (ls : List (List UInt8)) (h : 0 < ls.length) : join (ls.take 1) = ls.getD 0 [] := by
  cases ls with
  | nil => simp at h
  | cons x r => rfl
theorem join_take_next (ls : List (List UInt8)) {j : Nat} (h0 : 0 < j) (h : j < ls.length) : join (ls.take (j + 1)) = join (ls.take j) ++ 47 :: ls.getD j [] := by
  have e : ls.take (j + 1) = ls.take j ++ [ls.getD j []] := by
    rw [List.take_succ_eq_append_getElem h, List.getD_eq_getElem?_getD, List.getElem?_eq_getElem h]; rfl
  rw [e, join_snoc]
  intro hn
  have := congrArg List.length hn
  rw [List.length_take, Nat.min_eq_left (by omega)] at this
  have h1 : j = 0 := this
  omega
theorem wider_at (t : List UInt8) (k j : Nat) (h : j < (split t).length) : (wider t k).getD j [] = if j = k then [43] else (split t).getD j [] := by
  unfold wider
  rw [List.getD_eq_getElem?_getD, List.getElem?_set]
  by_cases hk : k = j
  · subst hk; rw [if_pos rfl, if_pos h, if_pos rfl]; rfl
  · rw [if_neg hk, if_neg (fun e => hk e.symm), List.getD_eq_getElem?_getD]
end Go.Proofs.Ytpmcfnancbbgoaa.Nam
