/- Plain facts on levels: what bytes are parted by /, which may be a name, a filter, a shared one, and which filter matches which name. No run of a program is in this file. -/
import Derived.Test.YtdogeljlcnlbkaaTextPlain
namespace Go.Proofs.Ytdogeljlcnlbkaa.Nam
open Go.Lib Txt

/-! ### levels -/
/-- Bytes in front of the first level. -/
def pre (a : List UInt8) : List (List UInt8) → List (List UInt8)
  | [] => [a]
  | x :: y => (a ++ x) :: y
/-- The levels of bytes: parted by /. -/
def split : List UInt8 → List (List UInt8)
  | [] => [[]]
  | c :: r => if c = 47 then [] :: split r else pre [c] (split r)
theorem split_nil : split [] = [[]] := rfl
theorem split_cons (c : UInt8) (r : List UInt8) : split (c :: r) = if c = 47 then [] :: split r else pre [c] (split r) := rfl
theorem pre_ne (a : List UInt8) (l : List (List UInt8)) : pre a l ≠ [] := by cases l <;> simp [pre]
theorem split_ne : ∀ l, split l ≠ []
  | [] => by simp [split]
  | c :: r => by
    rw [split_cons]
    by_cases h : c = 47
    · rw [if_pos h]; simp
    · rw [if_neg h]; exact pre_ne _ _
theorem pre_nil {l : List (List UInt8)} (h : l ≠ []) : pre [] l = l := by cases l <;> simp_all [pre]
theorem pre_pre (a b : List UInt8) (l : List (List UInt8)) : pre a (pre b l) = pre (a ++ b) l := by cases l <;> simp [pre]
theorem pre_len (a : List UInt8) {l : List (List UInt8)} (h : l ≠ []) : (pre a l).length = l.length := by cases l <;> simp_all [pre]
theorem split_plain : ∀ (a l : List UInt8), (∀ c ∈ a, c ≠ 47) → split (a ++ l) = pre a (split l)
  | [], l, _ => by rw [pre_nil (split_ne l)]; rfl
  | c :: a, l, h => by
    show split (c :: (a ++ l)) = _
    rw [split_cons, if_neg (h c (by simp)), split_plain a l (fun x hx => h x (by simp [hx])), pre_pre]; rfl
theorem split_slash (l : List UInt8) : split (47 :: l) = [] :: split l := by rw [split_cons, if_pos rfl]
theorem split_one (a : List UInt8) (h : ∀ c ∈ a, c ≠ 47) : split a = [a] := by
  have := split_plain a [] h
  rw [List.append_nil] at this
  rw [this, split_nil]; simp [pre]
theorem split_part (a l : List UInt8) (h : ∀ c ∈ a, c ≠ 47) : split (a ++ 47 :: l) = a :: split l := by
  rw [split_plain a _ h, split_slash]; simp [pre]
theorem split_len : ∀ l : List UInt8, (split l).length = l.count 47 + 1
  | [] => rfl
  | c :: r => by
    rw [split_cons]
    by_cases h : c = 47
    · subst h; rw [if_pos rfl, List.length_cons, split_len r, List.count_cons_self]
    · rw [if_neg h, pre_len _ (split_ne r), split_len r, List.count_cons_of_ne h]
theorem pre_mem {a : List UInt8} {l : List (List UInt8)} (ha : ∀ c ∈ a, c ≠ 47) (h : ∀ x ∈ l, ∀ c ∈ x, c ≠ 47) : ∀ x ∈ pre a l, ∀ c ∈ x, c ≠ 47 := by
  cases l with
  | nil => simpa [pre] using ha
  | cons y t =>
    intro x hx c hc
    rcases List.mem_cons.1 hx with rfl | hx
    · rcases List.mem_append.1 hc with hc | hc
      · exact ha c hc
      · exact h y (by simp) c hc
    · exact h x (by simp [hx]) c hc
/-- No level has a /. -/
theorem split_free : ∀ l : List UInt8, ∀ x ∈ split l, ∀ c ∈ x, c ≠ 47
  | [], x, hx, c, hc => by
    rw [split_nil] at hx
    rw [List.mem_singleton] at hx
    subst hx
    cases hc
  | b :: r, x, hx, c, hc => by
    rw [split_cons] at hx
    by_cases h : b = 47
    · rw [if_pos h] at hx
      rcases List.mem_cons.1 hx with rfl | hx
      · cases hc
      · exact split_free r x hx c hc
    · rw [if_neg h] at hx
      exact pre_mem (by simpa using h) (split_free r) x hx c hc
/-- Levels, put together again. -/
def join : List (List UInt8) → List UInt8
  | [] => []
  | [x] => x
  | x :: y :: r => x ++ 47 :: join (y :: r)
theorem join_cons (x : List UInt8) {r : List (List UInt8)} (h : r ≠ []) : join (x :: r) = x ++ 47 :: join r := by
  cases r with
  | nil => exact absurd rfl h
  | cons y t => rfl
theorem join_pre (a : List UInt8) {l : List (List UInt8)} (h : l ≠ []) : join (pre a l) = a ++ join l := by
  match l, h with
  | [x], _ => rfl
  | x :: y :: r, _ =>
    show (a ++ x) ++ 47 :: join (y :: r) = a ++ (x ++ 47 :: join (y :: r))
    rw [List.append_assoc]
theorem join_split : ∀ l, join (split l) = l
  | [] => rfl
  | c :: r => by
    rw [split_cons]
    by_cases h : c = 47
    · subst h; rw [if_pos rfl, join_cons _ (split_ne r), join_split r]; rfl
    · rw [if_neg h, join_pre _ (split_ne r), join_split r]; rfl
theorem split_inj {a b : List UInt8} (h : split a = split b) : a = b := by rw [← join_split a, h, join_split]
theorem split_join : ∀ ls : List (List UInt8), ls ≠ [] → (∀ x ∈ ls, ∀ c ∈ x, c ≠ 47) → split (join ls) = ls
  | [], h, _ => absurd rfl h
  | [x], _, h => split_one x (h x (by simp))
  | x :: y :: r, _, h => by
    rw [join_cons x (by simp), split_part x _ (h x (by simp)), split_join (y :: r) (by simp) (fun z hz => h z (by simp [hz]))]
theorem join_snoc : ∀ (ls : List (List UInt8)) (x : List UInt8), ls ≠ [] → join (ls ++ [x]) = join ls ++ 47 :: x
  | [], _, h => absurd rfl h
  | [y], x, _ => rfl
  | y :: z :: r, x, _ => by
    have := join_snoc (z :: r) x (by simp)
    show y ++ 47 :: join (z :: (r ++ [x])) = (y ++ 47 :: join (z :: r)) ++ 47 :: x
    rw [show z :: (r ++ [x]) = (z :: r) ++ [x] from rfl, this, List.append_assoc]; rfl
theorem join_len : ∀ ls : List (List UInt8), ∀ x ∈ ls, x.length ≤ (join ls).length
  | [], x, hx => by cases hx
  | [y], x, hx => by
    rw [List.mem_singleton] at hx
    subst hx
    exact Nat.le_refl _
  | y :: z :: r, x, hx => by
    rw [join_cons y (by simp), List.length_append, List.length_cons]
    rcases List.mem_cons.1 hx with rfl | hx
    · omega
    · have := join_len (z :: r) x hx; omega
theorem split_level_len (l x : List UInt8) (h : x ∈ split l) : x.length ≤ l.length := by
  have := join_len (split l) x h
  rwa [join_split] at this
theorem split_append (a b : List UInt8) (h : ∀ c ∈ b, c ≠ 47) : split (a ++ 47 :: b) = split a ++ [b] := by
  have e : a ++ 47 :: b = join (split a ++ [b]) := by rw [join_snoc _ _ (split_ne a), join_split]
  rw [e, split_join _ (by simp)]
  intro x hx
  rcases List.mem_append.1 hx with hx | hx
  · exact split_free a x hx
  · rw [List.mem_singleton] at hx
    subst hx
    exact h

/-! ### which levels may be -/
/-- No sign that stands for any. -/
def plain (l : List UInt8) : Bool := l.all fun c => !(c == 43 || c == 35)
/-- A level of a filter, the last one or not. -/
def level (x : List UInt8) (last : Bool) : Bool := x == [43] || (x == [35] && last) || plain x
def mayAsk : List (List UInt8) → Bool
  | [] => true
  | x :: r => level x r.isEmpty && mayAsk r
def wild (x : List UInt8) : Bool := x == [43] || x == [35]
/-- Are a topic's levels such as a filter's levels ask for? -/
def meets : List (List UInt8) → List (List UInt8) → Bool
  | [], t => t.isEmpty
  | x :: _, [] => x == [35]
  | x :: r, y :: t => x == [35] || ((x == [43] || x == y) && meets r t)
def errOf (b : Bool) : Int := if b then 0 else 8
/-- What a name and a filter have in common. -/
def room (l : List UInt8) : Bool := !l.isEmpty && decide (l.count 47 < 16)
def checkErr (l : List UInt8) : Int := if textErr l = 0 then errOf (room l) else textErr l
def topicErr (l : List UInt8) : Int := if checkErr l = 0 then errOf (plain l) else checkErr l
def filterErr (l : List UInt8) : Int := if checkErr l = 0 then errOf (mayAsk (split l)) else checkErr l
def groupB (l : List UInt8) : Bool := decide (textErr l = 0) && !l.isEmpty && plain l
/-- What stands ahead of the first /, and what behind it. -/
def head (l : List UInt8) : List UInt8 := l.takeWhile fun c => c != 47
def tail (l : List UInt8) : List UInt8 := (l.dropWhile fun c => c != 47).drop 1
structure Sh where
  is : Bool
  group : List UInt8
  filter : List UInt8
  err : Int
def shareSign : List UInt8 := [36, 115, 104, 97, 114, 101, 47]
def shareOf (l : List UInt8) : Sh :=
  if hasPrefix l shareSign = true then (if (groupB (head (l.drop 7)) && decide (filterErr (tail (l.drop 7)) = 0)) = true then ⟨true, head (l.drop 7), tail (l.drop 7), 0⟩ else ⟨false, [], [], 8⟩)
  else if filterErr l = 0 then ⟨false, [], l, 0⟩ else ⟨false, [], [], filterErr l⟩
/-- Does a topic begin with the sign of the broker's own? -/
def own (t : List UInt8) : Bool := hasPrefix t [36]
def matchB (f t : List UInt8) : Bool := decide (filterErr f = 0) && decide (topicErr t = 0) && !(own t && wild ((split f).headD [])) && meets (split f) (split t)

theorem textErr_zero {l : List UInt8} (h : textErr l = 0) : l.length ≤ 1024 ∧ chk l = true := by
  unfold textErr at h
  split at h
  · cases h
  · next hl =>
    split at h
    · next hc => exact ⟨by omega, hc⟩
    · cases h
theorem errOf_zero {b : Bool} : errOf b = 0 ↔ b = true := by cases b <;> simp [errOf]
theorem checkErr_zero {l : List UInt8} : checkErr l = 0 ↔ textErr l = 0 ∧ room l = true := by
  unfold checkErr
  split
  · next h => rw [errOf_zero]; simp [h]
  · next h => simp [h]
theorem topicErr_zero {l : List UInt8} : topicErr l = 0 ↔ checkErr l = 0 ∧ plain l = true := by
  unfold topicErr
  split
  · next h => rw [errOf_zero]; simp [h]
  · next h => simp [h]
theorem filterErr_zero {l : List UInt8} : filterErr l = 0 ↔ checkErr l = 0 ∧ mayAsk (split l) = true := by
  unfold filterErr
  split
  · next h => rw [errOf_zero]; simp [h]
  · next h => simp [h]
theorem checkErr_len {l : List UInt8} (h : checkErr l = 0) : l.length ≤ 1024 ∧ l ≠ [] ∧ (split l).length ≤ 16 := by
  obtain ⟨h1, h2⟩ := checkErr_zero.1 h
  unfold room at h2
  rw [Bool.and_eq_true, decide_eq_true_eq] at h2
  refine ⟨(textErr_zero h1).1, ?_, by rw [split_len]; omega⟩
  rintro rfl
  simp at h2
theorem filterErr_nil : filterErr [] = 8 := by decide +kernel

/-! ### plain levels -/
theorem plain_append (a b : List UInt8) : plain (a ++ b) = (plain a && plain b) := by unfold plain; rw [List.all_append]
theorem plain_all {l : List UInt8} (h : plain l = true) {c : UInt8} (hc : c ∈ l) : c ≠ 43 ∧ c ≠ 35 := by
  unfold plain at h
  have := List.all_eq_true.1 h c hc
  simpa using this
theorem plain_pre (a : List UInt8) {l : List (List UInt8)} (h : l ≠ []) : (pre a l).all plain = (plain a && l.all plain) := by
  match l, h with
  | x :: y, _ => show (plain (a ++ x) && y.all plain) = _; rw [plain_append, List.all_cons, Bool.and_assoc]
theorem plain_split : ∀ l, (split l).all plain = plain l
  | [] => rfl
  | c :: r => by
    rw [split_cons]
    by_cases h : c = 47
    · subst h
      rw [if_pos rfl, List.all_cons, plain_split r]
      rfl
    · rw [if_neg h, plain_pre _ (split_ne r), plain_split r, ← plain_append]; rfl
theorem plain_not {x : List UInt8} (h : plain x = true) : (x == [43]) = false ∧ (x == [35]) = false := by
  constructor
  · rw [beq_eq_false_iff_ne]; rintro rfl; cases h
  · rw [beq_eq_false_iff_ne]; rintro rfl; cases h
theorem mayAsk_plain : ∀ ls : List (List UInt8), ls.all plain = true → mayAsk ls = true
  | [], _ => rfl
  | x :: r, h => by
    rw [List.all_cons, Bool.and_eq_true] at h
    show (level x r.isEmpty && mayAsk r) = true
    rw [mayAsk_plain r h.2]
    unfold level
    rw [h.1]; simp
theorem meets_self : ∀ ls : List (List UInt8), meets ls ls = true
  | [] => rfl
  | x :: r => by
    show (x == [35] || ((x == [43] || x == x) && meets r r)) = true
    rw [meets_self r]; simp
theorem meets_plain : ∀ ls ts : List (List UInt8), ls.all plain = true → meets ls ts = true → ls = ts
  | [], ts, _, h => by
    cases ts with
    | nil => rfl
    | cons => cases h
  | x :: r, [], h, hm => by
    rw [List.all_cons, Bool.and_eq_true] at h
    have e : (x == [35]) = true := hm
    rw [(plain_not h.1).2] at e; cases e
  | x :: r, y :: t, h, hm => by
    rw [List.all_cons, Bool.and_eq_true] at h
    have e : (x == [35] || ((x == [43] || x == y) && meets r t)) = true := hm
    rw [(plain_not h.1).1, (plain_not h.1).2, Bool.false_or, Bool.false_or, Bool.and_eq_true] at e
    rw [meets_plain r t h.2 e.2, beq_iff_eq.1 e.1]

/-! ### one round of a loop over code points -/
theorem decodeN_sign (n b0 b1 b2 b3 k : Nat) (hk : k < 128) : ((decodeN n b0 b1 b2 b3).1 = k → b0 = k ∧ (decodeN n b0 b1 b2 b3).2 = 1) ∧
    ((decodeN n b0 b1 b2 b3).1 ≠ k → b0 ≠ k ∧ (2 ≤ (decodeN n b0 b1 b2 b3).2 → b1 ≠ k) ∧ (3 ≤ (decodeN n b0 b1 b2 b3).2 → b2 ≠ k) ∧ (4 ≤ (decodeN n b0 b1 b2 b3).2 → b3 ≠ k)) ∧ (decodeN n b0 b1 b2 b3).2 ≤ 4 := by
  unfold decodeN
  repeat' split
  all_goals (refine ⟨fun h => ⟨?_, ?_⟩, fun h => ⟨?_, fun h' => ?_, fun h' => ?_, fun h' => ?_⟩, ?_⟩ <;> dsimp only at * <;> omega)
/-- A sign of one byte: read as it stands there; within other code points it doesn't stand. -/
theorem decode_sign (l : List UInt8) (hne : l ≠ []) (c : UInt8) (hc : c.toNat < 128) :
    ((decodeL l).1 = c.toNat → l = c :: l.drop 1 ∧ (decodeL l).2 = 1) ∧ ((decodeL l).1 ≠ c.toNat → ∀ x ∈ l.take (decodeL l).2, x ≠ c) := by
  obtain ⟨h1, h2, h3⟩ := decodeN_sign l.length (l.getD 0 0).toNat (l.getD 1 0).toNat (l.getD 2 0).toNat (l.getD 3 0).toNat c.toNat hc
  rw [← decodeL_N] at h1 h2 h3
  constructor
  · intro h
    obtain ⟨e0, e1⟩ := h1 h
    refine ⟨?_, e1⟩
    cases l with
    | nil => exact absurd rfl hne
    | cons b t =>
      have : b = c := UInt8.toNat_inj.1 e0
      rw [this]; rfl
  · intro h x hx
    obtain ⟨j, hj, hjx⟩ := List.mem_iff_getElem.1 hx
    rw [List.length_take] at hj
    rw [List.getElem_take] at hjx
    obtain ⟨e0, e1, e2, e3⟩ := h2 h
    have hg : l.getD j 0 = x := by rw [List.getD_eq_getElem?_getD, List.getElem?_eq_getElem (by omega), hjx]; rfl
    have hj2 : j < (decodeL l).2 := by omega
    clear hjx hj h2 h1 hx
    generalize (decodeL l).2 = W at e1 e2 e3 h3 hj2
    rintro rfl
    have hc4 : j = 0 ∨ j = 1 ∨ j = 2 ∨ j = 3 := by omega
    rcases hc4 with rfl | rfl | rfl | rfl
    · exact e0 (by rw [hg])
    · exact e1 (by omega) (by rw [hg])
    · exact e2 (by omega) (by rw [hg])
    · exact e3 (by omega) (by rw [hg])
theorem split_step (l : List UInt8) (hne : l ≠ []) :
    ((decodeL l).1 = 47 → split l = [] :: split (l.drop 1) ∧ (decodeL l).2 = 1) ∧ ((decodeL l).1 ≠ 47 → split l = pre (l.take (decodeL l).2) (split (l.drop (decodeL l).2))) := by
  obtain ⟨h1, h2⟩ := decode_sign l hne 47 (by decide)
  refine ⟨fun h => ⟨?_, (h1 h).2⟩, fun h => ?_⟩
  · have e := (h1 h).1
    generalize l.drop 1 = t at e ⊢
    rw [e, split_slash]
  · rw [← split_plain _ _ (h2 h), List.take_append_drop]
theorem plain_step (l : List UInt8) (hne : l ≠ []) :
    ((decodeL l).1 = 43 ∨ (decodeL l).1 = 35 → plain l = false) ∧ ((decodeL l).1 ≠ 43 → (decodeL l).1 ≠ 35 → plain l = plain (l.drop (decodeL l).2)) := by
  obtain ⟨h1, h2⟩ := decode_sign l hne 43 (by decide)
  obtain ⟨h3, h4⟩ := decode_sign l hne 35 (by decide)
  refine ⟨?_, fun ha hb => ?_⟩
  · rintro (h | h)
    · have e := (h1 h).1
      generalize l.drop 1 = t at e
      rw [e]; rfl
    · have e := (h3 h).1
      generalize l.drop 1 = t at e
      rw [e]; rfl
  · have e : plain (l.take (decodeL l).2) = true := by
      unfold plain
      rw [List.all_eq_true]
      intro x hx
      have := h2 ha x hx
      have := h4 hb x hx
      simp [*]
    conv => lhs; rw [← List.take_append_drop (decodeL l).2 l, plain_append, e, Bool.true_and]
end Go.Proofs.Ytdogeljlcnlbkaa.Nam
