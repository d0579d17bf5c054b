/- Texts of the proof, part 2: SgPlain, KpPlain, Mem, StrMem, InRegion, Say, RcMem, InLoad, RcWhole. -/
import Derived.WalkKit
import Derived.WalkSpells
import Derived.Lib.Hide
import Derived.Deep.QuietTactic
import Derived.BigQuiet
import Derived.Laws.OwnMore
import Derived.Deep.Draws
import Derived.OwnWalk
import Derived.WalkSmall
import Derived.Lib.Strings
import Derived.WalkLawsBesides
import Derived.Below
import Derived.Deep.MidRow
import Derived.Test.YtgadgmcabjnjjaaChecked
import Derived.Laws.Tables
import Derived.Test.YtgadgmcabjnjjaaW01
/- Segments, plainly: which may be; what is parsed; the first record that is far enough. No run of a program is in this file. -/
namespace Go.Proofs.Ytgadgmcabjnjjaa.Rcd
open Go.Lib Vbi Crc

/-- May r stand behind a? -/
def pairB (a r : Rc) : Bool := decide (a.o < r.o ∧ a.t ≤ r.t)
/-- May r stand where the records rs of a segment from b on are ahead of it? -/
def nextB (b : Int) (rs : List Rc) (r : Rc) : Bool := match rs.getLast? with
  | none => decide (b ≤ r.o)
  | some a => pairB a r
/-- The same, of a record that may be, where there is room. -/
def followB (b : Int) (rs : List Rc) (r : Rc) : Bool := decide (rs.length < 200) && (mayB r && nextB b rs r)
def baseB (b : Int) : Bool := decide (0 ≤ b ∧ b ≤ 1099511627776)
/-- A segment that may be. -/
def segB (b : Int) (rs : List Rc) : Bool := baseB b && (List.range rs.length).all (fun i => followB b (rs.take i) (rs.getD i zero))
theorem follow_iff {b : Int} {rs : List Rc} {r : Rc} : followB b rs r = true ↔ rs.length < 200 ∧ mayB r = true ∧ nextB b rs r = true := by
  unfold followB
  rw [Bool.and_eq_true, Bool.and_eq_true, decide_eq_true_iff]
theorem pair_iff {a r : Rc} : pairB a r = true ↔ a.o < r.o ∧ a.t ≤ r.t := decide_eq_true_iff
theorem next_nil (b : Int) (r : Rc) : nextB b [] r = decide (b ≤ r.o) := rfl
theorem next_last {b : Int} {rs : List Rc} {a r : Rc} (h : rs.getLast? = some a) : nextB b rs r = pairB a r := by unfold nextB; rw [h]
theorem last_take {rs : List Rc} {i : Nat} (h : i < rs.length) : (rs.take (i + 1)).getLast? = some rs[i] := by
  rw [List.take_succ_eq_append_getElem h, List.getLast?_append]; rfl
theorem last_all {rs : List Rc} {n : Nat} (h : n + 1 = rs.length) : rs.getLast? = some (rs[n]'(by omega)) := by
  have := last_take (rs := rs) (i := n) (by omega)
  rwa [List.take_of_length_le (by omega)] at this
theorem seg_iff {b : Int} {rs : List Rc} : segB b rs = true ↔ baseB b = true ∧ ∀ i (h : i < rs.length), followB b (rs.take i) rs[i] = true := by
  unfold segB
  rw [Bool.and_eq_true, List.all_eq_true]
  refine and_congr Iff.rfl ⟨fun h i hi => ?_, fun h i hi => ?_⟩
  · have := h i (List.mem_range.2 hi)
    rwa [List.getD_eq_getElem?_getD, List.getElem?_eq_getElem hi, Option.getD_some] at this
  · have hi' := List.mem_range.1 hi
    rw [List.getD_eq_getElem?_getD, List.getElem?_eq_getElem hi', Option.getD_some]
    exact h i hi'
theorem seg_base {b : Int} {rs : List Rc} (h : segB b rs = true) : baseB b = true := (seg_iff.1 h).1
theorem seg_nil (b : Int) : segB b [] = baseB b := by unfold segB; simp
theorem seg_take {b : Int} {rs : List Rc} (h : segB b rs = true) (k : Nat) : segB b (rs.take k) = true := by
  rw [seg_iff] at h ⊢
  refine ⟨h.1, fun i hi => ?_⟩
  have hi2 := hi
  rw [List.length_take] at hi2
  have := h.2 i (by omega)
  rw [List.getElem_take, List.take_take, Nat.min_eq_left (by omega)]
  exact this
theorem seg_snoc (b : Int) (rs : List Rc) (r : Rc) : segB b (rs ++ [r]) = (segB b rs && followB b rs r) := by
  rw [Bool.eq_iff_iff, Bool.and_eq_true, seg_iff, seg_iff]
  constructor
  · rintro ⟨h1, h2⟩
    refine ⟨⟨h1, fun i hi => ?_⟩, ?_⟩
    · have := h2 i (by rw [List.length_append]; omega)
      rwa [List.getElem_append_left hi, List.take_append_of_le_length (by omega)] at this
    · have := h2 rs.length (by rw [List.length_append]; simp)
      rw [List.getElem_append_right (Nat.le_refl _), List.take_append_of_le_length (Nat.le_refl _), List.take_length] at this
      simpa using this
  · rintro ⟨⟨h1, h2⟩, h3⟩
    refine ⟨h1, fun i hi => ?_⟩
    rw [List.length_append, List.length_cons, List.length_nil] at hi
    by_cases c : i < rs.length
    · rw [List.getElem_append_left c, List.take_append_of_le_length (by omega)]
      exact h2 i c
    · obtain rfl : i = rs.length := by omega
      rw [List.getElem_append_right (Nat.le_refl _), List.take_append_of_le_length (Nat.le_refl _), List.take_length]
      simpa using h3
theorem seg_may {b : Int} {rs : List Rc} (h : segB b rs = true) : ∀ r ∈ rs, mayB r = true := by
  intro r hr
  obtain ⟨i, hi, rfl⟩ := List.mem_iff_getElem.1 hr
  exact (follow_iff.1 ((seg_iff.1 h).2 i hi)).2.1
theorem seg_len {b : Int} {rs : List Rc} (h : segB b rs = true) : rs.length ≤ 200 := by
  rcases Nat.lt_or_ge 200 rs.length with c | c
  · have := (follow_iff.1 ((seg_iff.1 h).2 200 c)).1
    rw [List.length_take] at this
    omega
  · exact c
/-- What the document asks of the record at i. -/
def docAt (b : Int) (rs : List Rc) (i : Nat) : Prop := ∀ h : i < rs.length, mayB rs[i] = true ∧ b ≤ rs[i].o ∧ (0 < i → pairB (rs[i - 1]'(by omega)) rs[i] = true)
theorem next_at {b : Int} {rs : List Rc} {i : Nat} (h : i < rs.length) : nextB b (rs.take i) rs[i] = if _h0 : 0 < i then pairB (rs[i - 1]'(by omega)) rs[i] else decide (b ≤ rs[i].o) := by
  cases i with
  | zero => rfl
  | succ j => rw [next_last (last_take (by omega))]; rfl
theorem seg_doc {b : Int} {rs : List Rc} : segB b rs = true ↔ (baseB b = true ∧ rs.length ≤ 200) ∧ ∀ i, i < rs.length → docAt b rs i := by
  constructor
  · intro hs
    refine ⟨⟨seg_base hs, seg_len hs⟩, fun i _ => ?_⟩
    have hf := (seg_iff.1 hs).2
    have key : ∀ j (h : j < rs.length), b ≤ rs[j].o := by
      intro j
      induction j with
      | zero =>
        intro h
        have := (follow_iff.1 (hf 0 h)).2.2
        rw [next_at h, dif_neg (by omega), decide_eq_true_iff] at this
        exact this
      | succ j ih =>
        intro h
        have := (follow_iff.1 (hf (j + 1) h)).2.2
        rw [next_at h, dif_pos (by omega), pair_iff] at this
        have h2 := ih (by omega)
        have h3 := this.1
        simp only [Nat.add_sub_cancel] at h3
        omega
    intro h
    have h1 := follow_iff.1 (hf i h)
    refine ⟨h1.2.1, key i h, fun h0 => ?_⟩
    have := h1.2.2
    rwa [next_at h, dif_pos h0] at this
  · rintro ⟨⟨h1, h2⟩, h3⟩
    rw [seg_iff]
    refine ⟨h1, fun i hi => follow_iff.2 ⟨?_, ?_, ?_⟩⟩
    · rw [List.length_take]; omega
    · exact (h3 i hi hi).1
    · rw [next_at hi]
      by_cases h0 : 0 < i
      · rw [dif_pos h0]; exact (h3 i hi hi).2.2 h0
      · rw [dif_neg h0]; exact decide_eq_true (h3 i hi hi).2.1

/-! ### what is parsed -/
/-- The records that may stand behind rs, out of those of L, up to the first one that may not. -/
def goP (b : Int) : List Rc → List Rc → List Rc
  | rs, [] => rs
  | rs, r :: L => if followB b rs r then goP b (rs ++ [r]) L else rs
def parseS (b : Int) (l : List UInt8) : List Rc := goP b [] (scan l).1
theorem goP_nil (b : Int) (rs : List Rc) : goP b rs [] = rs := rfl
theorem goP_yes {b : Int} {rs L : List Rc} {r : Rc} (h : followB b rs r = true) : goP b rs (r :: L) = goP b (rs ++ [r]) L := by rw [goP, if_pos h]
theorem goP_no {b : Int} {rs L : List Rc} {r : Rc} (h : followB b rs r = false) : goP b rs (r :: L) = rs := by rw [goP, if_neg (by rw [h]; decide)]
theorem goP_all {b : Int} (L : List Rc) : ∀ rs, segB b (rs ++ L) = true → goP b rs L = rs ++ L := by
  induction L with
  | nil => intro rs _; rw [goP_nil, List.append_nil]
  | cons r L ih =>
    intro rs h
    have h2 : segB b (rs ++ [r]) = true := by
      have := seg_take h (rs.length + 1)
      rwa [List.take_append, List.take_of_length_le (by omega), show rs.length + 1 - rs.length = 1 by omega, List.take_succ_cons, List.take_zero] at this
    rw [seg_snoc, Bool.and_eq_true] at h2
    rw [goP_yes h2.2, ih (rs ++ [r]) (by rw [List.append_assoc]; exact h), List.append_assoc]
    rfl
theorem goP_seg {b : Int} (L : List Rc) : ∀ rs, segB b rs = true → segB b (goP b rs L) = true := by
  induction L with
  | nil => intro rs h; exact h
  | cons r L ih =>
    intro rs h
    by_cases c : followB b rs r = true
    · rw [goP_yes c]; exact ih _ (by rw [seg_snoc, h, c]; rfl)
    · rw [goP_no (by simpa using c)]; exact h
theorem parse_seg {b : Int} (l : List UInt8) (h : baseB b = true) : segB b (parseS b l) = true := goP_seg _ _ (by rw [seg_nil]; exact h)
/-- A record has just the bytes that are taken. -/
theorem parse_len {B : List UInt8} (h : (parse B).2 = 0) : B.length = 19 + (parse B).1.k.length + (parse B).1.b.length := by
  unfold parse p0 at h ⊢
  by_cases c1 : B.length < 8
  · rw [if_pos c1] at h; cases h
  · rw [if_neg c1] at h ⊢
    unfold p1 at h ⊢
    by_cases c2 : (B.drop 8).length < 8
    · rw [if_pos c2] at h; cases h
    · rw [if_neg c2] at h ⊢
      rw [List.length_drop] at c2
      rcases hd : (B.drop 8).drop 8 with _ | ⟨f, t⟩
      · rw [hd] at h; cases h
      · have hl := congrArg List.length hd
        rw [List.length_drop, List.length_drop, List.length_cons] at hl
        rw [hd] at h
        rw [p2_cons] at h ⊢
        unfold p3 at h ⊢
        by_cases c3 : t.length < 2
        · rw [if_pos c3] at h; cases h
        · rw [if_neg c3] at h ⊢
          by_cases c4 : 1024 < fixVal (t.take 2)
          · rw [if_pos c4] at h; cases h
          · rw [if_neg c4] at h ⊢
            by_cases c5 : t.length < 2 + fixVal (t.take 2)
            · rw [if_pos c5] at h; cases h
            · rw [if_neg c5]
              unfold p4
              simp only [List.length_take, List.length_drop]
              omega
theorem take_len {l : List UInt8} {r : Rc} {n : Nat} (h : takeR l = (r, n, 0)) : n = (recL r).length := by
  unfold takeR at h
  by_cases c1 : l.length < 6
  · rw [if_pos c1] at h; injection h with _ h; injection h with _ h; cases h
  · rw [if_neg c1] at h
    by_cases c2 : l.length < 6 + fixVal (l.take 2)
    · rw [if_pos c2] at h; injection h with _ h; injection h with _ h; cases h
    · rw [if_neg c2] at h
      split at h
      · split at h
        · next c4 =>
          have hl := parse_len c4
          injection h with h1 h2
          injection h2 with h2 _
          rw [h1, List.length_take, List.length_drop, Nat.min_eq_left (by omega)] at hl
          rw [rec_len]
          omega
        · injection h with _ h; injection h with _ h; cases h
      · injection h with _ h; injection h with _ h; cases h
theorem take_may {l : List UInt8} {r : Rc} {n : Nat} (h : takeR l = (r, n, 0)) : n ≤ l.length ∧ 25 ≤ n := by
  have h1 := take_size (l := l) (by rw [h])
  rw [h] at h1
  have h2 := take_len h
  rw [rec_len] at h2
  exact ⟨h1.2, by omega⟩
/-- No record is told where none is taken. -/
theorem scan_none {l : List UInt8} (h : ¬ (takeR l).2.2 = 0) : (scan l).1 = [] := by
  by_cases h0 : l.length = 0
  · obtain rfl : l = [] := List.eq_nil_of_length_eq_zero h0
    rfl
  · rw [scan_stop (by omega) h]
/-- A segment's bytes, cut off anywhere: a beginning of it. -/
theorem parse_cut {b : Int} {rs : List Rc} (h : segB b rs = true) (n : Nat) (hn : n ≤ (allL rs).length) : parseS b ((allL rs).take n) = rs.take (wholeN rs n) := by
  unfold parseS
  rw [scan_cut rs (seg_may h) n hn]
  exact (goP_all _ [] (by rw [List.nil_append]; exact seg_take h _)).trans (List.nil_append _)
theorem whole_all (rs : List Rc) : wholeN rs (allL rs).length = rs.length := by
  induction rs with
  | nil => rfl
  | cons r rs ih =>
    rw [all_cons, List.length_append, whole_yes (by omega), List.length_cons]
    rw [show (recL r).length + (allL rs).length - (recL r).length = (allL rs).length by omega, ih]
theorem all_size {rs : List Rc} (h : ∀ r ∈ rs, mayB r = true) : (allL rs).length ≤ rs.length * 2100 := by
  induction rs with
  | nil => exact Nat.zero_le _
  | cons r rs ih =>
    obtain ⟨_, _, _, _, h5, h6, _⟩ := (may_iff r).1 (h r (List.mem_cons_self ..))
    have := ih fun x hx => h x (List.mem_cons_of_mem _ hx)
    rw [all_cons, List.length_append, rec_len, List.length_cons]
    omega
theorem all_take_le (rs : List Rc) (k : Nat) : (allL (rs.take k)).length ≤ (allL rs).length := by
  have e : rs = rs.take k ++ rs.drop k := (List.take_append_drop k rs).symm
  have h : (allL rs).length = (allL (rs.take k)).length + (allL (rs.drop k)).length := by
    conv => lhs; rw [e]
    unfold allL
    rw [List.flatMap_append, List.length_append]
  omega

/-! ### the first one -/
structure First (p : Rc → Bool) (rs : List Rc) (a : Nat) : Prop where
  le : a ≤ rs.length
  lo : ∀ i (h : i < rs.length), i < a → p rs[i] = false
  hi : ∀ h : a < rs.length, p rs[a] = true
theorem first_of (p : Rc → Bool) (rs : List Rc) : ∃ a, First p rs a := by
  induction rs with
  | nil => exact ⟨0, Nat.le_refl _, fun i h => absurd h (Nat.not_lt_zero _), fun h => absurd h (Nat.not_lt_zero _)⟩
  | cons r rs ih =>
    by_cases c : p r = true
    · exact ⟨0, Nat.zero_le _, fun i _ h => absurd h (Nat.not_lt_zero _), fun _ => c⟩
    · obtain ⟨a, h1, h2, h3⟩ := ih
      refine ⟨a + 1, by rw [List.length_cons]; omega, fun i h hi => ?_, fun h => ?_⟩
      · cases i with
        | zero => simpa using c
        | succ j => exact h2 j (by simpa using h) (by omega)
      · exact h3 (by simpa using h)
end Go.Proofs.Ytgadgmcabjnjjaa.Rcd
/- Segments in a row, plainly: which may be; what is too much, too old; how many go. No run of a program is in this file. -/
namespace Go.Proofs.Ytgadgmcabjnjjaa.Kpd
open Go.Lib Vbi Crc Rcd

/-- A segment. -/
structure Sp where
  b : Int
  rs : List Rc
def spz : Sp := ⟨0, []⟩
/-- A topic's rules. -/
structure Ru where
  sb : Int
  by_ : Int
  ag : Int
  co : Bool
  gr : Int
def ruB (r : Ru) : Bool := decide ((1 ≤ r.sb ∧ r.sb ≤ 32768) ∧ (-1 ≤ r.by_ ∧ r.by_ ≤ 1073741824) ∧ (-1 ≤ r.ag ∧ r.ag ≤ 1073741824) ∧ (0 ≤ r.gr ∧ r.gr ≤ 1073741824))
def recsOf (l : List Sp) : List Rc := l.flatMap (·.rs)
def sizeL : List Sp → Nat
  | [] => 0
  | s :: t => (allL s.rs).length + sizeL t
theorem recs_snoc (l : List Sp) (s : Sp) : recsOf (l ++ [s]) = recsOf l ++ s.rs := by unfold recsOf; rw [List.flatMap_append]; simp
theorem recs_next {l : List Sp} {k : Nat} (h : k < l.length) : recsOf (l.take (k + 1)) = recsOf (l.take k) ++ l[k].rs := by rw [List.take_succ_eq_append_getElem h, recs_snoc]
theorem recs_app (l m : List Sp) : recsOf (l ++ m) = recsOf l ++ recsOf m := by unfold recsOf; rw [List.flatMap_append]
theorem recs_take_le (l : List Sp) (k : Nat) : (recsOf (l.take k)).length ≤ (recsOf l).length := by
  have h := recs_app (l.take k) (l.drop k)
  rw [List.take_append_drop] at h
  rw [h, List.length_append]; omega
theorem size_snoc (l : List Sp) (s : Sp) : sizeL (l ++ [s]) = sizeL l + (allL s.rs).length := by
  induction l with
  | nil => simp [sizeL]
  | cons x l ih => rw [List.cons_append, sizeL, ih, sizeL]; omega
theorem size_next {l : List Sp} {k : Nat} (h : k < l.length) : sizeL (l.take (k + 1)) = sizeL (l.take k) + (allL l[k].rs).length := by rw [List.take_succ_eq_append_getElem h, size_snoc]
theorem size_drop {l : List Sp} {k : Nat} (h : k < l.length) : sizeL (l.drop k) = (allL l[k].rs).length + sizeL (l.drop (k + 1)) := by rw [List.drop_eq_getElem_cons h, sizeL]
theorem size_app (l m : List Sp) : sizeL (l ++ m) = sizeL l + sizeL m := by
  induction l with
  | nil => simp [sizeL]
  | cons x l ih => rw [List.cons_append, sizeL, ih, sizeL]; omega
theorem size_take_le (l : List Sp) (k : Nat) : sizeL (l.take k) ≤ sizeL l := by
  have h := size_app (l.take k) (l.drop k)
  rw [List.take_append_drop] at h
  omega
theorem size_drop_le (l : List Sp) (k : Nat) : sizeL (l.drop k) ≤ sizeL l := by
  have h := size_app (l.take k) (l.drop k)
  rw [List.take_append_drop] at h
  omega

/-- What segments leave to those behind them. -/
structure En where
  r : Int
  b : Int
  t : Int
def En.next (e : En) (s : Sp) : En := match s.rs.getLast? with
  | none => ⟨e.r, s.b, e.t⟩
  | some a => ⟨e.r + (s.rs.length : Int), a.o + 1, a.t⟩
/-- May the first record stand there? -/
def firstB (t : Int) (rs : List Rc) : Bool := match rs.head? with
  | none => true
  | some f => decide (t ≤ f.t)
def okB (e : En) (s : Sp) : Bool := segB s.b s.rs && (decide (e.b ≤ s.b) && (decide (e.r + (s.rs.length : Int) ≤ 200) && firstB e.t s.rs))
theorem ok_iff {e : En} {s : Sp} : okB e s = true ↔ segB s.b s.rs = true ∧ e.b ≤ s.b ∧ e.r + (s.rs.length : Int) ≤ 200 ∧ firstB e.t s.rs = true := by
  unfold okB
  rw [Bool.and_eq_true, Bool.and_eq_true, Bool.and_eq_true, decide_eq_true_iff, decide_eq_true_iff]
def endOf (l : List Sp) : En := l.foldl En.next ⟨0, 0, 0⟩
theorem end_nil : endOf [] = ⟨0, 0, 0⟩ := rfl
theorem end_next {l : List Sp} {k : Nat} (h : k < l.length) : endOf (l.take (k + 1)) = (endOf (l.take k)).next l[k] := by
  rw [List.take_succ_eq_append_getElem h]; unfold endOf; rw [List.foldl_append]; rfl
theorem end_snoc (l : List Sp) (s : Sp) : endOf (l ++ [s]) = (endOf l).next s := by unfold endOf; rw [List.foldl_append]; rfl
/-- Segments in a row. -/
def rowB (l : List Sp) : Bool := decide (1 ≤ l.length ∧ l.length ≤ 201) && (List.range l.length).all (fun i => okB (endOf (l.take i)) (l.getD i spz))
theorem row_iff {l : List Sp} : rowB l = true ↔ (1 ≤ l.length ∧ l.length ≤ 201) ∧ ∀ i (h : i < l.length), okB (endOf (l.take i)) l[i] = true := by
  unfold rowB
  rw [Bool.and_eq_true, List.all_eq_true, decide_eq_true_iff]
  refine and_congr Iff.rfl ⟨fun h i hi => ?_, fun h i hi => ?_⟩
  · have := h i (List.mem_range.2 hi)
    rwa [List.getD_eq_getElem?_getD, List.getElem?_eq_getElem hi, Option.getD_some] at this
  · have hi' := List.mem_range.1 hi
    rw [List.getD_eq_getElem?_getD, List.getElem?_eq_getElem hi', Option.getD_some]
    exact h i hi'
/-- What the document asks of the segment at i. -/
def docB (l : List Sp) (i : Nat) : Prop := ∀ h : i < l.length, segB l[i].b l[i].rs = true ∧ (0 < i → (l[i - 1]'(by omega)).b ≤ l[i].b) ∧ ∀ a, (recsOf (l.take i)).getLast? = some a → a.o < l[i].b ∧ firstB a.t l[i].rs = true
theorem end_r (l : List Sp) : (endOf l).r = ((recsOf l).length : Int) := by
  suffices h : ∀ k ≤ l.length, (endOf (l.take k)).r = ((recsOf (l.take k)).length : Int) by
    have := h l.length (Nat.le_refl _)
    rwa [List.take_length] at this
  intro k
  induction k with
  | zero => intro _; rfl
  | succ k ih =>
    intro hk
    rw [end_next (by omega), recs_next (by omega), List.length_append]
    have := ih (by omega)
    unfold En.next
    split
    · next h =>
      rw [List.getLast?_eq_none_iff.1 h, this]; simp
    · rw [Int.natCast_add, ← this]
theorem end_t (l : List Sp) : (endOf l).t = match (recsOf l).getLast? with | none => 0 | some a => a.t := by
  suffices h : ∀ k ≤ l.length, (endOf (l.take k)).t = match (recsOf (l.take k)).getLast? with | none => 0 | some a => a.t by
    have := h l.length (Nat.le_refl _)
    rwa [List.take_length] at this
  intro k
  induction k with
  | zero => intro _; rfl
  | succ k ih =>
    intro hk
    rw [end_next (by omega), recs_next (by omega)]
    have h2 := ih (by omega)
    unfold En.next
    split
    · next h =>
      rw [List.getLast?_eq_none_iff.1 h, List.append_nil]; exact h2
    · next a h =>
      rw [List.getLast?_append, h]; rfl
theorem end_b {l : List Sp} {k : Nat} (h : k < l.length) : (endOf (l.take (k + 1))).b = match l[k].rs.getLast? with | none => l[k].b | some a => a.o + 1 := by
  rw [end_next h]
  unfold En.next
  split <;> rfl
theorem seg_last {b : Int} {rs : List Rc} {a : Rc} (hs : segB b rs = true) (ha : rs.getLast? = some a) : b ≤ a.o ∧ 0 ≤ a.t ∧ a.t ≤ 1099511627776 ∧ a.o ≤ 1099511627775 := by
  have hmem := List.mem_of_getLast? ha
  obtain ⟨i, hi, rfl⟩ := List.mem_iff_getElem.1 hmem
  have h1 := (seg_doc.1 hs).2 i hi hi
  have h2 := (may_iff _).1 h1.1
  exact ⟨h1.2.1, h2.2.2.1, h2.2.2.2.1, h2.2.1⟩
theorem seg_first {b : Int} {rs : List Rc} {a : Rc} (hs : segB b rs = true) (ha : rs.head? = some a) : 0 ≤ a.t := by
  have hmem := List.mem_of_head? ha
  exact ((may_iff _).1 (seg_may hs a hmem)).2.2.1
theorem row_doc {l : List Sp} : rowB l = true ↔ (0 < l.length ∧ l.length ≤ 201 ∧ (recsOf l).length ≤ 200) ∧ ∀ i, i < l.length → docB l i := by
  rw [row_iff]
  constructor
  · rintro ⟨⟨h1, h2⟩, h3⟩
    have key : ∀ k ≤ l.length, (∀ a, (recsOf (l.take k)).getLast? = some a → a.o + 1 ≤ (endOf (l.take k)).b) ∧ (∀ h0 : 0 < k, (h : k - 1 < l.length) → l[k - 1].b ≤ (endOf (l.take k)).b) := by
      intro k
      induction k with
      | zero =>
        intro _
        exact ⟨fun a h => by simp [recsOf] at h, fun h => absurd h (by omega)⟩
      | succ k ih =>
        intro hk
        have hlt : k < l.length := by omega
        have hok := ok_iff.1 (h3 k hlt)
        have ⟨i1, i2⟩ := ih (by omega)
        rw [end_b hlt]
        constructor
        · intro a ha
          rw [recs_next hlt, List.getLast?_append] at ha
          cases hc : l[k].rs.getLast? with
          | none =>
            rw [hc] at ha
            have := i1 a (by simpa using ha)
            have := hok.2.1
            dsimp only
            omega
          | some c =>
            rw [hc] at ha
            simp at ha
            subst ha
            exact Int.le_refl _
        · intro _ h
          have e : k + 1 - 1 = k := by omega
          cases hc : l[k].rs.getLast? with
          | none => simp only [e]; exact Int.le_refl _
          | some c =>
            have := (seg_last hok.1 hc).1
            simp only [e]
            omega
    refine ⟨⟨h1, h2, ?_⟩, fun i hi h => ?_⟩
    · obtain ⟨n, hn⟩ : ∃ n, l.length = n + 1 := ⟨l.length - 1, by omega⟩
      have hok := (ok_iff.1 (h3 n (by omega))).2.2.1
      rw [end_r] at hok
      have h5 := recs_next (l := l) (k := n) (by omega)
      rw [← hn, List.take_length] at h5
      rw [h5, List.length_append]
      omega
    · have hok := ok_iff.1 (h3 i h)
      have ⟨i1, i2⟩ := key i (by omega)
      refine ⟨hok.1, fun h0 => Int.le_trans (i2 h0 (by omega)) hok.2.1, fun a ha => ⟨?_, ?_⟩⟩
      · have := i1 a ha
        have := hok.2.1
        omega
      · have := hok.2.2.2
        rw [end_t, ha] at this
        exact this
  · rintro ⟨⟨h1, h2, h3⟩, h4⟩
    refine ⟨⟨h1, h2⟩, fun i hi => ok_iff.2 ?_⟩
    have ⟨d1, d2, d3⟩ := h4 i hi hi
    have hb0 : 0 ≤ l[i].b := by
      have := seg_base d1
      unfold baseB at this
      exact (decide_eq_true_iff.1 this).1
    refine ⟨d1, ?_, ?_, ?_⟩
    · cases i with
      | zero => exact hb0
      | succ j =>
        rw [end_b (by omega)]
        cases hc : l[j].rs.getLast? with
        | none => exact d2 (by omega)
        | some c =>
          exact (d3 c (by rw [recs_next (by omega), List.getLast?_append, hc]; rfl)).1
    · rw [end_r]
      have h5 := recs_next hi
      have h6 := recs_take_le l (i + 1)
      rw [h5, List.length_append] at h6
      omega
    · rw [end_t]
      cases hc : (recsOf (l.take i)).getLast? with
      | none =>
        unfold firstB
        split
        · rfl
        · next f hf => exact decide_eq_true (seg_first d1 hf)
      | some a => exact (d3 a hc).2
theorem row_seg {l : List Sp} (h : rowB l = true) (i : Nat) (hi : i < l.length) : segB l[i].b l[i].rs = true := (ok_iff.1 ((row_iff.1 h).2 i hi)).1
theorem row_segs {l : List Sp} (h : rowB l = true) : ∀ s ∈ l, segB s.b s.rs = true := by
  intro s hs
  obtain ⟨i, hi, rfl⟩ := List.mem_iff_getElem.1 hs
  exact row_seg h i hi
/-- The last ones of a row are a row. -/
theorem row_drop {l : List Sp} (h : rowB l = true) {m : Nat} (hm : m < l.length) : rowB (l.drop m) = true := by
  rw [row_doc] at h ⊢
  obtain ⟨⟨h1, h2, h3⟩, h4⟩ := h
  have hr := recs_app (l.take m) (l.drop m)
  rw [List.take_append_drop] at hr
  refine ⟨⟨by rw [List.length_drop]; omega, by rw [List.length_drop]; omega, ?_⟩, fun i hi hi2 => ?_⟩
  · rw [hr, List.length_append] at h3; omega
  · rw [List.length_drop] at hi
    have ⟨d1, d2, d3⟩ := h4 (m + i) (by omega) (by omega)
    rw [List.getElem_drop]
    refine ⟨d1, fun h0 => ?_, fun a ha => d3 a ?_⟩
    · have := d2 (by omega)
      rw [List.getElem_drop]
      have e : m + (i - 1) = m + i - 1 := by omega
      simp only [e]
      exact this
    · rw [List.take_add, recs_app, List.getLast?_append, ha]; rfl

/-! ### how many go -/
def muchB (r : Ru) (z : Nat) : Bool := decide (0 ≤ r.by_) && decide (r.by_ < (z : Int))
def oldB (r : Ru) (now : Int) (rs : List Rc) : Bool := decide (0 ≤ r.ag) && (match rs.getLast? with
  | none => true
  | some a => decide (a.t + r.ag < now))
def closed (l : List Sp) : List Sp := l.take (l.length - 1)
theorem closed_len (l : List Sp) : (closed l).length = l.length - 1 := by unfold closed; rw [List.length_take]; omega
def goesB (r : Ru) (now : Int) (l : List Sp) (n : Nat) : Bool := muchB r (sizeL ((closed l).drop n)) || oldB r now (l.getD n spz).rs
/-- So many go. -/
structure OldIs (r : Ru) (now : Int) (l : List Sp) (m : Nat) : Prop where
  le : m ≤ l.length - 1
  yes : ∀ j, j < m → goesB r now l j = true
  no : m < l.length - 1 → goesB r now l m = false
theorem old_ex (r : Ru) (now : Int) (l : List Sp) : ∃ m, OldIs r now l m := by
  suffices h : ∀ d k, d + k = l.length - 1 → (∀ j, j < k → goesB r now l j = true) → ∃ m, OldIs r now l m by
    exact h (l.length - 1) 0 (by omega) (fun j hj => absurd hj (Nat.not_lt_zero _))
  intro d
  induction d with
  | zero => intro k hk hy; exact ⟨k, ⟨by omega, hy, fun h => absurd h (by omega)⟩⟩
  | succ d ih =>
    intro k hk hy
    cases hg : goesB r now l k with
    | false => exact ⟨k, ⟨by omega, hy, fun _ => hg⟩⟩
    | true =>
      refine ih (k + 1) (by omega) fun j hj => ?_
      by_cases c : j < k
      · exact hy j c
      · obtain rfl : j = k := by omega
        exact hg
theorem old_one {r : Ru} {now : Int} {l : List Sp} {m m' : Nat} (h : OldIs r now l m) (h' : OldIs r now l m') : m = m' := by
  rcases Nat.lt_trichotomy m m' with c | c | c
  · have a := h'.yes m c
    have b := h.no (by have := h'.le; omega)
    rw [a] at b; cases b
  · exact c
  · have a := h.yes m' c
    have b := h'.no (by have := h.le; omega)
    rw [a] at b; cases b
theorem closed_drop (l : List Sp) (m : Nat) : closed (l.drop m) = (closed l).drop m := by
  unfold closed
  rw [List.length_drop, List.drop_take]
  congr 1
  omega
/-- Done again nothing more goes. -/
theorem old_again {r : Ru} {now : Int} {l : List Sp} {m : Nat} (h : OldIs r now l m) : OldIs r now (l.drop m) 0 := by
  refine ⟨Nat.zero_le _, fun j hj => absurd hj (Nat.not_lt_zero _), fun hlt => ?_⟩
  rw [List.length_drop] at hlt
  have := h.no (by omega)
  unfold goesB at this ⊢
  rw [closed_drop, List.drop_drop, Nat.add_zero]
  rw [List.getD_eq_getElem?_getD, List.getElem?_drop, Nat.add_zero, ← List.getD_eq_getElem?_getD]
  exact this
/-- Later no fewer go. -/
theorem old_later {r : Ru} {now now' : Int} {l : List Sp} {m m' : Nat} (h : OldIs r now l m) (h' : OldIs r now' l m') (hn : now ≤ now') : m ≤ m' := by
  rcases Nat.lt_or_ge m' m with c | c
  · have a := h.yes m' c
    have b := h'.no (by have := h.le; omega)
    have : goesB r now' l m' = true := by
      unfold goesB at a ⊢
      rw [Bool.or_eq_true] at a ⊢
      rcases a with a | a
      · exact .inl a
      · refine .inr ?_
        unfold oldB at a ⊢
        rw [Bool.and_eq_true] at a ⊢
        refine ⟨a.1, ?_⟩
        have a2 := a.2
        split at a2
        · rfl
        · next x hx =>
          simp only [decide_eq_true_iff] at a2 ⊢
          omega
    rw [this] at b; cases b
  · exact c
/-- Without bounds none. -/
theorem old_free {r : Ru} {now : Int} {l : List Sp} (h1 : r.by_ = -1) (h2 : r.ag = -1) : OldIs r now l 0 := by
  refine ⟨Nat.zero_le _, fun j hj => absurd hj (Nat.not_lt_zero _), fun _ => ?_⟩
  unfold goesB muchB oldB
  rw [h1, h2]
  rfl
theorem size_le {l : List Sp} (h : ∀ s ∈ l, segB s.b s.rs = true) : sizeL l ≤ l.length * 420000 := by
  induction l with
  | nil => exact Nat.zero_le _
  | cons s l ih =>
    have h1 := h s List.mem_cons_self
    have h2 := ih fun x hx => h x (List.mem_cons_of_mem _ hx)
    have h3 := all_size (seg_may h1)
    have h4 := seg_len h1
    rw [sizeL, List.length_cons]
    omega
end Go.Proofs.Ytgadgmcabjnjjaa.Kpd
/- Lists of numbers in memory: what came in, what was made by the call itself. -/
namespace Go.Proofs.Ytgadgmcabjnjjaa
open Go.RowKit Go.Lib

/-- The slice at A holds the numbers xs of kind k, in a block below B. -/
def Nums (w : World) (B : Nat) (k : IntKind) (A : Option Addr) (xs : List Int) : Prop :=
  xs = [] ∨ ∃ a, A = some a ∧ a.block < B ∧ ∀ j, j < xs.length → w.cell? (a.add j) = some (.int k (xs.getD j 0))

theorem add_block (a : Addr) (n : Nat) : (a.add n).block = a.block := by unfold Addr.add; split <;> rfl

section
variable {w w' : World} {B B' : Nat} {k : IntKind} {A : Option Addr} {xs : List Int}
theorem Nums.none_ : Nums w B k A [] := .inl rfl
theorem Nums.some_ (h : Nums w B k A xs) (hx : 0 < xs.length) : ∃ a, A = some a ∧ a.block < B ∧ ∀ j, j < xs.length → w.cell? (a.add j) = some (.int k (xs.getD j 0)) := by
  rcases h with rfl | h
  · simp at hx
  · exact h
theorem Nums.keep (h : Nums w B k A xs) (hk : ∀ p : Addr, p.block < B → w'.cell? p = w.cell? p) : Nums w' B k A xs := by
  rcases h with h | ⟨a, h1, h2, h3⟩
  · exact .inl h
  · exact .inr ⟨a, h1, h2, fun j hj => by rw [hk _ (by rw [add_block]; exact h2)]; exact h3 j hj⟩
theorem Nums.mono (h : Nums w B k A xs) (hB : B ≤ B') : Nums w B' k A xs := by
  rcases h with h | ⟨a, h1, h2, h3⟩
  · exact .inl h
  · exact .inr ⟨a, h1, Nat.lt_of_lt_of_le h2 hB, h3⟩
theorem Nums.below (h : Nums w B k A xs) (hb : Below B w w') : Nums w' B k A xs := h.keep fun _ hp => hb.cell hp
theorem Nums.drewN (h : Nums w B k A xs) (n : Nat) : Nums (w.drewN n) B k A xs := h
theorem Nums.alloc (h : Nums w B k A xs) (hB : B ≤ w.heap.size) (o : Obj) : Nums (w.alloc o) B k A xs :=
  h.keep fun p hp => World.cell?_alloc_lt w o p (by omega)
theorem Nums.of_own {base : Nat} {e : TypeId} {c : Nat} (h : w.ownsRow base e 1 (.slice A xs.length c) xs.length (xs.map (Value.int k))) : Nums w w.heap.size k A xs := by
  rcases h.2 with ⟨hv, hn⟩ | ⟨g, cap, cur, hv, _, hg, hle, _, hsz, htk⟩
  · exact .inl (List.eq_nil_of_length_eq_zero hn)
  · injection hv with hA _ _
    subst hA
    refine .inr ⟨_, rfl, (Array.getElem?_eq_some_iff.1 hg).1, fun j hj => ?_⟩
    refine h.cells (g := g) rfl j _ ?_
    rw [List.getElem?_map, List.getElem?_eq_getElem hj, List.getD_eq_getElem?_getD, List.getElem?_eq_getElem hj]
    rfl
/-- What an owned row of numbers is as a value. -/
theorem own_form {base : Nat} {e : TypeId} {v : Value} (h : w.ownsRow base e 1 v xs.length (xs.map (Value.int k))) : ∃ A c, v = .slice A xs.length c := by
  rcases h.2 with ⟨hv, hn⟩ | ⟨g, cap, cur, hv, _⟩
  · exact ⟨none, 0, by rw [hv, hn]⟩
  · exact ⟨_, cap, hv⟩
end

/-- Draws turn nothing below. -/
theorem below_drewN {B : Nat} {a w : World} (h : Below B a w) (n : Nat) : Below B a (w.drewN n) := ⟨h.os, h.tape, h.output, h.size, h.block⟩

/-! ### memory of the call's own -/
/-- A new block, and then an append onto a row of the call's own: below B nothing has turned. -/
theorem below_alloc_grown {B e size n : Nat} {w w' : World} {v : Value} {xs : List Value} {o : Obj} (hB : B ≤ w.heap.size) (hown : w.ownsRow B e size v n xs) (hg : (w.alloc o).grownBy w' v.ownBlock) : Below B w w' := by
  refine ⟨hg.os, hg.tape, hg.output, ?_, fun k hk => ?_⟩
  · have := hg.size; simp at this; omega
  · rw [hg.block k (by simp; omega)]
    · exact Below.heap_alloc w o k (by omega)
    · intro hk2
      have := (hown.lt k hk2.symm).1
      omega
theorem own_snoc {w : World} {B e : Nat} {v : Value} {k : IntKind} {ys : List Int} {x : Int} (h : w.ownsRow B e 1 v (ys.length + 1) (ys.map (Value.int k) ++ [.int k x])) :
    w.ownsRow B e 1 v (ys ++ [x]).length ((ys ++ [x]).map (Value.int k)) := by simpa using h

/-- A slice that holds the numbers xs, in new memory. -/
def GivesNums (k : IntKind) (xs : List Int) (w : World) (e : Ending) (w' : World) : Prop := ∃ A c, e = .returned (.slice A xs.length c) ∧ Nums w' w'.heap.size k A xs ∧ Below w.heap.size w w'
theorem gives_of_own {w w' : World} {B e : Nat} {v : Value} {k : IntKind} {xs : List Int} (h : w'.ownsRow B e 1 v xs.length (xs.map (Value.int k))) (hb : Below w.heap.size w w') : GivesNums k xs w (.returned v) w' := by
  obtain ⟨A, c, rfl⟩ := own_form h
  exact ⟨A, c, rfl, Nums.of_own h, hb⟩

theorem add_new (g j : Nat) : (⟨g, 0, none⟩ : Addr).add j = ⟨g, j, none⟩ := by
  unfold Addr.add; split <;> simp_all
/-- A new block that begins with the numbers rs. -/
theorem new_cell (W : World) (cs : Array Value) (rs : List Int) {k : IntKind} {e : TypeId} (h : ∀ j, j < rs.length → cs[j]? = some (.int k (rs.getD j 0))) (j : Nat) (hj : j < rs.length) :
    (W.alloc (.cells cs e)).drew.cell? ((⟨W.heap.size, 0, none⟩ : Addr).add j) = some (.int k (rs.getD j 0)) := by
  rw [add_new]
  show (W.alloc (.cells cs e)).cell? ⟨W.heap.size, j, none⟩ = _
  rw [cell_of_row (W.alloc (.cells cs e)) W.heap.size j cs e (0, 0) (heap_alloc_new W _)]
  exact h j hj

/-- A literal slice of numbers. -/
theorem lit_nums (W : World) (cs : Array Value) (rs : List Int) (k : IntKind) (e : TypeId) (h : cs = (rs.map (Value.int k)).toArray) : Nums (W.alloc (.cells cs e)) (W.heap.size + 1) k (some ⟨W.heap.size, 0, none⟩) rs := by
  refine .inr ⟨_, rfl, by simp, fun j hj => ?_⟩
  refine new_cell W cs rs (fun j hj => ?_) j hj
  rw [h]
  simp [List.getElem?_eq_getElem hj]

theorem gives_lit (w : World) (cs : Array Value) (rs : List Int) (n : Nat) (k : IntKind) (e : TypeId) (h : cs = (rs.map (Value.int k)).toArray) (hn : n = rs.length) :
    GivesNums k rs w (.returned (.slice (some ⟨w.heap.size, 0, none⟩) n n)) (w.alloc (.cells cs e)) := by
  subst hn
  exact ⟨_, _, rfl, (lit_nums w cs rs k e h).mono (by simp), (Below.refl _ _).alloc (Nat.le_refl _) _⟩

theorem own_below {w w' : World} {B e size n : Nat} {v : Value} {xs : List Value} (h : w.ownsRow B e size v n xs) (hb : Below w.heap.size w w') : w'.ownsRow B e size v n xs :=
  h.kept (row := none) ⟨hb.os, hb.tape, hb.output, hb.size, fun k hk _ => hb.block k hk⟩ (Classical.em _)
theorem below_grown {B e size n : Nat} {w w' : World} {v : Value} {xs : List Value} (hB : B ≤ w.heap.size) (hown : w.ownsRow B e size v n xs) (hg : w.grownBy w' v.ownBlock) : Below B w w' := by
  refine ⟨hg.os, hg.tape, hg.output, hg.size, fun k hk => ?_⟩
  refine hg.block k (by omega) fun hk2 => ?_
  have := (hown.lt k hk2.symm).1
  omega

end Go.Proofs.Ytgadgmcabjnjjaa
/- Lists of texts in memory: what came in, what was made by the call itself. -/
namespace Go.Proofs.Ytgadgmcabjnjjaa
open Go.RowKit Go.Lib

/-- Bytes, as a text. -/
def str (x : List UInt8) : ByteArray := ⟨x.toArray⟩
theorem str_data (x : List UInt8) : (str x).data.toList = x := by simp [str]
theorem data_str (s : ByteArray) : str s.data.toList = s := by simp [str]
theorem str_size (x : List UInt8) : (str x).size = x.length := by rw [Lib.size_eq, str_data]
theorem str_inj {x y : List UInt8} (h : str x = str y) : x = y := by rw [← str_data x, h, str_data]
theorem str_toList (x : List UInt8) : (str x).toList = x := by rw [ByteArray.toList_eq, str_data]
theorem toList_data_eq (s : ByteArray) : s.toList = s.data.toList := ByteArray.toList_eq s
def strs (ls : List (List UInt8)) : List Value := ls.map fun x => Value.string (str x)
theorem strs_len (ls : List (List UInt8)) : (strs ls).length = ls.length := by simp [strs]
theorem strs_snoc (ls : List (List UInt8)) (x : List UInt8) : strs (ls ++ [x]) = strs ls ++ [.string (str x)] := by simp [strs]

/-- The slice at A holds the texts ls, in a block below B. -/
def Strs (w : World) (B : Nat) (A : Option Addr) (ls : List (List UInt8)) : Prop :=
  ls = [] ∨ ∃ a, A = some a ∧ a.block < B ∧ ∀ j, j < ls.length → w.cell? (a.add j) = some (.string (str (ls.getD j [])))
section
variable {w w' : World} {B B' : Nat} {A : Option Addr} {ls : List (List UInt8)}
theorem Strs.none_ : Strs w B A [] := .inl rfl
theorem Strs.some_ (h : Strs w B A ls) (hx : 0 < ls.length) : ∃ a, A = some a ∧ a.block < B ∧ ∀ j, j < ls.length → w.cell? (a.add j) = some (.string (str (ls.getD j []))) := by
  rcases h with rfl | h
  · simp at hx
  · exact h
theorem Strs.keep (h : Strs w B A ls) (hk : ∀ p : Addr, p.block < B → w'.cell? p = w.cell? p) : Strs w' B A ls := by
  rcases h with h | ⟨a, h1, h2, h3⟩
  · exact .inl h
  · exact .inr ⟨a, h1, h2, fun j hj => by rw [hk _ (by rw [add_block]; exact h2)]; exact h3 j hj⟩
theorem Strs.mono (h : Strs w B A ls) (hB : B ≤ B') : Strs w B' A ls := by
  rcases h with h | ⟨a, h1, h2, h3⟩
  · exact .inl h
  · exact .inr ⟨a, h1, Nat.lt_of_lt_of_le h2 hB, h3⟩
theorem Strs.below (h : Strs w B A ls) (hb : Below B w w') : Strs w' B A ls := h.keep fun _ hp => hb.cell hp
theorem Strs.on (h : Strs w w.heap.size A ls) (hb : Below w.heap.size w w') : Strs w' w'.heap.size A ls := (h.below hb).mono hb.size
theorem Strs.drewN (h : Strs w B A ls) (n : Nat) : Strs (w.drewN n) B A ls := h.keep fun _ _ => rfl
theorem Strs.alloc (h : Strs w B A ls) (hB : B ≤ w.heap.size) (o : Obj) : Strs (w.alloc o) B A ls := h.keep fun p hp => World.cell?_alloc_lt w o p (by omega)
theorem Strs.of_own {base e c : Nat} (h : w.ownsRow base e 1 (.slice A ls.length c) ls.length (strs ls)) : Strs w w.heap.size A ls := by
  rcases h.2 with ⟨hv, hn⟩ | ⟨g, cap, cur, hv, _, hg, hle, _, hsz, htk⟩
  · exact .inl (List.eq_nil_of_length_eq_zero hn)
  · injection hv with hA _ _
    subst hA
    refine .inr ⟨_, rfl, (Array.getElem?_eq_some_iff.1 hg).1, fun j hj => ?_⟩
    refine h.cells (g := g) rfl j _ ?_
    unfold strs
    rw [List.getElem?_map, List.getElem?_eq_getElem hj, List.getD_eq_getElem?_getD, List.getElem?_eq_getElem hj]
    rfl
theorem own_strs {base e : Nat} {v : Value} (h : w.ownsRow base e 1 v ls.length (strs ls)) : ∃ A c, v = .slice A ls.length c := by
  rcases h.2 with ⟨hv, hn⟩ | ⟨g, cap, cur, hv, _⟩
  · exact ⟨none, 0, by rw [hv, hn]⟩
  · exact ⟨_, cap, hv⟩
theorem own_str_snoc {base e : Nat} {v : Value} {x : List UInt8} (h : w.ownsRow base e 1 v (ls.length + 1) (strs ls ++ [.string (str x)])) : w.ownsRow base e 1 v (ls ++ [x]).length (strs (ls ++ [x])) := by
  rw [strs_snoc, List.length_append]; exact h
end
/-- A literal slice of texts. -/
theorem lit_strs (W : World) (cs : Array Value) (ls : List (List UInt8)) (e : TypeId) (h : cs = (strs ls).toArray) : Strs (W.alloc (.cells cs e)) (W.heap.size + 1) (some ⟨W.heap.size, 0, none⟩) ls := by
  refine .inr ⟨_, rfl, by simp, fun j hj => ?_⟩
  rw [add_new, cell_of_row (W.alloc (.cells cs e)) W.heap.size j cs e (0, 0) (heap_alloc_new W _), h]
  simp [strs, List.getElem?_eq_getElem hj]
/-- A slice that holds the texts ls, in new memory that the call owns. -/
def GivesStrs (ls : List (List UInt8)) (w : World) (e : Ending) (w' : World) : Prop :=
  ∃ A c, e = .returned (.slice A ls.length c) ∧ w'.ownsRow w.heap.size 9 1 (.slice A ls.length c) ls.length (strs ls) ∧ Below w.heap.size w w'
theorem gives_strs {w w' : World} {B : Nat} {v : Value} {ls : List (List UInt8)} (h : w'.ownsRow B 9 1 v ls.length (strs ls)) (hB : w.heap.size ≤ B) (hb : Below w.heap.size w w') : GivesStrs ls w (.returned v) w' := by
  obtain ⟨A, c, rfl⟩ := own_strs h
  refine ⟨A, c, rfl, ⟨h.1, ?_⟩, hb⟩
  rcases h.2 with h2 | ⟨g, cap, cur, h1, h2, h3⟩
  · exact .inl h2
  · exact .inr ⟨g, cap, cur, h1, Nat.le_trans hB h2, h3⟩
end Go.Proofs.Ytgadgmcabjnjjaa
/- A region that draws its order, whose operations read, and whose calls may make memory: walked once, in the order of the text, in whatever world of a class. No program. -/
namespace Go.Proofs.Ytgadgmcabjnjjaa
open Go.RowKit

/-- A world that meets S. -/
structure In (S : World → Prop) where
  w : World
  h : S w
/-- The class of the worlds that meet S. -/
def Cls (S : World → Prop) (w' : World) : Prop := ∃ u : In S, w' = u.w
theorem cls_of {S : World → Prop} {w : World} (h : S w) : ∃ u : In S, w = u.w := ⟨⟨w, h⟩, rfl⟩
/-- A call behind which S holds. -/
theorem in_call {P : Program} {f : FuncId} {args : Array Value} {S : World → Prop} {u : In S} {v : Value} (h : Calls P f args u.w fun e w' => e = .returned v ∧ S w') :
    Calls P f args u.w fun e w'' => e = .returned v ∧ ∃ u' : In S, w'' = u'.w := h.mono fun _ _ ⟨he, hs⟩ => ⟨he, cls_of hs⟩
theorem region_in {P : Program} {S : World → Prop} {id : Nat} {Q : Exit → Act → World → Prop} {a : Act} {w : World} {l : List Oper} (hm : P.follows .mixedOrders = true) (hB : Region.lexB .any l.toArray = true) (h0 : S (w.drewN 1))
    (h : wpQuiet P l.toArray (fun w' => ∃ u : In S, w' = u.w) (fun a' => ∀ w', (∃ u : In S, w' = u.w) → Q .normal a' w') l a) : (Code.region id l.toArray true).wp P Q a w :=
  wp_region_quiet (C := fun w' => ∃ u : In S, w' = u.w) hm hB ⟨⟨_, h0⟩, rfl⟩ (by simpa using h)
end Go.Proofs.Ytgadgmcabjnjjaa
/- Small words for what a call answers. No program. -/
namespace Go.Proofs.Ytgadgmcabjnjjaa
open Go.RowKit Go.Lib

theorem ret_bool {a b : Bool} (h : a = b) : Ending.returned (.bool a) = .returned (.bool b) := by rw [h]
theorem ret_int {k : IntKind} {a b : Int} (h : a = b) : Ending.returned (.int k a) = .returned (.int k b) := by rw [h]
theorem bool_dec {b : Bool} {p : Prop} [Decidable p] (h : b = true ↔ p) : b = decide p := by
  rw [Bool.eq_iff_iff, h]; simp
theorem dec_false {p : Prop} [Decidable p] (h : ¬ p) : false = decide p := (decide_eq_false h).symm
theorem dec_true {p : Prop} [Decidable p] (h : p) : true = decide p := (decide_eq_true h).symm
theorem dec_dec {p q : Prop} [Decidable p] [Decidable q] (h : q ↔ p) : decide q = decide p := decide_eq_decide.2 h

theorem cell_lt {w : World} {a : Addr} {v : Value} (h : w.cell? a = some v) : a.block < w.heap.size := by
  rcases Nat.lt_or_ge a.block w.heap.size with hlt | hge
  · exact hlt
  · unfold World.cell? at h
    rw [Array.getElem?_eq_none hge] at h
    cases h
end Go.Proofs.Ytgadgmcabjnjjaa
/- Records in memory; blocks of the call's own. -/
namespace Go.Proofs.Ytgadgmcabjnjjaa.Rcd
open Go.RowKit Go.Lib

/-- Block g holds just these cells, and may be written. -/
def Blk (w : World) (g : Nat) (cs : Array Value) : Prop := ∃ T, w.heap[g]? = some (.cells cs T (0, 0))
section
variable {w w' : World} {g : Nat} {cs : Array Value}
theorem Blk.new (w : World) (T : TypeId) (cs : Array Value) : Blk (w.alloc (.cells cs T)) w.heap.size cs := ⟨T, heap_alloc_new w _⟩
theorem Blk.lt (h : Blk w g cs) : g < w.heap.size := by
  obtain ⟨T, h⟩ := h
  exact (Array.getElem?_eq_some_iff.1 h).1
theorem Blk.cell (h : Blk w g cs) (i : Nat) : w.cell? ⟨g, i, none⟩ = cs[i]? := by
  obtain ⟨T, h⟩ := h
  exact cell_of_row w g i cs T (0, 0) h
theorem Blk.frozen (h : Blk w g cs) (i : Nat) : w.frozen? ⟨g, i, none⟩ = false := by
  obtain ⟨T, h⟩ := h
  simp [World.frozen?, h]
theorem Blk.below (h : Blk w g cs) (hb : Below w.heap.size w w') : Blk w' g cs := by
  have hl := h.lt
  obtain ⟨T, h⟩ := h
  exact ⟨T, (hb.block g hl).trans h⟩
theorem Blk.drewN (h : Blk w g cs) (n : Nat) : Blk (w.drewN n) g cs := h
theorem Blk.alloc (h : Blk w g cs) (o : Obj) : Blk (w.alloc o) g cs := h.below ((Below.refl _ _).alloc (Nat.le_refl _) o)
theorem Blk.put (h : Blk w g cs) (i : Nat) (v : Value) : Blk (w.setCell ⟨g, i, none⟩ v) g (cs.setIfInBounds i v) := by
  obtain ⟨T, h⟩ := h
  exact ⟨T, by simp [World.setCell, Array.getElem?_modify, h]⟩
end

/-- The cells of a record. -/
def rcells (r : Rc) : List Value := [.int .i64 r.o, .int .i64 r.t, .string (str r.k), .string (str r.b), .int .i64 r.q, .bool r.g]
/-- The same, of what each is. -/
def rarr (o t : Int) (k b : ByteArray) (q : Int) (g : Bool) : Array Value := #[.int .i64 o, .int .i64 t, .string k, .string b, .int .i64 q, .bool g]
def ragg (r : Rc) : Value := .agg (rarr r.o r.t (str r.k) (str r.b) r.q r.g)
theorem rcells_arr (r : Rc) : (rcells r).toArray = rarr r.o r.t (str r.k) (str r.b) r.q r.g := rfl
/-- One record in memory. -/
structure RAt (w : World) (b o : Nat) (s : Rc) : Prop where
  c0 : w.cell? ⟨b, o, none⟩ = some (.int .i64 s.o)
  c1 : w.cell? ⟨b, o + 1, none⟩ = some (.int .i64 s.t)
  c2 : w.cell? ⟨b, o + 2, none⟩ = some (.string (str s.k))
  c3 : w.cell? ⟨b, o + 3, none⟩ = some (.string (str s.b))
  c4 : w.cell? ⟨b, o + 4, none⟩ = some (.int .i64 s.q)
  c5 : w.cell? ⟨b, o + 5, none⟩ = some (.bool s.g)
/-- The slice at A holds the records l, in a block below B. -/
def RecsAt (w : World) (B : Nat) (A : Option Addr) (l : List Rc) : Prop :=
  l = [] ∨ ∃ b o, A = some ⟨b, o, none⟩ ∧ b < B ∧ ∀ j (h : j < l.length), RAt w b (o + j * 6) l[j]
section
variable {w w' : World} {B B' : Nat} {A : Option Addr} {l : List Rc}
theorem RAt.keep {b o : Nat} {s : Rc} (h : RAt w b o s) (hk : ∀ i, w'.cell? ⟨b, i, none⟩ = w.cell? ⟨b, i, none⟩) : RAt w' b o s :=
  ⟨(hk _).trans h.c0, (hk _).trans h.c1, (hk _).trans h.c2, (hk _).trans h.c3, (hk _).trans h.c4, (hk _).trans h.c5⟩
theorem RecsAt.none_ : RecsAt w B A [] := .inl rfl
theorem RecsAt.some_ (h : RecsAt w B A l) (hl : 0 < l.length) : ∃ b o, A = some ⟨b, o, none⟩ ∧ b < B ∧ ∀ j (h : j < l.length), RAt w b (o + j * 6) l[j] := by
  rcases h with rfl | h
  · simp at hl
  · exact h
theorem RecsAt.keep (h : RecsAt w B A l) (hk : ∀ p : Addr, p.block < B → w'.cell? p = w.cell? p) : RecsAt w' B A l := by
  rcases h with h | ⟨b, o, h1, h2, h3⟩
  · exact .inl h
  · exact .inr ⟨b, o, h1, h2, fun j hj => (h3 j hj).keep fun i => hk ⟨b, i, none⟩ h2⟩
theorem RecsAt.mono (h : RecsAt w B A l) (hB : B ≤ B') : RecsAt w B' A l := by
  rcases h with h | ⟨b, o, h1, h2, h3⟩
  · exact .inl h
  · exact .inr ⟨b, o, h1, Nat.lt_of_lt_of_le h2 hB, h3⟩
theorem RecsAt.below (h : RecsAt w B A l) (hb : Below B w w') : RecsAt w' B A l := h.keep fun _ hp => hb.cell hp
theorem RecsAt.on (h : RecsAt w w.heap.size A l) (hb : Below w.heap.size w w') : RecsAt w' w'.heap.size A l := (h.below hb).mono hb.size
theorem RecsAt.drewN (h : RecsAt w B A l) (n : Nat) : RecsAt (w.drewN n) B A l := h.keep fun _ _ => rfl
theorem RecsAt.alloc (h : RecsAt w B A l) (hB : B ≤ w.heap.size) (o : Obj) : RecsAt (w.alloc o) B A l := h.keep fun p hp => World.cell?_alloc_lt w o p (by omega)
end
def flat (l : List Rc) : List Value := l.flatMap rcells
theorem flat_cons (s : Rc) (l : List Rc) : flat (s :: l) = rcells s ++ flat l := by unfold flat; rw [List.flatMap_cons]
theorem flat_len (l : List Rc) : (flat l).length = l.length * 6 := by
  induction l with
  | nil => rfl
  | cons p t ih => rw [flat_cons, List.length_append, ih]; show 6 + _ = (t.length + 1) * 6; omega
theorem flat_snoc (l : List Rc) (p : Rc) : flat (l ++ [p]) = flat l ++ rcells p := by unfold flat; rw [List.flatMap_append]; simp
theorem flat_app (l m : List Rc) : flat (l ++ m) = flat l ++ flat m := by unfold flat; rw [List.flatMap_append]
theorem flat_at (l : List Rc) (j i : Nat) (hj : j < l.length) (hi : i < 6) : (flat l)[j * 6 + i]? = (rcells l[j])[i]? := by
  induction l generalizing j with
  | nil => simp at hj
  | cons p t ih =>
    rw [flat_cons]
    cases j with
    | zero =>
      rw [List.getElem?_append_left (by show _ < 6; omega)]
      simp
    | succ m =>
      rw [List.getElem?_append_right (by show 6 ≤ _; omega)]
      have : (m + 1) * 6 + i - (rcells p).length = m * 6 + i := by show _ - 6 = _; omega
      rw [this]
      exact ih m (by simpa using hj)
theorem one_cells (p : Rc) : ∀ u ∈ rcells p, u.oneCell' = true := by
  have h : (rcells p).all (fun u => u.oneCell') = true := rfl
  exact List.all_eq_true.1 h
theorem flat_one : ∀ (l : List Rc), ∀ u ∈ flat l, u.oneCell' = true
  | [], u, h => by simp [flat] at h
  | s :: l, u, h => by
    rw [flat_cons] at h
    rcases List.mem_append.1 h with h | h
    · exact one_cells s u h
    · exact flat_one l u h
/-- Cells that hold the records, one behind the other. -/
theorem RecsAt.of_cells {w : World} {B g : Nat} {l : List Rc} (hg : g < B) (key : ∀ j u, (flat l)[j]? = some u → w.cell? ⟨g, j, none⟩ = some u) : RecsAt w B (some ⟨g, 0, none⟩) l := by
  refine .inr ⟨g, 0, rfl, hg, fun j hj => ?_⟩
  have hz : ∀ i u, i < 6 → (rcells l[j])[i]? = some u → w.cell? ⟨g, 0 + j * 6 + i, none⟩ = some u := fun i u hi hu => by
    rw [Nat.zero_add]
    exact key (j * 6 + i) u (by rw [flat_at l j i hj hi]; exact hu)
  exact ⟨hz 0 _ (by omega) rfl, hz 1 _ (by omega) rfl, hz 2 _ (by omega) rfl, hz 3 _ (by omega) rfl, hz 4 _ (by omega) rfl, hz 5 _ (by omega) rfl⟩
/-- A row of records of the call's own. -/
theorem RecsAt.of_own {w : World} {base e c : Nat} {A : Option Addr} {l : List Rc} (h : w.ownsRow base e 6 (.slice A l.length c) l.length (flat l)) : RecsAt w w.heap.size A l := by
  rcases h.2 with ⟨hv, hn⟩ | ⟨g, cap, cur, hv, _, hg, hle, _, hsz, htk⟩
  · exact .inl (List.eq_nil_of_length_eq_zero hn)
  · injection hv with hA _ _
    subst hA
    have key := h.cells (g := g) rfl
    refine .of_cells (Array.getElem?_eq_some_iff.1 hg).1 fun j u hu => ?_
    have := key j u hu
    rwa [add_new] at this
theorem own_slice {w : World} {base e : Nat} {v : Value} {l : List Rc} (h : w.ownsRow base e 6 v l.length (flat l)) : ∃ A c, v = .slice A l.length c := by
  rcases h.2 with ⟨hv, hn⟩ | ⟨g, cap, cur, hv, _⟩
  · exact ⟨none, 0, by rw [hv, hn]⟩
  · exact ⟨_, cap, hv⟩
theorem own_cap {w : World} {B e c : Nat} {A : Option Addr} {l : List Rc} (h : w.ownsRow B e 6 (.slice A l.length c) l.length (flat l)) : l.length ≤ c := by
  rcases h.2 with ⟨hv, hn⟩ | ⟨g, cap, cur, hv, _, _, hle, _⟩
  · omega
  · injection hv with _ _ hc
    omega
theorem cells_new (w : World) (T : TypeId) (cs : List Value) (j : Nat) (u : Value) (h : cs[j]? = some u) : (w.alloc (.cells cs.toArray T)).cell? ((⟨w.heap.size, 0, none⟩ : Addr).add j) = some u := by
  rw [add_new, cell_of_row (w.alloc _) w.heap.size j _ _ (0, 0) (heap_alloc_new w _)]
  simpa using h
/-- Records in a row of the call's own. -/
def GivesRecs (l : List Rc) (w : World) (e : Ending) (w' : World) : Prop := ∃ A c, e = .returned (.slice A l.length c) ∧ w'.ownsRow w.heap.size 51 6 (.slice A l.length c) l.length (flat l) ∧ Below w.heap.size w w'
/-- The first few. -/
theorem RecsAt.take {w : World} {B : Nat} {A : Option Addr} {l : List Rc} (h : RecsAt w B A l) (k : Nat) : RecsAt w B A (l.take k) := by
  rcases h with rfl | ⟨b, o, h1, h2, h3⟩
  · exact .inl (by simp)
  · refine .inr ⟨b, o, h1, h2, fun j hj => ?_⟩
    have hl : j < l.length := by rw [List.length_take] at hj; omega
    rw [List.getElem_take]
    exact h3 j hl
end Go.Proofs.Ytgadgmcabjnjjaa.Rcd
/- A variable read whole: one operation of a quiet walk, by the law of its reading. No program. -/
namespace Go.Proofs.Ytgadgmcabjnjjaa
open Go.RowKit

theorem quiet_load {P : Program} {o : Oper} {a : Act} {C : World → Prop} {K : Act → Prop} (ty : TypeId) (x : Operand) (ho : o.op = .load ty x) (b off : Nat) (hx : a.eval x = .pointer (some ⟨b, off, none⟩)) (V : Value)
    (hv : ∀ w, C w → (loadVar ty ⟨b, off, none⟩).run P w = .ok V w) (h : K (a.put o.dst V)) : o.quiet P a C K := by
  refine ⟨V, fun w hw => ?_, h⟩
  unfold Oper.quietAt execOp
  simp only [ho, hx, Instr.loadAt, Instr.sureAddr, Sem.run_bind, Sem.run_pure, Result.andThen_ok, hv w hw]
  exact ⟨rfl, rfl⟩
theorem quiet_load_in {P : Program} {o : Oper} {a : Act} {S : World → Prop} {K : Act → Prop} (ty : TypeId) (x : Operand) (ho : o.op = .load ty x) (b off : Nat) (hx : a.eval x = .pointer (some ⟨b, off, none⟩)) (V : Value)
    (hv : ∀ u : In S, (loadVar ty ⟨b, off, none⟩).run P u.w = .ok V u.w) (h : K (a.put o.dst V)) : o.quiet P a (fun w' => ∃ u : In S, w' = u.w) K :=
  quiet_load ty x ho b off hx V (fun w ⟨u, hu⟩ => by rw [hu]; exact hv u) h
theorem wp_load_one {P : Program} {op : Oper} {a : Act} {w : World} {K : Act → World → Prop} {Q : Exit → Act → World → Prop} (ty : TypeId) (x : Operand) (ho : op.op = .load ty x) (b off : Nat) (hx : a.eval x = .pointer (some ⟨b, off, none⟩)) (V : Value)
    (hv : (loadVar ty ⟨b, off, none⟩).run P w = .ok V w) (h : K (a.put op.dst V) w) : op.wp P a w K Q := by
  unfold Oper.wp execOp
  simp only [ho, hx, Instr.loadAt, Instr.sureAddr, Sem.run_bind, Sem.run_pure, Result.andThen_ok, hv]
  exact h
theorem wpList_load_one {P : Program} {ops : Array Oper} {rest : List Oper} {op : Oper} {a : Act} {w : World} {Q : Exit → Act → World → Prop} (hgd : op.guard = none) (ty : TypeId) (x : Operand) (ho : op.op = .load ty x) (b off : Nat)
    (hx : a.eval x = .pointer (some ⟨b, off, none⟩)) (V : Value) (hv : (loadVar ty ⟨b, off, none⟩).run P w = .ok V w) (h : wpList P ops Q rest (a.put op.dst V) w) : wpList P ops Q (op :: rest) a w :=
  wpList_plain hgd fun _ hK => wp_load_one ty x ho b off hx V hv (hK _ _ h)
end Go.Proofs.Ytgadgmcabjnjjaa
/- A record read, written, handed back whole. -/
namespace Go.Proofs.Ytgadgmcabjnjjaa.Rcd
open Go.RowKit Go.Lib

theorem info_rec : (Try.prog.info? 51).map (·.size) = some 6 := by kernel_rfl
theorem info_more : (Try.prog.info? 51).map (fun i => (i.zero, i.size, i.bytes)) = some (some (.agg #[.int .i64 0, .int .i64 0, .string ⟨#[]⟩, .string ⟨#[]⟩, .int .i64 0, .bool false]), 6, 64) := by kernel_rfl
def zcells : Array Value := #[.int .i64 0, .int .i64 0, .string ⟨#[]⟩, .string ⟨#[]⟩, .int .i64 0, .bool false]
section
variable {W : World} {g : Nat} {cs : Array Value}
theorem load_blk (h : Blk W g cs) (h9 : cs.size = 6) : (loadVar 51 ⟨g, 0, none⟩).run Try.prog W = .ok (.agg cs) W :=
  run_loadVar_mid W g 0 51 cs.toList _ (fun j v hv => by rw [Nat.zero_add, h.cell j]; rw [← hv]; simp) Try.underlying51 rfl (by rw [info_rec]; simp [h9])
theorem load_at {o : Nat} {s : Rc} (h : RAt W g o s) : (loadVar 51 ⟨g, o, none⟩).run Try.prog W = .ok (ragg s) W :=
  run_loadVar_mid W g o 51 (rcells s) _ (fun j v hv => by
    match j, hv with
    | 0, hv => rw [← hv]; exact h.c0
    | 1, hv => rw [← hv]; exact h.c1
    | 2, hv => rw [← hv]; exact h.c2
    | 3, hv => rw [← hv]; exact h.c3
    | 4, hv => rw [← hv]; exact h.c4
    | 5, hv => rw [← hv]; exact h.c5) Try.underlying51 rfl info_rec
theorem one_arr (o t : Int) (k b : ByteArray) (q : Int) (g : Bool) : (rarr o t k b q g).all (·.oneCell') = true := by simp [rarr, Value.oneCell']
theorem one_zero : zcells.all (·.oneCell') = true := by simp [zcells, Value.oneCell']
theorem one_sub (s : Rc) : (rcells s).toArray.all (·.oneCell') = true := by
  rw [Array.all_eq_true']
  exact fun u hu => one_cells s u (by simpa using hu)
end
section
variable {P : Program} {ops : Array Oper} {rest : List Oper} {op : Oper} {a : Act} {w : World} {K : Act → World → Prop} {Q : Exit → Act → World → Prop}
/-- A wanted load. -/
theorem wpList_load_any (hw : Region.wanted op (yielded ops a.tmps) = true) (ty : TypeId) (x : Operand) (ho : op.op = .load ty x) (b off : Nat)
    (hx : a.eval x = .pointer (some ⟨b, off, none⟩)) (V : Value) (hv : (loadVar ty ⟨b, off, none⟩).run P w = .ok V w) (h : wpList P ops Q rest (a.put op.dst V) w) : wpList P ops Q (op :: rest) a w := by
  simp only [wpList]
  rw [if_pos hw]
  exact .inl (wp_load_one ty x ho b off hx V hv h)
/-- A store of a whole row. -/
theorem wpList_store_whole (hgd : op.guard = none) (ty : TypeId) (x y : Operand) (ho : op.op = .store ty x y) (g : Nat) (cells : Array Value) (hx : a.eval x = .pointer (some ⟨g, 0, none⟩)) (hy : a.eval y = .agg cells)
    (old : Array Value) (hg : Blk w g old) (hi : (P.info? ty).map (·.size) = some cells.size) (hold : old.size = cells.size) (h1 : cells.all (·.oneCell') = true)
    (h : wpList P ops Q rest (a.put op.dst undef) (w.setRow g cells)) : wpList P ops Q (op :: rest) a w := by
  obtain ⟨T, hg⟩ := hg
  exact wpList_plain hgd fun _ hK => wp_store_row ty x y ho g cells hx hy T old hg hi hold h1 (hK _ _ h)
end
section
variable {w W : World} {g : Nat} {cs : Array Value}
theorem Blk.row (h : Blk w g cs) (ds : Array Value) : Blk (w.setRow g ds) g ds := by
  obtain ⟨T, h⟩ := h
  exact ⟨T, setRow_heap w g cs ds T _ h⟩
theorem below_row (hb : Below w.heap.size w W) (hg : w.heap.size ≤ g) (ds : Array Value) : Below w.heap.size w (W.setRow g ds) :=
  ⟨hb.os, hb.tape, hb.output, by have := hb.size; simpa using this, fun k hk => by rw [setRow_other W g k ds (by omega)]; exact hb.block k hk⟩
theorem Blk.far {p : Addr} (k : Blk W g cs) (hp : g ≠ p.block) (v : Value) : Blk (W.setCell p v) g cs := by
  obtain ⟨T, h⟩ := k
  exact ⟨T, (Below.heap_setCell W p v g hp).trans h⟩
theorem RecsAt.row {B : Nat} {A : Option Addr} {l : List Rc} (h : RecsAt W B A l) (hg : B ≤ g) (ds : Array Value) : RecsAt (W.setRow g ds) B A l :=
  h.keep fun p hp => World.cell?_of_block (setRow_other W g p.block ds (by omega))
end
/-- A record handed back. -/
theorem results_rec {fn : Func} {tmps : Array Value} {w : World} {c g : Nat} {cs : Array Value} (hr : fn.results = #[.cell c 51]) (h0 : tmps.getD c undef = .pointer (some ⟨g, 0, none⟩)) (hb : Blk w g cs) (h9 : cs.size = 6) :
    (results fn tmps).run Try.prog w = .ok (.agg cs) w := by
  unfold results
  rw [hr]
  simp only [List.mapM_toArray, List.mapM_cons, List.mapM_nil, h0, asAddr, Sem.run_bind, Sem.run_pure, Result.andThen_ok, bind_assoc, pure_bind, map_bind, map_pure, load_blk hb h9]
  rfl
theorem results_rec2 {fn : Func} {tmps : Array Value} {w : World} {c i g : Nat} {cs : Array Value} {u : Value} (hr : fn.results = #[.cell c 51, .tmp i]) (h0 : tmps.getD c undef = .pointer (some ⟨g, 0, none⟩)) (hb : Blk w g cs) (h9 : cs.size = 6) (h1 : tmps.getD i undef = u) :
    (results fn tmps).run Try.prog w = .ok (.tuple #[.agg cs, u]) w := by
  unfold results
  rw [hr]
  simp only [List.mapM_toArray, List.mapM_cons, List.mapM_nil, h0, h1, asAddr, Sem.run_bind, Sem.run_pure, Result.andThen_ok, bind_assoc, pure_bind, map_bind, map_pure, load_blk hb h9]
  rfl
theorem results_rec3 {fn : Func} {tmps : Array Value} {w : World} {c i j g : Nat} {cs : Array Value} {u v : Value} (hr : fn.results = #[.cell c 51, .tmp i, .tmp j]) (h0 : tmps.getD c undef = .pointer (some ⟨g, 0, none⟩)) (hb : Blk w g cs) (h9 : cs.size = 6) (h1 : tmps.getD i undef = u) (h2 : tmps.getD j undef = v) :
    (results fn tmps).run Try.prog w = .ok (.tuple #[.agg cs, u, v]) w := by
  unfold results
  rw [hr]
  simp only [List.mapM_toArray, List.mapM_cons, List.mapM_nil, h0, h1, h2, asAddr, Sem.run_bind, Sem.run_pure, Result.andThen_ok, bind_assoc, pure_bind, map_bind, map_pure, load_blk hb h9]
  rfl
end Go.Proofs.Ytgadgmcabjnjjaa.Rcd
