/- Texts of the proof, part 2: SgPlain, KpPlain, FdRow, FdLast. -/
import Derived.Test.YthdefnfpjbpbkaaX01
/- Segments, plainly: which may be; what is parsed; the first record that is far enough. No run of a program is in this file. -/
namespace Go.Proofs.Ythdefnfpjbpbkaa.Rcd
open Go.Lib Vbi Crc

/-- May r stand behind a? -/
def pairB (a r : Rc) : Bool := decide (a.o < r.o ∧ a.t ≤ r.t)
/-- May r stand where the records rs of a segment from b on are ahead of it? -/
def nextB (b : Int) (rs : List Rc) (r : Rc) : Bool := match rs.getLast? with
  | none => decide (b ≤ r.o)
  | some a => pairB a r
/-- The same, of a record that may be, where there is room. -/
def followB (b : Int) (rs : List Rc) (r : Rc) : Bool := decide (rs.length < 200) && (mayB r && nextB b rs r)
def baseB (b : Int) : Bool := decide (0 ≤ b ∧ b ≤ 1099511627776)
/-- A segment that may be. -/
def segB (b : Int) (rs : List Rc) : Bool := baseB b && (List.range rs.length).all (fun i => followB b (rs.take i) (rs.getD i zero))
theorem follow_iff {b : Int} {rs : List Rc} {r : Rc} : followB b rs r = true ↔ rs.length < 200 ∧ mayB r = true ∧ nextB b rs r = true := by
  unfold followB
  rw [Bool.and_eq_true, Bool.and_eq_true, decide_eq_true_iff]
theorem pair_iff {a r : Rc} : pairB a r = true ↔ a.o < r.o ∧ a.t ≤ r.t := decide_eq_true_iff
theorem next_nil (b : Int) (r : Rc) : nextB b [] r = decide (b ≤ r.o) := rfl
theorem next_last {b : Int} {rs : List Rc} {a r : Rc} (h : rs.getLast? = some a) : nextB b rs r = pairB a r := by unfold nextB; rw [h]
theorem last_take {rs : List Rc} {i : Nat} (h : i < rs.length) : (rs.take (i + 1)).getLast? = some rs[i] := by
  rw [List.take_succ_eq_append_getElem h, List.getLast?_append]; rfl
theorem last_all {rs : List Rc} {n : Nat} (h : n + 1 = rs.length) : rs.getLast? = some (rs[n]'(by omega)) := by
  have := last_take (rs := rs) (i := n) (by omega)
  rwa [List.take_of_length_le (by omega)] at this
theorem seg_iff {b : Int} {rs : List Rc} : segB b rs = true ↔ baseB b = true ∧ ∀ i (h : i < rs.length), followB b (rs.take i) rs[i] = true := by
  unfold segB
  rw [Bool.and_eq_true, List.all_eq_true]
  refine and_congr Iff.rfl ⟨fun h i hi => ?_, fun h i hi => ?_⟩
  · have := h i (List.mem_range.2 hi)
    rwa [List.getD_eq_getElem?_getD, List.getElem?_eq_getElem hi, Option.getD_some] at this
  · have hi' := List.mem_range.1 hi
    rw [List.getD_eq_getElem?_getD, List.getElem?_eq_getElem hi', Option.getD_some]
    exact h i hi'
theorem seg_base {b : Int} {rs : List Rc} (h : segB b rs = true) : baseB b = true := (seg_iff.1 h).1
theorem seg_nil (b : Int) : segB b [] = baseB b := by unfold segB; simp
theorem seg_take {b : Int} {rs : List Rc} (h : segB b rs = true) (k : Nat) : segB b (rs.take k) = true := by
  rw [seg_iff] at h ⊢
  refine ⟨h.1, fun i hi => ?_⟩
  have hi2 := hi
  rw [List.length_take] at hi2
  have := h.2 i (by omega)
  rw [List.getElem_take, List.take_take, Nat.min_eq_left (by omega)]
  exact this
theorem seg_snoc (b : Int) (rs : List Rc) (r : Rc) : segB b (rs ++ [r]) = (segB b rs && followB b rs r) := by
  rw [Bool.eq_iff_iff, Bool.and_eq_true, seg_iff, seg_iff]
  constructor
  · rintro ⟨h1, h2⟩
    refine ⟨⟨h1, fun i hi => ?_⟩, ?_⟩
    · have := h2 i (by rw [List.length_append]; omega)
      rwa [List.getElem_append_left hi, List.take_append_of_le_length (by omega)] at this
    · have := h2 rs.length (by rw [List.length_append]; simp)
      rw [List.getElem_append_right (Nat.le_refl _), List.take_append_of_le_length (Nat.le_refl _), List.take_length] at this
      simpa using this
  · rintro ⟨⟨h1, h2⟩, h3⟩
    refine ⟨h1, fun i hi => ?_⟩
    rw [List.length_append, List.length_cons, List.length_nil] at hi
    by_cases c : i < rs.length
    · rw [List.getElem_append_left c, List.take_append_of_le_length (by omega)]
      exact h2 i c
    · obtain rfl : i = rs.length := by omega
      rw [List.getElem_append_right (Nat.le_refl _), List.take_append_of_le_length (Nat.le_refl _), List.take_length]
      simpa using h3
theorem seg_may {b : Int} {rs : List Rc} (h : segB b rs = true) : ∀ r ∈ rs, mayB r = true := by
  intro r hr
  obtain ⟨i, hi, rfl⟩ := List.mem_iff_getElem.1 hr
  exact (follow_iff.1 ((seg_iff.1 h).2 i hi)).2.1
theorem seg_len {b : Int} {rs : List Rc} (h : segB b rs = true) : rs.length ≤ 200 := by
  rcases Nat.lt_or_ge 200 rs.length with c | c
  · have := (follow_iff.1 ((seg_iff.1 h).2 200 c)).1
    rw [List.length_take] at this
    omega
  · exact c
/-- What the document asks of the record at i. -/
def docAt (b : Int) (rs : List Rc) (i : Nat) : Prop := ∀ h : i < rs.length, mayB rs[i] = true ∧ b ≤ rs[i].o ∧ (0 < i → pairB (rs[i - 1]'(by omega)) rs[i] = true)
theorem next_at {b : Int} {rs : List Rc} {i : Nat} (h : i < rs.length) : nextB b (rs.take i) rs[i] = if _h0 : 0 < i then pairB (rs[i - 1]'(by omega)) rs[i] else decide (b ≤ rs[i].o) := by
  cases i with
  | zero => rfl
  | succ j => rw [next_last (last_take (by omega))]; rfl
theorem seg_doc {b : Int} {rs : List Rc} : segB b rs = true ↔ (baseB b = true ∧ rs.length ≤ 200) ∧ ∀ i, i < rs.length → docAt b rs i := by
  constructor
  · intro hs
    refine ⟨⟨seg_base hs, seg_len hs⟩, fun i _ => ?_⟩
    have hf := (seg_iff.1 hs).2
    have key : ∀ j (h : j < rs.length), b ≤ rs[j].o := by
      intro j
      induction j with
      | zero =>
        intro h
        have := (follow_iff.1 (hf 0 h)).2.2
        rw [next_at h, dif_neg (by omega), decide_eq_true_iff] at this
        exact this
      | succ j ih =>
        intro h
        have := (follow_iff.1 (hf (j + 1) h)).2.2
        rw [next_at h, dif_pos (by omega), pair_iff] at this
        have h2 := ih (by omega)
        have h3 := this.1
        simp only [Nat.add_sub_cancel] at h3
        omega
    intro h
    have h1 := follow_iff.1 (hf i h)
    refine ⟨h1.2.1, key i h, fun h0 => ?_⟩
    have := h1.2.2
    rwa [next_at h, dif_pos h0] at this
  · rintro ⟨⟨h1, h2⟩, h3⟩
    rw [seg_iff]
    refine ⟨h1, fun i hi => follow_iff.2 ⟨?_, ?_, ?_⟩⟩
    · rw [List.length_take]; omega
    · exact (h3 i hi hi).1
    · rw [next_at hi]
      by_cases h0 : 0 < i
      · rw [dif_pos h0]; exact (h3 i hi hi).2.2 h0
      · rw [dif_neg h0]; exact decide_eq_true (h3 i hi hi).2.1

/-! ### what is parsed -/
/-- The records that may stand behind rs, out of those of L, up to the first one that may not. -/
def goP (b : Int) : List Rc → List Rc → List Rc
  | rs, [] => rs
  | rs, r :: L => if followB b rs r then goP b (rs ++ [r]) L else rs
def parseS (b : Int) (l : List UInt8) : List Rc := goP b [] (scan l).1
theorem goP_nil (b : Int) (rs : List Rc) : goP b rs [] = rs := rfl
theorem goP_yes {b : Int} {rs L : List Rc} {r : Rc} (h : followB b rs r = true) : goP b rs (r :: L) = goP b (rs ++ [r]) L := by rw [goP, if_pos h]
theorem goP_no {b : Int} {rs L : List Rc} {r : Rc} (h : followB b rs r = false) : goP b rs (r :: L) = rs := by rw [goP, if_neg (by rw [h]; decide)]
theorem goP_all {b : Int} (L : List Rc) : ∀ rs, segB b (rs ++ L) = true → goP b rs L = rs ++ L := by
  induction L with
  | nil => intro rs _; rw [goP_nil, List.append_nil]
  | cons r L ih =>
    intro rs h
    have h2 : segB b (rs ++ [r]) = true := by
      have := seg_take h (rs.length + 1)
      rwa [List.take_append, List.take_of_length_le (by omega), show rs.length + 1 - rs.length = 1 by omega, List.take_succ_cons, List.take_zero] at this
    rw [seg_snoc, Bool.and_eq_true] at h2
    rw [goP_yes h2.2, ih (rs ++ [r]) (by rw [List.append_assoc]; exact h), List.append_assoc]
    rfl
theorem goP_seg {b : Int} (L : List Rc) : ∀ rs, segB b rs = true → segB b (goP b rs L) = true := by
  induction L with
  | nil => intro rs h; exact h
  | cons r L ih =>
    intro rs h
    by_cases c : followB b rs r = true
    · rw [goP_yes c]; exact ih _ (by rw [seg_snoc, h, c]; rfl)
    · rw [goP_no (by simpa using c)]; exact h
theorem parse_seg {b : Int} (l : List UInt8) (h : baseB b = true) : segB b (parseS b l) = true := goP_seg _ _ (by rw [seg_nil]; exact h)
/-- A record has just the bytes that are taken. -/
theorem parse_len {B : List UInt8} (h : (parse B).2 = 0) : B.length = 19 + (parse B).1.k.length + (parse B).1.b.length := by
  unfold parse p0 at h ⊢
  by_cases c1 : B.length < 8
  · rw [if_pos c1] at h; cases h
  · rw [if_neg c1] at h ⊢
    unfold p1 at h ⊢
    by_cases c2 : (B.drop 8).length < 8
    · rw [if_pos c2] at h; cases h
    · rw [if_neg c2] at h ⊢
      rw [List.length_drop] at c2
      rcases hd : (B.drop 8).drop 8 with _ | ⟨f, t⟩
      · rw [hd] at h; cases h
      · have hl := congrArg List.length hd
        rw [List.length_drop, List.length_drop, List.length_cons] at hl
        rw [hd] at h
        rw [p2_cons] at h ⊢
        unfold p3 at h ⊢
        by_cases c3 : t.length < 2
        · rw [if_pos c3] at h; cases h
        · rw [if_neg c3] at h ⊢
          by_cases c4 : 1024 < fixVal (t.take 2)
          · rw [if_pos c4] at h; cases h
          · rw [if_neg c4] at h ⊢
            by_cases c5 : t.length < 2 + fixVal (t.take 2)
            · rw [if_pos c5] at h; cases h
            · rw [if_neg c5]
              unfold p4
              simp only [List.length_take, List.length_drop]
              omega
theorem take_len {l : List UInt8} {r : Rc} {n : Nat} (h : takeR l = (r, n, 0)) : n = (recL r).length := by
  unfold takeR at h
  by_cases c1 : l.length < 6
  · rw [if_pos c1] at h; injection h with _ h; injection h with _ h; cases h
  · rw [if_neg c1] at h
    by_cases c2 : l.length < 6 + fixVal (l.take 2)
    · rw [if_pos c2] at h; injection h with _ h; injection h with _ h; cases h
    · rw [if_neg c2] at h
      split at h
      · split at h
        · next c4 =>
          have hl := parse_len c4
          injection h with h1 h2
          injection h2 with h2 _
          rw [h1, List.length_take, List.length_drop, Nat.min_eq_left (by omega)] at hl
          rw [rec_len]
          omega
        · injection h with _ h; injection h with _ h; cases h
      · injection h with _ h; injection h with _ h; cases h
theorem take_may {l : List UInt8} {r : Rc} {n : Nat} (h : takeR l = (r, n, 0)) : n ≤ l.length ∧ 25 ≤ n := by
  have h1 := take_size (l := l) (by rw [h])
  rw [h] at h1
  have h2 := take_len h
  rw [rec_len] at h2
  exact ⟨h1.2, by omega⟩
/-- No record is told where none is taken. -/
theorem scan_none {l : List UInt8} (h : ¬ (takeR l).2.2 = 0) : (scan l).1 = [] := by
  by_cases h0 : l.length = 0
  · obtain rfl : l = [] := List.eq_nil_of_length_eq_zero h0
    rfl
  · rw [scan_stop (by omega) h]
/-- A segment's bytes, cut off anywhere: a beginning of it. -/
theorem parse_cut {b : Int} {rs : List Rc} (h : segB b rs = true) (n : Nat) (hn : n ≤ (allL rs).length) : parseS b ((allL rs).take n) = rs.take (wholeN rs n) := by
  unfold parseS
  rw [scan_cut rs (seg_may h) n hn]
  exact (goP_all _ [] (by rw [List.nil_append]; exact seg_take h _)).trans (List.nil_append _)
theorem whole_all (rs : List Rc) : wholeN rs (allL rs).length = rs.length := by
  induction rs with
  | nil => rfl
  | cons r rs ih =>
    rw [all_cons, List.length_append, whole_yes (by omega), List.length_cons]
    rw [show (recL r).length + (allL rs).length - (recL r).length = (allL rs).length by omega, ih]
theorem all_size {rs : List Rc} (h : ∀ r ∈ rs, mayB r = true) : (allL rs).length ≤ rs.length * 2100 := by
  induction rs with
  | nil => exact Nat.zero_le _
  | cons r rs ih =>
    obtain ⟨_, _, _, _, h5, h6, _⟩ := (may_iff r).1 (h r (List.mem_cons_self ..))
    have := ih fun x hx => h x (List.mem_cons_of_mem _ hx)
    rw [all_cons, List.length_append, rec_len, List.length_cons]
    omega
theorem all_take_le (rs : List Rc) (k : Nat) : (allL (rs.take k)).length ≤ (allL rs).length := by
  have e : rs = rs.take k ++ rs.drop k := (List.take_append_drop k rs).symm
  have h : (allL rs).length = (allL (rs.take k)).length + (allL (rs.drop k)).length := by
    conv => lhs; rw [e]
    unfold allL
    rw [List.flatMap_append, List.length_append]
  omega

/-! ### the first one -/
structure First (p : Rc → Bool) (rs : List Rc) (a : Nat) : Prop where
  le : a ≤ rs.length
  lo : ∀ i (h : i < rs.length), i < a → p rs[i] = false
  hi : ∀ h : a < rs.length, p rs[a] = true
theorem first_of (p : Rc → Bool) (rs : List Rc) : ∃ a, First p rs a := by
  induction rs with
  | nil => exact ⟨0, Nat.le_refl _, fun i h => absurd h (Nat.not_lt_zero _), fun h => absurd h (Nat.not_lt_zero _)⟩
  | cons r rs ih =>
    by_cases c : p r = true
    · exact ⟨0, Nat.zero_le _, fun i _ h => absurd h (Nat.not_lt_zero _), fun _ => c⟩
    · obtain ⟨a, h1, h2, h3⟩ := ih
      refine ⟨a + 1, by rw [List.length_cons]; omega, fun i h hi => ?_, fun h => ?_⟩
      · cases i with
        | zero => simpa using c
        | succ j => exact h2 j (by simpa using h) (by omega)
      · exact h3 (by simpa using h)
end Go.Proofs.Ythdefnfpjbpbkaa.Rcd
/- Segments in a row, plainly: which may be; what is too much, too old; how many go. No run of a program is in this file. -/
namespace Go.Proofs.Ythdefnfpjbpbkaa.Kpd
open Go.Lib Vbi Crc Rcd

/-- A segment. -/
structure Sp where
  b : Int
  rs : List Rc
def spz : Sp := ⟨0, []⟩
/-- A topic's rules. -/
structure Ru where
  sb : Int
  by_ : Int
  ag : Int
  co : Bool
  gr : Int
def ruB (r : Ru) : Bool := decide ((1 ≤ r.sb ∧ r.sb ≤ 32768) ∧ (-1 ≤ r.by_ ∧ r.by_ ≤ 1073741824) ∧ (-1 ≤ r.ag ∧ r.ag ≤ 1073741824) ∧ (0 ≤ r.gr ∧ r.gr ≤ 1073741824))
def recsOf (l : List Sp) : List Rc := l.flatMap (·.rs)
def sizeL : List Sp → Nat
  | [] => 0
  | s :: t => (allL s.rs).length + sizeL t
theorem recs_snoc (l : List Sp) (s : Sp) : recsOf (l ++ [s]) = recsOf l ++ s.rs := by unfold recsOf; rw [List.flatMap_append]; simp
theorem recs_next {l : List Sp} {k : Nat} (h : k < l.length) : recsOf (l.take (k + 1)) = recsOf (l.take k) ++ l[k].rs := by rw [List.take_succ_eq_append_getElem h, recs_snoc]
theorem recs_app (l m : List Sp) : recsOf (l ++ m) = recsOf l ++ recsOf m := by unfold recsOf; rw [List.flatMap_append]
theorem recs_take_le (l : List Sp) (k : Nat) : (recsOf (l.take k)).length ≤ (recsOf l).length := by
  have h := recs_app (l.take k) (l.drop k)
  rw [List.take_append_drop] at h
  rw [h, List.length_append]; omega
theorem size_snoc (l : List Sp) (s : Sp) : sizeL (l ++ [s]) = sizeL l + (allL s.rs).length := by
  induction l with
  | nil => simp [sizeL]
  | cons x l ih => rw [List.cons_append, sizeL, ih, sizeL]; omega
theorem size_next {l : List Sp} {k : Nat} (h : k < l.length) : sizeL (l.take (k + 1)) = sizeL (l.take k) + (allL l[k].rs).length := by rw [List.take_succ_eq_append_getElem h, size_snoc]
theorem size_drop {l : List Sp} {k : Nat} (h : k < l.length) : sizeL (l.drop k) = (allL l[k].rs).length + sizeL (l.drop (k + 1)) := by rw [List.drop_eq_getElem_cons h, sizeL]
theorem size_app (l m : List Sp) : sizeL (l ++ m) = sizeL l + sizeL m := by
  induction l with
  | nil => simp [sizeL]
  | cons x l ih => rw [List.cons_append, sizeL, ih, sizeL]; omega
theorem size_take_le (l : List Sp) (k : Nat) : sizeL (l.take k) ≤ sizeL l := by
  have h := size_app (l.take k) (l.drop k)
  rw [List.take_append_drop] at h
  omega
theorem size_drop_le (l : List Sp) (k : Nat) : sizeL (l.drop k) ≤ sizeL l := by
  have h := size_app (l.take k) (l.drop k)
  rw [List.take_append_drop] at h
  omega

/-- What segments leave to those behind them. -/
structure En where
  r : Int
  b : Int
  t : Int
def En.next (e : En) (s : Sp) : En := match s.rs.getLast? with
  | none => ⟨e.r, s.b, e.t⟩
  | some a => ⟨e.r + (s.rs.length : Int), a.o + 1, a.t⟩
/-- May the first record stand there? -/
def firstB (t : Int) (rs : List Rc) : Bool := match rs.head? with
  | none => true
  | some f => decide (t ≤ f.t)
def okB (e : En) (s : Sp) : Bool := segB s.b s.rs && (decide (e.b ≤ s.b) && (decide (e.r + (s.rs.length : Int) ≤ 200) && firstB e.t s.rs))
theorem ok_iff {e : En} {s : Sp} : okB e s = true ↔ segB s.b s.rs = true ∧ e.b ≤ s.b ∧ e.r + (s.rs.length : Int) ≤ 200 ∧ firstB e.t s.rs = true := by
  unfold okB
  rw [Bool.and_eq_true, Bool.and_eq_true, Bool.and_eq_true, decide_eq_true_iff, decide_eq_true_iff]
def endOf (l : List Sp) : En := l.foldl En.next ⟨0, 0, 0⟩
theorem end_nil : endOf [] = ⟨0, 0, 0⟩ := rfl
theorem end_next {l : List Sp} {k : Nat} (h : k < l.length) : endOf (l.take (k + 1)) = (endOf (l.take k)).next l[k] := by
  rw [List.take_succ_eq_append_getElem h]; unfold endOf; rw [List.foldl_append]; rfl
theorem end_snoc (l : List Sp) (s : Sp) : endOf (l ++ [s]) = (endOf l).next s := by unfold endOf; rw [List.foldl_append]; rfl
/-- Segments in a row. -/
def rowB (l : List Sp) : Bool := decide (1 ≤ l.length ∧ l.length ≤ 201) && (List.range l.length).all (fun i => okB (endOf (l.take i)) (l.getD i spz))
theorem row_iff {l : List Sp} : rowB l = true ↔ (1 ≤ l.length ∧ l.length ≤ 201) ∧ ∀ i (h : i < l.length), okB (endOf (l.take i)) l[i] = true := by
  unfold rowB
  rw [Bool.and_eq_true, List.all_eq_true, decide_eq_true_iff]
  refine and_congr Iff.rfl ⟨fun h i hi => ?_, fun h i hi => ?_⟩
  · have := h i (List.mem_range.2 hi)
    rwa [List.getD_eq_getElem?_getD, List.getElem?_eq_getElem hi, Option.getD_some] at this
  · have hi' := List.mem_range.1 hi
    rw [List.getD_eq_getElem?_getD, List.getElem?_eq_getElem hi', Option.getD_some]
    exact h i hi'
/-- What the document asks of the segment at i. -/
def docB (l : List Sp) (i : Nat) : Prop := ∀ h : i < l.length, segB l[i].b l[i].rs = true ∧ (0 < i → (l[i - 1]'(by omega)).b ≤ l[i].b) ∧ ∀ a, (recsOf (l.take i)).getLast? = some a → a.o < l[i].b ∧ firstB a.t l[i].rs = true
theorem end_r (l : List Sp) : (endOf l).r = ((recsOf l).length : Int) := by
  suffices h : ∀ k ≤ l.length, (endOf (l.take k)).r = ((recsOf (l.take k)).length : Int) by
    have := h l.length (Nat.le_refl _)
    rwa [List.take_length] at this
  intro k
  induction k with
  | zero => intro _; rfl
  | succ k ih =>
    intro hk
    rw [end_next (by omega), recs_next (by omega), List.length_append]
    have := ih (by omega)
    unfold En.next
    split
    · next h =>
      rw [List.getLast?_eq_none_iff.1 h, this]; simp
    · rw [Int.natCast_add, ← this]
theorem end_t (l : List Sp) : (endOf l).t = match (recsOf l).getLast? with | none => 0 | some a => a.t := by
  suffices h : ∀ k ≤ l.length, (endOf (l.take k)).t = match (recsOf (l.take k)).getLast? with | none => 0 | some a => a.t by
    have := h l.length (Nat.le_refl _)
    rwa [List.take_length] at this
  intro k
  induction k with
  | zero => intro _; rfl
  | succ k ih =>
    intro hk
    rw [end_next (by omega), recs_next (by omega)]
    have h2 := ih (by omega)
    unfold En.next
    split
    · next h =>
      rw [List.getLast?_eq_none_iff.1 h, List.append_nil]; exact h2
    · next a h =>
      rw [List.getLast?_append, h]; rfl
theorem end_b {l : List Sp} {k : Nat} (h : k < l.length) : (endOf (l.take (k + 1))).b = match l[k].rs.getLast? with | none => l[k].b | some a => a.o + 1 := by
  rw [end_next h]
  unfold En.next
  split <;> rfl
theorem seg_last {b : Int} {rs : List Rc} {a : Rc} (hs : segB b rs = true) (ha : rs.getLast? = some a) : b ≤ a.o ∧ 0 ≤ a.t ∧ a.t ≤ 1099511627776 ∧ a.o ≤ 1099511627775 := by
  have hmem := List.mem_of_getLast? ha
  obtain ⟨i, hi, rfl⟩ := List.mem_iff_getElem.1 hmem
  have h1 := (seg_doc.1 hs).2 i hi hi
  have h2 := (may_iff _).1 h1.1
  exact ⟨h1.2.1, h2.2.2.1, h2.2.2.2.1, h2.2.1⟩
theorem seg_first {b : Int} {rs : List Rc} {a : Rc} (hs : segB b rs = true) (ha : rs.head? = some a) : 0 ≤ a.t := by
  have hmem := List.mem_of_head? ha
  exact ((may_iff _).1 (seg_may hs a hmem)).2.2.1
theorem row_doc {l : List Sp} : rowB l = true ↔ (0 < l.length ∧ l.length ≤ 201 ∧ (recsOf l).length ≤ 200) ∧ ∀ i, i < l.length → docB l i := by
  rw [row_iff]
  constructor
  · rintro ⟨⟨h1, h2⟩, h3⟩
    have key : ∀ k ≤ l.length, (∀ a, (recsOf (l.take k)).getLast? = some a → a.o + 1 ≤ (endOf (l.take k)).b) ∧ (∀ h0 : 0 < k, (h : k - 1 < l.length) → l[k - 1].b ≤ (endOf (l.take k)).b) := by
      intro k
      induction k with
      | zero =>
        intro _
        exact ⟨fun a h => by simp [recsOf] at h, fun h => absurd h (by omega)⟩
      | succ k ih =>
        intro hk
        have hlt : k < l.length := by omega
        have hok := ok_iff.1 (h3 k hlt)
        have ⟨i1, i2⟩ := ih (by omega)
        rw [end_b hlt]
        constructor
        · intro a ha
          rw [recs_next hlt, List.getLast?_append] at ha
          cases hc : l[k].rs.getLast? with
          | none =>
            rw [hc] at ha
            have := i1 a (by simpa using ha)
            have := hok.2.1
            dsimp only
            omega
          | some c =>
            rw [hc] at ha
            simp at ha
            subst ha
            exact Int.le_refl _
        · intro _ h
          have e : k + 1 - 1 = k := by omega
          cases hc : l[k].rs.getLast? with
          | none => simp only [e]; exact Int.le_refl _
          | some c =>
            have := (seg_last hok.1 hc).1
            simp only [e]
            omega
    refine ⟨⟨h1, h2, ?_⟩, fun i hi h => ?_⟩
    · obtain ⟨n, hn⟩ : ∃ n, l.length = n + 1 := ⟨l.length - 1, by omega⟩
      have hok := (ok_iff.1 (h3 n (by omega))).2.2.1
      rw [end_r] at hok
      have h5 := recs_next (l := l) (k := n) (by omega)
      rw [← hn, List.take_length] at h5
      rw [h5, List.length_append]
      omega
    · have hok := ok_iff.1 (h3 i h)
      have ⟨i1, i2⟩ := key i (by omega)
      refine ⟨hok.1, fun h0 => Int.le_trans (i2 h0 (by omega)) hok.2.1, fun a ha => ⟨?_, ?_⟩⟩
      · have := i1 a ha
        have := hok.2.1
        omega
      · have := hok.2.2.2
        rw [end_t, ha] at this
        exact this
  · rintro ⟨⟨h1, h2, h3⟩, h4⟩
    refine ⟨⟨h1, h2⟩, fun i hi => ok_iff.2 ?_⟩
    have ⟨d1, d2, d3⟩ := h4 i hi hi
    have hb0 : 0 ≤ l[i].b := by
      have := seg_base d1
      unfold baseB at this
      exact (decide_eq_true_iff.1 this).1
    refine ⟨d1, ?_, ?_, ?_⟩
    · cases i with
      | zero => exact hb0
      | succ j =>
        rw [end_b (by omega)]
        cases hc : l[j].rs.getLast? with
        | none => exact d2 (by omega)
        | some c =>
          exact (d3 c (by rw [recs_next (by omega), List.getLast?_append, hc]; rfl)).1
    · rw [end_r]
      have h5 := recs_next hi
      have h6 := recs_take_le l (i + 1)
      rw [h5, List.length_append] at h6
      omega
    · rw [end_t]
      cases hc : (recsOf (l.take i)).getLast? with
      | none =>
        unfold firstB
        split
        · rfl
        · next f hf => exact decide_eq_true (seg_first d1 hf)
      | some a => exact (d3 a hc).2
theorem row_seg {l : List Sp} (h : rowB l = true) (i : Nat) (hi : i < l.length) : segB l[i].b l[i].rs = true := (ok_iff.1 ((row_iff.1 h).2 i hi)).1
theorem row_segs {l : List Sp} (h : rowB l = true) : ∀ s ∈ l, segB s.b s.rs = true := by
  intro s hs
  obtain ⟨i, hi, rfl⟩ := List.mem_iff_getElem.1 hs
  exact row_seg h i hi
/-- The last ones of a row are a row. -/
theorem row_drop {l : List Sp} (h : rowB l = true) {m : Nat} (hm : m < l.length) : rowB (l.drop m) = true := by
  rw [row_doc] at h ⊢
  obtain ⟨⟨h1, h2, h3⟩, h4⟩ := h
  have hr := recs_app (l.take m) (l.drop m)
  rw [List.take_append_drop] at hr
  refine ⟨⟨by rw [List.length_drop]; omega, by rw [List.length_drop]; omega, ?_⟩, fun i hi hi2 => ?_⟩
  · rw [hr, List.length_append] at h3; omega
  · rw [List.length_drop] at hi
    have ⟨d1, d2, d3⟩ := h4 (m + i) (by omega) (by omega)
    rw [List.getElem_drop]
    refine ⟨d1, fun h0 => ?_, fun a ha => d3 a ?_⟩
    · have := d2 (by omega)
      rw [List.getElem_drop]
      have e : m + (i - 1) = m + i - 1 := by omega
      simp only [e]
      exact this
    · rw [List.take_add, recs_app, List.getLast?_append, ha]; rfl

/-! ### how many go -/
def muchB (r : Ru) (z : Nat) : Bool := decide (0 ≤ r.by_) && decide (r.by_ < (z : Int))
def oldB (r : Ru) (now : Int) (rs : List Rc) : Bool := decide (0 ≤ r.ag) && (match rs.getLast? with
  | none => true
  | some a => decide (a.t + r.ag < now))
def closed (l : List Sp) : List Sp := l.take (l.length - 1)
theorem closed_len (l : List Sp) : (closed l).length = l.length - 1 := by unfold closed; rw [List.length_take]; omega
def goesB (r : Ru) (now : Int) (l : List Sp) (n : Nat) : Bool := muchB r (sizeL ((closed l).drop n)) || oldB r now (l.getD n spz).rs
/-- So many go. -/
structure OldIs (r : Ru) (now : Int) (l : List Sp) (m : Nat) : Prop where
  le : m ≤ l.length - 1
  yes : ∀ j, j < m → goesB r now l j = true
  no : m < l.length - 1 → goesB r now l m = false
theorem old_ex (r : Ru) (now : Int) (l : List Sp) : ∃ m, OldIs r now l m := by
  suffices h : ∀ d k, d + k = l.length - 1 → (∀ j, j < k → goesB r now l j = true) → ∃ m, OldIs r now l m by
    exact h (l.length - 1) 0 (by omega) (fun j hj => absurd hj (Nat.not_lt_zero _))
  intro d
  induction d with
  | zero => intro k hk hy; exact ⟨k, ⟨by omega, hy, fun h => absurd h (by omega)⟩⟩
  | succ d ih =>
    intro k hk hy
    cases hg : goesB r now l k with
    | false => exact ⟨k, ⟨by omega, hy, fun _ => hg⟩⟩
    | true =>
      refine ih (k + 1) (by omega) fun j hj => ?_
      by_cases c : j < k
      · exact hy j c
      · obtain rfl : j = k := by omega
        exact hg
theorem old_one {r : Ru} {now : Int} {l : List Sp} {m m' : Nat} (h : OldIs r now l m) (h' : OldIs r now l m') : m = m' := by
  rcases Nat.lt_trichotomy m m' with c | c | c
  · have a := h'.yes m c
    have b := h.no (by have := h'.le; omega)
    rw [a] at b; cases b
  · exact c
  · have a := h.yes m' c
    have b := h'.no (by have := h.le; omega)
    rw [a] at b; cases b
theorem closed_drop (l : List Sp) (m : Nat) : closed (l.drop m) = (closed l).drop m := by
  unfold closed
  rw [List.length_drop, List.drop_take]
  congr 1
  omega
/-- Done again nothing more goes. -/
theorem old_again {r : Ru} {now : Int} {l : List Sp} {m : Nat} (h : OldIs r now l m) : OldIs r now (l.drop m) 0 := by
  refine ⟨Nat.zero_le _, fun j hj => absurd hj (Nat.not_lt_zero _), fun hlt => ?_⟩
  rw [List.length_drop] at hlt
  have := h.no (by omega)
  unfold goesB at this ⊢
  rw [closed_drop, List.drop_drop, Nat.add_zero]
  rw [List.getD_eq_getElem?_getD, List.getElem?_drop, Nat.add_zero, ← List.getD_eq_getElem?_getD]
  exact this
/-- Later no fewer go. -/
theorem old_later {r : Ru} {now now' : Int} {l : List Sp} {m m' : Nat} (h : OldIs r now l m) (h' : OldIs r now' l m') (hn : now ≤ now') : m ≤ m' := by
  rcases Nat.lt_or_ge m' m with c | c
  · have a := h.yes m' c
    have b := h'.no (by have := h.le; omega)
    have : goesB r now' l m' = true := by
      unfold goesB at a ⊢
      rw [Bool.or_eq_true] at a ⊢
      rcases a with a | a
      · exact .inl a
      · refine .inr ?_
        unfold oldB at a ⊢
        rw [Bool.and_eq_true] at a ⊢
        refine ⟨a.1, ?_⟩
        have a2 := a.2
        split at a2
        · rfl
        · next x hx =>
          simp only [decide_eq_true_iff] at a2 ⊢
          omega
    rw [this] at b; cases b
  · exact c
/-- Without bounds none. -/
theorem old_free {r : Ru} {now : Int} {l : List Sp} (h1 : r.by_ = -1) (h2 : r.ag = -1) : OldIs r now l 0 := by
  refine ⟨Nat.zero_le _, fun j hj => absurd hj (Nat.not_lt_zero _), fun _ => ?_⟩
  unfold goesB muchB oldB
  rw [h1, h2]
  rfl
theorem size_le {l : List Sp} (h : ∀ s ∈ l, segB s.b s.rs = true) : sizeL l ≤ l.length * 420000 := by
  induction l with
  | nil => exact Nat.zero_le _
  | cons s l ih =>
    have h1 := h s List.mem_cons_self
    have h2 := ih fun x hx => h x (List.mem_cons_of_mem _ hx)
    have h3 := all_size (seg_may h1)
    have h4 := seg_len h1
    rw [sizeL, List.length_cons]
    omega
end Go.Proofs.Ythdefnfpjbpbkaa.Kpd
/- Segments in a row, pair by pair: which may be; what is taken out of a row leaves a row. No run of a program is in this file. -/
namespace Go.Proofs.Ythdefnfpjbpbkaa.Kpd
open Go.Lib Vbi Crc Rcd

/-- One record ahead of another. -/
def Ahd (a c : Rc) : Prop := a.o < c.o ∧ a.t ≤ c.t
theorem Ahd.trans {a b c : Rc} (h : Ahd a b) (k : Ahd b c) : Ahd a c := ⟨Int.lt_trans h.1 k.1, Int.le_trans h.2 k.2⟩
/-- A segment that may be, pair by pair. -/
theorem seg_pairs {b : Int} {rs : List Rc} : segB b rs = true ↔ (baseB b = true ∧ rs.length ≤ 200) ∧ (∀ a ∈ rs, mayB a = true ∧ b ≤ a.o) ∧ rs.Pairwise Ahd := by
  rw [seg_doc]
  constructor
  · rintro ⟨h1, h2⟩
    refine ⟨h1, fun a ha => ?_, ?_⟩
    · obtain ⟨i, hi, rfl⟩ := List.mem_iff_getElem.1 ha
      have := h2 i hi hi
      exact ⟨this.1, this.2.1⟩
    · rw [List.pairwise_iff_getElem]
      have step : ∀ j (hj : j < rs.length) (h0 : 0 < j), Ahd (rs[j - 1]'(by omega)) rs[j] := fun j hj h0 => pair_iff.1 ((h2 j hj hj).2.2 h0)
      have key : ∀ d i (h : i + 1 + d < rs.length), Ahd (rs[i]'(by omega)) rs[i + 1 + d] := by
        intro d
        induction d with
        | zero => intro i h; exact step (i + 1) h (by omega)
        | succ d ih =>
          intro i h
          have h1 := ih i (by omega)
          have h2 := step (i + 1 + (d + 1)) h (by omega)
          have e : i + 1 + (d + 1) - 1 = i + 1 + d := by omega
          simp only [e] at h2
          exact h1.trans h2
      intro i j hi hj hij
      have := key (j - i - 1) i (by omega)
      have e : i + 1 + (j - i - 1) = j := by omega
      simp only [e] at this
      exact this
  · rintro ⟨h1, h2, h3⟩
    refine ⟨h1, fun i hi h => ?_⟩
    have hm := h2 rs[i] (List.getElem_mem h)
    exact ⟨hm.1, hm.2, fun h0 => pair_iff.2 (List.pairwise_iff_getElem.1 h3 (i - 1) i (by omega) h (by omega))⟩
/-- One segment ahead of another. -/
def Bhd (s u : Sp) : Prop := s.b ≤ u.b ∧ ∀ a ∈ s.rs, a.o < u.b ∧ ∀ c ∈ u.rs, a.t ≤ c.t
theorem last_most {b : Int} {rs : List Rc} {z : Rc} (hs : segB b rs = true) (hz : rs.getLast? = some z) : ∀ a ∈ rs, a.o ≤ z.o ∧ a.t ≤ z.t := by
  intro a ha
  have hp := (seg_pairs.1 hs).2.2
  obtain ⟨i, hi, rfl⟩ := List.mem_iff_getElem.1 ha
  rw [List.getLast?_eq_getElem?] at hz
  obtain ⟨hn, rfl⟩ := List.getElem?_eq_some_iff.1 hz
  by_cases c : i = rs.length - 1
  · subst c; exact ⟨Int.le_refl _, Int.le_refl _⟩
  · have := List.pairwise_iff_getElem.1 hp i (rs.length - 1) hi hn (by omega)
    exact ⟨Int.le_of_lt this.1, this.2⟩
theorem first_least {b : Int} {rs : List Rc} {t : Int} (hs : segB b rs = true) : firstB t rs = true ↔ ∀ c ∈ rs, t ≤ c.t := by
  cases rs with
  | nil => exact ⟨(fun _ c hc => by cases hc), (fun _ => rfl)⟩
  | cons x l =>
    have hp := (seg_pairs.1 hs).2.2
    rw [List.pairwise_cons] at hp
    show decide (t ≤ x.t) = true ↔ _
    rw [decide_eq_true_iff]
    refine ⟨fun h c hc => ?_, fun h => h x List.mem_cons_self⟩
    rcases List.mem_cons.1 hc with rfl | hc
    · exact h
    · exact Int.le_trans h (hp.1 c hc).2
/-- Segments in a row, pair by pair. -/
theorem row_pairs {l : List Sp} : rowB l = true ↔ (0 < l.length ∧ l.length ≤ 201 ∧ (recsOf l).length ≤ 200) ∧ (∀ s ∈ l, segB s.b s.rs = true) ∧ l.Pairwise Bhd := by
  constructor
  · intro h
    have hd := row_doc.1 h
    have hseg := row_segs h
    have hok := (row_iff.1 h).2
    refine ⟨⟨hd.1.1, hd.1.2.1, hd.1.2.2⟩, hseg, ?_⟩
    have key : ∀ k ≤ l.length, ∀ s ∈ l.take k, s.b ≤ (endOf (l.take k)).b ∧ ∀ a ∈ s.rs, a.o + 1 ≤ (endOf (l.take k)).b ∧ a.t ≤ (endOf (l.take k)).t := by
      intro k
      induction k with
      | zero => intro _ s hs; simp at hs
      | succ k ih =>
        intro hk s hs
        have hlt : k < l.length := by omega
        have ho := ok_iff.1 (hok k hlt)
        have hfl := (first_least ho.1).1 ho.2.2.2
        rw [end_next hlt]
        rw [List.take_succ_eq_append_getElem hlt] at hs
        unfold En.next
        cases hc : l[k].rs.getLast? with
        | none =>
          have hnil := List.getLast?_eq_none_iff.1 hc
          dsimp only
          rcases List.mem_append.1 hs with hs | hs
          · have ⟨i1, i2⟩ := ih (by omega) s hs
            exact ⟨Int.le_trans i1 ho.2.1, fun a ha => ⟨Int.le_trans (i2 a ha).1 ho.2.1, (i2 a ha).2⟩⟩
          · rw [List.mem_singleton.1 hs, hnil]
            exact ⟨Int.le_refl _, fun a ha => by cases ha⟩
        | some z =>
          have hz := seg_last ho.1 hc
          have hzm := List.mem_of_getLast? hc
          have hm := last_most ho.1 hc
          dsimp only
          rcases List.mem_append.1 hs with hs | hs
          · have ⟨i1, i2⟩ := ih (by omega) s hs
            refine ⟨by have := ho.2.1; omega, fun a ha => ⟨by have := (i2 a ha).1; have := ho.2.1; omega, Int.le_trans (i2 a ha).2 (hfl z hzm)⟩⟩
          · rw [List.mem_singleton.1 hs]
            exact ⟨by omega, fun a ha => ⟨by have := (hm a ha).1; omega, (hm a ha).2⟩⟩
    rw [List.pairwise_iff_getElem]
    intro i j hi hj hij
    have hin : l[i] ∈ l.take j := by
      rw [List.mem_iff_getElem]
      exact ⟨i, by rw [List.length_take]; omega, by rw [List.getElem_take]⟩
    have ⟨k1, k2⟩ := key j (by omega) _ hin
    have ho := ok_iff.1 (hok j hj)
    have hfl := (first_least ho.1).1 ho.2.2.2
    exact ⟨Int.le_trans k1 ho.2.1, fun a ha => ⟨by have := (k2 a ha).1; have := ho.2.1; omega, fun c hc => Int.le_trans (k2 a ha).2 (hfl c hc)⟩⟩
  · rintro ⟨⟨h1, h2, h3⟩, h4, h5⟩
    rw [row_doc]
    refine ⟨⟨h1, h2, h3⟩, fun i hi h => ?_⟩
    have hs := h4 l[i] (List.getElem_mem h)
    have hp := List.pairwise_iff_getElem.1 h5
    refine ⟨hs, fun h0 => (hp (i - 1) i (by omega) h (by omega)).1, fun a ha => ?_⟩
    have hmem := List.mem_of_getLast? ha
    unfold recsOf at hmem
    obtain ⟨s, hs2, ha2⟩ := List.mem_flatMap.1 hmem
    obtain ⟨j, hj, rfl⟩ := List.mem_iff_getElem.1 hs2
    rw [List.length_take] at hj
    rw [List.getElem_take] at ha2
    have := (hp j i (by omega) h (by omega)).2 a ha2
    exact ⟨this.1, (first_least hs).2 this.2⟩
/-- The records of a row rise. -/
theorem row_recs {l : List Sp} (h : rowB l = true) : (recsOf l).Pairwise Ahd := by
  have ⟨h1, h2, h3⟩ := row_pairs.1 h
  clear h h1
  induction l with
  | nil => exact List.Pairwise.nil
  | cons s l ih =>
    rw [List.pairwise_cons] at h3
    have e : recsOf (s :: l) = s.rs ++ recsOf l := by unfold recsOf; rw [List.flatMap_cons]
    rw [e, List.pairwise_append]
    refine ⟨(seg_pairs.1 (h2 s List.mem_cons_self)).2.2, ih (fun x hx => h2 x (List.mem_cons_of_mem _ hx)) h3.2, fun a ha c hc => ?_⟩
    unfold recsOf at hc
    obtain ⟨u, hu, hc2⟩ := List.mem_flatMap.1 hc
    have hb := (h3.1 u hu).2 a ha
    have hu2 := (seg_pairs.1 (h2 u (List.mem_cons_of_mem _ hu))).2.1 c hc2
    exact ⟨by have := hb.1; omega, hb.2 c hc2⟩
/-- Fewer records of a segment. -/
theorem seg_sub {b : Int} {rs rs' : List Rc} (h : segB b rs = true) (hs : rs'.Sublist rs) : segB b rs' = true := by
  have ⟨h1, h2, h3⟩ := seg_pairs.1 h
  exact seg_pairs.2 ⟨⟨h1.1, Nat.le_trans hs.length_le h1.2⟩, fun a ha => h2 a (hs.subset ha), h3.sublist hs⟩
theorem Bhd.sub {s u s' u' : Sp} (h : Bhd s u) (e1 : s'.b = s.b) (e2 : u'.b = u.b) (h1 : s'.rs.Sublist s.rs) (h2 : u'.rs.Sublist u.rs) : Bhd s' u' :=
  ⟨by rw [e1, e2]; exact h.1, fun a ha => ⟨by rw [e2]; exact (h.2 a (h1.subset ha)).1, fun c hc => (h.2 a (h1.subset ha)).2 c (h2.subset hc)⟩⟩

/-! ### what folding leaves -/
/-- Does a record go? -/
def goesF (gr now : Int) (all : List Rc) (x : Rc) : Bool := (x.g && decide (x.t + gr < now)) || (!x.k.isEmpty && all.any (fun y => y.k == x.k && decide (x.o < y.o)))
def keptF (gr now : Int) (all : List Rc) (s : Sp) : Sp := ⟨s.b, s.rs.filter (fun x => !goesF gr now all x)⟩
def shutF (gr now : Int) (all : List Rc) (l : List Sp) : List Sp := (l.map (keptF gr now all)).filter (fun s => !s.rs.isEmpty)
/-- What segments are with the last of each key alone: closed ones, the open one. -/
def foldC (gr now : Int) (l : List Sp) (u : Sp) : List Sp := shutF gr now (recsOf (l ++ [u])) l ++ [u]
theorem shut_mem {gr now : Int} {all : List Rc} {l : List Sp} {s : Sp} (h : s ∈ shutF gr now all l) : ∃ s0 ∈ l, s = keptF gr now all s0 ∧ s.rs ≠ [] := by
  unfold shutF at h
  obtain ⟨h1, h2⟩ := List.mem_filter.1 h
  obtain ⟨s0, h3, rfl⟩ := List.mem_map.1 h1
  exact ⟨s0, h3, rfl, fun e => by rw [e] at h2; simp at h2⟩
theorem kept_sub (gr now : Int) (all : List Rc) (s : Sp) : (keptF gr now all s).rs.Sublist s.rs := List.filter_sublist
theorem recs_filter (l : List Sp) : recsOf (l.filter (fun s => !s.rs.isEmpty)) = recsOf l := by
  induction l with
  | nil => rfl
  | cons s l ih =>
    have e : recsOf (s :: l) = s.rs ++ recsOf l := by unfold recsOf; rw [List.flatMap_cons]
    rw [e, List.filter_cons]
    split
    · have e2 : recsOf (s :: l.filter (fun s => !s.rs.isEmpty)) = s.rs ++ recsOf (l.filter (fun s => !s.rs.isEmpty)) := by unfold recsOf; rw [List.flatMap_cons]
      rw [e2, ih]
    · next h =>
      have : s.rs = [] := by simpa using h
      rw [this, List.nil_append, ih]
theorem recs_kept (gr now : Int) (all : List Rc) (l : List Sp) : recsOf (l.map (keptF gr now all)) = (recsOf l).filter (fun x => !goesF gr now all x) := by
  induction l with
  | nil => rfl
  | cons s l ih =>
    have e : recsOf (s :: l) = s.rs ++ recsOf l := by unfold recsOf; rw [List.flatMap_cons]
    have e2 : recsOf (List.map (keptF gr now all) (s :: l)) = (keptF gr now all s).rs ++ recsOf (l.map (keptF gr now all)) := by rw [List.map_cons]; unfold recsOf; rw [List.flatMap_cons]
    rw [e, e2, ih, List.filter_append]
    rfl
theorem recs_shut (gr now : Int) (all : List Rc) (l : List Sp) : recsOf (shutF gr now all l) = (recsOf l).filter (fun x => !goesF gr now all x) := by
  unfold shutF
  rw [recs_filter, recs_kept]
theorem recs_fold (gr now : Int) (l : List Sp) (u : Sp) : recsOf (foldC gr now l u) = (recsOf l).filter (fun x => !goesF gr now (recsOf (l ++ [u])) x) ++ u.rs := by
  unfold foldC
  rw [recs_snoc, recs_shut]
/-- What is left is a row. -/
theorem row_fold {gr now : Int} {l : List Sp} {u : Sp} (h : rowB (l ++ [u]) = true) : rowB (foldC gr now l u) = true := by
  have ⟨⟨h1, h2, h3⟩, h4, h5⟩ := row_pairs.1 h
  rw [List.pairwise_append] at h5
  have hle : (shutF gr now (recsOf (l ++ [u])) l).length ≤ l.length := by
    unfold shutF
    exact Nat.le_trans (List.length_filter_le _ _) (by rw [List.length_map]; exact Nat.le_refl _)
  refine row_pairs.2 ⟨⟨?_, ?_, ?_⟩, fun s hs => ?_, ?_⟩
  · unfold foldC; rw [List.length_append]; simp
  · unfold foldC; rw [List.length_append] at h2 ⊢; simp only [List.length_cons, List.length_nil] at h2 ⊢; omega
  · rw [recs_fold, List.length_append]
    rw [recs_snoc, List.length_append] at h3
    have := List.length_filter_le (fun x => !goesF gr now (recsOf (l ++ [u])) x) (recsOf l)
    omega
  · unfold foldC at hs
    rcases List.mem_append.1 hs with hs | hs
    · obtain ⟨s0, hs0, rfl, _⟩ := shut_mem hs
      exact seg_sub (h4 s0 (List.mem_append_left _ hs0)) (kept_sub _ _ _ _)
    · exact h4 s (List.mem_append_right _ hs)
  · unfold foldC
    rw [List.pairwise_append]
    refine ⟨?_, List.pairwise_singleton _ _, fun s hs t ht => ?_⟩
    · unfold shutF
      refine List.Pairwise.filter _ ?_
      rw [List.pairwise_map]
      exact h5.1.imp fun hab => hab.sub rfl rfl (kept_sub _ _ _ _) (kept_sub _ _ _ _)
    · obtain ⟨s0, hs0, rfl, _⟩ := shut_mem hs
      have := h5.2.2 s0 hs0 t ht
      exact this.sub rfl rfl (kept_sub _ _ _ _) (List.Sublist.refl _)
/-- Done again it is the same. -/
theorem fold_again (gr now : Int) (l : List Sp) (u : Sp) : foldC gr now (shutF gr now (recsOf (l ++ [u])) l) u = foldC gr now l u := by
  have hsub : ∀ y ∈ recsOf (shutF gr now (recsOf (l ++ [u])) l ++ [u]), y ∈ recsOf (l ++ [u]) := by
    intro y hy
    rw [recs_snoc, recs_shut] at hy
    rw [recs_snoc]
    rcases List.mem_append.1 hy with hy | hy
    · exact List.mem_append_left _ (List.mem_filter.1 hy).1
    · exact List.mem_append_right _ hy
  have hkeep : ∀ x, goesF gr now (recsOf (l ++ [u])) x = false → goesF gr now (recsOf (shutF gr now (recsOf (l ++ [u])) l ++ [u])) x = false := by
    intro x hx
    unfold goesF at hx ⊢
    rw [Bool.or_eq_false_iff] at hx ⊢
    refine ⟨hx.1, ?_⟩
    have h2 := hx.2
    rw [Bool.and_eq_false_iff] at h2 ⊢
    refine h2.imp id fun h => ?_
    rw [List.any_eq_false] at h ⊢
    exact fun y hy => h y (hsub y hy)
  have hid : ∀ s ∈ shutF gr now (recsOf (l ++ [u])) l, keptF gr now (recsOf (shutF gr now (recsOf (l ++ [u])) l ++ [u])) s = s := by
    intro s hs
    obtain ⟨s0, _, rfl, _⟩ := shut_mem hs
    unfold keptF
    dsimp only
    rw [List.filter_eq_self.2]
    intro x hx
    have := (List.mem_filter.1 hx).2
    rw [Bool.not_eq_true'] at this ⊢
    exact hkeep x this
  unfold foldC
  congr 1
  show (List.map _ _).filter _ = _
  rw [List.map_congr_left hid, List.map_id']
  refine List.filter_eq_self.2 fun s hs => ?_
  obtain ⟨_, _, _, hne⟩ := shut_mem hs
  simpa using hne
end Go.Proofs.Ythdefnfpjbpbkaa.Kpd
/- The last record of each key, plainly; what folding leaves of them; what stays of the records. No run of a program is in this file. -/
namespace Go.Proofs.Ythdefnfpjbpbkaa.Kpd
open Go.Lib Vbi Crc Rcd

/-- The last ones, where they stand. -/
def lastsOf : List Rc → List Rc
  | [] => []
  | x :: t => if (!x.k.isEmpty && (!x.g && !t.any (fun y => y.k == x.k))) = true then x :: lastsOf t else lastsOf t
/-- Is it the last of its key, by the offsets? -/
def lastC (all : List Rc) (x : Rc) : Bool := !x.k.isEmpty && (!x.g && !all.any (fun y => y.k == x.k && decide (x.o < y.o)))
theorem any_congr {l : List Rc} {p q : Rc → Bool} (h : ∀ x ∈ l, p x = q x) : l.any p = l.any q := by
  induction l with
  | nil => rfl
  | cons x l ih => rw [List.any_cons, List.any_cons, h x List.mem_cons_self, ih fun y hy => h y (List.mem_cons_of_mem _ hy)]
theorem lasts_filter : ∀ {all : List Rc}, all.Pairwise Ahd → lastsOf all = all.filter (lastC all)
  | [], _ => rfl
  | x :: t, h => by
    rw [List.pairwise_cons] at h
    have hx : lastC (x :: t) x = (!x.k.isEmpty && (!x.g && !t.any (fun y => y.k == x.k))) := by
      unfold lastC
      rw [List.any_cons, decide_eq_false (show ¬ x.o < x.o by omega), Bool.and_false, Bool.false_or]
      congr 3
      exact any_congr fun y hy => by rw [decide_eq_true (h.1 y hy).1, Bool.and_true]
    have ht : ∀ y ∈ t, lastC (x :: t) y = lastC t y := by
      intro y hy
      unfold lastC
      rw [List.any_cons, decide_eq_false (show ¬ y.o < x.o by have := (h.1 y hy).1; omega), Bool.and_false, Bool.false_or]
    rw [lastsOf, List.filter_cons, hx, lasts_filter h.2, List.filter_congr ht]
/-- Folding leaves the last ones. -/
theorem lasts_fold {gr now : Int} {l : List Sp} {u : Sp} (h : rowB (l ++ [u]) = true) : lastsOf (recsOf (foldC gr now l u)) = lastsOf (recsOf (l ++ [u])) := by
  rw [lasts_filter (row_recs h), lasts_filter (row_recs (row_fold h))]
  have hA : recsOf (l ++ [u]) = recsOf l ++ u.rs := recs_snoc l u
  have hB := recs_fold gr now l u
  have hr := row_recs h
  rw [hA, List.pairwise_append] at hr
  obtain ⟨A, hAe⟩ : ∃ A, recsOf (l ++ [u]) = A := ⟨_, rfl⟩
  obtain ⟨B, hBe⟩ : ∃ B, recsOf (foldC gr now l u) = B := ⟨_, rfl⟩
  rw [hAe] at hA hB ⊢
  rw [hBe] at hB ⊢
  have hsub : ∀ y ∈ B, y ∈ A := by
    intro y hy
    rw [hB] at hy
    rw [hA]
    rcases List.mem_append.1 hy with hy | hy
    · exact List.mem_append_left _ (List.mem_filter.1 hy).1
    · exact List.mem_append_right _ hy
  have hU : ∀ x ∈ u.rs, lastC B x = lastC A x := by
    intro x hx
    unfold lastC
    congr 3
    rw [hA, hB, List.any_append, List.any_append]
    congr 1
    have hno : ∀ y ∈ recsOf l, (y.k == x.k && decide (x.o < y.o)) = false := fun y hy => by
      rw [decide_eq_false (show ¬ x.o < y.o by have := (hr.2.2 y hy x hx).1; omega), Bool.and_false]
    rw [List.any_eq_false.2 (fun y hy => by rw [hno y (List.mem_filter.1 hy).1]; decide), List.any_eq_false.2 (fun y hy => by rw [hno y hy]; decide)]
  have hC : ∀ x ∈ recsOf l, lastC A x = (lastC B x && !goesF gr now A x) := by
    intro x _
    rw [Bool.eq_iff_iff, Bool.and_eq_true, Bool.not_eq_true']
    constructor
    · intro hl
      unfold lastC at hl
      rw [Bool.and_eq_true, Bool.and_eq_true, Bool.not_eq_true', Bool.not_eq_true', Bool.not_eq_true'] at hl
      obtain ⟨h1, h2, h3⟩ := hl
      constructor
      · unfold lastC
        rw [h1, h2, Bool.not_false, Bool.true_and, Bool.true_and, Bool.not_eq_true']
        rw [List.any_eq_false] at h3 ⊢
        exact fun y hy => h3 y (hsub y hy)
      · unfold goesF
        rw [h2, h3, Bool.false_and, Bool.and_false, Bool.or_false]
    · rintro ⟨hl, hg⟩
      unfold lastC at hl ⊢
      rw [Bool.and_eq_true, Bool.and_eq_true, Bool.not_eq_true', Bool.not_eq_true', Bool.not_eq_true'] at hl
      obtain ⟨h1, h2, _⟩ := hl
      unfold goesF at hg
      rw [h1, Bool.not_false, Bool.true_and, Bool.or_eq_false_iff] at hg
      rw [h1, h2, hg.2]; rfl
  have e1 : ∀ p, A.filter p = (recsOf l).filter p ++ u.rs.filter p := fun p => by rw [hA, List.filter_append]
  have e2 : ∀ p, B.filter p = ((recsOf l).filter (fun x => !goesF gr now A x)).filter p ++ u.rs.filter p := fun p => by rw [hB, List.filter_append]
  rw [e1, e2, List.filter_congr hU, List.filter_filter]
  congr 1
  exact (List.filter_congr hC).symm
/-- What is gone has a key or is a tombstone. -/
theorem goes_why {gr now : Int} {all : List Rc} {x : Rc} (h : goesF gr now all x = true) : ¬ x.k = [] ∨ x.g = true := by
  unfold goesF at h
  rw [Bool.or_eq_true, Bool.and_eq_true, Bool.and_eq_true] at h
  rcases h with h | h
  · exact .inr h.1
  · refine .inl fun e => ?_
    rw [e] at h
    exact absurd h.1 (by decide)
/-- No key of the open segment is left in a closed one. -/
theorem open_keys {gr now : Int} {l : List Sp} {u : Sp} (h : rowB (l ++ [u]) = true) {x y : Rc} (hx : x ∈ recsOf (shutF gr now (recsOf (l ++ [u])) l)) (hy : y ∈ u.rs) (hk : ¬ y.k = []) : ¬ x.k = y.k := by
  intro e
  rw [recs_shut] at hx
  obtain ⟨hx1, hx2⟩ := List.mem_filter.1 hx
  have hr := row_recs h
  rw [recs_snoc, List.pairwise_append] at hr
  have hlt := (hr.2.2 x hx1 y hy).1
  rw [Bool.not_eq_true'] at hx2
  unfold goesF at hx2
  rw [Bool.or_eq_false_iff] at hx2
  have h0 := hx2.2
  rw [Bool.and_eq_false_iff] at h0
  rcases h0 with h2 | h2
  · rw [Bool.not_eq_false', List.isEmpty_iff] at h2
    exact hk (by rw [← e, h2])
  · rw [List.any_eq_false] at h2
    have := h2 y (by rw [recs_snoc]; exact List.mem_append_right _ hy)
    rw [e] at this
    exact this (by rw [decide_eq_true hlt]; simp)
/-- What stays of the records, from the k-th on. -/
def leftF (gr now : Int) (l : List Sp) (u : Sp) (k : Nat) : List Rc :=
  ((recsOf l).drop k).filter (fun x => !goesF gr now (recsOf (l ++ [u])) x) ++ u.rs.drop (k - (recsOf l).length)
theorem left_start (gr now : Int) (l : List Sp) (u : Sp) : leftF gr now l u 0 = recsOf (foldC gr now l u) := by
  unfold leftF
  rw [recs_fold, List.drop_zero, Nat.zero_sub, List.drop_zero]
theorem left_end (gr now : Int) (l : List Sp) (u : Sp) : leftF gr now l u (recsOf (l ++ [u])).length = [] := by
  unfold leftF
  rw [recs_snoc, List.length_append, List.drop_of_length_le (by omega), List.drop_of_length_le (by omega)]; rfl
/-- One record more: it is the first one of those that stay, or it goes and is none of them. -/
theorem left_next {gr now : Int} {l : List Sp} {u : Sp} (h : rowB (l ++ [u]) = true) {k : Nat} (hk : k < (recsOf (l ++ [u])).length) :
    (leftF gr now l u k = (recsOf (l ++ [u]))[k] :: leftF gr now l u (k + 1)) ∨
    (leftF gr now l u k = leftF gr now l u (k + 1) ∧ (¬ (recsOf (l ++ [u]))[k].k = [] ∨ (recsOf (l ++ [u]))[k].g = true) ∧ ∀ y ∈ leftF gr now l u k, (recsOf (l ++ [u]))[k].o < y.o) := by
  have hlen : (recsOf (l ++ [u])).length = (recsOf l).length + u.rs.length := by rw [recs_snoc, List.length_append]
  have hr := row_recs h
  by_cases c : k < (recsOf l).length
  · have he : (recsOf (l ++ [u]))[k] = (recsOf l)[k] := by
      simp only [recs_snoc]
      exact List.getElem_append_left c
    have hd := List.drop_eq_getElem_cons c
    have h0 : k - (recsOf l).length = 0 := by omega
    have h1 : k + 1 - (recsOf l).length = 0 := by omega
    cases hg : goesF gr now (recsOf (l ++ [u])) (recsOf l)[k] with
    | false =>
      left
      unfold leftF
      rw [hd, List.filter_cons, hg, h0, h1, he]; rfl
    | true =>
      right
      have hsame : leftF gr now l u k = leftF gr now l u (k + 1) := by
        unfold leftF
        rw [hd, List.filter_cons, hg, h0, h1]; rfl
      refine ⟨hsame, by rw [he]; exact goes_why hg, fun y hy => ?_⟩
      rw [hsame] at hy
      unfold leftF at hy
      rw [h1, List.drop_zero] at hy
      have hin : y ∈ (recsOf (l ++ [u])).drop (k + 1) := by
        rw [recs_snoc, List.drop_append_of_le_length (by omega)]
        rcases List.mem_append.1 hy with hy | hy
        · exact List.mem_append_left _ (List.mem_filter.1 hy).1
        · exact List.mem_append_right _ hy
      obtain ⟨j, hj, rfl⟩ := List.mem_iff_getElem.1 hin
      rw [List.length_drop] at hj
      rw [List.getElem_drop]
      exact (List.pairwise_iff_getElem.1 hr k (k + 1 + j) hk (by omega) (by omega)).1
  · left
    have hku : k - (recsOf l).length < u.rs.length := by omega
    have he : (recsOf (l ++ [u]))[k] = u.rs[k - (recsOf l).length] := by
      simp only [recs_snoc]
      exact List.getElem_append_right (by omega)
    unfold leftF
    rw [List.drop_of_length_le (show (recsOf l).length ≤ k by omega), List.drop_of_length_le (show (recsOf l).length ≤ k + 1 by omega), List.drop_eq_getElem_cons hku, he]
    show _ :: _ = _ :: _
    congr 2
    omega
end Go.Proofs.Ythdefnfpjbpbkaa.Kpd
