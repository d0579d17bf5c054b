/- Texts of the proof, part 3: FdSort, FdKeys, Mem, StrMem, InRegion, Say, RcMem, InLoad, RcWhole, RcOr. -/
import Derived.Sort.Walk0
import Derived.Sort.KeysCollected
import Derived.WalkKit
import Derived.WalkSpells
import Derived.Lib.Hide
import Derived.Deep.QuietTactic
import Derived.BigQuiet
import Derived.Laws.OwnMore
import Derived.Deep.Draws
import Derived.OwnWalk
import Derived.WalkSmall
import Derived.Lib.Strings
import Derived.WalkLawsBesides
import Derived.Below
import Derived.Deep.MidRow
import Derived.Test.YthdefnfpjbpbkaaChecked
import Derived.Laws.Tables
import Derived.LoopN
import Derived.Laws.BytesArg
import Derived.Test.YthdefnfpjbpbkaaX02
/- Records in the order of their keys: put in one by one; there is one such order. No run of a program is in this file. -/
namespace Go.Proofs.Ythdefnfpjbpbkaa.Kpd
open Go.Lib Vbi Crc Rcd

/-- The order of keys. -/
def kl (a c : List UInt8) : Bool := Go.Op.bytesLess a c
theorem kl_irrefl : ∀ a : List UInt8, kl a a = false
  | [] => rfl
  | x :: a => by
    have ih := kl_irrefl a
    unfold kl at ih ⊢
    rw [Go.Op.bytesLess, ih, Bool.and_false, Bool.or_false]
    exact decide_eq_false (by simp)
theorem kl_trans : ∀ {a b c : List UInt8}, kl a b = true → kl b c = true → kl a c = true
  | _, [], _, h, _ => by cases ‹List UInt8› <;> (unfold kl at h; simp [Go.Op.bytesLess] at h)
  | _, _ :: _, [], _, h => by unfold kl at h; simp [Go.Op.bytesLess] at h
  | [], _ :: _, _ :: _, _, _ => rfl
  | x :: a, y :: b, z :: c, h1, h2 => by
    unfold kl at h1 h2 ⊢
    rw [Go.Op.bytesLess, Bool.or_eq_true, Bool.and_eq_true, decide_eq_true_iff, beq_iff_eq] at h1 h2 ⊢
    rcases h1 with h1 | ⟨rfl, h1⟩
    · rcases h2 with h2 | ⟨rfl, _⟩
      · exact .inl (by have := UInt8.lt_iff_toNat_lt.1 h1; have := UInt8.lt_iff_toNat_lt.1 h2; exact UInt8.lt_iff_toNat_lt.2 (by omega))
      · exact .inl h1
    · rcases h2 with h2 | ⟨rfl, h2⟩
      · exact .inl h2
      · exact .inr ⟨rfl, kl_trans (a := a) (b := b) (c := c) h1 h2⟩
theorem kl_total : ∀ a b : List UInt8, kl a b = true ∨ a = b ∨ kl b a = true
  | [], [] => .inr (.inl rfl)
  | [], _ :: _ => .inl rfl
  | _ :: _, [] => .inr (.inr rfl)
  | x :: a, y :: b => by
    unfold kl
    rw [Go.Op.bytesLess, Go.Op.bytesLess, Bool.or_eq_true, Bool.and_eq_true, decide_eq_true_iff, beq_iff_eq, Bool.or_eq_true, Bool.and_eq_true, decide_eq_true_iff, beq_iff_eq]
    rcases Nat.lt_trichotomy x.toNat y.toNat with h | h | h
    · exact .inl (.inl (UInt8.lt_iff_toNat_lt.2 h))
    · obtain rfl : x = y := UInt8.toNat_inj.1 h
      rcases kl_total a b with h | h | h
      · exact .inl (.inr ⟨rfl, h⟩)
      · exact .inr (.inl (by rw [h]))
      · exact .inr (.inr (.inr ⟨rfl, h⟩))
    · exact .inr (.inr (.inl (UInt8.lt_iff_toNat_lt.2 h)))
theorem kl_asymm {a b : List UInt8} (h : kl a b = true) : kl b a = false := by
  rw [← Bool.not_eq_true]
  intro k
  have := kl_trans h k
  rw [kl_irrefl] at this
  cases this
/-- In the order of their keys. -/
def Srt (l : List Rc) : Prop := l.Pairwise (fun a c => kl a.k c.k = true)
/-- Where a record is put. -/
def atR : List Rc → Rc → Nat
  | [], _ => 0
  | y :: t, x => if kl y.k x.k = true then atR t x + 1 else 0
def insR (out : List Rc) (x : Rc) : List Rc := out.take (atR out x) ++ x :: out.drop (atR out x)
theorem at_le (out : List Rc) (x : Rc) : atR out x ≤ out.length := by
  induction out with
  | nil => exact Nat.le_refl _
  | cons y t ih =>
    rw [atR, List.length_cons]
    split <;> omega
theorem at_yes : ∀ {out : List Rc} {x : Rc} {j : Nat} (hj : j < out.length), j < atR out x → kl out[j].k x.k = true
  | [], _, _, hj, _ => by simp at hj
  | y :: t, x, j, hj, h => by
    rw [atR] at h
    split at h
    · next hc =>
      cases j with
      | zero => exact hc
      | succ j => exact at_yes (out := t) (by simpa using hj) (by omega)
    · omega
theorem at_no : ∀ {out : List Rc} {x : Rc} {j : Nat} (hj : j < out.length), j = atR out x → kl out[j].k x.k = false
  | [], _, _, hj, _ => by simp at hj
  | y :: t, x, j, hj, h => by
    rw [atR] at h
    split at h
    · subst h
      exact at_no (out := t) (by simpa using hj) rfl
    · next hc =>
      subst h
      simpa using hc
theorem ins_mem (out : List Rc) (x y : Rc) : y ∈ insR out x ↔ y = x ∨ y ∈ out := by
  have e : out = out.take (atR out x) ++ out.drop (atR out x) := (List.take_append_drop _ _).symm
  unfold insR
  rw [List.mem_append, List.mem_cons]
  constructor
  · rintro (h | h | h)
    · exact .inr (List.take_subset _ _ h)
    · exact .inl h
    · exact .inr (List.drop_subset _ _ h)
  · rintro (h | h)
    · exact .inr (.inl h)
    · rw [e] at h
      rcases List.mem_append.1 h with h | h
      · exact .inl h
      · exact .inr (.inr h)
/-- Put in where it belongs: all are in order. -/
theorem ins_sorted {out : List Rc} {x : Rc} (h : Srt out) (hx : ∀ y ∈ out, ¬ y.k = x.k) : Srt (insR out x) := by
  have hp := List.pairwise_iff_getElem.1 h
  unfold insR Srt
  rw [List.pairwise_append]
  refine ⟨h.sublist (List.take_sublist _ _), ?_, fun a ha c hc => ?_⟩
  · rw [List.pairwise_cons]
    refine ⟨fun c hc => ?_, h.sublist (List.drop_sublist _ _)⟩
    obtain ⟨j, hj, rfl⟩ := List.mem_iff_getElem.1 hc
    rw [List.length_drop] at hj
    rw [List.getElem_drop]
    have hat : atR out x < out.length := by omega
    have h0 := at_no hat rfl
    have h1 : kl x.k (out[atR out x]).k = true := by
      rcases kl_total (out[atR out x]).k x.k with c | c | c
      · rw [h0] at c; cases c
      · exact absurd c (hx _ (List.getElem_mem hat))
      · exact c
    by_cases c : j = 0
    · subst c; exact h1
    · exact kl_trans h1 (hp _ _ hat (by omega) (by omega))
  · obtain ⟨i, hi, rfl⟩ := List.mem_iff_getElem.1 ha
    rw [List.length_take] at hi
    rw [List.getElem_take]
    have hlt := at_yes (x := x) (show i < out.length by omega) (by omega)
    rcases List.mem_cons.1 hc with rfl | hc
    · exact hlt
    · obtain ⟨j, hj, rfl⟩ := List.mem_iff_getElem.1 hc
      rw [List.length_drop] at hj
      rw [List.getElem_drop]
      exact hp _ _ (by omega) (by omega) (by omega)
/-- There is one such order. -/
theorem sorted_one : ∀ {l m : List Rc}, Srt l → Srt m → (∀ x, x ∈ l ↔ x ∈ m) → l = m
  | [], [], _, _, _ => rfl
  | [], y :: m, _, _, h => absurd ((h y).2 List.mem_cons_self) (by simp)
  | x :: l, [], _, _, h => absurd ((h x).1 List.mem_cons_self) (by simp)
  | x :: l, y :: m, hl, hm, h => by
    have hl' := List.pairwise_cons.1 hl
    have hm' := List.pairwise_cons.1 hm
    have exy : x = y := by
      rcases List.mem_cons.1 ((h x).1 List.mem_cons_self) with e | e
      · exact e
      · rcases List.mem_cons.1 ((h y).2 List.mem_cons_self) with f | f
        · exact f.symm
        · have h1 := hm'.1 x e
          have h2 := hl'.1 y f
          rw [kl_asymm h1] at h2
          cases h2
    subst exy
    have hne : ∀ {t : List Rc}, (∀ z ∈ t, kl x.k z.k = true) → x ∉ t := fun ht hx => by
      have := ht x hx
      rw [kl_irrefl] at this
      cases this
    congr 1
    refine sorted_one hl'.2 hm'.2 fun z => ⟨fun hz => ?_, fun hz => ?_⟩
    · rcases List.mem_cons.1 ((h z).1 (List.mem_cons_of_mem _ hz)) with e | e
      · rw [e] at hz; exact absurd hz (hne hl'.1)
      · exact e
    · rcases List.mem_cons.1 ((h z).2 (List.mem_cons_of_mem _ hz)) with e | e
      · rw [e] at hz; exact absurd hz (hne hm'.1)
      · exact e
/-- The last ones of each key, in the order of the keys. -/
def lastsL (all : List Rc) : List Rc := (lastsOf all).foldl insR []
theorem lasts_mem {all : List Rc} {x : Rc} (h : x ∈ lastsOf all) : x ∈ all ∧ ¬ x.k = [] ∧ x.g = false := by
  induction all with
  | nil => cases h
  | cons y t ih =>
    rw [lastsOf] at h
    split at h
    · next hc =>
      rcases List.mem_cons.1 h with rfl | h
      · rw [Bool.and_eq_true, Bool.and_eq_true, Bool.not_eq_true', Bool.not_eq_true'] at hc
        exact ⟨List.mem_cons_self, fun e => by rw [e] at hc; exact absurd hc.1 (by decide), hc.2.1⟩
      · exact ⟨List.mem_cons_of_mem _ (ih h).1, (ih h).2⟩
    · exact ⟨List.mem_cons_of_mem _ (ih h).1, (ih h).2⟩
/-- No key stands twice among the last ones. -/
theorem lasts_keys (all : List Rc) : (lastsOf all).Pairwise (fun a c => ¬ a.k = c.k) := by
  induction all with
  | nil => exact List.Pairwise.nil
  | cons y t ih =>
    rw [lastsOf]
    split
    · next hc =>
      rw [List.pairwise_cons]
      refine ⟨fun c hcm e => ?_, ih⟩
      rw [Bool.and_eq_true, Bool.and_eq_true, Bool.not_eq_true', Bool.not_eq_true', Bool.not_eq_true', List.any_eq_false] at hc
      exact hc.2.2 c (lasts_mem hcm).1 (by rw [e]; simp)
    · exact ih
theorem fold_ins : ∀ (xs out : List Rc), Srt out → xs.Pairwise (fun a c => ¬ a.k = c.k) → (∀ x ∈ xs, ∀ y ∈ out, ¬ y.k = x.k) → Srt (xs.foldl insR out) ∧ ∀ z, z ∈ xs.foldl insR out ↔ z ∈ xs ∨ z ∈ out
  | [], out, h, _, _ => ⟨h, fun z => ⟨fun hz => .inr hz, fun hz => hz.elim (fun e => by cases e) id⟩⟩
  | x :: xs, out, h, hp, hx => by
    rw [List.pairwise_cons] at hp
    have h1 := ins_sorted h (hx x List.mem_cons_self)
    have ⟨i1, i2⟩ := fold_ins xs (insR out x) h1 hp.2 (fun y hy z hz => by
      rcases (ins_mem out x z).1 hz with rfl | hz
      · exact hp.1 y hy
      · exact hx y (List.mem_cons_of_mem _ hy) z hz)
    refine ⟨i1, fun z => ?_⟩
    rw [List.foldl_cons, i2 z, ins_mem, List.mem_cons]
    constructor
    · rintro (h | h | h)
      · exact .inl (.inr h)
      · exact .inl (.inl h)
      · exact .inr h
    · rintro ((h | h) | h)
      · exact .inr (.inl h)
      · exact .inl h
      · exact .inr (.inr h)
theorem lastsL_sorted (all : List Rc) : Srt (lastsL all) := (fold_ins _ [] List.Pairwise.nil (lasts_keys all) (fun _ _ y hy => by cases hy)).1
theorem lastsL_mem (all : List Rc) (z : Rc) : z ∈ lastsL all ↔ z ∈ lastsOf all := by
  rw [show (z ∈ lastsL all ↔ z ∈ lastsOf all) = (z ∈ (lastsOf all).foldl insR [] ↔ z ∈ lastsOf all) from rfl, (fold_ins _ [] List.Pairwise.nil (lasts_keys all) (fun _ _ y hy => by cases hy)).2 z]
  simp
/-- Where a record is put: told by what is ahead of it and what stands there. -/
theorem at_of : ∀ {out : List Rc} {x : Rc} {a : Nat}, a ≤ out.length → (∀ j (h : j < out.length), j < a → kl out[j].k x.k = true) → (∀ h : a < out.length, kl (out[a]).k x.k = false) → a = atR out x := by
  intro out x a h1 h2 h3
  have hle := at_le out x
  rcases Nat.lt_trichotomy a (atR out x) with c | c | c
  · have k1 := at_yes (show a < out.length by omega) c
    rw [h3 (by omega)] at k1
    cases k1
  · exact c
  · have k1 := at_no (show atR out x < out.length by omega) rfl
    rw [h2 _ (by omega) c] at k1
    cases k1
/-- Is the record at k the last of its key? -/
def lastAt (all : List Rc) (k : Nat) (x : Rc) : Bool := (!x.k.isEmpty && !x.g) && !(all.drop (k + 1)).any (fun y => y.k == x.k)
theorem lasts_step {all : List Rc} {k : Nat} (h : k < all.length) : lastsOf (all.drop k) = if lastAt all k all[k] then all[k] :: lastsOf (all.drop (k + 1)) else lastsOf (all.drop (k + 1)) := by
  rw [List.drop_eq_getElem_cons h, lastsOf]
  unfold lastAt
  rw [Bool.and_assoc]
/-- What is put in already, and what is to come. -/
def Goes (all out : List Rc) (k : Nat) : Prop := (lastsOf (all.drop k)).foldl insR out = lastsL all
theorem goes_start (all : List Rc) : Goes all [] 0 := by unfold Goes; rw [List.drop_zero]; rfl
theorem goes_yes {all out : List Rc} {k : Nat} (h : k < all.length) (hl : lastAt all k all[k] = true) (hg : Goes all out k) : Goes all (insR out all[k]) (k + 1) := by
  unfold Goes at hg ⊢
  rw [lasts_step h, if_pos hl, List.foldl_cons] at hg
  exact hg
theorem goes_no {all out : List Rc} {k : Nat} (h : k < all.length) (hl : lastAt all k all[k] = false) (hg : Goes all out k) : Goes all out (k + 1) := by
  unfold Goes at hg ⊢
  rw [lasts_step h, if_neg (by rw [hl]; decide)] at hg
  exact hg
theorem goes_end {all out : List Rc} {k : Nat} (h : all.length ≤ k) (hg : Goes all out k) : out = lastsL all := by
  unfold Goes at hg
  rw [List.drop_of_length_le h] at hg
  exact hg
theorem lasts_short (all : List Rc) : (lastsOf all).length ≤ all.length := by
  induction all with
  | nil => exact Nat.le_refl _
  | cons x t ih =>
    rw [lastsOf]
    split
    · rw [List.length_cons, List.length_cons]; omega
    · rw [List.length_cons]; omega
theorem ins_len (out : List Rc) (x : Rc) : (insR out x).length = out.length + 1 := by
  have := at_le out x
  unfold insR
  rw [List.length_append, List.length_cons, List.length_take, List.length_drop]; omega
theorem foldl_len : ∀ (xs out : List Rc), (xs.foldl insR out).length = out.length + xs.length
  | [], _ => rfl
  | x :: xs, out => by rw [List.foldl_cons, foldl_len xs, ins_len, List.length_cons]; omega
/-- What is put in is no more than all. -/
theorem goes_len {all out : List Rc} {k : Nat} (hg : Goes all out k) : out.length ≤ all.length := by
  unfold Goes at hg
  have h1 := foldl_len (lastsOf (all.drop k)) out
  rw [hg] at h1
  have h2 := foldl_len (lastsOf all) []
  have h3 := lasts_short all
  unfold lastsL at h1
  rw [h2, List.length_nil] at h1
  omega
end Go.Proofs.Ythdefnfpjbpbkaa.Kpd
/- The last record of each key as a map tells it; the keys in their order. No run of a program is in this file. -/
namespace Go.Proofs.Ythdefnfpjbpbkaa.Kpd
open Go.Lib Vbi Crc Rcd

/-- The last record of a key. -/
def lastK (xs : List Rc) (k : List UInt8) : Option Rc := xs.reverse.find? (fun x => x.k == k)
theorem lastK_snoc (xs : List Rc) (x : Rc) (k : List UInt8) : lastK (xs ++ [x]) k = if x.k = k then some x else lastK xs k := by
  unfold lastK
  rw [List.reverse_append, List.reverse_singleton]
  show List.find? _ (x :: xs.reverse) = _
  by_cases h : x.k = k
  · rw [if_pos h, List.find?_cons_of_pos (by simp [h])]
  · rw [if_neg h, List.find?_cons_of_neg (by simp [h])]
theorem lastK_some {xs : List Rc} {k : List UInt8} {y : Rc} (h : lastK xs k = some y) : y ∈ xs ∧ y.k = k :=
  ⟨List.mem_reverse.1 (List.mem_of_find?_eq_some h), by simpa using List.find?_some h⟩
theorem lastK_none {xs : List Rc} {k : List UInt8} : lastK xs k = none ↔ ∀ x ∈ xs, ¬ x.k = k := by
  unfold lastK
  rw [List.find?_eq_none]
  simp
theorem lastK_has {xs : List Rc} {x : Rc} (h : x ∈ xs) : ∃ y, lastK xs x.k = some y := by
  cases e : lastK xs x.k with
  | none => exact absurd rfl (lastK_none.1 e x h)
  | some y => exact ⟨y, rfl⟩
theorem lastK_most {xs : List Rc} {k : List UInt8} {y : Rc} (hp : xs.Pairwise Ahd) (h : lastK xs k = some y) : ∀ x ∈ xs, x.k = k → x.o ≤ y.o := by
  unfold lastK at h
  obtain ⟨_, aa, bs, e, hn⟩ := List.find?_eq_some_iff_append.1 h
  have e2 : xs = bs.reverse ++ y :: aa.reverse := by
    have := congrArg List.reverse e
    rw [List.reverse_reverse, List.reverse_append, List.reverse_cons] at this
    rw [this]; simp
  intro x hx hk
  rw [e2] at hx hp
  rcases List.mem_append.1 hx with hx | hx
  · exact Int.le_of_lt ((List.pairwise_append.1 hp).2.2 x hx y List.mem_cons_self).1
  · rcases List.mem_cons.1 hx with rfl | hx
    · exact Int.le_refl _
    · have := hn x (List.mem_reverse.1 hx)
      simp [hk] at this
def rzero : Rc := ⟨0, 0, [], [], 0, false⟩
/-- What the map answers. -/
def lastZ (xs : List Rc) (k : List UInt8) : Rc := if k = [] then rzero else (lastK xs k).getD rzero
theorem lastZ_of {xs : List Rc} {k : List UInt8} {y : Rc} (h0 : ¬ k = []) (h : lastK xs k = some y) : lastZ xs k = y := by unfold lastZ; rw [if_neg h0, h]; rfl
/-- Has a later one the same key? -/
theorem passed_is {all : List Rc} {x : Rc} (hp : all.Pairwise Ahd) (hx : x ∈ all) (h0 : 0 ≤ x.o) : decide (x.o < (lastZ all x.k).o) = (!x.k.isEmpty && all.any (fun y => y.k == x.k && decide (x.o < y.o))) := by
  by_cases hk : x.k = []
  · unfold lastZ
    rw [if_pos hk, hk, decide_eq_false (show ¬ x.o < rzero.o by show ¬ x.o < 0; omega)]; rfl
  · obtain ⟨y, hy⟩ := lastK_has hx
    have hm := lastK_most hp hy
    have hs := lastK_some hy
    rw [lastZ_of hk hy, show x.k.isEmpty = false from by cases h : x.k with | nil => exact absurd h hk | cons _ _ => rfl, Bool.not_false, Bool.true_and, Bool.eq_iff_iff, decide_eq_true_iff, List.any_eq_true]
    constructor
    · intro h
      exact ⟨y, hs.1, by rw [hs.2, decide_eq_true h]; simp⟩
    · rintro ⟨z, hz, h⟩
      rw [Bool.and_eq_true, beq_iff_eq, decide_eq_true_iff] at h
      have := hm z hz h.1
      omega
theorem kl_lt {a b : List UInt8} (h : a < b) : kl a b = true := by
  unfold kl
  rw [Go.Proofs.bytesLess_eq]
  exact decide_eq_true h
/-- The last ones, told by their keys in order. -/
theorem keys_lasts {all : List Rc} (hp : all.Pairwise Ahd) {ks : List (List UInt8)} (hs : ks.Pairwise (· < ·)) (hm : ∀ k, k ∈ ks ↔ ¬ k = [] ∧ (lastK all k).isSome = true) : (ks.map (lastZ all)).filter (fun x => !x.g) = lastsL all := by
  have hz : ∀ k ∈ ks, ¬ k = [] ∧ ∃ y, lastK all k = some y ∧ lastZ all k = y ∧ y ∈ all ∧ y.k = k := by
    intro k hk
    obtain ⟨h0, h1⟩ := (hm k).1 hk
    obtain ⟨y, hy⟩ := Option.isSome_iff_exists.1 h1
    exact ⟨h0, y, hy, lastZ_of h0 hy, lastK_some hy⟩
  refine sorted_one ?_ (lastsL_sorted all) fun x => ?_
  · refine List.Pairwise.filter _ (List.pairwise_map.2 (hs.imp_of_mem fun {a b} ha hb h => ?_))
    obtain ⟨_, y, _, e, _, ek⟩ := hz a ha
    obtain ⟨_, y2, _, e2, _, ek2⟩ := hz b hb
    rw [e, e2, ek, ek2]
    exact kl_lt h
  · rw [lastsL_mem, lasts_filter hp, List.mem_filter, List.mem_filter, List.mem_map]
    constructor
    · rintro ⟨⟨k, hk, rfl⟩, hg⟩
      obtain ⟨h0, y, hy, e, hya, ek⟩ := hz k hk
      have hmx := lastK_most hp hy
      rw [e] at hg ⊢
      refine ⟨hya, ?_⟩
      unfold lastC
      rw [ek, show k.isEmpty = false from by cases k with | nil => exact absurd rfl h0 | cons _ _ => rfl, hg, Bool.not_false, Bool.true_and, Bool.true_and, Bool.not_eq_true', List.any_eq_false]
      intro z hz2 h
      rw [Bool.and_eq_true, beq_iff_eq, decide_eq_true_iff] at h
      have := hmx z hz2 h.1
      omega
    · rintro ⟨hx, hl⟩
      unfold lastC at hl
      rw [Bool.and_eq_true, Bool.and_eq_true, Bool.not_eq_true', Bool.not_eq_true', Bool.not_eq_true', List.any_eq_false] at hl
      obtain ⟨h1, h2, h3⟩ := hl
      have h0 : ¬ x.k = [] := fun e => by rw [e] at h1; cases h1
      obtain ⟨y, hy⟩ := lastK_has hx
      have hmx := lastK_most hp hy x hx rfl
      have hs2 := lastK_some hy
      have hyx : y = x := by
        rcases Int.lt_or_le x.o y.o with c | c
        · exact absurd (show (y.k == x.k && decide (x.o < y.o)) = true from by rw [hs2.2, decide_eq_true c]; simp) (h3 y hs2.1)
        · have hee : ∀ {l : List Rc}, l.Pairwise Ahd → x ∈ l → y ∈ l → y = x := by
            intro l hl2 hx2 hy2
            obtain ⟨i, hi, ei⟩ := List.mem_iff_getElem.1 hx2
            obtain ⟨j, hj, ej⟩ := List.mem_iff_getElem.1 hy2
            have hq := List.pairwise_iff_getElem.1 hl2
            rcases Nat.lt_trichotomy i j with d | d | d
            · have := (hq i j hi hj d).1; rw [ei, ej] at this; omega
            · subst d; rw [← ei, ← ej]
            · have := (hq j i hj hi d).1; rw [ei, ej] at this; omega
          exact hee hp hx hs2.1
      refine ⟨⟨x.k, (hm x.k).2 ⟨h0, by rw [hy]; rfl⟩, ?_⟩, by rw [h2]; rfl⟩
      rw [lastZ_of h0 hy, hyx]
/-- Sorted, no key twice. -/
theorem sort_strict {ss : List (List UInt8)} (h : ss.Nodup) : (ss.mergeSort leB).Pairwise (· < ·) := by
  have tr : ∀ a b c : List UInt8, leB a b = true → leB b c = true → leB a c = true := fun a b c h1 h2 => by simp only [leB, decide_eq_true_eq] at *; exact List.le_trans h1 h2
  have to : ∀ a b : List UInt8, (leB a b || leB b a) = true := fun a b => by simp only [leB, Bool.or_eq_true, decide_eq_true_eq]; exact List.le_total a b
  have h1 := List.pairwise_mergeSort tr to ss
  have h2 : (ss.mergeSort leB).Nodup := (List.mergeSort_perm ss leB).nodup_iff.2 h
  refine (h1.and h2).imp fun {a b} hh => ?_
  obtain ⟨hle, hne⟩ := hh
  simp only [leB, decide_eq_true_eq] at hle
  rcases kl_total a b with c | c | c
  · unfold kl at c
    rw [Go.Proofs.bytesLess_eq] at c
    exact of_decide_eq_true c
  · exact absurd c hne
  · unfold kl at c
    rw [Go.Proofs.bytesLess_eq] at c
    exact absurd (of_decide_eq_true c) (List.not_lt.2 hle)
end Go.Proofs.Ythdefnfpjbpbkaa.Kpd
/- Lists of numbers in memory: what came in, what was made by the call itself. -/
namespace Go.Proofs.Ythdefnfpjbpbkaa
open Go.RowKit Go.Lib

/-- The slice at A holds the numbers xs of kind k, in a block below B. -/
def Nums (w : World) (B : Nat) (k : IntKind) (A : Option Addr) (xs : List Int) : Prop :=
  xs = [] ∨ ∃ a, A = some a ∧ a.block < B ∧ ∀ j, j < xs.length → w.cell? (a.add j) = some (.int k (xs.getD j 0))

theorem add_block (a : Addr) (n : Nat) : (a.add n).block = a.block := by unfold Addr.add; split <;> rfl

section
variable {w w' : World} {B B' : Nat} {k : IntKind} {A : Option Addr} {xs : List Int}
theorem Nums.none_ : Nums w B k A [] := .inl rfl
theorem Nums.some_ (h : Nums w B k A xs) (hx : 0 < xs.length) : ∃ a, A = some a ∧ a.block < B ∧ ∀ j, j < xs.length → w.cell? (a.add j) = some (.int k (xs.getD j 0)) := by
  rcases h with rfl | h
  · simp at hx
  · exact h
theorem Nums.keep (h : Nums w B k A xs) (hk : ∀ p : Addr, p.block < B → w'.cell? p = w.cell? p) : Nums w' B k A xs := by
  rcases h with h | ⟨a, h1, h2, h3⟩
  · exact .inl h
  · exact .inr ⟨a, h1, h2, fun j hj => by rw [hk _ (by rw [add_block]; exact h2)]; exact h3 j hj⟩
theorem Nums.mono (h : Nums w B k A xs) (hB : B ≤ B') : Nums w B' k A xs := by
  rcases h with h | ⟨a, h1, h2, h3⟩
  · exact .inl h
  · exact .inr ⟨a, h1, Nat.lt_of_lt_of_le h2 hB, h3⟩
theorem Nums.below (h : Nums w B k A xs) (hb : Below B w w') : Nums w' B k A xs := h.keep fun _ hp => hb.cell hp
theorem Nums.drewN (h : Nums w B k A xs) (n : Nat) : Nums (w.drewN n) B k A xs := h
theorem Nums.alloc (h : Nums w B k A xs) (hB : B ≤ w.heap.size) (o : Obj) : Nums (w.alloc o) B k A xs :=
  h.keep fun p hp => World.cell?_alloc_lt w o p (by omega)
theorem Nums.of_own {base : Nat} {e : TypeId} {c : Nat} (h : w.ownsRow base e 1 (.slice A xs.length c) xs.length (xs.map (Value.int k))) : Nums w w.heap.size k A xs := by
  rcases h.2 with ⟨hv, hn⟩ | ⟨g, cap, cur, hv, _, hg, hle, _, hsz, htk⟩
  · exact .inl (List.eq_nil_of_length_eq_zero hn)
  · injection hv with hA _ _
    subst hA
    refine .inr ⟨_, rfl, (Array.getElem?_eq_some_iff.1 hg).1, fun j hj => ?_⟩
    refine h.cells (g := g) rfl j _ ?_
    rw [List.getElem?_map, List.getElem?_eq_getElem hj, List.getD_eq_getElem?_getD, List.getElem?_eq_getElem hj]
    rfl
/-- What an owned row of numbers is as a value. -/
theorem own_form {base : Nat} {e : TypeId} {v : Value} (h : w.ownsRow base e 1 v xs.length (xs.map (Value.int k))) : ∃ A c, v = .slice A xs.length c := by
  rcases h.2 with ⟨hv, hn⟩ | ⟨g, cap, cur, hv, _⟩
  · exact ⟨none, 0, by rw [hv, hn]⟩
  · exact ⟨_, cap, hv⟩
end

/-- Draws turn nothing below. -/
theorem below_drewN {B : Nat} {a w : World} (h : Below B a w) (n : Nat) : Below B a (w.drewN n) := ⟨h.os, h.tape, h.output, h.size, h.block⟩

/-! ### memory of the call's own -/
/-- A new block, and then an append onto a row of the call's own: below B nothing has turned. -/
theorem below_alloc_grown {B e size n : Nat} {w w' : World} {v : Value} {xs : List Value} {o : Obj} (hB : B ≤ w.heap.size) (hown : w.ownsRow B e size v n xs) (hg : (w.alloc o).grownBy w' v.ownBlock) : Below B w w' := by
  refine ⟨hg.os, hg.tape, hg.output, ?_, fun k hk => ?_⟩
  · have := hg.size; simp at this; omega
  · rw [hg.block k (by simp; omega)]
    · exact Below.heap_alloc w o k (by omega)
    · intro hk2
      have := (hown.lt k hk2.symm).1
      omega
theorem own_snoc {w : World} {B e : Nat} {v : Value} {k : IntKind} {ys : List Int} {x : Int} (h : w.ownsRow B e 1 v (ys.length + 1) (ys.map (Value.int k) ++ [.int k x])) :
    w.ownsRow B e 1 v (ys ++ [x]).length ((ys ++ [x]).map (Value.int k)) := by simpa using h

/-- A slice that holds the numbers xs, in new memory. -/
def GivesNums (k : IntKind) (xs : List Int) (w : World) (e : Ending) (w' : World) : Prop := ∃ A c, e = .returned (.slice A xs.length c) ∧ Nums w' w'.heap.size k A xs ∧ Below w.heap.size w w'
theorem gives_of_own {w w' : World} {B e : Nat} {v : Value} {k : IntKind} {xs : List Int} (h : w'.ownsRow B e 1 v xs.length (xs.map (Value.int k))) (hb : Below w.heap.size w w') : GivesNums k xs w (.returned v) w' := by
  obtain ⟨A, c, rfl⟩ := own_form h
  exact ⟨A, c, rfl, Nums.of_own h, hb⟩

theorem add_new (g j : Nat) : (⟨g, 0, none⟩ : Addr).add j = ⟨g, j, none⟩ := by
  unfold Addr.add; split <;> simp_all
/-- A new block that begins with the numbers rs. -/
theorem new_cell (W : World) (cs : Array Value) (rs : List Int) {k : IntKind} {e : TypeId} (h : ∀ j, j < rs.length → cs[j]? = some (.int k (rs.getD j 0))) (j : Nat) (hj : j < rs.length) :
    (W.alloc (.cells cs e)).drew.cell? ((⟨W.heap.size, 0, none⟩ : Addr).add j) = some (.int k (rs.getD j 0)) := by
  rw [add_new]
  show (W.alloc (.cells cs e)).cell? ⟨W.heap.size, j, none⟩ = _
  rw [cell_of_row (W.alloc (.cells cs e)) W.heap.size j cs e (0, 0) (heap_alloc_new W _)]
  exact h j hj

/-- A literal slice of numbers. -/
theorem lit_nums (W : World) (cs : Array Value) (rs : List Int) (k : IntKind) (e : TypeId) (h : cs = (rs.map (Value.int k)).toArray) : Nums (W.alloc (.cells cs e)) (W.heap.size + 1) k (some ⟨W.heap.size, 0, none⟩) rs := by
  refine .inr ⟨_, rfl, by simp, fun j hj => ?_⟩
  refine new_cell W cs rs (fun j hj => ?_) j hj
  rw [h]
  simp [List.getElem?_eq_getElem hj]

theorem gives_lit (w : World) (cs : Array Value) (rs : List Int) (n : Nat) (k : IntKind) (e : TypeId) (h : cs = (rs.map (Value.int k)).toArray) (hn : n = rs.length) :
    GivesNums k rs w (.returned (.slice (some ⟨w.heap.size, 0, none⟩) n n)) (w.alloc (.cells cs e)) := by
  subst hn
  exact ⟨_, _, rfl, (lit_nums w cs rs k e h).mono (by simp), (Below.refl _ _).alloc (Nat.le_refl _) _⟩

theorem own_below {w w' : World} {B e size n : Nat} {v : Value} {xs : List Value} (h : w.ownsRow B e size v n xs) (hb : Below w.heap.size w w') : w'.ownsRow B e size v n xs :=
  h.kept (row := none) ⟨hb.os, hb.tape, hb.output, hb.size, fun k hk _ => hb.block k hk⟩ (Classical.em _)
theorem below_grown {B e size n : Nat} {w w' : World} {v : Value} {xs : List Value} (hB : B ≤ w.heap.size) (hown : w.ownsRow B e size v n xs) (hg : w.grownBy w' v.ownBlock) : Below B w w' := by
  refine ⟨hg.os, hg.tape, hg.output, hg.size, fun k hk => ?_⟩
  refine hg.block k (by omega) fun hk2 => ?_
  have := (hown.lt k hk2.symm).1
  omega

end Go.Proofs.Ythdefnfpjbpbkaa
/- Lists of texts in memory: what came in, what was made by the call itself. -/
namespace Go.Proofs.Ythdefnfpjbpbkaa
open Go.RowKit Go.Lib

/-- Bytes, as a text. -/
def str (x : List UInt8) : ByteArray := ⟨x.toArray⟩
theorem str_data (x : List UInt8) : (str x).data.toList = x := by simp [str]
theorem data_str (s : ByteArray) : str s.data.toList = s := by simp [str]
theorem str_size (x : List UInt8) : (str x).size = x.length := by rw [Lib.size_eq, str_data]
theorem str_inj {x y : List UInt8} (h : str x = str y) : x = y := by rw [← str_data x, h, str_data]
theorem str_toList (x : List UInt8) : (str x).toList = x := by rw [ByteArray.toList_eq, str_data]
theorem toList_data_eq (s : ByteArray) : s.toList = s.data.toList := ByteArray.toList_eq s
def strs (ls : List (List UInt8)) : List Value := ls.map fun x => Value.string (str x)
theorem strs_len (ls : List (List UInt8)) : (strs ls).length = ls.length := by simp [strs]
theorem strs_snoc (ls : List (List UInt8)) (x : List UInt8) : strs (ls ++ [x]) = strs ls ++ [.string (str x)] := by simp [strs]

/-- The slice at A holds the texts ls, in a block below B. -/
def Strs (w : World) (B : Nat) (A : Option Addr) (ls : List (List UInt8)) : Prop :=
  ls = [] ∨ ∃ a, A = some a ∧ a.block < B ∧ ∀ j, j < ls.length → w.cell? (a.add j) = some (.string (str (ls.getD j [])))
section
variable {w w' : World} {B B' : Nat} {A : Option Addr} {ls : List (List UInt8)}
theorem Strs.none_ : Strs w B A [] := .inl rfl
theorem Strs.some_ (h : Strs w B A ls) (hx : 0 < ls.length) : ∃ a, A = some a ∧ a.block < B ∧ ∀ j, j < ls.length → w.cell? (a.add j) = some (.string (str (ls.getD j []))) := by
  rcases h with rfl | h
  · simp at hx
  · exact h
theorem Strs.keep (h : Strs w B A ls) (hk : ∀ p : Addr, p.block < B → w'.cell? p = w.cell? p) : Strs w' B A ls := by
  rcases h with h | ⟨a, h1, h2, h3⟩
  · exact .inl h
  · exact .inr ⟨a, h1, h2, fun j hj => by rw [hk _ (by rw [add_block]; exact h2)]; exact h3 j hj⟩
theorem Strs.mono (h : Strs w B A ls) (hB : B ≤ B') : Strs w B' A ls := by
  rcases h with h | ⟨a, h1, h2, h3⟩
  · exact .inl h
  · exact .inr ⟨a, h1, Nat.lt_of_lt_of_le h2 hB, h3⟩
theorem Strs.below (h : Strs w B A ls) (hb : Below B w w') : Strs w' B A ls := h.keep fun _ hp => hb.cell hp
theorem Strs.on (h : Strs w w.heap.size A ls) (hb : Below w.heap.size w w') : Strs w' w'.heap.size A ls := (h.below hb).mono hb.size
theorem Strs.drewN (h : Strs w B A ls) (n : Nat) : Strs (w.drewN n) B A ls := h.keep fun _ _ => rfl
theorem Strs.alloc (h : Strs w B A ls) (hB : B ≤ w.heap.size) (o : Obj) : Strs (w.alloc o) B A ls := h.keep fun p hp => World.cell?_alloc_lt w o p (by omega)
theorem Strs.of_own {base e c : Nat} (h : w.ownsRow base e 1 (.slice A ls.length c) ls.length (strs ls)) : Strs w w.heap.size A ls := by
  rcases h.2 with ⟨hv, hn⟩ | ⟨g, cap, cur, hv, _, hg, hle, _, hsz, htk⟩
  · exact .inl (List.eq_nil_of_length_eq_zero hn)
  · injection hv with hA _ _
    subst hA
    refine .inr ⟨_, rfl, (Array.getElem?_eq_some_iff.1 hg).1, fun j hj => ?_⟩
    refine h.cells (g := g) rfl j _ ?_
    unfold strs
    rw [List.getElem?_map, List.getElem?_eq_getElem hj, List.getD_eq_getElem?_getD, List.getElem?_eq_getElem hj]
    rfl
theorem own_strs {base e : Nat} {v : Value} (h : w.ownsRow base e 1 v ls.length (strs ls)) : ∃ A c, v = .slice A ls.length c := by
  rcases h.2 with ⟨hv, hn⟩ | ⟨g, cap, cur, hv, _⟩
  · exact ⟨none, 0, by rw [hv, hn]⟩
  · exact ⟨_, cap, hv⟩
theorem own_str_snoc {base e : Nat} {v : Value} {x : List UInt8} (h : w.ownsRow base e 1 v (ls.length + 1) (strs ls ++ [.string (str x)])) : w.ownsRow base e 1 v (ls ++ [x]).length (strs (ls ++ [x])) := by
  rw [strs_snoc, List.length_append]; exact h
end
/-- A literal slice of texts. -/
theorem lit_strs (W : World) (cs : Array Value) (ls : List (List UInt8)) (e : TypeId) (h : cs = (strs ls).toArray) : Strs (W.alloc (.cells cs e)) (W.heap.size + 1) (some ⟨W.heap.size, 0, none⟩) ls := by
  refine .inr ⟨_, rfl, by simp, fun j hj => ?_⟩
  rw [add_new, cell_of_row (W.alloc (.cells cs e)) W.heap.size j cs e (0, 0) (heap_alloc_new W _), h]
  simp [strs, List.getElem?_eq_getElem hj]
/-- A slice that holds the texts ls, in new memory that the call owns. -/
def GivesStrs (ls : List (List UInt8)) (w : World) (e : Ending) (w' : World) : Prop :=
  ∃ A c, e = .returned (.slice A ls.length c) ∧ w'.ownsRow w.heap.size 9 1 (.slice A ls.length c) ls.length (strs ls) ∧ Below w.heap.size w w'
theorem gives_strs {w w' : World} {B : Nat} {v : Value} {ls : List (List UInt8)} (h : w'.ownsRow B 9 1 v ls.length (strs ls)) (hB : w.heap.size ≤ B) (hb : Below w.heap.size w w') : GivesStrs ls w (.returned v) w' := by
  obtain ⟨A, c, rfl⟩ := own_strs h
  refine ⟨A, c, rfl, ⟨h.1, ?_⟩, hb⟩
  rcases h.2 with h2 | ⟨g, cap, cur, h1, h2, h3⟩
  · exact .inl h2
  · exact .inr ⟨g, cap, cur, h1, Nat.le_trans hB h2, h3⟩
end Go.Proofs.Ythdefnfpjbpbkaa
/- A region that draws its order, whose operations read, and whose calls may make memory: walked once, in the order of the text, in whatever world of a class. No program. -/
namespace Go.Proofs.Ythdefnfpjbpbkaa
open Go.RowKit

/-- A world that meets S. -/
structure In (S : World → Prop) where
  w : World
  h : S w
/-- The class of the worlds that meet S. -/
def Cls (S : World → Prop) (w' : World) : Prop := ∃ u : In S, w' = u.w
theorem cls_of {S : World → Prop} {w : World} (h : S w) : ∃ u : In S, w = u.w := ⟨⟨w, h⟩, rfl⟩
/-- A call behind which S holds. -/
theorem in_call {P : Program} {f : FuncId} {args : Array Value} {S : World → Prop} {u : In S} {v : Value} (h : Calls P f args u.w fun e w' => e = .returned v ∧ S w') :
    Calls P f args u.w fun e w'' => e = .returned v ∧ ∃ u' : In S, w'' = u'.w := h.mono fun _ _ ⟨he, hs⟩ => ⟨he, cls_of hs⟩
theorem region_in {P : Program} {S : World → Prop} {id : Nat} {Q : Exit → Act → World → Prop} {a : Act} {w : World} {l : List Oper} (hm : P.follows .mixedOrders = true) (hB : Region.lexB .any l.toArray = true) (h0 : S (w.drewN 1))
    (h : wpQuiet P l.toArray (fun w' => ∃ u : In S, w' = u.w) (fun a' => ∀ w', (∃ u : In S, w' = u.w) → Q .normal a' w') l a) : (Code.region id l.toArray true).wp P Q a w :=
  wp_region_quiet (C := fun w' => ∃ u : In S, w' = u.w) hm hB ⟨⟨_, h0⟩, rfl⟩ (by simpa using h)
end Go.Proofs.Ythdefnfpjbpbkaa
/- Small words for what a call answers. No program. -/
namespace Go.Proofs.Ythdefnfpjbpbkaa
open Go.RowKit Go.Lib

theorem ret_bool {a b : Bool} (h : a = b) : Ending.returned (.bool a) = .returned (.bool b) := by rw [h]
theorem ret_int {k : IntKind} {a b : Int} (h : a = b) : Ending.returned (.int k a) = .returned (.int k b) := by rw [h]
theorem bool_dec {b : Bool} {p : Prop} [Decidable p] (h : b = true ↔ p) : b = decide p := by
  rw [Bool.eq_iff_iff, h]; simp
theorem dec_false {p : Prop} [Decidable p] (h : ¬ p) : false = decide p := (decide_eq_false h).symm
theorem dec_true {p : Prop} [Decidable p] (h : p) : true = decide p := (decide_eq_true h).symm
theorem dec_dec {p q : Prop} [Decidable p] [Decidable q] (h : q ↔ p) : decide q = decide p := decide_eq_decide.2 h

theorem cell_lt {w : World} {a : Addr} {v : Value} (h : w.cell? a = some v) : a.block < w.heap.size := by
  rcases Nat.lt_or_ge a.block w.heap.size with hlt | hge
  · exact hlt
  · unfold World.cell? at h
    rw [Array.getElem?_eq_none hge] at h
    cases h
end Go.Proofs.Ythdefnfpjbpbkaa
/- Records in memory; blocks of the call's own. -/
namespace Go.Proofs.Ythdefnfpjbpbkaa.Rcd
open Go.RowKit Go.Lib

/-- Block g holds just these cells, and may be written. -/
def Blk (w : World) (g : Nat) (cs : Array Value) : Prop := ∃ T, w.heap[g]? = some (.cells cs T (0, 0))
section
variable {w w' : World} {g : Nat} {cs : Array Value}
theorem Blk.new (w : World) (T : TypeId) (cs : Array Value) : Blk (w.alloc (.cells cs T)) w.heap.size cs := ⟨T, heap_alloc_new w _⟩
theorem Blk.lt (h : Blk w g cs) : g < w.heap.size := by
  obtain ⟨T, h⟩ := h
  exact (Array.getElem?_eq_some_iff.1 h).1
theorem Blk.cell (h : Blk w g cs) (i : Nat) : w.cell? ⟨g, i, none⟩ = cs[i]? := by
  obtain ⟨T, h⟩ := h
  exact cell_of_row w g i cs T (0, 0) h
theorem Blk.frozen (h : Blk w g cs) (i : Nat) : w.frozen? ⟨g, i, none⟩ = false := by
  obtain ⟨T, h⟩ := h
  simp [World.frozen?, h]
theorem Blk.below (h : Blk w g cs) (hb : Below w.heap.size w w') : Blk w' g cs := by
  have hl := h.lt
  obtain ⟨T, h⟩ := h
  exact ⟨T, (hb.block g hl).trans h⟩
theorem Blk.drewN (h : Blk w g cs) (n : Nat) : Blk (w.drewN n) g cs := h
theorem Blk.alloc (h : Blk w g cs) (o : Obj) : Blk (w.alloc o) g cs := h.below ((Below.refl _ _).alloc (Nat.le_refl _) o)
theorem Blk.put (h : Blk w g cs) (i : Nat) (v : Value) : Blk (w.setCell ⟨g, i, none⟩ v) g (cs.setIfInBounds i v) := by
  obtain ⟨T, h⟩ := h
  exact ⟨T, by simp [World.setCell, Array.getElem?_modify, h]⟩
end

/-- The cells of a record. -/
def rcells (r : Rc) : List Value := [.int .i64 r.o, .int .i64 r.t, .string (str r.k), .string (str r.b), .int .i64 r.q, .bool r.g]
/-- The same, of what each is. -/
def rarr (o t : Int) (k b : ByteArray) (q : Int) (g : Bool) : Array Value := #[.int .i64 o, .int .i64 t, .string k, .string b, .int .i64 q, .bool g]
def ragg (r : Rc) : Value := .agg (rarr r.o r.t (str r.k) (str r.b) r.q r.g)
theorem rcells_arr (r : Rc) : (rcells r).toArray = rarr r.o r.t (str r.k) (str r.b) r.q r.g := rfl
/-- One record in memory. -/
structure RAt (w : World) (b o : Nat) (s : Rc) : Prop where
  c0 : w.cell? ⟨b, o, none⟩ = some (.int .i64 s.o)
  c1 : w.cell? ⟨b, o + 1, none⟩ = some (.int .i64 s.t)
  c2 : w.cell? ⟨b, o + 2, none⟩ = some (.string (str s.k))
  c3 : w.cell? ⟨b, o + 3, none⟩ = some (.string (str s.b))
  c4 : w.cell? ⟨b, o + 4, none⟩ = some (.int .i64 s.q)
  c5 : w.cell? ⟨b, o + 5, none⟩ = some (.bool s.g)
/-- The slice at A holds the records l, in a block below B. -/
def RecsAt (w : World) (B : Nat) (A : Option Addr) (l : List Rc) : Prop :=
  l = [] ∨ ∃ b o, A = some ⟨b, o, none⟩ ∧ b < B ∧ ∀ j (h : j < l.length), RAt w b (o + j * 6) l[j]
section
variable {w w' : World} {B B' : Nat} {A : Option Addr} {l : List Rc}
theorem RAt.keep {b o : Nat} {s : Rc} (h : RAt w b o s) (hk : ∀ i, w'.cell? ⟨b, i, none⟩ = w.cell? ⟨b, i, none⟩) : RAt w' b o s :=
  ⟨(hk _).trans h.c0, (hk _).trans h.c1, (hk _).trans h.c2, (hk _).trans h.c3, (hk _).trans h.c4, (hk _).trans h.c5⟩
theorem RecsAt.none_ : RecsAt w B A [] := .inl rfl
theorem RecsAt.some_ (h : RecsAt w B A l) (hl : 0 < l.length) : ∃ b o, A = some ⟨b, o, none⟩ ∧ b < B ∧ ∀ j (h : j < l.length), RAt w b (o + j * 6) l[j] := by
  rcases h with rfl | h
  · simp at hl
  · exact h
theorem RecsAt.keep (h : RecsAt w B A l) (hk : ∀ p : Addr, p.block < B → w'.cell? p = w.cell? p) : RecsAt w' B A l := by
  rcases h with h | ⟨b, o, h1, h2, h3⟩
  · exact .inl h
  · exact .inr ⟨b, o, h1, h2, fun j hj => (h3 j hj).keep fun i => hk ⟨b, i, none⟩ h2⟩
theorem RecsAt.mono (h : RecsAt w B A l) (hB : B ≤ B') : RecsAt w B' A l := by
  rcases h with h | ⟨b, o, h1, h2, h3⟩
  · exact .inl h
  · exact .inr ⟨b, o, h1, Nat.lt_of_lt_of_le h2 hB, h3⟩
theorem RecsAt.below (h : RecsAt w B A l) (hb : Below B w w') : RecsAt w' B A l := h.keep fun _ hp => hb.cell hp
theorem RecsAt.on (h : RecsAt w w.heap.size A l) (hb : Below w.heap.size w w') : RecsAt w' w'.heap.size A l := (h.below hb).mono hb.size
theorem RecsAt.drewN (h : RecsAt w B A l) (n : Nat) : RecsAt (w.drewN n) B A l := h.keep fun _ _ => rfl
theorem RecsAt.alloc (h : RecsAt w B A l) (hB : B ≤ w.heap.size) (o : Obj) : RecsAt (w.alloc o) B A l := h.keep fun p hp => World.cell?_alloc_lt w o p (by omega)
end
def flat (l : List Rc) : List Value := l.flatMap rcells
theorem flat_cons (s : Rc) (l : List Rc) : flat (s :: l) = rcells s ++ flat l := by unfold flat; rw [List.flatMap_cons]
theorem flat_len (l : List Rc) : (flat l).length = l.length * 6 := by
  induction l with
  | nil => rfl
  | cons p t ih => rw [flat_cons, List.length_append, ih]; show 6 + _ = (t.length + 1) * 6; omega
theorem flat_snoc (l : List Rc) (p : Rc) : flat (l ++ [p]) = flat l ++ rcells p := by unfold flat; rw [List.flatMap_append]; simp
theorem flat_app (l m : List Rc) : flat (l ++ m) = flat l ++ flat m := by unfold flat; rw [List.flatMap_append]
theorem flat_at (l : List Rc) (j i : Nat) (hj : j < l.length) (hi : i < 6) : (flat l)[j * 6 + i]? = (rcells l[j])[i]? := by
  induction l generalizing j with
  | nil => simp at hj
  | cons p t ih =>
    rw [flat_cons]
    cases j with
    | zero =>
      rw [List.getElem?_append_left (by show _ < 6; omega)]
      simp
    | succ m =>
      rw [List.getElem?_append_right (by show 6 ≤ _; omega)]
      have : (m + 1) * 6 + i - (rcells p).length = m * 6 + i := by show _ - 6 = _; omega
      rw [this]
      exact ih m (by simpa using hj)
theorem one_cells (p : Rc) : ∀ u ∈ rcells p, u.oneCell' = true := by
  have h : (rcells p).all (fun u => u.oneCell') = true := rfl
  exact List.all_eq_true.1 h
theorem flat_one : ∀ (l : List Rc), ∀ u ∈ flat l, u.oneCell' = true
  | [], u, h => by simp [flat] at h
  | s :: l, u, h => by
    rw [flat_cons] at h
    rcases List.mem_append.1 h with h | h
    · exact one_cells s u h
    · exact flat_one l u h
/-- Cells that hold the records, one behind the other. -/
theorem RecsAt.of_cells {w : World} {B g : Nat} {l : List Rc} (hg : g < B) (key : ∀ j u, (flat l)[j]? = some u → w.cell? ⟨g, j, none⟩ = some u) : RecsAt w B (some ⟨g, 0, none⟩) l := by
  refine .inr ⟨g, 0, rfl, hg, fun j hj => ?_⟩
  have hz : ∀ i u, i < 6 → (rcells l[j])[i]? = some u → w.cell? ⟨g, 0 + j * 6 + i, none⟩ = some u := fun i u hi hu => by
    rw [Nat.zero_add]
    exact key (j * 6 + i) u (by rw [flat_at l j i hj hi]; exact hu)
  exact ⟨hz 0 _ (by omega) rfl, hz 1 _ (by omega) rfl, hz 2 _ (by omega) rfl, hz 3 _ (by omega) rfl, hz 4 _ (by omega) rfl, hz 5 _ (by omega) rfl⟩
/-- A row of records of the call's own. -/
theorem RecsAt.of_own {w : World} {base e c : Nat} {A : Option Addr} {l : List Rc} (h : w.ownsRow base e 6 (.slice A l.length c) l.length (flat l)) : RecsAt w w.heap.size A l := by
  rcases h.2 with ⟨hv, hn⟩ | ⟨g, cap, cur, hv, _, hg, hle, _, hsz, htk⟩
  · exact .inl (List.eq_nil_of_length_eq_zero hn)
  · injection hv with hA _ _
    subst hA
    have key := h.cells (g := g) rfl
    refine .of_cells (Array.getElem?_eq_some_iff.1 hg).1 fun j u hu => ?_
    have := key j u hu
    rwa [add_new] at this
theorem own_slice {w : World} {base e : Nat} {v : Value} {l : List Rc} (h : w.ownsRow base e 6 v l.length (flat l)) : ∃ A c, v = .slice A l.length c := by
  rcases h.2 with ⟨hv, hn⟩ | ⟨g, cap, cur, hv, _⟩
  · exact ⟨none, 0, by rw [hv, hn]⟩
  · exact ⟨_, cap, hv⟩
theorem own_cap {w : World} {B e c : Nat} {A : Option Addr} {l : List Rc} (h : w.ownsRow B e 6 (.slice A l.length c) l.length (flat l)) : l.length ≤ c := by
  rcases h.2 with ⟨hv, hn⟩ | ⟨g, cap, cur, hv, _, _, hle, _⟩
  · omega
  · injection hv with _ _ hc
    omega
theorem cells_new (w : World) (T : TypeId) (cs : List Value) (j : Nat) (u : Value) (h : cs[j]? = some u) : (w.alloc (.cells cs.toArray T)).cell? ((⟨w.heap.size, 0, none⟩ : Addr).add j) = some u := by
  rw [add_new, cell_of_row (w.alloc _) w.heap.size j _ _ (0, 0) (heap_alloc_new w _)]
  simpa using h
/-- Records in a row of the call's own. -/
def GivesRecs (l : List Rc) (w : World) (e : Ending) (w' : World) : Prop := ∃ A c, e = .returned (.slice A l.length c) ∧ w'.ownsRow w.heap.size 46 6 (.slice A l.length c) l.length (flat l) ∧ Below w.heap.size w w'
/-- The first few. -/
theorem RecsAt.take {w : World} {B : Nat} {A : Option Addr} {l : List Rc} (h : RecsAt w B A l) (k : Nat) : RecsAt w B A (l.take k) := by
  rcases h with rfl | ⟨b, o, h1, h2, h3⟩
  · exact .inl (by simp)
  · refine .inr ⟨b, o, h1, h2, fun j hj => ?_⟩
    have hl : j < l.length := by rw [List.length_take] at hj; omega
    rw [List.getElem_take]
    exact h3 j hl
end Go.Proofs.Ythdefnfpjbpbkaa.Rcd
/- A variable read whole: one operation of a quiet walk, by the law of its reading. No program. -/
namespace Go.Proofs.Ythdefnfpjbpbkaa
open Go.RowKit

theorem quiet_load {P : Program} {o : Oper} {a : Act} {C : World → Prop} {K : Act → Prop} (ty : TypeId) (x : Operand) (ho : o.op = .load ty x) (b off : Nat) (hx : a.eval x = .pointer (some ⟨b, off, none⟩)) (V : Value)
    (hv : ∀ w, C w → (loadVar ty ⟨b, off, none⟩).run P w = .ok V w) (h : K (a.put o.dst V)) : o.quiet P a C K := by
  refine ⟨V, fun w hw => ?_, h⟩
  unfold Oper.quietAt execOp
  simp only [ho, hx, Instr.loadAt, Instr.sureAddr, Sem.run_bind, Sem.run_pure, Result.andThen_ok, hv w hw]
  exact ⟨rfl, rfl⟩
theorem quiet_load_in {P : Program} {o : Oper} {a : Act} {S : World → Prop} {K : Act → Prop} (ty : TypeId) (x : Operand) (ho : o.op = .load ty x) (b off : Nat) (hx : a.eval x = .pointer (some ⟨b, off, none⟩)) (V : Value)
    (hv : ∀ u : In S, (loadVar ty ⟨b, off, none⟩).run P u.w = .ok V u.w) (h : K (a.put o.dst V)) : o.quiet P a (fun w' => ∃ u : In S, w' = u.w) K :=
  quiet_load ty x ho b off hx V (fun w ⟨u, hu⟩ => by rw [hu]; exact hv u) h
theorem wp_load_one {P : Program} {op : Oper} {a : Act} {w : World} {K : Act → World → Prop} {Q : Exit → Act → World → Prop} (ty : TypeId) (x : Operand) (ho : op.op = .load ty x) (b off : Nat) (hx : a.eval x = .pointer (some ⟨b, off, none⟩)) (V : Value)
    (hv : (loadVar ty ⟨b, off, none⟩).run P w = .ok V w) (h : K (a.put op.dst V) w) : op.wp P a w K Q := by
  unfold Oper.wp execOp
  simp only [ho, hx, Instr.loadAt, Instr.sureAddr, Sem.run_bind, Sem.run_pure, Result.andThen_ok, hv]
  exact h
theorem wpList_load_one {P : Program} {ops : Array Oper} {rest : List Oper} {op : Oper} {a : Act} {w : World} {Q : Exit → Act → World → Prop} (hgd : op.guard = none) (ty : TypeId) (x : Operand) (ho : op.op = .load ty x) (b off : Nat)
    (hx : a.eval x = .pointer (some ⟨b, off, none⟩)) (V : Value) (hv : (loadVar ty ⟨b, off, none⟩).run P w = .ok V w) (h : wpList P ops Q rest (a.put op.dst V) w) : wpList P ops Q (op :: rest) a w :=
  wpList_plain hgd fun _ hK => wp_load_one ty x ho b off hx V hv (hK _ _ h)
end Go.Proofs.Ythdefnfpjbpbkaa
/- A record read, written, handed back whole. -/
namespace Go.Proofs.Ythdefnfpjbpbkaa.Rcd
open Go.RowKit Go.Lib

theorem info_rec : (Try.prog.info? 46).map (·.size) = some 6 := by kernel_rfl
theorem info_more : (Try.prog.info? 46).map (fun i => (i.zero, i.size, i.bytes)) = some (some (.agg #[.int .i64 0, .int .i64 0, .string ⟨#[]⟩, .string ⟨#[]⟩, .int .i64 0, .bool false]), 6, 64) := by kernel_rfl
def zcells : Array Value := #[.int .i64 0, .int .i64 0, .string ⟨#[]⟩, .string ⟨#[]⟩, .int .i64 0, .bool false]
section
variable {W : World} {g : Nat} {cs : Array Value}
theorem load_blk (h : Blk W g cs) (h9 : cs.size = 6) : (loadVar 46 ⟨g, 0, none⟩).run Try.prog W = .ok (.agg cs) W :=
  run_loadVar_mid W g 0 46 cs.toList _ (fun j v hv => by rw [Nat.zero_add, h.cell j]; rw [← hv]; simp) Try.underlying46 rfl (by rw [info_rec]; simp [h9])
theorem load_at {o : Nat} {s : Rc} (h : RAt W g o s) : (loadVar 46 ⟨g, o, none⟩).run Try.prog W = .ok (ragg s) W :=
  run_loadVar_mid W g o 46 (rcells s) _ (fun j v hv => by
    match j, hv with
    | 0, hv => rw [← hv]; exact h.c0
    | 1, hv => rw [← hv]; exact h.c1
    | 2, hv => rw [← hv]; exact h.c2
    | 3, hv => rw [← hv]; exact h.c3
    | 4, hv => rw [← hv]; exact h.c4
    | 5, hv => rw [← hv]; exact h.c5) Try.underlying46 rfl info_rec
theorem one_arr (o t : Int) (k b : ByteArray) (q : Int) (g : Bool) : (rarr o t k b q g).all (·.oneCell') = true := by simp [rarr, Value.oneCell']
theorem one_zero : zcells.all (·.oneCell') = true := by simp [zcells, Value.oneCell']
theorem one_sub (s : Rc) : (rcells s).toArray.all (·.oneCell') = true := by
  rw [Array.all_eq_true']
  exact fun u hu => one_cells s u (by simpa using hu)
end
section
variable {P : Program} {ops : Array Oper} {rest : List Oper} {op : Oper} {a : Act} {w : World} {K : Act → World → Prop} {Q : Exit → Act → World → Prop}
/-- A wanted load. -/
theorem wpList_load_any (hw : Region.wanted op (yielded ops a.tmps) = true) (ty : TypeId) (x : Operand) (ho : op.op = .load ty x) (b off : Nat)
    (hx : a.eval x = .pointer (some ⟨b, off, none⟩)) (V : Value) (hv : (loadVar ty ⟨b, off, none⟩).run P w = .ok V w) (h : wpList P ops Q rest (a.put op.dst V) w) : wpList P ops Q (op :: rest) a w := by
  simp only [wpList]
  rw [if_pos hw]
  exact .inl (wp_load_one ty x ho b off hx V hv h)
/-- A store of a whole row. -/
theorem wpList_store_whole (hgd : op.guard = none) (ty : TypeId) (x y : Operand) (ho : op.op = .store ty x y) (g : Nat) (cells : Array Value) (hx : a.eval x = .pointer (some ⟨g, 0, none⟩)) (hy : a.eval y = .agg cells)
    (old : Array Value) (hg : Blk w g old) (hi : (P.info? ty).map (·.size) = some cells.size) (hold : old.size = cells.size) (h1 : cells.all (·.oneCell') = true)
    (h : wpList P ops Q rest (a.put op.dst undef) (w.setRow g cells)) : wpList P ops Q (op :: rest) a w := by
  obtain ⟨T, hg⟩ := hg
  exact wpList_plain hgd fun _ hK => wp_store_row ty x y ho g cells hx hy T old hg hi hold h1 (hK _ _ h)
end
section
variable {w W : World} {g : Nat} {cs : Array Value}
theorem Blk.row (h : Blk w g cs) (ds : Array Value) : Blk (w.setRow g ds) g ds := by
  obtain ⟨T, h⟩ := h
  exact ⟨T, setRow_heap w g cs ds T _ h⟩
theorem below_row (hb : Below w.heap.size w W) (hg : w.heap.size ≤ g) (ds : Array Value) : Below w.heap.size w (W.setRow g ds) :=
  ⟨hb.os, hb.tape, hb.output, by have := hb.size; simpa using this, fun k hk => by rw [setRow_other W g k ds (by omega)]; exact hb.block k hk⟩
theorem Blk.far {p : Addr} (k : Blk W g cs) (hp : g ≠ p.block) (v : Value) : Blk (W.setCell p v) g cs := by
  obtain ⟨T, h⟩ := k
  exact ⟨T, (Below.heap_setCell W p v g hp).trans h⟩
theorem RecsAt.row {B : Nat} {A : Option Addr} {l : List Rc} (h : RecsAt W B A l) (hg : B ≤ g) (ds : Array Value) : RecsAt (W.setRow g ds) B A l :=
  h.keep fun p hp => World.cell?_of_block (setRow_other W g p.block ds (by omega))
end
/-- A record handed back. -/
theorem results_rec {fn : Func} {tmps : Array Value} {w : World} {c g : Nat} {cs : Array Value} (hr : fn.results = #[.cell c 46]) (h0 : tmps.getD c undef = .pointer (some ⟨g, 0, none⟩)) (hb : Blk w g cs) (h9 : cs.size = 6) :
    (results fn tmps).run Try.prog w = .ok (.agg cs) w := by
  unfold results
  rw [hr]
  simp only [List.mapM_toArray, List.mapM_cons, List.mapM_nil, h0, asAddr, Sem.run_bind, Sem.run_pure, Result.andThen_ok, bind_assoc, pure_bind, map_bind, map_pure, load_blk hb h9]
  rfl
theorem results_rec2 {fn : Func} {tmps : Array Value} {w : World} {c i g : Nat} {cs : Array Value} {u : Value} (hr : fn.results = #[.cell c 46, .tmp i]) (h0 : tmps.getD c undef = .pointer (some ⟨g, 0, none⟩)) (hb : Blk w g cs) (h9 : cs.size = 6) (h1 : tmps.getD i undef = u) :
    (results fn tmps).run Try.prog w = .ok (.tuple #[.agg cs, u]) w := by
  unfold results
  rw [hr]
  simp only [List.mapM_toArray, List.mapM_cons, List.mapM_nil, h0, h1, asAddr, Sem.run_bind, Sem.run_pure, Result.andThen_ok, bind_assoc, pure_bind, map_bind, map_pure, load_blk hb h9]
  rfl
theorem results_rec3 {fn : Func} {tmps : Array Value} {w : World} {c i j g : Nat} {cs : Array Value} {u v : Value} (hr : fn.results = #[.cell c 46, .tmp i, .tmp j]) (h0 : tmps.getD c undef = .pointer (some ⟨g, 0, none⟩)) (hb : Blk w g cs) (h9 : cs.size = 6) (h1 : tmps.getD i undef = u) (h2 : tmps.getD j undef = v) :
    (results fn tmps).run Try.prog w = .ok (.tuple #[.agg cs, u, v]) w := by
  unfold results
  rw [hr]
  simp only [List.mapM_toArray, List.mapM_cons, List.mapM_nil, h0, h1, h2, asAddr, Sem.run_bind, Sem.run_pure, Result.andThen_ok, bind_assoc, pure_bind, map_bind, map_pure, load_blk hb h9]
  rfl
end Go.Proofs.Ythdefnfpjbpbkaa.Rcd
/- Bits that have nothing in common, as sums; rows of bytes of the call's own; the words of numbers taken. -/
namespace Go.Proofs.Ythdefnfpjbpbkaa
open Go.RowKit Go.Lib Vbi

theorem ofInt_i64 (a : Nat) (ha : a < 9223372036854775808) : (BitVec.ofInt 64 (a : Int)).toNat = a := by
  rw [BitVec.ofInt_natCast, BitVec.toNat_ofNat]; exact Nat.mod_eq_of_lt (by omega)
theorem i64_or_nat (a b : Nat) (ha : a < 9223372036854775808) (hb : b < 9223372036854775808) : bits .or .i64 (a : Int) (b : Int) = ((a ||| b : Nat) : Int) := by
  have hx : a ||| b < 2 ^ 63 := Nat.or_lt_two_pow (by omega) (by omega)
  show IntKind.i64.wrap ((BitVec.ofInt 64 (a : Int) ||| BitVec.ofInt 64 (b : Int)).toNat : Int) = _
  rw [BitVec.toNat_or, ofInt_i64 a ha, ofInt_i64 b hb]
  unfold IntKind.wrap
  simp [IntKind.bits, IntKind.signed]
  omega
/-- Bits that have nothing in common. -/
theorem i64_or_add (a b k : Nat) (ha : a < 2 ^ k) (hk : k ≤ 40) (hb : b * 2 ^ k < 9223372036854775808) : bits .or .i64 (a : Int) ((b * 2 ^ k : Nat) : Int) = ((a + b * 2 ^ k : Nat) : Int) := by
  have h2 : (2 : Nat) ^ k ≤ 2 ^ 40 := Nat.pow_le_pow_right (by decide) hk
  rw [i64_or_nat a _ (by omega) hb, Nat.or_comm, Nat.mul_comm b, ← Nat.two_pow_add_eq_or_of_lt ha, Nat.add_comm]

theorem data_at (s : ByteArray) (k : Nat) (h : k < s.size) : s.data.toList.drop k = s[k] :: s.data.toList.drop (k + 1) := by
  rw [List.drop_eq_getElem_cons (by simpa using h)]; rfl
theorem data_end (s : ByteArray) (k : Nat) (h : s.size ≤ k) : s.data.toList.drop k = [] := List.drop_of_length_le (by rw [← Lib.size_eq]; exact h)
theorem i64_or8 (m c : Nat) (hm : m < 16777216) (hc : c < 256) : bits .or .i64 ((m : Int) * 256) (c : Int) = ((m * 256 + c : Nat) : Int) := by
  have h := i64_or_nat (m * 256) c (by omega) (by omega)
  rw [Nat.mul_comm m 256, show (256 : Nat) = 2 ^ 8 from rfl, ← Nat.two_pow_add_eq_or_of_lt (by omega)] at h
  rw [show ((m : Int) * 256) = ((2 ^ 8 * m : Nat) : Int) by omega, h]
  omega

@[irreducible] def TfOk (wd : Nat) (l : List UInt8) (w : World) (e : Ending) (w' : World) : Prop := e = .returned (.tuple #[.int .i64 (tfVal wd l), .int .i64 (tfErr wd l)]) ∧ w' = w
theorem tf_ok {wd : Nat} {l : List UInt8} {w : World} {a b : Int} (h : tfVal wd l = a) (h2 : tfErr wd l = b) : TfOk wd l w (.returned (.tuple #[.int .i64 a, .int .i64 b])) w := by
  unfold TfOk; rw [h, h2]; exact ⟨rfl, rfl⟩
@[irreducible] def RTfOk (wd : Nat) (l : List UInt8) (w : World) (e : Ending) (w' : World) : Prop := e = .returned (.tuple #[.int .i64 (tfVal wd l), .bool (decide (tfErr wd l = 0))]) ∧ w' = w
theorem rtf_ok {wd : Nat} {l : List UInt8} {w : World} {a b : Int} {c : Bool} (h : tfVal wd l = a) (h2 : tfErr wd l = b) (h3 : decide (b = 0) = c) : RTfOk wd l w (.returned (.tuple #[.int .i64 a, .bool c])) w := by
  unfold RTfOk; rw [h, h2, h3]; exact ⟨rfl, rfl⟩
theorem tf_cut {wd : Nat} {l : List UInt8} (h : l.length < wd) : tfVal wd l = 0 ∧ tfErr wd l = 7 := by
  unfold tfVal tfErr; rw [if_pos h, if_pos h]; exact ⟨rfl, rfl⟩
theorem tf_good {wd : Nat} {l : List UInt8} (h : wd ≤ l.length) : tfVal wd l = (fixVal (l.take wd) : Nat) ∧ tfErr wd l = 0 := by
  unfold tfVal tfErr; rw [if_neg (by omega), if_neg (by omega)]; exact ⟨rfl, rfl⟩
theorem take_drop_at (s : ByteArray) (wd k : Nat) (hk : k < wd) (h : wd ≤ s.size) : (s.data.toList.take wd).drop k = (s[k]'(by omega)) :: (s.data.toList.take wd).drop (k + 1) := by
  have hl : k < (s.data.toList.take wd).length := by rw [List.length_take, ← Lib.size_eq]; omega
  rw [List.drop_eq_getElem_cons hl, List.getElem_take]; rfl
theorem take_drop_end (s : ByteArray) (wd : Nat) : (s.data.toList.take wd).drop wd = [] := List.drop_of_length_le (by rw [List.length_take]; omega)
theorem pow_lt24 {m k : Nat} (hm : m < 256 ^ k) (hk : k < 4) : m < 16777216 := by
  have : 256 ^ k ≤ 256 ^ 3 := Nat.pow_le_pow_right (by decide) (by omega)
  omega
theorem pow_next {m k c : Nat} (hm : m < 256 ^ k) (hc : c < 256) : m * 256 + c < 256 ^ (k + 1) := by
  rw [Nat.pow_succ]; omega

theorem info_byte : (Try.prog.info? 5).map (fun i => (i.zero, i.size, i.bytes)) = some (some (.int .u8 0), 1, 1) := by kernel_rfl
theorem conv_bytes {w : World} {B : Nat} {v : Value} {zs : List Int} (h : w.ownsRow B 5 1 v zs.length (zs.map (Value.int .u8))) : (convert 115 9 v).run Try.prog w = .ok (.string (strOfNums zs)) w := by
  rcases h.2 with ⟨rfl, hn⟩ | ⟨g, cap, cur, rfl, _⟩
  · have : zs = [] := List.eq_nil_of_length_eq_zero hn
    subst this
    exact run_convert_bytes_nil w 115 5 Try.underlying115 Try.underlying5 0 0 9 Try.underlying9
  · refine run_convert_bytes_arg w 115 5 Try.underlying115 Try.underlying5 g 0 zs.length cap zs rfl (fun i hi => ?_) 9 Try.underlying9
    have := h.cells (g := g) rfl i (.int .u8 (zs.getD i 0)) (by simp [List.getElem?_eq_getElem hi])
    rw [add_new] at this
    rw [Nat.zero_add]; exact this

theorem fixZ_step (zs : List Int) (k n : Nat) (x : Int) (hx : ((n / 256 ^ k % 256 : Nat) : Int) = x) : zs ++ fixZ (k + 1) n = (zs ++ [x]) ++ fixZ k n := by
  rw [← hx]
  show zs ++ (((n / 256 ^ k % 256 : Nat) : Int) :: fixZ k n) = _
  simp
end Go.Proofs.Ythdefnfpjbpbkaa
