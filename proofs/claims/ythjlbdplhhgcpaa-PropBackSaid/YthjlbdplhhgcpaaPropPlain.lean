/- Plain facts on properties: their kinds, where they may stand, which may be. No run of a program is in this file. -/
import Derived.Test.YthjlbdplhhgcpaaVbiPlainBack
namespace Go.Proofs.Ythjlbdplhhgcpaa.Prp
open Go.Lib Vbi

/-- A property: its ID, a number, two texts. -/
structure P where
  id : Int
  n : Int
  s : ByteArray
  v : ByteArray

def kindZ (id : Int) : Int :=
  if id = 1 ∨ id = 23 ∨ id = 25 ∨ id = 36 ∨ id = 37 ∨ id = 40 ∨ id = 41 ∨ id = 42 then 1
  else if id = 19 ∨ id = 33 ∨ id = 34 ∨ id = 35 then 2
  else if id = 2 ∨ id = 17 ∨ id = 24 ∨ id = 39 then 3
  else if id = 11 then 4
  else if id = 3 ∨ id = 8 ∨ id = 18 ∨ id = 21 ∨ id = 26 ∨ id = 28 ∨ id = 31 then 5
  else if id = 9 ∨ id = 22 then 6
  else if id = 38 then 7 else 0
/-- No ID of those that are. -/
def NoId (id : Int) : Prop := (id ≠ 1 ∧ id ≠ 23 ∧ id ≠ 25 ∧ id ≠ 36 ∧ id ≠ 37 ∧ id ≠ 40 ∧ id ≠ 41 ∧ id ≠ 42) ∧ (id ≠ 19 ∧ id ≠ 33 ∧ id ≠ 34 ∧ id ≠ 35) ∧ (id ≠ 2 ∧ id ≠ 17 ∧ id ≠ 24 ∧ id ≠ 39) ∧ id ≠ 11 ∧
  (id ≠ 3 ∧ id ≠ 8 ∧ id ≠ 18 ∧ id ≠ 21 ∧ id ≠ 26 ∧ id ≠ 28 ∧ id ≠ 31) ∧ (id ≠ 9 ∧ id ≠ 22) ∧ id ≠ 38
theorem kind_cases (id : Int) : (id = 1 ∨ id = 23 ∨ id = 25 ∨ id = 36 ∨ id = 37 ∨ id = 40 ∨ id = 41 ∨ id = 42) ∨ (id = 19 ∨ id = 33 ∨ id = 34 ∨ id = 35) ∨ (id = 2 ∨ id = 17 ∨ id = 24 ∨ id = 39) ∨ id = 11 ∨
    (id = 3 ∨ id = 8 ∨ id = 18 ∨ id = 21 ∨ id = 26 ∨ id = 28 ∨ id = 31) ∨ (id = 9 ∨ id = 22) ∨ id = 38 ∨ NoId id := by
  unfold NoId; omega
theorem kind_none {id : Int} (h : NoId id) : kindZ id = 0 := by
  obtain ⟨h1, h2, h3, h4, h5, h6, h7⟩ := h
  unfold kindZ
  rw [if_neg (by omega), if_neg (by omega), if_neg (by omega), if_neg (by omega), if_neg (by omega), if_neg (by omega), if_neg (by omega)]
theorem kind_range (id : Int) : 0 ≤ kindZ id ∧ kindZ id ≤ 7 := by
  unfold kindZ; repeat' split
  all_goals omega
theorem kind_zero {id : Int} (h : kindZ id = 0) : NoId id := by
  rcases kind_cases id with c | c | c | c | c | c | c | c
  · rcases c with rfl | rfl | rfl | rfl | rfl | rfl | rfl | rfl <;> cases h
  · rcases c with rfl | rfl | rfl | rfl <;> cases h
  · rcases c with rfl | rfl | rfl | rfl <;> cases h
  · subst c; cases h
  · rcases c with rfl | rfl | rfl | rfl | rfl | rfl | rfl <;> cases h
  · rcases c with rfl | rfl <;> cases h
  · subst c; cases h
  · exact c
def kindErr (id : Int) : Int := if kindZ id = 0 then 3 else 0

/-! ### where they may stand -/
def placeB (place : Int) : Bool := decide (0 ≤ place ∧ place ≤ 15)
def standL (place : Int) : List Int :=
  if place = 0 then [1, 2, 3, 8, 9, 24, 38]
  else if place = 1 then [17, 21, 22, 23, 25, 33, 34, 38, 39]
  else if place = 2 then [17, 18, 19, 21, 22, 26, 28, 31, 33, 34, 36, 37, 38, 39, 40, 41, 42]
  else if place = 3 then [1, 2, 3, 8, 9, 11, 35, 38]
  else if place = 4 ∨ place = 5 ∨ place = 6 ∨ place = 7 ∨ place = 9 ∨ place = 11 then [31, 38]
  else if place = 8 then [11, 38]
  else if place = 10 then [38]
  else if place = 14 then [17, 28, 31, 38]
  else if place = 15 then [21, 22, 31, 38] else []
def standB (place id : Int) : Bool := (standL place).contains id
theorem place_cases (place : Int) : place = 0 ∨ place = 1 ∨ place = 2 ∨ place = 3 ∨ (place = 4 ∨ place = 5 ∨ place = 6 ∨ place = 7 ∨ place = 9 ∨ place = 11) ∨ place = 8 ∨ place = 10 ∨ place = 14 ∨ place = 15 ∨
    (place ≠ 0 ∧ place ≠ 1 ∧ place ≠ 2 ∧ place ≠ 3 ∧ (place ≠ 4 ∧ place ≠ 5 ∧ place ≠ 6 ∧ place ≠ 7 ∧ place ≠ 9 ∧ place ≠ 11) ∧ place ≠ 8 ∧ place ≠ 10 ∧ place ≠ 14 ∧ place ≠ 15) := by omega
theorem stand_none {place : Int} (h : place ≠ 0 ∧ place ≠ 1 ∧ place ≠ 2 ∧ place ≠ 3 ∧ (place ≠ 4 ∧ place ≠ 5 ∧ place ≠ 6 ∧ place ≠ 7 ∧ place ≠ 9 ∧ place ≠ 11) ∧ place ≠ 8 ∧ place ≠ 10 ∧ place ≠ 14 ∧ place ≠ 15) : standL place = [] := by
  obtain ⟨h1, h2, h3, h4, h5, h6, h7, h8, h9⟩ := h
  unfold standL
  rw [if_neg h1, if_neg h2, if_neg h3, if_neg h4, if_neg (by omega), if_neg h6, if_neg h7, if_neg h8, if_neg h9]
theorem stand_kind {place id : Int} (h : standB place id = true) : kindZ id ≠ 0 := by
  have key : ∀ l : List Int, (∀ x ∈ l, kindZ x ≠ 0) → l.contains id = true → kindZ id ≠ 0 := fun l hl hc => hl id (by simpa using hc)
  unfold standB at h
  rcases place_cases place with rfl | rfl | rfl | rfl | c | rfl | rfl | rfl | rfl | c
  · exact key _ (by decide) h
  · exact key _ (by decide) h
  · exact key _ (by decide) h
  · exact key _ (by decide) h
  · rcases c with rfl | rfl | rfl | rfl | rfl | rfl <;> exact key _ (by decide) h
  · exact key _ (by decide) h
  · exact key _ (by decide) h
  · exact key _ (by decide) h
  · exact key _ (by decide) h
  · rw [stand_none c] at h; cases h
def repB (place id : Int) : Bool := decide (id = 38 ∨ (id = 11 ∧ place = 3))
def twiceB (place id : Int) (l : List P) : Bool := !repB place id && l.any fun q => decide (q.id = id)

/-! ### which may be -/
def noZ (id : Int) : Prop := id = 11 ∨ id = 33 ∨ id = 35 ∨ id = 39
instance (id : Int) : Decidable (noZ id) := by unfold noZ; exact inferInstance
def haveB (id n : Int) : Bool := if noZ id then decide (n ≠ 0) else decide (kindZ id ≠ 1 ∨ n = 0 ∨ n = 1)
def textB (s : ByteArray) : Bool := decide (loErr true s = 0)
def binB (s : ByteArray) : Bool := decide (s.size ≤ 1024)
/-- Is the value one of kind k (a byte: 0 or 1), and nothing beside it? -/
def valB (k : Int) (p : P) : Bool :=
  if k = 1 then decide ((p.n = 0 ∨ p.n = 1) ∧ p.s = ⟨#[]⟩ ∧ p.v = ⟨#[]⟩)
  else if k = 2 then decide ((0 ≤ p.n ∧ p.n < 65536) ∧ p.s = ⟨#[]⟩ ∧ p.v = ⟨#[]⟩)
  else if k = 3 then decide ((0 ≤ p.n ∧ p.n < 4294967296) ∧ p.s = ⟨#[]⟩ ∧ p.v = ⟨#[]⟩)
  else if k = 4 then decide ((0 ≤ p.n ∧ p.n < 268435456) ∧ p.s = ⟨#[]⟩ ∧ p.v = ⟨#[]⟩)
  else if k = 5 then decide (p.n = 0 ∧ textB p.s = true ∧ p.v = ⟨#[]⟩)
  else if k = 6 then decide (p.n = 0 ∧ binB p.s = true ∧ p.v = ⟨#[]⟩)
  else decide (p.n = 0 ∧ textB p.s = true ∧ textB p.v = true)
def valStr (k : Int) (p : P) : ByteArray :=
  if k = 1 then strOfNums [p.n]
  else if k = 2 then strOfNums (fixZ 2 p.n.toNat)
  else if k = 3 then strOfNums (fixZ 4 p.n.toNat)
  else if k = 4 then strOfNums (numZ p.n.toNat)
  else if k = 5 ∨ k = 6 then strOfNums (fixZ 2 p.s.size) ++ p.s
  else (strOfNums (fixZ 2 p.s.size) ++ p.s) ++ (strOfNums (fixZ 2 p.v.size) ++ p.v)
def oneStr (p : P) : ByteArray := strOfNums [p.id] ++ valStr (kindZ p.id) p
def restStr (l : List P) : ByteArray := l.foldl (fun a p => a ++ oneStr p) ⟨#[]⟩
theorem rest_snoc (l : List P) (p : P) : restStr (l ++ [p]) = restStr l ++ oneStr p := by unfold restStr; rw [List.foldl_append]; rfl
def propStr (l : List P) : ByteArray := strOfNums (numZ (restStr l).size) ++ restStr l
def fitsB (p : P) : Bool := decide (kindZ p.id ≠ 0) && (decide (¬ (noZ p.id ∧ p.n = 0)) && valB (kindZ p.id) p)
/-- May one follow others, as far as ID and number tell? -/
def mayB (place : Int) (a : List P) (p : P) : Bool := standB place p.id && (haveB p.id p.n && !twiceB place p.id a)
def goodB (place : Int) (a : List P) (p : P) : Bool := standB place p.id && (fitsB p && !twiceB place p.id a)
def goodL (place : Int) : List P → List P → Bool
  | _, [] => true
  | a, p :: t => goodB place a p && goodL place (a ++ [p]) t
def propsB (place : Int) (l : List P) : Bool := placeB place && (decide (l.length ≤ 8) && goodL place [] l)

theorem have_val (p : P) (hk : kindZ p.id ≠ 0) : (haveB p.id p.n && valB (kindZ p.id) p) = fitsB p := by
  unfold fitsB haveB
  rw [decide_eq_true (show kindZ p.id ≠ 0 from hk), Bool.true_and]
  by_cases hz : noZ p.id
  · rw [if_pos hz]
    congr 1
    by_cases h0 : p.n = 0
    · rw [decide_eq_false (show ¬ (p.n ≠ 0) from fun h => h h0), decide_eq_false (show ¬ ¬ (noZ p.id ∧ p.n = 0) from fun h => h ⟨hz, h0⟩)]
    · rw [decide_eq_true (show p.n ≠ 0 from h0), decide_eq_true (show ¬ (noZ p.id ∧ p.n = 0) from fun h => h0 h.2)]
  · rw [if_neg hz, decide_eq_true (show ¬ (noZ p.id ∧ p.n = 0) from fun h => hz h.1), Bool.true_and]
    by_cases h1 : kindZ p.id = 1
    · rw [h1]
      by_cases hn : p.n = 0 ∨ p.n = 1
      · rw [decide_eq_true (.inr hn), Bool.true_and]
      · rw [decide_eq_false (by omega), Bool.false_and]
        unfold valB
        rw [if_pos rfl, decide_eq_false (fun h => hn h.1)]
    · rw [decide_eq_true (.inl h1), Bool.true_and]
theorem good_may (place : Int) (a : List P) (p : P) : goodB place a p = (mayB place a p && valB (kindZ p.id) p) := by
  unfold goodB mayB
  cases hs : standB place p.id with
  | false => rfl
  | true =>
    rw [← have_val p (stand_kind hs)]
    cases haveB p.id p.n <;> cases valB (kindZ p.id) p <;> cases twiceB place p.id a <;> rfl
end Go.Proofs.Ythjlbdplhhgcpaa.Prp
