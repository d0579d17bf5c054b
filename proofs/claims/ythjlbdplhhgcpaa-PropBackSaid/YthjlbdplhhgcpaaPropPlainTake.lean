/- Plain facts on properties: what is taken of bytes. No run of a program is in this file. -/
import Derived.Test.YthjlbdplhhgcpaaPropPlain
namespace Go.Proofs.Ythjlbdplhhgcpaa.Prp
open Go.Lib Vbi

/-- What a value is taken as: a number, two texts, how many bytes, the error. -/
structure Tk where
  n : Int
  a : ByteArray
  b : ByteArray
  k : Int
  e : Int
def tkBad (e : Int) : Tk := ⟨0, ⟨#[]⟩, ⟨#[]⟩, 0, e⟩
def tkFix (wd : Nat) (s : ByteArray) : Tk := if s.size < wd then tkBad 7 else ⟨(fixVal (s.data.toList.take wd) : Nat), ⟨#[]⟩, ⟨#[]⟩, (wd : Int), 0⟩
def tkNum (s : ByteArray) : Tk := ⟨(tn s.data.toList).1, ⟨#[]⟩, ⟨#[]⟩, (tn s.data.toList).2.1, (tn s.data.toList).2.2⟩
def tkLong (t : Bool) (s : ByteArray) : Tk := ⟨0, (tl t s).1, ⟨#[]⟩, (tl t s).2.1, (tl t s).2.2⟩
def tkTwo (s : ByteArray) : Tk :=
  if (tl true s).2.2 ≠ 0 then tkBad (tl true s).2.2
  else if (tl true (s.extract (tl true s).2.1.toNat s.size)).2.2 ≠ 0 then tkBad (tl true (s.extract (tl true s).2.1.toNat s.size)).2.2
  else ⟨0, (tl true s).1, (tl true (s.extract (tl true s).2.1.toNat s.size)).1, (tl true s).2.1 + (tl true (s.extract (tl true s).2.1.toNat s.size)).2.1, 0⟩
def tk (k : Int) (s : ByteArray) : Tk :=
  if k = 1 then tkFix 1 s else if k = 2 then tkFix 2 s else if k = 3 then tkFix 4 s else if k = 4 then tkNum s else if k = 5 then tkLong true s else if k = 6 then tkLong false s else tkTwo s

theorem fixVal_one (l : List UInt8) : fixVal (l.take 1) < 256 := by
  match l with
  | [] => decide
  | a :: t => have := a.toNat_lt; show (0 * 256 + a.toNat) < _; omega
theorem fixVal_four (l : List UInt8) : fixVal (l.take 4) < 4294967296 := by
  match l with
  | [] => decide
  | [a] => have := a.toNat_lt; show (0 * 256 + a.toNat) < _; omega
  | [a, b] => have := a.toNat_lt; have := b.toNat_lt; show ((0 * 256 + a.toNat) * 256 + b.toNat) < _; omega
  | [a, b, c] => have := a.toNat_lt; have := b.toNat_lt; have := c.toNat_lt; show (((0 * 256 + a.toNat) * 256 + b.toNat) * 256 + c.toNat) < _; omega
  | a :: b :: c :: d :: t => have := a.toNat_lt; have := b.toNat_lt; have := c.toNat_lt; have := d.toNat_lt; show ((((0 * 256 + a.toNat) * 256 + b.toNat) * 256 + c.toNat) * 256 + d.toNat) < _; omega
/-- A text, or bytes, that are taken. -/
theorem tl_took {t : Bool} {s : ByteArray} (h : (tl t s).2.2 = 0) : ∃ m : Nat, (tl t s).2.1 = ((2 + m : Nat) : Int) ∧ 2 + m ≤ s.size ∧ m ≤ 1024 ∧ tbN s = m ∧ (tl t s).1 = s.extract 2 (2 + m) ∧ (t = true → textB (tl t s).1 = true) := by
  have hb : (tb s).2.2 = 0 := by
    by_cases c : (tb s).2.2 = 0
    · exact c
    · rw [tl_bad c] at h; exact absurd h c
  have hc : tlErr t (tb s).1 = 0 := by
    by_cases c : tlErr t (tb s).1 = 0
    · exact c
    · obtain ⟨T, K, hT⟩ : ∃ T K, tb s = (T, K, 0) := ⟨(tb s).1, (tb s).2.1, by rw [← hb]⟩
      rw [hT] at c
      rw [tl_wrong hT c] at h
      exact absurd h c
  rcases tb_cases s with ⟨_, e⟩ | ⟨_, _, e⟩ | ⟨_, _, _, e⟩ | ⟨h1, h2, e⟩
  · rw [e] at hb; cases hb
  · rw [e] at hb; cases hb
  · rw [e] at hb; cases hb
  · rw [e] at hc
    rw [tl_good e hc]
    refine ⟨tbN s, rfl, h2, h1, rfl, rfl, fun ht => ?_⟩
    subst ht
    unfold tlErr at hc
    rw [if_pos rfl] at hc
    unfold textB
    exact decide_eq_true hc
theorem tl_not {t : Bool} {s : ByteArray} (h : (tl t s).2.2 ≠ 0) : (tl t s).1 = ⟨#[]⟩ ∧ (tl t s).2.1 = 0 := by
  by_cases c : (tb s).2.2 = 0
  · obtain ⟨T, K, hT⟩ : ∃ T K, tb s = (T, K, 0) := ⟨(tb s).1, (tb s).2.1, by rw [← c]⟩
    by_cases d : tlErr t T = 0
    · rw [tl_good hT d] at h; exact absurd rfl h
    · rw [tl_wrong hT d]; exact ⟨rfl, rfl⟩
  · rw [tl_bad c] at h ⊢
    rcases tb_err s with ⟨_, a, b⟩ | ⟨T, K, hT, _⟩
    · exact ⟨a, b⟩
    · rw [hT] at h; exact absurd rfl h
theorem text_sz {s : ByteArray} (h : textB s = true) : s.size ≤ 1024 := by
  unfold textB at h
  exact loErr_zero (of_decide_eq_true h)
/-- How many bytes are taken. -/
theorem tk_bound {k : Int} {s : ByteArray} (h : (tk k s).e = 0) : 0 ≤ (tk k s).k ∧ (tk k s).k ≤ (s.size : Int) := by
  have fx : ∀ wd, (tkFix wd s).e = 0 → 0 ≤ (tkFix wd s).k ∧ (tkFix wd s).k ≤ (s.size : Int) := fun wd h => by
    unfold tkFix at h ⊢
    by_cases c : s.size < wd
    · rw [if_pos c] at h; cases h
    · rw [if_neg c]; show (0 : Int) ≤ (wd : Int) ∧ (wd : Int) ≤ _; omega
  have lg : ∀ t, (tkLong t s).e = 0 → 0 ≤ (tkLong t s).k ∧ (tkLong t s).k ≤ (s.size : Int) := fun t h => by
    obtain ⟨m, h1, h2, _⟩ := tl_took (t := t) (s := s) h
    show 0 ≤ (tl t s).2.1 ∧ (tl t s).2.1 ≤ _
    rw [h1]; omega
  unfold tk at h ⊢
  by_cases h1 : k = 1
  · rw [if_pos h1] at h ⊢; exact fx 1 h
  rw [if_neg h1] at h ⊢
  by_cases h2 : k = 2
  · rw [if_pos h2] at h ⊢; exact fx 2 h
  rw [if_neg h2] at h ⊢
  by_cases h3 : k = 3
  · rw [if_pos h3] at h ⊢; exact fx 4 h
  rw [if_neg h3] at h ⊢
  by_cases h4 : k = 4
  · rw [if_pos h4] at h ⊢
    show 0 ≤ (tn s.data.toList).2.1 ∧ (tn s.data.toList).2.1 ≤ _
    rcases num_wrote s with ⟨E, e, _⟩ | ⟨m, q, e, _, hq, _⟩ <;> rw [e]
    · simp
    · show (0 : Int) ≤ (q : Int) ∧ (q : Int) ≤ _; omega
  rw [if_neg h4] at h ⊢
  by_cases h5 : k = 5
  · rw [if_pos h5] at h ⊢; exact lg true h
  rw [if_neg h5] at h ⊢
  by_cases h6 : k = 6
  · rw [if_pos h6] at h ⊢; exact lg false h
  rw [if_neg h6] at h ⊢
  unfold tkTwo at h ⊢
  by_cases c : (tl true s).2.2 = 0
  · rw [if_neg (fun x => x c)] at h ⊢
    obtain ⟨m, e1, e2, _⟩ := tl_took c
    by_cases d : (tl true (s.extract (tl true s).2.1.toNat s.size)).2.2 = 0
    · rw [if_neg (fun x => x d)]
      obtain ⟨m2, f1, f2, _⟩ := tl_took d
      show 0 ≤ (tl true s).2.1 + (tl true (s.extract (tl true s).2.1.toNat s.size)).2.1 ∧ (tl true s).2.1 + (tl true (s.extract (tl true s).2.1.toNat s.size)).2.1 ≤ _
      rw [f1]
      rw [ByteArray.size_extract] at f2
      rw [e1] at f2 ⊢
      rw [Int.toNat_natCast] at f2
      omega
    · rw [if_pos d] at h; exact absurd h d
  · rw [if_pos c] at h; exact absurd h c
theorem mk_1 {p : P} (h : (p.n = 0 ∨ p.n = 1) ∧ p.s = ⟨#[]⟩ ∧ p.v = ⟨#[]⟩) : valB 1 p = true := decide_eq_true h
theorem mk_2 {p : P} (h : (0 ≤ p.n ∧ p.n < 65536) ∧ p.s = ⟨#[]⟩ ∧ p.v = ⟨#[]⟩) : valB 2 p = true := decide_eq_true h
theorem mk_3 {p : P} (h : (0 ≤ p.n ∧ p.n < 4294967296) ∧ p.s = ⟨#[]⟩ ∧ p.v = ⟨#[]⟩) : valB 3 p = true := decide_eq_true h
theorem mk_4 {p : P} (h : (0 ≤ p.n ∧ p.n < 268435456) ∧ p.s = ⟨#[]⟩ ∧ p.v = ⟨#[]⟩) : valB 4 p = true := decide_eq_true h
/-- What is taken is of its kind (a byte that is 0 or 1). -/
theorem tk_val {k id : Int} {s : ByteArray} (hk0 : 0 ≤ k) (hk7 : k ≤ 7) (hk : k ≠ 0) (h : (tk k s).e = 0) (h1 : k = 1 → (tk k s).n = 0 ∨ (tk k s).n = 1) : valB k ⟨id, (tk k s).n, (tk k s).a, (tk k s).b⟩ = true := by
  have fx : ∀ wd, (tkFix wd s).e = 0 → tkFix wd s = ⟨(fixVal (s.data.toList.take wd) : Nat), ⟨#[]⟩, ⟨#[]⟩, (wd : Int), 0⟩ := fun wd h => by
    unfold tkFix at h ⊢
    by_cases c : s.size < wd
    · rw [if_pos c] at h; cases h
    · rw [if_neg c]
  rcases (by omega : k = 1 ∨ k = 2 ∨ k = 3 ∨ k = 4 ∨ k = 5 ∨ k = 6 ∨ k = 7) with rfl | rfl | rfl | rfl | rfl | rfl | rfl
  · have e := fx 1 h
    have hn := h1 rfl
    change (tkFix 1 s).n = 0 ∨ (tkFix 1 s).n = 1 at hn
    show valB 1 ⟨id, (tkFix 1 s).n, (tkFix 1 s).a, (tkFix 1 s).b⟩ = true
    rw [e] at hn ⊢
    exact mk_1 ⟨hn, rfl, rfl⟩
  · have e := fx 2 h
    show valB 2 ⟨id, (tkFix 2 s).n, (tkFix 2 s).a, (tkFix 2 s).b⟩ = true
    rw [e]
    have := fixVal_two s.data.toList
    exact mk_2 ⟨⟨Int.natCast_nonneg _, Int.ofNat_lt.2 this⟩, rfl, rfl⟩
  · have e := fx 4 h
    show valB 3 ⟨id, (tkFix 4 s).n, (tkFix 4 s).a, (tkFix 4 s).b⟩ = true
    rw [e]
    have := fixVal_four s.data.toList
    exact mk_3 ⟨⟨Int.natCast_nonneg _, Int.ofNat_lt.2 this⟩, rfl, rfl⟩
  · have h' : (tn s.data.toList).2.2 = 0 := h
    show valB 4 ⟨id, (tn s.data.toList).1, ⟨#[]⟩, ⟨#[]⟩⟩ = true
    rcases num_wrote s with ⟨E, e, hE⟩ | ⟨m, q, e, hm, _, _⟩
    · rw [e] at h'; exact absurd h' hE
    · rw [e]
      exact mk_4 ⟨⟨Int.natCast_nonneg _, Int.ofNat_lt.2 hm⟩, rfl, rfl⟩
  · obtain ⟨m, _, _, _, _, _, ht⟩ := tl_took (t := true) (s := s) h
    exact decide_eq_true (p := _ ∧ _ ∧ _) ⟨rfl, ht rfl, rfl⟩
  · obtain ⟨m, _, h2, h3, _, h5, _⟩ := tl_took (t := false) (s := s) h
    refine decide_eq_true (p := _ ∧ _ ∧ _) ⟨rfl, ?_, rfl⟩
    show binB (tl false s).1 = true
    unfold binB
    rw [h5, ByteArray.size_extract]
    exact decide_eq_true (by omega)
  · have h : (tkTwo s).e = 0 := h
    show valB 7 ⟨id, (tkTwo s).n, (tkTwo s).a, (tkTwo s).b⟩ = true
    unfold tkTwo at h ⊢
    by_cases c : (tl true s).2.2 = 0
    · rw [if_neg (fun x => x c)] at h ⊢
      by_cases d : (tl true (s.extract (tl true s).2.1.toNat s.size)).2.2 = 0
      · rw [if_neg (fun x => x d)]
        obtain ⟨m, _, _, _, _, _, ht⟩ := tl_took c
        obtain ⟨m2, _, _, _, _, _, ht2⟩ := tl_took d
        exact decide_eq_true (p := _ ∧ _ ∧ _) ⟨rfl, ht rfl, ht2 rfl⟩
      · rw [if_pos d] at h; exact absurd h d
    · rw [if_pos c] at h; exact absurd h c

/-! ### one property, and all -/
def inn (e : Int) : Int := if e = 7 then 8 else e
def pz : P := ⟨0, 0, ⟨#[]⟩, ⟨#[]⟩⟩
def idOf (s : ByteArray) : Int := ((s.data.toList.headD 0).toNat : Int)
/-- Of bytes that are there: the property, how many bytes, the error. -/
def tone (s : ByteArray) : P × Int × Int :=
  if kindZ (idOf s) = 0 then (pz, 0, 8)
  else if (tk (kindZ (idOf s)) (s.extract 1 s.size)).e ≠ 0 then (pz, 0, inn (tk (kindZ (idOf s)) (s.extract 1 s.size)).e)
  else (⟨idOf s, (tk (kindZ (idOf s)) (s.extract 1 s.size)).n, (tk (kindZ (idOf s)) (s.extract 1 s.size)).a, (tk (kindZ (idOf s)) (s.extract 1 s.size)).b⟩, 1 + (tk (kindZ (idOf s)) (s.extract 1 s.size)).k, 0)
theorem inn_zero {e : Int} : inn e = 0 ↔ e = 0 := by unfold inn; split <;> omega
theorem tone_none {s : ByteArray} (h : kindZ (idOf s) = 0) : tone s = (pz, 0, 8) := by unfold tone; rw [if_pos h]
theorem tone_bad {s : ByteArray} (h : kindZ (idOf s) ≠ 0) (he : (tk (kindZ (idOf s)) (s.extract 1 s.size)).e ≠ 0) : tone s = (pz, 0, inn (tk (kindZ (idOf s)) (s.extract 1 s.size)).e) := by unfold tone; rw [if_neg h, if_pos he]
theorem tone_good {s : ByteArray} (h : kindZ (idOf s) ≠ 0) (he : (tk (kindZ (idOf s)) (s.extract 1 s.size)).e = 0) :
    tone s = (⟨idOf s, (tk (kindZ (idOf s)) (s.extract 1 s.size)).n, (tk (kindZ (idOf s)) (s.extract 1 s.size)).a, (tk (kindZ (idOf s)) (s.extract 1 s.size)).b⟩, 1 + (tk (kindZ (idOf s)) (s.extract 1 s.size)).k, 0) := by unfold tone; rw [if_neg h, if_neg (fun x => x he)]
theorem tone_cases (s : ByteArray) : (kindZ (idOf s) = 0 ∧ tone s = (pz, 0, 8)) ∨ (kindZ (idOf s) ≠ 0 ∧ (tk (kindZ (idOf s)) (s.extract 1 s.size)).e ≠ 0 ∧ tone s = (pz, 0, inn (tk (kindZ (idOf s)) (s.extract 1 s.size)).e)) ∨
    (kindZ (idOf s) ≠ 0 ∧ (tk (kindZ (idOf s)) (s.extract 1 s.size)).e = 0 ∧ tone s = (⟨idOf s, (tk (kindZ (idOf s)) (s.extract 1 s.size)).n, (tk (kindZ (idOf s)) (s.extract 1 s.size)).a, (tk (kindZ (idOf s)) (s.extract 1 s.size)).b⟩, 1 + (tk (kindZ (idOf s)) (s.extract 1 s.size)).k, 0)) := by
  by_cases h : kindZ (idOf s) = 0
  · exact .inl ⟨h, tone_none h⟩
  · by_cases he : (tk (kindZ (idOf s)) (s.extract 1 s.size)).e = 0
    · exact .inr (.inr ⟨h, he, tone_good h he⟩)
    · exact .inr (.inl ⟨h, he, tone_bad h he⟩)
theorem tone_bound {s : ByteArray} (hs : 0 < s.size) (h : (tone s).2.2 = 0) : 1 ≤ (tone s).2.1 ∧ (tone s).2.1 ≤ (s.size : Int) := by
  rcases tone_cases s with ⟨_, e⟩ | ⟨_, he, e⟩ | ⟨_, he, e⟩
  · rw [e] at h; cases h
  · rw [e] at h; exact absurd (inn_zero.1 h) he
  · rw [e]
    have := tk_bound he
    rw [ByteArray.size_extract] at this
    show 1 ≤ 1 + (tk (kindZ (idOf s)) (s.extract 1 s.size)).k ∧ 1 + (tk (kindZ (idOf s)) (s.extract 1 s.size)).k ≤ _
    omega
/-- Of what was taken: that it may follow says that it may be. -/
theorem tone_may {s : ByteArray} {place : Int} {l : List P} (h : (tone s).2.2 = 0) : goodB place l (tone s).1 = mayB place l (tone s).1 := by
  rcases tone_cases s with ⟨_, e⟩ | ⟨_, he, e⟩ | ⟨hk, he, e⟩
  · rw [e] at h; cases h
  · rw [e] at h; exact absurd (inn_zero.1 h) he
  · rw [good_may]
    cases hm : mayB place l (tone s).1 with
    | false => rfl
    | true =>
      rw [Bool.true_and]
      rw [e] at hm ⊢
      have hr := kind_range (idOf s)
      show valB (kindZ (idOf s)) ⟨idOf s, (tk (kindZ (idOf s)) (s.extract 1 s.size)).n, (tk (kindZ (idOf s)) (s.extract 1 s.size)).a, (tk (kindZ (idOf s)) (s.extract 1 s.size)).b⟩ = true
      refine tk_val hr.1 hr.2 hk he fun h1 => ?_
      unfold mayB at hm
      rw [Bool.and_eq_true, Bool.and_eq_true] at hm
      have h2 : haveB (idOf s) (tk (kindZ (idOf s)) (s.extract 1 s.size)).n = true := hm.2.1
      unfold haveB at h2
      by_cases hz : noZ (idOf s)
      · unfold noZ at hz
        rcases hz with hz | hz | hz | hz <;> (rw [hz] at h1; cases h1)
      · rw [if_neg hz] at h2
        have := of_decide_eq_true h2
        omega
def ta (place : Int) : Nat → List P → ByteArray → List P × Int
  | 0, l, _ => (l, 0)
  | f + 1, l, s => if s.size = 0 then (l, 0) else if (tone s).2.2 ≠ 0 then ([], (tone s).2.2) else if mayB place l (tone s).1 = false then ([], 9) else if l.length = 8 then ([], 2)
    else ta place f (l ++ [(tone s).1]) (s.extract (tone s).2.1.toNat s.size)
theorem ta_end {place : Int} {f : Nat} {l : List P} {s : ByteArray} (h : s.size = 0) : ta place (f + 1) l s = (l, 0) := by unfold ta; rw [if_pos h]
theorem ta_bad {place : Int} {f : Nat} {l : List P} {s : ByteArray} (h : s.size ≠ 0) (he : (tone s).2.2 ≠ 0) : ta place (f + 1) l s = ([], (tone s).2.2) := by unfold ta; rw [if_neg h, if_pos he]
theorem ta_no {place : Int} {f : Nat} {l : List P} {s : ByteArray} (h : s.size ≠ 0) (he : (tone s).2.2 = 0) (hm : mayB place l (tone s).1 = false) : ta place (f + 1) l s = ([], 9) := by unfold ta; rw [if_neg h, if_neg (fun x => x he), if_pos hm]
theorem ta_full {place : Int} {f : Nat} {l : List P} {s : ByteArray} (h : s.size ≠ 0) (he : (tone s).2.2 = 0) (hm : mayB place l (tone s).1 = true) (h8 : l.length = 8) : ta place (f + 1) l s = ([], 2) := by
  unfold ta; rw [if_neg h, if_neg (fun x => x he), if_neg (by rw [hm]; decide), if_pos h8]
theorem ta_step {place : Int} {f : Nat} {l : List P} {s : ByteArray} (h : s.size ≠ 0) (he : (tone s).2.2 = 0) (hm : mayB place l (tone s).1 = true) (h8 : l.length ≠ 8) :
    ta place (f + 1) l s = ta place f (l ++ [(tone s).1]) (s.extract (tone s).2.1.toNat s.size) := by
  conv => lhs; unfold ta
  rw [if_neg h, if_neg (fun x => x he), if_neg (by rw [hm]; decide), if_neg h8]
/-- All: the properties, how many bytes, the error. -/
def takeP (place : Int) (s : ByteArray) : List P × Int × Int :=
  if placeB place = false then ([], 0, 1)
  else if (tn s.data.toList).2.2 ≠ 0 then ([], 0, (tn s.data.toList).2.2)
  else if (s.size : Int) - (tn s.data.toList).2.1 < (tn s.data.toList).1 then ([], 0, 7)
  else if (ta place (s.size + 1) [] (s.extract (tn s.data.toList).2.1.toNat ((tn s.data.toList).2.1 + (tn s.data.toList).1).toNat)).2 ≠ 0 then ([], 0, (ta place (s.size + 1) [] (s.extract (tn s.data.toList).2.1.toNat ((tn s.data.toList).2.1 + (tn s.data.toList).1).toNat)).2)
  else ((ta place (s.size + 1) [] (s.extract (tn s.data.toList).2.1.toNat ((tn s.data.toList).2.1 + (tn s.data.toList).1).toNat)).1, (tn s.data.toList).2.1 + (tn s.data.toList).1, 0)
end Go.Proofs.Ythjlbdplhhgcpaa.Prp
