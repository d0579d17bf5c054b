/- Plain facts on framing: what bytes begin with, what is told of them, part by part. No run of a program is in this file. -/
import Derived.Test.YtdbbcfohjkgdcaaGreatL00
import Derived.Test.YtdbbcfohjkgdcaaGreatL20
set_option maxRecDepth 100000
set_option maxHeartbeats 64000000
namespace Go.Proofs.YtdbbcfohjkgdcaaGreat.Pkt
open Go.Lib Vbi Prp
theorem inn_no7 (e : Int) : inn e ≠ 7 := by unfold inn; split <;> omega
theorem St.No7.opt {α : Type} {st : St} {f : ByteArray → Res α} (h : st.No7) (hf : ∀ s, (f s).No7) (z : α) : (st.optR f z).2.No7 := by
 unfold St.optR
 split
 ·exact (h.run hf).st
 ·exact h
theorem fixR_no7 (wd : Nat) (s : ByteArray) : (fixR wd s).No7 := by
 unfold fixR; split
 ·show (8 : Int) ≠ 7; decide
 ·trivial
theorem numberR_no7 (s : ByteArray) : (numberR s).No7 := by
 unfold numberR; split
 ·show (8 : Int) ≠ 7; decide
 ·split
  ·show (8 : Int) ≠ 7; decide
  ·trivial
theorem longR_no7 (t : Bool) (s : ByteArray) : (longR t s).No7 := by
 unfold longR; split
 ·trivial
 ·exact inn_no7 _
theorem propsR_no7 (place : Int) (s : ByteArray) : (propsR place s).No7 := by
 unfold propsR; split
 ·trivial
 ·exact inn_no7 _
theorem many_no7 {α : Type} (one : ByteArray → Res α) (h : ∀ s, (one s).No7) : ∀ (f : Nat) (l : List α) (s : ByteArray), (manyR one f l s).No7 := by
 intro f
 induction f with
 | zero => intro l s; trivial
 | succ f ih =>
  intro l s
  unfold manyR
  split
  ·split
   ·show (9 : Int) ≠ 7; decide
   ·trivial
  ·split
   ·show (2 : Int) ≠ 7; decide
   ·split
    ·exact ih _ _
    ·next hb => have := h s; rw [hb] at this; exact this
theorem filterS_no7 (sub : Bool) {st : St} (h : st.No7) : (filterS sub st).2.No7 := by
 cases sub with
 | true => exact ((((h.run (longR_no7 true)).st.run (fixR_no7 1))).st).want _ (by decide)
 | false => exact (h.run (longR_no7 true)).st
theorem filterR_no7 (sub : Bool) (s : ByteArray) : (filterR sub s).No7 := by
 have h := filterS_no7 sub (st := .ok s) trivial
 unfold filterR
 split
 ·trivial
 ·next hb => rw [hb] at h; exact h
theorem ifR_no7 (b t : Bool) {st : St} (h : st.No7) : (ifR b t st).2.No7 := by
 unfold ifR; split
 ·exact (h.run (longR_no7 t)).st
 ·exact h
theorem willS_no7 (w : Wl) {st : St} (h : st.No7) : (willS w st).2.No7 := by
 unfold willS; split
 ·exact ((((h.run (propsR_no7 0)).st.run (longR_no7 true)).st.want _ (by decide)).run (longR_no7 false)).st
 ·exact h
theorem connRest_no7 (p : Pk) {st : St} (h : st.No7) : (connRest p st).2.No7 :=
 ifR_no7 _ _ (ifR_no7 _ _ (willS_no7 _ (((h.run (fixR_no7 2)).st.run (propsR_no7 p.kind)).st.run (longR_no7 true)).st))
theorem connHead_no7 {st : St} (h : st.No7) : (connHead st).No7 :=
 (((h.run (longR_no7 true)).st.want _ (by decide)).run (fixR_no7 1)).st.want _ (by decide)
theorem connSt_no7 {st : St} (h : st.No7) : (connSt st).No7 := ((connHead_no7 h).run (fixR_no7 1)).st.want _ (by decide)
theorem reasonS_no7 (p : Pk) {st : St} (h : st.No7) : (reasonS p st).2.No7 := (h.opt (fixR_no7 1) p.re).opt (propsR_no7 p.kind) p.ps
theorem bodyR_no7 {st : St} (h : st.No7) : (bodyR st).2.No7 := by
 unfold bodyR
 have k := h.want (decide (st.rest.size ≤ 1024)) (e := 2) (by decide)
 show St.No7 (match st.want (decide (st.rest.size ≤ 1024)) 2 with | .ok _ => .ok ⟨#[]⟩ | .bad e => .bad e)
 split
 ·trivial
 ·next hb => rw [hb] at k; exact k
theorem partsS_no7 (p : Pk) {st : St} (h : st.No7) : (partsS p st).2.No7 := by
 unfold partsS
 by_cases h1 : p.kind = 1
 ·rw [if_pos h1]; exact connRest_no7 _ (connSt_no7 h)
 rw [if_neg h1]
 by_cases h2 : p.kind = 2
 ·rw [if_pos h2]; exact ((((h.run (fixR_no7 1)).st.want _ (by decide)).run (fixR_no7 1)).st.run (propsR_no7 p.kind)).st
 rw [if_neg h2]
 by_cases h3 : p.kind = 3
 ·rw [if_pos h3]
  unfold publishS
  by_cases hq : 0 < p.q
  ·simp only [if_pos hq]; exact bodyR_no7 (((h.run (longR_no7 true)).st.run numberR_no7).st.run (propsR_no7 p.kind)).st
  ·simp only [if_neg hq]
   have k := (h.run (longR_no7 true)).st
   generalize (st.run (longR true)).st = s0 at k
   cases s0 with
   | ok s => exact bodyR_no7 (propsR_no7 p.kind s).st
   | bad e => exact bodyR_no7 (st := .bad e) k
 rw [if_neg h3]
 by_cases h4 : p.kind = 4 ∨ p.kind = 5 ∨ p.kind = 6 ∨ p.kind = 7
 ·rw [if_pos h4]; exact reasonS_no7 _ (h.run numberR_no7).st
 rw [if_neg h4]
 by_cases h8 : p.kind = 8
 ·rw [if_pos h8]; exact (((h.run numberR_no7).st.run (propsR_no7 p.kind)).st.run (many_no7 _ (filterR_no7 true) 5 [])).st
 rw [if_neg h8]
 by_cases h10 : p.kind = 10
 ·rw [if_pos h10]; exact (((h.run numberR_no7).st.run (propsR_no7 p.kind)).st.run (many_no7 _ (filterR_no7 false) 5 [])).st
 rw [if_neg h10]
 by_cases h9 : p.kind = 9 ∨ p.kind = 11
 ·rw [if_pos h9]; exact (((h.run numberR_no7).st.run (propsR_no7 p.kind)).st.run (many_no7 _ (fixR_no7 1) 5 [])).st
 rw [if_neg h9]
 by_cases h14 : p.kind = 14 ∨ p.kind = 15
 ·rw [if_pos h14]; exact reasonS_no7 _ h
 rw [if_neg h14]; exact h
theorem bodyS_no7 (c : Int) (s : ByteArray) : (bodyS c s).2.No7 := by
 refine St.No7.want (partsS_no7 _ ?_) _ (by decide)
 split
 ·trivial
 ·show (8 : Int) ≠ 7; decide
theorem lenS_zero {s : ByteArray} (h : s.size = 0) : lenS s = (0, 7) := by unfold lenS; rw [if_pos h]
theorem data_drop (s : ByteArray) (n : Nat) : (s.extract n s.size).data.toList = s.data.toList.drop n := by
 rw [Lib.extract_data, List.take_of_length_le (by rw [List.length_drop, ← Lib.size_eq]; omega)]
theorem lenS_cases (s : ByteArray) : lenS s = (0, 7) ∨ (s.size ≠ 0 ∧ lenS s = (0, 8)) ∨ ∃ m q : Nat, lenS s = (((1 + q + m : Nat) : Int), 0) ∧ 1 ≤ q ∧ 1 + q ≤ s.size ∧ m < 268435456 ∧ tn (s.extract 1 s.size).data.toList = ((m : Int), (q : Int), 0) ∧ strOfNums (numZ m) = (s.extract 1 s.size).extract 0 q := by
 by_cases hz : s.size = 0
 ·exact .inl (lenS_zero hz)
 ·rcases tn_wrote (s.extract 1 s.size).data.toList with (h | h) | ⟨m, k, h1, h2, h3, h4⟩
  ·left; unfold lenS; rw [if_neg hz, h]; rfl
  ·right; left; refine ⟨hz, ?_⟩; unfold lenS; rw [if_neg hz, h]; rfl
  ·refine .inr (.inr ⟨m, k, ?_, ?_, ?_, h2, h1, bytes_ext (by rw [strOf_data, data_take, h4])⟩)
   ·unfold lenS
    rw [if_neg hz, h1, if_neg (not_not_intro rfl)]
    show ((1 + (k : Int) + (m : Int)), (0 : Int)) = _
    rw [show (1 + (k : Int) + (m : Int)) = ((1 + k + m : Nat) : Int) by omega]
   ·have hl := congrArg List.length h4
    rw [List.length_take] at hl
    have hn := (numLen_le m).1
    have : (bytesOf (numZ m)).length = numLen m := by unfold bytesOf; rw [List.length_map, numZ_len h2]
    omega
   ·rw [← Lib.size_eq, ByteArray.size_extract] at h3
    omega
theorem lenS_take {s : ByteArray} {m q : Nat} (hq : 1 ≤ q) (hs : 1 + q ≤ s.size) (hm : m < 268435456) (_ : tn (s.extract 1 s.size).data.toList = ((m : Int), (q : Int), 0)) (hw : strOfNums (numZ m) = (s.extract 1 s.size).extract 0 q) (k : Nat) (hk : 1 + q ≤ k) (hk2 : k ≤ s.size) :
  tn ((s.extract 0 k).extract 1 (s.extract 0 k).size).data.toList = ((m : Int), (q : Int), 0) := by
 have hsz : (s.extract 0 k).size = k := by rw [ByteArray.size_extract]; omega
 have hq2 : (strOfNums (numZ m)).size = q := by rw [hw, ByteArray.size_extract, ByteArray.size_extract]; omega
 have e : (s.extract 0 k).extract 1 (s.extract 0 k).size = strOfNums (numZ m) ++ (s.extract 0 k).extract (1 + q) (s.extract 0 k).size := by
  apply bytes_ext
  rw [data_drop, data_add, data_drop, hw, data_take (s.extract 1 s.size) q, data_drop s 1, data_take s k]
  rw [← List.drop_drop]
  have : (s.data.toList.drop 1).take q = ((s.data.toList.take k).drop 1).take q := by
   rw [List.drop_take, List.take_take, Nat.min_eq_left (by omega)]
  rw [this, List.take_append_drop]
 rw [e, num_back hm, hq2]
def sizeS (max : Int) (s : ByteArray) : Int × Int :=
 if (lenS s).2 ≠ 0 then (0, (lenS s).2) else if max < (lenS s).1 then (0, 2) else if (s.size : Int) < (lenS s).1 then (0, 7) else ((lenS s).1, 0)
def mayF (rest : ByteArray) (max : Int) (dead : Bool) : Bool := decide (2 ≤ max ∧ max ≤ 8192) && (if dead = true then decide (rest.size = 0) else decide ((sizeS max rest).2 = 7))
inductive Step
 | wait
 | dead (e : Int)
 | one (p : Pk) (n : Nat)
def stepS (max : Int) (s : ByteArray) : Step :=
 if (lenS s).2 = 7 then .wait
 else if (lenS s).2 ≠ 0 then .dead (lenS s).2
 else if max < (lenS s).1 then .dead 2
 else if (s.size : Int) < (lenS s).1 then .wait
 else if (takeS (s.extract 0 (lenS s).1.toNat)).2.2 = 0 then .one (takeS (s.extract 0 (lenS s).1.toNat)).1 (lenS s).1.toNat
 else .dead (takeS (s.extract 0 (lenS s).1.toNat)).2.2
inductive StepOf (max : Int) (s : ByteArray) : Prop
 | cut (h : lenS s = (0, 7)) (e : stepS max s = .wait)
 | bad (hz : s.size ≠ 0) (h : lenS s = (0, 8)) (e : stepS max s = .dead 8)
 | long (n : Nat) (h : lenS s = ((n : Int), 0)) (h2 : 2 ≤ n) (hm : max < (n : Int)) (hz : s.size ≠ 0) (e : stepS max s = .dead 2)
 | short (n : Nat) (h : lenS s = ((n : Int), 0)) (h2 : 2 ≤ n) (hm : (n : Int) ≤ max) (hz : s.size ≠ 0) (hs : s.size < n) (e : stepS max s = .wait)
 | told (n : Nat) (p : Pk) (m : Int) (h : lenS s = ((n : Int), 0)) (h2 : 2 ≤ n) (hm : (n : Int) ≤ max) (hs : n ≤ s.size) (ht : takeS (s.extract 0 n) = (p, m, 0)) (e : stepS max s = .one p n)
 | wrong (n : Nat) (p : Pk) (m E : Int) (h : lenS s = ((n : Int), 0)) (h2 : 2 ≤ n) (hm : (n : Int) ≤ max) (hs : n ≤ s.size) (ht : takeS (s.extract 0 n) = (p, m, E)) (h0 : E ≠ 0) (h7 : E ≠ 7) (e : stepS max s = .dead E)
theorem stepOf (max : Int) (s : ByteArray) : StepOf max s := by
 rcases lenS_cases s with h | ⟨hz, h⟩ | ⟨m, q, h, hq, hs, hm, ht, hw⟩
 ·exact .cut h (by unfold stepS; rw [h]; rfl)
 ·exact .bad hz h (by unfold stepS; rw [h]; rfl)
 ·obtain ⟨n, hn⟩ : ∃ n, 1 + q + m = n := ⟨_, rfl⟩
  have h' := h
  rw [hn] at h'
  by_cases hmx : max < (n : Int)
  ·exact .long n h' (by omega) hmx (by omega) (by unfold stepS; rw [h', if_neg (show ¬ (0 : Int) = 7 by decide), if_neg (not_not_intro rfl), if_pos hmx])
  ·by_cases hsz : s.size < n
   ·exact .short n h' (by omega) (by omega) (by omega) hsz (by unfold stepS; rw [h', if_neg (show ¬ (0 : Int) = 7 by decide), if_neg (not_not_intro rfl), if_neg hmx, if_pos (show (s.size : Int) < (n : Int) by omega)])
   ·obtain ⟨p, M, E, hE⟩ : ∃ p M E, takeS (s.extract 0 n) = (p, M, E) := ⟨_, _, _, rfl⟩
    by_cases h0 : E = 0
    ·subst h0
     refine .told n p M h' (by omega) (by omega) (by omega) hE ?_
     unfold stepS
     rw [h', if_neg (show ¬ (0 : Int) = 7 by decide), if_neg (not_not_intro rfl), if_neg hmx, if_neg (show ¬ (s.size : Int) < (n : Int) by omega)]
     show (if (takeS (s.extract 0 n)).2.2 = 0 then Step.one (takeS (s.extract 0 n)).1 n else _) = _
     rw [hE, if_pos rfl]
    ·have h7 : E ≠ 7 := by
      have hx := lenS_take hq hs hm ht hw n (by omega) (by omega)
      have hxs : (s.extract 0 n).size = n := by rw [ByteArray.size_extract]; omega
      rcases takeS_cases (s.extract 0 n) with ⟨hz, _⟩ | ⟨_, X, ht2, hX, _⟩ | ⟨_, m2, q2, ht2, _, _, _, hb⟩
      ·omega
      ·rw [hx] at ht2
       injection ht2 with _ k
       injection k with _ k
       omega
      ·rw [hx] at ht2
       injection ht2 with k1 k2
       injection k2 with k2 _
       obtain rfl : m2 = m := by omega
       obtain rfl : q2 = q := by omega
       rcases hb with ⟨_, e⟩ | ⟨_, hl, e⟩ | ⟨_, _, p2, st, hbd, e⟩
       ·rw [hE] at e
        injection e with _ e
        injection e with _ e
        omega
       ·omega
       ·rw [hE] at e
        have hn7 := bodyS_no7 (idOf (s.extract 0 n)) ((s.extract 0 n).extract (1 + q2) (1 + q2 + m2))
        rw [hbd] at hn7
        cases st with
        | ok s' =>
         injection e with _ e
         injection e with _ e
         omega
        | bad x =>
         injection e with _ e
         injection e with _ e
         rw [e]
         exact hn7
     refine .wrong n p M E h' (by omega) (by omega) (by omega) hE h0 h7 ?_
     unfold stepS
     rw [h', if_neg (show ¬ (0 : Int) = 7 by decide), if_neg (not_not_intro rfl), if_neg hmx, if_neg (show ¬ (s.size : Int) < (n : Int) by omega)]
     show (if (takeS (s.extract 0 n)).2.2 = 0 then _ else Step.dead (takeS (s.extract 0 n)).2.2) = _
     rw [hE, if_neg h0]
theorem size_wait {max : Int} {s : ByteArray} : (sizeS max s).2 = 7 ↔ stepS max s = .wait := by
 unfold sizeS
 rcases stepOf max s with ⟨h, e⟩ | ⟨_, h, e⟩ | ⟨n, h, _, hm, _, e⟩ | ⟨n, h, _, hm, _, hs, e⟩ | ⟨n, p, _, h, _, hm, hs, _, e⟩ | ⟨n, p, _, E, h, _, hm, hs, _, h0, h7, e⟩ <;> rw [h, e]
 ·exact ⟨fun _ => rfl, fun _ => rfl⟩
 ·rw [if_pos (show ¬ (8 : Int) = 0 by decide)]; exact ⟨fun h => absurd h (show ¬ (8 : Int) = 7 by decide), fun h => by cases h⟩
 ·rw [if_neg (not_not_intro rfl), if_pos hm]; exact ⟨fun h => absurd h (show ¬ (2 : Int) = 7 by decide), fun h => by cases h⟩
 ·rw [if_neg (not_not_intro rfl), if_neg (by show ¬ max < (n : Int); omega), if_pos (show (s.size : Int) < (n : Int) by omega)]; exact ⟨fun _ => rfl, fun _ => rfl⟩
 ·rw [if_neg (not_not_intro rfl), if_neg (by show ¬ max < (n : Int); omega), if_neg (show ¬ (s.size : Int) < (n : Int) by omega)]; exact ⟨fun h => absurd h (show ¬ (0 : Int) = 7 by decide), fun h => by cases h⟩
 ·rw [if_neg (not_not_intro rfl), if_neg (by show ¬ max < (n : Int); omega), if_neg (show ¬ (s.size : Int) < (n : Int) by omega)]; exact ⟨fun h => absurd h (show ¬ (0 : Int) = 7 by decide), fun h => by cases h⟩
theorem step_one {max : Int} {s : ByteArray} {p : Pk} {n : Nat} (h : stepS max s = .one p n) : 2 ≤ n ∧ n ≤ s.size ∧ (n : Int) ≤ max := by
 rcases stepOf max s with ⟨_, e⟩ | ⟨_, _, e⟩ | ⟨_, _, _, _, _, e⟩ | ⟨_, _, _, _, _, _, e⟩ | ⟨n', p', _, _, h2, hm, hs, _, e⟩ | ⟨_, _, _, _, _, _, _, _, _, _, _, e⟩ <;> rw [h] at e <;> injection e
 subst_vars
 exact ⟨h2, hs, hm⟩
theorem step_dead {max : Int} {s : ByteArray} {E : Int} (h : stepS max s = .dead E) : s.size ≠ 0 ∧ E ≠ 0 ∧ E ≠ 7 := by
 rcases stepOf max s with ⟨_, e⟩ | ⟨hz, _, e⟩ | ⟨_, _, _, _, hz, e⟩ | ⟨_, _, _, _, _, _, e⟩ | ⟨n', p', _, _, h2, hm, hs, _, e⟩ | ⟨_, _, _, _, _, h2, _, hs, _, h0, h7, e⟩ <;> rw [h] at e <;> injection e <;> subst_vars
 ·exact ⟨hz, by decide, by decide⟩
 ·exact ⟨hz, by decide, by decide⟩
 ·exact ⟨by omega, h0, h7⟩
def feedF (max : Int) : Nat → ByteArray → List Pk × ByteArray × Int
 | 0, s => ([], s, 0)
 | f + 1, s => match stepS max s with
  | .wait => ([], s, 0)
  | .dead e => ([], ⟨#[]⟩, e)
  | .one p n => (p :: (feedF max f (s.extract n s.size)).1, (feedF max f (s.extract n s.size)).2)
def feedS (max : Int) (s : ByteArray) : List Pk × ByteArray × Int := feedF max s.size s
theorem step_nil {max : Int} {s : ByteArray} (h : s.size = 0) : stepS max s = .wait := by unfold stepS; rw [lenS_zero h]; rfl
theorem feedF_wait {max : Int} {s : ByteArray} (f : Nat) (h : stepS max s = .wait) : feedF max f s = ([], s, 0) := by
 cases f with
 | zero => rfl
 | succ f => unfold feedF; rw [h]
theorem feedF_one {max : Int} {s : ByteArray} {p : Pk} {n f : Nat} (h : stepS max s = .one p n) : feedF max (f + 1) s = (p :: (feedF max f (s.extract n s.size)).1, (feedF max f (s.extract n s.size)).2) := by
 show (match stepS max s with | .wait => _ | .dead e => _ | .one p n => _) = _
 rw [h]
theorem feedF_dead {max : Int} {s : ByteArray} {e : Int} {f : Nat} (h : stepS max s = .dead e) : feedF max (f + 1) s = ([], ⟨#[]⟩, e) := by
 show (match stepS max s with | .wait => _ | .dead e => _ | .one p n => _) = _
 rw [h]
theorem left_size (s : ByteArray) (n : Nat) : (s.extract n s.size).size = s.size - n := by rw [ByteArray.size_extract]; omega
theorem feed_fuel (max : Int) : ∀ (f g : Nat) (s : ByteArray), s.size ≤ f → s.size ≤ g → feedF max f s = feedF max g s := by
 intro f
 induction f with
 | zero =>
  intro g s h _
  have := step_nil (max := max) (s := s) (by omega)
  rw [feedF_wait _ this, feedF_wait _ this]
 | succ f ih =>
  intro g s hf hg
  cases hst : stepS max s with
  | wait => rw [feedF_wait _ hst, feedF_wait _ hst]
  | dead e =>
   have hz := (step_dead hst).1
   cases g with
   | zero => omega
   | succ g => rw [feedF_dead hst, feedF_dead hst]
  | one p n =>
   have hn := step_one hst
   cases g with
   | zero => omega
   | succ g => rw [feedF_one hst, feedF_one hst, ih g _ (by rw [left_size]; omega) (by rw [left_size]; omega)]
theorem feedS_wait {max : Int} {s : ByteArray} (h : stepS max s = .wait) : feedS max s = ([], s, 0) := feedF_wait _ h
theorem feedS_dead {max : Int} {s : ByteArray} {e : Int} (h : stepS max s = .dead e) : feedS max s = ([], ⟨#[]⟩, e) := by
 have hz := (step_dead h).1
 obtain ⟨f, hf⟩ : ∃ f, s.size = f + 1 := ⟨s.size - 1, by omega⟩
 unfold feedS
 rw [hf, feedF_dead h]
theorem feedS_one {max : Int} {s : ByteArray} {p : Pk} {n : Nat} (h : stepS max s = .one p n) : feedS max s = (p :: (feedS max (s.extract n s.size)).1, (feedS max (s.extract n s.size)).2) := by
 have hn := step_one h
 obtain ⟨f, hf⟩ : ∃ f, s.size = f + 1 := ⟨s.size - 1, by omega⟩
 unfold feedS
 rw [feed_fuel max s.size (f + 1) s (by omega) (by omega), feedF_one h, feed_fuel max f _ (s.extract n s.size) (by rw [left_size]; omega) (Nat.le_refl _)]
theorem bytes_induct {Q : ByteArray → Prop} (h : ∀ s, (∀ t : ByteArray, t.size < s.size → Q t) → Q s) (s : ByteArray) : Q s := by
 suffices hh : ∀ (n : Nat) (s : ByteArray), s.size ≤ n → Q s from hh s.size s (Nat.le_refl _)
 intro n
 induction n with
 | zero => intro s hs; exact h s (fun t ht => by omega)
 | succ n ih => intro s hs; exact h s (fun t ht => ih t (by omega))
theorem feed_rest (max : Int) (s : ByteArray) : ((feedS max s).2.2 = 0 → stepS max (feedS max s).2.1 = .wait) ∧ ((feedS max s).2.2 ≠ 0 → (feedS max s).2.1 = ⟨#[]⟩) ∧ (feedS max s).2.2 ≠ 7 ∧ (feedS max s).2.1.size ≤ s.size := by
 induction s using bytes_induct with
 | h s ih =>
  cases hst : stepS max s with
  | wait => rw [feedS_wait hst]; exact ⟨fun _ => hst, fun h => absurd rfl h, by show (0 : Int) ≠ 7; decide, Nat.le_refl _⟩
  | dead e => rw [feedS_dead hst]; exact ⟨fun h => absurd h (step_dead hst).2.1, fun _ => rfl, (step_dead hst).2.2, Nat.zero_le _⟩
  | one p n =>
   have hn := step_one hst
   rw [feedS_one hst]
   have := ih (s.extract n s.size) (by rw [left_size]; omega)
   exact ⟨this.1, this.2.1, this.2.2.1, Nat.le_trans this.2.2.2 (by rw [left_size]; omega)⟩
theorem feed_len (max : Int) (s : ByteArray) : 2 * (feedS max s).1.length + (feedS max s).2.1.size ≤ s.size := by
 induction s using bytes_induct with
 | h s ih =>
  cases hst : stepS max s with
  | wait => rw [feedS_wait hst]; show 2 * 0 + s.size ≤ s.size; omega
  | dead e => rw [feedS_dead hst]; show 2 * 0 + 0 ≤ s.size; omega
  | one p n =>
   have hn := step_one hst
   rw [feedS_one hst]
   have := ih (s.extract n s.size) (by rw [left_size]; omega)
   rw [left_size] at this
   show 2 * ((feedS max (s.extract n s.size)).1.length + 1) + (feedS max (s.extract n s.size)).2.1.size ≤ s.size
   omega
end Go.Proofs.YtdbbcfohjkgdcaaGreat.Pkt
