/- Plain facts on properties that are taken. No run of a program is in this file. -/
import Derived.Test.YthjlbdplhhgcpaaPropTake
import Derived.Test.YthjlbdplhhgcpaaVbiPlainBack
namespace Go.Proofs.Ythjlbdplhhgcpaa.Prp
open Go.Lib Vbi

theorem tl_sz (t : Bool) (s : ByteArray) : (tl t s).1.size ≤ s.size := by
  by_cases h : (tl t s).2.2 = 0
  · obtain ⟨m, _, _, _, _, e, _⟩ := tl_took h
    rw [e, ByteArray.size_extract]; omega
  · rw [(tl_not h).1]; exact Nat.zero_le _
theorem tk_sz (k : Int) (s : ByteArray) : (tk k s).a.size ≤ s.size := by
  have fx : ∀ wd, (tkFix wd s).a.size ≤ s.size := fun wd => by
    rcases fx_cases wd s with ⟨_, e, _, _⟩ | ⟨_, e, _, _⟩ <;> rw [e] <;> exact Nat.zero_le _
  unfold tk
  by_cases h1 : k = 1
  · rw [if_pos h1]; exact fx 1
  rw [if_neg h1]
  by_cases h2 : k = 2
  · rw [if_pos h2]; exact fx 2
  rw [if_neg h2]
  by_cases h3 : k = 3
  · rw [if_pos h3]; exact fx 4
  rw [if_neg h3]
  by_cases h4 : k = 4
  · rw [if_pos h4]; exact Nat.zero_le _
  rw [if_neg h4]
  by_cases h5 : k = 5
  · rw [if_pos h5]; exact tl_sz true s
  rw [if_neg h5]
  by_cases h6 : k = 6
  · rw [if_pos h6]; exact tl_sz false s
  rw [if_neg h6]
  by_cases h : (tl true s).2.2 = 0
  · by_cases h2 : (tl true (s.extract (tl true s).2.1.toNat s.size)).2.2 = 0
    · rw [two_good h h2]; exact tl_sz true s
    · rw [two_bad2 h h2]; exact Nat.zero_le _
  · rw [two_bad1 h]; exact Nat.zero_le _
/-- Where an error is said, no property is. -/
theorem ta_err (place : Int) (f : Nat) (l : List P) (s : ByteArray) (h : (ta place f l s).2 ≠ 0) : (ta place f l s).1 = [] := by
  induction f generalizing l s with
  | zero => exact absurd rfl h
  | succ f ih =>
    by_cases h0 : s.size = 0
    · rw [ta_end h0] at h; exact absurd rfl h
    by_cases he : (tone s).2.2 = 0
    · cases hm : mayB place l (tone s).1 with
      | false => rw [ta_no h0 he hm]
      | true =>
        by_cases h8 : l.length = 8
        · rw [ta_full h0 he hm h8]
        · rw [ta_step h0 he hm h8] at h ⊢
          exact ih _ _ h
    · rw [ta_bad h0 he]
/-- How all are taken at a place that there is. -/
theorem takeP_cases {place : Int} (s : ByteArray) (hp : placeB place = true) :
    (∃ E, tn s.data.toList = (0, 0, E) ∧ E ≠ 0 ∧ takeP place s = ([], 0, E)) ∨
    (∃ m q : Nat, tn s.data.toList = ((m : Int), (q : Int), 0) ∧ q ≤ s.size ∧ m < 268435456 ∧ s.size < q + m ∧ takeP place s = ([], 0, 7)) ∨
    (∃ (m q : Nat) (E : Int), tn s.data.toList = ((m : Int), (q : Int), 0) ∧ q ≤ s.size ∧ m < 268435456 ∧ q + m ≤ s.size ∧ ta place (s.size + 1) [] (s.extract q (q + m)) = ([], E) ∧ E ≠ 0 ∧ takeP place s = ([], 0, E)) ∨
    (∃ (m q : Nat) (L : List P), tn s.data.toList = ((m : Int), (q : Int), 0) ∧ q ≤ s.size ∧ m < 268435456 ∧ q + m ≤ s.size ∧ ta place (s.size + 1) [] (s.extract q (q + m)) = (L, 0) ∧ takeP place s = (L, (q : Int) + (m : Int), 0)) := by
  unfold takeP
  rw [if_neg (by rw [hp]; decide)]
  rcases num_wrote s with ⟨E, e, hE⟩ | ⟨m, q, e, hm, hq, _⟩
  · exact .inl ⟨E, e, hE, by rw [e, if_pos hE]⟩
  · rw [e, if_neg (fun x => x rfl)]
    have e1 : ((q : Int)).toNat = q := Int.toNat_natCast q
    have e2 : ((q : Int) + (m : Int)).toNat = q + m := by omega
    by_cases h7 : s.size < q + m
    · exact .inr (.inl ⟨m, q, rfl, hq, hm, h7, by rw [if_pos (by show (s.size : Int) - (q : Int) < (m : Int); omega)]⟩)
    · rw [if_neg (by show ¬ (s.size : Int) - (q : Int) < (m : Int); omega)]
      by_cases hE : (ta place (s.size + 1) [] (s.extract q (q + m))).2 = 0
      · refine .inr (.inr (.inr ⟨m, q, (ta place (s.size + 1) [] (s.extract q (q + m))).1, rfl, hq, hm, by omega, by rw [← hE], ?_⟩))
        show (if (ta place (s.size + 1) [] (s.extract (q : Int).toNat ((q : Int) + (m : Int)).toNat)).2 ≠ 0 then _ else _) = _
        rw [e1, e2, if_neg (fun x => x hE)]
      · refine .inr (.inr (.inl ⟨m, q, (ta place (s.size + 1) [] (s.extract q (q + m))).2, rfl, hq, hm, by omega, Prod.ext (ta_err _ _ _ _ hE) rfl, hE, ?_⟩))
        show (if (ta place (s.size + 1) [] (s.extract (q : Int).toNat ((q : Int) + (m : Int)).toNat)).2 ≠ 0 then _ else _) = _
        rw [e1, e2, if_pos hE]
theorem takeP_place {place : Int} (s : ByteArray) (hp : placeB place = false) : takeP place s = ([], 0, 1) := by unfold takeP; rw [if_pos hp]
end Go.Proofs.Ythjlbdplhhgcpaa.Prp
