/- What the document's own answer reads out of a body, plainly. No run of a program is in this file. -/
import Derived.Test.YtimoncjdfmfojaaDoorRcPlain
namespace Go.Proofs.YtimoncjdfmfojaaDoor.Rcd
open Go.Lib Vbi Crc

/-- The record that a body of nineteen bytes or more tells, if it tells one. -/
def docR (B : List UInt8) (f key : Nat) : Rc := ⟨lng B, lng (B.drop 8), (B.drop 19).take key, B.drop (19 + key), ((f % 4 : Nat) : Int), decide (4 ≤ f)⟩
theorem parse_short {B : List UInt8} (h : B.length < 19) : ¬ (parse B).2 = 0 := by
  unfold parse p0
  by_cases c1 : B.length < 8
  · rw [if_pos c1]; decide
  · rw [if_neg c1]
    unfold p1
    by_cases c2 : (B.drop 8).length < 8
    · rw [if_pos c2]; decide
    · rw [if_neg c2]
      rw [List.length_drop] at c2
      rcases hd : (B.drop 8).drop 8 with _ | ⟨f, t⟩
      · show ¬ (7 : Int) = 0
        decide
      · have hl := congrArg List.length hd
        rw [List.length_drop, List.length_drop, List.length_cons] at hl
        rw [p2_cons]
        unfold p3
        rw [if_pos (by omega)]
        decide
theorem flags_low : ∀ f, f < 8 → f - 4 * (f / 4 % 2) = f % 4 ∧ decide (f / 4 % 2 = 1) = decide (4 ≤ f) := by decide
theorem parse_long {B : List UInt8} {f : UInt8} {key : Nat} (h : 19 ≤ B.length) (hf : B.drop 16 = f :: B.drop 17) (hk : fixVal ((B.drop 17).take 2) = key) :
    (7 < f.toNat → ¬ (parse B).2 = 0) ∧ (B.length - 19 < key → ¬ (parse B).2 = 0) ∧ (f.toNat ≤ 7 → key ≤ B.length - 19 → (mayB (docR B f.toNat key) = false → ¬ (parse B).2 = 0) ∧ (mayB (docR B f.toNat key) = true → parse B = (docR B f.toNat key, 0))) := by
  have hp : parse B = p3 (flagged { ({ zero with o := lng B } : Rc) with t := lng (B.drop 8) } f.toNat) (B.drop 17) := by
    unfold parse p0
    rw [if_neg (by omega)]
    unfold p1
    rw [if_neg (by rw [List.length_drop]; omega), List.drop_drop]
    show p2 _ (B.drop 16) = _
    rw [hf, p2_cons]
  have hl : (B.drop 17).length = B.length - 17 := List.length_drop
  unfold p3 at hp
  rw [hk, hl, if_neg (by omega)] at hp
  by_cases c1 : 1024 < key
  · rw [if_pos c1] at hp
    have hne : ¬ (parse B).2 = 0 := by rw [hp]; decide
    refine ⟨fun _ => hne, fun _ => hne, fun _ hk2 => ⟨fun _ => hne, fun hm => ?_⟩⟩
    have := (may_iff _).1 hm
    have h5 := this.2.2.2.2.1
    unfold docR at h5
    rw [List.length_take, List.length_drop] at h5
    omega
  · rw [if_neg c1] at hp
    by_cases c2 : B.length - 17 < 2 + key
    · rw [if_pos c2] at hp
      have hne : ¬ (parse B).2 = 0 := by rw [hp]; decide
      exact ⟨fun _ => hne, fun _ => hne, fun _ hk2 => by omega⟩
    · rw [if_neg c2, List.drop_drop, List.drop_drop, show 17 + (2 + key) = 19 + key by omega] at hp
      unfold p4 at hp
      refine ⟨fun h7 => ?_, fun hk2 => by omega, fun h7 _ => ?_⟩
      · rw [hp]
        show ¬ (if mayB _ then (0 : Int) else 1) = 0
        rw [if_neg ?_]
        · decide
        · intro hm
          have := ((may_iff _).1 hm).2.2.2.2.2.2.2.1
          unfold flagged at this
          simp only at this
          omega
      · obtain ⟨e1, e2⟩ := flags_low f.toNat (by omega)
        have hr : ({ ({ flagged { ({ zero with o := lng B } : Rc) with t := lng (B.drop 8) } f.toNat with k := (B.drop (17 + 2)).take key } : Rc) with b := B.drop (19 + key) } : Rc) = docR B f.toNat key := by
          unfold flagged docR
          simp only [e1, e2]
        rw [hr] at hp
        refine ⟨fun hm => ?_, fun hm => ?_⟩
        · rw [hp, hm]
          show ¬ (1 : Int) = 0
          decide
        · rw [hp, hm]; rfl
end Go.Proofs.YtimoncjdfmfojaaDoor.Rcd
