/- Plain facts on framing: what bytes begin with, what is told of them, part by part. No run of a program is in this file. -/
import Derived.Test.YtdbbcfohjkgdcaaGreatL00
import Derived.Test.YtdbbcfohjkgdcaaGreatL19
set_option maxRecDepth 100000
set_option maxHeartbeats 64000000
namespace Go.Proofs.YtdbbcfohjkgdcaaGreat.Pkt
open Go.Lib Vbi Prp
structure Few (p : Pk) : Prop where
 cs : p.cs.length ≤ 8
 fs : p.fs.length ≤ 8
 ws : p.w.ps.length ≤ 8
 ps : p.ps.length ≤ 8
theorem props_len' (place : Int) (st : St) (z : List P) (hz : z.length ≤ 8) : ((st.run (propsR place)).val z).length ≤ 8 := by
 cases st with
 | bad e => exact hz
 | ok s =>
  show ((propsR place s).val z).length ≤ 8
  unfold propsR
  split
  ·exact takeP_len (place := place) (s := s) (K := (takeP place s).2.1) (E := (takeP place s).2.2) rfl
  ·exact hz
theorem props_len (place : Int) (st : St) : ((st.run (propsR place)).val []).length ≤ 8 := props_len' place st [] (Nat.zero_le _)
theorem many_len {α : Type} (one : ByteArray → Res α) : ∀ (f : Nat) (l : List α) (s : ByteArray), l.length + f ≤ 8 → ((manyR one f l s).val []).length ≤ 8 := by
 intro f
 induction f with
 | zero => intro l s h; exact h
 | succ f ih =>
  intro l s h
  unfold manyR
  split
  ·split
   ·exact Nat.zero_le _
   ·show l.length ≤ 8; omega
  ·split
   ·exact Nat.zero_le _
   ·split
    ·exact ih _ _ (by rw [List.length_append]; show l.length + 1 + f ≤ 8; omega)
    ·exact Nat.zero_le _
theorem many_run_len {α : Type} (one : ByteArray → Res α) (st : St) : ((st.run (manyR one 5 [])).val []).length ≤ 8 := by
 cases st with
 | bad e => exact Nat.zero_le _
 | ok s => exact many_len one 5 [] s (by show 0 + 5 ≤ 8; omega)
theorem Few.zero (k : Int) : Few (zp k) := ⟨Nat.zero_le _, Nat.zero_le _, Nat.zero_le _, Nat.zero_le _⟩
theorem head_few (c : Int) : Few (headP c) := by
 unfold headP
 split <;> exact ⟨Nat.zero_le _, Nat.zero_le _, Nat.zero_le _, Nat.zero_le _⟩
theorem reason_few {p : Pk} (st : St) (h : Few p) : Few (reasonS p st).1 := by
 refine ⟨h.cs, h.fs, h.ws, ?_⟩
 show (((st.optR octetR p.re).2.optR (propsR p.kind) p.ps).1).length ≤ 8
 generalize (st.optR octetR p.re).2 = s2
 unfold St.optR
 split
 ·exact props_len' _ _ _ h.ps
 ·exact h.ps
theorem will_len (w : Wl) (st : St) (h : w.ps.length ≤ 8) : (willS w st).1.ps.length ≤ 8 := by
 unfold willS
 split
 ·exact props_len _ _
 ·exact h
theorem parts_fewL (p : Pk) (st : St) (h : Few p) : Few (partsS p st).1 := by
 unfold partsS
 by_cases h1 : p.kind = 1
 ·rw [if_pos h1]
  refine ⟨h.cs, h.fs, ?_, props_len _ _⟩
  refine will_len _ _ ?_
  show (willOf (connFlags st)).ps.length ≤ 8
  unfold willOf
  split <;> exact Nat.zero_le _
 rw [if_neg h1]
 by_cases h2 : p.kind = 2
 ·rw [if_pos h2]; exact ⟨h.cs, h.fs, h.ws, props_len _ _⟩
 rw [if_neg h2]
 by_cases h3 : p.kind = 3
 ·rw [if_pos h3]; exact ⟨h.cs, h.fs, h.ws, props_len _ _⟩
 rw [if_neg h3]
 by_cases h4 : p.kind = 4 ∨ p.kind = 5 ∨ p.kind = 6 ∨ p.kind = 7
 ·rw [if_pos h4]; exact reason_few _ ⟨h.cs, h.fs, h.ws, h.ps⟩
 rw [if_neg h4]
 by_cases h8 : p.kind = 8
 ·rw [if_pos h8]; exact ⟨h.cs, many_run_len _ _, h.ws, props_len _ _⟩
 rw [if_neg h8]
 by_cases h10 : p.kind = 10
 ·rw [if_pos h10]; exact ⟨h.cs, many_run_len _ _, h.ws, props_len _ _⟩
 rw [if_neg h10]
 by_cases h9 : p.kind = 9 ∨ p.kind = 11
 ·rw [if_pos h9]; exact ⟨many_run_len _ _, h.fs, h.ws, props_len _ _⟩
 rw [if_neg h9]
 by_cases h14 : p.kind = 14 ∨ p.kind = 15
 ·rw [if_pos h14]; exact reason_few _ h
 rw [if_neg h14]
 exact h
theorem body_few (c : Int) (s : ByteArray) : Few (bodyS c s).1 := parts_fewL _ _ (head_few c)
theorem take_few (s : ByteArray) : Few (takeS s).1 := by
 unfold takeS
 split
 ·exact Few.zero 0
 split
 ·exact Few.zero 0
 split
 ·exact Few.zero 0
 split
 ·exact Few.zero 0
 have h := body_few (idOf s) (s.extract (1 + (tn (s.extract 1 s.size).data.toList).2.1).toNat (1 + (tn (s.extract 1 s.size).data.toList).2.1 + (tn (s.extract 1 s.size).data.toList).1).toNat)
 split
 ·next p x e => rw [e] at h; exact h
 ·exact Few.zero 0
open Go.Lib Vbi Prp
def St.No7 : St → Prop
 | .ok _ => True
 | .bad e => e ≠ 7
def Res.No7 {α : Type} : Res α → Prop
 | .ok _ _ => True
 | .bad e => e ≠ 7
theorem Res.No7.st {α : Type} {r : Res α} (h : r.No7) : r.st.No7 := by cases r <;> exact h
theorem St.No7.want {st : St} (h : st.No7) (b : Bool) {e : Int} (he : e ≠ 7) : (st.want b e).No7 := by
 cases st with
 | ok s => cases b with
  | false => exact he
  | true => exact h
 | bad e => exact h
theorem St.No7.run {α : Type} {st : St} {f : ByteArray → Res α} (h : st.No7) (hf : ∀ s, (f s).No7) : (st.run f).No7 := by
 cases st with
 | ok s => exact hf s
 | bad e => exact h
def lenS (s : ByteArray) : Int × Int :=
 if s.size = 0 then (0, 7) else if (tn (s.extract 1 s.size).data.toList).2.2 ≠ 0 then (0, (tn (s.extract 1 s.size).data.toList).2.2) else (1 + (tn (s.extract 1 s.size).data.toList).2.1 + (tn (s.extract 1 s.size).data.toList).1, 0)
end Go.Proofs.YtdbbcfohjkgdcaaGreat.Pkt
