/- The document's own answer on packets: what stands behind the length of a packet that may be; its bytes. -/
import Derived.Test.YtiancngpknnkaaaGreatK00
import Derived.Test.YtiancngpknnkaaaGreatK15
set_option maxRecDepth 100000
set_option maxHeartbeats 64000000
namespace Go.Proofs.YtiancngpknnkaaaGreat
open Go.RowKit Go.Lib Prp Pkt Vbi
theorem reason_doc {p : Pk} {k : Int} (hk : p.kind = k) (h0 : propsB k [] = true) : allOk (reasonL p) = (inB p.re 255 && propsB k p.ps) := by
 unfold reasonL
 by_cases hp : p.ps = []
 ·rw [if_neg (fun h => h hp), hp, h0]
  by_cases hr : p.re = 0
  ·rw [if_neg (fun h => h hr), hr]; rfl
  ·rw [if_pos hr]; simp [allOk, Part.okB, inB]
 ·rw [if_pos hp]; simp [allOk, Part.okB, inB, hk]
open Go.RowKit Go.Lib Prp Pkt Vbi
theorem reason_ok {p : Pk} (h : allOk (reasonL p) = true) : (0 < p.ps.length → (0 ≤ p.re ∧ p.re ≤ 255) ∧ propsB p.kind p.ps = true) ∧ (p.ps.length = 0 → ¬ p.re = 0 → 0 ≤ p.re ∧ p.re ≤ 255) := by
 unfold reasonL at h
 by_cases hp : p.ps = []
 ·rw [if_neg (by simpa using hp)] at h
  refine ⟨fun hl => by rw [hp] at hl; simp at hl, fun _ hr => ?_⟩
  rw [if_pos hr] at h
  unfold allOk at h
  simp only [List.all_cons, List.all_nil, Bool.and_true] at h
  exact of_decide_eq_true h
 ·rw [if_pos hp] at h
  unfold allOk at h
  simp only [List.all_cons, List.all_nil, Bool.and_eq_true, Bool.and_true] at h
  exact ⟨fun _ => ⟨of_decide_eq_true h.1, h.2⟩, fun hl => absurd (List.eq_nil_of_length_eq_zero hl) hp⟩
theorem reason_str (p : Pk) (pre : ByteArray) : pre ++ allStr (reasonL p) = (if 0 < p.ps.length then (pre ++ strOfNums [p.re]) ++ propStr p.ps else if p.re = 0 then pre else pre ++ strOfNums [p.re]) := by
 unfold reasonL
 by_cases hp : p.ps = []
 ·rw [if_neg (show ¬ p.ps ≠ [] by simpa using hp), if_neg (show ¬ 0 < p.ps.length by rw [hp]; simp)]
  by_cases hr : p.re = 0
  ·rw [if_neg (show ¬ p.re ≠ 0 by simpa using hr), if_pos hr, allStr_nil, add_empty]
  ·rw [if_pos (show p.re ≠ 0 from hr), if_neg hr, allStr_cons, allStr_nil, add_empty]
   rfl
 ·rw [if_pos (show p.ps ≠ [] from hp), if_pos (show 0 < p.ps.length from List.length_pos_iff.2 hp), allStr_cons, allStr_cons, allStr_nil, add_empty, ← ByteArray.append_assoc]
  rfl
end Go.Proofs.YtiancngpknnkaaaGreat
