/- What a crash keeps may be laid anew. -/
import Derived.Test.YtgimecgdfcckbaaDskBoth
namespace Go.Proofs.Ytgimecgdfcckbaa.Dsk

theorem sum_map_le {l : List Nat} {l' : List Nat} (hl : l.length = l'.length) (h : ∀ i (h : i < l.length) (h' : i < l'.length), l[i] ≤ l'[i]) : l.sum ≤ l'.sum := by
  induction l generalizing l' with
  | nil => simp
  | cons a r ih =>
    cases l' with
    | nil => simp at hl
    | cons b s =>
      have h0 := h 0 (by simp) (by simp)
      have h1 := ih (l' := s) (by simpa using hl) (fun i hi hi' => by
        have := h (i + 1) (by simpa using hi) (by simpa using hi')
        simpa using this)
      simp only [List.getElem_cons_zero] at h0
      simp only [List.sum_cons]
      omega
theorem crashT_at {F : List Fl} {ps : List Int} {i : Nat} (h : i < F.length) (h' : i < (crashT F ps).length) : (crashT F ps)[i] = keptT F[i] (ps.getD i 0) := by simp [crashT]
theorem kept_le (f : Fl) (p : Int) : (keptT f p).length ≤ f.t.length := by
  unfold keptT
  rw [List.length_take]
  omega
theorem new_rise {F : List Fl} (hG : GoodF F) (ps : List Int) : mayFrom [] (names F) (crashT F ps) = true := by
  have hcl : (crashT F ps).length = F.length := crash_len F ps
  refine may_none.2 ⟨by rw [names_len, hcl], by rw [names_len]; exact hG.few, fun n hn => ?_, ?_, fun t ht => ?_, ?_⟩
  · obtain ⟨f, hf, rfl⟩ := List.mem_map.1 hn
    exact hG.name f hf
  · exact (sorted_names hG.sorted).imp fun h => lt_ne h
  · obtain ⟨i, hi, rfl⟩ := List.mem_iff_getElem.1 ht
    have hiF : i < F.length := by rw [← hcl]; exact hi
    rw [crashT_at hiF hi]
    exact Nat.le_trans (kept_le _ _) (hG.small _ (List.getElem_mem hiF))
  · refine Nat.le_trans ?_ hG.room
    unfold lens total
    refine sum_map_le (by simp [hcl]) fun i hi hi' => ?_
    have hiF : i < F.length := by simpa using hi'
    have hic : i < (crashT F ps).length := by rw [hcl]; exact hiF
    rw [List.getElem_map, List.getElem_map, crashT_at hiF hic]
    exact kept_le _ _
/-- What is laid of it is good. -/
theorem rise_good {F : List Fl} (hG : GoodF F) (ps : List Int) : GoodF (newF (names F) (crashT F ps)) := good_from good_none (new_rise hG ps)
end Go.Proofs.Ytgimecgdfcckbaa.Dsk
