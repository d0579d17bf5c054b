/- Rows of subscriptions: one of them written over, one of them taken out. -/
import Derived.Test.YtdogeljlcnlbkaaSubCopies
import Derived.Deep.RegionLaw
namespace Go.Proofs.Ytdogeljlcnlbkaa.Sbs
open Go.RowKit Go.Lib

section
variable {w W : World} {g o : Nat} {l : List Sb}
theorem range_app {xs ys : List Value} (h1 : w.rangeAt g o xs) (h2 : w.rangeAt g (o + xs.length) ys) : w.rangeAt g o (xs ++ ys) := fun j v hv => by
  by_cases hj : j < xs.length
  · rw [List.getElem?_append_left hj] at hv; exact h1 j v hv
  · rw [List.getElem?_append_right (by omega)] at hv
    have := h2 (j - xs.length) v hv
    rwa [show o + xs.length + (j - xs.length) = o + j by omega] at this
theorem range_left {xs ys : List Value} (h : w.rangeAt g o (xs ++ ys)) : w.rangeAt g o xs := fun j v hv => h j v (by rw [List.getElem?_append_left (List.getElem?_eq_some_iff.1 hv).1]; exact hv)
theorem range_right {xs ys : List Value} (h : w.rangeAt g o (xs ++ ys)) : w.rangeAt g (o + xs.length) ys := fun j v hv => by
  rw [show o + xs.length + j = o + (xs.length + j) by omega]
  exact h (xs.length + j) v (by rw [List.getElem?_append_right (by omega), show xs.length + j - xs.length = j by omega]; exact hv)
theorem own_range {B e c : Nat} (h : w.ownsRow B e 9 (.slice (some ⟨g, 0, none⟩) l.length c) l.length (flat l)) : w.rangeAt g 0 (flat l) := fun j v hv => by
  have := h.cells (g := g) rfl j v hv
  rw [add_new] at this
  rw [Nat.zero_add]
  exact this
theorem SubsAt.of_range {B : Nat} (hg : g < B) (h : w.rangeAt g 0 (flat l)) : SubsAt w B (some ⟨g, 0, none⟩) l := .of_cells hg fun j u hu => by
  have := h j u hu
  rwa [Nat.zero_add] at this
theorem split_at {a : Nat} (ha : a < l.length) : flat l = flat (l.take a) ++ (scells l[a] ++ flat (l.drop (a + 1))) := by
  rw [← flat_cons, ← flat_app, ← List.drop_eq_getElem_cons ha, List.take_append_drop]
theorem flat_take_len {a : Nat} (ha : a < l.length) : (flat (l.take a)).length = a * 9 := by rw [flat_len, List.length_take, Nat.min_eq_left (by omega)]
/-- One written over. -/
theorem range_set {a : Nat} (ha : a < l.length) (s : Sb) (h : w.rangeAt g 0 (flat l)) (ht : w.there g (a * 9) 9) : (w.setCells g (a * 9) (scells s)).rangeAt g 0 (flat (l.set a s)) := by
  have hl := flat_take_len ha
  rw [split_at ha] at h
  have h1 := range_left h
  have h2 := range_right h
  have h3 := range_right h2
  rw [List.set_eq_take_append_cons_drop, if_pos ha, flat_app, flat_cons]
  rw [hl] at h2 h3
  refine range_app (World.rangeAt_setCells_apart h1 g _ _ (.inr (.inl (by rw [hl]; omega)))) ?_
  rw [hl, Nat.zero_add]
  refine range_app (World.rangeAt_setCells_same w g (a * 9) (scells s) ht) ?_
  rw [Nat.zero_add] at h3
  exact World.rangeAt_setCells_apart h3 g _ _ (.inr (.inr (Nat.le_refl _)))
/-- All behind one moved to its place. -/
theorem range_erase {a : Nat} (ha : a < l.length) (h : w.rangeAt g 0 (flat l)) (ht : w.there g (a * 9) (flat (l.drop (a + 1))).length) : (w.setCells g (a * 9) (flat (l.drop (a + 1)))).rangeAt g 0 (flat (l.eraseIdx a)) := by
  have hl := flat_take_len ha
  rw [split_at ha] at h
  have h1 := range_left h
  rw [List.eraseIdx_eq_take_drop_succ, flat_app]
  refine range_app (World.rangeAt_setCells_apart h1 g _ _ (.inr (.inl (by rw [hl]; omega)))) ?_
  rw [hl, Nat.zero_add]
  exact World.rangeAt_setCells_same w g (a * 9) _ ht
theorem range_behind {a : Nat} (ha : a < l.length) (h : w.rangeAt g 0 (flat l)) : w.rangeAt g ((a + 1) * 9) (flat (l.drop (a + 1))) := by
  have hl := flat_take_len ha
  rw [split_at ha] at h
  have h3 := range_right (range_right h)
  rw [hl] at h3
  rwa [show 0 + a * 9 + (scells l[a]).length = (a + 1) * 9 by show 0 + a * 9 + 9 = _; omega] at h3
theorem there_of {n : Nat} (h : w.rangeAt g 0 (flat l)) (hf : ∀ j, w.frozen? ⟨g, j, none⟩ = false) (hn : o + n ≤ l.length * 9) : w.there g o n := fun j hj =>
  ⟨by
    have := h.isSome (o + j) (by rw [flat_len]; omega)
    rwa [Nat.zero_add] at this, hf _⟩
end
theorem cell_setCells_drew (g : Nat) : ∀ (vs : List Value) (o : Nat) (w : World) (x : Addr), (w.drew.setCells g o vs).cell? x = (w.setCells g o vs).cell? x
  | [], _, _, _ => rfl
  | v :: r, o, w, x => cell_setCells_drew g r (o + 1) (w.setCell ⟨g, o, none⟩ v) x
theorem range_erase_drew {w : World} {g o : Nat} {vs cs : List Value} (h : (w.setCells g o vs).rangeAt g 0 cs) : (w.drew.setCells g o vs).rangeAt g 0 cs := fun j v hv => by
  rw [cell_setCells_drew]
  exact h j v hv
theorem below_cells {B g : Nat} {a : World} (hg : B ≤ g) : ∀ (vs : List Value) (o : Nat) {w : World}, Below B a w → Below B a (w.setCells g o vs)
  | [], _, _, h => h
  | v :: r, o, _, h => below_cells hg r (o + 1) (h.setCell (p := ⟨g, o, none⟩) hg v)
/-- One subscription written over with what it is not. -/
theorem run_clear_one {P : Program} (w : World) (t e ty : TypeId) (ht : P.underlying t = some (.slice e)) (hv : ∀ w, (zeroValue e).run P w = .ok (.agg zcells) w) (b o m c : Nat) (hm : m = 1) (hth : w.there b o 9) :
    (Builtin.clear_ #[t] ty #[.slice (some ⟨b, o, none⟩) m c]).run P w = .ok (.tuple #[]) (w.setCells b o zcells.toList) := by
  subst hm
  have hzc : (Builtin.zeroCells (Value.agg zcells).cells 1).toList = zcells.toList := by kernel_rfl
  have hone := one_zero
  rw [Array.all_eq_true'] at hone
  have hst := run_storeCells_cells (P := P) b o zcells.toList 0 w (fun j hj => by simpa using (hth j hj).1) (fun j hj => by simpa using (hth j hj).2) (fun v hv => hone v (by simpa using hv))
  simp only [Nat.add_zero] at hst
  simp [Builtin.clear_, run_underlying ht, hv, hzc, hst]
end Go.Proofs.Ytdogeljlcnlbkaa.Sbs
