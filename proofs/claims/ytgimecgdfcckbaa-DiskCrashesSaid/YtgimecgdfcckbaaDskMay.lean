/- Names and texts that may be, and what is laid out of them: plain. -/
import Derived.Test.YtgimecgdfcckbaaDskPlain
namespace Go.Proofs.Ytgimecgdfcckbaa.Dsk

def lens (ts : List (List UInt8)) : Nat := (ts.map List.length).sum
theorem lens_cons (t : List UInt8) (ts : List (List UInt8)) : lens (t :: ts) = t.length + lens ts := by simp [lens]
theorem step_iff (F : List Fl) (n t : List UInt8) : mayStep F n t = true ↔ nameB n = true ∧ (∀ g ∈ F, g.n ≠ n) ∧ F.length < 64 ∧ t.length ≤ 65536 ∧ t.length + total F ≤ 1048576 := by
  unfold mayStep roomB
  simp only [Bool.and_eq_true, decide_eq_true_eq, Nat.zero_add]
  constructor
  · rintro ⟨h1, h2, h3, h4, h5⟩
    exact ⟨h1, look_none (by simpa using h2), h3, h4, h5⟩
  · rintro ⟨h1, h2, h3, h4, h5⟩
    exact ⟨h1, by rw [look_not h2]; rfl, h3, h4, h5⟩
theorem may_iff {F : List Fl} {ns ts : List (List UInt8)} (hF : F.length ≤ 64) (hT : total F ≤ 1048576) :
    mayFrom F ns ts = true ↔ ns.length = ts.length ∧ F.length + ns.length ≤ 64 ∧ (∀ n ∈ ns, nameB n = true ∧ ∀ g ∈ F, g.n ≠ n) ∧ ns.Nodup ∧ (∀ t ∈ ts, t.length ≤ 65536) ∧ total F + lens ts ≤ 1048576 := by
  induction ns generalizing F ts with
  | nil =>
    cases ts with
    | nil => simp [mayFrom, lens]; omega
    | cons t ts => simp [mayFrom]
  | cons n ns ih =>
    cases ts with
    | nil => simp [mayFrom]
    | cons t ts =>
      show (mayStep F n t && mayFrom (put F ⟨n, t, t.length⟩) ns ts) = true ↔ _
      rw [Bool.and_eq_true, step_iff]
      have hpl : (put F ⟨n, t, t.length⟩).length = F.length + 1 := put_len
      have hpt : total (put F ⟨n, t, t.length⟩) = total F + t.length := put_total
      rw [lens_cons]
      constructor
      · rintro ⟨⟨h1, h2, h3, h4, h5⟩, h6⟩
        obtain ⟨g1, g2, g3, g4, g5, g6⟩ := (ih (by omega) (by omega)).1 h6
        refine ⟨by simp [g1], by simp only [List.length_cons]; omega, ?_, ?_, ?_, by omega⟩
        · intro m hm
          rcases List.mem_cons.1 hm with rfl | hm
          · exact ⟨h1, h2⟩
          · exact ⟨(g3 m hm).1, fun g hg => (g3 m hm).2 g (mem_put.2 (.inr hg))⟩
        · rw [List.nodup_cons]
          exact ⟨fun hm => (g3 n hm).2 _ (mem_put.2 (.inl rfl)) rfl, g4⟩
        · intro x hx
          rcases List.mem_cons.1 hx with rfl | hx
          · exact h4
          · exact g5 x hx
      · rintro ⟨g1, g2, g3, g4, g5, g6⟩
        simp only [List.length_cons] at g1 g2
        obtain ⟨k1, k2⟩ := List.nodup_cons.1 g4
        have hn := g3 n (by simp)
        have ht := g5 t (by simp)
        refine ⟨⟨hn.1, hn.2, by omega, ht, by omega⟩, (ih (by omega) (by omega)).2 ⟨by omega, by omega, fun m hm => ⟨(g3 m (by simp [hm])).1, fun g hg => ?_⟩, k2, fun x hx => g5 x (by simp [hx]), by omega⟩⟩
        rcases mem_put.1 hg with rfl | hg
        · intro e
          have e : n = m := e
          subst e
          exact k1 hm
        · exact (g3 m (by simp [hm])).2 g hg
/-- What is laid of the first k. -/
def newK (ns ts : List (List UInt8)) (k : Nat) : List Fl := newF (ns.take k) (ts.take k)
theorem new_snoc (F : List Fl) (ns ts : List (List UInt8)) (n t : List UInt8) (h : ns.length = ts.length) : newFrom F (ns ++ [n]) (ts ++ [t]) = put (newFrom F ns ts) ⟨n, t, t.length⟩ := by
  induction ns generalizing F ts with
  | nil =>
    obtain rfl : ts = [] := List.eq_nil_of_length_eq_zero (by simpa using h.symm)
    rfl
  | cons a r ih =>
    cases ts with
    | nil => simp at h
    | cons b s => exact ih _ _ (by simpa using h)
theorem newK_succ {ns ts : List (List UInt8)} {k : Nat} (h : ns.length = ts.length) (hk : k < ns.length) (hk' : k < ts.length) : newK ns ts (k + 1) = put (newK ns ts k) ⟨ns[k], ts[k], ts[k].length⟩ := by
  unfold newK newF
  rw [List.take_add_one, List.take_add_one, List.getElem?_eq_getElem hk, List.getElem?_eq_getElem hk']
  exact new_snoc _ _ _ _ _ (by rw [List.length_take, List.length_take]; omega)
theorem newK_len {ns ts : List (List UInt8)} (h : ns.length = ts.length) : ∀ k, k ≤ ns.length → (newK ns ts k).length = k
  | 0, _ => rfl
  | k + 1, hk => by rw [newK_succ h (by omega) (by omega), put_len, newK_len h k (by omega)]
theorem newK_all {ns ts : List (List UInt8)} (h : ns.length = ts.length) : newK ns ts ns.length = newF ns ts := by
  unfold newK
  rw [List.take_length, h, List.take_length]
/-- What may be is good. -/
theorem good_from {F : List Fl} {ns ts : List (List UInt8)} (hG : GoodF F) (h : mayFrom F ns ts = true) : GoodF (newFrom F ns ts) := by
  induction ns generalizing F ts with
  | nil => cases ts <;> exact hG
  | cons n ns ih =>
    cases ts with
    | nil => exact hG
    | cons t ts =>
      have h : (mayStep F n t && mayFrom (put F ⟨n, t, t.length⟩) ns ts) = true := h
      rw [Bool.and_eq_true, step_iff] at h
      obtain ⟨⟨h1, h2, h3, h4, h5⟩, h6⟩ := h
      exact ih (good_put hG h2 h3 h1 h4 (Nat.le_refl _) (by show total F + t.length ≤ _; omega)) h6
end Go.Proofs.Ytgimecgdfcckbaa.Dsk
