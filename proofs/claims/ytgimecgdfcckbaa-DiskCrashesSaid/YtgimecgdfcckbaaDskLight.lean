/- A script whose acts are laid anew is as light as it was. -/
import Derived.Test.YtgimecgdfcckbaaDskCalls
import Derived.Test.YtgimecgdfcckbaaDskExact
import Derived.Test.YtgimecgdfcckbaaDskScript
namespace Go.Proofs.Ytgimecgdfcckbaa.Dsk
open Go.RowKit Go.Lib Go.Maps

theorem hv_idx (xs : List Ac) (n : Nat) (f : Nat → Ac → Ac) (h : ∀ i x, aw (f i x) = aw x) : hv n (xs.mapIdx f) = hv n xs := by
  induction xs generalizing n f with
  | nil => rfl
  | cons a r ih =>
    rw [List.mapIdx_cons]
    show (if n < 1048576 then hv (n + aw (f 0 a)) _ else n) = if n < 1048576 then hv (n + aw a) r else n
    rw [h, ih _ _ (fun i x => h (i + 1) x)]
theorem heavy_turn (ns ts : List (List UInt8)) (xs : List Ac) (d : Int) : heavyB ns ts (turn d xs) = heavyB ns ts xs := by
  unfold heavyB hvN
  rw [turn_len]
  unfold turn
  rw [hv_idx xs _ (turnA d) (fun _ _ => rfl)]
theorem len_lens {l : List (List UInt8)} {x : List UInt8} (h : x ∈ l) : x.length ≤ lens l := by
  unfold lens
  induction l with
  | nil => cases h
  | cons a r ih =>
    rw [List.map_cons, List.sum_cons]
    rcases List.mem_cons.1 h with rfl | h
    · omega
    · have := ih h; omega
theorem turn_mem {d : Int} {xs : List Ac} {y : Ac} (h : y ∈ turn d xs) : ∃ x ∈ xs, y.nm = x.nm ∧ y.to = x.to ∧ y.s = x.s ∧ y.ps = x.ps ∧ (y.d = 3 ∨ y.d = d) := by
  obtain ⟨j, hj, e⟩ := List.mem_iff_getElem.1 h
  have hjx : j < xs.length := by rw [turn_len] at hj; exact hj
  rw [turn_at d xs j hjx hj] at e
  subst e
  refine ⟨xs[j], List.getElem_mem hjx, rfl, rfl, rfl, rfl, ?_⟩
  unfold turnA
  split
  · exact .inr rfl
  · exact .inl rfl
/-- What a light script is, for each list of its parts. -/
structure LightS (ns ts : List (List UInt8)) (xs : List Ac) : Prop where
  s1 : ∀ x ∈ ns, x.length ≤ 8000
  s2 : ∀ x ∈ ts, x.length ≤ 8000
  s3 : ∀ x ∈ xs, x.nm.length ≤ 8000 ∧ x.to.length ≤ 8000 ∧ x.s.length ≤ 8000 ∧ x.ps.length ≤ 8000
  l1 : ns.length ≤ 8000
  l2 : ts.length ≤ 8000
  l3 : xs.length ≤ 200
theorem light_turn {ns ts : List (List UInt8)} {xs : List Ac} (d : Int) (h : heavyB ns ts xs = false) : LightS ns ts (turn d xs) := by
  obtain ⟨h1, h2, h3⟩ := light h
  refine ⟨fun x hx => ?_, fun x hx => ?_, fun y hy => ?_, by omega, by omega, by rw [turn_len]; exact h2⟩
  · have := len_lens hx; omega
  · have := len_lens hx; omega
  · obtain ⟨x, hx, e1, e2, e3, e4, _⟩ := turn_mem hy
    rw [e1, e2, e3, e4]
    have := h3 x hx
    unfold aw at this
    omega
end Go.Proofs.Ytgimecgdfcckbaa.Dsk
