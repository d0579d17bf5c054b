/- What properties are in memory, out of the reading of an argument. -/
import Derived.Test.YtiancngpknnkaaaRows
import Derived.Test.YtiancngpknnkaaaF05
import Derived.ProofKit
import Derived.Deep.Slices
import Derived.SizedLaws
import Derived.ChangeOld
import Derived.Below
namespace Go.Proofs.Ytiancngpknnkaaa
open Go.ChangeShapes Go.WideShapes Go.ChangeAt Go.RowKit Prp

theorem ownKnob_none : ownKnob Try.prog.godebug = none := by kernel_rfl
theorem laidOut_true : laidOutB Try.prog = true := by kernel_rfl
theorem cells_string : Try.prog.cellsOf 9 = 1 := by kernel_rfl
theorem cells_int : Try.prog.cellsOf 3 = 1 := by kernel_rfl
theorem cells_props : Try.prog.cellsOf 41 = 1 := by kernel_rfl
theorem cells_prop : Try.prog.cellsOf 73 = 4 := by kernel_rfl
theorem cell_lt {w : World} {a : Addr} {v : Value} (h : w.cell? a = some v) : a.block < w.heap.size := by
  rcases Nat.lt_or_ge a.block w.heap.size with hlt | hge
  · exact hlt
  · unfold World.cell? at h
    rw [Array.getElem?_eq_none hge] at h
    cases h

theorem add_off {b off : Nat} (k : Nat) : ((⟨b, off, none⟩ : Addr).add k) = ⟨b, off + k, none⟩ := by
  unfold Addr.add; split
  · next h => subst h; rfl
  · rfl
theorem int_range {x : Int} (h : (Lit.int .i64 x).wf = true) : -9223372036854775808 ≤ x ∧ x ≤ 9223372036854775807 := by
  have h1 : IntKind.i64.min = -9223372036854775808 := rfl
  have h2 : IntKind.i64.max = 9223372036854775807 := rfl
  simp only [Lit.wf, Bool.and_eq_true, decide_eq_true_eq] at h
  omega

section
variable {H : Type} {enc : TypeId × Value → H} {W : World} {base : Nat} {spare : Nat → Bool} {held : Bool}

/-- All that is read is within the form's reach. -/
def Near (t : TypeId) (d : DataW H) : Prop := ∀ n ∈ d.weights Try.prog t, n ≤ reachBytes
theorem near_field {t e : TypeId} {fs : Array Field} {ys : List (DataW H × List MemPlace)} {j : Nat} {f : Field} {y : DataW H × List MemPlace} (hu : Try.prog.underlying t = some (.struct fs)) (h : Near t (.agg (ys.map (·.1)))) (hf : fs[j]? = some f) (he : f.type = e) (hy : ys[j]? = some y) : Near e y.1 := by
  subst he
  intro n hn
  refine h n ?_
  rw [DataW.weights, hu]
  refine DataW.weights_mem_each (j := j) ?_ ?_ n hn
  · rw [List.getElem?_map, Array.getElem?_toList, hf]; rfl
  · rw [List.getElem?_map, hy]; rfl
theorem near_all {e : TypeId} {ds : List (DataW H)} {d : DataW H} (hd : d ∈ ds) : ∀ n ∈ d.weights Try.prog e, n ∈ DataW.weightsAll Try.prog e ds := by
  induction ds with
  | nil => cases hd
  | cons x r ih =>
    intro n hn
    rw [DataW.weightsAll, List.mem_append]
    rcases List.mem_cons.1 hd with rfl | hd
    · exact .inl hn
    · exact .inr (ih hd n hn)
theorem near_elem {t e : TypeId} {elems rest : List (DataW H)} {d : DataW H} (hu : Try.prog.underlying t = some (.slice e)) (h : Near t (.slice elems rest)) (hd : d ∈ elems) : Near e d := by
  intro n hn
  refine h n ?_
  rw [DataW.weights, hu]
  exact List.mem_cons_of_mem _ (List.mem_append_left _ (near_all hd n hn))
theorem near_string {t : TypeId} {s : ByteArray} (h : Near t (DataW.lit (H := H) (.string s.data.toList))) : s.size ≤ 140737488351232 := by
  have := h s.data.toList.length (by rw [DataW.weights]; exact List.mem_singleton.2 rfl)
  rw [Lib.size_eq]
  exact this

theorem one_prop {fuel : Nat} {a : Addr} {cs : List Value} {y : DataW H × List MemPlace} (hc : W.cells? base a 4 = some cs) (hw : Near 73 y.1) (h : DataW.trod enc Try.prog W base spare held fuel 73 cs = some y) :
    ∃ p, PAt W a.block a.off p ∧ Fit p ∧ a.spot = none := by
  obtain ⟨_, hlen, hcell⟩ := World.cells?_some hc
  match cs, hlen with
  | [v0, v1, v2, v3], _ =>
    have g0 := hcell 0 (by omega)
    have g1 := hcell 1 (by omega)
    have g2 := hcell 2 (by omega)
    have g3 := hcell 3 (by omega)
    change W.cell? (a.add 0) = some v0 at g0
    change W.cell? (a.add 1) = some v1 at g1
    change W.cell? (a.add 2) = some v2 at g2
    change W.cell? (a.add 3) = some v3 at g3
    obtain ⟨ys, n, _, hy, _, hyl, hf⟩ := DataW.trod_struct Try.underlying73 h
    subst hy
    have hyl' : ys.length = 4 := by simpa using hyl
    have f0 := hf 0 _ rfl
    have f1 := hf 1 _ rfl
    have f2 := hf 2 _ rfl
    have f3 := hf 3 _ rfl
    rw [List.getElem?_eq_getElem (by omega)] at f0 f1 f2 f3
    change DataW.trod enc Try.prog W base spare held n 3 (List.take (Try.prog.cellsOf 3) [v0, v1, v2, v3]) = _ at f0
    change DataW.trod enc Try.prog W base spare held n 3 (List.take (Try.prog.cellsOf 3) [v1, v2, v3]) = _ at f1
    change DataW.trod enc Try.prog W base spare held n 9 (List.take (Try.prog.cellsOf 9) [v2, v3]) = _ at f2
    change DataW.trod enc Try.prog W base spare held n 9 (List.take (Try.prog.cellsOf 9) [v3]) = _ at f3
    rw [cells_int] at f0 f1
    rw [cells_string] at f2 f3
    obtain ⟨i, e0, _, wi⟩ := DataW.trod_int Try.underlying3 f0
    obtain ⟨x, e1, _, wx⟩ := DataW.trod_int Try.underlying3 f1
    have w2 := near_field Try.underlying73 hw (j := 2) rfl rfl (List.getElem?_eq_getElem (by omega))
    have w3 := near_field Try.underlying73 hw (j := 3) rfl rfl (List.getElem?_eq_getElem (by omega))
    obtain ⟨s, e2, x2, ws⟩ := DataW.trod_string Try.underlying9 f2
    obtain ⟨v, e3, x3, wv⟩ := DataW.trod_string Try.underlying9 f3
    rw [x2] at w2
    rw [x3] at w3
    have ws := near_string w2
    have wv := near_string w3
    have hsp : a.spot = none := by
      have := World.cell?_spot g0
      simpa [Addr.add] using this
    obtain ⟨b, off, spot⟩ := a
    obtain rfl : spot = none := hsp
    rw [add_off] at g0 g1 g2 g3
    simp at e0 e1 e2 e3
    subst e0 e1 e2 e3
    have ri := int_range wi
    have rx := int_range wx
    exact ⟨⟨i, x, s, v⟩, ⟨g0, g1, g2, g3⟩, ⟨ri.1, ri.2, rx.1, rx.2, ws, wv⟩, rfl⟩

/-- A slice of properties. -/
theorem props_of_trod {fuel : Nat} {v : Value} {y : DataW H × List MemPlace} (hw : Near 41 y.1) (h : DataW.trod enc Try.prog W base spare held fuel 41 [v] = some y) :
    ∃ A l c, v = .slice A (List.length l) c ∧ PropsAt W W.heap.size A l ∧ (∀ p ∈ l, Fit p) ∧ l.length ≤ c ∧ l.length ≤ 9223372036854775807 := by
  rcases Go.Deep.open_slice Try.underlying41 h with ⟨hcs, _⟩ | ⟨a, len, cap, m, k, D, Pl, hcs, _, hl, hcm, hm, hx, hi⟩
  · simp at hcs
    subst hcs
    exact ⟨none, [], 0, rfl, .inl rfl, by simp, by simp, by simp⟩
  · simp at hcs
    subst hcs
    have hml : len ≤ m := by rw [hm]; split <;> omega
    rw [cells_prop] at hi
    have key : ∀ i, i < len → ∃ p, PAt W (a.add (i * 4)).block (a.add (i * 4)).off p ∧ Fit p ∧ (a.add (i * 4)).spot = none := fun i hin => by
      obtain ⟨cs, hc, ht⟩ := hi i (by omega)
      refine one_prop hc ?_ ht
      rw [hx] at hw
      exact near_elem Try.underlying41 hw (List.mem_map.2 ⟨i, List.mem_range.2 hin, rfl⟩)
    have hcm' : cap ≤ 9223372036854775807 := by unfold maxLen at hcm; omega
    by_cases h0 : len = 0
    · subst h0
      exact ⟨some a, [], cap, rfl, .inl rfl, by simp, by simp, by simp⟩
    · have hsp : a.spot = none := by
        obtain ⟨_, _, _, h⟩ := key 0 (by omega)
        simpa [Addr.add] using h
      obtain ⟨b, off, spot⟩ := a
      obtain rfl : spot = none := hsp
      have key2 : ∀ i, ∃ p : P, i < len → PAt W b (off + i * 4) p ∧ Fit p := fun i => by
        by_cases hin : i < len
        · obtain ⟨p, hp, hfp, _⟩ := key i hin
          rw [add_off] at hp
          exact ⟨p, fun _ => ⟨hp, hfp⟩⟩
        · exact ⟨⟨0, 0, ⟨#[]⟩, ⟨#[]⟩⟩, fun h => absurd h hin⟩
      obtain ⟨f, hf⟩ := Classical.axiomOfChoice key2
      refine ⟨some ⟨b, off, none⟩, (List.range len).map f, cap, by simp, .inr ⟨b, off, rfl, ?_, fun j hj => ?_⟩, fun p hp => ?_, by simpa using hl, by simp; omega⟩
      · exact cell_lt (hf 0 (by omega)).1.c0
      · have hj' : j < len := by simpa using hj
        rw [List.getElem_map, List.getElem_range]
        exact (hf j hj').1
      · rw [List.mem_map] at hp
        obtain ⟨j, hj, rfl⟩ := hp
        exact (hf j (by simpa using hj)).2
end
end Go.Proofs.Ytiancngpknnkaaa
