/- What a script (a framer, bytes part by part) is in memory, out of the reading of an argument. -/
import Derived.Test.YtiancngpknnkaaaPropReads
namespace Go.Proofs.Ytiancngpknnkaaa
open Go.ChangeShapes Go.WideShapes Go.ChangeAt Go.RowKit Prp

theorem fr_cells_bool : Try.prog.cellsOf 4 = 1 := by kernel_rfl
theorem fr_cells_strs : Try.prog.cellsOf 24 = 1 := by kernel_rfl
theorem fr_cells_framer : Try.prog.cellsOf 23 = 3 := by kernel_rfl
theorem fr_cells_script : Try.prog.cellsOf 26 = 4 := by kernel_rfl

/-- The slice at A holds the strings l, in a block below B. -/
def StrsAt (w : World) (B : Nat) (A : Option Addr) (l : List ByteArray) : Prop :=
  l = [] ∨ ∃ b o, A = some ⟨b, o, none⟩ ∧ b < B ∧ ∀ j (h : j < l.length), w.cell? ⟨b, o + j, none⟩ = some (.string l[j])
theorem StrsAt.below {w w' : World} {B : Nat} {A : Option Addr} {l : List ByteArray} (h : StrsAt w B A l) (hb : Below B w w') : StrsAt w' B A l := by
  rcases h with h | ⟨b, o, h1, h2, h3⟩
  · exact .inl h
  · exact .inr ⟨b, o, h1, h2, fun j hj => (hb.cell (p := ⟨b, o + j, none⟩) h2).trans (h3 j hj)⟩
theorem StrsAt.mono {w : World} {B B' : Nat} {A : Option Addr} {l : List ByteArray} (h : StrsAt w B A l) (hB : B ≤ B') : StrsAt w B' A l := by
  rcases h with h | ⟨b, o, h1, h2, h3⟩
  · exact .inl h
  · exact .inr ⟨b, o, h1, Nat.lt_of_lt_of_le h2 hB, h3⟩
theorem StrsAt.some_ {w : World} {B : Nat} {A : Option Addr} {l : List ByteArray} (h : StrsAt w B A l) (hl : 0 < l.length) : ∃ b o, A = some ⟨b, o, none⟩ ∧ b < B ∧ ∀ j (h : j < l.length), w.cell? ⟨b, o + j, none⟩ = some (.string l[j]) := by
  rcases h with rfl | h
  · simp at hl
  · exact h
/-- What an argument's script may be. -/
structure ScFit (rest : ByteArray) (max : Int) (l : List ByteArray) (c : Nat) : Prop where
  rest : rest.size ≤ 140737488351232
  max : -9223372036854775808 ≤ max ∧ max ≤ 9223372036854775807
  strs : ∀ x ∈ l, x.size ≤ 140737488351232
  cap : l.length ≤ c
  len : l.length ≤ 8796093022208

section
variable {H : Type} {enc : TypeId × Value → H} {W : World} {base : Nat} {spare : Nat → Bool} {held : Bool}
theorem one_str {fuel : Nat} {a : Addr} {cs : List Value} {y : DataW H × List MemPlace} (hc : W.cells? base a 1 = some cs) (hw : Near 9 y.1) (h : DataW.trod enc Try.prog W base spare held fuel 9 cs = some y) :
    ∃ s : ByteArray, W.cell? ⟨a.block, a.off, none⟩ = some (.string s) ∧ s.size ≤ 140737488351232 ∧ a.spot = none := by
  obtain ⟨_, hlen, hcell⟩ := World.cells?_some hc
  match cs, hlen with
  | [v0], _ =>
    have g0 := hcell 0 (by omega)
    change W.cell? (a.add 0) = some v0 at g0
    obtain ⟨s, e0, x0, _⟩ := DataW.trod_string Try.underlying9 h
    rw [x0] at hw
    have ws := near_string hw
    have hsp : a.spot = none := by
      have := World.cell?_spot g0
      simpa [Addr.add] using this
    obtain ⟨b, off, spot⟩ := a
    obtain rfl : spot = none := hsp
    rw [add_off] at g0
    simp at e0
    subst e0
    exact ⟨s, g0, ws, rfl⟩
theorem fr_bytes_string : Try.prog.bytesOf 9 = 16 := by kernel_rfl
theorem near_len {t e : TypeId} {elems rest : List (DataW H)} (hu : Try.prog.underlying t = some (.slice e)) (h : Near t (.slice elems rest)) : (elems.length + rest.length) * Try.prog.bytesOf e ≤ reachBytes := by
  refine h _ ?_
  rw [DataW.weights, hu]
  exact List.mem_cons_self
/-- A slice of strings. -/
theorem strs_of_trod {fuel : Nat} {v : Value} {y : DataW H × List MemPlace} (hw : Near 24 y.1) (h : DataW.trod enc Try.prog W base spare held fuel 24 [v] = some y) :
    ∃ A l c, v = .slice A (List.length l) c ∧ StrsAt W W.heap.size A l ∧ (∀ x ∈ l, x.size ≤ 140737488351232) ∧ l.length ≤ c ∧ l.length ≤ 8796093022208 := by
  rcases Go.Deep.open_slice Try.underlying24 h with ⟨hcs, _⟩ | ⟨a, len, cap, m, k, D, Pl, hcs, _, hl, hcm, hm, hx, hi⟩
  · simp at hcs
    subst hcs
    exact ⟨none, [], 0, rfl, .inl rfl, by simp, by simp, by simp⟩
  · simp at hcs
    subst hcs
    have hml : len ≤ m := by rw [hm]; split <;> omega
    rw [cells_string] at hi
    have key : ∀ i, i < len → ∃ s : ByteArray, W.cell? ⟨(a.add (i * 1)).block, (a.add (i * 1)).off, none⟩ = some (.string s) ∧ s.size ≤ 140737488351232 ∧ (a.add (i * 1)).spot = none := fun i hin => by
      obtain ⟨cs, hc, ht⟩ := hi i (by omega)
      refine one_str hc ?_ ht
      rw [hx] at hw
      exact near_elem Try.underlying24 hw (List.mem_map.2 ⟨i, List.mem_range.2 hin, rfl⟩)
    have hlw : len ≤ 8796093022208 := by
      have hw2 := hw
      rw [hx] at hw2
      have := near_len Try.underlying24 hw2
      rw [fr_bytes_string, List.length_map, List.length_range] at this
      unfold reachBytes at this
      omega
    by_cases h0 : len = 0
    · subst h0
      exact ⟨some a, [], cap, rfl, .inl rfl, by simp, by simp, by simp⟩
    · have hsp : a.spot = none := by
        obtain ⟨_, _, _, h⟩ := key 0 (by omega)
        simpa [Addr.add] using h
      obtain ⟨b, off, spot⟩ := a
      obtain rfl : spot = none := hsp
      have key2 : ∀ i, ∃ s : ByteArray, i < len → W.cell? ⟨b, off + i, none⟩ = some (.string s) ∧ s.size ≤ 140737488351232 := fun i => by
        by_cases hin : i < len
        · obtain ⟨s, hp, hfp, _⟩ := key i hin
          rw [add_off, Nat.mul_one] at hp
          exact ⟨s, fun _ => ⟨hp, hfp⟩⟩
        · exact ⟨⟨#[]⟩, fun h => absurd h hin⟩
      obtain ⟨f, hf⟩ := Classical.axiomOfChoice key2
      refine ⟨some ⟨b, off, none⟩, (List.range len).map f, cap, by simp, .inr ⟨b, off, rfl, ?_, fun j hj => ?_⟩, fun p hp => ?_, by simpa using hl, by simpa using hlw⟩
      · exact cell_lt (hf 0 (by omega)).1
      · have hj' : j < len := by simpa using hj
        rw [List.getElem_map, List.getElem_range]
        exact (hf j hj').1
      · rw [List.mem_map] at hp
        obtain ⟨j, hj, rfl⟩ := hp
        exact (hf j (by simpa using hj)).2
set_option maxRecDepth 100000 in
/-- The script of an argument. -/
theorem script_of_trod {b0 : Nat} {v : Value} {d : DataW H} {p : List MemPlace} (hv : Value.okWide Try.prog W .any b0 26 v) (hw : Near 26 d) (h : DataW.Trod enc Try.prog W base (fun _ => true) held 26 v d p) :
    ∃ rest max dead A l c, v = .agg #[.string rest, .int .i64 max, .bool dead, .slice A (List.length l) c] ∧ StrsAt W W.heap.size A l ∧ ScFit rest max l c := by
  obtain ⟨fuel, hf⟩ := h
  obtain ⟨⟨cs⟩, rfl, hsz⟩ := okWide_struct Try.underlying26 hv
  rw [fr_cells_script] at hsz
  match cs, hsz with
  | [v0, v1, v2, v3], _ =>
    change DataW.trod enc Try.prog W base (fun _ => true) held fuel 26 [v0, v1, v2, v3] = _ at hf
    obtain ⟨ys, n, _, hy, _, hyl, hff⟩ := DataW.trod_struct Try.underlying26 hf
    injection hy with hy _
    subst hy
    have hyl' : ys.length = 2 := by simpa using hyl
    have f0 := hff 0 _ rfl
    have f1 := hff 1 _ rfl
    rw [List.getElem?_eq_getElem (by omega)] at f0 f1
    have w0 := near_field Try.underlying26 hw (j := 0) rfl rfl (List.getElem?_eq_getElem (by omega))
    have w1 := near_field Try.underlying26 hw (j := 1) rfl rfl (List.getElem?_eq_getElem (by omega))
    change DataW.trod enc Try.prog W base (fun _ => true) held n 23 (List.take (Try.prog.cellsOf 23) [v0, v1, v2, v3]) = _ at f0
    change DataW.trod enc Try.prog W base (fun _ => true) held n 24 (List.take (Try.prog.cellsOf 24) [v3]) = _ at f1
    rw [fr_cells_framer] at f0
    rw [fr_cells_strs] at f1
    have f0 : DataW.trod enc Try.prog W base (fun _ => true) held n 23 [v0, v1, v2] = _ := f0
    have f1 : DataW.trod enc Try.prog W base (fun _ => true) held n 24 [v3] = _ := f1
    obtain ⟨A, l, c, e3, hl, hs, hc, hn⟩ := strs_of_trod w1 f1
    obtain ⟨zs, k, _, hz, _, hzl, hgf⟩ := DataW.trod_struct Try.underlying23 f0
    rw [hz] at w0
    have hzl' : zs.length = 3 := by simpa using hzl
    have g0 := hgf 0 _ rfl
    have g1 := hgf 1 _ rfl
    have g2 := hgf 2 _ rfl
    rw [List.getElem?_eq_getElem (by omega)] at g0 g1 g2
    change DataW.trod enc Try.prog W base (fun _ => true) held k 9 (List.take (Try.prog.cellsOf 9) [v0, v1, v2]) = _ at g0
    change DataW.trod enc Try.prog W base (fun _ => true) held k 3 (List.take (Try.prog.cellsOf 3) [v1, v2]) = _ at g1
    change DataW.trod enc Try.prog W base (fun _ => true) held k 4 (List.take (Try.prog.cellsOf 4) [v2]) = _ at g2
    rw [cells_string] at g0
    rw [cells_int] at g1
    rw [fr_cells_bool] at g2
    have x0 := near_field Try.underlying23 w0 (j := 0) rfl rfl (List.getElem?_eq_getElem (by omega))
    obtain ⟨s, e0, y0, _⟩ := DataW.trod_string Try.underlying9 g0
    rw [y0] at x0
    have hrs := near_string x0
    obtain ⟨m, e1, _, wm⟩ := DataW.trod_int Try.underlying3 g1
    obtain ⟨b, e2, _⟩ := DataW.trod_bool Try.underlying4 g2
    simp at e0 e1 e2
    subst e0 e1 e2 e3
    exact ⟨s, m, b, A, l, c, rfl, hl, hrs, int_range wm, hs, hc, hn⟩
end
end Go.Proofs.Ytiancngpknnkaaa
