/- What a list of asks (two texts) is in memory, out of the reading of an argument. -/
import Derived.Test.YtpmcfnancbbgoaaRows
import Derived.Test.YtpmcfnancbbgoaaStrMem
import Derived.ProofKit
import Derived.Deep.Slices
import Derived.SizedLaws
import Derived.ChangeOld
import Derived.Below
namespace Go.Proofs.Ytpmcfnancbbgoaa
open Go.ChangeShapes Go.WideShapes Go.ChangeAt Go.RowKit

theorem ownKnob_none : ownKnob Try.prog.godebug = none := by kernel_rfl
theorem laidOut_true : laidOutB Try.prog = true := by kernel_rfl
theorem cells_string : Try.prog.cellsOf 9 = 1 := by kernel_rfl
theorem cells_ask : Try.prog.cellsOf 25 = 2 := by kernel_rfl
theorem cell_lt {w : World} {a : Addr} {v : Value} (h : w.cell? a = some v) : a.block < w.heap.size := by
  rcases Nat.lt_or_ge a.block w.heap.size with hlt | hge
  · exact hlt
  · unfold World.cell? at h
    rw [Array.getElem?_eq_none hge] at h
    cases h

theorem add_off {b off : Nat} (k : Nat) : ((⟨b, off, none⟩ : Addr).add k) = ⟨b, off + k, none⟩ := by
  unfold Addr.add; split
  · next h => subst h; rfl
  · rfl
/-- One ask in memory: two texts. -/
structure AskAt (w : World) (B b o : Nat) (f t : ByteArray) : Prop where
  c0 : w.cell? ⟨b, o, none⟩ = some (.string f)
  c1 : w.cell? ⟨b, o + 1, none⟩ = some (.string t)
  hf : f.size ≤ 140737488351232
  ht : t.size ≤ 140737488351232
  hb : b < B
theorem AskAt.below {w w' : World} {B b o : Nat} {f t : ByteArray} (h : AskAt w B b o f t) (hb : Below B w w') : AskAt w' B b o f t :=
  ⟨(hb.cell (p := ⟨b, o, none⟩) h.hb).trans h.c0, (hb.cell (p := ⟨b, o + 1, none⟩) h.hb).trans h.c1, h.hf, h.ht, h.hb⟩
/-- All that is asked. -/
def Asks (w : World) (A : Option Addr) (n : Nat) : Prop :=
  n = 0 ∨ ∃ b off, A = some ⟨b, off, none⟩ ∧ ∀ i, i < n → ∃ f t, AskAt w w.heap.size b (off + i * 2) f t

section
variable {H : Type} {enc : TypeId × Value → H} {W : World} {base : Nat} {spare : Nat → Bool} {held : Bool}

/-- All that is read is within the form's reach. -/
def Near (t : TypeId) (d : DataW H) : Prop := ∀ n ∈ d.weights Try.prog t, n ≤ reachBytes
theorem near_field {t e : TypeId} {fs : Array Field} {ys : List (DataW H × List MemPlace)} {j : Nat} {f : Field} {y : DataW H × List MemPlace} (hu : Try.prog.underlying t = some (.struct fs)) (h : Near t (.agg (ys.map (·.1)))) (hf : fs[j]? = some f) (he : f.type = e) (hy : ys[j]? = some y) : Near e y.1 := by
  subst he
  intro n hn
  refine h n ?_
  rw [DataW.weights, hu]
  refine DataW.weights_mem_each (j := j) ?_ ?_ n hn
  · rw [List.getElem?_map, Array.getElem?_toList, hf]; rfl
  · rw [List.getElem?_map, hy]; rfl
theorem near_all {e : TypeId} {ds : List (DataW H)} {d : DataW H} (hd : d ∈ ds) : ∀ n ∈ d.weights Try.prog e, n ∈ DataW.weightsAll Try.prog e ds := by
  induction ds with
  | nil => cases hd
  | cons x r ih =>
    intro n hn
    rw [DataW.weightsAll, List.mem_append]
    rcases List.mem_cons.1 hd with rfl | hd
    · exact .inl hn
    · exact .inr (ih hd n hn)
theorem near_elem {t e : TypeId} {elems rest : List (DataW H)} {d : DataW H} (hu : Try.prog.underlying t = some (.slice e)) (h : Near t (.slice elems rest)) (hd : d ∈ elems) : Near e d := by
  intro n hn
  refine h n ?_
  rw [DataW.weights, hu]
  exact List.mem_cons_of_mem _ (List.mem_append_left _ (near_all hd n hn))
theorem near_string {t : TypeId} {s : ByteArray} (h : Near t (DataW.lit (H := H) (.string s.data.toList))) : s.size ≤ 140737488351232 := by
  have := h s.data.toList.length (by rw [DataW.weights]; exact List.mem_singleton.2 rfl)
  rw [Lib.size_eq]
  exact this

theorem one_ask {fuel : Nat} {a : Addr} {cs : List Value} {y : DataW H × List MemPlace} (hc : W.cells? base a 2 = some cs) (hw : Near 25 y.1) (h : DataW.trod enc Try.prog W base spare held fuel 25 cs = some y) :
    ∃ f t, AskAt W W.heap.size a.block a.off f t ∧ a.spot = none := by
  obtain ⟨_, hlen, hcell⟩ := World.cells?_some hc
  match cs, hlen with
  | [v0, v1], _ =>
    have g0 := hcell 0 (by omega)
    have g1 := hcell 1 (by omega)
    change W.cell? (a.add 0) = some v0 at g0
    change W.cell? (a.add 1) = some v1 at g1
    obtain ⟨ys, n, _, hy, _, hyl, hf⟩ := DataW.trod_struct Try.underlying25 h
    subst hy
    have hyl' : ys.length = 2 := by simpa using hyl
    have f0 := hf 0 _ rfl
    have f1 := hf 1 _ rfl
    rw [List.getElem?_eq_getElem (by omega)] at f0 f1
    change DataW.trod enc Try.prog W base spare held n 9 (List.take (Try.prog.cellsOf 9) [v0, v1]) = _ at f0
    change DataW.trod enc Try.prog W base spare held n 9 (List.take (Try.prog.cellsOf 9) [v1]) = _ at f1
    rw [cells_string] at f0 f1
    have w0 := near_field Try.underlying25 hw (j := 0) rfl rfl (List.getElem?_eq_getElem (by omega))
    have w1 := near_field Try.underlying25 hw (j := 1) rfl rfl (List.getElem?_eq_getElem (by omega))
    obtain ⟨f, e0, x0, _⟩ := DataW.trod_string Try.underlying9 f0
    obtain ⟨t, e1, x1, _⟩ := DataW.trod_string Try.underlying9 f1
    rw [x0] at w0
    rw [x1] at w1
    have s0 := near_string w0
    have s1 := near_string w1
    have hsp : a.spot = none := by
      have := World.cell?_spot g0
      simpa [Addr.add] using this
    obtain ⟨b, off, spot⟩ := a
    obtain rfl : spot = none := hsp
    rw [add_off] at g0 g1
    simp at e0 e1
    subst e0 e1
    exact ⟨f, t, ⟨g0, g1, s0, s1, cell_lt g0⟩, rfl⟩

/-- The asks of an argument. -/
theorem asks_of_trod {A : Option Addr} {n c : Nat} {d : DataW H} {p : List MemPlace} (hw : Near 22 d) (h : DataW.Trod enc Try.prog W base (fun _ => true) held 22 (.slice A n c) d p) : Asks W A n := by
  obtain ⟨fuel, hf⟩ := h
  rcases Go.Deep.open_slice Try.underlying22 hf with ⟨hcs, _⟩ | ⟨a, len, cap, m, k, D, Pl, hcs, _, hl, _, hm, hx, hi⟩
  · simp [Value.cells] at hcs
    exact .inl hcs.2.1
  · simp [Value.cells] at hcs
    obtain ⟨rfl, rfl, rfl⟩ := hcs
    simp at hm
    subst hm
    by_cases h0 : n = 0
    · exact .inl h0
    · right
      rw [cells_ask] at hi
      have key : ∀ i, i < n → ∃ f t, AskAt W W.heap.size (a.add (i * 2)).block (a.add (i * 2)).off f t ∧ (a.add (i * 2)).spot = none := fun i hin => by
        obtain ⟨cs, hc, ht⟩ := hi i (by omega)
        refine one_ask hc ?_ ht
        have hd := congrArg Prod.fst hx
        simp only [] at hd
        rw [hd] at hw
        exact near_elem Try.underlying22 hw (List.mem_map.2 ⟨i, List.mem_range.2 (by omega), rfl⟩)
      have hsp : a.spot = none := by
        obtain ⟨_, _, _, h⟩ := key 0 (by omega)
        simpa [Addr.add] using h
      obtain ⟨b, off, spot⟩ := a
      obtain rfl : spot = none := hsp
      refine ⟨b, off, rfl, fun i hin => ?_⟩
      obtain ⟨f, t, h, _⟩ := key i hin
      rw [add_off] at h
      exact ⟨f, t, h⟩
end
end Go.Proofs.Ytpmcfnancbbgoaa
