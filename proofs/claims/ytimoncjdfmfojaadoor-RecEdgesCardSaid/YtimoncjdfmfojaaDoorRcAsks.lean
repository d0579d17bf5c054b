/- What a list of asks (records, bytes) is in memory, out of the reading of an argument. -/
import Derived.Test.YtimoncjdfmfojaaDoorRows
import Derived.Test.YtimoncjdfmfojaaDoorRcMem
import Derived.ProofKit
import Derived.Deep.Slices
import Derived.ChangeOld
import Derived.ChangeArms
import Derived.Below
namespace Go.Proofs.YtimoncjdfmfojaaDoor
open Go.ChangeShapes Go.WideShapes Go.ChangeAt Go.RowKit Rcd

theorem ownKnob_none : ownKnob Tryd.prog.godebug = none := by kernel_rfl
theorem laidOut_true : laidOutB Tryd.prog = true := by kernel_rfl
theorem cells_string : Tryd.prog.cellsOf 9 = 1 := by kernel_rfl
theorem cells_int : Tryd.prog.cellsOf 3 = 1 := by kernel_rfl
theorem cells_bool : Tryd.prog.cellsOf 4 = 1 := by kernel_rfl
theorem cells_recs : Tryd.prog.cellsOf 24 = 1 := by kernel_rfl
theorem cells_rec : Tryd.prog.cellsOf 28 = 6 := by kernel_rfl
theorem add_off {b off : Nat} (k : Nat) : ((⟨b, off, none⟩ : Addr).add k) = ⟨b, off + k, none⟩ := by
  unfold Addr.add; split
  · next h => subst h; rfl
  · rfl

section
variable {H : Type} {enc : TypeId × Value → H} {W : World} {base : Nat} {spare : Nat → Bool} {held : Bool}
theorem one_rec {fuel : Nat} {a : Addr} {cs : List Value} {y : DataW H × List MemPlace} (hc : W.cells? base a 6 = some cs) (h : DataW.trod enc Tryd.prog W base spare held fuel 28 cs = some y) :
    ∃ r, RAt W a.block a.off r ∧ a.spot = none := by
  obtain ⟨_, hlen, hcell⟩ := World.cells?_some hc
  match cs, hlen with
  | [v0, v1, v2, v3, v4, v5], _ =>
    have g0 := hcell 0 (by omega)
    have g1 := hcell 1 (by omega)
    have g2 := hcell 2 (by omega)
    have g3 := hcell 3 (by omega)
    have g4 := hcell 4 (by omega)
    have g5 := hcell 5 (by omega)
    change W.cell? (a.add 0) = some v0 at g0
    change W.cell? (a.add 1) = some v1 at g1
    change W.cell? (a.add 2) = some v2 at g2
    change W.cell? (a.add 3) = some v3 at g3
    change W.cell? (a.add 4) = some v4 at g4
    change W.cell? (a.add 5) = some v5 at g5
    obtain ⟨ys, n, _, _, _, hyl, hf⟩ := DataW.trod_struct Tryd.underlying28 h
    have hyl' : ys.length = 6 := by simpa using hyl
    have f0 := hf 0 _ rfl
    have f1 := hf 1 _ rfl
    have f2 := hf 2 _ rfl
    have f3 := hf 3 _ rfl
    have f4 := hf 4 _ rfl
    have f5 := hf 5 _ rfl
    rw [List.getElem?_eq_getElem (by omega)] at f0 f1 f2 f3 f4 f5
    change DataW.trod enc Tryd.prog W base spare held n 3 (List.take (Tryd.prog.cellsOf 3) [v0, v1, v2, v3, v4, v5]) = _ at f0
    change DataW.trod enc Tryd.prog W base spare held n 3 (List.take (Tryd.prog.cellsOf 3) [v1, v2, v3, v4, v5]) = _ at f1
    change DataW.trod enc Tryd.prog W base spare held n 9 (List.take (Tryd.prog.cellsOf 9) [v2, v3, v4, v5]) = _ at f2
    change DataW.trod enc Tryd.prog W base spare held n 9 (List.take (Tryd.prog.cellsOf 9) [v3, v4, v5]) = _ at f3
    change DataW.trod enc Tryd.prog W base spare held n 3 (List.take (Tryd.prog.cellsOf 3) [v4, v5]) = _ at f4
    change DataW.trod enc Tryd.prog W base spare held n 4 (List.take (Tryd.prog.cellsOf 4) [v5]) = _ at f5
    rw [cells_int] at f0 f1 f4
    rw [cells_string] at f2 f3
    rw [cells_bool] at f5
    obtain ⟨o, e0, _, _⟩ := DataW.trod_int Tryd.underlying3 f0
    obtain ⟨t, e1, _, _⟩ := DataW.trod_int Tryd.underlying3 f1
    obtain ⟨k, e2, _, _⟩ := DataW.trod_string Tryd.underlying9 f2
    obtain ⟨b, e3, _, _⟩ := DataW.trod_string Tryd.underlying9 f3
    obtain ⟨q, e4, _, _⟩ := DataW.trod_int Tryd.underlying3 f4
    obtain ⟨g, e5, _⟩ := DataW.trod_bool Tryd.underlying4 f5
    have hsp : a.spot = none := by
      have := World.cell?_spot g0
      simpa [Addr.add] using this
    obtain ⟨bl, off, spot⟩ := a
    obtain rfl : spot = none := hsp
    rw [add_off] at g0 g1 g2 g3 g4 g5
    simp at e0 e1 e2 e3 e4 e5
    subst e0 e1 e2 e3 e4 e5
    refine ⟨⟨o, t, k.data.toList, b.data.toList, q, g⟩, ⟨g0, g1, ?_, ?_, g4, g5⟩, rfl⟩
    · show _ = some (Value.string (str k.data.toList))
      rw [data_str]; exact g2
    · show _ = some (Value.string (str b.data.toList))
      rw [data_str]; exact g3

/-- A slice of records. -/
theorem recs_of_trod {fuel : Nat} {v : Value} {y : DataW H × List MemPlace} (h : DataW.trod enc Tryd.prog W base spare held fuel 24 [v] = some y) :
    ∃ A l c, v = .slice A (List.length l) c ∧ RecsAt W W.heap.size A l ∧ l.length ≤ 9223372036854775807 := by
  rcases Go.Deep.open_slice Tryd.underlying24 h with ⟨hcs, _⟩ | ⟨a, len, cap, m, k, D, Pl, hcs, _, hl, hcm, hm, hx, hi⟩
  · simp at hcs
    subst hcs
    exact ⟨none, [], 0, rfl, .inl rfl, by simp⟩
  · simp at hcs
    subst hcs
    have hml : len ≤ m := by rw [hm]; split <;> omega
    rw [cells_rec] at hi
    have key : ∀ i, i < len → ∃ r, RAt W (a.add (i * 6)).block (a.add (i * 6)).off r ∧ (a.add (i * 6)).spot = none := fun i hin => by
      obtain ⟨cs, hc, ht⟩ := hi i (by omega)
      exact one_rec hc ht
    have hcm' : cap ≤ 9223372036854775807 := by unfold maxLen at hcm; omega
    by_cases h0 : len = 0
    · subst h0
      exact ⟨some a, [], cap, rfl, .inl rfl, by simp⟩
    · have hsp : a.spot = none := by
        obtain ⟨_, _, h⟩ := key 0 (by omega)
        simpa [Addr.add] using h
      obtain ⟨b, off, spot⟩ := a
      obtain rfl : spot = none := hsp
      have key2 : ∀ i, ∃ r : Rc, i < len → RAt W b (off + i * 6) r := fun i => by
        by_cases hin : i < len
        · obtain ⟨r, hr, _⟩ := key i hin
          rw [add_off] at hr
          exact ⟨r, fun _ => hr⟩
        · exact ⟨zero, fun h => absurd h hin⟩
      obtain ⟨f, hf⟩ := Classical.axiomOfChoice key2
      refine ⟨some ⟨b, off, none⟩, (List.range len).map f, cap, by simp, .inr ⟨b, off, rfl, ?_, fun j hj => ?_⟩, by simp; omega⟩
      · exact cell_lt (hf 0 (by omega)).c0
      · have hj' : j < len := by simpa using hj
        rw [List.getElem_map, List.getElem_range]
        exact hf j hj'

theorem cells_ask : Tryd.prog.cellsOf 26 = 2 := by kernel_rfl
end
/-- One ask in memory: records, bytes. -/
structure AskAt (w : World) (B b o : Nat) (P : Option Addr) (l : List Rc) (c : Nat) (s : ByteArray) : Prop where
  c0 : w.cell? ⟨b, o, none⟩ = some (.slice P l.length c)
  c1 : w.cell? ⟨b, o + 1, none⟩ = some (.string s)
  rs : RecsAt w B P l
  hl : l.length ≤ 9223372036854775807
  hb : b < B
theorem AskAt.below {w w' : World} {B b o : Nat} {P : Option Addr} {l : List Rc} {c : Nat} {s : ByteArray} (h : AskAt w B b o P l c s) (hb : Below B w w') : AskAt w' B b o P l c s :=
  ⟨(hb.cell (p := ⟨b, o, none⟩) h.hb).trans h.c0, (hb.cell (p := ⟨b, o + 1, none⟩) h.hb).trans h.c1, h.rs.below hb, h.hl, h.hb⟩
/-- All that is asked. -/
def Asks (w : World) (A : Option Addr) (n : Nat) : Prop :=
  n = 0 ∨ ∃ b off, A = some ⟨b, off, none⟩ ∧ ∀ i, i < n → ∃ P l c s, AskAt w w.heap.size b (off + i * 2) P l c s
section
variable {H : Type} {enc : TypeId × Value → H} {W : World} {base : Nat} {spare : Nat → Bool} {held : Bool}
theorem one_ask {fuel : Nat} {a : Addr} {cs : List Value} {y : DataW H × List MemPlace} (hc : W.cells? base a 2 = some cs) (h : DataW.trod enc Tryd.prog W base spare held fuel 26 cs = some y) :
    ∃ P l c s, AskAt W W.heap.size a.block a.off P l c s ∧ a.spot = none := by
  obtain ⟨_, hlen, hcell⟩ := World.cells?_some hc
  match cs, hlen with
  | [v0, v1], _ =>
    have g0 := hcell 0 (by omega)
    have g1 := hcell 1 (by omega)
    change W.cell? (a.add 0) = some v0 at g0
    change W.cell? (a.add 1) = some v1 at g1
    obtain ⟨ys, n, _, _, _, hyl, hf⟩ := DataW.trod_struct Tryd.underlying26 h
    have hyl' : ys.length = 2 := by simpa using hyl
    have f0 := hf 0 _ rfl
    have f1 := hf 1 _ rfl
    rw [List.getElem?_eq_getElem (by omega)] at f0 f1
    change DataW.trod enc Tryd.prog W base spare held n 24 (List.take (Tryd.prog.cellsOf 24) [v0, v1]) = _ at f0
    change DataW.trod enc Tryd.prog W base spare held n 9 (List.take (Tryd.prog.cellsOf 9) [v1]) = _ at f1
    rw [cells_recs] at f0
    rw [cells_string] at f1
    obtain ⟨P, l, c, e0, hrs, hll⟩ := recs_of_trod (v := v0) f0
    obtain ⟨s, e1, _, _⟩ := DataW.trod_string Tryd.underlying9 f1
    have hsp : a.spot = none := by
      have := World.cell?_spot g0
      simpa [Addr.add] using this
    obtain ⟨b, off, spot⟩ := a
    obtain rfl : spot = none := hsp
    rw [add_off] at g0 g1
    simp at e1
    subst e0 e1
    exact ⟨P, l, c, s, ⟨g0, g1, hrs, hll, cell_lt g0⟩, rfl⟩
/-- The asks of an argument. -/
theorem asks_of_trod {A : Option Addr} {n c : Nat} {d : DataW H} {p : List MemPlace} (h : DataW.Trod enc Tryd.prog W base (fun _ => true) held 22 (.slice A n c) d p) : Asks W A n := by
  obtain ⟨fuel, hf⟩ := h
  rcases Go.Deep.open_slice Tryd.underlying22 hf with ⟨hcs, _⟩ | ⟨a, len, cap, m, k, D, Pl, hcs, _, hl, _, hm, _, hi⟩
  · simp [Value.cells] at hcs
    exact .inl hcs.2.1
  · simp [Value.cells] at hcs
    obtain ⟨rfl, rfl, rfl⟩ := hcs
    simp at hm
    subst hm
    by_cases h0 : n = 0
    · exact .inl h0
    · right
      rw [cells_ask] at hi
      have key : ∀ i, i < n → ∃ P l c s, AskAt W W.heap.size (a.add (i * 2)).block (a.add (i * 2)).off P l c s ∧ (a.add (i * 2)).spot = none := fun i hin => by
        obtain ⟨cs, hc, ht⟩ := hi i (by omega)
        exact one_ask hc ht
      have hsp : a.spot = none := by
        obtain ⟨_, _, _, _, _, h⟩ := key 0 (by omega)
        simpa [Addr.add] using h
      obtain ⟨b, off, spot⟩ := a
      obtain rfl : spot = none := hsp
      refine ⟨b, off, rfl, fun i hin => ?_⟩
      obtain ⟨P, l, c, s, h, _⟩ := key i hin
      rw [add_off] at h
      exact ⟨P, l, c, s, h⟩
end
end Go.Proofs.YtimoncjdfmfojaaDoor
