/- What a list of asks (bytes, code points, a number) is in memory, out of the reading of an argument. -/
import Derived.Test.YtpdelhbigmijnaaRows
import Derived.Test.YtpdelhbigmijnaaTextMem
import Derived.ProofKit
import Derived.Deep.Slices
import Derived.ChangeOld
import Derived.Below
namespace Go.Proofs.Ytpdelhbigmijnaa
open Go.ChangeShapes Go.WideShapes Go.ChangeAt Go.RowKit

theorem ownKnob_none : ownKnob Try.prog.godebug = none := by kernel_rfl
theorem laidOut_true : laidOutB Try.prog = true := by kernel_rfl
theorem cells_string : Try.prog.cellsOf 9 = 1 := by kernel_rfl
theorem cells_runes : Try.prog.cellsOf 24 = 1 := by kernel_rfl
theorem cells_rune : Try.prog.cellsOf 21 = 1 := by kernel_rfl
theorem cells_int : Try.prog.cellsOf 3 = 1 := by kernel_rfl
theorem cells_ask : Try.prog.cellsOf 26 = 3 := by kernel_rfl

theorem cell_lt {w : World} {a : Addr} {v : Value} (h : w.cell? a = some v) : a.block < w.heap.size := by
  rcases Nat.lt_or_ge a.block w.heap.size with hlt | hge
  · exact hlt
  · unfold World.cell? at h
    rw [Array.getElem?_eq_none hge] at h
    cases h

/-- One ask in memory: bytes, code points, a number. -/
structure AskAt (w : World) (B b o : Nat) (s : ByteArray) (A : Option Addr) (xs : List Int) (c : Nat) (x : Int) : Prop where
  c0 : w.cell? ⟨b, o, none⟩ = some (.string s)
  c1 : w.cell? ⟨b, o + 1, none⟩ = some (.slice A xs.length c)
  c2 : w.cell? ⟨b, o + 2, none⟩ = some (.int .i64 x)
  ns : Nums w B .i32 A xs
  hs : s.size ≤ 9223372036854775807
  hx : xs.length ≤ 9223372036854775807
  hb : b < B
  r0 : -9223372036854775808 ≤ x
  r1 : x ≤ 9223372036854775807
  wx : ∀ r ∈ xs, (Lit.int .i32 r).wf = true

theorem AskAt.below {w w' : World} {B b o : Nat} {s : ByteArray} {A : Option Addr} {xs : List Int} {c : Nat} {x : Int} (h : AskAt w B b o s A xs c x) (hb : Below B w w') : AskAt w' B b o s A xs c x :=
  ⟨(hb.cell (p := ⟨b, o, none⟩) h.hb).trans h.c0, (hb.cell (p := ⟨b, o + 1, none⟩) h.hb).trans h.c1, (hb.cell (p := ⟨b, o + 2, none⟩) h.hb).trans h.c2, h.ns.below hb, h.hs, h.hx, h.hb, h.r0, h.r1, h.wx⟩

/-- All that is asked. -/
def Asks (w : World) (A : Option Addr) (n : Nat) : Prop :=
  n = 0 ∨ ∃ b off, A = some ⟨b, off, none⟩ ∧ ∀ i, i < n → ∃ s P xs c x, AskAt w w.heap.size b (off + i * 3) s P xs c x

section
variable {H : Type} {enc : TypeId × Value → H} {W : World} {base : Nat} {spare : Nat → Bool} {held : Bool}

theorem one_ask {fuel : Nat} {a : Addr} {cs : List Value} {y : DataW H × List MemPlace} (hc : W.cells? base a 3 = some cs) (h : DataW.trod enc Try.prog W base spare held fuel 26 cs = some y) :
    ∃ s P xs c x, AskAt W W.heap.size a.block a.off s P xs c x ∧ a.spot = none := by
  obtain ⟨_, hlen, hcell⟩ := World.cells?_some hc
  match cs, hlen with
  | [v0, v1, v2], _ =>
    have g0 := hcell 0 (by omega)
    have g1 := hcell 1 (by omega)
    have g2 := hcell 2 (by omega)
    change W.cell? (a.add 0) = some v0 at g0
    change W.cell? (a.add 1) = some v1 at g1
    change W.cell? (a.add 2) = some v2 at g2
    obtain ⟨ys, n, _, _, _, hyl, hf⟩ := DataW.trod_struct Try.underlying26 h
    have hyl' : ys.length = 3 := by simpa using hyl
    have f0 := hf 0 _ rfl
    have f1 := hf 1 _ rfl
    have f2 := hf 2 _ rfl
    rw [List.getElem?_eq_getElem (by omega)] at f0 f1 f2
    change DataW.trod enc Try.prog W base spare held n 9 (List.take (Try.prog.cellsOf 9) [v0, v1, v2]) = _ at f0
    change DataW.trod enc Try.prog W base spare held n 24 (List.take (Try.prog.cellsOf 24) [v1, v2]) = _ at f1
    change DataW.trod enc Try.prog W base spare held n 3 (List.take (Try.prog.cellsOf 3) [v2]) = _ at f2
    rw [cells_string] at f0
    rw [cells_runes] at f1
    rw [cells_int] at f2
    obtain ⟨s, e0, _, ws⟩ := DataW.trod_string Try.underlying9 f0
    obtain ⟨x, e2, _, wx⟩ := DataW.trod_int Try.underlying3 f2
    have hsp : a.spot = none := by
      have := World.cell?_spot g0
      simpa [Addr.add] using this
    obtain ⟨b, off, spot⟩ := a
    obtain rfl : spot = none := hsp
    simp only [Addr.add] at g0 g1 g2
    simp at g0 g1 g2
    simp at e0 e2
    subst e0 e2
    have hx : -9223372036854775808 ≤ x ∧ x ≤ 9223372036854775807 := by
      have h1 : IntKind.i64.min = -9223372036854775808 := rfl
      have h2 : IntKind.i64.max = 9223372036854775807 := rfl
      simp only [Lit.wf, Bool.and_eq_true, decide_eq_true_eq] at wx
      omega
    unfold maxLen at ws
    rcases open_ints Try.underlying24 Try.underlying21 cells_rune f1 with ⟨e1, _⟩ | ⟨p, len, cap, zs, e1, _, hl, hm, hz, _, hzc, hwz⟩
    · simp at e1
      subst e1
      exact ⟨s, none, [], 0, x, ⟨g0, g1, g2, Nums.none_, by omega, by simp, cell_lt g0, hx.1, hx.2, by simp⟩, rfl⟩
    · simp at e1
      subst e1
      have hzl : len ≤ zs.length := by rw [hz]; split <;> omega
      have htl : (zs.take len).length = len := by rw [List.length_take]; omega
      unfold maxLen at hm
      refine ⟨s, some p, zs.take len, cap, x, ⟨g0, by rw [htl]; exact g1, g2, ?_, by omega, by omega, cell_lt g0, hx.1, hx.2, fun r hr => hwz r (List.mem_of_mem_take hr)⟩, rfl⟩
      by_cases h0 : len = 0
      · subst h0; exact Nums.none_
      · refine .inr ⟨p, rfl, ?_, fun j hj => ?_⟩
        · have := cell_lt (hzc 0 (by omega))
          rwa [add_block] at this
        · rw [htl] at hj
          rw [hzc j (by omega)]
          simp [hj]

/-- The asks of an argument. -/
theorem asks_of_trod {A : Option Addr} {n c : Nat} {d : DataW H} {p : List MemPlace} (h : DataW.Trod enc Try.prog W base (fun _ => true) held 22 (.slice A n c) d p) : Asks W A n := by
  obtain ⟨fuel, hf⟩ := h
  rcases Go.Deep.open_slice Try.underlying22 hf with ⟨hcs, _⟩ | ⟨a, len, cap, m, k, D, Pl, hcs, _, hl, _, hm, _, hi⟩
  · simp [Value.cells] at hcs
    exact .inl hcs.2.1
  · simp [Value.cells] at hcs
    obtain ⟨rfl, rfl, rfl⟩ := hcs
    simp at hm
    subst hm
    by_cases h0 : n = 0
    · exact .inl h0
    · right
      rw [cells_ask] at hi
      have key : ∀ i, i < n → ∃ s P xs c x, AskAt W W.heap.size (a.add (i * 3)).block (a.add (i * 3)).off s P xs c x ∧ (a.add (i * 3)).spot = none := fun i hin => by
        obtain ⟨cs, hc, ht⟩ := hi i (by omega)
        exact one_ask hc ht
      have hsp : a.spot = none := by
        obtain ⟨_, _, _, _, _, _, h⟩ := key 0 (by omega)
        simpa [Addr.add] using h
      obtain ⟨b, off, spot⟩ := a
      obtain rfl : spot = none := hsp
      refine ⟨b, off, rfl, fun i hin => ?_⟩
      obtain ⟨s, P, xs, c, x, h, _⟩ := key i hin
      rw [add_block] at h
      have ho : ((⟨b, off, none⟩ : Addr).add (i * 3)).off = off + i * 3 := by
        unfold Addr.add; split
        · next h => simp [h]
        · rfl
      rw [ho] at h
      exact ⟨s, P, xs, c, x, h⟩
end
end Go.Proofs.Ytpdelhbigmijnaa
