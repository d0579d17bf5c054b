/- What a list of asks (a number, a text, bytes) is in memory, out of the reading of an argument. -/
import Derived.Test.YtjpngjhfakgefaaRows
import Derived.Test.YtjpngjhfakgefaaMem
import Derived.ProofKit
import Derived.Deep.Slices
import Derived.ChangeOld
import Derived.Below
namespace Go.Proofs.Ytjpngjhfakgefaa
open Go.ChangeShapes Go.WideShapes Go.ChangeAt Go.RowKit

theorem ownKnob_none : ownKnob Try.prog.godebug = none := by kernel_rfl
theorem laidOut_true : laidOutB Try.prog = true := by kernel_rfl
theorem cells_string : Try.prog.cellsOf 9 = 1 := by kernel_rfl
theorem cells_int : Try.prog.cellsOf 3 = 1 := by kernel_rfl
theorem cells_ask : Try.prog.cellsOf 24 = 3 := by kernel_rfl

theorem cell_lt {w : World} {a : Addr} {v : Value} (h : w.cell? a = some v) : a.block < w.heap.size := by
  rcases Nat.lt_or_ge a.block w.heap.size with hlt | hge
  · exact hlt
  · unfold World.cell? at h
    rw [Array.getElem?_eq_none hge] at h
    cases h

/-- One ask in memory: a number, a text, bytes. -/
structure AskAt (w : World) (B b o : Nat) (x : Int) (s y : ByteArray) : Prop where
  c0 : w.cell? ⟨b, o, none⟩ = some (.int .i64 x)
  c1 : w.cell? ⟨b, o + 1, none⟩ = some (.string s)
  c2 : w.cell? ⟨b, o + 2, none⟩ = some (.string y)
  hs : s.size ≤ 9223372036854775807
  hy : y.size ≤ 9223372036854775807
  hb : b < B
  r0 : -9223372036854775808 ≤ x
  r1 : x ≤ 9223372036854775807

theorem AskAt.below {w w' : World} {B b o : Nat} {x : Int} {s y : ByteArray} (h : AskAt w B b o x s y) (hb : Below B w w') : AskAt w' B b o x s y :=
  ⟨(hb.cell (p := ⟨b, o, none⟩) h.hb).trans h.c0, (hb.cell (p := ⟨b, o + 1, none⟩) h.hb).trans h.c1, (hb.cell (p := ⟨b, o + 2, none⟩) h.hb).trans h.c2, h.hs, h.hy, h.hb, h.r0, h.r1⟩

/-- All that is asked. -/
def Asks (w : World) (A : Option Addr) (n : Nat) : Prop :=
  n = 0 ∨ ∃ b off, A = some ⟨b, off, none⟩ ∧ ∀ i, i < n → ∃ x s y, AskAt w w.heap.size b (off + i * 3) x s y

section
variable {H : Type} {enc : TypeId × Value → H} {W : World} {base : Nat} {spare : Nat → Bool} {held : Bool}

theorem one_ask {fuel : Nat} {a : Addr} {cs : List Value} {y : DataW H × List MemPlace} (hc : W.cells? base a 3 = some cs) (h : DataW.trod enc Try.prog W base spare held fuel 24 cs = some y) :
    ∃ x s y, AskAt W W.heap.size a.block a.off x s y ∧ a.spot = none := by
  obtain ⟨_, hlen, hcell⟩ := World.cells?_some hc
  match cs, hlen with
  | [v0, v1, v2], _ =>
    have g0 := hcell 0 (by omega)
    have g1 := hcell 1 (by omega)
    have g2 := hcell 2 (by omega)
    change W.cell? (a.add 0) = some v0 at g0
    change W.cell? (a.add 1) = some v1 at g1
    change W.cell? (a.add 2) = some v2 at g2
    obtain ⟨ys, n, _, _, _, hyl, hf⟩ := DataW.trod_struct Try.underlying24 h
    have hyl' : ys.length = 3 := by simpa using hyl
    have f0 := hf 0 _ rfl
    have f1 := hf 1 _ rfl
    have f2 := hf 2 _ rfl
    rw [List.getElem?_eq_getElem (by omega)] at f0 f1 f2
    change DataW.trod enc Try.prog W base spare held n 3 (List.take (Try.prog.cellsOf 3) [v0, v1, v2]) = _ at f0
    change DataW.trod enc Try.prog W base spare held n 9 (List.take (Try.prog.cellsOf 9) [v1, v2]) = _ at f1
    change DataW.trod enc Try.prog W base spare held n 9 (List.take (Try.prog.cellsOf 9) [v2]) = _ at f2
    rw [cells_int] at f0
    rw [cells_string] at f1 f2
    obtain ⟨x, e0, _, wx⟩ := DataW.trod_int Try.underlying3 f0
    obtain ⟨s, e1, _, ws⟩ := DataW.trod_string Try.underlying9 f1
    obtain ⟨y, e2, _, wy⟩ := DataW.trod_string Try.underlying9 f2
    have hsp : a.spot = none := by
      have := World.cell?_spot g0
      simpa [Addr.add] using this
    obtain ⟨b, off, spot⟩ := a
    obtain rfl : spot = none := hsp
    simp only [Addr.add] at g0 g1 g2
    simp at g0 g1 g2
    simp at e0 e1 e2
    subst e0 e1 e2
    have hx : -9223372036854775808 ≤ x ∧ x ≤ 9223372036854775807 := by
      have h1 : IntKind.i64.min = -9223372036854775808 := rfl
      have h2 : IntKind.i64.max = 9223372036854775807 := rfl
      simp only [Lit.wf, Bool.and_eq_true, decide_eq_true_eq] at wx
      omega
    unfold maxLen at ws wy
    exact ⟨x, s, y, ⟨g0, g1, g2, by omega, by omega, cell_lt g0, hx.1, hx.2⟩, rfl⟩

/-- The asks of an argument. -/
theorem asks_of_trod {A : Option Addr} {n c : Nat} {d : DataW H} {p : List MemPlace} (h : DataW.Trod enc Try.prog W base (fun _ => true) held 22 (.slice A n c) d p) : Asks W A n := by
  obtain ⟨fuel, hf⟩ := h
  rcases Go.Deep.open_slice Try.underlying22 hf with ⟨hcs, _⟩ | ⟨a, len, cap, m, k, D, Pl, hcs, _, hl, _, hm, _, hi⟩
  · simp [Value.cells] at hcs
    exact .inl hcs.2.1
  · simp [Value.cells] at hcs
    obtain ⟨rfl, rfl, rfl⟩ := hcs
    simp at hm
    subst hm
    by_cases h0 : n = 0
    · exact .inl h0
    · right
      rw [cells_ask] at hi
      have key : ∀ i, i < n → ∃ x s y, AskAt W W.heap.size (a.add (i * 3)).block (a.add (i * 3)).off x s y ∧ (a.add (i * 3)).spot = none := fun i hin => by
        obtain ⟨cs, hc, ht⟩ := hi i (by omega)
        exact one_ask hc ht
      have hsp : a.spot = none := by
        obtain ⟨_, _, _, _, h⟩ := key 0 (by omega)
        simpa [Addr.add] using h
      obtain ⟨b, off, spot⟩ := a
      obtain rfl : spot = none := hsp
      refine ⟨b, off, rfl, fun i hin => ?_⟩
      obtain ⟨x, s, y, h, _⟩ := key i hin
      rw [add_block] at h
      have ho : ((⟨b, off, none⟩ : Addr).add (i * 3)).off = off + i * 3 := by
        unfold Addr.add; split
        · next h => simp [h]
        · rfl
      rw [ho] at h
      exact ⟨x, s, y, h⟩
end
end Go.Proofs.Ytjpngjhfakgefaa
