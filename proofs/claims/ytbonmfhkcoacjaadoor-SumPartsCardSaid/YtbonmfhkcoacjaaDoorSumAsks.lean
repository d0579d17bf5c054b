/- What a list of asks (a sum, bytes, a place) is in memory, out of the reading of an argument. -/
import Derived.Test.YtbonmfhkcoacjaaDoorRows
import Derived.Test.YtbonmfhkcoacjaaDoorMem
import Derived.Test.YtbonmfhkcoacjaaDoorSay
import Derived.ProofKit
import Derived.Deep.Slices
import Derived.ChangeOld
import Derived.Below
namespace Go.Proofs.YtbonmfhkcoacjaaDoor
open Go.ChangeShapes Go.WideShapes Go.ChangeAt Go.RowKit

theorem ownKnob_none : ownKnob Tryd.prog.godebug = none := by kernel_rfl
theorem laidOut_true : laidOutB Tryd.prog = true := by kernel_rfl
theorem cells_string : Tryd.prog.cellsOf 9 = 1 := by kernel_rfl
theorem cells_u32 : Tryd.prog.cellsOf 23 = 1 := by kernel_rfl
theorem cells_int : Tryd.prog.cellsOf 3 = 1 := by kernel_rfl
theorem cells_ask : Tryd.prog.cellsOf 25 = 3 := by kernel_rfl

/-- One ask in memory: a sum, bytes, a place. -/
structure AskAt (w : World) (B b o : Nat) (x : Nat) (s : ByteArray) (y : Int) : Prop where
  c0 : w.cell? ⟨b, o, none⟩ = some (.int .u32 (x : Int))
  c1 : w.cell? ⟨b, o + 1, none⟩ = some (.string s)
  c2 : w.cell? ⟨b, o + 2, none⟩ = some (.int .i64 y)
  hx : x < 4294967296
  hs : s.size ≤ 9223372036854775807
  hb : b < B
  r0 : -9223372036854775808 ≤ y
  r1 : y ≤ 9223372036854775807

theorem AskAt.below {w w' : World} {B b o : Nat} {x : Nat} {s : ByteArray} {y : Int} (h : AskAt w B b o x s y) (hb : Below B w w') : AskAt w' B b o x s y :=
  ⟨(hb.cell (p := ⟨b, o, none⟩) h.hb).trans h.c0, (hb.cell (p := ⟨b, o + 1, none⟩) h.hb).trans h.c1, (hb.cell (p := ⟨b, o + 2, none⟩) h.hb).trans h.c2, h.hx, h.hs, h.hb, h.r0, h.r1⟩

/-- All that is asked. -/
def Asks (w : World) (A : Option Addr) (n : Nat) : Prop :=
  n = 0 ∨ ∃ b off, A = some ⟨b, off, none⟩ ∧ ∀ i, i < n → ∃ x s y, AskAt w w.heap.size b (off + i * 3) x s y

section
variable {H : Type} {enc : TypeId × Value → H} {W : World} {base : Nat} {spare : Nat → Bool} {held : Bool}

theorem one_ask {fuel : Nat} {a : Addr} {cs : List Value} {y : DataW H × List MemPlace} (hc : W.cells? base a 3 = some cs) (h : DataW.trod enc Tryd.prog W base spare held fuel 25 cs = some y) :
    ∃ x s y, AskAt W W.heap.size a.block a.off x s y ∧ a.spot = none := by
  obtain ⟨_, hlen, hcell⟩ := World.cells?_some hc
  match cs, hlen with
  | [v0, v1, v2], _ =>
    have g0 := hcell 0 (by omega)
    have g1 := hcell 1 (by omega)
    have g2 := hcell 2 (by omega)
    change W.cell? (a.add 0) = some v0 at g0
    change W.cell? (a.add 1) = some v1 at g1
    change W.cell? (a.add 2) = some v2 at g2
    obtain ⟨ys, n, _, _, _, hyl, hf⟩ := DataW.trod_struct Tryd.underlying25 h
    have hyl' : ys.length = 3 := by simpa using hyl
    have f0 := hf 0 _ rfl
    have f1 := hf 1 _ rfl
    have f2 := hf 2 _ rfl
    rw [List.getElem?_eq_getElem (by omega)] at f0 f1 f2
    change DataW.trod enc Tryd.prog W base spare held n 23 (List.take (Tryd.prog.cellsOf 23) [v0, v1, v2]) = _ at f0
    change DataW.trod enc Tryd.prog W base spare held n 9 (List.take (Tryd.prog.cellsOf 9) [v1, v2]) = _ at f1
    change DataW.trod enc Tryd.prog W base spare held n 3 (List.take (Tryd.prog.cellsOf 3) [v2]) = _ at f2
    rw [cells_u32] at f0
    rw [cells_string] at f1
    rw [cells_int] at f2
    obtain ⟨x, e0, _, wx⟩ := DataW.trod_int Tryd.underlying23 f0
    obtain ⟨s, e1, _, ws⟩ := DataW.trod_string Tryd.underlying9 f1
    obtain ⟨y, e2, _, wy⟩ := DataW.trod_int Tryd.underlying3 f2
    have hsp : a.spot = none := by
      have := World.cell?_spot g0
      simpa [Addr.add] using this
    obtain ⟨b, off, spot⟩ := a
    obtain rfl : spot = none := hsp
    simp only [Addr.add] at g0 g1 g2
    simp at g0 g1 g2
    simp at e0 e1 e2
    subst e0 e1 e2
    have hy : -9223372036854775808 ≤ y ∧ y ≤ 9223372036854775807 := by
      have h1 : IntKind.i64.min = -9223372036854775808 := rfl
      have h2 : IntKind.i64.max = 9223372036854775807 := rfl
      simp only [Lit.wf, Bool.and_eq_true, decide_eq_true_eq] at wy
      omega
    have hx : 0 ≤ x ∧ x ≤ 4294967295 := by
      have h1 : IntKind.u32.min = 0 := rfl
      have h2 : IntKind.u32.max = 4294967295 := rfl
      simp only [Lit.wf, Bool.and_eq_true, decide_eq_true_eq] at wx
      omega
    obtain ⟨m, rfl⟩ := Int.eq_ofNat_of_zero_le hx.1
    unfold maxLen at ws
    exact ⟨m, s, y, ⟨g0, g1, g2, by omega, by omega, cell_lt g0, hy.1, hy.2⟩, rfl⟩

/-- The asks of an argument. -/
theorem asks_of_trod {A : Option Addr} {n c : Nat} {d : DataW H} {p : List MemPlace} (h : DataW.Trod enc Tryd.prog W base (fun _ => true) held 22 (.slice A n c) d p) : Asks W A n := by
  obtain ⟨fuel, hf⟩ := h
  rcases Go.Deep.open_slice Tryd.underlying22 hf with ⟨hcs, _⟩ | ⟨a, len, cap, m, k, D, Pl, hcs, _, hl, _, hm, _, hi⟩
  · simp [Value.cells] at hcs
    exact .inl hcs.2.1
  · simp [Value.cells] at hcs
    obtain ⟨rfl, rfl, rfl⟩ := hcs
    simp at hm
    subst hm
    by_cases h0 : n = 0
    · exact .inl h0
    · right
      rw [cells_ask] at hi
      have key : ∀ i, i < n → ∃ x s y, AskAt W W.heap.size (a.add (i * 3)).block (a.add (i * 3)).off x s y ∧ (a.add (i * 3)).spot = none := fun i hin => by
        obtain ⟨cs, hc, ht⟩ := hi i (by omega)
        exact one_ask hc ht
      have hsp : a.spot = none := by
        obtain ⟨_, _, _, _, h⟩ := key 0 (by omega)
        simpa [Addr.add] using h
      obtain ⟨b, off, spot⟩ := a
      obtain rfl : spot = none := hsp
      refine ⟨b, off, rfl, fun i hin => ?_⟩
      obtain ⟨x, s, y, h, _⟩ := key i hin
      rw [add_block] at h
      have ho : ((⟨b, off, none⟩ : Addr).add (i * 3)).off = off + i * 3 := by
        unfold Addr.add; split
        · next h => simp [h]
        · rfl
      rw [ho] at h
      exact ⟨x, s, y, h⟩
end
end Go.Proofs.YtbonmfhkcoacjaaDoor
