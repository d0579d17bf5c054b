/- What a script (names, texts, acts) is in memory, out of the reading of an argument: three slices. -/
import Derived.Test.YtgimecgdfcckbaaRows
import Derived.ProofKit
import Derived.Deep.Slices
import Derived.SizedLaws
import Derived.ChangeOld
import Derived.Below
namespace Go.Proofs.Ytgimecgdfcckbaa.Dsk
open Go.ChangeShapes Go.WideShapes Go.ChangeAt Go.RowKit

theorem ownKnob_none : ownKnob Try.prog.godebug = none := by kernel_rfl
theorem laidOut_true : laidOutB Try.prog = true := by kernel_rfl
theorem cells_script : Try.prog.cellsOf 25 = 3 := by kernel_rfl
theorem cells_strings : Try.prog.cellsOf 22 = 1 := by kernel_rfl
theorem cells_acts : Try.prog.cellsOf 23 = 1 := by kernel_rfl

section
variable {H : Type} {enc : TypeId × Value → H} {W : World} {base : Nat} {spare : Nat → Bool} {held : Bool}
theorem slice_of_trod {t e : TypeId} {fuel : Nat} {v : Value} {y : DataW H × List MemPlace} (hu : Try.prog.underlying t = some (.slice e)) (h : DataW.trod enc Try.prog W base spare held fuel t [v] = some y) : ∃ A n c, v = .slice A n c := by
  rcases Go.Deep.open_slice hu h with ⟨hcs, _⟩ | ⟨a, len, cap, m, k, D, Pl, hcs, _⟩
  · simp at hcs
    exact ⟨none, 0, 0, hcs⟩
  · simp at hcs
    exact ⟨_, len, cap, hcs⟩
set_option maxRecDepth 100000 in
theorem script_of_trod {b0 : Nat} {v : Value} {d : DataW H} {p : List MemPlace} (hv : Value.okWide Try.prog W .any b0 25 v) (h : DataW.Trod enc Try.prog W base (fun _ => true) held 25 v d p) :
    ∃ A n c B n' c' L m cl, v = .agg #[.slice A n c, .slice B n' c', .slice L m cl] := by
  obtain ⟨fuel, hf⟩ := h
  obtain ⟨⟨cs⟩, rfl, hsz⟩ := okWide_struct Try.underlying25 hv
  rw [cells_script] at hsz
  match cs, hsz with
  | [v0, v1, v2], _ =>
    change DataW.trod enc Try.prog W base (fun _ => true) held fuel 25 [v0, v1, v2] = _ at hf
    obtain ⟨ys, n, _, hy, _, hyl, hff⟩ := DataW.trod_struct Try.underlying25 hf
    have hyl' : ys.length = 3 := by simpa using hyl
    have f0 := hff 0 _ rfl
    have f1 := hff 1 _ rfl
    have f2 := hff 2 _ rfl
    rw [List.getElem?_eq_getElem (by omega)] at f0 f1 f2
    change DataW.trod enc Try.prog W base (fun _ => true) held n 22 (List.take (Try.prog.cellsOf 22) [v0, v1, v2]) = _ at f0
    change DataW.trod enc Try.prog W base (fun _ => true) held n 22 (List.take (Try.prog.cellsOf 22) [v1, v2]) = _ at f1
    change DataW.trod enc Try.prog W base (fun _ => true) held n 23 (List.take (Try.prog.cellsOf 23) [v2]) = _ at f2
    rw [cells_strings] at f0 f1
    rw [cells_acts] at f2
    obtain ⟨A, k, c, rfl⟩ := slice_of_trod (v := v0) Try.underlying22 f0
    obtain ⟨B, k', c', rfl⟩ := slice_of_trod (v := v1) Try.underlying22 f1
    obtain ⟨L, m, cl, rfl⟩ := slice_of_trod (v := v2) Try.underlying23 f2
    exact ⟨A, k, c, B, k', c', L, m, cl, rfl⟩
end
end Go.Proofs.Ytgimecgdfcckbaa.Dsk
