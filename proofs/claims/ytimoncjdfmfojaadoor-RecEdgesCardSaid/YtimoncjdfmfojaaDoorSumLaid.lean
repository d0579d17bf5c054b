/- The table of package sum: what the row's condition on it gives, and that start-up meets the condition. -/
import Derived.Test.YtimoncjdfmfojaaDoorSumStep
import Derived.Test.YtimoncjdfmfojaaDoorRows
import Derived.Test.YtimoncjdfmfojaaDoorTie
import Derived.ProofKit
import Derived.LaidMore
import Derived.OpenShut
import Derived.MakeChecks
import Derived.LaidLaws
import Derived.LaidHandle
import Derived.Stop.Joined
namespace Go.Proofs.YtimoncjdfmfojaaDoor
open Go.ChangeShapes Go.WideShapes Go.ChangeAt Go.RowKit Crc

def theLaid : List (String × DataW Unit) := [("fairway/sum.steps", Rows.laid_fairway_sum_steps)]
theorem gSteps : Tryd.prog.globalNamed "fairway/sum.steps" = some 0 := by kernel_rfl
theorem tSteps : (Tryd.prog.globals[0]?).map (·.type) = some 93 := by kernel_rfl
theorem cells_u32' : Tryd.prog.cellsOf 55 = 1 := by kernel_rfl

/-- Start-up's own heap meets the condition. -/
theorem door_met (os : Os) (args : Array Value) : laidMetH Tryd.prog theLaid ((World.doorLaid Tryd.prog 400 os).forCall (fun _ _ => 0) ⟨#[], args, []⟩).memory :=
  laidMetH_of_parts3 (fuel := 8) (laidMet_of_run' 8 (by kernel_rfl) (by kernel_rfl)) (by kernel_rfl) (by kernel_rfl)

theorem lits_at {xs : List (DataW Unit × List MemPlace)} (h : xs.map (·.1) = tab.map fun n : Nat => DataW.lit (.int .u32 (n : Int))) {j : Nat} {y : DataW Unit × List MemPlace} (hj : j < 16) (hy : xs[j]? = some y) : y.1 = .lit (.int .u32 ((tab.getD j 0 : Nat) : Int)) := by
  have h1 : (xs.map (·.1))[j]? = some y.1 := by rw [List.getElem?_map, hy]; rfl
  have hl : j < tab.length := hj
  rw [h, List.getElem?_map, List.getElem?_eq_getElem hl] at h1
  rw [List.getD_eq_getElem?_getD, List.getElem?_eq_getElem hl]
  exact (Option.some.inj h1).symm

/-- What the condition gives: the table's cells. -/
theorem tab_of_laid {W : World} (h : laidMetH Tryd.prog theLaid W) : Tab W := by
  rw [MakeChecks.laidMetH_plain _ _ _ (by kernel_rfl)] at h
  obtain ⟨ps, ⟨g0, t0, cs0, f0, p0, q0, hg0, ht0, hv0, hd0, _⟩, _, _⟩ := h
  obtain rfl := Option.some.inj (gSteps.symm.trans hg0)
  obtain rfl := Option.some.inj (tSteps.symm.trans ht0)
  obtain ⟨xs, m, rfl, hx, hlen, hn, hel⟩ := DataW.trod_array Tryd.underlying93 hd0
  simp only [Prod.mk.injEq] at hx
  have hxs : xs.map (·.1) = tab.map fun n : Nat => DataW.lit (.int .u32 (n : Int)) := by
    have := hx.1.symm
    injection this with this
  intro j hj
  have h0 := hel j hj
  rw [cells_u32'] at h0
  obtain ⟨y, hy⟩ : ∃ y, xs[j]? = some y := ⟨_, List.getElem?_eq_getElem (by omega)⟩
  rw [hy] at h0
  obtain ⟨k, e1, e2, _⟩ := DataW.trod_int Tryd.underlying55 h0
  have hk := lits_at hxs hj hy
  have hcell := World.var?_cell hg0 hv0 j
  rw [e2] at hk
  rw [hcell]
  have e3 : cs0[j]? = (cs0.toList.drop (j * 1))[0]? := by rw [List.getElem?_drop]; simp
  have e4 : ((cs0.toList.drop (j * 1)).take 1)[0]? = (cs0.toList.drop (j * 1))[0]? := by rw [List.getElem?_take]; simp
  rw [e3, ← e4, e1]
  simp at hk
  simp
  exact hk
end Go.Proofs.YtimoncjdfmfojaaDoor
