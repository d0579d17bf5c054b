/- Package sum: a half byte by the table. -/
import Derived.Test.YtimoncjdfmfojaaDoorProg
import Derived.Test.YtimoncjdfmfojaaDoorSumPlain
import Derived.Test.YtimoncjdfmfojaaDoorSay
import Derived.Laws.BitsAllLaws
namespace Go.Proofs.YtimoncjdfmfojaaDoor
open Go.RowKit Go.Lib Crc

/-- The table, as start-up lays it. -/
def Tab (w : World) : Prop := ∀ j, j < 16 → w.cell? ⟨0, j, none⟩ = some (.int .u32 ((tab.getD j 0 : Nat) : Int))
theorem Tab.lt {w : World} (h : Tab w) : 0 < w.heap.size := cell_lt (h 0 (by omega))
theorem Tab.below {w w' : World} (h : Tab w) (hb : Below w.heap.size w w') : Tab w' := fun j hj => (hb.cell (p := ⟨0, j, none⟩) h.lt).trans (h j hj)

theorem tab_lt : ∀ r, r < 16 → tab[r]?.getD 0 < 4294967296 := by decide
theorem xor_step (s : Nat) (hs : s < 4294967296) : bits .xor .u32 ((s : Int) / 16) (((tab[s % 16]?).getD 0 : Nat) : Int) = ((stepN s : Nat) : Int) := by
  have h := u32_xor_nat (s / 16) ((tab[s % 16]?).getD 0) (by omega) (tab_lt _ (Nat.mod_lt _ (by omega)))
  have e : (((s / 16 : Nat)) : Int) = (s : Int) / 16 := by omega
  rw [e] at h
  rw [h]
  unfold stepN
  rw [List.getD_eq_getElem?_getD]

set_option maxHeartbeats 1000000 in
theorem step_any (s : Nat) (w : World) (hs : s < 4294967296) (ht : Tab w) :
    Calls Tryd.prog 48 #[.int .u32 (s : Int)] w fun e w' => e = .returned (.int .u32 ((stepN s : Nat) : Int)) ∧ w = w' := by
  have hc := ht (s % 16) (Nat.mod_lt _ (by omega))
  go_enter Tryd.func48, Tryd.ntmps48
  go_wp2
  go_ret
  exact ⟨ret_int (xor_step s hs), rfl⟩
end Go.Proofs.YtimoncjdfmfojaaDoor
