/- A region walked by hand under a word S: behind an operation more may be known, and S be made stronger. No program. -/
import Derived.Test.YtimoncjdfmfojaaDoorInTake
namespace Go.Proofs.YtimoncjdfmfojaaDoor
open Go.RowKit

theorem held_stronger {P : Program} {md : Region.Mode} {ops : Array Oper} {Q : Exit → Act → World → Prop} {S S' : World → Prop} (hS : ∀ w, S' w → S w) :
    ∀ (fuel : Nat) (listed : Array Bool) (a : Act) (w : World), wpAnyH P md ops Q S' fuel listed a w → wpAnyH P md ops Q S fuel listed a w
  | 0, _, _, _, h => h
  | fuel + 1, _, _, _, h => ⟨h.1, fun i hi => wpOp_mono (fun a' w' h' => ⟨hS _ h'.1, held_stronger hS fuel _ a' w' h'.2⟩) (h.2 i hi)⟩
theorem wp_store_one {P : Program} {o : Oper} {a : Act} {w w' : World} {K : Act → World → Prop} {Q : Exit → Act → World → Prop} (ty : TypeId) (x y : Operand) (ho : o.op = .store ty x y) (p V : Value)
    (hx : a.eval x = p) (hy : a.eval y = V) (hr : (Instr.storeAt ty p V).run P w = .ok () w') (h : K (a.put o.dst undef) w') : Oper.wp P o a w K Q := by
  unfold Oper.wp execOp
  simp only [ho, hx, hy, Sem.run_bind, Sem.run_pure, Result.andThen_ok, hr]
  exact h
theorem put_none (a : Act) (v : Value) : a.put none v = a := rfl
theorem wp_store_none {P : Program} {o : Oper} {a : Act} {w w' : World} {K : Act → World → Prop} {Q : Exit → Act → World → Prop} (ty : TypeId) (x y : Operand) (ho : o.op = .store ty x y) (hd : o.dst = none) (p V : Value)
    (hx : a.eval x = p) (hy : a.eval y = V) (hr : (Instr.storeAt ty p V).run P w = .ok () w') (h : K a w') : Oper.wp P o a w K Q := by
  refine wp_store_one ty x y ho p V hx hy hr ?_
  rw [hd]
  exact h
end Go.Proofs.YtimoncjdfmfojaaDoor
