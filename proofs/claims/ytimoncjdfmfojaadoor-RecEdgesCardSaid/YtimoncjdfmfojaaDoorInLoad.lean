/- A variable read whole: one operation of a quiet walk, by the law of its reading. No program. -/
import Derived.Test.YtimoncjdfmfojaaDoorInRegion
import Derived.Deep.MidRow
namespace Go.Proofs.YtimoncjdfmfojaaDoor
open Go.RowKit

theorem quiet_load {P : Program} {o : Oper} {a : Act} {C : World → Prop} {K : Act → Prop} (ty : TypeId) (x : Operand) (ho : o.op = .load ty x) (b off : Nat) (hx : a.eval x = .pointer (some ⟨b, off, none⟩)) (V : Value)
    (hv : ∀ w, C w → (loadVar ty ⟨b, off, none⟩).run P w = .ok V w) (h : K (a.put o.dst V)) : o.quiet P a C K := by
  refine ⟨V, fun w hw => ?_, h⟩
  unfold Oper.quietAt execOp
  simp only [ho, hx, Instr.loadAt, Instr.sureAddr, Sem.run_bind, Sem.run_pure, Result.andThen_ok, hv w hw]
  exact ⟨rfl, rfl⟩
theorem quiet_load_in {P : Program} {o : Oper} {a : Act} {S : World → Prop} {K : Act → Prop} (ty : TypeId) (x : Operand) (ho : o.op = .load ty x) (b off : Nat) (hx : a.eval x = .pointer (some ⟨b, off, none⟩)) (V : Value)
    (hv : ∀ u : In S, (loadVar ty ⟨b, off, none⟩).run P u.w = .ok V u.w) (h : K (a.put o.dst V)) : o.quiet P a (fun w' => ∃ u : In S, w' = u.w) K :=
  quiet_load ty x ho b off hx V (fun w ⟨u, hu⟩ => by rw [hu]; exact hv u) h
theorem wp_load_one {P : Program} {op : Oper} {a : Act} {w : World} {K : Act → World → Prop} {Q : Exit → Act → World → Prop} (ty : TypeId) (x : Operand) (ho : op.op = .load ty x) (b off : Nat) (hx : a.eval x = .pointer (some ⟨b, off, none⟩)) (V : Value)
    (hv : (loadVar ty ⟨b, off, none⟩).run P w = .ok V w) (h : K (a.put op.dst V) w) : op.wp P a w K Q := by
  unfold Oper.wp execOp
  simp only [ho, hx, Instr.loadAt, Instr.sureAddr, Sem.run_bind, Sem.run_pure, Result.andThen_ok, hv]
  exact h
theorem wpList_load_one {P : Program} {ops : Array Oper} {rest : List Oper} {op : Oper} {a : Act} {w : World} {Q : Exit → Act → World → Prop} (hgd : op.guard = none) (ty : TypeId) (x : Operand) (ho : op.op = .load ty x) (b off : Nat)
    (hx : a.eval x = .pointer (some ⟨b, off, none⟩)) (V : Value) (hv : (loadVar ty ⟨b, off, none⟩).run P w = .ok V w) (h : wpList P ops Q rest (a.put op.dst V) w) : wpList P ops Q (op :: rest) a w :=
  wpList_plain hgd fun _ hK => wp_load_one ty x ho b off hx V hv (hK _ _ h)
end Go.Proofs.YtimoncjdfmfojaaDoor
