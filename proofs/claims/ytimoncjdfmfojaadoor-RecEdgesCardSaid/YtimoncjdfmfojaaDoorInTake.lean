/- A region that draws its order, walked by hand under a word S that holds behind every operation: one operation at a time. No program. -/
import Derived.Test.YtimoncjdfmfojaaDoorInLoad
import Derived.Deep.RegionHeld3
namespace Go.Proofs.YtimoncjdfmfojaaDoor
open Go.RowKit

section
variable {P : Program} {ops : Array Oper} {Q : Exit → Act → World → Prop} {S : World → Prop}
/-- May number i be taken first? -/
def takeB (ops : Array Oper) (listed : Array Bool) (i : Nat) : Bool := Region.noSelect ops && (Region.free .any ops listed i && (Region.ready .any ops listed).contains i)
/-- What yields one value in every world that meets S is taken first. -/
theorem take_op {fuel : Nat} {listed : Array Bool} {a : Act} {w : World} (i d : Nat) {oi : Oper} (v : Value) (hd : oi.dst = some d) (hi : ops[i]? = some oi) (hc : takeB ops listed i = true) (hQ : ∀ c a w, Q (.panic c) (a.put oi.dst v) w → Q (.panic c) a w)
    (hw : Region.wanted oi (yielded ops a.tmps) = true) (hS : S w) (hv : ∀ w, S w → (execOp a.eval oi).run P w = .ok (.value v) w)
    (h : wpAnyH P .any ops Q S fuel (listed.setIfInBounds i true) (a.put (some d) v) w) : wpAnyH P .any ops Q S (fuel + 1) listed a w := by
  rw [← hd] at h
  unfold takeB at hc
  simp only [Bool.and_eq_true] at hc
  exact wpAnyH_take hi hc.1 hc.2.1 hc.2.2 hQ (.inl ⟨hw, hv⟩) hS h
/-- A variable read whole is taken first. -/
theorem take_load {fuel : Nat} {listed : Array Bool} {a : Act} {w : World} (i d : Nat) {oi : Oper} (ty : TypeId) (x : Operand) (b off : Nat) (V : Value) (hd : oi.dst = some d) (hi : ops[i]? = some oi) (hc : takeB ops listed i = true) (hQ : ∀ c a w, Q (.panic c) (a.put oi.dst V) w → Q (.panic c) a w)
    (hw : Region.wanted oi (yielded ops a.tmps) = true) (hS : S w) (ho : oi.op = .load ty x) (hx : a.eval x = .pointer (some ⟨b, off, none⟩)) (hv : ∀ w, S w → (loadVar ty ⟨b, off, none⟩).run P w = .ok V w)
    (h : wpAnyH P .any ops Q S fuel (listed.setIfInBounds i true) (a.put (some d) V) w) : wpAnyH P .any ops Q S (fuel + 1) listed a w :=
  take_op i d V hd hi hc hQ hw hS (fun w' hS' => by
    unfold execOp
    simp only [ho, hx, Instr.loadAt, Instr.sureAddr, Sem.run_bind, Sem.run_pure, Result.andThen_ok, hv w' hS']) h
/-- The one operation that may come up. -/
theorem only_op {fuel : Nat} {listed : Array Bool} {a : Act} {w : World} (i : Nat) {oi : Oper} (hi : ops[i]? = some oi) (hr : Region.ready .any ops listed = [i]) (hw : Region.wanted oi (yielded ops a.tmps) = true)
    (h : Oper.wp P oi a w (fun a' w' => S w' ∧ wpAnyH P .any ops Q S fuel (listed.setIfInBounds i true) a' w') Q) : wpAnyH P .any ops Q S (fuel + 1) listed a w := by
  refine wpAnyH_all (rs := [i]) hr (by simp) fun j hj => ?_
  rw [List.mem_singleton] at hj
  subst hj
  exact wpOp_step hi (fun K' hK => by
    rw [if_pos hw]
    exact Oper.wp_mono (fun a' w' h' => hK a' w' h') h)
/-- The two operations that may come up. -/
theorem two_ops {fuel : Nat} {listed : Array Bool} {a : Act} {w : World} (i j : Nat) {oi oj : Oper} (hi : ops[i]? = some oi) (hj : ops[j]? = some oj) (hr : Region.ready .any ops listed = [i, j]) (hw : Region.wanted oi (yielded ops a.tmps) = true) (hw2 : Region.wanted oj (yielded ops a.tmps) = true)
    (h : Oper.wp P oi a w (fun a' w' => S w' ∧ wpAnyH P .any ops Q S fuel (listed.setIfInBounds i true) a' w') Q) (h2 : Oper.wp P oj a w (fun a' w' => S w' ∧ wpAnyH P .any ops Q S fuel (listed.setIfInBounds j true) a' w') Q) : wpAnyH P .any ops Q S (fuel + 1) listed a w := by
  refine wpAnyH_all (rs := [i, j]) hr (by simp) fun k hk => ?_
  rcases List.mem_cons.1 hk with rfl | hk
  · exact wpOp_step hi (fun K' hK => by
      rw [if_pos hw]
      exact Oper.wp_mono (fun a' w' h' => hK a' w' h') h)
  · rw [List.mem_singleton] at hk
    subst hk
    exact wpOp_step hj (fun K' hK => by
      rw [if_pos hw2]
      exact Oper.wp_mono (fun a' w' h' => hK a' w' h') h2)
/-- A call that comes up, whatever it hands back. -/
theorem wp_call_ex {o : Oper} {a : Act} {w : World} {K : Act → World → Prop} (d : Nat) (f : FuncId) (vs : Array Value) (R : Ending → World → Prop) (hd : o.dst = some d) (hx : (execOp a.eval o).run P w = .ok (.enter f vs) w)
    (hc : Calls P f vs w R) (h : ∀ e w', R e w' → ∃ v, e = .returned v ∧ K (a.put (some d) v) w') : Oper.wp P o a w K Q := by
  unfold Oper.wp
  rw [← hd] at h
  rw [hx]
  exact hc.mono fun e w' hR => by
    obtain ⟨v, rfl, hk⟩ := h e w' hR
    exact hk
/-- A call that comes up. -/
theorem wp_call {o : Oper} {a : Act} {w : World} {K : Act → World → Prop} (d : Nat) (f : FuncId) (vs : Array Value) (v : Value) (R : World → Prop) (hd : o.dst = some d) (hx : (execOp a.eval o).run P w = .ok (.enter f vs) w)
    (hc : Calls P f vs w fun e w' => e = .returned v ∧ R w') (h : ∀ w', R w' → K (a.put (some d) v) w') : Oper.wp P o a w K Q := by
  unfold Oper.wp
  rw [← hd] at h
  rw [hx]
  exact hc.mono fun e w' ⟨he, hR⟩ => by subst he; exact h w' hR
/-- A value that is made. -/
theorem wp_made {o : Oper} {a : Act} {w w' : World} {K : Act → World → Prop} (d : Nat) (v : Value) (hd : o.dst = some d) (hx : (execOp a.eval o).run P w = .ok (.value v) w') (h : K (a.put (some d) v) w') : Oper.wp P o a w K Q := by
  unfold Oper.wp
  rw [← hd] at h
  rw [hx]
  exact h
end
end Go.Proofs.YtimoncjdfmfojaaDoor
