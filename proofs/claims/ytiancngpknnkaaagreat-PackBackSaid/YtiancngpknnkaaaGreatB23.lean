/- A chain of guarded comparisons: block by block, whatever the frame holds besides. No program. -/
import Derived.Test.YtiancngpknnkaaaGreatB07
import Derived.Test.YtiancngpknnkaaaGreatB11
import Derived.BigRegion
set_option maxRecDepth 100000
set_option maxHeartbeats 64000000
namespace Go.Proofs.YtiancngpknnkaaaGreat
open Go.RowKit Go.Lib
structure Ch (n : Nat) (x y : Value) (a : Act) (k : Nat) (b : Bool) : Prop where
  sz : a.tmps.size = n
  p2 : a.eval (.tmp 2) = x
  p3 : a.eval (.tmp 3) = y
  pk : a.tmps[k]? = some (.bool b)
  df : a.defers = []
section
variable {P : Program} {ops : Array Oper} {Q : Exit → Act → World → Prop} {rest : List Oper} {w : World} {a : Act} {o : Oper}
theorem put_size (d : Nat) (v : Value) : (a.put (some d) v).tmps.size = a.tmps.size := by simp [Act.put]
theorem put_get {d j : Nat} (v : Value) (h : d ≠ j) : (a.put (some d) v).tmps[j]? = a.tmps[j]? := by simp [Act.put, h]
theorem put_same {d : Nat} (v : Value) (h : d < a.tmps.size) : (a.put (some d) v).tmps[d]? = some v := by simp [Act.put, h]
theorem eval_of {j : Nat} {v : Value} (h : a.tmps[j]? = some v) : a.eval (.tmp j) = v := by simp [Act.eval, h]
theorem eval_put {d j : Nat} (v : Value) (h : d ≠ j) : (a.put (some d) v).eval (.tmp j) = a.eval (.tmp j) := by
  have := put_get (a := a) v h
  simp [Act.eval, this]
theorem eval_same {d : Nat} (v : Value) (h : d < a.tmps.size) : (a.put (some d) v).eval (.tmp d) = v := eval_of (put_same v h)
theorem wants {gi k : Nat} {b : Bool} (hg : o.guard = some (gi, true)) (hk : (ops[gi]?).bind (·.dst) = some k) (hb : a.tmps[k]? = some (.bool b)) : Region.wanted o (yielded ops a.tmps) = b := by
  unfold Region.wanted yielded
  rw [hg]
  simp only [hk, Option.bind_some, hb]
  cases b <;> rfl
theorem ch_skip {gi k : Nat} (hg : o.guard = some (gi, true)) (hk : (ops[gi]?).bind (·.dst) = some k) (hb : a.tmps[k]? = some (.bool false)) (h : wpList P ops Q rest (a.put o.dst undef) w) : wpList P ops Q (o :: rest) a w :=
  wpList_skip (wants hg hk hb) h
theorem ch_take {gi k : Nat} (hg : o.guard = some (gi, true)) (hk : (ops[gi]?).bind (·.dst) = some k) (hb : a.tmps[k]? = some (.bool true)) (h : o.wp P a w (wpList P ops Q rest) Q) : wpList P ops Q (o :: rest) a w := by
  simp only [wpList]
  rw [if_pos (wants hg hk hb)]
  exact .inl h
theorem wp_val {K : Act → World → Prop} {v : Value} (hx : (execOp a.eval o).run P w = .ok (.value v) w) (h : K (a.put o.dst v) w) : o.wp P a w K Q := by
  unfold Oper.wp
  rw [hx]
  exact h
theorem run_pick {ρ : Operand → Value} {c x y : Operand} {b : Bool} (h : o.op = .pick c x y) (hc : ρ c = .bool b) : (execOp ρ o).run P w = .ok (.value (if b = true then ρ x else ρ y)) w := by
  unfold execOp
  rw [h]
  cases b <;> simp [hc, asBool, go_sem]
theorem ch_block {n d1 d2 d3 d4 d5 d6 d7 k gi : Nat} {x y v1 u1 v3 u3 : Value} {b e : Bool} {o1 o2 o3 o4 o5 o6 o7 : Oper}
    (h : Ch n x y a k b)
    (e1 : o1.dst = some d1 ∧ o1.guard = some (gi, true)) (e2 : o2.dst = some d2 ∧ o2.guard = some (gi, true)) (e3 : o3.dst = some d3 ∧ o3.guard = some (gi, true)) (e4 : o4.dst = some d4 ∧ o4.guard = some (gi, true)) (e5 : o5.dst = some d5 ∧ o5.guard = some (gi, true))
    (e6 : o6.dst = some d6 ∧ o6.guard = none ∧ o6.op = .pick (.tmp k) (.tmp d5) (.const (.bool false))) (e7 : o7.dst = some d7 ∧ o7.guard = none ∧ (o7.op = .move (.tmp d6) ∨ o7.op = .assign (.tmp d6)))
    (hk : (ops[gi]?).bind (·.dst) = some k)
    (hd : 3 < d1 ∧ 3 < k ∧ 3 < d7 ∧ k < d1 ∧ d2 = d1 + 1 ∧ d3 = d1 + 2 ∧ d4 = d1 + 3 ∧ d5 = d1 + 4 ∧ d6 = d1 + 5 ∧ d6 < n ∧ d7 < n)
    (hx1 : ∀ a : Act, a.eval (.tmp 2) = x → (execOp a.eval o1).run P w = .ok (.value v1) w)
    (hx2 : ∀ a : Act, a.eval (.tmp d1) = v1 → (execOp a.eval o2).run P w = .ok (.value u1) w)
    (hx3 : ∀ a : Act, a.eval (.tmp 3) = y → (execOp a.eval o3).run P w = .ok (.value v3) w)
    (hx4 : ∀ a : Act, a.eval (.tmp d3) = v3 → (execOp a.eval o4).run P w = .ok (.value u3) w)
    (hx5 : ∀ (a : Act) (K : Act → World → Prop), a.eval (.tmp d2) = u1 → a.eval (.tmp d4) = u3 → (∀ w', Below w.heap.size w w' → K (a.put (some d5) (.bool e)) w') → o5.wp P a w K Q)
    (hr : ∀ (a' : Act) (w' : World), Below w.heap.size w w' → Ch n x y a' d7 (b && e) → wpList P ops Q rest a' w') : wpList P ops Q (o1 :: o2 :: o3 :: o4 :: o5 :: o6 :: o7 :: rest) a w := by
  obtain ⟨q1, q2, q3, q4, r2, r3, r4, r5, r6, r7, r8⟩ := hd
  subst r2 r3 r4 r5 r6
  have fin : ∀ (a1 : Act) (w1 : World), Below w.heap.size w w1 → a1.tmps.size = n → a1.eval (.tmp 2) = x → a1.eval (.tmp 3) = y → a1.tmps[k]? = some (.bool b) → (b = true → a1.tmps[d1 + 4]? = some (.bool e)) → a1.defers = [] → wpList P ops Q (o6 :: o7 :: rest) a1 w1 := by
    intro a1 w1 hb s1 s2 s3 s4 s5 s6
    have hv : (if b = true then a1.eval (.tmp (d1 + 4)) else a1.eval (.const (.bool false))) = .bool (b && e) := by
      cases b with
      | true => rw [if_pos rfl, eval_of (s5 rfl)]; rfl
      | false => rfl
    refine wpList_plain e6.2.1 fun K hK => wp_val (run_pick e6.2.2 (eval_of s4)) ?_
    refine hK _ _ ?_
    rw [hv, e6.1]
    have t1 := put_size (a := a1) (d1 + 5) (.bool (b && e))
    have t2 := eval_put (a := a1) (.bool (b && e)) (show d1 + 5 ≠ 2 by omega)
    have t3 := eval_put (a := a1) (.bool (b && e)) (show d1 + 5 ≠ 3 by omega)
    have t4 := eval_same (a := a1) (.bool (b && e)) (show d1 + 5 < a1.tmps.size by omega)
    have t5 : (a1.put (some (d1 + 5)) (.bool (b && e))).defers = [] := s6
    generalize a1.put (some (d1 + 5)) (.bool (b && e)) = a2 at t1 t2 t3 t4 t5 ⊢
    have go : o7.wp P a2 w1 (wpList P ops Q rest) Q := by
      have hx : (execOp a2.eval o7).run P w1 = .ok (.value (.bool (b && e))) w1 := by
        rcases e7.2.2 with h7 | h7
        · rw [BigFrame.run_move _ h7, t4]
        · rw [BigFrame.run_assign _ h7, t4]
      refine wp_val hx ?_
      rw [e7.1]
      refine hr _ _ hb ⟨by rw [put_size]; omega, by rw [eval_put _ (by omega), t2, s2], by rw [eval_put _ (by omega), t3, s3], put_same _ (by omega), t5⟩
    exact wpList_plain e7.2.1 fun K hK => Oper.wp_mono (fun a' w' h' => hK a' w' h') go
  cases b with
  | false =>
    have s4 := h.pk
    refine ch_skip e1.2 hk s4 ?_
    rw [e1.1]
    refine ch_skip e2.2 hk (by rw [put_get _ (by omega)]; exact s4) ?_
    rw [e2.1]
    refine ch_skip e3.2 hk (by rw [put_get _ (by omega), put_get _ (by omega)]; exact s4) ?_
    rw [e3.1]
    refine ch_skip e4.2 hk (by rw [put_get _ (by omega), put_get _ (by omega), put_get _ (by omega)]; exact s4) ?_
    rw [e4.1]
    refine ch_skip e5.2 hk (by rw [put_get _ (by omega), put_get _ (by omega), put_get _ (by omega), put_get _ (by omega)]; exact s4) ?_
    rw [e5.1]
    refine fin _ _ (Below.refl _ _) (by simp only [put_size]; exact h.sz) ?_ ?_ ?_ (fun h => by cases h) h.df
    · rw [eval_put _ (by omega), eval_put _ (by omega), eval_put _ (by omega), eval_put _ (by omega), eval_put _ (by omega)]; exact h.p2
    · rw [eval_put _ (by omega), eval_put _ (by omega), eval_put _ (by omega), eval_put _ (by omega), eval_put _ (by omega)]; exact h.p3
    · rw [put_get _ (by omega), put_get _ (by omega), put_get _ (by omega), put_get _ (by omega), put_get _ (by omega)]; exact s4
  | true =>
    have s4 := h.pk
    have sz := h.sz
    refine ch_take e1.2 hk s4 (wp_val (hx1 a h.p2) ?_)
    rw [e1.1]
    refine ch_take e2.2 hk (by rw [put_get _ (by omega)]; exact s4) (wp_val (hx2 _ (eval_same _ (by omega))) ?_)
    rw [e2.1]
    refine ch_take e3.2 hk (by rw [put_get _ (by omega), put_get _ (by omega)]; exact s4) (wp_val (hx3 _ (by rw [eval_put _ (by omega), eval_put _ (by omega)]; exact h.p3)) ?_)
    rw [e3.1]
    refine ch_take e4.2 hk (by rw [put_get _ (by omega), put_get _ (by omega), put_get _ (by omega)]; exact s4) (wp_val (hx4 _ (eval_same _ (by simp only [put_size]; omega))) ?_)
    rw [e4.1]
    refine ch_take e5.2 hk (by rw [put_get _ (by omega), put_get _ (by omega), put_get _ (by omega), put_get _ (by omega)]; exact s4) (hx5 _ _ ?_ ?_ ?_)
    · rw [eval_put _ (by omega), eval_put _ (by omega)]
      exact eval_same _ (by simp only [put_size]; omega)
    · exact eval_same _ (by simp only [put_size]; omega)
    intro w' hb
    refine fin _ _ hb (by simp only [put_size]; exact h.sz) ?_ ?_ ?_ (fun _ => put_same _ (by simp only [put_size]; omega)) h.df
    · rw [eval_put _ (by omega), eval_put _ (by omega), eval_put _ (by omega), eval_put _ (by omega), eval_put _ (by omega)]; exact h.p2
    · rw [eval_put _ (by omega), eval_put _ (by omega), eval_put _ (by omega), eval_put _ (by omega), eval_put _ (by omega)]; exact h.p3
    · rw [put_get _ (by omega), put_get _ (by omega), put_get _ (by omega), put_get _ (by omega), put_get _ (by omega)]; exact s4
theorem ch_first {n d1 d2 d3 d4 d5 d6 : Nat} {x y v1 u1 v3 u3 : Value} {e : Bool} {o1 o2 o3 o4 o5 o6 : Oper}
    (sz : a.tmps.size = n) (df : a.defers = []) (h2 : a.eval (.tmp 2) = x) (h3 : a.eval (.tmp 3) = y)
    (e1 : o1.dst = some d1 ∧ o1.guard = none) (e2 : o2.dst = some d2 ∧ o2.guard = none) (e3 : o3.dst = some d3 ∧ o3.guard = none) (e4 : o4.dst = some d4 ∧ o4.guard = none) (e5 : o5.dst = some d5 ∧ o5.guard = none)
    (e6 : o6.dst = some d6 ∧ o6.guard = none ∧ o6.op = .move (.tmp d5))
    (hd : 3 < d1 ∧ d2 = d1 + 1 ∧ d3 = d1 + 2 ∧ d4 = d1 + 3 ∧ d5 = d1 + 4 ∧ d6 = d1 + 5 ∧ d6 < n)
    (hx1 : ∀ a : Act, a.eval (.tmp 2) = x → (execOp a.eval o1).run P w = .ok (.value v1) w)
    (hx2 : ∀ a : Act, a.eval (.tmp d1) = v1 → (execOp a.eval o2).run P w = .ok (.value u1) w)
    (hx3 : ∀ a : Act, a.eval (.tmp 3) = y → (execOp a.eval o3).run P w = .ok (.value v3) w)
    (hx4 : ∀ a : Act, a.eval (.tmp d3) = v3 → (execOp a.eval o4).run P w = .ok (.value u3) w)
    (hx5 : ∀ a : Act, a.eval (.tmp d2) = u1 → a.eval (.tmp d4) = u3 → (execOp a.eval o5).run P w = .ok (.value (.bool e)) w)
    (hr : ∀ a' : Act, Ch n x y a' d6 e → wpList P ops Q rest a' w) : wpList P ops Q (o1 :: o2 :: o3 :: o4 :: o5 :: o6 :: rest) a w := by
  obtain ⟨q1, r2, r3, r4, r5, r6, q2⟩ := hd
  subst r2 r3 r4 r5 r6
  refine wpList_plain e1.2 fun K hK => wp_val (hx1 a h2) (hK _ _ ?_)
  rw [e1.1]
  refine wpList_plain e2.2 fun K hK => wp_val (hx2 _ (eval_same _ (by omega))) (hK _ _ ?_)
  rw [e2.1]
  refine wpList_plain e3.2 fun K hK => wp_val (hx3 _ (by rw [eval_put _ (by omega), eval_put _ (by omega)]; exact h3)) (hK _ _ ?_)
  rw [e3.1]
  refine wpList_plain e4.2 fun K hK => wp_val (hx4 _ (eval_same _ (by simp only [put_size]; omega))) (hK _ _ ?_)
  rw [e4.1]
  refine wpList_plain e5.2 fun K hK => wp_val (hx5 _ ?_ (eval_same _ (by simp only [put_size]; omega))) (hK _ _ ?_)
  · rw [eval_put _ (by omega), eval_put _ (by omega)]
    exact eval_same _ (by simp only [put_size]; omega)
  rw [e5.1]
  refine wpList_plain e6.2.1 fun K hK => wp_val (BigFrame.run_move _ e6.2.2 w) (hK _ _ ?_)
  rw [e6.1, eval_same _ (by simp only [put_size]; omega)]
  refine hr _ ⟨by simp only [put_size]; exact sz, ?_, ?_, put_same _ (by simp only [put_size]; omega), df⟩
  · rw [eval_put _ (by omega), eval_put _ (by omega), eval_put _ (by omega), eval_put _ (by omega), eval_put _ (by omega), eval_put _ (by omega)]; exact h2
  · rw [eval_put _ (by omega), eval_put _ (by omega), eval_put _ (by omega), eval_put _ (by omega), eval_put _ (by omega), eval_put _ (by omega)]; exact h3
end
end Go.Proofs.YtiancngpknnkaaaGreat
