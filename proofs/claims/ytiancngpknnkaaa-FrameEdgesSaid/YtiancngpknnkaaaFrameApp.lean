/- Rows of packets: one of one packet, made; one behind another, appended. -/
import Derived.Test.YtiancngpknnkaaaFrameRow
import Derived.Great.BuildSlice
namespace Go.Proofs.Ytiancngpknnkaaa
open Go.RowKit Go.Lib Prp Pkt

theorem info_prow : (Try.prog.info? 45).map (fun i => (i.zero, i.size, i.bytes)) = some (some (.agg (pkArr (zp 0) za)), 25, 320) := by kernel_rfl
theorem OwnPks.mono {w : World} {base B : Nat} {v : Value} {l : List Pk} (h : OwnPks w base v l) (hB : B ≤ base) : OwnPks w B v l := by
  obtain ⟨ads, h1, h2⟩ := h.out
  refine .mk ⟨ads, ⟨h1.1, ?_⟩, h2.len, fun j k1 k2 => ⟨(h2.rows j k1 k2).1, (h2.rows j k1 k2).2.1, (h2.rows j k1 k2).2.2.1.mono hB, (h2.rows j k1 k2).2.2.2⟩⟩
  rcases h1.2 with hn | ⟨g, cap, cur, hv, hb, rest⟩
  · exact .inl hn
  · exact .inr ⟨g, cap, cur, hv, by omega, rest⟩
theorem fill_pk (p : Pk) (a : Ad) : Instr.fill (fun i => some (i * 25, 25)) ((Array.range (1 * 25)).map ((Value.agg (pkArr (zp 0) za)).cells[· % (Value.agg (pkArr (zp 0) za)).cells.size]!)) [(0, .agg (pkArr p a))] = some (pkArr p a) := by kernel_rfl
theorem OwnPks.lt {w : World} {base : Nat} {v : Value} {l : List Pk} (h : OwnPks w base v l) : ∀ k, v.ownBlock = some k → base ≤ k ∧ k < w.heap.size := by
  obtain ⟨ads, h1, _⟩ := h.out
  exact h1.lt
/-- A row behind a row of the call's own. -/
theorem run_append_pks (w : World) (ty : TypeId) {base c : Nat} {v : Value} {l m : List Pk} {A : Option Addr} {bs : List Ad} (h : OwnPks w base v l) (h2 : RowsAt w base v m bs)
    (hA : (A = none ∧ c = 0 ∧ m = []) ∨ ∃ ad, A = some ad ∧ ∀ j u, (flatK m bs)[j]? = some u → w.cell? (ad.add j) = some u) (hb : base ≤ w.heap.size) (hl : l.length + m.length ≤ 1000000000) :
    ∃ v' w', (Builtin.append_ #[33, 33] ty #[v, .slice A m.length c]).run Try.prog w = .ok v' w' ∧ OwnPks w' base v' (l ++ m) ∧ Below base w w' ∧ w.grownBy w' v.ownBlock := by
  obtain ⟨i0, hi, hz0, hz1, hz2⟩ := info_parts info_prow
  obtain ⟨ads, h1, h3⟩ := h.out
  rcases hA with ⟨rfl, rfl, rfl⟩ | ⟨ad, rfl, hn⟩
  · refine ⟨v, w, run_append_owned_none w base _ _ _ i0 25 Try.underlying33 hi v l.length _ h1, by rw [List.append_nil]; exact h, Below.refl _ _, ⟨rfl, rfl, rfl, Nat.le_refl _, fun _ _ _ => rfl⟩⟩
  · obtain ⟨v', w', hr, k1, k2, k3⟩ := run_append_where (P := Try.prog) w base 33 ty 45 i0 (.agg (pkArr (zp 0) za)) 25 320 Try.underlying33 hi hz0 hz1 hz2 rfl (by decide) v l.length _ h1 ad m.length c (flatK m bs) (flatK_len m bs h2.len) hn (flatK_one m bs) (by unfold maxLen; omega) (by omega) hb
    exact ⟨v', w', hr, OwnPks.grown h3 h2 k1 k2 k3, below_grown hb h1 k2, k2⟩
section
variable {ops : Array Oper} {rest : List Oper} {o : Oper} {f : Act} {w : World} {Q : Exit → Act → World → Prop}
/-- A row of one packet, made. -/
theorem wpList_one_pk (hg : o.guard = none) (x : Operand) (ho : o.op = .buildSlice 33 1 #[(0, x)]) (p : Pk) (a : Ad) (hx : f.eval x = .agg (pkArr p a)) (h : wpList Try.prog ops Q rest (f.put o.dst (.slice (some ⟨w.heap.size, 0, none⟩) 1 1)) (w.alloc (.cells (pkArr p a) 45))) : wpList Try.prog ops Q (o :: rest) f w := by
  obtain ⟨i0, hi, hz0, hz1, hz2⟩ := info_parts info_prow
  refine wpList_buildSlice hg 33 45 1 #[(0, x)] ho (pkArr p a) i0 (.agg (pkArr (zp 0) za)) Try.underlying33 hi hz0 (by rw [hz1]; decide) (by rw [hz1]; decide) ?_ h
  have e : ((#[(0, x)] : Array (Nat × Operand)).map fun (i, x) => (i, f.eval x)).toList = [(0, .agg (pkArr p a))] := by
    rw [← hx]
    simp
  rw [e, hz1]
  exact fill_pk p a
/-- An append of packets. -/
theorem wpList_append_pks (hgd : o.guard = none) (s x : Operand) (ho : o.op = .call { callee := .builtin .append, args := #[s, x], argTypes := #[33, 33] }) {base c : Nat} {v : Value} {l m : List Pk} {A : Option Addr} {bs : List Ad}
    (hs : f.eval s = v) (hx : f.eval x = .slice A m.length c) (h : OwnPks w base v l) (h2 : RowsAt w base v m bs) (hA : (A = none ∧ c = 0 ∧ m = []) ∨ ∃ ad, A = some ad ∧ ∀ j u, (flatK m bs)[j]? = some u → w.cell? (ad.add j) = some u) (hb : base ≤ w.heap.size) (hl : l.length + m.length ≤ 1000000000)
    (k : ∀ v' w', OwnPks w' base v' (l ++ m) → Below base w w' → w.grownBy w' v.ownBlock → wpList Try.prog ops Q rest (f.put o.dst v') w') : wpList Try.prog ops Q (o :: rest) f w := by
  obtain ⟨v', w', hr, k1, k2, k3⟩ := run_append_pks w o.type h h2 hA hb hl
  refine wpList_plain hgd fun K hK => ?_
  unfold Oper.wp execOp
  simp only [ho, resolve, invoke, builtin, Sem.run_bind, Sem.run_pure, Result.andThen_ok, List.map_toArray, List.map_cons, List.map_nil, hs, hx, hr]
  exact hK _ _ (k v' w' k1 k2 k3)
end
theorem box_grown {w w' : World} {k : Nat} {cs : Array Value} {row : Option Nat} (h : Box w k cs) (hg : w.grownBy w' row) (hne : some k ≠ row) : Box w' k cs := by
  have hl := h.lt
  obtain ⟨T, hT⟩ := h
  exact ⟨T, (hg.block k hl hne).trans hT⟩
/-- A row of one packet that lies in a block. -/
theorem rows_one {w : World} {base k : Nat} {v : Value} {p : Pk} {a : Ad} (hp : PkAt w w.heap.size p a) (hc : PkCap p a) (hn : PkNew base a) (hf : ∀ g, v.ownBlock = some g → POff g p a) (hb : Box w k (pkArr p a)) :
    RowsAt w base v [p] [a] ∧ ∀ j u, (flatK [p] [a])[j]? = some u → w.cell? ((⟨k, 0, none⟩ : Addr).add j) = some u := by
  refine ⟨⟨rfl, fun j h1 h2 => ?_⟩, fun j u hu => ?_⟩
  · obtain rfl : j = 0 := by simpa using h1
    exact ⟨hp, hc, hn, hf⟩
  · rw [add_new, hb.cell]
    have e : flatK [p] [a] = (pkArr p a).toList := by show (pkArr p a).toList ++ flatK [] [] = _; exact List.append_nil _
    rw [e] at hu
    rw [← hu]
    simp
end Go.Proofs.Ytiancngpknnkaaa
