/- A record read, written, handed back whole. -/
import Derived.Test.YtimoncjdfmfojaaDoorChecked
import Derived.Test.YtimoncjdfmfojaaDoorRcMem
import Derived.Test.YtimoncjdfmfojaaDoorInLoad
import Derived.Laws.Tables
namespace Go.Proofs.YtimoncjdfmfojaaDoor.Rcd
open Go.RowKit Go.Lib

theorem info_rec : (Tryd.prog.info? 28).map (·.size) = some 6 := by kernel_rfl
theorem info_more : (Tryd.prog.info? 28).map (fun i => (i.zero, i.size, i.bytes)) = some (some (.agg #[.int .i64 0, .int .i64 0, .string ⟨#[]⟩, .string ⟨#[]⟩, .int .i64 0, .bool false]), 6, 64) := by kernel_rfl
def zcells : Array Value := #[.int .i64 0, .int .i64 0, .string ⟨#[]⟩, .string ⟨#[]⟩, .int .i64 0, .bool false]
section
variable {W : World} {g : Nat} {cs : Array Value}
theorem load_blk (h : Blk W g cs) (h9 : cs.size = 6) : (loadVar 28 ⟨g, 0, none⟩).run Tryd.prog W = .ok (.agg cs) W :=
  run_loadVar_mid W g 0 28 cs.toList _ (fun j v hv => by rw [Nat.zero_add, h.cell j]; rw [← hv]; simp) Tryd.underlying28 rfl (by rw [info_rec]; simp [h9])
theorem load_at {o : Nat} {s : Rc} (h : RAt W g o s) : (loadVar 28 ⟨g, o, none⟩).run Tryd.prog W = .ok (ragg s) W :=
  run_loadVar_mid W g o 28 (rcells s) _ (fun j v hv => by
    match j, hv with
    | 0, hv => rw [← hv]; exact h.c0
    | 1, hv => rw [← hv]; exact h.c1
    | 2, hv => rw [← hv]; exact h.c2
    | 3, hv => rw [← hv]; exact h.c3
    | 4, hv => rw [← hv]; exact h.c4
    | 5, hv => rw [← hv]; exact h.c5) Tryd.underlying28 rfl info_rec
theorem one_arr (o t : Int) (k b : ByteArray) (q : Int) (g : Bool) : (rarr o t k b q g).all (·.oneCell') = true := by simp [rarr, Value.oneCell']
theorem one_zero : zcells.all (·.oneCell') = true := by simp [zcells, Value.oneCell']
theorem one_sub (s : Rc) : (rcells s).toArray.all (·.oneCell') = true := by
  rw [Array.all_eq_true']
  exact fun u hu => one_cells s u (by simpa using hu)
end
section
variable {P : Program} {ops : Array Oper} {rest : List Oper} {op : Oper} {a : Act} {w : World} {K : Act → World → Prop} {Q : Exit → Act → World → Prop}
/-- A wanted load. -/
theorem wpList_load_any (hw : Region.wanted op (yielded ops a.tmps) = true) (ty : TypeId) (x : Operand) (ho : op.op = .load ty x) (b off : Nat)
    (hx : a.eval x = .pointer (some ⟨b, off, none⟩)) (V : Value) (hv : (loadVar ty ⟨b, off, none⟩).run P w = .ok V w) (h : wpList P ops Q rest (a.put op.dst V) w) : wpList P ops Q (op :: rest) a w := by
  simp only [wpList]
  rw [if_pos hw]
  exact .inl (wp_load_one ty x ho b off hx V hv h)
/-- A store of a whole row. -/
theorem wpList_store_whole (hgd : op.guard = none) (ty : TypeId) (x y : Operand) (ho : op.op = .store ty x y) (g : Nat) (cells : Array Value) (hx : a.eval x = .pointer (some ⟨g, 0, none⟩)) (hy : a.eval y = .agg cells)
    (old : Array Value) (hg : Blk w g old) (hi : (P.info? ty).map (·.size) = some cells.size) (hold : old.size = cells.size) (h1 : cells.all (·.oneCell') = true)
    (h : wpList P ops Q rest (a.put op.dst undef) (w.setRow g cells)) : wpList P ops Q (op :: rest) a w := by
  obtain ⟨T, hg⟩ := hg
  exact wpList_plain hgd fun _ hK => wp_store_row ty x y ho g cells hx hy T old hg hi hold h1 (hK _ _ h)
end
section
variable {w W : World} {g : Nat} {cs : Array Value}
theorem Blk.row (h : Blk w g cs) (ds : Array Value) : Blk (w.setRow g ds) g ds := by
  obtain ⟨T, h⟩ := h
  exact ⟨T, setRow_heap w g cs ds T _ h⟩
theorem below_row (hb : Below w.heap.size w W) (hg : w.heap.size ≤ g) (ds : Array Value) : Below w.heap.size w (W.setRow g ds) :=
  ⟨hb.os, hb.tape, hb.output, by have := hb.size; simpa using this, fun k hk => by rw [setRow_other W g k ds (by omega)]; exact hb.block k hk⟩
theorem Blk.far {p : Addr} (k : Blk W g cs) (hp : g ≠ p.block) (v : Value) : Blk (W.setCell p v) g cs := by
  obtain ⟨T, h⟩ := k
  exact ⟨T, (Below.heap_setCell W p v g hp).trans h⟩
theorem RecsAt.row {B : Nat} {A : Option Addr} {l : List Rc} (h : RecsAt W B A l) (hg : B ≤ g) (ds : Array Value) : RecsAt (W.setRow g ds) B A l :=
  h.keep fun p hp => World.cell?_of_block (setRow_other W g p.block ds (by omega))
end
/-- A record handed back. -/
theorem results_rec {fn : Func} {tmps : Array Value} {w : World} {c g : Nat} {cs : Array Value} (hr : fn.results = #[.cell c 28]) (h0 : tmps.getD c undef = .pointer (some ⟨g, 0, none⟩)) (hb : Blk w g cs) (h9 : cs.size = 6) :
    (results fn tmps).run Tryd.prog w = .ok (.agg cs) w := by
  unfold results
  rw [hr]
  simp only [List.mapM_toArray, List.mapM_cons, List.mapM_nil, h0, asAddr, Sem.run_bind, Sem.run_pure, Result.andThen_ok, bind_assoc, pure_bind, map_bind, map_pure, load_blk hb h9]
  rfl
theorem results_rec2 {fn : Func} {tmps : Array Value} {w : World} {c i g : Nat} {cs : Array Value} {u : Value} (hr : fn.results = #[.cell c 28, .tmp i]) (h0 : tmps.getD c undef = .pointer (some ⟨g, 0, none⟩)) (hb : Blk w g cs) (h9 : cs.size = 6) (h1 : tmps.getD i undef = u) :
    (results fn tmps).run Tryd.prog w = .ok (.tuple #[.agg cs, u]) w := by
  unfold results
  rw [hr]
  simp only [List.mapM_toArray, List.mapM_cons, List.mapM_nil, h0, h1, asAddr, Sem.run_bind, Sem.run_pure, Result.andThen_ok, bind_assoc, pure_bind, map_bind, map_pure, load_blk hb h9]
  rfl
theorem results_rec3 {fn : Func} {tmps : Array Value} {w : World} {c i j g : Nat} {cs : Array Value} {u v : Value} (hr : fn.results = #[.cell c 28, .tmp i, .tmp j]) (h0 : tmps.getD c undef = .pointer (some ⟨g, 0, none⟩)) (hb : Blk w g cs) (h9 : cs.size = 6) (h1 : tmps.getD i undef = u) (h2 : tmps.getD j undef = v) :
    (results fn tmps).run Tryd.prog w = .ok (.tuple #[.agg cs, u, v]) w := by
  unfold results
  rw [hr]
  simp only [List.mapM_toArray, List.mapM_cons, List.mapM_nil, h0, h1, h2, asAddr, Sem.run_bind, Sem.run_pure, Result.andThen_ok, bind_assoc, pure_bind, map_bind, map_pure, load_blk hb h9]
  rfl
end Go.Proofs.YtimoncjdfmfojaaDoor.Rcd
