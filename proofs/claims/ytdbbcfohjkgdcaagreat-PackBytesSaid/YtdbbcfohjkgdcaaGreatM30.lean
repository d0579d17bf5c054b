/- The document's own: all behind a packet's length: a code put behind codes, in a region that draws its order. -/
import Derived.Test.YtdbbcfohjkgdcaaGreatM00
import Derived.Test.YtdbbcfohjkgdcaaGreatM18
set_option maxRecDepth 100000
set_option maxHeartbeats 64000000
namespace Go.Proofs.YtdbbcfohjkgdcaaGreat
open Go.RowKit Go.Lib Prp Pkt Vbi
structure Bar2 (g h : Nat) (w w' : World) : Prop where
 os : w'.os = w.os
 tape : w'.tape = w.tape
 output : w'.output = w.output
 size : w.heap.size ≤ w'.heap.size
 block : ∀ k, k < w.heap.size → k ≠ g → k ≠ h → w'.heap[k]? = w.heap[k]?
section
variable {g h B : Nat} {w w' w'' : World} {A : Option Addr}
theorem Bar2.refl (g h : Nat) (w : World) : Bar2 g h w w := ⟨rfl, rfl, rfl, Nat.le_refl _, fun _ _ _ _ => rfl⟩
theorem Bar2.bar (k : Bar2 g h w w') (b : Bar g w' w'') : Bar2 g h w w'' :=
 ⟨b.os.trans k.os, b.tape.trans k.tape, b.output.trans k.output, Nat.le_trans k.size b.size, fun i hi h1 h2 => (b.block i (Nat.lt_of_lt_of_le hi k.size) h1).trans (k.block i hi h1 h2)⟩
theorem Bar2.bar' (k : Bar2 g h w w') (b : Bar h w' w'') : Bar2 g h w w'' :=
 ⟨b.os.trans k.os, b.tape.trans k.tape, b.output.trans k.output, Nat.le_trans k.size b.size, fun i hi h1 h2 => (b.block i (Nat.lt_of_lt_of_le hi k.size) h2).trans (k.block i hi h1 h2)⟩
theorem Bar2.then_ (k : Bar2 g h w w') (b : Below w.heap.size w' w'') : Bar2 g h w w'' :=
 ⟨b.os.trans k.os, b.tape.trans k.tape, b.output.trans k.output, Nat.le_trans k.size b.size, fun i hi h1 h2 => (b.block i hi).trans (k.block i hi h1 h2)⟩
theorem Bar2.cell (k : Bar2 g h w w') {b i : Nat} (hb : b < w.heap.size) (h1 : b ≠ g) (h2 : b ≠ h) : w'.cell? ⟨b, i, none⟩ = w.cell? ⟨b, i, none⟩ := World.cell?_of_block (k.block b hb h1 h2)
end
theorem own_far {w : World} {B e sz n g i : Nat} {v u : Value} {xs : List Value} (k : w.ownsRow B e sz v n xs) (hg : g < B) : (w.setCell ⟨g, i, none⟩ u).ownsRow B e sz v n xs := own_bar k (Bar.set g w i u) hg
@[irreducible] def CodesIn (B : Nat) (w0 : World) (g h : Nat) (st0 : St) (p : Pk) (a : Ad) (W5 : World) (l : List Int) (A : Option Addr) (c : Nat) (sc : St) (W : World) : Prop :=
 Live false B w0 g h st0 p a W5 ∧ RdOf false W g sc ∧ Box W h (pkArr { p with cs := l } { a with ca := A, cc := c }) ∧ W.ownsRow W5.heap.size 3 1 (.slice A l.length c) l.length (l.map (Value.int .i64)) ∧ Bar2 g h W5 W
section
variable {B : Nat} {w0 : World} {g h : Nat} {st0 sc sc' : St} {p : Pk} {a : Ad} {W5 W W' : World} {l : List Int} {A : Option Addr} {c : Nat}
theorem CodesIn.mk (k : Live false B w0 g h st0 p a W5 ∧ RdOf false W g sc ∧ Box W h (pkArr { p with cs := l } { a with ca := A, cc := c }) ∧ W.ownsRow W5.heap.size 3 1 (.slice A l.length c) l.length (l.map (Value.int .i64)) ∧ Bar2 g h W5 W) : CodesIn B w0 g h st0 p a W5 l A c sc W := by unfold CodesIn; exact k
theorem CodesIn.out (k : CodesIn B w0 g h st0 p a W5 l A c sc W) : Live false B w0 g h st0 p a W5 ∧ RdOf false W g sc ∧ Box W h (pkArr { p with cs := l } { a with ca := A, cc := c }) ∧ W.ownsRow W5.heap.size 3 1 (.slice A l.length c) l.length (l.map (Value.int .i64)) ∧ Bar2 g h W5 W := by unfold CodesIn at k; exact k
theorem CodesIn.gl (k : CodesIn B w0 g h st0 p a W5 l A c sc W) : g < W5.heap.size ∧ h < W5.heap.size ∧ g ≠ h := ⟨k.out.1.rd.lt, k.out.1.bx.lt, k.out.1.out.2.2.2.1⟩
theorem CodesIn.rd (k : CodesIn B w0 g h st0 p a W5 l A c sc W) : RdOf false W g sc := k.out.2.1
theorem CodesIn.f9 (k : CodesIn B w0 g h st0 p a W5 l A c sc W) : W.cell? ⟨h, 9, none⟩ = some (.slice A l.length c) := k.out.2.2.1.cell 9
theorem CodesIn.f0 (k : CodesIn B w0 g h st0 p a W5 l A c sc W) : W.cell? ⟨h, 0, none⟩ = some (.int .i64 p.kind) := k.out.2.2.1.cell 0
theorem CodesIn.frozen (k : CodesIn B w0 g h st0 p a W5 l A c sc W) (i : Nat) : W.frozen? ⟨h, i, none⟩ = false := k.out.2.2.1.frozen i
theorem CodesIn.size (k : CodesIn B w0 g h st0 p a W5 l A c sc W) : W5.heap.size ≤ W.heap.size := k.out.2.2.2.2.size
theorem CodesIn.bar (k : CodesIn B w0 g h st0 p a W5 l A c sc W) (hb : Bar g W W') (hr : RdOf false W' g sc') : CodesIn B w0 g h st0 p a W5 l A c sc' W' := by
 obtain ⟨k1, k2, k3, k4, k5⟩ := k.out
 exact .mk ⟨k1, hr, hb.box k3 k.gl.2.2.symm, own_bar k4 hb k.gl.1, k5.bar hb⟩
theorem CodesIn.below (k : CodesIn B w0 g h st0 p a W5 l A c sc W) (hb : Below W.heap.size W W') : CodesIn B w0 g h st0 p a W5 l A c sc W' := k.bar (.of g hb) (k.rd.below hb)
theorem CodesIn.drewN (k : CodesIn B w0 g h st0 p a W5 l A c sc W) (n : Nat) : CodesIn B w0 g h st0 p a W5 l A c sc (W.drewN n) := k.below (below_drewN (Below.refl _ _) n)
theorem CodesIn.alloc (k : CodesIn B w0 g h st0 p a W5 l A c sc W) (o : Obj) : CodesIn B w0 g h st0 p a W5 l A c sc (W.alloc o) := k.below ((Below.refl _ _).alloc (Nat.le_refl _) o)
theorem CodesIn.more (k : CodesIn B w0 g h st0 p a W5 l A c sc W) {l' : List Int} {A' : Option Addr} {c' : Nat} (hb : Below W5.heap.size W W') (ho : W'.ownsRow W5.heap.size 3 1 (.slice A' l'.length c') l'.length (l'.map (Value.int .i64))) :
  CodesIn B w0 g h st0 p a W5 l' A' c' sc (W'.setCell ⟨h, 9, none⟩ (.slice A' l'.length c')) := by
 obtain ⟨k1, k2, k3, k4, k5⟩ := k.out
 obtain ⟨g1, g2, g3⟩ := k.gl
 refine .mk ⟨k1, (k2.then_ hb g1).map fun _ _ r => Box.far r g3 _, ?_, own_far ho g2, (k5.then_ hb).bar' (Bar.set h _ 9 _)⟩
 have hbx : Box W' h (pkArr { p with cs := l } { a with ca := A, cc := c }) := by
  obtain ⟨T, hT⟩ := k3
  exact ⟨T, (hb.block h g2).trans hT⟩
 exact hbx.put 9 _
end
open Go.RowKit Go.Lib Prp Pkt Vbi
theorem wp_store_one {P : Program} {o : Oper} {a : Act} {w w' : World} {K : Act → World → Prop} {Q : Exit → Act → World → Prop} (ty : TypeId) (x y : Operand) (ho : o.op = .store ty x y) (p V : Value)
  (hx : a.eval x = p) (hy : a.eval y = V) (hr : (Instr.storeAt ty p V).run P w = .ok () w') (h : K (a.put o.dst undef) w') : Oper.wp P o a w K Q := by
 unfold Oper.wp execOp
 simp only [ho, hx, hy, Sem.run_bind, Sem.run_pure, Result.andThen_ok, hr]
 exact h
end Go.Proofs.YtdbbcfohjkgdcaaGreat
