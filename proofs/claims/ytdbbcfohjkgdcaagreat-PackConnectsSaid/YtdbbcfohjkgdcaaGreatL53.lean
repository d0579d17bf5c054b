/- A store as an operation that yields nothing: the frame stays as it is. -/
import Derived.Test.YtdbbcfohjkgdcaaGreatL00
import Derived.Test.YtdbbcfohjkgdcaaGreatL52
set_option maxRecDepth 100000
set_option maxHeartbeats 64000000
namespace Go.Proofs.YtdbbcfohjkgdcaaGreat
open Go.RowKit Go.Lib Prp Pkt
theorem wp_store_none {P : Program} {o : Oper} {a : Act} {w w' : World} {K : Act → World → Prop} {Q : Exit → Act → World → Prop} (ty : TypeId) (x y : Operand) (ho : o.op = .store ty x y) (hd : o.dst = none) (p V : Value)
  (hx : a.eval x = p) (hy : a.eval y = V) (hr : (Instr.storeAt ty p V).run P w = .ok () w') (h : K a w') : Oper.wp P o a w K Q := by
 refine wp_store_one ty x y ho p V hx hy hr ?_
 rw [hd]
 exact h
theorem wp_store_mid_none {P : Program} {op : Oper} {a : Act} {w : World} {K : Act → World → Prop} {Q : Exit → Act → World → Prop} (ty : TypeId) (x y : Operand) (ho : op.op = .store ty x y) (hd : op.dst = none)
  (b o : Nat) (cells : Array Value) (hx : a.eval x = .pointer (some ⟨b, o, none⟩)) (hy : a.eval y = .agg cells)
  (ht : w.there b o cells.size) (hi : (P.info? ty).map (·.size) = some cells.size) (h1 : cells.all (·.oneCell') = true)
  (h : K a (w.setCells b o cells.toList)) : op.wp P a w K Q := by
 refine wp_store_mid ty x y ho b o cells hx hy ht hi h1 ?_
 rw [hd]
 exact h
end Go.Proofs.YtdbbcfohjkgdcaaGreat
