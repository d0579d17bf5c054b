/- Wills held against each other. -/
import Derived.Test.YtiancngpknnkaaaGreatB21
set_option maxRecDepth 100000
set_option maxHeartbeats 64000000
namespace Go.Proofs.YtiancngpknnkaaaGreat
open Go.RowKit Go.Lib Prp Pkt
def eqW (x y : Wl) : Bool := decide (x.has = y.has) && (decide (x.q = y.q) && (decide (x.ret = y.ret) && (decide (x.t = y.t) && (decide (x.b = y.b) && decide (x.ps.length = y.ps.length)))))
theorem EqWill_is (x y : Wl) (A A' : Option Addr) (c c' B B' : Nat) (w : World) (hm : x.ps.length ≤ 9223372036854775807) (hl : y.ps = x.ps ∨ y.ps = []) (hB : B ≤ w.heap.size) (hB' : B' ≤ w.heap.size) (h : PropsAt w B A x.ps) (h' : PropsAt w B' A' y.ps) :
    Calls Tryz.prog 51 #[.agg (wlArr x A c), .agg (wlArr y A' c')] w fun e w' => e = .returned (.bool (eqW x y)) ∧ Below w.heap.size w w' := by
  have HC := Lib.hid (fun (o o' : Obj) => EqProps_any x.ps y.ps A A' c c' B B' ((w.alloc o).alloc o') hm hl (h.below (((Below.refl _ _).alloc hB _).alloc (Nat.le_trans hB (by simp)) _)) (h'.below (((Below.refl _ _).alloc hB' _).alloc (Nat.le_trans hB' (by simp)) _)))
  have hb := fun (n : Nat) (o o' : Obj) => below_drewN (((Below.refl w.heap.size w).alloc (Nat.le_refl _) o).alloc (by simp) o') n
  have HB := Lib.hid hb
  have hb0 := fun (o o' : Obj) => ((Below.refl w.heap.size w).alloc (Nat.le_refl _) o).alloc (by simp) o'
  have HB0 := Lib.hid hb0
  obtain ⟨r, hr⟩ : ∃ r, eqW x y = r := ⟨_, rfl⟩
  rw [hr]
  have HR := Lib.hid hr
  clear h h' hb hb0 hB hB' hm hl hr
  obtain ⟨has, q, ret, t, b, ps⟩ := x
  obtain ⟨has', q', ret', t', b', ps'⟩ := y
  unfold wlArr
  go_enter Tryz.func51, Tryz.ntmps51
  go_wp2_with (go_at_call 59; refine (HC.out _ _).mono ?_; rintro e w1 ⟨rfl, n, rfl⟩)
  all_goals (go_ret; refine ⟨?_, by first | exact HB.out _ _ _ | exact HB0.out _ _⟩; rw [← HR.out]; try simp only [toList_eq_iff] at *)
  all_goals (unfold eqW; simp [*])
end Go.Proofs.YtiancngpknnkaaaGreat
