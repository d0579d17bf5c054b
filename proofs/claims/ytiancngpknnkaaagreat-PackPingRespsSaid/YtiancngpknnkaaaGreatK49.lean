/- The document's own answer on packets: the bytes of one that may be but for its length. -/
import Derived.Test.YtiancngpknnkaaaGreatK00
import Derived.Test.YtiancngpknnkaaaGreatK27
import Derived.Test.YtiancngpknnkaaaGreatK37
set_option maxRecDepth 100000
set_option maxHeartbeats 64000000
namespace Go.Proofs.YtiancngpknnkaaaGreat
open Go.RowKit Go.Lib Prp Pkt Vbi
theorem eq_no {p : Pk} {k : Int} (hk : p.kind = k) (h : k = 12 ∨ k = 13) (hp : p.ps = []) : eqP p { zp k with ps := p.ps } = fieldB p := by
 rw [Bool.eq_iff_iff]
 rcases h with rfl | rfl <;>
 ·simp [eqP, eqW, fieldB, fieldOf, b1, b3, wFilled, E, zp, zw, hk, hp]
  grind
open Go.RowKit Go.Lib Prp Pkt Vbi
theorem none_12 {k : Int} {l : List P} (hk : k = 12 ∨ k = 13) : propsB k l = decide (l = []) := by
 cases l with
 | nil => rcases hk with rfl | rfl <;> rfl
 | cons x t =>
  rw [decide_eq_false (by simp)]
  have h : goodL k [] (x :: t) = false := by
   unfold goodL goodB
   have hs : standB k x.id = false := by
    rcases hk with rfl | rfl <;> simp [standB, standL]
   simp [hs]
  unfold propsB
  rw [h]
  simp
open Go.RowKit Go.Lib Prp Pkt Vbi
theorem rest_12 (p : Pk) (a : Ad) (w : World) (hk : p.kind = 12 ∨ p.kind = 13) :
  Calls Tryz.prog 53 #[.agg (pkArr p a)] w fun e w' => e = .returned (.string ⟨#[]⟩) ∧ Below w.heap.size w w' := by
 have e1 : (p.kind == 1) = false := ne_false (by omega)
 have e2 : (p.kind == 2) = false := ne_false (by omega)
 have e3 : (p.kind == 3) = false := ne_false (by omega)
 have e4 : (p.kind == 4) = false := ne_false (by omega)
 have e5 : (p.kind == 5) = false := ne_false (by omega)
 have e6 : (p.kind == 6) = false := ne_false (by omega)
 have e7 : (p.kind == 7) = false := ne_false (by omega)
 have e14 : (p.kind == 14) = false := ne_false (by omega)
 have e15 : (p.kind == 15) = false := ne_false (by omega)
 have e8 : (p.kind == 8) = false := ne_false (by omega)
 have e10 : (p.kind == 10) = false := ne_false (by omega)
 have e9 : (p.kind == 9) = false := ne_false (by omega)
 have e11 : (p.kind == 11) = false := ne_false (by omega)
 clear hk
 have HK0 := Keep.new w 30 (pkArr p a)
 obtain ⟨W1, hW⟩ : ∃ W1, w.alloc (.cells (pkArr p a) 30) = W1 := ⟨_, rfl⟩
 rw [hW] at HK0
 unfold pkArr at hW ⊢
 have HW := Lib.hid hW
 clear hW
 go_enter Tryz.func53, Tryz.ntmps53
 go_upto_region 2 with fail
 rw [HW.out]
 generalize Value.agg _ = v0
 obtain ⟨g, hg⟩ : ∃ g, w.heap.size = g := ⟨_, rfl⟩
 rw [hg] at HK0 ⊢
 have HK := Lib.hid HK0
 clear HW HK0
 have HG := Lib.hid hg
 clear hg
 have c0 := HK.out.f0
 go_wp2_with fail
 go_ret
 exact ⟨rfl, HK.out.out.2⟩
open Go.RowKit Go.Lib Prp Pkt Vbi
theorem rest_no (p : Pk) (a : Ad) (S : ByteArray) (w : World) (hk : p.kind = 12 ∨ p.kind = 13) (hg : goodP p = true) (hS : restP p = S) :
  Calls Tryz.prog 53 #[.agg (pkArr p a)] w fun e w' => e = .returned (.string S) ∧ Below w.heap.size w w' := by
 obtain rfl : ⟨#[]⟩ = S := by rw [← hS, (parts_of p (l := []) hg (by unfold partsL; rw [if_neg (by omega), if_neg (by omega), if_neg (by omega), if_neg (by omega), if_neg (by omega), if_neg (by omega), if_neg (by omega)])).2]; rfl
 exact rest_12 p a w hk
end Go.Proofs.YtiancngpknnkaaaGreat
