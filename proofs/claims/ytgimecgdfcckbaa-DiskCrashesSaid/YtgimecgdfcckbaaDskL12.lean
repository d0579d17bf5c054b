/- Every script of appends, kept by crashes in between: the law says yes. -/
import Derived.Test.YtgimecgdfcckbaaDskLight
import Derived.Test.YtgimecgdfcckbaaDskX12
namespace Go.Proofs.Ytgimecgdfcckbaa.Dsk
open Go.RowKit Go.Lib Go.Maps

theorem light_12 (ns ts : List (List UInt8)) (xs : List Ac) (A B L : Option Addr) (n c n' c' m cl : Nat) (w : World) (hn : ns.length = n) (ht : ts.length = n') (hm : xs.length = m) (hcA : n ≤ c) (hA : Strs w w.heap.size A ns) (hB : Strs w w.heap.size B ts) (hL : ActsAt w w.heap.size L (turn 12 xs)) (hh : heavyB ns ts xs = false) :
    Calls Try.prog 32 #[.agg #[.slice A n c, .slice B n' c', .slice L m cl]] w fun e w' => e = .returned (.bool true) ∧ Below w.heap.size w w' := by
  have hl := light_turn 12 hh
  have hh' : heavyB ns ts (turn 12 xs) = false := by rw [heavy_turn]; exact hh
  have hm' : (turn 12 xs).length = m := by rw [turn_len]; exact hm
  cases hmay : mayFrom [] ns ts with
  | false => exact exact_no ns ts _ A B L n c n' c' m cl w hn ht hm' hcA hA hB hL hl.s1 hl.s2 hl.s3 (by have := hl.l1; omega) (by have := hl.l2; omega) (by have := hl.l3; omega) hh' hmay
  | true => exact exact_12 ns ts _ A B L n c n' c' m cl w hn ht hm' hcA hA hB hL hl.s1 hl.s2 hl.s3 (by have := hl.l1; omega) (by have := hl.l2; omega) (by have := hl.l3; omega) hh' hmay (fun y hy => by obtain ⟨_, _, _, _, _, _, h⟩ := turn_mem hy; exact h)

set_option maxRecDepth 100000 in
set_option maxHeartbeats 4000000 in
theorem DiskCrashes_any (ns ts : List (List UInt8)) (xs : List Ac) (A B L : Option Addr) (n c n' c' m cl : Nat) (w : World) (h : ScriptAt w ns ts xs A B L n c n' m) :
    Calls Try.prog 10 #[.agg #[.slice A n c, .slice B n' c', .slice L m cl]] w fun e w' => e = .returned (.bool true) ∧ Below w.heap.size w w' := by
  have hal := (Below.refl w.heap.size w).alloc (Nat.le_refl _) (.cells #[.slice A n c, .slice B n' c', .slice L m cl] 25)
  have HB0 := Lib.hid (Bk.new w 25 #[.slice A n c, .slice B n' c', .slice L m cl])
  have HX0 := Lib.hid hal
  have HC := Lib.hid (calls_is ns ts xs A B L n c n' c' m cl 12 _ h.hn h.ht h.hm (h.hA.on hal) (h.hB.on hal) (h.hL.on hal) h.s1 h.s2 h.s3 h.l1 h.l2 h.l3 (fun hh W L' cl' hb hL' => light_12 ns ts xs A B L' n c n' c' m cl' W h.hn h.ht h.hm h.hc ((h.hA.on hal).on hb) ((h.hB.on hal).on hb) hL' hh))
  clear hal h
  go_enter Try.func10, Try.ntmps10
  go_upto_region 1 with fail
  generalize w.alloc _ = wa at HB0 HX0 HC ⊢
  have c0 := HB0.out.cell 0
  have c1 := HB0.out.cell 1
  have c2 := HB0.out.cell 2
  simp at c0 c1 c2
  go_wp2_with fail
  refine HC.out.mono ?_
  rintro e w1 ⟨rfl, hb1⟩
  have HX1 := Lib.hid (HX0.out.trans (hb1.mono HX0.out.size))
  clear hb1 HC c0 c1 c2
  go_wp2_with fail
  go_ret
  exact ⟨rfl, HX1.out⟩
end Go.Proofs.Ytgimecgdfcckbaa.Dsk
