/- Package vbi, and the document's own answer: numbers as two and as four bytes, the highest first. -/
import Derived.Test.YtiancngpknnkaaaGreatK00
import Derived.Test.YtiancngpknnkaaaGreatK03
set_option maxRecDepth 100000
set_option maxHeartbeats 64000000
namespace Go.Proofs.YtiancngpknnkaaaGreat
open Go.RowKit Go.Lib Vbi
theorem fixZ_step (zs : List Int) (k n : Nat) (x : Int) (hx : ((n / 256 ^ k % 256 : Nat) : Int) = x) : zs ++ fixZ (k + 1) n = (zs ++ [x]) ++ fixZ k n := by
 rw [← hx]
 show zs ++ (((n / 256 ^ k % 256 : Nat) : Int) :: fixZ k n) = _
 simp
theorem RFixed_ok (n wd : Nat) (w : World) (hn : n < 256 ^ wd) (hw : wd ≤ 4) :
  Calls Tryz.prog 93 #[.int .i64 (n : Int), .int .i64 (wd : Int)] w fun e w' => e = .returned (.string (strOfNums (fixZ wd n))) ∧ Below w.heap.size w w' := by
 obtain ⟨i0, hi, hz0, hz1, hz2⟩ := info_parts info_byte
 have hn32 : n < 4294967296 := by
  have : 256 ^ wd ≤ 256 ^ 4 := Nat.pow_le_pow_right (by decide) hw
  omega
 clear hn
 go_enter Tryz.func93, Tryz.ntmps93
 go_wp2_with fail
 go_loopw [5, 6] (fun v iv wr => ∃ (j : Int) (k : Nat) (zs : List Int), iv = .int .i64 j ∧ j = (k : Int) - 1 ∧ k ≤ wd ∧ fixZ wd n = zs ++ fixZ k n ∧ wr.ownsRow w.heap.size 5 1 v zs.length (zs.map (Value.int .u8)) ∧ Below w.heap.size w wr) (fun _ iv _ => (RowKit.intOf iv + 1).toNat)
 case atStart => exact ⟨_, wd, [], rfl, rfl, by omega, rfl, World.ownsRow_nil _ _ _ _, Below.refl _ _⟩
 case round =>
  obtain ⟨j, k, zs, rfl, hj, hk, hz, hown, hnx⟩ := hrel
  have h2 := hnx.size
  have hzl : zs.length ≤ 4 := by
   have := congrArg List.length hz
   rw [List.length_append, fixZ_len, fixZ_len] at this
   omega
  rcases (by omega : k = 0 ∨ k = 1 ∨ k = 2 ∨ k = 3 ∨ k = 4) with rfl | rfl | rfl | rfl | rfl
  ·obtain rfl : j = -1 := by omega
   have hcv := conv_bytes hown
   have hzz : zs = fixZ wd n := by rw [hz]; show zs = zs ++ []; simp
   rw [hzz] at hcv
   clear hz hown hj hzz
   go_wp2_with fail
   go_ret
   exact ⟨rfl, hnx⟩
  ·obtain rfl : j = 0 := by omega
   have HZ := Lib.hid (hz.trans (fixZ_step zs 0 n ((n : Int) % 256) (by omega)))
   clear hz hj
   go_wp2_with (at_builtin; refine wpList_append_own _ rfl _ _ 70 rfl w.heap.size 5 i0 (.int .u8 0) 1 1 Tryz.underlying70 hi hz0 hz1 hz2 rfl (by decide) _ _ _ rfl (hown.alloc _) ⟨wr.heap.size, 0, none⟩ 1 1 [.int .u8 ((n : Int) % 256)] rfl rfl ?c1 ?c2 ?c3 ?c4 ?c5 ?_)
   case c1 => exact cell_one_new _ _ _
   case c2 => intro u hu; simp at hu; subst hu; rfl
   case c3 => unfold maxLen; omega
   case c4 => omega
   case c5 => simp; omega
   intro v' w1 hown' hgrow _
   have hnx' := hnx.trans (below_alloc_grown h2 hown hgrow)
   have HO := Lib.hid (own_snoc hown')
   clear hown' hgrow hown
   go_wp2
   go_roundw
   case rel => exact ⟨-1, 0, _, rfl, rfl, by omega, HZ.out, HO.out, hnx'⟩
   case measure => simp [RowKit.intOf]
  ·obtain rfl : j = 1 := by omega
   have HZ := Lib.hid (hz.trans (fixZ_step zs 1 n ((n : Int) / 256 % 256) (by omega)))
   clear hz hj
   go_wp2_with (at_builtin; refine wpList_append_own _ rfl _ _ 70 rfl w.heap.size 5 i0 (.int .u8 0) 1 1 Tryz.underlying70 hi hz0 hz1 hz2 rfl (by decide) _ _ _ rfl (hown.alloc _) ⟨wr.heap.size, 0, none⟩ 1 1 [.int .u8 ((n : Int) / 256 % 256)] rfl rfl ?c1 ?c2 ?c3 ?c4 ?c5 ?_)
   case c1 => exact cell_one_new _ _ _
   case c2 => intro u hu; simp at hu; subst hu; rfl
   case c3 => unfold maxLen; omega
   case c4 => omega
   case c5 => simp; omega
   intro v' w1 hown' hgrow _
   have hnx' := hnx.trans (below_alloc_grown h2 hown hgrow)
   have HO := Lib.hid (own_snoc hown')
   clear hown' hgrow hown
   go_wp2
   go_roundw
   case rel => exact ⟨0, 1, _, rfl, rfl, by omega, HZ.out, HO.out, hnx'⟩
   case measure => simp [RowKit.intOf]
  ·obtain rfl : j = 2 := by omega
   have HZ := Lib.hid (hz.trans (fixZ_step zs 2 n ((n : Int) / 65536 % 256) (by omega)))
   clear hz hj
   go_wp2_with (at_builtin; refine wpList_append_own _ rfl _ _ 70 rfl w.heap.size 5 i0 (.int .u8 0) 1 1 Tryz.underlying70 hi hz0 hz1 hz2 rfl (by decide) _ _ _ rfl (hown.alloc _) ⟨wr.heap.size, 0, none⟩ 1 1 [.int .u8 ((n : Int) / 65536 % 256)] rfl rfl ?c1 ?c2 ?c3 ?c4 ?c5 ?_)
   case c1 => exact cell_one_new _ _ _
   case c2 => intro u hu; simp at hu; subst hu; rfl
   case c3 => unfold maxLen; omega
   case c4 => omega
   case c5 => simp; omega
   intro v' w1 hown' hgrow _
   have hnx' := hnx.trans (below_alloc_grown h2 hown hgrow)
   have HO := Lib.hid (own_snoc hown')
   clear hown' hgrow hown
   go_wp2
   go_roundw
   case rel => exact ⟨1, 2, _, rfl, rfl, by omega, HZ.out, HO.out, hnx'⟩
   case measure => simp [RowKit.intOf]
  ·obtain rfl : j = 3 := by omega
   have HZ := Lib.hid (hz.trans (fixZ_step zs 3 n ((n : Int) / 16777216) (by omega)))
   clear hz hj
   go_wp2_with (at_builtin; refine wpList_append_own _ rfl _ _ 70 rfl w.heap.size 5 i0 (.int .u8 0) 1 1 Tryz.underlying70 hi hz0 hz1 hz2 rfl (by decide) _ _ _ rfl (hown.alloc _) ⟨wr.heap.size, 0, none⟩ 1 1 [.int .u8 ((n : Int) / 16777216)] rfl rfl ?c1 ?c2 ?c3 ?c4 ?c5 ?_)
   case c1 => exact cell_one_new _ _ _
   case c2 => intro u hu; simp at hu; subst hu; rfl
   case c3 => unfold maxLen; omega
   case c4 => omega
   case c5 => simp; omega
   intro v' w1 hown' hgrow _
   have hnx' := hnx.trans (below_alloc_grown h2 hown hgrow)
   have HO := Lib.hid (own_snoc hown')
   clear hown' hgrow hown
   go_wp2
   go_roundw
   case rel => exact ⟨2, 3, _, rfl, rfl, by omega, HZ.out, HO.out, hnx'⟩
   case measure => simp [RowKit.intOf]
end Go.Proofs.YtiancngpknnkaaaGreat
