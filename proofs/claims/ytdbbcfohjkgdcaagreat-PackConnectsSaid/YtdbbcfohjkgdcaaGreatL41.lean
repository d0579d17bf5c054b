/- The document's own answer: a number as two bytes. -/
import Derived.Test.YtdbbcfohjkgdcaaGreatL00
import Derived.Test.YtdbbcfohjkgdcaaGreatL37
import Derived.Test.YtdbbcfohjkgdcaaGreatL40
set_option maxRecDepth 100000
set_option maxHeartbeats 64000000
namespace Go.Proofs.YtdbbcfohjkgdcaaGreat
open Go.RowKit Go.Lib Vbi
theorem info_byte : (Tryz.prog.info? 5).map (fun i => (i.zero, i.size, i.bytes)) = some (some (.int .u8 0), 1, 1) := by kernel_rfl
theorem conv_bytes {w : World} {B : Nat} {v : Value} {zs : List Int} (h : w.ownsRow B 5 1 v zs.length (zs.map (Value.int .u8))) : (convert 68 9 v).run Tryz.prog w = .ok (.string (strOfNums zs)) w := by
 rcases h.2 with ⟨rfl, hn⟩ | ⟨g, cap, cur, rfl, _⟩
 ·have : zs = [] := List.eq_nil_of_length_eq_zero hn
  subst this
  exact run_convert_bytes_nil w 68 5 Tryz.underlying68 Tryz.underlying5 0 0 9 Tryz.underlying9
 ·refine run_convert_bytes_arg w 68 5 Tryz.underlying68 Tryz.underlying5 g 0 zs.length cap zs rfl (fun i hi => ?_) 9 Tryz.underlying9
  have := h.cells (g := g) rfl i (.int .u8 (zs.getD i 0)) (by simp [List.getElem?_eq_getElem hi])
  rw [add_new] at this
  rw [Nat.zero_add]; exact this
theorem numZ_short {n m : Nat} {zs : List Int} (hn : n < 268435456) (hm : m < 268435456) (h : numZ n = zs ++ numZ m) : zs.length ≤ 3 := by
 have h1 := congrArg List.length h
 rw [List.length_append, numZ_len hn, numZ_len hm] at h1
 have := numLen_le n
 have := numLen_le m
 omega
theorem numZ_go {n m : Nat} {zs : List Int} (h : numZ n = zs ++ numZ m) (hm : 128 ≤ m) : numZ n = (zs ++ [(m : Int) % 128 + 128]) ++ numZ (m / 128) := by
 rw [h, numZ_more hm]; simp
theorem numZ_stop {n m : Nat} {zs : List Int} (h : numZ n = zs ++ numZ m) (hm : m < 128) : zs ++ [(m : Int)] = numZ n := by
 rw [h, numZ_last hm]
theorem RNum_ok (n : Nat) (w : World) (hn : n < 268435456) :
  Calls Tryz.prog 42 #[.int .i64 (n : Int)] w fun e w' => e = .returned (.string (strOfNums (numZ n))) ∧ Below w.heap.size w w' := by
 obtain ⟨i0, hi, hz0, hz1, hz2⟩ := info_parts info_byte
 go_enter Tryz.func42, Tryz.ntmps42
 go_wp2_with fail
 go_loopw [0, 3] (fun nv v wr => ∃ (m : Nat) (zs : List Int), nv = .int .i64 (m : Int) ∧ m < 268435456 ∧ numZ n = zs ++ numZ m ∧ wr.ownsRow w.heap.size 5 1 v zs.length (zs.map (Value.int .u8)) ∧ Below w.heap.size w wr) (fun nv _ _ => (RowKit.intOf nv).toNat)
 case atStart => exact ⟨n, [], rfl, hn, rfl, World.ownsRow_nil _ _ _ _, Below.refl _ _⟩
 case round =>
  obtain ⟨m, zs, rfl, hm, hz, hown, hnx⟩ := hrel
  have h2 := hnx.size
  have hzl := numZ_short hn hm hz
  by_cases hlt : 128 ≤ m
  ·have HZ := Lib.hid (numZ_go hz hlt)
   clear hz
   go_wp2_with (at_builtin; refine wpList_append_own _ rfl _ _ 68 rfl w.heap.size 5 i0 (.int .u8 0) 1 1 Tryz.underlying68 hi hz0 hz1 hz2 rfl (by decide) _ _ _ rfl (hown.alloc _) ⟨wr.heap.size, 0, none⟩ 1 1 [.int .u8 ((m : Int) % 128 + 128)] rfl rfl ?c1 ?c2 ?c3 ?c4 ?c5 ?_)
   case c1 => exact cell_one_new _ _ _
   case c2 => intro u hu; simp at hu; subst hu; rfl
   case c3 => unfold maxLen; omega
   case c4 => omega
   case c5 => simp; omega
   intro v' w1 hown' hgrow _
   have hnx' := hnx.trans (below_alloc_grown h2 hown hgrow)
   have HO := Lib.hid (own_snoc hown')
   clear hown' hgrow hown
   go_wp2
   go_roundw
   case rel => exact ⟨m / 128, _, rfl, by omega, HZ.out, HO.out, hnx'⟩
   case measure => simp [RowKit.intOf]; omega
  ·have HZ := Lib.hid (numZ_stop hz (by omega))
   clear hz
   go_wp2_with (at_builtin; refine wpList_append_own _ rfl _ _ 68 rfl w.heap.size 5 i0 (.int .u8 0) 1 1 Tryz.underlying68 hi hz0 hz1 hz2 rfl (by decide) _ _ _ rfl (hown.alloc _) ⟨wr.heap.size, 0, none⟩ 1 1 [.int .u8 (m : Int)] rfl rfl ?c1 ?c2 ?c3 ?c4 ?c5 ?_)
   case c1 => exact cell_one_new _ _ _
   case c2 => intro u hu; simp at hu; subst hu; rfl
   case c3 => unfold maxLen; omega
   case c4 => omega
   case c5 => simp; omega
   intro v' w1 hown' hgrow _
   have hnx' := hnx.trans (below_alloc_grown h2 hown hgrow)
   have hcv := conv_bytes (own_snoc hown')
   rw [HZ.out] at hcv
   clear hown' hgrow hown HZ
   go_wp2
   go_ret
   exact ⟨rfl, hnx'⟩
theorem Num_good (n : Nat) (w : World) (hn : n < 268435456) :
  Calls Tryz.prog 32 #[.int .i64 (n : Int)] w fun e w' => e = .returned (.tuple #[.string (strOfNums (numZ n)), .int .i64 0]) ∧ Below w.heap.size w w' := by
 obtain ⟨i0, hi, hz0, hz1, hz2⟩ := info_parts info_byte
 have hd0 : decide ((n : Int) < 0) = false := by simp
 have hd1 : decide ((268435455 : Int) < (n : Int)) = false := by simp; omega
 go_enter Tryz.func32, Tryz.ntmps32
 go_wp2_with fail
 go_loopw [0, 4] (fun nv v wr => ∃ (m : Nat) (zs : List Int), nv = .int .i64 (m : Int) ∧ m < 268435456 ∧ numZ n = zs ++ numZ m ∧ wr.ownsRow w.heap.size 5 1 v zs.length (zs.map (Value.int .u8)) ∧ Below w.heap.size w wr) (fun nv _ _ => (RowKit.intOf nv).toNat)
 case atStart => exact ⟨n, [], rfl, hn, rfl, World.ownsRow_nil _ _ _ _, Below.refl _ _⟩
 case round =>
  obtain ⟨m, zs, rfl, hm, hz, hown, hnx⟩ := hrel
  have h2 := hnx.size
  have hzl := numZ_short hn hm hz
  by_cases hlt : 128 ≤ m
  ·have HZ := Lib.hid (numZ_go hz hlt)
   clear hz
   go_wp2_with (at_builtin; refine wpList_append_own _ rfl _ _ 68 rfl w.heap.size 5 i0 (.int .u8 0) 1 1 Tryz.underlying68 hi hz0 hz1 hz2 rfl (by decide) _ _ _ rfl (hown.alloc _) ⟨wr.heap.size, 0, none⟩ 1 1 [.int .u8 ((m : Int) % 128 + 128)] rfl rfl ?c1 ?c2 ?c3 ?c4 ?c5 ?_)
   case c1 => exact cell_one_new _ _ _
   case c2 => intro u hu; simp at hu; subst hu; rfl
   case c3 => unfold maxLen; omega
   case c4 => omega
   case c5 => simp; omega
   intro v' w1 hown' hgrow _
   have hnx' := hnx.trans (below_alloc_grown h2 hown hgrow)
   have HO := Lib.hid (own_snoc hown')
   clear hown' hgrow hown
   go_wp2
   go_roundw
   case rel => exact ⟨m / 128, _, rfl, by omega, HZ.out, HO.out, hnx'⟩
   case measure => simp [RowKit.intOf]; omega
  ·have HZ := Lib.hid (numZ_stop hz (by omega))
   clear hz
   go_wp2_with (at_builtin; refine wpList_append_own _ rfl _ _ 68 rfl w.heap.size 5 i0 (.int .u8 0) 1 1 Tryz.underlying68 hi hz0 hz1 hz2 rfl (by decide) _ _ _ rfl (hown.alloc _) ⟨wr.heap.size, 0, none⟩ 1 1 [.int .u8 (m : Int)] rfl rfl ?c1 ?c2 ?c3 ?c4 ?c5 ?_)
   case c1 => exact cell_one_new _ _ _
   case c2 => intro u hu; simp at hu; subst hu; rfl
   case c3 => unfold maxLen; omega
   case c4 => omega
   case c5 => simp; omega
   intro v' w1 hown' hgrow _
   have hnx' := hnx.trans (below_alloc_grown h2 hown hgrow)
   have hcv := conv_bytes (own_snoc hown')
   rw [HZ.out] at hcv
   clear hown' hgrow hown HZ
   go_wp2
   go_ret2
   exact ⟨rfl, hnx'⟩
theorem Num_bad (n : Int) (w : World) (hn : n < 0 ∨ 268435455 < n) :
  Calls Tryz.prog 32 #[.int .i64 n] w fun e w' => e = .returned (.tuple #[.string ⟨#[]⟩, .int .i64 2]) ∧ Below w.heap.size w w' := by
 by_cases h0 : n < 0
 ·have hd0 : decide (n < 0) = true := by simp; omega
  go_enter Tryz.func32, Tryz.ntmps32
  go_wp2_with fail
  go_ret2
  exact ⟨rfl, Below.refl _ _⟩
 ·have hd0 : decide (n < 0) = false := by simp; omega
  have hd1 : decide (268435455 < n) = true := by simp; omega
  go_enter Tryz.func32, Tryz.ntmps32
  go_wp2_with fail
  go_ret2
  exact ⟨rfl, Below.refl _ _⟩
theorem Num_is (n : Int) (S : ByteArray) (E : Int) (w : World) (hS : numStr n = S) (hE : numErr n = E) :
  Calls Tryz.prog 32 #[.int .i64 n] w fun e w' => e = .returned (.tuple #[.string S, .int .i64 E]) ∧ Below w.heap.size w w' := by
 subst hS hE
 rcases numErr_cases n with ⟨h0, h1, e1, e2⟩ | ⟨h0, e1, e2⟩
 ·rw [e1, e2]
  obtain ⟨m, rfl⟩ := Int.eq_ofNat_of_zero_le h0
  exact Num_good m w (by omega)
 ·rw [e1, e2]
  exact Num_bad n w h0
open Go.RowKit Go.Lib Vbi
theorem fixZ_step (zs : List Int) (k n : Nat) (x : Int) (hx : ((n / 256 ^ k % 256 : Nat) : Int) = x) : zs ++ fixZ (k + 1) n = (zs ++ [x]) ++ fixZ k n := by
 rw [← hx]
 show zs ++ (((n / 256 ^ k % 256 : Nat) : Int) :: fixZ k n) = _
 simp
theorem RFixed_ok (n wd : Nat) (w : World) (hn : n < 256 ^ wd) (hw : wd ≤ 4) :
  Calls Tryz.prog 78 #[.int .i64 (n : Int), .int .i64 (wd : Int)] w fun e w' => e = .returned (.string (strOfNums (fixZ wd n))) ∧ Below w.heap.size w w' := by
 obtain ⟨i0, hi, hz0, hz1, hz2⟩ := info_parts info_byte
 have hn32 : n < 4294967296 := by
  have : 256 ^ wd ≤ 256 ^ 4 := Nat.pow_le_pow_right (by decide) hw
  omega
 clear hn
 go_enter Tryz.func78, Tryz.ntmps78
 go_wp2_with fail
 go_loopw [5, 6] (fun v iv wr => ∃ (j : Int) (k : Nat) (zs : List Int), iv = .int .i64 j ∧ j = (k : Int) - 1 ∧ k ≤ wd ∧ fixZ wd n = zs ++ fixZ k n ∧ wr.ownsRow w.heap.size 5 1 v zs.length (zs.map (Value.int .u8)) ∧ Below w.heap.size w wr) (fun _ iv _ => (RowKit.intOf iv + 1).toNat)
 case atStart => exact ⟨_, wd, [], rfl, rfl, by omega, rfl, World.ownsRow_nil _ _ _ _, Below.refl _ _⟩
 case round =>
  obtain ⟨j, k, zs, rfl, hj, hk, hz, hown, hnx⟩ := hrel
  have h2 := hnx.size
  have hzl : zs.length ≤ 4 := by
   have := congrArg List.length hz
   rw [List.length_append, fixZ_len, fixZ_len] at this
   omega
  rcases (by omega : k = 0 ∨ k = 1 ∨ k = 2 ∨ k = 3 ∨ k = 4) with rfl | rfl | rfl | rfl | rfl
  ·obtain rfl : j = -1 := by omega
   have hcv := conv_bytes hown
   have hzz : zs = fixZ wd n := by rw [hz]; show zs = zs ++ []; simp
   rw [hzz] at hcv
   clear hz hown hj hzz
   go_wp2_with fail
   go_ret
   exact ⟨rfl, hnx⟩
  ·obtain rfl : j = 0 := by omega
   have HZ := Lib.hid (hz.trans (fixZ_step zs 0 n ((n : Int) % 256) (by omega)))
   clear hz hj
   go_wp2_with (at_builtin; refine wpList_append_own _ rfl _ _ 68 rfl w.heap.size 5 i0 (.int .u8 0) 1 1 Tryz.underlying68 hi hz0 hz1 hz2 rfl (by decide) _ _ _ rfl (hown.alloc _) ⟨wr.heap.size, 0, none⟩ 1 1 [.int .u8 ((n : Int) % 256)] rfl rfl ?c1 ?c2 ?c3 ?c4 ?c5 ?_)
   case c1 => exact cell_one_new _ _ _
   case c2 => intro u hu; simp at hu; subst hu; rfl
   case c3 => unfold maxLen; omega
   case c4 => omega
   case c5 => simp; omega
   intro v' w1 hown' hgrow _
   have hnx' := hnx.trans (below_alloc_grown h2 hown hgrow)
   have HO := Lib.hid (own_snoc hown')
   clear hown' hgrow hown
   go_wp2
   go_roundw
   case rel => exact ⟨-1, 0, _, rfl, rfl, by omega, HZ.out, HO.out, hnx'⟩
   case measure => simp [RowKit.intOf]
  ·obtain rfl : j = 1 := by omega
   have HZ := Lib.hid (hz.trans (fixZ_step zs 1 n ((n : Int) / 256 % 256) (by omega)))
   clear hz hj
   go_wp2_with (at_builtin; refine wpList_append_own _ rfl _ _ 68 rfl w.heap.size 5 i0 (.int .u8 0) 1 1 Tryz.underlying68 hi hz0 hz1 hz2 rfl (by decide) _ _ _ rfl (hown.alloc _) ⟨wr.heap.size, 0, none⟩ 1 1 [.int .u8 ((n : Int) / 256 % 256)] rfl rfl ?c1 ?c2 ?c3 ?c4 ?c5 ?_)
   case c1 => exact cell_one_new _ _ _
   case c2 => intro u hu; simp at hu; subst hu; rfl
   case c3 => unfold maxLen; omega
   case c4 => omega
   case c5 => simp; omega
   intro v' w1 hown' hgrow _
   have hnx' := hnx.trans (below_alloc_grown h2 hown hgrow)
   have HO := Lib.hid (own_snoc hown')
   clear hown' hgrow hown
   go_wp2
   go_roundw
   case rel => exact ⟨0, 1, _, rfl, rfl, by omega, HZ.out, HO.out, hnx'⟩
   case measure => simp [RowKit.intOf]
  ·obtain rfl : j = 2 := by omega
   have HZ := Lib.hid (hz.trans (fixZ_step zs 2 n ((n : Int) / 65536 % 256) (by omega)))
   clear hz hj
   go_wp2_with (at_builtin; refine wpList_append_own _ rfl _ _ 68 rfl w.heap.size 5 i0 (.int .u8 0) 1 1 Tryz.underlying68 hi hz0 hz1 hz2 rfl (by decide) _ _ _ rfl (hown.alloc _) ⟨wr.heap.size, 0, none⟩ 1 1 [.int .u8 ((n : Int) / 65536 % 256)] rfl rfl ?c1 ?c2 ?c3 ?c4 ?c5 ?_)
   case c1 => exact cell_one_new _ _ _
   case c2 => intro u hu; simp at hu; subst hu; rfl
   case c3 => unfold maxLen; omega
   case c4 => omega
   case c5 => simp; omega
   intro v' w1 hown' hgrow _
   have hnx' := hnx.trans (below_alloc_grown h2 hown hgrow)
   have HO := Lib.hid (own_snoc hown')
   clear hown' hgrow hown
   go_wp2
   go_roundw
   case rel => exact ⟨1, 2, _, rfl, rfl, by omega, HZ.out, HO.out, hnx'⟩
   case measure => simp [RowKit.intOf]
  ·obtain rfl : j = 3 := by omega
   have HZ := Lib.hid (hz.trans (fixZ_step zs 3 n ((n : Int) / 16777216) (by omega)))
   clear hz hj
   go_wp2_with (at_builtin; refine wpList_append_own _ rfl _ _ 68 rfl w.heap.size 5 i0 (.int .u8 0) 1 1 Tryz.underlying68 hi hz0 hz1 hz2 rfl (by decide) _ _ _ rfl (hown.alloc _) ⟨wr.heap.size, 0, none⟩ 1 1 [.int .u8 ((n : Int) / 16777216)] rfl rfl ?c1 ?c2 ?c3 ?c4 ?c5 ?_)
   case c1 => exact cell_one_new _ _ _
   case c2 => intro u hu; simp at hu; subst hu; rfl
   case c3 => unfold maxLen; omega
   case c4 => omega
   case c5 => simp; omega
   intro v' w1 hown' hgrow _
   have hnx' := hnx.trans (below_alloc_grown h2 hown hgrow)
   have HO := Lib.hid (own_snoc hown')
   clear hown' hgrow hown
   go_wp2
   go_roundw
   case rel => exact ⟨2, 3, _, rfl, rfl, by omega, HZ.out, HO.out, hnx'⟩
   case measure => simp [RowKit.intOf]
theorem make_2 (w : World) : (Instr.makeSlice 68 (.int .i64 2) (.int .i64 2)).run Tryz.prog w = .ok (.slice (some ⟨w.heap.size, 0, none⟩) 2 2) (w.alloc (.cells #[.int .u8 0, .int .u8 0] 5)) := by kernel_rfl
theorem fixZ_2 (n : Nat) (hn : n < 65536) : fixZ 2 n = [(n : Int) / 256, (n : Int) % 256] := by
 unfold fixZ fixZ fixZ
 simp only [Nat.pow_zero, Nat.pow_one, Nat.div_one]
 congr 1
 omega
theorem fixed2 (n : Nat) (w : World) (hn : n < 65536) :
  Calls Tryz.prog 109 #[.int .i64 (n : Int), .int .i64 2] w fun e w' => e = .returned (.tuple #[.string (strOfNums (fixZ 2 n)), .int .i64 0]) ∧ Below w.heap.size w w' := by
 have hd0 : decide ((n : Int) < 0) = false := by simp
 have hd1 : decide (0 < (n : Int) / 65536) = false := by simp; omega
 have hmk := make_2
 have HF := Lib.hid (fixZ_2 n hn)
 go_enter Tryz.func109, Tryz.ntmps109
 go_wp2_with fail
 go_loopw [21] (fun iv wr => ∃ (k a0 a1 : Int), iv = .int .i64 k ∧ ((k = 0 ∧ a0 = 0 ∧ a1 = 0) ∨ (k = 1 ∧ a0 = 0 ∧ a1 = (n : Int) % 256) ∨ (k = 2 ∧ a0 = (n : Int) / 256 ∧ a1 = (n : Int) % 256)) ∧ wr = w.alloc (.cells #[.int .u8 a0, .int .u8 a1] 5)) (fun iv _ => (2 - RowKit.intOf iv).toNat)
 case atStart => exact ⟨0, 0, 0, rfl, .inl ⟨rfl, rfl, rfl⟩, rfl⟩
 case round =>
  obtain ⟨k, a0, a1, rfl, hk, rfl⟩ := hrel
  rcases hk with ⟨rfl, rfl, rfl⟩ | ⟨rfl, rfl, rfl⟩ | ⟨rfl, rfl, rfl⟩
  ·go_wp2_with fail
   go_roundw
   case rel => exact ⟨1, _, _, rfl, (.inr (.inl ⟨rfl, rfl, rfl⟩)), rfl⟩
   case measure => simp [RowKit.intOf]
  ·go_wp2_with fail
   go_roundw
   case rel => exact ⟨2, _, _, rfl, (.inr (.inr ⟨rfl, rfl, rfl⟩)), rfl⟩
   case measure => simp [RowKit.intOf]
  ·have hcv : (convert 68 9 (.slice (some ⟨w.heap.size, 0, none⟩) 2 2)).run Tryz.prog (w.alloc (.cells #[.int .u8 ((n : Int) / 256), .int .u8 ((n : Int) % 256)] 5)) = .ok (.string (strOfNums (fixZ 2 n))) (w.alloc (.cells #[.int .u8 ((n : Int) / 256), .int .u8 ((n : Int) % 256)] 5)) := by
    have hl := lit_nums w #[.int .u8 ((n : Int) / 256), .int .u8 ((n : Int) % 256)] (fixZ 2 n) .u8 5 (by rw [HF.out]; rfl)
    obtain ⟨a, ha, _, hc⟩ := hl.some_ (by rw [fixZ_len]; omega)
    injection ha with ha
    subst ha
    exact run_convert_bytes_arg _ 68 5 Tryz.underlying68 Tryz.underlying5 w.heap.size 0 2 2 (fixZ 2 n) (fixZ_len _ _) (fun i hi => by
     have := hc i (by rw [fixZ_len]; exact hi)
     rw [add_new] at this
     rw [Nat.zero_add]; exact this) 9 Tryz.underlying9
   go_wp2_with fail
   go_ret2
   exact ⟨rfl, (Below.refl _ _).alloc (Nat.le_refl _) _⟩
theorem make_4 (w : World) : (Instr.makeSlice 68 (.int .i64 4) (.int .i64 4)).run Tryz.prog w = .ok (.slice (some ⟨w.heap.size, 0, none⟩) 4 4) (w.alloc (.cells #[.int .u8 0, .int .u8 0, .int .u8 0, .int .u8 0] 5)) := by kernel_rfl
theorem fixZ_4 (n : Nat) (hn : n < 4294967296) : fixZ 4 n = [(n : Int) / 16777216, (n : Int) / 65536 % 256, (n : Int) / 256 % 256, (n : Int) % 256] := by
 unfold fixZ fixZ fixZ fixZ fixZ
 simp only [Nat.reducePow, Nat.pow_zero, Nat.pow_one, Nat.div_one]
 congr 1
 omega
theorem fixed4 (n : Nat) (w : World) (hn : n < 4294967296) :
  Calls Tryz.prog 109 #[.int .i64 (n : Int), .int .i64 4] w fun e w' => e = .returned (.tuple #[.string (strOfNums (fixZ 4 n)), .int .i64 0]) ∧ Below w.heap.size w w' := by
 have hd0 : decide ((n : Int) < 0) = false := by simp
 have hd1 : decide (0 < (n : Int) / 4294967296) = false := by simp; omega
 have hmk := make_4
 have HF := Lib.hid (fixZ_4 n hn)
 go_enter Tryz.func109, Tryz.ntmps109
 go_wp2_with fail
 go_loopw [21] (fun iv wr => ∃ (k a0 a1 a2 a3 : Int), iv = .int .i64 k ∧ ((k = 0 ∧ a0 = 0 ∧ a1 = 0 ∧ a2 = 0 ∧ a3 = 0) ∨ (k = 1 ∧ a0 = 0 ∧ a1 = 0 ∧ a2 = 0 ∧ a3 = (n : Int) % 256) ∨ (k = 2 ∧ a0 = 0 ∧ a1 = 0 ∧ a2 = (n : Int) / 256 % 256 ∧ a3 = (n : Int) % 256) ∨ (k = 3 ∧ a0 = 0 ∧ a1 = (n : Int) / 65536 % 256 ∧ a2 = (n : Int) / 256 % 256 ∧ a3 = (n : Int) % 256) ∨ (k = 4 ∧ a0 = (n : Int) / 16777216 ∧ a1 = (n : Int) / 65536 % 256 ∧ a2 = (n : Int) / 256 % 256 ∧ a3 = (n : Int) % 256)) ∧ wr = w.alloc (.cells #[.int .u8 a0, .int .u8 a1, .int .u8 a2, .int .u8 a3] 5)) (fun iv _ => (4 - RowKit.intOf iv).toNat)
 case atStart => exact ⟨0, 0, 0, 0, 0, rfl, .inl ⟨rfl, rfl, rfl, rfl, rfl⟩, rfl⟩
 case round =>
  obtain ⟨k, a0, a1, a2, a3, rfl, hk, rfl⟩ := hrel
  rcases hk with ⟨rfl, rfl, rfl, rfl, rfl⟩ | ⟨rfl, rfl, rfl, rfl, rfl⟩ | ⟨rfl, rfl, rfl, rfl, rfl⟩ | ⟨rfl, rfl, rfl, rfl, rfl⟩ | ⟨rfl, rfl, rfl, rfl, rfl⟩
  ·go_wp2_with fail
   go_roundw
   case rel => exact ⟨1, _, _, _, _, rfl, (.inr (.inl ⟨rfl, rfl, rfl, rfl, rfl⟩)), rfl⟩
   case measure => simp [RowKit.intOf]
  ·go_wp2_with fail
   go_roundw
   case rel => exact ⟨2, _, _, _, _, rfl, (.inr (.inr (.inl ⟨rfl, rfl, rfl, rfl, rfl⟩))), rfl⟩
   case measure => simp [RowKit.intOf]
  ·go_wp2_with fail
   go_roundw
   case rel => exact ⟨3, _, _, _, _, rfl, (.inr (.inr (.inr (.inl ⟨rfl, rfl, rfl, rfl, rfl⟩)))), rfl⟩
   case measure => simp [RowKit.intOf]
  ·go_wp2_with fail
   go_roundw
   case rel => exact ⟨4, _, _, _, _, rfl, (.inr (.inr (.inr (.inr ⟨rfl, rfl, rfl, rfl, rfl⟩)))), rfl⟩
   case measure => simp [RowKit.intOf]
  ·have hcv : (convert 68 9 (.slice (some ⟨w.heap.size, 0, none⟩) 4 4)).run Tryz.prog (w.alloc (.cells #[.int .u8 ((n : Int) / 16777216), .int .u8 ((n : Int) / 65536 % 256), .int .u8 ((n : Int) / 256 % 256), .int .u8 ((n : Int) % 256)] 5)) = .ok (.string (strOfNums (fixZ 4 n))) (w.alloc (.cells #[.int .u8 ((n : Int) / 16777216), .int .u8 ((n : Int) / 65536 % 256), .int .u8 ((n : Int) / 256 % 256), .int .u8 ((n : Int) % 256)] 5)) := by
    have hl := lit_nums w #[.int .u8 ((n : Int) / 16777216), .int .u8 ((n : Int) / 65536 % 256), .int .u8 ((n : Int) / 256 % 256), .int .u8 ((n : Int) % 256)] (fixZ 4 n) .u8 5 (by rw [HF.out]; rfl)
    obtain ⟨a, ha, _, hc⟩ := hl.some_ (by rw [fixZ_len]; omega)
    injection ha with ha
    subst ha
    exact run_convert_bytes_arg _ 68 5 Tryz.underlying68 Tryz.underlying5 w.heap.size 0 4 4 (fixZ 4 n) (fixZ_len _ _) (fun i hi => by
     have := hc i (by rw [fixZ_len]; exact hi)
     rw [add_new] at this
     rw [Nat.zero_add]; exact this) 9 Tryz.underlying9
   go_wp2_with fail
   go_ret2
   exact ⟨rfl, (Below.refl _ _).alloc (Nat.le_refl _) _⟩
theorem fixed_bad (n : Int) (wd : Int) (w : World) (hn : (n < 0 ∧ 0 ≤ wd ∧ wd ≤ 4) ∨ (65536 ≤ n ∧ n ≤ 9223372036854775807 ∧ wd = 2) ∨ (4294967296 ≤ n ∧ n ≤ 9223372036854775807 ∧ wd = 4)) :
  Calls Tryz.prog 109 #[.int .i64 n, .int .i64 wd] w fun e w' => e = .returned (.tuple #[.string ⟨#[]⟩, .int .i64 2]) ∧ Below w.heap.size w w' := by
 rcases hn with ⟨h, h1, h2⟩ | ⟨h, h1, rfl⟩ | ⟨h, h1, rfl⟩
 ·have hd0 : decide (n < 0) = true := by simp; omega
  go_enter Tryz.func109, Tryz.ntmps109
  go_wp2_with fail
  go_ret2
  exact ⟨rfl, Below.refl _ _⟩
 ·have hd0 : decide (n < 0) = false := by simp; omega
  have hd1 : decide (0 < n / 65536) = true := by simp; omega
  go_enter Tryz.func109, Tryz.ntmps109
  go_wp2_with fail
  go_ret2
  exact ⟨rfl, Below.refl _ _⟩
 ·have hd0 : decide (n < 0) = false := by simp; omega
  have hd1 : decide (0 < n / 4294967296) = true := by simp; omega
  go_enter Tryz.func109, Tryz.ntmps109
  go_wp2_with fail
  go_ret2
  exact ⟨rfl, Below.refl _ _⟩
theorem Two_fixed (n : Int) (S : ByteArray) (E : Int) (w : World) (h1 : n ≤ 9223372036854775807) (hS : fixStr 2 n = S) (hE : fixErr 2 n = E) :
  Calls Tryz.prog 109 #[.int .i64 n, .int .i64 2] w fun e w' => e = .returned (.tuple #[.string S, .int .i64 E]) ∧ Below w.heap.size w w' := by
 subst hS hE
 rcases fix_cases 2 n with ⟨h0, h1, e1, e2⟩ | ⟨h0, e1, e2⟩
 ·rw [e1, e2]
  obtain ⟨m, rfl⟩ := Int.eq_ofNat_of_zero_le h0
  exact fixed2 m w (by omega)
 ·rw [e1, e2]
  exact fixed_bad n 2 w (by omega)
theorem Two_is (n : Int) (S : ByteArray) (E : Int) (w : World) (h1 : n ≤ 9223372036854775807) (hS : fixStr 2 n = S) (hE : fixErr 2 n = E) :
  Calls Tryz.prog 90 #[.int .i64 n] w fun e w' => e = .returned (.tuple #[.string S, .int .i64 E]) ∧ Below w.heap.size w w' := by
 have HF := Lib.hid (fun W => Two_fixed n S E W h1 hS hE)
 clear hS hE
 go_enter Tryz.func90, Tryz.ntmps90
 go_wp2_with fail
 refine (HF.out _).mono ?_
 rintro e w1 ⟨rfl, hb⟩
 go_wp2_with fail
 go_ret2
 exact ⟨rfl, hb⟩
theorem Four_fixed (n : Int) (S : ByteArray) (E : Int) (w : World) (h1 : n ≤ 9223372036854775807) (hS : fixStr 4 n = S) (hE : fixErr 4 n = E) :
  Calls Tryz.prog 109 #[.int .i64 n, .int .i64 4] w fun e w' => e = .returned (.tuple #[.string S, .int .i64 E]) ∧ Below w.heap.size w w' := by
 subst hS hE
 rcases fix_cases 4 n with ⟨h0, h1, e1, e2⟩ | ⟨h0, e1, e2⟩
 ·rw [e1, e2]
  obtain ⟨m, rfl⟩ := Int.eq_ofNat_of_zero_le h0
  exact fixed4 m w (by omega)
 ·rw [e1, e2]
  exact fixed_bad n 4 w (by omega)
theorem Four_is (n : Int) (S : ByteArray) (E : Int) (w : World) (h1 : n ≤ 9223372036854775807) (hS : fixStr 4 n = S) (hE : fixErr 4 n = E) :
  Calls Tryz.prog 160 #[.int .i64 n] w fun e w' => e = .returned (.tuple #[.string S, .int .i64 E]) ∧ Below w.heap.size w w' := by
 have HF := Lib.hid (fun W => Four_fixed n S E W h1 hS hE)
 clear hS hE
 go_enter Tryz.func160, Tryz.ntmps160
 go_wp2_with fail
 refine (HF.out _).mono ?_
 rintro e w1 ⟨rfl, hb⟩
 go_wp2_with fail
 go_ret2
 exact ⟨rfl, hb⟩
open Go.RowKit Go.Lib Vbi Txt
def binStr (s : ByteArray) : ByteArray := if 1024 < s.size then ⟨#[]⟩ else strOfNums (fixZ 2 s.size) ++ s
theorem fix2_of (n : Nat) (h : n < 65536) : fixStr 2 (n : Int) = strOfNums (fixZ 2 n) ∧ fixErr 2 (n : Int) = 0 := by
 rcases fix_cases 2 (n : Int) with ⟨_, _, e1, e2⟩ | ⟨h0, _⟩
 ·exact ⟨e2, e1⟩
 ·omega
theorem Bin_good (s S : ByteArray) (w : World) (hs : s.size ≤ 1024) (hS : strOfNums (fixZ 2 s.size) ++ s = S) :
  Calls Tryz.prog 93 #[.string s] w fun e w' => e = .returned (.tuple #[.string S, .int .i64 0]) ∧ Below w.heap.size w w' := by
 subst hS
 have H2 := Lib.hid (fun W => Two_is (s.size : Int) _ _ W (by omega) (fix2_of s.size (by omega)).1 (fix2_of s.size (by omega)).2)
 obtain ⟨T, hT⟩ : ∃ T, T = strOfNums (fixZ 2 s.size) := ⟨_, rfl⟩
 have hz : T.size ≤ 2 := by rw [hT, fix2_size]; omega
 rw [← hT] at H2
 rw [← hT]
 clear hT
 have hd : decide (1024 < (s.size : Int)) = false := by simp; omega
 go_enter Tryz.func93, Tryz.ntmps93
 go_wp2_with fail
 refine (H2.out _).mono ?_
 rintro e w1 ⟨rfl, hb⟩
 go_wp2_with fail
 go_ret2
 exact ⟨rfl, hb⟩
theorem Bin_bad (s : ByteArray) (w : World) (hs : 1024 < s.size) :
  Calls Tryz.prog 93 #[.string s] w fun e w' => e = .returned (.tuple #[.string ⟨#[]⟩, .int .i64 2]) ∧ Below w.heap.size w w' := by
 have hd : decide (1024 < (s.size : Int)) = true := by simp; omega
 go_enter Tryz.func93, Tryz.ntmps93
 go_wp2_with fail
 go_ret2
 exact ⟨rfl, Below.refl _ _⟩
theorem Bin_is (s S : ByteArray) (E : Int) (w : World) (hS : binStr s = S) (hE : binErr s = E) :
  Calls Tryz.prog 93 #[.string s] w fun e w' => e = .returned (.tuple #[.string S, .int .i64 E]) ∧ Below w.heap.size w w' := by
 subst hS hE
 unfold binStr binErr
 by_cases h : 1024 < s.size
 ·rw [if_pos h, if_pos h]; exact Bin_bad s w h
 ·rw [if_neg h, if_neg h]; exact Bin_good s _ w (by omega) rfl
open Go.RowKit Go.Lib Vbi Txt
def loStr (t : Bool) (s : ByteArray) : ByteArray := if loErr t s = 0 then strOfNums (fixZ 2 s.size) ++ s else ⟨#[]⟩
theorem lo_cases (t : Bool) (s : ByteArray) : (loErr t s = 0 ∧ s.size ≤ 1024 ∧ loStr t s = strOfNums (fixZ 2 s.size) ++ s) ∨ (loErr t s ≠ 0 ∧ loStr t s = ⟨#[]⟩) := by
 unfold loStr
 by_cases h : loErr t s = 0
 ·rw [if_pos h]; exact .inl ⟨h, loErr_zero h, rfl⟩
 ·rw [if_neg h]; exact .inr ⟨h, rfl⟩
theorem Text_is (s S : ByteArray) (E : Int) (w : World) (hm : s.size ≤ 9223372036854775807) (hS : loStr true s = S) (hE : loErr true s = E) :
  Calls Tryz.prog 92 #[.string s] w fun e w' => e = .returned (.tuple #[.string S, .int .i64 E]) ∧ Below w.heap.size w w' := by
 have he : textErr s.data.toList = E := by rw [← hE]; rfl
 have HK := Lib.hid (fun W => Check_eq s E W hm he)
 rcases lo_cases true s with ⟨h0, hl, e1⟩ | ⟨h0, e1⟩
 ·obtain rfl : 0 = E := h0.symm.trans hE
  have HB := Lib.hid (fun W => Bin_good s S W hl (e1.symm.trans hS))
  clear hS hE he h0 e1
  go_enter Tryz.func92, Tryz.ntmps92
  go_wp2_with fail
  refine (HK.out _).mono ?_
  rintro e w1 ⟨rfl, hb1⟩
  have HX := Lib.hid hb1
  clear hb1
  go_wp2_with fail
  refine (HB.out _).mono ?_
  rintro e w2 ⟨rfl, hb2⟩
  go_wp2_with fail
  go_ret2
  exact ⟨rfl, HX.out.trans (hb2.mono HX.out.size)⟩
 ·obtain rfl : ⟨#[]⟩ = S := e1.symm.trans hS
  have hne : (E != 0) = true := by rw [bne_iff_ne, ← hE]; exact h0
  clear hS hE he h0 e1
  go_enter Tryz.func92, Tryz.ntmps92
  go_wp2_with fail
  refine (HK.out _).mono ?_
  rintro e w1 ⟨rfl, hb1⟩
  have HX := Lib.hid hb1
  clear hb1
  go_wp2_with fail
  go_ret2
  exact ⟨rfl, HX.out⟩
open Go.RowKit Go.Lib Vbi Txt
theorem RFixed_two (n : Nat) (S : ByteArray) (w : World) (hn : n < 65536) (hS : strOfNums (fixZ 2 n) = S) :
  Calls Tryz.prog 78 #[.int .i64 (n : Int), .int .i64 2] w fun e w' => e = .returned (.string S) ∧ Below w.heap.size w w' := by
 rw [← hS]; exact RFixed_ok n 2 w (by omega) (by omega)
end Go.Proofs.YtdbbcfohjkgdcaaGreat
