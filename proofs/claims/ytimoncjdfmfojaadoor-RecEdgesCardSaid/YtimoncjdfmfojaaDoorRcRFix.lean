/- The document's own answer: numbers of a few bytes, the highest first. -/
import Derived.Test.YtimoncjdfmfojaaDoorRcOr
namespace Go.Proofs.YtimoncjdfmfojaaDoor
open Go.RowKit Go.Lib Vbi

set_option maxRecDepth 100000 in
set_option maxHeartbeats 2000000 in
theorem RTakeFixed_ok (s : ByteArray) (wd : Nat) (w : World) (hs : s.size ≤ 9223372036854775807) (hw : wd ≤ 4) :
    Calls Tryd.prog 33 #[.string s, .int .i64 (wd : Int)] w (RTfOk wd s.data.toList w) := by
  by_cases hcut : s.size < wd
  · have HC := Lib.hid (tf_cut (wd := wd) (l := s.data.toList) (by rw [← Lib.size_eq]; exact hcut))
    have hcut' : (s.size : Int) < (wd : Int) := by omega
    go_enter Tryd.func33, Tryd.ntmps33
    go_wp2
    go_ret2
    exact rtf_ok HC.out.1 HC.out.2 rfl
  · have HC := Lib.hid (tf_good (wd := wd) (l := s.data.toList) (by rw [← Lib.size_eq]; omega))
    have hcut' : ¬ (s.size : Int) < (wd : Int) := by omega
    have hcd : decide ((s.size : Int) < (wd : Int)) = false := by simp; omega
    go_enter Tryd.func33, Tryd.ntmps33
    go_wp2_with fail
    go_loop [6, 7] (fun n i => ∃ (k m : Nat), k ≤ wd ∧ i = .int .i64 (k : Int) ∧ n = .int .i64 (m : Int) ∧ m < 256 ^ k ∧ fixVal (s.data.toList.take wd) = fixGo m ((s.data.toList.take wd).drop k)) (fun _ i => wd - (RowKit.intOf i).toNat)
    case atStart => exact ⟨0, 0, by omega, rfl, rfl, by simp, rfl⟩
    case round =>
      obtain ⟨k, m, hk, rfl, rfl, hm, ht⟩ := hrel
      by_cases hlt : k < wd
      · rw [take_drop_at s wd k hlt (by omega)] at ht
        have hks : k < s.size := by omega
        have hb : s[k].toNat < 256 := s[k].toNat_lt
        have hm24 := pow_lt24 hm (by omega)
        have HO := Lib.hid (i64_or8 m s[k].toNat hm24 hb)
        have HM := Lib.hid hm
        have HT := Lib.hid ht
        clear ht hm
        go_wp2_with fail
        go_round
        case rel => exact ⟨k + 1, _, by omega, by go_num, by rw [HO.out], pow_next HM.out hb, HT.out.trans (fixGo_cons _ _ _)⟩
        case measure => simp [RowKit.intOf]; omega
      · obtain rfl : k = wd := by omega
        rw [take_drop_end] at ht
        have HT := Lib.hid ht
        clear ht hm
        go_wp2_with fail
        go_ret2
        exact rtf_ok (HC.out.1.trans (by rw [HT.out]; rfl)) HC.out.2 rfl

set_option maxRecDepth 100000 in
set_option maxHeartbeats 2000000 in
theorem RFixed_ok (n wd : Nat) (w : World) (hn : n < 256 ^ wd) (hw : wd ≤ 4) :
    Calls Tryd.prog 25 #[.int .i64 (n : Int), .int .i64 (wd : Int)] w fun e w' => e = .returned (.string (strOfNums (fixZ wd n))) ∧ Below w.heap.size w w' := by
  obtain ⟨i0, hi, hz0, hz1, hz2⟩ := info_parts info_byte
  have hn32 : n < 4294967296 := by
    have : 256 ^ wd ≤ 256 ^ 4 := Nat.pow_le_pow_right (by decide) hw
    omega
  clear hn
  go_enter Tryd.func25, Tryd.ntmps25
  go_wp2_with fail
  go_loopw [5, 6] (fun v iv wr => ∃ (j : Int) (k : Nat) (zs : List Int), iv = .int .i64 j ∧ j = (k : Int) - 1 ∧ k ≤ wd ∧ fixZ wd n = zs ++ fixZ k n ∧ wr.ownsRow w.heap.size 5 1 v zs.length (zs.map (Value.int .u8)) ∧ Below w.heap.size w wr) (fun _ iv _ => (RowKit.intOf iv + 1).toNat)
  case atStart => exact ⟨_, wd, [], rfl, rfl, by omega, rfl, World.ownsRow_nil _ _ _ _, Below.refl _ _⟩
  case round =>
    obtain ⟨j, k, zs, rfl, hj, hk, hz, hown, hnx⟩ := hrel
    have h2 := hnx.size
    have hzl : zs.length ≤ 4 := by
      have := congrArg List.length hz
      rw [List.length_append, fixZ_len, fixZ_len] at this
      omega
    rcases (by omega : k = 0 ∨ k = 1 ∨ k = 2 ∨ k = 3 ∨ k = 4) with rfl | rfl | rfl | rfl | rfl
    · obtain rfl : j = -1 := by omega
      have hcv := conv_bytes hown
      have hzz : zs = fixZ wd n := by rw [hz]; show zs = zs ++ []; simp
      rw [hzz] at hcv
      clear hz hown hj hzz
      go_wp2_with fail
      go_ret
      exact ⟨rfl, hnx⟩
    · obtain rfl : j = 0 := by omega
      have HZ := Lib.hid (hz.trans (fixZ_step zs 0 n ((n : Int) % 256) (by omega)))
      clear hz hj
      go_wp2_with (at_builtin; refine wpList_append_own _ rfl _ _ 50 rfl w.heap.size 5 i0 (.int .u8 0) 1 1 Tryd.underlying50 hi hz0 hz1 hz2 rfl (by decide) _ _ _ rfl (hown.alloc _) ⟨wr.heap.size, 0, none⟩ 1 1 [.int .u8 ((n : Int) % 256)] rfl rfl ?c1 ?c2 ?c3 ?c4 ?c5 ?_)
      case c1 => exact cell_one_new _ _ _
      case c2 => intro u hu; simp at hu; subst hu; rfl
      case c3 => unfold maxLen; omega
      case c4 => omega
      case c5 => simp; omega
      intro v' w1 hown' hgrow _
      have hnx' := hnx.trans (below_alloc_grown h2 hown hgrow)
      have HO := Lib.hid (own_snoc hown')
      clear hown' hgrow hown
      go_wp2
      go_roundw
      case rel => exact ⟨-1, 0, _, rfl, rfl, by omega, HZ.out, HO.out, hnx'⟩
      case measure => simp [RowKit.intOf]
    · obtain rfl : j = 1 := by omega
      have HZ := Lib.hid (hz.trans (fixZ_step zs 1 n ((n : Int) / 256 % 256) (by omega)))
      clear hz hj
      go_wp2_with (at_builtin; refine wpList_append_own _ rfl _ _ 50 rfl w.heap.size 5 i0 (.int .u8 0) 1 1 Tryd.underlying50 hi hz0 hz1 hz2 rfl (by decide) _ _ _ rfl (hown.alloc _) ⟨wr.heap.size, 0, none⟩ 1 1 [.int .u8 ((n : Int) / 256 % 256)] rfl rfl ?c1 ?c2 ?c3 ?c4 ?c5 ?_)
      case c1 => exact cell_one_new _ _ _
      case c2 => intro u hu; simp at hu; subst hu; rfl
      case c3 => unfold maxLen; omega
      case c4 => omega
      case c5 => simp; omega
      intro v' w1 hown' hgrow _
      have hnx' := hnx.trans (below_alloc_grown h2 hown hgrow)
      have HO := Lib.hid (own_snoc hown')
      clear hown' hgrow hown
      go_wp2
      go_roundw
      case rel => exact ⟨0, 1, _, rfl, rfl, by omega, HZ.out, HO.out, hnx'⟩
      case measure => simp [RowKit.intOf]
    · obtain rfl : j = 2 := by omega
      have HZ := Lib.hid (hz.trans (fixZ_step zs 2 n ((n : Int) / 65536 % 256) (by omega)))
      clear hz hj
      go_wp2_with (at_builtin; refine wpList_append_own _ rfl _ _ 50 rfl w.heap.size 5 i0 (.int .u8 0) 1 1 Tryd.underlying50 hi hz0 hz1 hz2 rfl (by decide) _ _ _ rfl (hown.alloc _) ⟨wr.heap.size, 0, none⟩ 1 1 [.int .u8 ((n : Int) / 65536 % 256)] rfl rfl ?c1 ?c2 ?c3 ?c4 ?c5 ?_)
      case c1 => exact cell_one_new _ _ _
      case c2 => intro u hu; simp at hu; subst hu; rfl
      case c3 => unfold maxLen; omega
      case c4 => omega
      case c5 => simp; omega
      intro v' w1 hown' hgrow _
      have hnx' := hnx.trans (below_alloc_grown h2 hown hgrow)
      have HO := Lib.hid (own_snoc hown')
      clear hown' hgrow hown
      go_wp2
      go_roundw
      case rel => exact ⟨1, 2, _, rfl, rfl, by omega, HZ.out, HO.out, hnx'⟩
      case measure => simp [RowKit.intOf]
    · obtain rfl : j = 3 := by omega
      have HZ := Lib.hid (hz.trans (fixZ_step zs 3 n ((n : Int) / 16777216) (by omega)))
      clear hz hj
      go_wp2_with (at_builtin; refine wpList_append_own _ rfl _ _ 50 rfl w.heap.size 5 i0 (.int .u8 0) 1 1 Tryd.underlying50 hi hz0 hz1 hz2 rfl (by decide) _ _ _ rfl (hown.alloc _) ⟨wr.heap.size, 0, none⟩ 1 1 [.int .u8 ((n : Int) / 16777216)] rfl rfl ?c1 ?c2 ?c3 ?c4 ?c5 ?_)
      case c1 => exact cell_one_new _ _ _
      case c2 => intro u hu; simp at hu; subst hu; rfl
      case c3 => unfold maxLen; omega
      case c4 => omega
      case c5 => simp; omega
      intro v' w1 hown' hgrow _
      have hnx' := hnx.trans (below_alloc_grown h2 hown hgrow)
      have HO := Lib.hid (own_snoc hown')
      clear hown' hgrow hown
      go_wp2
      go_roundw
      case rel => exact ⟨2, 3, _, rfl, rfl, by omega, HZ.out, HO.out, hnx'⟩
      case measure => simp [RowKit.intOf]

end Go.Proofs.YtimoncjdfmfojaaDoor
