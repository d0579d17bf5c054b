/- Texts of the proof, part 3: RcPut, RcRFix, RcLong, RcBin, RcBuild, SumStep, SumSum, RcPutBody, RcTakePart, RcBody, RcTakeBody. -/
import Derived.Test.YthhpmhibkbndhaaDoorShelf
import Derived.Shelf.Strings.Builder1
import Derived.Lib.OthersKept
import Derived.Test.YthhpmhibkbndhaaDoorProg
import Derived.Laws.BitsAllLaws
import Derived.Laws.IdiomStrings
import Derived.Test.YthhpmhibkbndhaaDoorQ02
/- Package vbi: numbers as two and as four bytes, the highest first. -/
namespace Go.Proofs.YthhpmhibkbndhaaDoor
open Go.RowKit Go.Lib Vbi

theorem make_2 (w : World) : (Instr.makeSlice 59 (.int .i64 2) (.int .i64 2)).run Tryd.prog w = .ok (.slice (some ⟨w.heap.size, 0, none⟩) 2 2) (w.alloc (.cells #[.int .u8 0, .int .u8 0] 5)) := by kernel_rfl
theorem fixZ_2 (n : Nat) (hn : n < 65536) : fixZ 2 n = [(n : Int) / 256, (n : Int) % 256] := by
  unfold fixZ fixZ fixZ
  simp only [Nat.pow_zero, Nat.pow_one, Nat.div_one]
  congr 1
  omega
set_option maxRecDepth 100000 in
set_option maxHeartbeats 2000000 in
theorem fixed2 (n : Nat) (w : World) (hn : n < 65536) :
    Calls Tryd.prog 56 #[.int .i64 (n : Int), .int .i64 2] w fun e w' => e = .returned (.tuple #[.string (strOfNums (fixZ 2 n)), .int .i64 0]) ∧ Below w.heap.size w w' := by
  have hd0 : decide ((n : Int) < 0) = false := by simp
  have hd1 : decide (0 < (n : Int) / 65536) = false := by simp; omega
  have hmk := make_2
  have HF := Lib.hid (fixZ_2 n hn)
  go_enter Tryd.func56, Tryd.ntmps56
  go_wp2_with fail
  go_loopw [21] (fun iv wr => ∃ (k a0 a1 : Int), iv = .int .i64 k ∧ ((k = 0 ∧ a0 = 0 ∧ a1 = 0) ∨ (k = 1 ∧ a0 = 0 ∧ a1 = (n : Int) % 256) ∨ (k = 2 ∧ a0 = (n : Int) / 256 ∧ a1 = (n : Int) % 256)) ∧ wr = w.alloc (.cells #[.int .u8 a0, .int .u8 a1] 5)) (fun iv _ => (2 - RowKit.intOf iv).toNat)
  case atStart => exact ⟨0, 0, 0, rfl, .inl ⟨rfl, rfl, rfl⟩, rfl⟩
  case round =>
    obtain ⟨k, a0, a1, rfl, hk, rfl⟩ := hrel
    rcases hk with ⟨rfl, rfl, rfl⟩ | ⟨rfl, rfl, rfl⟩ | ⟨rfl, rfl, rfl⟩
    · go_wp2_with fail
      go_roundw
      case rel => exact ⟨1, _, _, rfl, (.inr (.inl ⟨rfl, rfl, rfl⟩)), rfl⟩
      case measure => simp [RowKit.intOf]
    · go_wp2_with fail
      go_roundw
      case rel => exact ⟨2, _, _, rfl, (.inr (.inr ⟨rfl, rfl, rfl⟩)), rfl⟩
      case measure => simp [RowKit.intOf]
    · have hcv : (convert 59 9 (.slice (some ⟨w.heap.size, 0, none⟩) 2 2)).run Tryd.prog (w.alloc (.cells #[.int .u8 ((n : Int) / 256), .int .u8 ((n : Int) % 256)] 5)) = .ok (.string (strOfNums (fixZ 2 n))) (w.alloc (.cells #[.int .u8 ((n : Int) / 256), .int .u8 ((n : Int) % 256)] 5)) := by
        have hl := lit_nums w #[.int .u8 ((n : Int) / 256), .int .u8 ((n : Int) % 256)] (fixZ 2 n) .u8 5 (by rw [HF.out]; rfl)
        obtain ⟨a, ha, _, hc⟩ := hl.some_ (by rw [fixZ_len]; omega)
        injection ha with ha
        subst ha
        exact run_convert_bytes_arg _ 59 5 Tryd.underlying59 Tryd.underlying5 w.heap.size 0 2 2 (fixZ 2 n) (fixZ_len _ _) (fun i hi => by
          have := hc i (by rw [fixZ_len]; exact hi)
          rw [add_new] at this
          rw [Nat.zero_add]; exact this) 9 Tryd.underlying9
      go_wp2_with fail
      go_ret2
      exact ⟨rfl, (Below.refl _ _).alloc (Nat.le_refl _) _⟩
theorem make_4 (w : World) : (Instr.makeSlice 59 (.int .i64 4) (.int .i64 4)).run Tryd.prog w = .ok (.slice (some ⟨w.heap.size, 0, none⟩) 4 4) (w.alloc (.cells #[.int .u8 0, .int .u8 0, .int .u8 0, .int .u8 0] 5)) := by kernel_rfl
theorem fixZ_4 (n : Nat) (hn : n < 4294967296) : fixZ 4 n = [(n : Int) / 16777216, (n : Int) / 65536 % 256, (n : Int) / 256 % 256, (n : Int) % 256] := by
  unfold fixZ fixZ fixZ fixZ fixZ
  simp only [Nat.reducePow, Nat.pow_zero, Nat.pow_one, Nat.div_one]
  congr 1
  omega
set_option maxRecDepth 100000 in
set_option maxHeartbeats 2000000 in
theorem fixed4 (n : Nat) (w : World) (hn : n < 4294967296) :
    Calls Tryd.prog 56 #[.int .i64 (n : Int), .int .i64 4] w fun e w' => e = .returned (.tuple #[.string (strOfNums (fixZ 4 n)), .int .i64 0]) ∧ Below w.heap.size w w' := by
  have hd0 : decide ((n : Int) < 0) = false := by simp
  have hd1 : decide (0 < (n : Int) / 4294967296) = false := by simp; omega
  have hmk := make_4
  have HF := Lib.hid (fixZ_4 n hn)
  go_enter Tryd.func56, Tryd.ntmps56
  go_wp2_with fail
  go_loopw [21] (fun iv wr => ∃ (k a0 a1 a2 a3 : Int), iv = .int .i64 k ∧ ((k = 0 ∧ a0 = 0 ∧ a1 = 0 ∧ a2 = 0 ∧ a3 = 0) ∨ (k = 1 ∧ a0 = 0 ∧ a1 = 0 ∧ a2 = 0 ∧ a3 = (n : Int) % 256) ∨ (k = 2 ∧ a0 = 0 ∧ a1 = 0 ∧ a2 = (n : Int) / 256 % 256 ∧ a3 = (n : Int) % 256) ∨ (k = 3 ∧ a0 = 0 ∧ a1 = (n : Int) / 65536 % 256 ∧ a2 = (n : Int) / 256 % 256 ∧ a3 = (n : Int) % 256) ∨ (k = 4 ∧ a0 = (n : Int) / 16777216 ∧ a1 = (n : Int) / 65536 % 256 ∧ a2 = (n : Int) / 256 % 256 ∧ a3 = (n : Int) % 256)) ∧ wr = w.alloc (.cells #[.int .u8 a0, .int .u8 a1, .int .u8 a2, .int .u8 a3] 5)) (fun iv _ => (4 - RowKit.intOf iv).toNat)
  case atStart => exact ⟨0, 0, 0, 0, 0, rfl, .inl ⟨rfl, rfl, rfl, rfl, rfl⟩, rfl⟩
  case round =>
    obtain ⟨k, a0, a1, a2, a3, rfl, hk, rfl⟩ := hrel
    rcases hk with ⟨rfl, rfl, rfl, rfl, rfl⟩ | ⟨rfl, rfl, rfl, rfl, rfl⟩ | ⟨rfl, rfl, rfl, rfl, rfl⟩ | ⟨rfl, rfl, rfl, rfl, rfl⟩ | ⟨rfl, rfl, rfl, rfl, rfl⟩
    · go_wp2_with fail
      go_roundw
      case rel => exact ⟨1, _, _, _, _, rfl, (.inr (.inl ⟨rfl, rfl, rfl, rfl, rfl⟩)), rfl⟩
      case measure => simp [RowKit.intOf]
    · go_wp2_with fail
      go_roundw
      case rel => exact ⟨2, _, _, _, _, rfl, (.inr (.inr (.inl ⟨rfl, rfl, rfl, rfl, rfl⟩))), rfl⟩
      case measure => simp [RowKit.intOf]
    · go_wp2_with fail
      go_roundw
      case rel => exact ⟨3, _, _, _, _, rfl, (.inr (.inr (.inr (.inl ⟨rfl, rfl, rfl, rfl, rfl⟩)))), rfl⟩
      case measure => simp [RowKit.intOf]
    · go_wp2_with fail
      go_roundw
      case rel => exact ⟨4, _, _, _, _, rfl, (.inr (.inr (.inr (.inr ⟨rfl, rfl, rfl, rfl, rfl⟩)))), rfl⟩
      case measure => simp [RowKit.intOf]
    · have hcv : (convert 59 9 (.slice (some ⟨w.heap.size, 0, none⟩) 4 4)).run Tryd.prog (w.alloc (.cells #[.int .u8 ((n : Int) / 16777216), .int .u8 ((n : Int) / 65536 % 256), .int .u8 ((n : Int) / 256 % 256), .int .u8 ((n : Int) % 256)] 5)) = .ok (.string (strOfNums (fixZ 4 n))) (w.alloc (.cells #[.int .u8 ((n : Int) / 16777216), .int .u8 ((n : Int) / 65536 % 256), .int .u8 ((n : Int) / 256 % 256), .int .u8 ((n : Int) % 256)] 5)) := by
        have hl := lit_nums w #[.int .u8 ((n : Int) / 16777216), .int .u8 ((n : Int) / 65536 % 256), .int .u8 ((n : Int) / 256 % 256), .int .u8 ((n : Int) % 256)] (fixZ 4 n) .u8 5 (by rw [HF.out]; rfl)
        obtain ⟨a, ha, _, hc⟩ := hl.some_ (by rw [fixZ_len]; omega)
        injection ha with ha
        subst ha
        exact run_convert_bytes_arg _ 59 5 Tryd.underlying59 Tryd.underlying5 w.heap.size 0 4 4 (fixZ 4 n) (fixZ_len _ _) (fun i hi => by
          have := hc i (by rw [fixZ_len]; exact hi)
          rw [add_new] at this
          rw [Nat.zero_add]; exact this) 9 Tryd.underlying9
      go_wp2_with fail
      go_ret2
      exact ⟨rfl, (Below.refl _ _).alloc (Nat.le_refl _) _⟩

/-- A number that has no room in so many bytes. -/
theorem fixed_bad (n : Int) (wd : Int) (w : World) (hn : (n < 0 ∧ 0 ≤ wd ∧ wd ≤ 4) ∨ (65536 ≤ n ∧ n ≤ 9223372036854775807 ∧ wd = 2) ∨ (4294967296 ≤ n ∧ n ≤ 9223372036854775807 ∧ wd = 4)) :
    Calls Tryd.prog 56 #[.int .i64 n, .int .i64 wd] w fun e w' => e = .returned (.tuple #[.string ⟨#[]⟩, .int .i64 2]) ∧ Below w.heap.size w w' := by
  rcases hn with ⟨h, h1, h2⟩ | ⟨h, h1, rfl⟩ | ⟨h, h1, rfl⟩
  · have hd0 : decide (n < 0) = true := by simp; omega
    go_enter Tryd.func56, Tryd.ntmps56
    go_wp2_with fail
    go_ret2
    exact ⟨rfl, Below.refl _ _⟩
  · have hd0 : decide (n < 0) = false := by simp; omega
    have hd1 : decide (0 < n / 65536) = true := by simp; omega
    go_enter Tryd.func56, Tryd.ntmps56
    go_wp2_with fail
    go_ret2
    exact ⟨rfl, Below.refl _ _⟩
  · have hd0 : decide (n < 0) = false := by simp; omega
    have hd1 : decide (0 < n / 4294967296) = true := by simp; omega
    go_enter Tryd.func56, Tryd.ntmps56
    go_wp2_with fail
    go_ret2
    exact ⟨rfl, Below.refl _ _⟩
theorem Two_fixed (n : Int) (S : ByteArray) (E : Int) (w : World) (h1 : n ≤ 9223372036854775807) (hS : fixStr 2 n = S) (hE : fixErr 2 n = E) :
    Calls Tryd.prog 56 #[.int .i64 n, .int .i64 2] w fun e w' => e = .returned (.tuple #[.string S, .int .i64 E]) ∧ Below w.heap.size w w' := by
  subst hS hE
  rcases fix_cases 2 n with ⟨h0, h1, e1, e2⟩ | ⟨h0, e1, e2⟩
  · rw [e1, e2]
    obtain ⟨m, rfl⟩ := Int.eq_ofNat_of_zero_le h0
    exact fixed2 m w (by omega)
  · rw [e1, e2]
    exact fixed_bad n 2 w (by omega)
set_option maxHeartbeats 1000000 in
/-- vbi.Two. -/
theorem Two_is (n : Int) (S : ByteArray) (E : Int) (w : World) (h1 : n ≤ 9223372036854775807) (hS : fixStr 2 n = S) (hE : fixErr 2 n = E) :
    Calls Tryd.prog 43 #[.int .i64 n] w fun e w' => e = .returned (.tuple #[.string S, .int .i64 E]) ∧ Below w.heap.size w w' := by
  have HF := Lib.hid (fun W => Two_fixed n S E W h1 hS hE)
  clear hS hE
  go_enter Tryd.func43, Tryd.ntmps43
  go_wp2_with fail
  refine (HF.out _).mono ?_
  rintro e w1 ⟨rfl, hb⟩
  go_wp2_with fail
  go_ret2
  exact ⟨rfl, hb⟩
theorem Four_fixed (n : Int) (S : ByteArray) (E : Int) (w : World) (h1 : n ≤ 9223372036854775807) (hS : fixStr 4 n = S) (hE : fixErr 4 n = E) :
    Calls Tryd.prog 56 #[.int .i64 n, .int .i64 4] w fun e w' => e = .returned (.tuple #[.string S, .int .i64 E]) ∧ Below w.heap.size w w' := by
  subst hS hE
  rcases fix_cases 4 n with ⟨h0, h1, e1, e2⟩ | ⟨h0, e1, e2⟩
  · rw [e1, e2]
    obtain ⟨m, rfl⟩ := Int.eq_ofNat_of_zero_le h0
    exact fixed4 m w (by omega)
  · rw [e1, e2]
    exact fixed_bad n 4 w (by omega)
set_option maxHeartbeats 1000000 in
/-- vbi.Four. -/
theorem Four_is (n : Int) (S : ByteArray) (E : Int) (w : World) (h1 : n ≤ 9223372036854775807) (hS : fixStr 4 n = S) (hE : fixErr 4 n = E) :
    Calls Tryd.prog 44 #[.int .i64 n] w fun e w' => e = .returned (.tuple #[.string S, .int .i64 E]) ∧ Below w.heap.size w w' := by
  have HF := Lib.hid (fun W => Four_fixed n S E W h1 hS hE)
  clear hS hE
  go_enter Tryd.func44, Tryd.ntmps44
  go_wp2_with fail
  refine (HF.out _).mono ?_
  rintro e w1 ⟨rfl, hb⟩
  go_wp2_with fail
  go_ret2
  exact ⟨rfl, hb⟩
end Go.Proofs.YthhpmhibkbndhaaDoor
/- The document's own answer: numbers of a few bytes, the highest first. -/
namespace Go.Proofs.YthhpmhibkbndhaaDoor
open Go.RowKit Go.Lib Vbi

set_option maxRecDepth 100000 in
set_option maxHeartbeats 2000000 in
theorem RTakeFixed_ok (s : ByteArray) (wd : Nat) (w : World) (hs : s.size ≤ 9223372036854775807) (hw : wd ≤ 4) :
    Calls Tryd.prog 64 #[.string s, .int .i64 (wd : Int)] w (RTfOk wd s.data.toList w) := by
  by_cases hcut : s.size < wd
  · have HC := Lib.hid (tf_cut (wd := wd) (l := s.data.toList) (by rw [← Lib.size_eq]; exact hcut))
    have hcut' : (s.size : Int) < (wd : Int) := by omega
    go_enter Tryd.func64, Tryd.ntmps64
    go_wp2
    go_ret2
    exact rtf_ok HC.out.1 HC.out.2 rfl
  · have HC := Lib.hid (tf_good (wd := wd) (l := s.data.toList) (by rw [← Lib.size_eq]; omega))
    have hcut' : ¬ (s.size : Int) < (wd : Int) := by omega
    have hcd : decide ((s.size : Int) < (wd : Int)) = false := by simp; omega
    go_enter Tryd.func64, Tryd.ntmps64
    go_wp2_with fail
    go_loop [6, 7] (fun n i => ∃ (k m : Nat), k ≤ wd ∧ i = .int .i64 (k : Int) ∧ n = .int .i64 (m : Int) ∧ m < 256 ^ k ∧ fixVal (s.data.toList.take wd) = fixGo m ((s.data.toList.take wd).drop k)) (fun _ i => wd - (RowKit.intOf i).toNat)
    case atStart => exact ⟨0, 0, by omega, rfl, rfl, by simp, rfl⟩
    case round =>
      obtain ⟨k, m, hk, rfl, rfl, hm, ht⟩ := hrel
      by_cases hlt : k < wd
      · rw [take_drop_at s wd k hlt (by omega)] at ht
        have hks : k < s.size := by omega
        have hb : s[k].toNat < 256 := s[k].toNat_lt
        have hm24 := pow_lt24 hm (by omega)
        have HO := Lib.hid (i64_or8 m s[k].toNat hm24 hb)
        have HM := Lib.hid hm
        have HT := Lib.hid ht
        clear ht hm
        go_wp2_with fail
        go_round
        case rel => exact ⟨k + 1, _, by omega, by go_num, by rw [HO.out], pow_next HM.out hb, HT.out.trans (fixGo_cons _ _ _)⟩
        case measure => simp [RowKit.intOf]; omega
      · obtain rfl : k = wd := by omega
        rw [take_drop_end] at ht
        have HT := Lib.hid ht
        clear ht hm
        go_wp2_with fail
        go_ret2
        exact rtf_ok (HC.out.1.trans (by rw [HT.out]; rfl)) HC.out.2 rfl

set_option maxRecDepth 100000 in
set_option maxHeartbeats 2000000 in
theorem RFixed_ok (n wd : Nat) (w : World) (hn : n < 256 ^ wd) (hw : wd ≤ 4) :
    Calls Tryd.prog 37 #[.int .i64 (n : Int), .int .i64 (wd : Int)] w fun e w' => e = .returned (.string (strOfNums (fixZ wd n))) ∧ Below w.heap.size w w' := by
  obtain ⟨i0, hi, hz0, hz1, hz2⟩ := info_parts info_byte
  have hn32 : n < 4294967296 := by
    have : 256 ^ wd ≤ 256 ^ 4 := Nat.pow_le_pow_right (by decide) hw
    omega
  clear hn
  go_enter Tryd.func37, Tryd.ntmps37
  go_wp2_with fail
  go_loopw [5, 6] (fun v iv wr => ∃ (j : Int) (k : Nat) (zs : List Int), iv = .int .i64 j ∧ j = (k : Int) - 1 ∧ k ≤ wd ∧ fixZ wd n = zs ++ fixZ k n ∧ wr.ownsRow w.heap.size 5 1 v zs.length (zs.map (Value.int .u8)) ∧ Below w.heap.size w wr) (fun _ iv _ => (RowKit.intOf iv + 1).toNat)
  case atStart => exact ⟨_, wd, [], rfl, rfl, by omega, rfl, World.ownsRow_nil _ _ _ _, Below.refl _ _⟩
  case round =>
    obtain ⟨j, k, zs, rfl, hj, hk, hz, hown, hnx⟩ := hrel
    have h2 := hnx.size
    have hzl : zs.length ≤ 4 := by
      have := congrArg List.length hz
      rw [List.length_append, fixZ_len, fixZ_len] at this
      omega
    rcases (by omega : k = 0 ∨ k = 1 ∨ k = 2 ∨ k = 3 ∨ k = 4) with rfl | rfl | rfl | rfl | rfl
    · obtain rfl : j = -1 := by omega
      have hcv := conv_bytes hown
      have hzz : zs = fixZ wd n := by rw [hz]; show zs = zs ++ []; simp
      rw [hzz] at hcv
      clear hz hown hj hzz
      go_wp2_with fail
      go_ret
      exact ⟨rfl, hnx⟩
    · obtain rfl : j = 0 := by omega
      have HZ := Lib.hid (hz.trans (fixZ_step zs 0 n ((n : Int) % 256) (by omega)))
      clear hz hj
      go_wp2_with (at_builtin; refine wpList_append_own _ rfl _ _ 59 rfl w.heap.size 5 i0 (.int .u8 0) 1 1 Tryd.underlying59 hi hz0 hz1 hz2 rfl (by decide) _ _ _ rfl (hown.alloc _) ⟨wr.heap.size, 0, none⟩ 1 1 [.int .u8 ((n : Int) % 256)] rfl rfl ?c1 ?c2 ?c3 ?c4 ?c5 ?_)
      case c1 => exact cell_one_new _ _ _
      case c2 => intro u hu; simp at hu; subst hu; rfl
      case c3 => unfold maxLen; omega
      case c4 => omega
      case c5 => simp; omega
      intro v' w1 hown' hgrow _
      have hnx' := hnx.trans (below_alloc_grown h2 hown hgrow)
      have HO := Lib.hid (own_snoc hown')
      clear hown' hgrow hown
      go_wp2
      go_roundw
      case rel => exact ⟨-1, 0, _, rfl, rfl, by omega, HZ.out, HO.out, hnx'⟩
      case measure => simp [RowKit.intOf]
    · obtain rfl : j = 1 := by omega
      have HZ := Lib.hid (hz.trans (fixZ_step zs 1 n ((n : Int) / 256 % 256) (by omega)))
      clear hz hj
      go_wp2_with (at_builtin; refine wpList_append_own _ rfl _ _ 59 rfl w.heap.size 5 i0 (.int .u8 0) 1 1 Tryd.underlying59 hi hz0 hz1 hz2 rfl (by decide) _ _ _ rfl (hown.alloc _) ⟨wr.heap.size, 0, none⟩ 1 1 [.int .u8 ((n : Int) / 256 % 256)] rfl rfl ?c1 ?c2 ?c3 ?c4 ?c5 ?_)
      case c1 => exact cell_one_new _ _ _
      case c2 => intro u hu; simp at hu; subst hu; rfl
      case c3 => unfold maxLen; omega
      case c4 => omega
      case c5 => simp; omega
      intro v' w1 hown' hgrow _
      have hnx' := hnx.trans (below_alloc_grown h2 hown hgrow)
      have HO := Lib.hid (own_snoc hown')
      clear hown' hgrow hown
      go_wp2
      go_roundw
      case rel => exact ⟨0, 1, _, rfl, rfl, by omega, HZ.out, HO.out, hnx'⟩
      case measure => simp [RowKit.intOf]
    · obtain rfl : j = 2 := by omega
      have HZ := Lib.hid (hz.trans (fixZ_step zs 2 n ((n : Int) / 65536 % 256) (by omega)))
      clear hz hj
      go_wp2_with (at_builtin; refine wpList_append_own _ rfl _ _ 59 rfl w.heap.size 5 i0 (.int .u8 0) 1 1 Tryd.underlying59 hi hz0 hz1 hz2 rfl (by decide) _ _ _ rfl (hown.alloc _) ⟨wr.heap.size, 0, none⟩ 1 1 [.int .u8 ((n : Int) / 65536 % 256)] rfl rfl ?c1 ?c2 ?c3 ?c4 ?c5 ?_)
      case c1 => exact cell_one_new _ _ _
      case c2 => intro u hu; simp at hu; subst hu; rfl
      case c3 => unfold maxLen; omega
      case c4 => omega
      case c5 => simp; omega
      intro v' w1 hown' hgrow _
      have hnx' := hnx.trans (below_alloc_grown h2 hown hgrow)
      have HO := Lib.hid (own_snoc hown')
      clear hown' hgrow hown
      go_wp2
      go_roundw
      case rel => exact ⟨1, 2, _, rfl, rfl, by omega, HZ.out, HO.out, hnx'⟩
      case measure => simp [RowKit.intOf]
    · obtain rfl : j = 3 := by omega
      have HZ := Lib.hid (hz.trans (fixZ_step zs 3 n ((n : Int) / 16777216) (by omega)))
      clear hz hj
      go_wp2_with (at_builtin; refine wpList_append_own _ rfl _ _ 59 rfl w.heap.size 5 i0 (.int .u8 0) 1 1 Tryd.underlying59 hi hz0 hz1 hz2 rfl (by decide) _ _ _ rfl (hown.alloc _) ⟨wr.heap.size, 0, none⟩ 1 1 [.int .u8 ((n : Int) / 16777216)] rfl rfl ?c1 ?c2 ?c3 ?c4 ?c5 ?_)
      case c1 => exact cell_one_new _ _ _
      case c2 => intro u hu; simp at hu; subst hu; rfl
      case c3 => unfold maxLen; omega
      case c4 => omega
      case c5 => simp; omega
      intro v' w1 hown' hgrow _
      have hnx' := hnx.trans (below_alloc_grown h2 hown hgrow)
      have HO := Lib.hid (own_snoc hown')
      clear hown' hgrow hown
      go_wp2
      go_roundw
      case rel => exact ⟨2, 3, _, rfl, rfl, by omega, HZ.out, HO.out, hnx'⟩
      case measure => simp [RowKit.intOf]

end Go.Proofs.YthhpmhibkbndhaaDoor
/- Numbers of eight bytes, the highest first: the program's, and the document's own. -/
namespace Go.Proofs.YthhpmhibkbndhaaDoor
open Go.RowKit Go.Lib Vbi Rcd

theorem str_add (a b : List UInt8) : str a ++ str b = str (a ++ b) := by
  apply ByteArray.ext
  simp [str]
theorem str_nums (zs : List Int) : strOfNums zs = str (bytesOf zs) := by rw [← data_str (strOfNums zs), strOf_data]
theorem str_fx (w n : Nat) : strOfNums (fixZ w n) = str (fx w n) := str_nums _
theorem ofInt_mod (z : Int) : (BitVec.ofInt 64 z).toNat = (z % 18446744073709551616).toNat := by
  rw [BitVec.toNat_ofInt]; rfl
theorem wrap_mod (m : Nat) : IntKind.i64.wrap (((m % 18446744073709551616 : Nat)) : Int) = IntKind.i64.wrap (m : Int) := by
  unfold IntKind.wrap
  simp [IntKind.bits, IntKind.signed]
/-- The last byte of eight: whatever is above, it stands below. -/
theorem or_low (z : Int) (m c : Nat) (hz : z = IntKind.i64.wrap ((m * 256 : Nat) : Int)) (hm : m < 72057594037927936) (hc : c < 256) : bits .or .i64 z (c : Int) = IntKind.i64.wrap ((m * 256 + c : Nat) : Int) := by
  show IntKind.i64.wrap ((BitVec.ofInt 64 z ||| BitVec.ofInt 64 (c : Int)).toNat : Int) = _
  have e1 : (BitVec.ofInt 64 z).toNat = m * 256 := by
    rw [ofInt_mod, hz]
    unfold IntKind.wrap
    simp [IntKind.bits, IntKind.signed]
    omega
  have e2 : (BitVec.ofInt 64 (c : Int)).toNat = c := ofInt_i64 c (by omega)
  rw [BitVec.toNat_or, e1, e2]
  congr 2
  rw [Nat.mul_comm m 256, show (256 : Nat) = 2 ^ 8 from rfl, ← Nat.two_pow_add_eq_or_of_lt (by omega)]
/-- High and low. -/
theorem or_halves (z : Int) (h l : Nat) (hz : z = IntKind.i64.wrap ((h * 4294967296 : Nat) : Int)) (hh : h < 4294967296) (hl : l < 4294967296) : bits .or .i64 z (l : Int) = IntKind.i64.wrap ((h * 4294967296 + l : Nat) : Int) := by
  show IntKind.i64.wrap ((BitVec.ofInt 64 z ||| BitVec.ofInt 64 (l : Int)).toNat : Int) = _
  have e1 : (BitVec.ofInt 64 z).toNat = h * 4294967296 := by
    rw [ofInt_mod, hz]
    unfold IntKind.wrap
    simp [IntKind.bits, IntKind.signed]
    omega
  have e2 : (BitVec.ofInt 64 (l : Int)).toNat = l := ofInt_i64 l (by omega)
  rw [BitVec.toNat_or, e1, e2]
  congr 2
  rw [Nat.mul_comm h 4294967296, show (4294967296 : Nat) = 2 ^ 32 from rfl, ← Nat.two_pow_add_eq_or_of_lt (by omega)]
theorem wrap64_nat (h : Nat) : wrap64 ((h : Int) * 4294967296) = IntKind.i64.wrap ((h * 4294967296 : Nat) : Int) := by
  rw [show ((h : Int) * 4294967296) = ((h * 4294967296 : Nat) : Int) by omega, IntWalk.i64_left]
theorem wrap64_low (m : Nat) : wrap64 ((m : Int) * 256) = IntKind.i64.wrap ((m * 256 : Nat) : Int) := by
  rw [show ((m : Int) * 256) = ((m * 256 : Nat) : Int) by omega, IntWalk.i64_left]
theorem fixGo_app (a b : List UInt8) (n : Nat) : fixGo n (a ++ b) = fixGo (fixGo n a) b := List.foldl_append ..
theorem fixGo_shift (l : List UInt8) (n : Nat) : fixGo n l = n * 256 ^ l.length + fixVal l := by
  unfold fixVal
  induction l generalizing n with
  | nil => show n = n * 1 + 0; omega
  | cons b t ih =>
    rw [fixGo_cons, fixGo_cons, ih, ih (0 * 256 + b.toNat), List.length_cons, Nat.pow_succ, Nat.add_mul, Nat.add_mul, Nat.mul_assoc, Nat.mul_comm 256]
    omega
theorem eight_halves (l : List UInt8) (h : 8 ≤ l.length) : fixVal (l.take 8) = fixVal (l.take 4) * 4294967296 + fixVal ((l.drop 4).take 4) := by
  have e : l.take 8 = l.take 4 ++ (l.drop 4).take 4 := by rw [← List.take_add]
  have hl : ((l.drop 4).take 4).length = 4 := by rw [List.length_take, List.length_drop]; omega
  rw [e]
  unfold fixVal
  rw [fixGo_app, fixGo_shift, hl]
  rfl
theorem fx8_halves (n : Nat) (h : n < 18446744073709551616) : fx 8 n = fx 4 (n / 4294967296) ++ fx 4 (n % 4294967296) := by
  simp only [fx_succ]
  have e : ∀ m, fx 0 m = [] := fun _ => rfl
  simp only [e, List.cons_append, List.nil_append, Nat.reducePow]
  congr 1
  · congr 1; omega
  congr 1
  · congr 1; omega
  congr 1
  · congr 1; omega
  congr 1
  · congr 1; omega
  congr 1
  · congr 1; omega
  congr 1
  · congr 1; omega
  congr 1
  · congr 1; omega
  congr 1
  · congr 1; omega

set_option maxRecDepth 100000 in
set_option maxHeartbeats 2000000 in
/-- rec.putLong. -/
theorem putLong_is (n : Nat) (S : ByteArray) (w : World) (hn : n < 9223372036854775808) (hS : str (fx 8 n) = S) :
    Calls Tryd.prog 65 #[.int .i64 (n : Int)] w fun e w' => e = .returned (.string S) ∧ Below w.heap.size w w' := by
  rw [fx8_halves n (by omega), ← str_add] at hS
  have f1 : fixStr 4 ((n / 4294967296 : Nat) : Int) = str (fx 4 (n / 4294967296)) ∧ fixErr 4 ((n / 4294967296 : Nat) : Int) = 0 := by
    rcases fix_cases 4 ((n / 4294967296 : Nat) : Int) with ⟨_, _, e1, e2⟩ | ⟨h0, _⟩
    · exact ⟨e2.trans (str_fx _ _), e1⟩
    · omega
  have f2 : fixStr 4 ((n % 4294967296 : Nat) : Int) = str (fx 4 (n % 4294967296)) ∧ fixErr 4 ((n % 4294967296 : Nat) : Int) = 0 := by
    rcases fix_cases 4 ((n % 4294967296 : Nat) : Int) with ⟨_, _, e1, e2⟩ | ⟨h0, _⟩
    · exact ⟨e2.trans (str_fx _ _), e1⟩
    · omega
  have H1 := Lib.hid (fun W => Four_is ((n / 4294967296 : Nat) : Int) _ _ W (by omega) f1.1 f1.2)
  have H2 := Lib.hid (fun W => Four_is ((n % 4294967296 : Nat) : Int) _ _ W (by omega) f2.1 f2.2)
  have z1 : (str (fx 4 (n / 4294967296))).size = 4 := by rw [str_size, fx_len]
  have z2 : (str (fx 4 (n % 4294967296))).size = 4 := by rw [str_size, fx_len]
  clear f1 f2
  generalize str (fx 4 (n / 4294967296)) = A at H1 hS z1
  generalize str (fx 4 (n % 4294967296)) = B at H2 hS z2
  subst hS
  rw [show ((n / 4294967296 : Nat) : Int) = (n : Int) / 4294967296 by omega] at H1
  rw [show ((n % 4294967296 : Nat) : Int) = (n : Int) % 4294967296 by omega] at H2
  go_enter Tryd.func65, Tryd.ntmps65
  go_wp2_with fail
  refine (H1.out _).mono ?_
  rintro e w1 ⟨rfl, hb1⟩
  go_wp2_with fail
  refine (H2.out _).mono ?_
  rintro e w2 ⟨rfl, hb2⟩
  go_wp2_with fail
  go_ret
  exact ⟨rfl, hb1.trans (hb2.mono hb1.size)⟩

theorem TakeFour_good (s : ByteArray) (n : Nat) (w : World) (hs : 4 ≤ s.size) (hm : s.size ≤ 9223372036854775807) (hn : fixVal (s.data.toList.take 4) = n) : Calls Tryd.prog 62 #[.string s] w fun e w' => e = .returned (.tuple #[.int .i64 (n : Int), .int .i64 0]) ∧ w = w' :=
  (TakeFour_ok s w hm).mono fun e w' h => by
    subst hn
    unfold TfOk at h
    rw [(tf_good (wd := 4) (l := s.data.toList) (by rw [← Lib.size_eq]; exact hs)).1, (tf_good (wd := 4) (l := s.data.toList) (by rw [← Lib.size_eq]; exact hs)).2] at h
    exact ⟨h.1, h.2.symm⟩
theorem RTake_good (wd : Nat) (s : ByteArray) (n : Nat) (w : World) (hw : wd ≤ 4) (hs : wd ≤ s.size) (hm : s.size ≤ 9223372036854775807) (hn : fixVal (s.data.toList.take wd) = n) : Calls Tryd.prog 64 #[.string s, .int .i64 (wd : Int)] w fun e w' => e = .returned (.tuple #[.int .i64 (n : Int), .bool true]) ∧ w = w' :=
  (RTakeFixed_ok s wd w hm hw).mono fun e w' h => by
    subst hn
    unfold RTfOk at h
    rw [(tf_good (wd := wd) (l := s.data.toList) (by rw [← Lib.size_eq]; exact hs)).1, (tf_good (wd := wd) (l := s.data.toList) (by rw [← Lib.size_eq]; exact hs)).2] at h
    exact ⟨h.1, h.2.symm⟩

/-- A call that leaves the world as it was and answers a number, how many bytes it has, no error. -/
theorem lng_wrap (l : List UInt8) (h : 8 ≤ l.length) : lng l = IntKind.i64.wrap ((fixVal (l.take 4) * 4294967296 + fixVal ((l.drop 4).take 4) : Nat) : Int) := by
  unfold lng; rw [eight_halves l h]

set_option maxRecDepth 100000 in
set_option maxHeartbeats 2000000 in
/-- rec.takeLong. -/
theorem takeLong_is (s : ByteArray) (N : Int) (w : World) (hs : 8 ≤ s.size) (hm : s.size ≤ 1000000) (hN : lng s.data.toList = N) :
    Calls Tryd.prog 72 #[.string s] w fun e w' => e = .returned (.tuple #[.int .i64 N, .int .i64 8, .int .i64 0]) ∧ w = w' := by
  obtain ⟨h, hh⟩ : ∃ h, fixVal (s.data.toList.take 4) = h := ⟨_, rfl⟩
  obtain ⟨l, hl⟩ : ∃ l, fixVal ((s.data.toList.drop 4).take 4) = l := ⟨_, rfl⟩
  have hh32 : h < 4294967296 := by rw [← hh]; exact fixVal_lt _ 4 (by rw [List.length_take]; omega)
  have hl32 : l < 4294967296 := by rw [← hl]; exact fixVal_lt _ 4 (by rw [List.length_take]; omega)
  have hsl : s.data.toList.length = s.size := by rw [Array.length_toList]; rfl
  rw [lng_wrap _ (by omega), hh, hl] at hN
  have H1 := Lib.hid (fun W => TakeFour_good s h W (by omega) (by omega) hh)
  have he : (s.extract 4 s.size).data.toList = s.data.toList.drop 4 := by
    rw [Lib.extract_data]; exact List.take_of_length_le (by rw [List.length_drop, hsl]; omega)
  have H2 := Lib.hid (fun W => TakeFour_good (s.extract 4 s.size) l W (by rw [ByteArray.size_extract]; omega) (by rw [ByteArray.size_extract]; omega) (by rw [he]; exact hl))
  have HO := fun z hz => or_halves z h l hz hh32 hl32
  have HN := Lib.hid hN
  have h8 : decide ((s.size : Int) < 8) = false := by rw [decide_eq_false_iff_not]; omega
  have h4 : (4 : Int) ≤ (s.size : Int) := by omega
  clear hh hl hN he hsl
  go_enter Tryd.func72, Tryd.ntmps72
  go_wp2_with fail
  refine (H1.out _).mono ?_
  rintro e w1 ⟨rfl, rfl⟩
  go_wp2_with fail
  refine (H2.out _).mono ?_
  rintro e w2 ⟨rfl, rfl⟩
  go_wp2_with fail
  go_ret3
  refine ⟨?_, rfl⟩
  rw [HO _ (wrap64_nat h), HN.out]
  rfl
set_option maxRecDepth 100000 in
set_option maxHeartbeats 1000000 in
/-- rec.takeLong, of too few bytes. -/
theorem takeLong_cut (s : ByteArray) (w : World) (hs : s.size < 8) :
    Calls Tryd.prog 72 #[.string s] w fun e w' => e = .returned (.tuple #[.int .i64 0, .int .i64 0, .int .i64 7]) ∧ w = w' := by
  have h8 : decide ((s.size : Int) < 8) = true := by rw [decide_eq_true_eq]; omega
  go_enter Tryd.func72, Tryd.ntmps72
  go_wp2_with fail
  go_ret3
  exact ⟨rfl, rfl⟩

theorem or8_more (m c : Nat) (hm : m < 36028797018963968) (hc : c < 256) : bits .or .i64 ((m : Int) * 256) (c : Int) = ((m * 256 + c : Nat) : Int) := by
  have h := or_low (((m * 256 : Nat)) : Int) m c (wrap_nat (by omega)).symm (by omega) hc
  rw [wrap_nat (by omega)] at h
  rw [← h]
  congr 1
theorem pow_small {m k : Nat} (hm : m < 256 ^ k) (hk : k < 7) : m < 281474976710656 := by
  have : 256 ^ k ≤ 256 ^ 6 := Nat.pow_le_pow_right (by decide) (by omega)
  omega
set_option maxRecDepth 100000 in
set_option maxHeartbeats 4000000 in
/-- The document's own answer: the number of eight bytes. -/
theorem RTake8_is (s : ByteArray) (N : Int) (w : World) (hs : 8 ≤ s.size) (hm : s.size ≤ 1000000) (hN : lng s.data.toList = N) :
    Calls Tryd.prog 64 #[.string s, .int .i64 8] w fun e w' => e = .returned (.tuple #[.int .i64 N, .bool true]) ∧ w = w' := by
  have hcd : decide ((s.size : Int) < 8) = false := by rw [decide_eq_false_iff_not]; omega
  have HN := Lib.hid hN
  clear hN
  go_enter Tryd.func64, Tryd.ntmps64
  go_wp2_with fail
  clear hcd
  go_loop [6, 7] (fun n i => ∃ (k m : Nat) (z : Int), k ≤ 8 ∧ i = .int .i64 (k : Int) ∧ n = .int .i64 z ∧ z = IntKind.i64.wrap (m : Int) ∧ m < 256 ^ k ∧ fixVal (s.data.toList.take 8) = fixGo m ((s.data.toList.take 8).drop k)) (fun _ i => 8 - (RowKit.intOf i).toNat)
  case atStart => exact ⟨0, 0, 0, by omega, rfl, rfl, rfl, by simp, rfl⟩
  case round =>
    obtain ⟨k, m, z, hk, rfl, rfl, hz, hm, ht⟩ := hrel
    by_cases hlt : k < 8
    · rw [take_drop_at s 8 k hlt (by omega)] at ht
      have hks : k < s.size := by omega
      have hb : s[k].toNat < 256 := s[k].toNat_lt
      by_cases h7 : k < 7
      · have hms := pow_small hm h7
        rw [wrap_nat (by omega)] at hz
        subst hz
        have HO := Lib.hid (or8_more m s[k].toNat (by omega) hb)
        have HM := Lib.hid hm
        have HT := Lib.hid ht
        have HW := Lib.hid (wrap_nat (n := m * 256 + s[k].toNat) (by omega))
        clear ht hm h7
        go_wp2_with fail
        go_round
        case rel => exact ⟨k + 1, m * 256 + s[k].toNat, _, by omega, by go_num, by rw [HO.out], HW.out.symm, pow_next HM.out hb, HT.out.trans (fixGo_cons _ _ _)⟩
        case measure => simp [RowKit.intOf]; omega
      · obtain rfl : k = 7 := by omega
        have hm7 : m < 72057594037927936 := hm
        rw [wrap_nat (by omega)] at hz
        subst hz
        have HM := Lib.hid hm
        have HT := Lib.hid ht
        by_cases hbig : m < 36028797018963968
        · have HO := Lib.hid (or8_more m s[7].toNat (by omega) hb)
          have HW := Lib.hid (wrap_nat (n := m * 256 + s[7].toNat) (by omega))
          clear ht hm h7
          go_wp2_with fail
          go_round
          case rel => exact ⟨8, m * 256 + s[7].toNat, _, by omega, by go_num, by rw [HO.out], HW.out.symm, pow_next HM.out hb, HT.out.trans (fixGo_cons _ _ _)⟩
          case measure => simp [RowKit.intOf]
        · have HO := Lib.hid (fun z hz => or_low z m s[7].toNat hz hm7 hb)
          clear ht hm h7
          go_wp2_with fail
          go_round
          case rel => exact ⟨8, m * 256 + s[7].toNat, _, by omega, by go_num, rfl, HO.out _ (wrap64_low m), pow_next HM.out hb, HT.out.trans (fixGo_cons _ _ _)⟩
          case measure => simp [RowKit.intOf]
    · obtain rfl : k = 8 := by omega
      rw [take_drop_end] at ht
      obtain rfl : z = N := by rw [← HN.out]; unfold lng; rw [ht]; exact hz
      clear ht hm hz
      go_wp2_with fail
      go_ret2
      exact ⟨rfl, rfl⟩
set_option maxRecDepth 100000 in
set_option maxHeartbeats 4000000 in
/-- The document's own answer: a number as eight bytes. -/
theorem RFixed8_is (n : Nat) (S : ByteArray) (w : World) (hn : n < 9223372036854775808) (hS : str (fx 8 n) = S) :
    Calls Tryd.prog 37 #[.int .i64 (n : Int), .int .i64 8] w fun e w' => e = .returned (.string S) ∧ Below w.heap.size w w' := by
  rw [← str_fx] at hS
  subst hS
  obtain ⟨i0, hi, hz0, hz1, hz2⟩ := info_parts info_byte
  go_enter Tryd.func37, Tryd.ntmps37
  go_wp2_with fail
  go_loopw [5, 6] (fun v iv wr => ∃ (j : Int) (k : Nat) (zs : List Int), iv = .int .i64 j ∧ j = (k : Int) - 1 ∧ k ≤ 8 ∧ fixZ 8 n = zs ++ fixZ k n ∧ wr.ownsRow w.heap.size 5 1 v zs.length (zs.map (Value.int .u8)) ∧ Below w.heap.size w wr) (fun _ iv _ => (RowKit.intOf iv + 1).toNat)
  case atStart => exact ⟨_, 8, [], rfl, rfl, by omega, rfl, World.ownsRow_nil _ _ _ _, Below.refl _ _⟩
  case round =>
    obtain ⟨j, k, zs, rfl, hj, hk, hz, hown, hnx⟩ := hrel
    have h2 := hnx.size
    have hzl : zs.length ≤ 8 := by
      have := congrArg List.length hz
      rw [List.length_append, fixZ_len, fixZ_len] at this
      omega
    by_cases hk0 : k = 0
    · subst hk0
      obtain rfl : j = -1 := by omega
      have hcv := conv_bytes hown
      have hzz : zs = fixZ 8 n := by rw [hz]; show zs = zs ++ []; simp
      rw [hzz] at hcv
      have HC := Lib.hid hcv
      clear hz hown hj hzz
      go_wp2_with fail
      go_ret
      exact ⟨rfl, hnx⟩
    · rcases (by omega : k = 1 ∨ k = 2 ∨ k = 3 ∨ k = 4 ∨ k = 5 ∨ k = 6 ∨ k = 7 ∨ k = 8) with rfl | rfl | rfl | rfl | rfl | rfl | rfl | rfl
      · obtain rfl : j = 0 := by omega
        have HZ := Lib.hid (hz.trans (fixZ_step zs 0 n ((n : Int) % 256) (by omega)))
        clear hz hj hk0
        go_wp2_with (at_builtin; refine wpList_append_own _ rfl _ _ 59 rfl w.heap.size 5 i0 (.int .u8 0) 1 1 Tryd.underlying59 hi hz0 hz1 hz2 rfl (by decide) _ _ _ rfl (hown.alloc _) ⟨wr.heap.size, 0, none⟩ 1 1 [.int .u8 ((n : Int) % 256)] rfl rfl ?c1 ?c2 ?c3 ?c4 ?c5 ?_)
        case c1 => exact cell_one_new _ _ _
        case c2 => intro u hu; simp at hu; subst hu; rfl
        case c3 => unfold maxLen; omega
        case c4 => omega
        case c5 => simp; omega
        intro v' w1 hown' hgrow _
        have hnx' := hnx.trans (below_alloc_grown h2 hown hgrow)
        have HO := Lib.hid (own_snoc hown')
        clear hown' hgrow hown
        go_wp2
        go_roundw
        case rel => exact ⟨-1, 0, _, rfl, rfl, by omega, HZ.out, HO.out, hnx'⟩
        case measure => simp [RowKit.intOf]
      · obtain rfl : j = 1 := by omega
        have HZ := Lib.hid (hz.trans (fixZ_step zs 1 n ((n : Int) / 256 % 256) (by omega)))
        clear hz hj hk0
        go_wp2_with (at_builtin; refine wpList_append_own _ rfl _ _ 59 rfl w.heap.size 5 i0 (.int .u8 0) 1 1 Tryd.underlying59 hi hz0 hz1 hz2 rfl (by decide) _ _ _ rfl (hown.alloc _) ⟨wr.heap.size, 0, none⟩ 1 1 [.int .u8 ((n : Int) / 256 % 256)] rfl rfl ?c1 ?c2 ?c3 ?c4 ?c5 ?_)
        case c1 => exact cell_one_new _ _ _
        case c2 => intro u hu; simp at hu; subst hu; rfl
        case c3 => unfold maxLen; omega
        case c4 => omega
        case c5 => simp; omega
        intro v' w1 hown' hgrow _
        have hnx' := hnx.trans (below_alloc_grown h2 hown hgrow)
        have HO := Lib.hid (own_snoc hown')
        clear hown' hgrow hown
        go_wp2
        go_roundw
        case rel => exact ⟨0, 1, _, rfl, rfl, by omega, HZ.out, HO.out, hnx'⟩
        case measure => simp [RowKit.intOf]
      · obtain rfl : j = 2 := by omega
        have HZ := Lib.hid (hz.trans (fixZ_step zs 2 n ((n : Int) / 65536 % 256) (by omega)))
        clear hz hj hk0
        go_wp2_with (at_builtin; refine wpList_append_own _ rfl _ _ 59 rfl w.heap.size 5 i0 (.int .u8 0) 1 1 Tryd.underlying59 hi hz0 hz1 hz2 rfl (by decide) _ _ _ rfl (hown.alloc _) ⟨wr.heap.size, 0, none⟩ 1 1 [.int .u8 ((n : Int) / 65536 % 256)] rfl rfl ?c1 ?c2 ?c3 ?c4 ?c5 ?_)
        case c1 => exact cell_one_new _ _ _
        case c2 => intro u hu; simp at hu; subst hu; rfl
        case c3 => unfold maxLen; omega
        case c4 => omega
        case c5 => simp; omega
        intro v' w1 hown' hgrow _
        have hnx' := hnx.trans (below_alloc_grown h2 hown hgrow)
        have HO := Lib.hid (own_snoc hown')
        clear hown' hgrow hown
        go_wp2
        go_roundw
        case rel => exact ⟨1, 2, _, rfl, rfl, by omega, HZ.out, HO.out, hnx'⟩
        case measure => simp [RowKit.intOf]
      · obtain rfl : j = 3 := by omega
        have HZ := Lib.hid (hz.trans (fixZ_step zs 3 n ((n : Int) / 16777216 % 256) (by omega)))
        clear hz hj hk0
        go_wp2_with (at_builtin; refine wpList_append_own _ rfl _ _ 59 rfl w.heap.size 5 i0 (.int .u8 0) 1 1 Tryd.underlying59 hi hz0 hz1 hz2 rfl (by decide) _ _ _ rfl (hown.alloc _) ⟨wr.heap.size, 0, none⟩ 1 1 [.int .u8 ((n : Int) / 16777216 % 256)] rfl rfl ?c1 ?c2 ?c3 ?c4 ?c5 ?_)
        case c1 => exact cell_one_new _ _ _
        case c2 => intro u hu; simp at hu; subst hu; rfl
        case c3 => unfold maxLen; omega
        case c4 => omega
        case c5 => simp; omega
        intro v' w1 hown' hgrow _
        have hnx' := hnx.trans (below_alloc_grown h2 hown hgrow)
        have HO := Lib.hid (own_snoc hown')
        clear hown' hgrow hown
        go_wp2
        go_roundw
        case rel => exact ⟨2, 3, _, rfl, rfl, by omega, HZ.out, HO.out, hnx'⟩
        case measure => simp [RowKit.intOf]
      · obtain rfl : j = 4 := by omega
        have HZ := Lib.hid (hz.trans (fixZ_step zs 4 n ((n : Int) / 4294967296 % 256) (by omega)))
        clear hz hj hk0
        go_wp2_with (at_builtin; refine wpList_append_own _ rfl _ _ 59 rfl w.heap.size 5 i0 (.int .u8 0) 1 1 Tryd.underlying59 hi hz0 hz1 hz2 rfl (by decide) _ _ _ rfl (hown.alloc _) ⟨wr.heap.size, 0, none⟩ 1 1 [.int .u8 ((n : Int) / 4294967296 % 256)] rfl rfl ?c1 ?c2 ?c3 ?c4 ?c5 ?_)
        case c1 => exact cell_one_new _ _ _
        case c2 => intro u hu; simp at hu; subst hu; rfl
        case c3 => unfold maxLen; omega
        case c4 => omega
        case c5 => simp; omega
        intro v' w1 hown' hgrow _
        have hnx' := hnx.trans (below_alloc_grown h2 hown hgrow)
        have HO := Lib.hid (own_snoc hown')
        clear hown' hgrow hown
        go_wp2
        go_roundw
        case rel => exact ⟨3, 4, _, rfl, rfl, by omega, HZ.out, HO.out, hnx'⟩
        case measure => simp [RowKit.intOf]
      · obtain rfl : j = 5 := by omega
        have HZ := Lib.hid (hz.trans (fixZ_step zs 5 n ((n : Int) / 1099511627776 % 256) (by omega)))
        clear hz hj hk0
        go_wp2_with (at_builtin; refine wpList_append_own _ rfl _ _ 59 rfl w.heap.size 5 i0 (.int .u8 0) 1 1 Tryd.underlying59 hi hz0 hz1 hz2 rfl (by decide) _ _ _ rfl (hown.alloc _) ⟨wr.heap.size, 0, none⟩ 1 1 [.int .u8 ((n : Int) / 1099511627776 % 256)] rfl rfl ?c1 ?c2 ?c3 ?c4 ?c5 ?_)
        case c1 => exact cell_one_new _ _ _
        case c2 => intro u hu; simp at hu; subst hu; rfl
        case c3 => unfold maxLen; omega
        case c4 => omega
        case c5 => simp; omega
        intro v' w1 hown' hgrow _
        have hnx' := hnx.trans (below_alloc_grown h2 hown hgrow)
        have HO := Lib.hid (own_snoc hown')
        clear hown' hgrow hown
        go_wp2
        go_roundw
        case rel => exact ⟨4, 5, _, rfl, rfl, by omega, HZ.out, HO.out, hnx'⟩
        case measure => simp [RowKit.intOf]
      · obtain rfl : j = 6 := by omega
        have HZ := Lib.hid (hz.trans (fixZ_step zs 6 n ((n : Int) / 281474976710656 % 256) (by omega)))
        clear hz hj hk0
        go_wp2_with (at_builtin; refine wpList_append_own _ rfl _ _ 59 rfl w.heap.size 5 i0 (.int .u8 0) 1 1 Tryd.underlying59 hi hz0 hz1 hz2 rfl (by decide) _ _ _ rfl (hown.alloc _) ⟨wr.heap.size, 0, none⟩ 1 1 [.int .u8 ((n : Int) / 281474976710656 % 256)] rfl rfl ?c1 ?c2 ?c3 ?c4 ?c5 ?_)
        case c1 => exact cell_one_new _ _ _
        case c2 => intro u hu; simp at hu; subst hu; rfl
        case c3 => unfold maxLen; omega
        case c4 => omega
        case c5 => simp; omega
        intro v' w1 hown' hgrow _
        have hnx' := hnx.trans (below_alloc_grown h2 hown hgrow)
        have HO := Lib.hid (own_snoc hown')
        clear hown' hgrow hown
        go_wp2
        go_roundw
        case rel => exact ⟨5, 6, _, rfl, rfl, by omega, HZ.out, HO.out, hnx'⟩
        case measure => simp [RowKit.intOf]
      · obtain rfl : j = 7 := by omega
        have HZ := Lib.hid (hz.trans (fixZ_step zs 7 n ((n : Int) / 72057594037927936) (by omega)))
        clear hz hj hk0
        go_wp2_with (at_builtin; refine wpList_append_own _ rfl _ _ 59 rfl w.heap.size 5 i0 (.int .u8 0) 1 1 Tryd.underlying59 hi hz0 hz1 hz2 rfl (by decide) _ _ _ rfl (hown.alloc _) ⟨wr.heap.size, 0, none⟩ 1 1 [.int .u8 ((n : Int) / 72057594037927936)] rfl rfl ?c1 ?c2 ?c3 ?c4 ?c5 ?_)
        case c1 => exact cell_one_new _ _ _
        case c2 => intro u hu; simp at hu; subst hu; rfl
        case c3 => unfold maxLen; omega
        case c4 => omega
        case c5 => simp; omega
        intro v' w1 hown' hgrow _
        have hnx' := hnx.trans (below_alloc_grown h2 hown hgrow)
        have HO := Lib.hid (own_snoc hown')
        clear hown' hgrow hown
        go_wp2
        go_roundw
        case rel => exact ⟨6, 7, _, rfl, rfl, by omega, HZ.out, HO.out, hnx'⟩
        case measure => simp [RowKit.intOf]
end Go.Proofs.YthhpmhibkbndhaaDoor
/- Package vbi: bytes with their length ahead. -/
namespace Go.Proofs.YthhpmhibkbndhaaDoor
open Go.RowKit Go.Lib Vbi

theorem Clone_same (s : ByteArray) (w : World) (h : s.size ≤ 281474976710656) :
    Calls Tryd.prog 47 #[.string s] w fun e w' => e = .returned (.string s) ∧ Below w.heap.size w w' := by
  have HC := Lib.hid (fun W => Tryd.stringslite_Clone s W h)
  go_enter Tryd.func47, Tryd.ntmps47
  go_wp2_with fail
  refine (HC.out _).mono ?_
  rintro e w1 ⟨rfl, hb⟩
  go_wp2_with fail
  go_ret
  exact ⟨rfl, hb⟩

theorem fix2_size (n : Nat) : (strOfNums (fixZ 2 n)).size = 2 := by rw [strOfNums_size, fixZ_len]
theorem fix2_of (n : Nat) (h : n < 65536) : fixStr 2 (n : Int) = strOfNums (fixZ 2 n) ∧ fixErr 2 (n : Int) = 0 := by
  rcases fix_cases 2 (n : Int) with ⟨_, _, e1, e2⟩ | ⟨h0, _⟩
  · exact ⟨e2, e1⟩
  · omega

set_option maxHeartbeats 1000000 in
theorem Bin_good (s S : ByteArray) (w : World) (hs : s.size ≤ 1024) (hS : strOfNums (fixZ 2 s.size) ++ s = S) :
    Calls Tryd.prog 66 #[.string s] w fun e w' => e = .returned (.tuple #[.string S, .int .i64 0]) ∧ Below w.heap.size w w' := by
  subst hS
  have H2 := Lib.hid (fun W => Two_is (s.size : Int) _ _ W (by omega) (fix2_of s.size (by omega)).1 (fix2_of s.size (by omega)).2)
  obtain ⟨T, hT⟩ : ∃ T, T = strOfNums (fixZ 2 s.size) := ⟨_, rfl⟩
  have hz : T.size ≤ 2 := by rw [hT, fix2_size]; omega
  rw [← hT] at H2
  rw [← hT]
  clear hT
  have hd : decide (1024 < (s.size : Int)) = false := by simp; omega
  go_enter Tryd.func66, Tryd.ntmps66
  go_wp2_with fail
  refine (H2.out _).mono ?_
  rintro e w1 ⟨rfl, hb⟩
  go_wp2_with fail
  go_ret2
  exact ⟨rfl, hb⟩
set_option maxHeartbeats 2000000 in
/-- vbi.TakeBin. -/
theorem TakeBin_is (s S : ByteArray) (K E : Int) (w : World) (hm : s.size ≤ 281474976710656) (h : tb s = (S, K, E)) :
    Calls Tryd.prog 74 #[.string s] w fun e w' => e = .returned (.tuple #[.string S, .int .i64 K, .int .i64 E]) ∧ Below w.heap.size w w' := by
  obtain ⟨n, hn⟩ : ∃ n, tbN s = n := ⟨_, rfl⟩
  rcases tb_cases s with ⟨h1, e⟩ | ⟨h1, h2, e⟩ | ⟨h1, h2, h3, e⟩ | ⟨h1, h2, e⟩
  · rw [e] at h
    obtain ⟨rfl, rfl, rfl⟩ : ⟨#[]⟩ = S ∧ 0 = K ∧ 7 = E := by simpa using h
    have HT := Lib.hid (fun W => TakeTwo_cut s W h1)
    clear h e hn
    go_enter Tryd.func74, Tryd.ntmps74
    go_wp2_with fail
    refine (HT.out _).mono ?_
    rintro e w1 ⟨rfl, rfl⟩
    go_wp2_with fail
    go_ret3
    exact ⟨rfl, Below.refl _ _⟩
  · rw [e] at h
    obtain ⟨rfl, rfl, rfl⟩ : ⟨#[]⟩ = S ∧ 0 = K ∧ 2 = E := by simpa using h
    have HT := Lib.hid (fun W => TakeTwo_good s n W h1 (by omega) hn)
    rw [hn] at h2
    clear h e hn
    go_enter Tryd.func74, Tryd.ntmps74
    go_wp2_with fail
    refine (HT.out _).mono ?_
    rintro e w1 ⟨rfl, rfl⟩
    go_wp2_with fail
    go_ret3
    exact ⟨rfl, Below.refl _ _⟩
  · rw [e] at h
    obtain ⟨rfl, rfl, rfl⟩ : ⟨#[]⟩ = S ∧ 0 = K ∧ 7 = E := by simpa using h
    have HT := Lib.hid (fun W => TakeTwo_good s n W h1 (by omega) hn)
    rw [hn] at h2 h3
    clear h e hn
    go_enter Tryd.func74, Tryd.ntmps74
    go_wp2_with fail
    refine (HT.out _).mono ?_
    rintro e w1 ⟨rfl, rfl⟩
    go_wp2_with fail
    go_ret3
    exact ⟨rfl, Below.refl _ _⟩
  · rw [e] at h
    rw [hn] at h h1 h2
    obtain ⟨hS, rfl, rfl⟩ : s.extract 2 (2 + n) = S ∧ ((2 + n : Nat) : Int) = K ∧ 0 = E := by
      injection h with a b
      injection b with b c
      exact ⟨a, b, c⟩
    have HT := Lib.hid (fun W => TakeTwo_good s n W (by omega) (by omega) hn)
    have hz : (s.extract 2 (2 + n)).size ≤ 1024 := by rw [ByteArray.size_extract]; omega
    have HC := Lib.hid (fun W => Clone_same (s.extract 2 (2 + n)) W (by omega))
    have HS := Lib.hid hS
    clear h e hn hS
    go_enter Tryd.func74, Tryd.ntmps74
    go_wp2_with fail
    refine (HT.out _).mono ?_
    rintro e w1 ⟨rfl, rfl⟩
    go_wp2_with (go_at_call 47; refine (HC.out _).mono ?_; rintro e w1 ⟨rfl, hb⟩)
    go_ret3
    refine ⟨?_, hb⟩
    rw [← HS.out]
    rfl
end Go.Proofs.YthhpmhibkbndhaaDoor
/- strings.Builder: a string is written to one of the call's own. -/
namespace Go.Proofs.YthhpmhibkbndhaaDoor
open Go.RowKit Go.Lib

theorem builder_size : (Tryd.prog.info? 61).map (·.size) = some 2 := by kernel_rfl
theorem builder_lies : liesAt Tryd.prog Tryd.prog.depth 61 (2 / Tryd.prog.cellsOf 61) 0 61 1 = true := by kernel_rfl

set_option maxHeartbeats 1000000 in
set_option maxRecDepth 100000 in
theorem copyCheck_used (b : Nat) (w : World) (h0 : w.cell? ⟨b, 0, none⟩ = some (.pointer (some ⟨b, 0, none⟩))) :
    Calls Tryd.prog 46 #[.pointer (some ⟨b, 0, none⟩)] w fun e w' => e = .returned (.tuple #[]) ∧ w = w' := by
  obtain ⟨j, hj, _⟩ := Option.map_eq_some_iff.1 builder_size
  go_enter Tryd.func46, Tryd.ntmps46
  go_wp2
  rw [Lib.run_neq_ptr_same w _ Tryd.underlying58 hj]
  go_wp2
  go_end0
  exact ⟨rfl, rfl⟩
set_option maxHeartbeats 1000000 in
set_option maxRecDepth 100000 in
theorem copyCheck_fresh (b : Nat) (w : World) (h0 : w.cell? ⟨b, 0, none⟩ = some (.pointer none)) (hsh : w.shape? b = some (61, 2)) (hfz : w.frozen? ⟨b, 0, none⟩ = false) :
    Calls Tryd.prog 46 #[.pointer (some ⟨b, 0, none⟩)] w fun e w' => e = .returned (.tuple #[]) ∧ w' = w.setCell ⟨b, 0, none⟩ (.pointer (some ⟨b, 0, none⟩)) := by
  obtain ⟨j, hj, hjs⟩ := Option.map_eq_some_iff.1 builder_size
  go_enter Tryd.func46, Tryd.ntmps46
  go_wp2
  rw [Lib.run_to_unsafe w ⟨b, 0, none⟩ Tryd.underlying58 Tryd.underlying99 hj (by rw [hjs]; decide) hsh (Nat.zero_lt_succ 1)]
  simp only [Result.andThen]
  rw [Oper.upon_value]
  go_wp2
  rw [run_callFunc_extern Tryd.func58 (by kernel_rfl) (by kernel_rfl) (by kernel_rfl) (e := Extern.AbiNoEscape.same) (by kernel_rfl), Lib.run_noEscape]
  simp only [Result.andThen]
  rw [Oper.upon_value]
  go_wp2
  rw [Lib.run_from_unsafe w ⟨b, 0, none⟩ Tryd.underlying99 Tryd.underlying58 hj hsh builder_lies]
  simp only [Result.andThen]
  rw [Oper.upon_value]
  go_wp2
  go_end0
  exact ⟨rfl, rfl⟩

/-- A builder of the call's own that holds the bytes of a string. -/
def Built (B b : Nat) (s : ByteArray) (w : World) : Prop := IsBuilder 61 5 B b (Lib.byteCells s.data.toList) w
theorem copyCheck_is (B b : Nat) (xs : List Value) (w : World) (h : IsBuilder 61 5 B b xs w) :
    Calls Tryd.prog 46 #[.pointer (some ⟨b, 0, none⟩)] w fun e w' => e = .returned (.tuple #[]) ∧ BuilderAt 61 5 B b (.pointer (some ⟨b, 0, none⟩)) xs w' ∧ Below B w w' ∧ OthersKept 5 (some b) w w' := by
  rcases h with h | h
  · exact (copyCheck_fresh b w h.cell0 h.shape h.frozen0).mono fun _ _ ⟨he, hw⟩ => ⟨he, by rw [hw]; exact h.used _, by rw [hw]; exact (Below.refl B w).setCell (p := ⟨b, 0, none⟩) h.1 _, by rw [hw]; exact (OthersKept.refl _ _ _).setCell ⟨b, 0, none⟩ rfl _⟩
  · exact (copyCheck_used b w h.cell0).mono fun _ _ ⟨he, hw⟩ => ⟨he, by rw [← hw]; exact h, by rw [← hw]; exact Below.refl B w, by rw [← hw]; exact OthersKept.refl _ _ _⟩
theorem own_kind {w : World} {B e n : Nat} {v : Value} {xs : List Value} (h : w.ownsRow B e 1 v n xs) : ∀ g, v.ownBlock = some g → ∃ c fz, w.heap[g]? = some (.cells c e fz) := by
  intro g hg
  rcases h.2 with ⟨rfl, _⟩ | ⟨g', cap, cur, rfl, _, hgg, _⟩
  · simp [Value.ownBlock] at hg
  · simp [Value.ownBlock] at hg
    subst hg
    exact ⟨cur, _, hgg⟩
theorem own_any {w : World} {B e n : Nat} {v : Value} {xs : List Value} (h : w.ownsRow B e 1 v n xs) : ∃ a m c, v = .slice a m c := by
  rcases h.2 with ⟨hv, _⟩ | ⟨g, cap, cur, hv, _⟩
  · exact ⟨_, _, _, hv⟩
  · exact ⟨_, _, _, hv⟩
set_option maxHeartbeats 2000000 in
set_option maxRecDepth 100000 in
theorem WriteString_cells (B b : Nat) (xs : List Value) (s : ByteArray) (w : World) (h : IsBuilder 61 5 B b xs w) (hlen : xs.length + s.size ≤ 140737488355328) (hBw : B ≤ w.heap.size) :
    Calls Tryd.prog 29 #[.pointer (some ⟨b, 0, none⟩), .string s] w fun e w' => (∃ v, e = .returned v) ∧ BuilderAt 61 5 B b (.pointer (some ⟨b, 0, none⟩)) (xs ++ Lib.strCells s) w' ∧ Below B w w' ∧ OthersKept 5 (some b) w w' := by
  obtain ⟨i0, hi, hz0, hz1, hz2⟩ := info_parts info_byte
  have HC := Lib.hid (fun W hW => copyCheck_is B b xs W hW)
  go_enter Tryd.func29, Tryd.ntmps29
  go_wp2_with fail
  refine (HC.out _ h).mono ?_
  rintro e w1 ⟨rfl, ⟨hB, v, hbk, hown, hne⟩, hb1, ho1⟩
  have HO1 := Lib.hid ho1
  have HK := Lib.hid (own_kind hown)
  clear ho1
  have c0 : w1.cell? ⟨b, 0, none⟩ = some (.pointer (some ⟨b, 0, none⟩)) := by rw [Lib.cell_of_heap hbk]; rfl
  have c1 : w1.cell? ⟨b, 1, none⟩ = some v := by rw [Lib.cell_of_heap hbk]; rfl
  have hBw1 : B ≤ w1.heap.size := Nat.le_trans hBw hb1.size
  go_wp2_with (at_builtin; refine Lib.wpList_append_own_string _ rfl _ _ 59 9 rfl B 5 i0 Tryd.underlying59 Tryd.underlying9 hi hz0 hz1 hz2 _ _ _ rfl hown s rfl ?x1 ?x2 hBw1 ?_)
  case x1 => unfold maxLen; omega
  case x2 => omega
  intro v' w2 hown' hgrow _
  have hlt : b < w1.heap.size := (Array.getElem?_eq_some_iff.1 hbk).1
  have hb2 : w2.heap[b]? = some (.cells #[.pointer (some ⟨b, 0, none⟩), v] 61 (0, 0)) := (hgrow.block b hlt (fun e => hne e.symm)).trans hbk
  have d0 : w2.cell? ⟨b, 0, none⟩ = some (.pointer (some ⟨b, 0, none⟩)) := by rw [Lib.cell_of_heap hb2]; rfl
  have d1 : w2.cell? ⟨b, 1, none⟩ = some v := by rw [Lib.cell_of_heap hb2]; rfl
  have f1 : w2.frozen? ⟨b, 1, none⟩ = false := Lib.frozen_of_heap hb2 1
  obtain ⟨a, m, c, rfl⟩ := own_any hown'
  go_wp2
  go_ret2
  refine ⟨⟨_, rfl⟩, ?_, ?_, ?_⟩
  · exact Lib.BuilderAt.put hB hb2 (bs' := xs ++ Lib.strCells s) (by simpa [Lib.strCells_length] using hown') (by decide)
  · exact (hb1.grown hgrow hBw1 (fun k hk => (hown.lt k hk).1)).setCell (p := ⟨b, 1, none⟩) hB _
  · exact (HO1.out.grown hgrow HK.out).setCell ⟨b, 1, none⟩ rfl _
theorem cells_add (s t : ByteArray) : Lib.byteCells (s ++ t).data.toList = Lib.byteCells s.data.toList ++ Lib.strCells t := by
  rw [ByteArray.data_append, Array.toList_append]
  simp [Lib.byteCells, Lib.strCells]
/-- A string written to a builder. -/
theorem WriteString_is (B b : Nat) (s t : ByteArray) (w : World) (h : Built B b s w) (hlen : s.size + t.size ≤ 140737488355328) (hBw : B ≤ w.heap.size) :
    Calls Tryd.prog 29 #[.pointer (some ⟨b, 0, none⟩), .string t] w fun e w' => (∃ v, e = .returned v) ∧ Built B b (s ++ t) w' ∧ Below B w w' ∧ OthersKept 5 (some b) w w' := by
  refine (WriteString_cells B b _ t w h ?_ hBw).mono fun _ _ ⟨h1, h2, h3⟩ => ⟨h1, .inr ?_, h3⟩
  · have : (Lib.byteCells s.data.toList).length = s.size := by rw [Lib.size_eq]; simp [Lib.byteCells]
    omega
  · rw [cells_add]; exact h2
theorem built_below {B b : Nat} {s : ByteArray} {w w' : World} (h : Built B b s w) (hb : Below w.heap.size w w') : Built B b s w' := by
  have go : ∀ p, BuilderAt 61 5 B b p (Lib.byteCells s.data.toList) w → BuilderAt 61 5 B b p (Lib.byteCells s.data.toList) w' := fun p k => by
    have hl := k.lt
    obtain ⟨hB, v, h1, h2, h3⟩ := k
    exact ⟨hB, v, (hb.block b hl).trans h1, own_below h2 hb, h3⟩
  exact h.elim (fun k => .inl (go _ k)) (fun k => .inr (go _ k))
theorem built_iter {B b k pos : Nat} {s l : ByteArray} {w : World} (h : Built B b s w) (hk : w.heap[k]? = some (.stringIter l pos)) (pos' : Nat) : Built B b s (w.iterAt k l pos') := by
  have go : ∀ p, BuilderAt 61 5 B b p (Lib.byteCells s.data.toList) w → BuilderAt 61 5 B b p (Lib.byteCells s.data.toList) (w.iterAt k l pos') := fun p x => by
    obtain ⟨hB, v, h1, h2, h3⟩ := x
    have hkb : b ≠ k := by
      intro e1
      rw [e1, hk] at h1
      cases h1
    refine ⟨hB, v, (iterAt_other w k b l pos' hkb).trans h1, ⟨h2.1, ?_⟩, h3⟩
    rcases h2.2 with hn | ⟨g, cap, cur, hv, hbg, hg, rest⟩
    · exact .inl hn
    · have hkg : g ≠ k := by
        intro e1
        rw [e1, hk] at hg
        cases hg
      exact .inr ⟨g, cap, cur, hv, hbg, (iterAt_other w k g l pos' hkg).trans hg, rest⟩
  exact h.elim (fun x => .inl (go _ x)) (fun x => .inr (go _ x))
theorem built_lt {B b : Nat} {s : ByteArray} {w : World} (h : Built B b s w) : b < w.heap.size := h.elim BuilderAt.lt BuilderAt.lt
theorem built_new (w : World) : Built w.heap.size w.heap.size ⟨#[]⟩ (w.alloc (.cells #[.pointer none, .slice none 0 0] 61)) := Lib.fresh_isBuilder _ _ w
theorem String_is (B b : Nat) (s : ByteArray) (w : World) (h : Built B b s w) (hBw : B ≤ w.heap.size) :
    Calls Tryd.prog 30 #[.pointer (some ⟨b, 0, none⟩)] w fun e w' => e = .returned (.string s) ∧ Below B w w' :=
  (Tryd.Builder_String_any B b s.data.toList w h hBw).mono fun _ _ ⟨h1, h2⟩ => ⟨by rw [h1], h2⟩
end Go.Proofs.YthhpmhibkbndhaaDoor
/- Package sum: a half byte by the table. -/
namespace Go.Proofs.YthhpmhibkbndhaaDoor
open Go.RowKit Go.Lib Crc

/-- The table, as start-up lays it. -/
def Tab (w : World) : Prop := ∀ j, j < 16 → w.cell? ⟨0, j, none⟩ = some (.int .u32 ((tab.getD j 0 : Nat) : Int))
theorem Tab.lt {w : World} (h : Tab w) : 0 < w.heap.size := cell_lt (h 0 (by omega))
theorem Tab.below {w w' : World} (h : Tab w) (hb : Below w.heap.size w w') : Tab w' := fun j hj => (hb.cell (p := ⟨0, j, none⟩) h.lt).trans (h j hj)

theorem tab_lt : ∀ r, r < 16 → tab[r]?.getD 0 < 4294967296 := by decide
theorem xor_step (s : Nat) (hs : s < 4294967296) : bits .xor .u32 ((s : Int) / 16) (((tab[s % 16]?).getD 0 : Nat) : Int) = ((stepN s : Nat) : Int) := by
  have h := u32_xor_nat (s / 16) ((tab[s % 16]?).getD 0) (by omega) (tab_lt _ (Nat.mod_lt _ (by omega)))
  have e : (((s / 16 : Nat)) : Int) = (s : Int) / 16 := by omega
  rw [e] at h
  rw [h]
  unfold stepN
  rw [List.getD_eq_getElem?_getD]

set_option maxHeartbeats 1000000 in
theorem step_any (s : Nat) (w : World) (hs : s < 4294967296) (ht : Tab w) :
    Calls Tryd.prog 68 #[.int .u32 (s : Int)] w fun e w' => e = .returned (.int .u32 ((stepN s : Nat) : Int)) ∧ w = w' := by
  have hc := ht (s % 16) (Nat.mod_lt _ (by omega))
  go_enter Tryd.func68, Tryd.ntmps68
  go_wp2
  go_ret
  exact ⟨ret_int (xor_step s hs), rfl⟩
end Go.Proofs.YthhpmhibkbndhaaDoor
/- Package sum: the sum of bytes, behind any sum. -/
namespace Go.Proofs.YthhpmhibkbndhaaDoor
open Go.RowKit Go.Lib Crc

/-- The bytes of a string, in a row of the call's own. -/
def BytesAt (W : World) (g : Nat) (l : List UInt8) : Prop := g < W.heap.size ∧ ∀ j, j < l.length → W.cell? ⟨g, j, none⟩ = some (.int .u8 (((l.getD j 0).toNat : Nat) : Int)) ∧ W.frozen? ⟨g, j, none⟩ = false
theorem bytes_conv (b : ByteArray) (w : World) : ∃ c W1, (convert 9 59 (.string b)).run Tryd.prog w = .ok (.slice (some ⟨w.heap.size, 0, none⟩) b.size c) W1 ∧ BytesAt W1 w.heap.size b.data.toList ∧ Below w.heap.size w W1 := by
  refine ⟨_, _, run_bytes_of_string (P := Tryd.prog) w 9 59 5 b Tryd.underlying9 Tryd.underlying59 Tryd.underlying5, ⟨by simp, fun j hj => ⟨?_, ?_⟩⟩, ?_⟩
  · have hj' : j < b.data.size := by simpa using hj
    have h1 := bytesRow_at b (grownCap w b.size 0 5) j hj'
    refine (World.cell?_alloc_mark w.drew _ _ _ j).trans ?_
    rw [h1, List.getD_eq_getElem?_getD, List.getElem?_eq_getElem hj]
    simp
  · refine (World.frozen?_alloc_mark w.drew _ _ _ _ j).trans ?_
    have h2 : j < (bytesRow b (grownCap w b.size 0 5)).size := by
      have hj' : j < b.data.size := by simpa using hj
      have h3 : (bytesRow b (grownCap w b.size 0 5)).size = b.data.size + (grownCap w b.size 0 5 - b.size) := by unfold bytesRow; simp
      omega
    rw [decide_eq_false (by omega)]
    rfl
  · exact ((Below.refl _ _).drew).alloc (Nat.le_refl _) _

theorem not_nat (s : Nat) (hs : s < 4294967296) : 4294967295 ^^^ s = 4294967295 - s := by
  apply Nat.eq_of_testBit_eq
  intro i
  have h1 := Nat.testBit_two_pow_sub_succ (x := s) (n := 32) hs i
  rw [show 2 ^ 32 - (s + 1) = 4294967295 - s by omega] at h1
  rw [h1, Nat.testBit_xor, show (4294967295 : Nat) = 2 ^ 32 - 1 from rfl, Nat.testBit_two_pow_sub_one]
  by_cases hi : i < 32
  · simp [hi]
  · have : s.testBit i = false := Nat.testBit_lt_two_pow (Nat.lt_of_lt_of_le hs (Nat.pow_le_pow_right (n := 2) (i := 32) (by omega) (by omega)))
    simp [hi, this]
theorem not_u32 (s : Nat) (hs : s < 4294967296) : bits .xor .u32 IntKind.u32.max (s : Int) = ((4294967295 - s : Nat) : Int) := by
  have h := u32_xor_nat 4294967295 s (by omega) hs
  have e : IntKind.u32.max = ((4294967295 : Nat) : Int) := rfl
  rw [e, h]
  congr 1
  exact not_nat s hs
theorem xor_byte (s : Nat) (x : UInt8) (hs : s < 4294967296) : bits .xor .u32 (s : Int) ((x.toNat : Nat) : Int) = ((s ^^^ x.toNat : Nat) : Int) :=
  u32_xor_nat s x.toNat hs (by have := x.toNat_lt; omega)

theorem take_next (l : List UInt8) (k : Nat) (h : k < l.length) : l.take (k + 1) = l.take k ++ [l.getD k 0] := by
  rw [List.take_succ_eq_append_getElem h, List.getD_eq_getElem?_getD, List.getElem?_eq_getElem h]; rfl
theorem crc_next (s : Nat) (l : List UInt8) (k : Nat) (h : k < l.length) : stepN (stepN (crc s (l.take k) ^^^ (l.getD k 0).toNat)) = crc s (l.take (k + 1)) := by
  rw [take_next l k h, crc_snoc, step2_eq]

set_option maxRecDepth 100000 in
set_option maxHeartbeats 2000000 in
theorem Sum_any (s : Nat) (b : ByteArray) (w : World) (hs : s < 4294967296) (hb : b.size ≤ 9223372036854775807) (ht : Tab w) :
    Calls Tryd.prog 57 #[.int .u32 (s : Int), .string b] w fun e w' => e = .returned (.int .u32 ((sumN s b.data.toList : Nat) : Int)) ∧ Below w.heap.size w w' := by
  obtain ⟨c, W1, hcv, hby, hbel⟩ := bytes_conv b w
  have HT := Lib.hid (ht.below hbel)
  have HN := not_u32 s hs
  have HB := Lib.hid hby
  have HL := Lib.hid hbel
  have HZ : Hid (b.data.toList.length = b.size) := by show _ = _; rw [Array.length_toList]; rfl
  clear ht hby hbel
  go_enter Tryd.func57, Tryd.ntmps57
  go_wp2_with fail
  clear HN hcv
  go_loop [0, 12] (fun v i => ∃ k m : Nat, k ≤ b.size ∧ i = .int .i64 (k : Int) ∧ v = .int .u32 (m : Int) ∧ m < 4294967296 ∧ m = crc (4294967295 - s) (b.data.toList.take k)) (fun _ i => b.size - (RowKit.intOf i).toNat)
  case atStart => exact ⟨0, _, Nat.zero_le _, rfl, rfl, by omega, rfl⟩
  case round =>
    obtain ⟨k, m, hk, rfl, rfl, hm, hcrc⟩ := hrel
    by_cases hlt : k < b.size
    · have hkl : k < b.data.toList.length := by rw [HZ.out]; exact hlt
      have hcl := (HB.out.2 k hkl).1
      have hc := crc_next (4294967295 - s) b.data.toList k hkl
      rw [← hcrc] at hc
      obtain ⟨x, hx⟩ : ∃ x, b.data.toList.getD k 0 = x := ⟨_, rfl⟩
      rw [hx] at hcl hc
      have hx256 : x.toNat < 256 := x.toNat_lt
      have HX := xor_byte m x hm
      have h2 := byte_lt hm x
      have HC := Lib.hid hc
      clear hkl hc hx hcrc
      go_wp2_with fail
      clear HX
      refine (step_any (m ^^^ x.toNat) _ h2 HT.out).mono ?_
      rintro e w' ⟨rfl, rfl⟩
      go_wp2_with fail
      refine (step_any _ _ (by rw [step_eq]; exact R4_lt h2) HT.out).mono ?_
      rintro e w' ⟨rfl, rfl⟩
      have HR := Lib.hid (show stepN (stepN (m ^^^ x.toNat)) < 4294967296 by rw [step2_eq]; exact R8_lt h2)
      go_wp2_with fail
      go_round
      case rel => exact ⟨k + 1, _, hlt, by go_num, rfl, HR.out, HC.out⟩
      case measure => simp [RowKit.intOf]; omega
    · have he : m = crc (4294967295 - s) b.data.toList := by rw [hcrc, List.take_of_length_le (by rw [HZ.out]; omega)]
      have HN := not_u32 m hm
      have HE := Lib.hid he
      clear he hcrc
      go_wp2_with fail
      go_ret
      exact ⟨ret_int (by rw [HE.out]; rfl), HL.out⟩

/-- A call of Sum, its answer named. -/
theorem Sum_is (s : Nat) (b : ByteArray) (N : Nat) (w : World) (hs : s < 4294967296) (hb : b.size ≤ 9223372036854775807) (ht : Tab w) (hN : sumN s b.data.toList = N) :
    Calls Tryd.prog 57 #[.int .u32 (s : Int), .string b] w fun e w' => e = .returned (.int .u32 (N : Int)) ∧ Below w.heap.size w w' := by
  rw [← hN]
  exact Sum_any s b w hs hb ht
end Go.Proofs.YthhpmhibkbndhaaDoor
/- Package rec: the bytes of a record that may be. -/
namespace Go.Proofs.YthhpmhibkbndhaaDoor
open Go.RowKit Go.Lib Vbi Rcd Crc

theorem as_int (v : Value) (w : World) : (Instr.typeAssert (.iface 3 v) 20 3 false).run Tryd.prog w = .ok v w := by kernel_rfl
theorem as_string (v : Value) (w : World) : (Instr.typeAssert (.iface 9 v) 20 9 false).run Tryd.prog w = .ok v w := by kernel_rfl

set_option maxRecDepth 100000 in
set_option maxHeartbeats 4000000 in
/-- rec.valueOf, part by part. -/
theorem valueOf_is (o t : Int) (k b : ByteArray) (q : Nat) (g : Bool) (F : Nat) (p : Int) (V : Value) (w : World) (hq : q < 3) (hF : (q + if g then 4 else 0) = F)
    (hp : (p = 111 ∧ V = .iface 3 (.int .i64 o)) ∨ (p = 116 ∧ V = .iface 3 (.int .i64 t)) ∨ (p = 102 ∧ V = .iface 3 (.int .i64 (F : Int))) ∨ (p = 107 ∧ V = .iface 9 (.string k)) ∨ (p = 98 ∧ V = .iface 9 (.string b))) :
    Calls Tryd.prog 55 #[.int .i32 p, .agg (rarr o t k b (q : Int) g)] w fun e w' => e = .returned V ∧ Below w.heap.size w w' := by
  have HG := Lib.hid (fun W => flagsOf_is o t k b q g F W hq hF)
  have R0 := Lib.hid (RBox.new w 42 (rarr o t k b (q : Int) g))
  obtain ⟨W0, hW⟩ : ∃ W0, w.alloc (.cells (rarr o t k b (q : Int) g) 42) = W0 := ⟨_, rfl⟩
  rw [hW] at R0
  unfold rarr at hW R0 HG ⊢
  have HW := Lib.hid hW
  clear hW hF hq
  rcases hp with ⟨rfl, rfl⟩ | ⟨rfl, rfl⟩ | ⟨rfl, rfl⟩ | ⟨rfl, rfl⟩ | ⟨rfl, rfl⟩
  all_goals
    go_enter Tryd.func55, Tryd.ntmps55
    go_upto_region 1 with fail
    rw [HW.out]
    clear HW
    generalize Value.agg _ = v1
    obtain ⟨p, hp⟩ : ∃ p, w.heap.size = p := ⟨_, rfl⟩
    rw [hp] at R0 ⊢
    clear hp
    have hld := R0.out.load rfl
    have d0 : W0.cell? ⟨p, 0, none⟩ = some (.int .i64 o) := R0.out.cell 0
    have d1 : W0.cell? ⟨p, 1, none⟩ = some (.int .i64 t) := R0.out.cell 1
    have d2 : W0.cell? ⟨p, 2, none⟩ = some (.string k) := R0.out.cell 2
    have d3 : W0.cell? ⟨p, 3, none⟩ = some (.string b) := R0.out.cell 3
  · go_wp2_with fail
    go_ret
    exact ⟨rfl, R0.out.out.2⟩
  · go_wp2_with fail
    go_ret
    exact ⟨rfl, R0.out.out.2⟩
  · go_wp2_with (refine wpList_load_any (by rfl) 42 (.tmp 3) rfl p 0 rfl _ hld ?_; simp only [Act.put])
    refine (HG.out _).mono ?_
    rintro e w1 ⟨rfl, hb1⟩
    go_wp2_with fail
    go_ret
    exact ⟨rfl, R0.out.out.2.trans (hb1.mono R0.out.out.2.size)⟩
  · go_wp2_with fail
    go_ret
    exact ⟨rfl, R0.out.out.2⟩
  · go_wp2_with fail
    go_ret
    exact ⟨rfl, R0.out.out.2⟩

theorem byte_str (F : Nat) (h : F < 256) : strOfNums [(F : Int)] = str [UInt8.ofNat F] := by rw [str_nums]; unfold bytesOf; rw [List.map_cons, List.map_nil, Int.toNat_natCast]
set_option maxRecDepth 100000 in
set_option maxHeartbeats 4000000 in
/-- rec.put, part by part. -/
theorem put_is (p : Int) (V : Value) (S : ByteArray) (w : World)
    (hp : ((p = 111 ∨ p = 116) ∧ ∃ n : Nat, n < 9223372036854775808 ∧ V = .iface 3 (.int .i64 (n : Int)) ∧ str (fx 8 n) = S) ∨ (p = 102 ∧ ∃ F : Nat, F < 8 ∧ V = .iface 3 (.int .i64 (F : Int)) ∧ str [UInt8.ofNat F] = S) ∨
      (p = 107 ∧ ∃ k : ByteArray, k.size ≤ 1024 ∧ V = .iface 9 (.string k) ∧ str (fx 2 k.size ++ k.data.toList) = S) ∨ (p = 98 ∧ V = .iface 9 (.string S))) :
    Calls Tryd.prog 54 #[.int .i32 p, V] w fun e w' => e = .returned (.string S) ∧ Below w.heap.size w w' := by
  have hai := as_int
  have has := as_string
  rcases hp with ⟨hp, n, hn, rfl, hS⟩ | ⟨rfl, F, hF, rfl, hS⟩ | ⟨rfl, k, hk, rfl, hS⟩ | ⟨rfl, rfl⟩
  · have HP := Lib.hid (fun W => putLong_is n S W hn hS)
    clear hS hn
    rcases hp with rfl | rfl
    all_goals
      go_enter Tryd.func54, Tryd.ntmps54
      go_wp2_with fail
      refine (HP.out _).mono ?_
      rintro e w1 ⟨rfl, hb1⟩
      go_wp2_with fail
      go_ret
      exact ⟨rfl, hb1⟩
  · rw [← byte_str F (by omega)] at hS
    subst hS
    have hcv : (convert 59 9 (.slice (some ⟨w.heap.size, 0, none⟩) 1 1)).run Tryd.prog (w.alloc (.cells #[.int .u8 (F : Int)] 5)) = .ok (.string (strOfNums [(F : Int)])) (w.alloc (.cells #[.int .u8 (F : Int)] 5)) := by
      have hl := lit_nums w #[.int .u8 (F : Int)] [(F : Int)] .u8 5 rfl
      obtain ⟨a, ha, _, hc⟩ := hl.some_ (by simp)
      injection ha with ha
      subst ha
      exact run_convert_bytes_arg _ 59 5 Tryd.underlying59 Tryd.underlying5 w.heap.size 0 1 1 [(F : Int)] rfl (fun i hi => by
        have := hc i (by simpa using hi)
        rw [add_new] at this
        rw [Nat.zero_add]; exact this) 9 Tryd.underlying9
    have hF1 : (F : Int) < 256 := by omega
    go_enter Tryd.func54, Tryd.ntmps54
    go_wp2_with fail
    go_ret
    exact ⟨rfl, (Below.refl _ _).alloc (Nat.le_refl _) _⟩
  · rw [← str_add, ← str_fx, data_str] at hS
    have HB := Lib.hid (fun W => Bin_good k S W hk hS)
    clear hS
    go_enter Tryd.func54, Tryd.ntmps54
    go_wp2_with fail
    refine (HB.out _).mono ?_
    rintro e w1 ⟨rfl, hb1⟩
    go_wp2_with fail
    go_ret
    exact ⟨rfl, hb1⟩
  · go_enter Tryd.func54, Tryd.ntmps54
    go_wp2_with fail
    go_ret
    exact ⟨rfl, Below.refl _ _⟩

set_option maxRecDepth 100000 in
set_option maxHeartbeats 1000000 in
/-- rec.sealOf. -/
theorem sealOf_is (a b : ByteArray) (N : Nat) (w : World) (ha : a.size ≤ 1000000) (hb : b.size ≤ 1000000) (ht : Tab w) (hN : sumN 0 (a.data.toList ++ b.data.toList) = N) :
    Calls Tryd.prog 45 #[.string a, .string b] w fun e w' => e = .returned (.int .i64 (N : Int)) ∧ Below w.heap.size w w' := by
  obtain ⟨M, hM⟩ : ∃ M, sumN 0 a.data.toList = M := ⟨_, rfl⟩
  have hM32 : M < 4294967296 := by rw [← hM]; exact sum_lt _ _
  have hN32 : N < 4294967296 := by rw [← hN]; exact sum_lt _ _
  rw [← sum_append, hM] at hN
  have H1 := Lib.hid (Sum_is 0 a M w (by omega) (by omega) ht hM)
  have H2 := Lib.hid (fun W (h : Below w.heap.size w W) => Sum_is M b N W hM32 (by omega) (ht.below h) hN)
  clear ht hM hN
  go_enter Tryd.func45, Tryd.ntmps45
  go_wp2_with fail
  refine H1.out.mono ?_
  rintro e w1 ⟨rfl, hb1⟩
  go_wp2_with fail
  refine (H2.out _ hb1).mono ?_
  rintro e w2 ⟨rfl, hb2⟩
  go_wp2_with fail
  go_ret
  exact ⟨rfl, hb1.trans (hb2.mono hb1.size)⟩
end Go.Proofs.YthhpmhibkbndhaaDoor
/- Package rec: one part taken; a record with one part more. -/
namespace Go.Proofs.YthhpmhibkbndhaaDoor
open Go.RowKit Go.Lib Vbi Rcd Crc

theorem bits_and4 : ∀ f : Nat, f < 256 → bits .and .i64 (f : Int) 4 = ((4 * (f / 4 % 2) : Nat) : Int) := by decide +kernel
theorem bits_not4 : ∀ f : Nat, f < 256 → bits .andNot .i64 (f : Int) 4 = ((f - 4 * (f / 4 % 2) : Nat) : Int) := by decide +kernel

set_option maxRecDepth 100000 in
set_option maxHeartbeats 1000000 in
/-- rec.takeByte. -/
theorem takeByte_some (s : ByteArray) (f : UInt8) (t : List UInt8) (w : World) (h : s.data.toList = f :: t) (hm : s.size ≤ 1000000) :
    Calls Tryd.prog 73 #[.string s] w fun e w' => e = .returned (.tuple #[.int .i64 (f.toNat : Int), .int .i64 1, .int .i64 0]) ∧ w = w' := by
  have hl : s.data.toList.length = s.size := by rw [Array.length_toList]; rfl
  have h0 : 0 < s.size := by rw [← hl, h]; simp
  have hne : ¬ s = ⟨#[]⟩ := by intro e; rw [e] at h0; exact absurd h0 (by decide)
  obtain ⟨hi1, hi2⟩ := ne_empty hne
  have hne2 : ¬ s = ByteArray.empty := hne
  have he : s[0]'h0 = f := by
    have := data_at s 0 h0
    rw [List.drop_zero, h] at this
    exact (List.cons.inj this).1.symm
  have hf := f.toNat_lt
  obtain rfl := he
  clear h hl
  go_enter Tryd.func73, Tryd.ntmps73
  go_wp2_with fail
  go_ret3
  exact ⟨rfl, rfl⟩
set_option maxRecDepth 100000 in
set_option maxHeartbeats 1000000 in
theorem takeByte_none (w : World) :
    Calls Tryd.prog 73 #[.string ⟨#[]⟩] w fun e w' => e = .returned (.tuple #[.int .i64 0, .int .i64 0, .int .i64 7]) ∧ w = w' := by
  go_enter Tryd.func73, Tryd.ntmps73
  go_wp2_with fail
  go_ret3
  exact ⟨rfl, rfl⟩

set_option maxRecDepth 100000 in
set_option maxHeartbeats 4000000 in
/-- rec.take, of a long number. -/
theorem take_long (p : Int) (s : ByteArray) (N K E : Int) (w : World) (hp : p = 111 ∨ p = 116)
    (h : ∀ W, Calls Tryd.prog 72 #[.string s] W fun e w' => e = .returned (.tuple #[.int .i64 N, .int .i64 K, .int .i64 E]) ∧ W = w') :
    Calls Tryd.prog 70 #[.int .i32 p, .string s] w fun e w' => e = .returned (.tuple #[.iface 3 (.int .i64 N), .int .i64 K, .int .i64 E]) ∧ Below w.heap.size w w' := by
  have H := Lib.hid h
  clear h
  rcases hp with rfl | rfl
  all_goals
    go_enter Tryd.func70, Tryd.ntmps70
    go_wp2_with fail
    refine (H.out _).mono ?_
    rintro e w1 ⟨rfl, rfl⟩
    go_wp2_with fail
    go_ret3
    exact ⟨rfl, Below.refl _ _⟩
set_option maxRecDepth 100000 in
set_option maxHeartbeats 4000000 in
/-- rec.take, of a byte. -/
theorem take_byte (s : ByteArray) (N K E : Int) (w : World)
    (h : ∀ W, Calls Tryd.prog 73 #[.string s] W fun e w' => e = .returned (.tuple #[.int .i64 N, .int .i64 K, .int .i64 E]) ∧ W = w') :
    Calls Tryd.prog 70 #[.int .i32 102, .string s] w fun e w' => e = .returned (.tuple #[.iface 3 (.int .i64 N), .int .i64 K, .int .i64 E]) ∧ Below w.heap.size w w' := by
  have H := Lib.hid h
  clear h
  go_enter Tryd.func70, Tryd.ntmps70
  go_wp2_with fail
  refine (H.out _).mono ?_
  rintro e w1 ⟨rfl, rfl⟩
  go_wp2_with fail
  go_ret3
  exact ⟨rfl, Below.refl _ _⟩
set_option maxRecDepth 100000 in
set_option maxHeartbeats 4000000 in
/-- rec.take, of bytes with their length. -/
theorem take_key (s S : ByteArray) (K E : Int) (w : World) (hm : s.size ≤ 1000000) (h : tb s = (S, K, E)) :
    Calls Tryd.prog 70 #[.int .i32 107, .string s] w fun e w' => e = .returned (.tuple #[.iface 9 (.string S), .int .i64 K, .int .i64 E]) ∧ Below w.heap.size w w' := by
  have H := Lib.hid (fun W => TakeBin_is s S K E W (by omega) h)
  clear h
  go_enter Tryd.func70, Tryd.ntmps70
  go_wp2_with fail
  refine (H.out _).mono ?_
  rintro e w1 ⟨rfl, hb1⟩
  go_wp2_with fail
  go_ret3
  exact ⟨rfl, hb1⟩
set_option maxRecDepth 100000 in
set_option maxHeartbeats 4000000 in
/-- rec.take, of all that is left. -/
theorem take_rest (s : ByteArray) (w : World) (hm : s.size ≤ 1000000) :
    Calls Tryd.prog 70 #[.int .i32 98, .string s] w fun e w' => e = .returned (.tuple #[.iface 9 (.string s), .int .i64 (s.size : Int), .int .i64 0]) ∧ Below w.heap.size w w' := by
  have H := Lib.hid (fun W => Clone_same s W (by omega))
  go_enter Tryd.func70, Tryd.ntmps70
  go_wp2_with fail
  refine (H.out _).mono ?_
  rintro e w1 ⟨rfl, hb1⟩
  go_wp2_with fail
  go_ret3
  exact ⟨rfl, hb1⟩

/-- What 'with' leaves behind its stores: the record in its box, the result's cell as it began. -/
structure WB (w : World) (g : Nat) (cs : Array Value) (W : World) : Prop where
  box : Blk W g cs
  res : Blk W (g + 1) zcells
  bel : Below w.heap.size w W
  lo : w.heap.size ≤ g
theorem WB.start (w : World) (cs : Array Value) : WB w w.heap.size cs ((w.alloc (.cells cs 42)).alloc (.cells zcells 42)) := by
  have h1 := Blk.new w 42 cs
  have z0 : (w.alloc (.cells cs 42)).heap.size = w.heap.size + 1 := by simp
  have x0 : Below w.heap.size w (w.alloc (.cells cs 42)) := (Below.refl _ _).alloc (Nat.le_refl _) _
  generalize w.alloc (.cells cs 42) = w1 at h1 z0 x0 ⊢
  have h2 := Blk.new w1 42 zcells
  rw [z0] at h2
  exact ⟨h1.alloc _, h2, x0.alloc (by omega) _, Nat.le_refl _⟩
theorem WB.put {w W : World} {g : Nat} {cs : Array Value} (h : WB w g cs W) (i : Nat) (v : Value) : WB w g (cs.setIfInBounds i v) (W.setCell ⟨g, i, none⟩ v) :=
  ⟨h.box.put i v, h.res.far (by simp) v, h.bel.setCell (p := ⟨g, i, none⟩) h.lo v, h.lo⟩
theorem WB.row {w W : World} {g : Nat} {cs : Array Value} (h : WB w g cs W) (ds : Array Value) : Blk (W.setRow (g + 1) ds) (g + 1) ds ∧ Below w.heap.size w (W.setRow (g + 1) ds) :=
  ⟨h.res.row ds, below_row h.bel (by have := h.lo; omega) ds⟩

set_option maxRecDepth 100000 in
set_option maxHeartbeats 4000000 in
theorem with_o (o t : Int) (k b : ByteArray) (q : Int) (g : Bool) (n : Int) (w : World) :
    Calls Tryd.prog 71 #[.agg (rarr o t k b q g), .int .i32 111, .iface 3 (.int .i64 n)] w fun e w' => e = .returned (.agg (rarr n t k b q g)) ∧ Below w.heap.size w w' := by
  have R0 := Lib.hid (WB.start w (rarr o t k b q g))
  have hai := as_int
  have has := as_string
  obtain ⟨W0, hW⟩ : ∃ W0, (w.alloc (.cells (rarr o t k b q g) 42)).alloc (.cells zcells 42) = W0 := ⟨_, rfl⟩
  rw [hW] at R0
  unfold rarr zcells at hW
  unfold rarr at R0 ⊢
  have HW := Lib.hid hW
  clear hW
  go_enter Tryd.func71, Tryd.ntmps71
  go_upto_region 1 with fail
  rw [HW.out]
  clear HW
  obtain ⟨p, hp⟩ : ∃ p, w.heap.size = p := ⟨_, rfl⟩
  rw [hp] at R0
  rw [hp]
  clear hp
  have d0 : W0.cell? ⟨p, 0, none⟩ = some (.int .i64 o) := R0.out.box.cell 0
  have f0 : W0.frozen? ⟨p, 0, none⟩ = false := R0.out.box.frozen 0
  have R1 := Lib.hid ((R0.out).put 0 (.int .i64 n))
  simp only [List.setIfInBounds_toArray, List.set_cons_zero, List.set_cons_succ] at R1
  go_upto_region 14 with fail
  generalize World.setCell _ _ _ = W1 at R1 ⊢
  clear d0 f0
  have hld := load_blk R1.out.box rfl
  have hr := R1.out.row (rarr n t k b q g)
  unfold rarr at hr
  have HR := Lib.hid hr
  clear R0 hr
  go_wp2_with (first | (refine wpList_load_any (by rfl) 42 (.tmp 3) rfl p 0 rfl _ hld ?_; simp only [Act.put]) | (refine wpList_store_whole rfl 42 (.tmp 6) (.tmp 40) rfl (p + 1) _ rfl rfl zcells R1.out.res info_rec rfl (one_arr _ _ _ _ _ _) ?_; simp only [Act.put]))
  refine bodyPost_ret (results_rec Tryd.results71 rfl HR.out.1 rfl) rfl ⟨rfl, HR.out.2⟩
set_option maxRecDepth 100000 in
set_option maxHeartbeats 4000000 in
theorem with_t (o t : Int) (k b : ByteArray) (q : Int) (g : Bool) (n : Int) (w : World) :
    Calls Tryd.prog 71 #[.agg (rarr o t k b q g), .int .i32 116, .iface 3 (.int .i64 n)] w fun e w' => e = .returned (.agg (rarr o n k b q g)) ∧ Below w.heap.size w w' := by
  have R0 := Lib.hid (WB.start w (rarr o t k b q g))
  have hai := as_int
  have has := as_string
  obtain ⟨W0, hW⟩ : ∃ W0, (w.alloc (.cells (rarr o t k b q g) 42)).alloc (.cells zcells 42) = W0 := ⟨_, rfl⟩
  rw [hW] at R0
  unfold rarr zcells at hW
  unfold rarr at R0 ⊢
  have HW := Lib.hid hW
  clear hW
  go_enter Tryd.func71, Tryd.ntmps71
  go_upto_region 1 with fail
  rw [HW.out]
  clear HW
  obtain ⟨p, hp⟩ : ∃ p, w.heap.size = p := ⟨_, rfl⟩
  rw [hp] at R0
  rw [hp]
  clear hp
  have d1 : W0.cell? ⟨p, 1, none⟩ = some (.int .i64 t) := R0.out.box.cell 1
  have f1 : W0.frozen? ⟨p, 1, none⟩ = false := R0.out.box.frozen 1
  have R1 := Lib.hid ((R0.out).put 1 (.int .i64 n))
  simp only [List.setIfInBounds_toArray, List.set_cons_zero, List.set_cons_succ] at R1
  go_upto_region 14 with fail
  generalize World.setCell _ _ _ = W1 at R1 ⊢
  clear d1 f1
  have hld := load_blk R1.out.box rfl
  have hr := R1.out.row (rarr o n k b q g)
  unfold rarr at hr
  have HR := Lib.hid hr
  clear R0 hr
  go_wp2_with (first | (refine wpList_load_any (by rfl) 42 (.tmp 3) rfl p 0 rfl _ hld ?_; simp only [Act.put]) | (refine wpList_store_whole rfl 42 (.tmp 6) (.tmp 40) rfl (p + 1) _ rfl rfl zcells R1.out.res info_rec rfl (one_arr _ _ _ _ _ _) ?_; simp only [Act.put]))
  refine bodyPost_ret (results_rec Tryd.results71 rfl HR.out.1 rfl) rfl ⟨rfl, HR.out.2⟩
set_option maxRecDepth 100000 in
set_option maxHeartbeats 4000000 in
theorem with_k (o t : Int) (k b : ByteArray) (q : Int) (g : Bool) (s : ByteArray) (w : World) :
    Calls Tryd.prog 71 #[.agg (rarr o t k b q g), .int .i32 107, .iface 9 (.string s)] w fun e w' => e = .returned (.agg (rarr o t s b q g)) ∧ Below w.heap.size w w' := by
  have R0 := Lib.hid (WB.start w (rarr o t k b q g))
  have hai := as_int
  have has := as_string
  obtain ⟨W0, hW⟩ : ∃ W0, (w.alloc (.cells (rarr o t k b q g) 42)).alloc (.cells zcells 42) = W0 := ⟨_, rfl⟩
  rw [hW] at R0
  unfold rarr zcells at hW
  unfold rarr at R0 ⊢
  have HW := Lib.hid hW
  clear hW
  go_enter Tryd.func71, Tryd.ntmps71
  go_upto_region 1 with fail
  rw [HW.out]
  clear HW
  obtain ⟨p, hp⟩ : ∃ p, w.heap.size = p := ⟨_, rfl⟩
  rw [hp] at R0
  rw [hp]
  clear hp
  have d2 : W0.cell? ⟨p, 2, none⟩ = some (.string k) := R0.out.box.cell 2
  have f2 : W0.frozen? ⟨p, 2, none⟩ = false := R0.out.box.frozen 2
  have R1 := Lib.hid ((R0.out).put 2 (.string s))
  simp only [List.setIfInBounds_toArray, List.set_cons_zero, List.set_cons_succ] at R1
  go_upto_region 14 with fail
  generalize World.setCell _ _ _ = W1 at R1 ⊢
  clear d2 f2
  have hld := load_blk R1.out.box rfl
  have hr := R1.out.row (rarr o t s b q g)
  unfold rarr at hr
  have HR := Lib.hid hr
  clear R0 hr
  go_wp2_with (first | (refine wpList_load_any (by rfl) 42 (.tmp 3) rfl p 0 rfl _ hld ?_; simp only [Act.put]) | (refine wpList_store_whole rfl 42 (.tmp 6) (.tmp 40) rfl (p + 1) _ rfl rfl zcells R1.out.res info_rec rfl (one_arr _ _ _ _ _ _) ?_; simp only [Act.put]))
  refine bodyPost_ret (results_rec Tryd.results71 rfl HR.out.1 rfl) rfl ⟨rfl, HR.out.2⟩
set_option maxRecDepth 100000 in
set_option maxHeartbeats 4000000 in
theorem with_b (o t : Int) (k b : ByteArray) (q : Int) (g : Bool) (s : ByteArray) (w : World) :
    Calls Tryd.prog 71 #[.agg (rarr o t k b q g), .int .i32 98, .iface 9 (.string s)] w fun e w' => e = .returned (.agg (rarr o t k s q g)) ∧ Below w.heap.size w w' := by
  have R0 := Lib.hid (WB.start w (rarr o t k b q g))
  have hai := as_int
  have has := as_string
  obtain ⟨W0, hW⟩ : ∃ W0, (w.alloc (.cells (rarr o t k b q g) 42)).alloc (.cells zcells 42) = W0 := ⟨_, rfl⟩
  rw [hW] at R0
  unfold rarr zcells at hW
  unfold rarr at R0 ⊢
  have HW := Lib.hid hW
  clear hW
  go_enter Tryd.func71, Tryd.ntmps71
  go_upto_region 1 with fail
  rw [HW.out]
  clear HW
  obtain ⟨p, hp⟩ : ∃ p, w.heap.size = p := ⟨_, rfl⟩
  rw [hp] at R0
  rw [hp]
  clear hp
  have d3 : W0.cell? ⟨p, 3, none⟩ = some (.string b) := R0.out.box.cell 3
  have f3 : W0.frozen? ⟨p, 3, none⟩ = false := R0.out.box.frozen 3
  have R1 := Lib.hid ((R0.out).put 3 (.string s))
  simp only [List.setIfInBounds_toArray, List.set_cons_zero, List.set_cons_succ] at R1
  go_upto_region 14 with fail
  generalize World.setCell _ _ _ = W1 at R1 ⊢
  clear d3 f3
  have hld := load_blk R1.out.box rfl
  have hr := R1.out.row (rarr o t k s q g)
  unfold rarr at hr
  have HR := Lib.hid hr
  clear R0 hr
  go_wp2_with (first | (refine wpList_load_any (by rfl) 42 (.tmp 3) rfl p 0 rfl _ hld ?_; simp only [Act.put]) | (refine wpList_store_whole rfl 42 (.tmp 6) (.tmp 40) rfl (p + 1) _ rfl rfl zcells R1.out.res info_rec rfl (one_arr _ _ _ _ _ _) ?_; simp only [Act.put]))
  refine bodyPost_ret (results_rec Tryd.results71 rfl HR.out.1 rfl) rfl ⟨rfl, HR.out.2⟩
set_option maxRecDepth 100000 in
set_option maxHeartbeats 4000000 in
theorem with_f1 (o t : Int) (k b : ByteArray) (q : Int) (g : Bool) (f : Nat) (Q : Int) (w : World) (ha : bits .and .i64 (f : Int) 4 = 4) (hn : bits .andNot .i64 (f : Int) 4 = Q) :
    Calls Tryd.prog 71 #[.agg (rarr o t k b q g), .int .i32 102, .iface 3 (.int .i64 (f : Int))] w fun e w' => e = .returned (.agg (rarr o t k b Q true)) ∧ Below w.heap.size w w' := by
  have R0 := Lib.hid (WB.start w (rarr o t k b q g))
  have hai := as_int
  have has := as_string
  obtain ⟨W0, hW⟩ : ∃ W0, (w.alloc (.cells (rarr o t k b q g) 42)).alloc (.cells zcells 42) = W0 := ⟨_, rfl⟩
  rw [hW] at R0
  unfold rarr zcells at hW
  unfold rarr at R0 ⊢
  have HW := Lib.hid hW
  clear hW
  go_enter Tryd.func71, Tryd.ntmps71
  go_upto_region 1 with fail
  rw [HW.out]
  clear HW
  obtain ⟨p, hp⟩ : ∃ p, w.heap.size = p := ⟨_, rfl⟩
  rw [hp] at R0
  rw [hp]
  clear hp
  have d5 : W0.cell? ⟨p, 5, none⟩ = some (.bool g) := R0.out.box.cell 5
  have f5 : W0.frozen? ⟨p, 5, none⟩ = false := R0.out.box.frozen 5
  have d4 : W0.cell? ⟨p, 4, none⟩ = some (.int .i64 q) := R0.out.box.cell 4
  have f4 : W0.frozen? ⟨p, 4, none⟩ = false := R0.out.box.frozen 4
  have R1 := Lib.hid (((R0.out).put 5 (.bool true)).put 4 (.int .i64 Q))
  simp only [List.setIfInBounds_toArray, List.set_cons_zero, List.set_cons_succ] at R1
  go_upto_region 14 with fail
  generalize World.setCell _ _ _ = W1 at R1 ⊢
  clear d5 f5 d4 f4
  have hld := load_blk R1.out.box rfl
  have hr := R1.out.row (rarr o t k b Q true)
  unfold rarr at hr
  have HR := Lib.hid hr
  clear R0 hr
  go_wp2_with (first | (refine wpList_load_any (by rfl) 42 (.tmp 3) rfl p 0 rfl _ hld ?_; simp only [Act.put]) | (refine wpList_store_whole rfl 42 (.tmp 6) (.tmp 40) rfl (p + 1) _ rfl rfl zcells R1.out.res info_rec rfl (one_arr _ _ _ _ _ _) ?_; simp only [Act.put]))
  refine bodyPost_ret (results_rec Tryd.results71 rfl HR.out.1 rfl) rfl ⟨rfl, HR.out.2⟩
set_option maxRecDepth 100000 in
set_option maxHeartbeats 4000000 in
theorem with_f0 (o t : Int) (k b : ByteArray) (q : Int) (g : Bool) (f : Nat) (Q : Int) (w : World) (ha : bits .and .i64 (f : Int) 4 = 0) (hn : bits .andNot .i64 (f : Int) 4 = Q) :
    Calls Tryd.prog 71 #[.agg (rarr o t k b q g), .int .i32 102, .iface 3 (.int .i64 (f : Int))] w fun e w' => e = .returned (.agg (rarr o t k b Q false)) ∧ Below w.heap.size w w' := by
  have R0 := Lib.hid (WB.start w (rarr o t k b q g))
  have hai := as_int
  have has := as_string
  obtain ⟨W0, hW⟩ : ∃ W0, (w.alloc (.cells (rarr o t k b q g) 42)).alloc (.cells zcells 42) = W0 := ⟨_, rfl⟩
  rw [hW] at R0
  unfold rarr zcells at hW
  unfold rarr at R0 ⊢
  have HW := Lib.hid hW
  clear hW
  go_enter Tryd.func71, Tryd.ntmps71
  go_upto_region 1 with fail
  rw [HW.out]
  clear HW
  obtain ⟨p, hp⟩ : ∃ p, w.heap.size = p := ⟨_, rfl⟩
  rw [hp] at R0
  rw [hp]
  clear hp
  have d5 : W0.cell? ⟨p, 5, none⟩ = some (.bool g) := R0.out.box.cell 5
  have f5 : W0.frozen? ⟨p, 5, none⟩ = false := R0.out.box.frozen 5
  have d4 : W0.cell? ⟨p, 4, none⟩ = some (.int .i64 q) := R0.out.box.cell 4
  have f4 : W0.frozen? ⟨p, 4, none⟩ = false := R0.out.box.frozen 4
  have R1 := Lib.hid (((R0.out).put 5 (.bool false)).put 4 (.int .i64 Q))
  simp only [List.setIfInBounds_toArray, List.set_cons_zero, List.set_cons_succ] at R1
  go_upto_region 14 with fail
  generalize World.setCell _ _ _ = W1 at R1 ⊢
  clear d5 f5 d4 f4
  have hld := load_blk R1.out.box rfl
  have hr := R1.out.row (rarr o t k b Q false)
  unfold rarr at hr
  have HR := Lib.hid hr
  clear R0 hr
  go_wp2_with (first | (refine wpList_load_any (by rfl) 42 (.tmp 3) rfl p 0 rfl _ hld ?_; simp only [Act.put]) | (refine wpList_store_whole rfl 42 (.tmp 6) (.tmp 40) rfl (p + 1) _ rfl rfl zcells R1.out.res info_rec rfl (one_arr _ _ _ _ _ _) ?_; simp only [Act.put]))
  refine bodyPost_ret (results_rec Tryd.results71 rfl HR.out.1 rfl) rfl ⟨rfl, HR.out.2⟩
/-- rec.with, of flags. -/
theorem with_f (r : Rc) (f : Nat) (w : World) (hf : f < 256) :
    Calls Tryd.prog 71 #[ragg r, .int .i32 102, .iface 3 (.int .i64 (f : Int))] w fun e w' => e = .returned (ragg (flagged r f)) ∧ Below w.heap.size w w' := by
  have h1 := bits_and4 f hf
  have h2 := bits_not4 f hf
  unfold ragg flagged
  by_cases h : f / 4 % 2 = 1
  · rw [h] at h1 h2
    have e1 : decide (f / 4 % 2 = 1) = true := decide_eq_true h
    dsimp only
    rw [e1, h]
    exact with_f1 r.o r.t (str r.k) (str r.b) r.q r.g f _ w h1 h2
  · have h0 : f / 4 % 2 = 0 := by omega
    rw [h0] at h1 h2
    have e1 : decide (f / 4 % 2 = 1) = false := decide_eq_false h
    dsimp only
    rw [e1, h0]
    exact with_f0 r.o r.t (str r.k) (str r.b) r.q r.g f _ w h1 h2
end Go.Proofs.YthhpmhibkbndhaaDoor
/- Package rec: the body of a record that may be: part by part, by the text that names the parts. -/
namespace Go.Proofs.YthhpmhibkbndhaaDoor
open Go.RowKit Go.Lib Vbi Rcd Crc

/-- The text that names the parts. -/
def lay : ByteArray := ⟨#[111, 116, 102, 107, 98]⟩
theorem lay_size : lay.size = 5 := rfl
theorem lay_at : ∀ j, j < 5 → Utf8.decode lay j = (([111, 116, 102, 107, 98] : List Nat).getD j 0, 1) := by decide
/-- A record's parts as bytes. -/
def partsL (r : Rc) : List (List UInt8) := [fx 8 r.o.toNat, fx 8 r.t.toNat, [UInt8.ofNat (flagN r)], fx 2 r.k.length ++ r.k, r.b]
theorem parts_body (r : Rc) : (partsL r).flatten = bodyL r := by unfold partsL bodyL; simp
def preS (r : Rc) (j : Nat) : ByteArray := str ((partsL r).take j).flatten
theorem pre_next (r : Rc) (j : Nat) (x : List UInt8) (h : (partsL r)[j]? = some x) : preS r (j + 1) = preS r j ++ str x := by
  unfold preS
  rw [str_add, List.take_add_one, h]
  simp
theorem pre_end (r : Rc) : preS r 5 = str (bodyL r) := by rw [← parts_body]; rfl
theorem pre_size (r : Rc) (h : mayB r = true) (j : Nat) (hj : j ≤ 5) : (preS r j).size ≤ 10000 := by
  obtain ⟨_, _, _, _, h5, h6, _⟩ := (may_iff r).1 h
  unfold preS partsL
  rw [str_size]
  rcases (by omega : j = 0 ∨ j = 1 ∨ j = 2 ∨ j = 3 ∨ j = 4 ∨ j = 5) with rfl | rfl | rfl | rfl | rfl | rfl <;> simp [fx_len] <;> omega

/-- One part: its letter, its value, its bytes. -/
theorem part_step (r : Rc) (h : mayB r = true) (j : Nat) (hj : j < 5) : ∃ (c : Nat) (V : Value) (S : ByteArray), Utf8.decode lay j = (c, 1) ∧
    (∀ W, Calls Tryd.prog 55 #[.int .i32 (c : Int), ragg r] W fun e w' => e = .returned V ∧ Below W.heap.size W w') ∧
    (∀ W, Calls Tryd.prog 54 #[.int .i32 (c : Int), V] W fun e w' => e = .returned (.string S) ∧ Below W.heap.size W w') ∧
    S.size ≤ 10000 ∧ preS r (j + 1) = preS r j ++ S := by
  have hf := flag_lt h
  obtain ⟨o, t, k, b, q, g⟩ := r
  obtain ⟨h1, h2, h3, h4, h5, h6, h7, h8, h9⟩ := (may_iff _).1 h
  simp only at h1 h2 h3 h4 h5 h6 h7 h8 h9
  obtain ⟨o, rfl⟩ := Int.eq_ofNat_of_zero_le h1
  obtain ⟨t, rfl⟩ := Int.eq_ofNat_of_zero_le h3
  obtain ⟨q, rfl⟩ := Int.eq_ofNat_of_zero_le h7
  obtain ⟨F, hF⟩ : ∃ F, flagN ⟨(o : Int), (t : Int), k, b, (q : Int), g⟩ = F := ⟨_, rfl⟩
  have hF2 : (q + if g then 4 else 0) = F := by rw [← hF]; unfold flagN; rw [Int.toNat_natCast]
  have hd := lay_at j hj
  have hks := str_size k
  have hbs := str_size b
  rcases (by omega : j = 0 ∨ j = 1 ∨ j = 2 ∨ j = 3 ∨ j = 4) with rfl | rfl | rfl | rfl | rfl
  · refine ⟨111, .iface 3 (.int .i64 (o : Int)), str (fx 8 o), hd, fun W => valueOf_is o t (str k) (str b) q g F 111 _ W (by omega) hF2 (.inl ⟨rfl, rfl⟩), fun W => put_is 111 _ _ W (.inl ⟨.inl rfl, o, by omega, rfl, rfl⟩), by rw [str_size, fx_len]; omega, ?_⟩
    exact pre_next _ 0 _ rfl
  · refine ⟨116, .iface 3 (.int .i64 (t : Int)), str (fx 8 t), hd, fun W => valueOf_is o t (str k) (str b) q g F 116 _ W (by omega) hF2 (.inr (.inl ⟨rfl, rfl⟩)), fun W => put_is 116 _ _ W (.inl ⟨.inr rfl, t, by omega, rfl, rfl⟩), by rw [str_size, fx_len]; omega, ?_⟩
    exact pre_next _ 1 _ rfl
  · refine ⟨102, .iface 3 (.int .i64 (F : Int)), str [UInt8.ofNat F], hd, fun W => valueOf_is o t (str k) (str b) q g F 102 _ W (by omega) hF2 (.inr (.inr (.inl ⟨rfl, rfl⟩))), fun W => put_is 102 _ _ W (.inr (.inl ⟨rfl, F, by omega, rfl, rfl⟩)), by rw [str_size]; simp, ?_⟩
    rw [← hF]
    exact pre_next _ 2 _ rfl
  · refine ⟨107, .iface 9 (.string (str k)), str (fx 2 k.length ++ k), hd, fun W => valueOf_is o t (str k) (str b) q g F 107 _ W (by omega) hF2 (.inr (.inr (.inr (.inl ⟨rfl, rfl⟩)))), fun W => put_is 107 _ _ W (.inr (.inr (.inl ⟨rfl, str k, by omega, rfl, by rw [str_data, hks]⟩))), by rw [str_size, List.length_append, fx_len]; omega, ?_⟩
    exact pre_next _ 3 _ rfl
  · refine ⟨98, .iface 9 (.string (str b)), str b, hd, fun W => valueOf_is o t (str k) (str b) q g F 98 _ W (by omega) hF2 (.inr (.inr (.inr (.inr ⟨rfl, rfl⟩)))), fun W => put_is 98 _ _ W (.inr (.inr (.inr ⟨rfl, rfl⟩))), by omega, ?_⟩
    exact pre_next _ 4 _ rfl

/-- Where the writing stands: the record in a box, a builder, an iterator; all that was there ahead of the call. -/
@[irreducible] def PB (w : World) (p b k : Nat) (cs : Array Value) (j : Nat) (s : ByteArray) (W : World) : Prop :=
  W.heap[p]? = some (.cells cs 42 (0, 0)) ∧ Built b b s W ∧ W.heap[k]? = some (.stringIter lay j) ∧ Below w.heap.size w W ∧ w.heap.size ≤ p ∧ p < b ∧ b < k
section
variable {w W W' : World} {p b k j : Nat} {cs : Array Value} {s : ByteArray}
theorem PB.mk (h : W.heap[p]? = some (.cells cs 42 (0, 0)) ∧ Built b b s W ∧ W.heap[k]? = some (.stringIter lay j) ∧ Below w.heap.size w W ∧ w.heap.size ≤ p ∧ p < b ∧ b < k) : PB w p b k cs j s W := by unfold PB; exact h
theorem PB.out (h : PB w p b k cs j s W) : W.heap[p]? = some (.cells cs 42 (0, 0)) ∧ Built b b s W ∧ W.heap[k]? = some (.stringIter lay j) ∧ Below w.heap.size w W ∧ w.heap.size ≤ p ∧ p < b ∧ b < k := by unfold PB at h; exact h
theorem PB.below (h : PB w p b k cs j s W) (hb : Below W.heap.size W W') : PB w p b k cs j s W' := by
  obtain ⟨h1, h2, h3, h4, h5, h6, h7⟩ := h.out
  exact .mk ⟨(hb.block p (Array.getElem?_eq_some_iff.1 h1).1).trans h1, built_below h2 hb, (hb.block k (Array.getElem?_eq_some_iff.1 h3).1).trans h3, h4.trans (hb.mono h4.size), h5, h6, h7⟩
theorem PB.iter (h : PB w p b k cs j s W) (j' : Nat) : PB w p b k cs j' s (W.iterAt k lay j') := by
  obtain ⟨h1, h2, h3, h4, h5, h6, h7⟩ := h.out
  exact .mk ⟨(iterAt_other W k p lay j' (by omega)).trans h1, built_iter h2 h3 j', iterAt_heap W k lay j j' h3, below_iterAt h4 (by omega) lay j', h5, h6, h7⟩
theorem PB.wrote {t : ByteArray} (h : PB w p b k cs j s W) (h2' : Built b b t W') (hb : Below b W W') (ho : OthersKept 5 (some b) W W') : PB w p b k cs j t W' := by
  obtain ⟨h1, h2, h3, h4, h5, h6, h7⟩ := h.out
  exact .mk ⟨ho p _ h1 (by simp; omega) (fun c fz e => by injection e with _ e2; exact absurd e2 (by decide)), h2', ho.iter h3 (by omega), h4.trans (hb.mono (by omega)), h5, h6, h7⟩
theorem PB.load (h : PB w p b k cs j s W) (h6 : cs.size = 6) : (loadVar 42 ⟨p, 0, none⟩).run Tryd.prog W = .ok (.agg cs) W := load_blk ⟨_, h.out.1⟩ h6
theorem PB.next (h : PB w p b k cs j s W) (hj : j < 5) (ty : TypeId) : (Instr.next (.pointer (some ⟨k, 0, none⟩)) true ty).run Tryd.prog W = .ok (.tuple #[.bool true, .int .i64 (j : Int), .int .i32 ((Utf8.decode lay j).1 : Int)]) (W.iterAt k lay (j + (Utf8.decode lay j).2)) :=
  run_next_any_at (P := Tryd.prog) W k lay j ty h.out.2.2.1 (by rw [lay_size]; exact hj)
theorem PB.last (h : PB w p b k cs j s W) (hj : ¬ j < 5) (ty : TypeId) : (Instr.next (.pointer (some ⟨k, 0, none⟩)) true ty).run Tryd.prog W = .ok (.tuple #[.bool false]) W :=
  run_next_end_at (P := Tryd.prog) W k lay j ty h.out.2.2.1 (by rw [lay_size]; exact hj)
theorem PB.start (w : World) (cs : Array Value) : PB w w.heap.size (w.heap.size + 1) (w.heap.size + 2) cs 0 ⟨#[]⟩ (((w.alloc (.cells cs 42)).alloc (.cells #[.pointer none, .slice none 0 0] 61)).iter lay 0) := by
  have e0 := heap_alloc_new w (.cells cs 42)
  have z0 : (w.alloc (.cells cs 42)).heap.size = w.heap.size + 1 := by simp
  have b0 := built_new (w.alloc (.cells cs 42))
  have z1 : ((w.alloc (.cells cs 42)).alloc (.cells #[.pointer none, .slice none 0 0] 61)).heap.size = w.heap.size + 2 := by simp
  have x0 : Below w.heap.size w (w.alloc (.cells cs 42)) := (Below.refl _ _).alloc (Nat.le_refl _) _
  generalize w.alloc (.cells cs 42) = w1 at e0 z0 b0 z1 x0 ⊢
  rw [z0] at b0
  have e1 : (w1.alloc (.cells #[.pointer none, .slice none 0 0] 61)).heap[w.heap.size]? = some (.cells cs 42 (0, 0)) := (Lib.alloc_old w1 _ _ (by omega)).trans e0
  have x1 : Below w.heap.size w (w1.alloc (.cells #[.pointer none, .slice none 0 0] 61)) := x0.alloc (by omega) _
  generalize w1.alloc (.cells #[.pointer none, .slice none 0 0] 61) = w2 at e1 b0 z1 x1 ⊢
  have e2 := World.iter_heap w2 lay 0
  rw [z1] at e2
  have x2 : Below w2.heap.size w2 (w2.iter lay 0) := (Below.refl _ _).alloc (Nat.le_refl _) _
  exact .mk ⟨(x2.block _ (by omega)).trans e1, built_below b0 x2, e2, x1.trans (x2.mono (by omega)), Nat.le_refl _, by omega, by omega⟩
end

set_option maxRecDepth 100000 in
set_option maxHeartbeats 4000000 in
/-- rec.putBody. -/
theorem putBody_is (r : Rc) (S : ByteArray) (w : World) (h : mayB r = true) (hS : str (bodyL r) = S) :
    Calls Tryd.prog 42 #[ragg r] w fun e w' => e = .returned (.string S) ∧ Below w.heap.size w w' := by
  have HP := Lib.hid (fun j hj => part_step r h j hj)
  have HZ := Lib.hid (fun j hj => pre_size r h j hj)
  have R0 := Lib.hid (PB.start w (rarr r.o r.t (str r.k) (str r.b) r.q r.g))
  have HE := Lib.hid ((pre_end r).trans hS)
  have H0 : Hid (preS r 0 = ⟨#[]⟩) := rfl
  unfold ragg at HP ⊢
  obtain ⟨cs, hcs⟩ : ∃ cs, cs = rarr r.o r.t (str r.k) (str r.b) r.q r.g := ⟨_, rfl⟩
  have HC6 : Hid (cs.size = 6) := by show _ = _; rw [hcs]; rfl
  rw [← hcs] at HP R0 ⊢
  clear hcs h hS
  unfold lay at R0
  go_enter Tryd.func42, Tryd.ntmps42
  go_wp2_with fail
  rw [show (w.heap.size + 1 + 1) = w.heap.size + 2 from rfl]
  generalize World.iter _ _ _ = W0 at R0 ⊢
  obtain ⟨p, hp⟩ : ∃ p, w.heap.size = p := ⟨_, rfl⟩
  rw [hp] at R0 ⊢
  clear hp
  generalize p + 1 = b at R0 ⊢
  generalize p + 2 = k at R0 ⊢
  go_loopw [5] (fun _ wr => ∃ j, j ≤ 5 ∧ PB w p b k cs j (preS r j) wr) (fun _ wr => 5 - wr.iterPos k)
  case atStart => exact ⟨0, by omega, by rw [H0.out]; exact R0.out⟩
  case round =>
    obtain ⟨j, hj, hP⟩ := hrel
    have HPB := Lib.hid hP
    have hpos := Lib.hid (iterPos_of hP.out.2.2.1)
    clear hP R0
    by_cases hlt : j < 5
    · obtain ⟨c, V, T, hd, hV, hT, hz, hn⟩ := HP.out j hlt
      have hnx := HPB.out.next hlt
      rw [hd] at hnx
      dsimp only at hnx
      have HV := Lib.hid hV
      have HT := Lib.hid hT
      have HN := Lib.hid hn
      have R1 := Lib.hid (HPB.out.iter (j + 1))
      have hz1 := HZ.out j hj
      clear hd hV hT hn HPB
      generalize wr.iterAt k lay (j + 1) = W1 at hnx R1
      have hld := R1.out.load HC6.out
      generalize preS r j = s0 at R1 HN hz1
      go_wp2_with (refine wpList_load_any (by rfl) 42 (.tmp 1) rfl p 0 rfl _ hld ?_; simp only [Act.put])
      refine (HV.out _).mono ?_
      rintro e w2 ⟨rfl, hb2⟩
      have R2 := Lib.hid (R1.out.below hb2)
      clear hb2 hnx hld R1 HV
      go_wp2_with fail
      refine (HT.out _).mono ?_
      rintro e w3 ⟨rfl, hb3⟩
      have R3 := Lib.hid (R2.out.below hb3)
      clear hb3 R2 HT
      go_wp2_with fail
      have hbb := built_lt R3.out.out.2.1
      refine (WriteString_is b b s0 T _ R3.out.out.2.1 (by omega) (by omega)).mono ?_
      rintro e w4 ⟨⟨v4, rfl⟩, hb4, hb5, hb6⟩
      have R4 := Lib.hid (R3.out.wrote hb4 hb5 hb6)
      rw [← HN.out] at R4
      clear hb4 hb5 hb6 R3 HN hbb
      go_wp2_with fail
      go_roundw
      case rel => exact ⟨j + 1, hlt, R4.out⟩
      case measure => rw [hpos.out, iterPos_of R4.out.out.2.2.1]; omega
    · obtain rfl : j = 5 := by omega
      have hnx := HPB.out.last hlt
      have hbb := built_lt HPB.out.out.2.1
      have HS := Lib.hid (String_is b b (preS r 5) wr HPB.out.out.2.1 (by omega))
      rw [HE.out] at HS
      have HX := Lib.hid HPB.out.out.2.2.2
      clear HPB hbb
      go_wp2_with fail
      refine HS.out.mono ?_
      rintro e w5 ⟨rfl, hb5⟩
      go_wp2_with fail
      go_ret
      exact ⟨rfl, HX.out.1.trans (hb5.mono (by have := HX.out.2; omega))⟩
end Go.Proofs.YthhpmhibkbndhaaDoor
/- Package rec: a body taken, part by part, by the text that names the parts. -/
namespace Go.Proofs.YthhpmhibkbndhaaDoor
open Go.RowKit Go.Lib Vbi Rcd Crc

/-- What is still to be read behind so many parts. -/
def restR : Nat → Rc → List UInt8 → Rc × Int
  | 0, r, l => p0 r l
  | 1, r, l => p1 r l
  | 2, r, l => p2 r l
  | 3, r, l => p3 r l
  | 4, r, l => p4 r l
  | _, r, _ => (r, mayE r)
theorem size_list (s : ByteArray) : s.data.toList.length = s.size := by rw [Array.length_toList]; rfl
theorem tbN_eq (s : ByteArray) : tbN s = fixVal (s.data.toList.take 2) := rfl
theorem extract_str (s : ByteArray) (n : Nat) : str ((s.data.toList.drop 2).take n) = s.extract 2 (2 + n) := by
  rw [← data_str (s.extract 2 (2 + n)), Lib.extract_data, show 2 + n - 2 = n by omega]

set_option maxHeartbeats 1000000 in
/-- One part. -/
theorem take_step (r : Rc) (s : ByteArray) (j : Nat) (hj : j < 5) (hm : s.size ≤ 1000000) : ∃ (c : Nat) (V : Value) (K E : Int), Utf8.decode lay j = (c, 1) ∧
    (∀ W, Calls Tryd.prog 70 #[.int .i32 (c : Int), .string s] W fun e w' => e = .returned (.tuple #[V, .int .i64 K, .int .i64 E]) ∧ Below W.heap.size W w') ∧
    ((¬ E = 0 ∧ restR j r s.data.toList = (zero, E)) ∨ (E = 0 ∧ ∃ (n : Nat) (r' : Rc), K = (n : Int) ∧ n ≤ s.size ∧
      (∀ W, Calls Tryd.prog 71 #[ragg r, .int .i32 (c : Int), V] W fun e w' => e = .returned (ragg r') ∧ Below W.heap.size W w') ∧ restR j r s.data.toList = restR (j + 1) r' (s.data.toList.drop n))) := by
  have hd := lay_at j hj
  have hl := size_list s
  rcases (by omega : j = 0 ∨ j = 1 ∨ j = 2 ∨ j = 3 ∨ j = 4) with rfl | rfl | rfl | rfl | rfl
  · by_cases h8 : s.size < 8
    · exact ⟨111, _, 0, 7, hd, fun W => take_long 111 s 0 0 7 W (.inl rfl) (fun W => takeLong_cut s W h8), .inl ⟨by decide, by show p0 r _ = _; unfold p0; rw [if_pos (by omega)]⟩⟩
    · exact ⟨111, .iface 3 (.int .i64 (lng s.data.toList)), 8, 0, hd, fun W => take_long 111 s _ 8 0 W (.inl rfl) (fun W => takeLong_is s _ W (by omega) hm rfl), .inr ⟨rfl, 8, { r with o := lng s.data.toList }, rfl, by omega, fun W => with_o r.o r.t (str r.k) (str r.b) r.q r.g (lng s.data.toList) W, by show p0 r _ = p1 _ _; unfold p0; rw [if_neg (by omega)]⟩⟩
  · by_cases h8 : s.size < 8
    · exact ⟨116, _, 0, 7, hd, fun W => take_long 116 s 0 0 7 W (.inr rfl) (fun W => takeLong_cut s W h8), .inl ⟨by decide, by show p1 r _ = _; unfold p1; rw [if_pos (by omega)]⟩⟩
    · exact ⟨116, .iface 3 (.int .i64 (lng s.data.toList)), 8, 0, hd, fun W => take_long 116 s _ 8 0 W (.inr rfl) (fun W => takeLong_is s _ W (by omega) hm rfl), .inr ⟨rfl, 8, { r with t := lng s.data.toList }, rfl, by omega, fun W => with_t r.o r.t (str r.k) (str r.b) r.q r.g (lng s.data.toList) W, by show p1 r _ = p2 _ _; unfold p1; rw [if_neg (by omega)]⟩⟩
  · rcases hs : s.data.toList with _ | ⟨f, t⟩
    · have he : s = ⟨#[]⟩ := by rw [← data_str s, hs]; rfl
      subst he
      exact ⟨102, _, 0, 7, hd, fun W => take_byte _ 0 0 7 W takeByte_none, .inl ⟨by decide, rfl⟩⟩
    · have hz : 1 ≤ s.size := by rw [← hl, hs]; simp
      exact ⟨102, _, 1, 0, hd, fun W => take_byte s _ 1 0 W (fun W => takeByte_some s f t W hs hm), .inr ⟨rfl, 1, flagged r f.toNat, rfl, hz, fun W => with_f r f.toNat W f.toNat_lt, rfl⟩⟩
  · rcases tb_cases s with ⟨h1, e⟩ | ⟨h1, h2, e⟩ | ⟨h1, h2, h3, e⟩ | ⟨h1, h2, e⟩
    · exact ⟨107, _, 0, 7, hd, fun W => take_key s _ _ _ W hm e, .inl ⟨by decide, by show p3 r _ = _; unfold p3; rw [if_pos (by omega)]⟩⟩
    · rw [tbN_eq] at h2
      exact ⟨107, _, 0, 2, hd, fun W => take_key s _ _ _ W hm e, .inl ⟨by decide, by show p3 r _ = _; unfold p3; rw [if_neg (by omega), if_pos h2]⟩⟩
    · rw [tbN_eq] at h2 h3
      exact ⟨107, _, 0, 7, hd, fun W => take_key s _ _ _ W hm e, .inl ⟨by decide, by show p3 r _ = _; unfold p3; rw [if_neg (by omega), if_neg (by omega), if_pos (by omega)]⟩⟩
    · refine ⟨107, _, _, 0, hd, fun W => take_key s _ _ _ W hm e, .inr ⟨rfl, 2 + tbN s, { r with k := (s.data.toList.drop 2).take (tbN s) }, rfl, h2, fun W => ?_, ?_⟩⟩
      · have := with_k r.o r.t (str r.k) (str r.b) r.q r.g (s.extract 2 (2 + tbN s)) W
        rw [← extract_str] at this ⊢
        exact this
      · rw [tbN_eq] at h1 h2 ⊢
        show p3 r _ = p4 _ _
        unfold p3
        rw [if_neg (by omega), if_neg (by omega), if_neg (by omega)]
  · refine ⟨98, _, _, 0, hd, fun W => take_rest s W hm, .inr ⟨rfl, s.size, { r with b := s.data.toList }, rfl, Nat.le_refl _, fun W => ?_, rfl⟩⟩
    have := with_b r.o r.t (str r.k) (str r.b) r.q r.g s W
    unfold ragg
    rw [data_str]
    exact this

/-- Where the reading stands: the result's cell as it began, the record so far, an iterator; all that was there ahead of the call. -/
@[irreducible] def TB (w : World) (p b k : Nat) (cs : Array Value) (j : Nat) (W : World) : Prop :=
  Blk W p zcells ∧ Blk W b cs ∧ W.heap[k]? = some (.stringIter lay j) ∧ Below w.heap.size w W ∧ w.heap.size ≤ p ∧ p < b ∧ b < k
section
variable {w W W' : World} {p b k j : Nat} {cs : Array Value}
theorem TB.mk (h : Blk W p zcells ∧ Blk W b cs ∧ W.heap[k]? = some (.stringIter lay j) ∧ Below w.heap.size w W ∧ w.heap.size ≤ p ∧ p < b ∧ b < k) : TB w p b k cs j W := by unfold TB; exact h
theorem TB.out (h : TB w p b k cs j W) : Blk W p zcells ∧ Blk W b cs ∧ W.heap[k]? = some (.stringIter lay j) ∧ Below w.heap.size w W ∧ w.heap.size ≤ p ∧ p < b ∧ b < k := by unfold TB at h; exact h
theorem TB.below (h : TB w p b k cs j W) (hb : Below W.heap.size W W') : TB w p b k cs j W' := by
  obtain ⟨h1, h2, h3, h4, h5, h6, h7⟩ := h.out
  exact .mk ⟨h1.below hb, h2.below hb, (hb.block k (Array.getElem?_eq_some_iff.1 h3).1).trans h3, h4.trans (hb.mono h4.size), h5, h6, h7⟩
theorem blk_iter {g : Nat} {ds : Array Value} (h : Blk W g ds) (hg : g ≠ k) (j' : Nat) : Blk (W.iterAt k lay j') g ds := by
  obtain ⟨T, h⟩ := h
  exact ⟨T, (iterAt_other W k g lay j' hg).trans h⟩
theorem TB.iter (h : TB w p b k cs j W) (j' : Nat) : TB w p b k cs j' (W.iterAt k lay j') := by
  obtain ⟨h1, h2, h3, h4, h5, h6, h7⟩ := h.out
  exact .mk ⟨blk_iter h1 (by omega) j', blk_iter h2 (by omega) j', iterAt_heap W k lay j j' h3, below_iterAt h4 (by omega) lay j', h5, h6, h7⟩
theorem blk_row_far {g g' : Nat} {ds : Array Value} (h : Blk W g ds) (hg : g ≠ g') (es : Array Value) : Blk (W.setRow g' es) g ds := by
  obtain ⟨T, h⟩ := h
  exact ⟨T, (setRow_other W g' g es hg).trans h⟩
theorem TB.row (h : TB w p b k cs j W) (ds : Array Value) : TB w p b k ds j (W.setRow b ds) := by
  obtain ⟨h1, h2, h3, h4, h5, h6, h7⟩ := h.out
  exact .mk ⟨blk_row_far h1 (by omega) ds, h2.row ds, (setRow_other W b k ds (by omega)).trans h3, below_row h4 (by omega) ds, h5, h6, h7⟩
theorem TB.last (h : TB w p b k cs j W) (ds : Array Value) : Blk (W.setRow p ds) p ds ∧ Below w.heap.size w (W.setRow p ds) := by
  obtain ⟨h1, h2, h3, h4, h5, h6, h7⟩ := h.out
  exact ⟨h1.row ds, below_row h4 h5 ds⟩
theorem TB.load (h : TB w p b k cs j W) (h6 : cs.size = 6) : (loadVar 42 ⟨b, 0, none⟩).run Tryd.prog W = .ok (.agg cs) W := load_blk h.out.2.1 h6
theorem TB.next (h : TB w p b k cs j W) (hj : j < 5) (ty : TypeId) : (Instr.next (.pointer (some ⟨k, 0, none⟩)) true ty).run Tryd.prog W = .ok (.tuple #[.bool true, .int .i64 (j : Int), .int .i32 ((Utf8.decode lay j).1 : Int)]) (W.iterAt k lay (j + (Utf8.decode lay j).2)) :=
  run_next_any_at (P := Tryd.prog) W k lay j ty h.out.2.2.1 (by rw [lay_size]; exact hj)
theorem TB.over (h : TB w p b k cs j W) (hj : ¬ j < 5) (ty : TypeId) : (Instr.next (.pointer (some ⟨k, 0, none⟩)) true ty).run Tryd.prog W = .ok (.tuple #[.bool false]) W :=
  run_next_end_at (P := Tryd.prog) W k lay j ty h.out.2.2.1 (by rw [lay_size]; exact hj)
theorem TB.start (w : World) : TB w w.heap.size (w.heap.size + 1) (w.heap.size + 2) zcells 0 (((w.alloc (.cells zcells 42)).alloc (.cells zcells 42)).iter lay 0) := by
  have e0 := Blk.new w 42 zcells
  have z0 : (w.alloc (.cells zcells 42)).heap.size = w.heap.size + 1 := by simp
  have x0 : Below w.heap.size w (w.alloc (.cells zcells 42)) := (Below.refl _ _).alloc (Nat.le_refl _) _
  generalize w.alloc (.cells zcells 42) = w1 at e0 z0 x0 ⊢
  have e1 := Blk.new w1 42 zcells
  have z1 : (w1.alloc (.cells zcells 42)).heap.size = w.heap.size + 2 := by simp [z0]
  have e0' := e0.alloc (.cells zcells 42)
  have x1 : Below w.heap.size w (w1.alloc (.cells zcells 42)) := x0.alloc (by omega) _
  rw [z0] at e1
  generalize w1.alloc (.cells zcells 42) = w2 at e1 e0' z1 x1 ⊢
  have e2 := World.iter_heap w2 lay 0
  rw [z1] at e2
  have x2 : Below w2.heap.size w2 (w2.iter lay 0) := (Below.refl _ _).alloc (Nat.le_refl _) _
  exact .mk ⟨e0'.below x2, e1.below x2, e2, x1.trans (x2.mono (by omega)), Nat.le_refl _, by omega, by omega⟩
end

set_option maxRecDepth 100000 in
set_option maxHeartbeats 4000000 in
/-- rec.takeBody. -/
theorem takeBody_is (s : ByteArray) (R : Rc) (E : Int) (w : World) (hm : s.size ≤ 1000000) (h : parse s.data.toList = (R, E)) :
    Calls Tryd.prog 63 #[.string s] w fun e w' => e = .returned (.tuple #[ragg R, .int .i64 E]) ∧ Below w.heap.size w w' := by
  have HP := Lib.hid (fun r s j hj hm => take_step r s j hj hm)
  have R0 := Lib.hid (TB.start w)
  have H0 := Lib.hid h
  clear h
  obtain ⟨RC, hRC⟩ : ∃ c, rarr R.o R.t (str R.k) (str R.b) R.q R.g = c := ⟨_, rfl⟩
  have HRC := Lib.hid hRC
  unfold ragg
  rw [hRC]
  clear hRC
  unfold lay zcells at R0
  go_enter Tryd.func63, Tryd.ntmps63
  go_wp2_with fail
  rw [show (w.heap.size + 1 + 1) = w.heap.size + 2 from rfl]
  generalize World.iter _ _ _ = W0 at R0 ⊢
  obtain ⟨p, hp⟩ : ∃ p, w.heap.size = p := ⟨_, rfl⟩
  rw [hp] at R0
  rw [hp]
  clear hp
  generalize p + 1 = b at R0 ⊢
  generalize p + 2 = k at R0 ⊢
  go_loopw [0] (fun s0 wr => ∃ j s r, j ≤ 5 ∧ s0 = .string s ∧ s.size ≤ 1000000 ∧ TB w p b k (rarr r.o r.t (str r.k) (str r.b) r.q r.g) j wr ∧ restR j r s.data.toList = (R, E)) (fun _ wr => 5 - wr.iterPos k)
  case atStart => exact ⟨0, s, zero, by omega, rfl, hm, R0.out, H0.out⟩
  case round =>
    obtain ⟨j, s, r, hj, rfl, hm, hT, hr⟩ := hrel
    have HTB := Lib.hid hT
    have HR := Lib.hid hr
    have hpos := Lib.hid (iterPos_of hT.out.2.2.1)
    clear hT R0 hr H0
    by_cases hlt : j < 5
    · obtain ⟨c, V, K, F, hd, hT, hn⟩ := HP.out r s j hlt hm
      have hnx := HTB.out.next hlt
      rw [hd] at hnx
      dsimp only at hnx
      have HT := Lib.hid hT
      have R1 := Lib.hid (HTB.out.iter (j + 1))
      clear hd hT HTB
      generalize wr.iterAt k lay (j + 1) = W1 at hnx R1
      rcases hn with ⟨hF, hz⟩ | ⟨rfl, n, r', rfl, hns, hw, hz⟩
      · have hF1 : (F != 0) = true := by rw [bne_iff_ne]; exact hF
        rw [HR.out] at hz
        injection hz with hz1 hz2
        subst hz1 hz2
        have hrc : rarr (0 : Int) 0 ⟨#[]⟩ ⟨#[]⟩ 0 false = RC := HRC.out
        unfold rarr at hrc
        have HI : Hid ((Tryd.prog.info? 42).map (·.size) = some RC.size) := by show _ = _; rw [← hrc]; exact info_rec
        have HC6 : Hid (zcells.size = RC.size) := by show _ = _; rw [← hrc]; rfl
        have HO : Hid (RC.all (·.oneCell') = true) := by show _ = _; rw [← hrc]; exact one_arr _ _ _ _ _ _
        go_wp2_with fail
        refine (HT.out _).mono ?_
        rintro e w2 ⟨rfl, hb2⟩
        have R2 := Lib.hid (R1.out.below hb2)
        have HL2 := Lib.hid (R2.out.last RC)
        clear R1 hnx hb2 HT
        go_wp2_with (refine wpList_store_whole rfl 42 (.tmp 2) (.tmp 23) rfl p RC rfl rfl zcells R2.out.out.1 HI.out HC6.out HO.out ?_; simp only [Act.put])
        refine bodyPost_ret (results_rec2 Tryd.results63 rfl HL2.out.1 (by rw [← hrc]; rfl) rfl) rfl ⟨rfl, HL2.out.2⟩
      · have hld := R1.out.load rfl
        unfold ragg at hw
        have HWI := Lib.hid hw
        have HZ := Lib.hid (HR.out.symm.trans hz)
        have hnI : (n : Int) ≤ (s.size : Int) := by omega
        have hsx : (s.extract n s.size).data.toList = s.data.toList.drop n := by
          rw [Lib.extract_data]; exact List.take_of_length_le (by rw [List.length_drop, size_list]; omega)
        have HSX := Lib.hid hsx
        have hsz : (s.extract n s.size).size ≤ 1000000 := by rw [ByteArray.size_extract]; omega
        clear hw hz hld hsx
        go_wp2_with fail
        refine (HT.out _).mono ?_
        rintro e w2 ⟨rfl, hb2⟩
        have R2 := Lib.hid (R1.out.below hb2)
        have hld := R2.out.load rfl
        clear R1 hnx hb2 HT
        go_wp2_with (refine wpList_load_any (by rfl) 42 (.tmp 4) rfl b 0 rfl _ hld ?_; simp only [Act.put])
        refine (HWI.out _).mono ?_
        rintro e w3 ⟨rfl, hb3⟩
        have R3 := Lib.hid (R2.out.below hb3)
        have R4 := Lib.hid (R3.out.row (rarr r'.o r'.t (str r'.k) (str r'.b) r'.q r'.g))
        clear R2 hb3 HWI hld
        go_upto_region 9 with (refine wpList_store_whole rfl 42 (.tmp 4) (.tmp 28) rfl b (rarr r'.o r'.t (str r'.k) (str r'.b) r'.q r'.g) rfl rfl _ R3.out.out.2.1 info_rec rfl (one_arr _ _ _ _ _ _) ?_; simp only [Act.put])
        generalize World.setRow _ _ _ = w4 at R4 ⊢
        clear R3
        go_wp2_with fail
        go_roundw
        case rel => exact ⟨j + 1, _, r', hlt, rfl, hsz, R4.out, by rw [HSX.out]; exact HZ.out.symm⟩
        case measure => rw [hpos.out, iterPos_of R4.out.out.2.2.1]; omega
    · obtain rfl : j = 5 := by omega
      have hnx := HTB.out.over hlt
      obtain ⟨hr1, hr2⟩ : r = R ∧ mayE r = E := by
        have := HR.out
        injection this with h1 h2
        exact ⟨h1, h2⟩
      subst hr1
      have HC := Lib.hid (fun W => Check_is r E W hr2)
      unfold ragg at HC
      have hrc := HRC.out
      rw [hrc] at HC HTB
      have HI : Hid ((Tryd.prog.info? 42).map (·.size) = some RC.size) := by show _ = _; rw [← hrc]; exact info_rec
      have HC6 : Hid (RC.size = 6) := by show _ = _; rw [← hrc]; rfl
      have HO : Hid (RC.all (·.oneCell') = true) := by show _ = _; rw [← hrc]; exact one_arr _ _ _ _ _ _
      clear hr2 HRC HR HP hpos hrc
      go_upto_region 10 with fail
      have hT : TB w p b k RC 5 wr.drew := HTB.out.below (below_drewN (Below.refl _ _) 1)
      clear hnx HTB
      refine wp_region_held_drew (S := fun W => Blk W b RC) (by kernel_rfl) hT.out.2.1 (fun hS => ?_)
      generalize wr.drew = Wd at hT hS ⊢
      refine take_load 0 32 42 (.tmp 4) b 0 (.agg RC) rfl rfl (by kernel_rfl) (fun _ _ _ h => h) (by rfl) hS rfl rfl (fun w' hS' => load_blk hS' HC6.out) ?_
      simp only [Act.put, List.setIfInBounds_toArray, List.set_cons_zero, List.set_cons_succ]
      refine take_load 1 33 42 (.tmp 4) b 0 (.agg RC) rfl rfl (by kernel_rfl) (fun _ _ _ h => h) (by rfl) hS rfl rfl (fun w' hS' => load_blk hS' HC6.out) ?_
      simp only [Act.put, List.setIfInBounds_toArray, List.set_cons_zero, List.set_cons_succ]
      refine only_op 2 rfl (by kernel_rfl) (by rfl) (wp_call 34 41 #[.agg RC] (.int .i64 E) (fun W => Below Wd.heap.size Wd W) rfl (by go_simp) (HC.out Wd) (fun w1 hb1 => ⟨hS.below hb1, ?_⟩))
      simp only [Act.put, List.setIfInBounds_toArray, List.set_cons_zero, List.set_cons_succ]
      have hT1 := hT.below hb1
      have hL := hT1.last RC
      have hS1 : Blk (w1.setRow p RC) b RC := blk_row_far (hS.below hb1) (by have := hT.out.2.2.2.2.2.1; omega) RC
      obtain ⟨T, hpT⟩ := hT1.out.1
      refine only_op 3 rfl (by kernel_rfl) (by rfl) (wp_store_row 42 (.tmp 2) (.tmp 32) rfl p RC rfl rfl T _ hpT HI.out HC6.out.symm HO.out ⟨hS1, ?_⟩)
      simp only [Act.put]
      refine take_op 4 3 ?v4 rfl rfl (by kernel_rfl) (fun _ _ _ h => h) (by rfl) hS1 (fun w' hS' => ?hv4) ?hh4
      case hv4 => (go_simp; try with_reducible rfl)
      simp only [Act.put, List.setIfInBounds_toArray, List.set_cons_zero, List.set_cons_succ]
      refine wpAnyH_done (by kernel_rfl) ?_ _
      have HL := Lib.hid hL
      clear hL hS1 hT1 hT hpT hS hb1
      go_wp2_with fail
      refine bodyPost_ret (results_rec2 Tryd.results63 rfl HL.out.1 HC6.out rfl) rfl ⟨rfl, HL.out.2⟩
end Go.Proofs.YthhpmhibkbndhaaDoor
