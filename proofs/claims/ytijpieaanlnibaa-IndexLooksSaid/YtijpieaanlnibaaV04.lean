/- Texts of the proof, part 4: RcRFix8, SumNum, SumRef, RcRBytes, RcRBytesIs, IxRMarks, IxRFrom, SgRSeg, SgRFindBy, SgSlice. -/
import Derived.Test.YtijpieaanlnibaaProg
import Derived.Laws.BitsAllLaws
import Derived.Laws.IdiomStrings
import Derived.Deep.CutRange
import Derived.Test.YtijpieaanlnibaaV03
/- The document's own answer: a number as eight bytes. -/
namespace Go.Proofs.Ytijpieaanlnibaa
open Go.RowKit Go.Lib Vbi Rcd

set_option maxRecDepth 100000 in
set_option maxHeartbeats 4000000 in
/-- The document's own answer: a number as eight bytes. -/
theorem RFixed8_is (n : Nat) (S : ByteArray) (w : World) (hn : n < 9223372036854775808) (hS : str (fx 8 n) = S) :
    Calls Try.prog 35 #[.int .i64 (n : Int), .int .i64 8] w fun e w' => e = .returned (.string S) ∧ Below w.heap.size w w' := by
  rw [← str_fx] at hS
  subst hS
  obtain ⟨i0, hi, hz0, hz1, hz2⟩ := info_parts info_byte
  go_enter Try.func35, Try.ntmps35
  go_wp2_with fail
  go_loopw [5, 6] (fun v iv wr => ∃ (j : Int) (k : Nat) (zs : List Int), iv = .int .i64 j ∧ j = (k : Int) - 1 ∧ k ≤ 8 ∧ fixZ 8 n = zs ++ fixZ k n ∧ wr.ownsRow w.heap.size 5 1 v zs.length (zs.map (Value.int .u8)) ∧ Below w.heap.size w wr) (fun _ iv _ => (RowKit.intOf iv + 1).toNat)
  case atStart => exact ⟨_, 8, [], rfl, rfl, by omega, rfl, World.ownsRow_nil _ _ _ _, Below.refl _ _⟩
  case round =>
    obtain ⟨j, k, zs, rfl, hj, hk, hz, hown, hnx⟩ := hrel
    have h2 := hnx.size
    have hzl : zs.length ≤ 8 := by
      have := congrArg List.length hz
      rw [List.length_append, fixZ_len, fixZ_len] at this
      omega
    by_cases hk0 : k = 0
    · subst hk0
      obtain rfl : j = -1 := by omega
      have hcv := conv_bytes hown
      have hzz : zs = fixZ 8 n := by rw [hz]; show zs = zs ++ []; simp
      rw [hzz] at hcv
      have HC := Lib.hid hcv
      clear hz hown hj hzz
      go_wp2_with fail
      go_ret
      exact ⟨rfl, hnx⟩
    · rcases (by omega : k = 1 ∨ k = 2 ∨ k = 3 ∨ k = 4 ∨ k = 5 ∨ k = 6 ∨ k = 7 ∨ k = 8) with rfl | rfl | rfl | rfl | rfl | rfl | rfl | rfl
      · obtain rfl : j = 0 := by omega
        have HZ := Lib.hid (hz.trans (fixZ_step zs 0 n ((n : Int) % 256) (by omega)))
        clear hz hj hk0
        go_wp2_with (at_builtin; refine wpList_append_own _ rfl _ _ 70 rfl w.heap.size 5 i0 (.int .u8 0) 1 1 Try.underlying70 hi hz0 hz1 hz2 rfl (by decide) _ _ _ rfl (hown.alloc _) ⟨wr.heap.size, 0, none⟩ 1 1 [.int .u8 ((n : Int) % 256)] rfl rfl ?c1 ?c2 ?c3 ?c4 ?c5 ?_)
        case c1 => exact cell_one_new _ _ _
        case c2 => intro u hu; simp at hu; subst hu; rfl
        case c3 => unfold maxLen; omega
        case c4 => omega
        case c5 => simp; omega
        intro v' w1 hown' hgrow _
        have hnx' := hnx.trans (below_alloc_grown h2 hown hgrow)
        have HO := Lib.hid (own_snoc hown')
        clear hown' hgrow hown
        go_wp2
        go_roundw
        case rel => exact ⟨-1, 0, _, rfl, rfl, by omega, HZ.out, HO.out, hnx'⟩
        case measure => simp [RowKit.intOf]
      · obtain rfl : j = 1 := by omega
        have HZ := Lib.hid (hz.trans (fixZ_step zs 1 n ((n : Int) / 256 % 256) (by omega)))
        clear hz hj hk0
        go_wp2_with (at_builtin; refine wpList_append_own _ rfl _ _ 70 rfl w.heap.size 5 i0 (.int .u8 0) 1 1 Try.underlying70 hi hz0 hz1 hz2 rfl (by decide) _ _ _ rfl (hown.alloc _) ⟨wr.heap.size, 0, none⟩ 1 1 [.int .u8 ((n : Int) / 256 % 256)] rfl rfl ?c1 ?c2 ?c3 ?c4 ?c5 ?_)
        case c1 => exact cell_one_new _ _ _
        case c2 => intro u hu; simp at hu; subst hu; rfl
        case c3 => unfold maxLen; omega
        case c4 => omega
        case c5 => simp; omega
        intro v' w1 hown' hgrow _
        have hnx' := hnx.trans (below_alloc_grown h2 hown hgrow)
        have HO := Lib.hid (own_snoc hown')
        clear hown' hgrow hown
        go_wp2
        go_roundw
        case rel => exact ⟨0, 1, _, rfl, rfl, by omega, HZ.out, HO.out, hnx'⟩
        case measure => simp [RowKit.intOf]
      · obtain rfl : j = 2 := by omega
        have HZ := Lib.hid (hz.trans (fixZ_step zs 2 n ((n : Int) / 65536 % 256) (by omega)))
        clear hz hj hk0
        go_wp2_with (at_builtin; refine wpList_append_own _ rfl _ _ 70 rfl w.heap.size 5 i0 (.int .u8 0) 1 1 Try.underlying70 hi hz0 hz1 hz2 rfl (by decide) _ _ _ rfl (hown.alloc _) ⟨wr.heap.size, 0, none⟩ 1 1 [.int .u8 ((n : Int) / 65536 % 256)] rfl rfl ?c1 ?c2 ?c3 ?c4 ?c5 ?_)
        case c1 => exact cell_one_new _ _ _
        case c2 => intro u hu; simp at hu; subst hu; rfl
        case c3 => unfold maxLen; omega
        case c4 => omega
        case c5 => simp; omega
        intro v' w1 hown' hgrow _
        have hnx' := hnx.trans (below_alloc_grown h2 hown hgrow)
        have HO := Lib.hid (own_snoc hown')
        clear hown' hgrow hown
        go_wp2
        go_roundw
        case rel => exact ⟨1, 2, _, rfl, rfl, by omega, HZ.out, HO.out, hnx'⟩
        case measure => simp [RowKit.intOf]
      · obtain rfl : j = 3 := by omega
        have HZ := Lib.hid (hz.trans (fixZ_step zs 3 n ((n : Int) / 16777216 % 256) (by omega)))
        clear hz hj hk0
        go_wp2_with (at_builtin; refine wpList_append_own _ rfl _ _ 70 rfl w.heap.size 5 i0 (.int .u8 0) 1 1 Try.underlying70 hi hz0 hz1 hz2 rfl (by decide) _ _ _ rfl (hown.alloc _) ⟨wr.heap.size, 0, none⟩ 1 1 [.int .u8 ((n : Int) / 16777216 % 256)] rfl rfl ?c1 ?c2 ?c3 ?c4 ?c5 ?_)
        case c1 => exact cell_one_new _ _ _
        case c2 => intro u hu; simp at hu; subst hu; rfl
        case c3 => unfold maxLen; omega
        case c4 => omega
        case c5 => simp; omega
        intro v' w1 hown' hgrow _
        have hnx' := hnx.trans (below_alloc_grown h2 hown hgrow)
        have HO := Lib.hid (own_snoc hown')
        clear hown' hgrow hown
        go_wp2
        go_roundw
        case rel => exact ⟨2, 3, _, rfl, rfl, by omega, HZ.out, HO.out, hnx'⟩
        case measure => simp [RowKit.intOf]
      · obtain rfl : j = 4 := by omega
        have HZ := Lib.hid (hz.trans (fixZ_step zs 4 n ((n : Int) / 4294967296 % 256) (by omega)))
        clear hz hj hk0
        go_wp2_with (at_builtin; refine wpList_append_own _ rfl _ _ 70 rfl w.heap.size 5 i0 (.int .u8 0) 1 1 Try.underlying70 hi hz0 hz1 hz2 rfl (by decide) _ _ _ rfl (hown.alloc _) ⟨wr.heap.size, 0, none⟩ 1 1 [.int .u8 ((n : Int) / 4294967296 % 256)] rfl rfl ?c1 ?c2 ?c3 ?c4 ?c5 ?_)
        case c1 => exact cell_one_new _ _ _
        case c2 => intro u hu; simp at hu; subst hu; rfl
        case c3 => unfold maxLen; omega
        case c4 => omega
        case c5 => simp; omega
        intro v' w1 hown' hgrow _
        have hnx' := hnx.trans (below_alloc_grown h2 hown hgrow)
        have HO := Lib.hid (own_snoc hown')
        clear hown' hgrow hown
        go_wp2
        go_roundw
        case rel => exact ⟨3, 4, _, rfl, rfl, by omega, HZ.out, HO.out, hnx'⟩
        case measure => simp [RowKit.intOf]
      · obtain rfl : j = 5 := by omega
        have HZ := Lib.hid (hz.trans (fixZ_step zs 5 n ((n : Int) / 1099511627776 % 256) (by omega)))
        clear hz hj hk0
        go_wp2_with (at_builtin; refine wpList_append_own _ rfl _ _ 70 rfl w.heap.size 5 i0 (.int .u8 0) 1 1 Try.underlying70 hi hz0 hz1 hz2 rfl (by decide) _ _ _ rfl (hown.alloc _) ⟨wr.heap.size, 0, none⟩ 1 1 [.int .u8 ((n : Int) / 1099511627776 % 256)] rfl rfl ?c1 ?c2 ?c3 ?c4 ?c5 ?_)
        case c1 => exact cell_one_new _ _ _
        case c2 => intro u hu; simp at hu; subst hu; rfl
        case c3 => unfold maxLen; omega
        case c4 => omega
        case c5 => simp; omega
        intro v' w1 hown' hgrow _
        have hnx' := hnx.trans (below_alloc_grown h2 hown hgrow)
        have HO := Lib.hid (own_snoc hown')
        clear hown' hgrow hown
        go_wp2
        go_roundw
        case rel => exact ⟨4, 5, _, rfl, rfl, by omega, HZ.out, HO.out, hnx'⟩
        case measure => simp [RowKit.intOf]
      · obtain rfl : j = 6 := by omega
        have HZ := Lib.hid (hz.trans (fixZ_step zs 6 n ((n : Int) / 281474976710656 % 256) (by omega)))
        clear hz hj hk0
        go_wp2_with (at_builtin; refine wpList_append_own _ rfl _ _ 70 rfl w.heap.size 5 i0 (.int .u8 0) 1 1 Try.underlying70 hi hz0 hz1 hz2 rfl (by decide) _ _ _ rfl (hown.alloc _) ⟨wr.heap.size, 0, none⟩ 1 1 [.int .u8 ((n : Int) / 281474976710656 % 256)] rfl rfl ?c1 ?c2 ?c3 ?c4 ?c5 ?_)
        case c1 => exact cell_one_new _ _ _
        case c2 => intro u hu; simp at hu; subst hu; rfl
        case c3 => unfold maxLen; omega
        case c4 => omega
        case c5 => simp; omega
        intro v' w1 hown' hgrow _
        have hnx' := hnx.trans (below_alloc_grown h2 hown hgrow)
        have HO := Lib.hid (own_snoc hown')
        clear hown' hgrow hown
        go_wp2
        go_roundw
        case rel => exact ⟨5, 6, _, rfl, rfl, by omega, HZ.out, HO.out, hnx'⟩
        case measure => simp [RowKit.intOf]
      · obtain rfl : j = 7 := by omega
        have HZ := Lib.hid (hz.trans (fixZ_step zs 7 n ((n : Int) / 72057594037927936) (by omega)))
        clear hz hj hk0
        go_wp2_with (at_builtin; refine wpList_append_own _ rfl _ _ 70 rfl w.heap.size 5 i0 (.int .u8 0) 1 1 Try.underlying70 hi hz0 hz1 hz2 rfl (by decide) _ _ _ rfl (hown.alloc _) ⟨wr.heap.size, 0, none⟩ 1 1 [.int .u8 ((n : Int) / 72057594037927936)] rfl rfl ?c1 ?c2 ?c3 ?c4 ?c5 ?_)
        case c1 => exact cell_one_new _ _ _
        case c2 => intro u hu; simp at hu; subst hu; rfl
        case c3 => unfold maxLen; omega
        case c4 => omega
        case c5 => simp; omega
        intro v' w1 hown' hgrow _
        have hnx' := hnx.trans (below_alloc_grown h2 hown hgrow)
        have HO := Lib.hid (own_snoc hown')
        clear hown' hgrow hown
        go_wp2
        go_roundw
        case rel => exact ⟨6, 7, _, rfl, rfl, by omega, HZ.out, HO.out, hnx'⟩
        case measure => simp [RowKit.intOf]
end Go.Proofs.Ytijpieaanlnibaa
/- Sums: what both texts count with. -/
namespace Go.Proofs.Ytijpieaanlnibaa
open Go.RowKit Go.Lib Crc

/-- The bytes of a string, in a row of the call's own. -/
def BytesAt (W : World) (g : Nat) (l : List UInt8) : Prop := g < W.heap.size ∧ ∀ j, j < l.length → W.cell? ⟨g, j, none⟩ = some (.int .u8 (((l.getD j 0).toNat : Nat) : Int)) ∧ W.frozen? ⟨g, j, none⟩ = false
theorem bytes_conv (b : ByteArray) (w : World) : ∃ c W1, (convert 9 70 (.string b)).run Try.prog w = .ok (.slice (some ⟨w.heap.size, 0, none⟩) b.size c) W1 ∧ BytesAt W1 w.heap.size b.data.toList ∧ Below w.heap.size w W1 := by
  refine ⟨_, _, run_bytes_of_string (P := Try.prog) w 9 70 5 b Try.underlying9 Try.underlying70 Try.underlying5, ⟨by simp, fun j hj => ⟨?_, ?_⟩⟩, ?_⟩
  · have hj' : j < b.data.size := by simpa using hj
    have h1 := bytesRow_at b (grownCap w b.size 0 5) j hj'
    refine (World.cell?_alloc_mark w.drew _ _ _ j).trans ?_
    rw [h1, List.getD_eq_getElem?_getD, List.getElem?_eq_getElem hj]
    simp
  · refine (World.frozen?_alloc_mark w.drew _ _ _ _ j).trans ?_
    have h2 : j < (bytesRow b (grownCap w b.size 0 5)).size := by
      have hj' : j < b.data.size := by simpa using hj
      have h3 : (bytesRow b (grownCap w b.size 0 5)).size = b.data.size + (grownCap w b.size 0 5 - b.size) := by unfold bytesRow; simp
      omega
    rw [decide_eq_false (by omega)]
    rfl
  · exact ((Below.refl _ _).drew).alloc (Nat.le_refl _) _

theorem not_nat (s : Nat) (hs : s < 4294967296) : 4294967295 ^^^ s = 4294967295 - s := by
  apply Nat.eq_of_testBit_eq
  intro i
  have h1 := Nat.testBit_two_pow_sub_succ (x := s) (n := 32) hs i
  rw [show 2 ^ 32 - (s + 1) = 4294967295 - s by omega] at h1
  rw [h1, Nat.testBit_xor, show (4294967295 : Nat) = 2 ^ 32 - 1 from rfl, Nat.testBit_two_pow_sub_one]
  by_cases hi : i < 32
  · simp [hi]
  · have : s.testBit i = false := Nat.testBit_lt_two_pow (Nat.lt_of_lt_of_le hs (Nat.pow_le_pow_right (n := 2) (i := 32) (by omega) (by omega)))
    simp [hi, this]
theorem not_u32 (s : Nat) (hs : s < 4294967296) : bits .xor .u32 IntKind.u32.max (s : Int) = ((4294967295 - s : Nat) : Int) := by
  have h := u32_xor_nat 4294967295 s (by omega) hs
  have e : IntKind.u32.max = ((4294967295 : Nat) : Int) := rfl
  rw [e, h]
  congr 1
  exact not_nat s hs
theorem xor_byte (s : Nat) (x : UInt8) (hs : s < 4294967296) : bits .xor .u32 (s : Int) ((x.toNat : Nat) : Int) = ((s ^^^ x.toNat : Nat) : Int) :=
  u32_xor_nat s x.toNat hs (by have := x.toNat_lt; omega)

theorem take_next (l : List UInt8) (k : Nat) (h : k < l.length) : l.take (k + 1) = l.take k ++ [l.getD k 0] := by
  rw [List.take_succ_eq_append_getElem h, List.getD_eq_getElem?_getD, List.getElem?_eq_getElem h]; rfl
theorem crc_next (s : Nat) (l : List UInt8) (k : Nat) (h : k < l.length) : stepN (stepN (crc s (l.take k) ^^^ (l.getD k 0).toNat)) = crc s (l.take (k + 1)) := by
  rw [take_next l k h, crc_snoc, step2_eq]

end Go.Proofs.Ytijpieaanlnibaa
/- The document's own answer: the sum of bytes, bit by bit. -/
namespace Go.Proofs.Ytijpieaanlnibaa
open Go.RowKit Go.Lib Crc

def Rk : Nat → Nat → Nat
  | 0, s => s
  | k + 1, s => Rk k (R s)
theorem low_bit (n : Nat) (hn : n < 4294967296) : bits .and .u32 (n : Int) 1 = ((n % 2 : Nat) : Int) := by
  have e := u32_and_nat n 1 hn (by omega)
  rw [nat_mask1] at e
  exact e
theorem xor_poly (n : Nat) (hn : n < 4294967296) (h : n % 2 = 1) : bits .xor .u32 ((n : Int) / 2) 2197175160 = ((R n : Nat) : Int) := by
  have e := u32_xor_nat (n / 2) 2197175160 (by omega) (by omega)
  have e2 : (((n / 2 : Nat)) : Int) = (n : Int) / 2 := by omega
  rw [e2] at e
  rw [R_odd h]
  exact e

set_option maxRecDepth 100000 in
set_option maxHeartbeats 2000000 in
theorem RSum_any (s : Nat) (b : ByteArray) (w : World) (hs : s < 4294967296) (hb : b.size ≤ 9223372036854775807) :
    Calls Try.prog 36 #[.int .u32 (s : Int), .string b] w fun e w' => e = .returned (.int .u32 ((sumN s b.data.toList : Nat) : Int)) ∧ w = w' := by
  have HN := not_u32 s hs
  have HZ : Hid (b.data.toList.length = b.size) := by show _ = _; rw [Array.length_toList]; rfl
  go_enter Try.func36, Try.ntmps36
  go_wp2_with fail
  clear HN
  go_loop [0, 5] (fun v i => ∃ k m : Nat, k ≤ b.size ∧ i = .int .i64 (k : Int) ∧ v = .int .u32 (m : Int) ∧ m < 4294967296 ∧ m = crc (4294967295 - s) (b.data.toList.take k)) (fun _ i => b.size - (RowKit.intOf i).toNat)
  case atStart => exact ⟨0, _, Nat.zero_le _, rfl, rfl, by omega, rfl⟩
  case round =>
    obtain ⟨k, m, hk, rfl, rfl, hm, hcrc⟩ := hrel
    by_cases hlt : k < b.size
    · have hkl : k < b.data.toList.length := by rw [HZ.out]; exact hlt
      have hne : ¬ b = ByteArray.empty := by intro h; rw [h] at hlt; exact absurd hlt (by simp)
      have hx256 : (b[k]'hlt).toNat < 256 := (b[k]'hlt).toNat_lt
      have HX := xor_byte m (b[k]'hlt) hm
      have h2 := byte_lt hm (b[k]'hlt)
      have hc := crc_next (4294967295 - s) b.data.toList k hkl
      rw [← hcrc, step2_eq] at hc
      have hx0 : b.data.toList.getD k 0 = b[k]'hlt := by rw [List.getD_eq_getElem?_getD, List.getElem?_eq_getElem hkl]; rfl
      rw [hx0] at hc
      have HC := Lib.hid hc
      clear hkl hc hx0 hcrc
      go_wp2_with fail
      clear HX
      go_loop [0, 6] (fun v i => ∃ j n : Nat, j ≤ 8 ∧ i = .int .i64 (j : Int) ∧ v = .int .u32 (n : Int) ∧ n < 4294967296 ∧ Rk (8 - j) n = R8 (m ^^^ (b[k]'hlt).toNat)) (fun _ i => 8 - (RowKit.intOf i).toNat)
      case atStart => exact ⟨0, _, by omega, rfl, rfl, h2, rfl⟩
      case round =>
        obtain ⟨j, n, hj, rfl, rfl, hn, hr⟩ := hrel
        by_cases hj8 : j < 8
        · have hr2 : Rk (8 - (j + 1)) (R n) = R8 (m ^^^ (b[k]'hlt).toNat) := by
            rw [← hr, show 8 - j = (8 - (j + 1)) + 1 by omega]; rfl
          have hR := R_lt hn
          by_cases ho : n % 2 = 1
          · have HP := xor_poly n hn ho
            have HQ := Lib.hid hr2
            have HR := Lib.hid hR
            have hd := low_bit n hn
            rw [ho] at hd
            clear hr hr2 hR ho
            go_wp2_with fail
            go_round
            case rel => exact ⟨j + 1, _, by omega, by go_num, rfl, HR.out, HQ.out⟩
            case measure => simp [RowKit.intOf]; omega
          · have hE : n / 2 = R n := (R_even ho).symm
            rw [← hE] at hr2 hR
            have HQ := Lib.hid hr2
            have HR := Lib.hid hR
            have hd := low_bit n hn
            rw [show n % 2 = 0 by omega] at hd
            clear hr hr2 hR ho hE
            go_wp2_with fail
            go_round
            case rel => exact ⟨j + 1, n / 2, by omega, by go_num, by go_num, HR.out, HQ.out⟩
            case measure => simp [RowKit.intOf]; omega
        · obtain rfl : j = 8 := by omega
          have hd : n = crc (4294967295 - s) (b.data.toList.take (k + 1)) := (show n = R8 (m ^^^ (b[k]'hlt).toNat) from hr).trans HC.out
          have HD := Lib.hid hd
          clear hd hr
          go_wp2_with fail
          go_round
          case rel => exact ⟨k + 1, n, hlt, by go_num, rfl, hn, HD.out⟩
          case measure => simp [RowKit.intOf]; omega
    · have he : m = crc (4294967295 - s) b.data.toList := by rw [hcrc, List.take_of_length_le (by rw [HZ.out]; omega)]
      have HN := not_u32 m hm
      have HE := Lib.hid he
      clear he hcrc
      go_wp2_with fail
      go_ret
      exact ⟨ret_int (by rw [HE.out]; rfl), rfl⟩
theorem RSum_is (s : Nat) (b : ByteArray) (N : Nat) (w : World) (hs : s < 4294967296) (hb : b.size ≤ 9223372036854775807) (hN : sumN s b.data.toList = N) :
    Calls Try.prog 36 #[.int .u32 (s : Int), .string b] w fun e w' => e = .returned (.int .u32 (N : Int)) ∧ w = w' := by
  rw [← hN]
  exact RSum_any s b w hs hb
end Go.Proofs.Ytijpieaanlnibaa
/- The document's own answer: a record's bytes. -/
namespace Go.Proofs.Ytijpieaanlnibaa
open Go.RowKit Go.Lib Vbi Rcd Crc

/-- One byte in memory, as a string. -/
theorem conv_one {x : Nat} (F : Nat) (C : ByteArray) (hC : strOfNums [(F : Int)] = C) (W : World) (h : W.cell? ⟨x, 0, none⟩ = some (.int .u8 (F : Int))) : (convert 70 9 (.slice (some ⟨x, 0, none⟩) 1 1)).run Try.prog W = .ok (.string C) W := by
  rw [← hC]
  exact run_convert_bytes_arg _ 70 5 Try.underlying70 Try.underlying5 x 0 1 1 [(F : Int)] rfl (fun i hi => by
    obtain rfl : i = 0 := by simpa using hi
    exact h) 9 Try.underlying9
theorem RFixed_is (wd n : Nat) (S : ByteArray) (w : World) (hw : wd ≤ 4) (hn : n < 256 ^ wd) (hS : str (fx wd n) = S) :
    Calls Try.prog 35 #[.int .i64 (n : Int), .int .i64 (wd : Int)] w fun e w' => e = .returned (.string S) ∧ Below w.heap.size w w' := by
  rw [← str_fx] at hS
  rw [← hS]
  exact RFixed_ok n wd w hn hw

set_option maxRecDepth 100000 in
set_option maxHeartbeats 16000000 in
theorem RBytes_parts (o t : Nat) (ks bs : ByteArray) (q F : Nat) (gn : Bool) (A B C D H Z : ByteArray) (N : Nat) (w : World) (hq3 : q < 3) (hq : q + (if gn then 4 else 0) = F)
    (ho : o < 1099511627776) (ht : t < 1099511627777) (hk : ks.size ≤ 1024) (hb : bs.size ≤ 1024) (hA : str (fx 8 o) = A) (hB : str (fx 8 t) = B) (hC : strOfNums [(F : Int)] = C) (hD : str (fx 2 ks.size) = D)
    (hH : str (fx 2 (A ++ B ++ C ++ D ++ ks ++ bs).size) = H) (hN : sumN 0 (H ++ (A ++ B ++ C ++ D ++ ks ++ bs)).data.toList = N) (hZ : str (fx 4 N) = Z) :
    Calls Try.prog 28 #[.agg (rarr (o : Int) (t : Int) ks bs (q : Int) gn)] w fun e w' => e = .returned (.string (H ++ Z ++ (A ++ B ++ C ++ D ++ ks ++ bs))) ∧ Below w.heap.size w w' := by
  have hF : F < 8 := by rw [← hq]; split <;> omega
  have hAz : A.size = 8 := by rw [← hA, str_size, fx_len]
  have hBz : B.size = 8 := by rw [← hB, str_size, fx_len]
  have hCz : C.size = 1 := by rw [← hC, strOfNums_size]; rfl
  have hDz : D.size = 2 := by rw [← hD, str_size, fx_len]
  have hHz : H.size = 2 := by rw [← hH, str_size, fx_len]
  have hZz : Z.size = 4 := by rw [← hZ, str_size, fx_len]
  have hN32 : N < 4294967296 := by rw [← hN]; exact sum_lt _ _
  have hYz : (A ++ B ++ C ++ D ++ ks ++ bs).size ≤ 3000 := by simp only [ByteArray.size_append]; omega
  have HA := Lib.hid (fun W => RFixed8_is o A W (by omega) hA)
  have HB := Lib.hid (fun W => RFixed8_is t B W (by omega) hB)
  have HD := Lib.hid (fun W => RFixed_is 2 ks.size D W (by omega) (by omega) hD)
  have HH := Lib.hid (fun W => RFixed_is 2 (A ++ B ++ C ++ D ++ ks ++ bs).size H W (by omega) (by omega) hH)
  have HN := Lib.hid (fun W => RSum_is 0 (H ++ (A ++ B ++ C ++ D ++ ks ++ bs)) N W (by omega) (by rw [ByteArray.size_append]; omega) hN)
  have HZ := Lib.hid (fun W => RFixed_is 4 N Z W (by omega) (by omega) hZ)
  have n1 : ¬ 9223372036854775807 < A.size + B.size := by omega
  have n2 : ¬ 9223372036854775807 < A.size + B.size + C.size := by omega
  have n3 : ¬ 9223372036854775807 < A.size + B.size + C.size + D.size := by omega
  have n4 : ¬ 9223372036854775807 < A.size + B.size + C.size + D.size + ks.size := by omega
  have n5 : ¬ 9223372036854775807 < A.size + B.size + C.size + D.size + ks.size + bs.size := by omega
  have n6 : IntKind.u8.wrap (F : Int) = (F : Int) := by unfold IntKind.wrap; simp [IntKind.bits, IntKind.signed]; omega
  have R0 := Lib.hid (RBox.new w 44 (rarr (o : Int) (t : Int) ks bs (q : Int) gn))
  obtain ⟨W0, hW⟩ : ∃ W0, w.alloc (.cells (rarr (o : Int) (t : Int) ks bs (q : Int) gn) 44) = W0 := ⟨_, rfl⟩
  rw [hW] at R0
  unfold rarr at hW R0 ⊢
  have HW := Lib.hid hW
  clear hW hA hB hD hH hN hZ 
  go_enter Try.func28, Try.ntmps28
  go_upto_region 1 with fail
  rw [HW.out]
  clear HW
  generalize Value.agg _ = v1
  obtain ⟨g, hg⟩ : ∃ g, w.heap.size = g := ⟨_, rfl⟩
  rw [hg] at R0
  rw [hg]
  clear hg
  have d4 : W0.cell? ⟨g, 4, none⟩ = some (.int .i64 (q : Int)) := R0.out.cell 4
  by_cases hgn : gn = true
  · have d5 : W0.cell? ⟨g, 5, none⟩ = some (.bool true) := by rw [← hgn]; exact R0.out.cell 5
    have hFq : (q : Int) + 4 = (F : Int) := by rw [if_pos hgn] at hq; omega
    have HFq := Lib.hid hFq
    clear hq hgn hFq
    go_upto_region 4 with fail
    rw [HFq.out]
    clear HFq d4 d5
    go_cut [4] from 12 to 34 (fun s4 wx => s4 = .string (A ++ B ++ C ++ D ++ ks ++ bs) ∧ RBox w g #[.int .i64 (o : Int), .int .i64 (t : Int), .string ks, .string bs, .int .i64 (q : Int), .bool gn] wx)
    case first =>
      have hS0 := R0.out.drewN 1
      clear HH HN HZ R0
      refine wp_region_held_drew (S := fun W => RBox w g #[.int .i64 (o : Int), .int .i64 (t : Int), .string ks, .string bs, .int .i64 (q : Int), .bool gn] W) (by kernel_rfl) hS0 (fun hS => ?_)
      clear hS0
      generalize W0.drew = Wd at hS ⊢
      refine take_op 0 12 ?v1 rfl rfl (by kernel_rfl) (fun _ _ _ h => h) (by rfl) hS (fun w' hS' => ?hv1) ?hh1
      case hv1 => (go_simp; (try with_reducible rfl); (try omega))
      simp only [Act.put, List.setIfInBounds_toArray, List.set_cons_zero, List.set_cons_succ]
      refine take_op 1 13 ?v2 rfl rfl (by kernel_rfl) (fun _ _ _ h => h) (by rfl) hS (fun w' hS' => ?hv2) ?hh2
      case hv2 => (have d0 : w'.cell? ⟨g, 0, none⟩ = some (.int .i64 (o : Int)) := hS'.cell 0; go_simp; try with_reducible rfl)
      simp only [Act.put, List.setIfInBounds_toArray, List.set_cons_zero, List.set_cons_succ]
      refine take_op 3 15 ?v3 rfl rfl (by kernel_rfl) (fun _ _ _ h => h) (by rfl) hS (fun w' hS' => ?hv3) ?hh3
      case hv3 => (go_simp; (try with_reducible rfl); (try omega))
      simp only [Act.put, List.setIfInBounds_toArray, List.set_cons_zero, List.set_cons_succ]
      refine take_op 4 16 ?v4 rfl rfl (by kernel_rfl) (fun _ _ _ h => h) (by rfl) hS (fun w' hS' => ?hv4) ?hh4
      case hv4 => (have d1 : w'.cell? ⟨g, 1, none⟩ = some (.int .i64 (t : Int)) := hS'.cell 1; go_simp; try with_reducible rfl)
      simp only [Act.put, List.setIfInBounds_toArray, List.set_cons_zero, List.set_cons_succ]
      refine take_op 7 19 ?v5 rfl rfl (by kernel_rfl) (fun _ _ _ h => h) (by rfl) hS (fun w' hS' => ?hv5) ?hh5
      case hv5 => (go_simp; (try with_reducible rfl); (try omega))
      simp only [Act.put, List.setIfInBounds_toArray, List.set_cons_zero, List.set_cons_succ]
      refine take_op 8 20 (.int .u8 (F : Int)) rfl rfl (by kernel_rfl) (fun _ _ _ h => h) (by rfl) hS (fun w' hS' => ?hv6) ?hh6
      case hv6 => (go_simp; (try with_reducible rfl); (try omega))
      simp only [Act.put, List.setIfInBounds_toArray, List.set_cons_zero, List.set_cons_succ]
      refine take_op 12 24 ?v7 rfl rfl (by kernel_rfl) (fun _ _ _ h => h) (by rfl) hS (fun w' hS' => ?hv7) ?hh7
      case hv7 => (go_simp; (try with_reducible rfl); (try omega))
      simp only [Act.put, List.setIfInBounds_toArray, List.set_cons_zero, List.set_cons_succ]
      refine take_op 13 25 ?v8 rfl rfl (by kernel_rfl) (fun _ _ _ h => h) (by rfl) hS (fun w' hS' => ?hv8) ?hh8
      case hv8 => (have d2 : w'.cell? ⟨g, 2, none⟩ = some (.string ks) := hS'.cell 2; go_simp; try with_reducible rfl)
      simp only [Act.put, List.setIfInBounds_toArray, List.set_cons_zero, List.set_cons_succ]
      refine take_op 14 26 ?v9 rfl rfl (by kernel_rfl) (fun _ _ _ h => h) (by rfl) hS (fun w' hS' => ?hv9) ?hh9
      case hv9 => (go_simp; (try with_reducible rfl); (try omega))
      simp only [Act.put, List.setIfInBounds_toArray, List.set_cons_zero, List.set_cons_succ]
      refine take_op 17 29 ?v10 rfl rfl (by kernel_rfl) (fun _ _ _ h => h) (by rfl) hS (fun w' hS' => ?hv10) ?hh10
      case hv10 => (go_simp; (try with_reducible rfl); (try omega))
      simp only [Act.put, List.setIfInBounds_toArray, List.set_cons_zero, List.set_cons_succ]
      refine take_op 18 30 ?v11 rfl rfl (by kernel_rfl) (fun _ _ _ h => h) (by rfl) hS (fun w' hS' => ?hv11) ?hh11
      case hv11 => (have d2 : w'.cell? ⟨g, 2, none⟩ = some (.string ks) := hS'.cell 2; go_simp; try with_reducible rfl)
      simp only [Act.put, List.setIfInBounds_toArray, List.set_cons_zero, List.set_cons_succ]
      refine take_op 20 32 ?v12 rfl rfl (by kernel_rfl) (fun _ _ _ h => h) (by rfl) hS (fun w' hS' => ?hv12) ?hh12
      case hv12 => (go_simp; (try with_reducible rfl); (try omega))
      simp only [Act.put, List.setIfInBounds_toArray, List.set_cons_zero, List.set_cons_succ]
      refine take_op 21 33 ?v13 rfl rfl (by kernel_rfl) (fun _ _ _ h => h) (by rfl) hS (fun w' hS' => ?hv13) ?hh13
      case hv13 => (have d3 : w'.cell? ⟨g, 3, none⟩ = some (.string bs) := hS'.cell 3; go_simp; try with_reducible rfl)
      simp only [Act.put, List.setIfInBounds_toArray, List.set_cons_zero, List.set_cons_succ]
      refine two_ops 2 9 rfl rfl (by kernel_rfl) (by rfl) (by rfl) (wp_call 14 35 #[.int .i64 (o : Int), .int .i64 8] (.string A) (fun W => Below Wd.heap.size Wd W) rfl (by go_simp) (HA.out Wd) (fun Wdc hb => ⟨hS.below hb, ?_⟩)) (wp_made 21 (.slice (some ⟨Wd.heap.size, 0, none⟩) 1 1) rfl (w' := Wd.alloc (.cells #[.int .u8 (F : Int)] 5)) (by go_simp; try rfl) ⟨hS.below ((Below.refl _ _).alloc (Nat.le_refl _) _), ?_⟩)
      · simp only [Act.put, List.setIfInBounds_toArray, List.set_cons_zero, List.set_cons_succ]
        have hS := hS.below hb
        clear hb
        refine two_ops 5 9 rfl rfl (by kernel_rfl) (by rfl) (by rfl) (wp_call 17 35 #[.int .i64 (t : Int), .int .i64 8] (.string B) (fun W => Below Wdc.heap.size Wdc W) rfl (by go_simp) (HB.out Wdc) (fun Wdcc hb => ⟨hS.below hb, ?_⟩)) (wp_made 21 (.slice (some ⟨Wdc.heap.size, 0, none⟩) 1 1) rfl (w' := Wdc.alloc (.cells #[.int .u8 (F : Int)] 5)) (by go_simp; try rfl) ⟨hS.below ((Below.refl _ _).alloc (Nat.le_refl _) _), ?_⟩)
        · simp only [Act.put, List.setIfInBounds_toArray, List.set_cons_zero, List.set_cons_succ]
          have hS := hS.below hb
          clear hb
          refine take_op 6 18 (.string (A ++ B)) rfl rfl (by kernel_rfl) (fun _ _ _ h => h) (by rfl) hS (fun w' hS' => ?hv14) ?hh14
          case hv14 => (go_simp; (try with_reducible rfl); (try omega))
          simp only [Act.put, List.setIfInBounds_toArray, List.set_cons_zero, List.set_cons_succ]
          refine two_ops 9 15 rfl rfl (by kernel_rfl) (by rfl) (by rfl) (wp_made 21 (.slice (some ⟨Wdcc.heap.size, 0, none⟩) 1 1) rfl (w' := Wdcc.alloc (.cells #[.int .u8 (F : Int)] 5)) (by go_simp; try rfl) ⟨hS.below ((Below.refl _ _).alloc (Nat.le_refl _) _), ?_⟩) (wp_call 27 35 #[.int .i64 (ks.size : Int), .int .i64 2] (.string D) (fun W => Below Wdcc.heap.size Wdcc W) rfl (by go_simp) (HD.out Wdcc) (fun Wdccc hb => ⟨hS.below hb, ?_⟩))
          · simp only [Act.put, List.setIfInBounds_toArray, List.set_cons_zero, List.set_cons_succ]
            have hx : Wdcc.heap.size < (Wdcc.alloc (.cells #[.int .u8 (F : Int)] 5)).heap.size := by simp
            have hS : RBox w g #[.int .i64 (o : Int), .int .i64 (t : Int), .string ks, .string bs, .int .i64 (q : Int), .bool gn] (Wdcc.alloc (.cells #[.int .u8 (F : Int)] 5)) ∧ (Wdcc.alloc (.cells #[.int .u8 (F : Int)] 5)).cell? ⟨Wdcc.heap.size, 0, none⟩ = some (.int .u8 (F : Int)) := ⟨hS.below ((Below.refl _ _).alloc (Nat.le_refl _) _), by rw [cell_of_row (Wdcc.alloc _) Wdcc.heap.size 0 _ _ (0, 0) (heap_alloc_new Wdcc _)]; rfl⟩
            have hcv := fun W h => conv_one (x := Wdcc.heap.size) F C hC W h
            generalize Wdcc.alloc _ = Wdccm at hx hS ⊢
            generalize Wdcc.heap.size = x at hx hS hcv ⊢
            refine held_stronger (S' := fun W => RBox w g #[.int .i64 (o : Int), .int .i64 (t : Int), .string ks, .string bs, .int .i64 (q : Int), .bool gn] W ∧ W.cell? ⟨x, 0, none⟩ = some (.int .u8 (F : Int))) (fun _ h => h.1) _ _ _ _ ?_
            have hcv := fun W (h : RBox w g #[.int .i64 (o : Int), .int .i64 (t : Int), .string ks, .string bs, .int .i64 (q : Int), .bool gn] W ∧ W.cell? ⟨x, 0, none⟩ = some (.int .u8 (F : Int))) => hcv W h.2
            refine take_op 10 22 (.string C) rfl rfl (by kernel_rfl) (fun _ _ _ h => h) (by rfl) hS (fun w' hS' => ?hv15) ?hh15
            case hv15 => (have hc := hcv w' hS'; go_simp; try with_reducible rfl)
            simp only [Act.put, List.setIfInBounds_toArray, List.set_cons_zero, List.set_cons_succ]
            refine take_op 11 23 (.string (A ++ B ++ C)) rfl rfl (by kernel_rfl) (fun _ _ _ h => h) (by rfl) hS (fun w' hS' => ?hv16) ?hh16
            case hv16 => (go_simp; (try with_reducible rfl); (try omega))
            simp only [Act.put, List.setIfInBounds_toArray, List.set_cons_zero, List.set_cons_succ]
            refine only_op 15 rfl (by kernel_rfl) (by rfl) (wp_call 27 35 #[.int .i64 (ks.size : Int), .int .i64 2] (.string D) (fun W => Below Wdccm.heap.size Wdccm W) rfl (by go_simp) (HD.out Wdccm) (fun Wdccmc hb => ⟨⟨hS.1.below hb, (hb.cell (p := ⟨x, 0, none⟩) hx).trans hS.2⟩, ?_⟩))
            simp only [Act.put, List.setIfInBounds_toArray, List.set_cons_zero, List.set_cons_succ]
            have hS : RBox w g #[.int .i64 (o : Int), .int .i64 (t : Int), .string ks, .string bs, .int .i64 (q : Int), .bool gn] Wdccmc ∧ Wdccmc.cell? ⟨x, 0, none⟩ = some (.int .u8 (F : Int)) := ⟨hS.1.below hb, (hb.cell (p := ⟨x, 0, none⟩) hx).trans hS.2⟩
            have hx := Nat.lt_of_lt_of_le hx hb.size
            clear hb
            refine take_op 16 28 (.string (A ++ B ++ C ++ D)) rfl rfl (by kernel_rfl) (fun _ _ _ h => h) (by rfl) hS (fun w' hS' => ?hv17) ?hh17
            case hv17 => (go_simp; (try with_reducible rfl); (try omega))
            simp only [Act.put, List.setIfInBounds_toArray, List.set_cons_zero, List.set_cons_succ]
            refine take_op 19 31 (.string (A ++ B ++ C ++ D ++ ks)) rfl rfl (by kernel_rfl) (fun _ _ _ h => h) (by rfl) hS (fun w' hS' => ?hv18) ?hh18
            case hv18 => (go_simp; (try with_reducible rfl); (try omega))
            simp only [Act.put, List.setIfInBounds_toArray, List.set_cons_zero, List.set_cons_succ]
            refine take_op 22 34 (.string (A ++ B ++ C ++ D ++ ks ++ bs)) rfl rfl (by kernel_rfl) (fun _ _ _ h => h) (by rfl) hS (fun w' hS' => ?hv19) ?hh19
            case hv19 => (go_simp; (try with_reducible rfl); (try omega))
            simp only [Act.put, List.setIfInBounds_toArray, List.set_cons_zero, List.set_cons_succ]
            refine take_op 23 4 (.string (A ++ B ++ C ++ D ++ ks ++ bs)) rfl rfl (by kernel_rfl) (fun _ _ _ h => h) (by rfl) hS (fun w' hS' => ?hv20) ?hh20
            case hv20 => (go_simp; (try with_reducible rfl); (try omega))
            simp only [Act.put, List.setIfInBounds_toArray, List.set_cons_zero, List.set_cons_succ]
            refine wpAnyH_done (by kernel_rfl) ?_ _
            go_wp2_with fail
            go_meet
            exact ⟨rfl, hS.1⟩
          · simp only [Act.put, List.setIfInBounds_toArray, List.set_cons_zero, List.set_cons_succ]
            have hS := hS.below hb
            clear hb
            refine only_op 9 rfl (by kernel_rfl) (by rfl) (wp_made 21 (.slice (some ⟨Wdccc.heap.size, 0, none⟩) 1 1) rfl (w' := Wdccc.alloc (.cells #[.int .u8 (F : Int)] 5)) (by go_simp; try rfl) ⟨hS.below ((Below.refl _ _).alloc (Nat.le_refl _) _), ?_⟩)
            simp only [Act.put, List.setIfInBounds_toArray, List.set_cons_zero, List.set_cons_succ]
            have hx : Wdccc.heap.size < (Wdccc.alloc (.cells #[.int .u8 (F : Int)] 5)).heap.size := by simp
            have hS : RBox w g #[.int .i64 (o : Int), .int .i64 (t : Int), .string ks, .string bs, .int .i64 (q : Int), .bool gn] (Wdccc.alloc (.cells #[.int .u8 (F : Int)] 5)) ∧ (Wdccc.alloc (.cells #[.int .u8 (F : Int)] 5)).cell? ⟨Wdccc.heap.size, 0, none⟩ = some (.int .u8 (F : Int)) := ⟨hS.below ((Below.refl _ _).alloc (Nat.le_refl _) _), by rw [cell_of_row (Wdccc.alloc _) Wdccc.heap.size 0 _ _ (0, 0) (heap_alloc_new Wdccc _)]; rfl⟩
            have hcv := fun W h => conv_one (x := Wdccc.heap.size) F C hC W h
            generalize Wdccc.alloc _ = Wdcccm at hx hS ⊢
            generalize Wdccc.heap.size = x at hx hS hcv ⊢
            refine held_stronger (S' := fun W => RBox w g #[.int .i64 (o : Int), .int .i64 (t : Int), .string ks, .string bs, .int .i64 (q : Int), .bool gn] W ∧ W.cell? ⟨x, 0, none⟩ = some (.int .u8 (F : Int))) (fun _ h => h.1) _ _ _ _ ?_
            have hcv := fun W (h : RBox w g #[.int .i64 (o : Int), .int .i64 (t : Int), .string ks, .string bs, .int .i64 (q : Int), .bool gn] W ∧ W.cell? ⟨x, 0, none⟩ = some (.int .u8 (F : Int))) => hcv W h.2
            refine take_op 10 22 (.string C) rfl rfl (by kernel_rfl) (fun _ _ _ h => h) (by rfl) hS (fun w' hS' => ?hv21) ?hh21
            case hv21 => (have hc := hcv w' hS'; go_simp; try with_reducible rfl)
            simp only [Act.put, List.setIfInBounds_toArray, List.set_cons_zero, List.set_cons_succ]
            refine take_op 11 23 (.string (A ++ B ++ C)) rfl rfl (by kernel_rfl) (fun _ _ _ h => h) (by rfl) hS (fun w' hS' => ?hv22) ?hh22
            case hv22 => (go_simp; (try with_reducible rfl); (try omega))
            simp only [Act.put, List.setIfInBounds_toArray, List.set_cons_zero, List.set_cons_succ]
            refine take_op 16 28 (.string (A ++ B ++ C ++ D)) rfl rfl (by kernel_rfl) (fun _ _ _ h => h) (by rfl) hS (fun w' hS' => ?hv23) ?hh23
            case hv23 => (go_simp; (try with_reducible rfl); (try omega))
            simp only [Act.put, List.setIfInBounds_toArray, List.set_cons_zero, List.set_cons_succ]
            refine take_op 19 31 (.string (A ++ B ++ C ++ D ++ ks)) rfl rfl (by kernel_rfl) (fun _ _ _ h => h) (by rfl) hS (fun w' hS' => ?hv24) ?hh24
            case hv24 => (go_simp; (try with_reducible rfl); (try omega))
            simp only [Act.put, List.setIfInBounds_toArray, List.set_cons_zero, List.set_cons_succ]
            refine take_op 22 34 (.string (A ++ B ++ C ++ D ++ ks ++ bs)) rfl rfl (by kernel_rfl) (fun _ _ _ h => h) (by rfl) hS (fun w' hS' => ?hv25) ?hh25
            case hv25 => (go_simp; (try with_reducible rfl); (try omega))
            simp only [Act.put, List.setIfInBounds_toArray, List.set_cons_zero, List.set_cons_succ]
            refine take_op 23 4 (.string (A ++ B ++ C ++ D ++ ks ++ bs)) rfl rfl (by kernel_rfl) (fun _ _ _ h => h) (by rfl) hS (fun w' hS' => ?hv26) ?hh26
            case hv26 => (go_simp; (try with_reducible rfl); (try omega))
            simp only [Act.put, List.setIfInBounds_toArray, List.set_cons_zero, List.set_cons_succ]
            refine wpAnyH_done (by kernel_rfl) ?_ _
            go_wp2_with fail
            go_meet
            exact ⟨rfl, hS.1⟩
        · simp only [Act.put, List.setIfInBounds_toArray, List.set_cons_zero, List.set_cons_succ]
          have hx : Wdc.heap.size < (Wdc.alloc (.cells #[.int .u8 (F : Int)] 5)).heap.size := by simp
          have hS : RBox w g #[.int .i64 (o : Int), .int .i64 (t : Int), .string ks, .string bs, .int .i64 (q : Int), .bool gn] (Wdc.alloc (.cells #[.int .u8 (F : Int)] 5)) ∧ (Wdc.alloc (.cells #[.int .u8 (F : Int)] 5)).cell? ⟨Wdc.heap.size, 0, none⟩ = some (.int .u8 (F : Int)) := ⟨hS.below ((Below.refl _ _).alloc (Nat.le_refl _) _), by rw [cell_of_row (Wdc.alloc _) Wdc.heap.size 0 _ _ (0, 0) (heap_alloc_new Wdc _)]; rfl⟩
          have hcv := fun W h => conv_one (x := Wdc.heap.size) F C hC W h
          generalize Wdc.alloc _ = Wdcm at hx hS ⊢
          generalize Wdc.heap.size = x at hx hS hcv ⊢
          refine held_stronger (S' := fun W => RBox w g #[.int .i64 (o : Int), .int .i64 (t : Int), .string ks, .string bs, .int .i64 (q : Int), .bool gn] W ∧ W.cell? ⟨x, 0, none⟩ = some (.int .u8 (F : Int))) (fun _ h => h.1) _ _ _ _ ?_
          have hcv := fun W (h : RBox w g #[.int .i64 (o : Int), .int .i64 (t : Int), .string ks, .string bs, .int .i64 (q : Int), .bool gn] W ∧ W.cell? ⟨x, 0, none⟩ = some (.int .u8 (F : Int))) => hcv W h.2
          refine take_op 10 22 (.string C) rfl rfl (by kernel_rfl) (fun _ _ _ h => h) (by rfl) hS (fun w' hS' => ?hv27) ?hh27
          case hv27 => (have hc := hcv w' hS'; go_simp; try with_reducible rfl)
          simp only [Act.put, List.setIfInBounds_toArray, List.set_cons_zero, List.set_cons_succ]
          refine only_op 5 rfl (by kernel_rfl) (by rfl) (wp_call 17 35 #[.int .i64 (t : Int), .int .i64 8] (.string B) (fun W => Below Wdcm.heap.size Wdcm W) rfl (by go_simp) (HB.out Wdcm) (fun Wdcmc hb => ⟨⟨hS.1.below hb, (hb.cell (p := ⟨x, 0, none⟩) hx).trans hS.2⟩, ?_⟩))
          simp only [Act.put, List.setIfInBounds_toArray, List.set_cons_zero, List.set_cons_succ]
          have hS : RBox w g #[.int .i64 (o : Int), .int .i64 (t : Int), .string ks, .string bs, .int .i64 (q : Int), .bool gn] Wdcmc ∧ Wdcmc.cell? ⟨x, 0, none⟩ = some (.int .u8 (F : Int)) := ⟨hS.1.below hb, (hb.cell (p := ⟨x, 0, none⟩) hx).trans hS.2⟩
          have hx := Nat.lt_of_lt_of_le hx hb.size
          clear hb
          refine take_op 6 18 (.string (A ++ B)) rfl rfl (by kernel_rfl) (fun _ _ _ h => h) (by rfl) hS (fun w' hS' => ?hv28) ?hh28
          case hv28 => (go_simp; (try with_reducible rfl); (try omega))
          simp only [Act.put, List.setIfInBounds_toArray, List.set_cons_zero, List.set_cons_succ]
          refine take_op 11 23 (.string (A ++ B ++ C)) rfl rfl (by kernel_rfl) (fun _ _ _ h => h) (by rfl) hS (fun w' hS' => ?hv29) ?hh29
          case hv29 => (go_simp; (try with_reducible rfl); (try omega))
          simp only [Act.put, List.setIfInBounds_toArray, List.set_cons_zero, List.set_cons_succ]
          refine only_op 15 rfl (by kernel_rfl) (by rfl) (wp_call 27 35 #[.int .i64 (ks.size : Int), .int .i64 2] (.string D) (fun W => Below Wdcmc.heap.size Wdcmc W) rfl (by go_simp) (HD.out Wdcmc) (fun Wdcmcc hb => ⟨⟨hS.1.below hb, (hb.cell (p := ⟨x, 0, none⟩) hx).trans hS.2⟩, ?_⟩))
          simp only [Act.put, List.setIfInBounds_toArray, List.set_cons_zero, List.set_cons_succ]
          have hS : RBox w g #[.int .i64 (o : Int), .int .i64 (t : Int), .string ks, .string bs, .int .i64 (q : Int), .bool gn] Wdcmcc ∧ Wdcmcc.cell? ⟨x, 0, none⟩ = some (.int .u8 (F : Int)) := ⟨hS.1.below hb, (hb.cell (p := ⟨x, 0, none⟩) hx).trans hS.2⟩
          have hx := Nat.lt_of_lt_of_le hx hb.size
          clear hb
          refine take_op 16 28 (.string (A ++ B ++ C ++ D)) rfl rfl (by kernel_rfl) (fun _ _ _ h => h) (by rfl) hS (fun w' hS' => ?hv30) ?hh30
          case hv30 => (go_simp; (try with_reducible rfl); (try omega))
          simp only [Act.put, List.setIfInBounds_toArray, List.set_cons_zero, List.set_cons_succ]
          refine take_op 19 31 (.string (A ++ B ++ C ++ D ++ ks)) rfl rfl (by kernel_rfl) (fun _ _ _ h => h) (by rfl) hS (fun w' hS' => ?hv31) ?hh31
          case hv31 => (go_simp; (try with_reducible rfl); (try omega))
          simp only [Act.put, List.setIfInBounds_toArray, List.set_cons_zero, List.set_cons_succ]
          refine take_op 22 34 (.string (A ++ B ++ C ++ D ++ ks ++ bs)) rfl rfl (by kernel_rfl) (fun _ _ _ h => h) (by rfl) hS (fun w' hS' => ?hv32) ?hh32
          case hv32 => (go_simp; (try with_reducible rfl); (try omega))
          simp only [Act.put, List.setIfInBounds_toArray, List.set_cons_zero, List.set_cons_succ]
          refine take_op 23 4 (.string (A ++ B ++ C ++ D ++ ks ++ bs)) rfl rfl (by kernel_rfl) (fun _ _ _ h => h) (by rfl) hS (fun w' hS' => ?hv33) ?hh33
          case hv33 => (go_simp; (try with_reducible rfl); (try omega))
          simp only [Act.put, List.setIfInBounds_toArray, List.set_cons_zero, List.set_cons_succ]
          refine wpAnyH_done (by kernel_rfl) ?_ _
          go_wp2_with fail
          go_meet
          exact ⟨rfl, hS.1⟩
      · simp only [Act.put, List.setIfInBounds_toArray, List.set_cons_zero, List.set_cons_succ]
        have hx : Wd.heap.size < (Wd.alloc (.cells #[.int .u8 (F : Int)] 5)).heap.size := by simp
        have hS : RBox w g #[.int .i64 (o : Int), .int .i64 (t : Int), .string ks, .string bs, .int .i64 (q : Int), .bool gn] (Wd.alloc (.cells #[.int .u8 (F : Int)] 5)) ∧ (Wd.alloc (.cells #[.int .u8 (F : Int)] 5)).cell? ⟨Wd.heap.size, 0, none⟩ = some (.int .u8 (F : Int)) := ⟨hS.below ((Below.refl _ _).alloc (Nat.le_refl _) _), by rw [cell_of_row (Wd.alloc _) Wd.heap.size 0 _ _ (0, 0) (heap_alloc_new Wd _)]; rfl⟩
        have hcv := fun W h => conv_one (x := Wd.heap.size) F C hC W h
        generalize Wd.alloc _ = Wdm at hx hS ⊢
        generalize Wd.heap.size = x at hx hS hcv ⊢
        refine held_stronger (S' := fun W => RBox w g #[.int .i64 (o : Int), .int .i64 (t : Int), .string ks, .string bs, .int .i64 (q : Int), .bool gn] W ∧ W.cell? ⟨x, 0, none⟩ = some (.int .u8 (F : Int))) (fun _ h => h.1) _ _ _ _ ?_
        have hcv := fun W (h : RBox w g #[.int .i64 (o : Int), .int .i64 (t : Int), .string ks, .string bs, .int .i64 (q : Int), .bool gn] W ∧ W.cell? ⟨x, 0, none⟩ = some (.int .u8 (F : Int))) => hcv W h.2
        refine take_op 10 22 (.string C) rfl rfl (by kernel_rfl) (fun _ _ _ h => h) (by rfl) hS (fun w' hS' => ?hv34) ?hh34
        case hv34 => (have hc := hcv w' hS'; go_simp; try with_reducible rfl)
        simp only [Act.put, List.setIfInBounds_toArray, List.set_cons_zero, List.set_cons_succ]
        refine only_op 2 rfl (by kernel_rfl) (by rfl) (wp_call 14 35 #[.int .i64 (o : Int), .int .i64 8] (.string A) (fun W => Below Wdm.heap.size Wdm W) rfl (by go_simp) (HA.out Wdm) (fun Wdmc hb => ⟨⟨hS.1.below hb, (hb.cell (p := ⟨x, 0, none⟩) hx).trans hS.2⟩, ?_⟩))
        simp only [Act.put, List.setIfInBounds_toArray, List.set_cons_zero, List.set_cons_succ]
        have hS : RBox w g #[.int .i64 (o : Int), .int .i64 (t : Int), .string ks, .string bs, .int .i64 (q : Int), .bool gn] Wdmc ∧ Wdmc.cell? ⟨x, 0, none⟩ = some (.int .u8 (F : Int)) := ⟨hS.1.below hb, (hb.cell (p := ⟨x, 0, none⟩) hx).trans hS.2⟩
        have hx := Nat.lt_of_lt_of_le hx hb.size
        clear hb
        refine only_op 5 rfl (by kernel_rfl) (by rfl) (wp_call 17 35 #[.int .i64 (t : Int), .int .i64 8] (.string B) (fun W => Below Wdmc.heap.size Wdmc W) rfl (by go_simp) (HB.out Wdmc) (fun Wdmcc hb => ⟨⟨hS.1.below hb, (hb.cell (p := ⟨x, 0, none⟩) hx).trans hS.2⟩, ?_⟩))
        simp only [Act.put, List.setIfInBounds_toArray, List.set_cons_zero, List.set_cons_succ]
        have hS : RBox w g #[.int .i64 (o : Int), .int .i64 (t : Int), .string ks, .string bs, .int .i64 (q : Int), .bool gn] Wdmcc ∧ Wdmcc.cell? ⟨x, 0, none⟩ = some (.int .u8 (F : Int)) := ⟨hS.1.below hb, (hb.cell (p := ⟨x, 0, none⟩) hx).trans hS.2⟩
        have hx := Nat.lt_of_lt_of_le hx hb.size
        clear hb
        refine take_op 6 18 (.string (A ++ B)) rfl rfl (by kernel_rfl) (fun _ _ _ h => h) (by rfl) hS (fun w' hS' => ?hv35) ?hh35
        case hv35 => (go_simp; (try with_reducible rfl); (try omega))
        simp only [Act.put, List.setIfInBounds_toArray, List.set_cons_zero, List.set_cons_succ]
        refine take_op 11 23 (.string (A ++ B ++ C)) rfl rfl (by kernel_rfl) (fun _ _ _ h => h) (by rfl) hS (fun w' hS' => ?hv36) ?hh36
        case hv36 => (go_simp; (try with_reducible rfl); (try omega))
        simp only [Act.put, List.setIfInBounds_toArray, List.set_cons_zero, List.set_cons_succ]
        refine only_op 15 rfl (by kernel_rfl) (by rfl) (wp_call 27 35 #[.int .i64 (ks.size : Int), .int .i64 2] (.string D) (fun W => Below Wdmcc.heap.size Wdmcc W) rfl (by go_simp) (HD.out Wdmcc) (fun Wdmccc hb => ⟨⟨hS.1.below hb, (hb.cell (p := ⟨x, 0, none⟩) hx).trans hS.2⟩, ?_⟩))
        simp only [Act.put, List.setIfInBounds_toArray, List.set_cons_zero, List.set_cons_succ]
        have hS : RBox w g #[.int .i64 (o : Int), .int .i64 (t : Int), .string ks, .string bs, .int .i64 (q : Int), .bool gn] Wdmccc ∧ Wdmccc.cell? ⟨x, 0, none⟩ = some (.int .u8 (F : Int)) := ⟨hS.1.below hb, (hb.cell (p := ⟨x, 0, none⟩) hx).trans hS.2⟩
        have hx := Nat.lt_of_lt_of_le hx hb.size
        clear hb
        refine take_op 16 28 (.string (A ++ B ++ C ++ D)) rfl rfl (by kernel_rfl) (fun _ _ _ h => h) (by rfl) hS (fun w' hS' => ?hv37) ?hh37
        case hv37 => (go_simp; (try with_reducible rfl); (try omega))
        simp only [Act.put, List.setIfInBounds_toArray, List.set_cons_zero, List.set_cons_succ]
        refine take_op 19 31 (.string (A ++ B ++ C ++ D ++ ks)) rfl rfl (by kernel_rfl) (fun _ _ _ h => h) (by rfl) hS (fun w' hS' => ?hv38) ?hh38
        case hv38 => (go_simp; (try with_reducible rfl); (try omega))
        simp only [Act.put, List.setIfInBounds_toArray, List.set_cons_zero, List.set_cons_succ]
        refine take_op 22 34 (.string (A ++ B ++ C ++ D ++ ks ++ bs)) rfl rfl (by kernel_rfl) (fun _ _ _ h => h) (by rfl) hS (fun w' hS' => ?hv39) ?hh39
        case hv39 => (go_simp; (try with_reducible rfl); (try omega))
        simp only [Act.put, List.setIfInBounds_toArray, List.set_cons_zero, List.set_cons_succ]
        refine take_op 23 4 (.string (A ++ B ++ C ++ D ++ ks ++ bs)) rfl rfl (by kernel_rfl) (fun _ _ _ h => h) (by rfl) hS (fun w' hS' => ?hv40) ?hh40
        case hv40 => (go_simp; (try with_reducible rfl); (try omega))
        simp only [Act.put, List.setIfInBounds_toArray, List.set_cons_zero, List.set_cons_succ]
        refine wpAnyH_done (by kernel_rfl) ?_ _
        go_wp2_with fail
        go_meet
        exact ⟨rfl, hS.1⟩
    case rest =>
      obtain ⟨rfl, hbx⟩ := hcut
      have R1 := Lib.hid hbx
      clear hbx R0 HA HB HD
      obtain ⟨Y, hY⟩ : ∃ Y, A ++ B ++ C ++ D ++ ks ++ bs = Y := ⟨_, rfl⟩
      rw [hY] at HH HN hYz ⊢
      have HY := Lib.hid hY
      clear hY
      clear n1 n2 n3 n4 n5 n6
      go_wp2_with fail
      refine (HH.out _).mono ?_
      rintro e w2 ⟨rfl, hb2⟩
      have R2 := Lib.hid (R1.out.below hb2)
      clear hb2 R1 HH
      go_wp2_with fail
      refine (HN.out _).mono ?_
      rintro e w3 ⟨rfl, rfl⟩
      go_wp2_with fail
      refine (HZ.out _).mono ?_
      rintro e w3 ⟨rfl, hb3⟩
      have R3 := Lib.hid (R2.out.below hb3)
      clear hb3 R2 HZ HN
      go_wp2_with fail
      go_ret
      exact ⟨by rw [HY.out]; rfl, R3.out.out.2⟩
  · have d5 : W0.cell? ⟨g, 5, none⟩ = some (.bool false) := by rw [← Bool.eq_false_iff.2 hgn]; exact R0.out.cell 5
    have hFq : (q : Int) = (F : Int) := by rw [if_neg hgn] at hq; omega
    have HFq := Lib.hid hFq
    clear hq hgn hFq
    go_upto_region 4 with fail
    rw [HFq.out]
    clear HFq d4 d5
    go_cut [4] from 12 to 34 (fun s4 wx => s4 = .string (A ++ B ++ C ++ D ++ ks ++ bs) ∧ RBox w g #[.int .i64 (o : Int), .int .i64 (t : Int), .string ks, .string bs, .int .i64 (q : Int), .bool gn] wx)
    case first =>
      have hS0 := R0.out.drewN 1
      clear HH HN HZ R0
      refine wp_region_held_drew (S := fun W => RBox w g #[.int .i64 (o : Int), .int .i64 (t : Int), .string ks, .string bs, .int .i64 (q : Int), .bool gn] W) (by kernel_rfl) hS0 (fun hS => ?_)
      clear hS0
      generalize W0.drew = Wd at hS ⊢
      refine take_op 0 12 ?v41 rfl rfl (by kernel_rfl) (fun _ _ _ h => h) (by rfl) hS (fun w' hS' => ?hv41) ?hh41
      case hv41 => (go_simp; (try with_reducible rfl); (try omega))
      simp only [Act.put, List.setIfInBounds_toArray, List.set_cons_zero, List.set_cons_succ]
      refine take_op 1 13 ?v42 rfl rfl (by kernel_rfl) (fun _ _ _ h => h) (by rfl) hS (fun w' hS' => ?hv42) ?hh42
      case hv42 => (have d0 : w'.cell? ⟨g, 0, none⟩ = some (.int .i64 (o : Int)) := hS'.cell 0; go_simp; try with_reducible rfl)
      simp only [Act.put, List.setIfInBounds_toArray, List.set_cons_zero, List.set_cons_succ]
      refine take_op 3 15 ?v43 rfl rfl (by kernel_rfl) (fun _ _ _ h => h) (by rfl) hS (fun w' hS' => ?hv43) ?hh43
      case hv43 => (go_simp; (try with_reducible rfl); (try omega))
      simp only [Act.put, List.setIfInBounds_toArray, List.set_cons_zero, List.set_cons_succ]
      refine take_op 4 16 ?v44 rfl rfl (by kernel_rfl) (fun _ _ _ h => h) (by rfl) hS (fun w' hS' => ?hv44) ?hh44
      case hv44 => (have d1 : w'.cell? ⟨g, 1, none⟩ = some (.int .i64 (t : Int)) := hS'.cell 1; go_simp; try with_reducible rfl)
      simp only [Act.put, List.setIfInBounds_toArray, List.set_cons_zero, List.set_cons_succ]
      refine take_op 7 19 ?v45 rfl rfl (by kernel_rfl) (fun _ _ _ h => h) (by rfl) hS (fun w' hS' => ?hv45) ?hh45
      case hv45 => (go_simp; (try with_reducible rfl); (try omega))
      simp only [Act.put, List.setIfInBounds_toArray, List.set_cons_zero, List.set_cons_succ]
      refine take_op 8 20 (.int .u8 (F : Int)) rfl rfl (by kernel_rfl) (fun _ _ _ h => h) (by rfl) hS (fun w' hS' => ?hv46) ?hh46
      case hv46 => (go_simp; (try with_reducible rfl); (try omega))
      simp only [Act.put, List.setIfInBounds_toArray, List.set_cons_zero, List.set_cons_succ]
      refine take_op 12 24 ?v47 rfl rfl (by kernel_rfl) (fun _ _ _ h => h) (by rfl) hS (fun w' hS' => ?hv47) ?hh47
      case hv47 => (go_simp; (try with_reducible rfl); (try omega))
      simp only [Act.put, List.setIfInBounds_toArray, List.set_cons_zero, List.set_cons_succ]
      refine take_op 13 25 ?v48 rfl rfl (by kernel_rfl) (fun _ _ _ h => h) (by rfl) hS (fun w' hS' => ?hv48) ?hh48
      case hv48 => (have d2 : w'.cell? ⟨g, 2, none⟩ = some (.string ks) := hS'.cell 2; go_simp; try with_reducible rfl)
      simp only [Act.put, List.setIfInBounds_toArray, List.set_cons_zero, List.set_cons_succ]
      refine take_op 14 26 ?v49 rfl rfl (by kernel_rfl) (fun _ _ _ h => h) (by rfl) hS (fun w' hS' => ?hv49) ?hh49
      case hv49 => (go_simp; (try with_reducible rfl); (try omega))
      simp only [Act.put, List.setIfInBounds_toArray, List.set_cons_zero, List.set_cons_succ]
      refine take_op 17 29 ?v50 rfl rfl (by kernel_rfl) (fun _ _ _ h => h) (by rfl) hS (fun w' hS' => ?hv50) ?hh50
      case hv50 => (go_simp; (try with_reducible rfl); (try omega))
      simp only [Act.put, List.setIfInBounds_toArray, List.set_cons_zero, List.set_cons_succ]
      refine take_op 18 30 ?v51 rfl rfl (by kernel_rfl) (fun _ _ _ h => h) (by rfl) hS (fun w' hS' => ?hv51) ?hh51
      case hv51 => (have d2 : w'.cell? ⟨g, 2, none⟩ = some (.string ks) := hS'.cell 2; go_simp; try with_reducible rfl)
      simp only [Act.put, List.setIfInBounds_toArray, List.set_cons_zero, List.set_cons_succ]
      refine take_op 20 32 ?v52 rfl rfl (by kernel_rfl) (fun _ _ _ h => h) (by rfl) hS (fun w' hS' => ?hv52) ?hh52
      case hv52 => (go_simp; (try with_reducible rfl); (try omega))
      simp only [Act.put, List.setIfInBounds_toArray, List.set_cons_zero, List.set_cons_succ]
      refine take_op 21 33 ?v53 rfl rfl (by kernel_rfl) (fun _ _ _ h => h) (by rfl) hS (fun w' hS' => ?hv53) ?hh53
      case hv53 => (have d3 : w'.cell? ⟨g, 3, none⟩ = some (.string bs) := hS'.cell 3; go_simp; try with_reducible rfl)
      simp only [Act.put, List.setIfInBounds_toArray, List.set_cons_zero, List.set_cons_succ]
      refine two_ops 2 9 rfl rfl (by kernel_rfl) (by rfl) (by rfl) (wp_call 14 35 #[.int .i64 (o : Int), .int .i64 8] (.string A) (fun W => Below Wd.heap.size Wd W) rfl (by go_simp) (HA.out Wd) (fun Wdc hb => ⟨hS.below hb, ?_⟩)) (wp_made 21 (.slice (some ⟨Wd.heap.size, 0, none⟩) 1 1) rfl (w' := Wd.alloc (.cells #[.int .u8 (F : Int)] 5)) (by go_simp; try rfl) ⟨hS.below ((Below.refl _ _).alloc (Nat.le_refl _) _), ?_⟩)
      · simp only [Act.put, List.setIfInBounds_toArray, List.set_cons_zero, List.set_cons_succ]
        have hS := hS.below hb
        clear hb
        refine two_ops 5 9 rfl rfl (by kernel_rfl) (by rfl) (by rfl) (wp_call 17 35 #[.int .i64 (t : Int), .int .i64 8] (.string B) (fun W => Below Wdc.heap.size Wdc W) rfl (by go_simp) (HB.out Wdc) (fun Wdcc hb => ⟨hS.below hb, ?_⟩)) (wp_made 21 (.slice (some ⟨Wdc.heap.size, 0, none⟩) 1 1) rfl (w' := Wdc.alloc (.cells #[.int .u8 (F : Int)] 5)) (by go_simp; try rfl) ⟨hS.below ((Below.refl _ _).alloc (Nat.le_refl _) _), ?_⟩)
        · simp only [Act.put, List.setIfInBounds_toArray, List.set_cons_zero, List.set_cons_succ]
          have hS := hS.below hb
          clear hb
          refine take_op 6 18 (.string (A ++ B)) rfl rfl (by kernel_rfl) (fun _ _ _ h => h) (by rfl) hS (fun w' hS' => ?hv54) ?hh54
          case hv54 => (go_simp; (try with_reducible rfl); (try omega))
          simp only [Act.put, List.setIfInBounds_toArray, List.set_cons_zero, List.set_cons_succ]
          refine two_ops 9 15 rfl rfl (by kernel_rfl) (by rfl) (by rfl) (wp_made 21 (.slice (some ⟨Wdcc.heap.size, 0, none⟩) 1 1) rfl (w' := Wdcc.alloc (.cells #[.int .u8 (F : Int)] 5)) (by go_simp; try rfl) ⟨hS.below ((Below.refl _ _).alloc (Nat.le_refl _) _), ?_⟩) (wp_call 27 35 #[.int .i64 (ks.size : Int), .int .i64 2] (.string D) (fun W => Below Wdcc.heap.size Wdcc W) rfl (by go_simp) (HD.out Wdcc) (fun Wdccc hb => ⟨hS.below hb, ?_⟩))
          · simp only [Act.put, List.setIfInBounds_toArray, List.set_cons_zero, List.set_cons_succ]
            have hx : Wdcc.heap.size < (Wdcc.alloc (.cells #[.int .u8 (F : Int)] 5)).heap.size := by simp
            have hS : RBox w g #[.int .i64 (o : Int), .int .i64 (t : Int), .string ks, .string bs, .int .i64 (q : Int), .bool gn] (Wdcc.alloc (.cells #[.int .u8 (F : Int)] 5)) ∧ (Wdcc.alloc (.cells #[.int .u8 (F : Int)] 5)).cell? ⟨Wdcc.heap.size, 0, none⟩ = some (.int .u8 (F : Int)) := ⟨hS.below ((Below.refl _ _).alloc (Nat.le_refl _) _), by rw [cell_of_row (Wdcc.alloc _) Wdcc.heap.size 0 _ _ (0, 0) (heap_alloc_new Wdcc _)]; rfl⟩
            have hcv := fun W h => conv_one (x := Wdcc.heap.size) F C hC W h
            generalize Wdcc.alloc _ = Wdccm at hx hS ⊢
            generalize Wdcc.heap.size = x at hx hS hcv ⊢
            refine held_stronger (S' := fun W => RBox w g #[.int .i64 (o : Int), .int .i64 (t : Int), .string ks, .string bs, .int .i64 (q : Int), .bool gn] W ∧ W.cell? ⟨x, 0, none⟩ = some (.int .u8 (F : Int))) (fun _ h => h.1) _ _ _ _ ?_
            have hcv := fun W (h : RBox w g #[.int .i64 (o : Int), .int .i64 (t : Int), .string ks, .string bs, .int .i64 (q : Int), .bool gn] W ∧ W.cell? ⟨x, 0, none⟩ = some (.int .u8 (F : Int))) => hcv W h.2
            refine take_op 10 22 (.string C) rfl rfl (by kernel_rfl) (fun _ _ _ h => h) (by rfl) hS (fun w' hS' => ?hv55) ?hh55
            case hv55 => (have hc := hcv w' hS'; go_simp; try with_reducible rfl)
            simp only [Act.put, List.setIfInBounds_toArray, List.set_cons_zero, List.set_cons_succ]
            refine take_op 11 23 (.string (A ++ B ++ C)) rfl rfl (by kernel_rfl) (fun _ _ _ h => h) (by rfl) hS (fun w' hS' => ?hv56) ?hh56
            case hv56 => (go_simp; (try with_reducible rfl); (try omega))
            simp only [Act.put, List.setIfInBounds_toArray, List.set_cons_zero, List.set_cons_succ]
            refine only_op 15 rfl (by kernel_rfl) (by rfl) (wp_call 27 35 #[.int .i64 (ks.size : Int), .int .i64 2] (.string D) (fun W => Below Wdccm.heap.size Wdccm W) rfl (by go_simp) (HD.out Wdccm) (fun Wdccmc hb => ⟨⟨hS.1.below hb, (hb.cell (p := ⟨x, 0, none⟩) hx).trans hS.2⟩, ?_⟩))
            simp only [Act.put, List.setIfInBounds_toArray, List.set_cons_zero, List.set_cons_succ]
            have hS : RBox w g #[.int .i64 (o : Int), .int .i64 (t : Int), .string ks, .string bs, .int .i64 (q : Int), .bool gn] Wdccmc ∧ Wdccmc.cell? ⟨x, 0, none⟩ = some (.int .u8 (F : Int)) := ⟨hS.1.below hb, (hb.cell (p := ⟨x, 0, none⟩) hx).trans hS.2⟩
            have hx := Nat.lt_of_lt_of_le hx hb.size
            clear hb
            refine take_op 16 28 (.string (A ++ B ++ C ++ D)) rfl rfl (by kernel_rfl) (fun _ _ _ h => h) (by rfl) hS (fun w' hS' => ?hv57) ?hh57
            case hv57 => (go_simp; (try with_reducible rfl); (try omega))
            simp only [Act.put, List.setIfInBounds_toArray, List.set_cons_zero, List.set_cons_succ]
            refine take_op 19 31 (.string (A ++ B ++ C ++ D ++ ks)) rfl rfl (by kernel_rfl) (fun _ _ _ h => h) (by rfl) hS (fun w' hS' => ?hv58) ?hh58
            case hv58 => (go_simp; (try with_reducible rfl); (try omega))
            simp only [Act.put, List.setIfInBounds_toArray, List.set_cons_zero, List.set_cons_succ]
            refine take_op 22 34 (.string (A ++ B ++ C ++ D ++ ks ++ bs)) rfl rfl (by kernel_rfl) (fun _ _ _ h => h) (by rfl) hS (fun w' hS' => ?hv59) ?hh59
            case hv59 => (go_simp; (try with_reducible rfl); (try omega))
            simp only [Act.put, List.setIfInBounds_toArray, List.set_cons_zero, List.set_cons_succ]
            refine take_op 23 4 (.string (A ++ B ++ C ++ D ++ ks ++ bs)) rfl rfl (by kernel_rfl) (fun _ _ _ h => h) (by rfl) hS (fun w' hS' => ?hv60) ?hh60
            case hv60 => (go_simp; (try with_reducible rfl); (try omega))
            simp only [Act.put, List.setIfInBounds_toArray, List.set_cons_zero, List.set_cons_succ]
            refine wpAnyH_done (by kernel_rfl) ?_ _
            go_wp2_with fail
            go_meet
            exact ⟨rfl, hS.1⟩
          · simp only [Act.put, List.setIfInBounds_toArray, List.set_cons_zero, List.set_cons_succ]
            have hS := hS.below hb
            clear hb
            refine only_op 9 rfl (by kernel_rfl) (by rfl) (wp_made 21 (.slice (some ⟨Wdccc.heap.size, 0, none⟩) 1 1) rfl (w' := Wdccc.alloc (.cells #[.int .u8 (F : Int)] 5)) (by go_simp; try rfl) ⟨hS.below ((Below.refl _ _).alloc (Nat.le_refl _) _), ?_⟩)
            simp only [Act.put, List.setIfInBounds_toArray, List.set_cons_zero, List.set_cons_succ]
            have hx : Wdccc.heap.size < (Wdccc.alloc (.cells #[.int .u8 (F : Int)] 5)).heap.size := by simp
            have hS : RBox w g #[.int .i64 (o : Int), .int .i64 (t : Int), .string ks, .string bs, .int .i64 (q : Int), .bool gn] (Wdccc.alloc (.cells #[.int .u8 (F : Int)] 5)) ∧ (Wdccc.alloc (.cells #[.int .u8 (F : Int)] 5)).cell? ⟨Wdccc.heap.size, 0, none⟩ = some (.int .u8 (F : Int)) := ⟨hS.below ((Below.refl _ _).alloc (Nat.le_refl _) _), by rw [cell_of_row (Wdccc.alloc _) Wdccc.heap.size 0 _ _ (0, 0) (heap_alloc_new Wdccc _)]; rfl⟩
            have hcv := fun W h => conv_one (x := Wdccc.heap.size) F C hC W h
            generalize Wdccc.alloc _ = Wdcccm at hx hS ⊢
            generalize Wdccc.heap.size = x at hx hS hcv ⊢
            refine held_stronger (S' := fun W => RBox w g #[.int .i64 (o : Int), .int .i64 (t : Int), .string ks, .string bs, .int .i64 (q : Int), .bool gn] W ∧ W.cell? ⟨x, 0, none⟩ = some (.int .u8 (F : Int))) (fun _ h => h.1) _ _ _ _ ?_
            have hcv := fun W (h : RBox w g #[.int .i64 (o : Int), .int .i64 (t : Int), .string ks, .string bs, .int .i64 (q : Int), .bool gn] W ∧ W.cell? ⟨x, 0, none⟩ = some (.int .u8 (F : Int))) => hcv W h.2
            refine take_op 10 22 (.string C) rfl rfl (by kernel_rfl) (fun _ _ _ h => h) (by rfl) hS (fun w' hS' => ?hv61) ?hh61
            case hv61 => (have hc := hcv w' hS'; go_simp; try with_reducible rfl)
            simp only [Act.put, List.setIfInBounds_toArray, List.set_cons_zero, List.set_cons_succ]
            refine take_op 11 23 (.string (A ++ B ++ C)) rfl rfl (by kernel_rfl) (fun _ _ _ h => h) (by rfl) hS (fun w' hS' => ?hv62) ?hh62
            case hv62 => (go_simp; (try with_reducible rfl); (try omega))
            simp only [Act.put, List.setIfInBounds_toArray, List.set_cons_zero, List.set_cons_succ]
            refine take_op 16 28 (.string (A ++ B ++ C ++ D)) rfl rfl (by kernel_rfl) (fun _ _ _ h => h) (by rfl) hS (fun w' hS' => ?hv63) ?hh63
            case hv63 => (go_simp; (try with_reducible rfl); (try omega))
            simp only [Act.put, List.setIfInBounds_toArray, List.set_cons_zero, List.set_cons_succ]
            refine take_op 19 31 (.string (A ++ B ++ C ++ D ++ ks)) rfl rfl (by kernel_rfl) (fun _ _ _ h => h) (by rfl) hS (fun w' hS' => ?hv64) ?hh64
            case hv64 => (go_simp; (try with_reducible rfl); (try omega))
            simp only [Act.put, List.setIfInBounds_toArray, List.set_cons_zero, List.set_cons_succ]
            refine take_op 22 34 (.string (A ++ B ++ C ++ D ++ ks ++ bs)) rfl rfl (by kernel_rfl) (fun _ _ _ h => h) (by rfl) hS (fun w' hS' => ?hv65) ?hh65
            case hv65 => (go_simp; (try with_reducible rfl); (try omega))
            simp only [Act.put, List.setIfInBounds_toArray, List.set_cons_zero, List.set_cons_succ]
            refine take_op 23 4 (.string (A ++ B ++ C ++ D ++ ks ++ bs)) rfl rfl (by kernel_rfl) (fun _ _ _ h => h) (by rfl) hS (fun w' hS' => ?hv66) ?hh66
            case hv66 => (go_simp; (try with_reducible rfl); (try omega))
            simp only [Act.put, List.setIfInBounds_toArray, List.set_cons_zero, List.set_cons_succ]
            refine wpAnyH_done (by kernel_rfl) ?_ _
            go_wp2_with fail
            go_meet
            exact ⟨rfl, hS.1⟩
        · simp only [Act.put, List.setIfInBounds_toArray, List.set_cons_zero, List.set_cons_succ]
          have hx : Wdc.heap.size < (Wdc.alloc (.cells #[.int .u8 (F : Int)] 5)).heap.size := by simp
          have hS : RBox w g #[.int .i64 (o : Int), .int .i64 (t : Int), .string ks, .string bs, .int .i64 (q : Int), .bool gn] (Wdc.alloc (.cells #[.int .u8 (F : Int)] 5)) ∧ (Wdc.alloc (.cells #[.int .u8 (F : Int)] 5)).cell? ⟨Wdc.heap.size, 0, none⟩ = some (.int .u8 (F : Int)) := ⟨hS.below ((Below.refl _ _).alloc (Nat.le_refl _) _), by rw [cell_of_row (Wdc.alloc _) Wdc.heap.size 0 _ _ (0, 0) (heap_alloc_new Wdc _)]; rfl⟩
          have hcv := fun W h => conv_one (x := Wdc.heap.size) F C hC W h
          generalize Wdc.alloc _ = Wdcm at hx hS ⊢
          generalize Wdc.heap.size = x at hx hS hcv ⊢
          refine held_stronger (S' := fun W => RBox w g #[.int .i64 (o : Int), .int .i64 (t : Int), .string ks, .string bs, .int .i64 (q : Int), .bool gn] W ∧ W.cell? ⟨x, 0, none⟩ = some (.int .u8 (F : Int))) (fun _ h => h.1) _ _ _ _ ?_
          have hcv := fun W (h : RBox w g #[.int .i64 (o : Int), .int .i64 (t : Int), .string ks, .string bs, .int .i64 (q : Int), .bool gn] W ∧ W.cell? ⟨x, 0, none⟩ = some (.int .u8 (F : Int))) => hcv W h.2
          refine take_op 10 22 (.string C) rfl rfl (by kernel_rfl) (fun _ _ _ h => h) (by rfl) hS (fun w' hS' => ?hv67) ?hh67
          case hv67 => (have hc := hcv w' hS'; go_simp; try with_reducible rfl)
          simp only [Act.put, List.setIfInBounds_toArray, List.set_cons_zero, List.set_cons_succ]
          refine only_op 5 rfl (by kernel_rfl) (by rfl) (wp_call 17 35 #[.int .i64 (t : Int), .int .i64 8] (.string B) (fun W => Below Wdcm.heap.size Wdcm W) rfl (by go_simp) (HB.out Wdcm) (fun Wdcmc hb => ⟨⟨hS.1.below hb, (hb.cell (p := ⟨x, 0, none⟩) hx).trans hS.2⟩, ?_⟩))
          simp only [Act.put, List.setIfInBounds_toArray, List.set_cons_zero, List.set_cons_succ]
          have hS : RBox w g #[.int .i64 (o : Int), .int .i64 (t : Int), .string ks, .string bs, .int .i64 (q : Int), .bool gn] Wdcmc ∧ Wdcmc.cell? ⟨x, 0, none⟩ = some (.int .u8 (F : Int)) := ⟨hS.1.below hb, (hb.cell (p := ⟨x, 0, none⟩) hx).trans hS.2⟩
          have hx := Nat.lt_of_lt_of_le hx hb.size
          clear hb
          refine take_op 6 18 (.string (A ++ B)) rfl rfl (by kernel_rfl) (fun _ _ _ h => h) (by rfl) hS (fun w' hS' => ?hv68) ?hh68
          case hv68 => (go_simp; (try with_reducible rfl); (try omega))
          simp only [Act.put, List.setIfInBounds_toArray, List.set_cons_zero, List.set_cons_succ]
          refine take_op 11 23 (.string (A ++ B ++ C)) rfl rfl (by kernel_rfl) (fun _ _ _ h => h) (by rfl) hS (fun w' hS' => ?hv69) ?hh69
          case hv69 => (go_simp; (try with_reducible rfl); (try omega))
          simp only [Act.put, List.setIfInBounds_toArray, List.set_cons_zero, List.set_cons_succ]
          refine only_op 15 rfl (by kernel_rfl) (by rfl) (wp_call 27 35 #[.int .i64 (ks.size : Int), .int .i64 2] (.string D) (fun W => Below Wdcmc.heap.size Wdcmc W) rfl (by go_simp) (HD.out Wdcmc) (fun Wdcmcc hb => ⟨⟨hS.1.below hb, (hb.cell (p := ⟨x, 0, none⟩) hx).trans hS.2⟩, ?_⟩))
          simp only [Act.put, List.setIfInBounds_toArray, List.set_cons_zero, List.set_cons_succ]
          have hS : RBox w g #[.int .i64 (o : Int), .int .i64 (t : Int), .string ks, .string bs, .int .i64 (q : Int), .bool gn] Wdcmcc ∧ Wdcmcc.cell? ⟨x, 0, none⟩ = some (.int .u8 (F : Int)) := ⟨hS.1.below hb, (hb.cell (p := ⟨x, 0, none⟩) hx).trans hS.2⟩
          have hx := Nat.lt_of_lt_of_le hx hb.size
          clear hb
          refine take_op 16 28 (.string (A ++ B ++ C ++ D)) rfl rfl (by kernel_rfl) (fun _ _ _ h => h) (by rfl) hS (fun w' hS' => ?hv70) ?hh70
          case hv70 => (go_simp; (try with_reducible rfl); (try omega))
          simp only [Act.put, List.setIfInBounds_toArray, List.set_cons_zero, List.set_cons_succ]
          refine take_op 19 31 (.string (A ++ B ++ C ++ D ++ ks)) rfl rfl (by kernel_rfl) (fun _ _ _ h => h) (by rfl) hS (fun w' hS' => ?hv71) ?hh71
          case hv71 => (go_simp; (try with_reducible rfl); (try omega))
          simp only [Act.put, List.setIfInBounds_toArray, List.set_cons_zero, List.set_cons_succ]
          refine take_op 22 34 (.string (A ++ B ++ C ++ D ++ ks ++ bs)) rfl rfl (by kernel_rfl) (fun _ _ _ h => h) (by rfl) hS (fun w' hS' => ?hv72) ?hh72
          case hv72 => (go_simp; (try with_reducible rfl); (try omega))
          simp only [Act.put, List.setIfInBounds_toArray, List.set_cons_zero, List.set_cons_succ]
          refine take_op 23 4 (.string (A ++ B ++ C ++ D ++ ks ++ bs)) rfl rfl (by kernel_rfl) (fun _ _ _ h => h) (by rfl) hS (fun w' hS' => ?hv73) ?hh73
          case hv73 => (go_simp; (try with_reducible rfl); (try omega))
          simp only [Act.put, List.setIfInBounds_toArray, List.set_cons_zero, List.set_cons_succ]
          refine wpAnyH_done (by kernel_rfl) ?_ _
          go_wp2_with fail
          go_meet
          exact ⟨rfl, hS.1⟩
      · simp only [Act.put, List.setIfInBounds_toArray, List.set_cons_zero, List.set_cons_succ]
        have hx : Wd.heap.size < (Wd.alloc (.cells #[.int .u8 (F : Int)] 5)).heap.size := by simp
        have hS : RBox w g #[.int .i64 (o : Int), .int .i64 (t : Int), .string ks, .string bs, .int .i64 (q : Int), .bool gn] (Wd.alloc (.cells #[.int .u8 (F : Int)] 5)) ∧ (Wd.alloc (.cells #[.int .u8 (F : Int)] 5)).cell? ⟨Wd.heap.size, 0, none⟩ = some (.int .u8 (F : Int)) := ⟨hS.below ((Below.refl _ _).alloc (Nat.le_refl _) _), by rw [cell_of_row (Wd.alloc _) Wd.heap.size 0 _ _ (0, 0) (heap_alloc_new Wd _)]; rfl⟩
        have hcv := fun W h => conv_one (x := Wd.heap.size) F C hC W h
        generalize Wd.alloc _ = Wdm at hx hS ⊢
        generalize Wd.heap.size = x at hx hS hcv ⊢
        refine held_stronger (S' := fun W => RBox w g #[.int .i64 (o : Int), .int .i64 (t : Int), .string ks, .string bs, .int .i64 (q : Int), .bool gn] W ∧ W.cell? ⟨x, 0, none⟩ = some (.int .u8 (F : Int))) (fun _ h => h.1) _ _ _ _ ?_
        have hcv := fun W (h : RBox w g #[.int .i64 (o : Int), .int .i64 (t : Int), .string ks, .string bs, .int .i64 (q : Int), .bool gn] W ∧ W.cell? ⟨x, 0, none⟩ = some (.int .u8 (F : Int))) => hcv W h.2
        refine take_op 10 22 (.string C) rfl rfl (by kernel_rfl) (fun _ _ _ h => h) (by rfl) hS (fun w' hS' => ?hv74) ?hh74
        case hv74 => (have hc := hcv w' hS'; go_simp; try with_reducible rfl)
        simp only [Act.put, List.setIfInBounds_toArray, List.set_cons_zero, List.set_cons_succ]
        refine only_op 2 rfl (by kernel_rfl) (by rfl) (wp_call 14 35 #[.int .i64 (o : Int), .int .i64 8] (.string A) (fun W => Below Wdm.heap.size Wdm W) rfl (by go_simp) (HA.out Wdm) (fun Wdmc hb => ⟨⟨hS.1.below hb, (hb.cell (p := ⟨x, 0, none⟩) hx).trans hS.2⟩, ?_⟩))
        simp only [Act.put, List.setIfInBounds_toArray, List.set_cons_zero, List.set_cons_succ]
        have hS : RBox w g #[.int .i64 (o : Int), .int .i64 (t : Int), .string ks, .string bs, .int .i64 (q : Int), .bool gn] Wdmc ∧ Wdmc.cell? ⟨x, 0, none⟩ = some (.int .u8 (F : Int)) := ⟨hS.1.below hb, (hb.cell (p := ⟨x, 0, none⟩) hx).trans hS.2⟩
        have hx := Nat.lt_of_lt_of_le hx hb.size
        clear hb
        refine only_op 5 rfl (by kernel_rfl) (by rfl) (wp_call 17 35 #[.int .i64 (t : Int), .int .i64 8] (.string B) (fun W => Below Wdmc.heap.size Wdmc W) rfl (by go_simp) (HB.out Wdmc) (fun Wdmcc hb => ⟨⟨hS.1.below hb, (hb.cell (p := ⟨x, 0, none⟩) hx).trans hS.2⟩, ?_⟩))
        simp only [Act.put, List.setIfInBounds_toArray, List.set_cons_zero, List.set_cons_succ]
        have hS : RBox w g #[.int .i64 (o : Int), .int .i64 (t : Int), .string ks, .string bs, .int .i64 (q : Int), .bool gn] Wdmcc ∧ Wdmcc.cell? ⟨x, 0, none⟩ = some (.int .u8 (F : Int)) := ⟨hS.1.below hb, (hb.cell (p := ⟨x, 0, none⟩) hx).trans hS.2⟩
        have hx := Nat.lt_of_lt_of_le hx hb.size
        clear hb
        refine take_op 6 18 (.string (A ++ B)) rfl rfl (by kernel_rfl) (fun _ _ _ h => h) (by rfl) hS (fun w' hS' => ?hv75) ?hh75
        case hv75 => (go_simp; (try with_reducible rfl); (try omega))
        simp only [Act.put, List.setIfInBounds_toArray, List.set_cons_zero, List.set_cons_succ]
        refine take_op 11 23 (.string (A ++ B ++ C)) rfl rfl (by kernel_rfl) (fun _ _ _ h => h) (by rfl) hS (fun w' hS' => ?hv76) ?hh76
        case hv76 => (go_simp; (try with_reducible rfl); (try omega))
        simp only [Act.put, List.setIfInBounds_toArray, List.set_cons_zero, List.set_cons_succ]
        refine only_op 15 rfl (by kernel_rfl) (by rfl) (wp_call 27 35 #[.int .i64 (ks.size : Int), .int .i64 2] (.string D) (fun W => Below Wdmcc.heap.size Wdmcc W) rfl (by go_simp) (HD.out Wdmcc) (fun Wdmccc hb => ⟨⟨hS.1.below hb, (hb.cell (p := ⟨x, 0, none⟩) hx).trans hS.2⟩, ?_⟩))
        simp only [Act.put, List.setIfInBounds_toArray, List.set_cons_zero, List.set_cons_succ]
        have hS : RBox w g #[.int .i64 (o : Int), .int .i64 (t : Int), .string ks, .string bs, .int .i64 (q : Int), .bool gn] Wdmccc ∧ Wdmccc.cell? ⟨x, 0, none⟩ = some (.int .u8 (F : Int)) := ⟨hS.1.below hb, (hb.cell (p := ⟨x, 0, none⟩) hx).trans hS.2⟩
        have hx := Nat.lt_of_lt_of_le hx hb.size
        clear hb
        refine take_op 16 28 (.string (A ++ B ++ C ++ D)) rfl rfl (by kernel_rfl) (fun _ _ _ h => h) (by rfl) hS (fun w' hS' => ?hv77) ?hh77
        case hv77 => (go_simp; (try with_reducible rfl); (try omega))
        simp only [Act.put, List.setIfInBounds_toArray, List.set_cons_zero, List.set_cons_succ]
        refine take_op 19 31 (.string (A ++ B ++ C ++ D ++ ks)) rfl rfl (by kernel_rfl) (fun _ _ _ h => h) (by rfl) hS (fun w' hS' => ?hv78) ?hh78
        case hv78 => (go_simp; (try with_reducible rfl); (try omega))
        simp only [Act.put, List.setIfInBounds_toArray, List.set_cons_zero, List.set_cons_succ]
        refine take_op 22 34 (.string (A ++ B ++ C ++ D ++ ks ++ bs)) rfl rfl (by kernel_rfl) (fun _ _ _ h => h) (by rfl) hS (fun w' hS' => ?hv79) ?hh79
        case hv79 => (go_simp; (try with_reducible rfl); (try omega))
        simp only [Act.put, List.setIfInBounds_toArray, List.set_cons_zero, List.set_cons_succ]
        refine take_op 23 4 (.string (A ++ B ++ C ++ D ++ ks ++ bs)) rfl rfl (by kernel_rfl) (fun _ _ _ h => h) (by rfl) hS (fun w' hS' => ?hv80) ?hh80
        case hv80 => (go_simp; (try with_reducible rfl); (try omega))
        simp only [Act.put, List.setIfInBounds_toArray, List.set_cons_zero, List.set_cons_succ]
        refine wpAnyH_done (by kernel_rfl) ?_ _
        go_wp2_with fail
        go_meet
        exact ⟨rfl, hS.1⟩
    case rest =>
      obtain ⟨rfl, hbx⟩ := hcut
      have R1 := Lib.hid hbx
      clear hbx R0 HA HB HD
      obtain ⟨Y, hY⟩ : ∃ Y, A ++ B ++ C ++ D ++ ks ++ bs = Y := ⟨_, rfl⟩
      rw [hY] at HH HN hYz ⊢
      have HY := Lib.hid hY
      clear hY
      clear n1 n2 n3 n4 n5 n6
      go_wp2_with fail
      refine (HH.out _).mono ?_
      rintro e w2 ⟨rfl, hb2⟩
      have R2 := Lib.hid (R1.out.below hb2)
      clear hb2 R1 HH
      go_wp2_with fail
      refine (HN.out _).mono ?_
      rintro e w3 ⟨rfl, rfl⟩
      go_wp2_with fail
      refine (HZ.out _).mono ?_
      rintro e w3 ⟨rfl, hb3⟩
      have R3 := Lib.hid (R2.out.below hb3)
      clear hb3 R2 HZ HN
      go_wp2_with fail
      go_ret
      exact ⟨by rw [HY.out]; rfl, R3.out.out.2⟩
end Go.Proofs.Ytijpieaanlnibaa
/- The document's own answer: the bytes of a record that may be. -/
namespace Go.Proofs.Ytijpieaanlnibaa
open Go.RowKit Go.Lib Vbi Rcd Crc

theorem RBytes_is (r : Rc) (S : ByteArray) (w : World) (h : mayB r = true) (hS : str (recL r) = S) :
    Calls Try.prog 28 #[ragg r] w fun e w' => e = .returned (.string S) ∧ Below w.heap.size w w' := by
  have hf := flag_lt h
  have hbl := body_len r
  obtain ⟨h1, h2, h3, h4, h5, h6, h7, h8, h9⟩ := (may_iff _).1 h
  have hY : str (fx 8 r.o.toNat) ++ str (fx 8 r.t.toNat) ++ strOfNums [((flagN r : Nat) : Int)] ++ str (fx 2 (str r.k).size) ++ str r.k ++ str r.b = str (bodyL r) := by
    rw [byte_str _ (by omega), str_size, str_add, str_add, str_add, str_add, str_add]
    unfold bodyL
    congr 1
  have hYs : (str (bodyL r)).size = (bodyL r).length := str_size _
  obtain ⟨N, hN⟩ : ∃ N, sumN 0 (fx 2 (bodyL r).length ++ bodyL r) = N := ⟨_, rfl⟩
  have hR : str (fx 2 (bodyL r).length) ++ str (fx 4 N) ++ str (bodyL r) = S := by
    rw [str_add, str_add, ← hS]
    unfold recL sealL
    rw [hN, List.append_assoc]
  have key := RBytes_parts r.o.toNat r.t.toNat (str r.k) (str r.b) r.q.toNat (flagN r) r.g _ _ _ _ (str (fx 2 (bodyL r).length)) (str (fx 4 N)) N w (by omega) rfl (by omega) (by omega) (by rw [str_size]; exact h5) (by rw [str_size]; exact h6) rfl rfl rfl rfl
    (by rw [hY, hYs]) (by rw [hY, ByteArray.data_append, Array.toList_append, str_data, str_data]; exact hN) rfl
  rw [hY, hR] at key
  have e1 : ((r.o.toNat : Nat) : Int) = r.o := by omega
  have e2 : ((r.t.toNat : Nat) : Int) = r.t := by omega
  have e3 : ((r.q.toNat : Nat) : Int) = r.q := by omega
  rw [e1, e2, e3] at key
  exact key

end Go.Proofs.Ytijpieaanlnibaa
/- The document's own answer: the marks of a segment that may be. -/
namespace Go.Proofs.Ytijpieaanlnibaa.Mkd
open Go.RowKit Go.Lib Rcd

set_option maxRecDepth 100000 in
set_option maxHeartbeats 8000000 in
/-- fairwayref10.Marks. -/
theorem RMarks_is (b : Int) (rs : List Rc) (N : Nat) (A : Option Addr) (c B : Nat) (l : List Mk) (M : Nat) (w : World) (hN : rs.length = N) (hB : B ≤ w.heap.size) (h : RecsAt w B A rs) (hS : segB b rs = true) (hl : marks rs = l) (hM : l.length = M) :
    Calls Try.prog 12 #[.agg #[.int .i64 b, .slice A N c]] w fun e w' => ∃ A' c', e = .returned (.slice A' M c') ∧ w'.ownsRow w.heap.size 42 2 (.slice A' M c') M (mflat l) ∧ Below w.heap.size w w' := by
  obtain ⟨i0, hi, hz0, hz1, hz2⟩ := info_parts info_mmore
  have R0 := Lib.hid (RBox.new w 24 (sarr b A N c))
  obtain ⟨p, hp⟩ : ∃ p, w.heap.size = p := ⟨_, rfl⟩
  obtain ⟨W0, hW⟩ : ∃ W0, w.alloc (.cells (sarr b A N c) 24) = W0 := ⟨_, rfl⟩
  rw [hW, hp] at R0
  unfold sarr at R0 hW
  have HW := Lib.hid hW
  have HP := Lib.hid hp
  have H := Lib.hid (h.mono hB)
  have HNN := Lib.hid hN
  have HS := Lib.hid hS
  have HZ := Lib.hid (seg_size hS)
  have hle := seg_len hS
  rw [HNN.out] at hle
  have HL := Lib.hid hl
  have HM := Lib.hid hM
  clear hW hp h hS hN hB hl hM
  go_enter Try.func12, Try.ntmps12
  go_upto_region 1 with fail
  rw [HW.out, HP.out]
  clear HW
  go_wp2_with fail
  go_loopw [3, 4, 5] (fun mv v i wr => ∃ (m : Value) (k a q : Nat), m = mv ∧ k ≤ N ∧ q ≤ k ∧ (allL (rs.take k)).length = a ∧ v = .int .i64 (a : Int) ∧ i = .int .i64 (k : Int) ∧ RBox w p #[.int .i64 b, .slice A N c] wr ∧ (marks (rs.take k)).length = q ∧ wr.ownsRow (p + 1) 42 2 m q (mflat (marks (rs.take k)))) (fun _ _ i _ => N - (RowKit.intOf i).toNat)
  case atStart => exact ⟨_, 0, 0, 0, rfl, Nat.zero_le _, Nat.le_refl _, rfl, rfl, rfl, R0.out, by rw [List.take_zero]; rfl, by rw [List.take_zero]; exact World.ownsRow_nil _ _ _ _⟩
  case round =>
    obtain ⟨m, k, a, q, hmv, hk, hqk, ha, rfl, rfl, hbx, hq, hown⟩ := hrel
    subst hmv
    have HA := Lib.hid ha
    have HQ := Lib.hid hq
    have R := Lib.hid hbx
    have HO := Lib.hid hown
    clear hbx R0 ha hq hown
    have d1 : wr.cell? ⟨p, 1, none⟩ = some (.slice A N c) := R.out.cell 1
    by_cases hlt : k < N
    · have hlr : k < rs.length := by rw [HNN.out]; exact hlt
      obtain ⟨b0, o0, rfl, hb0, hc⟩ := (H.out.below R.out.out.2).some_ (by omega)
      have hr := hc k hlr
      have hmay := seg_may HS.out _ (List.getElem_mem hlr)
      obtain ⟨z, hz⟩ : ∃ z, (recL rs[k]).length = z := ⟨_, rfl⟩
      obtain ⟨S, hSS⟩ : ∃ S, str (recL rs[k]) = S := ⟨_, rfl⟩
      have hSz : S.size = z := by rw [← hSS, str_size, hz]
      have HRB := Lib.hid (fun W => RBytes_is rs[k] S W hmay hSS)
      have HA2 : Hid ((allL (rs.take (k + 1))).length = a + z) := by show _ = _; rw [all_next hlr, HA.out, hz]
      have hsum : a + z ≤ 420000 := by
        rw [← HA2.out]
        exact Nat.le_trans (all_take_le _ _) HZ.out
      have HMY := Lib.hid (fun c : k % 4 = 0 => marks_yes hlr c HA.out)
      have HMN := Lib.hid (fun c : ¬ k % 4 = 0 => marks_not hlr c)
      clear HA hc hmay hz hSS
      unfold ragg at HRB
      generalize rs[k] = r at hr HRB HMY
      obtain ⟨o, t, key, bod, qs, g⟩ := r
      obtain ⟨c0, c1, c2, c3, c4, c5⟩ := hr
      dsimp only at c0 c1 c2 c3 c4 c5 HRB HMY
      generalize str key = ks at c2 HRB
      generalize str bod = bs at c3 HRB
      have e1 : (k : Int) < (N : Int) := by omega
      unfold rarr at HRB
      have htm := tmod4 k
      clear hlr
      by_cases c4' : k % 4 = 0
      · have HMK := Lib.hid (HMY.out c4')
        have HQ2 : Hid ((marks (rs.take (k + 1))).length = q + 1) := by show _ = _; rw [HMK.out, List.length_append, HQ.out]; rfl
        have HF2 : Hid (mflat (marks (rs.take (k + 1))) = mflat (marks (rs.take k)) ++ [.int .i64 o, .int .i64 (a : Int)]) := by show _ = _; rw [HMK.out, mflat_snoc]; rfl
        rw [c4'] at htm
        have hs5 := R.out.out.2.size
        have hp5 := R.out.out.1.lt
        have hpw : w.heap.size ≤ p + 1 := by have := HP.out; omega
        have HCS := Lib.hid (And.intro c0 (And.intro c1 (And.intro c2 (And.intro c3 (And.intro c4 c5)))))
        clear HMY HMN HMK HQ c4' c1 c2 c3 c4 c5
        go_wp2_with (at_builtin; refine wpList_append_own _ rfl _ _ 29 rfl (p + 1) 42 i0 (.agg #[.int .i64 0, .int .i64 0]) 2 16 Try.underlying29 hi hz0 hz1 hz2 rfl (by decide) _ _ _ rfl (HO.out.alloc _) ⟨wr.heap.size, 0, none⟩ 1 1 [.int .i64 o, .int .i64 (a : Int)] rfl rfl ?c1 ?c2 ?c3 ?c4 ?c5 ?_)
        case c1 => exact fun j u h => cells_new wr _ [.int .i64 o, .int .i64 (a : Int)] j u h
        case c2 => exact fun u hu => by simp at hu; rcases hu with rfl | rfl <;> rfl
        case c3 => unfold maxLen; omega
        case c4 => first | omega | (simp; omega)
        case c5 => first | omega | (simp; omega)
        intro v' w7 hown' hgrow _
        have hbl7 := below_alloc_grown hs5 (own_mono HO.out hpw) hgrow
        have R7 := Lib.hid (RBox.mk (blk_grown R.out.out.1 HO.out (Nat.lt_succ_self _) hgrow) (R.out.out.2.trans hbl7))
        have HO7 : Hid (w7.ownsRow (p + 1) 42 2 v' (q + 1) (mflat (marks (rs.take (k + 1))))) := by show World.ownsRow _ _ _ _ _ _ _; rw [HF2.out]; exact hown'
        have hcl := fun i => hbl7.cell (p := ⟨b0, i, none⟩) hb0
        replace c0 := (hcl _).trans HCS.out.1
        have c1 := (hcl _).trans HCS.out.2.1
        have c2 := (hcl _).trans HCS.out.2.2.1
        have c3 := (hcl _).trans HCS.out.2.2.2.1
        have c4 := (hcl _).trans HCS.out.2.2.2.2.1
        have c5 := (hcl _).trans HCS.out.2.2.2.2.2
        replace d1 : w7.cell? ⟨p, 1, none⟩ = some (.slice (some ⟨b0, o0, none⟩) N c) := R7.out.cell 1
        clear hown' hgrow HO R hs5 hp5 hpw HF2 hbl7 hcl HCS
        go_wp2_with fail
        refine (HRB.out _).mono ?_
        rintro e w8 ⟨rfl, hb8⟩
        have R8 := Lib.hid (R7.out.below hb8)
        have HO8 := Lib.hid (own_below HO7.out hb8)
        clear R7 HO7 hb8 HRB c0 c1 c2 c3 c4 c5 d1
        have e2 : (a : Int) + (z : Int) ≤ 420000 := by omega
        have e3 : (S.size : Int) = (z : Int) := by omega
        go_wp2_with fail
        go_roundw
        case rel => exact ⟨_, k + 1, a + z, q + 1, rfl, hlt, by omega, HA2.out, by go_num, by go_num, R8.out, HQ2.out, HO8.out⟩
        case measure => simp [RowKit.intOf]; omega
      · have htd : decide (Int.tmod (k : Int) 4 = 0) = false := decide_eq_false (by rw [htm]; omega)
        have HQ2 : Hid ((marks (rs.take (k + 1))).length = q) := by show _ = _; rw [HMN.out c4']; exact HQ.out
        have HO7 : Hid (wr.ownsRow (p + 1) 42 2 m q (mflat (marks (rs.take (k + 1))))) := by show World.ownsRow _ _ _ _ _ _ _; rw [HMN.out c4']; exact HO.out
        clear HMY HMN HQ HO
        go_wp2_with fail
        refine (HRB.out _).mono ?_
        rintro e w8 ⟨rfl, hb8⟩
        have R8 := Lib.hid (R.out.below hb8)
        have HO8 := Lib.hid (own_below HO7.out hb8)
        clear R HO7 hb8 HRB c0 c1 c2 c3 c4 c5 d1
        have e2 : (a : Int) + (z : Int) ≤ 420000 := by omega
        have e3 : (S.size : Int) = (z : Int) := by omega
        go_wp2_with fail
        go_roundw
        case rel => exact ⟨_, k + 1, a + z, q, rfl, hlt, by omega, HA2.out, by go_num, by go_num, R8.out, HQ2.out, HO8.out⟩
        case measure => simp [RowKit.intOf]; omega
    · obtain rfl : k = N := by omega
      have hle2 : rs.take k = rs := List.take_of_length_le (by rw [HNN.out]; exact Nat.le_refl _)
      have hown := own_mono HO.out (show w.heap.size ≤ p + 1 by have := HP.out; omega)
      have hql : q = M := by rw [← HQ.out, ← HM.out, ← HL.out, hle2]
      rw [hle2, HL.out, hql] at hown
      obtain ⟨A', c', hv⟩ := row_slice hown
      have HO' := Lib.hid hown
      clear hown HO HQ hql hle2
      subst hv
      go_wp2_with fail
      go_ret
      exact ⟨A', c', rfl, HO'.out, R.out.out.2⟩
end Go.Proofs.Ytijpieaanlnibaa.Mkd
/- The document's own answer: which mark is the last one not above an offset. -/
namespace Go.Proofs.Ytijpieaanlnibaa.Mkd
open Go.RowKit Go.Lib Rcd

set_option maxRecDepth 100000 in
set_option maxHeartbeats 4000000 in
/-- fairwayref10.From. -/
theorem RFrom_is (n : Int) (l : List Mk) (N : Nat) (A : Option Addr) (c B : Nat) (z : Int) (w : World) (hN : l.length = N) (hm : N ≤ 9223372036854775807) (h : MarksAt w B A l) (hz : fromZ l n = z) :
    Calls Try.prog 17 #[.slice A N c, .int .i64 n] w fun e w' => e = .returned (.int .i64 z) ∧ Below w.heap.size w w' := by
  have H := Lib.hid h
  have HN := Lib.hid hN
  have HZ := Lib.hid hz
  clear h hN hz
  go_enter Try.func17, Try.ntmps17
  go_wp2_with fail
  go_loopw [5, 6] (fun v i wr => ∃ (k d : Nat) (y : Int), k ≤ N ∧ v = .int .i64 y ∧ lastF l n k = y ∧ i = .int .i64 (k : Int) ∧ wr = w.drewN d) (fun _ i _ => N - (RowKit.intOf i).toNat)
  case atStart => exact ⟨0, 0, -1, Nat.zero_le _, rfl, rfl, rfl, rfl⟩
  case round =>
    obtain ⟨k, d, y, hk, rfl, hy, rfl, rfl⟩ := hrel
    have HY := Lib.hid hy
    clear hy
    by_cases hlt : k < N
    · have hk1 : k < l.length := by rw [HN.out]; exact hlt
      obtain ⟨b, o, rfl, _, hc⟩ := H.out.some_ (by omega)
      have h1 := hc k hk1
      have HD := Lib.hid (show l.getD k mzero = l[k] from by rw [List.getD_eq_getElem?_getD, List.getElem?_eq_getElem hk1]; rfl)
      clear hc
      generalize l[k] = x at h1 HD
      clear hk1 H
      obtain ⟨xo, xa⟩ := x
      obtain ⟨c0, c1⟩ := h1
      dsimp only at c0 c1
      have hkI : (k : Int) < (N : Int) := by omega
      by_cases h0 : k = 0
      · subst h0
        have HL := Lib.hid (lastF_yes (l := l) (n := n) (k := 0) (.inl rfl))
        clear HY HD
        go_wp2
        go_roundw
        case rel => exact ⟨1, _, 0, hlt, rfl, HL.out, by go_num, rfl⟩
        case measure => simp [RowKit.intOf]; omega
      · have g0 : decide ((k : Int) = 0) = false := decide_eq_false (by omega)
        have g0' : decide (k = 0) = false := decide_eq_false h0
        by_cases h2 : xo ≤ n
        · have gd : decide (xo ≤ n) = true := decide_eq_true h2
          have HL := Lib.hid (lastF_yes (l := l) (n := n) (k := k) (.inr (by rw [HD.out]; exact h2)))
          clear HY HD h2
          go_wp2
          go_roundw
          case rel => exact ⟨k + 1, _, (k : Int), hlt, rfl, HL.out, by go_num, rfl⟩
          case measure => simp [RowKit.intOf]; omega
        · have gd : decide (xo ≤ n) = false := decide_eq_false h2
          have HL := Lib.hid ((lastF_no (l := l) (n := n) (k := k) (by rw [HD.out]; exact fun h => h.elim h0 h2)).trans HY.out)
          clear HY HD h2
          go_wp2
          go_roundw
          case rel => exact ⟨k + 1, _, y, hlt, rfl, HL.out, by go_num, rfl⟩
          case measure => simp [RowKit.intOf]; omega
    · obtain rfl : k = N := by omega
      obtain rfl : y = z := by
        rw [← HZ.out, ← HY.out]
        unfold fromZ
        rw [HN.out]
      go_wp2
      go_ret
      exact ⟨rfl, below_drewN (Below.refl _ _) _⟩
end Go.Proofs.Ytijpieaanlnibaa.Mkd
/- The document's own answer: whether a segment may be. -/
namespace Go.Proofs.Ytijpieaanlnibaa
open Go.RowKit Go.Lib Rcd

theorem load_parts {W : World} {g o : Nat} {x t : Int} {k b : ByteArray} {q : Int} {h : Bool} (c0 : W.cell? ⟨g, o, none⟩ = some (.int .i64 x)) (c1 : W.cell? ⟨g, o + 1, none⟩ = some (.int .i64 t)) (c2 : W.cell? ⟨g, o + 2, none⟩ = some (.string k)) (c3 : W.cell? ⟨g, o + 3, none⟩ = some (.string b)) (c4 : W.cell? ⟨g, o + 4, none⟩ = some (.int .i64 q)) (c5 : W.cell? ⟨g, o + 5, none⟩ = some (.bool h)) :
    (loadVar 44 ⟨g, o, none⟩).run Try.prog W = .ok (.agg #[.int .i64 x, .int .i64 t, .string k, .string b, .int .i64 q, .bool h]) W :=
  run_loadVar_mid W g o 44 [.int .i64 x, .int .i64 t, .string k, .string b, .int .i64 q, .bool h] _ (fun j v hv => by
    match j, hv with
    | 0, hv => rw [← hv]; exact c0
    | 1, hv => rw [← hv]; exact c1
    | 2, hv => rw [← hv]; exact c2
    | 3, hv => rw [← hv]; exact c3
    | 4, hv => rw [← hv]; exact c4
    | 5, hv => rw [← hv]; exact c5) Try.underlying44 rfl info_rec

/-- So many of the first ones are as the document asks. -/
def DocTo (b : Int) (rs : List Rc) (k : Nat) : Prop := ∀ j, j < rs.length → j < k → docAt b rs j

set_option maxRecDepth 100000 in
set_option maxHeartbeats 16000000 in
/-- fairwayref10.Seg. -/
theorem RSeg_is (b : Int) (rs : List Rc) (N : Nat) (A : Option Addr) (c B : Nat) (X0 : Bool) (w : World) (hN : rs.length = N) (hm : N ≤ 9223372036854775807) (hB : B ≤ w.heap.size) (h : RecsAt w B A rs) (hX : segB b rs = X0) :
    Calls Try.prog 8 #[.agg #[.int .i64 b, .slice A N c]] w fun e w' => e = .returned (.bool X0) ∧ Below w.heap.size w w' := by
  have R0 := Lib.hid (RBox.new w 24 (sarr b A N c))
  obtain ⟨p, hp⟩ : ∃ p, w.heap.size = p := ⟨_, rfl⟩
  obtain ⟨W0, hW⟩ : ∃ W0, w.alloc (.cells (sarr b A N c) 24) = W0 := ⟨_, rfl⟩
  rw [hW, hp] at R0
  unfold sarr at R0 hW
  have HW := Lib.hid hW
  have HP := Lib.hid hp
  have H := Lib.hid (h.mono hB)
  have HX := Lib.hid hX
  have HNN := Lib.hid hN
  clear hW hp h hX hN hB
  have n2 : (N : Int) < 9223372036854775808 := by omega
  go_enter Try.func8, Try.ntmps8
  go_upto_region 1 with fail
  rw [HW.out, HP.out]
  clear HW
  go_wp2_with fail
  go_loopw [3] (fun i wr => ∃ k : Nat, k ≤ N ∧ i = .int .i64 (k : Int) ∧ RBox w p #[.int .i64 b, .slice A N c] wr ∧ DocTo b rs k) (fun i _ => N - (RowKit.intOf i).toNat)
  case atStart => exact ⟨0, Nat.zero_le _, rfl, R0.out, fun j _ h => absurd h (Nat.not_lt_zero _)⟩
  case round =>
    obtain ⟨k, hk, rfl, hbx, hdoc⟩ := hrel
    have HD := Lib.hid hdoc
    have R := Lib.hid hbx
    clear hbx hdoc R0
    have d1 : wr.cell? ⟨p, 1, none⟩ = some (.slice A N c) := R.out.cell 1
    by_cases hlt : k < N
    · have hlr : k < rs.length := by rw [HNN.out]; exact hlt
      obtain ⟨b0, o0, rfl, hb0, hc⟩ := H.out.some_ (by omega)
      have hr := hc k hlr
      have HYES : Hid ((mayB rs[k] = true ∧ b ≤ rs[k].o ∧ (∀ h0 : 0 < k, pairB (rs[k - 1]'(by omega)) rs[k] = true)) → DocTo b rs (k + 1)) := by
        show _ → _
        intro hall j hj hjk
        by_cases hjk2 : j < k
        · exact HD.out j hj hjk2
        · obtain rfl : j = k := by omega
          exact fun _ => hall
      have HNO : Hid (¬ (mayB rs[k] = true ∧ b ≤ rs[k].o ∧ (∀ h0 : 0 < k, pairB (rs[k - 1]'(by omega)) rs[k] = true)) → X0 = false) := by
        show _ → _
        intro hno
        rw [← HX.out, ← Bool.not_eq_true]
        intro hs
        exact hno ((seg_doc.1 hs).2 k hlr hlr)
      obtain ⟨M, hM⟩ : ∃ M, mayB rs[k] = M := ⟨_, rfl⟩
      have HRR := Lib.hid (fun W => RRec_is rs[k] M W hM)
      rw [hM] at HYES HNO
      clear HD hM
      have e1 : (k : Int) < (N : Int) := by omega
      rcases Nat.eq_zero_or_pos k with hk0 | hkp
      · have g1 : decide (0 < k) = false := decide_eq_false (by omega)
        have g2 : decide ((0 : Int) < (k : Int)) = false := decide_eq_false (by omega)
        replace HYES : Hid (M = true ∧ b ≤ rs[k].o → DocTo b rs (k + 1)) := fun h => HYES.out ⟨h.1, h.2, fun h0 => absurd h0 (by omega)⟩
        replace HNO : Hid (¬ (M = true ∧ b ≤ rs[k].o) → X0 = false) := fun h => HNO.out fun h2 => h ⟨h2.1, h2.2.1⟩
        clear hc
        unfold ragg at HRR
        generalize rs[k] = r at hr HRR HYES HNO
        obtain ⟨o, t, key, bod, q, g⟩ := r
        obtain ⟨c0, c1, c2, c3, c4, c5⟩ := hr
        dsimp only at c0 c1 c2 c3 c4 c5 HRR HYES HNO
        generalize str key = ks at c2 HRR
        generalize str bod = bs at c3 HRR
        unfold rarr at HRR
        clear hk0 hlr
        cases M with
        | false =>
          haveI : Nonempty (In (RBox w p #[.int .i64 b, .slice (some ⟨b0, o0, none⟩) N c])) := ⟨⟨_, R.out⟩⟩
          have k0 := fun u : In (RBox w p #[.int .i64 b, .slice (some ⟨b0, o0, none⟩) N c]) => (show u.w.cell? ⟨p, 0, none⟩ = some (.int .i64 b) from u.h.cell 0)
          have k1 := fun u : In (RBox w p #[.int .i64 b, .slice (some ⟨b0, o0, none⟩) N c]) => (show u.w.cell? ⟨p, 1, none⟩ = some (.slice (some ⟨b0, o0, none⟩) N c) from u.h.cell 1)
          have kr := fun u : In (RBox w p #[.int .i64 b, .slice (some ⟨b0, o0, none⟩) N c]) => (u.h.out.2.cell (p := ⟨b0, o0 + k * 6, none⟩) hb0).trans c0
          have kt := fun u : In (RBox w p #[.int .i64 b, .slice (some ⟨b0, o0, none⟩) N c]) => (u.h.out.2.cell (p := ⟨b0, o0 + k * 6 + 1, none⟩) hb0).trans c1
          have kl := fun u : In (RBox w p #[.int .i64 b, .slice (some ⟨b0, o0, none⟩) N c]) => load_parts ((u.h.out.2.cell (p := ⟨b0, o0 + k * 6, none⟩) hb0).trans c0) ((u.h.out.2.cell (p := ⟨b0, o0 + k * 6 + 1, none⟩) hb0).trans c1) ((u.h.out.2.cell (p := ⟨b0, o0 + k * 6 + 2, none⟩) hb0).trans c2) ((u.h.out.2.cell (p := ⟨b0, o0 + k * 6 + 3, none⟩) hb0).trans c3) ((u.h.out.2.cell (p := ⟨b0, o0 + k * 6 + 4, none⟩) hb0).trans c4) ((u.h.out.2.cell (p := ⟨b0, o0 + k * 6 + 5, none⟩) hb0).trans c5)
          have st0 := R.out
          clear R c0 c1 c2 c3 c4 c5
          go_upto_region 4 with fail
          refine region_in (S := RBox w p #[.int .i64 b, .slice (some ⟨b0, o0, none⟩) N c]) (by kernel_rfl) (by kernel_rfl) (st0.drewN 1) ?_
          iterate 4 (go_big_quiet_step (fail))
          go_big_quiet_want
          refine quiet_load_in 44 (.tmp 14) rfl b0 (o0 + k * 6) rfl _ kl ?_
          go_simp
          go_big_quiet_on
          repeat (go_big_quiet_step (first | (go_at_call 24; exact in_call ((HRR.out _).mono fun _ _ h => ⟨h.1, RBox.below (In.h _) h.2⟩))))
          refine wpQuiet_nil ?_
          rintro _ ⟨⟨w7, st7⟩, rfl⟩
          have S7 := Lib.hid st7
          clear this st0 st7 k0 k1 kr kt kl HRR
          (try simp only [Bool.not_true, Bool.not_false])
          obtain rfl : X0 = false := HNO.out (fun h => by cases h.1)
          go_wp2_with fail
          go_ret
          exact ⟨rfl, S7.out.out.2⟩
        | true =>
        by_cases h2 : o < b
        · have g3 : decide (o < b) = true := decide_eq_true h2
          haveI : Nonempty (In (RBox w p #[.int .i64 b, .slice (some ⟨b0, o0, none⟩) N c])) := ⟨⟨_, R.out⟩⟩
          have k0 := fun u : In (RBox w p #[.int .i64 b, .slice (some ⟨b0, o0, none⟩) N c]) => (show u.w.cell? ⟨p, 0, none⟩ = some (.int .i64 b) from u.h.cell 0)
          have k1 := fun u : In (RBox w p #[.int .i64 b, .slice (some ⟨b0, o0, none⟩) N c]) => (show u.w.cell? ⟨p, 1, none⟩ = some (.slice (some ⟨b0, o0, none⟩) N c) from u.h.cell 1)
          have kr := fun u : In (RBox w p #[.int .i64 b, .slice (some ⟨b0, o0, none⟩) N c]) => (u.h.out.2.cell (p := ⟨b0, o0 + k * 6, none⟩) hb0).trans c0
          have kt := fun u : In (RBox w p #[.int .i64 b, .slice (some ⟨b0, o0, none⟩) N c]) => (u.h.out.2.cell (p := ⟨b0, o0 + k * 6 + 1, none⟩) hb0).trans c1
          have kl := fun u : In (RBox w p #[.int .i64 b, .slice (some ⟨b0, o0, none⟩) N c]) => load_parts ((u.h.out.2.cell (p := ⟨b0, o0 + k * 6, none⟩) hb0).trans c0) ((u.h.out.2.cell (p := ⟨b0, o0 + k * 6 + 1, none⟩) hb0).trans c1) ((u.h.out.2.cell (p := ⟨b0, o0 + k * 6 + 2, none⟩) hb0).trans c2) ((u.h.out.2.cell (p := ⟨b0, o0 + k * 6 + 3, none⟩) hb0).trans c3) ((u.h.out.2.cell (p := ⟨b0, o0 + k * 6 + 4, none⟩) hb0).trans c4) ((u.h.out.2.cell (p := ⟨b0, o0 + k * 6 + 5, none⟩) hb0).trans c5)
          have st0 := R.out
          clear R c0 c1 c2 c3 c4 c5
          go_upto_region 4 with fail
          refine region_in (S := RBox w p #[.int .i64 b, .slice (some ⟨b0, o0, none⟩) N c]) (by kernel_rfl) (by kernel_rfl) (st0.drewN 1) ?_
          iterate 4 (go_big_quiet_step (fail))
          go_big_quiet_want
          refine quiet_load_in 44 (.tmp 14) rfl b0 (o0 + k * 6) rfl _ kl ?_
          go_simp
          go_big_quiet_on
          repeat (go_big_quiet_step (first | (go_at_call 24; exact in_call ((HRR.out _).mono fun _ _ h => ⟨h.1, RBox.below (In.h _) h.2⟩))))
          refine wpQuiet_nil ?_
          rintro _ ⟨⟨w7, st7⟩, rfl⟩
          have S7 := Lib.hid st7
          clear this st0 st7 k0 k1 kr kt kl HRR
          (try simp only [Bool.not_true, Bool.not_false])
          obtain rfl : X0 = false := HNO.out (fun h => by have := h.2; omega)
          go_wp2_with fail
          go_ret
          exact ⟨rfl, S7.out.out.2⟩
        · have g3 : decide (o < b) = false := decide_eq_false h2
          haveI : Nonempty (In (RBox w p #[.int .i64 b, .slice (some ⟨b0, o0, none⟩) N c])) := ⟨⟨_, R.out⟩⟩
          have k0 := fun u : In (RBox w p #[.int .i64 b, .slice (some ⟨b0, o0, none⟩) N c]) => (show u.w.cell? ⟨p, 0, none⟩ = some (.int .i64 b) from u.h.cell 0)
          have k1 := fun u : In (RBox w p #[.int .i64 b, .slice (some ⟨b0, o0, none⟩) N c]) => (show u.w.cell? ⟨p, 1, none⟩ = some (.slice (some ⟨b0, o0, none⟩) N c) from u.h.cell 1)
          have kr := fun u : In (RBox w p #[.int .i64 b, .slice (some ⟨b0, o0, none⟩) N c]) => (u.h.out.2.cell (p := ⟨b0, o0 + k * 6, none⟩) hb0).trans c0
          have kt := fun u : In (RBox w p #[.int .i64 b, .slice (some ⟨b0, o0, none⟩) N c]) => (u.h.out.2.cell (p := ⟨b0, o0 + k * 6 + 1, none⟩) hb0).trans c1
          have kl := fun u : In (RBox w p #[.int .i64 b, .slice (some ⟨b0, o0, none⟩) N c]) => load_parts ((u.h.out.2.cell (p := ⟨b0, o0 + k * 6, none⟩) hb0).trans c0) ((u.h.out.2.cell (p := ⟨b0, o0 + k * 6 + 1, none⟩) hb0).trans c1) ((u.h.out.2.cell (p := ⟨b0, o0 + k * 6 + 2, none⟩) hb0).trans c2) ((u.h.out.2.cell (p := ⟨b0, o0 + k * 6 + 3, none⟩) hb0).trans c3) ((u.h.out.2.cell (p := ⟨b0, o0 + k * 6 + 4, none⟩) hb0).trans c4) ((u.h.out.2.cell (p := ⟨b0, o0 + k * 6 + 5, none⟩) hb0).trans c5)
          have st0 := R.out
          clear R c0 c1 c2 c3 c4 c5
          go_upto_region 4 with fail
          refine region_in (S := RBox w p #[.int .i64 b, .slice (some ⟨b0, o0, none⟩) N c]) (by kernel_rfl) (by kernel_rfl) (st0.drewN 1) ?_
          iterate 4 (go_big_quiet_step (fail))
          go_big_quiet_want
          refine quiet_load_in 44 (.tmp 14) rfl b0 (o0 + k * 6) rfl _ kl ?_
          go_simp
          go_big_quiet_on
          repeat (go_big_quiet_step (first | (go_at_call 24; exact in_call ((HRR.out _).mono fun _ _ h => ⟨h.1, RBox.below (In.h _) h.2⟩))))
          refine wpQuiet_nil ?_
          rintro _ ⟨⟨w7, st7⟩, rfl⟩
          have S7 := Lib.hid st7
          clear this st0 st7 k0 k1 kr kt kl HRR
          (try simp only [Bool.not_true, Bool.not_false])
          go_wp2_with fail
          go_roundw
          case rel => exact ⟨k + 1, hlt, by go_num, S7.out, HYES.out (⟨rfl, by omega⟩)⟩
          case measure => simp [RowKit.intOf]; omega
      · obtain ⟨j, hj⟩ : ∃ j, j + 1 = k := ⟨k - 1, by omega⟩
        have g1 : decide (0 < k) = true := decide_eq_true hkp
        have g2 : decide ((0 : Int) < (k : Int)) = true := decide_eq_true (by omega)
        have e5 : (k : Int) - 1 = (j : Int) := by omega
        have e6 : (j : Int) < (N : Int) := by omega
        have hjl : j < rs.length := by omega
        have hrj := hc j hjl
        have hjk : rs[k - 1]'(by omega) = rs[j] := by congr 1; omega
        replace HYES : Hid (M = true ∧ b ≤ rs[k].o ∧ rs[j].o < rs[k].o ∧ rs[j].t ≤ rs[k].t → DocTo b rs (k + 1)) := fun h => HYES.out ⟨h.1, h.2.1, fun h0 => by rw [hjk]; exact pair_iff.2 h.2.2⟩
        replace HNO : Hid (¬ (M = true ∧ b ≤ rs[k].o ∧ rs[j].o < rs[k].o ∧ rs[j].t ≤ rs[k].t) → X0 = false) := fun h => HNO.out fun h2 => h ⟨h2.1, h2.2.1, by have := h2.2.2 hkp; rw [hjk] at this; exact pair_iff.1 this⟩
        unfold ragg at HRR
        generalize rs[k] = r at hr HRR HYES HNO
        generalize rs[j] = r' at hrj HYES HNO
        obtain ⟨o, t, key, bod, q, g⟩ := r
        obtain ⟨o', t', key', bod', q', g'⟩ := r'
        obtain ⟨c0, c1, c2, c3, c4, c5⟩ := hr
        obtain ⟨x0, x1, _, _, _, _⟩ := hrj
        dsimp only at c0 c1 c2 c3 c4 c5 x0 x1 HRR HYES HNO
        generalize str key = ks at c2 HRR
        generalize str bod = bs at c3 HRR
        unfold rarr at HRR
        clear hc hlr hj hkp hjl hjk
        cases M with
        | false =>
          haveI : Nonempty (In (RBox w p #[.int .i64 b, .slice (some ⟨b0, o0, none⟩) N c])) := ⟨⟨_, R.out⟩⟩
          have k0 := fun u : In (RBox w p #[.int .i64 b, .slice (some ⟨b0, o0, none⟩) N c]) => (show u.w.cell? ⟨p, 0, none⟩ = some (.int .i64 b) from u.h.cell 0)
          have k1 := fun u : In (RBox w p #[.int .i64 b, .slice (some ⟨b0, o0, none⟩) N c]) => (show u.w.cell? ⟨p, 1, none⟩ = some (.slice (some ⟨b0, o0, none⟩) N c) from u.h.cell 1)
          have kr := fun u : In (RBox w p #[.int .i64 b, .slice (some ⟨b0, o0, none⟩) N c]) => (u.h.out.2.cell (p := ⟨b0, o0 + k * 6, none⟩) hb0).trans c0
          have kt := fun u : In (RBox w p #[.int .i64 b, .slice (some ⟨b0, o0, none⟩) N c]) => (u.h.out.2.cell (p := ⟨b0, o0 + k * 6 + 1, none⟩) hb0).trans c1
          have kl := fun u : In (RBox w p #[.int .i64 b, .slice (some ⟨b0, o0, none⟩) N c]) => load_parts ((u.h.out.2.cell (p := ⟨b0, o0 + k * 6, none⟩) hb0).trans c0) ((u.h.out.2.cell (p := ⟨b0, o0 + k * 6 + 1, none⟩) hb0).trans c1) ((u.h.out.2.cell (p := ⟨b0, o0 + k * 6 + 2, none⟩) hb0).trans c2) ((u.h.out.2.cell (p := ⟨b0, o0 + k * 6 + 3, none⟩) hb0).trans c3) ((u.h.out.2.cell (p := ⟨b0, o0 + k * 6 + 4, none⟩) hb0).trans c4) ((u.h.out.2.cell (p := ⟨b0, o0 + k * 6 + 5, none⟩) hb0).trans c5)
          have kx := fun u : In (RBox w p #[.int .i64 b, .slice (some ⟨b0, o0, none⟩) N c]) => (u.h.out.2.cell (p := ⟨b0, o0 + j * 6, none⟩) hb0).trans x0
          have ky := fun u : In (RBox w p #[.int .i64 b, .slice (some ⟨b0, o0, none⟩) N c]) => (u.h.out.2.cell (p := ⟨b0, o0 + j * 6 + 1, none⟩) hb0).trans x1
          have st0 := R.out
          clear R c0 c1 c2 c3 c4 c5 x0 x1
          go_upto_region 4 with fail
          refine region_in (S := RBox w p #[.int .i64 b, .slice (some ⟨b0, o0, none⟩) N c]) (by kernel_rfl) (by kernel_rfl) (st0.drewN 1) ?_
          iterate 4 (go_big_quiet_step (fail))
          go_big_quiet_want
          refine quiet_load_in 44 (.tmp 14) rfl b0 (o0 + k * 6) rfl _ kl ?_
          go_simp
          go_big_quiet_on
          repeat (go_big_quiet_step (first | (go_at_call 24; exact in_call ((HRR.out _).mono fun _ _ h => ⟨h.1, RBox.below (In.h _) h.2⟩))))
          refine wpQuiet_nil ?_
          rintro _ ⟨⟨w7, st7⟩, rfl⟩
          have S7 := Lib.hid st7
          clear this st0 st7 k0 k1 kr kt kl HRR kx ky
          (try simp only [Bool.not_true, Bool.not_false])
          obtain rfl : X0 = false := HNO.out (fun h => by cases h.1)
          go_wp2_with fail
          go_ret
          exact ⟨rfl, S7.out.out.2⟩
        | true =>
        by_cases h2 : o < b
        · have g3 : decide (o < b) = true := decide_eq_true h2
          haveI : Nonempty (In (RBox w p #[.int .i64 b, .slice (some ⟨b0, o0, none⟩) N c])) := ⟨⟨_, R.out⟩⟩
          have k0 := fun u : In (RBox w p #[.int .i64 b, .slice (some ⟨b0, o0, none⟩) N c]) => (show u.w.cell? ⟨p, 0, none⟩ = some (.int .i64 b) from u.h.cell 0)
          have k1 := fun u : In (RBox w p #[.int .i64 b, .slice (some ⟨b0, o0, none⟩) N c]) => (show u.w.cell? ⟨p, 1, none⟩ = some (.slice (some ⟨b0, o0, none⟩) N c) from u.h.cell 1)
          have kr := fun u : In (RBox w p #[.int .i64 b, .slice (some ⟨b0, o0, none⟩) N c]) => (u.h.out.2.cell (p := ⟨b0, o0 + k * 6, none⟩) hb0).trans c0
          have kt := fun u : In (RBox w p #[.int .i64 b, .slice (some ⟨b0, o0, none⟩) N c]) => (u.h.out.2.cell (p := ⟨b0, o0 + k * 6 + 1, none⟩) hb0).trans c1
          have kl := fun u : In (RBox w p #[.int .i64 b, .slice (some ⟨b0, o0, none⟩) N c]) => load_parts ((u.h.out.2.cell (p := ⟨b0, o0 + k * 6, none⟩) hb0).trans c0) ((u.h.out.2.cell (p := ⟨b0, o0 + k * 6 + 1, none⟩) hb0).trans c1) ((u.h.out.2.cell (p := ⟨b0, o0 + k * 6 + 2, none⟩) hb0).trans c2) ((u.h.out.2.cell (p := ⟨b0, o0 + k * 6 + 3, none⟩) hb0).trans c3) ((u.h.out.2.cell (p := ⟨b0, o0 + k * 6 + 4, none⟩) hb0).trans c4) ((u.h.out.2.cell (p := ⟨b0, o0 + k * 6 + 5, none⟩) hb0).trans c5)
          have kx := fun u : In (RBox w p #[.int .i64 b, .slice (some ⟨b0, o0, none⟩) N c]) => (u.h.out.2.cell (p := ⟨b0, o0 + j * 6, none⟩) hb0).trans x0
          have ky := fun u : In (RBox w p #[.int .i64 b, .slice (some ⟨b0, o0, none⟩) N c]) => (u.h.out.2.cell (p := ⟨b0, o0 + j * 6 + 1, none⟩) hb0).trans x1
          have st0 := R.out
          clear R c0 c1 c2 c3 c4 c5 x0 x1
          go_upto_region 4 with fail
          refine region_in (S := RBox w p #[.int .i64 b, .slice (some ⟨b0, o0, none⟩) N c]) (by kernel_rfl) (by kernel_rfl) (st0.drewN 1) ?_
          iterate 4 (go_big_quiet_step (fail))
          go_big_quiet_want
          refine quiet_load_in 44 (.tmp 14) rfl b0 (o0 + k * 6) rfl _ kl ?_
          go_simp
          go_big_quiet_on
          repeat (go_big_quiet_step (first | (go_at_call 24; exact in_call ((HRR.out _).mono fun _ _ h => ⟨h.1, RBox.below (In.h _) h.2⟩))))
          refine wpQuiet_nil ?_
          rintro _ ⟨⟨w7, st7⟩, rfl⟩
          have S7 := Lib.hid st7
          clear this st0 st7 k0 k1 kr kt kl HRR kx ky
          (try simp only [Bool.not_true, Bool.not_false])
          obtain rfl : X0 = false := HNO.out (fun h => by have := h.2.1; omega)
          go_wp2_with fail
          go_ret
          exact ⟨rfl, S7.out.out.2⟩
        · have g3 : decide (o < b) = false := decide_eq_false h2
          by_cases h3 : o ≤ o'
          · have g4 : decide (o ≤ o') = true := decide_eq_true h3
            haveI : Nonempty (In (RBox w p #[.int .i64 b, .slice (some ⟨b0, o0, none⟩) N c])) := ⟨⟨_, R.out⟩⟩
            have k0 := fun u : In (RBox w p #[.int .i64 b, .slice (some ⟨b0, o0, none⟩) N c]) => (show u.w.cell? ⟨p, 0, none⟩ = some (.int .i64 b) from u.h.cell 0)
            have k1 := fun u : In (RBox w p #[.int .i64 b, .slice (some ⟨b0, o0, none⟩) N c]) => (show u.w.cell? ⟨p, 1, none⟩ = some (.slice (some ⟨b0, o0, none⟩) N c) from u.h.cell 1)
            have kr := fun u : In (RBox w p #[.int .i64 b, .slice (some ⟨b0, o0, none⟩) N c]) => (u.h.out.2.cell (p := ⟨b0, o0 + k * 6, none⟩) hb0).trans c0
            have kt := fun u : In (RBox w p #[.int .i64 b, .slice (some ⟨b0, o0, none⟩) N c]) => (u.h.out.2.cell (p := ⟨b0, o0 + k * 6 + 1, none⟩) hb0).trans c1
            have kl := fun u : In (RBox w p #[.int .i64 b, .slice (some ⟨b0, o0, none⟩) N c]) => load_parts ((u.h.out.2.cell (p := ⟨b0, o0 + k * 6, none⟩) hb0).trans c0) ((u.h.out.2.cell (p := ⟨b0, o0 + k * 6 + 1, none⟩) hb0).trans c1) ((u.h.out.2.cell (p := ⟨b0, o0 + k * 6 + 2, none⟩) hb0).trans c2) ((u.h.out.2.cell (p := ⟨b0, o0 + k * 6 + 3, none⟩) hb0).trans c3) ((u.h.out.2.cell (p := ⟨b0, o0 + k * 6 + 4, none⟩) hb0).trans c4) ((u.h.out.2.cell (p := ⟨b0, o0 + k * 6 + 5, none⟩) hb0).trans c5)
            have kx := fun u : In (RBox w p #[.int .i64 b, .slice (some ⟨b0, o0, none⟩) N c]) => (u.h.out.2.cell (p := ⟨b0, o0 + j * 6, none⟩) hb0).trans x0
            have ky := fun u : In (RBox w p #[.int .i64 b, .slice (some ⟨b0, o0, none⟩) N c]) => (u.h.out.2.cell (p := ⟨b0, o0 + j * 6 + 1, none⟩) hb0).trans x1
            have st0 := R.out
            clear R c0 c1 c2 c3 c4 c5 x0 x1
            go_upto_region 4 with fail
            refine region_in (S := RBox w p #[.int .i64 b, .slice (some ⟨b0, o0, none⟩) N c]) (by kernel_rfl) (by kernel_rfl) (st0.drewN 1) ?_
            iterate 4 (go_big_quiet_step (fail))
            go_big_quiet_want
            refine quiet_load_in 44 (.tmp 14) rfl b0 (o0 + k * 6) rfl _ kl ?_
            go_simp
            go_big_quiet_on
            repeat (go_big_quiet_step (first | (go_at_call 24; exact in_call ((HRR.out _).mono fun _ _ h => ⟨h.1, RBox.below (In.h _) h.2⟩))))
            refine wpQuiet_nil ?_
            rintro _ ⟨⟨w7, st7⟩, rfl⟩
            have S7 := Lib.hid st7
            clear this st0 st7 k0 k1 kr kt kl HRR kx ky
            (try simp only [Bool.not_true, Bool.not_false])
            obtain rfl : X0 = false := HNO.out (fun h => by have := h.2.2.1; omega)
            go_wp2_with fail
            go_ret
            exact ⟨rfl, S7.out.out.2⟩
          · have g4 : decide (o ≤ o') = false := decide_eq_false h3
            by_cases h4 : t < t'
            · have g5 : decide (t < t') = true := decide_eq_true h4
              haveI : Nonempty (In (RBox w p #[.int .i64 b, .slice (some ⟨b0, o0, none⟩) N c])) := ⟨⟨_, R.out⟩⟩
              have k0 := fun u : In (RBox w p #[.int .i64 b, .slice (some ⟨b0, o0, none⟩) N c]) => (show u.w.cell? ⟨p, 0, none⟩ = some (.int .i64 b) from u.h.cell 0)
              have k1 := fun u : In (RBox w p #[.int .i64 b, .slice (some ⟨b0, o0, none⟩) N c]) => (show u.w.cell? ⟨p, 1, none⟩ = some (.slice (some ⟨b0, o0, none⟩) N c) from u.h.cell 1)
              have kr := fun u : In (RBox w p #[.int .i64 b, .slice (some ⟨b0, o0, none⟩) N c]) => (u.h.out.2.cell (p := ⟨b0, o0 + k * 6, none⟩) hb0).trans c0
              have kt := fun u : In (RBox w p #[.int .i64 b, .slice (some ⟨b0, o0, none⟩) N c]) => (u.h.out.2.cell (p := ⟨b0, o0 + k * 6 + 1, none⟩) hb0).trans c1
              have kl := fun u : In (RBox w p #[.int .i64 b, .slice (some ⟨b0, o0, none⟩) N c]) => load_parts ((u.h.out.2.cell (p := ⟨b0, o0 + k * 6, none⟩) hb0).trans c0) ((u.h.out.2.cell (p := ⟨b0, o0 + k * 6 + 1, none⟩) hb0).trans c1) ((u.h.out.2.cell (p := ⟨b0, o0 + k * 6 + 2, none⟩) hb0).trans c2) ((u.h.out.2.cell (p := ⟨b0, o0 + k * 6 + 3, none⟩) hb0).trans c3) ((u.h.out.2.cell (p := ⟨b0, o0 + k * 6 + 4, none⟩) hb0).trans c4) ((u.h.out.2.cell (p := ⟨b0, o0 + k * 6 + 5, none⟩) hb0).trans c5)
              have kx := fun u : In (RBox w p #[.int .i64 b, .slice (some ⟨b0, o0, none⟩) N c]) => (u.h.out.2.cell (p := ⟨b0, o0 + j * 6, none⟩) hb0).trans x0
              have ky := fun u : In (RBox w p #[.int .i64 b, .slice (some ⟨b0, o0, none⟩) N c]) => (u.h.out.2.cell (p := ⟨b0, o0 + j * 6 + 1, none⟩) hb0).trans x1
              have st0 := R.out
              clear R c0 c1 c2 c3 c4 c5 x0 x1
              go_upto_region 4 with fail
              refine region_in (S := RBox w p #[.int .i64 b, .slice (some ⟨b0, o0, none⟩) N c]) (by kernel_rfl) (by kernel_rfl) (st0.drewN 1) ?_
              iterate 4 (go_big_quiet_step (fail))
              go_big_quiet_want
              refine quiet_load_in 44 (.tmp 14) rfl b0 (o0 + k * 6) rfl _ kl ?_
              go_simp
              go_big_quiet_on
              repeat (go_big_quiet_step (first | (go_at_call 24; exact in_call ((HRR.out _).mono fun _ _ h => ⟨h.1, RBox.below (In.h _) h.2⟩))))
              refine wpQuiet_nil ?_
              rintro _ ⟨⟨w7, st7⟩, rfl⟩
              have S7 := Lib.hid st7
              clear this st0 st7 k0 k1 kr kt kl HRR kx ky
              (try simp only [Bool.not_true, Bool.not_false])
              obtain rfl : X0 = false := HNO.out (fun h => by have := h.2.2.2; omega)
              go_wp2_with fail
              go_ret
              exact ⟨rfl, S7.out.out.2⟩
            · have g5 : decide (t < t') = false := decide_eq_false h4
              haveI : Nonempty (In (RBox w p #[.int .i64 b, .slice (some ⟨b0, o0, none⟩) N c])) := ⟨⟨_, R.out⟩⟩
              have k0 := fun u : In (RBox w p #[.int .i64 b, .slice (some ⟨b0, o0, none⟩) N c]) => (show u.w.cell? ⟨p, 0, none⟩ = some (.int .i64 b) from u.h.cell 0)
              have k1 := fun u : In (RBox w p #[.int .i64 b, .slice (some ⟨b0, o0, none⟩) N c]) => (show u.w.cell? ⟨p, 1, none⟩ = some (.slice (some ⟨b0, o0, none⟩) N c) from u.h.cell 1)
              have kr := fun u : In (RBox w p #[.int .i64 b, .slice (some ⟨b0, o0, none⟩) N c]) => (u.h.out.2.cell (p := ⟨b0, o0 + k * 6, none⟩) hb0).trans c0
              have kt := fun u : In (RBox w p #[.int .i64 b, .slice (some ⟨b0, o0, none⟩) N c]) => (u.h.out.2.cell (p := ⟨b0, o0 + k * 6 + 1, none⟩) hb0).trans c1
              have kl := fun u : In (RBox w p #[.int .i64 b, .slice (some ⟨b0, o0, none⟩) N c]) => load_parts ((u.h.out.2.cell (p := ⟨b0, o0 + k * 6, none⟩) hb0).trans c0) ((u.h.out.2.cell (p := ⟨b0, o0 + k * 6 + 1, none⟩) hb0).trans c1) ((u.h.out.2.cell (p := ⟨b0, o0 + k * 6 + 2, none⟩) hb0).trans c2) ((u.h.out.2.cell (p := ⟨b0, o0 + k * 6 + 3, none⟩) hb0).trans c3) ((u.h.out.2.cell (p := ⟨b0, o0 + k * 6 + 4, none⟩) hb0).trans c4) ((u.h.out.2.cell (p := ⟨b0, o0 + k * 6 + 5, none⟩) hb0).trans c5)
              have kx := fun u : In (RBox w p #[.int .i64 b, .slice (some ⟨b0, o0, none⟩) N c]) => (u.h.out.2.cell (p := ⟨b0, o0 + j * 6, none⟩) hb0).trans x0
              have ky := fun u : In (RBox w p #[.int .i64 b, .slice (some ⟨b0, o0, none⟩) N c]) => (u.h.out.2.cell (p := ⟨b0, o0 + j * 6 + 1, none⟩) hb0).trans x1
              have st0 := R.out
              clear R c0 c1 c2 c3 c4 c5 x0 x1
              go_upto_region 4 with fail
              refine region_in (S := RBox w p #[.int .i64 b, .slice (some ⟨b0, o0, none⟩) N c]) (by kernel_rfl) (by kernel_rfl) (st0.drewN 1) ?_
              iterate 4 (go_big_quiet_step (fail))
              go_big_quiet_want
              refine quiet_load_in 44 (.tmp 14) rfl b0 (o0 + k * 6) rfl _ kl ?_
              go_simp
              go_big_quiet_on
              repeat (go_big_quiet_step (first | (go_at_call 24; exact in_call ((HRR.out _).mono fun _ _ h => ⟨h.1, RBox.below (In.h _) h.2⟩))))
              refine wpQuiet_nil ?_
              rintro _ ⟨⟨w7, st7⟩, rfl⟩
              have S7 := Lib.hid st7
              clear this st0 st7 k0 k1 kr kt kl HRR kx ky
              (try simp only [Bool.not_true, Bool.not_false])
              go_wp2_with fail
              go_roundw
              case rel => exact ⟨k + 1, hlt, by go_num, S7.out, HYES.out (⟨rfl, by omega, by omega, by omega⟩)⟩
              case measure => simp [RowKit.intOf]; omega
    · obtain rfl : k = N := by omega
      have HALL := Lib.hid (show X0 = (baseB b && decide (k ≤ 200)) by
        rw [← HX.out, Bool.eq_iff_iff, Bool.and_eq_true, decide_eq_true_iff]
        refine ⟨fun h => (by rw [← HNN.out]; exact (seg_doc.1 h).1), fun h => seg_doc.2 ⟨by rw [HNN.out]; exact h, fun i hi => HD.out i hi (by rw [← HNN.out]; exact hi)⟩⟩)
      have HNU := Lib.hid (fun X W (h : decide (0 ≤ b ∧ b ≤ 1099511627776) = X) => RNum_is b 1099511627776 X W h)
      have d0 : wr.cell? ⟨p, 0, none⟩ = some (.int .i64 b) := R.out.cell 0
      unfold baseB at HALL
      clear HD
      obtain ⟨Y, hY⟩ : ∃ Y, decide (0 ≤ b ∧ b ≤ 1099511627776) = Y := ⟨_, rfl⟩
      rw [hY] at HALL
      have HNU1 := Lib.hid (fun W => HNU.out Y W hY)
      clear HNU hY
      cases Y with
      | true =>
        go_wp2_with (go_at_call 25; refine (HNU1.out _).mono ?_; rintro e w' ⟨rfl, rfl⟩)
        go_ret
        exact ⟨ret_bool (by rw [HALL.out, Bool.true_and]; exact decide_eq_decide.2 (by omega)), R.out.out.2⟩
      | false =>
        go_wp2_with (go_at_call 25; refine (HNU1.out _).mono ?_; rintro e w' ⟨rfl, rfl⟩)
        go_ret
        exact ⟨ret_bool (by rw [HALL.out]; rfl), R.out.out.2⟩
end Go.Proofs.Ytijpieaanlnibaa
/- The document's own answer: where the first record is whose offset is far enough. -/
namespace Go.Proofs.Ytijpieaanlnibaa
open Go.RowKit Go.Lib Rcd

set_option maxRecDepth 100000 in
set_option maxHeartbeats 4000000 in
/-- fairwayref10.Find. -/
theorem RFind_is (n : Int) (rs : List Rc) (N : Nat) (A : Option Addr) (c B a : Nat) (z : Int) (w : World) (hN : rs.length = N) (hm : N ≤ 9223372036854775807) (h : RecsAt w B A rs) (hF : First (byFind n) rs a) (hz : atOf a N = z) :
    Calls Try.prog 19 #[.slice A N c, .int .i64 n] w fun e w' => e = .returned (.int .i64 z) ∧ w = w' := by
  have H := Lib.hid h
  have HF := Lib.hid hF
  have HNN := Lib.hid hN
  have haN : a ≤ N := by rw [← hN]; exact hF.le
  have HZ := Lib.hid hz
  clear h hF hN hz
  go_enter Try.func19, Try.ntmps19
  go_wp2_with fail
  go_loopw [5] (fun i wr => ∃ k : Nat, k ≤ a ∧ i = .int .i64 (k : Int) ∧ wr = w) (fun i _ => N - (RowKit.intOf i).toNat)
  case atStart => exact ⟨0, Nat.zero_le _, rfl, rfl⟩
  case round =>
    obtain ⟨k, hk, rfl, rfl⟩ := hrel
    by_cases hlt : k < N
    · have hlr : k < rs.length := by rw [HNN.out]; exact hlt
      obtain ⟨b0, o0, rfl, hb0, hc⟩ := H.out.some_ (by omega)
      obtain ⟨c0, c1, c2, c3, c4, c5⟩ := hc k hlr
      have hwhich : (n ≤ rs[k].o ∧ k = a) ∨ (¬ n ≤ rs[k].o ∧ k < a) := by
        rcases Nat.lt_or_ge k a with h1 | h1
        · exact .inr ⟨of_decide_eq_false (HF.out.lo k hlr h1), h1⟩
        · obtain rfl : k = a := by omega
          exact .inl ⟨of_decide_eq_true (HF.out.hi hlr), rfl⟩
      generalize rs[k].o = o at c0 hwhich
      clear hc c1 c2 c3 c4 c5
      have e1 : (k : Int) < (N : Int) := by omega
      clear hlr
      rcases hwhich with ⟨h1, rfl⟩ | ⟨h1, hka⟩
      · have HZ1 := Lib.hid ((show atOf k N = (k : Int) from if_pos hlt).symm.trans HZ.out)
        go_wp2_with fail
        go_ret
        exact ⟨ret_int HZ1.out, rfl⟩
      · go_wp2_with fail
        go_roundw
        case rel => exact ⟨k + 1, hka, by go_num, by trivial⟩
        case measure => simp [RowKit.intOf]; omega
    · obtain rfl : a = N := by omega
      have HZ1 := Lib.hid ((show atOf a a = -1 from if_neg (Nat.lt_irrefl _)).symm.trans HZ.out)
      obtain rfl : k = a := by omega
      go_wp2_with fail
      go_ret
      exact ⟨ret_int HZ1.out, rfl⟩
end Go.Proofs.Ytijpieaanlnibaa
/- The first few of a slice of records; a segment within a greater variable, read whole. -/
namespace Go.Proofs.Ytijpieaanlnibaa
open Go.RowKit Go.Lib Rcd

theorem load_seg_at {W : World} {g o : Nat} {b : Int} {v : Value} (c0 : W.cell? ⟨g, o, none⟩ = some (.int .i64 b)) (c1 : W.cell? ⟨g, o + 1, none⟩ = some v) (h1 : v.oneCell' = true := by rfl) :
    (loadVar 24 ⟨g, o, none⟩).run Try.prog W = .ok (.agg #[.int .i64 b, v]) W :=
  run_loadVar_mid W g o 24 [.int .i64 b, v] _ (fun j v hv => by
    match j, hv with
    | 0, hv => rw [← hv]; exact c0
    | 1, hv => rw [← hv]; exact c1) Try.underlying24 rfl info_seg
theorem slice_front (A : Option Addr) (n c m : Nat) (w : World) (h : m ≤ c) :
    (Instr.sliceAt 22 (.slice A n c) none (some (.int .i64 (m : Int))) none).run Try.prog w = .ok (.slice A m c) w := by
  have h1 : (m : Int) ≤ (c : Int) := by omega
  have hm : ∀ a : Addr, a.add 0 = a := fun a => by obtain ⟨b, o, s⟩ := a; unfold Addr.add; split <;> simp_all
  cases A with
  | none =>
    go_simp
  | some a =>
    go_simp
    try simp [hm]
end Go.Proofs.Ytijpieaanlnibaa
