/- The document's own answer: the sum of bytes, bit by bit. -/
import Derived.Test.YtimoncjdfmfojaaDoorSumSum
namespace Go.Proofs.YtimoncjdfmfojaaDoor
open Go.RowKit Go.Lib Crc

def Rk : Nat → Nat → Nat
  | 0, s => s
  | k + 1, s => Rk k (R s)
theorem low_bit (n : Nat) (hn : n < 4294967296) : bits .and .u32 (n : Int) 1 = ((n % 2 : Nat) : Int) := by
  have e := u32_and_nat n 1 hn (by omega)
  rw [nat_mask1] at e
  exact e
theorem xor_poly (n : Nat) (hn : n < 4294967296) (h : n % 2 = 1) : bits .xor .u32 ((n : Int) / 2) 2197175160 = ((R n : Nat) : Int) := by
  have e := u32_xor_nat (n / 2) 2197175160 (by omega) (by omega)
  have e2 : (((n / 2 : Nat)) : Int) = (n : Int) / 2 := by omega
  rw [e2] at e
  rw [R_odd h]
  exact e

set_option maxRecDepth 100000 in
set_option maxHeartbeats 2000000 in
theorem RSum_any (s : Nat) (b : ByteArray) (w : World) (hs : s < 4294967296) (hb : b.size ≤ 9223372036854775807) :
    Calls Tryd.prog 26 #[.int .u32 (s : Int), .string b] w fun e w' => e = .returned (.int .u32 ((sumN s b.data.toList : Nat) : Int)) ∧ w = w' := by
  have HN := not_u32 s hs
  have HZ : Hid (b.data.toList.length = b.size) := by show _ = _; rw [Array.length_toList]; rfl
  go_enter Tryd.func26, Tryd.ntmps26
  go_wp2_with fail
  clear HN
  go_loop [0, 5] (fun v i => ∃ k m : Nat, k ≤ b.size ∧ i = .int .i64 (k : Int) ∧ v = .int .u32 (m : Int) ∧ m < 4294967296 ∧ m = crc (4294967295 - s) (b.data.toList.take k)) (fun _ i => b.size - (RowKit.intOf i).toNat)
  case atStart => exact ⟨0, _, Nat.zero_le _, rfl, rfl, by omega, rfl⟩
  case round =>
    obtain ⟨k, m, hk, rfl, rfl, hm, hcrc⟩ := hrel
    by_cases hlt : k < b.size
    · have hkl : k < b.data.toList.length := by rw [HZ.out]; exact hlt
      have hne : ¬ b = ByteArray.empty := by intro h; rw [h] at hlt; exact absurd hlt (by simp)
      have hx256 : (b[k]'hlt).toNat < 256 := (b[k]'hlt).toNat_lt
      have HX := xor_byte m (b[k]'hlt) hm
      have h2 := byte_lt hm (b[k]'hlt)
      have hc := crc_next (4294967295 - s) b.data.toList k hkl
      rw [← hcrc, step2_eq] at hc
      have hx0 : b.data.toList.getD k 0 = b[k]'hlt := by rw [List.getD_eq_getElem?_getD, List.getElem?_eq_getElem hkl]; rfl
      rw [hx0] at hc
      have HC := Lib.hid hc
      clear hkl hc hx0 hcrc
      go_wp2_with fail
      clear HX
      go_loop [0, 6] (fun v i => ∃ j n : Nat, j ≤ 8 ∧ i = .int .i64 (j : Int) ∧ v = .int .u32 (n : Int) ∧ n < 4294967296 ∧ Rk (8 - j) n = R8 (m ^^^ (b[k]'hlt).toNat)) (fun _ i => 8 - (RowKit.intOf i).toNat)
      case atStart => exact ⟨0, _, by omega, rfl, rfl, h2, rfl⟩
      case round =>
        obtain ⟨j, n, hj, rfl, rfl, hn, hr⟩ := hrel
        by_cases hj8 : j < 8
        · have hr2 : Rk (8 - (j + 1)) (R n) = R8 (m ^^^ (b[k]'hlt).toNat) := by
            rw [← hr, show 8 - j = (8 - (j + 1)) + 1 by omega]; rfl
          have hR := R_lt hn
          by_cases ho : n % 2 = 1
          · have HP := xor_poly n hn ho
            have HQ := Lib.hid hr2
            have HR := Lib.hid hR
            have hd := low_bit n hn
            rw [ho] at hd
            clear hr hr2 hR ho
            go_wp2_with fail
            go_round
            case rel => exact ⟨j + 1, _, by omega, by go_num, rfl, HR.out, HQ.out⟩
            case measure => simp [RowKit.intOf]; omega
          · have hE : n / 2 = R n := (R_even ho).symm
            rw [← hE] at hr2 hR
            have HQ := Lib.hid hr2
            have HR := Lib.hid hR
            have hd := low_bit n hn
            rw [show n % 2 = 0 by omega] at hd
            clear hr hr2 hR ho hE
            go_wp2_with fail
            go_round
            case rel => exact ⟨j + 1, n / 2, by omega, by go_num, by go_num, HR.out, HQ.out⟩
            case measure => simp [RowKit.intOf]; omega
        · obtain rfl : j = 8 := by omega
          have hd : n = crc (4294967295 - s) (b.data.toList.take (k + 1)) := (show n = R8 (m ^^^ (b[k]'hlt).toNat) from hr).trans HC.out
          have HD := Lib.hid hd
          clear hd hr
          go_wp2_with fail
          go_round
          case rel => exact ⟨k + 1, n, hlt, by go_num, rfl, hn, HD.out⟩
          case measure => simp [RowKit.intOf]; omega
    · have he : m = crc (4294967295 - s) b.data.toList := by rw [hcrc, List.take_of_length_le (by rw [HZ.out]; omega)]
      have HN := not_u32 m hm
      have HE := Lib.hid he
      clear he hcrc
      go_wp2_with fail
      go_ret
      exact ⟨ret_int (by rw [HE.out]; rfl), rfl⟩
theorem RSum_is (s : Nat) (b : ByteArray) (N : Nat) (w : World) (hs : s < 4294967296) (hb : b.size ≤ 9223372036854775807) (hN : sumN s b.data.toList = N) :
    Calls Tryd.prog 26 #[.int .u32 (s : Int), .string b] w fun e w' => e = .returned (.int .u32 (N : Int)) ∧ w = w' := by
  rw [← hN]
  exact RSum_any s b w hs hb
end Go.Proofs.YtimoncjdfmfojaaDoor
