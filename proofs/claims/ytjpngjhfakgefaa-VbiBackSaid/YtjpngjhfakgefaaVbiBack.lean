/- VbiBack: what package vbi writes it takes, whatever stands behind it; cut off it is cut off; what it takes was written so. -/
import Derived.Test.YtjpngjhfakgefaaVbiPlainBack
import Derived.Test.YtjpngjhfakgefaaVbiTakes
namespace Go.Proofs.Ytjpngjhfakgefaa
open Go.RowKit Go.Lib Vbi

set_option maxHeartbeats 1000000 in
theorem Within_num (i : Int) (w : World) :
    Calls Try.prog 24 #[.int .i64 i, .int .i64 268435456] w fun e w' => ∃ k : Nat, e = .returned (.int .i64 (k : Int)) ∧ k < 268435456 ∧ w = w' := by
  have key : Calls Try.prog 24 #[.int .i64 i, .int .i64 268435456] w fun e w' => e = .returned (.int .i64 ((IntKind.u64.wrap i % 268435456).toNat : Int)) ∧ w = w' := by
    have hq : 0 ≤ IntKind.u64.wrap i := by unfold IntKind.wrap; simp [IntKind.bits, IntKind.signed]; omega
    have hm : 0 ≤ IntKind.u64.wrap i % 268435456 ∧ IntKind.u64.wrap i % 268435456 < 268435456 := by omega
    go_enter Try.func24, Try.ntmps24
    go_wp2
    go_ret
    refine ⟨ret_int ?_, rfl⟩
    rw [Int.toNat_of_nonneg hm.1]
  have hq : 0 ≤ IntKind.u64.wrap i := by unfold IntKind.wrap; simp [IntKind.bits, IntKind.signed]; omega
  exact key.mono fun e w' h => ⟨_, h.1, by omega, h.2⟩

set_option maxRecDepth 100000 in
set_option maxHeartbeats 16000000 in
theorem VbiBack_any (A : Option Addr) (n c : Nat) (w : World) (h : Asks w A n) :
    Calls Try.prog 7 #[.slice A n c] w fun e w' => e = .returned (.bool true) ∧ Below w.heap.size w w' := by
  have H := Lib.hid h
  clear h
  go_enter Try.func7, Try.ntmps7
  go_wp2_with fail
  go_loopw [3] (fun i wr => ∃ k : Nat, k ≤ n ∧ k ≤ 15 ∧ i = .int .i64 (k : Int) ∧ Below w.heap.size w wr) (fun i _ => 15 - (RowKit.intOf i).toNat)
  case atStart => exact ⟨0, Nat.zero_le _, by omega, rfl, Below.refl _ _⟩
  case round =>
    obtain ⟨k, hkn, hk15, rfl, hnx⟩ := hrel
    obtain ⟨wo, rfl⟩ : ∃ wo : World, wo = wr := ⟨_, rfl⟩
    by_cases hgo : k < n ∧ k < 15
    · obtain ⟨h1, h2⟩ := hgo
      rcases H.out with h0 | ⟨b, off, rfl, hall⟩
      · omega
      · obtain ⟨x, s, y, ha⟩ := hall k h1
        have HA := Lib.hid (ha.below hnx)
        have HX := Lib.hid hnx
        clear hall ha hnx H
        have q0 := HA.out.c0
        have q1 := HA.out.c1
        have q2 := HA.out.c2
        have hkn' : (k : Int) < (n : Int) := by omega
        have hk15' : (k : Int) < 15 := by omega
        cases hh : heavyB s.size y.size with
        | true =>
          have HH := Lib.hid (fun W => heavy_is x s y W true hh)
          clear hh
          go_wp2_with (go_at_call 17; refine (HH.out _).mono ?_; rintro e w1 ⟨rfl, hb1⟩)
          go_ret
          exact ⟨rfl, HX.out.trans (hb1.mono HX.out.size)⟩
        | false =>
          have HH := Lib.hid (fun W => heavy_is x s y W false hh)
          obtain ⟨hsz, hyz⟩ := heavy_not hh
          clear hh
          go_wp2_with fail
          refine (HH.out _).mono ?_
          rintro e w1 ⟨rfl, hb1⟩
          have HA1 := Lib.hid (HA.out.below (hb1.mono HX.out.size))
          have HX1 := Lib.hid (HX.out.trans (hb1.mono HX.out.size))
          clear q0 q1 q2 hb1 HH HA HX
          have q0 := HA1.out.c0
          go_wp2_with fail
          refine (Within_num _ _).mono ?_
          rintro e w' ⟨m, rfl, hm, rfl⟩
          clear q0
          have hS4 : (strOfNums (numZ m)).size ≤ 4 := by rw [strOfNums_size, numZ_len hm]; exact (numLen_le m).2
          have HN := Lib.hid (fun W => Num_good m W hm)
          have HB := Lib.hid (num_back hm y)
          have HC := Lib.hid (num_cut hm)
          obtain ⟨S, hS⟩ : ∃ S, S = strOfNums (numZ m) := ⟨_, rfl⟩
          rw [← hS] at HN HB HC hS4
          clear hS
          have HT := Lib.hid (fun W => TakeNum_is (S ++ y) _ _ _ W (by rw [ByteArray.size_append]; omega) HB.out)
          go_wp2_with fail
          refine (HN.out _).mono ?_
          rintro e w2 ⟨rfl, hb2⟩
          have HA2 := Lib.hid (HA1.out.below (hb2.mono HX1.out.size))
          have HX2 := Lib.hid (HX1.out.trans (hb2.mono HX1.out.size))
          clear hb2 HN HA1 HX1 HB
          have q2 := HA2.out.c2
          go_wp2_with (first | (go_at_call 15; refine (num_same _ _).mono ?_; rintro e w' ⟨rfl, rfl⟩) | (go_at_call 18; refine (HT.out _).mono ?_; rintro e w' ⟨rfl, rfl⟩))
          clear q2 HT
          go_loop [10] (fun jv => ∃ j : Nat, j ≤ S.size ∧ jv = .int .i64 (j : Int)) (fun jv => S.size - (RowKit.intOf jv).toNat)
          case atStart => exact ⟨0, by omega, rfl⟩
          case round =>
            obtain ⟨j, hj, rfl⟩ := hrel
            by_cases hjl : j < S.size
            · have HJ := Lib.hid (fun W => TakeNum_is (S.extract 0 j) 0 0 7 W (by rw [ByteArray.size_extract]; omega) (HC.out j hjl))
              go_wp2_with (first | (go_at_call 15; refine (num_same _ _).mono ?_; rintro e w' ⟨rfl, rfl⟩) | (go_at_call 18; refine (HJ.out _).mono ?_; rintro e w' ⟨rfl, rfl⟩))
              go_round
              case rel => exact ⟨j + 1, hjl, by go_num⟩
              case measure => simp [RowKit.intOf]; omega
            · obtain rfl : j = S.size := by omega
              clear HC
              have q1 := HA2.out.c1
              have HW := Lib.hid (num_wrote y)
              by_cases hl : s.size ≤ 1024
              · obtain ⟨T, hT⟩ : ∃ T, T = strOfNums (fixZ 2 s.size) ++ s := ⟨_, rfl⟩
                have hTz : T.size = 2 + s.size := by rw [hT, bin_size]
                have HBn := Lib.hid (fun W => Bin_good s T W hl hT.symm)
                have HK := Lib.hid (bin_back s y hl)
                have HL := Lib.hid (bin_cut s hl)
                rw [← hT] at HK HL
                have hlen : ((T.size : Int) != 2 + (s.size : Int)) = false := by rw [bne_eq_false_iff_eq]; omega
                have hT2 : 2 ≤ T.size := by omega
                have hT3 : T.size ≤ 1026 := by omega
                have HTa := Lib.hid (fun W => TakeBin_is (T ++ y) _ _ _ W (by rw [ByteArray.size_append]; omega) HK.out)
                have HTb := Lib.hid (fun W => TakeBin_is (T.extract 0 (T.size - 1)) _ _ _ W (by rw [ByteArray.size_extract]; omega) HL.out)
                clear hT hTz HK HL
                go_wp2_with fail
                refine (HBn.out _).mono ?_
                rintro e w3 ⟨rfl, hb3⟩
                have HA3 := Lib.hid (HA2.out.below (hb3.mono HX2.out.size))
                have HX3 := Lib.hid (HX2.out.trans (hb3.mono HX2.out.size))
                clear q1 hb3 HBn HA2 HX2
                have q1 := HA3.out.c1
                have q2 := HA3.out.c2
                go_wp2_with (go_at_call 15; refine (num_same _ _).mono ?_; rintro e w' ⟨rfl, rfl⟩)
                refine (HTa.out _).mono ?_
                rintro e w4 ⟨rfl, hb4⟩
                have HA4 := Lib.hid (HA3.out.below (hb4.mono HX3.out.size))
                have HX4 := Lib.hid (HX3.out.trans (hb4.mono HX3.out.size))
                clear q1 q2 hb4 HTa HA3 HX3
                go_wp2_with fail
                refine (HTb.out _).mono ?_
                rintro e w5 ⟨rfl, hb5⟩
                have HA5 := Lib.hid (HA4.out.below (hb5.mono HX4.out.size))
                have HX5 := Lib.hid (HX4.out.trans (hb5.mono HX4.out.size))
                clear hb5 HTb HA4 HX4
                have q1 := HA5.out.c1
                have q2 := HA5.out.c2
                rcases HW.out with ⟨E, he, hE0⟩ | ⟨m2, k2, he, hm2, hk2, hw2⟩
                · have HJ := Lib.hid (fun W => TakeNum_is y 0 0 E W (by omega) he)
                  have hEq : (E == 0) = false := by rw [beq_eq_false_iff_ne]; exact hE0
                  clear he hE0
                  go_wp2_with (first | (go_at_call 15; refine (num_same _ _).mono ?_; rintro e w' ⟨rfl, rfl⟩) | (go_at_call 18; refine (HJ.out _).mono ?_; rintro e w' ⟨rfl, rfl⟩))
                  go_roundw
                  case rel => exact ⟨k + 1, h1, h2, by go_num, HX5.out⟩
                  case measure => simp [RowKit.intOf]; omega
                · have HJ := Lib.hid (fun W => TakeNum_is y m2 k2 0 W (by omega) he)
                  have HV := Lib.hid (fun W => Num_is (m2 : Int) (y.extract 0 k2) 0 W (by
                    rcases numErr_cases (m2 : Int) with ⟨_, _, _, e⟩ | ⟨h0, _⟩
                    · rw [e, Int.toNat_natCast, hw2]
                    · omega) (by
                    rcases numErr_cases (m2 : Int) with ⟨_, _, e, _⟩ | ⟨h0, _⟩
                    · exact e
                    · omega))
                  clear he hw2
                  go_wp2_with (first | (go_at_call 15; refine (num_same _ _).mono ?_; rintro e w' ⟨rfl, rfl⟩) | (go_at_call 18; refine (HJ.out _).mono ?_; rintro e w' ⟨rfl, rfl⟩))
                  refine (HV.out _).mono ?_
                  rintro e w9 ⟨rfl, hb9⟩
                  have HA9 := Lib.hid (HA5.out.below (hb9.mono HX5.out.size))
                  have HX9 := Lib.hid (HX5.out.trans (hb9.mono HX5.out.size))
                  clear q2 hb9 HV
                  have q2 := HA9.out.c2
                  go_wp2_with (go_at_call 15; refine (num_same _ _).mono ?_; rintro e w' ⟨rfl, rfl⟩)
                  go_roundw
                  case rel => exact ⟨k + 1, h1, h2, by go_num, HX9.out⟩
                  case measure => simp [RowKit.intOf]; omega
              · have HBn := Lib.hid (fun W => Bin_bad s W (by omega))
                go_wp2_with fail
                refine (HBn.out _).mono ?_
                rintro e w3 ⟨rfl, hb3⟩
                have HA3 := Lib.hid (HA2.out.below (hb3.mono HX2.out.size))
                have HX3 := Lib.hid (HX2.out.trans (hb3.mono HX2.out.size))
                clear q1 hb3 HBn HA2 HX2
                have q2 := HA3.out.c2
                rcases HW.out with ⟨E, he, hE0⟩ | ⟨m2, k2, he, hm2, hk2, hw2⟩
                · have HJ := Lib.hid (fun W => TakeNum_is y 0 0 E W (by omega) he)
                  have hEq : (E == 0) = false := by rw [beq_eq_false_iff_ne]; exact hE0
                  clear he hE0
                  go_wp2_with (first | (go_at_call 15; refine (num_same _ _).mono ?_; rintro e w' ⟨rfl, rfl⟩) | (go_at_call 18; refine (HJ.out _).mono ?_; rintro e w' ⟨rfl, rfl⟩))
                  go_roundw
                  case rel => exact ⟨k + 1, h1, h2, by go_num, HX3.out⟩
                  case measure => simp [RowKit.intOf]; omega
                · have HJ := Lib.hid (fun W => TakeNum_is y m2 k2 0 W (by omega) he)
                  have HV := Lib.hid (fun W => Num_is (m2 : Int) (y.extract 0 k2) 0 W (by
                    rcases numErr_cases (m2 : Int) with ⟨_, _, _, e⟩ | ⟨h0, _⟩
                    · rw [e, Int.toNat_natCast, hw2]
                    · omega) (by
                    rcases numErr_cases (m2 : Int) with ⟨_, _, e, _⟩ | ⟨h0, _⟩
                    · exact e
                    · omega))
                  clear he hw2
                  go_wp2_with (first | (go_at_call 15; refine (num_same _ _).mono ?_; rintro e w' ⟨rfl, rfl⟩) | (go_at_call 18; refine (HJ.out _).mono ?_; rintro e w' ⟨rfl, rfl⟩))
                  refine (HV.out _).mono ?_
                  rintro e w9 ⟨rfl, hb9⟩
                  have HA9 := Lib.hid (HA3.out.below (hb9.mono HX3.out.size))
                  have HX9 := Lib.hid (HX3.out.trans (hb9.mono HX3.out.size))
                  clear q2 hb9 HV
                  have q2 := HA9.out.c2
                  go_wp2_with (go_at_call 15; refine (num_same _ _).mono ?_; rintro e w' ⟨rfl, rfl⟩)
                  go_roundw
                  case rel => exact ⟨k + 1, h1, h2, by go_num, HX9.out⟩
                  case measure => simp [RowKit.intOf]; omega
    · go_wp2_with (go_at_call 16; refine (wakes_any _).mono ?_; rintro e w1 ⟨rfl, hb1⟩)
      all_goals (go_ret; exact ⟨rfl, hnx.trans (hb1.mono hnx.size)⟩)
end Go.Proofs.Ytjpngjhfakgefaa
