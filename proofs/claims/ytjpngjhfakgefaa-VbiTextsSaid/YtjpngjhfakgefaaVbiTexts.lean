/- What VbiTexts and VbiBins have in common: texts, or any bytes, with their lengths, as package vbi and as the document's own answer has them. -/
import Derived.Test.YtjpngjhfakgefaaVbiLeaf
import Derived.Test.YtjpngjhfakgefaaVbiAsks
import Derived.Test.YtjpngjhfakgefaaVbiLong
namespace Go.Proofs.Ytjpngjhfakgefaa
open Go.RowKit Go.Lib Vbi

theorem Bin_lo (s S : ByteArray) (E : Int) (w : World) (hS : loStr false s = S) (hE : loErr false s = E) :
    Calls Try.prog 25 #[.string s] w fun e w' => e = .returned (.tuple #[.string S, .int .i64 E]) ∧ Below w.heap.size w w' :=
  Bin_is s S E w ((bin_lo s).2.trans hS) ((bin_lo s).1.trans hE)

set_option maxRecDepth 100000 in
set_option maxHeartbeats 8000000 in
theorem long_any (t : Bool) (A : Option Addr) (n c : Nat) (w : World) (h : Asks w A n) :
    Calls Try.prog 23 #[.slice A n c, .bool t] w fun e w' => e = .returned (.bool true) ∧ Below w.heap.size w w' := by
  have H := Lib.hid h
  clear h
  go_enter Try.func23, Try.ntmps23
  go_wp2_with fail
  go_loopw [5] (fun i wr => ∃ k : Nat, k ≤ n ∧ k ≤ 15 ∧ i = .int .i64 (k : Int) ∧ Below w.heap.size w wr) (fun i _ => 15 - (RowKit.intOf i).toNat)
  case atStart => exact ⟨0, Nat.zero_le _, by omega, rfl, Below.refl _ _⟩
  case round =>
    obtain ⟨k, hkn, hk15, rfl, hnx⟩ := hrel
    by_cases hgo : k < n ∧ k < 15
    · obtain ⟨h1, h2⟩ := hgo
      rcases H.out with h0 | ⟨b, off, rfl, hall⟩
      · omega
      · obtain ⟨x, s, y, ha⟩ := hall k h1
        have HA := Lib.hid (ha.below hnx)
        have HX := Lib.hid hnx
        clear hall ha hnx H
        have q0 := HA.out.c0
        have q1 := HA.out.c1
        have q2 := HA.out.c2
        have hkn' : (k : Int) < (n : Int) := by omega
        have hk15' : (k : Int) < 15 := by omega
        cases hh : heavyB s.size y.size with
        | true =>
          have HH := Lib.hid (fun W => heavy_is x s y W true hh)
          clear hh
          go_wp2_with (go_at_call 17; refine (HH.out _).mono ?_; rintro e w1 ⟨rfl, hb1⟩)
          go_ret
          exact ⟨rfl, HX.out.trans (hb1.mono HX.out.size)⟩
        | false =>
          have HH := Lib.hid (fun W => heavy_is x s y W false hh)
          have hsz := heavy_not hh
          obtain ⟨hsz, hyz⟩ := hsz
          clear hh
          go_wp2_with fail
          refine (HH.out _).mono ?_
          rintro e w1 ⟨rfl, hb1⟩
          have HA1 := Lib.hid (HA.out.below (hb1.mono HX.out.size))
          have HX1 := Lib.hid (HX.out.trans (hb1.mono HX.out.size))
          clear q0 q1 q2 hb1 HH HA HX
          have q1 := HA1.out.c1
          obtain ⟨S, hS⟩ : ∃ S, loStr t s = S := ⟨_, rfl⟩
          obtain ⟨E, hE⟩ : ∃ E, loErr t s = E := ⟨_, rfl⟩
          obtain ⟨T, K, F, hT⟩ : ∃ T K F, tl t y = (T, K, F) := ⟨_, _, _, rfl⟩
          have HL := Lib.hid (fun W => RLong_is t s S E W (by omega) hS hE)
          have HTL := Lib.hid (fun W => RTakeLong_is t y T K F W (by omega) hT)
          go_wp2_with fail
          refine (HL.out _).mono ?_
          rintro e w2 ⟨rfl, hb2⟩
          have HA2 := Lib.hid (HA1.out.below (hb2.mono HX1.out.size))
          have HX2 := Lib.hid (HX1.out.trans (hb2.mono HX1.out.size))
          clear q1 hb2 HL HA1 HX1
          have q2 := HA2.out.c2
          go_wp2_with fail
          refine (HTL.out _).mono ?_
          rintro e w3 ⟨rfl, hb3⟩
          have HA3 := Lib.hid (HA2.out.below (hb3.mono HX2.out.size))
          have HX3 := Lib.hid (HX2.out.trans (hb3.mono HX2.out.size))
          clear q2 hb3 HTL HA2 HX2
          cases t with
          | true =>
            have HB := Lib.hid (fun W => Text_is s S E W (by omega) hS hE)
            have HTB := Lib.hid (fun W => TakeText_is y T K F W (by omega) hT)
            clear hS hE hT
            have q1 := HA3.out.c1
            go_wp2_with fail
            refine (HB.out _).mono ?_
            rintro e w4 ⟨rfl, hb4⟩
            have HA4 := Lib.hid (HA3.out.below (hb4.mono HX3.out.size))
            have HX4 := Lib.hid (HX3.out.trans (hb4.mono HX3.out.size))
            clear q1 hb4 HB HA3 HX3
            have q2 := HA4.out.c2
            go_wp2_with fail
            refine (HTB.out _).mono ?_
            rintro e w5 ⟨rfl, hb5⟩
            have HX5 := Lib.hid (HX4.out.trans (hb5.mono HX4.out.size))
            clear q2 hb5 HTB HA4 HX4
            go_wp2_with (go_at_call 15; refine (num_same _ _).mono ?_; rintro e w' ⟨rfl, rfl⟩)
            go_roundw
            case rel => exact ⟨k + 1, h1, h2, by go_num, HX5.out⟩
            case measure => simp [RowKit.intOf]; omega
          | false =>
            obtain ⟨S', hS'⟩ : ∃ S, loStr true s = S := ⟨_, rfl⟩
            obtain ⟨E', hE'⟩ : ∃ E, loErr true s = E := ⟨_, rfl⟩
            obtain ⟨T', K', F', hT'⟩ : ∃ T K F, tl true y = (T, K, F) := ⟨_, _, _, rfl⟩
            have HB := Lib.hid (fun W => Text_is s S' E' W (by omega) hS' hE')
            have HTB := Lib.hid (fun W => TakeText_is y T' K' F' W (by omega) hT')
            have HC := Lib.hid (fun W => Bin_lo s S E W hS hE)
            have HTC := Lib.hid (fun W => TakeBin_is y T K F W (by omega) ((tl_false y).symm.trans hT))
            clear hS hE hT hS' hE' hT'
            have q1 := HA3.out.c1
            go_wp2_with fail
            refine (HB.out _).mono ?_
            rintro e w4 ⟨rfl, hb4⟩
            have HA4 := Lib.hid (HA3.out.below (hb4.mono HX3.out.size))
            have HX4 := Lib.hid (HX3.out.trans (hb4.mono HX3.out.size))
            clear q1 hb4 HB HA3 HX3
            have q2 := HA4.out.c2
            go_wp2_with fail
            refine (HTB.out _).mono ?_
            rintro e w5 ⟨rfl, hb5⟩
            have HA5 := Lib.hid (HA4.out.below (hb5.mono HX4.out.size))
            have HX5 := Lib.hid (HX4.out.trans (hb5.mono HX4.out.size))
            clear q2 hb5 HTB HA4 HX4
            have q1 := HA5.out.c1
            go_wp2_with fail
            refine (HC.out _).mono ?_
            rintro e w6 ⟨rfl, hb6⟩
            have HA6 := Lib.hid (HA5.out.below (hb6.mono HX5.out.size))
            have HX6 := Lib.hid (HX5.out.trans (hb6.mono HX5.out.size))
            clear q1 hb6 HC HA5 HX5
            have q2 := HA6.out.c2
            go_wp2_with fail
            refine (HTC.out _).mono ?_
            rintro e w7 ⟨rfl, hb7⟩
            have HX7 := Lib.hid (HX6.out.trans (hb7.mono HX6.out.size))
            clear q2 hb7 HTC HA6 HX6
            go_wp2_with (go_at_call 15; refine (num_same _ _).mono ?_; rintro e w' ⟨rfl, rfl⟩)
            go_roundw
            case rel => exact ⟨k + 1, h1, h2, by go_num, HX7.out⟩
            case measure => simp [RowKit.intOf]; omega
    · go_wp2_with (go_at_call 16; refine (wakes_any _).mono ?_; rintro e w1 ⟨rfl, hb1⟩)
      all_goals (go_ret; exact ⟨rfl, hnx.trans (hb1.mono hnx.size)⟩)

set_option maxHeartbeats 1000000 in
theorem VbiTexts_any (A : Option Addr) (n c : Nat) (w : World) (h : Asks w A n) :
    Calls Try.prog 5 #[.slice A n c] w fun e w' => e = .returned (.bool true) ∧ Below w.heap.size w w' := by
  have H := Lib.hid (long_any true A n c w h)
  clear h
  go_enter Try.func5, Try.ntmps5
  go_wp2_with fail
  refine H.out.mono ?_
  rintro e w1 ⟨rfl, hb⟩
  go_wp2_with fail
  go_ret
  exact ⟨rfl, hb⟩
end Go.Proofs.Ytjpngjhfakgefaa
