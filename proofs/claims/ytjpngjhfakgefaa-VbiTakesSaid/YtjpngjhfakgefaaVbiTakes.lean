/- VbiTakes: whatever is asked, package vbi and the document's own answer agree on which number bytes begin with, in each of the three ways, or on the error. -/
import Derived.Test.YtjpngjhfakgefaaVbiLeaf
import Derived.Test.YtjpngjhfakgefaaVbiAsks
import Derived.Test.YtjpngjhfakgefaaVbiFix
namespace Go.Proofs.Ytjpngjhfakgefaa
open Go.RowKit Go.Lib Vbi

theorem TakeNum_is (s : ByteArray) (a b c : Int) (w : World) (hs : s.size ≤ 9223372036854775807) (h : tn s.data.toList = (a, b, c)) :
    Calls Try.prog 18 #[.string s] w fun e w' => e = .returned (.tuple #[.int .i64 a, .int .i64 b, .int .i64 c]) ∧ w = w' :=
  (TakeNum_ok s w hs).mono fun e w' h2 => by
    unfold TnOk at h2
    rw [h] at h2
    exact ⟨h2.1, h2.2.symm⟩
theorem RTakeNum_is (s : ByteArray) (a b c : Int) (w : World) (hs : s.size ≤ 9223372036854775807) (h : tn s.data.toList = (a, b, c)) :
    Calls Try.prog 19 #[.string s] w fun e w' => e = .returned (.tuple #[.int .i64 a, .int .i64 b, .int .i64 c]) ∧ w = w' :=
  (RTakeNum_ok s w hs).mono fun e w' h2 => by
    unfold TnOk at h2
    rw [h] at h2
    exact ⟨h2.1, h2.2.symm⟩
theorem tf_two (wd : Nat) (l : List UInt8) : ∃ v e, tfVal wd l = v ∧ tfErr wd l = e ∧ (e = 0 ∨ e = 7) := by
  by_cases h : l.length < wd
  · exact ⟨0, 7, (tf_cut h).1, (tf_cut h).2, .inr rfl⟩
  · exact ⟨_, 0, rfl, (tf_good (by omega)).2, .inl rfl⟩
theorem RTakeFixed_is (s : ByteArray) (wd : Nat) (n v e : Int) (b : Bool) (w : World) (hs : s.size ≤ 9223372036854775807) (hw : wd ≤ 4) (hn : (wd : Int) = n) (h1 : tfVal wd s.data.toList = v) (h2 : tfErr wd s.data.toList = e) (hb : decide (e = 0) = b) :
    Calls Try.prog 21 #[.string s, .int .i64 n] w fun e w' => e = .returned (.tuple #[.int .i64 v, .bool b]) ∧ w = w' := by
  subst hn
  exact (RTakeFixed_ok s wd w hs hw).mono fun e w' h => by
    unfold RTfOk at h
    rw [h1, h2, hb] at h
    exact ⟨h.1, h.2.symm⟩
theorem TakeTwo_is (s : ByteArray) (v e : Int) (w : World) (hs : s.size ≤ 9223372036854775807) (h1 : tfVal 2 s.data.toList = v) (h2 : tfErr 2 s.data.toList = e) :
    Calls Try.prog 20 #[.string s] w fun e' w' => e' = .returned (.tuple #[.int .i64 v, .int .i64 e]) ∧ w = w' :=
  (TakeTwo_ok s w hs).mono fun e w' h => by
    unfold TfOk at h
    rw [h1, h2] at h
    exact ⟨h.1, h.2.symm⟩
theorem TakeFour_is (s : ByteArray) (v e : Int) (w : World) (hs : s.size ≤ 9223372036854775807) (h1 : tfVal 4 s.data.toList = v) (h2 : tfErr 4 s.data.toList = e) :
    Calls Try.prog 22 #[.string s] w fun e' w' => e' = .returned (.tuple #[.int .i64 v, .int .i64 e]) ∧ w = w' :=
  (TakeFour_ok s w hs).mono fun e w' h => by
    unfold TfOk at h
    rw [h1, h2] at h
    exact ⟨h.1, h.2.symm⟩

set_option maxRecDepth 100000 in
set_option maxHeartbeats 8000000 in
theorem VbiTakes_any (A : Option Addr) (n c : Nat) (w : World) (h : Asks w A n) :
    Calls Try.prog 4 #[.slice A n c] w fun e w' => e = .returned (.bool true) ∧ Below w.heap.size w w' := by
  have H := Lib.hid h
  clear h
  go_enter Try.func4, Try.ntmps4
  go_wp2_with fail
  go_loopw [3] (fun i wr => ∃ k : Nat, k ≤ n ∧ k ≤ 15 ∧ i = .int .i64 (k : Int) ∧ Below w.heap.size w wr) (fun i _ => 15 - (RowKit.intOf i).toNat)
  case atStart => exact ⟨0, Nat.zero_le _, by omega, rfl, Below.refl _ _⟩
  case round =>
    obtain ⟨k, hkn, hk15, rfl, hnx⟩ := hrel
    by_cases hgo : k < n ∧ k < 15
    · obtain ⟨h1, h2⟩ := hgo
      rcases H.out with h0 | ⟨b, off, rfl, hall⟩
      · omega
      · obtain ⟨x, s, y, ha⟩ := hall k h1
        have HA := Lib.hid (ha.below hnx)
        have HX := Lib.hid hnx
        clear hall ha hnx H
        have q0 := HA.out.c0
        have q1 := HA.out.c1
        have q2 := HA.out.c2
        have hkn' : (k : Int) < (n : Int) := by omega
        have hk15' : (k : Int) < 15 := by omega
        cases hh : heavyB s.size y.size with
        | true =>
          have HH := Lib.hid (fun W => heavy_is x s y W true hh)
          clear hh
          go_wp2_with (go_at_call 17; refine (HH.out _).mono ?_; rintro e w1 ⟨rfl, hb1⟩)
          go_ret
          exact ⟨rfl, HX.out.trans (hb1.mono HX.out.size)⟩
        | false =>
          have HH := Lib.hid (fun W => heavy_is x s y W false hh)
          have hsz : y.size ≤ 3000 := (heavy_not hh).2
          clear hh
          go_wp2_with fail
          refine (HH.out _).mono ?_
          rintro e w1 ⟨rfl, hb1⟩
          have HA1 := Lib.hid (HA.out.below (hb1.mono HX.out.size))
          have HX1 := Lib.hid (HX.out.trans (hb1.mono HX.out.size))
          clear q0 q1 q2 hb1 HH HA HX
          have q2 := HA1.out.c2
          obtain ⟨ta, tb, tc, ht⟩ : ∃ a b c, tn y.data.toList = (a, b, c) := ⟨_, _, _, rfl⟩
          obtain ⟨v2, e2, hv2, he2, h02⟩ := tf_two 2 y.data.toList
          obtain ⟨v4, e4, hv4, he4, h04⟩ := tf_two 4 y.data.toList
          have HT := Lib.hid (fun W => TakeNum_is y ta tb tc W (by omega) ht)
          have HR := Lib.hid (fun W => RTakeNum_is y ta tb tc W (by omega) ht)
          have H2 := Lib.hid (fun W => TakeTwo_is y v2 e2 W (by omega) hv2 he2)
          have H4 := Lib.hid (fun W => TakeFour_is y v4 e4 W (by omega) hv4 he4)
          have HR2 := Lib.hid (fun W => RTakeFixed_is y 2 2 v2 e2 _ W (by omega) (by omega) rfl hv2 he2 rfl)
          have HR4 := Lib.hid (fun W => RTakeFixed_is y 4 4 v4 e4 _ W (by omega) (by omega) rfl hv4 he4 rfl)
          clear ht hv2 he2 hv4 he4
          rcases h02 with rfl | rfl
          all_goals
            rcases h04 with rfl | rfl
            all_goals
              go_wp2_with (first | (go_at_call 15; refine (num_same _ _).mono ?_; rintro e w' ⟨rfl, rfl⟩) | (go_at_call 18; refine (HT.out _).mono ?_; rintro e w' ⟨rfl, rfl⟩) | (go_at_call 19; refine (HR.out _).mono ?_; rintro e w' ⟨rfl, rfl⟩) | (go_at_call 20; refine (H2.out _).mono ?_; rintro e w' ⟨rfl, rfl⟩) | (go_at_call 22; refine (H4.out _).mono ?_; rintro e w' ⟨rfl, rfl⟩) | (go_at_call 21; (with_reducible refine (HR2.out _).mono ?_); rintro e w' ⟨rfl, rfl⟩) | (go_at_call 21; (with_reducible refine (HR4.out _).mono ?_); rintro e w' ⟨rfl, rfl⟩))
              go_roundw
              case rel => exact ⟨k + 1, h1, h2, by go_num, HX1.out⟩
              case measure => simp [RowKit.intOf]; omega
    · go_wp2_with (go_at_call 16; refine (wakes_any _).mono ?_; rintro e w1 ⟨rfl, hb1⟩)
      all_goals (go_ret; exact ⟨rfl, hnx.trans (hb1.mono hnx.size)⟩)
end Go.Proofs.Ytjpngjhfakgefaa
