/- TextCuts: whatever is asked, package text and the document's own answer agree on the longest beginning that has so many bytes, or on the error. -/
import Derived.Test.YtpdelhbigmijnaaTextChecks
import Derived.Test.YtpdelhbigmijnaaTextCut
namespace Go.Proofs.Ytpdelhbigmijnaa
open Go.RowKit Go.Lib Txt

theorem Cut_is (s : ByteArray) (n : Int) (S : ByteArray) (E : Int) (w : World) (hm : s.size ≤ 100000) (h0 : -9223372036854775808 ≤ n) (h1 : n ≤ 9223372036854775807) (hS : cutStr s n = S) (hE : cutErr s.data.toList n = E) :
    Calls Try.prog 20 #[.string s, .int .i64 n] w fun e w' => e = .returned (.tuple #[.string S, .int .i64 E]) ∧ Below w.heap.size w w' := by
  rw [← hS, ← hE]; exact Cut_any s n w hm h0 h1
theorem RText_is (s : ByteArray) (E : Int) (w : World) (h : textErr s.data.toList = E) :
    Calls Try.prog 9 #[.string s] w fun e w' => e = .returned (.int .i64 E) ∧ w = w' := by
  rw [← h]; exact RText_same s w
theorem RCut_is (s : ByteArray) (n : Int) (S : ByteArray) (w : World) (hs : s.size ≤ 1024) (h0 : 0 ≤ n) (hn : n ≤ 9223372036854775807) (hc : chk s.data.toList = true) (hS : cutStr s n = S) (he : cutErr s.data.toList n = 0) :
    Calls Try.prog 19 #[.string s, .int .i64 n] w fun e w' => e = .returned (.string S) ∧ w = w' := by
  obtain ⟨m, rfl⟩ := Int.eq_ofNat_of_zero_le h0
  have : S = s.extract 0 (Txt.cut s.data.toList m) := by rw [← hS]; unfold cutStr; rw [he, if_pos rfl, Int.toNat_natCast]
  rw [this]
  exact RCut_any s m w hs (by omega) hc
/-- What the law comes to for each number: the error of the text, a number below nought, or a beginning. -/
theorem cut_cases (s : ByteArray) (n : Int) : (textErr s.data.toList ≠ 0 ∧ cutErr s.data.toList n = textErr s.data.toList ∧ cutStr s n = ⟨#[]⟩) ∨ (textErr s.data.toList = 0 ∧ n < 0 ∧ cutErr s.data.toList n = 1 ∧ cutStr s n = ⟨#[]⟩) ∨
    (textErr s.data.toList = 0 ∧ 0 ≤ n ∧ cutErr s.data.toList n = 0 ∧ chk s.data.toList = true ∧ s.size ≤ 1024) := by
  rcases textErr_cases s.data.toList with ⟨h0, hc, hl⟩ | ⟨h0, _⟩
  · by_cases hn : n < 0
    · have he : cutErr s.data.toList n = 1 := by unfold cutErr; rw [h0, if_neg (by simp), if_pos hn]
      refine .inr (.inl ⟨h0, hn, he, ?_⟩)
      unfold cutStr; rw [he]; rfl
    · refine .inr (.inr ⟨h0, by omega, ?_, hc, by rw [Lib.size_eq]; exact hl⟩)
      unfold cutErr; rw [h0, if_neg (by simp), if_neg hn]
  · have he : cutErr s.data.toList n = textErr s.data.toList := by unfold cutErr; rw [if_pos h0]
    refine .inl ⟨h0, he, ?_⟩
    unfold cutStr; rw [he, if_neg h0]

set_option maxRecDepth 100000 in
set_option maxHeartbeats 8000000 in
theorem TextCuts_any (A : Option Addr) (n c : Nat) (w : World) (h : Asks w A n) :
    Calls Try.prog 5 #[.slice A n c] w fun e w' => e = .returned (.bool true) ∧ Below w.heap.size w w' := by
  have H := Lib.hid h
  clear h
  go_enter Try.func5, Try.ntmps5
  go_wp2_with fail
  go_loopw [3] (fun i wr => ∃ k : Nat, k ≤ n ∧ k ≤ 15 ∧ i = .int .i64 (k : Int) ∧ Below w.heap.size w wr) (fun i _ => 15 - (RowKit.intOf i).toNat)
  case atStart => exact ⟨0, Nat.zero_le _, by omega, rfl, Below.refl _ _⟩
  case round =>
    obtain ⟨k, hkn, hk15, rfl, hnx⟩ := hrel
    obtain ⟨wo, rfl⟩ : ∃ wo : World, wo = wr := ⟨_, rfl⟩
    by_cases hgo : k < n ∧ k < 15
    · obtain ⟨h1, h2⟩ := hgo
      rcases H.out with h0 | ⟨b, off, rfl, hall⟩
      · omega
      · obtain ⟨s, P, xs, cc, x, ha⟩ := hall k h1
        have HA := Lib.hid (ha.below hnx)
        have HX := Lib.hid hnx
        clear hall ha hnx H
        have q0 := HA.out.c0
        have q1 := HA.out.c1
        have q2 := HA.out.c2
        have hkn' : (k : Int) < (n : Int) := by omega
        have hk15' : (k : Int) < 15 := by omega
        cases hh : heavyB s.size xs.length with
        | true =>
          have HH := Lib.hid (fun W => heavy_is s P xs.length cc x W true hh)
          clear hh
          go_wp2_with (go_at_call 8; refine (HH.out _).mono ?_; rintro e w1 ⟨rfl, hb1⟩)
          go_ret
          exact ⟨rfl, HX.out.trans (hb1.mono HX.out.size)⟩
        | false =>
          have HH := Lib.hid (fun W => heavy_is s P xs.length cc x W false hh)
          have hsz : s.size ≤ 3000 := (heavy_not hh).1
          clear hh
          go_wp2_with fail
          refine (HH.out _).mono ?_
          rintro e w1 ⟨rfl, hb1⟩
          have HA1 := Lib.hid (HA.out.below (hb1.mono HX.out.size))
          have HX1 := Lib.hid (HX.out.trans (hb1.mono HX.out.size))
          clear q0 q1 q2 hb1 HH HA HX
          go_wp2_with fail
          go_loopw [4] (fun i wr => ∃ j : Int, -1 ≤ j ∧ j ≤ 6 ∧ i = .int .i64 j ∧ Below w.heap.size w1 wr) (fun i _ => (6 - RowKit.intOf i).toNat)
          case atStart => exact ⟨-1, by omega, by omega, rfl, Below.refl _ _⟩
          case round =>
            obtain ⟨j, hj0, hj6, rfl, hnx⟩ := hrel
            have HA2 := Lib.hid (HA1.out.below hnx)
            have HX2 := Lib.hid (HX1.out.trans hnx)
            have HX3 := Lib.hid hnx
            have hx0 := HA1.out.r0
            have hx1 := HA1.out.r1
            clear hnx
            have q0 := HA2.out.c0
            have q1 := HA2.out.c1
            have q2 := HA2.out.c2
            by_cases hjl : j < 6
            · by_cases hj5 : j = 5
              · subst hj5
                obtain ⟨y, hy⟩ : ∃ y, y = x := ⟨_, rfl⟩
                rw [← hy] at q2 hx0 hx1
                clear hy
                rcases cut_cases s y with ⟨e0, e1, e2⟩ | ⟨e0, hn0, e1, e2⟩ | ⟨e0, hn0, e1, hc, hl⟩
                · obtain ⟨E, hE⟩ : ∃ E, E = textErr s.data.toList := ⟨_, rfl⟩
                  rw [← hE] at e0 e1
                  have HT := Lib.hid (fun W => RText_is s E W hE.symm)
                  have HC := Lib.hid (fun W => Cut_is s y ⟨#[]⟩ E W (by omega) (by omega) (by omega) e2 e1)
                  have hE0 : (E == 0) = false := by simp; exact e0
                  clear hE e0 e1 e2
                  go_wp2_with (first | (go_at_call 9; refine (HT.out _).mono ?_; rintro e w' ⟨rfl, rfl⟩) | (go_at_call 20; refine (HC.out _).mono ?_; rintro e w2 ⟨rfl, hb2⟩) | (go_at_call 12; refine (num_same _ _).mono ?_; rintro e w' ⟨rfl, rfl⟩))
                  go_roundw
                  case rel => exact ⟨5 + 1, by omega, by omega, by go_num, HX3.out.trans (hb2.mono HX2.out.size)⟩
                  case measure => simp [RowKit.intOf]
                · have HT := Lib.hid (fun W => RText_is s 0 W e0)
                  have HC := Lib.hid (fun W => Cut_is s y ⟨#[]⟩ 1 W (by omega) (by omega) (by omega) e2 e1)
                  clear e0 e1 e2
                  go_wp2_with (first | (go_at_call 9; refine (HT.out _).mono ?_; rintro e w' ⟨rfl, rfl⟩) | (go_at_call 20; refine (HC.out _).mono ?_; rintro e w2 ⟨rfl, hb2⟩) | (go_at_call 12; refine (num_same _ _).mono ?_; rintro e w' ⟨rfl, rfl⟩))
                  go_roundw
                  case rel => exact ⟨5 + 1, by omega, by omega, by go_num, HX3.out.trans (hb2.mono HX2.out.size)⟩
                  case measure => simp [RowKit.intOf]
                · obtain ⟨S, hS⟩ : ∃ S, cutStr s y = S := ⟨_, rfl⟩
                  have HT := Lib.hid (fun W => RText_is s 0 W e0)
                  have HC := Lib.hid (fun W => Cut_is s y S 0 W (by omega) (by omega) (by omega) hS e1)
                  have HR := Lib.hid (fun W => RCut_is s y S W hl hn0 (by omega) hc hS e1)
                  clear e0 e1 hS hc
                  go_wp2_with (first | (go_at_call 9; refine (HT.out _).mono ?_; rintro e w' ⟨rfl, rfl⟩) | (go_at_call 19; refine (HR.out _).mono ?_; rintro e w' ⟨rfl, rfl⟩) | (go_at_call 20; refine (HC.out _).mono ?_; rintro e w2 ⟨rfl, hb2⟩) | (go_at_call 12; refine (num_same _ _).mono ?_; rintro e w' ⟨rfl, rfl⟩))
                  go_roundw
                  case rel => exact ⟨5 + 1, by omega, by omega, by go_num, HX3.out.trans (hb2.mono HX2.out.size)⟩
                  case measure => simp [RowKit.intOf]
              · have hj5' : (j == 5) = false := by simp; exact hj5
                have HJ := Lib.hid hj5
                clear hj5
                rcases cut_cases s j with ⟨e0, e1, e2⟩ | ⟨e0, hn0, e1, e2⟩ | ⟨e0, hn0, e1, hc, hl⟩
                · obtain ⟨E, hE⟩ : ∃ E, E = textErr s.data.toList := ⟨_, rfl⟩
                  rw [← hE] at e0 e1
                  have HT := Lib.hid (fun W => RText_is s E W hE.symm)
                  have HC := Lib.hid (fun W => Cut_is s j ⟨#[]⟩ E W (by omega) (by omega) (by omega) e2 e1)
                  have hE0 : (E == 0) = false := by simp; exact e0
                  clear hE e0 e1 e2
                  go_wp2_with (first | (go_at_call 9; refine (HT.out _).mono ?_; rintro e w' ⟨rfl, rfl⟩) | (go_at_call 20; refine (HC.out _).mono ?_; rintro e w2 ⟨rfl, hb2⟩) | (go_at_call 12; refine (num_same _ _).mono ?_; rintro e w' ⟨rfl, rfl⟩))
                  go_roundw
                  case rel => exact ⟨j + 1, by omega, by omega, by go_num, HX3.out.trans (hb2.mono HX2.out.size)⟩
                  case measure => simp [RowKit.intOf]; omega
                · have HT := Lib.hid (fun W => RText_is s 0 W e0)
                  have HC := Lib.hid (fun W => Cut_is s j ⟨#[]⟩ 1 W (by omega) (by omega) (by omega) e2 e1)
                  clear e0 e1 e2
                  go_wp2_with (first | (go_at_call 9; refine (HT.out _).mono ?_; rintro e w' ⟨rfl, rfl⟩) | (go_at_call 20; refine (HC.out _).mono ?_; rintro e w2 ⟨rfl, hb2⟩) | (go_at_call 12; refine (num_same _ _).mono ?_; rintro e w' ⟨rfl, rfl⟩))
                  go_roundw
                  case rel => exact ⟨j + 1, by omega, by omega, by go_num, HX3.out.trans (hb2.mono HX2.out.size)⟩
                  case measure => simp [RowKit.intOf]; omega
                · obtain ⟨S, hS⟩ : ∃ S, cutStr s j = S := ⟨_, rfl⟩
                  have HT := Lib.hid (fun W => RText_is s 0 W e0)
                  have HC := Lib.hid (fun W => Cut_is s j S 0 W (by omega) (by omega) (by omega) hS e1)
                  have HR := Lib.hid (fun W => RCut_is s j S W hl hn0 (by omega) hc hS e1)
                  clear e0 e1 hS hc
                  go_wp2_with (first | (go_at_call 9; refine (HT.out _).mono ?_; rintro e w' ⟨rfl, rfl⟩) | (go_at_call 19; refine (HR.out _).mono ?_; rintro e w' ⟨rfl, rfl⟩) | (go_at_call 20; refine (HC.out _).mono ?_; rintro e w2 ⟨rfl, hb2⟩) | (go_at_call 12; refine (num_same _ _).mono ?_; rintro e w' ⟨rfl, rfl⟩))
                  go_roundw
                  case rel => exact ⟨j + 1, by omega, by omega, by go_num, HX3.out.trans (hb2.mono HX2.out.size)⟩
                  case measure => simp [RowKit.intOf]; omega
            · obtain rfl : j = 6 := by omega
              clear q0 q1 q2
              go_wp2_with fail
              go_roundw
              case rel => exact ⟨k + 1, h1, h2, by go_num, HX2.out⟩
              case measure => simp [RowKit.intOf]; omega
    · go_wp2_with (go_at_call 15; refine (wakes_any _).mono ?_; rintro e w1 ⟨rfl, hb1⟩)
      all_goals (go_ret; exact ⟨rfl, hnx.trans (hb1.mono hnx.size)⟩)
end Go.Proofs.Ytpdelhbigmijnaa
