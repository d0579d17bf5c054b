/- TextOfs: whatever is asked, package text and the document's own answer agree on the bytes of code points, or on the error. -/
import Derived.Test.YtpdelhbigmijnaaTextChecks
import Derived.Test.YtpdelhbigmijnaaTextOf
import Derived.Test.YtpdelhbigmijnaaTextROf
namespace Go.Proofs.Ytpdelhbigmijnaa
open Go.RowKit Go.Lib Txt

theorem CopyRunes_gives (xs : List Int) (A : Option Addr) (c : Nat) (w : World) (hm : xs.length ≤ 3000) (h : Nums w w.heap.size .i32 A xs) :
    Calls Try.prog 17 #[.slice A xs.length c] w (GivesNums .i32 xs w) :=
  (CopyRunes_any xs A c w hm h).mono fun e w' ⟨v, he, ho, hb⟩ => by rw [he]; exact gives_of_own ho hb

set_option maxRecDepth 100000 in
set_option maxHeartbeats 4000000 in
theorem TextOfs_any (A : Option Addr) (n c : Nat) (w : World) (h : Asks w A n) :
    Calls Try.prog 4 #[.slice A n c] w fun e w' => e = .returned (.bool true) ∧ Below w.heap.size w w' := by
  have H := Lib.hid h
  clear h
  go_enter Try.func4, Try.ntmps4
  go_wp2_with fail
  go_loopw [3] (fun i wr => ∃ k : Nat, k ≤ n ∧ k ≤ 15 ∧ i = .int .i64 (k : Int) ∧ Below w.heap.size w wr) (fun i _ => 15 - (RowKit.intOf i).toNat)
  case atStart => exact ⟨0, Nat.zero_le _, by omega, rfl, Below.refl _ _⟩
  case round =>
    obtain ⟨k, hkn, hk15, rfl, hnx⟩ := hrel
    by_cases hgo : k < n ∧ k < 15
    · obtain ⟨h1, h2⟩ := hgo
      rcases H.out with h0 | ⟨b, off, rfl, hall⟩
      · omega
      · obtain ⟨s, P, xs, cc, x, ha⟩ := hall k h1
        have HA := Lib.hid (ha.below hnx)
        have HX := Lib.hid hnx
        clear hall ha hnx H
        have q0 := HA.out.c0
        have q1 := HA.out.c1
        have q2 := HA.out.c2
        have hkn' : (k : Int) < (n : Int) := by omega
        have hk15' : (k : Int) < 15 := by omega
        cases hh : heavyB s.size xs.length with
        | true =>
          have HH := Lib.hid (fun W => heavy_is s P xs.length cc x W true hh)
          clear hh
          go_wp2_with (go_at_call 8; refine (HH.out _).mono ?_; rintro e w1 ⟨rfl, hb1⟩)
          go_ret
          exact ⟨rfl, HX.out.trans (hb1.mono HX.out.size)⟩
        | false =>
          have HH := Lib.hid (fun W => heavy_is s P xs.length cc x W false hh)
          have hsz : xs.length ≤ 3000 := (heavy_not hh).2
          clear hh
          go_wp2_with fail
          refine (HH.out _).mono ?_
          rintro e w1 ⟨rfl, hb1⟩
          have HA1 := Lib.hid (HA.out.below (hb1.mono HX.out.size))
          have HX1 := Lib.hid (HX.out.trans (hb1.mono HX.out.size))
          clear q0 q1 q2 hb1 HH HA HX
          have q0 := HA1.out.c0
          have q1 := HA1.out.c1
          have q2 := HA1.out.c2
          obtain ⟨E, hE⟩ : ∃ E, E = ofErr xs := ⟨_, rfl⟩
          obtain ⟨S, hS⟩ : ∃ S, S = ofStr xs := ⟨_, rfl⟩
          have HO : ∀ (B' c' : Nat) (A' : Option Addr) (W : World), Nums W B' .i32 A' xs → Calls Try.prog 16 #[.slice A' xs.length c'] W fun e w' => e = .returned (.tuple #[.string S, .int .i64 E]) ∧ W = w' := by
            intro B' c' A' W hW
            rw [hE, hS]
            exact Of_any xs A' c' B' W (by omega) hW
          have HR : ∀ (W : World), Nums W W.heap.size .i32 P xs → Calls Try.prog 18 #[.slice P xs.length cc] W fun e w' => e = .returned (.tuple #[.string S, .int .i64 E]) ∧ Below W.heap.size W w' := by
            intro W hW
            rw [hE, hS]
            exact ROf_any xs P cc W hsz HA1.out.wx hW
          have HO' := Lib.hid HO
          have HR' := Lib.hid HR
          clear HO HR hE hS
          have HC := Lib.hid (CopyRunes_gives xs P cc w1 hsz (HA1.out.ns.mono HX1.out.size))
          go_wp2_with fail
          refine HC.out.mono ?_
          rintro e w2 ⟨A2, c2, rfl, n2, hb2⟩
          have HA2 := Lib.hid (HA1.out.below (hb2.mono HX1.out.size))
          have HX2 := Lib.hid (HX1.out.trans (hb2.mono HX1.out.size))
          have HN2 := Lib.hid n2
          clear q0 q1 q2 hb2 HA1 HX1 n2 HC
          have q0 := HA2.out.c0
          have q1 := HA2.out.c1
          have q2 := HA2.out.c2
          go_wp2_with fail
          refine (HO'.out _ _ _ _ HN2.out).mono ?_
          rintro e w' ⟨rfl, rfl⟩
          go_wp2_with fail
          refine (HR'.out _ (HA2.out.ns.mono HX2.out.size)).mono ?_
          rintro e w3 ⟨rfl, hb3⟩
          have HX3 := Lib.hid (HX2.out.trans (hb3.mono HX2.out.size))
          clear q0 q1 q2 hb3 HX2 HN2 HA2 HR' HO'
          go_wp2_with (go_at_call 12; refine (num_same _ _).mono ?_; rintro e w' ⟨rfl, rfl⟩)
          go_roundw
          case rel => exact ⟨k + 1, h1, h2, by go_num, HX3.out⟩
          case measure => simp [RowKit.intOf]; omega
    · go_wp2_with (go_at_call 15; refine (wakes_any _).mono ?_; rintro e w1 ⟨rfl, hb1⟩)
      all_goals (go_ret; exact ⟨rfl, hnx.trans (hb1.mono hnx.size)⟩)
end Go.Proofs.Ytpdelhbigmijnaa
