/- TextChecks: whatever is asked, package text and the document's own answer agree on which bytes may be a text, and on its code points. -/
import Derived.Test.YtpdelhbigmijnaaTextRunes
import Derived.Test.YtpdelhbigmijnaaTextAsks
namespace Go.Proofs.Ytpdelhbigmijnaa
open Go.RowKit Go.Lib Txt

theorem heavy_is (s : ByteArray) (A : Option Addr) (n c : Nat) (x : Int) (w : World) (b : Bool) (h : heavyB s.size n = b) :
    Calls Try.prog 8 #[.agg #[.string s, .slice A n c, .int .i64 x]] w fun e w' => e = .returned (.bool b) ∧ Below w.heap.size w w' := by
  rw [← h]; exact heavy_any s A n c x w
theorem heavy_not {n m : Nat} (h : heavyB n m = false) : n ≤ 3000 ∧ m ≤ 3000 := by
  unfold heavyB at h
  have := of_decide_eq_false h
  omega
theorem RText_same (s : ByteArray) (w : World) :
    Calls Try.prog 9 #[.string s] w fun e w' => e = .returned (.int .i64 (textErr s.data.toList)) ∧ w = w' := (RText_any s w).mono fun _ _ h => ⟨h.1, h.2.symm⟩

set_option maxRecDepth 100000 in
set_option maxHeartbeats 4000000 in
theorem TextChecks_any (A : Option Addr) (n c : Nat) (w : World) (h : Asks w A n) :
    Calls Try.prog 3 #[.slice A n c] w fun e w' => e = .returned (.bool true) ∧ Below w.heap.size w w' := by
  have H := Lib.hid h
  clear h
  go_enter Try.func3, Try.ntmps3
  go_wp2_with fail
  go_loopw [3] (fun i wr => ∃ k : Nat, k ≤ n ∧ k ≤ 15 ∧ i = .int .i64 (k : Int) ∧ Below w.heap.size w wr) (fun i _ => 15 - (RowKit.intOf i).toNat)
  case atStart => exact ⟨0, Nat.zero_le _, by omega, rfl, Below.refl _ _⟩
  case round =>
    obtain ⟨k, hkn, hk15, rfl, hnx⟩ := hrel
    by_cases hgo : k < n ∧ k < 15
    · obtain ⟨h1, h2⟩ := hgo
      rcases H.out with h0 | ⟨b, off, rfl, hall⟩
      · omega
      · obtain ⟨s, P, xs, cc, x, ha⟩ := hall k h1
        have HA := Lib.hid (ha.below hnx)
        have HX := Lib.hid hnx
        clear hall ha hnx H
        have q0 := HA.out.c0
        have q1 := HA.out.c1
        have q2 := HA.out.c2
        have hkn' : (k : Int) < (n : Int) := by omega
        have hk15' : (k : Int) < 15 := by omega
        cases hh : heavyB s.size xs.length with
        | true =>
          have HH := Lib.hid (fun W => heavy_is s P xs.length cc x W true hh)
          clear hh
          go_wp2_with (go_at_call 8; refine (HH.out _).mono ?_; rintro e w1 ⟨rfl, hb1⟩)
          go_ret
          exact ⟨rfl, HX.out.trans (hb1.mono HX.out.size)⟩
        | false =>
          have HH := Lib.hid (fun W => heavy_is s P xs.length cc x W false hh)
          have hsz : s.size ≤ 3000 := (heavy_not hh).1
          clear hh
          go_wp2_with fail
          refine (HH.out _).mono ?_
          rintro e w1 ⟨rfl, hb1⟩
          have HA1 := Lib.hid (HA.out.below (hb1.mono HX.out.size))
          have HX1 := Lib.hid (HX.out.trans (hb1.mono HX.out.size))
          clear q0 q1 q2 hb1 HH HA HX
          have q0 := HA1.out.c0
          have q1 := HA1.out.c1
          have q2 := HA1.out.c2
          have HT := Lib.hid (fun W => RText_same s W)
          have HC := Lib.hid (fun W => Check_any s W (by omega))
          have HR := Lib.hid (fun W => Runes_any s W (by omega))
          have hcs := textErr_cases s.data.toList
          obtain ⟨E, hE⟩ : ∃ E, E = textErr s.data.toList := ⟨_, rfl⟩
          rw [← hE] at HT HC hcs
          have HE := Lib.hid hE
          clear hE
          rcases hcs with ⟨rfl, hc, hl⟩ | ⟨h0, _⟩
          · have HRR := Lib.hid (fun W => RRunes_any s W (by rw [Lib.size_eq]; exact hl) hc)
            have hrl : rlist s.data.toList = runes s.data.toList := by unfold rlist; rw [← HE.out]; rfl
            have hlen := runes_len _ hc
            rw [← Lib.size_eq] at hlen
            obtain ⟨rs, hrs⟩ : ∃ rs, rs = runes s.data.toList := ⟨_, rfl⟩
            rw [← hrs] at HRR hrl hlen
            have HRL := Lib.hid hrl
            clear hrl hrs hc hl
            go_wp2_with fail
            refine (HT.out _).mono ?_
            rintro e w' ⟨rfl, rfl⟩
            go_wp2_with fail
            refine (HRR.out _).mono ?_
            rintro e w2 ⟨A2, c2, rfl, n2, hb2⟩
            have HA2 := Lib.hid (HA1.out.below (hb2.mono HX1.out.size))
            have HX2 := Lib.hid (HX1.out.trans (hb2.mono HX1.out.size))
            have HN2 := Lib.hid n2
            clear q0 q1 q2 hb2 HA1 HX1 n2 HRR
            have q0 := HA2.out.c0
            have q1 := HA2.out.c1
            have q2 := HA2.out.c2
            go_wp2_with fail
            refine (HR.out _).mono ?_
            rintro e w3 ⟨A3, c3, he, n3, hb3⟩
            rw [HRL.out, ← HE.out] at he
            rw [HRL.out] at n3
            subst he
            have HA3 := Lib.hid (HA2.out.below (hb3.mono HX2.out.size))
            have HX3 := Lib.hid (HX2.out.trans (hb3.mono HX2.out.size))
            have HN3 := Lib.hid n3
            have HN2' := Lib.hid (HN2.out.below hb3)
            have hs23 := hb3.size
            clear q0 q1 q2 hb3 HA2 HX2 n3 HN2 HR
            have q0 := HA3.out.c0
            have q1 := HA3.out.c1
            have q2 := HA3.out.c2
            go_wp2_with fail
            refine (HC.out _).mono ?_
            rintro e w4 ⟨rfl, hb4⟩
            have HX4 := Lib.hid (HX3.out.trans (hb4.mono HX3.out.size))
            have HQ := Lib.hid (EqRunes_len rs rs.length A3 A2 c3 c2 _ _ w4 rfl (by omega) (HN3.out.below hb4) (HN2'.out.below (hb4.mono hs23)))
            clear q0 q1 q2 hb4 HA3 HX3 HN3 HN2' HC
            go_wp2_with (first | (go_at_call 12; refine (num_same _ _).mono ?_; rintro e w' ⟨rfl, rfl⟩) | (go_at_call 14; refine HQ.out.mono ?_; rintro e w' ⟨rfl, m, rfl⟩))
            go_roundw
            case rel => exact ⟨k + 1, h1, h2, by go_num, below_drewN HX4.out _⟩
            case measure => simp [RowKit.intOf]; omega
          · have hrl : rlist s.data.toList = [] := by unfold rlist; rw [← HE.out, if_neg h0]
            have HRL := Lib.hid hrl
            have hE0 : (E == 0) = false := by simp; exact h0
            clear hrl h0
            go_wp2_with fail
            refine (HT.out _).mono ?_
            rintro e w' ⟨rfl, rfl⟩
            go_wp2_with fail
            refine (HR.out _).mono ?_
            rintro e w3 ⟨A3, c3, he, n3, hb3⟩
            rw [HRL.out, ← HE.out] at he
            rw [HRL.out] at n3
            subst he
            have HA3 := Lib.hid (HA1.out.below (hb3.mono HX1.out.size))
            have HX3 := Lib.hid (HX1.out.trans (hb3.mono HX1.out.size))
            have HN3 := Lib.hid n3
            clear q0 q1 q2 hb3 HA1 HX1 n3 HR
            have q0 := HA3.out.c0
            have q1 := HA3.out.c1
            have q2 := HA3.out.c2
            go_wp2_with fail
            refine (HC.out _).mono ?_
            rintro e w4 ⟨rfl, hb4⟩
            have HX4 := Lib.hid (HX3.out.trans (hb4.mono HX3.out.size))
            have HQ := Lib.hid (EqRunes_len [] 0 A3 none c3 0 _ _ w4 rfl (by decide) (HN3.out.below hb4) (Nums.none_ (B := 0)))
            clear q0 q1 q2 hb4 HA3 HX3 HN3 HC
            go_wp2_with (first | (go_at_call 12; refine (num_same _ _).mono ?_; rintro e w' ⟨rfl, rfl⟩) | (go_at_call 14; refine HQ.out.mono ?_; rintro e w' ⟨rfl, m, rfl⟩))
            go_roundw
            case rel => exact ⟨k + 1, h1, h2, by go_num, below_drewN HX4.out _⟩
            case measure => simp [RowKit.intOf]; omega
    · go_wp2_with (go_at_call 15; refine (wakes_any _).mono ?_; rintro e w1 ⟨rfl, hb1⟩)
      all_goals (go_ret; exact ⟨rfl, hnx.trans (hb1.mono hnx.size)⟩)
end Go.Proofs.Ytpdelhbigmijnaa
