/- PropBack: the bytes of properties are taken as them, whatever stands behind; cut off anywhere they are cut off; what is taken is written again as it was. -/
import Derived.Test.YthjlbdplhhgcpaaPropBackLeaf
import Derived.Deep.QuietTactic
import Derived.BigQuiet
import Derived.IntWalk
namespace Go.Proofs.Ythjlbdplhhgcpaa
open Go.RowKit Go.Lib Prp Vbi

set_option maxRecDepth 100000 in
set_option maxHeartbeats 32000000 in
theorem PropBack_any (A : Option Addr) (n c : Nat) (w : World) (h : Asks w A n) :
    Calls Try.prog 6 #[.slice A n c] w fun e w' => e = .returned (.bool true) ∧ Below w.heap.size w w' := by
  have H := Lib.hid h
  clear h
  go_enter Try.func6, Try.ntmps6
  go_wp2_with fail
  go_loopw [3] (fun i wr => ∃ k : Nat, k ≤ n ∧ k ≤ 10 ∧ i = .int .i64 (k : Int) ∧ Below w.heap.size w wr) (fun i _ => 10 - (RowKit.intOf i).toNat)
  case atStart => exact ⟨0, Nat.zero_le _, by omega, rfl, Below.refl _ _⟩
  case round =>
    obtain ⟨k, hkn, hk10, rfl, hnx⟩ := hrel
    obtain ⟨wo, rfl⟩ : ∃ wo : World, wo = wr := ⟨_, rfl⟩
    by_cases hgo : k < n ∧ k < 10
    · obtain ⟨h1, h2⟩ := hgo
      rcases H.out with h0 | ⟨b, off, rfl, hall⟩
      · omega
      · obtain ⟨x, P0, l, cl, s, ha⟩ := hall k h1
        have HA := Lib.hid (ha.below hnx)
        have HX := Lib.hid hnx
        clear hall ha hnx H
        obtain ⟨q0, q1, q2⟩ : _ ∧ _ ∧ _ := ⟨HA.out.c0, HA.out.c1, HA.out.c2⟩
        have hkn' : (k : Int) < (n : Int) := by omega
        have hk10' : (k : Int) < 10 := by omega
        have hll := HA.out.hl
        have hcap := HA.out.cap
        have HFI := Lib.hid HA.out.fit
        have HV := Lib.hid (fun (W : World) (h : PropsAt W W.heap.size P0 l) => heavy_is x l P0 cl s W hll HFI.out h)
        go_wp2_with fail
        have HB0 := Lib.hid ((Below.refl wo.heap.size wo).alloc (Nat.le_refl _) (.cells #[.int .i64 x, .slice P0 l.length cl, .string s] 25))
        have HS0 := Lib.hid (Stand.mk (w := w) (Box.new wo 25 #[.int .i64 x, .slice P0 l.length cl, .string s]) (HA.out.ps.alloc HX.out.size _) (HX.out.trans (HB0.out.mono HX.out.size)))
        obtain ⟨g, hg⟩ : ∃ g, wo.heap.size = g := ⟨_, rfl⟩
        rw [hg] at HS0 ⊢
        clear hg HB0 q0 q1 q2
        generalize wo.alloc (.cells #[.int .i64 x, .slice P0 l.length cl, .string s] 25) = w0 at HS0 ⊢
        refine (HV.out _ HS0.out.props).mono ?_
        rintro e w1 ⟨bh, rfl, hlight, hb1⟩
        have HS1 := Lib.hid (HS0.out.below hb1)
        have HLI := Lib.hid hlight
        clear hb1 hlight HS0 HV HA HX
        cases bh with
        | true =>
          go_wp2_with fail
          go_ret
          exact ⟨rfl, HS1.out.out.2.2⟩
        | false =>
          have hsz : s.size ≤ 281474976710656 := by have := (HLI.out rfl).2.2; omega
          have hs9 : s.size ≤ 9000 := (HLI.out rfl).2.2
          obtain ⟨T, hT⟩ : ∃ T, bytesStr x l = T := ⟨_, rfl⟩
          obtain ⟨E, hE⟩ : ∃ E, bytesErr x l = E := ⟨_, rfl⟩
          obtain ⟨bz, hbz⟩ : ∃ bz, propsB x l = bz := ⟨_, rfl⟩
          have HBy := Lib.hid (fun (W : World) (h : PropsAt W W.heap.size P0 l) => Bytes_is x l P0 cl T E W hll hcap HFI.out h hT hE)
          obtain ⟨L, K, F, hF⟩ : ∃ L K F, takeP x s = (L, K, F) := ⟨_, _, _, rfl⟩
          have hL8 := takeP_len hF
          have HTk := Lib.hid (fun W => Take_is x s L K F W hsz hF)
          have HFF := Lib.hid hF
          have HTT := Lib.hid hT
          have HEE := Lib.hid hE
          have HBZ := Lib.hid hbz
          clear hT hE hbz hF HLI
          obtain ⟨q0, q1, q2⟩ := HS1.out.cells
          -- the second half, from region 18 on
          have tailOK : True := trivial
          go_wp2_with fail
          refine (HBy.out _ HS1.out.props).mono ?_
          rintro e w2 ⟨rfl, hb2⟩
          have HS2 := Lib.hid (HS1.out.below hb2)
          clear hb2 HS1 HBy q0 q1 q2
          obtain ⟨q0, q1, q2⟩ := HS2.out.cells
          cases bz with
          | true =>
            obtain rfl : 0 = E := (bytes_yes HBZ.out).2.symm.trans HEE.out
            have hTp : propStr l = T := (bytes_yes HBZ.out).1.symm.trans HTT.out
            have hT2 := prop_size HBZ.out
            have HTS := Lib.hid (takeP_back s HBZ.out)
            have HCT := Lib.hid (cut_cases HBZ.out)
            have hpl := (props_parts HBZ.out).1
            rw [hTp] at hT2 HTS HCT
            have HTa := Lib.hid (fun W => Take_is x (T ++ s) l (T.size : Int) 0 W (by rw [ByteArray.size_append]; omega) HTS.out)
            have HCu := Lib.hid (fun (a : Nat) (ha : a < T.size) (W : World) => Take_cut x (T.extract 0 a) W (by rw [ByteArray.size_extract]; omega) hpl (HCT.out a ha))
            clear hTp HTS HCT HBZ HTT HEE
            go_wp2_with (go_at_call 13; refine (num_same _ _).mono ?_; rintro e w' ⟨rfl, rfl⟩)
            refine (HTa.out _).mono ?_
            rintro e w3 ⟨A2, c2, rfl, hta⟩
            have HS3 := Lib.hid (HS2.out.below hta.out.2)
            have HA3 := Lib.hid hta
            clear hta HS2 HTa q0 q1 q2
            obtain ⟨q0, q1, q2⟩ := HS3.out.cells
            go_wp2_with (go_at_call 13; refine (num_same _ _).mono ?_; rintro e w' ⟨rfl, rfl⟩)
            refine (EqProps_lies l A2 P0 c2 cl _ hll HA3.out.lies (Lies.mk HS3.out.props)).mono ?_
            rintro e w4 ⟨rfl, hb4⟩
            have HS4 := Lib.hid (HS3.out.below hb4)
            clear hb4 HA3 HS3 q0 q1 q2
            go_wp2_with fail
            go_loopw [10] (fun i wr => ∃ a : Nat, a ≤ 40000 ∧ i = .int .i64 (a : Int) ∧ Stand w g x P0 l cl s wr) (fun i _ => T.size - (RowKit.intOf i).toNat)
            case atStart => exact ⟨0, by omega, rfl, HS4.out⟩
            case round =>
              obtain ⟨a, ha4, rfl, hst⟩ := hrel
              have HT := Lib.hid hst
              clear hst HS4
              obtain ⟨q0, q1, q2⟩ := HT.out.cells
              by_cases haT : a < T.size
              · have haI : (a : Int) < (T.size : Int) := by omega
                have haI2 : (a : Int) ≤ (T.size : Int) := by omega
                have ha0 : (0 : Int) ≤ (a : Int) := by omega
                have HC := Lib.hid (fun W => (HCu.out a haT W).mono fun _ _ h => And.intro h.1 h.2.symm)
                go_wp2_with fail
                go_quiet ((go_at_call 22; exact Calls.quiet_of_same (HC.out _)))
                go_wp2_with (go_at_call 13; refine (num_same _ _).mono ?_; rintro e w' ⟨rfl, rfl⟩)
                go_roundw
                case rel => exact ⟨a + 1 + T.size / 20, by omega, by go_num, HT.out.drewN _⟩
                case measure => simp [RowKit.intOf]; omega
              · have hdT : decide ((a : Int) < (T.size : Int)) = false := by simp; omega
                clear HCu q0 q1 q2
                obtain ⟨q0, q1, q2⟩ := HT.out.cells
                go_wp2_with fail
                refine (HTk.out _).mono ?_
                rintro e w5 ⟨A4, c4, rfl, hta⟩
                have HS5 := Lib.hid (HT.out.below hta.out.2)
                have HA5 := Lib.hid hta
                clear hta HT q0 q1 q2 HTk
                by_cases hF0 : F = 0
                · subst hF0
                  obtain ⟨hpb, hK0, hK1, hw⟩ := takeP_wrote HFF.out
                  obtain ⟨j, rfl⟩ : ∃ j : Nat, K = (j : Int) := ⟨K.toNat, by omega⟩
                  rw [Int.toNat_natCast] at hw
                  have HB2 := Lib.hid (fun (W : World) (h : PropsAt W W.heap.size A4 L) => Bytes_is x L A4 c4 (s.extract 0 j) 0 W (by omega) (own_cap HA5.out.out.1) (fun p hp => fit_good ((props_ok hpb).2 p hp).1 ((props_ok hpb).2 p hp).2) h ((bytes_yes hpb).1.trans hw) (bytes_yes hpb).2)
                  have hdj : decide ((j : Int) < 0) = false := by simp
                  have hds : decide ((s.size : Int) < (j : Int)) = false := by simp; omega
                  have hj0 : (0 : Int) ≤ (j : Int) := by omega
                  clear hpb hw hK0 HFF
                  obtain ⟨q0, q1, q2⟩ := HS5.out.cells
                  go_wp2_with (go_at_call 13; refine (num_same _ _).mono ?_; rintro e w' ⟨rfl, rfl⟩)
                  refine (HB2.out _ HA5.out.at).mono ?_
                  rintro e w6 ⟨rfl, hb6⟩
                  have HS6 := Lib.hid (HS5.out.below hb6)
                  clear hb6 HS5 HA5 HB2 q0 q1 q2
                  obtain ⟨q0, q1, q2⟩ := HS6.out.cells
                  go_wp2_with (go_at_call 13; refine (num_same _ _).mono ?_; rintro e w' ⟨rfl, rfl⟩)
                  go_roundw
                  case rel => exact ⟨k + 1, h1, h2, by go_num, HS6.out.out.2.2⟩
                  case measure => simp [RowKit.intOf]; omega
                · have hFb := ne_false hF0
                  go_wp2_with (go_at_call 13; refine (num_same _ _).mono ?_; rintro e w' ⟨rfl, rfl⟩)
                  go_roundw
                  case rel => exact ⟨k + 1, h1, h2, by go_num, HS5.out.out.2.2⟩
                  case measure => simp [RowKit.intOf]; omega
          | false =>
            obtain rfl : 1 = E := (bytes_no HBZ.out).2.symm.trans HEE.out
            clear HBZ HTT HEE q0 q1 q2
            obtain ⟨q0, q1, q2⟩ := HS2.out.cells
            go_wp2_with (go_at_call 13; refine (num_same _ _).mono ?_; rintro e w' ⟨rfl, rfl⟩)
            refine (HTk.out _).mono ?_
            rintro e w5 ⟨A4, c4, rfl, hta⟩
            have HS5 := Lib.hid (HS2.out.below hta.out.2)
            have HA5 := Lib.hid hta
            clear hta HS2 q0 q1 q2 HTk
            by_cases hF0 : F = 0
            · subst hF0
              obtain ⟨hpb, hK0, hK1, hw⟩ := takeP_wrote HFF.out
              obtain ⟨j, rfl⟩ : ∃ j : Nat, K = (j : Int) := ⟨K.toNat, by omega⟩
              rw [Int.toNat_natCast] at hw
              have HB2 := Lib.hid (fun (W : World) (h : PropsAt W W.heap.size A4 L) => Bytes_is x L A4 c4 (s.extract 0 j) 0 W (by omega) (own_cap HA5.out.out.1) (fun p hp => fit_good ((props_ok hpb).2 p hp).1 ((props_ok hpb).2 p hp).2) h ((bytes_yes hpb).1.trans hw) (bytes_yes hpb).2)
              have hdj : decide ((j : Int) < 0) = false := by simp
              have hds : decide ((s.size : Int) < (j : Int)) = false := by simp; omega
              have hj0 : (0 : Int) ≤ (j : Int) := by omega
              clear hpb hw hK0 HFF
              obtain ⟨q0, q1, q2⟩ := HS5.out.cells
              go_wp2_with (go_at_call 13; refine (num_same _ _).mono ?_; rintro e w' ⟨rfl, rfl⟩)
              refine (HB2.out _ HA5.out.at).mono ?_
              rintro e w6 ⟨rfl, hb6⟩
              have HS6 := Lib.hid (HS5.out.below hb6)
              clear hb6 HS5 HA5 HB2 q0 q1 q2
              obtain ⟨q0, q1, q2⟩ := HS6.out.cells
              go_wp2_with (go_at_call 13; refine (num_same _ _).mono ?_; rintro e w' ⟨rfl, rfl⟩)
              go_roundw
              case rel => exact ⟨k + 1, h1, h2, by go_num, HS6.out.out.2.2⟩
              case measure => simp [RowKit.intOf]; omega
            · have hFb := ne_false hF0
              go_wp2_with (go_at_call 13; refine (num_same _ _).mono ?_; rintro e w' ⟨rfl, rfl⟩)
              go_roundw
              case rel => exact ⟨k + 1, h1, h2, by go_num, HS5.out.out.2.2⟩
              case measure => simp [RowKit.intOf]; omega
    · go_wp2_with (go_at_call 14; refine (wakes_any _).mono ?_; rintro e w1 ⟨rfl, hb1⟩)
      all_goals (go_ret; exact ⟨rfl, hnx.trans (hb1.mono hnx.size)⟩)
end Go.Proofs.Ythjlbdplhhgcpaa
