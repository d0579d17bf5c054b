/- RecTakes: whatever is asked, package rec and the document's own answer agree on the record that any bytes begin with, and on those that stand behind each other there. -/
import Derived.Test.YtimoncjdfmfojaaDoorRcWakes
import Derived.Test.YtimoncjdfmfojaaDoorRcRSummed
namespace Go.Proofs.YtimoncjdfmfojaaDoor
open Go.RowKit Go.Lib Vbi Rcd Crc

theorem scan_le : ∀ (n : Nat) (l : List UInt8), l.length ≤ n → (scan l).1.length ≤ l.length := by
  intro n
  induction n with
  | zero =>
    intro l h
    obtain rfl : l = [] := List.eq_nil_of_length_eq_zero (by omega)
    exact Nat.zero_le _
  | succ n ih =>
    intro l h
    by_cases h0 : l.length = 0
    · obtain rfl : l = [] := List.eq_nil_of_length_eq_zero h0
      exact Nat.zero_le _
    · by_cases he : (takeR l).2.2 = 0
      · obtain ⟨r, k, E, hT⟩ : ∃ r k E, takeR l = (r, k, E) := ⟨_, _, _, rfl⟩
        have hz := take_size he
        rw [hT] at he hz
        simp only at he hz
        subst he
        rw [scan_next hT rfl]
        have := ih (l.drop k) (by rw [List.length_drop]; omega)
        rw [List.length_drop] at this
        show (scan (l.drop k)).1.length + 1 ≤ _
        omega
      · rw [scan_stop (by omega) he]; exact Nat.zero_le _

set_option maxRecDepth 100000 in
set_option maxHeartbeats 16000000 in
theorem RecTakes_any (A : Option Addr) (n c : Nat) (w : World) (h : Asks w A n) (ht : Tab w) :
    Calls Tryd.prog 4 #[.slice A n c] w fun e w' => e = .returned (.bool true) ∧ Below w.heap.size w w' := by
  have H := Lib.hid h
  have T := Lib.hid ht
  clear h ht
  go_enter Tryd.func4, Tryd.ntmps4
  go_wp2_with fail
  go_loopw [3] (fun i wr => ∃ k : Nat, k ≤ n ∧ k ≤ 10 ∧ i = .int .i64 (k : Int) ∧ Below w.heap.size w wr) (fun i _ => 10 - (RowKit.intOf i).toNat)
  case atStart => exact ⟨0, Nat.zero_le _, by omega, rfl, Below.refl _ _⟩
  case round =>
    obtain ⟨k, hkn, hk10, rfl, hnx⟩ := hrel
    by_cases hgo : k < n ∧ k < 10
    · obtain ⟨h1, h2⟩ := hgo
      rcases H.out with h0 | ⟨b, off, rfl, hall⟩
      · omega
      · obtain ⟨P, l, c2, s, ha⟩ := hall k h1
        have HA := Lib.hid ha
        have ha1 := ha.below hnx
        have q0 := ha1.c0
        have q1 := ha1.c1
        have HX := Lib.hid hnx
        have hl := ha.hl
        have HV := Lib.hid (fun W (hb : Below w.heap.size w W) => heavy_is P l c2 s W hl ((ha.rs.below hb).mono hb.size))
        clear hall ha ha1 hnx H
        have hkn' : (k : Int) < (n : Int) := by omega
        have hk10' : (k : Int) < 10 := by omega
        go_wp2_with fail
        refine (HV.out _ HX.out).mono ?_
        rintro e w1 ⟨hv, rfl, hvs, hb1⟩
        have HX1 := Lib.hid (HX.out.trans (hb1.mono HX.out.size))
        clear hb1 HX HV q0 q1
        cases hv with
        | true =>
          go_wp2_with fail
          go_ret
          exact ⟨rfl, HX1.out⟩
        | false =>
          have hs8 := hvs rfl
          clear hvs
          obtain ⟨Y, hY8, hY⟩ := Summed_is s (by omega)
          have HY := Lib.hid hY
          clear hY
          go_wp2_with fail
          go_loopw [4] (fun i wr => ∃ j : Nat, j ≤ 2 ∧ i = .int .i64 (j : Int) ∧ Below w.heap.size w wr) (fun i _ => 2 - (RowKit.intOf i).toNat)
          case atStart => exact ⟨0, by omega, rfl, HX1.out⟩
          case round =>
            obtain ⟨j, hj2, rfl, hnx⟩ := hrel
            have HX := Lib.hid hnx
            have q1 := (HA.out.below hnx).c1
            clear HX1 hnx
            by_cases hj : j < 2
            · rcases (by omega : j = 0 ∨ j = 1) with rfl | rfl
              · go_upto_region 12 with fail
                clear q1 HY HA
                obtain ⟨R, N, E, hTk⟩ : ∃ R N E, takeR s.data.toList = (R, N, E) := ⟨_, _, _, rfl⟩
                obtain ⟨L, at_, all, hSc⟩ : ∃ L a b, scan s.data.toList = (L, a, b) := ⟨_, _, _, rfl⟩
                have hLl : L.length ≤ 8000 := by
                  have := scan_le _ s.data.toList (Nat.le_refl _)
                  rw [hSc, size_list] at this
                  dsimp only at this
                  omega
                have HT1 := Lib.hid (fun W (hb : Below w.heap.size w W) => Take_is s R N E W (by omega) (T.out.below hb) hTk)
                have HT2 := Lib.hid (fun W => RTake_is s R N E W (by omega) hTk)
                have HS1 := Lib.hid (fun W (hb : Below w.heap.size w W) => Scan_is s L at_ all W (by omega) (T.out.below hb) hSc)
                have HS2 := Lib.hid (fun W => RScan_is s L at_ all W (by omega) hSc)
                unfold ragg at HT1 HT2
                obtain ⟨o, t, key, bod, q, g⟩ := R
                dsimp only at HT1 HT2
                generalize str key = ks at HT1 HT2
                generalize str bod = bs at HT1 HT2
                have hne := neq_rec o t ks bs q g
                unfold rarr at HT1 HT2 hne
                have hnE : ((E : Int) != E) = false := by simp
                have hnN : ((N : Int) != (N : Int)) = false := by simp
                clear hTk hSc
                go_wp2_with fail
                refine (HT1.out _ HX.out).mono ?_
                rintro e w2 ⟨rfl, hb2⟩
                have HX2 := Lib.hid (HX.out.trans (hb2.mono HX.out.size))
                clear hb2 HT1 HX
                obtain ⟨g6, W4, hg6, hW4, hbn, hbx, _⟩ := box_new HX2.out #[.int .i64 o, .int .i64 t, .string ks, .string bs, .int .i64 q, .bool g]
                have HBN := Lib.hid hbn
                have R6 := Lib.hid hbx
                unfold zcells at hW4
                have HW4 := Lib.hid hW4
                clear hbn hbx hW4 HX2
                go_upto_region 13 with (rw [HW4.out]; refine wpList_store_whole rfl 28 (.tmp 6) (.tmp 49) rfl g6 _ rfl rfl zcells HBN.out info_rec rfl (by simp [Value.oneCell']) ?_; simp only [Act.put])
                clear HW4 HBN hg6
                generalize World.setRow _ _ _ = w5 at R6 ⊢
                go_wp2_with fail
                refine (HT2.out _).mono ?_
                rintro e w6 ⟨rfl, hb6⟩
                have R7 := Lib.hid (R6.out.below hb6)
                clear hb6 HT2 R6
                obtain ⟨g9, W4, hg9, hW4, hbn, hbx, hbf⟩ := box_new R7.out.out.2 #[.int .i64 o, .int .i64 t, .string ks, .string bs, .int .i64 q, .bool g]
                have HBN := Lib.hid hbn
                have R9 := Lib.hid hbx
                have R8 := Lib.hid (R7.out.below hbf)
                unfold zcells at hW4
                have HW4 := Lib.hid hW4
                clear hbn hbx hbf hW4 R7
                go_upto_region 14 with (rw [HW4.out]; refine wpList_store_whole rfl 28 (.tmp 9) (.tmp 55) rfl g9 _ rfl rfl zcells HBN.out info_rec rfl (by simp [Value.oneCell']) ?_; simp only [Act.put])
                clear HW4 HBN hg9
                generalize World.setRow _ _ _ = w7 at R8 R9 ⊢
                have hld6 := R8.out.load rfl
                have hld9 := R9.out.load rfl
                go_wp2_with (first | (refine wpList_load_any (by rfl) 28 (.tmp 6) rfl g6 0 rfl _ hld6 ?_; simp only [Act.put]) | (refine wpList_load_any (by rfl) 28 (.tmp 9) rfl g9 0 rfl _ hld9 ?_; simp only [Act.put]) | (go_at_call 12; refine (num_is _ _).mono ?_; rintro e w' ⟨rfl, rfl⟩))
                refine (HS1.out _ R9.out.out.2).mono ?_
                rintro e w8 ⟨A1, c1, rfl, ho1, hb8⟩
                have HX8 := Lib.hid (R9.out.out.2.trans (hb8.mono R9.out.out.2.size))
                have HO1 := Lib.hid ho1
                have hB8 : w7.heap.size ≤ w8.heap.size := hb8.size
                clear ho1 hb8 hld6 hld9 HS1 R8 hne
                go_wp2_with fail
                refine (HS2.out _).mono ?_
                rintro e w9 ⟨A2, c2', rfl, ho2, hb9⟩
                have HX9 := Lib.hid (HX8.out.trans (hb9.mono HX8.out.size))
                have HO3 := Lib.hid (own_below HO1.out hb9)
                have HO2 := Lib.hid ho2
                have hB9 : w8.heap.size ≤ w9.heap.size := hb9.size
                clear ho2 hb9 HS2 HO1 HX8
                have HEQ := Lib.hid (EqRecs_same L A1 A2 c1 c2' _ _ w9 (by omega) (RecsAt.of_own HO3.out) (RecsAt.of_own HO2.out))
                go_wp2_with fail
                refine HEQ.out.mono ?_
                rintro e wa ⟨rfl, hba⟩
                have HXa := Lib.hid (HX9.out.trans (hba.mono HX9.out.size))
                have HOa := Lib.hid (own_below HO3.out hba)
                have hBa : w9.heap.size ≤ wa.heap.size := hba.size
                have hw7 := R9.out.out.2.size
                clear hba HO3 HO2 HX9 HEQ R9
                have hna : ((at_ : Int) != (at_ : Int)) = false := by simp
                have hnl : (all != all) = false := by simp
                have HSP := Lib.hid (Spoil_is w7.heap.size L.length c1 A1 (flat L) wa (by omega) (by omega) HOa.out)
                go_wp2_with fail
                refine HSP.out.mono ?_
                rintro e wb ⟨⟨v, rfl⟩, hbb⟩
                have HXb := Lib.hid (HXa.out.trans (hbb.mono hw7))
                clear hbb HSP HOa HXa
                go_wp2_with fail
                go_roundw
                case rel => exact ⟨1, by omega, by go_num, HXb.out⟩
                case measure => simp [RowKit.intOf]
              · go_upto_region 11 with fail
                clear q1 HA
                go_wp2_with fail
                refine (HY.out _).mono ?_
                rintro e w1' ⟨rfl, hb1⟩
                have HX1 := Lib.hid (HX.out.trans (hb1.mono HX.out.size))
                clear hb1 HX HY
                go_upto_region 12 with fail
                obtain ⟨R, N, E, hTk⟩ : ∃ R N E, takeR Y.data.toList = (R, N, E) := ⟨_, _, _, rfl⟩
                obtain ⟨L, at_, all, hSc⟩ : ∃ L a b, scan Y.data.toList = (L, a, b) := ⟨_, _, _, rfl⟩
                have hLl : L.length ≤ 8000 := by
                  have := scan_le _ Y.data.toList (Nat.le_refl _)
                  rw [hSc, size_list] at this
                  dsimp only at this
                  omega
                have HT1 := Lib.hid (fun W (hb : Below w.heap.size w W) => Take_is Y R N E W (by omega) (T.out.below hb) hTk)
                have HT2 := Lib.hid (fun W => RTake_is Y R N E W (by omega) hTk)
                have HS1 := Lib.hid (fun W (hb : Below w.heap.size w W) => Scan_is Y L at_ all W (by omega) (T.out.below hb) hSc)
                have HS2 := Lib.hid (fun W => RScan_is Y L at_ all W (by omega) hSc)
                unfold ragg at HT1 HT2
                obtain ⟨o, t, key, bod, q, g⟩ := R
                dsimp only at HT1 HT2
                generalize str key = ks at HT1 HT2
                generalize str bod = bs at HT1 HT2
                have hne := neq_rec o t ks bs q g
                unfold rarr at HT1 HT2 hne
                have hnE : ((E : Int) != E) = false := by simp
                have hnN : ((N : Int) != (N : Int)) = false := by simp
                clear hTk hSc
                go_wp2_with fail
                refine (HT1.out _ HX1.out).mono ?_
                rintro e w2 ⟨rfl, hb2⟩
                have HX2 := Lib.hid (HX1.out.trans (hb2.mono HX1.out.size))
                clear hb2 HT1 HX1
                obtain ⟨g6, W4, hg6, hW4, hbn, hbx, _⟩ := box_new HX2.out #[.int .i64 o, .int .i64 t, .string ks, .string bs, .int .i64 q, .bool g]
                have HBN := Lib.hid hbn
                have R6 := Lib.hid hbx
                unfold zcells at hW4
                have HW4 := Lib.hid hW4
                clear hbn hbx hW4 HX2
                go_upto_region 13 with (rw [HW4.out]; refine wpList_store_whole rfl 28 (.tmp 6) (.tmp 49) rfl g6 _ rfl rfl zcells HBN.out info_rec rfl (by simp [Value.oneCell']) ?_; simp only [Act.put])
                clear HW4 HBN hg6
                generalize World.setRow _ _ _ = w5 at R6 ⊢
                go_wp2_with fail
                refine (HT2.out _).mono ?_
                rintro e w6 ⟨rfl, hb6⟩
                have R7 := Lib.hid (R6.out.below hb6)
                clear hb6 HT2 R6
                obtain ⟨g9, W4, hg9, hW4, hbn, hbx, hbf⟩ := box_new R7.out.out.2 #[.int .i64 o, .int .i64 t, .string ks, .string bs, .int .i64 q, .bool g]
                have HBN := Lib.hid hbn
                have R9 := Lib.hid hbx
                have R8 := Lib.hid (R7.out.below hbf)
                unfold zcells at hW4
                have HW4 := Lib.hid hW4
                clear hbn hbx hbf hW4 R7
                go_upto_region 14 with (rw [HW4.out]; refine wpList_store_whole rfl 28 (.tmp 9) (.tmp 55) rfl g9 _ rfl rfl zcells HBN.out info_rec rfl (by simp [Value.oneCell']) ?_; simp only [Act.put])
                clear HW4 HBN hg9
                generalize World.setRow _ _ _ = w7 at R8 R9 ⊢
                have hld6 := R8.out.load rfl
                have hld9 := R9.out.load rfl
                go_wp2_with (first | (refine wpList_load_any (by rfl) 28 (.tmp 6) rfl g6 0 rfl _ hld6 ?_; simp only [Act.put]) | (refine wpList_load_any (by rfl) 28 (.tmp 9) rfl g9 0 rfl _ hld9 ?_; simp only [Act.put]) | (go_at_call 12; refine (num_is _ _).mono ?_; rintro e w' ⟨rfl, rfl⟩))
                refine (HS1.out _ R9.out.out.2).mono ?_
                rintro e w8 ⟨A1, c1, rfl, ho1, hb8⟩
                have HX8 := Lib.hid (R9.out.out.2.trans (hb8.mono R9.out.out.2.size))
                have HO1 := Lib.hid ho1
                have hB8 : w7.heap.size ≤ w8.heap.size := hb8.size
                clear ho1 hb8 hld6 hld9 HS1 R8 hne
                go_wp2_with fail
                refine (HS2.out _).mono ?_
                rintro e w9 ⟨A2, c2', rfl, ho2, hb9⟩
                have HX9 := Lib.hid (HX8.out.trans (hb9.mono HX8.out.size))
                have HO3 := Lib.hid (own_below HO1.out hb9)
                have HO2 := Lib.hid ho2
                have hB9 : w8.heap.size ≤ w9.heap.size := hb9.size
                clear ho2 hb9 HS2 HO1 HX8
                have HEQ := Lib.hid (EqRecs_same L A1 A2 c1 c2' _ _ w9 (by omega) (RecsAt.of_own HO3.out) (RecsAt.of_own HO2.out))
                go_wp2_with fail
                refine HEQ.out.mono ?_
                rintro e wa ⟨rfl, hba⟩
                have HXa := Lib.hid (HX9.out.trans (hba.mono HX9.out.size))
                have HOa := Lib.hid (own_below HO3.out hba)
                have hBa : w9.heap.size ≤ wa.heap.size := hba.size
                have hw7 := R9.out.out.2.size
                clear hba HO3 HO2 HX9 HEQ R9
                have hna : ((at_ : Int) != (at_ : Int)) = false := by simp
                have hnl : (all != all) = false := by simp
                have HSP := Lib.hid (Spoil_is w7.heap.size L.length c1 A1 (flat L) wa (by omega) (by omega) HOa.out)
                go_wp2_with fail
                refine HSP.out.mono ?_
                rintro e wb ⟨⟨v, rfl⟩, hbb⟩
                have HXb := Lib.hid (HXa.out.trans (hbb.mono hw7))
                clear hbb HSP HOa HXa
                go_wp2_with fail
                go_roundw
                case rel => exact ⟨2, by omega, by go_num, HXb.out⟩
                case measure => simp [RowKit.intOf]
            · obtain rfl : j = 2 := by omega
              clear q1
              go_wp2_with fail
              go_roundw
              case rel => exact ⟨k + 1, h1, h2, by go_num, HX.out⟩
              case measure => simp [RowKit.intOf]; omega
    · have TW := Lib.hid (T.out.below hnx)
      go_wp2_with (go_at_call 14; refine (wakes_any _ TW.out).mono ?_; rintro e w1 ⟨rfl, hb1⟩)
      all_goals (go_ret; exact ⟨rfl, hnx.trans (hb1.mono hnx.size)⟩)
end Go.Proofs.YtimoncjdfmfojaaDoor
