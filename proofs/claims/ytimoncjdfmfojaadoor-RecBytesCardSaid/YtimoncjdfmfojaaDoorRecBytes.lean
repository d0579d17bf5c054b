/- RecBytes: whatever is asked, package rec and the document's own answer agree on whether a record may be, on its bytes, and on how many they are. -/
import Derived.Test.YtimoncjdfmfojaaDoorRcWakes
import Derived.Test.YtimoncjdfmfojaaDoorRcRBytes
namespace Go.Proofs.YtimoncjdfmfojaaDoor
open Go.RowKit Go.Lib Vbi Rcd Crc

theorem RBytes_is (r : Rc) (S : ByteArray) (w : World) (h : mayB r = true) (hS : str (recL r) = S) :
    Calls Tryd.prog 9 #[ragg r] w fun e w' => e = .returned (.string S) ∧ Below w.heap.size w w' := by
  have hf := flag_lt h
  have hbl := body_len r
  obtain ⟨h1, h2, h3, h4, h5, h6, h7, h8, h9⟩ := (may_iff _).1 h
  have hY : str (fx 8 r.o.toNat) ++ str (fx 8 r.t.toNat) ++ strOfNums [((flagN r : Nat) : Int)] ++ str (fx 2 (str r.k).size) ++ str r.k ++ str r.b = str (bodyL r) := by
    rw [byte_str _ (by omega), str_size, str_add, str_add, str_add, str_add, str_add]
    unfold bodyL
    congr 1
  have hYs : (str (bodyL r)).size = (bodyL r).length := str_size _
  obtain ⟨N, hN⟩ : ∃ N, sumN 0 (fx 2 (bodyL r).length ++ bodyL r) = N := ⟨_, rfl⟩
  have hR : str (fx 2 (bodyL r).length) ++ str (fx 4 N) ++ str (bodyL r) = S := by
    rw [str_add, str_add, ← hS]
    unfold recL sealL
    rw [hN, List.append_assoc]
  have key := RBytes_parts r.o.toNat r.t.toNat (str r.k) (str r.b) r.q.toNat (flagN r) r.g _ _ _ _ (str (fx 2 (bodyL r).length)) (str (fx 4 N)) N w (by omega) rfl (by omega) (by omega) (by rw [str_size]; exact h5) (by rw [str_size]; exact h6) rfl rfl rfl rfl
    (by rw [hY, hYs]) (by rw [hY, ByteArray.data_append, Array.toList_append, str_data, str_data]; exact hN) rfl
  rw [hY, hR] at key
  have e1 : ((r.o.toNat : Nat) : Int) = r.o := by omega
  have e2 : ((r.t.toNat : Nat) : Int) = r.t := by omega
  have e3 : ((r.q.toNat : Nat) : Int) = r.q := by omega
  rw [e1, e2, e3] at key
  exact key

set_option maxRecDepth 100000 in
set_option maxHeartbeats 16000000 in
theorem RecBytes_any (A : Option Addr) (n c : Nat) (w : World) (h : Asks w A n) (ht : Tab w) :
    Calls Tryd.prog 3 #[.slice A n c] w fun e w' => e = .returned (.bool true) ∧ Below w.heap.size w w' := by
  have H := Lib.hid h
  have T := Lib.hid ht
  clear h ht
  go_enter Tryd.func3, Tryd.ntmps3
  go_wp2_with fail
  go_loopw [3] (fun i wr => ∃ k : Nat, k ≤ n ∧ k ≤ 10 ∧ i = .int .i64 (k : Int) ∧ Below w.heap.size w wr) (fun i _ => 10 - (RowKit.intOf i).toNat)
  case atStart => exact ⟨0, Nat.zero_le _, by omega, rfl, Below.refl _ _⟩
  case round =>
    obtain ⟨k, hkn, hk10, rfl, hnx⟩ := hrel
    by_cases hgo : k < n ∧ k < 10
    · obtain ⟨h1, h2⟩ := hgo
      rcases H.out with h0 | ⟨b, off, rfl, hall⟩
      · omega
      · obtain ⟨P, l, c2, s, ha⟩ := hall k h1
        have HA := Lib.hid ha
        have ha1 := ha.below hnx
        have q0 := ha1.c0
        have q1 := ha1.c1
        have HX := Lib.hid hnx
        have hl := ha.hl
        have HV := Lib.hid (fun W (hb : Below w.heap.size w W) => heavy_is P l c2 s W hl ((ha.rs.below hb).mono hb.size))
        clear hall ha ha1 hnx H
        have hkn' : (k : Int) < (n : Int) := by omega
        have hk10' : (k : Int) < 10 := by omega
        go_wp2_with fail
        refine (HV.out _ HX.out).mono ?_
        rintro e w1 ⟨hv, rfl, hvs, hb1⟩
        have HX1 := Lib.hid (HX.out.trans (hb1.mono HX.out.size))
        clear hb1 HX HV q0 q1
        cases hv with
        | true =>
          go_wp2_with fail
          go_ret
          exact ⟨rfl, HX1.out⟩
        | false =>
          clear hvs
          go_wp2_with fail
          go_loopw [4] (fun i wr => ∃ j : Nat, j ≤ l.length ∧ j ≤ 10 ∧ i = .int .i64 (j : Int) ∧ Below w.heap.size w wr) (fun i _ => 10 - (RowKit.intOf i).toNat)
          case atStart => exact ⟨0, Nat.zero_le _, by omega, rfl, HX1.out⟩
          case round =>
            obtain ⟨j, hjl, hj10, rfl, hnx⟩ := hrel
            have HX := Lib.hid hnx
            have ha1 := HA.out.below hnx
            have q0 := ha1.c0
            clear HX1
            by_cases hgo : j < l.length ∧ j < 10
            · obtain ⟨hj1, hj2⟩ := hgo
              have hjI : (j : Int) < (l.length : Int) := by omega
              have hj10' : (j : Int) < 10 := by omega
              obtain ⟨bp, op, rfl, hbp, hc⟩ := ha1.rs.some_ (by omega)
              have hr := hc j hj1
              generalize l[j] = r at hr
              clear hc ha1 hnx
              obtain ⟨X, S, E, hX, hS, hE, hsz, hw⟩ := rec_ways r
              have HREC := Lib.hid (fun W => RRec_is r X W hX)
              have HBY := Lib.hid (fun W (hb : Below w.heap.size w W) => Bytes_is r S E W (T.out.below hb) hS hE)
              have HSZ := Lib.hid hsz
              have HCK := Lib.hid (fun W => Check_is r E W hE)
              have HRB := Lib.hid (fun W (h1 : X = true) (h2 : str (recL r) = S) => RBytes_is r S W (hX.trans h1) h2)
              obtain ⟨d0, d1, d2, d3, d4, d5⟩ := hr
              obtain ⟨g9, W4, hg9, hW4, hbn, hbx, _⟩ := box_new HX.out (rarr r.o r.t (str r.k) (str r.b) r.q r.g)
              have HBN := Lib.hid hbn
              have HBX := Lib.hid hbx
              unfold zcells at hW4
              have HW4 := Lib.hid hW4
              clear hX hS hE hsz hbn hbx hW4
              unfold ragg at HREC HBY HSZ HCK HRB
              obtain ⟨o, t, key, bod, q, g⟩ := r
              dsimp only at HREC HBY HSZ HCK HRB HBX d0 d1 d2 d3 d4 d5
              generalize str key = ks at HREC HBY HSZ HCK HRB HBX d2
              generalize str bod = bs at HREC HBY HSZ HCK HRB HBX d3
              unfold rarr at HREC HBY HSZ HCK HRB HBX
              go_upto_region 10 with (rw [HW4.out]; refine wpList_store_whole rfl 28 (.tmp 5) (.tmp 48) rfl g9 _ rfl rfl zcells HBN.out info_rec rfl (by simp [Value.oneCell']) ?_; simp only [Act.put])
              clear HW4 HBN d0 d1 d2 d3 d4 d5 q0 hg9
              generalize World.setRow _ _ _ = w5 at HBX ⊢
              have hld := HBX.out.load rfl
              go_wp2_with (refine wpList_load_any (by rfl) 28 (.tmp 5) rfl g9 0 rfl _ hld ?_; simp only [Act.put])
              refine (HREC.out _).mono ?_
              rintro e w6 ⟨rfl, hb6⟩
              have R6 := Lib.hid (HBX.out.below hb6)
              have hld := R6.out.load rfl
              clear HBX hb6 HREC
              rcases hw with ⟨rfl, rfl, hS⟩ | ⟨rfl, rfl, rfl⟩
              · have HRB1 := Lib.hid (fun W => HRB.out W rfl hS)
                clear HRB hS
                go_wp2_with (refine wpList_load_any (by rfl) 28 (.tmp 5) rfl g9 0 rfl _ hld ?_; simp only [Act.put])
                refine (HRB1.out _).mono ?_
                rintro e w7 ⟨rfl, hb7⟩
                have R7 := Lib.hid (R6.out.below hb7)
                have hld := R7.out.load rfl
                clear R6 hb7 HRB1
                go_wp2_with (refine wpList_load_any (by rfl) 28 (.tmp 5) rfl g9 0 rfl _ hld ?_; simp only [Act.put])
                refine (HBY.out _ R7.out.out.2).mono ?_
                rintro e w8 ⟨rfl, hb8⟩
                have R8 := Lib.hid (R7.out.below hb8)
                have hld := R8.out.load rfl
                clear R7 hb8 HBY
                go_wp2_with (refine wpList_load_any (by rfl) 28 (.tmp 5) rfl g9 0 rfl _ hld ?_; simp only [Act.put])
                refine (HSZ.out _).mono ?_
                rintro e w9 ⟨rfl, hb9⟩
                have R9 := Lib.hid (R8.out.below hb9)
                have hld := R9.out.load rfl
                clear R8 hb9 HSZ
                go_wp2_with (refine wpList_load_any (by rfl) 28 (.tmp 5) rfl g9 0 rfl _ hld ?_; simp only [Act.put])
                refine (HCK.out _).mono ?_
                rintro e w10 ⟨rfl, hb10⟩
                have R10 := Lib.hid (R9.out.below hb10)
                clear R9 hb10 HCK hld
                go_wp2_with (go_at_call 12; refine (num_is _ _).mono ?_; rintro e w' ⟨rfl, rfl⟩)
                go_roundw
                case rel => exact ⟨j + 1, hj1, hj2, by go_num, R10.out.out.2⟩
                case measure => simp [RowKit.intOf]; omega
              · clear HRB
                go_wp2_with (refine wpList_load_any (by rfl) 28 (.tmp 5) rfl g9 0 rfl _ hld ?_; simp only [Act.put])
                refine (HBY.out _ R6.out.out.2).mono ?_
                rintro e w8 ⟨rfl, hb8⟩
                have R8 := Lib.hid (R6.out.below hb8)
                have hld := R8.out.load rfl
                clear R6 hb8 HBY
                go_wp2_with (refine wpList_load_any (by rfl) 28 (.tmp 5) rfl g9 0 rfl _ hld ?_; simp only [Act.put])
                refine (HSZ.out _).mono ?_
                rintro e w9 ⟨rfl, hb9⟩
                have R9 := Lib.hid (R8.out.below hb9)
                have hld := R9.out.load rfl
                clear R8 hb9 HSZ
                go_wp2_with (refine wpList_load_any (by rfl) 28 (.tmp 5) rfl g9 0 rfl _ hld ?_; simp only [Act.put])
                refine (HCK.out _).mono ?_
                rintro e w10 ⟨rfl, hb10⟩
                have R10 := Lib.hid (R9.out.below hb10)
                clear R9 hb10 HCK hld
                go_wp2_with (go_at_call 12; refine (num_is _ _).mono ?_; rintro e w' ⟨rfl, rfl⟩)
                go_roundw
                case rel => exact ⟨j + 1, hj1, hj2, by go_num, R10.out.out.2⟩
                case measure => simp [RowKit.intOf]; omega
            · clear ha1 hnx
              go_wp2_with fail
              all_goals
                go_roundw
                case rel => exact ⟨k + 1, h1, h2, by go_num, HX.out⟩
                case measure => simp [RowKit.intOf]; omega
    · have TW := Lib.hid (T.out.below hnx)
      go_wp2_with (go_at_call 14; refine (wakes_any _ TW.out).mono ?_; rintro e w1 ⟨rfl, hb1⟩)
      all_goals (go_ret; exact ⟨rfl, hnx.trans (hb1.mono hnx.size)⟩)
end Go.Proofs.YtimoncjdfmfojaaDoor
