/- The fifth layer's statements: a packet's bytes are taken as it; what is taken is written, and taken again. -/
import Derived.Test.YtiancngpknnkaaaGreatB24
import Derived.Test.YtiancngpknnkaaaGreatB07
set_option maxRecDepth 100000
set_option maxHeartbeats 64000000
namespace Go.Proofs.YtiancngpknnkaaaGreat
open Go.RowKit Go.Lib Prp Pkt Vbi
theorem PackBack_any (A : Option Addr) (n c : Nat) (w : World) (h : Asks w A n) :
    Calls Tryz.prog 4 #[.slice A n c] w fun e w' => e = .returned (.bool true) ∧ Below w.heap.size w w' := by
  have H := Lib.hid h
  clear h
  go_enter Tryz.func4, Tryz.ntmps4
  go_wp2_with fail
  go_loopw [3] (fun i wr => ∃ z : Nat, z ≤ n ∧ z ≤ 8 ∧ i = .int .i64 (z : Int) ∧ Below w.heap.size w wr) (fun i _ => 8 - (RowKit.intOf i).toNat)
  case atStart => exact ⟨0, Nat.zero_le _, by omega, rfl, Below.refl _ _⟩
  case round =>
    obtain ⟨z, hzn, hz8, rfl, hnx⟩ := hrel
    by_cases hgo : z < n ∧ z < 8
    · obtain ⟨h1, h2⟩ := hgo
      rcases H.out with h0 | ⟨b, off, rfl, hall⟩
      · omega
      · obtain ⟨p, a, s, ha⟩ := hall z h1
        have HA := Lib.hid ha
        have HX := Lib.hid hnx
        have HA1 := Lib.hid (ha.below hnx)
        clear hall ha hnx H
        have hzI : (z : Int) < (n : Int) := by omega
        have hz8' : (z : Int) < 8 := by omega
        have hla := load_ask HA1.out
        have HV := Lib.hid (heavy_is p a s wr HA1.out.fit (HA1.out.rows.mono HX.out.size))
        go_wp2_with (refine wpList_load_any (by rfl) 32 (.tmp 33) rfl b (off + z * 26) rfl _ hla ?_)
        refine HV.out.mono ?_
        rintro e w1 ⟨bh, rfl, hlight, hb1⟩
        have HX1 := Lib.hid (HX.out.trans (hb1.mono HX.out.size))
        have HLI := Lib.hid hlight
        clear hb1 hlight HV HX HA1 hla
        cases bh with
        | true =>
          go_wp2_with fail
          go_ret
          exact ⟨rfl, HX1.out⟩
        | false =>
          have hsm := HLI.out rfl
          have HSM := Lib.hid hsm
          clear hsm HLI
          have HA2 := Lib.hid (HA.out.below HX1.out)
          have hlp := load_mid HA2.out
          obtain ⟨bp, hbp⟩ : ∃ x, packB p = x := ⟨_, rfl⟩
          cases bp with
          | true =>
            have HBP := Lib.hid hbp
            clear hbp
            obtain ⟨S, hS⟩ : ∃ S, strP p = S := ⟨_, rfl⟩
            have hSz : S.size ≤ 8192 := by rw [← hS]; exact (pack_parts HBP.out).2.2
            have ht0 : takeS (S ++ s) = (p, (S.size : Int), 0) := by rw [← hS]; exact take_back s HBP.out
            have HCUT := Lib.hid (fun (j : Nat) (hj : j < S.size) => by
              have := take_cut HBP.out j (by rw [hS]; exact hj)
              rw [hS] at this
              exact this)
            have HBy := Lib.hid (PBytes_is p a S 0 w1 HA2.out.fit (HA2.out.rows.mono HX1.out.size) ((pack_yes HBP.out).1.trans hS) (pack_yes HBP.out).2)
            have hcs : (S ++ s).size ≤ 268435456 := by rw [ByteArray.size_append]; have := HSM.out; omega
            have HTk := Lib.hid (fun W => PTake_eq ht0 W hcs)
            clear hS ht0 hcs
            go_wp2_with (refine wpList_load_any (by rfl) 30 (.tmp 40) rfl b (off + z * 26) rfl _ hlp ?_)
            refine HBy.out.mono ?_
            rintro e w3 ⟨rfl, hb3⟩
            have HX3 := Lib.hid (HX1.out.trans (hb3.mono HX1.out.size))
            have HA3 := Lib.hid (HA.out.below HX3.out)
            clear hb3 HBy HX1 HA2 hlp
            have c25 : w3.cell? ⟨b, off + z * 26 + 25, none⟩ = some (.string s) := HA3.out.cx
            have hnw : ¬ (9223372036854775807 < S.size + s.size) := by have := HSM.out; omega
            go_wp2_with (go_at_call 24; refine (num5 _ _).mono ?_; rintro e w' ⟨rfl, rfl⟩)
            refine (HTk.out w3).mono ?_
            rintro e w4 ⟨a4, rfl, q1, q2, q3⟩
            have HX4 := Lib.hid (HX3.out.trans (q3.mono HX3.out.size))
            have HQ4 := Lib.hid q1
            clear q1 q2 q3 HTk HX3 HA3 c25 hnw
            have hmb6 := made_below w4 (pkArr (zp 0) za) (pkArr p a4) 30
            have hmx6 := made_box w4 (pkArr (zp 0) za) (pkArr p a4) 30
            have hbn6 := Box.new w4 30 (pkArr (zp 0) za)
            obtain ⟨W6, hW6⟩ : ∃ W, w4.alloc (.cells (pkArr (zp 0) za) 30) = W := ⟨_, rfl⟩
            rw [hW6] at hmb6 hmx6 hbn6
            simp only [pkArr, zp, za, zw, List.length_nil] at hW6
            have HW6 := Lib.hid hW6
            obtain ⟨w5, hV6⟩ : ∃ W, W6.setRow w4.heap.size (pkArr p a4) = W := ⟨_, rfl⟩
            rw [hV6] at hmb6 hmx6
            obtain ⟨k6, hk6⟩ : ∃ k, w4.heap.size = k := ⟨_, rfl⟩
            rw [hk6] at hmx6 hbn6 hV6
            have HV6 := Lib.hid hV6
            have HMB6 := Lib.hid hmb6
            have HMX6 := Lib.hid hmx6
            have HBN6 := Lib.hid hbn6
            clear hmb6 hmx6 hbn6 hW6 hV6
            go_upto_region 9 with (rw [HW6.out]; refine wpList_store_whole rfl 30 (.tmp 6) (.tmp 57) rfl k6 (pkArr p a4) rfl rfl (pkArr (zp 0) za) HBN6.out info_pk rfl (one_pk _ _) ?_; simp only [Act.put])
            rw [HV6.out]
            clear hk6 HW6 HV6 HBN6
            have HX5 := Lib.hid (HX4.out.trans (HMB6.out.mono HX4.out.size))
            have HQ5 := Lib.hid ((HQ4.out.below HMB6.out).mono HMB6.out.size)
            clear HMB6 HX4 HQ4
            have HKS : Hid (KS w b (off + z * 26) k6 p a s a4 w5) := Lib.hid (KS.mk ⟨HMX6.out, HQ5.out, HA.out.below HX5.out, HX5.out⟩)
            have HEP := Lib.hid (fun (W : World) (h : KS w b (off + z * 26) k6 p a s a4 W) => EqPacket_self p a4 a W (fit_len HA.out.fit) h.out.2.1 (h.out.2.2.1.rows.mono h.out.2.2.2.size))
            have hlA := fun u : In (KS w b (off + z * 26) k6 p a s a4) => load_mid u.h.out.2.2.1
            have hl6 := fun u : In (KS w b (off + z * 26) k6 p a s a4) => load_bx u.h.out.1
            have st0 := HKS.out
            clear HKS HMX6 HQ5 HX5
            haveI : Nonempty (In (KS w b (off + z * 26) k6 p a s a4)) := ⟨⟨_, st0⟩⟩
            refine region_in (S := KS w b (off + z * 26) k6 p a s a4) (by kernel_rfl) (by kernel_rfl) (st0.drewN 1) ?_
            iterate 10 (go_big_quiet_step (first | (go_at_call 24; exact in_call ((num5 _ _).mono fun _ _ h => ⟨h.1, by rw [← h.2]; exact In.h _⟩))))
            go_big_quiet_want
            refine quiet_load_in 30 (.tmp 6) rfl k6 0 rfl _ hl6 ?_
            go_simp
            go_big_quiet_on
            iterate 4 (go_big_quiet_step (fail))
            go_big_quiet_want
            refine quiet_load_in 30 (.tmp 74) rfl b (off + z * 26) rfl _ hlA ?_
            go_simp
            go_big_quiet_on
            repeat (go_big_quiet_step (first | (go_at_call 26; exact in_call ((HEP.out _ (In.h _)).mono fun _ _ h => ⟨h.1, KS.below (In.h _) h.2⟩))))
            refine wpQuiet_nil ?_
            rintro _ ⟨⟨w7, st7⟩, rfl⟩
            have HX7 := Lib.hid st7.out.2.2.2
            clear this st0 st7 hlA hl6 HEP
            obtain ⟨Q, hQ⟩ : ∃ Q : Nat, S.size / 20 = Q := ⟨_, rfl⟩
            have hQ5 : Q ≤ 500 := by omega
            have htd : ((S.size : Nat) : Int).tdiv 20 = (Q : Int) := by rw [Int.tdiv_eq_ediv_of_nonneg (by omega)]; omega
            go_wp2_with fail
            go_loopw [9] (fun i wr => ∃ j : Nat, j ≤ 20000 ∧ i = .int .i64 (j : Int) ∧ Below w.heap.size w wr) (fun i _ => S.size - (RowKit.intOf i).toNat)
            case atStart => exact ⟨0, Nat.zero_le _, rfl, HX7.out⟩
            case round =>
              obtain ⟨j, hj2, rfl, hnx⟩ := hrel
              clear HX7
              have HX1 := Lib.hid hnx
              clear hnx
              by_cases hag : j < S.size
              · have haI : (j : Int) < (S.size : Int) := by omega
                have hjn : ((j : Int)).toNat = j := by omega
                have hj0 : (0 : Int) ≤ (j : Int) := by omega
                have hjl : (j : Int) ≤ (S.size : Int) := by omega
                have HTk := Lib.hid (fun W => PTake_eq (HCUT.out j hag) W (by rw [ByteArray.size_extract]; omega))
                clear hQ
                go_wp2_with fail
                refine (HTk.out _).mono ?_
                rintro e w8 ⟨a8, rfl, q1, q2, q3⟩
                have HX8 := Lib.hid (HX1.out.trans (q3.mono HX1.out.size))
                clear q1 q2 q3 HTk HX1
                have hmb10 := made_below w8 (pkArr (zp 0) za) (pkArr (zp 0) a8) 30
                have hmx10 := made_box w8 (pkArr (zp 0) za) (pkArr (zp 0) a8) 30
                have hbn10 := Box.new w8 30 (pkArr (zp 0) za)
                obtain ⟨W10, hW10⟩ : ∃ W, w8.alloc (.cells (pkArr (zp 0) za) 30) = W := ⟨_, rfl⟩
                rw [hW10] at hmb10 hmx10 hbn10
                simp only [pkArr, zp, za, zw, List.length_nil] at hW10
                have HW10 := Lib.hid hW10
                obtain ⟨w9, hV10⟩ : ∃ W, W10.setRow w8.heap.size (pkArr (zp 0) a8) = W := ⟨_, rfl⟩
                rw [hV10] at hmb10 hmx10
                obtain ⟨k10, hk10⟩ : ∃ k, w8.heap.size = k := ⟨_, rfl⟩
                rw [hk10] at hmx10 hbn10 hV10
                have HV10 := Lib.hid hV10
                have HMB10 := Lib.hid hmb10
                have HMX10 := Lib.hid hmx10
                have HBN10 := Lib.hid hbn10
                clear hmb10 hmx10 hbn10 hW10 hV10
                go_upto_region 15 with (rw [HW10.out]; refine wpList_store_whole rfl 30 (.tmp 10) (.tmp 94) rfl k10 (pkArr (zp 0) a8) rfl rfl (pkArr (zp 0) za) HBN10.out info_pk rfl (one_pk _ _) ?_; simp only [Act.put])
                rw [HV10.out]
                clear hk10 HW10 HV10 HBN10
                have HX9 := Lib.hid (HX8.out.trans (HMB10.out.mono HX8.out.size))
                clear HMB10 HX8 HMX10
                go_wp2_with (go_at_call 24; refine (num5 _ _).mono ?_; rintro e w' ⟨rfl, rfl⟩)
                go_roundw
                case rel => exact ⟨j + 1 + Q, by omega, by go_num, HX9.out⟩
                case measure => simp [RowKit.intOf]; omega
              · have hdT : decide ((j : Int) < (S.size : Int)) = false := by simp; omega
                go_upto_region 17 with fail
                clear hag hdT hj2 htd hQ5 hQ HCUT hSz HBP
                have HAt := Lib.hid (HA.out.below HX1.out)
                have c25 : wr.cell? ⟨b, off + z * 26 + 25, none⟩ = some (.string s) := HAt.out.cx
                obtain ⟨q, m, E, hE⟩ : ∃ q m E, takeS s = (q, m, E) := ⟨_, _, _, rfl⟩
                have HTk := Lib.hid (fun W => PTake_eq hE W (by have := HSM.out; omega))
                have HE := Lib.hid hE
                clear hE
                go_wp2_with fail
                refine (HTk.out _).mono ?_
                rintro e y1 ⟨a6, rfl, q1, q2, q3⟩
                have HY1 := Lib.hid (HX1.out.trans (q3.mono HX1.out.size))
                have HQ1 := Lib.hid q1
                have HC1 := Lib.hid q2
                clear q1 q2 q3 HTk HX1 HAt c25
                have hmb13 := made_below y1 (pkArr (zp 0) za) (pkArr q a6) 30
                have hmx13 := made_box y1 (pkArr (zp 0) za) (pkArr q a6) 30
                have hbn13 := Box.new y1 30 (pkArr (zp 0) za)
                obtain ⟨W13, hW13⟩ : ∃ W, y1.alloc (.cells (pkArr (zp 0) za) 30) = W := ⟨_, rfl⟩
                rw [hW13] at hmb13 hmx13 hbn13
                simp only [pkArr, zp, za, zw, List.length_nil] at hW13
                have HW13 := Lib.hid hW13
                obtain ⟨y2, hV13⟩ : ∃ W, W13.setRow y1.heap.size (pkArr q a6) = W := ⟨_, rfl⟩
                rw [hV13] at hmb13 hmx13
                obtain ⟨k13, hk13⟩ : ∃ k, y1.heap.size = k := ⟨_, rfl⟩
                rw [hk13] at hmx13 hbn13 hV13
                have HV13 := Lib.hid hV13
                have HMB13 := Lib.hid hmb13
                have HMX13 := Lib.hid hmx13
                have HBN13 := Lib.hid hbn13
                clear hmb13 hmx13 hbn13 hW13 hV13
                go_upto_region 18 with (rw [HW13.out]; refine wpList_store_whole rfl 30 (.tmp 13) (.tmp 107) rfl k13 (pkArr q a6) rfl rfl (pkArr (zp 0) za) HBN13.out info_pk rfl (one_pk _ _) ?_; simp only [Act.put])
                rw [HV13.out]
                clear hk13 HW13 HV13 HBN13
                have HY2 := Lib.hid (HY1.out.trans (HMB13.out.mono HY1.out.size))
                have HQ2 := Lib.hid ((HQ1.out.below HMB13.out).mono HMB13.out.size)
                clear HMB13 HY1 HQ1
                by_cases hE0 : E = 0
                · subst hE0
                  obtain ⟨hqb, hqn⟩ := take_wrote (by have := HSM.out; omega) HE.out
                  obtain ⟨T, hT⟩ : ∃ T, strP q = T := ⟨_, rfl⟩
                  have hTz : T.size ≤ 8192 := by rw [← hT]; exact (pack_parts hqb).2.2
                  have ht0 : takeS T = (q, (T.size : Int), 0) := by
                    have := take_back ⟨#[]⟩ hqb
                    rw [add_empty, hT] at this
                    exact this
                  rw [hT] at hqn
                  have HFq := Lib.hid (fit_of hqb HC1.out)
                  have HBy := Lib.hid (PBytes_is q a6 T 0 y2 HFq.out HQ2.out ((pack_yes hqb).1.trans hT) (pack_yes hqb).2)
                  have HTk := Lib.hid (fun W => PTake_eq ht0 W (by omega))
                  have hgt : decide (m < (T.size : Int)) = false := decide_eq_false (by omega)
                  have hgt2 : ¬ m < (T.size : Int) := by omega
                  have hl13 := load_bx HMX13.out
                  clear ht0 hT hqb hqn
                  go_wp2_with (first | (go_at_call 24; refine (num5 _ _).mono ?_; rintro e w' ⟨rfl, rfl⟩) | (refine wpList_load_any (by rfl) 30 (.tmp 13) rfl k13 0 rfl _ hl13 ?_))
                  refine HBy.out.mono ?_
                  rintro e y3 ⟨rfl, hb3⟩
                  have HY3 := Lib.hid (HY2.out.trans (hb3.mono HY2.out.size))
                  have HQ3 := Lib.hid ((HQ2.out.below hb3).mono hb3.size)
                  have HM3 := Lib.hid (HMX13.out.below hb3)
                  clear hb3 HBy HY2 HQ2 HMX13 hl13
                  go_wp2_with fail
                  refine (HTk.out _).mono ?_
                  rintro e y4 ⟨a9, rfl, q1, q2, q3⟩
                  have HY4 := Lib.hid (HY3.out.trans (q3.mono HY3.out.size))
                  have HQ4 := Lib.hid ((HQ3.out.below q3).mono q3.size)
                  have HM4 := Lib.hid (HM3.out.below q3)
                  have HR4 := Lib.hid q1
                  clear q1 q2 q3 HTk HY3 HQ3 HM3
                  have hmb18 := made_below y4 (pkArr (zp 0) za) (pkArr q a9) 30
                  have hmx18 := made_box y4 (pkArr (zp 0) za) (pkArr q a9) 30
                  have hbn18 := Box.new y4 30 (pkArr (zp 0) za)
                  obtain ⟨W18, hW18⟩ : ∃ W, y4.alloc (.cells (pkArr (zp 0) za) 30) = W := ⟨_, rfl⟩
                  rw [hW18] at hmb18 hmx18 hbn18
                  simp only [pkArr, zp, za, zw, List.length_nil] at hW18
                  have HW18 := Lib.hid hW18
                  obtain ⟨y5, hV18⟩ : ∃ W, W18.setRow y4.heap.size (pkArr q a9) = W := ⟨_, rfl⟩
                  rw [hV18] at hmb18 hmx18
                  obtain ⟨k18, hk18⟩ : ∃ k, y4.heap.size = k := ⟨_, rfl⟩
                  rw [hk18] at hmx18 hbn18 hV18
                  have HV18 := Lib.hid hV18
                  have HMB18 := Lib.hid hmb18
                  have HMX18 := Lib.hid hmx18
                  have HBN18 := Lib.hid hbn18
                  clear hmb18 hmx18 hbn18 hW18 hV18
                  go_upto_region 21 with (rw [HW18.out]; refine wpList_store_whole rfl 30 (.tmp 18) (.tmp 121) rfl k18 (pkArr q a9) rfl rfl (pkArr (zp 0) za) HBN18.out info_pk rfl (one_pk _ _) ?_; simp only [Act.put])
                  rw [HV18.out]
                  clear hk18 HW18 HV18 HBN18
                  have HQ5 := Lib.hid ((HQ4.out.below HMB18.out).mono HMB18.out.size)
                  have HR5 := Lib.hid ((HR4.out.below HMB18.out).mono HMB18.out.size)
                  have HY5 := Lib.hid (HY4.out.trans (HMB18.out.mono HY4.out.size))
                  have hl13 := load_bx (HM4.out.below HMB18.out)
                  have hl18 := load_bx HMX18.out
                  clear HM4 HMX18 HQ4 HR4 HY4 HMB18
                  go_wp2_with (first | (go_at_call 24; refine (num5 _ _).mono ?_; rintro e w' ⟨rfl, rfl⟩) | (refine wpList_load_any (by rfl) 30 (.tmp 13) rfl k13 0 rfl _ hl13 ?_) | (refine wpList_load_any (by rfl) 30 (.tmp 18) rfl k18 0 rfl _ hl18 ?_))
                  refine (EqPacket_self q a6 a9 _ (fit_len HFq.out) HQ5.out HR5.out).mono ?_
                  rintro e y6 ⟨rfl, hb6⟩
                  have HY7 := Lib.hid (HY5.out.trans (hb6.mono HY5.out.size))
                  clear hb6 HQ5 HR5 HY5 hl13 hl18
                  go_wp2_with fail
                  go_roundw
                  case rel => exact ⟨z + 1, h1, h2, by go_num, HY7.out⟩
                  case measure => simp [RowKit.intOf]; omega
                · have hEb : (E == 0) = false := ne_false hE0
                  go_wp2_with (go_at_call 24; refine (num5 _ _).mono ?_; rintro e w' ⟨rfl, rfl⟩)
                  go_roundw
                  case rel => exact ⟨z + 1, h1, h2, by go_num, HY2.out⟩
                  case measure => simp [RowKit.intOf]; omega
          | false =>
            have HBy := Lib.hid (PBytes_is p a ⟨#[]⟩ 1 w1 HA2.out.fit (HA2.out.rows.mono HX1.out.size) (pack_no hbp).1 (pack_no hbp).2)
            clear hbp
            go_wp2_with (refine wpList_load_any (by rfl) 30 (.tmp 40) rfl b (off + z * 26) rfl _ hlp ?_)
            refine HBy.out.mono ?_
            rintro e w3 ⟨rfl, hb3⟩
            have HX3 := Lib.hid (HX1.out.trans (hb3.mono HX1.out.size))
            clear hb3 HBy HX1 HA2 hlp
            have HX1 := Lib.hid HX3.out
            clear HX3
            go_upto_region 17 with (go_at_call 24; refine (num5 _ _).mono ?_; rintro e w' ⟨rfl, rfl⟩)
            have HAt := Lib.hid (HA.out.below HX1.out)
            have c25 : w3.cell? ⟨b, off + z * 26 + 25, none⟩ = some (.string s) := HAt.out.cx
            obtain ⟨q, m, E, hE⟩ : ∃ q m E, takeS s = (q, m, E) := ⟨_, _, _, rfl⟩
            have HTk := Lib.hid (fun W => PTake_eq hE W (by have := HSM.out; omega))
            have HE := Lib.hid hE
            clear hE
            go_wp2_with fail
            refine (HTk.out _).mono ?_
            rintro e y1 ⟨a6, rfl, q1, q2, q3⟩
            have HY1 := Lib.hid (HX1.out.trans (q3.mono HX1.out.size))
            have HQ1 := Lib.hid q1
            have HC1 := Lib.hid q2
            clear q1 q2 q3 HTk HX1 HAt c25
            have hmb13 := made_below y1 (pkArr (zp 0) za) (pkArr q a6) 30
            have hmx13 := made_box y1 (pkArr (zp 0) za) (pkArr q a6) 30
            have hbn13 := Box.new y1 30 (pkArr (zp 0) za)
            obtain ⟨W13, hW13⟩ : ∃ W, y1.alloc (.cells (pkArr (zp 0) za) 30) = W := ⟨_, rfl⟩
            rw [hW13] at hmb13 hmx13 hbn13
            simp only [pkArr, zp, za, zw, List.length_nil] at hW13
            have HW13 := Lib.hid hW13
            obtain ⟨y2, hV13⟩ : ∃ W, W13.setRow y1.heap.size (pkArr q a6) = W := ⟨_, rfl⟩
            rw [hV13] at hmb13 hmx13
            obtain ⟨k13, hk13⟩ : ∃ k, y1.heap.size = k := ⟨_, rfl⟩
            rw [hk13] at hmx13 hbn13 hV13
            have HV13 := Lib.hid hV13
            have HMB13 := Lib.hid hmb13
            have HMX13 := Lib.hid hmx13
            have HBN13 := Lib.hid hbn13
            clear hmb13 hmx13 hbn13 hW13 hV13
            go_upto_region 18 with (rw [HW13.out]; refine wpList_store_whole rfl 30 (.tmp 13) (.tmp 107) rfl k13 (pkArr q a6) rfl rfl (pkArr (zp 0) za) HBN13.out info_pk rfl (one_pk _ _) ?_; simp only [Act.put])
            rw [HV13.out]
            clear hk13 HW13 HV13 HBN13
            have HY2 := Lib.hid (HY1.out.trans (HMB13.out.mono HY1.out.size))
            have HQ2 := Lib.hid ((HQ1.out.below HMB13.out).mono HMB13.out.size)
            clear HMB13 HY1 HQ1
            by_cases hE0 : E = 0
            · subst hE0
              obtain ⟨hqb, hqn⟩ := take_wrote (by have := HSM.out; omega) HE.out
              obtain ⟨T, hT⟩ : ∃ T, strP q = T := ⟨_, rfl⟩
              have hTz : T.size ≤ 8192 := by rw [← hT]; exact (pack_parts hqb).2.2
              have ht0 : takeS T = (q, (T.size : Int), 0) := by
                have := take_back ⟨#[]⟩ hqb
                rw [add_empty, hT] at this
                exact this
              rw [hT] at hqn
              have HFq := Lib.hid (fit_of hqb HC1.out)
              have HBy := Lib.hid (PBytes_is q a6 T 0 y2 HFq.out HQ2.out ((pack_yes hqb).1.trans hT) (pack_yes hqb).2)
              have HTk := Lib.hid (fun W => PTake_eq ht0 W (by omega))
              have hgt : decide (m < (T.size : Int)) = false := decide_eq_false (by omega)
              have hgt2 : ¬ m < (T.size : Int) := by omega
              have hl13 := load_bx HMX13.out
              clear ht0 hT hqb hqn
              go_wp2_with (first | (go_at_call 24; refine (num5 _ _).mono ?_; rintro e w' ⟨rfl, rfl⟩) | (refine wpList_load_any (by rfl) 30 (.tmp 13) rfl k13 0 rfl _ hl13 ?_))
              refine HBy.out.mono ?_
              rintro e y3 ⟨rfl, hb3⟩
              have HY3 := Lib.hid (HY2.out.trans (hb3.mono HY2.out.size))
              have HQ3 := Lib.hid ((HQ2.out.below hb3).mono hb3.size)
              have HM3 := Lib.hid (HMX13.out.below hb3)
              clear hb3 HBy HY2 HQ2 HMX13 hl13
              go_wp2_with fail
              refine (HTk.out _).mono ?_
              rintro e y4 ⟨a9, rfl, q1, q2, q3⟩
              have HY4 := Lib.hid (HY3.out.trans (q3.mono HY3.out.size))
              have HQ4 := Lib.hid ((HQ3.out.below q3).mono q3.size)
              have HM4 := Lib.hid (HM3.out.below q3)
              have HR4 := Lib.hid q1
              clear q1 q2 q3 HTk HY3 HQ3 HM3
              have hmb18 := made_below y4 (pkArr (zp 0) za) (pkArr q a9) 30
              have hmx18 := made_box y4 (pkArr (zp 0) za) (pkArr q a9) 30
              have hbn18 := Box.new y4 30 (pkArr (zp 0) za)
              obtain ⟨W18, hW18⟩ : ∃ W, y4.alloc (.cells (pkArr (zp 0) za) 30) = W := ⟨_, rfl⟩
              rw [hW18] at hmb18 hmx18 hbn18
              simp only [pkArr, zp, za, zw, List.length_nil] at hW18
              have HW18 := Lib.hid hW18
              obtain ⟨y5, hV18⟩ : ∃ W, W18.setRow y4.heap.size (pkArr q a9) = W := ⟨_, rfl⟩
              rw [hV18] at hmb18 hmx18
              obtain ⟨k18, hk18⟩ : ∃ k, y4.heap.size = k := ⟨_, rfl⟩
              rw [hk18] at hmx18 hbn18 hV18
              have HV18 := Lib.hid hV18
              have HMB18 := Lib.hid hmb18
              have HMX18 := Lib.hid hmx18
              have HBN18 := Lib.hid hbn18
              clear hmb18 hmx18 hbn18 hW18 hV18
              go_upto_region 21 with (rw [HW18.out]; refine wpList_store_whole rfl 30 (.tmp 18) (.tmp 121) rfl k18 (pkArr q a9) rfl rfl (pkArr (zp 0) za) HBN18.out info_pk rfl (one_pk _ _) ?_; simp only [Act.put])
              rw [HV18.out]
              clear hk18 HW18 HV18 HBN18
              have HQ5 := Lib.hid ((HQ4.out.below HMB18.out).mono HMB18.out.size)
              have HR5 := Lib.hid ((HR4.out.below HMB18.out).mono HMB18.out.size)
              have HY5 := Lib.hid (HY4.out.trans (HMB18.out.mono HY4.out.size))
              have hl13 := load_bx (HM4.out.below HMB18.out)
              have hl18 := load_bx HMX18.out
              clear HM4 HMX18 HQ4 HR4 HY4 HMB18
              go_wp2_with (first | (go_at_call 24; refine (num5 _ _).mono ?_; rintro e w' ⟨rfl, rfl⟩) | (refine wpList_load_any (by rfl) 30 (.tmp 13) rfl k13 0 rfl _ hl13 ?_) | (refine wpList_load_any (by rfl) 30 (.tmp 18) rfl k18 0 rfl _ hl18 ?_))
              refine (EqPacket_self q a6 a9 _ (fit_len HFq.out) HQ5.out HR5.out).mono ?_
              rintro e y6 ⟨rfl, hb6⟩
              have HY7 := Lib.hid (HY5.out.trans (hb6.mono HY5.out.size))
              clear hb6 HQ5 HR5 HY5 hl13 hl18
              go_wp2_with fail
              go_roundw
              case rel => exact ⟨z + 1, h1, h2, by go_num, HY7.out⟩
              case measure => simp [RowKit.intOf]; omega
            · have hEb : (E == 0) = false := ne_false hE0
              go_wp2_with (go_at_call 24; refine (num5 _ _).mono ?_; rintro e w' ⟨rfl, rfl⟩)
              go_roundw
              case rel => exact ⟨z + 1, h1, h2, by go_num, HY2.out⟩
              case measure => simp [RowKit.intOf]; omega
    · go_wp2_with (go_at_call 27; refine (wakes_any _).mono ?_; rintro e w1 ⟨rfl, hb1⟩)
      all_goals (go_ret; exact ⟨rfl, hnx.trans (hb1.mono hnx.size)⟩)
end Go.Proofs.YtiancngpknnkaaaGreat
