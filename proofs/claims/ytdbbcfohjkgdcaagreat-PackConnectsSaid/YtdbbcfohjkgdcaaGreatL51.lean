/- The fifth layer's statements: packets of one kind: their bytes, and what is taken of bytes near them, are the document's. -/
import Derived.Test.YtdbbcfohjkgdcaaGreatL00
import Derived.Test.YtdbbcfohjkgdcaaGreatL50
set_option maxRecDepth 100000
set_option maxHeartbeats 64000000
namespace Go.Proofs.YtdbbcfohjkgdcaaGreat
open Go.RowKit Go.Lib Prp Pkt Vbi
theorem RTake_eq {s : ByteArray} {p : Pk} {n e : Int} (ht : takeS s = (p, n, e)) (w : World) (hn : NoAsk s) (hs : s.size ≤ 268435456) :
  Calls Tryz.prog 47 #[.string s] w fun r w' => ∃ a, r = .returned (.tuple #[.agg (pkArr p a), .int .i64 n, .int .i64 e]) ∧ PkAt w' w'.heap.size p a ∧ PkCap p a ∧ Below w.heap.size w w' := by
 have := RTake_is s w hn hs
 rw [ht] at this
 exact this
theorem kind_any (A : Option Addr) (n c : Nat) (k : Int) (hk : OneKind k)
  (hrp : ∀ (p : Pk) (a : Ad) (b : Bool) (w : World), PkFit p a → PkAt w w.heap.size p a → p.kind = k → packB p = b → Calls Tryz.prog 9 #[.agg (pkArr p a)] w fun e w' => e = .returned (.bool b) ∧ Below w.heap.size w w')
  (hrb : ∀ (p : Pk) (a : Ad) (S : ByteArray) (w : World), p.kind = k → PkAt w w.heap.size p a → goodP p = true → strP p = S → Calls Tryz.prog 10 #[.agg (pkArr p a)] w fun e w' => e = .returned (.string S) ∧ Below w.heap.size w w')
  (w : World) (h : Asks w A n) :
  Calls Tryz.prog 15 #[.slice A n c, .int .i64 k] w fun e w' => e = .returned (.bool true) ∧ Below w.heap.size w w' := by
 have H := Lib.hid h
 have HK := Lib.hid hk
 have HRP := Lib.hid hrp
 have HRY := Lib.hid hrb
 clear h hk hrp hrb
 go_enter Tryz.func15, Tryz.ntmps15
 go_wp2_with fail
 go_loopw [5] (fun i wr => ∃ z : Nat, z ≤ n ∧ z ≤ 8 ∧ i = .int .i64 (z : Int) ∧ Below w.heap.size w wr) (fun i _ => 8 - (RowKit.intOf i).toNat)
 case atStart => exact ⟨0, Nat.zero_le _, by omega, rfl, Below.refl _ _⟩
 case round =>
  obtain ⟨z, hzn, hz8, rfl, hnx⟩ := hrel
  by_cases hgo : z < n ∧ z < 8
  ·obtain ⟨h1, h2⟩ := hgo
   rcases H.out with h0 | ⟨b, off, rfl, hall⟩
   ·omega
   ·obtain ⟨p, a, s, ha⟩ := hall z h1
    have HA := Lib.hid ha
    have HX := Lib.hid hnx
    have HA1 := Lib.hid (ha.below hnx)
    clear hall ha hnx H
    have hzI : (z : Int) < (n : Int) := by omega
    have hz8' : (z : Int) < 8 := by omega
    have hla := load_ask HA1.out
    have HV := Lib.hid (heavy_is p a s wr HA.out.fit (HA1.out.rows.mono HX.out.size))
    go_wp2_with (refine wpList_load_any (by rfl) 32 (.tmp 31) rfl b (off + z * 26) rfl _ hla ?_)
    refine HV.out.mono ?_
    rintro e w1 ⟨bh, rfl, hlight, hb1⟩
    have HX1 := Lib.hid (HX.out.trans (hb1.mono HX.out.size))
    have HLI := Lib.hid hlight
    clear hb1 hlight HV HX HA1 hla
    cases bh with
    | true =>
     go_wp2_with fail
     go_ret
     exact ⟨rfl, HX1.out⟩
    | false =>
     have HA2 := Lib.hid (HA.out.below HX1.out)
     have d0 : w1.cell? ⟨b, off + z * 26, none⟩ = some (.int .i64 p.kind) := HA2.out.cells 0 _ rfl
     have hlp := load_mid HA2.out
     by_cases hkk : p.kind = k
     ·have hne : (p.kind != k) = false := by simp [hkk]
      obtain ⟨bp, hbp⟩ : ∃ x, packB p = x := ⟨_, rfl⟩
      have HPK := Lib.hid (HRP.out p a bp w1 HA2.out.fit (HA2.out.rows.mono HX1.out.size) hkk hbp)
      have HBP := Lib.hid hbp
      have HOK := Lib.hid (show OneKind p.kind by rw [hkk]; exact HK.out)
      have HKK := Lib.hid hkk
      clear hbp hkk
      go_wp2_with (refine wpList_load_any (by rfl) 30 (.tmp 46) rfl b (off + z * 26) rfl _ hlp ?_)
      refine HPK.out.mono ?_
      rintro e w2 ⟨rfl, hb2⟩
      have HX2 := Lib.hid (HX1.out.trans (hb2.mono HX1.out.size))
      clear hb2 HPK HX1 HA2 d0 hlp hne
      cases bp with
      | false =>
       go_wp2_with fail
       go_roundw
       case rel => exact ⟨z + 1, h1, h2, by go_num, HX2.out⟩
       case measure => simp [RowKit.intOf]; omega
      | true =>
       have HA3 := Lib.hid (HA.out.below HX2.out)
       have hlp := load_mid HA3.out
       obtain ⟨S, hS⟩ : ∃ S, strP p = S := ⟨_, rfl⟩
       have hSz : S.size ≤ 8192 := by rw [← hS]; exact (pack_parts HBP.out).2.2
       have ht0 : takeS S = (p, (S.size : Int), 0) := by
        have := take_back ⟨#[]⟩ HBP.out
        rw [add_empty, hS] at this
        exact this
       have HBy := Lib.hid (PBytes_is p a S 0 w2 HA3.out.fit (HA3.out.rows.mono HX2.out.size) ((pack_yes HBP.out).1.trans hS) (pack_yes HBP.out).2)
       have HTk := Lib.hid (fun W => PTake_eq ht0 W (by omega))
       have HGD : Hid (goodP p = true) := by
        have hh := HBP.out
        rw [pack_good, Bool.and_eq_true] at hh
        exact Lib.hid hh.1
       have HNA := Lib.hid (fun z j v v' hz hj hv hx => near_ask (S := S) (z := z) (j := j) (v := v) (v' := v') HBP.out hS HOK.out hz hj hv hx)
       have HS := Lib.hid hS
       clear hS ht0
       go_wp2_with (refine wpList_load_any (by rfl) 30 (.tmp 55) rfl b (off + z * 26) rfl _ hlp ?_)
       refine HBy.out.mono ?_
       rintro e w3 ⟨rfl, hb3⟩
       have HX3 := Lib.hid (HX2.out.trans (hb3.mono HX2.out.size))
       clear hb3 HBy HX2 HA3 hlp
       go_wp2_with fail
       refine (HTk.out w3).mono ?_
       rintro e w4 ⟨a4, rfl, q1, q2, q3⟩
       have HX4 := Lib.hid (HX3.out.trans (q3.mono HX3.out.size))
       have HQ4 := Lib.hid q1
       clear q1 q2 q3 HTk HX3
       have hmb8 := made_below w4 (pkArr (zp 0) za) (pkArr p a4) 30
       have hmx8 := made_box w4 (pkArr (zp 0) za) (pkArr p a4) 30
       have hbn8 := Box.new w4 30 (pkArr (zp 0) za)
       obtain ⟨W8, hW8⟩ : ∃ W, w4.alloc (.cells (pkArr (zp 0) za) 30) = W := ⟨_, rfl⟩
       rw [hW8] at hmb8 hmx8 hbn8
       simp only [pkArr, zp, za, zw, List.length_nil] at hW8
       have HW8 := Lib.hid hW8
       obtain ⟨w5, hV8⟩ : ∃ W, W8.setRow w4.heap.size (pkArr p a4) = W := ⟨_, rfl⟩
       rw [hV8] at hmb8 hmx8
       obtain ⟨k8, hk8⟩ : ∃ k, w4.heap.size = k := ⟨_, rfl⟩
       rw [hk8] at hmx8 hbn8 hV8
       have HV8 := Lib.hid hV8
       have HMB8 := Lib.hid hmb8
       have HMX8 := Lib.hid hmx8
       have HBN8 := Lib.hid hbn8
       clear hmb8 hmx8 hbn8 hW8 hV8
       go_upto_region 9 with (rw [HW8.out]; refine wpList_store_whole rfl 30 (.tmp 8) (.tmp 63) rfl k8 (pkArr p a4) rfl rfl (pkArr (zp 0) za) HBN8.out info_pk rfl (one_pk _ _) ?_; simp only [Act.put])
       rw [HV8.out]
       clear hk8 HW8 HV8 HBN8
       have HX5 := Lib.hid (HX4.out.trans (HMB8.out.mono HX4.out.size))
       have HQ5 := Lib.hid ((HQ4.out.below HMB8.out).mono HMB8.out.size)
       clear HMB8 HX4 HQ4
       have HKS : Hid (KS w b (off + z * 26) k8 p a s a4 w5) := Lib.hid (KS.mk ⟨HMX8.out, HQ5.out, HA.out.below HX5.out, HX5.out⟩)
       have HRB := Lib.hid (fun (W : World) (h : KS w b (off + z * 26) k8 p a s a4 W) => HRY.out p a S W HKK.out (h.out.2.2.1.rows.mono h.out.2.2.2.size) HGD.out HS.out)
       have HEP := Lib.hid (fun (W : World) (h : KS w b (off + z * 26) k8 p a s a4 W) => EqPacket_self p a4 a W (fit_len HA.out.fit) h.out.2.1 (h.out.2.2.1.rows.mono h.out.2.2.2.size))
       have hlA := fun u : In (KS w b (off + z * 26) k8 p a s a4) => load_mid u.h.out.2.2.1
       have hl8 := fun u : In (KS w b (off + z * 26) k8 p a s a4) => load_bx u.h.out.1
       have st0 := HKS.out
       clear HKS HMX8 HQ5 HX5
       haveI : Nonempty (In (KS w b (off + z * 26) k8 p a s a4)) := ⟨⟨_, st0⟩⟩
       refine region_in (S := KS w b (off + z * 26) k8 p a s a4) (by kernel_rfl) (by kernel_rfl) (st0.drewN 1) ?_
       iterate 9 (go_big_quiet_step (first | (go_at_call 11; exact in_call ((num5 _ _).mono fun _ _ h => ⟨h.1, by rw [← h.2]; exact In.h _⟩))))
       go_big_quiet_want
       refine quiet_load_in 30 (.tmp 74) rfl b (off + z * 26) rfl _ hlA ?_
       go_simp
       go_big_quiet_on
       iterate 15 (go_big_quiet_step (first | (go_at_call 11; exact in_call ((num5 _ _).mono fun _ _ h => ⟨h.1, by rw [← h.2]; exact In.h _⟩)) | (go_at_call 10; exact in_call ((HRB.out _ (In.h _)).mono fun _ _ h => ⟨h.1, KS.below (In.h _) h.2⟩))))
       go_big_quiet_want
       refine quiet_load_in 30 (.tmp 8) rfl k8 0 rfl _ hl8 ?_
       go_simp
       go_big_quiet_on
       iterate 4 (go_big_quiet_step (fail))
       go_big_quiet_want
       refine quiet_load_in 30 (.tmp 95) rfl b (off + z * 26) rfl _ hlA ?_
       go_simp
       go_big_quiet_on
       repeat (go_big_quiet_step (first | (go_at_call 13; exact in_call ((HEP.out _ (In.h _)).mono fun _ _ h => ⟨h.1, KS.below (In.h _) h.2⟩))))
       refine wpQuiet_nil ?_
       rintro _ ⟨⟨w7, st7⟩, rfl⟩
       have HX7 := Lib.hid st7.out.2.2.2
       clear this st0 st7 hlA hl8 HRB HEP
       go_wp2_with fail
       go_loopw [11] (fun i wr => ∃ j : Nat, j ≤ S.size ∧ j ≤ 24 ∧ i = .int .i64 (j : Int) ∧ Below w.heap.size w wr) (fun i _ => 24 - (RowKit.intOf i).toNat)
       case atStart => exact ⟨0, Nat.zero_le _, by omega, rfl, HX7.out⟩
       case round =>
        obtain ⟨j, hjS, hj24, rfl, hnx⟩ := hrel
        clear HX7 HA HLI HBP HGD HS
        have HT := Lib.hid hnx
        clear hnx
        by_cases hag : j < S.size ∧ j < 24
        ·obtain ⟨ha1, ha2⟩ := hag
         have haI : (j : Int) < (S.size : Int) := by omega
         have ha24' : (j : Int) < 24 := by omega
         obtain ⟨cx, w5, hcv, hrow, hbel⟩ := row_conv S wr
         have HR5 := Lib.hid hrow
         have hal : j < S.data.toList.length := by rw [Array.length_toList]; exact ha1
         obtain ⟨f0, f1⟩ := hrow.2 j hal
         obtain ⟨v, hv⟩ : ∃ v, S.data.toList.getD j 0 = v := ⟨_, rfl⟩
         rw [hv] at f0
         have HG := Lib.hid HT.out.size
         obtain ⟨v', hv', hvx⟩ : ∃ v' : UInt8, bits .xor .u8 ((v.toNat : Nat) : Int) (1 + ((z : Int) * 37 + (j : Int) * 11) % 255) = ((v'.toNat : Nat) : Int) ∧ v'.toNat = v.toNat ^^^ (1 + (z * 37 + j * 11) % 255) := by
          have e := xor_at v (1 + (z * 37 + j * 11) % 255) (by omega)
          obtain ⟨v', e1, e2⟩ := e
          refine ⟨v', ?_, e2⟩
          rw [← e1]
          congr 1
         have HR6 := Lib.hid (hrow.put j v')
         have HB6 := Lib.hid (hbel.setCell (p := ⟨wr.heap.size, j, none⟩) (Nat.le_refl _) (.int .u8 ((v'.toNat : Nat) : Int)))
         have hlen : (S.data.toList.set j v').length = S.size := by rw [List.length_set, Array.length_toList]; rfl
         have HCV := Lib.hid (fun (W : World) (h : RowOf W wr.heap.size (S.data.toList.set j v')) => h.conv (c := cx) hlen)
         have hUz : (ByteArray.mk (S.data.toList.set j v').toArray).size ≤ 268435456 := by rw [row_size, hlen]; omega
         have hna : NoAsk (ByteArray.mk (S.data.toList.set j v').toArray) := HNA.out z j v v' h2 ha1 hv hvx
         obtain ⟨U, hU⟩ : ∃ U, ByteArray.mk (S.data.toList.set j v').toArray = U := ⟨_, rfl⟩
         rw [hU] at HCV hUz hna
         obtain ⟨q, m, E, hE⟩ : ∃ q m E, takeS U = (q, m, E) := ⟨_, _, _, rfl⟩
         have hqs : Few q := by have := take_few U; rw [hE] at this; exact this
         have HQS := Lib.hid (few_len hqs)
         have HTk := Lib.hid (fun W => PTake_eq hE W hUz)
         have HRT := Lib.hid (fun W => RTake_eq hE W hna hUz)
         have hcv2 := HCV.out _ HR6.out
         clear hrow hbel hv hal hU hlen hE HR5 hvx hna hqs hUz
         go_wp2_with fail
         refine (HTk.out _).mono ?_
         rintro e w6 ⟨a6, rfl, q1, q2, q3⟩
         have HQ6 := Lib.hid q1
         have HR7 := Lib.hid (HR6.out.below q3)
         have HB7 := Lib.hid (HB6.out.trans (q3.mono HB6.out.size))
         clear q1 q2 q3 hcv2 hcv f0 f1 hv' HTk HR6 HB6
         have hmb13 := made_below w6 (pkArr (zp 0) za) (pkArr q a6) 30
         have hmx13 := made_box w6 (pkArr (zp 0) za) (pkArr q a6) 30
         have hbn13 := Box.new w6 30 (pkArr (zp 0) za)
         obtain ⟨W13, hW13⟩ : ∃ W, w6.alloc (.cells (pkArr (zp 0) za) 30) = W := ⟨_, rfl⟩
         rw [hW13] at hmb13 hmx13 hbn13
         simp only [pkArr, zp, za, zw, List.length_nil] at hW13
         have HW13 := Lib.hid hW13
         obtain ⟨w8, hV13⟩ : ∃ W, W13.setRow w6.heap.size (pkArr q a6) = W := ⟨_, rfl⟩
         rw [hV13] at hmb13 hmx13
         obtain ⟨k13, hk13⟩ : ∃ k, w6.heap.size = k := ⟨_, rfl⟩
         rw [hk13] at hmx13 hbn13 hV13
         have HV13 := Lib.hid hV13
         have HMB13 := Lib.hid hmb13
         have HMX13 := Lib.hid hmx13
         have HBN13 := Lib.hid hbn13
         clear hmb13 hmx13 hbn13 hW13 hV13
         go_upto_region 17 with (rw [HW13.out]; refine wpList_store_whole rfl 30 (.tmp 13) (.tmp 132) rfl k13 (pkArr q a6) rfl rfl (pkArr (zp 0) za) HBN13.out info_pk rfl (one_pk _ _) ?_; simp only [Act.put])
         rw [HV13.out]
         clear hk13 HW13 HV13 HBN13
         have HR8 := Lib.hid (HR7.out.below HMB13.out)
         have HQ8 := Lib.hid ((HQ6.out.below HMB13.out).mono HMB13.out.size)
         have HB8 := Lib.hid (HB7.out.trans (HMB13.out.mono HB7.out.size))
         clear HR7 HQ6 HB7 HMB13
         have hcv3 := HCV.out _ HR8.out
         go_wp2_with fail
         refine (HRT.out _).mono ?_
         rintro e w9 ⟨a9, rfl, r1, r2, r3⟩
         have HQ9 := Lib.hid r1
         have HQ10 := Lib.hid ((HQ8.out.below r3).mono r3.size)
         have HX13 := Lib.hid (HMX13.out.below r3)
         have HB9 := Lib.hid (HB8.out.trans (r3.mono HB8.out.size))
         clear r1 r2 r3 hcv3 HRT HCV HR8 HQ8 HB8 HMX13
         have hmb16 := made_below w9 (pkArr (zp 0) za) (pkArr q a9) 30
         have hmx16 := made_box w9 (pkArr (zp 0) za) (pkArr q a9) 30
         have hbn16 := Box.new w9 30 (pkArr (zp 0) za)
         obtain ⟨W16, hW16⟩ : ∃ W, w9.alloc (.cells (pkArr (zp 0) za) 30) = W := ⟨_, rfl⟩
         rw [hW16] at hmb16 hmx16 hbn16
         simp only [pkArr, zp, za, zw, List.length_nil] at hW16
         have HW16 := Lib.hid hW16
         obtain ⟨w11, hV16⟩ : ∃ W, W16.setRow w9.heap.size (pkArr q a9) = W := ⟨_, rfl⟩
         rw [hV16] at hmb16 hmx16
         obtain ⟨k16, hk16⟩ : ∃ k, w9.heap.size = k := ⟨_, rfl⟩
         rw [hk16] at hmx16 hbn16 hV16
         have HV16 := Lib.hid hV16
         have HMB16 := Lib.hid hmb16
         have HMX16 := Lib.hid hmx16
         have HBN16 := Lib.hid hbn16
         clear hmb16 hmx16 hbn16 hW16 hV16
         go_upto_region 18 with (rw [HW16.out]; refine wpList_store_whole rfl 30 (.tmp 16) (.tmp 139) rfl k16 (pkArr q a9) rfl rfl (pkArr (zp 0) za) HBN16.out info_pk rfl (one_pk _ _) ?_; simp only [Act.put])
         rw [HV16.out]
         clear hk16 HW16 HV16 HBN16
         have HQ11 := Lib.hid ((HQ9.out.below HMB16.out).mono HMB16.out.size)
         have HQ12 := Lib.hid ((HQ10.out.below HMB16.out).mono HMB16.out.size)
         have hld13 := load_bx (HX13.out.below HMB16.out)
         have hld16 := load_bx HMX16.out
         have HB10 := Lib.hid (HB9.out.trans (HMB16.out.mono HB9.out.size))
         clear HQ9 HQ10 HX13 HB9 HMB16 HMX16
         go_wp2_with (first | (go_at_call 11; refine (num5 _ _).mono ?_; rintro e w' ⟨rfl, rfl⟩) | (refine wpList_load_any (by rfl) 30 (.tmp 13) rfl k13 0 rfl _ hld13 ?_) | (refine wpList_load_any (by rfl) 30 (.tmp 16) rfl k16 0 rfl _ hld16 ?_))
         refine (EqPacket_self q a6 a9 _ HQS.out HQ12.out HQ11.out).mono ?_
         rintro e w12 ⟨rfl, hb12⟩
         have HT8 := Lib.hid (HT.out.trans ((HB10.out.trans (hb12.mono HB10.out.size)).mono HG.out))
         clear hb12 HB10 HT HG HQ11 HQ12 hld13 hld16 HQS
         go_wp2_with fail
         go_roundw
         case rel => exact ⟨j + 1, ha1, ha2, by go_num, HT8.out⟩
         case measure => simp [RowKit.intOf]; omega
        ·by_cases hx : j < S.size
         ·have haI : (j : Int) < (S.size : Int) := by omega
          have hd24 : decide ((j : Int) < 24) = false := by simp; omega
          go_wp2_with fail
          go_roundw
          case rel => exact ⟨z + 1, h1, h2, by go_num, HT.out⟩
          case measure => simp [RowKit.intOf]; omega
         ·have hdT : decide ((j : Int) < (S.size : Int)) = false := by simp; omega
          go_wp2_with fail
          go_roundw
          case rel => exact ⟨z + 1, h1, h2, by go_num, HT.out⟩
          case measure => simp [RowKit.intOf]; omega
     ·have hne : (p.kind != k) = true := by simp [hkk]
      go_wp2_with fail
      go_roundw
      case rel => exact ⟨z + 1, h1, h2, by go_num, HX1.out⟩
      case measure => simp [RowKit.intOf]; omega
  ·go_wp2_with (go_at_call 14; refine (wakes_any _).mono ?_; rintro e w1 ⟨rfl, hb1⟩)
   all_goals (go_ret; exact ⟨rfl, hnx.trans (hb1.mono hnx.size)⟩)
end Go.Proofs.YtdbbcfohjkgdcaaGreat
