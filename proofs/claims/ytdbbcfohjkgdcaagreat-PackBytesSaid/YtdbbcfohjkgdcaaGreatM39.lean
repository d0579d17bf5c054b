/- For every list of asks: whether a packet may be, and its bytes, are what the document says, or it is refused; what was handed in stays. No condition. -/
import Derived.Test.YtdbbcfohjkgdcaaGreatM00
import Derived.Test.YtdbbcfohjkgdcaaGreatM38
set_option maxRecDepth 100000
set_option maxHeartbeats 64000000
namespace Go.Proofs.YtdbbcfohjkgdcaaGreat
open Go.RowKit Go.Lib Prp Pkt Vbi
theorem fit_cap {p : Pk} {a a' : Ad} (h : PkFit p a) (c : PkCap p a') : PkFit p a' :=
 { h with cl1 := ⟨h.cl1.1, c.cs⟩, fl1 := ⟨h.fl1.1, c.fs⟩, wl1 := ⟨h.wl1.1, c.ws⟩, pl1 := ⟨h.pl1.1, c.ps⟩ }
theorem PackBytes_any (A : Option Addr) (n c : Nat) (w : World) (h : AsksR w A n) :
  Calls Tryz.prog 3 #[.slice A n c] w fun e w' => e = .returned (.bool true) ∧ Below w.heap.size w w' := by
 have H := Lib.hid h
 clear h
 go_enter Tryz.func3, Tryz.ntmps3
 go_wp2_with fail
 go_loopw [3] (fun i wr => ∃ z : Nat, z ≤ n ∧ z ≤ 8 ∧ i = .int .i64 (z : Int) ∧ Below w.heap.size w wr) (fun i _ => 8 - (RowKit.intOf i).toNat)
 case atStart => exact ⟨0, Nat.zero_le _, by omega, rfl, Below.refl _ _⟩
 case round =>
  obtain ⟨z, hzn, hz8, rfl, hnx⟩ := hrel
  by_cases hgo : z < n ∧ z < 8
  ·obtain ⟨h1, h2⟩ := hgo
   rcases H.out with h0 | ⟨b, off, rfl, hall⟩
   ·omega
   ·obtain ⟨p, a, s, ha, hr⟩ := hall z h1
    have HA := Lib.hid ha
    have HR := Lib.hid hr
    have HX := Lib.hid hnx
    have HA1 := Lib.hid (ha.below hnx)
    clear hall ha hr hnx H
    have hzI : (z : Int) < (n : Int) := by omega
    have hz8' : (z : Int) < 8 := by omega
    have hla := load_ask HA1.out
    have HV := Lib.hid (heavy_is p a s wr HA1.out.fit (HA1.out.rows.mono HX.out.size))
    go_wp2_with (refine wpList_load_any (by rfl) 32 (.tmp 21) rfl b (off + z * 26) rfl _ hla ?_)
    refine HV.out.mono ?_
    rintro e w1 ⟨bh, rfl, _, hb1⟩
    have HX1 := Lib.hid (HX.out.trans (hb1.mono HX.out.size))
    clear hb1 HV HX HA1 hla
    cases bh with
    | true =>
     go_wp2_with fail
     go_ret
     exact ⟨rfl, HX1.out⟩
    | false =>
     have HA2 := Lib.hid (HA.out.below HX1.out)
     have hlp := load_mid HA2.out
     have HC := Lib.hid (CopyPacket_is p a w1 HR.out HA2.out.fit (HA2.out.rows.mono HX1.out.size))
     go_wp2_with (refine wpList_load_any (by rfl) 30 (.tmp 27) rfl b (off + z * 26) rfl _ hlp ?_)
     refine HC.out.mono ?_
     rintro e w2 ⟨a4, rfl, q1, q2, hb2⟩
     have HX2 := Lib.hid (HX1.out.trans (hb2.mono HX1.out.size))
     have HQ2 := Lib.hid q1
     have HFQ := Lib.hid (fit_cap HA.out.fit q2)
     clear q1 q2 hb2 HC HX1 HA2 hlp
     have hmb := made_below w2 (pkArr (zp 0) za) (pkArr p a4) 30
     have hmx := made_box w2 (pkArr (zp 0) za) (pkArr p a4) 30
     have hbn := Box.new w2 30 (pkArr (zp 0) za)
     obtain ⟨W3, hW⟩ : ∃ W, w2.alloc (.cells (pkArr (zp 0) za) 30) = W := ⟨_, rfl⟩
     rw [hW] at hmb hmx hbn
     simp only [pkArr, zp, za, zw, List.length_nil] at hW
     have HW := Lib.hid hW
     obtain ⟨w3, hV⟩ : ∃ W, W3.setRow w2.heap.size (pkArr p a4) = W := ⟨_, rfl⟩
     rw [hV] at hmb hmx
     obtain ⟨k4, hk4⟩ : ∃ k, w2.heap.size = k := ⟨_, rfl⟩
     rw [hk4] at hmx hbn hV
     have HVV := Lib.hid hV
     have HMB := Lib.hid hmb
     have HMX := Lib.hid hmx
     have HBN := Lib.hid hbn
     clear hmb hmx hbn hW hV
     go_upto_region 7 with (rw [HW.out]; refine wpList_store_whole rfl 30 (.tmp 4) (.tmp 29) rfl k4 (pkArr p a4) rfl rfl (pkArr (zp 0) za) HBN.out info_pk rfl (one_pk _ _) ?_; simp only [Act.put])
     rw [HVV.out]
     clear hk4 HW HVV HBN
     have HX3 := Lib.hid (HX2.out.trans (HMB.out.mono HX2.out.size))
     have HQ3 := Lib.hid ((HQ2.out.below HMB.out).mono HMB.out.size)
     clear HMB HX2 HQ2
     have HKS : Hid (KS w b (off + z * 26) k4 p a s a4 w3) := Lib.hid (KS.mk ⟨HMX.out, HQ3.out, HA.out.below HX3.out, HX3.out⟩)
     clear HMX HQ3 HX3
     obtain ⟨bp, hbp⟩ : ∃ x, packB p = x := ⟨_, rfl⟩
     have HRP := Lib.hid (fun (W : World) (h : KS w b (off + z * 26) k4 p a s a4 W) => RPacket_any p a bp W HA.out.fit (h.out.2.2.1.rows.mono h.out.2.2.2.size) hbp)
     have HEP := Lib.hid (fun (W : World) (h : KS w b (off + z * 26) k4 p a s a4 W) => EqPacket_self p a4 a W (fit_len HA.out.fit) h.out.2.1 (h.out.2.2.1.rows.mono h.out.2.2.2.size))
     have hlA := fun u : In (KS w b (off + z * 26) k4 p a s a4) => load_mid u.h.out.2.2.1
     have hl4 := fun u : In (KS w b (off + z * 26) k4 p a s a4) => load_bx u.h.out.1
     cases bp with
     | true =>
      obtain ⟨S, hS⟩ : ∃ S, strP p = S := ⟨_, rfl⟩
      have hSz : S.size ≤ 8192 := by rw [← hS]; exact (pack_parts hbp).2.2
      have HBy := Lib.hid (PBytes_is p a4 S 0 w3 HFQ.out HKS.out.out.2.1 ((pack_yes hbp).1.trans hS) (pack_yes hbp).2)
      have HCk := Lib.hid (fun (W : World) (h : KS w b (off + z * 26) k4 p a s a4 W) => PCheck_is p a4 0 W HFQ.out h.out.2.1 (pack_yes hbp).2)
      have HRB := Lib.hid (fun (W : World) (h : KS w b (off + z * 26) k4 p a s a4 W) => RBytes_any p a S W (h.out.2.2.1.rows.mono h.out.2.2.2.size) hbp hS)
      clear hbp hS
      have hl := load_bx HKS.out.out.1
      go_wp2_with (refine wpList_load_any (by rfl) 30 (.tmp 4) rfl k4 0 rfl _ hl ?_)
      refine HBy.out.mono ?_
      rintro e w4 ⟨rfl, hb4⟩
      have HK4 := Lib.hid (HKS.out.below hb4)
      clear hb4 HBy HKS hl
      have hl := load_mid HK4.out.out.2.2.1
      go_wp2_with (refine wpList_load_any (by rfl) 30 (.tmp 38) rfl b (off + z * 26) rfl _ hl ?_)
      refine (HRP.out _ HK4.out).mono ?_
      rintro e w5 ⟨rfl, hb5⟩
      have HK5 := Lib.hid (HK4.out.below hb5)
      clear hb5 HRP HK4 hl
      have hl := load_mid HK5.out.out.2.2.1
      go_wp2_with (refine wpList_load_any (by rfl) 30 (.tmp 44) rfl b (off + z * 26) rfl _ hl ?_)
      refine (HRB.out _ HK5.out).mono ?_
      rintro e w6 ⟨rfl, hb6⟩
      have HK6 := Lib.hid (HK5.out.below hb6)
      clear hb6 HRB HK5 hl
      go_upto_region 11 with fail
      have st0 := HK6.out
      clear HK6
      haveI : Nonempty (In (KS w b (off + z * 26) k4 p a s a4)) := ⟨⟨_, st0⟩⟩
      refine region_in (S := KS w b (off + z * 26) k4 p a s a4) (by kernel_rfl) (by kernel_rfl) (st0.drewN 1) ?_
      go_big_quiet_want
      refine quiet_load_in 30 (.tmp 4) rfl k4 0 rfl _ hl4 ?_
      go_simp
      go_big_quiet_on
      iterate 16 (go_big_quiet_step (first | (go_at_call 11; exact in_call ((num5 _ _).mono fun _ _ h => ⟨h.1, by rw [← h.2]; exact In.h _⟩)) | (go_at_call 12; exact in_call ((HCk.out _ (In.h _)).mono fun _ _ h => ⟨h.1, KS.below (In.h _) h.2⟩))))
      go_big_quiet_want
      refine quiet_load_in 30 (.tmp 4) rfl k4 0 rfl _ hl4 ?_
      go_simp
      go_big_quiet_on
      iterate 4 (go_big_quiet_step (fail))
      go_big_quiet_want
      refine quiet_load_in 30 (.tmp 68) rfl b (off + z * 26) rfl _ hlA ?_
      go_simp
      go_big_quiet_on
      repeat (go_big_quiet_step (first | (go_at_call 13; exact in_call ((HEP.out _ (In.h _)).mono fun _ _ h => ⟨h.1, KS.below (In.h _) h.2⟩))))
      refine wpQuiet_nil ?_
      rintro _ ⟨⟨w7, st7⟩, rfl⟩
      have HX7 := Lib.hid st7.out.2.2.2
      clear this st0 st7 hlA hl4 HEP HCk
      go_wp2_with fail
      go_roundw
      case rel => exact ⟨z + 1, h1, h2, by go_num, HX7.out⟩
      case measure => simp [RowKit.intOf]; omega
     | false =>
      have HBy := Lib.hid (PBytes_is p a4 ⟨#[]⟩ 1 w3 HFQ.out HKS.out.out.2.1 (pack_no hbp).1 (pack_no hbp).2)
      have HCk := Lib.hid (fun (W : World) (h : KS w b (off + z * 26) k4 p a s a4 W) => PCheck_is p a4 1 W HFQ.out h.out.2.1 (pack_no hbp).2)
      clear hbp
      have hl := load_bx HKS.out.out.1
      go_wp2_with (refine wpList_load_any (by rfl) 30 (.tmp 4) rfl k4 0 rfl _ hl ?_)
      refine HBy.out.mono ?_
      rintro e w4 ⟨rfl, hb4⟩
      have HK4 := Lib.hid (HKS.out.below hb4)
      clear hb4 HBy HKS hl
      have hl := load_mid HK4.out.out.2.2.1
      go_wp2_with (refine wpList_load_any (by rfl) 30 (.tmp 38) rfl b (off + z * 26) rfl _ hl ?_)
      refine (HRP.out _ HK4.out).mono ?_
      rintro e w5 ⟨rfl, hb5⟩
      have HK6 := Lib.hid (HK4.out.below hb5)
      clear hb5 HRP HK4 hl
      go_upto_region 11 with fail
      have st0 := HK6.out
      clear HK6
      haveI : Nonempty (In (KS w b (off + z * 26) k4 p a s a4)) := ⟨⟨_, st0⟩⟩
      refine region_in (S := KS w b (off + z * 26) k4 p a s a4) (by kernel_rfl) (by kernel_rfl) (st0.drewN 1) ?_
      go_big_quiet_want
      refine quiet_load_in 30 (.tmp 4) rfl k4 0 rfl _ hl4 ?_
      go_simp
      go_big_quiet_on
      iterate 16 (go_big_quiet_step (first | (go_at_call 11; exact in_call ((num5 _ _).mono fun _ _ h => ⟨h.1, by rw [← h.2]; exact In.h _⟩)) | (go_at_call 12; exact in_call ((HCk.out _ (In.h _)).mono fun _ _ h => ⟨h.1, KS.below (In.h _) h.2⟩))))
      go_big_quiet_want
      refine quiet_load_in 30 (.tmp 4) rfl k4 0 rfl _ hl4 ?_
      go_simp
      go_big_quiet_on
      iterate 4 (go_big_quiet_step (fail))
      go_big_quiet_want
      refine quiet_load_in 30 (.tmp 68) rfl b (off + z * 26) rfl _ hlA ?_
      go_simp
      go_big_quiet_on
      repeat (go_big_quiet_step (first | (go_at_call 13; exact in_call ((HEP.out _ (In.h _)).mono fun _ _ h => ⟨h.1, KS.below (In.h _) h.2⟩))))
      refine wpQuiet_nil ?_
      rintro _ ⟨⟨w7, st7⟩, rfl⟩
      have HX7 := Lib.hid st7.out.2.2.2
      clear this st0 st7 hlA hl4 HEP HCk
      go_wp2_with fail
      go_roundw
      case rel => exact ⟨z + 1, h1, h2, by go_num, HX7.out⟩
      case measure => simp [RowKit.intOf]; omega
  ·go_wp2_with (go_at_call 14; refine (wakes_any _).mono ?_; rintro e w1 ⟨rfl, hb1⟩)
   all_goals (go_ret; exact ⟨rfl, hnx.trans (hb1.mono hnx.size)⟩)
end Go.Proofs.YtdbbcfohjkgdcaaGreat
namespace Go.Proofs.YtdbbcfohjkgdcaaGreat.packBytes
open Go.ChangeShapes Go.WideShapes Go.ChangeAt Go.RowKit
theorem lifted (os : Os) (started : os.Started) (H : Type) (enc : TypeId × Value → H) :
  ReturnsInHanded {} Tryz.checked os 3 .any (Rows.packBytesSpec.pre6 enc Tryz.prog Tryz.f3 Rows.packBytesRow.domain false) (Rows.packBytesSpec.post enc Tryz.prog Tryz.f3 false true false false) := by
 refine returnsInHanded_of_change_sized (C := Tryz.checked) ownKnob_none started (by kernel_rfl) Tryz.func3
  (ChangeSpec.witness6 (enc := enc) (C := Tryz.checked) false ⟨#[], #[.slice none 0 0], []⟩ 8 (by kernel_rfl) (by kernel_rfl) (by kernel_rfl) (by kernel_rfl)) ?_
 intro W base args ds gs before hval0 hW _ hsz0 _
 have hval : ∀ (j : Nat) t v, Tryz.f3.params[j]? = some t → args[j]? = some v → Value.okWide Tryz.prog W .any base t v := hval0
 have hW' := hW
 obtain ⟨p, q, hA0, hV, rfl, _, _⟩ := hW
 have hA : DataW.TrodAll enc Tryz.prog W 0 (fun _ => true) true Tryz.f3.params.toList args.toList ds p := hA0
 rw [Tryz.params3] at hA hval
 obtain ⟨v0, d0, rfl, rfl, h0⟩ := trodAll_one hA
 obtain ⟨rfl, rfl⟩ := trodVars_none hV
 obtain ⟨a0, n0, c0, rfl⟩ := okWide_slice Tryz.underlying22 (hval 0 22 v0 rfl rfl)
 have lt0 : ∀ x ∈ p, x.block < W.heap.size := by obtain ⟨m, hm⟩ := h0; exact DataW.trod_lt m _ _ _ hm
 have near : Near 22 d0 := fun n hn => by
  have := List.all_eq_true.1 hsz0 n (DataW.weights_mem_each (j := 0) (t := 22) (d := d0) (by rw [Tryz.params3]; rfl) rfl n hn)
  simpa using this
 clear hA0 hval0
 refine (PackBytes_any a0 n0 c0 W (asks2_of_trod near h0)).mono fun e W' ⟨he, bel⟩ => ?_
 subst he
 exact ⟨_, rfl, _, _, _, [], _, [], hW', trodAll_mk1 (shut_bool Tryz.underlying4 _), trodAll_mk1 (Below.trod laidOut_true (by kernel_rfl) (of_decide_eq_true (by kernel_rfl)) h0 bel lt0), rfl, bel.frame _, fun h => by cases h⟩
theorem closed : joinedFacts Tryz.prog 3 Tryz.f3 Rows.packBytesSpec Rows.packBytesRow = true := by
 unfold joinedFacts
 iterate 31 (refine andI ?_ (by as_aux_lemma => kernel_rfl))
 as_aux_lemma => kernel_rfl
theorem over : Rows.packBytesRow.holds Tryz.pinned (OpenSpec.ofChange Rows.packBytesSpec) :=
 OpenClaim.holds_of_wide 3 Tryz.f3 rfl rfl rfl rfl rfl rfl rfl ⟨rfl, rfl, rfl, rfl, rfl⟩ rfl rfl rfl rfl rfl (by as_aux_lemma => kernel_rfl) Tryz.func3 closed
  (of_decide_eq_true (by as_aux_lemma => kernel_rfl)) (by unfold Func.isWrapper; rw [if_neg (of_decide_eq_false (by as_aux_lemma => kernel_rfl))]; exact ⟨rfl, rfl⟩)
  (fun os started H enc _ => lifted os started H enc)
theorem proved : Rows.PackBytesSaid := over
#print axioms proved
end Go.Proofs.YtdbbcfohjkgdcaaGreat.packBytes
