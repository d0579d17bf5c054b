/- The document's own: all behind a packet's length: nothing. -/
import Derived.Test.YtdbbcfohjkgdcaaGreatL00
import Derived.Test.YtdbbcfohjkgdcaaGreatL25
set_option maxRecDepth 100000
set_option maxHeartbeats 64000000
namespace Go.Proofs.YtdbbcfohjkgdcaaGreat
open Go.RowKit Go.Lib Prp Pkt Vbi
theorem rbody_codes (kd fl z : Int) (s : ByteArray) (w : World) (hk : kd = 9 ∨ kd = 11) (hrf : rflagsZ (zp kd) = fl) (hfl : flagsZ (zp kd) = fl) (hz0 : 0 ≤ z) (hz1 : z ≤ 15) (hs : s.size ≤ 268435456) :
  Calls Tryz.prog 84 #[.int .i64 kd, .int .i64 z, .string s] w (GivesBody (bodyS (16 * kd + z) s) w) := by
 have HRF := Lib.hid hrf
 have HFL := Lib.hid hfl
 have HKD : Hid ((kd = 9 ∨ kd = 11) ∧ kd ≠ 0 ∧ kd ≠ 3 ∧ (∀ st, partsS (zp kd) st = codesS (zp kd) st) ∧ placeB kd = true) :=
  ⟨hk, by omega, by omega, by rcases hk with rfl | rfl <;> exact fun _ => rfl, by rcases hk with rfl | rfl <;> rfl⟩
 have e0 : (kd == 0) = false := ne_false (by omega)
 have e1 : (kd == 1) = false := ne_false (by omega)
 have e2 : (kd == 2) = false := ne_false (by omega)
 have e3 : (kd == 3) = false := ne_false (by omega)
 have e4 : (kd == 4) = false := ne_false (by omega)
 have e5 : (kd == 5) = false := ne_false (by omega)
 have e6 : (kd == 6) = false := ne_false (by omega)
 have e7 : (kd == 7) = false := ne_false (by omega)
 have e8 : (kd == 8) = false := ne_false (by omega)
 have e10 : (kd == 10) = false := ne_false (by omega)
 have e12 : (kd == 12) = false := ne_false (by omega)
 have e13 : (kd == 13) = false := ne_false (by omega)
 have e14 : (kd == 14) = false := ne_false (by omega)
 have e15 : (kd == 15) = false := ne_false (by omega)
 have hcase : (kd == 9) = true ∨ ((kd == 9) = false ∧ (kd == 11) = true) := by
  rcases hk with rfl | rfl <;> decide
 clear hk hrf hfl
 rcases hcase with g4 | ⟨g4, g5⟩
 all_goals
  have HF0 := hz0
  have HFB := Lib.hid HF0
  have HZ := Lib.hid hs
  have hb0 := Box.new w 30 (pkArr (zp 0) za)
  have ha := (Below.refl w.heap.size w).alloc (Nat.le_refl _) (.cells (pkArr (zp 0) za) 30)
  obtain ⟨W1, hW⟩ : ∃ W1, w.alloc (.cells (pkArr (zp 0) za) 30) = W1 := ⟨_, rfl⟩
  rw [hW] at hb0 ha
  simp only [pkArr, zp, za, zw, List.length_nil] at hW
  have HW := Lib.hid hW
  have HK0 := Lib.hid hb0
  have HA := Lib.hid ha
  clear hW hb0 ha HF0
  go_enter Tryz.func84, Tryz.ntmps84
  go_upto_region 1 with fail
  rw [HW.out]
  clear HW
  obtain ⟨k0, hk0⟩ : ∃ k, w.heap.size = k := ⟨_, rfl⟩
  have HQ9 := Lib.hid hk0
  rw [hk0] at HK0 ⊢
  clear hk0
  have hkl := HK0.out.lt
  have hb0 := Box.new W1 30 (pkArr (zp 0) za)
  have ha := (Below.refl W1.heap.size W1).alloc (Nat.le_refl _) (.cells (pkArr (zp 0) za) 30)
  obtain ⟨W2, hW⟩ : ∃ W2, W1.alloc (.cells (pkArr (zp 0) za) 30) = W2 := ⟨_, rfl⟩
  rw [hW] at hb0 ha
  simp only [pkArr, zp, za, zw, List.length_nil] at hW
  have HW := Lib.hid hW
  obtain ⟨h, hh⟩ : ∃ h, W1.heap.size = h := ⟨_, rfl⟩
  rw [hh] at hb0 ha hkl
  have HB2 := Lib.hid hb0
  have HA2 := Lib.hid ha
  have HH := Lib.hid hh
  clear hW hb0 ha
  go_upto_region 2 with (first | (refine wpList_build_kind rfl (.tmp 14) rfl kd rfl ?_) | (rw [HW.out]; refine wpList_store_whole rfl 30 (.tmp 8) (.tmp 15) rfl h (pkArr (zp kd) za) rfl rfl (pkArr (zp 0) za) HB2.out info_pk rfl (one_pk _ _) ?_; simp only [Act.put]))
  have HB3 := Lib.hid (HB2.out.row (pkArr (zp kd) za))
  have HA3 := Lib.hid ((Bar.row h W2 (pkArr (zp kd) za)).below HA2.out (Nat.le_refl _) (by have := HA2.out.size; omega))
  clear HW HB2 HA2 hh
  generalize World.setRow _ _ _ = W3 at HB3 HA3 ⊢
  have hhl := HB3.out.lt
  go_upto_region 3 with fail
  have hr4 : RdOf false (W3.alloc (.cells #[.string s, .int .i64 0] 154)) W3.heap.size (.ok s) := ⟨Box.new W3 154 #[.string s, .int .i64 0], HZ.out⟩
  have ha4 := (Below.refl W3.heap.size W3).alloc (Nat.le_refl _) (.cells #[.string s, .int .i64 0] 154)
  obtain ⟨g, hg⟩ : ∃ g, W3.heap.size = g := ⟨_, rfl⟩
  rw [hg] at hr4 hhl ⊢
  have HL4 := Lib.hid (Live.mk (x := false) (B := h) (w0 := W1) (g := g) (h := h) (st := .ok s) (p := zp kd) (a := za) ⟨HA3.out.alloc (by omega) _, by omega, Nat.le_refl _, by omega, hr4, HB3.out.below (ha4.mono (by omega)), PkAt.zero' _ _ _ ⟨rfl, rfl, rfl, rfl⟩, .zero g, .zero h, PkCap.zero' _ ⟨rfl, rfl, rfl, rfl⟩, .zero h⟩)
  clear hr4 ha4 HA3 HB3 hg HZ
  generalize W3.alloc _ = W4 at HL4 ⊢
  have hld := load_bx HL4.out.bx
  go_wp2_with (refine wpList_load_any (by rfl) 30 (.tmp 8) rfl h 0 rfl _ hld ?_)
  refine (rflags_is (zp kd) za fl W4 (Int.le_refl 0) (show (0 : Int) ≤ 3 by decide) HRF.out).mono ?_
  rintro r w5 ⟨rfl, q1⟩
  have HL5 := Lib.hid (HL4.out.bar (Bar.of g q1) (HL4.out.rd.below q1))
  have HK5 : Hid (Box w5 k0 (pkArr (zp 0) za)) := Lib.hid (HK0.out.below (HL5.out.b.mono (by have := HH.out; omega)))
  have HB5 := Lib.hid (HA.out.trans (HL5.out.b.mono (by have := HQ9.out; omega)))
  clear q1 hld HL4
  by_cases hzf : z = fl
  ·subst hzf
   have HRB := Lib.hid (body_good kd z s HKD.out.2.1 HKD.out.2.2.1 trivial hz0 hz1 HFL.out)
   clear HK5 HB5 HFB
   obtain ⟨R, hR⟩ : ∃ R, partsS (zp kd) (.ok s) = R := ⟨_, rfl⟩
   rw [hR] at HRB
   obtain ⟨n, hn⟩ : ∃ n, ((St.ok s).run (fixR 2)).val 0 = n := ⟨_, rfl⟩
   obtain ⟨s0, hs0⟩ : ∃ x, ((St.ok s).run (fixR 2)).st = x := ⟨_, rfl⟩
   have HO1 : Calls Tryz.prog 105 #[.pointer (some ⟨g, 0, none⟩), .int .i64 2] w5 fun r w' => r = .returned (.int .i64 n) ∧ RdOf false w' g s0 ∧ Bar g w5 w' := by
    rw [← hn, ← hs0]
    exact fixed_st g 2 (.ok s) w5 (by decide) HL5.out.rd
   obtain ⟨bn, hbn⟩ : ∃ b, decide (0 < n) = b := ⟨_, rfl⟩
   obtain ⟨st2, hst2⟩ : ∃ x, s0.want bn 8 = x := ⟨_, rfl⟩
   have hnv : ((St.ok s).run numberR).val 0 = n := (number_val _).trans hn
   have hns : ((St.ok s).run numberR).st = st2 := by rw [number_st, hn, hs0, hbn, hst2]
   obtain ⟨L, hL⟩ : ∃ L, (st2.run (propsR kd)).val [] = L := ⟨_, rfl⟩
   obtain ⟨s2, hs2⟩ : ∃ x, (st2.run (propsR kd)).st = x := ⟨_, rfl⟩
   obtain ⟨F, hF⟩ : ∃ F, s2.run (manyR octetR 5 []) = F := ⟨_, rfl⟩
   have HRR : Hid (R = ({ zp kd with id := n, ps := L, cs := F.val [] }, F.st)) := by show _ = _; rw [← hR, HKD.out.2.2.2.1, ← hF, ← hs2, ← hL, ← hnv, ← hns]; rfl
   have HP0 := fun (W : World) (hr : RdOf false W g st2) => props_st g kd st2 W HKD.out.2.2.2.2 hr
   rw [hL, hs2] at HP0
   have HP := Lib.hid HP0
   have HCS0 := codes_start s2
   rw [hF] at HCS0
   have HCS := Lib.hid HCS0
   clear HP0 HCS0 hL hs2 hF
   have H1 := Lib.hid HO1
   have HO2 := fun (W : World) (hr : RdOf false W g s0) => want_st g s0 bn 8 W (by decide) hr
   rw [hst2] at HO2
   have H2 := Lib.hid HO2
   clear HO1 HO2 hn hs0 hst2 hnv hns hR
   go_wp2_with fail
   refine H1.out.mono ?_
   rintro r w6 ⟨rfl, k1, k2⟩
   have HL6 := Lib.hid (HL5.out.bar k2 k1)
   clear k1 k2 HL5 H1
   have d4 := HL6.out.f4
   have f4 := HL6.out.frozen 4
   have HL7 := Lib.hid (HL6.out.put1 4 (.int .i64 n) { zp kd with id := n } rfl rfl rfl rfl rfl)
   go_wp2_with fail
   refine (H2.out _ HL7.out.rd).mono ?_
   rintro r w7 ⟨rfl, k1, k2⟩
   have HLQ := Lib.hid (HL7.out.bar k2 k1)
   clear k1 k2 HL6 HL7 H2 d4 f4 hbn
   go_wp2_with fail
   refine (HP.out _ HLQ.out.rd).mono ?_
   rintro r w8 ⟨A0, c0, rfl, k1, k2, k3, k4, k5⟩
   have HL8 := Lib.hid (HLQ.out.bar k5 k4)
   have HN := Lib.hid (HLQ.out.off k2)
   have HAA := Lib.hid k3
   have HC := Lib.hid k1
   clear k1 k2 k3 k4 k5 HLQ HP
   have d24 := HL8.out.f24
   have f24 := HL8.out.frozen 24
   have HL9 := Lib.hid (HL8.out.props HAA.out HN.out HC.out)
   go_upto_region 49 with fail
   obtain ⟨PV, hPV⟩ : ∃ P : Pk, { zp kd with id := n, ps := L } = P := ⟨_, rfl⟩
   obtain ⟨aa, haa⟩ : ∃ a : Ad, { za with pa := A0, pc := c0 } = a := ⟨_, rfl⟩
   have HL9 : Hid (Live false h W1 g h s2 PV aa (w8.setCell ⟨h, 24, none⟩ (.slice A0 L.length c0))) := by rw [← hPV, ← haa]; exact HL9
   have HPV : Hid (PV.cs = [] ∧ aa.ca = none ∧ aa.cc = 0 ∧ R = ({ PV with cs := F.val [] }, F.st)) := by subst hPV haa; exact ⟨rfl, rfl, rfl, HRR.out⟩
   clear HL8 d24 f24 HN HAA HC HRR hPV haa
   generalize World.setCell _ _ _ = w9 at HL9 ⊢
   obtain ⟨sx, hx1, _, hx3, hx4, _⟩ := HL9.out.rd.rd
   have e0 : w9.cell? ⟨g, 0, none⟩ = some (.string sx) := hx1.cell 0
   obtain ⟨bz, hbz⟩ : ∃ b, decide (0 < sx.size) = b := ⟨_, rfl⟩
   have hzz : decide ((0 : Int) < (sx.size : Int)) = bz := by rw [← hbz]; exact decide_eq_decide.2 (by omega)
   have HQ1 : s2.want (decide (s2.rest.size ≠ 0)) 9 = s2.want bz 9 := by
    cases hbd : s2.isBad with
    | false => have := hx3 hbd; rw [this]; show (St.ok sx).want (decide (sx.size ≠ 0)) 9 = _; rw [← hbz]; congr 1; exact decide_eq_decide.2 (by omega)
    | true => rw [(hx4 hbd).2]; rfl
   rw [HQ1] at HCS
   clear hx1 hx3 hx4 HQ1
   go_wp2_with fail
   refine (want_st g s2 bz 9 _ (by decide) HL9.out.rd).mono ?_
   rintro r wa ⟨rfl, q1, q2⟩
   have HLa0 := HL9.out.bar q2 q1
   obtain ⟨sc0, hsc0⟩ : ∃ x, s2.want bz 9 = x := ⟨_, rfl⟩
   rw [hsc0] at HLa0 HCS
   have HCI := Lib.hid (CodesIn.start HLa0 HPV.out.1 HPV.out.2.1 HPV.out.2.2.1)
   clear HLa0 q1 q2 HL9 e0 hzz hbz hsc0
   go_wp2_with fail
   go_loopw [11] (fun i wr => ∃ (l : List Int) (A : Option Addr) (c : Nat) (sc : St), i = .int .i64 (l.length : Int) ∧ CodesIn h W1 g h sc0 PV aa wa l A c sc wr ∧ CodesSt l F sc) (fun i _ => (5 - RowKit.intOf i).toNat)
   case atStart => exact ⟨[], none, 0, sc0, rfl, HCI.out, HCS.out⟩
   case round =>
    obtain ⟨l, A, c, sc, rfl, hci, hcs⟩ := hrel
    have HI := Lib.hid hci
    have HS := Lib.hid hcs
    clear hci hcs HCI HCS
    cases sc with
    | bad e =>
     obtain ⟨hne0, sx, hx, _, _⟩ := HI.out.rd
     have d0 : wr.cell? ⟨g, 0, none⟩ = some (.string sx) := hx.cell 0
     have d1 : wr.cell? ⟨g, 1, none⟩ = some (.int .i64 e) := hx.cell 1
     have he0 : (e == 0) = false := ne_false hne0
     obtain ⟨t1, t2⟩ := codes_end HS.out (.inl rfl)
     have HPQ : Hid (∃ pf af, Live false h W1 g h R.2 pf af wr ∧ (R.2.isBad = false → pf = R.1)) := ⟨{ PV with cs := l }, _, by rw [HPV.out.2.2.2]; show Live _ _ _ _ _ F.st _ _ _; rw [t1]; exact HI.out.live, fun hb => by rw [HPV.out.2.2.2] at hb ⊢; rw [← t2 hb]⟩
     clear hx hne0 HI HS HPV t1 t2
     go_upto_region 62 with fail
     clear d0 d1 he0
     obtain ⟨pf, af, hl, hp⟩ := HPQ.out
     have HLX := Lib.hid hl
     have HPQ := Lib.hid hp
     clear hl hp
     obtain ⟨sx, hx1, _, hx3, hx4, _⟩ := HLX.out.rd.rd
     have e0 := hx1.cell 0
     obtain ⟨bz, hbz⟩ : ∃ b, decide (sx.size = 0) = b := ⟨_, rfl⟩
     have hzz : ((sx.size : Int) == 0) = bz := by rw [← hbz]; exact beq_nat sx.size
     have HQ : Hid ((bodyS (16 * kd + z) s).2 = R.2.want bz 8) := by
      show _ = _
      rw [HRB.out]
      show R.2.want (decide (R.2.rest.size = 0)) 8 = _
      cases hbd : R.2.isBad with
      | false => have := hx3 hbd; rw [this]; show (St.ok sx).want (decide (sx.size = 0)) 8 = _; rw [hbz]
      | true => rw [(hx4 hbd).2]; rfl
     clear hx1 hx3 hx4 hbz
     go_wp2_with fail
     refine (want_st g R.2 bz 8 _ (by decide) HLX.out.rd).mono ?_
     rintro r w7 ⟨rfl, q1, q2⟩
     have HL8 := Lib.hid (HLX.out.bar q2 q1)
     have HK8 : Hid (Box w7 k0 (pkArr (zp 0) za)) := Lib.hid (HK0.out.below (HL8.out.b.mono (by have := HH.out; omega)))
     clear q1 q2 HLX e0 hzz
     go_upto_region 63 with fail
     obtain ⟨ste, hste⟩ : ∃ x, R.2.want bz 8 = x := ⟨_, rfl⟩
     rw [hste] at HL8 HQ
     have HCAP := Lib.hid HL8.out.cap
     have HNEW := Lib.hid (HL8.out.new.mono (B' := w.heap.size) (by have := HQ9.out; omega))
     have HWF : Hid ((bodyS (16 * kd + z) s).2.Wf) := by show St.Wf _; rw [HQ.out]; exact HL8.out.wf
     have HRES : Hid (Ending.returned (.tuple #[.agg (pkArr pf af), .int .i64 ste.err]) = .returned (.tuple #[.agg (pkArr pf af), .int .i64 (bodyS (16 * kd + z) s).2.err])) := by show _ = _; rw [HQ.out]
     have HPF : Hid ((bodyS (16 * kd + z) s).2.isBad = false → pf = (bodyS (16 * kd + z) s).1) := fun hb => by
      rw [HQ.out, ← hste] at hb
      rw [HRB.out]
      exact HPQ.out (not_bad hb)
     have HEN := Lib.hid (EndAt.mk (w := w) (k0 := k0) (g := g) (h := h) (st := ste) (p := pf) (a := af) (cs := pkArr (zp 0) za) ⟨HL8.out.rd, HL8.out.bx, HL8.out.at, HK8.out, rfl, (HA.out.trans (HL8.out.b.mono (by have := HQ9.out; omega))), by have := HQ9.out; omega, by omega, by omega, HL8.out.new.off hkl⟩)
     clear HL8 HK8 hste
     refine wp_region_held_drew (S := fun W => ∃ cs, EndAt false w k0 g h ste pf af cs W) (by kernel_rfl) ⟨_, HEN.out.drew⟩ (fun hHeld => ?_)
     generalize World.drew _ = Wd at hHeld ⊢
     refine take_load 0 273 30 (.tmp 8) h 0 (.agg (pkArr pf af)) rfl rfl (by kernel_rfl) (fun _ _ _ h => h) (by rfl) hHeld rfl rfl (fun w' hS' => load_bx hS'.choose_spec.out.2.1) ?_
     simp only [Act.put, List.setIfInBounds_toArray, List.set_cons_zero, List.set_cons_succ]
     refine take_op 1 274 _ rfl rfl (by kernel_rfl) (fun _ _ _ h => h) (by rfl) hHeld (fun w' hS' => by go_simp; try with_reducible rfl) ?_
     simp only [Act.put, List.setIfInBounds_toArray, List.set_cons_zero, List.set_cons_succ]
     refine take_op 2 275 _ rfl rfl (by kernel_rfl) (fun _ _ _ h => h) (by rfl) hHeld (fun w' hS' => by go_simp; try with_reducible rfl) ?_
     simp only [Act.put, List.setIfInBounds_toArray, List.set_cons_zero, List.set_cons_succ]
     refine take_op 3 276 _ rfl rfl (by kernel_rfl) (fun _ _ _ h => h) (by rfl) hHeld (fun w' hS' => by go_simp; try with_reducible rfl) ?_
     simp only [Act.put, List.setIfInBounds_toArray, List.set_cons_zero, List.set_cons_succ]
     refine take_op 4 277 _ rfl rfl (by kernel_rfl) (fun _ _ _ h => h) (by rfl) hHeld (fun w' hS' => by have k := hS'.choose_spec.err; go_simp; try with_reducible rfl) ?_
     simp only [Act.put, List.setIfInBounds_toArray, List.set_cons_zero, List.set_cons_succ]
     obtain ⟨cs, hcs⟩ := hHeld
     obtain ⟨T, hT⟩ := hcs.out.2.2.2.1
     refine only_op 5 rfl (by kernel_rfl) (by rfl) (wp_store_row 30 (.tmp 6) (.tmp 273) rfl k0 (pkArr pf af) rfl rfl T cs hT info_pk hcs.out.2.2.2.2.1 (one_pk _ _) ⟨⟨_, hcs.row⟩, ?_⟩)
     simp only [Act.put]
     have hHeld2 := hcs.row
     refine take_op 6 7 _ rfl rfl (by kernel_rfl) (fun _ _ _ h => h) (by rfl) ⟨_, hHeld2⟩ (fun w' hS' => by go_simp; try with_reducible rfl) ?_
     simp only [Act.put, List.setIfInBounds_toArray]
     refine wpAnyH_done (by kernel_rfl) ?_ _
     have HF := Lib.hid hHeld2
     clear hcs hT hHeld2
     go_wp2_with fail
     refine bodyPost_ret (results_pk2 Tryz.results84 rfl HF.out.out.2.2.2.1 rfl) rfl ⟨pf, af, HRES.out, HF.out.out.2.2.1, HCAP.out, HNEW.out, HF.out.out.2.2.2.2.2.1, HWF.out, HPF.out⟩
    | ok s3 =>
     have hrd : Rd wr g s3 0 := HI.out.rd.1
     have d0 : wr.cell? ⟨g, 0, none⟩ = some (.string s3) := hrd.cell 0
     have d1 : wr.cell? ⟨g, 1, none⟩ = some (.int .i64 0) := hrd.cell 1
     clear hrd
     by_cases h0 : s3.size = 0
     ·obtain ⟨t1, t2⟩ := codes_end HS.out (.inr ⟨s3, rfl, h0⟩)
      have HPQ : Hid (∃ pf af, Live false h W1 g h R.2 pf af wr ∧ (R.2.isBad = false → pf = R.1)) := ⟨{ PV with cs := l }, _, by rw [HPV.out.2.2.2]; show Live _ _ _ _ _ F.st _ _ _; rw [t1]; exact HI.out.live, fun hb => by rw [HPV.out.2.2.2] at hb ⊢; rw [← t2 hb]⟩
      obtain rfl : s3 = ByteArray.empty := ByteArray.size_eq_zero_iff.1 h0
      clear h0 HI HS HPV t1 t2
      go_upto_region 62 with fail
      clear d0 d1
      obtain ⟨pf, af, hl, hp⟩ := HPQ.out
      have HLX := Lib.hid hl
      have HPQ := Lib.hid hp
      clear hl hp
      obtain ⟨sx, hx1, _, hx3, hx4, _⟩ := HLX.out.rd.rd
      have e0 := hx1.cell 0
      obtain ⟨bz, hbz⟩ : ∃ b, decide (sx.size = 0) = b := ⟨_, rfl⟩
      have hzz : ((sx.size : Int) == 0) = bz := by rw [← hbz]; exact beq_nat sx.size
      have HQ : Hid ((bodyS (16 * kd + z) s).2 = R.2.want bz 8) := by
       show _ = _
       rw [HRB.out]
       show R.2.want (decide (R.2.rest.size = 0)) 8 = _
       cases hbd : R.2.isBad with
       | false => have := hx3 hbd; rw [this]; show (St.ok sx).want (decide (sx.size = 0)) 8 = _; rw [hbz]
       | true => rw [(hx4 hbd).2]; rfl
      clear hx1 hx3 hx4 hbz
      go_wp2_with fail
      refine (want_st g R.2 bz 8 _ (by decide) HLX.out.rd).mono ?_
      rintro r w7 ⟨rfl, q1, q2⟩
      have HL8 := Lib.hid (HLX.out.bar q2 q1)
      have HK8 : Hid (Box w7 k0 (pkArr (zp 0) za)) := Lib.hid (HK0.out.below (HL8.out.b.mono (by have := HH.out; omega)))
      clear q1 q2 HLX e0 hzz
      go_upto_region 63 with fail
      obtain ⟨ste, hste⟩ : ∃ x, R.2.want bz 8 = x := ⟨_, rfl⟩
      rw [hste] at HL8 HQ
      have HCAP := Lib.hid HL8.out.cap
      have HNEW := Lib.hid (HL8.out.new.mono (B' := w.heap.size) (by have := HQ9.out; omega))
      have HWF : Hid ((bodyS (16 * kd + z) s).2.Wf) := by show St.Wf _; rw [HQ.out]; exact HL8.out.wf
      have HRES : Hid (Ending.returned (.tuple #[.agg (pkArr pf af), .int .i64 ste.err]) = .returned (.tuple #[.agg (pkArr pf af), .int .i64 (bodyS (16 * kd + z) s).2.err])) := by show _ = _; rw [HQ.out]
      have HPF : Hid ((bodyS (16 * kd + z) s).2.isBad = false → pf = (bodyS (16 * kd + z) s).1) := fun hb => by
       rw [HQ.out, ← hste] at hb
       rw [HRB.out]
       exact HPQ.out (not_bad hb)
      have HEN := Lib.hid (EndAt.mk (w := w) (k0 := k0) (g := g) (h := h) (st := ste) (p := pf) (a := af) (cs := pkArr (zp 0) za) ⟨HL8.out.rd, HL8.out.bx, HL8.out.at, HK8.out, rfl, (HA.out.trans (HL8.out.b.mono (by have := HQ9.out; omega))), by have := HQ9.out; omega, by omega, by omega, HL8.out.new.off hkl⟩)
      clear HL8 HK8 hste
      refine wp_region_held_drew (S := fun W => ∃ cs, EndAt false w k0 g h ste pf af cs W) (by kernel_rfl) ⟨_, HEN.out.drew⟩ (fun hHeld => ?_)
      generalize World.drew _ = Wd at hHeld ⊢
      refine take_load 0 273 30 (.tmp 8) h 0 (.agg (pkArr pf af)) rfl rfl (by kernel_rfl) (fun _ _ _ h => h) (by rfl) hHeld rfl rfl (fun w' hS' => load_bx hS'.choose_spec.out.2.1) ?_
      simp only [Act.put, List.setIfInBounds_toArray, List.set_cons_zero, List.set_cons_succ]
      refine take_op 1 274 _ rfl rfl (by kernel_rfl) (fun _ _ _ h => h) (by rfl) hHeld (fun w' hS' => by go_simp; try with_reducible rfl) ?_
      simp only [Act.put, List.setIfInBounds_toArray, List.set_cons_zero, List.set_cons_succ]
      refine take_op 2 275 _ rfl rfl (by kernel_rfl) (fun _ _ _ h => h) (by rfl) hHeld (fun w' hS' => by go_simp; try with_reducible rfl) ?_
      simp only [Act.put, List.setIfInBounds_toArray, List.set_cons_zero, List.set_cons_succ]
      refine take_op 3 276 _ rfl rfl (by kernel_rfl) (fun _ _ _ h => h) (by rfl) hHeld (fun w' hS' => by go_simp; try with_reducible rfl) ?_
      simp only [Act.put, List.setIfInBounds_toArray, List.set_cons_zero, List.set_cons_succ]
      refine take_op 4 277 _ rfl rfl (by kernel_rfl) (fun _ _ _ h => h) (by rfl) hHeld (fun w' hS' => by have k := hS'.choose_spec.err; go_simp; try with_reducible rfl) ?_
      simp only [Act.put, List.setIfInBounds_toArray, List.set_cons_zero, List.set_cons_succ]
      obtain ⟨cs, hcs⟩ := hHeld
      obtain ⟨T, hT⟩ := hcs.out.2.2.2.1
      refine only_op 5 rfl (by kernel_rfl) (by rfl) (wp_store_row 30 (.tmp 6) (.tmp 273) rfl k0 (pkArr pf af) rfl rfl T cs hT info_pk hcs.out.2.2.2.2.1 (one_pk _ _) ⟨⟨_, hcs.row⟩, ?_⟩)
      simp only [Act.put]
      have hHeld2 := hcs.row
      refine take_op 6 7 _ rfl rfl (by kernel_rfl) (fun _ _ _ h => h) (by rfl) ⟨_, hHeld2⟩ (fun w' hS' => by go_simp; try with_reducible rfl) ?_
      simp only [Act.put, List.setIfInBounds_toArray]
      refine wpAnyH_done (by kernel_rfl) ?_ _
      have HF := Lib.hid hHeld2
      clear hcs hT hHeld2
      go_wp2_with fail
      refine bodyPost_ret (results_pk2 Tryz.results84 rfl HF.out.out.2.2.2.1 rfl) rfl ⟨pf, af, HRES.out, HF.out.out.2.2.1, HCAP.out, HNEW.out, HF.out.out.2.2.2.2.2.1, HWF.out, HPF.out⟩
     ·have hgt : 0 < s3.size := by omega
      have hl4 := (HS.out.2.1 s3 rfl).1
      obtain ⟨bb, hbb⟩ : ∃ b, decide ((l.length : Int) < 4) = b := ⟨_, rfl⟩
      obtain ⟨sw, hsw⟩ : ∃ x, (St.ok s3).want bb 2 = x := ⟨_, rfl⟩
      obtain ⟨v, hv⟩ : ∃ v, (sw.run (fixR 1)).val 0 = v := ⟨_, rfl⟩
      obtain ⟨s1, hs1⟩ : ∃ x, (sw.run (fixR 1)).st = x := ⟨_, rfl⟩
      have HS1 := Lib.hid (codes_round HS.out h0 hbb hsw hv hs1)
      have HFX0 := fun (W : World) (hr : RdOf false W g sw) => fixed_st g 1 sw W (by decide) hr
      rw [hv, hs1] at HFX0
      have HFX := Lib.hid HFX0
      have HWT0 := want_st g (.ok s3) bb 2 wr (by decide) HI.out.rd
      rw [hsw] at HWT0
      have HWT := Lib.hid HWT0
      clear HFX0 HWT0 hv hs1 hsw HS h0
      go_wp2_with fail
      refine HWT.out.mono ?_
      rintro r w1 ⟨rfl, q1, q2⟩
      have HI1 := Lib.hid (HI.out.bar q2 q1)
      clear q1 q2 HI HWT d0 d1 hgt hbb
      go_upto_region 55 with fail
      have hHeld : CodesIn h W1 g h sc0 PV aa wa l A c sw (World.drew w1) := HI1.out.drewN 1
      clear HI1
      refine wp_region_held_drew (S := fun _ => True) (by kernel_rfl) trivial (fun _ => ?_)
      generalize World.drew w1 = Wd at hHeld ⊢
      refine take_op 0 214 _ rfl rfl (by kernel_rfl) (fun _ _ _ h => h) (by rfl) trivial (fun w' _ => by go_simp; try with_reducible rfl) ?_
      simp only [Act.put, List.setIfInBounds_toArray, List.set_cons_zero, List.set_cons_succ]
      refine take_op 2 216 _ rfl rfl (by kernel_rfl) (fun _ _ _ h => h) (by rfl) trivial (fun w' _ => by go_simp; try with_reducible rfl) ?_
      simp only [Act.put, List.setIfInBounds_toArray, List.set_cons_zero, List.set_cons_succ]
      refine two_ops 1 3 rfl rfl (by kernel_rfl) (by rfl) (by rfl) ?_ ?_
      ·refine (wp_made 215 (.slice A l.length c) rfl (by have := hHeld.f9; go_simp; try rfl) ⟨trivial, ?_⟩)
       simp only [Act.put, List.setIfInBounds_toArray, List.set_cons_zero, List.set_cons_succ]
       refine only_op 3 rfl (by kernel_rfl) (by rfl) (wp_call_ex 217 105 #[.pointer (some ⟨g, 0, none⟩), .int .i64 1] _ rfl (by go_simp) (HFX.out Wd hHeld.rd) ?_)
       rintro e w2 ⟨rfl, k1, k2⟩
       have hH2 := hHeld.bar k2 k1
       refine ⟨_, rfl, trivial, ?_⟩
       simp only [Act.put, List.setIfInBounds_toArray, List.set_cons_zero, List.set_cons_succ]
       have hH3 := hH2.alloc (.cells #[.int .i64 v] 3)
       refine only_op 4 rfl (by kernel_rfl) (by rfl) (wp_made 218 (.slice (some ⟨w2.heap.size, 0, none⟩) 1 1) rfl (by go_simp; try rfl) ⟨trivial, ?_⟩)
       simp only [Act.put, List.setIfInBounds_toArray, List.set_cons_zero, List.set_cons_succ]
       refine only_op 5 rfl (by kernel_rfl) (by rfl) (wp_append_code 219 (.tmp 215) (.tmp 218) rfl rfl rfl rfl hH3.own hH2.size (by omega) (fun A' c' w3 hown3 hb3 => ⟨trivial, ?_⟩))
       simp only [Act.put, List.setIfInBounds_toArray, List.set_cons_zero, List.set_cons_succ]
       refine take_op 6 220 _ rfl rfl (by kernel_rfl) (fun _ _ _ h => h) (by rfl) trivial (fun w' _ => by go_simp; try with_reducible rfl) ?_
       simp only [Act.put, List.setIfInBounds_toArray, List.set_cons_zero, List.set_cons_succ]
       have hH4 := hH3.more hb3 hown3
       have hbx := hH3.box_then hb3
       have c9 : w3.cell? ⟨h, 9, none⟩ = some (.slice A l.length c) := hbx.cell 9
       have f9 : w3.frozen? ⟨h, 9, none⟩ = false := hbx.frozen 9
       refine only_op 7 rfl (by kernel_rfl) (by rfl) (wp_store_one (w' := w3.setCell ⟨h, 9, none⟩ (.slice A' (l ++ [v]).length c')) 24 (.tmp 220) (.tmp 219) rfl _ _ rfl rfl (by go_simp) ⟨trivial, ?_⟩)
       simp only [Act.put]
       refine wpAnyH_done (by kernel_rfl) ?_ _
       have HCN := Lib.hid hH4
       clear hHeld hH2 hH3 hH4 hbx c9 f9 k1 k2 hown3 hb3
       generalize World.setCell _ _ _ = wz at HCN ⊢
       go_wp2_with fail
       go_roundw
       case rel => exact ⟨l ++ [v], A', c', s1, by simp, HCN.out, HS1.out⟩
       case measure => simp [RowKit.intOf]; omega
      ·refine (wp_call_ex 217 105 #[.pointer (some ⟨g, 0, none⟩), .int .i64 1] _ rfl (by go_simp) (HFX.out Wd hHeld.rd) ?_)
       rintro e w2 ⟨rfl, k1, k2⟩
       have hH2 := hHeld.bar k2 k1
       refine ⟨_, rfl, trivial, ?_⟩
       simp only [Act.put, List.setIfInBounds_toArray, List.set_cons_zero, List.set_cons_succ]
       refine two_ops 1 4 rfl rfl (by kernel_rfl) (by rfl) (by rfl) ?_ ?_
       ·refine (wp_made 215 (.slice A l.length c) rfl (by have := hH2.f9; go_simp; try rfl) ⟨trivial, ?_⟩)
        simp only [Act.put, List.setIfInBounds_toArray, List.set_cons_zero, List.set_cons_succ]
        have hH3 := hH2.alloc (.cells #[.int .i64 v] 3)
        refine only_op 4 rfl (by kernel_rfl) (by rfl) (wp_made 218 (.slice (some ⟨w2.heap.size, 0, none⟩) 1 1) rfl (by go_simp; try rfl) ⟨trivial, ?_⟩)
        simp only [Act.put, List.setIfInBounds_toArray, List.set_cons_zero, List.set_cons_succ]
        refine only_op 5 rfl (by kernel_rfl) (by rfl) (wp_append_code 219 (.tmp 215) (.tmp 218) rfl rfl rfl rfl hH3.own hH2.size (by omega) (fun A' c' w3 hown3 hb3 => ⟨trivial, ?_⟩))
        simp only [Act.put, List.setIfInBounds_toArray, List.set_cons_zero, List.set_cons_succ]
        refine take_op 6 220 _ rfl rfl (by kernel_rfl) (fun _ _ _ h => h) (by rfl) trivial (fun w' _ => by go_simp; try with_reducible rfl) ?_
        simp only [Act.put, List.setIfInBounds_toArray, List.set_cons_zero, List.set_cons_succ]
        have hH4 := hH3.more hb3 hown3
        have hbx := hH3.box_then hb3
        have c9 : w3.cell? ⟨h, 9, none⟩ = some (.slice A l.length c) := hbx.cell 9
        have f9 : w3.frozen? ⟨h, 9, none⟩ = false := hbx.frozen 9
        refine only_op 7 rfl (by kernel_rfl) (by rfl) (wp_store_one (w' := w3.setCell ⟨h, 9, none⟩ (.slice A' (l ++ [v]).length c')) 24 (.tmp 220) (.tmp 219) rfl _ _ rfl rfl (by go_simp) ⟨trivial, ?_⟩)
        simp only [Act.put]
        refine wpAnyH_done (by kernel_rfl) ?_ _
        have HCN := Lib.hid hH4
        clear hHeld hH2 hH3 hH4 hbx c9 f9 k1 k2 hown3 hb3
        generalize World.setCell _ _ _ = wz at HCN ⊢
        go_wp2_with fail
        go_roundw
        case rel => exact ⟨l ++ [v], A', c', s1, by simp, HCN.out, HS1.out⟩
        case measure => simp [RowKit.intOf]; omega
       ·have hH3 := hH2.alloc (.cells #[.int .i64 v] 3)
        refine (wp_made 218 (.slice (some ⟨w2.heap.size, 0, none⟩) 1 1) rfl (by go_simp; try rfl) ⟨trivial, ?_⟩)
        simp only [Act.put, List.setIfInBounds_toArray, List.set_cons_zero, List.set_cons_succ]
        refine only_op 1 rfl (by kernel_rfl) (by rfl) (wp_made 215 (.slice A l.length c) rfl (by have := hH3.f9; go_simp; try rfl) ⟨trivial, ?_⟩)
        simp only [Act.put, List.setIfInBounds_toArray, List.set_cons_zero, List.set_cons_succ]
        refine only_op 5 rfl (by kernel_rfl) (by rfl) (wp_append_code 219 (.tmp 215) (.tmp 218) rfl rfl rfl rfl hH3.own hH2.size (by omega) (fun A' c' w3 hown3 hb3 => ⟨trivial, ?_⟩))
        simp only [Act.put, List.setIfInBounds_toArray, List.set_cons_zero, List.set_cons_succ]
        refine take_op 6 220 _ rfl rfl (by kernel_rfl) (fun _ _ _ h => h) (by rfl) trivial (fun w' _ => by go_simp; try with_reducible rfl) ?_
        simp only [Act.put, List.setIfInBounds_toArray, List.set_cons_zero, List.set_cons_succ]
        have hH4 := hH3.more hb3 hown3
        have hbx := hH3.box_then hb3
        have c9 : w3.cell? ⟨h, 9, none⟩ = some (.slice A l.length c) := hbx.cell 9
        have f9 : w3.frozen? ⟨h, 9, none⟩ = false := hbx.frozen 9
        refine only_op 7 rfl (by kernel_rfl) (by rfl) (wp_store_one (w' := w3.setCell ⟨h, 9, none⟩ (.slice A' (l ++ [v]).length c')) 24 (.tmp 220) (.tmp 219) rfl _ _ rfl rfl (by go_simp) ⟨trivial, ?_⟩)
        simp only [Act.put]
        refine wpAnyH_done (by kernel_rfl) ?_ _
        have HCN := Lib.hid hH4
        clear hHeld hH2 hH3 hH4 hbx c9 f9 k1 k2 hown3 hb3
        generalize World.setCell _ _ _ = wz at HCN ⊢
        go_wp2_with fail
        go_roundw
        case rel => exact ⟨l ++ [v], A', c', s1, by simp, HCN.out, HS1.out⟩
        case measure => simp [RowKit.intOf]; omega
  ·have hzn := ne_true hzf
   have HRB := Lib.hid (body_head kd z s HKD.out.2.1 HKD.out.2.2.1 trivial hz0 hz1 (fun e => hzf (by rw [← e]; exact HFL.out)))
   have hld := load_bx HL5.out.bx
   clear hzf HFB
   go_wp2_with (first | (refine wpList_load_any (by rfl) 30 (.tmp 8) rfl h 0 rfl _ hld ?_) | (refine wpList_store_whole rfl 30 (.tmp 6) (.tmp 52) rfl k0 (pkArr (zp kd) za) rfl rfl (pkArr (zp 0) za) HK5.out info_pk rfl (one_pk _ _) ?_; simp only [Act.put]))
   refine bodyPost_ret (results_pk2 Tryz.results84 rfl (HK5.out.row (pkArr (zp kd) za)) rfl) rfl ⟨zp kd, za, by rw [HRB.out]; rfl, PkAt.zero' _ _ _ ⟨rfl, rfl, rfl, rfl⟩, PkCap.zero' _ ⟨rfl, rfl, rfl, rfl⟩, .zero _, (Bar.row k0 w5 _).below HB5.out (by have := HQ9.out; omega) HB5.out.size, by rw [HRB.out]; exact (by decide : (8 : Int) ≠ 0), fun hb => by rw [HRB.out] at hb; cases hb⟩
theorem rbody_9 (z : Int) (s : ByteArray) (w : World) (hz0 : 0 ≤ z) (hz1 : z ≤ 15) (hs : s.size ≤ 268435456) :
  Calls Tryz.prog 84 #[.int .i64 9, .int .i64 z, .string s] w (GivesBody (bodyS (16 * 9 + z) s) w) :=
 rbody_codes 9 0 z s w (by omega) rfl rfl hz0 hz1 hs
theorem rbody_11 (z : Int) (s : ByteArray) (w : World) (hz0 : 0 ≤ z) (hz1 : z ≤ 15) (hs : s.size ≤ 268435456) :
  Calls Tryz.prog 84 #[.int .i64 11, .int .i64 z, .string s] w (GivesBody (bodyS (16 * 11 + z) s) w) :=
 rbody_codes 11 0 z s w (by omega) rfl rfl hz0 hz1 hs
open Go.RowKit Go.Lib Prp Pkt Vbi
theorem rbody_12 (z : Int) (s : ByteArray) (w : World) (hz0 : 0 ≤ z) (hz1 : z ≤ 15) (hs : s.size ≤ 268435456) :
  Calls Tryz.prog 84 #[.int .i64 12, .int .i64 z, .string s] w (GivesBody (bodyS (16 * 12 + z) s) w) := by
 have HF0 := hz0
 have HFB := Lib.hid HF0
 have HZ := Lib.hid hs
 have hb0 := Box.new w 30 (pkArr (zp 0) za)
 have ha := (Below.refl w.heap.size w).alloc (Nat.le_refl _) (.cells (pkArr (zp 0) za) 30)
 obtain ⟨W1, hW⟩ : ∃ W1, w.alloc (.cells (pkArr (zp 0) za) 30) = W1 := ⟨_, rfl⟩
 rw [hW] at hb0 ha
 simp only [pkArr, zp, za, zw, List.length_nil] at hW
 have HW := Lib.hid hW
 have HK0 := Lib.hid hb0
 have HA := Lib.hid ha
 clear hW hb0 ha HF0
 go_enter Tryz.func84, Tryz.ntmps84
 go_upto_region 1 with fail
 rw [HW.out]
 clear HW
 obtain ⟨k0, hk0⟩ : ∃ k, w.heap.size = k := ⟨_, rfl⟩
 have H12 := Lib.hid hk0
 rw [hk0] at HK0 ⊢
 clear hk0
 have hkl := HK0.out.lt
 have hb0 := Box.new W1 30 (pkArr (zp 0) za)
 have ha := (Below.refl W1.heap.size W1).alloc (Nat.le_refl _) (.cells (pkArr (zp 0) za) 30)
 obtain ⟨W2, hW⟩ : ∃ W2, W1.alloc (.cells (pkArr (zp 0) za) 30) = W2 := ⟨_, rfl⟩
 rw [hW] at hb0 ha
 simp only [pkArr, zp, za, zw, List.length_nil] at hW
 have HW := Lib.hid hW
 obtain ⟨h, hh⟩ : ∃ h, W1.heap.size = h := ⟨_, rfl⟩
 rw [hh] at hb0 ha hkl
 have HB2 := Lib.hid hb0
 have HA2 := Lib.hid ha
 have HH := Lib.hid hh
 clear hW hb0 ha
 go_upto_region 2 with (first | (refine wpList_build_kind rfl (.tmp 14) rfl 12 rfl ?_) | (rw [HW.out]; refine wpList_store_whole rfl 30 (.tmp 8) (.tmp 15) rfl h (pkArr (zp 12) za) rfl rfl (pkArr (zp 0) za) HB2.out info_pk rfl (one_pk _ _) ?_; simp only [Act.put]))
 have HB3 := Lib.hid (HB2.out.row (pkArr (zp 12) za))
 have HA3 := Lib.hid ((Bar.row h W2 (pkArr (zp 12) za)).below HA2.out (Nat.le_refl _) (by have := HA2.out.size; omega))
 clear HW HB2 HA2 hh
 generalize World.setRow _ _ _ = W3 at HB3 HA3 ⊢
 have hhl := HB3.out.lt
 go_upto_region 3 with fail
 have hr4 : RdOf false (W3.alloc (.cells #[.string s, .int .i64 0] 154)) W3.heap.size (.ok s) := ⟨Box.new W3 154 #[.string s, .int .i64 0], HZ.out⟩
 have ha4 := (Below.refl W3.heap.size W3).alloc (Nat.le_refl _) (.cells #[.string s, .int .i64 0] 154)
 obtain ⟨g, hg⟩ : ∃ g, W3.heap.size = g := ⟨_, rfl⟩
 rw [hg] at hr4 hhl ⊢
 have HL4 := Lib.hid (Live.mk (x := false) (B := h) (w0 := W1) (g := g) (h := h) (st := .ok s) (p := zp 12) (a := za) ⟨HA3.out.alloc (by omega) _, by omega, Nat.le_refl _, by omega, hr4, HB3.out.below (ha4.mono (by omega)), PkAt.zero' _ _ _ ⟨rfl, rfl, rfl, rfl⟩, .zero g, .zero h, PkCap.zero' _ ⟨rfl, rfl, rfl, rfl⟩, .zero h⟩)
 clear hr4 ha4 HA3 HB3 hg HZ
 generalize W3.alloc _ = W4 at HL4 ⊢
 have hld := load_bx HL4.out.bx
 go_wp2_with (refine wpList_load_any (by rfl) 30 (.tmp 8) rfl h 0 rfl _ hld ?_)
 refine (rflags_is (zp 12) za 0 W4 (by decide) (by decide) rfl).mono ?_
 rintro r w5 ⟨rfl, q1⟩
 have HL5 := Lib.hid (HL4.out.bar (Bar.of g q1) (HL4.out.rd.below q1))
 have HK5 : Hid (Box w5 k0 (pkArr (zp 0) za)) := Lib.hid (HK0.out.below (HL5.out.b.mono (by have := HH.out; omega)))
 have HB5 := Lib.hid (HA.out.trans (HL5.out.b.mono (by have := H12.out; omega)))
 clear q1 hld HL4
 by_cases hzf : z = 0
 ·subst hzf
  have HRB := Lib.hid (body_good 12 0 s (by decide) (by decide) (by decide) (by decide) (by decide) rfl)
  clear HK5 HB5 HFB
  obtain ⟨R, hR⟩ : ∃ R, partsS (zp 12) (.ok s) = R := ⟨_, rfl⟩
  rw [hR] at HRB
  have HPQ : Hid (∃ pf af, Live false h W1 g h R.2 pf af w5 ∧ (R.2.isBad = false → pf = R.1)) := ⟨zp 12, za, by rw [← hR]; exact HL5.out, fun _ => by rw [← hR]; rfl⟩
  obtain ⟨pf, af, hl, hp⟩ := HPQ.out
  have HLX := Lib.hid hl
  have HPQ := Lib.hid hp
  clear hR HL5 hl hp
  obtain ⟨sx, hx1, _, hx3, hx4, _⟩ := HLX.out.rd.rd
  have e0 := hx1.cell 0
  obtain ⟨bz, hbz⟩ : ∃ b, decide (sx.size = 0) = b := ⟨_, rfl⟩
  have hzz : ((sx.size : Int) == 0) = bz := by rw [← hbz]; exact beq_nat sx.size
  have HQ : Hid ((bodyS (16 * 12 + 0) s).2 = R.2.want bz 8) := by
   show _ = _
   rw [HRB.out]
   show R.2.want (decide (R.2.rest.size = 0)) 8 = _
   cases hbd : R.2.isBad with
   | false => have := hx3 hbd; rw [this]; show (St.ok sx).want (decide (sx.size = 0)) 8 = _; rw [hbz]
   | true => rw [(hx4 hbd).2]; rfl
  clear hx1 hx3 hx4 hbz
  go_wp2_with fail
  refine (want_st g R.2 bz 8 _ (by decide) HLX.out.rd).mono ?_
  rintro r w7 ⟨rfl, q1, q2⟩
  have HL8 := Lib.hid (HLX.out.bar q2 q1)
  have HK8 : Hid (Box w7 k0 (pkArr (zp 0) za)) := Lib.hid (HK0.out.below (HL8.out.b.mono (by have := HH.out; omega)))
  clear q1 q2 HLX e0 hzz
  go_upto_region 63 with fail
  obtain ⟨ste, hste⟩ : ∃ x, R.2.want bz 8 = x := ⟨_, rfl⟩
  rw [hste] at HL8 HQ
  have HCAP := Lib.hid HL8.out.cap
  have HNEW := Lib.hid (HL8.out.new.mono (B' := w.heap.size) (by have := H12.out; omega))
  have HWF : Hid ((bodyS (16 * 12 + 0) s).2.Wf) := by show St.Wf _; rw [HQ.out]; exact HL8.out.wf
  have HRES : Hid (Ending.returned (.tuple #[.agg (pkArr pf af), .int .i64 ste.err]) = .returned (.tuple #[.agg (pkArr pf af), .int .i64 (bodyS (16 * 12 + 0) s).2.err])) := by show _ = _; rw [HQ.out]
  have HPF : Hid ((bodyS (16 * 12 + 0) s).2.isBad = false → pf = (bodyS (16 * 12 + 0) s).1) := fun hb => by
   rw [HQ.out, ← hste] at hb
   rw [HRB.out]
   exact HPQ.out (not_bad hb)
  have HEN := Lib.hid (EndAt.mk (w := w) (k0 := k0) (g := g) (h := h) (st := ste) (p := pf) (a := af) (cs := pkArr (zp 0) za) ⟨HL8.out.rd, HL8.out.bx, HL8.out.at, HK8.out, rfl, (HA.out.trans (HL8.out.b.mono (by have := H12.out; omega))), by have := H12.out; omega, by omega, by omega, HL8.out.new.off hkl⟩)
  clear HL8 HK8 hste
  refine wp_region_held_drew (S := fun W => ∃ cs, EndAt false w k0 g h ste pf af cs W) (by kernel_rfl) ⟨_, HEN.out.drew⟩ (fun hHeld => ?_)
  generalize World.drew _ = Wd at hHeld ⊢
  refine take_load 0 273 30 (.tmp 8) h 0 (.agg (pkArr pf af)) rfl rfl (by kernel_rfl) (fun _ _ _ h => h) (by rfl) hHeld rfl rfl (fun w' hS' => load_bx hS'.choose_spec.out.2.1) ?_
  simp only [Act.put, List.setIfInBounds_toArray, List.set_cons_zero, List.set_cons_succ]
  refine take_op 1 274 ?v1 rfl rfl (by kernel_rfl) (fun _ _ _ h => h) (by rfl) hHeld (fun w' hS' => ?hv1) ?hh1
  case hv1 => (go_simp; try with_reducible rfl)
  simp only [Act.put, List.setIfInBounds_toArray, List.set_cons_zero, List.set_cons_succ]
  refine take_op 2 275 ?v2 rfl rfl (by kernel_rfl) (fun _ _ _ h => h) (by rfl) hHeld (fun w' hS' => ?hv2) ?hh2
  case hv2 => (go_simp; try with_reducible rfl)
  simp only [Act.put, List.setIfInBounds_toArray, List.set_cons_zero, List.set_cons_succ]
  refine take_op 3 276 ?v3 rfl rfl (by kernel_rfl) (fun _ _ _ h => h) (by rfl) hHeld (fun w' hS' => ?hv3) ?hh3
  case hv3 => (go_simp; try with_reducible rfl)
  simp only [Act.put, List.setIfInBounds_toArray, List.set_cons_zero, List.set_cons_succ]
  refine take_op 4 277 ?v4 rfl rfl (by kernel_rfl) (fun _ _ _ h => h) (by rfl) hHeld (fun w' hS' => ?hv4) ?hh4
  case hv4 => (have k := hS'.choose_spec.err; go_simp; try with_reducible rfl)
  simp only [Act.put, List.setIfInBounds_toArray, List.set_cons_zero, List.set_cons_succ]
  obtain ⟨cs, hcs⟩ := hHeld
  obtain ⟨T, hT⟩ := hcs.out.2.2.2.1
  refine only_op 5 rfl (by kernel_rfl) (by rfl) (wp_store_row 30 (.tmp 6) (.tmp 273) rfl k0 (pkArr pf af) rfl rfl T cs hT info_pk hcs.out.2.2.2.2.1 (one_pk _ _) ⟨⟨_, hcs.row⟩, ?_⟩)
  simp only [Act.put]
  have hHeld2 := hcs.row
  refine take_op 6 7 ?v6 rfl rfl (by kernel_rfl) (fun _ _ _ h => h) (by rfl) ⟨_, hHeld2⟩ (fun w' hS' => ?hv6) ?hh6
  case hv6 => (go_simp; try with_reducible rfl)
  simp only [Act.put, List.setIfInBounds_toArray]
  refine wpAnyH_done (by kernel_rfl) ?_ _
  have HF := Lib.hid hHeld2
  clear hcs hT hHeld2
  go_wp2_with fail
  refine bodyPost_ret (results_pk2 Tryz.results84 rfl HF.out.out.2.2.2.1 rfl) rfl ⟨pf, af, HRES.out, HF.out.out.2.2.1, HCAP.out, HNEW.out, HF.out.out.2.2.2.2.2.1, HWF.out, HPF.out⟩
 ·have hzn := ne_true hzf
  have HRB := Lib.hid (body_head 12 z s (by decide) (by decide) (by decide) hz0 hz1 (fun e => hzf e.symm))
  have hld := load_bx HL5.out.bx
  clear hzf HFB
  go_wp2_with (first | (refine wpList_load_any (by rfl) 30 (.tmp 8) rfl h 0 rfl _ hld ?_) | (refine wpList_store_whole rfl 30 (.tmp 6) (.tmp 52) rfl k0 (pkArr (zp 12) za) rfl rfl (pkArr (zp 0) za) HK5.out info_pk rfl (one_pk _ _) ?_; simp only [Act.put]))
  refine bodyPost_ret (results_pk2 Tryz.results84 rfl (HK5.out.row (pkArr (zp 12) za)) rfl) rfl ⟨zp 12, za, by rw [HRB.out]; rfl, PkAt.zero' _ _ _ ⟨rfl, rfl, rfl, rfl⟩, PkCap.zero' _ ⟨rfl, rfl, rfl, rfl⟩, .zero _, (Bar.row k0 w5 _).below HB5.out (by have := H12.out; omega) HB5.out.size, by rw [HRB.out]; exact (by decide : (8 : Int) ≠ 0), fun hb => by rw [HRB.out] at hb; cases hb⟩
theorem rbody_13 (z : Int) (s : ByteArray) (w : World) (hz0 : 0 ≤ z) (hz1 : z ≤ 15) (hs : s.size ≤ 268435456) :
  Calls Tryz.prog 84 #[.int .i64 13, .int .i64 z, .string s] w (GivesBody (bodyS (16 * 13 + z) s) w) := by
 have HF0 := hz0
 have HFB := Lib.hid HF0
 have HZ := Lib.hid hs
 have hb0 := Box.new w 30 (pkArr (zp 0) za)
 have ha := (Below.refl w.heap.size w).alloc (Nat.le_refl _) (.cells (pkArr (zp 0) za) 30)
 obtain ⟨W1, hW⟩ : ∃ W1, w.alloc (.cells (pkArr (zp 0) za) 30) = W1 := ⟨_, rfl⟩
 rw [hW] at hb0 ha
 simp only [pkArr, zp, za, zw, List.length_nil] at hW
 have HW := Lib.hid hW
 have HK0 := Lib.hid hb0
 have HA := Lib.hid ha
 clear hW hb0 ha HF0
 go_enter Tryz.func84, Tryz.ntmps84
 go_upto_region 1 with fail
 rw [HW.out]
 clear HW
 obtain ⟨k0, hk0⟩ : ∃ k, w.heap.size = k := ⟨_, rfl⟩
 have H13 := Lib.hid hk0
 rw [hk0] at HK0 ⊢
 clear hk0
 have hkl := HK0.out.lt
 have hb0 := Box.new W1 30 (pkArr (zp 0) za)
 have ha := (Below.refl W1.heap.size W1).alloc (Nat.le_refl _) (.cells (pkArr (zp 0) za) 30)
 obtain ⟨W2, hW⟩ : ∃ W2, W1.alloc (.cells (pkArr (zp 0) za) 30) = W2 := ⟨_, rfl⟩
 rw [hW] at hb0 ha
 simp only [pkArr, zp, za, zw, List.length_nil] at hW
 have HW := Lib.hid hW
 obtain ⟨h, hh⟩ : ∃ h, W1.heap.size = h := ⟨_, rfl⟩
 rw [hh] at hb0 ha hkl
 have HB2 := Lib.hid hb0
 have HA2 := Lib.hid ha
 have HH := Lib.hid hh
 clear hW hb0 ha
 go_upto_region 2 with (first | (refine wpList_build_kind rfl (.tmp 14) rfl 13 rfl ?_) | (rw [HW.out]; refine wpList_store_whole rfl 30 (.tmp 8) (.tmp 15) rfl h (pkArr (zp 13) za) rfl rfl (pkArr (zp 0) za) HB2.out info_pk rfl (one_pk _ _) ?_; simp only [Act.put]))
 have HB3 := Lib.hid (HB2.out.row (pkArr (zp 13) za))
 have HA3 := Lib.hid ((Bar.row h W2 (pkArr (zp 13) za)).below HA2.out (Nat.le_refl _) (by have := HA2.out.size; omega))
 clear HW HB2 HA2 hh
 generalize World.setRow _ _ _ = W3 at HB3 HA3 ⊢
 have hhl := HB3.out.lt
 go_upto_region 3 with fail
 have hr4 : RdOf false (W3.alloc (.cells #[.string s, .int .i64 0] 154)) W3.heap.size (.ok s) := ⟨Box.new W3 154 #[.string s, .int .i64 0], HZ.out⟩
 have ha4 := (Below.refl W3.heap.size W3).alloc (Nat.le_refl _) (.cells #[.string s, .int .i64 0] 154)
 obtain ⟨g, hg⟩ : ∃ g, W3.heap.size = g := ⟨_, rfl⟩
 rw [hg] at hr4 hhl ⊢
 have HL4 := Lib.hid (Live.mk (x := false) (B := h) (w0 := W1) (g := g) (h := h) (st := .ok s) (p := zp 13) (a := za) ⟨HA3.out.alloc (by omega) _, by omega, Nat.le_refl _, by omega, hr4, HB3.out.below (ha4.mono (by omega)), PkAt.zero' _ _ _ ⟨rfl, rfl, rfl, rfl⟩, .zero g, .zero h, PkCap.zero' _ ⟨rfl, rfl, rfl, rfl⟩, .zero h⟩)
 clear hr4 ha4 HA3 HB3 hg HZ
 generalize W3.alloc _ = W4 at HL4 ⊢
 have hld := load_bx HL4.out.bx
 go_wp2_with (refine wpList_load_any (by rfl) 30 (.tmp 8) rfl h 0 rfl _ hld ?_)
 refine (rflags_is (zp 13) za 0 W4 (by decide) (by decide) rfl).mono ?_
 rintro r w5 ⟨rfl, q1⟩
 have HL5 := Lib.hid (HL4.out.bar (Bar.of g q1) (HL4.out.rd.below q1))
 have HK5 : Hid (Box w5 k0 (pkArr (zp 0) za)) := Lib.hid (HK0.out.below (HL5.out.b.mono (by have := HH.out; omega)))
 have HB5 := Lib.hid (HA.out.trans (HL5.out.b.mono (by have := H13.out; omega)))
 clear q1 hld HL4
 by_cases hzf : z = 0
 ·subst hzf
  have HRB := Lib.hid (body_good 13 0 s (by decide) (by decide) (by decide) (by decide) (by decide) rfl)
  clear HK5 HB5 HFB
  obtain ⟨R, hR⟩ : ∃ R, partsS (zp 13) (.ok s) = R := ⟨_, rfl⟩
  rw [hR] at HRB
  have HPQ : Hid (∃ pf af, Live false h W1 g h R.2 pf af w5 ∧ (R.2.isBad = false → pf = R.1)) := ⟨zp 13, za, by rw [← hR]; exact HL5.out, fun _ => by rw [← hR]; rfl⟩
  obtain ⟨pf, af, hl, hp⟩ := HPQ.out
  have HLX := Lib.hid hl
  have HPQ := Lib.hid hp
  clear hR HL5 hl hp
  obtain ⟨sx, hx1, _, hx3, hx4, _⟩ := HLX.out.rd.rd
  have e0 := hx1.cell 0
  obtain ⟨bz, hbz⟩ : ∃ b, decide (sx.size = 0) = b := ⟨_, rfl⟩
  have hzz : ((sx.size : Int) == 0) = bz := by rw [← hbz]; exact beq_nat sx.size
  have HQ : Hid ((bodyS (16 * 13 + 0) s).2 = R.2.want bz 8) := by
   show _ = _
   rw [HRB.out]
   show R.2.want (decide (R.2.rest.size = 0)) 8 = _
   cases hbd : R.2.isBad with
   | false => have := hx3 hbd; rw [this]; show (St.ok sx).want (decide (sx.size = 0)) 8 = _; rw [hbz]
   | true => rw [(hx4 hbd).2]; rfl
  clear hx1 hx3 hx4 hbz
  go_wp2_with fail
  refine (want_st g R.2 bz 8 _ (by decide) HLX.out.rd).mono ?_
  rintro r w7 ⟨rfl, q1, q2⟩
  have HL8 := Lib.hid (HLX.out.bar q2 q1)
  have HK8 : Hid (Box w7 k0 (pkArr (zp 0) za)) := Lib.hid (HK0.out.below (HL8.out.b.mono (by have := HH.out; omega)))
  clear q1 q2 HLX e0 hzz
  go_upto_region 63 with fail
  obtain ⟨ste, hste⟩ : ∃ x, R.2.want bz 8 = x := ⟨_, rfl⟩
  rw [hste] at HL8 HQ
  have HCAP := Lib.hid HL8.out.cap
  have HNEW := Lib.hid (HL8.out.new.mono (B' := w.heap.size) (by have := H13.out; omega))
  have HWF : Hid ((bodyS (16 * 13 + 0) s).2.Wf) := by show St.Wf _; rw [HQ.out]; exact HL8.out.wf
  have HRES : Hid (Ending.returned (.tuple #[.agg (pkArr pf af), .int .i64 ste.err]) = .returned (.tuple #[.agg (pkArr pf af), .int .i64 (bodyS (16 * 13 + 0) s).2.err])) := by show _ = _; rw [HQ.out]
  have HPF : Hid ((bodyS (16 * 13 + 0) s).2.isBad = false → pf = (bodyS (16 * 13 + 0) s).1) := fun hb => by
   rw [HQ.out, ← hste] at hb
   rw [HRB.out]
   exact HPQ.out (not_bad hb)
  have HEN := Lib.hid (EndAt.mk (w := w) (k0 := k0) (g := g) (h := h) (st := ste) (p := pf) (a := af) (cs := pkArr (zp 0) za) ⟨HL8.out.rd, HL8.out.bx, HL8.out.at, HK8.out, rfl, (HA.out.trans (HL8.out.b.mono (by have := H13.out; omega))), by have := H13.out; omega, by omega, by omega, HL8.out.new.off hkl⟩)
  clear HL8 HK8 hste
  refine wp_region_held_drew (S := fun W => ∃ cs, EndAt false w k0 g h ste pf af cs W) (by kernel_rfl) ⟨_, HEN.out.drew⟩ (fun hHeld => ?_)
  generalize World.drew _ = Wd at hHeld ⊢
  refine take_load 0 273 30 (.tmp 8) h 0 (.agg (pkArr pf af)) rfl rfl (by kernel_rfl) (fun _ _ _ h => h) (by rfl) hHeld rfl rfl (fun w' hS' => load_bx hS'.choose_spec.out.2.1) ?_
  simp only [Act.put, List.setIfInBounds_toArray, List.set_cons_zero, List.set_cons_succ]
  refine take_op 1 274 ?v1 rfl rfl (by kernel_rfl) (fun _ _ _ h => h) (by rfl) hHeld (fun w' hS' => ?hv1) ?hh1
  case hv1 => (go_simp; try with_reducible rfl)
  simp only [Act.put, List.setIfInBounds_toArray, List.set_cons_zero, List.set_cons_succ]
  refine take_op 2 275 ?v2 rfl rfl (by kernel_rfl) (fun _ _ _ h => h) (by rfl) hHeld (fun w' hS' => ?hv2) ?hh2
  case hv2 => (go_simp; try with_reducible rfl)
  simp only [Act.put, List.setIfInBounds_toArray, List.set_cons_zero, List.set_cons_succ]
  refine take_op 3 276 ?v3 rfl rfl (by kernel_rfl) (fun _ _ _ h => h) (by rfl) hHeld (fun w' hS' => ?hv3) ?hh3
  case hv3 => (go_simp; try with_reducible rfl)
  simp only [Act.put, List.setIfInBounds_toArray, List.set_cons_zero, List.set_cons_succ]
  refine take_op 4 277 ?v4 rfl rfl (by kernel_rfl) (fun _ _ _ h => h) (by rfl) hHeld (fun w' hS' => ?hv4) ?hh4
  case hv4 => (have k := hS'.choose_spec.err; go_simp; try with_reducible rfl)
  simp only [Act.put, List.setIfInBounds_toArray, List.set_cons_zero, List.set_cons_succ]
  obtain ⟨cs, hcs⟩ := hHeld
  obtain ⟨T, hT⟩ := hcs.out.2.2.2.1
  refine only_op 5 rfl (by kernel_rfl) (by rfl) (wp_store_row 30 (.tmp 6) (.tmp 273) rfl k0 (pkArr pf af) rfl rfl T cs hT info_pk hcs.out.2.2.2.2.1 (one_pk _ _) ⟨⟨_, hcs.row⟩, ?_⟩)
  simp only [Act.put]
  have hHeld2 := hcs.row
  refine take_op 6 7 ?v6 rfl rfl (by kernel_rfl) (fun _ _ _ h => h) (by rfl) ⟨_, hHeld2⟩ (fun w' hS' => ?hv6) ?hh6
  case hv6 => (go_simp; try with_reducible rfl)
  simp only [Act.put, List.setIfInBounds_toArray]
  refine wpAnyH_done (by kernel_rfl) ?_ _
  have HF := Lib.hid hHeld2
  clear hcs hT hHeld2
  go_wp2_with fail
  refine bodyPost_ret (results_pk2 Tryz.results84 rfl HF.out.out.2.2.2.1 rfl) rfl ⟨pf, af, HRES.out, HF.out.out.2.2.1, HCAP.out, HNEW.out, HF.out.out.2.2.2.2.2.1, HWF.out, HPF.out⟩
 ·have hzn := ne_true hzf
  have HRB := Lib.hid (body_head 13 z s (by decide) (by decide) (by decide) hz0 hz1 (fun e => hzf e.symm))
  have hld := load_bx HL5.out.bx
  clear hzf HFB
  go_wp2_with (first | (refine wpList_load_any (by rfl) 30 (.tmp 8) rfl h 0 rfl _ hld ?_) | (refine wpList_store_whole rfl 30 (.tmp 6) (.tmp 52) rfl k0 (pkArr (zp 13) za) rfl rfl (pkArr (zp 0) za) HK5.out info_pk rfl (one_pk _ _) ?_; simp only [Act.put]))
  refine bodyPost_ret (results_pk2 Tryz.results84 rfl (HK5.out.row (pkArr (zp 13) za)) rfl) rfl ⟨zp 13, za, by rw [HRB.out]; rfl, PkAt.zero' _ _ _ ⟨rfl, rfl, rfl, rfl⟩, PkCap.zero' _ ⟨rfl, rfl, rfl, rfl⟩, .zero _, (Bar.row k0 w5 _).below HB5.out (by have := H13.out; omega) HB5.out.size, by rw [HRB.out]; exact (by decide : (8 : Int) ≠ 0), fun hb => by rw [HRB.out] at hb; cases hb⟩
end Go.Proofs.YtdbbcfohjkgdcaaGreat
