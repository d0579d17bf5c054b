/- The document's own: all behind a packet's length: a code put behind codes, in a region that draws its order. -/
import Derived.Test.YtdbbcfohjkgdcaaGreatL00
import Derived.Test.YtdbbcfohjkgdcaaGreatL23
set_option maxRecDepth 100000
set_option maxHeartbeats 64000000
namespace Go.Proofs.YtdbbcfohjkgdcaaGreat
open Go.RowKit Go.Lib Prp Pkt Vbi
theorem rbody_id (kd fl z : Int) (s : ByteArray) (w : World) (hk : kd = 4 ∨ kd = 5 ∨ kd = 6 ∨ kd = 7) (hrf : rflagsZ (zp kd) = fl) (hfl : flagsZ (zp kd) = fl) (hz0 : 0 ≤ z) (hz1 : z ≤ 15) (hs : s.size ≤ 268435456) :
  Calls Tryz.prog 84 #[.int .i64 kd, .int .i64 z, .string s] w (GivesBody (bodyS (16 * kd + z) s) w) := by
 have HRF := Lib.hid hrf
 have HFL := Lib.hid hfl
 have HKD : Hid ((kd = 4 ∨ kd = 5 ∨ kd = 6 ∨ kd = 7) ∧ kd ≠ 0 ∧ kd ≠ 3 ∧ (∀ st, partsS (zp kd) st = idReasonS (zp kd) st) ∧ placeB kd = true) :=
  ⟨hk, by omega, by omega, by rcases hk with rfl | rfl | rfl | rfl <;> exact fun _ => rfl, by rcases hk with rfl | rfl | rfl | rfl <;> rfl⟩
 have e0 : (kd == 0) = false := ne_false (by omega)
 have e1 : (kd == 1) = false := ne_false (by omega)
 have e2 : (kd == 2) = false := ne_false (by omega)
 have e3 : (kd == 3) = false := ne_false (by omega)
 have ne14 : (kd != 14) = true := ne_true (by omega)
 have ne15 : (kd != 15) = true := ne_true (by omega)
 have hcase : (kd == 4) = true ∨ ((kd == 4) = false ∧ (kd == 5) = true) ∨ ((kd == 4) = false ∧ (kd == 5) = false ∧ (kd == 6) = true) ∨ ((kd == 4) = false ∧ (kd == 5) = false ∧ (kd == 6) = false ∧ (kd == 7) = true) := by
  rcases hk with rfl | rfl | rfl | rfl <;> decide
 clear hk hrf hfl
 rcases hcase with g4 | ⟨g4, g5⟩ | ⟨g4, g5, g6⟩ | ⟨g4, g5, g6, g7⟩
 all_goals
  have HF0 := hz0
  have HFB := Lib.hid HF0
  have HZ := Lib.hid hs
  have hb0 := Box.new w 30 (pkArr (zp 0) za)
  have ha := (Below.refl w.heap.size w).alloc (Nat.le_refl _) (.cells (pkArr (zp 0) za) 30)
  obtain ⟨W1, hW⟩ : ∃ W1, w.alloc (.cells (pkArr (zp 0) za) 30) = W1 := ⟨_, rfl⟩
  rw [hW] at hb0 ha
  simp only [pkArr, zp, za, zw, List.length_nil] at hW
  have HW := Lib.hid hW
  have HK0 := Lib.hid hb0
  have HA := Lib.hid ha
  clear hW hb0 ha HF0
  go_enter Tryz.func84, Tryz.ntmps84
  go_upto_region 1 with fail
  rw [HW.out]
  clear HW
  obtain ⟨k0, hk0⟩ : ∃ k, w.heap.size = k := ⟨_, rfl⟩
  have HQ6 := Lib.hid hk0
  rw [hk0] at HK0 ⊢
  clear hk0
  have hkl := HK0.out.lt
  have hb0 := Box.new W1 30 (pkArr (zp 0) za)
  have ha := (Below.refl W1.heap.size W1).alloc (Nat.le_refl _) (.cells (pkArr (zp 0) za) 30)
  obtain ⟨W2, hW⟩ : ∃ W2, W1.alloc (.cells (pkArr (zp 0) za) 30) = W2 := ⟨_, rfl⟩
  rw [hW] at hb0 ha
  simp only [pkArr, zp, za, zw, List.length_nil] at hW
  have HW := Lib.hid hW
  obtain ⟨h, hh⟩ : ∃ h, W1.heap.size = h := ⟨_, rfl⟩
  rw [hh] at hb0 ha hkl
  have HB2 := Lib.hid hb0
  have HA2 := Lib.hid ha
  have HH := Lib.hid hh
  clear hW hb0 ha
  go_upto_region 2 with (first | (refine wpList_build_kind rfl (.tmp 14) rfl kd rfl ?_) | (rw [HW.out]; refine wpList_store_whole rfl 30 (.tmp 8) (.tmp 15) rfl h (pkArr (zp kd) za) rfl rfl (pkArr (zp 0) za) HB2.out info_pk rfl (one_pk _ _) ?_; simp only [Act.put]))
  have HB3 := Lib.hid (HB2.out.row (pkArr (zp kd) za))
  have HA3 := Lib.hid ((Bar.row h W2 (pkArr (zp kd) za)).below HA2.out (Nat.le_refl _) (by have := HA2.out.size; omega))
  clear HW HB2 HA2 hh
  generalize World.setRow _ _ _ = W3 at HB3 HA3 ⊢
  have hhl := HB3.out.lt
  go_upto_region 3 with fail
  have hr4 : RdOf false (W3.alloc (.cells #[.string s, .int .i64 0] 154)) W3.heap.size (.ok s) := ⟨Box.new W3 154 #[.string s, .int .i64 0], HZ.out⟩
  have ha4 := (Below.refl W3.heap.size W3).alloc (Nat.le_refl _) (.cells #[.string s, .int .i64 0] 154)
  obtain ⟨g, hg⟩ : ∃ g, W3.heap.size = g := ⟨_, rfl⟩
  rw [hg] at hr4 hhl ⊢
  have HL4 := Lib.hid (Live.mk (x := false) (B := h) (w0 := W1) (g := g) (h := h) (st := .ok s) (p := zp kd) (a := za) ⟨HA3.out.alloc (by omega) _, by omega, Nat.le_refl _, by omega, hr4, HB3.out.below (ha4.mono (by omega)), PkAt.zero' _ _ _ ⟨rfl, rfl, rfl, rfl⟩, .zero g, .zero h, PkCap.zero' _ ⟨rfl, rfl, rfl, rfl⟩, .zero h⟩)
  clear hr4 ha4 HA3 HB3 hg HZ
  generalize W3.alloc _ = W4 at HL4 ⊢
  have hld := load_bx HL4.out.bx
  go_wp2_with (refine wpList_load_any (by rfl) 30 (.tmp 8) rfl h 0 rfl _ hld ?_)
  refine (rflags_is (zp kd) za fl W4 (Int.le_refl 0) (show (0 : Int) ≤ 3 by decide) HRF.out).mono ?_
  rintro r w5 ⟨rfl, q1⟩
  have HL5 := Lib.hid (HL4.out.bar (Bar.of g q1) (HL4.out.rd.below q1))
  have HK5 : Hid (Box w5 k0 (pkArr (zp 0) za)) := Lib.hid (HK0.out.below (HL5.out.b.mono (by have := HH.out; omega)))
  have HB5 := Lib.hid (HA.out.trans (HL5.out.b.mono (by have := HQ6.out; omega)))
  clear q1 hld HL4
  by_cases hzf : z = fl
  ·subst hzf
   have HRB := Lib.hid (body_good kd z s HKD.out.2.1 HKD.out.2.2.1 trivial hz0 hz1 HFL.out)
   clear HK5 HB5 HFB
   obtain ⟨R, hR⟩ : ∃ R, partsS (zp kd) (.ok s) = R := ⟨_, rfl⟩
   rw [hR] at HRB
   obtain ⟨n, hn⟩ : ∃ n, ((St.ok s).run (fixR 2)).val 0 = n := ⟨_, rfl⟩
   obtain ⟨s0, hs0⟩ : ∃ x, ((St.ok s).run (fixR 2)).st = x := ⟨_, rfl⟩
   have HO1 : Calls Tryz.prog 105 #[.pointer (some ⟨g, 0, none⟩), .int .i64 2] w5 fun r w' => r = .returned (.int .i64 n) ∧ RdOf false w' g s0 ∧ Bar g w5 w' := by
    rw [← hn, ← hs0]
    exact fixed_st g 2 (.ok s) w5 (by decide) HL5.out.rd
   obtain ⟨bn, hbn⟩ : ∃ b, decide (0 < n) = b := ⟨_, rfl⟩
   obtain ⟨st2, hst2⟩ : ∃ x, s0.want bn 8 = x := ⟨_, rfl⟩
   have hnv : ((St.ok s).run numberR).val 0 = n := (number_val _).trans hn
   have hns : ((St.ok s).run numberR).st = st2 := by rw [number_st, hn, hs0, hbn, hst2]
   have HRR : Hid (R = reasonS { zp kd with id := n } st2) := by show _ = _; rw [← hR, HKD.out.2.2.2.1, ← hnv, ← hns]; rfl
   have H1 := Lib.hid HO1
   have HO2 := fun (W : World) (hr : RdOf false W g s0) => want_st g s0 bn 8 W (by decide) hr
   rw [hst2] at HO2
   have H2 := Lib.hid HO2
   clear HO1 HO2 hn hs0 hst2 hnv hns hR
   go_wp2_with fail
   refine H1.out.mono ?_
   rintro r w6 ⟨rfl, k1, k2⟩
   have HL6 := Lib.hid (HL5.out.bar k2 k1)
   clear k1 k2 HL5 H1
   have d4 := HL6.out.f4
   have f4 := HL6.out.frozen 4
   have HL7 := Lib.hid (HL6.out.put1 4 (.int .i64 n) { zp kd with id := n } rfl rfl rfl rfl rfl)
   go_wp2_with fail
   refine (H2.out _ HL7.out.rd).mono ?_
   rintro r w7 ⟨rfl, k1, k2⟩
   have HLQ := Lib.hid (HL7.out.bar k2 k1)
   clear k1 k2 HL6 HL7 H2 d4 f4 hbn
   cases st2 with
   | bad e =>
    obtain ⟨hne0, sx, hx, _, _⟩ := HLQ.out.rd
    have d0 : w7.cell? ⟨g, 0, none⟩ = some (.string sx) := hx.cell 0
    have d1 : w7.cell? ⟨g, 1, none⟩ = some (.int .i64 e) := hx.cell 1
    have he0 : (e == 0) = false := ne_false hne0
    have HPQ : Hid (∃ pf af, Live false h W1 g h R.2 pf af w7 ∧ (R.2.isBad = false → pf = R.1)) := ⟨_, _, by rw [HRR.out]; exact HLQ.out, fun hb => by rw [HRR.out] at hb; cases hb⟩
    clear hx hne0 HLQ HRR
    go_upto_region 62 with fail
    clear d0 d1 he0
    obtain ⟨pf, af, hl, hp⟩ := HPQ.out
    have HLX := Lib.hid hl
    have HPQ := Lib.hid hp
    clear hl hp
    obtain ⟨sx, hx1, _, hx3, hx4, _⟩ := HLX.out.rd.rd
    have e0 := hx1.cell 0
    obtain ⟨bz, hbz⟩ : ∃ b, decide (sx.size = 0) = b := ⟨_, rfl⟩
    have hzz : ((sx.size : Int) == 0) = bz := by rw [← hbz]; exact beq_nat sx.size
    have HQ : Hid ((bodyS (16 * kd + z) s).2 = R.2.want bz 8) := by
     show _ = _
     rw [HRB.out]
     show R.2.want (decide (R.2.rest.size = 0)) 8 = _
     cases hbd : R.2.isBad with
     | false => have := hx3 hbd; rw [this]; show (St.ok sx).want (decide (sx.size = 0)) 8 = _; rw [hbz]
     | true => rw [(hx4 hbd).2]; rfl
    clear hx1 hx3 hx4 hbz
    go_wp2_with fail
    refine (want_st g R.2 bz 8 _ (by decide) HLX.out.rd).mono ?_
    rintro r w7 ⟨rfl, q1, q2⟩
    have HL8 := Lib.hid (HLX.out.bar q2 q1)
    have HK8 : Hid (Box w7 k0 (pkArr (zp 0) za)) := Lib.hid (HK0.out.below (HL8.out.b.mono (by have := HH.out; omega)))
    clear q1 q2 HLX e0 hzz
    go_upto_region 63 with fail
    obtain ⟨ste, hste⟩ : ∃ x, R.2.want bz 8 = x := ⟨_, rfl⟩
    rw [hste] at HL8 HQ
    have HCAP := Lib.hid HL8.out.cap
    have HNEW := Lib.hid (HL8.out.new.mono (B' := w.heap.size) (by have := HQ6.out; omega))
    have HWF : Hid ((bodyS (16 * kd + z) s).2.Wf) := by show St.Wf _; rw [HQ.out]; exact HL8.out.wf
    have HRES : Hid (Ending.returned (.tuple #[.agg (pkArr pf af), .int .i64 ste.err]) = .returned (.tuple #[.agg (pkArr pf af), .int .i64 (bodyS (16 * kd + z) s).2.err])) := by show _ = _; rw [HQ.out]
    have HPF : Hid ((bodyS (16 * kd + z) s).2.isBad = false → pf = (bodyS (16 * kd + z) s).1) := fun hb => by
     rw [HQ.out, ← hste] at hb
     rw [HRB.out]
     exact HPQ.out (not_bad hb)
    have HEN := Lib.hid (EndAt.mk (w := w) (k0 := k0) (g := g) (h := h) (st := ste) (p := pf) (a := af) (cs := pkArr (zp 0) za) ⟨HL8.out.rd, HL8.out.bx, HL8.out.at, HK8.out, rfl, (HA.out.trans (HL8.out.b.mono (by have := HQ6.out; omega))), by have := HQ6.out; omega, by omega, by omega, HL8.out.new.off hkl⟩)
    clear HL8 HK8 hste
    refine wp_region_held_drew (S := fun W => ∃ cs, EndAt false w k0 g h ste pf af cs W) (by kernel_rfl) ⟨_, HEN.out.drew⟩ (fun hHeld => ?_)
    generalize World.drew _ = Wd at hHeld ⊢
    refine take_load 0 273 30 (.tmp 8) h 0 (.agg (pkArr pf af)) rfl rfl (by kernel_rfl) (fun _ _ _ h => h) (by rfl) hHeld rfl rfl (fun w' hS' => load_bx hS'.choose_spec.out.2.1) ?_
    simp only [Act.put, List.setIfInBounds_toArray, List.set_cons_zero, List.set_cons_succ]
    refine take_op 1 274 _ rfl rfl (by kernel_rfl) (fun _ _ _ h => h) (by rfl) hHeld (fun w' hS' => by go_simp; try with_reducible rfl) ?_
    simp only [Act.put, List.setIfInBounds_toArray, List.set_cons_zero, List.set_cons_succ]
    refine take_op 2 275 _ rfl rfl (by kernel_rfl) (fun _ _ _ h => h) (by rfl) hHeld (fun w' hS' => by go_simp; try with_reducible rfl) ?_
    simp only [Act.put, List.setIfInBounds_toArray, List.set_cons_zero, List.set_cons_succ]
    refine take_op 3 276 _ rfl rfl (by kernel_rfl) (fun _ _ _ h => h) (by rfl) hHeld (fun w' hS' => by go_simp; try with_reducible rfl) ?_
    simp only [Act.put, List.setIfInBounds_toArray, List.set_cons_zero, List.set_cons_succ]
    refine take_op 4 277 _ rfl rfl (by kernel_rfl) (fun _ _ _ h => h) (by rfl) hHeld (fun w' hS' => by have k := hS'.choose_spec.err; go_simp; try with_reducible rfl) ?_
    simp only [Act.put, List.setIfInBounds_toArray, List.set_cons_zero, List.set_cons_succ]
    obtain ⟨cs, hcs⟩ := hHeld
    obtain ⟨T, hT⟩ := hcs.out.2.2.2.1
    refine only_op 5 rfl (by kernel_rfl) (by rfl) (wp_store_row 30 (.tmp 6) (.tmp 273) rfl k0 (pkArr pf af) rfl rfl T cs hT info_pk hcs.out.2.2.2.2.1 (one_pk _ _) ⟨⟨_, hcs.row⟩, ?_⟩)
    simp only [Act.put]
    have hHeld2 := hcs.row
    refine take_op 6 7 _ rfl rfl (by kernel_rfl) (fun _ _ _ h => h) (by rfl) ⟨_, hHeld2⟩ (fun w' hS' => by go_simp; try with_reducible rfl) ?_
    simp only [Act.put, List.setIfInBounds_toArray]
    refine wpAnyH_done (by kernel_rfl) ?_ _
    have HF := Lib.hid hHeld2
    clear hcs hT hHeld2
    go_wp2_with fail
    refine bodyPost_ret (results_pk2 Tryz.results84 rfl HF.out.out.2.2.2.1 rfl) rfl ⟨pf, af, HRES.out, HF.out.out.2.2.1, HCAP.out, HNEW.out, HF.out.out.2.2.2.2.2.1, HWF.out, HPF.out⟩
   | ok s2 =>
    have hrd : Rd w7 g s2 0 := HLQ.out.rd.1
    have d0 : w7.cell? ⟨g, 0, none⟩ = some (.string s2) := hrd.cell 0
    have d1 : w7.cell? ⟨g, 1, none⟩ = some (.int .i64 0) := hrd.cell 1
    clear hrd
    by_cases h0 : s2.size = 0
    ·have HPQ : Hid (∃ pf af, Live false h W1 g h R.2 pf af w7 ∧ (R.2.isBad = false → pf = R.1)) := by
      have he : reasonS { zp kd with id := n } (.ok s2) = ({ zp kd with id := n }, .ok s2) := reasonS_none (by unfold St.more; show ¬ decide (s2.size ≠ 0) = true; rw [h0]; decide)
      exact ⟨_, _, by rw [HRR.out, he]; exact HLQ.out, fun _ => by rw [HRR.out, he]⟩
     obtain rfl : s2 = ByteArray.empty := ByteArray.size_eq_zero_iff.1 h0
     clear h0 HLQ HRR
     go_upto_region 62 with fail
     clear d0 d1
     obtain ⟨pf, af, hl, hp⟩ := HPQ.out
     have HLX := Lib.hid hl
     have HPQ := Lib.hid hp
     clear hl hp
     obtain ⟨sx, hx1, _, hx3, hx4, _⟩ := HLX.out.rd.rd
     have e0 := hx1.cell 0
     obtain ⟨bz, hbz⟩ : ∃ b, decide (sx.size = 0) = b := ⟨_, rfl⟩
     have hzz : ((sx.size : Int) == 0) = bz := by rw [← hbz]; exact beq_nat sx.size
     have HQ : Hid ((bodyS (16 * kd + z) s).2 = R.2.want bz 8) := by
      show _ = _
      rw [HRB.out]
      show R.2.want (decide (R.2.rest.size = 0)) 8 = _
      cases hbd : R.2.isBad with
      | false => have := hx3 hbd; rw [this]; show (St.ok sx).want (decide (sx.size = 0)) 8 = _; rw [hbz]
      | true => rw [(hx4 hbd).2]; rfl
     clear hx1 hx3 hx4 hbz
     go_wp2_with fail
     refine (want_st g R.2 bz 8 _ (by decide) HLX.out.rd).mono ?_
     rintro r w7 ⟨rfl, q1, q2⟩
     have HL8 := Lib.hid (HLX.out.bar q2 q1)
     have HK8 : Hid (Box w7 k0 (pkArr (zp 0) za)) := Lib.hid (HK0.out.below (HL8.out.b.mono (by have := HH.out; omega)))
     clear q1 q2 HLX e0 hzz
     go_upto_region 63 with fail
     obtain ⟨ste, hste⟩ : ∃ x, R.2.want bz 8 = x := ⟨_, rfl⟩
     rw [hste] at HL8 HQ
     have HCAP := Lib.hid HL8.out.cap
     have HNEW := Lib.hid (HL8.out.new.mono (B' := w.heap.size) (by have := HQ6.out; omega))
     have HWF : Hid ((bodyS (16 * kd + z) s).2.Wf) := by show St.Wf _; rw [HQ.out]; exact HL8.out.wf
     have HRES : Hid (Ending.returned (.tuple #[.agg (pkArr pf af), .int .i64 ste.err]) = .returned (.tuple #[.agg (pkArr pf af), .int .i64 (bodyS (16 * kd + z) s).2.err])) := by show _ = _; rw [HQ.out]
     have HPF : Hid ((bodyS (16 * kd + z) s).2.isBad = false → pf = (bodyS (16 * kd + z) s).1) := fun hb => by
      rw [HQ.out, ← hste] at hb
      rw [HRB.out]
      exact HPQ.out (not_bad hb)
     have HEN := Lib.hid (EndAt.mk (w := w) (k0 := k0) (g := g) (h := h) (st := ste) (p := pf) (a := af) (cs := pkArr (zp 0) za) ⟨HL8.out.rd, HL8.out.bx, HL8.out.at, HK8.out, rfl, (HA.out.trans (HL8.out.b.mono (by have := HQ6.out; omega))), by have := HQ6.out; omega, by omega, by omega, HL8.out.new.off hkl⟩)
     clear HL8 HK8 hste
     refine wp_region_held_drew (S := fun W => ∃ cs, EndAt false w k0 g h ste pf af cs W) (by kernel_rfl) ⟨_, HEN.out.drew⟩ (fun hHeld => ?_)
     generalize World.drew _ = Wd at hHeld ⊢
     refine take_load 0 273 30 (.tmp 8) h 0 (.agg (pkArr pf af)) rfl rfl (by kernel_rfl) (fun _ _ _ h => h) (by rfl) hHeld rfl rfl (fun w' hS' => load_bx hS'.choose_spec.out.2.1) ?_
     simp only [Act.put, List.setIfInBounds_toArray, List.set_cons_zero, List.set_cons_succ]
     refine take_op 1 274 _ rfl rfl (by kernel_rfl) (fun _ _ _ h => h) (by rfl) hHeld (fun w' hS' => by go_simp; try with_reducible rfl) ?_
     simp only [Act.put, List.setIfInBounds_toArray, List.set_cons_zero, List.set_cons_succ]
     refine take_op 2 275 _ rfl rfl (by kernel_rfl) (fun _ _ _ h => h) (by rfl) hHeld (fun w' hS' => by go_simp; try with_reducible rfl) ?_
     simp only [Act.put, List.setIfInBounds_toArray, List.set_cons_zero, List.set_cons_succ]
     refine take_op 3 276 _ rfl rfl (by kernel_rfl) (fun _ _ _ h => h) (by rfl) hHeld (fun w' hS' => by go_simp; try with_reducible rfl) ?_
     simp only [Act.put, List.setIfInBounds_toArray, List.set_cons_zero, List.set_cons_succ]
     refine take_op 4 277 _ rfl rfl (by kernel_rfl) (fun _ _ _ h => h) (by rfl) hHeld (fun w' hS' => by have k := hS'.choose_spec.err; go_simp; try with_reducible rfl) ?_
     simp only [Act.put, List.setIfInBounds_toArray, List.set_cons_zero, List.set_cons_succ]
     obtain ⟨cs, hcs⟩ := hHeld
     obtain ⟨T, hT⟩ := hcs.out.2.2.2.1
     refine only_op 5 rfl (by kernel_rfl) (by rfl) (wp_store_row 30 (.tmp 6) (.tmp 273) rfl k0 (pkArr pf af) rfl rfl T cs hT info_pk hcs.out.2.2.2.2.1 (one_pk _ _) ⟨⟨_, hcs.row⟩, ?_⟩)
     simp only [Act.put]
     have hHeld2 := hcs.row
     refine take_op 6 7 _ rfl rfl (by kernel_rfl) (fun _ _ _ h => h) (by rfl) ⟨_, hHeld2⟩ (fun w' hS' => by go_simp; try with_reducible rfl) ?_
     simp only [Act.put, List.setIfInBounds_toArray]
     refine wpAnyH_done (by kernel_rfl) ?_ _
     have HF := Lib.hid hHeld2
     clear hcs hT hHeld2
     go_wp2_with fail
     refine bodyPost_ret (results_pk2 Tryz.results84 rfl HF.out.out.2.2.2.1 rfl) rfl ⟨pf, af, HRES.out, HF.out.out.2.2.1, HCAP.out, HNEW.out, HF.out.out.2.2.2.2.2.1, HWF.out, HPF.out⟩
    ·have hm : (St.ok s2).more = true := decide_eq_true h0
     have hgt : 0 < s2.size := by omega
     obtain ⟨v, s3, hrun⟩ := more_run hm
     have HO0 := fixed_st g 1 (.ok s2) w7 (by decide) HLQ.out.rd
     have hrun' : (St.ok s2).run (fixR 1) = .ok v s3 := hrun
     rw [hrun'] at HO0
     have HO : Hid (Calls Tryz.prog 105 #[.pointer (some ⟨g, 0, none⟩), .int .i64 1] w7 fun r w' => r = .returned (.int .i64 v) ∧ RdOf false w' g (.ok s3) ∧ Bar g w7 w') := HO0
     have HRUN := Lib.hid (And.intro hm hrun)
     clear HO0 hrun hrun' hm
     go_wp2_with fail
     refine HO.out.mono ?_
     rintro r wa ⟨rfl, k1, k2⟩
     have HL6 := Lib.hid (HLQ.out.bar k2 k1)
     clear k1 k2 d0 d1 HO HLQ h0 hgt
     have hrd : Rd wa g s3 0 := HL6.out.rd.1
     have d0 : wa.cell? ⟨g, 0, none⟩ = some (.string s3) := hrd.cell 0
     have d1 : wa.cell? ⟨g, 1, none⟩ = some (.int .i64 0) := hrd.cell 1
     have d7 := HL6.out.f7
     have f7 := HL6.out.frozen 7
     have hgh : ¬ g = h := HL6.out.out.2.2.2.1
     have HL7 := Lib.hid (HL6.out.put1 7 (.int .i64 v) { zp kd with id := n, re := v } rfl rfl rfl rfl rfl)
     clear hrd
     by_cases h1 : s3.size = 0
     ·have HPQ : Hid (∃ pf af, Live false h W1 g h R.2 pf af (wa.setCell ⟨h, 7, none⟩ (.int .i64 v)) ∧ (R.2.isBad = false → pf = R.1)) := by
       have he := reasonS_one (p := { zp kd with id := n }) HRUN.out.1 HRUN.out.2 h1
       exact ⟨_, _, by rw [HRR.out, he]; exact HL7.out, fun _ => by rw [HRR.out, he]⟩
      obtain rfl : s3 = ByteArray.empty := ByteArray.size_eq_zero_iff.1 h1
      clear h1 HRR HRUN HL6 HL7
      go_upto_region 62 with fail
      clear d0 d1 d7 f7
      generalize World.setCell _ _ _ = Wb at HPQ ⊢
      obtain ⟨pf, af, hl, hp⟩ := HPQ.out
      have HLX := Lib.hid hl
      have HPQ := Lib.hid hp
      clear hl hp
      obtain ⟨sx, hx1, _, hx3, hx4, _⟩ := HLX.out.rd.rd
      have e0 := hx1.cell 0
      obtain ⟨bz, hbz⟩ : ∃ b, decide (sx.size = 0) = b := ⟨_, rfl⟩
      have hzz : ((sx.size : Int) == 0) = bz := by rw [← hbz]; exact beq_nat sx.size
      have HQ : Hid ((bodyS (16 * kd + z) s).2 = R.2.want bz 8) := by
       show _ = _
       rw [HRB.out]
       show R.2.want (decide (R.2.rest.size = 0)) 8 = _
       cases hbd : R.2.isBad with
       | false => have := hx3 hbd; rw [this]; show (St.ok sx).want (decide (sx.size = 0)) 8 = _; rw [hbz]
       | true => rw [(hx4 hbd).2]; rfl
      clear hx1 hx3 hx4 hbz
      go_wp2_with fail
      refine (want_st g R.2 bz 8 _ (by decide) HLX.out.rd).mono ?_
      rintro r w7 ⟨rfl, q1, q2⟩
      have HL8 := Lib.hid (HLX.out.bar q2 q1)
      have HK8 : Hid (Box w7 k0 (pkArr (zp 0) za)) := Lib.hid (HK0.out.below (HL8.out.b.mono (by have := HH.out; omega)))
      clear q1 q2 HLX e0 hzz
      go_upto_region 63 with fail
      obtain ⟨ste, hste⟩ : ∃ x, R.2.want bz 8 = x := ⟨_, rfl⟩
      rw [hste] at HL8 HQ
      have HCAP := Lib.hid HL8.out.cap
      have HNEW := Lib.hid (HL8.out.new.mono (B' := w.heap.size) (by have := HQ6.out; omega))
      have HWF : Hid ((bodyS (16 * kd + z) s).2.Wf) := by show St.Wf _; rw [HQ.out]; exact HL8.out.wf
      have HRES : Hid (Ending.returned (.tuple #[.agg (pkArr pf af), .int .i64 ste.err]) = .returned (.tuple #[.agg (pkArr pf af), .int .i64 (bodyS (16 * kd + z) s).2.err])) := by show _ = _; rw [HQ.out]
      have HPF : Hid ((bodyS (16 * kd + z) s).2.isBad = false → pf = (bodyS (16 * kd + z) s).1) := fun hb => by
       rw [HQ.out, ← hste] at hb
       rw [HRB.out]
       exact HPQ.out (not_bad hb)
      have HEN := Lib.hid (EndAt.mk (w := w) (k0 := k0) (g := g) (h := h) (st := ste) (p := pf) (a := af) (cs := pkArr (zp 0) za) ⟨HL8.out.rd, HL8.out.bx, HL8.out.at, HK8.out, rfl, (HA.out.trans (HL8.out.b.mono (by have := HQ6.out; omega))), by have := HQ6.out; omega, by omega, by omega, HL8.out.new.off hkl⟩)
      clear HL8 HK8 hste
      refine wp_region_held_drew (S := fun W => ∃ cs, EndAt false w k0 g h ste pf af cs W) (by kernel_rfl) ⟨_, HEN.out.drew⟩ (fun hHeld => ?_)
      generalize World.drew _ = Wd at hHeld ⊢
      refine take_load 0 273 30 (.tmp 8) h 0 (.agg (pkArr pf af)) rfl rfl (by kernel_rfl) (fun _ _ _ h => h) (by rfl) hHeld rfl rfl (fun w' hS' => load_bx hS'.choose_spec.out.2.1) ?_
      simp only [Act.put, List.setIfInBounds_toArray, List.set_cons_zero, List.set_cons_succ]
      refine take_op 1 274 _ rfl rfl (by kernel_rfl) (fun _ _ _ h => h) (by rfl) hHeld (fun w' hS' => by go_simp; try with_reducible rfl) ?_
      simp only [Act.put, List.setIfInBounds_toArray, List.set_cons_zero, List.set_cons_succ]
      refine take_op 2 275 _ rfl rfl (by kernel_rfl) (fun _ _ _ h => h) (by rfl) hHeld (fun w' hS' => by go_simp; try with_reducible rfl) ?_
      simp only [Act.put, List.setIfInBounds_toArray, List.set_cons_zero, List.set_cons_succ]
      refine take_op 3 276 _ rfl rfl (by kernel_rfl) (fun _ _ _ h => h) (by rfl) hHeld (fun w' hS' => by go_simp; try with_reducible rfl) ?_
      simp only [Act.put, List.setIfInBounds_toArray, List.set_cons_zero, List.set_cons_succ]
      refine take_op 4 277 _ rfl rfl (by kernel_rfl) (fun _ _ _ h => h) (by rfl) hHeld (fun w' hS' => by have k := hS'.choose_spec.err; go_simp; try with_reducible rfl) ?_
      simp only [Act.put, List.setIfInBounds_toArray, List.set_cons_zero, List.set_cons_succ]
      obtain ⟨cs, hcs⟩ := hHeld
      obtain ⟨T, hT⟩ := hcs.out.2.2.2.1
      refine only_op 5 rfl (by kernel_rfl) (by rfl) (wp_store_row 30 (.tmp 6) (.tmp 273) rfl k0 (pkArr pf af) rfl rfl T cs hT info_pk hcs.out.2.2.2.2.1 (one_pk _ _) ⟨⟨_, hcs.row⟩, ?_⟩)
      simp only [Act.put]
      have hHeld2 := hcs.row
      refine take_op 6 7 _ rfl rfl (by kernel_rfl) (fun _ _ _ h => h) (by rfl) ⟨_, hHeld2⟩ (fun w' hS' => by go_simp; try with_reducible rfl) ?_
      simp only [Act.put, List.setIfInBounds_toArray]
      refine wpAnyH_done (by kernel_rfl) ?_ _
      have HF := Lib.hid hHeld2
      clear hcs hT hHeld2
      go_wp2_with fail
      refine bodyPost_ret (results_pk2 Tryz.results84 rfl HF.out.out.2.2.2.1 rfl) rfl ⟨pf, af, HRES.out, HF.out.out.2.2.1, HCAP.out, HNEW.out, HF.out.out.2.2.2.2.2.1, HWF.out, HPF.out⟩
     ·obtain ⟨HE20, HE0⟩ := reasonS_two (p := { zp kd with id := n }) HRUN.out.1 HRUN.out.2 h1
      have HP0 := fun (W : World) (hr : RdOf false W g (.ok s3)) => props_st g kd (.ok s3) W HKD.out.2.2.2.2 hr
      rw [HE20] at HE0
      obtain ⟨L, hL⟩ : ∃ L, ((St.ok s3).run (propsR kd)).val [] = L := ⟨_, rfl⟩
      obtain ⟨s4, hs4⟩ : ∃ s2, ((St.ok s3).run (propsR kd)).st = s2 := ⟨_, rfl⟩
      rw [hL, hs4] at HP0
      have HP := Lib.hid HP0
      have HEE : Hid (R.2 = s4 ∧ (R.2.isBad = false → R.1 = { { zp kd with id := n, re := v } with ps := L })) := by
       refine ⟨?_, fun hb => ?_⟩
       ·rw [HRR.out]; exact HE20.trans hs4
       ·rw [HRR.out] at hb ⊢
        rw [HE20] at hb
        rw [← hL]
        exact HE0 hb
      have hgt : 0 < s3.size := by omega
      clear hL hs4 HP0 HE0 HE20 HRUN HRR h1
      go_wp2_with fail
      refine (HP.out _ HL7.out.rd).mono ?_
      rintro r wb ⟨A, c, rfl, k1, k2, k3, k4, k5⟩
      have HL8 := Lib.hid (HL7.out.bar k5 k4)
      have HN := Lib.hid (HL7.out.off k2)
      have HAA := Lib.hid k3
      have HC := Lib.hid k1
      clear k1 k2 k3 k4 k5 d0 d1 d7 f7 HL6 HL7 HP hgt
      have d24 := HL8.out.f24
      have f24 := HL8.out.frozen 24
      have HL9 := Lib.hid (HL8.out.props HAA.out HN.out HC.out)
      go_upto_region 62 with fail
      have HPQ : Hid (∃ pf af, Live false h W1 g h R.2 pf af (wb.setCell ⟨h, 24, none⟩ (.slice A L.length c)) ∧ (R.2.isBad = false → pf = R.1)) := ⟨_, _, by rw [HEE.out.1]; exact HL9.out, fun hb => (HEE.out.2 hb).symm⟩
      clear HL8 HL9 d24 f24 HN HAA HC HEE
      generalize World.setCell _ _ _ = Wb at HPQ ⊢
      obtain ⟨pf, af, hl, hp⟩ := HPQ.out
      have HLX := Lib.hid hl
      have HPQ := Lib.hid hp
      clear hl hp
      obtain ⟨sx, hx1, _, hx3, hx4, _⟩ := HLX.out.rd.rd
      have e0 := hx1.cell 0
      obtain ⟨bz, hbz⟩ : ∃ b, decide (sx.size = 0) = b := ⟨_, rfl⟩
      have hzz : ((sx.size : Int) == 0) = bz := by rw [← hbz]; exact beq_nat sx.size
      have HQ : Hid ((bodyS (16 * kd + z) s).2 = R.2.want bz 8) := by
       show _ = _
       rw [HRB.out]
       show R.2.want (decide (R.2.rest.size = 0)) 8 = _
       cases hbd : R.2.isBad with
       | false => have := hx3 hbd; rw [this]; show (St.ok sx).want (decide (sx.size = 0)) 8 = _; rw [hbz]
       | true => rw [(hx4 hbd).2]; rfl
      clear hx1 hx3 hx4 hbz
      go_wp2_with fail
      refine (want_st g R.2 bz 8 _ (by decide) HLX.out.rd).mono ?_
      rintro r w7 ⟨rfl, q1, q2⟩
      have HL8 := Lib.hid (HLX.out.bar q2 q1)
      have HK8 : Hid (Box w7 k0 (pkArr (zp 0) za)) := Lib.hid (HK0.out.below (HL8.out.b.mono (by have := HH.out; omega)))
      clear q1 q2 HLX e0 hzz
      go_upto_region 63 with fail
      obtain ⟨ste, hste⟩ : ∃ x, R.2.want bz 8 = x := ⟨_, rfl⟩
      rw [hste] at HL8 HQ
      have HCAP := Lib.hid HL8.out.cap
      have HNEW := Lib.hid (HL8.out.new.mono (B' := w.heap.size) (by have := HQ6.out; omega))
      have HWF : Hid ((bodyS (16 * kd + z) s).2.Wf) := by show St.Wf _; rw [HQ.out]; exact HL8.out.wf
      have HRES : Hid (Ending.returned (.tuple #[.agg (pkArr pf af), .int .i64 ste.err]) = .returned (.tuple #[.agg (pkArr pf af), .int .i64 (bodyS (16 * kd + z) s).2.err])) := by show _ = _; rw [HQ.out]
      have HPF : Hid ((bodyS (16 * kd + z) s).2.isBad = false → pf = (bodyS (16 * kd + z) s).1) := fun hb => by
       rw [HQ.out, ← hste] at hb
       rw [HRB.out]
       exact HPQ.out (not_bad hb)
      have HEN := Lib.hid (EndAt.mk (w := w) (k0 := k0) (g := g) (h := h) (st := ste) (p := pf) (a := af) (cs := pkArr (zp 0) za) ⟨HL8.out.rd, HL8.out.bx, HL8.out.at, HK8.out, rfl, (HA.out.trans (HL8.out.b.mono (by have := HQ6.out; omega))), by have := HQ6.out; omega, by omega, by omega, HL8.out.new.off hkl⟩)
      clear HL8 HK8 hste
      refine wp_region_held_drew (S := fun W => ∃ cs, EndAt false w k0 g h ste pf af cs W) (by kernel_rfl) ⟨_, HEN.out.drew⟩ (fun hHeld => ?_)
      generalize World.drew _ = Wd at hHeld ⊢
      refine take_load 0 273 30 (.tmp 8) h 0 (.agg (pkArr pf af)) rfl rfl (by kernel_rfl) (fun _ _ _ h => h) (by rfl) hHeld rfl rfl (fun w' hS' => load_bx hS'.choose_spec.out.2.1) ?_
      simp only [Act.put, List.setIfInBounds_toArray, List.set_cons_zero, List.set_cons_succ]
      refine take_op 1 274 _ rfl rfl (by kernel_rfl) (fun _ _ _ h => h) (by rfl) hHeld (fun w' hS' => by go_simp; try with_reducible rfl) ?_
      simp only [Act.put, List.setIfInBounds_toArray, List.set_cons_zero, List.set_cons_succ]
      refine take_op 2 275 _ rfl rfl (by kernel_rfl) (fun _ _ _ h => h) (by rfl) hHeld (fun w' hS' => by go_simp; try with_reducible rfl) ?_
      simp only [Act.put, List.setIfInBounds_toArray, List.set_cons_zero, List.set_cons_succ]
      refine take_op 3 276 _ rfl rfl (by kernel_rfl) (fun _ _ _ h => h) (by rfl) hHeld (fun w' hS' => by go_simp; try with_reducible rfl) ?_
      simp only [Act.put, List.setIfInBounds_toArray, List.set_cons_zero, List.set_cons_succ]
      refine take_op 4 277 _ rfl rfl (by kernel_rfl) (fun _ _ _ h => h) (by rfl) hHeld (fun w' hS' => by have k := hS'.choose_spec.err; go_simp; try with_reducible rfl) ?_
      simp only [Act.put, List.setIfInBounds_toArray, List.set_cons_zero, List.set_cons_succ]
      obtain ⟨cs, hcs⟩ := hHeld
      obtain ⟨T, hT⟩ := hcs.out.2.2.2.1
      refine only_op 5 rfl (by kernel_rfl) (by rfl) (wp_store_row 30 (.tmp 6) (.tmp 273) rfl k0 (pkArr pf af) rfl rfl T cs hT info_pk hcs.out.2.2.2.2.1 (one_pk _ _) ⟨⟨_, hcs.row⟩, ?_⟩)
      simp only [Act.put]
      have hHeld2 := hcs.row
      refine take_op 6 7 _ rfl rfl (by kernel_rfl) (fun _ _ _ h => h) (by rfl) ⟨_, hHeld2⟩ (fun w' hS' => by go_simp; try with_reducible rfl) ?_
      simp only [Act.put, List.setIfInBounds_toArray]
      refine wpAnyH_done (by kernel_rfl) ?_ _
      have HF := Lib.hid hHeld2
      clear hcs hT hHeld2
      go_wp2_with fail
      refine bodyPost_ret (results_pk2 Tryz.results84 rfl HF.out.out.2.2.2.1 rfl) rfl ⟨pf, af, HRES.out, HF.out.out.2.2.1, HCAP.out, HNEW.out, HF.out.out.2.2.2.2.2.1, HWF.out, HPF.out⟩
  ·have hzn := ne_true hzf
   have HRB := Lib.hid (body_head kd z s HKD.out.2.1 HKD.out.2.2.1 trivial hz0 hz1 (fun e => hzf (by rw [← e]; exact HFL.out)))
   have hld := load_bx HL5.out.bx
   clear hzf HFB
   go_wp2_with (first | (refine wpList_load_any (by rfl) 30 (.tmp 8) rfl h 0 rfl _ hld ?_) | (refine wpList_store_whole rfl 30 (.tmp 6) (.tmp 52) rfl k0 (pkArr (zp kd) za) rfl rfl (pkArr (zp 0) za) HK5.out info_pk rfl (one_pk _ _) ?_; simp only [Act.put]))
   refine bodyPost_ret (results_pk2 Tryz.results84 rfl (HK5.out.row (pkArr (zp kd) za)) rfl) rfl ⟨zp kd, za, by rw [HRB.out]; rfl, PkAt.zero' _ _ _ ⟨rfl, rfl, rfl, rfl⟩, PkCap.zero' _ ⟨rfl, rfl, rfl, rfl⟩, .zero _, (Bar.row k0 w5 _).below HB5.out (by have := HQ6.out; omega) HB5.out.size, by rw [HRB.out]; exact (by decide : (8 : Int) ≠ 0), fun hb => by rw [HRB.out] at hb; cases hb⟩
theorem rbody_4 (z : Int) (s : ByteArray) (w : World) (hz0 : 0 ≤ z) (hz1 : z ≤ 15) (hs : s.size ≤ 268435456) :
  Calls Tryz.prog 84 #[.int .i64 4, .int .i64 z, .string s] w (GivesBody (bodyS (16 * 4 + z) s) w) :=
 rbody_id 4 0 z s w (by omega) rfl rfl hz0 hz1 hs
theorem rbody_5 (z : Int) (s : ByteArray) (w : World) (hz0 : 0 ≤ z) (hz1 : z ≤ 15) (hs : s.size ≤ 268435456) :
  Calls Tryz.prog 84 #[.int .i64 5, .int .i64 z, .string s] w (GivesBody (bodyS (16 * 5 + z) s) w) :=
 rbody_id 5 0 z s w (by omega) rfl rfl hz0 hz1 hs
theorem rbody_6 (z : Int) (s : ByteArray) (w : World) (hz0 : 0 ≤ z) (hz1 : z ≤ 15) (hs : s.size ≤ 268435456) :
  Calls Tryz.prog 84 #[.int .i64 6, .int .i64 z, .string s] w (GivesBody (bodyS (16 * 6 + z) s) w) :=
 rbody_id 6 2 z s w (by omega) rfl rfl hz0 hz1 hs
theorem rbody_7 (z : Int) (s : ByteArray) (w : World) (hz0 : 0 ≤ z) (hz1 : z ≤ 15) (hs : s.size ≤ 268435456) :
  Calls Tryz.prog 84 #[.int .i64 7, .int .i64 z, .string s] w (GivesBody (bodyS (16 * 7 + z) s) w) :=
 rbody_id 7 0 z s w (by omega) rfl rfl hz0 hz1 hs
open Go.RowKit Go.Lib Prp Pkt Vbi
structure Bar2 (g h : Nat) (w w' : World) : Prop where
 os : w'.os = w.os
 tape : w'.tape = w.tape
 output : w'.output = w.output
 size : w.heap.size ≤ w'.heap.size
 block : ∀ k, k < w.heap.size → k ≠ g → k ≠ h → w'.heap[k]? = w.heap[k]?
section
variable {g h B : Nat} {w w' w'' : World} {A : Option Addr}
theorem Bar2.refl (g h : Nat) (w : World) : Bar2 g h w w := ⟨rfl, rfl, rfl, Nat.le_refl _, fun _ _ _ _ => rfl⟩
theorem Bar2.bar (k : Bar2 g h w w') (b : Bar g w' w'') : Bar2 g h w w'' :=
 ⟨b.os.trans k.os, b.tape.trans k.tape, b.output.trans k.output, Nat.le_trans k.size b.size, fun i hi h1 h2 => (b.block i (Nat.lt_of_lt_of_le hi k.size) h1).trans (k.block i hi h1 h2)⟩
theorem Bar2.bar' (k : Bar2 g h w w') (b : Bar h w' w'') : Bar2 g h w w'' :=
 ⟨b.os.trans k.os, b.tape.trans k.tape, b.output.trans k.output, Nat.le_trans k.size b.size, fun i hi h1 h2 => (b.block i (Nat.lt_of_lt_of_le hi k.size) h2).trans (k.block i hi h1 h2)⟩
theorem Bar2.then_ (k : Bar2 g h w w') (b : Below w.heap.size w' w'') : Bar2 g h w w'' :=
 ⟨b.os.trans k.os, b.tape.trans k.tape, b.output.trans k.output, Nat.le_trans k.size b.size, fun i hi h1 h2 => (b.block i hi).trans (k.block i hi h1 h2)⟩
theorem Bar2.cell (k : Bar2 g h w w') {b i : Nat} (hb : b < w.heap.size) (h1 : b ≠ g) (h2 : b ≠ h) : w'.cell? ⟨b, i, none⟩ = w.cell? ⟨b, i, none⟩ := World.cell?_of_block (k.block b hb h1 h2)
theorem props_bar2 {l : List P} (k : PropsAt w B A l) (hB : B ≤ w.heap.size) (h1 : Off g A) (h2 : Off h A) (hb : Bar2 g h w w') : PropsAt w' B A l := by
 rcases k with k | ⟨b, o, k1, k2, k3⟩
 ·exact .inl k
 ·exact .inr ⟨b, o, k1, k2, fun j hj => (k3 j hj).keep fun i => hb.cell (by omega) (h1 _ k1) (h2 _ k1)⟩
theorem fils_bar2 {l : List Fl} (k : FilsAt w B A l) (hB : B ≤ w.heap.size) (h1 : Off g A) (h2 : Off h A) (hb : Bar2 g h w w') : FilsAt w' B A l := by
 rcases k with k | ⟨b, o, k1, k2, k3⟩
 ·exact .inl k
 ·exact .inr ⟨b, o, k1, k2, fun j hj => (k3 j hj).keep fun i => hb.cell (by omega) (h1 _ k1) (h2 _ k1)⟩
end
theorem own_far {w : World} {B e sz n g i : Nat} {v u : Value} {xs : List Value} (k : w.ownsRow B e sz v n xs) (hg : g < B) : (w.setCell ⟨g, i, none⟩ u).ownsRow B e sz v n xs := own_bar k (Bar.set g w i u) hg
@[irreducible] def CodesIn (B : Nat) (w0 : World) (g h : Nat) (st0 : St) (p : Pk) (a : Ad) (W5 : World) (l : List Int) (A : Option Addr) (c : Nat) (sc : St) (W : World) : Prop :=
 Live false B w0 g h st0 p a W5 ∧ RdOf false W g sc ∧ Box W h (pkArr { p with cs := l } { a with ca := A, cc := c }) ∧ W.ownsRow W5.heap.size 3 1 (.slice A l.length c) l.length (l.map (Value.int .i64)) ∧ Bar2 g h W5 W
section
variable {B : Nat} {w0 : World} {g h : Nat} {st0 sc sc' : St} {p : Pk} {a : Ad} {W5 W W' : World} {l : List Int} {A : Option Addr} {c : Nat}
theorem CodesIn.mk (k : Live false B w0 g h st0 p a W5 ∧ RdOf false W g sc ∧ Box W h (pkArr { p with cs := l } { a with ca := A, cc := c }) ∧ W.ownsRow W5.heap.size 3 1 (.slice A l.length c) l.length (l.map (Value.int .i64)) ∧ Bar2 g h W5 W) : CodesIn B w0 g h st0 p a W5 l A c sc W := by unfold CodesIn; exact k
theorem CodesIn.out (k : CodesIn B w0 g h st0 p a W5 l A c sc W) : Live false B w0 g h st0 p a W5 ∧ RdOf false W g sc ∧ Box W h (pkArr { p with cs := l } { a with ca := A, cc := c }) ∧ W.ownsRow W5.heap.size 3 1 (.slice A l.length c) l.length (l.map (Value.int .i64)) ∧ Bar2 g h W5 W := by unfold CodesIn at k; exact k
theorem CodesIn.start (k : Live false B w0 g h st0 p a W) (h1 : p.cs = []) (h2 : a.ca = none) (h3 : a.cc = 0) : CodesIn B w0 g h st0 p a W [] none 0 st0 W := by
 refine .mk ⟨k, k.rd, ?_, World.ownsRow_nil _ _ _ _, Bar2.refl _ _ _⟩
 have := k.bx
 obtain ⟨kind, dup, q, ret, id, t, b, re, pre, cs, fs, cl, clean, keep, w, hu, u, hp, pw, ps⟩ := p
 obtain ⟨ca, cc, fa, fc, wa, wc, pa, pc⟩ := a
 simp only at h1 h2 h3
 subst h1 h2 h3
 exact this
theorem CodesIn.gl (k : CodesIn B w0 g h st0 p a W5 l A c sc W) : g < W5.heap.size ∧ h < W5.heap.size ∧ g ≠ h := ⟨k.out.1.rd.lt, k.out.1.bx.lt, k.out.1.out.2.2.2.1⟩
theorem CodesIn.rd (k : CodesIn B w0 g h st0 p a W5 l A c sc W) : RdOf false W g sc := k.out.2.1
theorem CodesIn.f9 (k : CodesIn B w0 g h st0 p a W5 l A c sc W) : W.cell? ⟨h, 9, none⟩ = some (.slice A l.length c) := k.out.2.2.1.cell 9
theorem CodesIn.f0 (k : CodesIn B w0 g h st0 p a W5 l A c sc W) : W.cell? ⟨h, 0, none⟩ = some (.int .i64 p.kind) := k.out.2.2.1.cell 0
theorem CodesIn.frozen (k : CodesIn B w0 g h st0 p a W5 l A c sc W) (i : Nat) : W.frozen? ⟨h, i, none⟩ = false := k.out.2.2.1.frozen i
theorem CodesIn.own (k : CodesIn B w0 g h st0 p a W5 l A c sc W) : W.ownsRow W5.heap.size 3 1 (.slice A l.length c) l.length (l.map (Value.int .i64)) := k.out.2.2.2.1
theorem CodesIn.size (k : CodesIn B w0 g h st0 p a W5 l A c sc W) : W5.heap.size ≤ W.heap.size := k.out.2.2.2.2.size
theorem CodesIn.bar (k : CodesIn B w0 g h st0 p a W5 l A c sc W) (hb : Bar g W W') (hr : RdOf false W' g sc') : CodesIn B w0 g h st0 p a W5 l A c sc' W' := by
 obtain ⟨k1, k2, k3, k4, k5⟩ := k.out
 exact .mk ⟨k1, hr, hb.box k3 k.gl.2.2.symm, own_bar k4 hb k.gl.1, k5.bar hb⟩
theorem CodesIn.below (k : CodesIn B w0 g h st0 p a W5 l A c sc W) (hb : Below W.heap.size W W') : CodesIn B w0 g h st0 p a W5 l A c sc W' := k.bar (.of g hb) (k.rd.below hb)
theorem CodesIn.drewN (k : CodesIn B w0 g h st0 p a W5 l A c sc W) (n : Nat) : CodesIn B w0 g h st0 p a W5 l A c sc (W.drewN n) := k.below (below_drewN (Below.refl _ _) n)
theorem CodesIn.alloc (k : CodesIn B w0 g h st0 p a W5 l A c sc W) (o : Obj) : CodesIn B w0 g h st0 p a W5 l A c sc (W.alloc o) := k.below ((Below.refl _ _).alloc (Nat.le_refl _) o)
theorem CodesIn.more (k : CodesIn B w0 g h st0 p a W5 l A c sc W) {l' : List Int} {A' : Option Addr} {c' : Nat} (hb : Below W5.heap.size W W') (ho : W'.ownsRow W5.heap.size 3 1 (.slice A' l'.length c') l'.length (l'.map (Value.int .i64))) :
  CodesIn B w0 g h st0 p a W5 l' A' c' sc (W'.setCell ⟨h, 9, none⟩ (.slice A' l'.length c')) := by
 obtain ⟨k1, k2, k3, k4, k5⟩ := k.out
 obtain ⟨g1, g2, g3⟩ := k.gl
 refine .mk ⟨k1, (k2.then_ hb g1).map fun _ _ r => Box.far r g3 _, ?_, own_far ho g2, (k5.then_ hb).bar' (Bar.set h _ 9 _)⟩
 have hbx : Box W' h (pkArr { p with cs := l } { a with ca := A, cc := c }) := by
  obtain ⟨T, hT⟩ := k3
  exact ⟨T, (hb.block h g2).trans hT⟩
 exact hbx.put 9 _
theorem CodesIn.live (k : CodesIn B w0 g h st0 p a W5 l A c sc W) : Live false B w0 g h sc { p with cs := l } { a with ca := A, cc := c } W := by
 obtain ⟨k1, k2, k3, k4, k5⟩ := k.out
 obtain ⟨g1, g2, g3⟩ := k.gl
 obtain ⟨m1, m2, m3, m4, m5, m6, m7, m8, m9, m10, m11⟩ := k1.out
 have hn := own_new k4
 have hs := k5.size
 refine .mk ⟨m1.trans ⟨k5.os, k5.tape, k5.output, k5.size, fun i hi => k5.block i (by omega) (by omega) (by omega)⟩, m2, m3, m4, k2, k3, ?_, ⟨hn.off g1, m8.fa, m8.wa, m8.pa⟩, ⟨hn.off g2, m9.fa, m9.wa, m9.pa⟩, ⟨own_room k4, m10.fs, m10.ws, m10.ps⟩, ⟨hn.mono (by omega), m11.fa, m11.wa, m11.pa⟩⟩
 exact ⟨Nums.of_own k4, (fils_bar2 m7.fs (Nat.le_refl _) m8.fa m9.fa k5).mono hs, (props_bar2 m7.ws (Nat.le_refl _) m8.wa m9.wa k5).mono hs, (props_bar2 m7.ps (Nat.le_refl _) m8.pa m9.pa k5).mono hs⟩
end
def CodesSt (l : List Int) (F : Res (List Int)) (sc : St) : Prop := l.length ≤ 5 ∧ (∀ s, sc = .ok s → l.length ≤ 4 ∧ (l.length = 0 → s.size ≠ 0)) ∧ Goes octetR F l sc
theorem codes_start (s2 : St) : CodesSt [] (s2.run (manyR octetR 5 [])) (s2.want (decide (s2.rest.size ≠ 0)) 9) := by
 refine ⟨Nat.zero_le _, fun s hs => ⟨Nat.zero_le _, fun _ => ?_⟩, ?_⟩
 ·cases s2 with
  | ok x =>
   by_cases hx : x.size = 0
   ·have : (St.ok x).want (decide ((St.ok x).rest.size ≠ 0)) 9 = .bad 9 := by rw [decide_eq_false (fun h => h hx)]; rfl
    rw [this] at hs
    cases hs
   ·have : (St.ok x).want (decide ((St.ok x).rest.size ≠ 0)) 9 = .ok x := by rw [decide_eq_true (show (St.ok x).rest.size ≠ 0 from hx), want_true]
    rw [this] at hs
    injection hs with hs
    rw [← hs]
    exact hx
  | bad e => cases hs
 ·cases s2 with
  | ok x =>
   by_cases hx : x.size = 0
   ·have : (St.ok x).want (decide ((St.ok x).rest.size ≠ 0)) 9 = .bad 9 := by rw [decide_eq_false (fun h => h hx)]; rfl
    rw [this]
    show manyR octetR (4 + 1) [] x = .bad 9
    rw [many_stop hx]
    rfl
   ·have : (St.ok x).want (decide ((St.ok x).rest.size ≠ 0)) 9 = .ok x := by rw [decide_eq_true (show (St.ok x).rest.size ≠ 0 from hx), want_true]
    rw [this]
    rfl
  | bad e => rfl
theorem codes_round {l : List Int} {F : Res (List Int)} {s : ByteArray} (h : CodesSt l F (.ok s)) (h0 : s.size ≠ 0) {b : Bool} (hb : decide ((l.length : Int) < 4) = b) {sw : St} (hw : (St.ok s).want b 2 = sw) {v : Int} (hv : (sw.run (fixR 1)).val 0 = v) {s1 : St} (h1 : (sw.run (fixR 1)).st = s1) :
  CodesSt (l ++ [v]) F s1 := by
 obtain ⟨h5, hok, hg⟩ := h
 obtain ⟨h4, _⟩ := hok s rfl
 have hg : F = manyR octetR (5 - l.length) l s := hg
 obtain ⟨f, hf⟩ : ∃ f, 5 - l.length = f + 1 := ⟨4 - l.length, by omega⟩
 rw [hf] at hg
 by_cases hl : l.length = 4
 ·rw [decide_eq_false (by omega)] at hb
  subst hb
  have hw : St.bad 2 = sw := hw
  subst hw
  have h1 : St.bad 2 = s1 := h1
  subst h1
  refine ⟨by simp; omega, fun s hs => (by cases hs), ?_⟩
  show F = .bad 2
  rw [hg, many_full h0 hl]
 ·rw [decide_eq_true (by omega)] at hb
  subst hb
  rw [want_true] at hw
  subst hw
  obtain ⟨v', s', hrun⟩ := more_run (st := .ok s) (decide_eq_true h0)
  have hrun' : (St.ok s).run (fixR 1) = .ok v' s' := hrun
  rw [hrun'] at hv h1
  have hv : v' = v := hv
  have h1 : St.ok s' = s1 := h1
  subst hv h1
  refine ⟨by simp; omega, fun x hx => ⟨by simp; omega, fun hz => by simp at hz⟩, ?_⟩
  show F = manyR octetR (5 - (l ++ [v']).length) (l ++ [v']) s'
  rw [hg, many_step h0 hl hrun, List.length_append]
  congr 1
  simp
  omega
theorem codes_end {l : List Int} {F : Res (List Int)} {sc : St} (h : CodesSt l F sc) (he : sc.isBad = true ∨ ∃ s, sc = .ok s ∧ s.size = 0) : F.st = sc ∧ (F.st.isBad = false → F.val [] = l) := by
 obtain ⟨h5, hok, hg⟩ := h
 rcases he with he | ⟨s, rfl, hs⟩
 ·cases sc with
  | ok s => cases he
  | bad e =>
   have hg : F = .bad e := hg
   rw [hg]
   exact ⟨rfl, fun hb => by cases hb⟩
 ·obtain ⟨h4, hn⟩ := hok s rfl
  have hg : F = manyR octetR (5 - l.length) l s := hg
  obtain ⟨f, hf⟩ : ∃ f, 5 - l.length = f + 1 := ⟨4 - l.length, by omega⟩
  rw [hf, many_stop hs, if_neg (fun h => hn h hs)] at hg
  rw [hg]
  exact ⟨rfl, fun _ => rfl⟩
open Go.RowKit Go.Lib Prp Pkt Vbi
theorem wp_store_one {P : Program} {o : Oper} {a : Act} {w w' : World} {K : Act → World → Prop} {Q : Exit → Act → World → Prop} (ty : TypeId) (x y : Operand) (ho : o.op = .store ty x y) (p V : Value)
  (hx : a.eval x = p) (hy : a.eval y = V) (hr : (Instr.storeAt ty p V).run P w = .ok () w') (h : K (a.put o.dst undef) w') : Oper.wp P o a w K Q := by
 unfold Oper.wp execOp
 simp only [ho, hx, hy, Sem.run_bind, Sem.run_pure, Result.andThen_ok, hr]
 exact h
theorem CodesIn.box_then {B : Nat} {w0 : World} {g h : Nat} {st0 sc : St} {p : Pk} {a : Ad} {W5 W W' : World} {l : List Int} {A : Option Addr} {c : Nat} (k : CodesIn B w0 g h st0 p a W5 l A c sc W) (hb : Below W5.heap.size W W') :
  Box W' h (pkArr { p with cs := l } { a with ca := A, cc := c }) := by
 obtain ⟨T, hT⟩ := k.out.2.2.1
 exact ⟨T, (hb.block h k.gl.2.1).trans hT⟩
theorem wp_append_code {o : Oper} {a : Act} {W : World} {K : Act → World → Prop} {Q : Exit → Act → World → Prop} (d : Nat) (s x : Operand) {base c : Nat} {A : Option Addr} {l : List Int} {v : Int} (hd : o.dst = some d)
  (ho : o.op = .call { callee := .builtin .append, args := #[s, x], argTypes := #[24, 24] })
  (hs : a.eval s = .slice A l.length c) (hx : a.eval x = .slice (some ⟨W.heap.size, 0, none⟩) 1 1)
  (hown : (W.alloc (.cells #[.int .i64 v] 3)).ownsRow base 3 1 (.slice A l.length c) l.length (l.map (Value.int .i64))) (hb : base ≤ W.heap.size) (hl : l.length ≤ 1000)
  (h : ∀ A' c' W', W'.ownsRow base 3 1 (.slice A' (l ++ [v]).length c') (l ++ [v]).length ((l ++ [v]).map (Value.int .i64)) → Below base (W.alloc (.cells #[.int .i64 v] 3)) W' → K (a.put (some d) (.slice A' (l ++ [v]).length c')) W') :
  Oper.wp Tryz.prog o a (W.alloc (.cells #[.int .i64 v] 3)) K Q := by
 obtain ⟨i0, hi, hz0, hz1, hz2⟩ := info_parts info_int
 have hba : base ≤ (W.alloc (.cells #[.int .i64 v] 3)).heap.size := by rw [World.size_alloc]; omega
 obtain ⟨v', W', e, g1, g2, _⟩ := run_append_own (P := Tryz.prog) (w := W.alloc (.cells #[.int .i64 v] 3)) base 24 o.type 3 i0 (.int .i64 0) 1 8 Tryz.underlying24 hi hz0 hz1 hz2 rfl (by decide) (.slice A l.length c) l.length (l.map (Value.int .i64)) hown ⟨W.heap.size, 0, none⟩ 1 1 [.int .i64 v] rfl (fun j u hu => cells_new _ _ _ j u hu) (fun u hu => by simp at hu; subst hu; rfl) (by unfold maxLen; omega) (by omega) hba
 have hbl : Below base (W.alloc (.cells #[.int .i64 v] 3)) W' := below_grown hba hown g2
 have g3 : W'.ownsRow base 3 1 v' (l ++ [v]).length ((l ++ [v]).map (Value.int .i64)) := by
  rw [List.length_append, List.map_append]
  exact g1
 obtain ⟨A', c', hv⟩ := own_form g3
 subst hv
 refine wp_made d _ hd ?_ (h A' c' W' g3 hbl)
 unfold execOp
 simp only [ho, resolve, invoke, builtin, Sem.run_bind, Sem.run_pure, Result.andThen_ok, List.map_toArray, List.map_cons, List.map_nil, hs, hx, e]
end Go.Proofs.YtdbbcfohjkgdcaaGreat
