/- The document's own: the packet that bytes begin with (their first byte is none of a Subscribe or an Unsubscribe). -/
import Derived.Test.YtdbbcfohjkgdcaaGreatL00
import Derived.Test.YtdbbcfohjkgdcaaGreatL20
import Derived.Test.YtdbbcfohjkgdcaaGreatL24
import Derived.Test.YtdbbcfohjkgdcaaGreatL26
set_option maxRecDepth 100000
set_option maxHeartbeats 64000000
namespace Go.Proofs.YtdbbcfohjkgdcaaGreat
open Go.RowKit Go.Lib Prp Pkt Vbi
theorem rbody_end (kd fl z : Int) (s : ByteArray) (w : World) (hk : kd = 14 ∨ kd = 15) (hrf : rflagsZ (zp kd) = fl) (hfl : flagsZ (zp kd) = fl) (hz0 : 0 ≤ z) (hz1 : z ≤ 15) (hs : s.size ≤ 268435456) :
  Calls Tryz.prog 84 #[.int .i64 kd, .int .i64 z, .string s] w (GivesBody (bodyS (16 * kd + z) s) w) := by
 have HRF := Lib.hid hrf
 have HFL := Lib.hid hfl
 have HKD : Hid ((kd = 14 ∨ kd = 15) ∧ kd ≠ 0 ∧ kd ≠ 3 ∧ (∀ st, partsS (zp kd) st = reasonS (zp kd) st) ∧ placeB kd = true) :=
  ⟨hk, by omega, by omega, by rcases hk with rfl | rfl <;> exact fun _ => rfl, by rcases hk with rfl | rfl <;> rfl⟩
 have e0 : (kd == 0) = false := ne_false (by omega)
 have e1 : (kd == 1) = false := ne_false (by omega)
 have e2 : (kd == 2) = false := ne_false (by omega)
 have e3 : (kd == 3) = false := ne_false (by omega)
 have e4 : (kd == 4) = false := ne_false (by omega)
 have e5 : (kd == 5) = false := ne_false (by omega)
 have e6 : (kd == 6) = false := ne_false (by omega)
 have e7 : (kd == 7) = false := ne_false (by omega)
 have hcase : ((kd == 14) = true ∧ (kd != 14) = false) ∨ ((kd == 14) = false ∧ (kd != 14) = true ∧ (kd == 15) = true ∧ (kd != 15) = false) := by
  rcases hk with rfl | rfl <;> decide
 clear hk hrf hfl
 rcases hcase with ⟨g1, g2⟩ | ⟨g1, g2, g3, g4⟩
 all_goals
  have HF0 := hz0
  have HFB := Lib.hid HF0
  have HZ := Lib.hid hs
  have hb0 := Box.new w 30 (pkArr (zp 0) za)
  have ha := (Below.refl w.heap.size w).alloc (Nat.le_refl _) (.cells (pkArr (zp 0) za) 30)
  obtain ⟨W1, hW⟩ : ∃ W1, w.alloc (.cells (pkArr (zp 0) za) 30) = W1 := ⟨_, rfl⟩
  rw [hW] at hb0 ha
  simp only [pkArr, zp, za, zw, List.length_nil] at hW
  have HW := Lib.hid hW
  have HK0 := Lib.hid hb0
  have HA := Lib.hid ha
  clear hW hb0 ha HF0
  go_enter Tryz.func84, Tryz.ntmps84
  go_upto_region 1 with fail
  rw [HW.out]
  clear HW
  obtain ⟨k0, hk0⟩ : ∃ k, w.heap.size = k := ⟨_, rfl⟩
  have HQ14 := Lib.hid hk0
  rw [hk0] at HK0 ⊢
  clear hk0
  have hkl := HK0.out.lt
  have hb0 := Box.new W1 30 (pkArr (zp 0) za)
  have ha := (Below.refl W1.heap.size W1).alloc (Nat.le_refl _) (.cells (pkArr (zp 0) za) 30)
  obtain ⟨W2, hW⟩ : ∃ W2, W1.alloc (.cells (pkArr (zp 0) za) 30) = W2 := ⟨_, rfl⟩
  rw [hW] at hb0 ha
  simp only [pkArr, zp, za, zw, List.length_nil] at hW
  have HW := Lib.hid hW
  obtain ⟨h, hh⟩ : ∃ h, W1.heap.size = h := ⟨_, rfl⟩
  rw [hh] at hb0 ha hkl
  have HB2 := Lib.hid hb0
  have HA2 := Lib.hid ha
  have HH := Lib.hid hh
  clear hW hb0 ha
  go_upto_region 2 with (first | (refine wpList_build_kind rfl (.tmp 14) rfl kd rfl ?_) | (rw [HW.out]; refine wpList_store_whole rfl 30 (.tmp 8) (.tmp 15) rfl h (pkArr (zp kd) za) rfl rfl (pkArr (zp 0) za) HB2.out info_pk rfl (one_pk _ _) ?_; simp only [Act.put]))
  have HB3 := Lib.hid (HB2.out.row (pkArr (zp kd) za))
  have HA3 := Lib.hid ((Bar.row h W2 (pkArr (zp kd) za)).below HA2.out (Nat.le_refl _) (by have := HA2.out.size; omega))
  clear HW HB2 HA2 hh
  generalize World.setRow _ _ _ = W3 at HB3 HA3 ⊢
  have hhl := HB3.out.lt
  go_upto_region 3 with fail
  have hr4 : RdOf false (W3.alloc (.cells #[.string s, .int .i64 0] 154)) W3.heap.size (.ok s) := ⟨Box.new W3 154 #[.string s, .int .i64 0], HZ.out⟩
  have ha4 := (Below.refl W3.heap.size W3).alloc (Nat.le_refl _) (.cells #[.string s, .int .i64 0] 154)
  obtain ⟨g, hg⟩ : ∃ g, W3.heap.size = g := ⟨_, rfl⟩
  rw [hg] at hr4 hhl ⊢
  have HL4 := Lib.hid (Live.mk (x := false) (B := h) (w0 := W1) (g := g) (h := h) (st := .ok s) (p := zp kd) (a := za) ⟨HA3.out.alloc (by omega) _, by omega, Nat.le_refl _, by omega, hr4, HB3.out.below (ha4.mono (by omega)), PkAt.zero' _ _ _ ⟨rfl, rfl, rfl, rfl⟩, .zero g, .zero h, PkCap.zero' _ ⟨rfl, rfl, rfl, rfl⟩, .zero h⟩)
  clear hr4 ha4 HA3 HB3 hg HZ
  generalize W3.alloc _ = W4 at HL4 ⊢
  have hld := load_bx HL4.out.bx
  go_wp2_with (refine wpList_load_any (by rfl) 30 (.tmp 8) rfl h 0 rfl _ hld ?_)
  refine (rflags_is (zp kd) za fl W4 (Int.le_refl 0) (show (0 : Int) ≤ 3 by decide) HRF.out).mono ?_
  rintro r w5 ⟨rfl, q1⟩
  have HL5 := Lib.hid (HL4.out.bar (Bar.of g q1) (HL4.out.rd.below q1))
  have HK5 : Hid (Box w5 k0 (pkArr (zp 0) za)) := Lib.hid (HK0.out.below (HL5.out.b.mono (by have := HH.out; omega)))
  have HB5 := Lib.hid (HA.out.trans (HL5.out.b.mono (by have := HQ14.out; omega)))
  clear q1 hld HL4
  by_cases hzf : z = fl
  ·subst hzf
   have HRB := Lib.hid (body_good kd z s HKD.out.2.1 HKD.out.2.2.1 trivial hz0 hz1 HFL.out)
   clear HK5 HB5 HFB
   obtain ⟨R, hR⟩ : ∃ R, partsS (zp kd) (.ok s) = R := ⟨_, rfl⟩
   rw [hR] at HRB
   obtain ⟨st2, hst2⟩ : ∃ x, St.ok s = x := ⟨_, rfl⟩
   have HRR : Hid (R = reasonS (zp kd) st2) := by show _ = _; rw [← hR, HKD.out.2.2.2.1, ← hst2]
   have HLQ : Hid (Live false h W1 g h st2 (zp kd) za w5) := by show Live _ _ _ _ _ _ _ _ _; rw [← hst2]; exact HL5.out
   clear hR hst2 HL5
   cases st2 with
   | bad e =>
    obtain ⟨hne0, sx, hx, _, _⟩ := HLQ.out.rd
    have d0 : w5.cell? ⟨g, 0, none⟩ = some (.string sx) := hx.cell 0
    have d1 : w5.cell? ⟨g, 1, none⟩ = some (.int .i64 e) := hx.cell 1
    have he0 : (e == 0) = false := ne_false hne0
    have HPQ : Hid (∃ pf af, Live false h W1 g h R.2 pf af w5 ∧ (R.2.isBad = false → pf = R.1)) := ⟨_, _, by rw [HRR.out]; exact HLQ.out, fun hb => by rw [HRR.out] at hb; cases hb⟩
    clear hx hne0 HLQ HRR
    go_upto_region 62 with fail
    clear d0 d1 he0
    obtain ⟨pf, af, hl, hp⟩ := HPQ.out
    have HLX := Lib.hid hl
    have HPQ := Lib.hid hp
    clear hl hp
    obtain ⟨sx, hx1, _, hx3, hx4, _⟩ := HLX.out.rd.rd
    have e0 := hx1.cell 0
    obtain ⟨bz, hbz⟩ : ∃ b, decide (sx.size = 0) = b := ⟨_, rfl⟩
    have hzz : ((sx.size : Int) == 0) = bz := by rw [← hbz]; exact beq_nat sx.size
    have HQ : Hid ((bodyS (16 * kd + z) s).2 = R.2.want bz 8) := by
     show _ = _
     rw [HRB.out]
     show R.2.want (decide (R.2.rest.size = 0)) 8 = _
     cases hbd : R.2.isBad with
     | false => have := hx3 hbd; rw [this]; show (St.ok sx).want (decide (sx.size = 0)) 8 = _; rw [hbz]
     | true => rw [(hx4 hbd).2]; rfl
    clear hx1 hx3 hx4 hbz
    go_wp2_with fail
    refine (want_st g R.2 bz 8 _ (by decide) HLX.out.rd).mono ?_
    rintro r w7 ⟨rfl, q1, q2⟩
    have HL8 := Lib.hid (HLX.out.bar q2 q1)
    have HK8 : Hid (Box w7 k0 (pkArr (zp 0) za)) := Lib.hid (HK0.out.below (HL8.out.b.mono (by have := HH.out; omega)))
    clear q1 q2 HLX e0 hzz
    go_upto_region 63 with fail
    obtain ⟨ste, hste⟩ : ∃ x, R.2.want bz 8 = x := ⟨_, rfl⟩
    rw [hste] at HL8 HQ
    have HCAP := Lib.hid HL8.out.cap
    have HNEW := Lib.hid (HL8.out.new.mono (B' := w.heap.size) (by have := HQ14.out; omega))
    have HWF : Hid ((bodyS (16 * kd + z) s).2.Wf) := by show St.Wf _; rw [HQ.out]; exact HL8.out.wf
    have HRES : Hid (Ending.returned (.tuple #[.agg (pkArr pf af), .int .i64 ste.err]) = .returned (.tuple #[.agg (pkArr pf af), .int .i64 (bodyS (16 * kd + z) s).2.err])) := by show _ = _; rw [HQ.out]
    have HPF : Hid ((bodyS (16 * kd + z) s).2.isBad = false → pf = (bodyS (16 * kd + z) s).1) := fun hb => by
     rw [HQ.out, ← hste] at hb
     rw [HRB.out]
     exact HPQ.out (not_bad hb)
    have HEN := Lib.hid (EndAt.mk (w := w) (k0 := k0) (g := g) (h := h) (st := ste) (p := pf) (a := af) (cs := pkArr (zp 0) za) ⟨HL8.out.rd, HL8.out.bx, HL8.out.at, HK8.out, rfl, (HA.out.trans (HL8.out.b.mono (by have := HQ14.out; omega))), by have := HQ14.out; omega, by omega, by omega, HL8.out.new.off hkl⟩)
    clear HL8 HK8 hste
    refine wp_region_held_drew (S := fun W => ∃ cs, EndAt false w k0 g h ste pf af cs W) (by kernel_rfl) ⟨_, HEN.out.drew⟩ (fun hHeld => ?_)
    generalize World.drew _ = Wd at hHeld ⊢
    refine take_load 0 273 30 (.tmp 8) h 0 (.agg (pkArr pf af)) rfl rfl (by kernel_rfl) (fun _ _ _ h => h) (by rfl) hHeld rfl rfl (fun w' hS' => load_bx hS'.choose_spec.out.2.1) ?_
    simp only [Act.put, List.setIfInBounds_toArray, List.set_cons_zero, List.set_cons_succ]
    refine take_op 1 274 _ rfl rfl (by kernel_rfl) (fun _ _ _ h => h) (by rfl) hHeld (fun w' hS' => by go_simp; try with_reducible rfl) ?_
    simp only [Act.put, List.setIfInBounds_toArray, List.set_cons_zero, List.set_cons_succ]
    refine take_op 2 275 _ rfl rfl (by kernel_rfl) (fun _ _ _ h => h) (by rfl) hHeld (fun w' hS' => by go_simp; try with_reducible rfl) ?_
    simp only [Act.put, List.setIfInBounds_toArray, List.set_cons_zero, List.set_cons_succ]
    refine take_op 3 276 _ rfl rfl (by kernel_rfl) (fun _ _ _ h => h) (by rfl) hHeld (fun w' hS' => by go_simp; try with_reducible rfl) ?_
    simp only [Act.put, List.setIfInBounds_toArray, List.set_cons_zero, List.set_cons_succ]
    refine take_op 4 277 _ rfl rfl (by kernel_rfl) (fun _ _ _ h => h) (by rfl) hHeld (fun w' hS' => by have k := hS'.choose_spec.err; go_simp; try with_reducible rfl) ?_
    simp only [Act.put, List.setIfInBounds_toArray, List.set_cons_zero, List.set_cons_succ]
    obtain ⟨cs, hcs⟩ := hHeld
    obtain ⟨T, hT⟩ := hcs.out.2.2.2.1
    refine only_op 5 rfl (by kernel_rfl) (by rfl) (wp_store_row 30 (.tmp 6) (.tmp 273) rfl k0 (pkArr pf af) rfl rfl T cs hT info_pk hcs.out.2.2.2.2.1 (one_pk _ _) ⟨⟨_, hcs.row⟩, ?_⟩)
    simp only [Act.put]
    have hHeld2 := hcs.row
    refine take_op 6 7 _ rfl rfl (by kernel_rfl) (fun _ _ _ h => h) (by rfl) ⟨_, hHeld2⟩ (fun w' hS' => by go_simp; try with_reducible rfl) ?_
    simp only [Act.put, List.setIfInBounds_toArray]
    refine wpAnyH_done (by kernel_rfl) ?_ _
    have HF := Lib.hid hHeld2
    clear hcs hT hHeld2
    go_wp2_with fail
    refine bodyPost_ret (results_pk2 Tryz.results84 rfl HF.out.out.2.2.2.1 rfl) rfl ⟨pf, af, HRES.out, HF.out.out.2.2.1, HCAP.out, HNEW.out, HF.out.out.2.2.2.2.2.1, HWF.out, HPF.out⟩
   | ok s2 =>
    have hrd : Rd w5 g s2 0 := HLQ.out.rd.1
    have d0 : w5.cell? ⟨g, 0, none⟩ = some (.string s2) := hrd.cell 0
    have d1 : w5.cell? ⟨g, 1, none⟩ = some (.int .i64 0) := hrd.cell 1
    clear hrd
    by_cases h0 : s2.size = 0
    ·have HPQ : Hid (∃ pf af, Live false h W1 g h R.2 pf af w5 ∧ (R.2.isBad = false → pf = R.1)) := by
      have he : reasonS (zp kd) (.ok s2) = ((zp kd), .ok s2) := reasonS_none (by unfold St.more; show ¬ decide (s2.size ≠ 0) = true; rw [h0]; decide)
      exact ⟨_, _, by rw [HRR.out, he]; exact HLQ.out, fun _ => by rw [HRR.out, he]⟩
     obtain rfl : s2 = ByteArray.empty := ByteArray.size_eq_zero_iff.1 h0
     clear h0 HLQ HRR
     go_upto_region 62 with fail
     clear d0 d1
     obtain ⟨pf, af, hl, hp⟩ := HPQ.out
     have HLX := Lib.hid hl
     have HPQ := Lib.hid hp
     clear hl hp
     obtain ⟨sx, hx1, _, hx3, hx4, _⟩ := HLX.out.rd.rd
     have e0 := hx1.cell 0
     obtain ⟨bz, hbz⟩ : ∃ b, decide (sx.size = 0) = b := ⟨_, rfl⟩
     have hzz : ((sx.size : Int) == 0) = bz := by rw [← hbz]; exact beq_nat sx.size
     have HQ : Hid ((bodyS (16 * kd + z) s).2 = R.2.want bz 8) := by
      show _ = _
      rw [HRB.out]
      show R.2.want (decide (R.2.rest.size = 0)) 8 = _
      cases hbd : R.2.isBad with
      | false => have := hx3 hbd; rw [this]; show (St.ok sx).want (decide (sx.size = 0)) 8 = _; rw [hbz]
      | true => rw [(hx4 hbd).2]; rfl
     clear hx1 hx3 hx4 hbz
     go_wp2_with fail
     refine (want_st g R.2 bz 8 _ (by decide) HLX.out.rd).mono ?_
     rintro r w7 ⟨rfl, q1, q2⟩
     have HL8 := Lib.hid (HLX.out.bar q2 q1)
     have HK8 : Hid (Box w7 k0 (pkArr (zp 0) za)) := Lib.hid (HK0.out.below (HL8.out.b.mono (by have := HH.out; omega)))
     clear q1 q2 HLX e0 hzz
     go_upto_region 63 with fail
     obtain ⟨ste, hste⟩ : ∃ x, R.2.want bz 8 = x := ⟨_, rfl⟩
     rw [hste] at HL8 HQ
     have HCAP := Lib.hid HL8.out.cap
     have HNEW := Lib.hid (HL8.out.new.mono (B' := w.heap.size) (by have := HQ14.out; omega))
     have HWF : Hid ((bodyS (16 * kd + z) s).2.Wf) := by show St.Wf _; rw [HQ.out]; exact HL8.out.wf
     have HRES : Hid (Ending.returned (.tuple #[.agg (pkArr pf af), .int .i64 ste.err]) = .returned (.tuple #[.agg (pkArr pf af), .int .i64 (bodyS (16 * kd + z) s).2.err])) := by show _ = _; rw [HQ.out]
     have HPF : Hid ((bodyS (16 * kd + z) s).2.isBad = false → pf = (bodyS (16 * kd + z) s).1) := fun hb => by
      rw [HQ.out, ← hste] at hb
      rw [HRB.out]
      exact HPQ.out (not_bad hb)
     have HEN := Lib.hid (EndAt.mk (w := w) (k0 := k0) (g := g) (h := h) (st := ste) (p := pf) (a := af) (cs := pkArr (zp 0) za) ⟨HL8.out.rd, HL8.out.bx, HL8.out.at, HK8.out, rfl, (HA.out.trans (HL8.out.b.mono (by have := HQ14.out; omega))), by have := HQ14.out; omega, by omega, by omega, HL8.out.new.off hkl⟩)
     clear HL8 HK8 hste
     refine wp_region_held_drew (S := fun W => ∃ cs, EndAt false w k0 g h ste pf af cs W) (by kernel_rfl) ⟨_, HEN.out.drew⟩ (fun hHeld => ?_)
     generalize World.drew _ = Wd at hHeld ⊢
     refine take_load 0 273 30 (.tmp 8) h 0 (.agg (pkArr pf af)) rfl rfl (by kernel_rfl) (fun _ _ _ h => h) (by rfl) hHeld rfl rfl (fun w' hS' => load_bx hS'.choose_spec.out.2.1) ?_
     simp only [Act.put, List.setIfInBounds_toArray, List.set_cons_zero, List.set_cons_succ]
     refine take_op 1 274 _ rfl rfl (by kernel_rfl) (fun _ _ _ h => h) (by rfl) hHeld (fun w' hS' => by go_simp; try with_reducible rfl) ?_
     simp only [Act.put, List.setIfInBounds_toArray, List.set_cons_zero, List.set_cons_succ]
     refine take_op 2 275 _ rfl rfl (by kernel_rfl) (fun _ _ _ h => h) (by rfl) hHeld (fun w' hS' => by go_simp; try with_reducible rfl) ?_
     simp only [Act.put, List.setIfInBounds_toArray, List.set_cons_zero, List.set_cons_succ]
     refine take_op 3 276 _ rfl rfl (by kernel_rfl) (fun _ _ _ h => h) (by rfl) hHeld (fun w' hS' => by go_simp; try with_reducible rfl) ?_
     simp only [Act.put, List.setIfInBounds_toArray, List.set_cons_zero, List.set_cons_succ]
     refine take_op 4 277 _ rfl rfl (by kernel_rfl) (fun _ _ _ h => h) (by rfl) hHeld (fun w' hS' => by have k := hS'.choose_spec.err; go_simp; try with_reducible rfl) ?_
     simp only [Act.put, List.setIfInBounds_toArray, List.set_cons_zero, List.set_cons_succ]
     obtain ⟨cs, hcs⟩ := hHeld
     obtain ⟨T, hT⟩ := hcs.out.2.2.2.1
     refine only_op 5 rfl (by kernel_rfl) (by rfl) (wp_store_row 30 (.tmp 6) (.tmp 273) rfl k0 (pkArr pf af) rfl rfl T cs hT info_pk hcs.out.2.2.2.2.1 (one_pk _ _) ⟨⟨_, hcs.row⟩, ?_⟩)
     simp only [Act.put]
     have hHeld2 := hcs.row
     refine take_op 6 7 _ rfl rfl (by kernel_rfl) (fun _ _ _ h => h) (by rfl) ⟨_, hHeld2⟩ (fun w' hS' => by go_simp; try with_reducible rfl) ?_
     simp only [Act.put, List.setIfInBounds_toArray]
     refine wpAnyH_done (by kernel_rfl) ?_ _
     have HF := Lib.hid hHeld2
     clear hcs hT hHeld2
     go_wp2_with fail
     refine bodyPost_ret (results_pk2 Tryz.results84 rfl HF.out.out.2.2.2.1 rfl) rfl ⟨pf, af, HRES.out, HF.out.out.2.2.1, HCAP.out, HNEW.out, HF.out.out.2.2.2.2.2.1, HWF.out, HPF.out⟩
    ·have hm : (St.ok s2).more = true := decide_eq_true h0
     have hgt : 0 < s2.size := by omega
     obtain ⟨v, s3, hrun⟩ := more_run hm
     have HO0 := fixed_st g 1 (.ok s2) w5 (by decide) HLQ.out.rd
     have hrun' : (St.ok s2).run (fixR 1) = .ok v s3 := hrun
     rw [hrun'] at HO0
     have HO : Hid (Calls Tryz.prog 105 #[.pointer (some ⟨g, 0, none⟩), .int .i64 1] w5 fun r w' => r = .returned (.int .i64 v) ∧ RdOf false w' g (.ok s3) ∧ Bar g w5 w') := HO0
     have HRUN := Lib.hid (And.intro hm hrun)
     clear HO0 hrun hrun' hm
     go_wp2_with fail
     refine HO.out.mono ?_
     rintro r wa ⟨rfl, k1, k2⟩
     have HL6 := Lib.hid (HLQ.out.bar k2 k1)
     clear k1 k2 d0 d1 HO HLQ h0 hgt
     have hrd : Rd wa g s3 0 := HL6.out.rd.1
     have d0 : wa.cell? ⟨g, 0, none⟩ = some (.string s3) := hrd.cell 0
     have d1 : wa.cell? ⟨g, 1, none⟩ = some (.int .i64 0) := hrd.cell 1
     have d7 := HL6.out.f7
     have f7 := HL6.out.frozen 7
     have hgh : ¬ g = h := HL6.out.out.2.2.2.1
     have HL7 := Lib.hid (HL6.out.put1 7 (.int .i64 v) { zp kd with re := v } rfl rfl rfl rfl rfl)
     clear hrd
     by_cases h1 : s3.size = 0
     ·have HPQ : Hid (∃ pf af, Live false h W1 g h R.2 pf af (wa.setCell ⟨h, 7, none⟩ (.int .i64 v)) ∧ (R.2.isBad = false → pf = R.1)) := by
       have he := reasonS_one (p := (zp kd)) HRUN.out.1 HRUN.out.2 h1
       exact ⟨_, _, by rw [HRR.out, he]; exact HL7.out, fun _ => by rw [HRR.out, he]⟩
      obtain rfl : s3 = ByteArray.empty := ByteArray.size_eq_zero_iff.1 h1
      clear h1 HRR HRUN HL6 HL7
      go_upto_region 62 with fail
      clear d0 d1 d7 f7
      generalize World.setCell _ _ _ = Wb at HPQ ⊢
      obtain ⟨pf, af, hl, hp⟩ := HPQ.out
      have HLX := Lib.hid hl
      have HPQ := Lib.hid hp
      clear hl hp
      obtain ⟨sx, hx1, _, hx3, hx4, _⟩ := HLX.out.rd.rd
      have e0 := hx1.cell 0
      obtain ⟨bz, hbz⟩ : ∃ b, decide (sx.size = 0) = b := ⟨_, rfl⟩
      have hzz : ((sx.size : Int) == 0) = bz := by rw [← hbz]; exact beq_nat sx.size
      have HQ : Hid ((bodyS (16 * kd + z) s).2 = R.2.want bz 8) := by
       show _ = _
       rw [HRB.out]
       show R.2.want (decide (R.2.rest.size = 0)) 8 = _
       cases hbd : R.2.isBad with
       | false => have := hx3 hbd; rw [this]; show (St.ok sx).want (decide (sx.size = 0)) 8 = _; rw [hbz]
       | true => rw [(hx4 hbd).2]; rfl
      clear hx1 hx3 hx4 hbz
      go_wp2_with fail
      refine (want_st g R.2 bz 8 _ (by decide) HLX.out.rd).mono ?_
      rintro r w7 ⟨rfl, q1, q2⟩
      have HL8 := Lib.hid (HLX.out.bar q2 q1)
      have HK8 : Hid (Box w7 k0 (pkArr (zp 0) za)) := Lib.hid (HK0.out.below (HL8.out.b.mono (by have := HH.out; omega)))
      clear q1 q2 HLX e0 hzz
      go_upto_region 63 with fail
      obtain ⟨ste, hste⟩ : ∃ x, R.2.want bz 8 = x := ⟨_, rfl⟩
      rw [hste] at HL8 HQ
      have HCAP := Lib.hid HL8.out.cap
      have HNEW := Lib.hid (HL8.out.new.mono (B' := w.heap.size) (by have := HQ14.out; omega))
      have HWF : Hid ((bodyS (16 * kd + z) s).2.Wf) := by show St.Wf _; rw [HQ.out]; exact HL8.out.wf
      have HRES : Hid (Ending.returned (.tuple #[.agg (pkArr pf af), .int .i64 ste.err]) = .returned (.tuple #[.agg (pkArr pf af), .int .i64 (bodyS (16 * kd + z) s).2.err])) := by show _ = _; rw [HQ.out]
      have HPF : Hid ((bodyS (16 * kd + z) s).2.isBad = false → pf = (bodyS (16 * kd + z) s).1) := fun hb => by
       rw [HQ.out, ← hste] at hb
       rw [HRB.out]
       exact HPQ.out (not_bad hb)
      have HEN := Lib.hid (EndAt.mk (w := w) (k0 := k0) (g := g) (h := h) (st := ste) (p := pf) (a := af) (cs := pkArr (zp 0) za) ⟨HL8.out.rd, HL8.out.bx, HL8.out.at, HK8.out, rfl, (HA.out.trans (HL8.out.b.mono (by have := HQ14.out; omega))), by have := HQ14.out; omega, by omega, by omega, HL8.out.new.off hkl⟩)
      clear HL8 HK8 hste
      refine wp_region_held_drew (S := fun W => ∃ cs, EndAt false w k0 g h ste pf af cs W) (by kernel_rfl) ⟨_, HEN.out.drew⟩ (fun hHeld => ?_)
      generalize World.drew _ = Wd at hHeld ⊢
      refine take_load 0 273 30 (.tmp 8) h 0 (.agg (pkArr pf af)) rfl rfl (by kernel_rfl) (fun _ _ _ h => h) (by rfl) hHeld rfl rfl (fun w' hS' => load_bx hS'.choose_spec.out.2.1) ?_
      simp only [Act.put, List.setIfInBounds_toArray, List.set_cons_zero, List.set_cons_succ]
      refine take_op 1 274 _ rfl rfl (by kernel_rfl) (fun _ _ _ h => h) (by rfl) hHeld (fun w' hS' => by go_simp; try with_reducible rfl) ?_
      simp only [Act.put, List.setIfInBounds_toArray, List.set_cons_zero, List.set_cons_succ]
      refine take_op 2 275 _ rfl rfl (by kernel_rfl) (fun _ _ _ h => h) (by rfl) hHeld (fun w' hS' => by go_simp; try with_reducible rfl) ?_
      simp only [Act.put, List.setIfInBounds_toArray, List.set_cons_zero, List.set_cons_succ]
      refine take_op 3 276 _ rfl rfl (by kernel_rfl) (fun _ _ _ h => h) (by rfl) hHeld (fun w' hS' => by go_simp; try with_reducible rfl) ?_
      simp only [Act.put, List.setIfInBounds_toArray, List.set_cons_zero, List.set_cons_succ]
      refine take_op 4 277 _ rfl rfl (by kernel_rfl) (fun _ _ _ h => h) (by rfl) hHeld (fun w' hS' => by have k := hS'.choose_spec.err; go_simp; try with_reducible rfl) ?_
      simp only [Act.put, List.setIfInBounds_toArray, List.set_cons_zero, List.set_cons_succ]
      obtain ⟨cs, hcs⟩ := hHeld
      obtain ⟨T, hT⟩ := hcs.out.2.2.2.1
      refine only_op 5 rfl (by kernel_rfl) (by rfl) (wp_store_row 30 (.tmp 6) (.tmp 273) rfl k0 (pkArr pf af) rfl rfl T cs hT info_pk hcs.out.2.2.2.2.1 (one_pk _ _) ⟨⟨_, hcs.row⟩, ?_⟩)
      simp only [Act.put]
      have hHeld2 := hcs.row
      refine take_op 6 7 _ rfl rfl (by kernel_rfl) (fun _ _ _ h => h) (by rfl) ⟨_, hHeld2⟩ (fun w' hS' => by go_simp; try with_reducible rfl) ?_
      simp only [Act.put, List.setIfInBounds_toArray]
      refine wpAnyH_done (by kernel_rfl) ?_ _
      have HF := Lib.hid hHeld2
      clear hcs hT hHeld2
      go_wp2_with fail
      refine bodyPost_ret (results_pk2 Tryz.results84 rfl HF.out.out.2.2.2.1 rfl) rfl ⟨pf, af, HRES.out, HF.out.out.2.2.1, HCAP.out, HNEW.out, HF.out.out.2.2.2.2.2.1, HWF.out, HPF.out⟩
     ·obtain ⟨HE20, HE0⟩ := reasonS_two (p := (zp kd)) HRUN.out.1 HRUN.out.2 h1
      have HP0 := fun (W : World) (hr : RdOf false W g (.ok s3)) => props_st g kd (.ok s3) W HKD.out.2.2.2.2 hr
      rw [HE20] at HE0
      obtain ⟨L, hL⟩ : ∃ L, ((St.ok s3).run (propsR kd)).val [] = L := ⟨_, rfl⟩
      obtain ⟨s4, hs4⟩ : ∃ s2, ((St.ok s3).run (propsR kd)).st = s2 := ⟨_, rfl⟩
      rw [hL, hs4] at HP0
      have HP := Lib.hid HP0
      have HEE : Hid (R.2 = s4 ∧ (R.2.isBad = false → R.1 = { { zp kd with re := v } with ps := L })) := by
       refine ⟨?_, fun hb => ?_⟩
       ·rw [HRR.out]; exact HE20.trans hs4
       ·rw [HRR.out] at hb ⊢
        rw [HE20] at hb
        rw [← hL]
        exact HE0 hb
      have hgt : 0 < s3.size := by omega
      clear hL hs4 HP0 HE0 HE20 HRUN HRR h1
      go_wp2_with fail
      refine (HP.out _ HL7.out.rd).mono ?_
      rintro r wb ⟨A, c, rfl, k1, k2, k3, k4, k5⟩
      have HL8 := Lib.hid (HL7.out.bar k5 k4)
      have HN := Lib.hid (HL7.out.off k2)
      have HAA := Lib.hid k3
      have HC := Lib.hid k1
      clear k1 k2 k3 k4 k5 d0 d1 d7 f7 HL6 HL7 HP hgt
      have d24 := HL8.out.f24
      have f24 := HL8.out.frozen 24
      have HL9 := Lib.hid (HL8.out.props HAA.out HN.out HC.out)
      go_upto_region 62 with fail
      have HPQ : Hid (∃ pf af, Live false h W1 g h R.2 pf af (wb.setCell ⟨h, 24, none⟩ (.slice A L.length c)) ∧ (R.2.isBad = false → pf = R.1)) := ⟨_, _, by rw [HEE.out.1]; exact HL9.out, fun hb => (HEE.out.2 hb).symm⟩
      clear HL8 HL9 d24 f24 HN HAA HC HEE
      generalize World.setCell _ _ _ = Wb at HPQ ⊢
      obtain ⟨pf, af, hl, hp⟩ := HPQ.out
      have HLX := Lib.hid hl
      have HPQ := Lib.hid hp
      clear hl hp
      obtain ⟨sx, hx1, _, hx3, hx4, _⟩ := HLX.out.rd.rd
      have e0 := hx1.cell 0
      obtain ⟨bz, hbz⟩ : ∃ b, decide (sx.size = 0) = b := ⟨_, rfl⟩
      have hzz : ((sx.size : Int) == 0) = bz := by rw [← hbz]; exact beq_nat sx.size
      have HQ : Hid ((bodyS (16 * kd + z) s).2 = R.2.want bz 8) := by
       show _ = _
       rw [HRB.out]
       show R.2.want (decide (R.2.rest.size = 0)) 8 = _
       cases hbd : R.2.isBad with
       | false => have := hx3 hbd; rw [this]; show (St.ok sx).want (decide (sx.size = 0)) 8 = _; rw [hbz]
       | true => rw [(hx4 hbd).2]; rfl
      clear hx1 hx3 hx4 hbz
      go_wp2_with fail
      refine (want_st g R.2 bz 8 _ (by decide) HLX.out.rd).mono ?_
      rintro r w7 ⟨rfl, q1, q2⟩
      have HL8 := Lib.hid (HLX.out.bar q2 q1)
      have HK8 : Hid (Box w7 k0 (pkArr (zp 0) za)) := Lib.hid (HK0.out.below (HL8.out.b.mono (by have := HH.out; omega)))
      clear q1 q2 HLX e0 hzz
      go_upto_region 63 with fail
      obtain ⟨ste, hste⟩ : ∃ x, R.2.want bz 8 = x := ⟨_, rfl⟩
      rw [hste] at HL8 HQ
      have HCAP := Lib.hid HL8.out.cap
      have HNEW := Lib.hid (HL8.out.new.mono (B' := w.heap.size) (by have := HQ14.out; omega))
      have HWF : Hid ((bodyS (16 * kd + z) s).2.Wf) := by show St.Wf _; rw [HQ.out]; exact HL8.out.wf
      have HRES : Hid (Ending.returned (.tuple #[.agg (pkArr pf af), .int .i64 ste.err]) = .returned (.tuple #[.agg (pkArr pf af), .int .i64 (bodyS (16 * kd + z) s).2.err])) := by show _ = _; rw [HQ.out]
      have HPF : Hid ((bodyS (16 * kd + z) s).2.isBad = false → pf = (bodyS (16 * kd + z) s).1) := fun hb => by
       rw [HQ.out, ← hste] at hb
       rw [HRB.out]
       exact HPQ.out (not_bad hb)
      have HEN := Lib.hid (EndAt.mk (w := w) (k0 := k0) (g := g) (h := h) (st := ste) (p := pf) (a := af) (cs := pkArr (zp 0) za) ⟨HL8.out.rd, HL8.out.bx, HL8.out.at, HK8.out, rfl, (HA.out.trans (HL8.out.b.mono (by have := HQ14.out; omega))), by have := HQ14.out; omega, by omega, by omega, HL8.out.new.off hkl⟩)
      clear HL8 HK8 hste
      refine wp_region_held_drew (S := fun W => ∃ cs, EndAt false w k0 g h ste pf af cs W) (by kernel_rfl) ⟨_, HEN.out.drew⟩ (fun hHeld => ?_)
      generalize World.drew _ = Wd at hHeld ⊢
      refine take_load 0 273 30 (.tmp 8) h 0 (.agg (pkArr pf af)) rfl rfl (by kernel_rfl) (fun _ _ _ h => h) (by rfl) hHeld rfl rfl (fun w' hS' => load_bx hS'.choose_spec.out.2.1) ?_
      simp only [Act.put, List.setIfInBounds_toArray, List.set_cons_zero, List.set_cons_succ]
      refine take_op 1 274 _ rfl rfl (by kernel_rfl) (fun _ _ _ h => h) (by rfl) hHeld (fun w' hS' => by go_simp; try with_reducible rfl) ?_
      simp only [Act.put, List.setIfInBounds_toArray, List.set_cons_zero, List.set_cons_succ]
      refine take_op 2 275 _ rfl rfl (by kernel_rfl) (fun _ _ _ h => h) (by rfl) hHeld (fun w' hS' => by go_simp; try with_reducible rfl) ?_
      simp only [Act.put, List.setIfInBounds_toArray, List.set_cons_zero, List.set_cons_succ]
      refine take_op 3 276 _ rfl rfl (by kernel_rfl) (fun _ _ _ h => h) (by rfl) hHeld (fun w' hS' => by go_simp; try with_reducible rfl) ?_
      simp only [Act.put, List.setIfInBounds_toArray, List.set_cons_zero, List.set_cons_succ]
      refine take_op 4 277 _ rfl rfl (by kernel_rfl) (fun _ _ _ h => h) (by rfl) hHeld (fun w' hS' => by have k := hS'.choose_spec.err; go_simp; try with_reducible rfl) ?_
      simp only [Act.put, List.setIfInBounds_toArray, List.set_cons_zero, List.set_cons_succ]
      obtain ⟨cs, hcs⟩ := hHeld
      obtain ⟨T, hT⟩ := hcs.out.2.2.2.1
      refine only_op 5 rfl (by kernel_rfl) (by rfl) (wp_store_row 30 (.tmp 6) (.tmp 273) rfl k0 (pkArr pf af) rfl rfl T cs hT info_pk hcs.out.2.2.2.2.1 (one_pk _ _) ⟨⟨_, hcs.row⟩, ?_⟩)
      simp only [Act.put]
      have hHeld2 := hcs.row
      refine take_op 6 7 _ rfl rfl (by kernel_rfl) (fun _ _ _ h => h) (by rfl) ⟨_, hHeld2⟩ (fun w' hS' => by go_simp; try with_reducible rfl) ?_
      simp only [Act.put, List.setIfInBounds_toArray]
      refine wpAnyH_done (by kernel_rfl) ?_ _
      have HF := Lib.hid hHeld2
      clear hcs hT hHeld2
      go_wp2_with fail
      refine bodyPost_ret (results_pk2 Tryz.results84 rfl HF.out.out.2.2.2.1 rfl) rfl ⟨pf, af, HRES.out, HF.out.out.2.2.1, HCAP.out, HNEW.out, HF.out.out.2.2.2.2.2.1, HWF.out, HPF.out⟩
  ·have hzn := ne_true hzf
   have HRB := Lib.hid (body_head kd z s HKD.out.2.1 HKD.out.2.2.1 trivial hz0 hz1 (fun e => hzf (by rw [← e]; exact HFL.out)))
   have hld := load_bx HL5.out.bx
   clear hzf HFB
   go_wp2_with (first | (refine wpList_load_any (by rfl) 30 (.tmp 8) rfl h 0 rfl _ hld ?_) | (refine wpList_store_whole rfl 30 (.tmp 6) (.tmp 52) rfl k0 (pkArr (zp kd) za) rfl rfl (pkArr (zp 0) za) HK5.out info_pk rfl (one_pk _ _) ?_; simp only [Act.put]))
   refine bodyPost_ret (results_pk2 Tryz.results84 rfl (HK5.out.row (pkArr (zp kd) za)) rfl) rfl ⟨zp kd, za, by rw [HRB.out]; rfl, PkAt.zero' _ _ _ ⟨rfl, rfl, rfl, rfl⟩, PkCap.zero' _ ⟨rfl, rfl, rfl, rfl⟩, .zero _, (Bar.row k0 w5 _).below HB5.out (by have := HQ14.out; omega) HB5.out.size, by rw [HRB.out]; exact (by decide : (8 : Int) ≠ 0), fun hb => by rw [HRB.out] at hb; cases hb⟩
theorem rbody_14 (z : Int) (s : ByteArray) (w : World) (hz0 : 0 ≤ z) (hz1 : z ≤ 15) (hs : s.size ≤ 268435456) :
  Calls Tryz.prog 84 #[.int .i64 14, .int .i64 z, .string s] w (GivesBody (bodyS (16 * 14 + z) s) w) :=
 rbody_end 14 0 z s w (by omega) rfl rfl hz0 hz1 hs
theorem rbody_15 (z : Int) (s : ByteArray) (w : World) (hz0 : 0 ≤ z) (hz1 : z ≤ 15) (hs : s.size ≤ 268435456) :
  Calls Tryz.prog 84 #[.int .i64 15, .int .i64 z, .string s] w (GivesBody (bodyS (16 * 15 + z) s) w) :=
 rbody_end 15 0 z s w (by omega) rfl rfl hz0 hz1 hs
open Go.RowKit Go.Lib Prp Pkt Vbi
theorem rbody_8bad (z : Int) (s : ByteArray) (w : World) (hz0 : 0 ≤ z) (hz1 : z ≤ 15) (hz2 : z ≠ 2) (hs : s.size ≤ 268435456) :
  Calls Tryz.prog 84 #[.int .i64 8, .int .i64 z, .string s] w (GivesBody (bodyS (16 * 8 + z) s) w) := by
 have HF0 := hz0
 have HFB := Lib.hid HF0
 have HZ := Lib.hid hs
 have hb0 := Box.new w 30 (pkArr (zp 0) za)
 have ha := (Below.refl w.heap.size w).alloc (Nat.le_refl _) (.cells (pkArr (zp 0) za) 30)
 obtain ⟨W1, hW⟩ : ∃ W1, w.alloc (.cells (pkArr (zp 0) za) 30) = W1 := ⟨_, rfl⟩
 rw [hW] at hb0 ha
 simp only [pkArr, zp, za, zw, List.length_nil] at hW
 have HW := Lib.hid hW
 have HK0 := Lib.hid hb0
 have HA := Lib.hid ha
 clear hW hb0 ha HF0
 go_enter Tryz.func84, Tryz.ntmps84
 go_upto_region 1 with fail
 rw [HW.out]
 clear HW
 obtain ⟨k0, hk0⟩ : ∃ k, w.heap.size = k := ⟨_, rfl⟩
 have H8 := Lib.hid hk0
 rw [hk0] at HK0 ⊢
 clear hk0
 have hkl := HK0.out.lt
 have hb0 := Box.new W1 30 (pkArr (zp 0) za)
 have ha := (Below.refl W1.heap.size W1).alloc (Nat.le_refl _) (.cells (pkArr (zp 0) za) 30)
 obtain ⟨W2, hW⟩ : ∃ W2, W1.alloc (.cells (pkArr (zp 0) za) 30) = W2 := ⟨_, rfl⟩
 rw [hW] at hb0 ha
 simp only [pkArr, zp, za, zw, List.length_nil] at hW
 have HW := Lib.hid hW
 obtain ⟨h, hh⟩ : ∃ h, W1.heap.size = h := ⟨_, rfl⟩
 rw [hh] at hb0 ha hkl
 have HB2 := Lib.hid hb0
 have HA2 := Lib.hid ha
 have HH := Lib.hid hh
 clear hW hb0 ha
 go_upto_region 2 with (first | (refine wpList_build_kind rfl (.tmp 14) rfl 8 rfl ?_) | (rw [HW.out]; refine wpList_store_whole rfl 30 (.tmp 8) (.tmp 15) rfl h (pkArr (zp 8) za) rfl rfl (pkArr (zp 0) za) HB2.out info_pk rfl (one_pk _ _) ?_; simp only [Act.put]))
 have HB3 := Lib.hid (HB2.out.row (pkArr (zp 8) za))
 have HA3 := Lib.hid ((Bar.row h W2 (pkArr (zp 8) za)).below HA2.out (Nat.le_refl _) (by have := HA2.out.size; omega))
 clear HW HB2 HA2 hh
 generalize World.setRow _ _ _ = W3 at HB3 HA3 ⊢
 have hhl := HB3.out.lt
 go_upto_region 3 with fail
 have hr4 : RdOf false (W3.alloc (.cells #[.string s, .int .i64 0] 154)) W3.heap.size (.ok s) := ⟨Box.new W3 154 #[.string s, .int .i64 0], HZ.out⟩
 have ha4 := (Below.refl W3.heap.size W3).alloc (Nat.le_refl _) (.cells #[.string s, .int .i64 0] 154)
 obtain ⟨g, hg⟩ : ∃ g, W3.heap.size = g := ⟨_, rfl⟩
 rw [hg] at hr4 hhl ⊢
 have HL4 := Lib.hid (Live.mk (x := false) (B := h) (w0 := W1) (g := g) (h := h) (st := .ok s) (p := zp 8) (a := za) ⟨HA3.out.alloc (by omega) _, by omega, Nat.le_refl _, by omega, hr4, HB3.out.below (ha4.mono (by omega)), PkAt.zero' _ _ _ ⟨rfl, rfl, rfl, rfl⟩, .zero g, .zero h, PkCap.zero' _ ⟨rfl, rfl, rfl, rfl⟩, .zero h⟩)
 clear hr4 ha4 HA3 HB3 hg HZ
 generalize W3.alloc _ = W4 at HL4 ⊢
 have hld := load_bx HL4.out.bx
 go_wp2_with (refine wpList_load_any (by rfl) 30 (.tmp 8) rfl h 0 rfl _ hld ?_)
 refine (rflags_is (zp 8) za 2 W4 (by decide) (by decide) rfl).mono ?_
 rintro r w5 ⟨rfl, q1⟩
 have HL5 := Lib.hid (HL4.out.bar (Bar.of g q1) (HL4.out.rd.below q1))
 have HK5 : Hid (Box w5 k0 (pkArr (zp 0) za)) := Lib.hid (HK0.out.below (HL5.out.b.mono (by have := HH.out; omega)))
 have HB5 := Lib.hid (HA.out.trans (HL5.out.b.mono (by have := H8.out; omega)))
 clear q1 hld HL4
 have hzf : ¬ z = 2 := hz2
 have hzn := ne_true hzf
 have HRB := Lib.hid (body_head 8 z s (by decide) (by decide) (by decide) hz0 hz1 (fun e => hzf e.symm))
 have hld := load_bx HL5.out.bx
 clear hzf HFB
 go_wp2_with (first | (refine wpList_load_any (by rfl) 30 (.tmp 8) rfl h 0 rfl _ hld ?_) | (refine wpList_store_whole rfl 30 (.tmp 6) (.tmp 52) rfl k0 (pkArr (zp 8) za) rfl rfl (pkArr (zp 0) za) HK5.out info_pk rfl (one_pk _ _) ?_; simp only [Act.put]))
 refine bodyPost_ret (results_pk2 Tryz.results84 rfl (HK5.out.row (pkArr (zp 8) za)) rfl) rfl ⟨zp 8, za, by rw [HRB.out]; rfl, PkAt.zero' _ _ _ ⟨rfl, rfl, rfl, rfl⟩, PkCap.zero' _ ⟨rfl, rfl, rfl, rfl⟩, .zero _, (Bar.row k0 w5 _).below HB5.out (by have := H8.out; omega) HB5.out.size, by rw [HRB.out]; exact (by decide : (8 : Int) ≠ 0), fun hb => by rw [HRB.out] at hb; cases hb⟩
theorem rbody_10bad (z : Int) (s : ByteArray) (w : World) (hz0 : 0 ≤ z) (hz1 : z ≤ 15) (hz2 : z ≠ 2) (hs : s.size ≤ 268435456) :
  Calls Tryz.prog 84 #[.int .i64 10, .int .i64 z, .string s] w (GivesBody (bodyS (16 * 10 + z) s) w) := by
 have HF0 := hz0
 have HFB := Lib.hid HF0
 have HZ := Lib.hid hs
 have hb0 := Box.new w 30 (pkArr (zp 0) za)
 have ha := (Below.refl w.heap.size w).alloc (Nat.le_refl _) (.cells (pkArr (zp 0) za) 30)
 obtain ⟨W1, hW⟩ : ∃ W1, w.alloc (.cells (pkArr (zp 0) za) 30) = W1 := ⟨_, rfl⟩
 rw [hW] at hb0 ha
 simp only [pkArr, zp, za, zw, List.length_nil] at hW
 have HW := Lib.hid hW
 have HK0 := Lib.hid hb0
 have HA := Lib.hid ha
 clear hW hb0 ha HF0
 go_enter Tryz.func84, Tryz.ntmps84
 go_upto_region 1 with fail
 rw [HW.out]
 clear HW
 obtain ⟨k0, hk0⟩ : ∃ k, w.heap.size = k := ⟨_, rfl⟩
 have H10 := Lib.hid hk0
 rw [hk0] at HK0 ⊢
 clear hk0
 have hkl := HK0.out.lt
 have hb0 := Box.new W1 30 (pkArr (zp 0) za)
 have ha := (Below.refl W1.heap.size W1).alloc (Nat.le_refl _) (.cells (pkArr (zp 0) za) 30)
 obtain ⟨W2, hW⟩ : ∃ W2, W1.alloc (.cells (pkArr (zp 0) za) 30) = W2 := ⟨_, rfl⟩
 rw [hW] at hb0 ha
 simp only [pkArr, zp, za, zw, List.length_nil] at hW
 have HW := Lib.hid hW
 obtain ⟨h, hh⟩ : ∃ h, W1.heap.size = h := ⟨_, rfl⟩
 rw [hh] at hb0 ha hkl
 have HB2 := Lib.hid hb0
 have HA2 := Lib.hid ha
 have HH := Lib.hid hh
 clear hW hb0 ha
 go_upto_region 2 with (first | (refine wpList_build_kind rfl (.tmp 14) rfl 10 rfl ?_) | (rw [HW.out]; refine wpList_store_whole rfl 30 (.tmp 8) (.tmp 15) rfl h (pkArr (zp 10) za) rfl rfl (pkArr (zp 0) za) HB2.out info_pk rfl (one_pk _ _) ?_; simp only [Act.put]))
 have HB3 := Lib.hid (HB2.out.row (pkArr (zp 10) za))
 have HA3 := Lib.hid ((Bar.row h W2 (pkArr (zp 10) za)).below HA2.out (Nat.le_refl _) (by have := HA2.out.size; omega))
 clear HW HB2 HA2 hh
 generalize World.setRow _ _ _ = W3 at HB3 HA3 ⊢
 have hhl := HB3.out.lt
 go_upto_region 3 with fail
 have hr4 : RdOf false (W3.alloc (.cells #[.string s, .int .i64 0] 154)) W3.heap.size (.ok s) := ⟨Box.new W3 154 #[.string s, .int .i64 0], HZ.out⟩
 have ha4 := (Below.refl W3.heap.size W3).alloc (Nat.le_refl _) (.cells #[.string s, .int .i64 0] 154)
 obtain ⟨g, hg⟩ : ∃ g, W3.heap.size = g := ⟨_, rfl⟩
 rw [hg] at hr4 hhl ⊢
 have HL4 := Lib.hid (Live.mk (x := false) (B := h) (w0 := W1) (g := g) (h := h) (st := .ok s) (p := zp 10) (a := za) ⟨HA3.out.alloc (by omega) _, by omega, Nat.le_refl _, by omega, hr4, HB3.out.below (ha4.mono (by omega)), PkAt.zero' _ _ _ ⟨rfl, rfl, rfl, rfl⟩, .zero g, .zero h, PkCap.zero' _ ⟨rfl, rfl, rfl, rfl⟩, .zero h⟩)
 clear hr4 ha4 HA3 HB3 hg HZ
 generalize W3.alloc _ = W4 at HL4 ⊢
 have hld := load_bx HL4.out.bx
 go_wp2_with (refine wpList_load_any (by rfl) 30 (.tmp 8) rfl h 0 rfl _ hld ?_)
 refine (rflags_is (zp 10) za 2 W4 (by decide) (by decide) rfl).mono ?_
 rintro r w5 ⟨rfl, q1⟩
 have HL5 := Lib.hid (HL4.out.bar (Bar.of g q1) (HL4.out.rd.below q1))
 have HK5 : Hid (Box w5 k0 (pkArr (zp 0) za)) := Lib.hid (HK0.out.below (HL5.out.b.mono (by have := HH.out; omega)))
 have HB5 := Lib.hid (HA.out.trans (HL5.out.b.mono (by have := H10.out; omega)))
 clear q1 hld HL4
 have hzf : ¬ z = 2 := hz2
 have hzn := ne_true hzf
 have HRB := Lib.hid (body_head 10 z s (by decide) (by decide) (by decide) hz0 hz1 (fun e => hzf e.symm))
 have hld := load_bx HL5.out.bx
 clear hzf HFB
 go_wp2_with (first | (refine wpList_load_any (by rfl) 30 (.tmp 8) rfl h 0 rfl _ hld ?_) | (refine wpList_store_whole rfl 30 (.tmp 6) (.tmp 52) rfl k0 (pkArr (zp 10) za) rfl rfl (pkArr (zp 0) za) HK5.out info_pk rfl (one_pk _ _) ?_; simp only [Act.put]))
 refine bodyPost_ret (results_pk2 Tryz.results84 rfl (HK5.out.row (pkArr (zp 10) za)) rfl) rfl ⟨zp 10, za, by rw [HRB.out]; rfl, PkAt.zero' _ _ _ ⟨rfl, rfl, rfl, rfl⟩, PkCap.zero' _ ⟨rfl, rfl, rfl, rfl⟩, .zero _, (Bar.row k0 w5 _).below HB5.out (by have := H10.out; omega) HB5.out.size, by rw [HRB.out]; exact (by decide : (8 : Int) ≠ 0), fun hb => by rw [HRB.out] at hb; cases hb⟩
open Go.RowKit Go.Lib Prp Pkt Vbi
theorem RLength_is (s : ByteArray) (N E : Int) (w : World) (hs : s.size ≤ 281474976710656) (h : lenS s = (N, E)) :
  Calls Tryz.prog 49 #[.string s] w fun r w' => r = .returned (.tuple #[.int .i64 N, .int .i64 E]) ∧ w' = w := by
 rcases takeS_cases s with ⟨hz, _⟩ | ⟨hz, X, ht, hE, _⟩ | ⟨hz, m, q, ht, hq, hm, _, _⟩
 ·have e : lenS s = (0, 7) := by unfold lenS; rw [if_pos hz]
  rw [e] at h
  injection h with h1 h2
  subst h1 h2
  obtain rfl : s = ByteArray.empty := ByteArray.size_eq_zero_iff.1 hz
  clear hz e
  go_enter Tryz.func49, Tryz.ntmps49
  go_wp2_with fail
  go_ret2
  exact ⟨rfl, rfl⟩
 ·have e : lenS s = (0, X) := by unfold lenS; rw [if_neg hz, ht, if_pos hE]
  rw [e] at h
  injection h with h1 h2
  subst h1 h2
  have HT := Lib.hid (fun W => RTakeNum_z (s.extract 1 s.size) 0 0 X W (by rw [ByteArray.size_extract]; omega) ht)
  obtain ⟨hne, hne2⟩ := size_facts hz
  have hEb := ne_true hE
  have hl1 : (1 : Int) ≤ (s.size : Int) := by omega
  clear e ht
  go_enter Tryz.func49, Tryz.ntmps49
  go_wp2_with (go_at_call 83; refine (HT.out _).mono ?_; rintro r wt ⟨rfl, rfl⟩)
  go_ret2
  exact ⟨rfl, rfl⟩
 ·have e : lenS s = (1 + (q : Int) + (m : Int), 0) := by unfold lenS; rw [if_neg hz, ht]; exact if_neg (fun hh => hh rfl)
  rw [e] at h
  injection h with h1 h2
  have HN : Hid (N = 1 + (q : Int) + (m : Int)) := h1.symm
  subst h2
  have HT := Lib.hid (fun W => RTakeNum_z (s.extract 1 s.size) (m : Int) (q : Int) 0 W (by rw [ByteArray.size_extract]; omega) ht)
  obtain ⟨hne, hne2⟩ := size_facts hz
  have hl1 : (1 : Int) ≤ (s.size : Int) := by omega
  clear e ht h1
  go_enter Tryz.func49, Tryz.ntmps49
  go_wp2_with (go_at_call 83; refine (HT.out _).mono ?_; rintro r wt ⟨rfl, rfl⟩)
  go_ret2
  refine ⟨?_, rfl⟩
  rw [HN.out]
  rfl
open Go.RowKit Go.Lib Prp Pkt Vbi
theorem rbody_is (c : Int) (s : ByteArray) (w : World) (h0 : 0 ≤ c) (h1 : c ≤ 255) (h8 : c ≠ 130) (h10 : c ≠ 162) (hs : s.size ≤ 268435456) :
  Calls Tryz.prog 84 #[.int .i64 (c / 16), .int .i64 (c % 16), .string s] w (GivesBody (bodyS c s) w) := by
 obtain ⟨k, hk⟩ : ∃ k, c / 16 = k := ⟨_, rfl⟩
 obtain ⟨z, hz⟩ : ∃ z, c % 16 = z := ⟨_, rfl⟩
 have hc : c = 16 * k + z := by omega
 have hz0 : 0 ≤ z := by omega
 have hz1 : z ≤ 15 := by omega
 rw [hk, hz]
 rcases (by omega : k = 0 ∨ k = 1 ∨ k = 2 ∨ k = 3 ∨ k = 4 ∨ k = 5 ∨ k = 6 ∨ k = 7 ∨ k = 8 ∨ k = 9 ∨ k = 10 ∨ k = 11 ∨ k = 12 ∨ k = 13 ∨ k = 14 ∨ k = 15) with e | e | e | e | e | e | e | e | e | e | e | e | e | e | e | e
 ·rw [e] at hc ⊢; rw [show c = z by omega]; exact rbody_0 z s w hz0 hz1 hs
 ·rw [e] at hc ⊢; rw [hc]; exact rbody_1 z s w hz0 hz1 hs
 ·rw [e] at hc ⊢; rw [hc]; exact rbody_2 z s w hz0 hz1 hs
 ·rw [e] at hc ⊢; rw [hc]; exact rbody_3 z s w hz0 hz1 hs
 ·rw [e] at hc ⊢; rw [hc]; exact rbody_4 z s w hz0 hz1 hs
 ·rw [e] at hc ⊢; rw [hc]; exact rbody_5 z s w hz0 hz1 hs
 ·rw [e] at hc ⊢; rw [hc]; exact rbody_6 z s w hz0 hz1 hs
 ·rw [e] at hc ⊢; rw [hc]; exact rbody_7 z s w hz0 hz1 hs
 ·rw [e] at hc ⊢; rw [hc]; exact rbody_8bad z s w hz0 hz1 (by omega) hs
 ·rw [e] at hc ⊢; rw [hc]; exact rbody_9 z s w hz0 hz1 hs
 ·rw [e] at hc ⊢; rw [hc]; exact rbody_10bad z s w hz0 hz1 (by omega) hs
 ·rw [e] at hc ⊢; rw [hc]; exact rbody_11 z s w hz0 hz1 hs
 ·rw [e] at hc ⊢; rw [hc]; exact rbody_12 z s w hz0 hz1 hs
 ·rw [e] at hc ⊢; rw [hc]; exact rbody_13 z s w hz0 hz1 hs
 ·rw [e] at hc ⊢; rw [hc]; exact rbody_14 z s w hz0 hz1 hs
 ·rw [e] at hc ⊢; rw [hc]; exact rbody_15 z s w hz0 hz1 hs
theorem RTakeN_of (s : ByteArray) (w : World) (hn : ∀ (t : ByteArray) (W : World), t.size ≤ 268435456 → 0 ≤ idOf s → idOf s ≤ 255 → Calls Tryz.prog 84 #[.int .i64 (idOf s / 16), .int .i64 (idOf s % 16), .string t] W (GivesBody (bodyS (idOf s) t) W)) (hs : s.size ≤ 268435456) :
  Calls Tryz.prog 47 #[.string s] w (GivesPkN (takeS s) w) := by
 have HNB := Lib.hid hn
 clear hn
 have hb0 := Box.new w 30 (pkArr (zp 0) za)
 have ha := (Below.refl w.heap.size w).alloc (Nat.le_refl _) (.cells (pkArr (zp 0) za) 30)
 obtain ⟨W1, hW⟩ : ∃ W1, w.alloc (.cells (pkArr (zp 0) za) 30) = W1 := ⟨_, rfl⟩
 rw [hW] at hb0 ha
 simp only [pkArr, zp, za, zw, List.length_nil] at hW
 have HW := Lib.hid hW
 obtain ⟨k0, hk0⟩ : ∃ k, w.heap.size = k := ⟨_, rfl⟩
 have HKK := Lib.hid hk0
 rw [hk0] at hb0
 have hkl := hb0.lt
 have hb5 := Box.new W1 30 (pkArr (zp 0) za)
 have ha5 := (Below.refl W1.heap.size W1).alloc (Nat.le_refl _) (.cells (pkArr (zp 0) za) 30)
 obtain ⟨W2, hW2⟩ : ∃ W2, W1.alloc (.cells (pkArr (zp 0) za) 30) = W2 := ⟨_, rfl⟩
 rw [hW2] at hb5 ha5
 simp only [pkArr, zp, za, zw, List.length_nil] at hW2
 have HW2 := Lib.hid hW2
 obtain ⟨k5, hk5⟩ : ∃ k, W1.heap.size = k := ⟨_, rfl⟩
 have HKK5 := Lib.hid hk5
 rw [hk5] at hb5 hkl
 have hne5 : k0 ≠ k5 := by omega
 have HB5 := Lib.hid hb5
 obtain ⟨W3, hW3⟩ : ∃ W3, W2.setRow k5 (pkArr (zp 0) za) = W3 := ⟨_, rfl⟩
 have hr5 := Bar.row k5 W2 (pkArr (zp 0) za)
 have hbx5 := hb5.row (pkArr (zp 0) za)
 have hbx0 := hr5.box (hb0.below (ha5.mono (by omega))) hne5
 have hbw := hr5.below (ha.trans (ha5.mono (by have := ha.size; omega))) (by omega) (by have := ha.size; have := ha5.size; omega)
 rw [hW3] at hbx5 hbx0 hbw
 have HW3 := Lib.hid hW3
 have HX5 := Lib.hid hbx5
 have HX0 := Lib.hid hbx0
 have HBW := Lib.hid hbw
 have hld5 := load_bx hbx5
 have hr0 := Bar.row k0 W3 (pkArr (zp 0) za)
 have HBR : Hid (Below w.heap.size w (W3.setRow k0 (pkArr (zp 0) za))) := Lib.hid (hr0.below hbw (by omega) hbw.size)
 clear hW hb0 ha hW2 hb5 ha5 hr5 hbx5 hbx0 hbw hr0 hW3 hk0 hk5
 have hl8 : s.size ≤ 281474976710656 := by omega
 rcases takeS_cases s with ⟨hz, e⟩ | ⟨hz, E, ht, hE, e⟩ | ⟨hz, m, q, ht, hq, hm, hw, hb⟩
 ·rw [e]
  have hL : lenS s = (0, 7) := by unfold lenS; rw [if_pos hz]
  have HL := Lib.hid (fun W => RLength_is s 0 7 W hl8 hL)
  clear hz e hL
  go_enter Tryz.func47, Tryz.ntmps47
  go_upto_region 1 with fail
  rw [HW.out, HKK.out]
  have hk5 := HKK5.out
  go_upto_region 2 with (first | (refine wpList_build_none rfl rfl ?_) | (rw [HW2.out]; refine wpList_store_whole rfl 30 (.tmp 5) (.tmp 13) rfl k5 (pkArr (zp 0) za) rfl rfl (pkArr (zp 0) za) HB5.out info_pk rfl (one_pk _ _) ?_; simp only [Act.put]))
  rw [HW3.out]
  clear hk5 HW HW2 HW3 HB5 HKK5
  go_wp2_with (first | (refine wpList_load_any (by rfl) 30 (.tmp 5) rfl k5 0 rfl _ hld5 ?_) | (refine wpList_store_whole rfl 30 (.tmp 2) (.tmp 21) rfl k0 (pkArr (zp 0) za) rfl rfl (pkArr (zp 0) za) HX0.out info_pk rfl (one_pk _ _) ?_; simp only [Act.put]) | (go_at_call 49; refine (HL.out _).mono ?_; rintro r wt ⟨rfl, rfl⟩))
  refine bodyPost_ret (results_pk3 Tryz.results47 rfl (HX0.out.row (pkArr (zp 0) za)) rfl rfl) rfl ⟨za, rfl, PkAt.zero _ _ 0, PkCap.zero' _ ⟨rfl, rfl, rfl, rfl⟩, .zero _, HBR.out⟩
 ·rw [e]
  have hL : lenS s = (0, E) := by unfold lenS; rw [if_neg hz, ht, if_pos hE]
  have HL := Lib.hid (fun W => RLength_is s 0 E W hl8 hL)
  have hEb := ne_true hE
  clear hz e hL ht
  go_enter Tryz.func47, Tryz.ntmps47
  go_upto_region 1 with fail
  rw [HW.out, HKK.out]
  have hk5 := HKK5.out
  go_upto_region 2 with (first | (refine wpList_build_none rfl rfl ?_) | (rw [HW2.out]; refine wpList_store_whole rfl 30 (.tmp 5) (.tmp 13) rfl k5 (pkArr (zp 0) za) rfl rfl (pkArr (zp 0) za) HB5.out info_pk rfl (one_pk _ _) ?_; simp only [Act.put]))
  rw [HW3.out]
  clear hk5 HW HW2 HW3 HB5 HKK5
  go_wp2_with (first | (refine wpList_load_any (by rfl) 30 (.tmp 5) rfl k5 0 rfl _ hld5 ?_) | (refine wpList_store_whole rfl 30 (.tmp 2) (.tmp 21) rfl k0 (pkArr (zp 0) za) rfl rfl (pkArr (zp 0) za) HX0.out info_pk rfl (one_pk _ _) ?_; simp only [Act.put]) | (go_at_call 49; refine (HL.out _).mono ?_; rintro r wt ⟨rfl, rfl⟩))
  refine bodyPost_ret (results_pk3 Tryz.results47 rfl (HX0.out.row (pkArr (zp 0) za)) rfl rfl) rfl ⟨za, rfl, PkAt.zero _ _ 0, PkCap.zero' _ ⟨rfl, rfl, rfl, rfl⟩, .zero _, HBR.out⟩
 ·have hL : lenS s = (1 + (q : Int) + (m : Int), 0) := by unfold lenS; rw [if_neg hz, ht]; exact if_neg (fun hh => hh rfl)
  have HL := Lib.hid (fun W => RLength_is s _ 0 W hl8 hL)
  have HT := Lib.hid (fun W => RTakeNum_z (s.extract 1 s.size) (m : Int) (q : Int) 0 W (by rw [ByteArray.size_extract]; omega) ht)
  obtain ⟨hne, hne2⟩ := size_facts hz
  have hl1 : (1 : Int) ≤ (s.size : Int) := by omega
  clear hL
  rcases hb with ⟨h8, e⟩ | ⟨h8, hl, e⟩ | ⟨h8, hl, p, st, hbd, e⟩
  ·rw [e]
   have h8I : (8192 : Int) < 1 + (q : Int) + (m : Int) := by omega
   clear e ht hw h8
   go_enter Tryz.func47, Tryz.ntmps47
   go_upto_region 1 with fail
   rw [HW.out, HKK.out]
   have hk5 := HKK5.out
   go_upto_region 2 with (first | (refine wpList_build_none rfl rfl ?_) | (rw [HW2.out]; refine wpList_store_whole rfl 30 (.tmp 5) (.tmp 13) rfl k5 (pkArr (zp 0) za) rfl rfl (pkArr (zp 0) za) HB5.out info_pk rfl (one_pk _ _) ?_; simp only [Act.put]))
   rw [HW3.out]
   clear hk5 HW HW2 HW3 HB5 HKK5
   go_wp2_with (first | (refine wpList_load_any (by rfl) 30 (.tmp 5) rfl k5 0 rfl _ hld5 ?_) | (refine wpList_store_whole rfl 30 (.tmp 2) (.tmp 25) rfl k0 (pkArr (zp 0) za) rfl rfl (pkArr (zp 0) za) HX0.out info_pk rfl (one_pk _ _) ?_; simp only [Act.put]) | (go_at_call 49; refine (HL.out _).mono ?_; rintro r wt ⟨rfl, rfl⟩))
   refine bodyPost_ret (results_pk3 Tryz.results47 rfl (HX0.out.row (pkArr (zp 0) za)) rfl rfl) rfl ⟨za, rfl, PkAt.zero _ _ 0, PkCap.zero' _ ⟨rfl, rfl, rfl, rfl⟩, .zero _, HBR.out⟩
  ·rw [e]
   have h8I : ¬ (8192 : Int) < 1 + (q : Int) + (m : Int) := by omega
   have hlI : (s.size : Int) < 1 + (q : Int) + (m : Int) := by omega
   clear e ht hw h8 hl
   go_enter Tryz.func47, Tryz.ntmps47
   go_upto_region 1 with fail
   rw [HW.out, HKK.out]
   have hk5 := HKK5.out
   go_upto_region 2 with (first | (refine wpList_build_none rfl rfl ?_) | (rw [HW2.out]; refine wpList_store_whole rfl 30 (.tmp 5) (.tmp 13) rfl k5 (pkArr (zp 0) za) rfl rfl (pkArr (zp 0) za) HB5.out info_pk rfl (one_pk _ _) ?_; simp only [Act.put]))
   rw [HW3.out]
   clear hk5 HW HW2 HW3 HB5 HKK5
   go_wp2_with (first | (refine wpList_load_any (by rfl) 30 (.tmp 5) rfl k5 0 rfl _ hld5 ?_) | (refine wpList_store_whole rfl 30 (.tmp 2) (.tmp 30) rfl k0 (pkArr (zp 0) za) rfl rfl (pkArr (zp 0) za) HX0.out info_pk rfl (one_pk _ _) ?_; simp only [Act.put]) | (go_at_call 49; refine (HL.out _).mono ?_; rintro r wt ⟨rfl, rfl⟩))
   refine bodyPost_ret (results_pk3 Tryz.results47 rfl (HX0.out.row (pkArr (zp 0) za)) rfl rfl) rfl ⟨za, rfl, PkAt.zero _ _ 0, PkCap.zero' _ ⟨rfl, rfl, rfl, rfl⟩, .zero _, HBR.out⟩
  ·rw [e]
   have hid := id_at (s := s) (by omega)
   have hb0 := s[0].toNat_lt
   have HT2 := Lib.hid (fun W => HNB.out (s.extract (1 + q) (1 + q + m)) W (by rw [ByteArray.size_extract]; omega) (by rw [hid]; omega) (by rw [hid]; omega))
   rw [hid, ← hid, hbd] at HT2
   rw [hid] at HT2
   have hsl : 0 < s.size := by omega
   have h8I : ¬ (8192 : Int) < 1 + (q : Int) + (m : Int) := by omega
   have hlI : ¬ (s.size : Int) < 1 + (q : Int) + (m : Int) := by omega
   have hp1 : 0 ≤ 1 + (q : Int) := by omega
   have hp2 : 1 + (q : Int) ≤ 1 + (q : Int) + (m : Int) := by omega
   have hp3 : 1 + (q : Int) + (m : Int) ≤ (s.size : Int) := by omega
   have ht1 : (1 + (q : Int)).toNat = 1 + q := by omega
   have ht2 : (1 + (q : Int) + (m : Int)).toNat = 1 + q + m := by omega
   have hq0 : 0 ≤ (q : Int) := by omega
   have hm0 : 0 ≤ (m : Int) := by omega
   obtain ⟨b, hbb⟩ : ∃ b, s[0] = b := ⟨_, rfl⟩
   rw [hbb] at HT2 hb0
   have hwb : IntKind.i64.wrap (b.toNat : Int) = (b.toNat : Int) := IntWalk.i64_in _ (by omega)
   have hnb : (0 : Int) ≤ (b.toNat : Int) := by omega
   obtain ⟨E, hEE⟩ : ∃ E, st.err = E := ⟨_, rfl⟩
   have hnn : ((1 + q + m : Nat) : Int) = 1 + (q : Int) + (m : Int) := by omega
   rw [endS_eq, hEE, hnn]
   obtain ⟨R, hR⟩ : ∃ R, (if st.isBad = false then (p, 1 + (q : Int) + (m : Int), (0 : Int)) else (zp 0, 0, E)) = R := ⟨_, rfl⟩
   rw [hR]
   have HRR := Lib.hid hR
   have HE := Lib.hid hEE
   clear e ht hw h8 hl hid hR hEE hbd hnn HNB
   go_enter Tryz.func47, Tryz.ntmps47
   go_upto_region 1 with fail
   rw [HW.out, HKK.out]
   have hk5 := HKK5.out
   go_upto_region 2 with (first | (refine wpList_build_none rfl rfl ?_) | (rw [HW2.out]; refine wpList_store_whole rfl 30 (.tmp 5) (.tmp 13) rfl k5 (pkArr (zp 0) za) rfl rfl (pkArr (zp 0) za) HB5.out info_pk rfl (one_pk _ _) ?_; simp only [Act.put]))
   rw [HW3.out]
   clear hk5 HW HW2 HW3 HB5 HKK5
   go_wp2_with (first | (go_at_call 49; refine (HL.out _).mono ?_; rintro r wt ⟨rfl, rfl⟩) | (go_at_call 83; refine (HT.out _).mono ?_; rintro r wt ⟨rfl, rfl⟩))
   refine (HT2.out _).mono ?_
   rintro r w4 ⟨p', a', rfl, q1, q2, qn, q3, q4, q5⟩
   have q5' : st.isBad = false → p' = p := q5
   have hE3 : st.err = E := HE.out
   rw [show (p, st).2.err = E from hE3]
   have hb12 := Box.new w4 30 (pkArr (zp 0) za)
   have ha12 := (Below.refl w4.heap.size w4).alloc (Nat.le_refl _) (.cells (pkArr (zp 0) za) 30)
   obtain ⟨W5, hW5⟩ : ∃ W5, w4.alloc (.cells (pkArr (zp 0) za) 30) = W5 := ⟨_, rfl⟩
   rw [hW5] at hb12 ha12
   simp only [pkArr, zp, za, zw, List.length_nil] at hW5
   have HW5 := Lib.hid hW5
   obtain ⟨k12, hk12⟩ : ∃ k, w4.heap.size = k := ⟨_, rfl⟩
   rw [hk12] at hb12
   have HB12 := Lib.hid hb12
   have x0 := HX0.out.lt
   have x5 := HX5.out.lt
   have hb46 := (Bar.row k12 W5 (pkArr p' a')).below ha12 (by omega) ha12.size
   have hbx12 := hb12.row (pkArr p' a')
   obtain ⟨W6, hW6⟩ : ∃ W6, W5.setRow k12 (pkArr p' a') = W6 := ⟨_, rfl⟩
   rw [hW6] at hb46 hbx12
   have HW6 := Lib.hid hW6
   have hbx0 := (HX0.out.below q3).below hb46
   have hpk := (q1.below hb46).mono hb46.size
   have hbw := (HBW.out.trans (q3.mono HBW.out.size)).trans (hb46.mono (Nat.le_trans HBW.out.size q3.size))
   have hld12 := load_bx hbx12
   have hld5 := load_bx ((HX5.out.below q3).below hb46)
   have HOFF := Lib.hid (qn.off x0)
   have HX0b := Lib.hid hbx0
   have HPK := Lib.hid hpk
   have HBWb := Lib.hid hbw
   have Q2 := Lib.hid q2
   have QN := Lib.hid (qn.mono (B' := w.heap.size) (by have := HKK.out; omega))
   have Q4 := Lib.hid q4
   have Q5 := Lib.hid q5'
   clear hb12 ha12 hW5 hb46 hbx12 hW6 hbx0 hpk hbw x0 x5 q1 q2 qn q3 q4 q5 q5' hE3 HX0 HX5 HBW HBR HT HT2 HL
   go_upto_region 12 with (rw [HW5.out]; refine wpList_store_whole rfl 30 (.tmp 12) (.tmp 52) rfl k12 (pkArr p' a') rfl rfl (pkArr (zp 0) za) HB12.out info_pk rfl (one_pk _ _) ?_; simp only [Act.put])
   rw [HW6.out]
   clear hk12 HW5 HW6 HB12
   by_cases hbad : st.isBad = false
   ·have hE0 : E = 0 := by rw [← HE.out]; exact err_ok hbad
    subst hE0
    have HRE : Hid (R = (p, 1 + (q : Int) + (m : Int), 0)) := by show _ = _; rw [← HRR.out, if_pos hbad]
    obtain rfl := Q5.out hbad
    clear hbad HE HRR Q5 Q4
    go_wp2_with (first | (refine wpList_load_any (by rfl) 30 (.tmp 12) rfl k12 0 rfl _ hld12 ?_) | (refine wpList_store_whole rfl 30 (.tmp 2) (.tmp 58) rfl k0 (pkArr p' a') rfl rfl (pkArr (zp 0) za) HX0b.out info_pk rfl (one_pk _ _) ?_; simp only [Act.put]))
    have hrow := Bar.row k0 W6 (pkArr p' a')
    refine bodyPost_ret (results_pk3 Tryz.results47 rfl (HX0b.out.row (pkArr p' a')) rfl rfl) rfl ⟨a', by rw [HRE.out]; rfl, by rw [HRE.out]; exact pk_bar HPK.out HOFF.out hrow, by rw [HRE.out]; exact Q2.out, QN.out, hrow.below HBWb.out (by have := HKK.out; omega) HBWb.out.size⟩
   ·have hbt : st.isBad = true := by cases h : st.isBad with
     | true => rfl
     | false => exact absurd h hbad
    have hE0 : E ≠ 0 := by rw [← HE.out]; exact err_bad Q4.out hbt
    have hEb := ne_true hE0
    have HRE : Hid (R = (zp 0, 0, E)) := by show _ = _; rw [← HRR.out, if_neg hbad]
    clear hbad hbt HE HRR Q5 Q4
    go_wp2_with (first | (refine wpList_load_any (by rfl) 30 (.tmp 5) rfl k5 0 rfl _ hld5 ?_) | (refine wpList_store_whole rfl 30 (.tmp 2) (.tmp 56) rfl k0 (pkArr (zp 0) za) rfl rfl (pkArr (zp 0) za) HX0b.out info_pk rfl (one_pk _ _) ?_; simp only [Act.put]))
    have hrow := Bar.row k0 W6 (pkArr (zp 0) za)
    refine bodyPost_ret (results_pk3 Tryz.results47 rfl (HX0b.out.row (pkArr (zp 0) za)) rfl rfl) rfl ⟨za, by rw [HRE.out]; rfl, by rw [HRE.out]; exact PkAt.zero _ _ 0, by rw [HRE.out]; exact PkCap.zero' _ ⟨rfl, rfl, rfl, rfl⟩, .zero _, hrow.below HBWb.out (by have := HKK.out; omega) HBWb.out.size⟩
end Go.Proofs.YtdbbcfohjkgdcaaGreat
