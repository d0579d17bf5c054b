/- The document's own: all behind a packet's length: a Publish. -/
import Derived.Test.YtdbbcfohjkgdcaaGreatL00
import Derived.Test.YtdbbcfohjkgdcaaGreatL23
set_option maxRecDepth 100000
set_option maxHeartbeats 64000000
namespace Go.Proofs.YtdbbcfohjkgdcaaGreat
open Go.RowKit Go.Lib Prp Pkt Vbi
theorem rbody_3 (z : Int) (s : ByteArray) (w : World) (hz0 : 0 ≤ z) (hz1 : z ≤ 15) (hs : s.size ≤ 268435456) :
  Calls Tryz.prog 84 #[.int .i64 3, .int .i64 z, .string s] w (GivesBody (bodyS (16 * 3 + z) s) w) := by
 have HF0 := hz0
 obtain ⟨cc, hcc⟩ : ∃ c, 16 * 3 + z = c := ⟨_, rfl⟩
 have HCC := Lib.hid hcc
 rw [hcc]
 clear hcc
 have HFB := Lib.hid HF0
 have HZ := Lib.hid hs
 have hb0 := Box.new w 30 (pkArr (zp 0) za)
 have ha := (Below.refl w.heap.size w).alloc (Nat.le_refl _) (.cells (pkArr (zp 0) za) 30)
 obtain ⟨W1, hW⟩ : ∃ W1, w.alloc (.cells (pkArr (zp 0) za) 30) = W1 := ⟨_, rfl⟩
 rw [hW] at hb0 ha
 simp only [pkArr, zp, za, zw, List.length_nil] at hW
 have HW := Lib.hid hW
 have HK0 := Lib.hid hb0
 have HA := Lib.hid ha
 clear hW hb0 ha HF0
 go_enter Tryz.func84, Tryz.ntmps84
 go_upto_region 1 with fail
 rw [HW.out]
 clear HW
 obtain ⟨k0, hk0⟩ : ∃ k, w.heap.size = k := ⟨_, rfl⟩
 have HKK := Lib.hid hk0
 rw [hk0] at HK0 ⊢
 clear hk0
 have hkl := HK0.out.lt
 have hb0 := Box.new W1 30 (pkArr (zp 0) za)
 have ha := (Below.refl W1.heap.size W1).alloc (Nat.le_refl _) (.cells (pkArr (zp 0) za) 30)
 obtain ⟨W2, hW⟩ : ∃ W2, W1.alloc (.cells (pkArr (zp 0) za) 30) = W2 := ⟨_, rfl⟩
 rw [hW] at hb0 ha
 simp only [pkArr, zp, za, zw, List.length_nil] at hW
 have HW := Lib.hid hW
 obtain ⟨h, hh⟩ : ∃ h, W1.heap.size = h := ⟨_, rfl⟩
 rw [hh] at hb0 ha hkl
 have HB2 := Lib.hid hb0
 have HA2 := Lib.hid ha
 have HH := Lib.hid hh
 clear hW hb0 ha
 go_upto_region 2 with (first | (refine wpList_build_kind rfl (.tmp 14) rfl 3 rfl ?_) | (rw [HW.out]; refine wpList_store_whole rfl 30 (.tmp 8) (.tmp 15) rfl h (pkArr (zp 3) za) rfl rfl (pkArr (zp 0) za) HB2.out info_pk rfl (one_pk _ _) ?_; simp only [Act.put]))
 have HB3 := Lib.hid (HB2.out.row (pkArr (zp 3) za))
 have HA3 := Lib.hid ((Bar.row h W2 (pkArr (zp 3) za)).below HA2.out (Nat.le_refl _) (by have := HA2.out.size; omega))
 clear HW HB2 HA2 hh
 generalize World.setRow _ _ _ = W3 at HB3 HA3 ⊢
 have hhl := HB3.out.lt
 go_upto_region 3 with fail
 have hr4 : RdOf false (W3.alloc (.cells #[.string s, .int .i64 0] 154)) W3.heap.size (.ok s) := ⟨Box.new W3 154 #[.string s, .int .i64 0], HZ.out⟩
 have ha4 := (Below.refl W3.heap.size W3).alloc (Nat.le_refl _) (.cells #[.string s, .int .i64 0] 154)
 obtain ⟨g, hg⟩ : ∃ g, W3.heap.size = g := ⟨_, rfl⟩
 rw [hg] at hr4 hhl ⊢
 have HL4 := Lib.hid (Live.mk (x := false) (B := h) (w0 := W1) (g := g) (h := h) (st := .ok s) (p := zp 3) (a := za) ⟨HA3.out.alloc (by omega) _, by omega, Nat.le_refl _, by omega, hr4, HB3.out.below (ha4.mono (by omega)), PkAt.zero' _ _ _ ⟨rfl, rfl, rfl, rfl⟩, .zero g, .zero h, PkCap.zero' _ ⟨rfl, rfl, rfl, rfl⟩, .zero h⟩)
 clear hr4 ha4 HA3 HB3 hg HZ
 generalize W3.alloc _ = W4 at HL4 ⊢
 obtain ⟨bd, hbd⟩ : ∃ b, decide (8 ≤ z) = b := ⟨_, rfl⟩
 obtain ⟨br, hbr⟩ : ∃ b, decide (z % 2 = 1) = b := ⟨_, rfl⟩
 have hbr2 : (z % 2 == 1) = br := by rw [beq_int, hbr]
 obtain ⟨q, hq⟩ : ∃ q, z / 2 % 4 = q := ⟨_, rfl⟩
 have hq0 : 0 ≤ q := by omega
 have hq3 : q ≤ 3 := by omega
 have HRG := fun (hb : sendB (decide (8 ≤ z)) (z / 2 % 4) = true) => body_3 s hz0 hz1 hb
 have HRB0 := fun (hb : sendB (decide (8 ≤ z)) (z / 2 % 4) = false) => body_3bad s hz0 hz1 hb
 have hpp : pub3 z = { zp 3 with dup := bd, q := q, ret := br } := by unfold pub3; rw [hbd, hq, hbr]
 rw [hbd, hq, hpp] at HRG
 rw [hbd, hq] at HRB0
 rw [HCC.out] at HRG HRB0
 have HRG := Lib.hid HRG
 have HRB0 := Lib.hid HRB0
 clear hbr hpp
 have d1 := HL4.out.f1
 have d2 := HL4.out.f2
 have d3 := HL4.out.f3
 have f1 := HL4.out.frozen 1
 have f2 := HL4.out.frozen 2
 have f3 := HL4.out.frozen 3
 have HL5 := Lib.hid (((HL4.out.put1 1 (.bool bd) { zp 3 with dup := bd } rfl rfl rfl rfl rfl).put1 2 (.int .i64 q) { zp 3 with dup := bd, q := q } rfl rfl rfl rfl rfl).put1 3 (.bool br) { zp 3 with dup := bd, q := q, ret := br } rfl rfl rfl rfl rfl)
 go_upto_region 7 with fail
 clear HL4 d1 d2 d3 f1 f2 f3 hq hbd hbr2
 generalize World.setCell _ _ _ = W5 at HL5 ⊢
 have HK5 : Hid (Box W5 k0 (pkArr (zp 0) za)) := Lib.hid (HK0.out.below (HL5.out.b.mono (by have := HH.out; omega)))
 have HB5 := Lib.hid (HA.out.trans (HL5.out.b.mono (by have := HKK.out; omega)))
 by_cases c3 : q = 3
 ·subst c3
  clear hq0 hq3
  have HRB := Lib.hid (HRB0.out (by cases bd <;> rfl))
  have hld := load_bx HL5.out.bx
  have d1 := HL5.out.f1
  have d2 := HL5.out.f2
  clear HRG HRB0 HFB
  go_wp2_with (first | (refine wpList_load_any (by rfl) 30 (.tmp 8) rfl h 0 rfl _ hld ?_) | (refine wpList_store_whole rfl 30 (.tmp 6) (.tmp 47) rfl k0 (pkArr { zp 3 with dup := bd, q := 3, ret := br } za) rfl rfl (pkArr (zp 0) za) HK5.out info_pk rfl (one_pk _ _) ?_; simp only [Act.put]))
  refine bodyPost_ret (results_pk2 Tryz.results84 rfl (HK5.out.row (pkArr { zp 3 with dup := bd, q := 3, ret := br } za)) rfl) rfl ⟨{ zp 3 with dup := bd, q := 3, ret := br }, za, by rw [HRB.out]; rfl, PkAt.zero' _ _ _ ⟨rfl, rfl, rfl, rfl⟩, PkCap.zero' _ ⟨rfl, rfl, rfl, rfl⟩, .zero _, (Bar.row k0 W5 _).below HB5.out (by have := HKK.out; omega) HB5.out.size, by rw [HRB.out]; exact (by decide : (8 : Int) ≠ 0), fun hb => by rw [HRB.out] at hb; cases hb⟩
 ·have n3 : (q == 3) = false := ne_false c3
  by_cases c0 : q = 0
  ·subst c0
   clear hq0 hq3 c3 n3
   cases bd with
   | true =>
    have HRB := Lib.hid (HRB0.out (by rfl))
    have hld := load_bx HL5.out.bx
    have d1 := HL5.out.f1
    have d2 := HL5.out.f2
    clear HRG HRB0 HFB
    go_wp2_with (first | (refine wpList_load_any (by rfl) 30 (.tmp 8) rfl h 0 rfl _ hld ?_) | (refine wpList_store_whole rfl 30 (.tmp 6) (.tmp 47) rfl k0 (pkArr { zp 3 with dup := true, q := 0, ret := br } za) rfl rfl (pkArr (zp 0) za) HK5.out info_pk rfl (one_pk _ _) ?_; simp only [Act.put]))
    refine bodyPost_ret (results_pk2 Tryz.results84 rfl (HK5.out.row (pkArr { zp 3 with dup := true, q := 0, ret := br } za)) rfl) rfl ⟨{ zp 3 with dup := true, q := 0, ret := br }, za, by rw [HRB.out]; rfl, PkAt.zero' _ _ _ ⟨rfl, rfl, rfl, rfl⟩, PkCap.zero' _ ⟨rfl, rfl, rfl, rfl⟩, .zero _, (Bar.row k0 W5 _).below HB5.out (by have := HKK.out; omega) HB5.out.size, by rw [HRB.out]; exact (by decide : (8 : Int) ≠ 0), fun hb => by rw [HRB.out] at hb; cases hb⟩
   | false =>
    have HRB := Lib.hid (HRG.out (by rfl))
    have d1 := HL5.out.f1
    have d2 := HL5.out.f2
    clear HRG HRB0 HK5 HB5 HFB
    obtain ⟨R, hR⟩ : ∃ R, publishS { zp 3 with dup := false, q := 0, ret := br } (.ok s) = R := ⟨_, rfl⟩
    rw [hR] at HRB
    go_upto_region 11 with fail
    clear d1 d2
    obtain ⟨T, hT⟩ : ∃ T, ((St.ok s).run (longR true)).val ⟨#[]⟩ = T := ⟨_, rfl⟩
    obtain ⟨s1, hs1⟩ : ∃ x, ((St.ok s).run (longR true)).st = x := ⟨_, rfl⟩
    have HO1 := long_st g true (.ok s) _ HL5.out.rd
    rw [hT, hs1] at HO1
    obtain ⟨s3, hs3⟩ : ∃ x, s1 = x := ⟨_, rfl⟩
    obtain ⟨L, hL⟩ : ∃ x, (s3.run (propsR 3)).val [] = x := ⟨_, rfl⟩
    obtain ⟨s4, hs4⟩ : ∃ x, (s3.run (propsR 3)).st = x := ⟨_, rfl⟩
    have HO4 := fun (W : World) (hr : RdOf false W g s3) => props_st g 3 s3 W (by decide) hr
    rw [hL, hs4] at HO4
    have HRR : Hid (R = ({ { zp 3 with dup := false, q := 0, ret := br } with t := T, ps := L, b := (bodyR s4).1 }, (bodyR s4).2)) := by
     show _ = _
     rw [← hR]
     have e := publish_0 (p := { zp 3 with dup := false, q := 0, ret := br }) (st := .ok s) (by show ¬ (0 : Int) < 0; decide)
     rw [hT, hs1, hs3] at e
     rw [← hs4, ← hL]
     exact e
    have H1 := Lib.hid HO1
    have H4 := Lib.hid HO4
    subst hs3
    clear HO1 HO4 hR hT hs1 hL hs4
    go_wp2_with fail
    refine H1.out.mono ?_
    rintro r w6 ⟨rfl, k1, k2⟩
    have HL6 := Lib.hid (HL5.out.bar k2 k1)
    clear k1 k2 HL5 H1
    have d2 : w6.cell? ⟨h, 2, none⟩ = some (.int .i64 0) := HL6.out.f2
    have d5 := HL6.out.f5
    have f5 := HL6.out.frozen 5
    have HL7 := Lib.hid (HL6.out.put1 5 (.string T) { { zp 3 with dup := false, q := 0, ret := br } with t := T } rfl rfl rfl rfl rfl)
    go_wp2_with fail
    refine (H4.out _ HL7.out.rd).mono ?_
    rintro r w9 ⟨A, c, rfl, k1, k2, k3, k4, k5⟩
    have HL11 := Lib.hid (HL7.out.bar k5 k4)
    have HN := Lib.hid (HL7.out.off k2)
    have HAA := Lib.hid k3
    have HC := Lib.hid k1
    clear k1 k2 k3 k4 k5 HL6 HL7 H4 d2 d5 f5
    have d24 := HL11.out.f24
    have f24 := HL11.out.frozen 24
    have HL12 := Lib.hid (HL11.out.props HAA.out HN.out HC.out)
    go_upto_region 26 with fail
    clear HL11 d24 f24 HN HAA HC
    generalize World.setCell _ _ _ = Wc at HL12 ⊢
    obtain ⟨sx, hx1, _, hx3, hx4, _⟩ := HL12.out.rd.rd
    have e0 := hx1.cell 0
    have e0f : Wc.frozen? ⟨g, 0, none⟩ = false := hx1.frozen 0
    have d6 := HL12.out.f6
    have f6 := HL12.out.frozen 6
    have hgh : ¬ g = h := HL12.out.out.2.2.2.1
    obtain ⟨bb, hbb⟩ : ∃ b, decide ((sx.size : Int) ≤ 1024) = b := ⟨_, rfl⟩
    have hbn : decide (sx.size ≤ 1024) = bb := by rw [← hbb]; exact decide_eq_decide.2 (by omega)
    have HBE := Lib.hid (pub_end hx3 hbn)
    have HL13 := Lib.hid (HL12.out.put1 6 (.string sx) { { zp 3 with dup := false, q := 0, ret := br } with t := T, b := sx, ps := L } rfl rfl rfl rfl rfl)
    clear hx1 hx3 hx4 hbn
    go_wp2_with fail
    refine (want_st g s4 bb 2 _ (by decide) HL13.out.rd).mono ?_
    rintro r wd ⟨rfl, k1, k2⟩
    have HL14 := Lib.hid (HL13.out.bar k2 k1)
    clear k1 k2 HL12 HL13 d6 f6 e0 e0f hbb
    obtain ⟨sy, hy1, _, _, _, _⟩ := HL14.out.rd.rd
    have e0 := hy1.cell 0
    have e0f : wd.frozen? ⟨g, 0, none⟩ = false := hy1.frozen 0
    have HL15 := Lib.hid (HL14.out.bar (Bar.set g wd 0 (.string ⟨#[]⟩)) (emptied_rd HL14.out.rd))
    clear hy1
    go_upto_region 62 with fail
    have HPQ : Hid (∃ pf af, Live false h W1 g h R.2 pf af (wd.setCell ⟨g, 0, none⟩ (.string ⟨#[]⟩)) ∧ (R.2.isBad = false → pf = R.1)) := ⟨_, _, by rw [HRR.out]; show Live _ _ _ _ _ (bodyR s4).2 _ _ _; rw [HBE.out.1]; exact HL15.out, fun hb => by
     rw [HRR.out] at hb ⊢
     have e := HBE.out.2 hb
     rw [e]⟩
    clear HL14 HL15 HRR HBE e0 e0f hgh
    generalize World.setCell _ _ _ = Wg at HPQ ⊢
    obtain ⟨pf, af, hl, hp⟩ := HPQ.out
    have HLX := Lib.hid hl
    have HPQ := Lib.hid hp
    clear hl hp
    obtain ⟨sx, hx1, _, hx3, hx4, _⟩ := HLX.out.rd.rd
    have e0 := hx1.cell 0
    obtain ⟨bz, hbz⟩ : ∃ b, decide (sx.size = 0) = b := ⟨_, rfl⟩
    have hzz : ((sx.size : Int) == 0) = bz := by rw [← hbz]; exact beq_nat sx.size
    have HQ : Hid ((bodyS cc s).2 = R.2.want bz 8) := by
     show _ = _
     rw [HRB.out]
     show R.2.want (decide (R.2.rest.size = 0)) 8 = _
     cases hbd : R.2.isBad with
     | false => have := hx3 hbd; rw [this]; show (St.ok sx).want (decide (sx.size = 0)) 8 = _; rw [hbz]
     | true => rw [(hx4 hbd).2]; rfl
    clear hx1 hx3 hx4 hbz
    go_wp2_with fail
    refine (want_st g R.2 bz 8 _ (by decide) HLX.out.rd).mono ?_
    rintro r w7 ⟨rfl, q1, q2⟩
    have HL8 := Lib.hid (HLX.out.bar q2 q1)
    have HK8 : Hid (Box w7 k0 (pkArr (zp 0) za)) := Lib.hid (HK0.out.below (HL8.out.b.mono (by have := HH.out; omega)))
    clear q1 q2 HLX e0 hzz
    go_upto_region 63 with fail
    obtain ⟨ste, hste⟩ : ∃ x, R.2.want bz 8 = x := ⟨_, rfl⟩
    rw [hste] at HL8 HQ
    have HCAP := Lib.hid HL8.out.cap
    have HNEW := Lib.hid (HL8.out.new.mono (B' := w.heap.size) (by have := HKK.out; omega))
    have HWF : Hid ((bodyS cc s).2.Wf) := by show St.Wf _; rw [HQ.out]; exact HL8.out.wf
    have HRES : Hid (Ending.returned (.tuple #[.agg (pkArr pf af), .int .i64 ste.err]) = .returned (.tuple #[.agg (pkArr pf af), .int .i64 (bodyS cc s).2.err])) := by show _ = _; rw [HQ.out]
    have HPF : Hid ((bodyS cc s).2.isBad = false → pf = (bodyS cc s).1) := fun hb => by
     rw [HQ.out, ← hste] at hb
     rw [HRB.out]
     exact HPQ.out (not_bad hb)
    have HEN := Lib.hid (EndAt.mk (w := w) (k0 := k0) (g := g) (h := h) (st := ste) (p := pf) (a := af) (cs := pkArr (zp 0) za) ⟨HL8.out.rd, HL8.out.bx, HL8.out.at, HK8.out, rfl, (HA.out.trans (HL8.out.b.mono (by have := HKK.out; omega))), by have := HKK.out; omega, by omega, by omega, HL8.out.new.off hkl⟩)
    clear HL8 HK8 hste
    refine wp_region_held_drew (S := fun W => ∃ cs, EndAt false w k0 g h ste pf af cs W) (by kernel_rfl) ⟨_, HEN.out.drew⟩ (fun hHeld => ?_)
    generalize World.drew _ = Wd at hHeld ⊢
    refine take_load 0 273 30 (.tmp 8) h 0 (.agg (pkArr pf af)) rfl rfl (by kernel_rfl) (fun _ _ _ h => h) (by rfl) hHeld rfl rfl (fun w' hS' => load_bx hS'.choose_spec.out.2.1) ?_
    simp only [Act.put, List.setIfInBounds_toArray, List.set_cons_zero, List.set_cons_succ]
    refine take_op 1 274 ?v1a rfl rfl (by kernel_rfl) (fun _ _ _ h => h) (by rfl) hHeld (fun w' hS' => ?hv1a) ?hh1a
    case hv1a => (go_simp; try with_reducible rfl)
    simp only [Act.put, List.setIfInBounds_toArray, List.set_cons_zero, List.set_cons_succ]
    refine take_op 2 275 ?v2a rfl rfl (by kernel_rfl) (fun _ _ _ h => h) (by rfl) hHeld (fun w' hS' => ?hv2a) ?hh2a
    case hv2a => (go_simp; try with_reducible rfl)
    simp only [Act.put, List.setIfInBounds_toArray, List.set_cons_zero, List.set_cons_succ]
    refine take_op 3 276 ?v3a rfl rfl (by kernel_rfl) (fun _ _ _ h => h) (by rfl) hHeld (fun w' hS' => ?hv3a) ?hh3a
    case hv3a => (go_simp; try with_reducible rfl)
    simp only [Act.put, List.setIfInBounds_toArray, List.set_cons_zero, List.set_cons_succ]
    refine take_op 4 277 ?v4a rfl rfl (by kernel_rfl) (fun _ _ _ h => h) (by rfl) hHeld (fun w' hS' => ?hv4a) ?hh4a
    case hv4a => (have k := hS'.choose_spec.err; go_simp; try with_reducible rfl)
    simp only [Act.put, List.setIfInBounds_toArray, List.set_cons_zero, List.set_cons_succ]
    obtain ⟨cs, hcs⟩ := hHeld
    obtain ⟨T, hT⟩ := hcs.out.2.2.2.1
    refine only_op 5 rfl (by kernel_rfl) (by rfl) (wp_store_row 30 (.tmp 6) (.tmp 273) rfl k0 (pkArr pf af) rfl rfl T cs hT info_pk hcs.out.2.2.2.2.1 (one_pk _ _) ⟨⟨_, hcs.row⟩, ?_⟩)
    simp only [Act.put]
    have hHeld2 := hcs.row
    refine take_op 6 7 ?v6a rfl rfl (by kernel_rfl) (fun _ _ _ h => h) (by rfl) ⟨_, hHeld2⟩ (fun w' hS' => ?hv6a) ?hh6a
    case hv6a => (go_simp; try with_reducible rfl)
    simp only [Act.put, List.setIfInBounds_toArray]
    refine wpAnyH_done (by kernel_rfl) ?_ _
    have HF := Lib.hid hHeld2
    clear hcs hT hHeld2
    go_wp2_with fail
    refine bodyPost_ret (results_pk2 Tryz.results84 rfl HF.out.out.2.2.2.1 rfl) rfl ⟨pf, af, HRES.out, HF.out.out.2.2.1, HCAP.out, HNEW.out, HF.out.out.2.2.2.2.2.1, HWF.out, HPF.out⟩
  ·have n0 : (q == 0) = false := ne_false c0
   have hqp : 0 < q := by omega
   have hsend : ∀ b, sendB b q = true := fun b => by unfold sendB qosB; rw [decide_eq_true hqp, decide_eq_true (by omega)]; rfl
   have HSD := Lib.hid hsend
   clear c3 c0 hq0 hq3 hsend
   cases bd with
   | true =>
    have HRB := Lib.hid (HRG.out (by exact HSD.out _))
    have d1 := HL5.out.f1
    have d2 := HL5.out.f2
    clear HRG HRB0 HK5 HB5 HFB
    obtain ⟨R, hR⟩ : ∃ R, publishS { zp 3 with dup := true, q := q, ret := br } (.ok s) = R := ⟨_, rfl⟩
    rw [hR] at HRB
    go_upto_region 11 with fail
    clear d1 d2
    obtain ⟨T, hT⟩ : ∃ T, ((St.ok s).run (longR true)).val ⟨#[]⟩ = T := ⟨_, rfl⟩
    obtain ⟨s1, hs1⟩ : ∃ x, ((St.ok s).run (longR true)).st = x := ⟨_, rfl⟩
    have HO1 := long_st g true (.ok s) _ HL5.out.rd
    rw [hT, hs1] at HO1
    obtain ⟨n, hn⟩ : ∃ n, (s1.run (fixR 2)).val 0 = n := ⟨_, rfl⟩
    obtain ⟨s2, hs2⟩ : ∃ x, (s1.run (fixR 2)).st = x := ⟨_, rfl⟩
    have HO2 : ∀ W, RdOf false W g s1 → Calls Tryz.prog 105 #[.pointer (some ⟨g, 0, none⟩), .int .i64 2] W fun r w' => r = .returned (.int .i64 n) ∧ RdOf false w' g s2 ∧ Bar g W w' := fun W hr => by
     rw [← hn, ← hs2]
     exact fixed_st g 2 s1 W (by decide) hr
    obtain ⟨bn, hbn⟩ : ∃ b, decide (0 < n) = b := ⟨_, rfl⟩
    obtain ⟨s3, hs3⟩ : ∃ x, s2.want bn 8 = x := ⟨_, rfl⟩
    have HO3 := fun (W : World) (hr : RdOf false W g s2) => want_st g s2 bn 8 W (by decide) hr
    rw [hs3] at HO3
    have hnv : (s1.run numberR).val 0 = n := (number_val _).trans hn
    have hns : (s1.run numberR).st = s3 := by rw [number_st, hn, hs2, hbn, hs3]
    obtain ⟨L, hL⟩ : ∃ x, (s3.run (propsR 3)).val [] = x := ⟨_, rfl⟩
    obtain ⟨s4, hs4⟩ : ∃ x, (s3.run (propsR 3)).st = x := ⟨_, rfl⟩
    have HO4 := fun (W : World) (hr : RdOf false W g s3) => props_st g 3 s3 W (by decide) hr
    rw [hL, hs4] at HO4
    have HRR : Hid (R = ({ { zp 3 with dup := true, q := q, ret := br } with t := T, id := n, ps := L, b := (bodyR s4).1 }, (bodyR s4).2)) := by
     show _ = _
     rw [← hR]
     have e := publish_q (p := { zp 3 with dup := true, q := q, ret := br }) (st := .ok s) (by show 0 < q; exact hqp)
     rw [hT, hs1, hnv, hns] at e
     rw [← hs4, ← hL]
     exact e
    have H1 := Lib.hid HO1
    have H4 := Lib.hid HO4
    have H2 := Lib.hid HO2
    have H3 := Lib.hid HO3
    clear HO1 HO2 HO3 HO4 hn hs2 hs3 hnv hns hR hT hs1 hL hs4
    go_wp2_with fail
    refine H1.out.mono ?_
    rintro r w6 ⟨rfl, k1, k2⟩
    have HL6 := Lib.hid (HL5.out.bar k2 k1)
    clear k1 k2 HL5 H1
    have d2 : w6.cell? ⟨h, 2, none⟩ = some (.int .i64 q) := HL6.out.f2
    have d5 := HL6.out.f5
    have f5 := HL6.out.frozen 5
    have HL7 := Lib.hid (HL6.out.put1 5 (.string T) { { zp 3 with dup := true, q := q, ret := br } with t := T } rfl rfl rfl rfl rfl)
    go_wp2_with fail
    refine (H2.out _ HL7.out.rd).mono ?_
    rintro r w7 ⟨rfl, k1, k2⟩
    have HL8 := Lib.hid (HL7.out.bar k2 k1)
    clear k1 k2 HL6 HL7 H2 d2 d5 f5
    have d4 := HL8.out.f4
    have f4 := HL8.out.frozen 4
    have HL9 := Lib.hid (HL8.out.put1 4 (.int .i64 n) { { zp 3 with dup := true, q := q, ret := br } with t := T, id := n } rfl rfl rfl rfl rfl)
    go_wp2_with fail
    refine (H3.out _ HL9.out.rd).mono ?_
    rintro r w8 ⟨rfl, k1, k2⟩
    have HL10 := Lib.hid (HL9.out.bar k2 k1)
    clear k1 k2 HL8 HL9 H3 d4 f4 hbn
    go_wp2_with fail
    refine (H4.out _ HL10.out.rd).mono ?_
    rintro r w9 ⟨A, c, rfl, k1, k2, k3, k4, k5⟩
    have HL11 := Lib.hid (HL10.out.bar k5 k4)
    have HN := Lib.hid (HL10.out.off k2)
    have HAA := Lib.hid k3
    have HC := Lib.hid k1
    clear k1 k2 k3 k4 k5 HL10 H4
    have d24 := HL11.out.f24
    have f24 := HL11.out.frozen 24
    have HL12 := Lib.hid (HL11.out.props HAA.out HN.out HC.out)
    go_upto_region 26 with fail
    clear HL11 d24 f24 HN HAA HC
    generalize World.setCell _ _ _ = Wc at HL12 ⊢
    obtain ⟨sx, hx1, _, hx3, hx4, _⟩ := HL12.out.rd.rd
    have e0 := hx1.cell 0
    have e0f : Wc.frozen? ⟨g, 0, none⟩ = false := hx1.frozen 0
    have d6 := HL12.out.f6
    have f6 := HL12.out.frozen 6
    have hgh : ¬ g = h := HL12.out.out.2.2.2.1
    obtain ⟨bb, hbb⟩ : ∃ b, decide ((sx.size : Int) ≤ 1024) = b := ⟨_, rfl⟩
    have hbn : decide (sx.size ≤ 1024) = bb := by rw [← hbb]; exact decide_eq_decide.2 (by omega)
    have HBE := Lib.hid (pub_end hx3 hbn)
    have HL13 := Lib.hid (HL12.out.put1 6 (.string sx) { { zp 3 with dup := true, q := q, ret := br } with t := T, id := n, b := sx, ps := L } rfl rfl rfl rfl rfl)
    clear hx1 hx3 hx4 hbn
    go_wp2_with fail
    refine (want_st g s4 bb 2 _ (by decide) HL13.out.rd).mono ?_
    rintro r wd ⟨rfl, k1, k2⟩
    have HL14 := Lib.hid (HL13.out.bar k2 k1)
    clear k1 k2 HL12 HL13 d6 f6 e0 e0f hbb
    obtain ⟨sy, hy1, _, _, _, _⟩ := HL14.out.rd.rd
    have e0 := hy1.cell 0
    have e0f : wd.frozen? ⟨g, 0, none⟩ = false := hy1.frozen 0
    have HL15 := Lib.hid (HL14.out.bar (Bar.set g wd 0 (.string ⟨#[]⟩)) (emptied_rd HL14.out.rd))
    clear hy1
    go_upto_region 62 with fail
    have HPQ : Hid (∃ pf af, Live false h W1 g h R.2 pf af (wd.setCell ⟨g, 0, none⟩ (.string ⟨#[]⟩)) ∧ (R.2.isBad = false → pf = R.1)) := ⟨_, _, by rw [HRR.out]; show Live _ _ _ _ _ (bodyR s4).2 _ _ _; rw [HBE.out.1]; exact HL15.out, fun hb => by
     rw [HRR.out] at hb ⊢
     have e := HBE.out.2 hb
     rw [e]⟩
    clear HL14 HL15 HRR HBE e0 e0f hgh
    generalize World.setCell _ _ _ = Wg at HPQ ⊢
    obtain ⟨pf, af, hl, hp⟩ := HPQ.out
    have HLX := Lib.hid hl
    have HPQ := Lib.hid hp
    clear hl hp
    obtain ⟨sx, hx1, _, hx3, hx4, _⟩ := HLX.out.rd.rd
    have e0 := hx1.cell 0
    obtain ⟨bz, hbz⟩ : ∃ b, decide (sx.size = 0) = b := ⟨_, rfl⟩
    have hzz : ((sx.size : Int) == 0) = bz := by rw [← hbz]; exact beq_nat sx.size
    have HQ : Hid ((bodyS cc s).2 = R.2.want bz 8) := by
     show _ = _
     rw [HRB.out]
     show R.2.want (decide (R.2.rest.size = 0)) 8 = _
     cases hbd : R.2.isBad with
     | false => have := hx3 hbd; rw [this]; show (St.ok sx).want (decide (sx.size = 0)) 8 = _; rw [hbz]
     | true => rw [(hx4 hbd).2]; rfl
    clear hx1 hx3 hx4 hbz
    go_wp2_with fail
    refine (want_st g R.2 bz 8 _ (by decide) HLX.out.rd).mono ?_
    rintro r w7 ⟨rfl, q1, q2⟩
    have HL8 := Lib.hid (HLX.out.bar q2 q1)
    have HK8 : Hid (Box w7 k0 (pkArr (zp 0) za)) := Lib.hid (HK0.out.below (HL8.out.b.mono (by have := HH.out; omega)))
    clear q1 q2 HLX e0 hzz
    go_upto_region 63 with fail
    obtain ⟨ste, hste⟩ : ∃ x, R.2.want bz 8 = x := ⟨_, rfl⟩
    rw [hste] at HL8 HQ
    have HCAP := Lib.hid HL8.out.cap
    have HNEW := Lib.hid (HL8.out.new.mono (B' := w.heap.size) (by have := HKK.out; omega))
    have HWF : Hid ((bodyS cc s).2.Wf) := by show St.Wf _; rw [HQ.out]; exact HL8.out.wf
    have HRES : Hid (Ending.returned (.tuple #[.agg (pkArr pf af), .int .i64 ste.err]) = .returned (.tuple #[.agg (pkArr pf af), .int .i64 (bodyS cc s).2.err])) := by show _ = _; rw [HQ.out]
    have HPF : Hid ((bodyS cc s).2.isBad = false → pf = (bodyS cc s).1) := fun hb => by
     rw [HQ.out, ← hste] at hb
     rw [HRB.out]
     exact HPQ.out (not_bad hb)
    have HEN := Lib.hid (EndAt.mk (w := w) (k0 := k0) (g := g) (h := h) (st := ste) (p := pf) (a := af) (cs := pkArr (zp 0) za) ⟨HL8.out.rd, HL8.out.bx, HL8.out.at, HK8.out, rfl, (HA.out.trans (HL8.out.b.mono (by have := HKK.out; omega))), by have := HKK.out; omega, by omega, by omega, HL8.out.new.off hkl⟩)
    clear HL8 HK8 hste
    refine wp_region_held_drew (S := fun W => ∃ cs, EndAt false w k0 g h ste pf af cs W) (by kernel_rfl) ⟨_, HEN.out.drew⟩ (fun hHeld => ?_)
    generalize World.drew _ = Wd at hHeld ⊢
    refine take_load 0 273 30 (.tmp 8) h 0 (.agg (pkArr pf af)) rfl rfl (by kernel_rfl) (fun _ _ _ h => h) (by rfl) hHeld rfl rfl (fun w' hS' => load_bx hS'.choose_spec.out.2.1) ?_
    simp only [Act.put, List.setIfInBounds_toArray, List.set_cons_zero, List.set_cons_succ]
    refine take_op 1 274 ?v1b rfl rfl (by kernel_rfl) (fun _ _ _ h => h) (by rfl) hHeld (fun w' hS' => ?hv1b) ?hh1b
    case hv1b => (go_simp; try with_reducible rfl)
    simp only [Act.put, List.setIfInBounds_toArray, List.set_cons_zero, List.set_cons_succ]
    refine take_op 2 275 ?v2b rfl rfl (by kernel_rfl) (fun _ _ _ h => h) (by rfl) hHeld (fun w' hS' => ?hv2b) ?hh2b
    case hv2b => (go_simp; try with_reducible rfl)
    simp only [Act.put, List.setIfInBounds_toArray, List.set_cons_zero, List.set_cons_succ]
    refine take_op 3 276 ?v3b rfl rfl (by kernel_rfl) (fun _ _ _ h => h) (by rfl) hHeld (fun w' hS' => ?hv3b) ?hh3b
    case hv3b => (go_simp; try with_reducible rfl)
    simp only [Act.put, List.setIfInBounds_toArray, List.set_cons_zero, List.set_cons_succ]
    refine take_op 4 277 ?v4b rfl rfl (by kernel_rfl) (fun _ _ _ h => h) (by rfl) hHeld (fun w' hS' => ?hv4b) ?hh4b
    case hv4b => (have k := hS'.choose_spec.err; go_simp; try with_reducible rfl)
    simp only [Act.put, List.setIfInBounds_toArray, List.set_cons_zero, List.set_cons_succ]
    obtain ⟨cs, hcs⟩ := hHeld
    obtain ⟨T, hT⟩ := hcs.out.2.2.2.1
    refine only_op 5 rfl (by kernel_rfl) (by rfl) (wp_store_row 30 (.tmp 6) (.tmp 273) rfl k0 (pkArr pf af) rfl rfl T cs hT info_pk hcs.out.2.2.2.2.1 (one_pk _ _) ⟨⟨_, hcs.row⟩, ?_⟩)
    simp only [Act.put]
    have hHeld2 := hcs.row
    refine take_op 6 7 ?v6b rfl rfl (by kernel_rfl) (fun _ _ _ h => h) (by rfl) ⟨_, hHeld2⟩ (fun w' hS' => ?hv6b) ?hh6b
    case hv6b => (go_simp; try with_reducible rfl)
    simp only [Act.put, List.setIfInBounds_toArray]
    refine wpAnyH_done (by kernel_rfl) ?_ _
    have HF := Lib.hid hHeld2
    clear hcs hT hHeld2
    go_wp2_with fail
    refine bodyPost_ret (results_pk2 Tryz.results84 rfl HF.out.out.2.2.2.1 rfl) rfl ⟨pf, af, HRES.out, HF.out.out.2.2.1, HCAP.out, HNEW.out, HF.out.out.2.2.2.2.2.1, HWF.out, HPF.out⟩
   | false =>
    have HRB := Lib.hid (HRG.out (by exact HSD.out _))
    have d1 := HL5.out.f1
    have d2 := HL5.out.f2
    clear HRG HRB0 HK5 HB5 HFB
    obtain ⟨R, hR⟩ : ∃ R, publishS { zp 3 with dup := false, q := q, ret := br } (.ok s) = R := ⟨_, rfl⟩
    rw [hR] at HRB
    go_upto_region 11 with fail
    clear d1 d2
    obtain ⟨T, hT⟩ : ∃ T, ((St.ok s).run (longR true)).val ⟨#[]⟩ = T := ⟨_, rfl⟩
    obtain ⟨s1, hs1⟩ : ∃ x, ((St.ok s).run (longR true)).st = x := ⟨_, rfl⟩
    have HO1 := long_st g true (.ok s) _ HL5.out.rd
    rw [hT, hs1] at HO1
    obtain ⟨n, hn⟩ : ∃ n, (s1.run (fixR 2)).val 0 = n := ⟨_, rfl⟩
    obtain ⟨s2, hs2⟩ : ∃ x, (s1.run (fixR 2)).st = x := ⟨_, rfl⟩
    have HO2 : ∀ W, RdOf false W g s1 → Calls Tryz.prog 105 #[.pointer (some ⟨g, 0, none⟩), .int .i64 2] W fun r w' => r = .returned (.int .i64 n) ∧ RdOf false w' g s2 ∧ Bar g W w' := fun W hr => by
     rw [← hn, ← hs2]
     exact fixed_st g 2 s1 W (by decide) hr
    obtain ⟨bn, hbn⟩ : ∃ b, decide (0 < n) = b := ⟨_, rfl⟩
    obtain ⟨s3, hs3⟩ : ∃ x, s2.want bn 8 = x := ⟨_, rfl⟩
    have HO3 := fun (W : World) (hr : RdOf false W g s2) => want_st g s2 bn 8 W (by decide) hr
    rw [hs3] at HO3
    have hnv : (s1.run numberR).val 0 = n := (number_val _).trans hn
    have hns : (s1.run numberR).st = s3 := by rw [number_st, hn, hs2, hbn, hs3]
    obtain ⟨L, hL⟩ : ∃ x, (s3.run (propsR 3)).val [] = x := ⟨_, rfl⟩
    obtain ⟨s4, hs4⟩ : ∃ x, (s3.run (propsR 3)).st = x := ⟨_, rfl⟩
    have HO4 := fun (W : World) (hr : RdOf false W g s3) => props_st g 3 s3 W (by decide) hr
    rw [hL, hs4] at HO4
    have HRR : Hid (R = ({ { zp 3 with dup := false, q := q, ret := br } with t := T, id := n, ps := L, b := (bodyR s4).1 }, (bodyR s4).2)) := by
     show _ = _
     rw [← hR]
     have e := publish_q (p := { zp 3 with dup := false, q := q, ret := br }) (st := .ok s) (by show 0 < q; exact hqp)
     rw [hT, hs1, hnv, hns] at e
     rw [← hs4, ← hL]
     exact e
    have H1 := Lib.hid HO1
    have H4 := Lib.hid HO4
    have H2 := Lib.hid HO2
    have H3 := Lib.hid HO3
    clear HO1 HO2 HO3 HO4 hn hs2 hs3 hnv hns hR hT hs1 hL hs4
    go_wp2_with fail
    refine H1.out.mono ?_
    rintro r w6 ⟨rfl, k1, k2⟩
    have HL6 := Lib.hid (HL5.out.bar k2 k1)
    clear k1 k2 HL5 H1
    have d2 : w6.cell? ⟨h, 2, none⟩ = some (.int .i64 q) := HL6.out.f2
    have d5 := HL6.out.f5
    have f5 := HL6.out.frozen 5
    have HL7 := Lib.hid (HL6.out.put1 5 (.string T) { { zp 3 with dup := false, q := q, ret := br } with t := T } rfl rfl rfl rfl rfl)
    go_wp2_with fail
    refine (H2.out _ HL7.out.rd).mono ?_
    rintro r w7 ⟨rfl, k1, k2⟩
    have HL8 := Lib.hid (HL7.out.bar k2 k1)
    clear k1 k2 HL6 HL7 H2 d2 d5 f5
    have d4 := HL8.out.f4
    have f4 := HL8.out.frozen 4
    have HL9 := Lib.hid (HL8.out.put1 4 (.int .i64 n) { { zp 3 with dup := false, q := q, ret := br } with t := T, id := n } rfl rfl rfl rfl rfl)
    go_wp2_with fail
    refine (H3.out _ HL9.out.rd).mono ?_
    rintro r w8 ⟨rfl, k1, k2⟩
    have HL10 := Lib.hid (HL9.out.bar k2 k1)
    clear k1 k2 HL8 HL9 H3 d4 f4 hbn
    go_wp2_with fail
    refine (H4.out _ HL10.out.rd).mono ?_
    rintro r w9 ⟨A, c, rfl, k1, k2, k3, k4, k5⟩
    have HL11 := Lib.hid (HL10.out.bar k5 k4)
    have HN := Lib.hid (HL10.out.off k2)
    have HAA := Lib.hid k3
    have HC := Lib.hid k1
    clear k1 k2 k3 k4 k5 HL10 H4
    have d24 := HL11.out.f24
    have f24 := HL11.out.frozen 24
    have HL12 := Lib.hid (HL11.out.props HAA.out HN.out HC.out)
    go_upto_region 26 with fail
    clear HL11 d24 f24 HN HAA HC
    generalize World.setCell _ _ _ = Wc at HL12 ⊢
    obtain ⟨sx, hx1, _, hx3, hx4, _⟩ := HL12.out.rd.rd
    have e0 := hx1.cell 0
    have e0f : Wc.frozen? ⟨g, 0, none⟩ = false := hx1.frozen 0
    have d6 := HL12.out.f6
    have f6 := HL12.out.frozen 6
    have hgh : ¬ g = h := HL12.out.out.2.2.2.1
    obtain ⟨bb, hbb⟩ : ∃ b, decide ((sx.size : Int) ≤ 1024) = b := ⟨_, rfl⟩
    have hbn : decide (sx.size ≤ 1024) = bb := by rw [← hbb]; exact decide_eq_decide.2 (by omega)
    have HBE := Lib.hid (pub_end hx3 hbn)
    have HL13 := Lib.hid (HL12.out.put1 6 (.string sx) { { zp 3 with dup := false, q := q, ret := br } with t := T, id := n, b := sx, ps := L } rfl rfl rfl rfl rfl)
    clear hx1 hx3 hx4 hbn
    go_wp2_with fail
    refine (want_st g s4 bb 2 _ (by decide) HL13.out.rd).mono ?_
    rintro r wd ⟨rfl, k1, k2⟩
    have HL14 := Lib.hid (HL13.out.bar k2 k1)
    clear k1 k2 HL12 HL13 d6 f6 e0 e0f hbb
    obtain ⟨sy, hy1, _, _, _, _⟩ := HL14.out.rd.rd
    have e0 := hy1.cell 0
    have e0f : wd.frozen? ⟨g, 0, none⟩ = false := hy1.frozen 0
    have HL15 := Lib.hid (HL14.out.bar (Bar.set g wd 0 (.string ⟨#[]⟩)) (emptied_rd HL14.out.rd))
    clear hy1
    go_upto_region 62 with fail
    have HPQ : Hid (∃ pf af, Live false h W1 g h R.2 pf af (wd.setCell ⟨g, 0, none⟩ (.string ⟨#[]⟩)) ∧ (R.2.isBad = false → pf = R.1)) := ⟨_, _, by rw [HRR.out]; show Live _ _ _ _ _ (bodyR s4).2 _ _ _; rw [HBE.out.1]; exact HL15.out, fun hb => by
     rw [HRR.out] at hb ⊢
     have e := HBE.out.2 hb
     rw [e]⟩
    clear HL14 HL15 HRR HBE e0 e0f hgh
    generalize World.setCell _ _ _ = Wg at HPQ ⊢
    obtain ⟨pf, af, hl, hp⟩ := HPQ.out
    have HLX := Lib.hid hl
    have HPQ := Lib.hid hp
    clear hl hp
    obtain ⟨sx, hx1, _, hx3, hx4, _⟩ := HLX.out.rd.rd
    have e0 := hx1.cell 0
    obtain ⟨bz, hbz⟩ : ∃ b, decide (sx.size = 0) = b := ⟨_, rfl⟩
    have hzz : ((sx.size : Int) == 0) = bz := by rw [← hbz]; exact beq_nat sx.size
    have HQ : Hid ((bodyS cc s).2 = R.2.want bz 8) := by
     show _ = _
     rw [HRB.out]
     show R.2.want (decide (R.2.rest.size = 0)) 8 = _
     cases hbd : R.2.isBad with
     | false => have := hx3 hbd; rw [this]; show (St.ok sx).want (decide (sx.size = 0)) 8 = _; rw [hbz]
     | true => rw [(hx4 hbd).2]; rfl
    clear hx1 hx3 hx4 hbz
    go_wp2_with fail
    refine (want_st g R.2 bz 8 _ (by decide) HLX.out.rd).mono ?_
    rintro r w7 ⟨rfl, q1, q2⟩
    have HL8 := Lib.hid (HLX.out.bar q2 q1)
    have HK8 : Hid (Box w7 k0 (pkArr (zp 0) za)) := Lib.hid (HK0.out.below (HL8.out.b.mono (by have := HH.out; omega)))
    clear q1 q2 HLX e0 hzz
    go_upto_region 63 with fail
    obtain ⟨ste, hste⟩ : ∃ x, R.2.want bz 8 = x := ⟨_, rfl⟩
    rw [hste] at HL8 HQ
    have HCAP := Lib.hid HL8.out.cap
    have HNEW := Lib.hid (HL8.out.new.mono (B' := w.heap.size) (by have := HKK.out; omega))
    have HWF : Hid ((bodyS cc s).2.Wf) := by show St.Wf _; rw [HQ.out]; exact HL8.out.wf
    have HRES : Hid (Ending.returned (.tuple #[.agg (pkArr pf af), .int .i64 ste.err]) = .returned (.tuple #[.agg (pkArr pf af), .int .i64 (bodyS cc s).2.err])) := by show _ = _; rw [HQ.out]
    have HPF : Hid ((bodyS cc s).2.isBad = false → pf = (bodyS cc s).1) := fun hb => by
     rw [HQ.out, ← hste] at hb
     rw [HRB.out]
     exact HPQ.out (not_bad hb)
    have HEN := Lib.hid (EndAt.mk (w := w) (k0 := k0) (g := g) (h := h) (st := ste) (p := pf) (a := af) (cs := pkArr (zp 0) za) ⟨HL8.out.rd, HL8.out.bx, HL8.out.at, HK8.out, rfl, (HA.out.trans (HL8.out.b.mono (by have := HKK.out; omega))), by have := HKK.out; omega, by omega, by omega, HL8.out.new.off hkl⟩)
    clear HL8 HK8 hste
    refine wp_region_held_drew (S := fun W => ∃ cs, EndAt false w k0 g h ste pf af cs W) (by kernel_rfl) ⟨_, HEN.out.drew⟩ (fun hHeld => ?_)
    generalize World.drew _ = Wd at hHeld ⊢
    refine take_load 0 273 30 (.tmp 8) h 0 (.agg (pkArr pf af)) rfl rfl (by kernel_rfl) (fun _ _ _ h => h) (by rfl) hHeld rfl rfl (fun w' hS' => load_bx hS'.choose_spec.out.2.1) ?_
    simp only [Act.put, List.setIfInBounds_toArray, List.set_cons_zero, List.set_cons_succ]
    refine take_op 1 274 ?v1c rfl rfl (by kernel_rfl) (fun _ _ _ h => h) (by rfl) hHeld (fun w' hS' => ?hv1c) ?hh1c
    case hv1c => (go_simp; try with_reducible rfl)
    simp only [Act.put, List.setIfInBounds_toArray, List.set_cons_zero, List.set_cons_succ]
    refine take_op 2 275 ?v2c rfl rfl (by kernel_rfl) (fun _ _ _ h => h) (by rfl) hHeld (fun w' hS' => ?hv2c) ?hh2c
    case hv2c => (go_simp; try with_reducible rfl)
    simp only [Act.put, List.setIfInBounds_toArray, List.set_cons_zero, List.set_cons_succ]
    refine take_op 3 276 ?v3c rfl rfl (by kernel_rfl) (fun _ _ _ h => h) (by rfl) hHeld (fun w' hS' => ?hv3c) ?hh3c
    case hv3c => (go_simp; try with_reducible rfl)
    simp only [Act.put, List.setIfInBounds_toArray, List.set_cons_zero, List.set_cons_succ]
    refine take_op 4 277 ?v4c rfl rfl (by kernel_rfl) (fun _ _ _ h => h) (by rfl) hHeld (fun w' hS' => ?hv4c) ?hh4c
    case hv4c => (have k := hS'.choose_spec.err; go_simp; try with_reducible rfl)
    simp only [Act.put, List.setIfInBounds_toArray, List.set_cons_zero, List.set_cons_succ]
    obtain ⟨cs, hcs⟩ := hHeld
    obtain ⟨T, hT⟩ := hcs.out.2.2.2.1
    refine only_op 5 rfl (by kernel_rfl) (by rfl) (wp_store_row 30 (.tmp 6) (.tmp 273) rfl k0 (pkArr pf af) rfl rfl T cs hT info_pk hcs.out.2.2.2.2.1 (one_pk _ _) ⟨⟨_, hcs.row⟩, ?_⟩)
    simp only [Act.put]
    have hHeld2 := hcs.row
    refine take_op 6 7 ?v6c rfl rfl (by kernel_rfl) (fun _ _ _ h => h) (by rfl) ⟨_, hHeld2⟩ (fun w' hS' => ?hv6c) ?hh6c
    case hv6c => (go_simp; try with_reducible rfl)
    simp only [Act.put, List.setIfInBounds_toArray]
    refine wpAnyH_done (by kernel_rfl) ?_ _
    have HF := Lib.hid hHeld2
    clear hcs hT hHeld2
    go_wp2_with fail
    refine bodyPost_ret (results_pk2 Tryz.results84 rfl HF.out.out.2.2.2.1 rfl) rfl ⟨pf, af, HRES.out, HF.out.out.2.2.1, HCAP.out, HNEW.out, HF.out.out.2.2.2.2.2.1, HWF.out, HPF.out⟩
end Go.Proofs.YtdbbcfohjkgdcaaGreat
