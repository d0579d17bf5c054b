/- The document's own: may a packet be: an identifier, a reason. -/
import Derived.Test.YtdbbcfohjkgdcaaGreatM00
import Derived.Test.YtdbbcfohjkgdcaaGreatM32
set_option maxRecDepth 100000
set_option maxHeartbeats 64000000
namespace Go.Proofs.YtdbbcfohjkgdcaaGreat
open Go.RowKit Go.Lib Prp Pkt Vbi
theorem rpacket_3 (p : Pk) (a : Ad) (b : Bool) (w : World) (hf : PkFit p a) (h : PkAt w w.heap.size p a) (hk : p.kind = 3) (hb : packB p = b) :
  Calls Tryz.prog 9 #[.agg (pkArr p a)] w fun e w' => e = .returned (.bool b) ∧ Below w.heap.size w w' := by
 have HFIT := Lib.hid hf
 have HBB := Lib.hid hb
 have HDOC := Lib.hid (doc_3 hk)
 have hb1 := Box.new w 30 (pkArr p a)
 have ha1 := (Below.refl w.heap.size w).alloc (Nat.le_refl _) (.cells (pkArr p a) 30)
 obtain ⟨W1, hW⟩ : ∃ W1, w.alloc (.cells (pkArr p a) 30) = W1 := ⟨_, rfl⟩
 rw [hW] at hb1 ha1
 obtain ⟨g, hg⟩ : ∃ g, w.heap.size = g := ⟨_, rfl⟩
 rw [hg] at hb1
 have hgl := hb1.lt
 have hb3 := Box.new W1 30 (pkArr (zp 0) za)
 have ha3 := (Below.refl W1.heap.size W1).alloc (Nat.le_refl _) (.cells (pkArr (zp 0) za) 30)
 obtain ⟨W2, hW2⟩ : ∃ W2, W1.alloc (.cells (pkArr (zp 0) za) 30) = W2 := ⟨_, rfl⟩
 rw [hW2] at hb3 ha3
 obtain ⟨g3, hg3⟩ : ∃ g, W1.heap.size = g := ⟨_, rfl⟩
 rw [hg3] at hb3 hgl
 obtain ⟨W3, hW3⟩ : ∃ W3, W2.setRow g3 (pkArr (zp 3) za) = W3 := ⟨_, rfl⟩
 have hr3 := Bar.row g3 W2 (pkArr (zp 3) za)
 have hx1 : Box W3 g (pkArr p a) := by rw [← hW3]; exact hr3.box (hb1.below (ha3.mono (by omega))) (by omega)
 have hx3 : Box W3 g3 (pkArr (zp 3) za) := by rw [← hW3]; exact hb3.row _
 have hbw : Below w.heap.size w W3 := by rw [← hW3]; exact hr3.below (ha1.trans (ha3.mono (by have := ha1.size; omega))) (by omega) (by have := ha1.size; have := ha3.size; omega)
 have HP := Lib.hid (Pair.mk (w := w) (g := g) (g3 := g3) (p := p) (a := a) (N := zp 3) (a' := za) (W := W3) ⟨hx1, hx3, h.below hbw, hbw, by omega, by omega, by omega⟩)
 have c0 : W1.cell? ⟨g, 0, none⟩ = some (.int .i64 3) := by rw [hb1.cell, ← hk]; rfl
 have HB3 := Lib.hid hb3
 have HW3 := Lib.hid hW3
 have HG := Lib.hid hg
 have HG3 := Lib.hid hg3
 simp only [pkArr, zp, za, zw, List.length_nil] at hW2
 have HW2 := Lib.hid hW2
 unfold pkArr at hW ⊢
 have HW := Lib.hid hW
 have HKD := Lib.hid hk
 clear hW hW2 hW3 hb1 ha1 hb3 ha3 hr3 hx1 hx3 hbw hgl hf h hk hb hg hg3
 go_enter Tryz.func9, Tryz.ntmps9
 go_upto_region 1 with fail
 rw [HW.out, HG.out]
 generalize Value.agg _ = v0
 have hg3 := HG3.out
 go_upto_region 2 with (first | (refine wpList_build_kind rfl (.tmp 9) rfl 3 rfl ?_) | (rw [HW2.out]; refine wpList_store_whole rfl 30 (.tmp 3) (.tmp 10) rfl g3 (pkArr (zp 3) za) rfl rfl (pkArr (zp 0) za) HB3.out info_pk rfl (one_pk _ _) ?_; simp only [Act.put]))
 rw [HW3.out]
 clear hg3 c0 HW HW2 HW3 HB3 HG HG3
 have c0 : W3.cell? ⟨g, 0, none⟩ = some (.int .i64 3) := by rw [HP.out.arg, ← HKD.out]; rfl
 have c7 : W3.cell? ⟨g, 7, none⟩ = some (.int .i64 p.re) := HP.out.arg 7
 have c24 : W3.cell? ⟨g, 24, none⟩ = some (.slice a.pa p.ps.length a.pc) := HP.out.arg 24
 cases hx1 : inB p.re 255 with
 | false =>
  have hF := Lib.hid (not_good HBB.out (by rw [HDOC.out, hx1]; rfl))
  clear HFIT HBB HDOC
  go_wp2_with (first | (go_at_call 34; refine (ZNum_is _ _ _ _ rfl).mono ?_; rintro e w' ⟨rfl, rfl⟩) | (go_at_call 38; refine (rid_is _ _ _ rfl).mono ?_; rintro e w' ⟨rfl, rfl⟩) | (go_at_call 36; refine (rtext_is _ _ _ rfl).mono ?_; rintro e w' ⟨rfl, rfl⟩))
  go_ret
  exact ⟨(by rw [hF.out]; try rfl), HP.out.b⟩
 | true =>
 have HPR := Lib.hid ((RProps_is 3 p.ps a.pa a.pc _ W3 HFIT.out.pl1.1 HFIT.out.pl1.2 HFIT.out.ps HP.out.at.ps rfl).mono fun e w' (q : e = .returned (.bool (propsB 3 p.ps)) ∧ Below W3.heap.size W3 w') => q)
 cases hx2 : propsB 3 p.ps with
 | false =>
  have hF := Lib.hid (not_good HBB.out (by rw [HDOC.out, hx1, hx2]; rfl))
  clear HFIT HBB HDOC
  go_wp2_with (first | (go_at_call 34; refine (ZNum_is _ _ _ _ rfl).mono ?_; rintro e w' ⟨rfl, rfl⟩) | (go_at_call 38; refine (rid_is _ _ _ rfl).mono ?_; rintro e w' ⟨rfl, rfl⟩) | (go_at_call 36; refine (rtext_is _ _ _ rfl).mono ?_; rintro e w' ⟨rfl, rfl⟩))
  refine HPR.out.mono ?_
  rintro e w1 ⟨rfl, hb1⟩
  have HP2 := Lib.hid (HP.out.below hb1)
  clear hb1 HP HPR c0 c7 c24
  go_wp2_with (first | (go_at_call 34; refine (ZNum_is _ _ _ _ rfl).mono ?_; rintro e w' ⟨rfl, rfl⟩) | (go_at_call 38; refine (rid_is _ _ _ rfl).mono ?_; rintro e w' ⟨rfl, rfl⟩) | (go_at_call 36; refine (rtext_is _ _ _ rfl).mono ?_; rintro e w' ⟨rfl, rfl⟩))
  go_ret
  exact ⟨(by rw [hF.out]; try rfl), HP2.out.b⟩
 | true =>
 go_wp2_with (first | (go_at_call 34; refine (ZNum_is _ _ _ _ rfl).mono ?_; rintro e w' ⟨rfl, rfl⟩) | (go_at_call 38; refine (rid_is _ _ _ rfl).mono ?_; rintro e w' ⟨rfl, rfl⟩) | (go_at_call 36; refine (rtext_is _ _ _ rfl).mono ?_; rintro e w' ⟨rfl, rfl⟩))
 refine HPR.out.mono ?_
 rintro e w1 ⟨rfl, hb1⟩
 have HP2 := Lib.hid (HP.out.below hb1)
 clear hb1 HP HPR c0 c7 c24
 have c24 : w1.cell? ⟨g, 24, none⟩ = some (.slice a.pa p.ps.length a.pc) := HP2.out.arg 24
 have d24 : w1.cell? ⟨g3, 24, none⟩ = some (.slice none 0 0) := HP2.out.non 24
 have f24 := HP2.out.nfz 24
 have hne3 : ¬ g = g3 := HP2.out.out.2.2.2.2.2.2
 go_upto_region 5 with fail
 have HP3 := Lib.hid (HP2.out.put 24 (.slice a.pa p.ps.length a.pc) { zp 3 with ps := p.ps } { za with pa := a.pa, pc := a.pc } rfl)
 clear HP2 c24 d24 f24
 generalize World.setCell _ _ _ = w3 at HP3 ⊢
 have c0 : w3.cell? ⟨g, 0, none⟩ = some (.int .i64 3) := by rw [HP3.out.arg, ← HKD.out]; rfl
 go_upto_region 17 with fail
 have hHeld : Pair w g g3 p a { zp 3 with ps := p.ps } { za with pa := a.pa, pc := a.pc } (World.drew w3) := HP3.out.below (below_drewN (Below.refl _ _) 1)
 clear HP3 c0
 refine wp_region_held_drew (S := fun W => Box W g (pkArr p a)) (by kernel_rfl) hHeld.out.1 (fun hBox => ?_)
 generalize World.drew w3 = Wd at hHeld hBox ⊢
 refine take_op 0 159 ?v0 rfl rfl (by kernel_rfl) (fun _ _ _ h => h) (by rfl) hBox (fun w' hS' => ?hv0) ?hh0
 case hv0 => (go_simp; try with_reducible rfl)
 simp only [Act.put, List.setIfInBounds_toArray, List.set_cons_zero, List.set_cons_succ]
 refine take_op 1 160 ?v1 rfl rfl (by kernel_rfl) (fun _ _ _ h => h) (by rfl) hBox (fun w' hS' => ?hv1) ?hh1
 case hv1 => (have k : w'.cell? ⟨g, 1, none⟩ = some (.bool p.dup) := Box.cell hS' 1; go_simp; try with_reducible rfl)
 simp only [Act.put, List.setIfInBounds_toArray, List.set_cons_zero, List.set_cons_succ]
 refine take_op 2 161 ?v2 rfl rfl (by kernel_rfl) (fun _ _ _ h => h) (by rfl) hBox (fun w' hS' => ?hv2) ?hh2
 case hv2 => (go_simp; try with_reducible rfl)
 simp only [Act.put, List.setIfInBounds_toArray, List.set_cons_zero, List.set_cons_succ]
 refine take_op 3 162 ?v3 rfl rfl (by kernel_rfl) (fun _ _ _ h => h) (by rfl) hBox (fun w' hS' => ?hv3) ?hh3
 case hv3 => (have k : w'.cell? ⟨g, 2, none⟩ = some (.int .i64 p.q) := Box.cell hS' 2; go_simp; try with_reducible rfl)
 simp only [Act.put, List.setIfInBounds_toArray, List.set_cons_zero, List.set_cons_succ]
 refine take_op 4 163 ?v4 rfl rfl (by kernel_rfl) (fun _ _ _ h => h) (by rfl) hBox (fun w' hS' => ?hv4) ?hh4
 case hv4 => (go_simp; try with_reducible rfl)
 simp only [Act.put, List.setIfInBounds_toArray, List.set_cons_zero, List.set_cons_succ]
 refine take_op 5 164 ?v5 rfl rfl (by kernel_rfl) (fun _ _ _ h => h) (by rfl) hBox (fun w' hS' => ?hv5) ?hh5
 case hv5 => (have k : w'.cell? ⟨g, 3, none⟩ = some (.bool p.ret) := Box.cell hS' 3; go_simp; try with_reducible rfl)
 simp only [Act.put, List.setIfInBounds_toArray, List.set_cons_zero, List.set_cons_succ]
 refine take_op 6 165 ?v6 rfl rfl (by kernel_rfl) (fun _ _ _ h => h) (by rfl) hBox (fun w' hS' => ?hv6) ?hh6
 case hv6 => (go_simp; try with_reducible rfl)
 simp only [Act.put, List.setIfInBounds_toArray, List.set_cons_zero, List.set_cons_succ]
 refine take_op 7 166 ?v7 rfl rfl (by kernel_rfl) (fun _ _ _ h => h) (by rfl) hBox (fun w' hS' => ?hv7) ?hh7
 case hv7 => (have k : w'.cell? ⟨g, 4, none⟩ = some (.int .i64 p.id) := Box.cell hS' 4; go_simp; try with_reducible rfl)
 simp only [Act.put, List.setIfInBounds_toArray, List.set_cons_zero, List.set_cons_succ]
 refine take_op 8 167 ?v8 rfl rfl (by kernel_rfl) (fun _ _ _ h => h) (by rfl) hBox (fun w' hS' => ?hv8) ?hh8
 case hv8 => (go_simp; try with_reducible rfl)
 simp only [Act.put, List.setIfInBounds_toArray, List.set_cons_zero, List.set_cons_succ]
 refine take_op 9 168 ?v9 rfl rfl (by kernel_rfl) (fun _ _ _ h => h) (by rfl) hBox (fun w' hS' => ?hv9) ?hh9
 case hv9 => (have k : w'.cell? ⟨g, 5, none⟩ = some (.string p.t) := Box.cell hS' 5; go_simp; try with_reducible rfl)
 simp only [Act.put, List.setIfInBounds_toArray, List.set_cons_zero, List.set_cons_succ]
 refine take_op 10 169 ?v10 rfl rfl (by kernel_rfl) (fun _ _ _ h => h) (by rfl) hBox (fun w' hS' => ?hv10) ?hh10
 case hv10 => (go_simp; try with_reducible rfl)
 simp only [Act.put, List.setIfInBounds_toArray, List.set_cons_zero, List.set_cons_succ]
 refine take_op 11 170 ?v11 rfl rfl (by kernel_rfl) (fun _ _ _ h => h) (by rfl) hBox (fun w' hS' => ?hv11) ?hh11
 case hv11 => (have k : w'.cell? ⟨g, 6, none⟩ = some (.string p.b) := Box.cell hS' 6; go_simp; try with_reducible rfl)
 simp only [Act.put, List.setIfInBounds_toArray, List.set_cons_zero, List.set_cons_succ]
 refine take_op 12 171 ?v12 rfl rfl (by kernel_rfl) (fun _ _ _ h => h) (by rfl) hBox (fun w' hS' => ?hv12) ?hh12
 case hv12 => (go_simp; try with_reducible rfl)
 simp only [Act.put, List.setIfInBounds_toArray, List.set_cons_zero, List.set_cons_succ]
 have s0 := hHeld.put 1 (.bool p.dup) { zp 3 with ps := p.ps, dup := p.dup } { za with pa := a.pa, pc := a.pc } rfl
 have c0x : Wd.cell? ⟨g3, 1, none⟩ = some (.bool false) := hHeld.non 1
 have f0x := hHeld.nfz 1
 refine only_op 13 rfl (by kernel_rfl) (by rfl) (wp_store_none 4 (.tmp 171) (.tmp 160) rfl rfl _ _ rfl rfl (by go_simp) ⟨s0.out.1, ?_⟩)
 clear c0x f0x
 generalize World.setCell _ _ _ = wy10 at s0 ⊢
 have s1 := s0.put 2 (.int .i64 p.q) { zp 3 with ps := p.ps, dup := p.dup, q := p.q } { za with pa := a.pa, pc := a.pc } rfl
 have c1x : wy10.cell? ⟨g3, 2, none⟩ = some (.int .i64 0) := s0.non 2
 have f1x := s0.nfz 2
 refine take_op 14 172 ?v14 rfl rfl (by kernel_rfl) (fun _ _ _ h => h) (by rfl) s0.out.1 (fun w' hS' => ?hv14) ?hh14
 case hv14 => (go_simp; try with_reducible rfl)
 simp only [Act.put, List.setIfInBounds_toArray, List.set_cons_zero, List.set_cons_succ]
 refine only_op 15 rfl (by kernel_rfl) (by rfl) (wp_store_none 3 (.tmp 172) (.tmp 162) rfl rfl _ _ rfl rfl (by go_simp) ⟨s1.out.1, ?_⟩)
 clear c1x f1x
 generalize World.setCell _ _ _ = wy11 at s1 ⊢
 have s2 := s1.put 3 (.bool p.ret) { zp 3 with ps := p.ps, dup := p.dup, q := p.q, ret := p.ret } { za with pa := a.pa, pc := a.pc } rfl
 have c2x : wy11.cell? ⟨g3, 3, none⟩ = some (.bool false) := s1.non 3
 have f2x := s1.nfz 3
 refine take_op 16 173 ?v16 rfl rfl (by kernel_rfl) (fun _ _ _ h => h) (by rfl) s1.out.1 (fun w' hS' => ?hv16) ?hh16
 case hv16 => (go_simp; try with_reducible rfl)
 simp only [Act.put, List.setIfInBounds_toArray, List.set_cons_zero, List.set_cons_succ]
 refine only_op 17 rfl (by kernel_rfl) (by rfl) (wp_store_none 4 (.tmp 173) (.tmp 164) rfl rfl _ _ rfl rfl (by go_simp) ⟨s2.out.1, ?_⟩)
 clear c2x f2x
 generalize World.setCell _ _ _ = wy12 at s2 ⊢
 have s3 := s2.put 4 (.int .i64 p.id) { zp 3 with ps := p.ps, dup := p.dup, q := p.q, ret := p.ret, id := p.id } { za with pa := a.pa, pc := a.pc } rfl
 have c3x : wy12.cell? ⟨g3, 4, none⟩ = some (.int .i64 0) := s2.non 4
 have f3x := s2.nfz 4
 refine take_op 18 174 ?v18 rfl rfl (by kernel_rfl) (fun _ _ _ h => h) (by rfl) s2.out.1 (fun w' hS' => ?hv18) ?hh18
 case hv18 => (go_simp; try with_reducible rfl)
 simp only [Act.put, List.setIfInBounds_toArray, List.set_cons_zero, List.set_cons_succ]
 refine only_op 19 rfl (by kernel_rfl) (by rfl) (wp_store_none 3 (.tmp 174) (.tmp 166) rfl rfl _ _ rfl rfl (by go_simp) ⟨s3.out.1, ?_⟩)
 clear c3x f3x
 generalize World.setCell _ _ _ = wy13 at s3 ⊢
 have s4 := s3.put 5 (.string p.t) { zp 3 with ps := p.ps, dup := p.dup, q := p.q, ret := p.ret, id := p.id, t := p.t } { za with pa := a.pa, pc := a.pc } rfl
 have c4x : wy13.cell? ⟨g3, 5, none⟩ = some (.string ⟨#[]⟩) := s3.non 5
 have f4x := s3.nfz 5
 refine take_op 20 175 ?v20 rfl rfl (by kernel_rfl) (fun _ _ _ h => h) (by rfl) s3.out.1 (fun w' hS' => ?hv20) ?hh20
 case hv20 => (go_simp; try with_reducible rfl)
 simp only [Act.put, List.setIfInBounds_toArray, List.set_cons_zero, List.set_cons_succ]
 refine only_op 21 rfl (by kernel_rfl) (by rfl) (wp_store_none 9 (.tmp 175) (.tmp 168) rfl rfl _ _ rfl rfl (by go_simp) ⟨s4.out.1, ?_⟩)
 clear c4x f4x
 generalize World.setCell _ _ _ = wy14 at s4 ⊢
 have s5 := s4.put 6 (.string p.b) { zp 3 with ps := p.ps, dup := p.dup, q := p.q, ret := p.ret, id := p.id, t := p.t, b := p.b } { za with pa := a.pa, pc := a.pc } rfl
 have c5x : wy14.cell? ⟨g3, 6, none⟩ = some (.string ⟨#[]⟩) := s4.non 6
 have f5x := s4.nfz 6
 refine take_op 22 176 ?v22 rfl rfl (by kernel_rfl) (fun _ _ _ h => h) (by rfl) s4.out.1 (fun w' hS' => ?hv22) ?hh22
 case hv22 => (go_simp; try with_reducible rfl)
 simp only [Act.put, List.setIfInBounds_toArray, List.set_cons_zero, List.set_cons_succ]
 refine only_op 23 rfl (by kernel_rfl) (by rfl) (wp_store_none 9 (.tmp 176) (.tmp 170) rfl rfl _ _ rfl rfl (by go_simp) ⟨s5.out.1, ?_⟩)
 refine wpAnyH_done (by kernel_rfl) ?_ _
 have HP4 := Lib.hid s5
 clear hHeld hBox s0 s1 s2 s3 s4 s5 c5x f5x
 generalize World.setCell _ _ _ = w4 at HP4 ⊢
 have c1 : w4.cell? ⟨g, 1, none⟩ = some (.bool p.dup) := HP4.out.arg 1
 have c2 : w4.cell? ⟨g, 2, none⟩ = some (.int .i64 p.q) := HP4.out.arg 2
 have c4 : w4.cell? ⟨g, 4, none⟩ = some (.int .i64 p.id) := HP4.out.arg 4
 have c5 : w4.cell? ⟨g, 5, none⟩ = some (.string p.t) := HP4.out.arg 5
 have c6 : w4.cell? ⟨g, 6, none⟩ = some (.string p.b) := HP4.out.arg 6
 obtain ⟨X, hX⟩ : ∃ X, dq3 p = X := ⟨_, rfl⟩
 have HX := Lib.hid hX
 have HXG : Hid (X = false → b = false) := by
  show X = false → b = false
  exact fun e => not_good HBB.out (by rw [HDOC.out, hX, e, Bool.false_and, Bool.and_false, Bool.and_false])
 have HXT : Hid (X = true → goodP p = eqP p { zp 3 with ps := p.ps, dup := p.dup, q := p.q, ret := p.ret, id := p.id, t := p.t, b := p.b }) := by
  show X = true → goodP p = eqP p { zp 3 with ps := p.ps, dup := p.dup, q := p.q, ret := p.ret, id := p.id, t := p.t, b := p.b }
  exact fun e => by rw [HDOC.out, hx1, hx2, hX, e]; rfl
 clear hX HDOC
 cases hx3 : inB p.q 2 with
 | false =>
  have hF := Lib.hid (HXG.out (by rw [← HX.out]; simp [dq3, hx3]))
  clear HFIT HBB HXT HXG HX
  go_wp2_with (first | (go_at_call 34; refine (ZNum_is _ _ _ _ rfl).mono ?_; rintro e w' ⟨rfl, rfl⟩) | (go_at_call 38; refine (rid_is _ _ _ rfl).mono ?_; rintro e w' ⟨rfl, rfl⟩) | (go_at_call 36; refine (rtext_is _ _ _ rfl).mono ?_; rintro e w' ⟨rfl, rfl⟩))
  go_ret
  exact ⟨(by rw [hF.out]; try rfl), HP4.out.b⟩
 | true =>
 by_cases hq0 : p.q = 0
 ·have hx3b : inB 0 2 = true := rfl
  rw [hq0] at c2
  have hnn : ¬ 0 < p.q := by omega
  clear hx3b
  have hx3b : inB 0 2 = true := rfl
  by_cases hid0 : p.id = 0
  ·rw [hid0] at c4
   cases hdup : p.dup with
   | true =>
    rw [hdup] at c1
    have hF := Lib.hid (HXG.out (by rw [← HX.out]; simp [dq3, hq0, hid0, hdup]))
    clear HFIT HBB HXT HXG HX
    go_wp2_with (first | (go_at_call 34; refine (ZNum_is _ _ _ _ rfl).mono ?_; rintro e w' ⟨rfl, rfl⟩) | (go_at_call 38; refine (rid_is _ _ _ rfl).mono ?_; rintro e w' ⟨rfl, rfl⟩) | (go_at_call 36; refine (rtext_is _ _ _ rfl).mono ?_; rintro e w' ⟨rfl, rfl⟩))
    go_ret
    exact ⟨(by rw [hF.out]; try rfl), HP4.out.b⟩
   | false =>
   rw [hdup] at c1
   cases hx5 : textB p.t with
   | false =>
    have hF := Lib.hid (HXG.out (by rw [← HX.out]; simp [dq3, hq0, hid0, hdup, hx5]))
    clear HFIT HBB HXT HXG HX
    go_wp2_with (first | (go_at_call 34; refine (ZNum_is _ _ _ _ rfl).mono ?_; rintro e w' ⟨rfl, rfl⟩) | (go_at_call 38; refine (rid_is _ _ _ rfl).mono ?_; rintro e w' ⟨rfl, rfl⟩) | (go_at_call 36; refine (rtext_is _ _ _ rfl).mono ?_; rintro e w' ⟨rfl, rfl⟩))
    go_ret
    exact ⟨(by rw [hF.out]; try rfl), HP4.out.b⟩
   | true =>
   by_cases hb8 : 1024 < p.b.size
   ·have hd : decide ((1024 : Int) < (p.b.size : Int)) = true := decide_eq_true (by omega)
    have hd2 : ¬ p.b.size ≤ 1024 := by omega
    have hF := Lib.hid (HXG.out (by rw [← HX.out]; simp [dq3, hq0, hid0, hdup, hx5, hd2]))
    clear HFIT HBB HXT HXG HX
    go_wp2_with (first | (go_at_call 34; refine (ZNum_is _ _ _ _ rfl).mono ?_; rintro e w' ⟨rfl, rfl⟩) | (go_at_call 38; refine (rid_is _ _ _ rfl).mono ?_; rintro e w' ⟨rfl, rfl⟩) | (go_at_call 36; refine (rtext_is _ _ _ rfl).mono ?_; rintro e w' ⟨rfl, rfl⟩))
    go_ret
    exact ⟨(by rw [hF.out]; try rfl), HP4.out.b⟩
   have hd : decide ((1024 : Int) < (p.b.size : Int)) = false := decide_eq_false (by omega)
   have hd2 : p.b.size ≤ 1024 := by omega
   have HGOOD := Lib.hid (HXT.out (by rw [← HX.out]; simp [dq3, hx3b, hq0, hid0, hdup, hx5, hd2]))
   go_upto_region 51 with (first | (go_at_call 34; refine (ZNum_is _ _ _ _ rfl).mono ?_; rintro e w' ⟨rfl, rfl⟩) | (go_at_call 38; refine (rid_is _ _ _ rfl).mono ?_; rintro e w' ⟨rfl, rfl⟩) | (go_at_call 36; refine (rtext_is _ _ _ rfl).mono ?_; rintro e w' ⟨rfl, rfl⟩))
   clear HXT HXG HX hq0 hid0 hdup hx5 hb8 hd hd2 hnn hx3b hx3 c1 c2 c4 c5 c6
   have hld1 := load_bx HP4.out.out.1
   have hld3 := load_bx HP4.out.out.2.1
   have HQ := Lib.hid (asked HBB.out HGOOD.out)
   obtain ⟨hna, hnh⟩ := HP4.out.nat (.inl rfl) (.inl rfl) (.inl rfl) (.inr ⟨rfl, rfl⟩)
   have HE := Lib.hid (EqPacket_is p ({ zp 3 with ps := p.ps, dup := p.dup, q := p.q, ret := p.ret, id := p.id, t := p.t, b := p.b }) a ({ za with pa := a.pa, pc := a.pc }) w4 (fit_len HFIT.out) hnh HP4.out.at hna)
   clear hna hnh HGOOD
   go_wp2_with (first | (refine wpList_load_any (by rfl) 30 (.tmp 1) rfl g 0 rfl _ hld1 ?_) | (refine wpList_load_any (by rfl) 30 (.tmp 3) rfl g3 0 rfl _ hld3 ?_))
   refine HE.out.mono ?_
   rintro e w5 ⟨rfl, hb5⟩
   have HP5 := Lib.hid (HP4.out.below hb5)
   clear hb5 hld1 hld3 HE
   cases hq : eqP p ({ zp 3 with ps := p.ps, dup := p.dup, q := p.q, ret := p.ret, id := p.id, t := p.t, b := p.b }) with
   | false =>
    have hF := Lib.hid (HQ.out.no hq)
    go_wp2_with fail
    go_ret
    exact ⟨(by rw [hF.out]; try rfl), HP5.out.b⟩
   | true =>
    obtain ⟨hgd, hbb⟩ := HQ.out.yes hq
    obtain ⟨S, hS⟩ : ∃ S, strP p = S := ⟨_, rfl⟩
    have HBy := Lib.hid (RB_3 p a S w5 HP5.out.at HKD.out hgd hS)
    rw [hS] at hbb
    have HBB2 := Lib.hid hbb
    have hld1 := load_bx HP5.out.out.1
    clear hgd hbb hS hq HQ
    go_wp2_with (refine wpList_load_any (by rfl) 30 (.tmp 1) rfl g 0 rfl _ hld1 ?_)
    refine HBy.out.mono ?_
    rintro e w6 ⟨rfl, hb6⟩
    have HB6 := Lib.hid (HP5.out.below hb6).b
    clear hb6 hld1 HBy HP5
    by_cases h8 : S.size ≤ 8192
    ·have hd : decide ((S.size : Int) ≤ 8192) = true := decide_eq_true (by omega)
     go_wp2_with fail
     go_ret
     exact ⟨(by rw [HBB2.out, decide_eq_true h8]; try rfl), HB6.out⟩
    ·have hd : decide ((S.size : Int) ≤ 8192) = false := decide_eq_false (by omega)
     go_wp2_with fail
     go_ret
     exact ⟨(by rw [HBB2.out, decide_eq_false h8]; try rfl), HB6.out⟩
  have hb0 : (p.id == 0) = false := ne_false hid0
  have hb1 := ne_true hid0
  have hF := Lib.hid (HXG.out (by rw [← HX.out]; simp [dq3, hq0, hid0]))
  clear HFIT HBB HXT HXG HX
  go_wp2_with (first | (go_at_call 34; refine (ZNum_is _ _ _ _ rfl).mono ?_; rintro e w' ⟨rfl, rfl⟩) | (go_at_call 38; refine (rid_is _ _ _ rfl).mono ?_; rintro e w' ⟨rfl, rfl⟩) | (go_at_call 36; refine (rtext_is _ _ _ rfl).mono ?_; rintro e w' ⟨rfl, rfl⟩))
  go_ret
  exact ⟨(by rw [hF.out]; try rfl), HP4.out.b⟩
 have hqp : 0 < p.q := by unfold inB at hx3; have := of_decide_eq_true hx3; omega
 have hqd : decide (0 < p.q) = true := decide_eq_true hqp
 have hqe : (p.q == 0) = false := ne_false hq0
 cases hx4 : idB p.id with
 | false =>
  have hF := Lib.hid (HXG.out (by rw [← HX.out]; simp [dq3, hx3, hq0, hqp, hx4]))
  clear HFIT HBB HXT HXG HX
  go_wp2_with (first | (go_at_call 34; refine (ZNum_is _ _ _ _ rfl).mono ?_; rintro e w' ⟨rfl, rfl⟩) | (go_at_call 38; refine (rid_is _ _ _ rfl).mono ?_; rintro e w' ⟨rfl, rfl⟩) | (go_at_call 36; refine (rtext_is _ _ _ rfl).mono ?_; rintro e w' ⟨rfl, rfl⟩))
  go_ret
  exact ⟨(by rw [hF.out]; try rfl), HP4.out.b⟩
 | true =>
 cases hx5 : textB p.t with
 | false =>
  have hF := Lib.hid (HXG.out (by rw [← HX.out]; simp [dq3, hx3, hq0, hqp, hx4, hx5]))
  clear HFIT HBB HXT HXG HX
  go_wp2_with (first | (go_at_call 34; refine (ZNum_is _ _ _ _ rfl).mono ?_; rintro e w' ⟨rfl, rfl⟩) | (go_at_call 38; refine (rid_is _ _ _ rfl).mono ?_; rintro e w' ⟨rfl, rfl⟩) | (go_at_call 36; refine (rtext_is _ _ _ rfl).mono ?_; rintro e w' ⟨rfl, rfl⟩))
  go_ret
  exact ⟨(by rw [hF.out]; try rfl), HP4.out.b⟩
 | true =>
 by_cases hb8 : 1024 < p.b.size
 ·have hd : decide ((1024 : Int) < (p.b.size : Int)) = true := decide_eq_true (by omega)
  have hd2 : ¬ p.b.size ≤ 1024 := by omega
  have hF := Lib.hid (HXG.out (by rw [← HX.out]; simp [dq3, hx3, hq0, hqp, hx4, hx5, hd2]))
  clear HFIT HBB HXT HXG HX
  go_wp2_with (first | (go_at_call 34; refine (ZNum_is _ _ _ _ rfl).mono ?_; rintro e w' ⟨rfl, rfl⟩) | (go_at_call 38; refine (rid_is _ _ _ rfl).mono ?_; rintro e w' ⟨rfl, rfl⟩) | (go_at_call 36; refine (rtext_is _ _ _ rfl).mono ?_; rintro e w' ⟨rfl, rfl⟩))
  go_ret
  exact ⟨(by rw [hF.out]; try rfl), HP4.out.b⟩
 have hd : decide ((1024 : Int) < (p.b.size : Int)) = false := decide_eq_false (by omega)
 have hd2 : p.b.size ≤ 1024 := by omega
 have HGOOD := Lib.hid (HXT.out (by rw [← HX.out]; simp [dq3, hx3, hq0, hqp, hx4, hx5, hd2]))
 go_upto_region 51 with (first | (go_at_call 34; refine (ZNum_is _ _ _ _ rfl).mono ?_; rintro e w' ⟨rfl, rfl⟩) | (go_at_call 38; refine (rid_is _ _ _ rfl).mono ?_; rintro e w' ⟨rfl, rfl⟩) | (go_at_call 36; refine (rtext_is _ _ _ rfl).mono ?_; rintro e w' ⟨rfl, rfl⟩))
 clear HXT HXG HX hqp hqd hqe hx4 hx5 hb8 hd hd2 hx3 c1 c2 c4 c5 c6
 have hld1 := load_bx HP4.out.out.1
 have hld3 := load_bx HP4.out.out.2.1
 have HQ := Lib.hid (asked HBB.out HGOOD.out)
 obtain ⟨hna, hnh⟩ := HP4.out.nat (.inl rfl) (.inl rfl) (.inl rfl) (.inr ⟨rfl, rfl⟩)
 have HE := Lib.hid (EqPacket_is p ({ zp 3 with ps := p.ps, dup := p.dup, q := p.q, ret := p.ret, id := p.id, t := p.t, b := p.b }) a ({ za with pa := a.pa, pc := a.pc }) w4 (fit_len HFIT.out) hnh HP4.out.at hna)
 clear hna hnh HGOOD
 go_wp2_with (first | (refine wpList_load_any (by rfl) 30 (.tmp 1) rfl g 0 rfl _ hld1 ?_) | (refine wpList_load_any (by rfl) 30 (.tmp 3) rfl g3 0 rfl _ hld3 ?_))
 refine HE.out.mono ?_
 rintro e w5 ⟨rfl, hb5⟩
 have HP5 := Lib.hid (HP4.out.below hb5)
 clear hb5 hld1 hld3 HE
 cases hq : eqP p ({ zp 3 with ps := p.ps, dup := p.dup, q := p.q, ret := p.ret, id := p.id, t := p.t, b := p.b }) with
 | false =>
  have hF := Lib.hid (HQ.out.no hq)
  go_wp2_with fail
  go_ret
  exact ⟨(by rw [hF.out]; try rfl), HP5.out.b⟩
 | true =>
  obtain ⟨hgd, hbb⟩ := HQ.out.yes hq
  obtain ⟨S, hS⟩ : ∃ S, strP p = S := ⟨_, rfl⟩
  have HBy := Lib.hid (RB_3 p a S w5 HP5.out.at HKD.out hgd hS)
  rw [hS] at hbb
  have HBB2 := Lib.hid hbb
  have hld1 := load_bx HP5.out.out.1
  clear hgd hbb hS hq HQ
  go_wp2_with (refine wpList_load_any (by rfl) 30 (.tmp 1) rfl g 0 rfl _ hld1 ?_)
  refine HBy.out.mono ?_
  rintro e w6 ⟨rfl, hb6⟩
  have HB6 := Lib.hid (HP5.out.below hb6).b
  clear hb6 hld1 HBy HP5
  by_cases h8 : S.size ≤ 8192
  ·have hd : decide ((S.size : Int) ≤ 8192) = true := decide_eq_true (by omega)
   go_wp2_with fail
   go_ret
   exact ⟨(by rw [HBB2.out, decide_eq_true h8]; try rfl), HB6.out⟩
  ·have hd : decide ((S.size : Int) ≤ 8192) = false := decide_eq_false (by omega)
   go_wp2_with fail
   go_ret
   exact ⟨(by rw [HBB2.out, decide_eq_false h8]; try rfl), HB6.out⟩
open Go.RowKit Go.Lib Prp Pkt Vbi
theorem rpacket_4 (p : Pk) (a : Ad) (b : Bool) (w : World) (hf : PkFit p a) (h : PkAt w w.heap.size p a) (hk : p.kind = 4) (hb : packB p = b) :
  Calls Tryz.prog 9 #[.agg (pkArr p a)] w fun e w' => e = .returned (.bool b) ∧ Below w.heap.size w w' := by
 have HFIT := Lib.hid hf
 have HBB := Lib.hid hb
 have HDOC := Lib.hid (doc_4 hk)
 have hb1 := Box.new w 30 (pkArr p a)
 have ha1 := (Below.refl w.heap.size w).alloc (Nat.le_refl _) (.cells (pkArr p a) 30)
 obtain ⟨W1, hW⟩ : ∃ W1, w.alloc (.cells (pkArr p a) 30) = W1 := ⟨_, rfl⟩
 rw [hW] at hb1 ha1
 obtain ⟨g, hg⟩ : ∃ g, w.heap.size = g := ⟨_, rfl⟩
 rw [hg] at hb1
 have hgl := hb1.lt
 have hb3 := Box.new W1 30 (pkArr (zp 0) za)
 have ha3 := (Below.refl W1.heap.size W1).alloc (Nat.le_refl _) (.cells (pkArr (zp 0) za) 30)
 obtain ⟨W2, hW2⟩ : ∃ W2, W1.alloc (.cells (pkArr (zp 0) za) 30) = W2 := ⟨_, rfl⟩
 rw [hW2] at hb3 ha3
 obtain ⟨g3, hg3⟩ : ∃ g, W1.heap.size = g := ⟨_, rfl⟩
 rw [hg3] at hb3 hgl
 obtain ⟨W3, hW3⟩ : ∃ W3, W2.setRow g3 (pkArr (zp 4) za) = W3 := ⟨_, rfl⟩
 have hr3 := Bar.row g3 W2 (pkArr (zp 4) za)
 have hx1 : Box W3 g (pkArr p a) := by rw [← hW3]; exact hr3.box (hb1.below (ha3.mono (by omega))) (by omega)
 have hx3 : Box W3 g3 (pkArr (zp 4) za) := by rw [← hW3]; exact hb3.row _
 have hbw : Below w.heap.size w W3 := by rw [← hW3]; exact hr3.below (ha1.trans (ha3.mono (by have := ha1.size; omega))) (by omega) (by have := ha1.size; have := ha3.size; omega)
 have HP := Lib.hid (Pair.mk (w := w) (g := g) (g3 := g3) (p := p) (a := a) (N := zp 4) (a' := za) (W := W3) ⟨hx1, hx3, h.below hbw, hbw, by omega, by omega, by omega⟩)
 have c0 : W1.cell? ⟨g, 0, none⟩ = some (.int .i64 4) := by rw [hb1.cell, ← hk]; rfl
 have HB3 := Lib.hid hb3
 have HW3 := Lib.hid hW3
 have HG := Lib.hid hg
 have HG3 := Lib.hid hg3
 simp only [pkArr, zp, za, zw, List.length_nil] at hW2
 have HW2 := Lib.hid hW2
 unfold pkArr at hW ⊢
 have HW := Lib.hid hW
 have HKD := Lib.hid hk
 clear hW hW2 hW3 hb1 ha1 hb3 ha3 hr3 hx1 hx3 hbw hgl hf h hk hb hg hg3
 go_enter Tryz.func9, Tryz.ntmps9
 go_upto_region 1 with fail
 rw [HW.out, HG.out]
 generalize Value.agg _ = v0
 have hg3 := HG3.out
 go_upto_region 2 with (first | (refine wpList_build_kind rfl (.tmp 9) rfl 4 rfl ?_) | (rw [HW2.out]; refine wpList_store_whole rfl 30 (.tmp 3) (.tmp 10) rfl g3 (pkArr (zp 4) za) rfl rfl (pkArr (zp 0) za) HB3.out info_pk rfl (one_pk _ _) ?_; simp only [Act.put]))
 rw [HW3.out]
 clear hg3 c0 HW HW2 HW3 HB3 HG HG3
 have c0 : W3.cell? ⟨g, 0, none⟩ = some (.int .i64 4) := by rw [HP.out.arg, ← HKD.out]; rfl
 have c7 : W3.cell? ⟨g, 7, none⟩ = some (.int .i64 p.re) := HP.out.arg 7
 have c24 : W3.cell? ⟨g, 24, none⟩ = some (.slice a.pa p.ps.length a.pc) := HP.out.arg 24
 cases hx1 : inB p.re 255 with
 | false =>
  have hF := Lib.hid (not_good HBB.out (by rw [HDOC.out, hx1]; rfl))
  clear HFIT HBB HDOC
  go_wp2_with (first | (go_at_call 34; refine (ZNum_is _ _ _ _ rfl).mono ?_; rintro e w' ⟨rfl, rfl⟩) | (go_at_call 38; refine (rid_is _ _ _ rfl).mono ?_; rintro e w' ⟨rfl, rfl⟩) | (go_at_call 36; refine (rtext_is _ _ _ rfl).mono ?_; rintro e w' ⟨rfl, rfl⟩))
  go_ret
  exact ⟨(by rw [hF.out]; try rfl), HP.out.b⟩
 | true =>
 have HPR := Lib.hid ((RProps_is 4 p.ps a.pa a.pc _ W3 HFIT.out.pl1.1 HFIT.out.pl1.2 HFIT.out.ps HP.out.at.ps rfl).mono fun e w' (q : e = .returned (.bool (propsB 4 p.ps)) ∧ Below W3.heap.size W3 w') => q)
 cases hx2 : propsB 4 p.ps with
 | false =>
  have hF := Lib.hid (not_good HBB.out (by rw [HDOC.out, hx1, hx2]; rfl))
  clear HFIT HBB HDOC
  go_wp2_with (first | (go_at_call 34; refine (ZNum_is _ _ _ _ rfl).mono ?_; rintro e w' ⟨rfl, rfl⟩) | (go_at_call 38; refine (rid_is _ _ _ rfl).mono ?_; rintro e w' ⟨rfl, rfl⟩) | (go_at_call 36; refine (rtext_is _ _ _ rfl).mono ?_; rintro e w' ⟨rfl, rfl⟩))
  refine HPR.out.mono ?_
  rintro e w1 ⟨rfl, hb1⟩
  have HP2 := Lib.hid (HP.out.below hb1)
  clear hb1 HP HPR c0 c7 c24
  go_wp2_with (first | (go_at_call 34; refine (ZNum_is _ _ _ _ rfl).mono ?_; rintro e w' ⟨rfl, rfl⟩) | (go_at_call 38; refine (rid_is _ _ _ rfl).mono ?_; rintro e w' ⟨rfl, rfl⟩) | (go_at_call 36; refine (rtext_is _ _ _ rfl).mono ?_; rintro e w' ⟨rfl, rfl⟩))
  go_ret
  exact ⟨(by rw [hF.out]; try rfl), HP2.out.b⟩
 | true =>
 go_wp2_with (first | (go_at_call 34; refine (ZNum_is _ _ _ _ rfl).mono ?_; rintro e w' ⟨rfl, rfl⟩) | (go_at_call 38; refine (rid_is _ _ _ rfl).mono ?_; rintro e w' ⟨rfl, rfl⟩) | (go_at_call 36; refine (rtext_is _ _ _ rfl).mono ?_; rintro e w' ⟨rfl, rfl⟩))
 refine HPR.out.mono ?_
 rintro e w1 ⟨rfl, hb1⟩
 have HP2 := Lib.hid (HP.out.below hb1)
 clear hb1 HP HPR c0 c7 c24
 have c24 : w1.cell? ⟨g, 24, none⟩ = some (.slice a.pa p.ps.length a.pc) := HP2.out.arg 24
 have d24 : w1.cell? ⟨g3, 24, none⟩ = some (.slice none 0 0) := HP2.out.non 24
 have f24 := HP2.out.nfz 24
 have hne3 : ¬ g = g3 := HP2.out.out.2.2.2.2.2.2
 go_upto_region 5 with fail
 have HP3 := Lib.hid (HP2.out.put 24 (.slice a.pa p.ps.length a.pc) { zp 4 with ps := p.ps } { za with pa := a.pa, pc := a.pc } rfl)
 clear HP2 c24 d24 f24
 generalize World.setCell _ _ _ = w3 at HP3 ⊢
 have c0 : w3.cell? ⟨g, 0, none⟩ = some (.int .i64 4) := by rw [HP3.out.arg, ← HKD.out]; rfl
 go_upto_region 24 with fail
 have hHeld : Pair w g g3 p a { zp 4 with ps := p.ps } { za with pa := a.pa, pc := a.pc } (World.drew w3) := HP3.out.below (below_drewN (Below.refl _ _) 1)
 clear HP3 c0
 refine wp_region_held_drew (S := fun W => Box W g (pkArr p a)) (by kernel_rfl) hHeld.out.1 (fun hBox => ?_)
 generalize World.drew w3 = Wd at hHeld hBox ⊢
 refine take_op 0 223 ?v0 rfl rfl (by kernel_rfl) (fun _ _ _ h => h) (by rfl) hBox (fun w' hS' => ?hv0) ?hh0
 case hv0 => (go_simp; try with_reducible rfl)
 simp only [Act.put, List.setIfInBounds_toArray, List.set_cons_zero, List.set_cons_succ]
 refine take_op 1 224 ?v1 rfl rfl (by kernel_rfl) (fun _ _ _ h => h) (by rfl) hBox (fun w' hS' => ?hv1) ?hh1
 case hv1 => (have k : w'.cell? ⟨g, 4, none⟩ = some (.int .i64 p.id) := Box.cell hS' 4; go_simp; try with_reducible rfl)
 simp only [Act.put, List.setIfInBounds_toArray, List.set_cons_zero, List.set_cons_succ]
 refine take_op 2 225 ?v2 rfl rfl (by kernel_rfl) (fun _ _ _ h => h) (by rfl) hBox (fun w' hS' => ?hv2) ?hh2
 case hv2 => (go_simp; try with_reducible rfl)
 simp only [Act.put, List.setIfInBounds_toArray, List.set_cons_zero, List.set_cons_succ]
 refine take_op 3 226 ?v3 rfl rfl (by kernel_rfl) (fun _ _ _ h => h) (by rfl) hBox (fun w' hS' => ?hv3) ?hh3
 case hv3 => (have k : w'.cell? ⟨g, 7, none⟩ = some (.int .i64 p.re) := Box.cell hS' 7; go_simp; try with_reducible rfl)
 simp only [Act.put, List.setIfInBounds_toArray, List.set_cons_zero, List.set_cons_succ]
 refine take_op 4 227 ?v4 rfl rfl (by kernel_rfl) (fun _ _ _ h => h) (by rfl) hBox (fun w' hS' => ?hv4) ?hh4
 case hv4 => (go_simp; try with_reducible rfl)
 simp only [Act.put, List.setIfInBounds_toArray, List.set_cons_zero, List.set_cons_succ]
 have s0 := hHeld.put 4 (.int .i64 p.id) { zp 4 with ps := p.ps, id := p.id } { za with pa := a.pa, pc := a.pc } rfl
 have c0x : Wd.cell? ⟨g3, 4, none⟩ = some (.int .i64 0) := hHeld.non 4
 have f0x := hHeld.nfz 4
 refine only_op 5 rfl (by kernel_rfl) (by rfl) (wp_store_one 3 (.tmp 227) (.tmp 224) rfl _ _ rfl rfl (by go_simp) ⟨s0.out.1, ?_⟩)
 simp only [Act.put]
 have s1 := s0.put 7 (.int .i64 p.re) { zp 4 with ps := p.ps, id := p.id, re := p.re } { za with pa := a.pa, pc := a.pc } rfl
 have c1x : (Wd.setCell ⟨g3, 4, none⟩ (.int .i64 p.id)).cell? ⟨g3, 7, none⟩ = some (.int .i64 0) := s0.non 7
 have f1x := s0.nfz 7
 refine take_op 6 228 ?v6 rfl rfl (by kernel_rfl) (fun _ _ _ h => h) (by rfl) s0.out.1 (fun w' hS' => ?hv6) ?hh6
 case hv6 => (go_simp; try with_reducible rfl)
 simp only [Act.put, List.setIfInBounds_toArray]
 refine only_op 7 rfl (by kernel_rfl) (by rfl) (wp_store_one 3 (.tmp 228) (.tmp 226) rfl _ _ rfl rfl (by go_simp) ⟨s1.out.1, ?_⟩)
 simp only [Act.put]
 refine wpAnyH_done (by kernel_rfl) ?_ _
 have HP4 := Lib.hid s1
 clear hHeld hBox s0 c0x f0x s1 c1x f1x
 generalize World.setCell _ _ _ = w4 at HP4 ⊢
 have c4 : w4.cell? ⟨g, 4, none⟩ = some (.int .i64 p.id) := HP4.out.arg 4
 cases hx3 : idB p.id with
 | false =>
  have hF := Lib.hid (not_good HBB.out (by rw [HDOC.out, hx1, hx2, hx3]; rfl))
  clear HFIT HBB HDOC
  go_wp2_with (first | (go_at_call 34; refine (ZNum_is _ _ _ _ rfl).mono ?_; rintro e w' ⟨rfl, rfl⟩) | (go_at_call 38; refine (rid_is _ _ _ rfl).mono ?_; rintro e w' ⟨rfl, rfl⟩) | (go_at_call 36; refine (rtext_is _ _ _ rfl).mono ?_; rintro e w' ⟨rfl, rfl⟩))
  go_ret
  exact ⟨(by rw [hF.out]; try rfl), HP4.out.b⟩
 | true =>
 have HGOOD : Hid (goodP p = eqP p { zp 4 with ps := p.ps, id := p.id, re := p.re }) := by show _ = _; rw [HDOC.out, hx1, hx2, hx3]; rfl
 go_upto_region 51 with (first | (go_at_call 34; refine (ZNum_is _ _ _ _ rfl).mono ?_; rintro e w' ⟨rfl, rfl⟩) | (go_at_call 38; refine (rid_is _ _ _ rfl).mono ?_; rintro e w' ⟨rfl, rfl⟩) | (go_at_call 36; refine (rtext_is _ _ _ rfl).mono ?_; rintro e w' ⟨rfl, rfl⟩))
 clear c4
 have hld1 := load_bx HP4.out.out.1
 have hld3 := load_bx HP4.out.out.2.1
 have HQ := Lib.hid (asked HBB.out HGOOD.out)
 obtain ⟨hna, hnh⟩ := HP4.out.nat (.inl rfl) (.inl rfl) (.inl rfl) (.inr ⟨rfl, rfl⟩)
 have HE := Lib.hid (EqPacket_is p ({ zp 4 with ps := p.ps, id := p.id, re := p.re }) a ({ za with pa := a.pa, pc := a.pc }) w4 (fit_len HFIT.out) hnh HP4.out.at hna)
 clear hna hnh HGOOD
 go_wp2_with (first | (refine wpList_load_any (by rfl) 30 (.tmp 1) rfl g 0 rfl _ hld1 ?_) | (refine wpList_load_any (by rfl) 30 (.tmp 3) rfl g3 0 rfl _ hld3 ?_))
 refine HE.out.mono ?_
 rintro e w5 ⟨rfl, hb5⟩
 have HP5 := Lib.hid (HP4.out.below hb5)
 clear hb5 hld1 hld3 HE
 cases hq : eqP p ({ zp 4 with ps := p.ps, id := p.id, re := p.re }) with
 | false =>
  have hF := Lib.hid (HQ.out.no hq)
  go_wp2_with fail
  go_ret
  exact ⟨(by rw [hF.out]; try rfl), HP5.out.b⟩
 | true =>
  obtain ⟨hgd, hbb⟩ := HQ.out.yes hq
  obtain ⟨S, hS⟩ : ∃ S, strP p = S := ⟨_, rfl⟩
  have HBy := Lib.hid (RB_4 p a S w5 HP5.out.at HKD.out hgd hS)
  rw [hS] at hbb
  have HBB2 := Lib.hid hbb
  have hld1 := load_bx HP5.out.out.1
  clear hgd hbb hS hq HQ
  go_wp2_with (refine wpList_load_any (by rfl) 30 (.tmp 1) rfl g 0 rfl _ hld1 ?_)
  refine HBy.out.mono ?_
  rintro e w6 ⟨rfl, hb6⟩
  have HB6 := Lib.hid (HP5.out.below hb6).b
  clear hb6 hld1 HBy HP5
  by_cases h8 : S.size ≤ 8192
  ·have hd : decide ((S.size : Int) ≤ 8192) = true := decide_eq_true (by omega)
   go_wp2_with fail
   go_ret
   exact ⟨(by rw [HBB2.out, decide_eq_true h8]; try rfl), HB6.out⟩
  ·have hd : decide ((S.size : Int) ≤ 8192) = false := decide_eq_false (by omega)
   go_wp2_with fail
   go_ret
   exact ⟨(by rw [HBB2.out, decide_eq_false h8]; try rfl), HB6.out⟩
open Go.RowKit Go.Lib Prp Pkt Vbi
theorem rpacket_5 (p : Pk) (a : Ad) (b : Bool) (w : World) (hf : PkFit p a) (h : PkAt w w.heap.size p a) (hk : p.kind = 5) (hb : packB p = b) :
  Calls Tryz.prog 9 #[.agg (pkArr p a)] w fun e w' => e = .returned (.bool b) ∧ Below w.heap.size w w' := by
 have HFIT := Lib.hid hf
 have HBB := Lib.hid hb
 have HDOC := Lib.hid (doc_5 hk)
 have hb1 := Box.new w 30 (pkArr p a)
 have ha1 := (Below.refl w.heap.size w).alloc (Nat.le_refl _) (.cells (pkArr p a) 30)
 obtain ⟨W1, hW⟩ : ∃ W1, w.alloc (.cells (pkArr p a) 30) = W1 := ⟨_, rfl⟩
 rw [hW] at hb1 ha1
 obtain ⟨g, hg⟩ : ∃ g, w.heap.size = g := ⟨_, rfl⟩
 rw [hg] at hb1
 have hgl := hb1.lt
 have hb3 := Box.new W1 30 (pkArr (zp 0) za)
 have ha3 := (Below.refl W1.heap.size W1).alloc (Nat.le_refl _) (.cells (pkArr (zp 0) za) 30)
 obtain ⟨W2, hW2⟩ : ∃ W2, W1.alloc (.cells (pkArr (zp 0) za) 30) = W2 := ⟨_, rfl⟩
 rw [hW2] at hb3 ha3
 obtain ⟨g3, hg3⟩ : ∃ g, W1.heap.size = g := ⟨_, rfl⟩
 rw [hg3] at hb3 hgl
 obtain ⟨W3, hW3⟩ : ∃ W3, W2.setRow g3 (pkArr (zp 5) za) = W3 := ⟨_, rfl⟩
 have hr3 := Bar.row g3 W2 (pkArr (zp 5) za)
 have hx1 : Box W3 g (pkArr p a) := by rw [← hW3]; exact hr3.box (hb1.below (ha3.mono (by omega))) (by omega)
 have hx3 : Box W3 g3 (pkArr (zp 5) za) := by rw [← hW3]; exact hb3.row _
 have hbw : Below w.heap.size w W3 := by rw [← hW3]; exact hr3.below (ha1.trans (ha3.mono (by have := ha1.size; omega))) (by omega) (by have := ha1.size; have := ha3.size; omega)
 have HP := Lib.hid (Pair.mk (w := w) (g := g) (g3 := g3) (p := p) (a := a) (N := zp 5) (a' := za) (W := W3) ⟨hx1, hx3, h.below hbw, hbw, by omega, by omega, by omega⟩)
 have c0 : W1.cell? ⟨g, 0, none⟩ = some (.int .i64 5) := by rw [hb1.cell, ← hk]; rfl
 have HB3 := Lib.hid hb3
 have HW3 := Lib.hid hW3
 have HG := Lib.hid hg
 have HG3 := Lib.hid hg3
 simp only [pkArr, zp, za, zw, List.length_nil] at hW2
 have HW2 := Lib.hid hW2
 unfold pkArr at hW ⊢
 have HW := Lib.hid hW
 have HKD := Lib.hid hk
 clear hW hW2 hW3 hb1 ha1 hb3 ha3 hr3 hx1 hx3 hbw hgl hf h hk hb hg hg3
 go_enter Tryz.func9, Tryz.ntmps9
 go_upto_region 1 with fail
 rw [HW.out, HG.out]
 generalize Value.agg _ = v0
 have hg3 := HG3.out
 go_upto_region 2 with (first | (refine wpList_build_kind rfl (.tmp 9) rfl 5 rfl ?_) | (rw [HW2.out]; refine wpList_store_whole rfl 30 (.tmp 3) (.tmp 10) rfl g3 (pkArr (zp 5) za) rfl rfl (pkArr (zp 0) za) HB3.out info_pk rfl (one_pk _ _) ?_; simp only [Act.put]))
 rw [HW3.out]
 clear hg3 c0 HW HW2 HW3 HB3 HG HG3
 have c0 : W3.cell? ⟨g, 0, none⟩ = some (.int .i64 5) := by rw [HP.out.arg, ← HKD.out]; rfl
 have c7 : W3.cell? ⟨g, 7, none⟩ = some (.int .i64 p.re) := HP.out.arg 7
 have c24 : W3.cell? ⟨g, 24, none⟩ = some (.slice a.pa p.ps.length a.pc) := HP.out.arg 24
 cases hx1 : inB p.re 255 with
 | false =>
  have hF := Lib.hid (not_good HBB.out (by rw [HDOC.out, hx1]; rfl))
  clear HFIT HBB HDOC
  go_wp2_with (first | (go_at_call 34; refine (ZNum_is _ _ _ _ rfl).mono ?_; rintro e w' ⟨rfl, rfl⟩) | (go_at_call 38; refine (rid_is _ _ _ rfl).mono ?_; rintro e w' ⟨rfl, rfl⟩) | (go_at_call 36; refine (rtext_is _ _ _ rfl).mono ?_; rintro e w' ⟨rfl, rfl⟩))
  go_ret
  exact ⟨(by rw [hF.out]; try rfl), HP.out.b⟩
 | true =>
 have HPR := Lib.hid ((RProps_is 5 p.ps a.pa a.pc _ W3 HFIT.out.pl1.1 HFIT.out.pl1.2 HFIT.out.ps HP.out.at.ps rfl).mono fun e w' (q : e = .returned (.bool (propsB 5 p.ps)) ∧ Below W3.heap.size W3 w') => q)
 cases hx2 : propsB 5 p.ps with
 | false =>
  have hF := Lib.hid (not_good HBB.out (by rw [HDOC.out, hx1, hx2]; rfl))
  clear HFIT HBB HDOC
  go_wp2_with (first | (go_at_call 34; refine (ZNum_is _ _ _ _ rfl).mono ?_; rintro e w' ⟨rfl, rfl⟩) | (go_at_call 38; refine (rid_is _ _ _ rfl).mono ?_; rintro e w' ⟨rfl, rfl⟩) | (go_at_call 36; refine (rtext_is _ _ _ rfl).mono ?_; rintro e w' ⟨rfl, rfl⟩))
  refine HPR.out.mono ?_
  rintro e w1 ⟨rfl, hb1⟩
  have HP2 := Lib.hid (HP.out.below hb1)
  clear hb1 HP HPR c0 c7 c24
  go_wp2_with (first | (go_at_call 34; refine (ZNum_is _ _ _ _ rfl).mono ?_; rintro e w' ⟨rfl, rfl⟩) | (go_at_call 38; refine (rid_is _ _ _ rfl).mono ?_; rintro e w' ⟨rfl, rfl⟩) | (go_at_call 36; refine (rtext_is _ _ _ rfl).mono ?_; rintro e w' ⟨rfl, rfl⟩))
  go_ret
  exact ⟨(by rw [hF.out]; try rfl), HP2.out.b⟩
 | true =>
 go_wp2_with (first | (go_at_call 34; refine (ZNum_is _ _ _ _ rfl).mono ?_; rintro e w' ⟨rfl, rfl⟩) | (go_at_call 38; refine (rid_is _ _ _ rfl).mono ?_; rintro e w' ⟨rfl, rfl⟩) | (go_at_call 36; refine (rtext_is _ _ _ rfl).mono ?_; rintro e w' ⟨rfl, rfl⟩))
 refine HPR.out.mono ?_
 rintro e w1 ⟨rfl, hb1⟩
 have HP2 := Lib.hid (HP.out.below hb1)
 clear hb1 HP HPR c0 c7 c24
 have c24 : w1.cell? ⟨g, 24, none⟩ = some (.slice a.pa p.ps.length a.pc) := HP2.out.arg 24
 have d24 : w1.cell? ⟨g3, 24, none⟩ = some (.slice none 0 0) := HP2.out.non 24
 have f24 := HP2.out.nfz 24
 have hne3 : ¬ g = g3 := HP2.out.out.2.2.2.2.2.2
 go_upto_region 5 with fail
 have HP3 := Lib.hid (HP2.out.put 24 (.slice a.pa p.ps.length a.pc) { zp 5 with ps := p.ps } { za with pa := a.pa, pc := a.pc } rfl)
 clear HP2 c24 d24 f24
 generalize World.setCell _ _ _ = w3 at HP3 ⊢
 have c0 : w3.cell? ⟨g, 0, none⟩ = some (.int .i64 5) := by rw [HP3.out.arg, ← HKD.out]; rfl
 go_upto_region 24 with fail
 have hHeld : Pair w g g3 p a { zp 5 with ps := p.ps } { za with pa := a.pa, pc := a.pc } (World.drew w3) := HP3.out.below (below_drewN (Below.refl _ _) 1)
 clear HP3 c0
 refine wp_region_held_drew (S := fun W => Box W g (pkArr p a)) (by kernel_rfl) hHeld.out.1 (fun hBox => ?_)
 generalize World.drew w3 = Wd at hHeld hBox ⊢
 refine take_op 0 223 ?v0 rfl rfl (by kernel_rfl) (fun _ _ _ h => h) (by rfl) hBox (fun w' hS' => ?hv0) ?hh0
 case hv0 => (go_simp; try with_reducible rfl)
 simp only [Act.put, List.setIfInBounds_toArray, List.set_cons_zero, List.set_cons_succ]
 refine take_op 1 224 ?v1 rfl rfl (by kernel_rfl) (fun _ _ _ h => h) (by rfl) hBox (fun w' hS' => ?hv1) ?hh1
 case hv1 => (have k : w'.cell? ⟨g, 4, none⟩ = some (.int .i64 p.id) := Box.cell hS' 4; go_simp; try with_reducible rfl)
 simp only [Act.put, List.setIfInBounds_toArray, List.set_cons_zero, List.set_cons_succ]
 refine take_op 2 225 ?v2 rfl rfl (by kernel_rfl) (fun _ _ _ h => h) (by rfl) hBox (fun w' hS' => ?hv2) ?hh2
 case hv2 => (go_simp; try with_reducible rfl)
 simp only [Act.put, List.setIfInBounds_toArray, List.set_cons_zero, List.set_cons_succ]
 refine take_op 3 226 ?v3 rfl rfl (by kernel_rfl) (fun _ _ _ h => h) (by rfl) hBox (fun w' hS' => ?hv3) ?hh3
 case hv3 => (have k : w'.cell? ⟨g, 7, none⟩ = some (.int .i64 p.re) := Box.cell hS' 7; go_simp; try with_reducible rfl)
 simp only [Act.put, List.setIfInBounds_toArray, List.set_cons_zero, List.set_cons_succ]
 refine take_op 4 227 ?v4 rfl rfl (by kernel_rfl) (fun _ _ _ h => h) (by rfl) hBox (fun w' hS' => ?hv4) ?hh4
 case hv4 => (go_simp; try with_reducible rfl)
 simp only [Act.put, List.setIfInBounds_toArray, List.set_cons_zero, List.set_cons_succ]
 have s0 := hHeld.put 4 (.int .i64 p.id) { zp 5 with ps := p.ps, id := p.id } { za with pa := a.pa, pc := a.pc } rfl
 have c0x : Wd.cell? ⟨g3, 4, none⟩ = some (.int .i64 0) := hHeld.non 4
 have f0x := hHeld.nfz 4
 refine only_op 5 rfl (by kernel_rfl) (by rfl) (wp_store_one 3 (.tmp 227) (.tmp 224) rfl _ _ rfl rfl (by go_simp) ⟨s0.out.1, ?_⟩)
 simp only [Act.put]
 have s1 := s0.put 7 (.int .i64 p.re) { zp 5 with ps := p.ps, id := p.id, re := p.re } { za with pa := a.pa, pc := a.pc } rfl
 have c1x : (Wd.setCell ⟨g3, 4, none⟩ (.int .i64 p.id)).cell? ⟨g3, 7, none⟩ = some (.int .i64 0) := s0.non 7
 have f1x := s0.nfz 7
 refine take_op 6 228 ?v6 rfl rfl (by kernel_rfl) (fun _ _ _ h => h) (by rfl) s0.out.1 (fun w' hS' => ?hv6) ?hh6
 case hv6 => (go_simp; try with_reducible rfl)
 simp only [Act.put, List.setIfInBounds_toArray]
 refine only_op 7 rfl (by kernel_rfl) (by rfl) (wp_store_one 3 (.tmp 228) (.tmp 226) rfl _ _ rfl rfl (by go_simp) ⟨s1.out.1, ?_⟩)
 simp only [Act.put]
 refine wpAnyH_done (by kernel_rfl) ?_ _
 have HP4 := Lib.hid s1
 clear hHeld hBox s0 c0x f0x s1 c1x f1x
 generalize World.setCell _ _ _ = w4 at HP4 ⊢
 have c4 : w4.cell? ⟨g, 4, none⟩ = some (.int .i64 p.id) := HP4.out.arg 4
 cases hx3 : idB p.id with
 | false =>
  have hF := Lib.hid (not_good HBB.out (by rw [HDOC.out, hx1, hx2, hx3]; rfl))
  clear HFIT HBB HDOC
  go_wp2_with (first | (go_at_call 34; refine (ZNum_is _ _ _ _ rfl).mono ?_; rintro e w' ⟨rfl, rfl⟩) | (go_at_call 38; refine (rid_is _ _ _ rfl).mono ?_; rintro e w' ⟨rfl, rfl⟩) | (go_at_call 36; refine (rtext_is _ _ _ rfl).mono ?_; rintro e w' ⟨rfl, rfl⟩))
  go_ret
  exact ⟨(by rw [hF.out]; try rfl), HP4.out.b⟩
 | true =>
 have HGOOD : Hid (goodP p = eqP p { zp 5 with ps := p.ps, id := p.id, re := p.re }) := by show _ = _; rw [HDOC.out, hx1, hx2, hx3]; rfl
 go_upto_region 51 with (first | (go_at_call 34; refine (ZNum_is _ _ _ _ rfl).mono ?_; rintro e w' ⟨rfl, rfl⟩) | (go_at_call 38; refine (rid_is _ _ _ rfl).mono ?_; rintro e w' ⟨rfl, rfl⟩) | (go_at_call 36; refine (rtext_is _ _ _ rfl).mono ?_; rintro e w' ⟨rfl, rfl⟩))
 clear c4
 have hld1 := load_bx HP4.out.out.1
 have hld3 := load_bx HP4.out.out.2.1
 have HQ := Lib.hid (asked HBB.out HGOOD.out)
 obtain ⟨hna, hnh⟩ := HP4.out.nat (.inl rfl) (.inl rfl) (.inl rfl) (.inr ⟨rfl, rfl⟩)
 have HE := Lib.hid (EqPacket_is p ({ zp 5 with ps := p.ps, id := p.id, re := p.re }) a ({ za with pa := a.pa, pc := a.pc }) w4 (fit_len HFIT.out) hnh HP4.out.at hna)
 clear hna hnh HGOOD
 go_wp2_with (first | (refine wpList_load_any (by rfl) 30 (.tmp 1) rfl g 0 rfl _ hld1 ?_) | (refine wpList_load_any (by rfl) 30 (.tmp 3) rfl g3 0 rfl _ hld3 ?_))
 refine HE.out.mono ?_
 rintro e w5 ⟨rfl, hb5⟩
 have HP5 := Lib.hid (HP4.out.below hb5)
 clear hb5 hld1 hld3 HE
 cases hq : eqP p ({ zp 5 with ps := p.ps, id := p.id, re := p.re }) with
 | false =>
  have hF := Lib.hid (HQ.out.no hq)
  go_wp2_with fail
  go_ret
  exact ⟨(by rw [hF.out]; try rfl), HP5.out.b⟩
 | true =>
  obtain ⟨hgd, hbb⟩ := HQ.out.yes hq
  obtain ⟨S, hS⟩ : ∃ S, strP p = S := ⟨_, rfl⟩
  have HBy := Lib.hid (RB_5 p a S w5 HP5.out.at HKD.out hgd hS)
  rw [hS] at hbb
  have HBB2 := Lib.hid hbb
  have hld1 := load_bx HP5.out.out.1
  clear hgd hbb hS hq HQ
  go_wp2_with (refine wpList_load_any (by rfl) 30 (.tmp 1) rfl g 0 rfl _ hld1 ?_)
  refine HBy.out.mono ?_
  rintro e w6 ⟨rfl, hb6⟩
  have HB6 := Lib.hid (HP5.out.below hb6).b
  clear hb6 hld1 HBy HP5
  by_cases h8 : S.size ≤ 8192
  ·have hd : decide ((S.size : Int) ≤ 8192) = true := decide_eq_true (by omega)
   go_wp2_with fail
   go_ret
   exact ⟨(by rw [HBB2.out, decide_eq_true h8]; try rfl), HB6.out⟩
  ·have hd : decide ((S.size : Int) ≤ 8192) = false := decide_eq_false (by omega)
   go_wp2_with fail
   go_ret
   exact ⟨(by rw [HBB2.out, decide_eq_false h8]; try rfl), HB6.out⟩
open Go.RowKit Go.Lib Prp Pkt Vbi
theorem rpacket_6 (p : Pk) (a : Ad) (b : Bool) (w : World) (hf : PkFit p a) (h : PkAt w w.heap.size p a) (hk : p.kind = 6) (hb : packB p = b) :
  Calls Tryz.prog 9 #[.agg (pkArr p a)] w fun e w' => e = .returned (.bool b) ∧ Below w.heap.size w w' := by
 have HFIT := Lib.hid hf
 have HBB := Lib.hid hb
 have HDOC := Lib.hid (doc_6 hk)
 have hb1 := Box.new w 30 (pkArr p a)
 have ha1 := (Below.refl w.heap.size w).alloc (Nat.le_refl _) (.cells (pkArr p a) 30)
 obtain ⟨W1, hW⟩ : ∃ W1, w.alloc (.cells (pkArr p a) 30) = W1 := ⟨_, rfl⟩
 rw [hW] at hb1 ha1
 obtain ⟨g, hg⟩ : ∃ g, w.heap.size = g := ⟨_, rfl⟩
 rw [hg] at hb1
 have hgl := hb1.lt
 have hb3 := Box.new W1 30 (pkArr (zp 0) za)
 have ha3 := (Below.refl W1.heap.size W1).alloc (Nat.le_refl _) (.cells (pkArr (zp 0) za) 30)
 obtain ⟨W2, hW2⟩ : ∃ W2, W1.alloc (.cells (pkArr (zp 0) za) 30) = W2 := ⟨_, rfl⟩
 rw [hW2] at hb3 ha3
 obtain ⟨g3, hg3⟩ : ∃ g, W1.heap.size = g := ⟨_, rfl⟩
 rw [hg3] at hb3 hgl
 obtain ⟨W3, hW3⟩ : ∃ W3, W2.setRow g3 (pkArr (zp 6) za) = W3 := ⟨_, rfl⟩
 have hr3 := Bar.row g3 W2 (pkArr (zp 6) za)
 have hx1 : Box W3 g (pkArr p a) := by rw [← hW3]; exact hr3.box (hb1.below (ha3.mono (by omega))) (by omega)
 have hx3 : Box W3 g3 (pkArr (zp 6) za) := by rw [← hW3]; exact hb3.row _
 have hbw : Below w.heap.size w W3 := by rw [← hW3]; exact hr3.below (ha1.trans (ha3.mono (by have := ha1.size; omega))) (by omega) (by have := ha1.size; have := ha3.size; omega)
 have HP := Lib.hid (Pair.mk (w := w) (g := g) (g3 := g3) (p := p) (a := a) (N := zp 6) (a' := za) (W := W3) ⟨hx1, hx3, h.below hbw, hbw, by omega, by omega, by omega⟩)
 have c0 : W1.cell? ⟨g, 0, none⟩ = some (.int .i64 6) := by rw [hb1.cell, ← hk]; rfl
 have HB3 := Lib.hid hb3
 have HW3 := Lib.hid hW3
 have HG := Lib.hid hg
 have HG3 := Lib.hid hg3
 simp only [pkArr, zp, za, zw, List.length_nil] at hW2
 have HW2 := Lib.hid hW2
 unfold pkArr at hW ⊢
 have HW := Lib.hid hW
 have HKD := Lib.hid hk
 clear hW hW2 hW3 hb1 ha1 hb3 ha3 hr3 hx1 hx3 hbw hgl hf h hk hb hg hg3
 go_enter Tryz.func9, Tryz.ntmps9
 go_upto_region 1 with fail
 rw [HW.out, HG.out]
 generalize Value.agg _ = v0
 have hg3 := HG3.out
 go_upto_region 2 with (first | (refine wpList_build_kind rfl (.tmp 9) rfl 6 rfl ?_) | (rw [HW2.out]; refine wpList_store_whole rfl 30 (.tmp 3) (.tmp 10) rfl g3 (pkArr (zp 6) za) rfl rfl (pkArr (zp 0) za) HB3.out info_pk rfl (one_pk _ _) ?_; simp only [Act.put]))
 rw [HW3.out]
 clear hg3 c0 HW HW2 HW3 HB3 HG HG3
 have c0 : W3.cell? ⟨g, 0, none⟩ = some (.int .i64 6) := by rw [HP.out.arg, ← HKD.out]; rfl
 have c7 : W3.cell? ⟨g, 7, none⟩ = some (.int .i64 p.re) := HP.out.arg 7
 have c24 : W3.cell? ⟨g, 24, none⟩ = some (.slice a.pa p.ps.length a.pc) := HP.out.arg 24
 cases hx1 : inB p.re 255 with
 | false =>
  have hF := Lib.hid (not_good HBB.out (by rw [HDOC.out, hx1]; rfl))
  clear HFIT HBB HDOC
  go_wp2_with (first | (go_at_call 34; refine (ZNum_is _ _ _ _ rfl).mono ?_; rintro e w' ⟨rfl, rfl⟩) | (go_at_call 38; refine (rid_is _ _ _ rfl).mono ?_; rintro e w' ⟨rfl, rfl⟩) | (go_at_call 36; refine (rtext_is _ _ _ rfl).mono ?_; rintro e w' ⟨rfl, rfl⟩))
  go_ret
  exact ⟨(by rw [hF.out]; try rfl), HP.out.b⟩
 | true =>
 have HPR := Lib.hid ((RProps_is 6 p.ps a.pa a.pc _ W3 HFIT.out.pl1.1 HFIT.out.pl1.2 HFIT.out.ps HP.out.at.ps rfl).mono fun e w' (q : e = .returned (.bool (propsB 6 p.ps)) ∧ Below W3.heap.size W3 w') => q)
 cases hx2 : propsB 6 p.ps with
 | false =>
  have hF := Lib.hid (not_good HBB.out (by rw [HDOC.out, hx1, hx2]; rfl))
  clear HFIT HBB HDOC
  go_wp2_with (first | (go_at_call 34; refine (ZNum_is _ _ _ _ rfl).mono ?_; rintro e w' ⟨rfl, rfl⟩) | (go_at_call 38; refine (rid_is _ _ _ rfl).mono ?_; rintro e w' ⟨rfl, rfl⟩) | (go_at_call 36; refine (rtext_is _ _ _ rfl).mono ?_; rintro e w' ⟨rfl, rfl⟩))
  refine HPR.out.mono ?_
  rintro e w1 ⟨rfl, hb1⟩
  have HP2 := Lib.hid (HP.out.below hb1)
  clear hb1 HP HPR c0 c7 c24
  go_wp2_with (first | (go_at_call 34; refine (ZNum_is _ _ _ _ rfl).mono ?_; rintro e w' ⟨rfl, rfl⟩) | (go_at_call 38; refine (rid_is _ _ _ rfl).mono ?_; rintro e w' ⟨rfl, rfl⟩) | (go_at_call 36; refine (rtext_is _ _ _ rfl).mono ?_; rintro e w' ⟨rfl, rfl⟩))
  go_ret
  exact ⟨(by rw [hF.out]; try rfl), HP2.out.b⟩
 | true =>
 go_wp2_with (first | (go_at_call 34; refine (ZNum_is _ _ _ _ rfl).mono ?_; rintro e w' ⟨rfl, rfl⟩) | (go_at_call 38; refine (rid_is _ _ _ rfl).mono ?_; rintro e w' ⟨rfl, rfl⟩) | (go_at_call 36; refine (rtext_is _ _ _ rfl).mono ?_; rintro e w' ⟨rfl, rfl⟩))
 refine HPR.out.mono ?_
 rintro e w1 ⟨rfl, hb1⟩
 have HP2 := Lib.hid (HP.out.below hb1)
 clear hb1 HP HPR c0 c7 c24
 have c24 : w1.cell? ⟨g, 24, none⟩ = some (.slice a.pa p.ps.length a.pc) := HP2.out.arg 24
 have d24 : w1.cell? ⟨g3, 24, none⟩ = some (.slice none 0 0) := HP2.out.non 24
 have f24 := HP2.out.nfz 24
 have hne3 : ¬ g = g3 := HP2.out.out.2.2.2.2.2.2
 go_upto_region 5 with fail
 have HP3 := Lib.hid (HP2.out.put 24 (.slice a.pa p.ps.length a.pc) { zp 6 with ps := p.ps } { za with pa := a.pa, pc := a.pc } rfl)
 clear HP2 c24 d24 f24
 generalize World.setCell _ _ _ = w3 at HP3 ⊢
 have c0 : w3.cell? ⟨g, 0, none⟩ = some (.int .i64 6) := by rw [HP3.out.arg, ← HKD.out]; rfl
 go_upto_region 24 with fail
 have hHeld : Pair w g g3 p a { zp 6 with ps := p.ps } { za with pa := a.pa, pc := a.pc } (World.drew w3) := HP3.out.below (below_drewN (Below.refl _ _) 1)
 clear HP3 c0
 refine wp_region_held_drew (S := fun W => Box W g (pkArr p a)) (by kernel_rfl) hHeld.out.1 (fun hBox => ?_)
 generalize World.drew w3 = Wd at hHeld hBox ⊢
 refine take_op 0 223 ?v0 rfl rfl (by kernel_rfl) (fun _ _ _ h => h) (by rfl) hBox (fun w' hS' => ?hv0) ?hh0
 case hv0 => (go_simp; try with_reducible rfl)
 simp only [Act.put, List.setIfInBounds_toArray, List.set_cons_zero, List.set_cons_succ]
 refine take_op 1 224 ?v1 rfl rfl (by kernel_rfl) (fun _ _ _ h => h) (by rfl) hBox (fun w' hS' => ?hv1) ?hh1
 case hv1 => (have k : w'.cell? ⟨g, 4, none⟩ = some (.int .i64 p.id) := Box.cell hS' 4; go_simp; try with_reducible rfl)
 simp only [Act.put, List.setIfInBounds_toArray, List.set_cons_zero, List.set_cons_succ]
 refine take_op 2 225 ?v2 rfl rfl (by kernel_rfl) (fun _ _ _ h => h) (by rfl) hBox (fun w' hS' => ?hv2) ?hh2
 case hv2 => (go_simp; try with_reducible rfl)
 simp only [Act.put, List.setIfInBounds_toArray, List.set_cons_zero, List.set_cons_succ]
 refine take_op 3 226 ?v3 rfl rfl (by kernel_rfl) (fun _ _ _ h => h) (by rfl) hBox (fun w' hS' => ?hv3) ?hh3
 case hv3 => (have k : w'.cell? ⟨g, 7, none⟩ = some (.int .i64 p.re) := Box.cell hS' 7; go_simp; try with_reducible rfl)
 simp only [Act.put, List.setIfInBounds_toArray, List.set_cons_zero, List.set_cons_succ]
 refine take_op 4 227 ?v4 rfl rfl (by kernel_rfl) (fun _ _ _ h => h) (by rfl) hBox (fun w' hS' => ?hv4) ?hh4
 case hv4 => (go_simp; try with_reducible rfl)
 simp only [Act.put, List.setIfInBounds_toArray, List.set_cons_zero, List.set_cons_succ]
 have s0 := hHeld.put 4 (.int .i64 p.id) { zp 6 with ps := p.ps, id := p.id } { za with pa := a.pa, pc := a.pc } rfl
 have c0x : Wd.cell? ⟨g3, 4, none⟩ = some (.int .i64 0) := hHeld.non 4
 have f0x := hHeld.nfz 4
 refine only_op 5 rfl (by kernel_rfl) (by rfl) (wp_store_one 3 (.tmp 227) (.tmp 224) rfl _ _ rfl rfl (by go_simp) ⟨s0.out.1, ?_⟩)
 simp only [Act.put]
 have s1 := s0.put 7 (.int .i64 p.re) { zp 6 with ps := p.ps, id := p.id, re := p.re } { za with pa := a.pa, pc := a.pc } rfl
 have c1x : (Wd.setCell ⟨g3, 4, none⟩ (.int .i64 p.id)).cell? ⟨g3, 7, none⟩ = some (.int .i64 0) := s0.non 7
 have f1x := s0.nfz 7
 refine take_op 6 228 ?v6 rfl rfl (by kernel_rfl) (fun _ _ _ h => h) (by rfl) s0.out.1 (fun w' hS' => ?hv6) ?hh6
 case hv6 => (go_simp; try with_reducible rfl)
 simp only [Act.put, List.setIfInBounds_toArray]
 refine only_op 7 rfl (by kernel_rfl) (by rfl) (wp_store_one 3 (.tmp 228) (.tmp 226) rfl _ _ rfl rfl (by go_simp) ⟨s1.out.1, ?_⟩)
 simp only [Act.put]
 refine wpAnyH_done (by kernel_rfl) ?_ _
 have HP4 := Lib.hid s1
 clear hHeld hBox s0 c0x f0x s1 c1x f1x
 generalize World.setCell _ _ _ = w4 at HP4 ⊢
 have c4 : w4.cell? ⟨g, 4, none⟩ = some (.int .i64 p.id) := HP4.out.arg 4
 cases hx3 : idB p.id with
 | false =>
  have hF := Lib.hid (not_good HBB.out (by rw [HDOC.out, hx1, hx2, hx3]; rfl))
  clear HFIT HBB HDOC
  go_wp2_with (first | (go_at_call 34; refine (ZNum_is _ _ _ _ rfl).mono ?_; rintro e w' ⟨rfl, rfl⟩) | (go_at_call 38; refine (rid_is _ _ _ rfl).mono ?_; rintro e w' ⟨rfl, rfl⟩) | (go_at_call 36; refine (rtext_is _ _ _ rfl).mono ?_; rintro e w' ⟨rfl, rfl⟩))
  go_ret
  exact ⟨(by rw [hF.out]; try rfl), HP4.out.b⟩
 | true =>
 have HGOOD : Hid (goodP p = eqP p { zp 6 with ps := p.ps, id := p.id, re := p.re }) := by show _ = _; rw [HDOC.out, hx1, hx2, hx3]; rfl
 go_upto_region 51 with (first | (go_at_call 34; refine (ZNum_is _ _ _ _ rfl).mono ?_; rintro e w' ⟨rfl, rfl⟩) | (go_at_call 38; refine (rid_is _ _ _ rfl).mono ?_; rintro e w' ⟨rfl, rfl⟩) | (go_at_call 36; refine (rtext_is _ _ _ rfl).mono ?_; rintro e w' ⟨rfl, rfl⟩))
 clear c4
 have hld1 := load_bx HP4.out.out.1
 have hld3 := load_bx HP4.out.out.2.1
 have HQ := Lib.hid (asked HBB.out HGOOD.out)
 obtain ⟨hna, hnh⟩ := HP4.out.nat (.inl rfl) (.inl rfl) (.inl rfl) (.inr ⟨rfl, rfl⟩)
 have HE := Lib.hid (EqPacket_is p ({ zp 6 with ps := p.ps, id := p.id, re := p.re }) a ({ za with pa := a.pa, pc := a.pc }) w4 (fit_len HFIT.out) hnh HP4.out.at hna)
 clear hna hnh HGOOD
 go_wp2_with (first | (refine wpList_load_any (by rfl) 30 (.tmp 1) rfl g 0 rfl _ hld1 ?_) | (refine wpList_load_any (by rfl) 30 (.tmp 3) rfl g3 0 rfl _ hld3 ?_))
 refine HE.out.mono ?_
 rintro e w5 ⟨rfl, hb5⟩
 have HP5 := Lib.hid (HP4.out.below hb5)
 clear hb5 hld1 hld3 HE
 cases hq : eqP p ({ zp 6 with ps := p.ps, id := p.id, re := p.re }) with
 | false =>
  have hF := Lib.hid (HQ.out.no hq)
  go_wp2_with fail
  go_ret
  exact ⟨(by rw [hF.out]; try rfl), HP5.out.b⟩
 | true =>
  obtain ⟨hgd, hbb⟩ := HQ.out.yes hq
  obtain ⟨S, hS⟩ : ∃ S, strP p = S := ⟨_, rfl⟩
  have HBy := Lib.hid (RB_6 p a S w5 HP5.out.at HKD.out hgd hS)
  rw [hS] at hbb
  have HBB2 := Lib.hid hbb
  have hld1 := load_bx HP5.out.out.1
  clear hgd hbb hS hq HQ
  go_wp2_with (refine wpList_load_any (by rfl) 30 (.tmp 1) rfl g 0 rfl _ hld1 ?_)
  refine HBy.out.mono ?_
  rintro e w6 ⟨rfl, hb6⟩
  have HB6 := Lib.hid (HP5.out.below hb6).b
  clear hb6 hld1 HBy HP5
  by_cases h8 : S.size ≤ 8192
  ·have hd : decide ((S.size : Int) ≤ 8192) = true := decide_eq_true (by omega)
   go_wp2_with fail
   go_ret
   exact ⟨(by rw [HBB2.out, decide_eq_true h8]; try rfl), HB6.out⟩
  ·have hd : decide ((S.size : Int) ≤ 8192) = false := decide_eq_false (by omega)
   go_wp2_with fail
   go_ret
   exact ⟨(by rw [HBB2.out, decide_eq_false h8]; try rfl), HB6.out⟩
end Go.Proofs.YtdbbcfohjkgdcaaGreat
