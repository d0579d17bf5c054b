/- The document's own: may a packet be: a ConnAck. -/
import Derived.Test.YtdbbcfohjkgdcaaGreatM00
import Derived.Test.YtdbbcfohjkgdcaaGreatM32
set_option maxRecDepth 100000
set_option maxHeartbeats 64000000
namespace Go.Proofs.YtdbbcfohjkgdcaaGreat
open Go.RowKit Go.Lib Prp Pkt Vbi
theorem rpacket_1 (p : Pk) (a : Ad) (b : Bool) (w : World) (hf : PkFit p a) (h : PkAt w w.heap.size p a) (hk : p.kind = 1) (hb : packB p = b) :
  Calls Tryz.prog 9 #[.agg (pkArr p a)] w fun e w' => e = .returned (.bool b) ∧ Below w.heap.size w w' := by
 have HFIT := Lib.hid hf
 have HBB := Lib.hid hb
 have HDOC := Lib.hid (doc_1 hk)
 have hb1 := Box.new w 30 (pkArr p a)
 have ha1 := (Below.refl w.heap.size w).alloc (Nat.le_refl _) (.cells (pkArr p a) 30)
 obtain ⟨W1, hW⟩ : ∃ W1, w.alloc (.cells (pkArr p a) 30) = W1 := ⟨_, rfl⟩
 rw [hW] at hb1 ha1
 obtain ⟨g, hg⟩ : ∃ g, w.heap.size = g := ⟨_, rfl⟩
 rw [hg] at hb1
 have hgl := hb1.lt
 have hb3 := Box.new W1 30 (pkArr (zp 0) za)
 have ha3 := (Below.refl W1.heap.size W1).alloc (Nat.le_refl _) (.cells (pkArr (zp 0) za) 30)
 obtain ⟨W2, hW2⟩ : ∃ W2, W1.alloc (.cells (pkArr (zp 0) za) 30) = W2 := ⟨_, rfl⟩
 rw [hW2] at hb3 ha3
 obtain ⟨g3, hg3⟩ : ∃ g, W1.heap.size = g := ⟨_, rfl⟩
 rw [hg3] at hb3 hgl
 obtain ⟨W3, hW3⟩ : ∃ W3, W2.setRow g3 (pkArr (zp 1) za) = W3 := ⟨_, rfl⟩
 have hr3 := Bar.row g3 W2 (pkArr (zp 1) za)
 have hx1 : Box W3 g (pkArr p a) := by rw [← hW3]; exact hr3.box (hb1.below (ha3.mono (by omega))) (by omega)
 have hx3 : Box W3 g3 (pkArr (zp 1) za) := by rw [← hW3]; exact hb3.row _
 have hbw : Below w.heap.size w W3 := by rw [← hW3]; exact hr3.below (ha1.trans (ha3.mono (by have := ha1.size; omega))) (by omega) (by have := ha1.size; have := ha3.size; omega)
 have HP := Lib.hid (Pair.mk (w := w) (g := g) (g3 := g3) (p := p) (a := a) (N := zp 1) (a' := za) (W := W3) ⟨hx1, hx3, h.below hbw, hbw, by omega, by omega, by omega⟩)
 have c0 : W1.cell? ⟨g, 0, none⟩ = some (.int .i64 1) := by rw [hb1.cell, ← hk]; rfl
 have HB3 := Lib.hid hb3
 have HW3 := Lib.hid hW3
 have HG := Lib.hid hg
 have HG3 := Lib.hid hg3
 simp only [pkArr, zp, za, zw, List.length_nil] at hW2
 have HW2 := Lib.hid hW2
 unfold pkArr at hW ⊢
 have HW := Lib.hid hW
 have HKD := Lib.hid hk
 clear hW hW2 hW3 hb1 ha1 hb3 ha3 hr3 hx1 hx3 hbw hgl hf h hk hb hg hg3
 go_enter Tryz.func9, Tryz.ntmps9
 go_upto_region 1 with fail
 rw [HW.out, HG.out]
 generalize Value.agg _ = v0
 have hg3 := HG3.out
 go_upto_region 2 with (first | (refine wpList_build_kind rfl (.tmp 9) rfl 1 rfl ?_) | (rw [HW2.out]; refine wpList_store_whole rfl 30 (.tmp 3) (.tmp 10) rfl g3 (pkArr (zp 1) za) rfl rfl (pkArr (zp 0) za) HB3.out info_pk rfl (one_pk _ _) ?_; simp only [Act.put]))
 rw [HW3.out]
 clear hg3 c0 HW HW2 HW3 HB3 HG HG3
 have c0 : W3.cell? ⟨g, 0, none⟩ = some (.int .i64 1) := by rw [HP.out.arg, ← HKD.out]; rfl
 have c7 : W3.cell? ⟨g, 7, none⟩ = some (.int .i64 p.re) := HP.out.arg 7
 have c24 : W3.cell? ⟨g, 24, none⟩ = some (.slice a.pa p.ps.length a.pc) := HP.out.arg 24
 cases hx1 : inB p.re 255 with
 | false =>
  have hF := Lib.hid (not_good HBB.out (by rw [HDOC.out, hx1]; rfl))
  clear HFIT HBB HDOC
  go_wp2_with (first | (go_at_call 34; refine (ZNum_is _ _ _ _ rfl).mono ?_; rintro e w' ⟨rfl, rfl⟩) | (go_at_call 38; refine (rid_is _ _ _ rfl).mono ?_; rintro e w' ⟨rfl, rfl⟩) | (go_at_call 36; refine (rtext_is _ _ _ rfl).mono ?_; rintro e w' ⟨rfl, rfl⟩))
  go_ret
  exact ⟨(by rw [hF.out]; try rfl), HP.out.b⟩
 | true =>
 have HPR := Lib.hid ((RProps_is 1 p.ps a.pa a.pc _ W3 HFIT.out.pl1.1 HFIT.out.pl1.2 HFIT.out.ps HP.out.at.ps rfl).mono fun e w' (q : e = .returned (.bool (propsB 1 p.ps)) ∧ Below W3.heap.size W3 w') => q)
 cases hx2 : propsB 1 p.ps with
 | false =>
  have hF := Lib.hid (not_good HBB.out (by rw [HDOC.out, hx1, hx2]; rfl))
  clear HFIT HBB HDOC
  go_wp2_with (first | (go_at_call 34; refine (ZNum_is _ _ _ _ rfl).mono ?_; rintro e w' ⟨rfl, rfl⟩) | (go_at_call 38; refine (rid_is _ _ _ rfl).mono ?_; rintro e w' ⟨rfl, rfl⟩) | (go_at_call 36; refine (rtext_is _ _ _ rfl).mono ?_; rintro e w' ⟨rfl, rfl⟩))
  refine HPR.out.mono ?_
  rintro e w1 ⟨rfl, hb1⟩
  have HP2 := Lib.hid (HP.out.below hb1)
  clear hb1 HP HPR c0 c7 c24
  go_wp2_with (first | (go_at_call 34; refine (ZNum_is _ _ _ _ rfl).mono ?_; rintro e w' ⟨rfl, rfl⟩) | (go_at_call 38; refine (rid_is _ _ _ rfl).mono ?_; rintro e w' ⟨rfl, rfl⟩) | (go_at_call 36; refine (rtext_is _ _ _ rfl).mono ?_; rintro e w' ⟨rfl, rfl⟩))
  go_ret
  exact ⟨(by rw [hF.out]; try rfl), HP2.out.b⟩
 | true =>
 go_wp2_with (first | (go_at_call 34; refine (ZNum_is _ _ _ _ rfl).mono ?_; rintro e w' ⟨rfl, rfl⟩) | (go_at_call 38; refine (rid_is _ _ _ rfl).mono ?_; rintro e w' ⟨rfl, rfl⟩) | (go_at_call 36; refine (rtext_is _ _ _ rfl).mono ?_; rintro e w' ⟨rfl, rfl⟩))
 refine HPR.out.mono ?_
 rintro e w1 ⟨rfl, hb1⟩
 have HP2 := Lib.hid (HP.out.below hb1)
 clear hb1 HP HPR c0 c7 c24
 have c24 : w1.cell? ⟨g, 24, none⟩ = some (.slice a.pa p.ps.length a.pc) := HP2.out.arg 24
 have d24 : w1.cell? ⟨g3, 24, none⟩ = some (.slice none 0 0) := HP2.out.non 24
 have f24 := HP2.out.nfz 24
 have hne3 : ¬ g = g3 := HP2.out.out.2.2.2.2.2.2
 go_upto_region 5 with fail
 have HP3 := Lib.hid (HP2.out.put 24 (.slice a.pa p.ps.length a.pc) { zp 1 with ps := p.ps } { za with pa := a.pa, pc := a.pc } rfl)
 clear HP2 c24 d24 f24
 generalize World.setCell _ _ _ = w3 at HP3 ⊢
 have c0 : w3.cell? ⟨g, 0, none⟩ = some (.int .i64 1) := by rw [HP3.out.arg, ← HKD.out]; rfl
 have c14 : w3.cell? ⟨g, 14, none⟩ = some (.bool p.w.has) := HP3.out.arg 14
 have hlw := load_wl HP3.out.out.1
 go_upto_region 7 with fail
 have hbw4 := Box.new w3 28 (wlArr zw none 0)
 have haw4 := (Below.refl w3.heap.size w3).alloc (Nat.le_refl _) (.cells (wlArr zw none 0) 28)
 obtain ⟨W4, hW4⟩ : ∃ W, w3.alloc (.cells (wlArr zw none 0) 28) = W := ⟨_, rfl⟩
 rw [hW4] at hbw4 haw4
 obtain ⟨g4, hg4⟩ : ∃ g, w3.heap.size = g := ⟨_, rfl⟩
 rw [hg4] at hbw4
 have hl3 := HP3.out.out.2.1.lt
 obtain ⟨W5, hW5⟩ : ∃ W, W4.setRow g4 (wlArr p.w a.wa a.wc) = W := ⟨_, rfl⟩
 have hbl := (Bar.row g4 W4 (wlArr p.w a.wa a.wc)).below haw4 (by omega) haw4.size
 have hbx4 := hbw4.row (wlArr p.w a.wa a.wc)
 rw [hW5] at hbl hbx4
 have HT4 := Lib.hid (Trio.mk ⟨HP3.out.below hbl, hbx4, (by omega : g4 ≠ g3)⟩)
 have HBW4 := Lib.hid hbw4
 have HW5 := Lib.hid hW5
 simp only [wlArr, zw, List.length_nil] at hW4
 have HW4 := Lib.hid hW4
 clear hbw4 haw4 hW4 hl3 hW5 hbl hbx4 HP3 c0 c14
 go_upto_region 8 with (first | (refine wpList_load_any (by rfl) 28 (.tmp 40) rfl g 14 rfl _ hlw ?_) | (rw [HW4.out]; refine wpList_store_whole rfl 28 (.tmp 4) (.tmp 41) rfl g4 (wlArr p.w a.wa a.wc) rfl rfl (wlArr zw none 0) HBW4.out info_wl rfl (one_wl _ _ _) ?_; simp only [Act.put]))
 rw [HW5.out]
 clear hg4 HW4 HW5 HBW4 hlw
 have hHeld : Trio w g g3 g4 p a { zp 1 with ps := p.ps } { za with pa := a.pa, pc := a.pc } (World.drew W5) := HT4.out.below (below_drewN (Below.refl _ _) 1)
 clear HT4
 refine wp_region_held_drew (S := fun W => Box W g (pkArr p a) ∧ Box W g4 (wlArr p.w a.wa a.wc)) (by kernel_rfl) ⟨hHeld.out.1.out.1, hHeld.out.2.1⟩ (fun hBox => ?_)
 generalize World.drew W5 = Wd at hHeld hBox ⊢
 refine take_op 0 42 ?v0p rfl rfl (by kernel_rfl) (fun _ _ _ h => h) (by rfl) hBox (fun w' hS' => ?hv0p) ?hh0p
 case hv0p => (go_simp; try with_reducible rfl)
 simp only [Act.put, List.setIfInBounds_toArray, List.set_cons_zero, List.set_cons_succ]
 refine take_op 1 43 ?v1p rfl rfl (by kernel_rfl) (fun _ _ _ h => h) (by rfl) hBox (fun w' hS' => ?hv1p) ?hh1p
 case hv1p => (have k : w'.cell? ⟨g, 11, none⟩ = some (.string p.cl) := Box.cell hS'.1 11; go_simp; try with_reducible rfl)
 simp only [Act.put, List.setIfInBounds_toArray, List.set_cons_zero, List.set_cons_succ]
 refine take_op 2 44 ?v2p rfl rfl (by kernel_rfl) (fun _ _ _ h => h) (by rfl) hBox (fun w' hS' => ?hv2p) ?hh2p
 case hv2p => (go_simp; try with_reducible rfl)
 simp only [Act.put, List.setIfInBounds_toArray, List.set_cons_zero, List.set_cons_succ]
 refine take_op 3 45 ?v3p rfl rfl (by kernel_rfl) (fun _ _ _ h => h) (by rfl) hBox (fun w' hS' => ?hv3p) ?hh3p
 case hv3p => (have k : w'.cell? ⟨g, 12, none⟩ = some (.bool p.clean) := Box.cell hS'.1 12; go_simp; try with_reducible rfl)
 simp only [Act.put, List.setIfInBounds_toArray, List.set_cons_zero, List.set_cons_succ]
 refine take_op 4 46 ?v4p rfl rfl (by kernel_rfl) (fun _ _ _ h => h) (by rfl) hBox (fun w' hS' => ?hv4p) ?hh4p
 case hv4p => (go_simp; try with_reducible rfl)
 simp only [Act.put, List.setIfInBounds_toArray, List.set_cons_zero, List.set_cons_succ]
 refine take_op 5 47 ?v5p rfl rfl (by kernel_rfl) (fun _ _ _ h => h) (by rfl) hBox (fun w' hS' => ?hv5p) ?hh5p
 case hv5p => (have k : w'.cell? ⟨g, 13, none⟩ = some (.int .i64 p.keep) := Box.cell hS'.1 13; go_simp; try with_reducible rfl)
 simp only [Act.put, List.setIfInBounds_toArray, List.set_cons_zero, List.set_cons_succ]
 refine take_load 6 48 28 (.tmp 4) g4 0 (.agg (wlArr p.w a.wa a.wc)) rfl rfl (by kernel_rfl) (fun _ _ _ h => h) (by rfl) hBox rfl rfl (fun w' hS' => load_wlbox hS'.2) ?_
 simp only [Act.put, List.setIfInBounds_toArray, List.set_cons_zero, List.set_cons_succ]
 refine take_op 7 49 ?v7p rfl rfl (by kernel_rfl) (fun _ _ _ h => h) (by rfl) hBox (fun w' hS' => ?hv7p) ?hh7p
 case hv7p => (go_simp; try with_reducible rfl)
 simp only [Act.put, List.setIfInBounds_toArray, List.set_cons_zero, List.set_cons_succ]
 have s0 := hHeld.put 11 (.string p.cl) { zp 1 with ps := p.ps, cl := p.cl } { za with pa := a.pa, pc := a.pc } rfl
 have c0x : Wd.cell? ⟨g3, 11, none⟩ = some (.string ⟨#[]⟩) := hHeld.out.1.non 11
 have f0x := hHeld.out.1.nfz 11
 refine only_op 8 rfl (by kernel_rfl) (by rfl) (wp_store_none 9 (.tmp 49) (.tmp 43) rfl rfl _ _ rfl rfl (by go_simp) ⟨⟨s0.out.1.out.1, s0.out.2.1⟩, ?_⟩)
 clear c0x f0x
 generalize World.setCell _ _ _ = wy10 at s0 ⊢
 have s1 := s0.put 12 (.bool p.clean) { zp 1 with ps := p.ps, cl := p.cl, clean := p.clean } { za with pa := a.pa, pc := a.pc } rfl
 have c1x : wy10.cell? ⟨g3, 12, none⟩ = some (.bool false) := s0.out.1.non 12
 have f1x := s0.out.1.nfz 12
 refine take_op 9 50 ?v9p rfl rfl (by kernel_rfl) (fun _ _ _ h => h) (by rfl) ⟨s0.out.1.out.1, s0.out.2.1⟩ (fun w' hS' => ?hv9p) ?hh9p
 case hv9p => (go_simp; try with_reducible rfl)
 simp only [Act.put, List.setIfInBounds_toArray, List.set_cons_zero, List.set_cons_succ]
 refine only_op 10 rfl (by kernel_rfl) (by rfl) (wp_store_none 4 (.tmp 50) (.tmp 45) rfl rfl _ _ rfl rfl (by go_simp) ⟨⟨s1.out.1.out.1, s1.out.2.1⟩, ?_⟩)
 clear c1x f1x
 generalize World.setCell _ _ _ = wy11 at s1 ⊢
 have s2 := s1.put 13 (.int .i64 p.keep) { zp 1 with ps := p.ps, cl := p.cl, clean := p.clean, keep := p.keep } { za with pa := a.pa, pc := a.pc } rfl
 have c2x : wy11.cell? ⟨g3, 13, none⟩ = some (.int .i64 0) := s1.out.1.non 13
 have f2x := s1.out.1.nfz 13
 refine take_op 11 51 ?v11p rfl rfl (by kernel_rfl) (fun _ _ _ h => h) (by rfl) ⟨s1.out.1.out.1, s1.out.2.1⟩ (fun w' hS' => ?hv11p) ?hh11p
 case hv11p => (go_simp; try with_reducible rfl)
 simp only [Act.put, List.setIfInBounds_toArray, List.set_cons_zero, List.set_cons_succ]
 refine only_op 12 rfl (by kernel_rfl) (by rfl) (wp_store_none 3 (.tmp 51) (.tmp 47) rfl rfl _ _ rfl rfl (by go_simp) ⟨⟨s2.out.1.out.1, s2.out.2.1⟩, ?_⟩)
 clear c2x f2x
 generalize World.setCell _ _ _ = wy12 at s2 ⊢
 have s3 := s2.putw
 refine take_op 13 52 ?v13p rfl rfl (by kernel_rfl) (fun _ _ _ h => h) (by rfl) ⟨s2.out.1.out.1, s2.out.2.1⟩ (fun w' hS' => ?hv13p) ?hh13p
 case hv13p => (go_simp; try with_reducible rfl)
 simp only [Act.put, List.setIfInBounds_toArray, List.set_cons_zero, List.set_cons_succ]
 refine only_op 14 rfl (by kernel_rfl) (by rfl) (wp_store_mid_none 28 (.tmp 52) (.tmp 48) rfl rfl g3 14 (wlArr p.w a.wa a.wc) rfl rfl s2.out.1.there info_wl (one_wl _ _ _) ⟨⟨s3.out.1.out.1, s3.out.2.1⟩, ?_⟩)
 refine wpAnyH_done (by kernel_rfl) ?_ _
 have HT5 : Hid (Trio w g g3 g4 p a { zp 1 with ps := p.ps, cl := p.cl, clean := p.clean, keep := p.keep, w := p.w } { za with pa := a.pa, pc := a.pc, wa := a.wa, wc := a.wc } _) := Lib.hid s3
 clear hHeld hBox s0 s1 s2 s3
 generalize World.setCells _ _ _ _ = w5 at HT5 ⊢
 go_upto_region 9 with fail
 have hHeld : Trio w g g3 g4 p a { zp 1 with ps := p.ps, cl := p.cl, clean := p.clean, keep := p.keep, w := p.w } { za with pa := a.pa, pc := a.pc, wa := a.wa, wc := a.wc } (World.drew w5) := HT5.out.below (below_drewN (Below.refl _ _) 1)
 clear HT5
 refine wp_region_held_drew (S := fun W => Box W g (pkArr p a)) (by kernel_rfl) hHeld.out.1.out.1 (fun hBox => ?_)
 generalize World.drew w5 = Wd at hHeld hBox ⊢
 refine take_op 0 53 ?v0q rfl rfl (by kernel_rfl) (fun _ _ _ h => h) (by rfl) hBox (fun w' hS' => ?hv0q) ?hh0q
 case hv0q => (go_simp; try with_reducible rfl)
 simp only [Act.put, List.setIfInBounds_toArray, List.set_cons_zero, List.set_cons_succ]
 refine take_op 1 54 ?v1q rfl rfl (by kernel_rfl) (fun _ _ _ h => h) (by rfl) hBox (fun w' hS' => ?hv1q) ?hh1q
 case hv1q => (have k : w'.cell? ⟨g, 20, none⟩ = some (.bool p.hu) := Box.cell hS' 20; go_simp; try with_reducible rfl)
 simp only [Act.put, List.setIfInBounds_toArray, List.set_cons_zero, List.set_cons_succ]
 refine take_op 2 55 ?v2q rfl rfl (by kernel_rfl) (fun _ _ _ h => h) (by rfl) hBox (fun w' hS' => ?hv2q) ?hh2q
 case hv2q => (go_simp; try with_reducible rfl)
 simp only [Act.put, List.setIfInBounds_toArray, List.set_cons_zero, List.set_cons_succ]
 refine take_op 3 56 ?v3q rfl rfl (by kernel_rfl) (fun _ _ _ h => h) (by rfl) hBox (fun w' hS' => ?hv3q) ?hh3q
 case hv3q => (have k : w'.cell? ⟨g, 21, none⟩ = some (.string p.u) := Box.cell hS' 21; go_simp; try with_reducible rfl)
 simp only [Act.put, List.setIfInBounds_toArray, List.set_cons_zero, List.set_cons_succ]
 refine take_op 4 57 ?v4q rfl rfl (by kernel_rfl) (fun _ _ _ h => h) (by rfl) hBox (fun w' hS' => ?hv4q) ?hh4q
 case hv4q => (go_simp; try with_reducible rfl)
 simp only [Act.put, List.setIfInBounds_toArray, List.set_cons_zero, List.set_cons_succ]
 refine take_op 5 58 ?v5q rfl rfl (by kernel_rfl) (fun _ _ _ h => h) (by rfl) hBox (fun w' hS' => ?hv5q) ?hh5q
 case hv5q => (have k : w'.cell? ⟨g, 22, none⟩ = some (.bool p.hp) := Box.cell hS' 22; go_simp; try with_reducible rfl)
 simp only [Act.put, List.setIfInBounds_toArray, List.set_cons_zero, List.set_cons_succ]
 refine take_op 6 59 ?v6q rfl rfl (by kernel_rfl) (fun _ _ _ h => h) (by rfl) hBox (fun w' hS' => ?hv6q) ?hh6q
 case hv6q => (go_simp; try with_reducible rfl)
 simp only [Act.put, List.setIfInBounds_toArray, List.set_cons_zero, List.set_cons_succ]
 refine take_op 7 60 ?v7q rfl rfl (by kernel_rfl) (fun _ _ _ h => h) (by rfl) hBox (fun w' hS' => ?hv7q) ?hh7q
 case hv7q => (have k : w'.cell? ⟨g, 23, none⟩ = some (.string p.pw) := Box.cell hS' 23; go_simp; try with_reducible rfl)
 simp only [Act.put, List.setIfInBounds_toArray, List.set_cons_zero, List.set_cons_succ]
 refine take_op 8 61 ?v8q rfl rfl (by kernel_rfl) (fun _ _ _ h => h) (by rfl) hBox (fun w' hS' => ?hv8q) ?hh8q
 case hv8q => (go_simp; try with_reducible rfl)
 simp only [Act.put, List.setIfInBounds_toArray, List.set_cons_zero, List.set_cons_succ]
 have s0 := hHeld.put 20 (.bool p.hu) { zp 1 with ps := p.ps, cl := p.cl, clean := p.clean, keep := p.keep, w := p.w, hu := p.hu } { za with pa := a.pa, pc := a.pc, wa := a.wa, wc := a.wc } rfl
 have c0x : Wd.cell? ⟨g3, 20, none⟩ = some (.bool false) := hHeld.out.1.non 20
 have f0x := hHeld.out.1.nfz 20
 refine only_op 9 rfl (by kernel_rfl) (by rfl) (wp_store_none 4 (.tmp 61) (.tmp 54) rfl rfl _ _ rfl rfl (by go_simp) ⟨s0.out.1.out.1, ?_⟩)
 clear c0x f0x
 generalize World.setCell _ _ _ = wy20 at s0 ⊢
 have s1 := s0.put 21 (.string p.u) { zp 1 with ps := p.ps, cl := p.cl, clean := p.clean, keep := p.keep, w := p.w, hu := p.hu, u := p.u } { za with pa := a.pa, pc := a.pc, wa := a.wa, wc := a.wc } rfl
 have c1x : wy20.cell? ⟨g3, 21, none⟩ = some (.string ⟨#[]⟩) := s0.out.1.non 21
 have f1x := s0.out.1.nfz 21
 refine take_op 10 62 ?v10q rfl rfl (by kernel_rfl) (fun _ _ _ h => h) (by rfl) s0.out.1.out.1 (fun w' hS' => ?hv10q) ?hh10q
 case hv10q => (go_simp; try with_reducible rfl)
 simp only [Act.put, List.setIfInBounds_toArray, List.set_cons_zero, List.set_cons_succ]
 refine only_op 11 rfl (by kernel_rfl) (by rfl) (wp_store_none 9 (.tmp 62) (.tmp 56) rfl rfl _ _ rfl rfl (by go_simp) ⟨s1.out.1.out.1, ?_⟩)
 clear c1x f1x
 generalize World.setCell _ _ _ = wy21 at s1 ⊢
 have s2 := s1.put 22 (.bool p.hp) { zp 1 with ps := p.ps, cl := p.cl, clean := p.clean, keep := p.keep, w := p.w, hu := p.hu, u := p.u, hp := p.hp } { za with pa := a.pa, pc := a.pc, wa := a.wa, wc := a.wc } rfl
 have c2x : wy21.cell? ⟨g3, 22, none⟩ = some (.bool false) := s1.out.1.non 22
 have f2x := s1.out.1.nfz 22
 refine take_op 12 63 ?v12q rfl rfl (by kernel_rfl) (fun _ _ _ h => h) (by rfl) s1.out.1.out.1 (fun w' hS' => ?hv12q) ?hh12q
 case hv12q => (go_simp; try with_reducible rfl)
 simp only [Act.put, List.setIfInBounds_toArray, List.set_cons_zero, List.set_cons_succ]
 refine only_op 13 rfl (by kernel_rfl) (by rfl) (wp_store_none 4 (.tmp 63) (.tmp 58) rfl rfl _ _ rfl rfl (by go_simp) ⟨s2.out.1.out.1, ?_⟩)
 clear c2x f2x
 generalize World.setCell _ _ _ = wy22 at s2 ⊢
 have s3 := s2.put 23 (.string p.pw) { zp 1 with ps := p.ps, cl := p.cl, clean := p.clean, keep := p.keep, w := p.w, hu := p.hu, u := p.u, hp := p.hp, pw := p.pw } { za with pa := a.pa, pc := a.pc, wa := a.wa, wc := a.wc } rfl
 have c3x : wy22.cell? ⟨g3, 23, none⟩ = some (.string ⟨#[]⟩) := s2.out.1.non 23
 have f3x := s2.out.1.nfz 23
 refine take_op 14 64 ?v14q rfl rfl (by kernel_rfl) (fun _ _ _ h => h) (by rfl) s2.out.1.out.1 (fun w' hS' => ?hv14q) ?hh14q
 case hv14q => (go_simp; try with_reducible rfl)
 simp only [Act.put, List.setIfInBounds_toArray, List.set_cons_zero, List.set_cons_succ]
 refine only_op 15 rfl (by kernel_rfl) (by rfl) (wp_store_none 9 (.tmp 64) (.tmp 60) rfl rfl _ _ rfl rfl (by go_simp) ⟨s3.out.1.out.1, ?_⟩)
 refine wpAnyH_done (by kernel_rfl) ?_ _
 have HT6 := Lib.hid s3
 clear hHeld hBox s0 s1 s2 s3 c3x f3x
 generalize World.setCell _ _ _ = w6 at HT6 ⊢
 have HP4 := Lib.hid HT6.out.out.1
 have c11 : w6.cell? ⟨g, 11, none⟩ = some (.string p.cl) := HP4.out.arg 11
 have c13 : w6.cell? ⟨g, 13, none⟩ = some (.int .i64 p.keep) := HP4.out.arg 13
 have c20 : w6.cell? ⟨g, 20, none⟩ = some (.bool p.hu) := HP4.out.arg 20
 have c21 : w6.cell? ⟨g, 21, none⟩ = some (.string p.u) := HP4.out.arg 21
 have c22 : w6.cell? ⟨g, 22, none⟩ = some (.bool p.hp) := HP4.out.arg 22
 have c23 : w6.cell? ⟨g, 23, none⟩ = some (.string p.pw) := HP4.out.arg 23
 have e1 : w6.cell? ⟨g4, 1, none⟩ = some (.int .i64 p.w.q) := HT6.out.out.2.1.cell 1
 obtain ⟨X, hX⟩ : ∃ X, (dq1 p && dw1 p) = X := ⟨_, rfl⟩
 have HX := Lib.hid hX
 have HXG : Hid (X = false → b = false) := by
  show X = false → b = false
  exact fun e => not_good HBB.out (by rw [HDOC.out, hX, e, Bool.false_and, Bool.and_false, Bool.and_false])
 have HXT : Hid (X = true → goodP p = eqP p { zp 1 with ps := p.ps, cl := p.cl, clean := p.clean, keep := p.keep, w := p.w, hu := p.hu, u := p.u, hp := p.hp, pw := p.pw }) := by
  show X = true → goodP p = eqP p { zp 1 with ps := p.ps, cl := p.cl, clean := p.clean, keep := p.keep, w := p.w, hu := p.hu, u := p.u, hp := p.hp, pw := p.pw }
  exact fun e => by rw [HDOC.out, hx1, hx2, hX, e]; rfl
 clear hX HDOC
 go_upto_region 10 with fail
 go_cut [112] (fun v wx => v = .bool (!dq1 p) ∧ Trio w g g3 g4 p a ({ zp 1 with ps := p.ps, cl := p.cl, clean := p.clean, keep := p.keep, w := p.w, hu := p.hu, u := p.u, hp := p.hp, pw := p.pw }) ({ za with pa := a.pa, pc := a.pc, wa := a.wa, wc := a.wc }) wx)
 case first =>
  clear HXT HXG HX HBB
  cases h1 : textB p.cl with
  | false =>
   as_aux_lemma =>
    go_wp2_with (first | (go_at_call 34; refine (ZNum_is _ _ _ _ (by assumption)).mono ?_; rintro e w' ⟨rfl, rfl⟩; try dsimp only) | (go_at_call 36; refine (rtext_is _ _ _ (by assumption)).mono ?_; rintro e w' ⟨rfl, rfl⟩; try dsimp only))
    go_meet
    refine ⟨congrArg Value.bool ?_, HT6.out⟩
    unfold dq1; simp only [E_iff]; simp [*]
  | true =>
  cases h2 : inB p.keep 65535 with
  | false =>
   as_aux_lemma =>
    go_wp2_with (first | (go_at_call 34; refine (ZNum_is _ _ _ _ (by assumption)).mono ?_; rintro e w' ⟨rfl, rfl⟩; try dsimp only) | (go_at_call 36; refine (rtext_is _ _ _ (by assumption)).mono ?_; rintro e w' ⟨rfl, rfl⟩; try dsimp only))
    go_meet
    refine ⟨congrArg Value.bool ?_, HT6.out⟩
    unfold dq1; simp only [E_iff]; simp [*]
  | true =>
  cases h3 : inB p.w.q 2 with
  | false =>
   as_aux_lemma =>
    go_wp2_with (first | (go_at_call 34; refine (ZNum_is _ _ _ _ (by assumption)).mono ?_; rintro e w' ⟨rfl, rfl⟩; try dsimp only) | (go_at_call 36; refine (rtext_is _ _ _ (by assumption)).mono ?_; rintro e w' ⟨rfl, rfl⟩; try dsimp only))
    go_meet
    refine ⟨congrArg Value.bool ?_, HT6.out⟩
    unfold dq1; simp only [E_iff]; simp [*]
  | true =>
  cases h4 : textB p.u with
  | false =>
   as_aux_lemma =>
    go_wp2_with (first | (go_at_call 34; refine (ZNum_is _ _ _ _ (by assumption)).mono ?_; rintro e w' ⟨rfl, rfl⟩; try dsimp only) | (go_at_call 36; refine (rtext_is _ _ _ (by assumption)).mono ?_; rintro e w' ⟨rfl, rfl⟩; try dsimp only))
    go_meet
    refine ⟨congrArg Value.bool ?_, HT6.out⟩
    unfold dq1; simp only [E_iff]; simp [*]
  | true =>
  by_cases h5 : 1024 < p.pw.size
  ·have h5a : decide (p.pw.size ≤ 1024) = false := decide_eq_false (by omega)
   have h5b : decide ((1024 : Int) < (p.pw.size : Int)) = true := decide_eq_true (by omega)
   as_aux_lemma =>
    go_wp2_with (first | (go_at_call 34; refine (ZNum_is _ _ _ _ (by assumption)).mono ?_; rintro e w' ⟨rfl, rfl⟩; try dsimp only) | (go_at_call 36; refine (rtext_is _ _ _ (by assumption)).mono ?_; rintro e w' ⟨rfl, rfl⟩; try dsimp only))
    go_meet
    refine ⟨congrArg Value.bool ?_, HT6.out⟩
    unfold dq1; simp only [E_iff]; simp [*]
  have h5a : decide (p.pw.size ≤ 1024) = true := decide_eq_true (by omega)
  have h5b : decide ((1024 : Int) < (p.pw.size : Int)) = false := decide_eq_false (by omega)
  cases h6 : p.hu with
  | true =>
   rw [h6] at c20
   cases h7 : p.hp with
   | true =>
    rw [h7] at c22
    as_aux_lemma =>
     go_wp2_with (first | (go_at_call 34; refine (ZNum_is _ _ _ _ (by assumption)).mono ?_; rintro e w' ⟨rfl, rfl⟩; try dsimp only) | (go_at_call 36; refine (rtext_is _ _ _ (by assumption)).mono ?_; rintro e w' ⟨rfl, rfl⟩; try dsimp only))
     go_meet
     refine ⟨congrArg Value.bool ?_, HT6.out⟩
     unfold dq1; simp only [E_iff]; simp [*]
   | false =>
    rw [h7] at c22
    cases h8 : p.pw.toList.isEmpty with
    | true =>
     as_aux_lemma =>
      go_wp2_with (first | (go_at_call 34; refine (ZNum_is _ _ _ _ (by assumption)).mono ?_; rintro e w' ⟨rfl, rfl⟩; try dsimp only) | (go_at_call 36; refine (rtext_is _ _ _ (by assumption)).mono ?_; rintro e w' ⟨rfl, rfl⟩; try dsimp only))
      go_meet
      refine ⟨congrArg Value.bool ?_, HT6.out⟩
      unfold dq1; simp only [E_iff]; simp [*]
    | false =>
     as_aux_lemma =>
      go_wp2_with (first | (go_at_call 34; refine (ZNum_is _ _ _ _ (by assumption)).mono ?_; rintro e w' ⟨rfl, rfl⟩; try dsimp only) | (go_at_call 36; refine (rtext_is _ _ _ (by assumption)).mono ?_; rintro e w' ⟨rfl, rfl⟩; try dsimp only))
      go_meet
      refine ⟨congrArg Value.bool ?_, HT6.out⟩
      unfold dq1; simp only [E_iff]; simp [*]
  | false =>
   rw [h6] at c20
   cases h6b : p.u.toList.isEmpty with
   | false =>
    as_aux_lemma =>
     go_wp2_with (first | (go_at_call 34; refine (ZNum_is _ _ _ _ (by assumption)).mono ?_; rintro e w' ⟨rfl, rfl⟩; try dsimp only) | (go_at_call 36; refine (rtext_is _ _ _ (by assumption)).mono ?_; rintro e w' ⟨rfl, rfl⟩; try dsimp only))
     go_meet
     refine ⟨congrArg Value.bool ?_, HT6.out⟩
     unfold dq1; simp only [E_iff]; simp [*]
   | true =>
    cases h7 : p.hp with
    | true =>
     rw [h7] at c22
     as_aux_lemma =>
      go_wp2_with (first | (go_at_call 34; refine (ZNum_is _ _ _ _ (by assumption)).mono ?_; rintro e w' ⟨rfl, rfl⟩; try dsimp only) | (go_at_call 36; refine (rtext_is _ _ _ (by assumption)).mono ?_; rintro e w' ⟨rfl, rfl⟩; try dsimp only))
      go_meet
      refine ⟨congrArg Value.bool ?_, HT6.out⟩
      unfold dq1; simp only [E_iff]; simp [*]
    | false =>
     rw [h7] at c22
     cases h8 : p.pw.toList.isEmpty with
     | true =>
      as_aux_lemma =>
       go_wp2_with (first | (go_at_call 34; refine (ZNum_is _ _ _ _ (by assumption)).mono ?_; rintro e w' ⟨rfl, rfl⟩; try dsimp only) | (go_at_call 36; refine (rtext_is _ _ _ (by assumption)).mono ?_; rintro e w' ⟨rfl, rfl⟩; try dsimp only))
       go_meet
       refine ⟨congrArg Value.bool ?_, HT6.out⟩
       unfold dq1; simp only [E_iff]; simp [*]
     | false =>
      as_aux_lemma =>
       go_wp2_with (first | (go_at_call 34; refine (ZNum_is _ _ _ _ (by assumption)).mono ?_; rintro e w' ⟨rfl, rfl⟩; try dsimp only) | (go_at_call 36; refine (rtext_is _ _ _ (by assumption)).mono ?_; rintro e w' ⟨rfl, rfl⟩; try dsimp only))
       go_meet
       refine ⟨congrArg Value.bool ?_, HT6.out⟩
       unfold dq1; simp only [E_iff]; simp [*]
 case rest =>
  obtain ⟨rfl, ht⟩ := hcut
  clear c11 c13 c20 c21 c22 c23 e1 HT6 HP4
  have HT6 := Lib.hid ht
  have HP4 := Lib.hid ht.out.1
  clear ht
  obtain ⟨q1, hq1⟩ : ∃ x, (!dq1 p) = x := ⟨_, rfl⟩
  rw [hq1]
  cases q1 with
  | true =>
   have HQ1 := Lib.hid (show dq1 p = false by simpa using hq1)
   clear hq1
   have hF := Lib.hid (HXG.out (by rw [← HX.out, HQ1.out]; rfl))
   clear HFIT HBB HXT HXG HX
   go_wp2_with fail
   go_ret
   exact ⟨(by rw [hF.out]; try rfl), HP4.out.b⟩
  | false =>
  have HQ1 := Lib.hid (show dq1 p = true by simpa using hq1)
  clear hq1
  go_upto_region 12 with fail
  have e0 : wc.cell? ⟨g4, 0, none⟩ = some (.bool p.w.has) := HT6.out.out.2.1.cell 0
  go_cut [148] (fun v wx => v = .bool (!dw1 p) ∧ Trio w g g3 g4 p a ({ zp 1 with ps := p.ps, cl := p.cl, clean := p.clean, keep := p.keep, w := p.w, hu := p.hu, u := p.u, hp := p.hp, pw := p.pw }) ({ za with pa := a.pa, pc := a.pc, wa := a.wa, wc := a.wc }) wx)
  case first =>
   clear HXT HXG HX HBB HQ1
   as_aux_lemma =>
    have hpw : decide (p.w.b.size ≤ 1024) = !decide ((1024 : Int) < (p.w.b.size : Int)) := by rw [Bool.eq_iff_iff]; simp; omega
    cases hwh : p.w.has with
    | false =>
     rw [hwh] at e0
     have hlw := load_wlbox HT6.out.out.2.1
     have HEW0 := (EqWill_is p.w zw a.wa none a.wc 0 _ _ wc HFIT.out.wl1.1 (.inr rfl) (Nat.le_refl _) (Nat.le_refl _) HP4.out.at.ws (.inl rfl))
     obtain ⟨r, hr⟩ : ∃ r, eqW p.w zw = r := ⟨_, rfl⟩
     rw [hr] at HEW0
     have HEW := Lib.hid HEW0
     have HR := Lib.hid hr
     clear HEW0 hr hpw
     go_wp2_with (refine wpList_load_any (by rfl) 28 (.tmp 4) rfl g4 0 rfl _ hlw ?_)
     refine HEW.out.mono ?_
     rintro e w7 ⟨rfl, hb7⟩
     try dsimp only
     have HT7 := Lib.hid (HT6.out.below hb7)
     have e0 : w7.cell? ⟨g4, 0, none⟩ = some (.bool p.w.has) := HT7.out.out.2.1.cell 0
     rw [hwh] at e0
     clear hb7 hlw HT6 HP4 HEW
     go_wp2_with fail
     all_goals go_meet
     all_goals refine ⟨congrArg Value.bool ?_, HT7.out⟩
     all_goals (unfold dw1; rw [if_neg (by rw [hwh]; decide), HR.out]; simp [*])
    | true =>
     rw [hwh] at e0
     have e5 : wc.cell? ⟨g4, 5, none⟩ = some (.slice a.wa p.w.ps.length a.wc) := HT6.out.out.2.1.cell 5
     have HPW := Lib.hid (RProps_is 0 p.w.ps a.wa a.wc _ wc HFIT.out.wl1.1 HFIT.out.wl1.2 HFIT.out.ws HP4.out.at.ws rfl)
     go_wp2_with fail
     refine HPW.out.mono ?_
     rintro e w7 ⟨rfl, hb7⟩
     try dsimp only
     have HT7 := Lib.hid (HT6.out.below hb7)
     clear hb7 HT6 HP4 HPW e0 e5
     have e0 : w7.cell? ⟨g4, 0, none⟩ = some (.bool p.w.has) := HT7.out.out.2.1.cell 0
     rw [hwh] at e0
     have e3 : w7.cell? ⟨g4, 3, none⟩ = some (.string p.w.t) := HT7.out.out.2.1.cell 3
     have e4 : w7.cell? ⟨g4, 4, none⟩ = some (.string p.w.b) := HT7.out.out.2.1.cell 4
     go_wp2_with (first | (go_at_call 34; refine (ZNum_is _ _ _ _ rfl).mono ?_; rintro e w' ⟨rfl, rfl⟩; try dsimp only) | (go_at_call 36; refine (rtext_is _ _ _ rfl).mono ?_; rintro e w' ⟨rfl, rfl⟩; try dsimp only))
     all_goals go_meet
     all_goals refine ⟨congrArg Value.bool ?_, HT7.out⟩
     all_goals (unfold dw1; rw [if_pos hwh, hpw]; simp only [E_iff]; simp [*])
     all_goals omega
  case rest =>
   obtain ⟨rfl, ht⟩ := hcut
   clear HT6 HP4 e0
   have HT6 := Lib.hid ht
   have HP4 := Lib.hid ht.out.1
   clear ht
   obtain ⟨q2, hq2⟩ : ∃ x, (!dw1 p) = x := ⟨_, rfl⟩
   rw [hq2]
   cases q2 with
   | true =>
    have HQ2 := Lib.hid (show dw1 p = false by simpa using hq2)
    clear hq2
    have hF := Lib.hid (HXG.out (by rw [← HX.out, HQ2.out, Bool.and_false]))
    clear HFIT HBB HXT HXG HX
    go_wp2_with fail
    go_ret
    exact ⟨(by rw [hF.out]; try rfl), HP4.out.b⟩
   | false =>
    have HQ2 := Lib.hid (show dw1 p = true by simpa using hq2)
    clear hq2
    as_aux_lemma =>
     go_upto_region 51 with fail
     have HGOOD := Lib.hid (HXT.out (by rw [← HX.out, HQ1.out, HQ2.out]; rfl))
     clear HXT HXG HX HQ1 HQ2
     have hld1 := load_bx HP4.out.out.1
     have hld3 := load_bx HP4.out.out.2.1
     have HQ := Lib.hid (asked HBB.out HGOOD.out)
     obtain ⟨hna, hnh⟩ := HP4.out.nat (.inl rfl) (.inl rfl) (.inr ⟨rfl, rfl⟩) (.inr ⟨rfl, rfl⟩)
     have HE := Lib.hid (EqPacket_is p ({ zp 1 with ps := p.ps, cl := p.cl, clean := p.clean, keep := p.keep, w := p.w, hu := p.hu, u := p.u, hp := p.hp, pw := p.pw }) a ({ za with pa := a.pa, pc := a.pc, wa := a.wa, wc := a.wc }) wc (fit_len HFIT.out) hnh HP4.out.at hna)
     clear hna hnh HGOOD
     go_wp2_with (first | (refine wpList_load_any (by rfl) 30 (.tmp 1) rfl g 0 rfl _ hld1 ?_) | (refine wpList_load_any (by rfl) 30 (.tmp 3) rfl g3 0 rfl _ hld3 ?_))
     refine HE.out.mono ?_
     rintro e w5 ⟨rfl, hb5⟩
     have HP5 := Lib.hid (HP4.out.below hb5)
     clear hb5 hld1 hld3 HE HP4 HT6
     cases hq : eqP p ({ zp 1 with ps := p.ps, cl := p.cl, clean := p.clean, keep := p.keep, w := p.w, hu := p.hu, u := p.u, hp := p.hp, pw := p.pw }) with
     | false =>
      have hF := Lib.hid (HQ.out.no hq)
      go_wp2_with fail
      go_ret
      exact ⟨(by rw [hF.out]; try rfl), HP5.out.b⟩
     | true =>
      obtain ⟨hgd, hbb⟩ := HQ.out.yes hq
      obtain ⟨S, hS⟩ : ∃ S, strP p = S := ⟨_, rfl⟩
      have HBy := Lib.hid (RB_1 p a S w5 HP5.out.at HKD.out hgd hS)
      rw [hS] at hbb
      have HBB2 := Lib.hid hbb
      have hld1 := load_bx HP5.out.out.1
      clear hgd hbb hS hq HQ
      go_wp2_with (refine wpList_load_any (by rfl) 30 (.tmp 1) rfl g 0 rfl _ hld1 ?_)
      refine HBy.out.mono ?_
      rintro e w8 ⟨rfl, hb6⟩
      have HB6 := Lib.hid (HP5.out.below hb6).b
      clear hb6 hld1 HBy HP5
      by_cases h8 : S.size ≤ 8192
      ·have hd : decide ((S.size : Int) ≤ 8192) = true := decide_eq_true (by omega)
       go_wp2_with fail
       go_ret
       exact ⟨(by rw [HBB2.out, decide_eq_true h8]; try rfl), HB6.out⟩
      ·have hd : decide ((S.size : Int) ≤ 8192) = false := decide_eq_false (by omega)
       go_wp2_with fail
       go_ret
       exact ⟨(by rw [HBB2.out, decide_eq_false h8]; try rfl), HB6.out⟩
open Go.RowKit Go.Lib Prp Pkt Vbi
theorem rpacket_2 (p : Pk) (a : Ad) (b : Bool) (w : World) (hf : PkFit p a) (h : PkAt w w.heap.size p a) (hk : p.kind = 2) (hb : packB p = b) :
  Calls Tryz.prog 9 #[.agg (pkArr p a)] w fun e w' => e = .returned (.bool b) ∧ Below w.heap.size w w' := by
 have HFIT := Lib.hid hf
 have HBB := Lib.hid hb
 have HDOC := Lib.hid (doc_2 hk)
 have hb1 := Box.new w 30 (pkArr p a)
 have ha1 := (Below.refl w.heap.size w).alloc (Nat.le_refl _) (.cells (pkArr p a) 30)
 obtain ⟨W1, hW⟩ : ∃ W1, w.alloc (.cells (pkArr p a) 30) = W1 := ⟨_, rfl⟩
 rw [hW] at hb1 ha1
 obtain ⟨g, hg⟩ : ∃ g, w.heap.size = g := ⟨_, rfl⟩
 rw [hg] at hb1
 have hgl := hb1.lt
 have hb3 := Box.new W1 30 (pkArr (zp 0) za)
 have ha3 := (Below.refl W1.heap.size W1).alloc (Nat.le_refl _) (.cells (pkArr (zp 0) za) 30)
 obtain ⟨W2, hW2⟩ : ∃ W2, W1.alloc (.cells (pkArr (zp 0) za) 30) = W2 := ⟨_, rfl⟩
 rw [hW2] at hb3 ha3
 obtain ⟨g3, hg3⟩ : ∃ g, W1.heap.size = g := ⟨_, rfl⟩
 rw [hg3] at hb3 hgl
 obtain ⟨W3, hW3⟩ : ∃ W3, W2.setRow g3 (pkArr (zp 2) za) = W3 := ⟨_, rfl⟩
 have hr3 := Bar.row g3 W2 (pkArr (zp 2) za)
 have hx1 : Box W3 g (pkArr p a) := by rw [← hW3]; exact hr3.box (hb1.below (ha3.mono (by omega))) (by omega)
 have hx3 : Box W3 g3 (pkArr (zp 2) za) := by rw [← hW3]; exact hb3.row _
 have hbw : Below w.heap.size w W3 := by rw [← hW3]; exact hr3.below (ha1.trans (ha3.mono (by have := ha1.size; omega))) (by omega) (by have := ha1.size; have := ha3.size; omega)
 have HP := Lib.hid (Pair.mk (w := w) (g := g) (g3 := g3) (p := p) (a := a) (N := zp 2) (a' := za) (W := W3) ⟨hx1, hx3, h.below hbw, hbw, by omega, by omega, by omega⟩)
 have c0 : W1.cell? ⟨g, 0, none⟩ = some (.int .i64 2) := by rw [hb1.cell, ← hk]; rfl
 have HB3 := Lib.hid hb3
 have HW3 := Lib.hid hW3
 have HG := Lib.hid hg
 have HG3 := Lib.hid hg3
 simp only [pkArr, zp, za, zw, List.length_nil] at hW2
 have HW2 := Lib.hid hW2
 unfold pkArr at hW ⊢
 have HW := Lib.hid hW
 have HKD := Lib.hid hk
 clear hW hW2 hW3 hb1 ha1 hb3 ha3 hr3 hx1 hx3 hbw hgl hf h hk hb hg hg3
 go_enter Tryz.func9, Tryz.ntmps9
 go_upto_region 1 with fail
 rw [HW.out, HG.out]
 generalize Value.agg _ = v0
 have hg3 := HG3.out
 go_upto_region 2 with (first | (refine wpList_build_kind rfl (.tmp 9) rfl 2 rfl ?_) | (rw [HW2.out]; refine wpList_store_whole rfl 30 (.tmp 3) (.tmp 10) rfl g3 (pkArr (zp 2) za) rfl rfl (pkArr (zp 0) za) HB3.out info_pk rfl (one_pk _ _) ?_; simp only [Act.put]))
 rw [HW3.out]
 clear hg3 c0 HW HW2 HW3 HB3 HG HG3
 have c0 : W3.cell? ⟨g, 0, none⟩ = some (.int .i64 2) := by rw [HP.out.arg, ← HKD.out]; rfl
 have c7 : W3.cell? ⟨g, 7, none⟩ = some (.int .i64 p.re) := HP.out.arg 7
 have c24 : W3.cell? ⟨g, 24, none⟩ = some (.slice a.pa p.ps.length a.pc) := HP.out.arg 24
 cases hx1 : inB p.re 255 with
 | false =>
  have hF := Lib.hid (not_good HBB.out (by rw [HDOC.out, hx1]; rfl))
  clear HFIT HBB HDOC
  go_wp2_with (first | (go_at_call 34; refine (ZNum_is _ _ _ _ rfl).mono ?_; rintro e w' ⟨rfl, rfl⟩) | (go_at_call 38; refine (rid_is _ _ _ rfl).mono ?_; rintro e w' ⟨rfl, rfl⟩) | (go_at_call 36; refine (rtext_is _ _ _ rfl).mono ?_; rintro e w' ⟨rfl, rfl⟩))
  go_ret
  exact ⟨(by rw [hF.out]; try rfl), HP.out.b⟩
 | true =>
 have HPR := Lib.hid ((RProps_is 2 p.ps a.pa a.pc _ W3 HFIT.out.pl1.1 HFIT.out.pl1.2 HFIT.out.ps HP.out.at.ps rfl).mono fun e w' (q : e = .returned (.bool (propsB 2 p.ps)) ∧ Below W3.heap.size W3 w') => q)
 cases hx2 : propsB 2 p.ps with
 | false =>
  have hF := Lib.hid (not_good HBB.out (by rw [HDOC.out, hx1, hx2]; rfl))
  clear HFIT HBB HDOC
  go_wp2_with (first | (go_at_call 34; refine (ZNum_is _ _ _ _ rfl).mono ?_; rintro e w' ⟨rfl, rfl⟩) | (go_at_call 38; refine (rid_is _ _ _ rfl).mono ?_; rintro e w' ⟨rfl, rfl⟩) | (go_at_call 36; refine (rtext_is _ _ _ rfl).mono ?_; rintro e w' ⟨rfl, rfl⟩))
  refine HPR.out.mono ?_
  rintro e w1 ⟨rfl, hb1⟩
  have HP2 := Lib.hid (HP.out.below hb1)
  clear hb1 HP HPR c0 c7 c24
  go_wp2_with (first | (go_at_call 34; refine (ZNum_is _ _ _ _ rfl).mono ?_; rintro e w' ⟨rfl, rfl⟩) | (go_at_call 38; refine (rid_is _ _ _ rfl).mono ?_; rintro e w' ⟨rfl, rfl⟩) | (go_at_call 36; refine (rtext_is _ _ _ rfl).mono ?_; rintro e w' ⟨rfl, rfl⟩))
  go_ret
  exact ⟨(by rw [hF.out]; try rfl), HP2.out.b⟩
 | true =>
 go_wp2_with (first | (go_at_call 34; refine (ZNum_is _ _ _ _ rfl).mono ?_; rintro e w' ⟨rfl, rfl⟩) | (go_at_call 38; refine (rid_is _ _ _ rfl).mono ?_; rintro e w' ⟨rfl, rfl⟩) | (go_at_call 36; refine (rtext_is _ _ _ rfl).mono ?_; rintro e w' ⟨rfl, rfl⟩))
 refine HPR.out.mono ?_
 rintro e w1 ⟨rfl, hb1⟩
 have HP2 := Lib.hid (HP.out.below hb1)
 clear hb1 HP HPR c0 c7 c24
 have c24 : w1.cell? ⟨g, 24, none⟩ = some (.slice a.pa p.ps.length a.pc) := HP2.out.arg 24
 have d24 : w1.cell? ⟨g3, 24, none⟩ = some (.slice none 0 0) := HP2.out.non 24
 have f24 := HP2.out.nfz 24
 have hne3 : ¬ g = g3 := HP2.out.out.2.2.2.2.2.2
 go_upto_region 5 with fail
 have HP3 := Lib.hid (HP2.out.put 24 (.slice a.pa p.ps.length a.pc) { zp 2 with ps := p.ps } { za with pa := a.pa, pc := a.pc } rfl)
 clear HP2 c24 d24 f24
 generalize World.setCell _ _ _ = w3 at HP3 ⊢
 have c0 : w3.cell? ⟨g, 0, none⟩ = some (.int .i64 2) := by rw [HP3.out.arg, ← HKD.out]; rfl
 go_upto_region 15 with fail
 have hHeld : Pair w g g3 p a { zp 2 with ps := p.ps } { za with pa := a.pa, pc := a.pc } (World.drew w3) := HP3.out.below (below_drewN (Below.refl _ _) 1)
 clear HP3 c0
 refine wp_region_held_drew (S := fun W => Box W g (pkArr p a)) (by kernel_rfl) hHeld.out.1 (fun hBox => ?_)
 generalize World.drew w3 = Wd at hHeld hBox ⊢
 refine take_op 0 151 ?v0 rfl rfl (by kernel_rfl) (fun _ _ _ h => h) (by rfl) hBox (fun w' hS' => ?hv0) ?hh0
 case hv0 => (go_simp; try with_reducible rfl)
 simp only [Act.put, List.setIfInBounds_toArray, List.set_cons_zero, List.set_cons_succ]
 refine take_op 1 152 ?v1 rfl rfl (by kernel_rfl) (fun _ _ _ h => h) (by rfl) hBox (fun w' hS' => ?hv1) ?hh1
 case hv1 => (have k : w'.cell? ⟨g, 8, none⟩ = some (.bool p.pre) := Box.cell hS' 8; go_simp; try with_reducible rfl)
 simp only [Act.put, List.setIfInBounds_toArray, List.set_cons_zero, List.set_cons_succ]
 refine take_op 2 153 ?v2 rfl rfl (by kernel_rfl) (fun _ _ _ h => h) (by rfl) hBox (fun w' hS' => ?hv2) ?hh2
 case hv2 => (go_simp; try with_reducible rfl)
 simp only [Act.put, List.setIfInBounds_toArray, List.set_cons_zero, List.set_cons_succ]
 refine take_op 3 154 ?v3 rfl rfl (by kernel_rfl) (fun _ _ _ h => h) (by rfl) hBox (fun w' hS' => ?hv3) ?hh3
 case hv3 => (have k : w'.cell? ⟨g, 7, none⟩ = some (.int .i64 p.re) := Box.cell hS' 7; go_simp; try with_reducible rfl)
 simp only [Act.put, List.setIfInBounds_toArray, List.set_cons_zero, List.set_cons_succ]
 refine take_op 4 155 ?v4 rfl rfl (by kernel_rfl) (fun _ _ _ h => h) (by rfl) hBox (fun w' hS' => ?hv4) ?hh4
 case hv4 => (go_simp; try with_reducible rfl)
 simp only [Act.put, List.setIfInBounds_toArray, List.set_cons_zero, List.set_cons_succ]
 have s0 := hHeld.put 8 (.bool p.pre) { zp 2 with ps := p.ps, pre := p.pre } { za with pa := a.pa, pc := a.pc } rfl
 have c0x : Wd.cell? ⟨g3, 8, none⟩ = some (.bool false) := hHeld.non 8
 have f0x := hHeld.nfz 8
 refine only_op 5 rfl (by kernel_rfl) (by rfl) (wp_store_one 4 (.tmp 155) (.tmp 152) rfl _ _ rfl rfl (by go_simp) ⟨s0.out.1, ?_⟩)
 simp only [Act.put]
 have s1 := s0.put 7 (.int .i64 p.re) { zp 2 with ps := p.ps, pre := p.pre, re := p.re } { za with pa := a.pa, pc := a.pc } rfl
 have c1x : (Wd.setCell ⟨g3, 8, none⟩ (.bool p.pre)).cell? ⟨g3, 7, none⟩ = some (.int .i64 0) := s0.non 7
 have f1x := s0.nfz 7
 refine take_op 6 156 ?v6 rfl rfl (by kernel_rfl) (fun _ _ _ h => h) (by rfl) s0.out.1 (fun w' hS' => ?hv6) ?hh6
 case hv6 => (go_simp; try with_reducible rfl)
 simp only [Act.put, List.setIfInBounds_toArray]
 refine only_op 7 rfl (by kernel_rfl) (by rfl) (wp_store_one 3 (.tmp 156) (.tmp 154) rfl _ _ rfl rfl (by go_simp) ⟨s1.out.1, ?_⟩)
 simp only [Act.put]
 refine wpAnyH_done (by kernel_rfl) ?_ _
 have HP4 := Lib.hid s1
 clear hHeld hBox s0 c0x f0x s1 c1x f1x
 generalize World.setCell _ _ _ = w4 at HP4 ⊢
 have HGOOD : Hid (goodP p = eqP p { zp 2 with ps := p.ps, pre := p.pre, re := p.re }) := by show _ = _; rw [HDOC.out, hx1, hx2]; rfl
 have hld1 := load_bx HP4.out.out.1
 have hld3 := load_bx HP4.out.out.2.1
 have HQ := Lib.hid (asked HBB.out HGOOD.out)
 obtain ⟨hna, hnh⟩ := HP4.out.nat (.inl rfl) (.inl rfl) (.inl rfl) (.inr ⟨rfl, rfl⟩)
 have HE := Lib.hid (EqPacket_is p ({ zp 2 with ps := p.ps, pre := p.pre, re := p.re }) a ({ za with pa := a.pa, pc := a.pc }) w4 (fit_len HFIT.out) hnh HP4.out.at hna)
 clear hna hnh HGOOD
 go_wp2_with (first | (refine wpList_load_any (by rfl) 30 (.tmp 1) rfl g 0 rfl _ hld1 ?_) | (refine wpList_load_any (by rfl) 30 (.tmp 3) rfl g3 0 rfl _ hld3 ?_))
 refine HE.out.mono ?_
 rintro e w5 ⟨rfl, hb5⟩
 have HP5 := Lib.hid (HP4.out.below hb5)
 clear hb5 hld1 hld3 HE
 cases hq : eqP p ({ zp 2 with ps := p.ps, pre := p.pre, re := p.re }) with
 | false =>
  have hF := Lib.hid (HQ.out.no hq)
  go_wp2_with fail
  go_ret
  exact ⟨(by rw [hF.out]; try rfl), HP5.out.b⟩
 | true =>
  obtain ⟨hgd, hbb⟩ := HQ.out.yes hq
  obtain ⟨S, hS⟩ : ∃ S, strP p = S := ⟨_, rfl⟩
  have HBy := Lib.hid (RB_2 p a S w5 HP5.out.at HKD.out hgd hS)
  rw [hS] at hbb
  have HBB2 := Lib.hid hbb
  have hld1 := load_bx HP5.out.out.1
  clear hgd hbb hS hq HQ
  go_wp2_with (refine wpList_load_any (by rfl) 30 (.tmp 1) rfl g 0 rfl _ hld1 ?_)
  refine HBy.out.mono ?_
  rintro e w6 ⟨rfl, hb6⟩
  have HB6 := Lib.hid (HP5.out.below hb6).b
  clear hb6 hld1 HBy HP5
  by_cases h8 : S.size ≤ 8192
  ·have hd : decide ((S.size : Int) ≤ 8192) = true := decide_eq_true (by omega)
   go_wp2_with fail
   go_ret
   exact ⟨(by rw [HBB2.out, decide_eq_true h8]; try rfl), HB6.out⟩
  ·have hd : decide ((S.size : Int) ≤ 8192) = false := decide_eq_false (by omega)
   go_wp2_with fail
   go_ret
   exact ⟨(by rw [HBB2.out, decide_eq_false h8]; try rfl), HB6.out⟩
end Go.Proofs.YtdbbcfohjkgdcaaGreat
