/- The document's own: may a packet be: nothing more. -/
import Derived.Test.YtdbbcfohjkgdcaaGreatM00
import Derived.Test.YtdbbcfohjkgdcaaGreatM31
set_option maxRecDepth 100000
set_option maxHeartbeats 64000000
namespace Go.Proofs.YtdbbcfohjkgdcaaGreat
open Go.RowKit Go.Lib Prp Pkt Vbi
theorem rpacket_7 (p : Pk) (a : Ad) (b : Bool) (w : World) (hf : PkFit p a) (h : PkAt w w.heap.size p a) (hk : p.kind = 7) (hb : packB p = b) :
  Calls Tryz.prog 9 #[.agg (pkArr p a)] w fun e w' => e = .returned (.bool b) ∧ Below w.heap.size w w' := by
 have HFIT := Lib.hid hf
 have HBB := Lib.hid hb
 have HDOC := Lib.hid (doc_7 hk)
 have hb1 := Box.new w 30 (pkArr p a)
 have ha1 := (Below.refl w.heap.size w).alloc (Nat.le_refl _) (.cells (pkArr p a) 30)
 obtain ⟨W1, hW⟩ : ∃ W1, w.alloc (.cells (pkArr p a) 30) = W1 := ⟨_, rfl⟩
 rw [hW] at hb1 ha1
 obtain ⟨g, hg⟩ : ∃ g, w.heap.size = g := ⟨_, rfl⟩
 rw [hg] at hb1
 have hgl := hb1.lt
 have hb3 := Box.new W1 30 (pkArr (zp 0) za)
 have ha3 := (Below.refl W1.heap.size W1).alloc (Nat.le_refl _) (.cells (pkArr (zp 0) za) 30)
 obtain ⟨W2, hW2⟩ : ∃ W2, W1.alloc (.cells (pkArr (zp 0) za) 30) = W2 := ⟨_, rfl⟩
 rw [hW2] at hb3 ha3
 obtain ⟨g3, hg3⟩ : ∃ g, W1.heap.size = g := ⟨_, rfl⟩
 rw [hg3] at hb3 hgl
 obtain ⟨W3, hW3⟩ : ∃ W3, W2.setRow g3 (pkArr (zp 7) za) = W3 := ⟨_, rfl⟩
 have hr3 := Bar.row g3 W2 (pkArr (zp 7) za)
 have hx1 : Box W3 g (pkArr p a) := by rw [← hW3]; exact hr3.box (hb1.below (ha3.mono (by omega))) (by omega)
 have hx3 : Box W3 g3 (pkArr (zp 7) za) := by rw [← hW3]; exact hb3.row _
 have hbw : Below w.heap.size w W3 := by rw [← hW3]; exact hr3.below (ha1.trans (ha3.mono (by have := ha1.size; omega))) (by omega) (by have := ha1.size; have := ha3.size; omega)
 have HP := Lib.hid (Pair.mk (w := w) (g := g) (g3 := g3) (p := p) (a := a) (N := zp 7) (a' := za) (W := W3) ⟨hx1, hx3, h.below hbw, hbw, by omega, by omega, by omega⟩)
 have c0 : W1.cell? ⟨g, 0, none⟩ = some (.int .i64 7) := by rw [hb1.cell, ← hk]; rfl
 have HB3 := Lib.hid hb3
 have HW3 := Lib.hid hW3
 have HG := Lib.hid hg
 have HG3 := Lib.hid hg3
 simp only [pkArr, zp, za, zw, List.length_nil] at hW2
 have HW2 := Lib.hid hW2
 unfold pkArr at hW ⊢
 have HW := Lib.hid hW
 have HKD := Lib.hid hk
 clear hW hW2 hW3 hb1 ha1 hb3 ha3 hr3 hx1 hx3 hbw hgl hf h hk hb hg hg3
 go_enter Tryz.func9, Tryz.ntmps9
 go_upto_region 1 with fail
 rw [HW.out, HG.out]
 generalize Value.agg _ = v0
 have hg3 := HG3.out
 go_upto_region 2 with (first | (refine wpList_build_kind rfl (.tmp 9) rfl 7 rfl ?_) | (rw [HW2.out]; refine wpList_store_whole rfl 30 (.tmp 3) (.tmp 10) rfl g3 (pkArr (zp 7) za) rfl rfl (pkArr (zp 0) za) HB3.out info_pk rfl (one_pk _ _) ?_; simp only [Act.put]))
 rw [HW3.out]
 clear hg3 c0 HW HW2 HW3 HB3 HG HG3
 have c0 : W3.cell? ⟨g, 0, none⟩ = some (.int .i64 7) := by rw [HP.out.arg, ← HKD.out]; rfl
 have c7 : W3.cell? ⟨g, 7, none⟩ = some (.int .i64 p.re) := HP.out.arg 7
 have c24 : W3.cell? ⟨g, 24, none⟩ = some (.slice a.pa p.ps.length a.pc) := HP.out.arg 24
 cases hx1 : inB p.re 255 with
 | false =>
  have hF := Lib.hid (not_good HBB.out (by rw [HDOC.out, hx1]; rfl))
  clear HFIT HBB HDOC
  go_wp2_with (first | (go_at_call 34; refine (ZNum_is _ _ _ _ rfl).mono ?_; rintro e w' ⟨rfl, rfl⟩) | (go_at_call 38; refine (rid_is _ _ _ rfl).mono ?_; rintro e w' ⟨rfl, rfl⟩) | (go_at_call 36; refine (rtext_is _ _ _ rfl).mono ?_; rintro e w' ⟨rfl, rfl⟩))
  go_ret
  exact ⟨(by rw [hF.out]; try rfl), HP.out.b⟩
 | true =>
 have HPR := Lib.hid ((RProps_is 7 p.ps a.pa a.pc _ W3 HFIT.out.pl1.1 HFIT.out.pl1.2 HFIT.out.ps HP.out.at.ps rfl).mono fun e w' (q : e = .returned (.bool (propsB 7 p.ps)) ∧ Below W3.heap.size W3 w') => q)
 cases hx2 : propsB 7 p.ps with
 | false =>
  have hF := Lib.hid (not_good HBB.out (by rw [HDOC.out, hx1, hx2]; rfl))
  clear HFIT HBB HDOC
  go_wp2_with (first | (go_at_call 34; refine (ZNum_is _ _ _ _ rfl).mono ?_; rintro e w' ⟨rfl, rfl⟩) | (go_at_call 38; refine (rid_is _ _ _ rfl).mono ?_; rintro e w' ⟨rfl, rfl⟩) | (go_at_call 36; refine (rtext_is _ _ _ rfl).mono ?_; rintro e w' ⟨rfl, rfl⟩))
  refine HPR.out.mono ?_
  rintro e w1 ⟨rfl, hb1⟩
  have HP2 := Lib.hid (HP.out.below hb1)
  clear hb1 HP HPR c0 c7 c24
  go_wp2_with (first | (go_at_call 34; refine (ZNum_is _ _ _ _ rfl).mono ?_; rintro e w' ⟨rfl, rfl⟩) | (go_at_call 38; refine (rid_is _ _ _ rfl).mono ?_; rintro e w' ⟨rfl, rfl⟩) | (go_at_call 36; refine (rtext_is _ _ _ rfl).mono ?_; rintro e w' ⟨rfl, rfl⟩))
  go_ret
  exact ⟨(by rw [hF.out]; try rfl), HP2.out.b⟩
 | true =>
 go_wp2_with (first | (go_at_call 34; refine (ZNum_is _ _ _ _ rfl).mono ?_; rintro e w' ⟨rfl, rfl⟩) | (go_at_call 38; refine (rid_is _ _ _ rfl).mono ?_; rintro e w' ⟨rfl, rfl⟩) | (go_at_call 36; refine (rtext_is _ _ _ rfl).mono ?_; rintro e w' ⟨rfl, rfl⟩))
 refine HPR.out.mono ?_
 rintro e w1 ⟨rfl, hb1⟩
 have HP2 := Lib.hid (HP.out.below hb1)
 clear hb1 HP HPR c0 c7 c24
 have c24 : w1.cell? ⟨g, 24, none⟩ = some (.slice a.pa p.ps.length a.pc) := HP2.out.arg 24
 have d24 : w1.cell? ⟨g3, 24, none⟩ = some (.slice none 0 0) := HP2.out.non 24
 have f24 := HP2.out.nfz 24
 have hne3 : ¬ g = g3 := HP2.out.out.2.2.2.2.2.2
 go_upto_region 5 with fail
 have HP3 := Lib.hid (HP2.out.put 24 (.slice a.pa p.ps.length a.pc) { zp 7 with ps := p.ps } { za with pa := a.pa, pc := a.pc } rfl)
 clear HP2 c24 d24 f24
 generalize World.setCell _ _ _ = w3 at HP3 ⊢
 have c0 : w3.cell? ⟨g, 0, none⟩ = some (.int .i64 7) := by rw [HP3.out.arg, ← HKD.out]; rfl
 go_upto_region 24 with fail
 have hHeld : Pair w g g3 p a { zp 7 with ps := p.ps } { za with pa := a.pa, pc := a.pc } (World.drew w3) := HP3.out.below (below_drewN (Below.refl _ _) 1)
 clear HP3 c0
 refine wp_region_held_drew (S := fun W => Box W g (pkArr p a)) (by kernel_rfl) hHeld.out.1 (fun hBox => ?_)
 generalize World.drew w3 = Wd at hHeld hBox ⊢
 refine take_op 0 223 ?v0 rfl rfl (by kernel_rfl) (fun _ _ _ h => h) (by rfl) hBox (fun w' hS' => ?hv0) ?hh0
 case hv0 => (go_simp; try with_reducible rfl)
 simp only [Act.put, List.setIfInBounds_toArray, List.set_cons_zero, List.set_cons_succ]
 refine take_op 1 224 ?v1 rfl rfl (by kernel_rfl) (fun _ _ _ h => h) (by rfl) hBox (fun w' hS' => ?hv1) ?hh1
 case hv1 => (have k : w'.cell? ⟨g, 4, none⟩ = some (.int .i64 p.id) := Box.cell hS' 4; go_simp; try with_reducible rfl)
 simp only [Act.put, List.setIfInBounds_toArray, List.set_cons_zero, List.set_cons_succ]
 refine take_op 2 225 ?v2 rfl rfl (by kernel_rfl) (fun _ _ _ h => h) (by rfl) hBox (fun w' hS' => ?hv2) ?hh2
 case hv2 => (go_simp; try with_reducible rfl)
 simp only [Act.put, List.setIfInBounds_toArray, List.set_cons_zero, List.set_cons_succ]
 refine take_op 3 226 ?v3 rfl rfl (by kernel_rfl) (fun _ _ _ h => h) (by rfl) hBox (fun w' hS' => ?hv3) ?hh3
 case hv3 => (have k : w'.cell? ⟨g, 7, none⟩ = some (.int .i64 p.re) := Box.cell hS' 7; go_simp; try with_reducible rfl)
 simp only [Act.put, List.setIfInBounds_toArray, List.set_cons_zero, List.set_cons_succ]
 refine take_op 4 227 ?v4 rfl rfl (by kernel_rfl) (fun _ _ _ h => h) (by rfl) hBox (fun w' hS' => ?hv4) ?hh4
 case hv4 => (go_simp; try with_reducible rfl)
 simp only [Act.put, List.setIfInBounds_toArray, List.set_cons_zero, List.set_cons_succ]
 have s0 := hHeld.put 4 (.int .i64 p.id) { zp 7 with ps := p.ps, id := p.id } { za with pa := a.pa, pc := a.pc } rfl
 have c0x : Wd.cell? ⟨g3, 4, none⟩ = some (.int .i64 0) := hHeld.non 4
 have f0x := hHeld.nfz 4
 refine only_op 5 rfl (by kernel_rfl) (by rfl) (wp_store_one 3 (.tmp 227) (.tmp 224) rfl _ _ rfl rfl (by go_simp) ⟨s0.out.1, ?_⟩)
 simp only [Act.put]
 have s1 := s0.put 7 (.int .i64 p.re) { zp 7 with ps := p.ps, id := p.id, re := p.re } { za with pa := a.pa, pc := a.pc } rfl
 have c1x : (Wd.setCell ⟨g3, 4, none⟩ (.int .i64 p.id)).cell? ⟨g3, 7, none⟩ = some (.int .i64 0) := s0.non 7
 have f1x := s0.nfz 7
 refine take_op 6 228 ?v6 rfl rfl (by kernel_rfl) (fun _ _ _ h => h) (by rfl) s0.out.1 (fun w' hS' => ?hv6) ?hh6
 case hv6 => (go_simp; try with_reducible rfl)
 simp only [Act.put, List.setIfInBounds_toArray]
 refine only_op 7 rfl (by kernel_rfl) (by rfl) (wp_store_one 3 (.tmp 228) (.tmp 226) rfl _ _ rfl rfl (by go_simp) ⟨s1.out.1, ?_⟩)
 simp only [Act.put]
 refine wpAnyH_done (by kernel_rfl) ?_ _
 have HP4 := Lib.hid s1
 clear hHeld hBox s0 c0x f0x s1 c1x f1x
 generalize World.setCell _ _ _ = w4 at HP4 ⊢
 have c4 : w4.cell? ⟨g, 4, none⟩ = some (.int .i64 p.id) := HP4.out.arg 4
 cases hx3 : idB p.id with
 | false =>
  have hF := Lib.hid (not_good HBB.out (by rw [HDOC.out, hx1, hx2, hx3]; rfl))
  clear HFIT HBB HDOC
  go_wp2_with (first | (go_at_call 34; refine (ZNum_is _ _ _ _ rfl).mono ?_; rintro e w' ⟨rfl, rfl⟩) | (go_at_call 38; refine (rid_is _ _ _ rfl).mono ?_; rintro e w' ⟨rfl, rfl⟩) | (go_at_call 36; refine (rtext_is _ _ _ rfl).mono ?_; rintro e w' ⟨rfl, rfl⟩))
  go_ret
  exact ⟨(by rw [hF.out]; try rfl), HP4.out.b⟩
 | true =>
 have HGOOD : Hid (goodP p = eqP p { zp 7 with ps := p.ps, id := p.id, re := p.re }) := by show _ = _; rw [HDOC.out, hx1, hx2, hx3]; rfl
 go_upto_region 51 with (first | (go_at_call 34; refine (ZNum_is _ _ _ _ rfl).mono ?_; rintro e w' ⟨rfl, rfl⟩) | (go_at_call 38; refine (rid_is _ _ _ rfl).mono ?_; rintro e w' ⟨rfl, rfl⟩) | (go_at_call 36; refine (rtext_is _ _ _ rfl).mono ?_; rintro e w' ⟨rfl, rfl⟩))
 clear c4
 have hld1 := load_bx HP4.out.out.1
 have hld3 := load_bx HP4.out.out.2.1
 have HQ := Lib.hid (asked HBB.out HGOOD.out)
 obtain ⟨hna, hnh⟩ := HP4.out.nat (.inl rfl) (.inl rfl) (.inl rfl) (.inr ⟨rfl, rfl⟩)
 have HE := Lib.hid (EqPacket_is p ({ zp 7 with ps := p.ps, id := p.id, re := p.re }) a ({ za with pa := a.pa, pc := a.pc }) w4 (fit_len HFIT.out) hnh HP4.out.at hna)
 clear hna hnh HGOOD
 go_wp2_with (first | (refine wpList_load_any (by rfl) 30 (.tmp 1) rfl g 0 rfl _ hld1 ?_) | (refine wpList_load_any (by rfl) 30 (.tmp 3) rfl g3 0 rfl _ hld3 ?_))
 refine HE.out.mono ?_
 rintro e w5 ⟨rfl, hb5⟩
 have HP5 := Lib.hid (HP4.out.below hb5)
 clear hb5 hld1 hld3 HE
 cases hq : eqP p ({ zp 7 with ps := p.ps, id := p.id, re := p.re }) with
 | false =>
  have hF := Lib.hid (HQ.out.no hq)
  go_wp2_with fail
  go_ret
  exact ⟨(by rw [hF.out]; try rfl), HP5.out.b⟩
 | true =>
  obtain ⟨hgd, hbb⟩ := HQ.out.yes hq
  obtain ⟨S, hS⟩ : ∃ S, strP p = S := ⟨_, rfl⟩
  have HBy := Lib.hid (RB_7 p a S w5 HP5.out.at HKD.out hgd hS)
  rw [hS] at hbb
  have HBB2 := Lib.hid hbb
  have hld1 := load_bx HP5.out.out.1
  clear hgd hbb hS hq HQ
  go_wp2_with (refine wpList_load_any (by rfl) 30 (.tmp 1) rfl g 0 rfl _ hld1 ?_)
  refine HBy.out.mono ?_
  rintro e w6 ⟨rfl, hb6⟩
  have HB6 := Lib.hid (HP5.out.below hb6).b
  clear hb6 hld1 HBy HP5
  by_cases h8 : S.size ≤ 8192
  ·have hd : decide ((S.size : Int) ≤ 8192) = true := decide_eq_true (by omega)
   go_wp2_with fail
   go_ret
   exact ⟨(by rw [HBB2.out, decide_eq_true h8]; try rfl), HB6.out⟩
  ·have hd : decide ((S.size : Int) ≤ 8192) = false := decide_eq_false (by omega)
   go_wp2_with fail
   go_ret
   exact ⟨(by rw [HBB2.out, decide_eq_false h8]; try rfl), HB6.out⟩
open Go.RowKit Go.Lib Prp Pkt Vbi
theorem rpacket_9 (p : Pk) (a : Ad) (b : Bool) (w : World) (hf : PkFit p a) (h : PkAt w w.heap.size p a) (hk : p.kind = 9) (hb : packB p = b) :
  Calls Tryz.prog 9 #[.agg (pkArr p a)] w fun e w' => e = .returned (.bool b) ∧ Below w.heap.size w w' := by
 have HFIT := Lib.hid hf
 have HBB := Lib.hid hb
 have HDOC := Lib.hid (doc_9 hk)
 have hb1 := Box.new w 30 (pkArr p a)
 have ha1 := (Below.refl w.heap.size w).alloc (Nat.le_refl _) (.cells (pkArr p a) 30)
 obtain ⟨W1, hW⟩ : ∃ W1, w.alloc (.cells (pkArr p a) 30) = W1 := ⟨_, rfl⟩
 rw [hW] at hb1 ha1
 obtain ⟨g, hg⟩ : ∃ g, w.heap.size = g := ⟨_, rfl⟩
 rw [hg] at hb1
 have hgl := hb1.lt
 have hb3 := Box.new W1 30 (pkArr (zp 0) za)
 have ha3 := (Below.refl W1.heap.size W1).alloc (Nat.le_refl _) (.cells (pkArr (zp 0) za) 30)
 obtain ⟨W2, hW2⟩ : ∃ W2, W1.alloc (.cells (pkArr (zp 0) za) 30) = W2 := ⟨_, rfl⟩
 rw [hW2] at hb3 ha3
 obtain ⟨g3, hg3⟩ : ∃ g, W1.heap.size = g := ⟨_, rfl⟩
 rw [hg3] at hb3 hgl
 obtain ⟨W3, hW3⟩ : ∃ W3, W2.setRow g3 (pkArr (zp 9) za) = W3 := ⟨_, rfl⟩
 have hr3 := Bar.row g3 W2 (pkArr (zp 9) za)
 have hx1 : Box W3 g (pkArr p a) := by rw [← hW3]; exact hr3.box (hb1.below (ha3.mono (by omega))) (by omega)
 have hx3 : Box W3 g3 (pkArr (zp 9) za) := by rw [← hW3]; exact hb3.row _
 have hbw : Below w.heap.size w W3 := by rw [← hW3]; exact hr3.below (ha1.trans (ha3.mono (by have := ha1.size; omega))) (by omega) (by have := ha1.size; have := ha3.size; omega)
 have HP := Lib.hid (Pair.mk (w := w) (g := g) (g3 := g3) (p := p) (a := a) (N := zp 9) (a' := za) (W := W3) ⟨hx1, hx3, h.below hbw, hbw, by omega, by omega, by omega⟩)
 have c0 : W1.cell? ⟨g, 0, none⟩ = some (.int .i64 9) := by rw [hb1.cell, ← hk]; rfl
 have HB3 := Lib.hid hb3
 have HW3 := Lib.hid hW3
 have HG := Lib.hid hg
 have HG3 := Lib.hid hg3
 simp only [pkArr, zp, za, zw, List.length_nil] at hW2
 have HW2 := Lib.hid hW2
 unfold pkArr at hW ⊢
 have HW := Lib.hid hW
 have HKD := Lib.hid hk
 clear hW hW2 hW3 hb1 ha1 hb3 ha3 hr3 hx1 hx3 hbw hgl hf h hk hb hg hg3
 go_enter Tryz.func9, Tryz.ntmps9
 go_upto_region 1 with fail
 rw [HW.out, HG.out]
 generalize Value.agg _ = v0
 have hg3 := HG3.out
 go_upto_region 2 with (first | (refine wpList_build_kind rfl (.tmp 9) rfl 9 rfl ?_) | (rw [HW2.out]; refine wpList_store_whole rfl 30 (.tmp 3) (.tmp 10) rfl g3 (pkArr (zp 9) za) rfl rfl (pkArr (zp 0) za) HB3.out info_pk rfl (one_pk _ _) ?_; simp only [Act.put]))
 rw [HW3.out]
 clear hg3 c0 HW HW2 HW3 HB3 HG HG3
 have c0 : W3.cell? ⟨g, 0, none⟩ = some (.int .i64 9) := by rw [HP.out.arg, ← HKD.out]; rfl
 have c7 : W3.cell? ⟨g, 7, none⟩ = some (.int .i64 p.re) := HP.out.arg 7
 have c24 : W3.cell? ⟨g, 24, none⟩ = some (.slice a.pa p.ps.length a.pc) := HP.out.arg 24
 cases hx1 : inB p.re 255 with
 | false =>
  have hF := Lib.hid (not_good HBB.out (by rw [HDOC.out, hx1]; rfl))
  clear HFIT HBB HDOC
  go_wp2_with (first | (go_at_call 34; refine (ZNum_is _ _ _ _ rfl).mono ?_; rintro e w' ⟨rfl, rfl⟩) | (go_at_call 38; refine (rid_is _ _ _ rfl).mono ?_; rintro e w' ⟨rfl, rfl⟩) | (go_at_call 36; refine (rtext_is _ _ _ rfl).mono ?_; rintro e w' ⟨rfl, rfl⟩))
  go_ret
  exact ⟨(by rw [hF.out]; try rfl), HP.out.b⟩
 | true =>
 have HPR := Lib.hid ((RProps_is 9 p.ps a.pa a.pc _ W3 HFIT.out.pl1.1 HFIT.out.pl1.2 HFIT.out.ps HP.out.at.ps rfl).mono fun e w' (q : e = .returned (.bool (propsB 9 p.ps)) ∧ Below W3.heap.size W3 w') => q)
 cases hx2 : propsB 9 p.ps with
 | false =>
  have hF := Lib.hid (not_good HBB.out (by rw [HDOC.out, hx1, hx2]; rfl))
  clear HFIT HBB HDOC
  go_wp2_with (first | (go_at_call 34; refine (ZNum_is _ _ _ _ rfl).mono ?_; rintro e w' ⟨rfl, rfl⟩) | (go_at_call 38; refine (rid_is _ _ _ rfl).mono ?_; rintro e w' ⟨rfl, rfl⟩) | (go_at_call 36; refine (rtext_is _ _ _ rfl).mono ?_; rintro e w' ⟨rfl, rfl⟩))
  refine HPR.out.mono ?_
  rintro e w1 ⟨rfl, hb1⟩
  have HP2 := Lib.hid (HP.out.below hb1)
  clear hb1 HP HPR c0 c7 c24
  go_wp2_with (first | (go_at_call 34; refine (ZNum_is _ _ _ _ rfl).mono ?_; rintro e w' ⟨rfl, rfl⟩) | (go_at_call 38; refine (rid_is _ _ _ rfl).mono ?_; rintro e w' ⟨rfl, rfl⟩) | (go_at_call 36; refine (rtext_is _ _ _ rfl).mono ?_; rintro e w' ⟨rfl, rfl⟩))
  go_ret
  exact ⟨(by rw [hF.out]; try rfl), HP2.out.b⟩
 | true =>
 go_wp2_with (first | (go_at_call 34; refine (ZNum_is _ _ _ _ rfl).mono ?_; rintro e w' ⟨rfl, rfl⟩) | (go_at_call 38; refine (rid_is _ _ _ rfl).mono ?_; rintro e w' ⟨rfl, rfl⟩) | (go_at_call 36; refine (rtext_is _ _ _ rfl).mono ?_; rintro e w' ⟨rfl, rfl⟩))
 refine HPR.out.mono ?_
 rintro e w1 ⟨rfl, hb1⟩
 have HP2 := Lib.hid (HP.out.below hb1)
 clear hb1 HP HPR c0 c7 c24
 have c24 : w1.cell? ⟨g, 24, none⟩ = some (.slice a.pa p.ps.length a.pc) := HP2.out.arg 24
 have d24 : w1.cell? ⟨g3, 24, none⟩ = some (.slice none 0 0) := HP2.out.non 24
 have f24 := HP2.out.nfz 24
 have hne3 : ¬ g = g3 := HP2.out.out.2.2.2.2.2.2
 go_upto_region 5 with fail
 have HP3 := Lib.hid (HP2.out.put 24 (.slice a.pa p.ps.length a.pc) { zp 9 with ps := p.ps } { za with pa := a.pa, pc := a.pc } rfl)
 clear HP2 c24 d24 f24
 generalize World.setCell _ _ _ = w3 at HP3 ⊢
 have c0 : w3.cell? ⟨g, 0, none⟩ = some (.int .i64 9) := by rw [HP3.out.arg, ← HKD.out]; rfl
 go_upto_region 40 with fail
 have hHeld : Pair w g g3 p a { zp 9 with ps := p.ps } { za with pa := a.pa, pc := a.pc } (World.drew w3) := HP3.out.below (below_drewN (Below.refl _ _) 1)
 clear HP3 c0
 refine wp_region_held_drew (S := fun W => Box W g (pkArr p a)) (by kernel_rfl) hHeld.out.1 (fun hBox => ?_)
 generalize World.drew w3 = Wd at hHeld hBox ⊢
 refine take_op 0 301 ?v0 rfl rfl (by kernel_rfl) (fun _ _ _ h => h) (by rfl) hBox (fun w' hS' => ?hv0) ?hh0
 case hv0 => (go_simp; try with_reducible rfl)
 simp only [Act.put, List.setIfInBounds_toArray, List.set_cons_zero, List.set_cons_succ]
 refine take_op 1 302 ?v1 rfl rfl (by kernel_rfl) (fun _ _ _ h => h) (by rfl) hBox (fun w' hS' => ?hv1) ?hh1
 case hv1 => (have k : w'.cell? ⟨g, 4, none⟩ = some (.int .i64 p.id) := Box.cell hS' 4; go_simp; try with_reducible rfl)
 simp only [Act.put, List.setIfInBounds_toArray, List.set_cons_zero, List.set_cons_succ]
 refine take_op 2 303 ?v2 rfl rfl (by kernel_rfl) (fun _ _ _ h => h) (by rfl) hBox (fun w' hS' => ?hv2) ?hh2
 case hv2 => (go_simp; try with_reducible rfl)
 simp only [Act.put, List.setIfInBounds_toArray, List.set_cons_zero, List.set_cons_succ]
 refine take_op 3 304 ?v3 rfl rfl (by kernel_rfl) (fun _ _ _ h => h) (by rfl) hBox (fun w' hS' => ?hv3) ?hh3
 case hv3 => (have k : w'.cell? ⟨g, 9, none⟩ = some (.slice a.ca p.cs.length a.cc) := Box.cell hS' 9; go_simp; try with_reducible rfl)
 simp only [Act.put, List.setIfInBounds_toArray, List.set_cons_zero, List.set_cons_succ]
 refine take_op 4 305 ?v4 rfl rfl (by kernel_rfl) (fun _ _ _ h => h) (by rfl) hBox (fun w' hS' => ?hv4) ?hh4
 case hv4 => (go_simp; try with_reducible rfl)
 simp only [Act.put, List.setIfInBounds_toArray, List.set_cons_zero, List.set_cons_succ]
 have s0 := hHeld.put 4 (.int .i64 p.id) { zp 9 with ps := p.ps, id := p.id } { za with pa := a.pa, pc := a.pc } rfl
 have c0x : Wd.cell? ⟨g3, 4, none⟩ = some (.int .i64 0) := hHeld.non 4
 have f0x := hHeld.nfz 4
 refine only_op 5 rfl (by kernel_rfl) (by rfl) (wp_store_one 3 (.tmp 305) (.tmp 302) rfl _ _ rfl rfl (by go_simp) ⟨s0.out.1, ?_⟩)
 simp only [Act.put]
 have s1 := s0.put 9 (.slice a.ca p.cs.length a.cc) { zp 9 with ps := p.ps, id := p.id, cs := p.cs } { za with pa := a.pa, pc := a.pc, ca := a.ca, cc := a.cc } rfl
 have c1x : (Wd.setCell ⟨g3, 4, none⟩ (.int .i64 p.id)).cell? ⟨g3, 9, none⟩ = some (.slice none 0 0) := s0.non 9
 have f1x := s0.nfz 9
 refine take_op 6 306 ?v6 rfl rfl (by kernel_rfl) (fun _ _ _ h => h) (by rfl) s0.out.1 (fun w' hS' => ?hv6) ?hh6
 case hv6 => (go_simp; try with_reducible rfl)
 simp only [Act.put, List.setIfInBounds_toArray]
 refine only_op 7 rfl (by kernel_rfl) (by rfl) (wp_store_one 24 (.tmp 306) (.tmp 304) rfl _ _ rfl rfl (by go_simp) ⟨s1.out.1, ?_⟩)
 simp only [Act.put]
 refine wpAnyH_done (by kernel_rfl) ?_ _
 have HP4 := Lib.hid s1
 clear hHeld hBox s0 c0x f0x s1 c1x f1x
 generalize World.setCell _ _ _ = w4 at HP4 ⊢
 have c4 : w4.cell? ⟨g, 4, none⟩ = some (.int .i64 p.id) := HP4.out.arg 4
 have c9 : w4.cell? ⟨g, 9, none⟩ = some (.slice a.ca p.cs.length a.cc) := HP4.out.arg 9
 cases hx3 : idB p.id with
 | false =>
  have hF := Lib.hid (not_good HBB.out (by rw [HDOC.out, hx1, hx2, hx3]; rfl))
  clear HFIT HBB HDOC
  go_wp2_with (first | (go_at_call 34; refine (ZNum_is _ _ _ _ rfl).mono ?_; rintro e w' ⟨rfl, rfl⟩) | (go_at_call 38; refine (rid_is _ _ _ rfl).mono ?_; rintro e w' ⟨rfl, rfl⟩) | (go_at_call 36; refine (rtext_is _ _ _ rfl).mono ?_; rintro e w' ⟨rfl, rfl⟩))
  go_ret
  exact ⟨(by rw [hF.out]; try rfl), HP4.out.b⟩
 | true =>
 by_cases hl1 : p.cs.length < 1
 ·have hF := Lib.hid (not_good HBB.out (by rw [HDOC.out, hx1, hx2, hx3, show countB p.cs.length = false from decide_eq_false (by omega)]; rfl))
  have hd1 : decide ((p.cs.length : Int) < 1) = true := decide_eq_true (by omega)
  have hz : p.cs.length = 0 := by omega
  rw [hz] at c9 hd1
  clear HFIT HBB HDOC hl1 hz
  go_wp2_with (first | (go_at_call 34; refine (ZNum_is _ _ _ _ rfl).mono ?_; rintro e w' ⟨rfl, rfl⟩) | (go_at_call 38; refine (rid_is _ _ _ rfl).mono ?_; rintro e w' ⟨rfl, rfl⟩) | (go_at_call 36; refine (rtext_is _ _ _ rfl).mono ?_; rintro e w' ⟨rfl, rfl⟩))
  go_ret
  exact ⟨(by rw [hF.out]; try rfl), HP4.out.b⟩
 have hd1 : decide ((p.cs.length : Int) < 1) = false := decide_eq_false (by omega)
 by_cases hl4 : 4 < p.cs.length
 ·have hF := Lib.hid (not_good HBB.out (by rw [HDOC.out, hx1, hx2, hx3, show countB p.cs.length = false from decide_eq_false (by omega)]; rfl))
  have hd4 : decide ((4 : Int) < (p.cs.length : Int)) = true := decide_eq_true (by omega)
  clear HFIT HBB HDOC hl1
  go_wp2_with (first | (go_at_call 34; refine (ZNum_is _ _ _ _ rfl).mono ?_; rintro e w' ⟨rfl, rfl⟩) | (go_at_call 38; refine (rid_is _ _ _ rfl).mono ?_; rintro e w' ⟨rfl, rfl⟩) | (go_at_call 36; refine (rtext_is _ _ _ rfl).mono ?_; rintro e w' ⟨rfl, rfl⟩))
  go_ret
  exact ⟨(by rw [hF.out]; try rfl), HP4.out.b⟩
 have hd4 : decide ((4 : Int) < (p.cs.length : Int)) = false := decide_eq_false (by omega)
 have HCO : Hid (countB p.cs.length = true) := by show _ = _; exact decide_eq_true (by omega)
 go_upto_region 43 with (first | (go_at_call 34; refine (ZNum_is _ _ _ _ rfl).mono ?_; rintro e w' ⟨rfl, rfl⟩) | (go_at_call 38; refine (rid_is _ _ _ rfl).mono ?_; rintro e w' ⟨rfl, rfl⟩) | (go_at_call 36; refine (rtext_is _ _ _ rfl).mono ?_; rintro e w' ⟨rfl, rfl⟩))
 clear c4
 have HL4 : Hid (p.cs.length ≤ 4) := by show _ ≤ _; omega
 clear hl1 hl4 hd1 hd4
 go_wp2_with fail
 go_loopw [7] (fun i wr => ∃ j : Nat, j ≤ p.cs.length ∧ i = .int .i64 (j : Int) ∧ wr = w4 ∧ ∀ x ∈ p.cs.take j, inB x 255 = true) (fun i _ => p.cs.length - (RowKit.intOf i).toNat)
 case atStart => exact ⟨0, Nat.zero_le _, rfl, rfl, by simp⟩
 case round =>
  obtain ⟨j, hj, rfl, rfl, hall⟩ := hrel
  have HALL := Lib.hid hall
  clear hall
  have hl4x : p.cs.length ≤ 4 := HL4.out
  by_cases hjl : j < p.cs.length
  ·have hjI : (j : Int) < (p.cs.length : Int) := by omega
   obtain ⟨ad, hca, had, hcell⟩ := HP4.out.at.cs.some_ (by omega)
   have e9 : wr.cell? (ad.add j) = some (.int .i64 p.cs[j]) := by rw [hcell j hjl]; simp [hjl]
   rw [hca] at c9
   obtain ⟨x, hx⟩ : ∃ x, p.cs[j] = x := ⟨_, rfl⟩
   rw [hx] at e9
   have HXX := Lib.hid hx
   clear hx hca had hcell
   cases hx4 : inB x 255 with
   | false =>
    have hF := Lib.hid (not_good HBB.out (by
     rw [HDOC.out, show (p.cs.all fun x => inB x 255) = false from by
      rw [List.all_eq_false]
      exact ⟨x, by rw [← HXX.out]; exact List.getElem_mem hjl, by rw [hx4]; decide⟩]
     simp))
    clear HFIT HBB HDOC HALL
    go_wp2_with (first | (go_at_call 34; refine (ZNum_is _ _ _ _ rfl).mono ?_; rintro e w' ⟨rfl, rfl⟩) | (go_at_call 38; refine (rid_is _ _ _ rfl).mono ?_; rintro e w' ⟨rfl, rfl⟩) | (go_at_call 36; refine (rtext_is _ _ _ rfl).mono ?_; rintro e w' ⟨rfl, rfl⟩))
    go_ret
    exact ⟨(by rw [hF.out]; try rfl), HP4.out.b⟩
   | true =>
    have HALL2 : Hid (∀ x ∈ p.cs.take (j + 1), inB x 255 = true) := by
     show ∀ x ∈ p.cs.take (j + 1), inB x 255 = true
     intro y hy
     rw [List.take_succ_eq_append_getElem hjl, List.mem_append] at hy
     rcases hy with hy | hy
     ·exact HALL.out y hy
     ·obtain rfl := List.mem_singleton.1 hy
      rw [HXX.out]; exact hx4
    clear HALL
    go_wp2_with (first | (go_at_call 34; refine (ZNum_is _ _ _ _ rfl).mono ?_; rintro e w' ⟨rfl, rfl⟩) | (go_at_call 38; refine (rid_is _ _ _ rfl).mono ?_; rintro e w' ⟨rfl, rfl⟩) | (go_at_call 36; refine (rtext_is _ _ _ rfl).mono ?_; rintro e w' ⟨rfl, rfl⟩))
    go_roundw
    case rel => exact ⟨j + 1, hjl, by go_num, by first | rfl | trivial, HALL2.out⟩
    case measure => simp [RowKit.intOf]; omega
  ·have hjd : decide (j < p.cs.length) = false := decide_eq_false hjl
   have hjd2 : decide ((j : Int) < (p.cs.length : Int)) = false := decide_eq_false (by omega)
   have hall : (p.cs.all fun x => inB x 255) = true := by
    rw [List.all_eq_true]
    intro y hy
    exact HALL.out y (by rw [List.take_of_length_le (by omega)]; exact hy)
   have HGOOD : Hid (goodP p = eqP p { zp 9 with ps := p.ps, id := p.id, cs := p.cs }) := by show _ = _; rw [HDOC.out, hx1, hx2, hx3, HCO.out, hall]; rfl
   clear hall HALL
   go_upto_region 51 with fail
   clear c9 hjd hjd2
   have hld1 := load_bx HP4.out.out.1
   have hld3 := load_bx HP4.out.out.2.1
   have HQ := Lib.hid (asked HBB.out HGOOD.out)
   obtain ⟨hna, hnh⟩ := HP4.out.nat (.inr ⟨rfl, rfl⟩) (.inl rfl) (.inl rfl) (.inr ⟨rfl, rfl⟩)
   have HE := Lib.hid (EqPacket_is p ({ zp 9 with ps := p.ps, id := p.id, cs := p.cs }) a ({ za with pa := a.pa, pc := a.pc, ca := a.ca, cc := a.cc }) wr (fit_len HFIT.out) hnh HP4.out.at hna)
   clear hna hnh HGOOD
   go_wp2_with (first | (refine wpList_load_any (by rfl) 30 (.tmp 1) rfl g 0 rfl _ hld1 ?_) | (refine wpList_load_any (by rfl) 30 (.tmp 3) rfl g3 0 rfl _ hld3 ?_))
   refine HE.out.mono ?_
   rintro e w5 ⟨rfl, hb5⟩
   have HP5 := Lib.hid (HP4.out.below hb5)
   clear hb5 hld1 hld3 HE
   cases hq : eqP p ({ zp 9 with ps := p.ps, id := p.id, cs := p.cs }) with
   | false =>
    have hF := Lib.hid (HQ.out.no hq)
    go_wp2_with fail
    go_ret
    exact ⟨(by rw [hF.out]; try rfl), HP5.out.b⟩
   | true =>
    obtain ⟨hgd, hbb⟩ := HQ.out.yes hq
    obtain ⟨S, hS⟩ : ∃ S, strP p = S := ⟨_, rfl⟩
    have HBy := Lib.hid (RB_9 p a S w5 HP5.out.at HKD.out hgd hS)
    rw [hS] at hbb
    have HBB2 := Lib.hid hbb
    have hld1 := load_bx HP5.out.out.1
    clear hgd hbb hS hq HQ
    go_wp2_with (refine wpList_load_any (by rfl) 30 (.tmp 1) rfl g 0 rfl _ hld1 ?_)
    refine HBy.out.mono ?_
    rintro e w6 ⟨rfl, hb6⟩
    have HB6 := Lib.hid (HP5.out.below hb6).b
    clear hb6 hld1 HBy HP5
    by_cases h8 : S.size ≤ 8192
    ·have hd : decide ((S.size : Int) ≤ 8192) = true := decide_eq_true (by omega)
     go_wp2_with fail
     go_ret
     exact ⟨(by rw [HBB2.out, decide_eq_true h8]; try rfl), HB6.out⟩
    ·have hd : decide ((S.size : Int) ≤ 8192) = false := decide_eq_false (by omega)
     go_wp2_with fail
     go_ret
     exact ⟨(by rw [HBB2.out, decide_eq_false h8]; try rfl), HB6.out⟩
open Go.RowKit Go.Lib Prp Pkt Vbi
theorem rpacket_11 (p : Pk) (a : Ad) (b : Bool) (w : World) (hf : PkFit p a) (h : PkAt w w.heap.size p a) (hk : p.kind = 11) (hb : packB p = b) :
  Calls Tryz.prog 9 #[.agg (pkArr p a)] w fun e w' => e = .returned (.bool b) ∧ Below w.heap.size w w' := by
 have HFIT := Lib.hid hf
 have HBB := Lib.hid hb
 have HDOC := Lib.hid (doc_11 hk)
 have hb1 := Box.new w 30 (pkArr p a)
 have ha1 := (Below.refl w.heap.size w).alloc (Nat.le_refl _) (.cells (pkArr p a) 30)
 obtain ⟨W1, hW⟩ : ∃ W1, w.alloc (.cells (pkArr p a) 30) = W1 := ⟨_, rfl⟩
 rw [hW] at hb1 ha1
 obtain ⟨g, hg⟩ : ∃ g, w.heap.size = g := ⟨_, rfl⟩
 rw [hg] at hb1
 have hgl := hb1.lt
 have hb3 := Box.new W1 30 (pkArr (zp 0) za)
 have ha3 := (Below.refl W1.heap.size W1).alloc (Nat.le_refl _) (.cells (pkArr (zp 0) za) 30)
 obtain ⟨W2, hW2⟩ : ∃ W2, W1.alloc (.cells (pkArr (zp 0) za) 30) = W2 := ⟨_, rfl⟩
 rw [hW2] at hb3 ha3
 obtain ⟨g3, hg3⟩ : ∃ g, W1.heap.size = g := ⟨_, rfl⟩
 rw [hg3] at hb3 hgl
 obtain ⟨W3, hW3⟩ : ∃ W3, W2.setRow g3 (pkArr (zp 11) za) = W3 := ⟨_, rfl⟩
 have hr3 := Bar.row g3 W2 (pkArr (zp 11) za)
 have hx1 : Box W3 g (pkArr p a) := by rw [← hW3]; exact hr3.box (hb1.below (ha3.mono (by omega))) (by omega)
 have hx3 : Box W3 g3 (pkArr (zp 11) za) := by rw [← hW3]; exact hb3.row _
 have hbw : Below w.heap.size w W3 := by rw [← hW3]; exact hr3.below (ha1.trans (ha3.mono (by have := ha1.size; omega))) (by omega) (by have := ha1.size; have := ha3.size; omega)
 have HP := Lib.hid (Pair.mk (w := w) (g := g) (g3 := g3) (p := p) (a := a) (N := zp 11) (a' := za) (W := W3) ⟨hx1, hx3, h.below hbw, hbw, by omega, by omega, by omega⟩)
 have c0 : W1.cell? ⟨g, 0, none⟩ = some (.int .i64 11) := by rw [hb1.cell, ← hk]; rfl
 have HB3 := Lib.hid hb3
 have HW3 := Lib.hid hW3
 have HG := Lib.hid hg
 have HG3 := Lib.hid hg3
 simp only [pkArr, zp, za, zw, List.length_nil] at hW2
 have HW2 := Lib.hid hW2
 unfold pkArr at hW ⊢
 have HW := Lib.hid hW
 have HKD := Lib.hid hk
 clear hW hW2 hW3 hb1 ha1 hb3 ha3 hr3 hx1 hx3 hbw hgl hf h hk hb hg hg3
 go_enter Tryz.func9, Tryz.ntmps9
 go_upto_region 1 with fail
 rw [HW.out, HG.out]
 generalize Value.agg _ = v0
 have hg3 := HG3.out
 go_upto_region 2 with (first | (refine wpList_build_kind rfl (.tmp 9) rfl 11 rfl ?_) | (rw [HW2.out]; refine wpList_store_whole rfl 30 (.tmp 3) (.tmp 10) rfl g3 (pkArr (zp 11) za) rfl rfl (pkArr (zp 0) za) HB3.out info_pk rfl (one_pk _ _) ?_; simp only [Act.put]))
 rw [HW3.out]
 clear hg3 c0 HW HW2 HW3 HB3 HG HG3
 have c0 : W3.cell? ⟨g, 0, none⟩ = some (.int .i64 11) := by rw [HP.out.arg, ← HKD.out]; rfl
 have c7 : W3.cell? ⟨g, 7, none⟩ = some (.int .i64 p.re) := HP.out.arg 7
 have c24 : W3.cell? ⟨g, 24, none⟩ = some (.slice a.pa p.ps.length a.pc) := HP.out.arg 24
 cases hx1 : inB p.re 255 with
 | false =>
  have hF := Lib.hid (not_good HBB.out (by rw [HDOC.out, hx1]; rfl))
  clear HFIT HBB HDOC
  go_wp2_with (first | (go_at_call 34; refine (ZNum_is _ _ _ _ rfl).mono ?_; rintro e w' ⟨rfl, rfl⟩) | (go_at_call 38; refine (rid_is _ _ _ rfl).mono ?_; rintro e w' ⟨rfl, rfl⟩) | (go_at_call 36; refine (rtext_is _ _ _ rfl).mono ?_; rintro e w' ⟨rfl, rfl⟩))
  go_ret
  exact ⟨(by rw [hF.out]; try rfl), HP.out.b⟩
 | true =>
 have HPR := Lib.hid ((RProps_is 11 p.ps a.pa a.pc _ W3 HFIT.out.pl1.1 HFIT.out.pl1.2 HFIT.out.ps HP.out.at.ps rfl).mono fun e w' (q : e = .returned (.bool (propsB 11 p.ps)) ∧ Below W3.heap.size W3 w') => q)
 cases hx2 : propsB 11 p.ps with
 | false =>
  have hF := Lib.hid (not_good HBB.out (by rw [HDOC.out, hx1, hx2]; rfl))
  clear HFIT HBB HDOC
  go_wp2_with (first | (go_at_call 34; refine (ZNum_is _ _ _ _ rfl).mono ?_; rintro e w' ⟨rfl, rfl⟩) | (go_at_call 38; refine (rid_is _ _ _ rfl).mono ?_; rintro e w' ⟨rfl, rfl⟩) | (go_at_call 36; refine (rtext_is _ _ _ rfl).mono ?_; rintro e w' ⟨rfl, rfl⟩))
  refine HPR.out.mono ?_
  rintro e w1 ⟨rfl, hb1⟩
  have HP2 := Lib.hid (HP.out.below hb1)
  clear hb1 HP HPR c0 c7 c24
  go_wp2_with (first | (go_at_call 34; refine (ZNum_is _ _ _ _ rfl).mono ?_; rintro e w' ⟨rfl, rfl⟩) | (go_at_call 38; refine (rid_is _ _ _ rfl).mono ?_; rintro e w' ⟨rfl, rfl⟩) | (go_at_call 36; refine (rtext_is _ _ _ rfl).mono ?_; rintro e w' ⟨rfl, rfl⟩))
  go_ret
  exact ⟨(by rw [hF.out]; try rfl), HP2.out.b⟩
 | true =>
 go_wp2_with (first | (go_at_call 34; refine (ZNum_is _ _ _ _ rfl).mono ?_; rintro e w' ⟨rfl, rfl⟩) | (go_at_call 38; refine (rid_is _ _ _ rfl).mono ?_; rintro e w' ⟨rfl, rfl⟩) | (go_at_call 36; refine (rtext_is _ _ _ rfl).mono ?_; rintro e w' ⟨rfl, rfl⟩))
 refine HPR.out.mono ?_
 rintro e w1 ⟨rfl, hb1⟩
 have HP2 := Lib.hid (HP.out.below hb1)
 clear hb1 HP HPR c0 c7 c24
 have c24 : w1.cell? ⟨g, 24, none⟩ = some (.slice a.pa p.ps.length a.pc) := HP2.out.arg 24
 have d24 : w1.cell? ⟨g3, 24, none⟩ = some (.slice none 0 0) := HP2.out.non 24
 have f24 := HP2.out.nfz 24
 have hne3 : ¬ g = g3 := HP2.out.out.2.2.2.2.2.2
 go_upto_region 5 with fail
 have HP3 := Lib.hid (HP2.out.put 24 (.slice a.pa p.ps.length a.pc) { zp 11 with ps := p.ps } { za with pa := a.pa, pc := a.pc } rfl)
 clear HP2 c24 d24 f24
 generalize World.setCell _ _ _ = w3 at HP3 ⊢
 have c0 : w3.cell? ⟨g, 0, none⟩ = some (.int .i64 11) := by rw [HP3.out.arg, ← HKD.out]; rfl
 go_upto_region 40 with fail
 have hHeld : Pair w g g3 p a { zp 11 with ps := p.ps } { za with pa := a.pa, pc := a.pc } (World.drew w3) := HP3.out.below (below_drewN (Below.refl _ _) 1)
 clear HP3 c0
 refine wp_region_held_drew (S := fun W => Box W g (pkArr p a)) (by kernel_rfl) hHeld.out.1 (fun hBox => ?_)
 generalize World.drew w3 = Wd at hHeld hBox ⊢
 refine take_op 0 301 ?v0 rfl rfl (by kernel_rfl) (fun _ _ _ h => h) (by rfl) hBox (fun w' hS' => ?hv0) ?hh0
 case hv0 => (go_simp; try with_reducible rfl)
 simp only [Act.put, List.setIfInBounds_toArray, List.set_cons_zero, List.set_cons_succ]
 refine take_op 1 302 ?v1 rfl rfl (by kernel_rfl) (fun _ _ _ h => h) (by rfl) hBox (fun w' hS' => ?hv1) ?hh1
 case hv1 => (have k : w'.cell? ⟨g, 4, none⟩ = some (.int .i64 p.id) := Box.cell hS' 4; go_simp; try with_reducible rfl)
 simp only [Act.put, List.setIfInBounds_toArray, List.set_cons_zero, List.set_cons_succ]
 refine take_op 2 303 ?v2 rfl rfl (by kernel_rfl) (fun _ _ _ h => h) (by rfl) hBox (fun w' hS' => ?hv2) ?hh2
 case hv2 => (go_simp; try with_reducible rfl)
 simp only [Act.put, List.setIfInBounds_toArray, List.set_cons_zero, List.set_cons_succ]
 refine take_op 3 304 ?v3 rfl rfl (by kernel_rfl) (fun _ _ _ h => h) (by rfl) hBox (fun w' hS' => ?hv3) ?hh3
 case hv3 => (have k : w'.cell? ⟨g, 9, none⟩ = some (.slice a.ca p.cs.length a.cc) := Box.cell hS' 9; go_simp; try with_reducible rfl)
 simp only [Act.put, List.setIfInBounds_toArray, List.set_cons_zero, List.set_cons_succ]
 refine take_op 4 305 ?v4 rfl rfl (by kernel_rfl) (fun _ _ _ h => h) (by rfl) hBox (fun w' hS' => ?hv4) ?hh4
 case hv4 => (go_simp; try with_reducible rfl)
 simp only [Act.put, List.setIfInBounds_toArray, List.set_cons_zero, List.set_cons_succ]
 have s0 := hHeld.put 4 (.int .i64 p.id) { zp 11 with ps := p.ps, id := p.id } { za with pa := a.pa, pc := a.pc } rfl
 have c0x : Wd.cell? ⟨g3, 4, none⟩ = some (.int .i64 0) := hHeld.non 4
 have f0x := hHeld.nfz 4
 refine only_op 5 rfl (by kernel_rfl) (by rfl) (wp_store_one 3 (.tmp 305) (.tmp 302) rfl _ _ rfl rfl (by go_simp) ⟨s0.out.1, ?_⟩)
 simp only [Act.put]
 have s1 := s0.put 9 (.slice a.ca p.cs.length a.cc) { zp 11 with ps := p.ps, id := p.id, cs := p.cs } { za with pa := a.pa, pc := a.pc, ca := a.ca, cc := a.cc } rfl
 have c1x : (Wd.setCell ⟨g3, 4, none⟩ (.int .i64 p.id)).cell? ⟨g3, 9, none⟩ = some (.slice none 0 0) := s0.non 9
 have f1x := s0.nfz 9
 refine take_op 6 306 ?v6 rfl rfl (by kernel_rfl) (fun _ _ _ h => h) (by rfl) s0.out.1 (fun w' hS' => ?hv6) ?hh6
 case hv6 => (go_simp; try with_reducible rfl)
 simp only [Act.put, List.setIfInBounds_toArray]
 refine only_op 7 rfl (by kernel_rfl) (by rfl) (wp_store_one 24 (.tmp 306) (.tmp 304) rfl _ _ rfl rfl (by go_simp) ⟨s1.out.1, ?_⟩)
 simp only [Act.put]
 refine wpAnyH_done (by kernel_rfl) ?_ _
 have HP4 := Lib.hid s1
 clear hHeld hBox s0 c0x f0x s1 c1x f1x
 generalize World.setCell _ _ _ = w4 at HP4 ⊢
 have c4 : w4.cell? ⟨g, 4, none⟩ = some (.int .i64 p.id) := HP4.out.arg 4
 have c9 : w4.cell? ⟨g, 9, none⟩ = some (.slice a.ca p.cs.length a.cc) := HP4.out.arg 9
 cases hx3 : idB p.id with
 | false =>
  have hF := Lib.hid (not_good HBB.out (by rw [HDOC.out, hx1, hx2, hx3]; rfl))
  clear HFIT HBB HDOC
  go_wp2_with (first | (go_at_call 34; refine (ZNum_is _ _ _ _ rfl).mono ?_; rintro e w' ⟨rfl, rfl⟩) | (go_at_call 38; refine (rid_is _ _ _ rfl).mono ?_; rintro e w' ⟨rfl, rfl⟩) | (go_at_call 36; refine (rtext_is _ _ _ rfl).mono ?_; rintro e w' ⟨rfl, rfl⟩))
  go_ret
  exact ⟨(by rw [hF.out]; try rfl), HP4.out.b⟩
 | true =>
 by_cases hl1 : p.cs.length < 1
 ·have hF := Lib.hid (not_good HBB.out (by rw [HDOC.out, hx1, hx2, hx3, show countB p.cs.length = false from decide_eq_false (by omega)]; rfl))
  have hd1 : decide ((p.cs.length : Int) < 1) = true := decide_eq_true (by omega)
  have hz : p.cs.length = 0 := by omega
  rw [hz] at c9 hd1
  clear HFIT HBB HDOC hl1 hz
  go_wp2_with (first | (go_at_call 34; refine (ZNum_is _ _ _ _ rfl).mono ?_; rintro e w' ⟨rfl, rfl⟩) | (go_at_call 38; refine (rid_is _ _ _ rfl).mono ?_; rintro e w' ⟨rfl, rfl⟩) | (go_at_call 36; refine (rtext_is _ _ _ rfl).mono ?_; rintro e w' ⟨rfl, rfl⟩))
  go_ret
  exact ⟨(by rw [hF.out]; try rfl), HP4.out.b⟩
 have hd1 : decide ((p.cs.length : Int) < 1) = false := decide_eq_false (by omega)
 by_cases hl4 : 4 < p.cs.length
 ·have hF := Lib.hid (not_good HBB.out (by rw [HDOC.out, hx1, hx2, hx3, show countB p.cs.length = false from decide_eq_false (by omega)]; rfl))
  have hd4 : decide ((4 : Int) < (p.cs.length : Int)) = true := decide_eq_true (by omega)
  clear HFIT HBB HDOC hl1
  go_wp2_with (first | (go_at_call 34; refine (ZNum_is _ _ _ _ rfl).mono ?_; rintro e w' ⟨rfl, rfl⟩) | (go_at_call 38; refine (rid_is _ _ _ rfl).mono ?_; rintro e w' ⟨rfl, rfl⟩) | (go_at_call 36; refine (rtext_is _ _ _ rfl).mono ?_; rintro e w' ⟨rfl, rfl⟩))
  go_ret
  exact ⟨(by rw [hF.out]; try rfl), HP4.out.b⟩
 have hd4 : decide ((4 : Int) < (p.cs.length : Int)) = false := decide_eq_false (by omega)
 have HCO : Hid (countB p.cs.length = true) := by show _ = _; exact decide_eq_true (by omega)
 go_upto_region 43 with (first | (go_at_call 34; refine (ZNum_is _ _ _ _ rfl).mono ?_; rintro e w' ⟨rfl, rfl⟩) | (go_at_call 38; refine (rid_is _ _ _ rfl).mono ?_; rintro e w' ⟨rfl, rfl⟩) | (go_at_call 36; refine (rtext_is _ _ _ rfl).mono ?_; rintro e w' ⟨rfl, rfl⟩))
 clear c4
 have HL4 : Hid (p.cs.length ≤ 4) := by show _ ≤ _; omega
 clear hl1 hl4 hd1 hd4
 go_wp2_with fail
 go_loopw [7] (fun i wr => ∃ j : Nat, j ≤ p.cs.length ∧ i = .int .i64 (j : Int) ∧ wr = w4 ∧ ∀ x ∈ p.cs.take j, inB x 255 = true) (fun i _ => p.cs.length - (RowKit.intOf i).toNat)
 case atStart => exact ⟨0, Nat.zero_le _, rfl, rfl, by simp⟩
 case round =>
  obtain ⟨j, hj, rfl, rfl, hall⟩ := hrel
  have HALL := Lib.hid hall
  clear hall
  have hl4x : p.cs.length ≤ 4 := HL4.out
  by_cases hjl : j < p.cs.length
  ·have hjI : (j : Int) < (p.cs.length : Int) := by omega
   obtain ⟨ad, hca, had, hcell⟩ := HP4.out.at.cs.some_ (by omega)
   have e9 : wr.cell? (ad.add j) = some (.int .i64 p.cs[j]) := by rw [hcell j hjl]; simp [hjl]
   rw [hca] at c9
   obtain ⟨x, hx⟩ : ∃ x, p.cs[j] = x := ⟨_, rfl⟩
   rw [hx] at e9
   have HXX := Lib.hid hx
   clear hx hca had hcell
   cases hx4 : inB x 255 with
   | false =>
    have hF := Lib.hid (not_good HBB.out (by
     rw [HDOC.out, show (p.cs.all fun x => inB x 255) = false from by
      rw [List.all_eq_false]
      exact ⟨x, by rw [← HXX.out]; exact List.getElem_mem hjl, by rw [hx4]; decide⟩]
     simp))
    clear HFIT HBB HDOC HALL
    go_wp2_with (first | (go_at_call 34; refine (ZNum_is _ _ _ _ rfl).mono ?_; rintro e w' ⟨rfl, rfl⟩) | (go_at_call 38; refine (rid_is _ _ _ rfl).mono ?_; rintro e w' ⟨rfl, rfl⟩) | (go_at_call 36; refine (rtext_is _ _ _ rfl).mono ?_; rintro e w' ⟨rfl, rfl⟩))
    go_ret
    exact ⟨(by rw [hF.out]; try rfl), HP4.out.b⟩
   | true =>
    have HALL2 : Hid (∀ x ∈ p.cs.take (j + 1), inB x 255 = true) := by
     show ∀ x ∈ p.cs.take (j + 1), inB x 255 = true
     intro y hy
     rw [List.take_succ_eq_append_getElem hjl, List.mem_append] at hy
     rcases hy with hy | hy
     ·exact HALL.out y hy
     ·obtain rfl := List.mem_singleton.1 hy
      rw [HXX.out]; exact hx4
    clear HALL
    go_wp2_with (first | (go_at_call 34; refine (ZNum_is _ _ _ _ rfl).mono ?_; rintro e w' ⟨rfl, rfl⟩) | (go_at_call 38; refine (rid_is _ _ _ rfl).mono ?_; rintro e w' ⟨rfl, rfl⟩) | (go_at_call 36; refine (rtext_is _ _ _ rfl).mono ?_; rintro e w' ⟨rfl, rfl⟩))
    go_roundw
    case rel => exact ⟨j + 1, hjl, by go_num, by first | rfl | trivial, HALL2.out⟩
    case measure => simp [RowKit.intOf]; omega
  ·have hjd : decide (j < p.cs.length) = false := decide_eq_false hjl
   have hjd2 : decide ((j : Int) < (p.cs.length : Int)) = false := decide_eq_false (by omega)
   have hall : (p.cs.all fun x => inB x 255) = true := by
    rw [List.all_eq_true]
    intro y hy
    exact HALL.out y (by rw [List.take_of_length_le (by omega)]; exact hy)
   have HGOOD : Hid (goodP p = eqP p { zp 11 with ps := p.ps, id := p.id, cs := p.cs }) := by show _ = _; rw [HDOC.out, hx1, hx2, hx3, HCO.out, hall]; rfl
   clear hall HALL
   go_upto_region 51 with fail
   clear c9 hjd hjd2
   have hld1 := load_bx HP4.out.out.1
   have hld3 := load_bx HP4.out.out.2.1
   have HQ := Lib.hid (asked HBB.out HGOOD.out)
   obtain ⟨hna, hnh⟩ := HP4.out.nat (.inr ⟨rfl, rfl⟩) (.inl rfl) (.inl rfl) (.inr ⟨rfl, rfl⟩)
   have HE := Lib.hid (EqPacket_is p ({ zp 11 with ps := p.ps, id := p.id, cs := p.cs }) a ({ za with pa := a.pa, pc := a.pc, ca := a.ca, cc := a.cc }) wr (fit_len HFIT.out) hnh HP4.out.at hna)
   clear hna hnh HGOOD
   go_wp2_with (first | (refine wpList_load_any (by rfl) 30 (.tmp 1) rfl g 0 rfl _ hld1 ?_) | (refine wpList_load_any (by rfl) 30 (.tmp 3) rfl g3 0 rfl _ hld3 ?_))
   refine HE.out.mono ?_
   rintro e w5 ⟨rfl, hb5⟩
   have HP5 := Lib.hid (HP4.out.below hb5)
   clear hb5 hld1 hld3 HE
   cases hq : eqP p ({ zp 11 with ps := p.ps, id := p.id, cs := p.cs }) with
   | false =>
    have hF := Lib.hid (HQ.out.no hq)
    go_wp2_with fail
    go_ret
    exact ⟨(by rw [hF.out]; try rfl), HP5.out.b⟩
   | true =>
    obtain ⟨hgd, hbb⟩ := HQ.out.yes hq
    obtain ⟨S, hS⟩ : ∃ S, strP p = S := ⟨_, rfl⟩
    have HBy := Lib.hid (RB_11 p a S w5 HP5.out.at HKD.out hgd hS)
    rw [hS] at hbb
    have HBB2 := Lib.hid hbb
    have hld1 := load_bx HP5.out.out.1
    clear hgd hbb hS hq HQ
    go_wp2_with (refine wpList_load_any (by rfl) 30 (.tmp 1) rfl g 0 rfl _ hld1 ?_)
    refine HBy.out.mono ?_
    rintro e w6 ⟨rfl, hb6⟩
    have HB6 := Lib.hid (HP5.out.below hb6).b
    clear hb6 hld1 HBy HP5
    by_cases h8 : S.size ≤ 8192
    ·have hd : decide ((S.size : Int) ≤ 8192) = true := decide_eq_true (by omega)
     go_wp2_with fail
     go_ret
     exact ⟨(by rw [HBB2.out, decide_eq_true h8]; try rfl), HB6.out⟩
    ·have hd : decide ((S.size : Int) ≤ 8192) = false := decide_eq_false (by omega)
     go_wp2_with fail
     go_ret
     exact ⟨(by rw [HBB2.out, decide_eq_false h8]; try rfl), HB6.out⟩
open Go.RowKit Go.Lib Prp Pkt Vbi
theorem rpacket_12 (p : Pk) (a : Ad) (b : Bool) (w : World) (hf : PkFit p a) (h : PkAt w w.heap.size p a) (hk : p.kind = 12) (hb : packB p = b) :
  Calls Tryz.prog 9 #[.agg (pkArr p a)] w fun e w' => e = .returned (.bool b) ∧ Below w.heap.size w w' := by
 have HFIT := Lib.hid hf
 have HBB := Lib.hid hb
 have HDOC := Lib.hid (doc_12 hk)
 have hb1 := Box.new w 30 (pkArr p a)
 have ha1 := (Below.refl w.heap.size w).alloc (Nat.le_refl _) (.cells (pkArr p a) 30)
 obtain ⟨W1, hW⟩ : ∃ W1, w.alloc (.cells (pkArr p a) 30) = W1 := ⟨_, rfl⟩
 rw [hW] at hb1 ha1
 obtain ⟨g, hg⟩ : ∃ g, w.heap.size = g := ⟨_, rfl⟩
 rw [hg] at hb1
 have hgl := hb1.lt
 have hb3 := Box.new W1 30 (pkArr (zp 0) za)
 have ha3 := (Below.refl W1.heap.size W1).alloc (Nat.le_refl _) (.cells (pkArr (zp 0) za) 30)
 obtain ⟨W2, hW2⟩ : ∃ W2, W1.alloc (.cells (pkArr (zp 0) za) 30) = W2 := ⟨_, rfl⟩
 rw [hW2] at hb3 ha3
 obtain ⟨g3, hg3⟩ : ∃ g, W1.heap.size = g := ⟨_, rfl⟩
 rw [hg3] at hb3 hgl
 obtain ⟨W3, hW3⟩ : ∃ W3, W2.setRow g3 (pkArr (zp 12) za) = W3 := ⟨_, rfl⟩
 have hr3 := Bar.row g3 W2 (pkArr (zp 12) za)
 have hx1 : Box W3 g (pkArr p a) := by rw [← hW3]; exact hr3.box (hb1.below (ha3.mono (by omega))) (by omega)
 have hx3 : Box W3 g3 (pkArr (zp 12) za) := by rw [← hW3]; exact hb3.row _
 have hbw : Below w.heap.size w W3 := by rw [← hW3]; exact hr3.below (ha1.trans (ha3.mono (by have := ha1.size; omega))) (by omega) (by have := ha1.size; have := ha3.size; omega)
 have HP := Lib.hid (Pair.mk (w := w) (g := g) (g3 := g3) (p := p) (a := a) (N := zp 12) (a' := za) (W := W3) ⟨hx1, hx3, h.below hbw, hbw, by omega, by omega, by omega⟩)
 have c0 : W1.cell? ⟨g, 0, none⟩ = some (.int .i64 12) := by rw [hb1.cell, ← hk]; rfl
 have HB3 := Lib.hid hb3
 have HW3 := Lib.hid hW3
 have HG := Lib.hid hg
 have HG3 := Lib.hid hg3
 simp only [pkArr, zp, za, zw, List.length_nil] at hW2
 have HW2 := Lib.hid hW2
 unfold pkArr at hW ⊢
 have HW := Lib.hid hW
 have HKD := Lib.hid hk
 clear hW hW2 hW3 hb1 ha1 hb3 ha3 hr3 hx1 hx3 hbw hgl hf h hk hb hg hg3
 go_enter Tryz.func9, Tryz.ntmps9
 go_upto_region 1 with fail
 rw [HW.out, HG.out]
 generalize Value.agg _ = v0
 have hg3 := HG3.out
 go_upto_region 2 with (first | (refine wpList_build_kind rfl (.tmp 9) rfl 12 rfl ?_) | (rw [HW2.out]; refine wpList_store_whole rfl 30 (.tmp 3) (.tmp 10) rfl g3 (pkArr (zp 12) za) rfl rfl (pkArr (zp 0) za) HB3.out info_pk rfl (one_pk _ _) ?_; simp only [Act.put]))
 rw [HW3.out]
 clear hg3 c0 HW HW2 HW3 HB3 HG HG3
 have c0 : W3.cell? ⟨g, 0, none⟩ = some (.int .i64 12) := by rw [HP.out.arg, ← HKD.out]; rfl
 have c7 : W3.cell? ⟨g, 7, none⟩ = some (.int .i64 p.re) := HP.out.arg 7
 have c24 : W3.cell? ⟨g, 24, none⟩ = some (.slice a.pa p.ps.length a.pc) := HP.out.arg 24
 cases hx1 : inB p.re 255 with
 | false =>
  have hF := Lib.hid (not_good HBB.out (by rw [HDOC.out, hx1]; rfl))
  clear HFIT HBB HDOC
  go_wp2_with (first | (go_at_call 34; refine (ZNum_is _ _ _ _ rfl).mono ?_; rintro e w' ⟨rfl, rfl⟩) | (go_at_call 38; refine (rid_is _ _ _ rfl).mono ?_; rintro e w' ⟨rfl, rfl⟩) | (go_at_call 36; refine (rtext_is _ _ _ rfl).mono ?_; rintro e w' ⟨rfl, rfl⟩))
  go_ret
  exact ⟨(by rw [hF.out]; try rfl), HP.out.b⟩
 | true =>
 have HPR := Lib.hid ((RProps_is 12 p.ps a.pa a.pc _ W3 HFIT.out.pl1.1 HFIT.out.pl1.2 HFIT.out.ps HP.out.at.ps rfl).mono fun e w' (q : e = .returned (.bool (propsB 12 p.ps)) ∧ Below W3.heap.size W3 w') => q)
 cases hx2 : propsB 12 p.ps with
 | false =>
  have hF := Lib.hid (not_good HBB.out (by rw [HDOC.out, hx1, hx2]; rfl))
  clear HFIT HBB HDOC
  go_wp2_with (first | (go_at_call 34; refine (ZNum_is _ _ _ _ rfl).mono ?_; rintro e w' ⟨rfl, rfl⟩) | (go_at_call 38; refine (rid_is _ _ _ rfl).mono ?_; rintro e w' ⟨rfl, rfl⟩) | (go_at_call 36; refine (rtext_is _ _ _ rfl).mono ?_; rintro e w' ⟨rfl, rfl⟩))
  refine HPR.out.mono ?_
  rintro e w1 ⟨rfl, hb1⟩
  have HP2 := Lib.hid (HP.out.below hb1)
  clear hb1 HP HPR c0 c7 c24
  go_wp2_with (first | (go_at_call 34; refine (ZNum_is _ _ _ _ rfl).mono ?_; rintro e w' ⟨rfl, rfl⟩) | (go_at_call 38; refine (rid_is _ _ _ rfl).mono ?_; rintro e w' ⟨rfl, rfl⟩) | (go_at_call 36; refine (rtext_is _ _ _ rfl).mono ?_; rintro e w' ⟨rfl, rfl⟩))
  go_ret
  exact ⟨(by rw [hF.out]; try rfl), HP2.out.b⟩
 | true =>
 go_wp2_with (first | (go_at_call 34; refine (ZNum_is _ _ _ _ rfl).mono ?_; rintro e w' ⟨rfl, rfl⟩) | (go_at_call 38; refine (rid_is _ _ _ rfl).mono ?_; rintro e w' ⟨rfl, rfl⟩) | (go_at_call 36; refine (rtext_is _ _ _ rfl).mono ?_; rintro e w' ⟨rfl, rfl⟩))
 refine HPR.out.mono ?_
 rintro e w1 ⟨rfl, hb1⟩
 have HP2 := Lib.hid (HP.out.below hb1)
 clear hb1 HP HPR c0 c7 c24
 have c24 : w1.cell? ⟨g, 24, none⟩ = some (.slice a.pa p.ps.length a.pc) := HP2.out.arg 24
 have d24 : w1.cell? ⟨g3, 24, none⟩ = some (.slice none 0 0) := HP2.out.non 24
 have f24 := HP2.out.nfz 24
 have hne3 : ¬ g = g3 := HP2.out.out.2.2.2.2.2.2
 go_upto_region 5 with fail
 have HP3 := Lib.hid (HP2.out.put 24 (.slice a.pa p.ps.length a.pc) { zp 12 with ps := p.ps } { za with pa := a.pa, pc := a.pc } rfl)
 clear HP2 c24 d24 f24
 generalize World.setCell _ _ _ = w3 at HP3 ⊢
 have c0 : w3.cell? ⟨g, 0, none⟩ = some (.int .i64 12) := by rw [HP3.out.arg, ← HKD.out]; rfl
 have HGOOD : Hid (goodP p = eqP p { zp 12 with ps := p.ps }) := by show _ = _; rw [HDOC.out, hx1, hx2]; rfl
 have hld1 := load_bx HP3.out.out.1
 have hld3 := load_bx HP3.out.out.2.1
 have HQ := Lib.hid (asked HBB.out HGOOD.out)
 obtain ⟨hna, hnh⟩ := HP3.out.nat (.inl rfl) (.inl rfl) (.inl rfl) (.inr ⟨rfl, rfl⟩)
 have HE := Lib.hid (EqPacket_is p ({ zp 12 with ps := p.ps }) a ({ za with pa := a.pa, pc := a.pc }) w3 (fit_len HFIT.out) hnh HP3.out.at hna)
 clear hna hnh HGOOD
 go_wp2_with (first | (refine wpList_load_any (by rfl) 30 (.tmp 1) rfl g 0 rfl _ hld1 ?_) | (refine wpList_load_any (by rfl) 30 (.tmp 3) rfl g3 0 rfl _ hld3 ?_))
 refine HE.out.mono ?_
 rintro e w5 ⟨rfl, hb5⟩
 have HP5 := Lib.hid (HP3.out.below hb5)
 clear hb5 hld1 hld3 HE
 cases hq : eqP p ({ zp 12 with ps := p.ps }) with
 | false =>
  have hF := Lib.hid (HQ.out.no hq)
  go_wp2_with fail
  go_ret
  exact ⟨(by rw [hF.out]; try rfl), HP5.out.b⟩
 | true =>
  obtain ⟨hgd, hbb⟩ := HQ.out.yes hq
  obtain ⟨S, hS⟩ : ∃ S, strP p = S := ⟨_, rfl⟩
  have HBy := Lib.hid (RB_12 p a S w5 HP5.out.at HKD.out hgd hS)
  rw [hS] at hbb
  have HBB2 := Lib.hid hbb
  have hld1 := load_bx HP5.out.out.1
  clear hgd hbb hS hq HQ
  go_wp2_with (refine wpList_load_any (by rfl) 30 (.tmp 1) rfl g 0 rfl _ hld1 ?_)
  refine HBy.out.mono ?_
  rintro e w6 ⟨rfl, hb6⟩
  have HB6 := Lib.hid (HP5.out.below hb6).b
  clear hb6 hld1 HBy HP5
  by_cases h8 : S.size ≤ 8192
  ·have hd : decide ((S.size : Int) ≤ 8192) = true := decide_eq_true (by omega)
   go_wp2_with fail
   go_ret
   exact ⟨(by rw [HBB2.out, decide_eq_true h8]; try rfl), HB6.out⟩
  ·have hd : decide ((S.size : Int) ≤ 8192) = false := decide_eq_false (by omega)
   go_wp2_with fail
   go_ret
   exact ⟨(by rw [HBB2.out, decide_eq_false h8]; try rfl), HB6.out⟩
theorem rpacket_13 (p : Pk) (a : Ad) (b : Bool) (w : World) (hf : PkFit p a) (h : PkAt w w.heap.size p a) (hk : p.kind = 13) (hb : packB p = b) :
  Calls Tryz.prog 9 #[.agg (pkArr p a)] w fun e w' => e = .returned (.bool b) ∧ Below w.heap.size w w' := by
 have HFIT := Lib.hid hf
 have HBB := Lib.hid hb
 have HDOC := Lib.hid (doc_13 hk)
 have hb1 := Box.new w 30 (pkArr p a)
 have ha1 := (Below.refl w.heap.size w).alloc (Nat.le_refl _) (.cells (pkArr p a) 30)
 obtain ⟨W1, hW⟩ : ∃ W1, w.alloc (.cells (pkArr p a) 30) = W1 := ⟨_, rfl⟩
 rw [hW] at hb1 ha1
 obtain ⟨g, hg⟩ : ∃ g, w.heap.size = g := ⟨_, rfl⟩
 rw [hg] at hb1
 have hgl := hb1.lt
 have hb3 := Box.new W1 30 (pkArr (zp 0) za)
 have ha3 := (Below.refl W1.heap.size W1).alloc (Nat.le_refl _) (.cells (pkArr (zp 0) za) 30)
 obtain ⟨W2, hW2⟩ : ∃ W2, W1.alloc (.cells (pkArr (zp 0) za) 30) = W2 := ⟨_, rfl⟩
 rw [hW2] at hb3 ha3
 obtain ⟨g3, hg3⟩ : ∃ g, W1.heap.size = g := ⟨_, rfl⟩
 rw [hg3] at hb3 hgl
 obtain ⟨W3, hW3⟩ : ∃ W3, W2.setRow g3 (pkArr (zp 13) za) = W3 := ⟨_, rfl⟩
 have hr3 := Bar.row g3 W2 (pkArr (zp 13) za)
 have hx1 : Box W3 g (pkArr p a) := by rw [← hW3]; exact hr3.box (hb1.below (ha3.mono (by omega))) (by omega)
 have hx3 : Box W3 g3 (pkArr (zp 13) za) := by rw [← hW3]; exact hb3.row _
 have hbw : Below w.heap.size w W3 := by rw [← hW3]; exact hr3.below (ha1.trans (ha3.mono (by have := ha1.size; omega))) (by omega) (by have := ha1.size; have := ha3.size; omega)
 have HP := Lib.hid (Pair.mk (w := w) (g := g) (g3 := g3) (p := p) (a := a) (N := zp 13) (a' := za) (W := W3) ⟨hx1, hx3, h.below hbw, hbw, by omega, by omega, by omega⟩)
 have c0 : W1.cell? ⟨g, 0, none⟩ = some (.int .i64 13) := by rw [hb1.cell, ← hk]; rfl
 have HB3 := Lib.hid hb3
 have HW3 := Lib.hid hW3
 have HG := Lib.hid hg
 have HG3 := Lib.hid hg3
 simp only [pkArr, zp, za, zw, List.length_nil] at hW2
 have HW2 := Lib.hid hW2
 unfold pkArr at hW ⊢
 have HW := Lib.hid hW
 have HKD := Lib.hid hk
 clear hW hW2 hW3 hb1 ha1 hb3 ha3 hr3 hx1 hx3 hbw hgl hf h hk hb hg hg3
 go_enter Tryz.func9, Tryz.ntmps9
 go_upto_region 1 with fail
 rw [HW.out, HG.out]
 generalize Value.agg _ = v0
 have hg3 := HG3.out
 go_upto_region 2 with (first | (refine wpList_build_kind rfl (.tmp 9) rfl 13 rfl ?_) | (rw [HW2.out]; refine wpList_store_whole rfl 30 (.tmp 3) (.tmp 10) rfl g3 (pkArr (zp 13) za) rfl rfl (pkArr (zp 0) za) HB3.out info_pk rfl (one_pk _ _) ?_; simp only [Act.put]))
 rw [HW3.out]
 clear hg3 c0 HW HW2 HW3 HB3 HG HG3
 have c0 : W3.cell? ⟨g, 0, none⟩ = some (.int .i64 13) := by rw [HP.out.arg, ← HKD.out]; rfl
 have c7 : W3.cell? ⟨g, 7, none⟩ = some (.int .i64 p.re) := HP.out.arg 7
 have c24 : W3.cell? ⟨g, 24, none⟩ = some (.slice a.pa p.ps.length a.pc) := HP.out.arg 24
 cases hx1 : inB p.re 255 with
 | false =>
  have hF := Lib.hid (not_good HBB.out (by rw [HDOC.out, hx1]; rfl))
  clear HFIT HBB HDOC
  go_wp2_with (first | (go_at_call 34; refine (ZNum_is _ _ _ _ rfl).mono ?_; rintro e w' ⟨rfl, rfl⟩) | (go_at_call 38; refine (rid_is _ _ _ rfl).mono ?_; rintro e w' ⟨rfl, rfl⟩) | (go_at_call 36; refine (rtext_is _ _ _ rfl).mono ?_; rintro e w' ⟨rfl, rfl⟩))
  go_ret
  exact ⟨(by rw [hF.out]; try rfl), HP.out.b⟩
 | true =>
 have HPR := Lib.hid ((RProps_is 13 p.ps a.pa a.pc _ W3 HFIT.out.pl1.1 HFIT.out.pl1.2 HFIT.out.ps HP.out.at.ps rfl).mono fun e w' (q : e = .returned (.bool (propsB 13 p.ps)) ∧ Below W3.heap.size W3 w') => q)
 cases hx2 : propsB 13 p.ps with
 | false =>
  have hF := Lib.hid (not_good HBB.out (by rw [HDOC.out, hx1, hx2]; rfl))
  clear HFIT HBB HDOC
  go_wp2_with (first | (go_at_call 34; refine (ZNum_is _ _ _ _ rfl).mono ?_; rintro e w' ⟨rfl, rfl⟩) | (go_at_call 38; refine (rid_is _ _ _ rfl).mono ?_; rintro e w' ⟨rfl, rfl⟩) | (go_at_call 36; refine (rtext_is _ _ _ rfl).mono ?_; rintro e w' ⟨rfl, rfl⟩))
  refine HPR.out.mono ?_
  rintro e w1 ⟨rfl, hb1⟩
  have HP2 := Lib.hid (HP.out.below hb1)
  clear hb1 HP HPR c0 c7 c24
  go_wp2_with (first | (go_at_call 34; refine (ZNum_is _ _ _ _ rfl).mono ?_; rintro e w' ⟨rfl, rfl⟩) | (go_at_call 38; refine (rid_is _ _ _ rfl).mono ?_; rintro e w' ⟨rfl, rfl⟩) | (go_at_call 36; refine (rtext_is _ _ _ rfl).mono ?_; rintro e w' ⟨rfl, rfl⟩))
  go_ret
  exact ⟨(by rw [hF.out]; try rfl), HP2.out.b⟩
 | true =>
 go_wp2_with (first | (go_at_call 34; refine (ZNum_is _ _ _ _ rfl).mono ?_; rintro e w' ⟨rfl, rfl⟩) | (go_at_call 38; refine (rid_is _ _ _ rfl).mono ?_; rintro e w' ⟨rfl, rfl⟩) | (go_at_call 36; refine (rtext_is _ _ _ rfl).mono ?_; rintro e w' ⟨rfl, rfl⟩))
 refine HPR.out.mono ?_
 rintro e w1 ⟨rfl, hb1⟩
 have HP2 := Lib.hid (HP.out.below hb1)
 clear hb1 HP HPR c0 c7 c24
 have c24 : w1.cell? ⟨g, 24, none⟩ = some (.slice a.pa p.ps.length a.pc) := HP2.out.arg 24
 have d24 : w1.cell? ⟨g3, 24, none⟩ = some (.slice none 0 0) := HP2.out.non 24
 have f24 := HP2.out.nfz 24
 have hne3 : ¬ g = g3 := HP2.out.out.2.2.2.2.2.2
 go_upto_region 5 with fail
 have HP3 := Lib.hid (HP2.out.put 24 (.slice a.pa p.ps.length a.pc) { zp 13 with ps := p.ps } { za with pa := a.pa, pc := a.pc } rfl)
 clear HP2 c24 d24 f24
 generalize World.setCell _ _ _ = w3 at HP3 ⊢
 have c0 : w3.cell? ⟨g, 0, none⟩ = some (.int .i64 13) := by rw [HP3.out.arg, ← HKD.out]; rfl
 have HGOOD : Hid (goodP p = eqP p { zp 13 with ps := p.ps }) := by show _ = _; rw [HDOC.out, hx1, hx2]; rfl
 have hld1 := load_bx HP3.out.out.1
 have hld3 := load_bx HP3.out.out.2.1
 have HQ := Lib.hid (asked HBB.out HGOOD.out)
 obtain ⟨hna, hnh⟩ := HP3.out.nat (.inl rfl) (.inl rfl) (.inl rfl) (.inr ⟨rfl, rfl⟩)
 have HE := Lib.hid (EqPacket_is p ({ zp 13 with ps := p.ps }) a ({ za with pa := a.pa, pc := a.pc }) w3 (fit_len HFIT.out) hnh HP3.out.at hna)
 clear hna hnh HGOOD
 go_wp2_with (first | (refine wpList_load_any (by rfl) 30 (.tmp 1) rfl g 0 rfl _ hld1 ?_) | (refine wpList_load_any (by rfl) 30 (.tmp 3) rfl g3 0 rfl _ hld3 ?_))
 refine HE.out.mono ?_
 rintro e w5 ⟨rfl, hb5⟩
 have HP5 := Lib.hid (HP3.out.below hb5)
 clear hb5 hld1 hld3 HE
 cases hq : eqP p ({ zp 13 with ps := p.ps }) with
 | false =>
  have hF := Lib.hid (HQ.out.no hq)
  go_wp2_with fail
  go_ret
  exact ⟨(by rw [hF.out]; try rfl), HP5.out.b⟩
 | true =>
  obtain ⟨hgd, hbb⟩ := HQ.out.yes hq
  obtain ⟨S, hS⟩ : ∃ S, strP p = S := ⟨_, rfl⟩
  have HBy := Lib.hid (RB_13 p a S w5 HP5.out.at HKD.out hgd hS)
  rw [hS] at hbb
  have HBB2 := Lib.hid hbb
  have hld1 := load_bx HP5.out.out.1
  clear hgd hbb hS hq HQ
  go_wp2_with (refine wpList_load_any (by rfl) 30 (.tmp 1) rfl g 0 rfl _ hld1 ?_)
  refine HBy.out.mono ?_
  rintro e w6 ⟨rfl, hb6⟩
  have HB6 := Lib.hid (HP5.out.below hb6).b
  clear hb6 hld1 HBy HP5
  by_cases h8 : S.size ≤ 8192
  ·have hd : decide ((S.size : Int) ≤ 8192) = true := decide_eq_true (by omega)
   go_wp2_with fail
   go_ret
   exact ⟨(by rw [HBB2.out, decide_eq_true h8]; try rfl), HB6.out⟩
  ·have hd : decide ((S.size : Int) ≤ 8192) = false := decide_eq_false (by omega)
   go_wp2_with fail
   go_ret
   exact ⟨(by rw [HBB2.out, decide_eq_false h8]; try rfl), HB6.out⟩
end Go.Proofs.YtdbbcfohjkgdcaaGreat
