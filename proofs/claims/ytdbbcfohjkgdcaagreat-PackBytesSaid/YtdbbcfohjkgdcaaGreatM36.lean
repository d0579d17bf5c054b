/- The document's own: may a packet be: filters (kind 10). -/
import Derived.Test.YtdbbcfohjkgdcaaGreatM00
import Derived.Test.YtdbbcfohjkgdcaaGreatM32
set_option maxRecDepth 100000
set_option maxHeartbeats 64000000
namespace Go.Proofs.YtdbbcfohjkgdcaaGreat
open Go.RowKit Go.Lib Prp Pkt Vbi
theorem rpacket_14 (p : Pk) (a : Ad) (b : Bool) (w : World) (hf : PkFit p a) (h : PkAt w w.heap.size p a) (hk : p.kind = 14) (hb : packB p = b) :
  Calls Tryz.prog 9 #[.agg (pkArr p a)] w fun e w' => e = .returned (.bool b) ∧ Below w.heap.size w w' := by
 have HFIT := Lib.hid hf
 have HBB := Lib.hid hb
 have HDOC := Lib.hid (doc_14 hk)
 have hb1 := Box.new w 30 (pkArr p a)
 have ha1 := (Below.refl w.heap.size w).alloc (Nat.le_refl _) (.cells (pkArr p a) 30)
 obtain ⟨W1, hW⟩ : ∃ W1, w.alloc (.cells (pkArr p a) 30) = W1 := ⟨_, rfl⟩
 rw [hW] at hb1 ha1
 obtain ⟨g, hg⟩ : ∃ g, w.heap.size = g := ⟨_, rfl⟩
 rw [hg] at hb1
 have hgl := hb1.lt
 have hb3 := Box.new W1 30 (pkArr (zp 0) za)
 have ha3 := (Below.refl W1.heap.size W1).alloc (Nat.le_refl _) (.cells (pkArr (zp 0) za) 30)
 obtain ⟨W2, hW2⟩ : ∃ W2, W1.alloc (.cells (pkArr (zp 0) za) 30) = W2 := ⟨_, rfl⟩
 rw [hW2] at hb3 ha3
 obtain ⟨g3, hg3⟩ : ∃ g, W1.heap.size = g := ⟨_, rfl⟩
 rw [hg3] at hb3 hgl
 obtain ⟨W3, hW3⟩ : ∃ W3, W2.setRow g3 (pkArr (zp 14) za) = W3 := ⟨_, rfl⟩
 have hr3 := Bar.row g3 W2 (pkArr (zp 14) za)
 have hx1 : Box W3 g (pkArr p a) := by rw [← hW3]; exact hr3.box (hb1.below (ha3.mono (by omega))) (by omega)
 have hx3 : Box W3 g3 (pkArr (zp 14) za) := by rw [← hW3]; exact hb3.row _
 have hbw : Below w.heap.size w W3 := by rw [← hW3]; exact hr3.below (ha1.trans (ha3.mono (by have := ha1.size; omega))) (by omega) (by have := ha1.size; have := ha3.size; omega)
 have HP := Lib.hid (Pair.mk (w := w) (g := g) (g3 := g3) (p := p) (a := a) (N := zp 14) (a' := za) (W := W3) ⟨hx1, hx3, h.below hbw, hbw, by omega, by omega, by omega⟩)
 have c0 : W1.cell? ⟨g, 0, none⟩ = some (.int .i64 14) := by rw [hb1.cell, ← hk]; rfl
 have HB3 := Lib.hid hb3
 have HW3 := Lib.hid hW3
 have HG := Lib.hid hg
 have HG3 := Lib.hid hg3
 simp only [pkArr, zp, za, zw, List.length_nil] at hW2
 have HW2 := Lib.hid hW2
 unfold pkArr at hW ⊢
 have HW := Lib.hid hW
 have HKD := Lib.hid hk
 clear hW hW2 hW3 hb1 ha1 hb3 ha3 hr3 hx1 hx3 hbw hgl hf h hk hb hg hg3
 go_enter Tryz.func9, Tryz.ntmps9
 go_upto_region 1 with fail
 rw [HW.out, HG.out]
 generalize Value.agg _ = v0
 have hg3 := HG3.out
 go_upto_region 2 with (first | (refine wpList_build_kind rfl (.tmp 9) rfl 14 rfl ?_) | (rw [HW2.out]; refine wpList_store_whole rfl 30 (.tmp 3) (.tmp 10) rfl g3 (pkArr (zp 14) za) rfl rfl (pkArr (zp 0) za) HB3.out info_pk rfl (one_pk _ _) ?_; simp only [Act.put]))
 rw [HW3.out]
 clear hg3 c0 HW HW2 HW3 HB3 HG HG3
 have c0 : W3.cell? ⟨g, 0, none⟩ = some (.int .i64 14) := by rw [HP.out.arg, ← HKD.out]; rfl
 have c7 : W3.cell? ⟨g, 7, none⟩ = some (.int .i64 p.re) := HP.out.arg 7
 have c24 : W3.cell? ⟨g, 24, none⟩ = some (.slice a.pa p.ps.length a.pc) := HP.out.arg 24
 cases hx1 : inB p.re 255 with
 | false =>
  have hF := Lib.hid (not_good HBB.out (by rw [HDOC.out, hx1]; rfl))
  clear HFIT HBB HDOC
  go_wp2_with (first | (go_at_call 34; refine (ZNum_is _ _ _ _ rfl).mono ?_; rintro e w' ⟨rfl, rfl⟩) | (go_at_call 38; refine (rid_is _ _ _ rfl).mono ?_; rintro e w' ⟨rfl, rfl⟩) | (go_at_call 36; refine (rtext_is _ _ _ rfl).mono ?_; rintro e w' ⟨rfl, rfl⟩))
  go_ret
  exact ⟨(by rw [hF.out]; try rfl), HP.out.b⟩
 | true =>
 have HPR := Lib.hid ((RProps_is 14 p.ps a.pa a.pc _ W3 HFIT.out.pl1.1 HFIT.out.pl1.2 HFIT.out.ps HP.out.at.ps rfl).mono fun e w' (q : e = .returned (.bool (propsB 14 p.ps)) ∧ Below W3.heap.size W3 w') => q)
 cases hx2 : propsB 14 p.ps with
 | false =>
  have hF := Lib.hid (not_good HBB.out (by rw [HDOC.out, hx1, hx2]; rfl))
  clear HFIT HBB HDOC
  go_wp2_with (first | (go_at_call 34; refine (ZNum_is _ _ _ _ rfl).mono ?_; rintro e w' ⟨rfl, rfl⟩) | (go_at_call 38; refine (rid_is _ _ _ rfl).mono ?_; rintro e w' ⟨rfl, rfl⟩) | (go_at_call 36; refine (rtext_is _ _ _ rfl).mono ?_; rintro e w' ⟨rfl, rfl⟩))
  refine HPR.out.mono ?_
  rintro e w1 ⟨rfl, hb1⟩
  have HP2 := Lib.hid (HP.out.below hb1)
  clear hb1 HP HPR c0 c7 c24
  go_wp2_with (first | (go_at_call 34; refine (ZNum_is _ _ _ _ rfl).mono ?_; rintro e w' ⟨rfl, rfl⟩) | (go_at_call 38; refine (rid_is _ _ _ rfl).mono ?_; rintro e w' ⟨rfl, rfl⟩) | (go_at_call 36; refine (rtext_is _ _ _ rfl).mono ?_; rintro e w' ⟨rfl, rfl⟩))
  go_ret
  exact ⟨(by rw [hF.out]; try rfl), HP2.out.b⟩
 | true =>
 go_wp2_with (first | (go_at_call 34; refine (ZNum_is _ _ _ _ rfl).mono ?_; rintro e w' ⟨rfl, rfl⟩) | (go_at_call 38; refine (rid_is _ _ _ rfl).mono ?_; rintro e w' ⟨rfl, rfl⟩) | (go_at_call 36; refine (rtext_is _ _ _ rfl).mono ?_; rintro e w' ⟨rfl, rfl⟩))
 refine HPR.out.mono ?_
 rintro e w1 ⟨rfl, hb1⟩
 have HP2 := Lib.hid (HP.out.below hb1)
 clear hb1 HP HPR c0 c7 c24
 have c24 : w1.cell? ⟨g, 24, none⟩ = some (.slice a.pa p.ps.length a.pc) := HP2.out.arg 24
 have d24 : w1.cell? ⟨g3, 24, none⟩ = some (.slice none 0 0) := HP2.out.non 24
 have f24 := HP2.out.nfz 24
 have hne3 : ¬ g = g3 := HP2.out.out.2.2.2.2.2.2
 go_upto_region 5 with fail
 have HP3 := Lib.hid (HP2.out.put 24 (.slice a.pa p.ps.length a.pc) { zp 14 with ps := p.ps } { za with pa := a.pa, pc := a.pc } rfl)
 clear HP2 c24 d24 f24
 generalize World.setCell _ _ _ = w3 at HP3 ⊢
 have c0 : w3.cell? ⟨g, 0, none⟩ = some (.int .i64 14) := by rw [HP3.out.arg, ← HKD.out]; rfl
 have c7 : w3.cell? ⟨g, 7, none⟩ = some (.int .i64 p.re) := HP3.out.arg 7
 have d7 : w3.cell? ⟨g3, 7, none⟩ = some (.int .i64 0) := HP3.out.non 7
 have f7 := HP3.out.nfz 7
 go_upto_region 51 with fail
 have HP4 := Lib.hid (HP3.out.put 7 (.int .i64 p.re) { zp 14 with ps := p.ps, re := p.re } { za with pa := a.pa, pc := a.pc } rfl)
 clear HP3 c7 d7 f7 c0
 generalize World.setCell _ _ _ = w4 at HP4 ⊢
 have HGOOD : Hid (goodP p = eqP p { zp 14 with ps := p.ps, re := p.re }) := by show _ = _; rw [HDOC.out, hx1, hx2]; rfl
 have hld1 := load_bx HP4.out.out.1
 have hld3 := load_bx HP4.out.out.2.1
 have HQ := Lib.hid (asked HBB.out HGOOD.out)
 obtain ⟨hna, hnh⟩ := HP4.out.nat (.inl rfl) (.inl rfl) (.inl rfl) (.inr ⟨rfl, rfl⟩)
 have HE := Lib.hid (EqPacket_is p ({ zp 14 with ps := p.ps, re := p.re }) a ({ za with pa := a.pa, pc := a.pc }) w4 (fit_len HFIT.out) hnh HP4.out.at hna)
 clear hna hnh HGOOD
 go_wp2_with (first | (refine wpList_load_any (by rfl) 30 (.tmp 1) rfl g 0 rfl _ hld1 ?_) | (refine wpList_load_any (by rfl) 30 (.tmp 3) rfl g3 0 rfl _ hld3 ?_))
 refine HE.out.mono ?_
 rintro e w5 ⟨rfl, hb5⟩
 have HP5 := Lib.hid (HP4.out.below hb5)
 clear hb5 hld1 hld3 HE
 cases hq : eqP p ({ zp 14 with ps := p.ps, re := p.re }) with
 | false =>
  have hF := Lib.hid (HQ.out.no hq)
  go_wp2_with fail
  go_ret
  exact ⟨(by rw [hF.out]; try rfl), HP5.out.b⟩
 | true =>
  obtain ⟨hgd, hbb⟩ := HQ.out.yes hq
  obtain ⟨S, hS⟩ : ∃ S, strP p = S := ⟨_, rfl⟩
  have HBy := Lib.hid (RB_14 p a S w5 HP5.out.at HKD.out hgd hS)
  rw [hS] at hbb
  have HBB2 := Lib.hid hbb
  have hld1 := load_bx HP5.out.out.1
  clear hgd hbb hS hq HQ
  go_wp2_with (refine wpList_load_any (by rfl) 30 (.tmp 1) rfl g 0 rfl _ hld1 ?_)
  refine HBy.out.mono ?_
  rintro e w6 ⟨rfl, hb6⟩
  have HB6 := Lib.hid (HP5.out.below hb6).b
  clear hb6 hld1 HBy HP5
  by_cases h8 : S.size ≤ 8192
  ·have hd : decide ((S.size : Int) ≤ 8192) = true := decide_eq_true (by omega)
   go_wp2_with fail
   go_ret
   exact ⟨(by rw [HBB2.out, decide_eq_true h8]; try rfl), HB6.out⟩
  ·have hd : decide ((S.size : Int) ≤ 8192) = false := decide_eq_false (by omega)
   go_wp2_with fail
   go_ret
   exact ⟨(by rw [HBB2.out, decide_eq_false h8]; try rfl), HB6.out⟩
theorem rpacket_15 (p : Pk) (a : Ad) (b : Bool) (w : World) (hf : PkFit p a) (h : PkAt w w.heap.size p a) (hk : p.kind = 15) (hb : packB p = b) :
  Calls Tryz.prog 9 #[.agg (pkArr p a)] w fun e w' => e = .returned (.bool b) ∧ Below w.heap.size w w' := by
 have HFIT := Lib.hid hf
 have HBB := Lib.hid hb
 have HDOC := Lib.hid (doc_15 hk)
 have hb1 := Box.new w 30 (pkArr p a)
 have ha1 := (Below.refl w.heap.size w).alloc (Nat.le_refl _) (.cells (pkArr p a) 30)
 obtain ⟨W1, hW⟩ : ∃ W1, w.alloc (.cells (pkArr p a) 30) = W1 := ⟨_, rfl⟩
 rw [hW] at hb1 ha1
 obtain ⟨g, hg⟩ : ∃ g, w.heap.size = g := ⟨_, rfl⟩
 rw [hg] at hb1
 have hgl := hb1.lt
 have hb3 := Box.new W1 30 (pkArr (zp 0) za)
 have ha3 := (Below.refl W1.heap.size W1).alloc (Nat.le_refl _) (.cells (pkArr (zp 0) za) 30)
 obtain ⟨W2, hW2⟩ : ∃ W2, W1.alloc (.cells (pkArr (zp 0) za) 30) = W2 := ⟨_, rfl⟩
 rw [hW2] at hb3 ha3
 obtain ⟨g3, hg3⟩ : ∃ g, W1.heap.size = g := ⟨_, rfl⟩
 rw [hg3] at hb3 hgl
 obtain ⟨W3, hW3⟩ : ∃ W3, W2.setRow g3 (pkArr (zp 15) za) = W3 := ⟨_, rfl⟩
 have hr3 := Bar.row g3 W2 (pkArr (zp 15) za)
 have hx1 : Box W3 g (pkArr p a) := by rw [← hW3]; exact hr3.box (hb1.below (ha3.mono (by omega))) (by omega)
 have hx3 : Box W3 g3 (pkArr (zp 15) za) := by rw [← hW3]; exact hb3.row _
 have hbw : Below w.heap.size w W3 := by rw [← hW3]; exact hr3.below (ha1.trans (ha3.mono (by have := ha1.size; omega))) (by omega) (by have := ha1.size; have := ha3.size; omega)
 have HP := Lib.hid (Pair.mk (w := w) (g := g) (g3 := g3) (p := p) (a := a) (N := zp 15) (a' := za) (W := W3) ⟨hx1, hx3, h.below hbw, hbw, by omega, by omega, by omega⟩)
 have c0 : W1.cell? ⟨g, 0, none⟩ = some (.int .i64 15) := by rw [hb1.cell, ← hk]; rfl
 have HB3 := Lib.hid hb3
 have HW3 := Lib.hid hW3
 have HG := Lib.hid hg
 have HG3 := Lib.hid hg3
 simp only [pkArr, zp, za, zw, List.length_nil] at hW2
 have HW2 := Lib.hid hW2
 unfold pkArr at hW ⊢
 have HW := Lib.hid hW
 have HKD := Lib.hid hk
 clear hW hW2 hW3 hb1 ha1 hb3 ha3 hr3 hx1 hx3 hbw hgl hf h hk hb hg hg3
 go_enter Tryz.func9, Tryz.ntmps9
 go_upto_region 1 with fail
 rw [HW.out, HG.out]
 generalize Value.agg _ = v0
 have hg3 := HG3.out
 go_upto_region 2 with (first | (refine wpList_build_kind rfl (.tmp 9) rfl 15 rfl ?_) | (rw [HW2.out]; refine wpList_store_whole rfl 30 (.tmp 3) (.tmp 10) rfl g3 (pkArr (zp 15) za) rfl rfl (pkArr (zp 0) za) HB3.out info_pk rfl (one_pk _ _) ?_; simp only [Act.put]))
 rw [HW3.out]
 clear hg3 c0 HW HW2 HW3 HB3 HG HG3
 have c0 : W3.cell? ⟨g, 0, none⟩ = some (.int .i64 15) := by rw [HP.out.arg, ← HKD.out]; rfl
 have c7 : W3.cell? ⟨g, 7, none⟩ = some (.int .i64 p.re) := HP.out.arg 7
 have c24 : W3.cell? ⟨g, 24, none⟩ = some (.slice a.pa p.ps.length a.pc) := HP.out.arg 24
 cases hx1 : inB p.re 255 with
 | false =>
  have hF := Lib.hid (not_good HBB.out (by rw [HDOC.out, hx1]; rfl))
  clear HFIT HBB HDOC
  go_wp2_with (first | (go_at_call 34; refine (ZNum_is _ _ _ _ rfl).mono ?_; rintro e w' ⟨rfl, rfl⟩) | (go_at_call 38; refine (rid_is _ _ _ rfl).mono ?_; rintro e w' ⟨rfl, rfl⟩) | (go_at_call 36; refine (rtext_is _ _ _ rfl).mono ?_; rintro e w' ⟨rfl, rfl⟩))
  go_ret
  exact ⟨(by rw [hF.out]; try rfl), HP.out.b⟩
 | true =>
 have HPR := Lib.hid ((RProps_is 15 p.ps a.pa a.pc _ W3 HFIT.out.pl1.1 HFIT.out.pl1.2 HFIT.out.ps HP.out.at.ps rfl).mono fun e w' (q : e = .returned (.bool (propsB 15 p.ps)) ∧ Below W3.heap.size W3 w') => q)
 cases hx2 : propsB 15 p.ps with
 | false =>
  have hF := Lib.hid (not_good HBB.out (by rw [HDOC.out, hx1, hx2]; rfl))
  clear HFIT HBB HDOC
  go_wp2_with (first | (go_at_call 34; refine (ZNum_is _ _ _ _ rfl).mono ?_; rintro e w' ⟨rfl, rfl⟩) | (go_at_call 38; refine (rid_is _ _ _ rfl).mono ?_; rintro e w' ⟨rfl, rfl⟩) | (go_at_call 36; refine (rtext_is _ _ _ rfl).mono ?_; rintro e w' ⟨rfl, rfl⟩))
  refine HPR.out.mono ?_
  rintro e w1 ⟨rfl, hb1⟩
  have HP2 := Lib.hid (HP.out.below hb1)
  clear hb1 HP HPR c0 c7 c24
  go_wp2_with (first | (go_at_call 34; refine (ZNum_is _ _ _ _ rfl).mono ?_; rintro e w' ⟨rfl, rfl⟩) | (go_at_call 38; refine (rid_is _ _ _ rfl).mono ?_; rintro e w' ⟨rfl, rfl⟩) | (go_at_call 36; refine (rtext_is _ _ _ rfl).mono ?_; rintro e w' ⟨rfl, rfl⟩))
  go_ret
  exact ⟨(by rw [hF.out]; try rfl), HP2.out.b⟩
 | true =>
 go_wp2_with (first | (go_at_call 34; refine (ZNum_is _ _ _ _ rfl).mono ?_; rintro e w' ⟨rfl, rfl⟩) | (go_at_call 38; refine (rid_is _ _ _ rfl).mono ?_; rintro e w' ⟨rfl, rfl⟩) | (go_at_call 36; refine (rtext_is _ _ _ rfl).mono ?_; rintro e w' ⟨rfl, rfl⟩))
 refine HPR.out.mono ?_
 rintro e w1 ⟨rfl, hb1⟩
 have HP2 := Lib.hid (HP.out.below hb1)
 clear hb1 HP HPR c0 c7 c24
 have c24 : w1.cell? ⟨g, 24, none⟩ = some (.slice a.pa p.ps.length a.pc) := HP2.out.arg 24
 have d24 : w1.cell? ⟨g3, 24, none⟩ = some (.slice none 0 0) := HP2.out.non 24
 have f24 := HP2.out.nfz 24
 have hne3 : ¬ g = g3 := HP2.out.out.2.2.2.2.2.2
 go_upto_region 5 with fail
 have HP3 := Lib.hid (HP2.out.put 24 (.slice a.pa p.ps.length a.pc) { zp 15 with ps := p.ps } { za with pa := a.pa, pc := a.pc } rfl)
 clear HP2 c24 d24 f24
 generalize World.setCell _ _ _ = w3 at HP3 ⊢
 have c0 : w3.cell? ⟨g, 0, none⟩ = some (.int .i64 15) := by rw [HP3.out.arg, ← HKD.out]; rfl
 have c7 : w3.cell? ⟨g, 7, none⟩ = some (.int .i64 p.re) := HP3.out.arg 7
 have d7 : w3.cell? ⟨g3, 7, none⟩ = some (.int .i64 0) := HP3.out.non 7
 have f7 := HP3.out.nfz 7
 go_upto_region 51 with fail
 have HP4 := Lib.hid (HP3.out.put 7 (.int .i64 p.re) { zp 15 with ps := p.ps, re := p.re } { za with pa := a.pa, pc := a.pc } rfl)
 clear HP3 c7 d7 f7 c0
 generalize World.setCell _ _ _ = w4 at HP4 ⊢
 have HGOOD : Hid (goodP p = eqP p { zp 15 with ps := p.ps, re := p.re }) := by show _ = _; rw [HDOC.out, hx1, hx2]; rfl
 have hld1 := load_bx HP4.out.out.1
 have hld3 := load_bx HP4.out.out.2.1
 have HQ := Lib.hid (asked HBB.out HGOOD.out)
 obtain ⟨hna, hnh⟩ := HP4.out.nat (.inl rfl) (.inl rfl) (.inl rfl) (.inr ⟨rfl, rfl⟩)
 have HE := Lib.hid (EqPacket_is p ({ zp 15 with ps := p.ps, re := p.re }) a ({ za with pa := a.pa, pc := a.pc }) w4 (fit_len HFIT.out) hnh HP4.out.at hna)
 clear hna hnh HGOOD
 go_wp2_with (first | (refine wpList_load_any (by rfl) 30 (.tmp 1) rfl g 0 rfl _ hld1 ?_) | (refine wpList_load_any (by rfl) 30 (.tmp 3) rfl g3 0 rfl _ hld3 ?_))
 refine HE.out.mono ?_
 rintro e w5 ⟨rfl, hb5⟩
 have HP5 := Lib.hid (HP4.out.below hb5)
 clear hb5 hld1 hld3 HE
 cases hq : eqP p ({ zp 15 with ps := p.ps, re := p.re }) with
 | false =>
  have hF := Lib.hid (HQ.out.no hq)
  go_wp2_with fail
  go_ret
  exact ⟨(by rw [hF.out]; try rfl), HP5.out.b⟩
 | true =>
  obtain ⟨hgd, hbb⟩ := HQ.out.yes hq
  obtain ⟨S, hS⟩ : ∃ S, strP p = S := ⟨_, rfl⟩
  have HBy := Lib.hid (RB_15 p a S w5 HP5.out.at HKD.out hgd hS)
  rw [hS] at hbb
  have HBB2 := Lib.hid hbb
  have hld1 := load_bx HP5.out.out.1
  clear hgd hbb hS hq HQ
  go_wp2_with (refine wpList_load_any (by rfl) 30 (.tmp 1) rfl g 0 rfl _ hld1 ?_)
  refine HBy.out.mono ?_
  rintro e w6 ⟨rfl, hb6⟩
  have HB6 := Lib.hid (HP5.out.below hb6).b
  clear hb6 hld1 HBy HP5
  by_cases h8 : S.size ≤ 8192
  ·have hd : decide ((S.size : Int) ≤ 8192) = true := decide_eq_true (by omega)
   go_wp2_with fail
   go_ret
   exact ⟨(by rw [HBB2.out, decide_eq_true h8]; try rfl), HB6.out⟩
  ·have hd : decide ((S.size : Int) ≤ 8192) = false := decide_eq_false (by omega)
   go_wp2_with fail
   go_ret
   exact ⟨(by rw [HBB2.out, decide_eq_false h8]; try rfl), HB6.out⟩
open Go.RowKit Go.Lib Prp Pkt Vbi
def filB (k : Int) (f : Fl) : Bool := textB f.t && (inB f.q 2 && (inB f.h 2 && (decide (k ≠ 10) || onlyB f)))
theorem filter_cons (sub : Bool) (v : Fl) (m : List Fl) : filterL sub (v :: m) = filterL sub [v] ++ filterL sub m := by
 unfold filterL
 rw [List.flatMap_cons, List.flatMap_cons, List.flatMap_nil, List.append_nil]
theorem fil_one (sub : Bool) (k : Int) (f : Fl) : ((mayFilB f && (decide (k ≠ 10) || onlyB f)) && allOk (filterL sub [f])) = filB k f := by
 have hq : qosB f.q = inB f.q 2 := rfl
 have hh : qosB f.h = inB f.h 2 := rfl
 unfold filB mayFilB
 rw [hq, hh]
 cases sub with
 | false =>
  have e : allOk (filterL false [f]) = (textB f.t && true) := rfl
  rw [e]
  cases textB f.t <;> cases inB f.q 2 <;> cases inB f.h 2 <;> simp
 | true =>
  have e : allOk (filterL true [f]) = (textB f.t && ((Part.octet (filterZ f)).okB && true)) := rfl
  rw [e]
  cases hx : inB f.q 2 with
  | false => simp
  | true =>
   cases hy : inB f.h 2 with
   | false => simp
   | true =>
    have h1 := of_decide_eq_true (show decide (0 ≤ f.q ∧ f.q ≤ 2) = true from hx)
    have h2 := of_decide_eq_true (show decide (0 ≤ f.h ∧ f.h ≤ 2) = true from hy)
    have ho : (Part.octet (filterZ f)).okB = true := by
     refine decide_eq_true ?_
     unfold filterZ
     have a := bitZ_two f.nl 4
     have b := bitZ_two f.ar 8
     omega
    rw [ho]
    cases textB f.t <;> simp
theorem fil_all (sub : Bool) (k : Int) (l : List Fl) : ((l.all fun f => mayFilB f && (decide (k ≠ 10) || onlyB f)) && allOk (filterL sub l)) = l.all (filB k) := by
 induction l with
 | nil => rfl
 | cons x t ih =>
  rw [filter_cons, allOk_app, List.all_cons, List.all_cons, ← ih, ← fil_one sub k x]
  cases (mayFilB x && (decide (k ≠ 10) || onlyB x)) <;> cases allOk (filterL sub [x]) <;> simp
theorem doc_fs {p : Pk} {k : Int} (hk : p.kind = k) (h : k = 8 ∨ k = 10) : goodP p = (inB p.re 255 && (propsB k p.ps && (idB p.id && (countB p.fs.length && (p.fs.all (filB k) && eqP p { zp k with ps := p.ps, id := p.id, fs := p.fs }))))) := by
 have e := eq_fs hk h
 have hp : partsL p = [.number p.id, .props p.kind p.ps] ++ filterL (decide (p.kind = 8)) p.fs := by rcases h with rfl | rfl <;> simp [partsL, hk]
 have hm : mayP p = (fieldB p && askB p) := by rcases h with rfl | rfl <;> simp [mayP, hk]
 have ho : Part.okB (.props p.kind p.ps) = propsB k p.ps := by rw [hk]; rfl
 have ha : askB p = ((p.fs.all fun f => mayFilB f && (decide (k ≠ 10) || onlyB f)) && countB p.fs.length) := by unfold askB; rw [hk]
 rw [e, goodP_eq, hp, hm, ha, allOk_app, ← fil_all (decide (p.kind = 8)) k p.fs]
 simp only [allOk_cons, show allOk [] = true from rfl, num_doc, Bool.and_true, ho]
 cases hF : fieldB p with
 | false => simp
 | true =>
  have hr := re_zero hF (by omega)
  rw [hr, show inB 0 255 = true from rfl]
  generalize (p.fs.all fun f => mayFilB f && (decide (k ≠ 10) || onlyB f)) = x1
  generalize allOk (filterL (decide (p.kind = 8)) p.fs) = x2
  cases idB p.id <;> cases propsB k p.ps <;> cases countB p.fs.length <;> cases x1 <;> cases x2 <;> rfl
theorem doc_8 {p : Pk} (hk : p.kind = 8) : goodP p = (inB p.re 255 && (propsB 8 p.ps && (idB p.id && (countB p.fs.length && (p.fs.all (filB 8) && eqP p { zp 8 with ps := p.ps, id := p.id, fs := p.fs }))))) := doc_fs hk (.inl rfl)
theorem doc_10 {p : Pk} (hk : p.kind = 10) : goodP p = (inB p.re 255 && (propsB 10 p.ps && (idB p.id && (countB p.fs.length && (p.fs.all (filB 10) && eqP p { zp 10 with ps := p.ps, id := p.id, fs := p.fs }))))) := doc_fs hk (.inr rfl)
theorem doc_none {p : Pk} (h : ¬ (1 ≤ p.kind ∧ p.kind ≤ 15)) : goodP p = false := by
 rw [goodP_eq]
 unfold mayP
 rw [decide_eq_false h]
 rfl
open Go.RowKit Go.Lib Prp Pkt Vbi
theorem rpacket_8 (p : Pk) (a : Ad) (b : Bool) (w : World) (hf : PkFit p a) (h : PkAt w w.heap.size p a) (hk : p.kind = 8) (hb : packB p = b) :
  Calls Tryz.prog 9 #[.agg (pkArr p a)] w fun e w' => e = .returned (.bool b) ∧ Below w.heap.size w w' := by
 have HFIT := Lib.hid hf
 have HBB := Lib.hid hb
 have HDOC := Lib.hid (doc_8 hk)
 have hb1 := Box.new w 30 (pkArr p a)
 have ha1 := (Below.refl w.heap.size w).alloc (Nat.le_refl _) (.cells (pkArr p a) 30)
 obtain ⟨W1, hW⟩ : ∃ W1, w.alloc (.cells (pkArr p a) 30) = W1 := ⟨_, rfl⟩
 rw [hW] at hb1 ha1
 obtain ⟨g, hg⟩ : ∃ g, w.heap.size = g := ⟨_, rfl⟩
 rw [hg] at hb1
 have hgl := hb1.lt
 have hb3 := Box.new W1 30 (pkArr (zp 0) za)
 have ha3 := (Below.refl W1.heap.size W1).alloc (Nat.le_refl _) (.cells (pkArr (zp 0) za) 30)
 obtain ⟨W2, hW2⟩ : ∃ W2, W1.alloc (.cells (pkArr (zp 0) za) 30) = W2 := ⟨_, rfl⟩
 rw [hW2] at hb3 ha3
 obtain ⟨g3, hg3⟩ : ∃ g, W1.heap.size = g := ⟨_, rfl⟩
 rw [hg3] at hb3 hgl
 obtain ⟨W3, hW3⟩ : ∃ W3, W2.setRow g3 (pkArr (zp 8) za) = W3 := ⟨_, rfl⟩
 have hr3 := Bar.row g3 W2 (pkArr (zp 8) za)
 have hx1 : Box W3 g (pkArr p a) := by rw [← hW3]; exact hr3.box (hb1.below (ha3.mono (by omega))) (by omega)
 have hx3 : Box W3 g3 (pkArr (zp 8) za) := by rw [← hW3]; exact hb3.row _
 have hbw : Below w.heap.size w W3 := by rw [← hW3]; exact hr3.below (ha1.trans (ha3.mono (by have := ha1.size; omega))) (by omega) (by have := ha1.size; have := ha3.size; omega)
 have HP := Lib.hid (Pair.mk (w := w) (g := g) (g3 := g3) (p := p) (a := a) (N := zp 8) (a' := za) (W := W3) ⟨hx1, hx3, h.below hbw, hbw, by omega, by omega, by omega⟩)
 have c0 : W1.cell? ⟨g, 0, none⟩ = some (.int .i64 8) := by rw [hb1.cell, ← hk]; rfl
 have HB3 := Lib.hid hb3
 have HW3 := Lib.hid hW3
 have HG := Lib.hid hg
 have HG3 := Lib.hid hg3
 simp only [pkArr, zp, za, zw, List.length_nil] at hW2
 have HW2 := Lib.hid hW2
 unfold pkArr at hW ⊢
 have HW := Lib.hid hW
 have HKD := Lib.hid hk
 clear hW hW2 hW3 hb1 ha1 hb3 ha3 hr3 hx1 hx3 hbw hgl hf h hk hb hg hg3
 go_enter Tryz.func9, Tryz.ntmps9
 go_upto_region 1 with fail
 rw [HW.out, HG.out]
 generalize Value.agg _ = v0
 have hg3 := HG3.out
 go_upto_region 2 with (first | (refine wpList_build_kind rfl (.tmp 9) rfl 8 rfl ?_) | (rw [HW2.out]; refine wpList_store_whole rfl 30 (.tmp 3) (.tmp 10) rfl g3 (pkArr (zp 8) za) rfl rfl (pkArr (zp 0) za) HB3.out info_pk rfl (one_pk _ _) ?_; simp only [Act.put]))
 rw [HW3.out]
 clear hg3 c0 HW HW2 HW3 HB3 HG HG3
 have c0 : W3.cell? ⟨g, 0, none⟩ = some (.int .i64 8) := by rw [HP.out.arg, ← HKD.out]; rfl
 have c7 : W3.cell? ⟨g, 7, none⟩ = some (.int .i64 p.re) := HP.out.arg 7
 have c24 : W3.cell? ⟨g, 24, none⟩ = some (.slice a.pa p.ps.length a.pc) := HP.out.arg 24
 cases hx1 : inB p.re 255 with
 | false =>
  have hF := Lib.hid (not_good HBB.out (by rw [HDOC.out, hx1]; rfl))
  clear HFIT HBB HDOC
  go_wp2_with (first | (go_at_call 34; refine (ZNum_is _ _ _ _ rfl).mono ?_; rintro e w' ⟨rfl, rfl⟩) | (go_at_call 38; refine (rid_is _ _ _ rfl).mono ?_; rintro e w' ⟨rfl, rfl⟩) | (go_at_call 36; refine (rtext_is _ _ _ rfl).mono ?_; rintro e w' ⟨rfl, rfl⟩))
  go_ret
  exact ⟨(by rw [hF.out]; try rfl), HP.out.b⟩
 | true =>
 have HPR := Lib.hid ((RProps_is 8 p.ps a.pa a.pc _ W3 HFIT.out.pl1.1 HFIT.out.pl1.2 HFIT.out.ps HP.out.at.ps rfl).mono fun e w' (q : e = .returned (.bool (propsB 8 p.ps)) ∧ Below W3.heap.size W3 w') => q)
 cases hx2 : propsB 8 p.ps with
 | false =>
  have hF := Lib.hid (not_good HBB.out (by rw [HDOC.out, hx1, hx2]; rfl))
  clear HFIT HBB HDOC
  go_wp2_with (first | (go_at_call 34; refine (ZNum_is _ _ _ _ rfl).mono ?_; rintro e w' ⟨rfl, rfl⟩) | (go_at_call 38; refine (rid_is _ _ _ rfl).mono ?_; rintro e w' ⟨rfl, rfl⟩) | (go_at_call 36; refine (rtext_is _ _ _ rfl).mono ?_; rintro e w' ⟨rfl, rfl⟩))
  refine HPR.out.mono ?_
  rintro e w1 ⟨rfl, hb1⟩
  have HP2 := Lib.hid (HP.out.below hb1)
  clear hb1 HP HPR c0 c7 c24
  go_wp2_with (first | (go_at_call 34; refine (ZNum_is _ _ _ _ rfl).mono ?_; rintro e w' ⟨rfl, rfl⟩) | (go_at_call 38; refine (rid_is _ _ _ rfl).mono ?_; rintro e w' ⟨rfl, rfl⟩) | (go_at_call 36; refine (rtext_is _ _ _ rfl).mono ?_; rintro e w' ⟨rfl, rfl⟩))
  go_ret
  exact ⟨(by rw [hF.out]; try rfl), HP2.out.b⟩
 | true =>
 go_wp2_with (first | (go_at_call 34; refine (ZNum_is _ _ _ _ rfl).mono ?_; rintro e w' ⟨rfl, rfl⟩) | (go_at_call 38; refine (rid_is _ _ _ rfl).mono ?_; rintro e w' ⟨rfl, rfl⟩) | (go_at_call 36; refine (rtext_is _ _ _ rfl).mono ?_; rintro e w' ⟨rfl, rfl⟩))
 refine HPR.out.mono ?_
 rintro e w1 ⟨rfl, hb1⟩
 have HP2 := Lib.hid (HP.out.below hb1)
 clear hb1 HP HPR c0 c7 c24
 have c24 : w1.cell? ⟨g, 24, none⟩ = some (.slice a.pa p.ps.length a.pc) := HP2.out.arg 24
 have d24 : w1.cell? ⟨g3, 24, none⟩ = some (.slice none 0 0) := HP2.out.non 24
 have f24 := HP2.out.nfz 24
 have hne3 : ¬ g = g3 := HP2.out.out.2.2.2.2.2.2
 go_upto_region 5 with fail
 have HP3 := Lib.hid (HP2.out.put 24 (.slice a.pa p.ps.length a.pc) { zp 8 with ps := p.ps } { za with pa := a.pa, pc := a.pc } rfl)
 clear HP2 c24 d24 f24
 generalize World.setCell _ _ _ = w3 at HP3 ⊢
 have c0 : w3.cell? ⟨g, 0, none⟩ = some (.int .i64 8) := by rw [HP3.out.arg, ← HKD.out]; rfl
 go_upto_region 29 with fail
 have hHeld : Pair w g g3 p a { zp 8 with ps := p.ps } { za with pa := a.pa, pc := a.pc } (World.drew w3) := HP3.out.below (below_drewN (Below.refl _ _) 1)
 clear HP3 c0
 refine wp_region_held_drew (S := fun W => Box W g (pkArr p a)) (by kernel_rfl) hHeld.out.1 (fun hBox => ?_)
 generalize World.drew w3 = Wd at hHeld hBox ⊢
 refine take_op 0 236 ?v0 rfl rfl (by kernel_rfl) (fun _ _ _ h => h) (by rfl) hBox (fun w' hS' => ?hv0) ?hh0
 case hv0 => (go_simp; try with_reducible rfl)
 simp only [Act.put, List.setIfInBounds_toArray, List.set_cons_zero, List.set_cons_succ]
 refine take_op 1 237 ?v1 rfl rfl (by kernel_rfl) (fun _ _ _ h => h) (by rfl) hBox (fun w' hS' => ?hv1) ?hh1
 case hv1 => (have k : w'.cell? ⟨g, 4, none⟩ = some (.int .i64 p.id) := Box.cell hS' 4; go_simp; try with_reducible rfl)
 simp only [Act.put, List.setIfInBounds_toArray, List.set_cons_zero, List.set_cons_succ]
 refine take_op 2 238 ?v2 rfl rfl (by kernel_rfl) (fun _ _ _ h => h) (by rfl) hBox (fun w' hS' => ?hv2) ?hh2
 case hv2 => (go_simp; try with_reducible rfl)
 simp only [Act.put, List.setIfInBounds_toArray, List.set_cons_zero, List.set_cons_succ]
 refine take_op 3 239 ?v3 rfl rfl (by kernel_rfl) (fun _ _ _ h => h) (by rfl) hBox (fun w' hS' => ?hv3) ?hh3
 case hv3 => (have k : w'.cell? ⟨g, 10, none⟩ = some (.slice a.fa p.fs.length a.fc) := Box.cell hS' 10; go_simp; try with_reducible rfl)
 simp only [Act.put, List.setIfInBounds_toArray, List.set_cons_zero, List.set_cons_succ]
 refine take_op 4 240 ?v4 rfl rfl (by kernel_rfl) (fun _ _ _ h => h) (by rfl) hBox (fun w' hS' => ?hv4) ?hh4
 case hv4 => (go_simp; try with_reducible rfl)
 simp only [Act.put, List.setIfInBounds_toArray, List.set_cons_zero, List.set_cons_succ]
 have s0 := hHeld.put 4 (.int .i64 p.id) { zp 8 with ps := p.ps, id := p.id } { za with pa := a.pa, pc := a.pc } rfl
 have c0x : Wd.cell? ⟨g3, 4, none⟩ = some (.int .i64 0) := hHeld.non 4
 have f0x := hHeld.nfz 4
 refine only_op 5 rfl (by kernel_rfl) (by rfl) (wp_store_one 3 (.tmp 240) (.tmp 237) rfl _ _ rfl rfl (by go_simp) ⟨s0.out.1, ?_⟩)
 simp only [Act.put]
 have s1 := s0.put 10 (.slice a.fa p.fs.length a.fc) { zp 8 with ps := p.ps, id := p.id, fs := p.fs } { za with pa := a.pa, pc := a.pc, fa := a.fa, fc := a.fc } rfl
 have c1x : (Wd.setCell ⟨g3, 4, none⟩ (.int .i64 p.id)).cell? ⟨g3, 10, none⟩ = some (.slice none 0 0) := s0.non 10
 have f1x := s0.nfz 10
 refine take_op 6 241 ?v6 rfl rfl (by kernel_rfl) (fun _ _ _ h => h) (by rfl) s0.out.1 (fun w' hS' => ?hv6) ?hh6
 case hv6 => (go_simp; try with_reducible rfl)
 simp only [Act.put, List.setIfInBounds_toArray]
 refine only_op 7 rfl (by kernel_rfl) (by rfl) (wp_store_one 25 (.tmp 241) (.tmp 239) rfl _ _ rfl rfl (by go_simp) ⟨s1.out.1, ?_⟩)
 simp only [Act.put]
 refine wpAnyH_done (by kernel_rfl) ?_ _
 have HP4 := Lib.hid s1
 clear hHeld hBox s0 c0x f0x s1 c1x f1x
 generalize World.setCell _ _ _ = w4 at HP4 ⊢
 have c4 : w4.cell? ⟨g, 4, none⟩ = some (.int .i64 p.id) := HP4.out.arg 4
 have c9 : w4.cell? ⟨g, 10, none⟩ = some (.slice a.fa p.fs.length a.fc) := HP4.out.arg 10
 cases hx3 : idB p.id with
 | false =>
  have hF := Lib.hid (not_good HBB.out (by rw [HDOC.out, hx1, hx2, hx3]; rfl))
  clear HFIT HBB HDOC
  go_wp2_with (first | (go_at_call 34; refine (ZNum_is _ _ _ _ rfl).mono ?_; rintro e w' ⟨rfl, rfl⟩) | (go_at_call 38; refine (rid_is _ _ _ rfl).mono ?_; rintro e w' ⟨rfl, rfl⟩) | (go_at_call 36; refine (rtext_is _ _ _ rfl).mono ?_; rintro e w' ⟨rfl, rfl⟩))
  go_ret
  exact ⟨(by rw [hF.out]; try rfl), HP4.out.b⟩
 | true =>
 by_cases hl1 : p.fs.length < 1
 ·have hF := Lib.hid (not_good HBB.out (by rw [HDOC.out, hx1, hx2, hx3, show countB p.fs.length = false from decide_eq_false (by omega)]; rfl))
  have hd1 : decide ((p.fs.length : Int) < 1) = true := decide_eq_true (by omega)
  have hz : p.fs.length = 0 := by omega
  rw [hz] at c9 hd1
  clear HFIT HBB HDOC hl1 hz
  go_wp2_with (first | (go_at_call 34; refine (ZNum_is _ _ _ _ rfl).mono ?_; rintro e w' ⟨rfl, rfl⟩) | (go_at_call 38; refine (rid_is _ _ _ rfl).mono ?_; rintro e w' ⟨rfl, rfl⟩) | (go_at_call 36; refine (rtext_is _ _ _ rfl).mono ?_; rintro e w' ⟨rfl, rfl⟩))
  go_ret
  exact ⟨(by rw [hF.out]; try rfl), HP4.out.b⟩
 have hd1 : decide ((p.fs.length : Int) < 1) = false := decide_eq_false (by omega)
 by_cases hl4 : 4 < p.fs.length
 ·have hF := Lib.hid (not_good HBB.out (by rw [HDOC.out, hx1, hx2, hx3, show countB p.fs.length = false from decide_eq_false (by omega)]; rfl))
  have hd4 : decide ((4 : Int) < (p.fs.length : Int)) = true := decide_eq_true (by omega)
  clear HFIT HBB HDOC hl1
  go_wp2_with (first | (go_at_call 34; refine (ZNum_is _ _ _ _ rfl).mono ?_; rintro e w' ⟨rfl, rfl⟩) | (go_at_call 38; refine (rid_is _ _ _ rfl).mono ?_; rintro e w' ⟨rfl, rfl⟩) | (go_at_call 36; refine (rtext_is _ _ _ rfl).mono ?_; rintro e w' ⟨rfl, rfl⟩))
  go_ret
  exact ⟨(by rw [hF.out]; try rfl), HP4.out.b⟩
 have hd4 : decide ((4 : Int) < (p.fs.length : Int)) = false := decide_eq_false (by omega)
 have HCO : Hid (countB p.fs.length = true) := by show _ = _; exact decide_eq_true (by omega)
 go_upto_region 32 with (first | (go_at_call 34; refine (ZNum_is _ _ _ _ rfl).mono ?_; rintro e w' ⟨rfl, rfl⟩) | (go_at_call 38; refine (rid_is _ _ _ rfl).mono ?_; rintro e w' ⟨rfl, rfl⟩) | (go_at_call 36; refine (rtext_is _ _ _ rfl).mono ?_; rintro e w' ⟨rfl, rfl⟩))
 clear c4
 have HL4 : Hid (p.fs.length ≤ 4) := by show _ ≤ _; omega
 clear hl1 hl4 hd1 hd4
 go_wp2_with fail
 go_loopw [5] (fun i wr => ∃ j : Nat, j ≤ p.fs.length ∧ i = .int .i64 (j : Int) ∧ Pair w g g3 p a { zp 8 with ps := p.ps, id := p.id, fs := p.fs } { za with pa := a.pa, pc := a.pc, fa := a.fa, fc := a.fc } wr ∧ ∀ x ∈ p.fs.take j, filB 8 x = true) (fun i _ => p.fs.length - (RowKit.intOf i).toNat)
 case atStart => exact ⟨0, Nat.zero_le _, rfl, HP4.out, by simp⟩
 case round =>
  obtain ⟨j, hj, rfl, hpr, hall⟩ := hrel
  clear c9 HP4
  have HP4 := Lib.hid hpr
  have c9 : wr.cell? ⟨g, 10, none⟩ = some (.slice a.fa p.fs.length a.fc) := hpr.arg 10
  clear hpr
  have HALL := Lib.hid hall
  clear hall
  have hl4x : p.fs.length ≤ 4 := HL4.out
  by_cases hjl : j < p.fs.length
  ·have hjI : (j : Int) < (p.fs.length : Int) := by omega
   have hj0 : (0 : Int) ≤ (j : Int) := by omega
   obtain ⟨b0, o, hAd, hb0, hcc⟩ := HP4.out.at.fs.some_ (by omega)
   obtain ⟨d0, d1, d2, d3, d4⟩ := hcc j hjl
   obtain ⟨f, hf⟩ : ∃ f, p.fs[j] = f := ⟨_, rfl⟩
   rw [hf] at d0 d1 d2 d3 d4
   have HXX := Lib.hid hf
   rw [hAd] at c9
   have HAd := Lib.hid hAd
   have hmb := (Below.refl wr.heap.size wr).alloc (Nat.le_refl _) (.cells #[.string f.t, .int .i64 f.q, .bool f.nl, .bool f.ar, .int .i64 f.h] 75)
   have hbx := Box.new wr 75 #[.string f.t, .int .i64 f.q, .bool f.nl, .bool f.ar, .int .i64 f.h]
   have HP5 := Lib.hid (HP4.out.below hmb)
   have HBX := Lib.hid hbx
   clear hf hAd hb0 hcc hmb hbx
   go_upto_region 36 with fail
   clear d0 d1 d2 d3 d4 c9
   obtain ⟨kb, hkb⟩ : ∃ k, wr.heap.size = k := ⟨_, rfl⟩
   rw [hkb] at HBX ⊢
   clear hkb HP4
   generalize wr.alloc _ = wa at HP5 HBX ⊢
   have d0 : wa.cell? ⟨kb, 0, none⟩ = some (.string f.t) := HBX.out.cell 0
   have d1 : wa.cell? ⟨kb, 1, none⟩ = some (.int .i64 f.q) := HBX.out.cell 1
   have d2 : wa.cell? ⟨kb, 2, none⟩ = some (.bool f.nl) := HBX.out.cell 2
   have d3 : wa.cell? ⟨kb, 3, none⟩ = some (.bool f.ar) := HBX.out.cell 3
   have d4 : wa.cell? ⟨kb, 4, none⟩ = some (.int .i64 f.h) := HBX.out.cell 4
   have c0 : wa.cell? ⟨g, 0, none⟩ = some (.int .i64 8) := by rw [HP5.out.arg, ← HKD.out]; rfl
   have HNO : Hid (filB 8 f = false → b = false) := by
    show filB 8 f = false → b = false
    intro hq
    exact not_good HBB.out (by
     rw [HDOC.out, show (p.fs.all (filB 8)) = false from by
      rw [List.all_eq_false]
      exact ⟨f, by rw [← HXX.out]; exact List.getElem_mem hjl, by rw [hq]; decide⟩]
     simp)
   cases hq1 : textB f.t with
   | false =>
    as_aux_lemma =>
     have hF := Lib.hid (HNO.out (by unfold filB; simp [hq1]))
     clear HFIT HBB HDOC HALL HNO HXX HAd
     go_wp2_with (first | (go_at_call 34; refine (ZNum_is _ _ _ _ (by assumption)).mono ?_; rintro e w' ⟨rfl, rfl⟩; try dsimp only) | (go_at_call 36; refine (rtext_is _ _ _ (by assumption)).mono ?_; rintro e w' ⟨rfl, rfl⟩; try dsimp only))
     go_ret
     exact ⟨(by rw [hF.out]; try rfl), HP5.out.b⟩
   | true =>
   cases hq2 : inB f.q 2 with
   | false =>
    as_aux_lemma =>
     have hF := Lib.hid (HNO.out (by unfold filB; simp [hq1, hq2]))
     clear HFIT HBB HDOC HALL HNO HXX HAd
     go_wp2_with (first | (go_at_call 34; refine (ZNum_is _ _ _ _ (by assumption)).mono ?_; rintro e w' ⟨rfl, rfl⟩; try dsimp only) | (go_at_call 36; refine (rtext_is _ _ _ (by assumption)).mono ?_; rintro e w' ⟨rfl, rfl⟩; try dsimp only))
     go_ret
     exact ⟨(by rw [hF.out]; try rfl), HP5.out.b⟩
   | true =>
   cases hq3 : inB f.h 2 with
   | false =>
    as_aux_lemma =>
     have hF := Lib.hid (HNO.out (by unfold filB; simp [hq1, hq2, hq3]))
     clear HFIT HBB HDOC HALL HNO HXX HAd
     go_wp2_with (first | (go_at_call 34; refine (ZNum_is _ _ _ _ (by assumption)).mono ?_; rintro e w' ⟨rfl, rfl⟩; try dsimp only) | (go_at_call 36; refine (rtext_is _ _ _ (by assumption)).mono ?_; rintro e w' ⟨rfl, rfl⟩; try dsimp only))
     go_ret
     exact ⟨(by rw [hF.out]; try rfl), HP5.out.b⟩
   | true =>
   have HALL2 : Hid (∀ x ∈ p.fs.take (j + 1), filB 8 x = true) := by
    show ∀ x ∈ p.fs.take (j + 1), filB 8 x = true
    intro y hy
    rw [List.take_succ_eq_append_getElem hjl, List.mem_append] at hy
    rcases hy with hy | hy
    ·exact HALL.out y hy
    ·obtain rfl := List.mem_singleton.1 hy
     rw [HXX.out]; unfold filB; simp [hq1, hq2, hq3]
   clear HALL HNO HXX HAd
   go_wp2_with (first | (go_at_call 34; refine (ZNum_is _ _ _ _ (by assumption)).mono ?_; rintro e w' ⟨rfl, rfl⟩; try dsimp only) | (go_at_call 36; refine (rtext_is _ _ _ (by assumption)).mono ?_; rintro e w' ⟨rfl, rfl⟩; try dsimp only))
   go_roundw
   case rel => exact ⟨j + 1, hjl, by go_num, HP5.out, HALL2.out⟩
   case measure => simp [RowKit.intOf]; omega
  ·have hjd : decide (j < p.fs.length) = false := decide_eq_false hjl
   have hjd2 : decide ((j : Int) < (p.fs.length : Int)) = false := decide_eq_false (by omega)
   have hall : (p.fs.all (filB 8)) = true := by
    rw [List.all_eq_true]
    intro y hy
    exact HALL.out y (by rw [List.take_of_length_le (by omega)]; exact hy)
   have HGOOD : Hid (goodP p = eqP p { zp 8 with ps := p.ps, id := p.id, fs := p.fs }) := by show _ = _; rw [HDOC.out, hx1, hx2, hx3, HCO.out, hall]; rfl
   clear hall HALL
   go_upto_region 51 with fail
   clear c9 hjd hjd2
   have hld1 := load_bx HP4.out.out.1
   have hld3 := load_bx HP4.out.out.2.1
   have HQ := Lib.hid (asked HBB.out HGOOD.out)
   obtain ⟨hna, hnh⟩ := HP4.out.nat (.inl rfl) (.inr ⟨rfl, rfl⟩) (.inl rfl) (.inr ⟨rfl, rfl⟩)
   have HE := Lib.hid (EqPacket_is p ({ zp 8 with ps := p.ps, id := p.id, fs := p.fs }) a ({ za with pa := a.pa, pc := a.pc, fa := a.fa, fc := a.fc }) wr (fit_len HFIT.out) hnh HP4.out.at hna)
   clear hna hnh HGOOD
   go_wp2_with (first | (refine wpList_load_any (by rfl) 30 (.tmp 1) rfl g 0 rfl _ hld1 ?_) | (refine wpList_load_any (by rfl) 30 (.tmp 3) rfl g3 0 rfl _ hld3 ?_))
   refine HE.out.mono ?_
   rintro e w5 ⟨rfl, hb5⟩
   have HP5 := Lib.hid (HP4.out.below hb5)
   clear hb5 hld1 hld3 HE
   cases hq : eqP p ({ zp 8 with ps := p.ps, id := p.id, fs := p.fs }) with
   | false =>
    have hF := Lib.hid (HQ.out.no hq)
    go_wp2_with fail
    go_ret
    exact ⟨(by rw [hF.out]; try rfl), HP5.out.b⟩
   | true =>
    obtain ⟨hgd, hbb⟩ := HQ.out.yes hq
    obtain ⟨S, hS⟩ : ∃ S, strP p = S := ⟨_, rfl⟩
    have HBy := Lib.hid (RB_8 p a S w5 HP5.out.at HKD.out hgd hS)
    rw [hS] at hbb
    have HBB2 := Lib.hid hbb
    have hld1 := load_bx HP5.out.out.1
    clear hgd hbb hS hq HQ
    go_wp2_with (refine wpList_load_any (by rfl) 30 (.tmp 1) rfl g 0 rfl _ hld1 ?_)
    refine HBy.out.mono ?_
    rintro e w6 ⟨rfl, hb6⟩
    have HB6 := Lib.hid (HP5.out.below hb6).b
    clear hb6 hld1 HBy HP5
    by_cases h8 : S.size ≤ 8192
    ·have hd : decide ((S.size : Int) ≤ 8192) = true := decide_eq_true (by omega)
     go_wp2_with fail
     go_ret
     exact ⟨(by rw [HBB2.out, decide_eq_true h8]; try rfl), HB6.out⟩
    ·have hd : decide ((S.size : Int) ≤ 8192) = false := decide_eq_false (by omega)
     go_wp2_with fail
     go_ret
     exact ⟨(by rw [HBB2.out, decide_eq_false h8]; try rfl), HB6.out⟩
open Go.RowKit Go.Lib Prp Pkt Vbi
theorem rpacket_10 (p : Pk) (a : Ad) (b : Bool) (w : World) (hf : PkFit p a) (h : PkAt w w.heap.size p a) (hk : p.kind = 10) (hb : packB p = b) :
  Calls Tryz.prog 9 #[.agg (pkArr p a)] w fun e w' => e = .returned (.bool b) ∧ Below w.heap.size w w' := by
 have HFIT := Lib.hid hf
 have HBB := Lib.hid hb
 have HDOC := Lib.hid (doc_10 hk)
 have hb1 := Box.new w 30 (pkArr p a)
 have ha1 := (Below.refl w.heap.size w).alloc (Nat.le_refl _) (.cells (pkArr p a) 30)
 obtain ⟨W1, hW⟩ : ∃ W1, w.alloc (.cells (pkArr p a) 30) = W1 := ⟨_, rfl⟩
 rw [hW] at hb1 ha1
 obtain ⟨g, hg⟩ : ∃ g, w.heap.size = g := ⟨_, rfl⟩
 rw [hg] at hb1
 have hgl := hb1.lt
 have hb3 := Box.new W1 30 (pkArr (zp 0) za)
 have ha3 := (Below.refl W1.heap.size W1).alloc (Nat.le_refl _) (.cells (pkArr (zp 0) za) 30)
 obtain ⟨W2, hW2⟩ : ∃ W2, W1.alloc (.cells (pkArr (zp 0) za) 30) = W2 := ⟨_, rfl⟩
 rw [hW2] at hb3 ha3
 obtain ⟨g3, hg3⟩ : ∃ g, W1.heap.size = g := ⟨_, rfl⟩
 rw [hg3] at hb3 hgl
 obtain ⟨W3, hW3⟩ : ∃ W3, W2.setRow g3 (pkArr (zp 10) za) = W3 := ⟨_, rfl⟩
 have hr3 := Bar.row g3 W2 (pkArr (zp 10) za)
 have hx1 : Box W3 g (pkArr p a) := by rw [← hW3]; exact hr3.box (hb1.below (ha3.mono (by omega))) (by omega)
 have hx3 : Box W3 g3 (pkArr (zp 10) za) := by rw [← hW3]; exact hb3.row _
 have hbw : Below w.heap.size w W3 := by rw [← hW3]; exact hr3.below (ha1.trans (ha3.mono (by have := ha1.size; omega))) (by omega) (by have := ha1.size; have := ha3.size; omega)
 have HP := Lib.hid (Pair.mk (w := w) (g := g) (g3 := g3) (p := p) (a := a) (N := zp 10) (a' := za) (W := W3) ⟨hx1, hx3, h.below hbw, hbw, by omega, by omega, by omega⟩)
 have c0 : W1.cell? ⟨g, 0, none⟩ = some (.int .i64 10) := by rw [hb1.cell, ← hk]; rfl
 have HB3 := Lib.hid hb3
 have HW3 := Lib.hid hW3
 have HG := Lib.hid hg
 have HG3 := Lib.hid hg3
 simp only [pkArr, zp, za, zw, List.length_nil] at hW2
 have HW2 := Lib.hid hW2
 unfold pkArr at hW ⊢
 have HW := Lib.hid hW
 have HKD := Lib.hid hk
 clear hW hW2 hW3 hb1 ha1 hb3 ha3 hr3 hx1 hx3 hbw hgl hf h hk hb hg hg3
 go_enter Tryz.func9, Tryz.ntmps9
 go_upto_region 1 with fail
 rw [HW.out, HG.out]
 generalize Value.agg _ = v0
 have hg3 := HG3.out
 go_upto_region 2 with (first | (refine wpList_build_kind rfl (.tmp 9) rfl 10 rfl ?_) | (rw [HW2.out]; refine wpList_store_whole rfl 30 (.tmp 3) (.tmp 10) rfl g3 (pkArr (zp 10) za) rfl rfl (pkArr (zp 0) za) HB3.out info_pk rfl (one_pk _ _) ?_; simp only [Act.put]))
 rw [HW3.out]
 clear hg3 c0 HW HW2 HW3 HB3 HG HG3
 have c0 : W3.cell? ⟨g, 0, none⟩ = some (.int .i64 10) := by rw [HP.out.arg, ← HKD.out]; rfl
 have c7 : W3.cell? ⟨g, 7, none⟩ = some (.int .i64 p.re) := HP.out.arg 7
 have c24 : W3.cell? ⟨g, 24, none⟩ = some (.slice a.pa p.ps.length a.pc) := HP.out.arg 24
 cases hx1 : inB p.re 255 with
 | false =>
  have hF := Lib.hid (not_good HBB.out (by rw [HDOC.out, hx1]; rfl))
  clear HFIT HBB HDOC
  go_wp2_with (first | (go_at_call 34; refine (ZNum_is _ _ _ _ rfl).mono ?_; rintro e w' ⟨rfl, rfl⟩) | (go_at_call 38; refine (rid_is _ _ _ rfl).mono ?_; rintro e w' ⟨rfl, rfl⟩) | (go_at_call 36; refine (rtext_is _ _ _ rfl).mono ?_; rintro e w' ⟨rfl, rfl⟩))
  go_ret
  exact ⟨(by rw [hF.out]; try rfl), HP.out.b⟩
 | true =>
 have HPR := Lib.hid ((RProps_is 10 p.ps a.pa a.pc _ W3 HFIT.out.pl1.1 HFIT.out.pl1.2 HFIT.out.ps HP.out.at.ps rfl).mono fun e w' (q : e = .returned (.bool (propsB 10 p.ps)) ∧ Below W3.heap.size W3 w') => q)
 cases hx2 : propsB 10 p.ps with
 | false =>
  have hF := Lib.hid (not_good HBB.out (by rw [HDOC.out, hx1, hx2]; rfl))
  clear HFIT HBB HDOC
  go_wp2_with (first | (go_at_call 34; refine (ZNum_is _ _ _ _ rfl).mono ?_; rintro e w' ⟨rfl, rfl⟩) | (go_at_call 38; refine (rid_is _ _ _ rfl).mono ?_; rintro e w' ⟨rfl, rfl⟩) | (go_at_call 36; refine (rtext_is _ _ _ rfl).mono ?_; rintro e w' ⟨rfl, rfl⟩))
  refine HPR.out.mono ?_
  rintro e w1 ⟨rfl, hb1⟩
  have HP2 := Lib.hid (HP.out.below hb1)
  clear hb1 HP HPR c0 c7 c24
  go_wp2_with (first | (go_at_call 34; refine (ZNum_is _ _ _ _ rfl).mono ?_; rintro e w' ⟨rfl, rfl⟩) | (go_at_call 38; refine (rid_is _ _ _ rfl).mono ?_; rintro e w' ⟨rfl, rfl⟩) | (go_at_call 36; refine (rtext_is _ _ _ rfl).mono ?_; rintro e w' ⟨rfl, rfl⟩))
  go_ret
  exact ⟨(by rw [hF.out]; try rfl), HP2.out.b⟩
 | true =>
 go_wp2_with (first | (go_at_call 34; refine (ZNum_is _ _ _ _ rfl).mono ?_; rintro e w' ⟨rfl, rfl⟩) | (go_at_call 38; refine (rid_is _ _ _ rfl).mono ?_; rintro e w' ⟨rfl, rfl⟩) | (go_at_call 36; refine (rtext_is _ _ _ rfl).mono ?_; rintro e w' ⟨rfl, rfl⟩))
 refine HPR.out.mono ?_
 rintro e w1 ⟨rfl, hb1⟩
 have HP2 := Lib.hid (HP.out.below hb1)
 clear hb1 HP HPR c0 c7 c24
 have c24 : w1.cell? ⟨g, 24, none⟩ = some (.slice a.pa p.ps.length a.pc) := HP2.out.arg 24
 have d24 : w1.cell? ⟨g3, 24, none⟩ = some (.slice none 0 0) := HP2.out.non 24
 have f24 := HP2.out.nfz 24
 have hne3 : ¬ g = g3 := HP2.out.out.2.2.2.2.2.2
 go_upto_region 5 with fail
 have HP3 := Lib.hid (HP2.out.put 24 (.slice a.pa p.ps.length a.pc) { zp 10 with ps := p.ps } { za with pa := a.pa, pc := a.pc } rfl)
 clear HP2 c24 d24 f24
 generalize World.setCell _ _ _ = w3 at HP3 ⊢
 have c0 : w3.cell? ⟨g, 0, none⟩ = some (.int .i64 10) := by rw [HP3.out.arg, ← HKD.out]; rfl
 go_upto_region 29 with fail
 have hHeld : Pair w g g3 p a { zp 10 with ps := p.ps } { za with pa := a.pa, pc := a.pc } (World.drew w3) := HP3.out.below (below_drewN (Below.refl _ _) 1)
 clear HP3 c0
 refine wp_region_held_drew (S := fun W => Box W g (pkArr p a)) (by kernel_rfl) hHeld.out.1 (fun hBox => ?_)
 generalize World.drew w3 = Wd at hHeld hBox ⊢
 refine take_op 0 236 ?v0 rfl rfl (by kernel_rfl) (fun _ _ _ h => h) (by rfl) hBox (fun w' hS' => ?hv0) ?hh0
 case hv0 => (go_simp; try with_reducible rfl)
 simp only [Act.put, List.setIfInBounds_toArray, List.set_cons_zero, List.set_cons_succ]
 refine take_op 1 237 ?v1 rfl rfl (by kernel_rfl) (fun _ _ _ h => h) (by rfl) hBox (fun w' hS' => ?hv1) ?hh1
 case hv1 => (have k : w'.cell? ⟨g, 4, none⟩ = some (.int .i64 p.id) := Box.cell hS' 4; go_simp; try with_reducible rfl)
 simp only [Act.put, List.setIfInBounds_toArray, List.set_cons_zero, List.set_cons_succ]
 refine take_op 2 238 ?v2 rfl rfl (by kernel_rfl) (fun _ _ _ h => h) (by rfl) hBox (fun w' hS' => ?hv2) ?hh2
 case hv2 => (go_simp; try with_reducible rfl)
 simp only [Act.put, List.setIfInBounds_toArray, List.set_cons_zero, List.set_cons_succ]
 refine take_op 3 239 ?v3 rfl rfl (by kernel_rfl) (fun _ _ _ h => h) (by rfl) hBox (fun w' hS' => ?hv3) ?hh3
 case hv3 => (have k : w'.cell? ⟨g, 10, none⟩ = some (.slice a.fa p.fs.length a.fc) := Box.cell hS' 10; go_simp; try with_reducible rfl)
 simp only [Act.put, List.setIfInBounds_toArray, List.set_cons_zero, List.set_cons_succ]
 refine take_op 4 240 ?v4 rfl rfl (by kernel_rfl) (fun _ _ _ h => h) (by rfl) hBox (fun w' hS' => ?hv4) ?hh4
 case hv4 => (go_simp; try with_reducible rfl)
 simp only [Act.put, List.setIfInBounds_toArray, List.set_cons_zero, List.set_cons_succ]
 have s0 := hHeld.put 4 (.int .i64 p.id) { zp 10 with ps := p.ps, id := p.id } { za with pa := a.pa, pc := a.pc } rfl
 have c0x : Wd.cell? ⟨g3, 4, none⟩ = some (.int .i64 0) := hHeld.non 4
 have f0x := hHeld.nfz 4
 refine only_op 5 rfl (by kernel_rfl) (by rfl) (wp_store_one 3 (.tmp 240) (.tmp 237) rfl _ _ rfl rfl (by go_simp) ⟨s0.out.1, ?_⟩)
 simp only [Act.put]
 have s1 := s0.put 10 (.slice a.fa p.fs.length a.fc) { zp 10 with ps := p.ps, id := p.id, fs := p.fs } { za with pa := a.pa, pc := a.pc, fa := a.fa, fc := a.fc } rfl
 have c1x : (Wd.setCell ⟨g3, 4, none⟩ (.int .i64 p.id)).cell? ⟨g3, 10, none⟩ = some (.slice none 0 0) := s0.non 10
 have f1x := s0.nfz 10
 refine take_op 6 241 ?v6 rfl rfl (by kernel_rfl) (fun _ _ _ h => h) (by rfl) s0.out.1 (fun w' hS' => ?hv6) ?hh6
 case hv6 => (go_simp; try with_reducible rfl)
 simp only [Act.put, List.setIfInBounds_toArray]
 refine only_op 7 rfl (by kernel_rfl) (by rfl) (wp_store_one 25 (.tmp 241) (.tmp 239) rfl _ _ rfl rfl (by go_simp) ⟨s1.out.1, ?_⟩)
 simp only [Act.put]
 refine wpAnyH_done (by kernel_rfl) ?_ _
 have HP4 := Lib.hid s1
 clear hHeld hBox s0 c0x f0x s1 c1x f1x
 generalize World.setCell _ _ _ = w4 at HP4 ⊢
 have c4 : w4.cell? ⟨g, 4, none⟩ = some (.int .i64 p.id) := HP4.out.arg 4
 have c9 : w4.cell? ⟨g, 10, none⟩ = some (.slice a.fa p.fs.length a.fc) := HP4.out.arg 10
 cases hx3 : idB p.id with
 | false =>
  have hF := Lib.hid (not_good HBB.out (by rw [HDOC.out, hx1, hx2, hx3]; rfl))
  clear HFIT HBB HDOC
  go_wp2_with (first | (go_at_call 34; refine (ZNum_is _ _ _ _ rfl).mono ?_; rintro e w' ⟨rfl, rfl⟩) | (go_at_call 38; refine (rid_is _ _ _ rfl).mono ?_; rintro e w' ⟨rfl, rfl⟩) | (go_at_call 36; refine (rtext_is _ _ _ rfl).mono ?_; rintro e w' ⟨rfl, rfl⟩))
  go_ret
  exact ⟨(by rw [hF.out]; try rfl), HP4.out.b⟩
 | true =>
 by_cases hl1 : p.fs.length < 1
 ·have hF := Lib.hid (not_good HBB.out (by rw [HDOC.out, hx1, hx2, hx3, show countB p.fs.length = false from decide_eq_false (by omega)]; rfl))
  have hd1 : decide ((p.fs.length : Int) < 1) = true := decide_eq_true (by omega)
  have hz : p.fs.length = 0 := by omega
  rw [hz] at c9 hd1
  clear HFIT HBB HDOC hl1 hz
  go_wp2_with (first | (go_at_call 34; refine (ZNum_is _ _ _ _ rfl).mono ?_; rintro e w' ⟨rfl, rfl⟩) | (go_at_call 38; refine (rid_is _ _ _ rfl).mono ?_; rintro e w' ⟨rfl, rfl⟩) | (go_at_call 36; refine (rtext_is _ _ _ rfl).mono ?_; rintro e w' ⟨rfl, rfl⟩))
  go_ret
  exact ⟨(by rw [hF.out]; try rfl), HP4.out.b⟩
 have hd1 : decide ((p.fs.length : Int) < 1) = false := decide_eq_false (by omega)
 by_cases hl4 : 4 < p.fs.length
 ·have hF := Lib.hid (not_good HBB.out (by rw [HDOC.out, hx1, hx2, hx3, show countB p.fs.length = false from decide_eq_false (by omega)]; rfl))
  have hd4 : decide ((4 : Int) < (p.fs.length : Int)) = true := decide_eq_true (by omega)
  clear HFIT HBB HDOC hl1
  go_wp2_with (first | (go_at_call 34; refine (ZNum_is _ _ _ _ rfl).mono ?_; rintro e w' ⟨rfl, rfl⟩) | (go_at_call 38; refine (rid_is _ _ _ rfl).mono ?_; rintro e w' ⟨rfl, rfl⟩) | (go_at_call 36; refine (rtext_is _ _ _ rfl).mono ?_; rintro e w' ⟨rfl, rfl⟩))
  go_ret
  exact ⟨(by rw [hF.out]; try rfl), HP4.out.b⟩
 have hd4 : decide ((4 : Int) < (p.fs.length : Int)) = false := decide_eq_false (by omega)
 have HCO : Hid (countB p.fs.length = true) := by show _ = _; exact decide_eq_true (by omega)
 go_upto_region 32 with (first | (go_at_call 34; refine (ZNum_is _ _ _ _ rfl).mono ?_; rintro e w' ⟨rfl, rfl⟩) | (go_at_call 38; refine (rid_is _ _ _ rfl).mono ?_; rintro e w' ⟨rfl, rfl⟩) | (go_at_call 36; refine (rtext_is _ _ _ rfl).mono ?_; rintro e w' ⟨rfl, rfl⟩))
 clear c4
 have HL4 : Hid (p.fs.length ≤ 4) := by show _ ≤ _; omega
 clear hl1 hl4 hd1 hd4
 go_wp2_with fail
 go_loopw [5] (fun i wr => ∃ j : Nat, j ≤ p.fs.length ∧ i = .int .i64 (j : Int) ∧ Pair w g g3 p a { zp 10 with ps := p.ps, id := p.id, fs := p.fs } { za with pa := a.pa, pc := a.pc, fa := a.fa, fc := a.fc } wr ∧ ∀ x ∈ p.fs.take j, filB 10 x = true) (fun i _ => p.fs.length - (RowKit.intOf i).toNat)
 case atStart => exact ⟨0, Nat.zero_le _, rfl, HP4.out, by simp⟩
 case round =>
  obtain ⟨j, hj, rfl, hpr, hall⟩ := hrel
  clear c9 HP4
  have HP4 := Lib.hid hpr
  have c9 : wr.cell? ⟨g, 10, none⟩ = some (.slice a.fa p.fs.length a.fc) := hpr.arg 10
  clear hpr
  have HALL := Lib.hid hall
  clear hall
  have hl4x : p.fs.length ≤ 4 := HL4.out
  by_cases hjl : j < p.fs.length
  ·have hjI : (j : Int) < (p.fs.length : Int) := by omega
   have hj0 : (0 : Int) ≤ (j : Int) := by omega
   obtain ⟨b0, o, hAd, hb0, hcc⟩ := HP4.out.at.fs.some_ (by omega)
   obtain ⟨d0, d1, d2, d3, d4⟩ := hcc j hjl
   obtain ⟨f, hf⟩ : ∃ f, p.fs[j] = f := ⟨_, rfl⟩
   rw [hf] at d0 d1 d2 d3 d4
   have HXX := Lib.hid hf
   rw [hAd] at c9
   have HAd := Lib.hid hAd
   have hmb := (Below.refl wr.heap.size wr).alloc (Nat.le_refl _) (.cells #[.string f.t, .int .i64 f.q, .bool f.nl, .bool f.ar, .int .i64 f.h] 75)
   have hbx := Box.new wr 75 #[.string f.t, .int .i64 f.q, .bool f.nl, .bool f.ar, .int .i64 f.h]
   have HP5 := Lib.hid (HP4.out.below hmb)
   have HBX := Lib.hid hbx
   clear hf hAd hb0 hcc hmb hbx
   go_upto_region 36 with fail
   clear d0 d1 d2 d3 d4 c9
   obtain ⟨kb, hkb⟩ : ∃ k, wr.heap.size = k := ⟨_, rfl⟩
   rw [hkb] at HBX ⊢
   clear hkb HP4
   generalize wr.alloc _ = wa at HP5 HBX ⊢
   have d0 : wa.cell? ⟨kb, 0, none⟩ = some (.string f.t) := HBX.out.cell 0
   have d1 : wa.cell? ⟨kb, 1, none⟩ = some (.int .i64 f.q) := HBX.out.cell 1
   have d2 : wa.cell? ⟨kb, 2, none⟩ = some (.bool f.nl) := HBX.out.cell 2
   have d3 : wa.cell? ⟨kb, 3, none⟩ = some (.bool f.ar) := HBX.out.cell 3
   have d4 : wa.cell? ⟨kb, 4, none⟩ = some (.int .i64 f.h) := HBX.out.cell 4
   have c0 : wa.cell? ⟨g, 0, none⟩ = some (.int .i64 10) := by rw [HP5.out.arg, ← HKD.out]; rfl
   have HNO : Hid (filB 10 f = false → b = false) := by
    show filB 10 f = false → b = false
    intro hq
    exact not_good HBB.out (by
     rw [HDOC.out, show (p.fs.all (filB 10)) = false from by
      rw [List.all_eq_false]
      exact ⟨f, by rw [← HXX.out]; exact List.getElem_mem hjl, by rw [hq]; decide⟩]
     simp)
   cases hq1 : textB f.t with
   | false =>
    as_aux_lemma =>
     have hF := Lib.hid (HNO.out (by unfold filB; simp [hq1]))
     clear HFIT HBB HDOC HALL HNO HXX HAd
     go_wp2_with (first | (go_at_call 34; refine (ZNum_is _ _ _ _ (by assumption)).mono ?_; rintro e w' ⟨rfl, rfl⟩; try dsimp only) | (go_at_call 36; refine (rtext_is _ _ _ (by assumption)).mono ?_; rintro e w' ⟨rfl, rfl⟩; try dsimp only))
     go_ret
     exact ⟨(by rw [hF.out]; try rfl), HP5.out.b⟩
   | true =>
   cases hq2 : inB f.q 2 with
   | false =>
    as_aux_lemma =>
     have hF := Lib.hid (HNO.out (by unfold filB; simp [hq1, hq2]))
     clear HFIT HBB HDOC HALL HNO HXX HAd
     go_wp2_with (first | (go_at_call 34; refine (ZNum_is _ _ _ _ (by assumption)).mono ?_; rintro e w' ⟨rfl, rfl⟩; try dsimp only) | (go_at_call 36; refine (rtext_is _ _ _ (by assumption)).mono ?_; rintro e w' ⟨rfl, rfl⟩; try dsimp only))
     go_ret
     exact ⟨(by rw [hF.out]; try rfl), HP5.out.b⟩
   | true =>
   cases hq3 : inB f.h 2 with
   | false =>
    as_aux_lemma =>
     have hF := Lib.hid (HNO.out (by unfold filB; simp [hq1, hq2, hq3]))
     clear HFIT HBB HDOC HALL HNO HXX HAd
     go_wp2_with (first | (go_at_call 34; refine (ZNum_is _ _ _ _ (by assumption)).mono ?_; rintro e w' ⟨rfl, rfl⟩; try dsimp only) | (go_at_call 36; refine (rtext_is _ _ _ (by assumption)).mono ?_; rintro e w' ⟨rfl, rfl⟩; try dsimp only))
     go_ret
     exact ⟨(by rw [hF.out]; try rfl), HP5.out.b⟩
   | true =>
   have hnq := neq_fils f.t f.t f.q 0 f.h 0 f.nl false f.ar false
   rw [show eqF ⟨f.t, f.q, f.nl, f.ar, f.h⟩ ⟨f.t, 0, false, false, 0⟩ = onlyB f from eqF_only f] at hnq
   cases hq4 : onlyB f with
   | false =>
    rw [hq4] at hnq
    have hF := Lib.hid (HNO.out (by unfold filB; simp [hq1, hq2, hq3, hq4]))
    clear HFIT HBB HDOC HALL HNO HXX HAd
    go_wp2_with (first | (go_at_call 34; refine (ZNum_is _ _ _ _ (by assumption)).mono ?_; rintro e w' ⟨rfl, rfl⟩; try dsimp only) | (go_at_call 36; refine (rtext_is _ _ _ (by assumption)).mono ?_; rintro e w' ⟨rfl, rfl⟩; try dsimp only))
    go_ret
    exact ⟨(by rw [hF.out]; try rfl), HP5.out.b⟩
   | true =>
    rw [hq4] at hnq
    have HALL2 : Hid (∀ x ∈ p.fs.take (j + 1), filB 10 x = true) := by
     show ∀ x ∈ p.fs.take (j + 1), filB 10 x = true
     intro y hy
     rw [List.take_succ_eq_append_getElem hjl, List.mem_append] at hy
     rcases hy with hy | hy
     ·exact HALL.out y hy
     ·obtain rfl := List.mem_singleton.1 hy
      rw [HXX.out]; unfold filB; simp [hq1, hq2, hq3, hq4]
    clear HALL HNO HXX HAd
    go_wp2_with (first | (go_at_call 34; refine (ZNum_is _ _ _ _ (by assumption)).mono ?_; rintro e w' ⟨rfl, rfl⟩; try dsimp only) | (go_at_call 36; refine (rtext_is _ _ _ (by assumption)).mono ?_; rintro e w' ⟨rfl, rfl⟩; try dsimp only))
    go_roundw
    case rel => exact ⟨j + 1, hjl, by go_num, HP5.out, HALL2.out⟩
    case measure => simp [RowKit.intOf]; omega
  ·have hjd : decide (j < p.fs.length) = false := decide_eq_false hjl
   have hjd2 : decide ((j : Int) < (p.fs.length : Int)) = false := decide_eq_false (by omega)
   have hall : (p.fs.all (filB 10)) = true := by
    rw [List.all_eq_true]
    intro y hy
    exact HALL.out y (by rw [List.take_of_length_le (by omega)]; exact hy)
   have HGOOD : Hid (goodP p = eqP p { zp 10 with ps := p.ps, id := p.id, fs := p.fs }) := by show _ = _; rw [HDOC.out, hx1, hx2, hx3, HCO.out, hall]; rfl
   clear hall HALL
   go_upto_region 51 with fail
   clear c9 hjd hjd2
   have hld1 := load_bx HP4.out.out.1
   have hld3 := load_bx HP4.out.out.2.1
   have HQ := Lib.hid (asked HBB.out HGOOD.out)
   obtain ⟨hna, hnh⟩ := HP4.out.nat (.inl rfl) (.inr ⟨rfl, rfl⟩) (.inl rfl) (.inr ⟨rfl, rfl⟩)
   have HE := Lib.hid (EqPacket_is p ({ zp 10 with ps := p.ps, id := p.id, fs := p.fs }) a ({ za with pa := a.pa, pc := a.pc, fa := a.fa, fc := a.fc }) wr (fit_len HFIT.out) hnh HP4.out.at hna)
   clear hna hnh HGOOD
   go_wp2_with (first | (refine wpList_load_any (by rfl) 30 (.tmp 1) rfl g 0 rfl _ hld1 ?_) | (refine wpList_load_any (by rfl) 30 (.tmp 3) rfl g3 0 rfl _ hld3 ?_))
   refine HE.out.mono ?_
   rintro e w5 ⟨rfl, hb5⟩
   have HP5 := Lib.hid (HP4.out.below hb5)
   clear hb5 hld1 hld3 HE
   cases hq : eqP p ({ zp 10 with ps := p.ps, id := p.id, fs := p.fs }) with
   | false =>
    have hF := Lib.hid (HQ.out.no hq)
    go_wp2_with fail
    go_ret
    exact ⟨(by rw [hF.out]; try rfl), HP5.out.b⟩
   | true =>
    obtain ⟨hgd, hbb⟩ := HQ.out.yes hq
    obtain ⟨S, hS⟩ : ∃ S, strP p = S := ⟨_, rfl⟩
    have HBy := Lib.hid (RB_10 p a S w5 HP5.out.at HKD.out hgd hS)
    rw [hS] at hbb
    have HBB2 := Lib.hid hbb
    have hld1 := load_bx HP5.out.out.1
    clear hgd hbb hS hq HQ
    go_wp2_with (refine wpList_load_any (by rfl) 30 (.tmp 1) rfl g 0 rfl _ hld1 ?_)
    refine HBy.out.mono ?_
    rintro e w6 ⟨rfl, hb6⟩
    have HB6 := Lib.hid (HP5.out.below hb6).b
    clear hb6 hld1 HBy HP5
    by_cases h8 : S.size ≤ 8192
    ·have hd : decide ((S.size : Int) ≤ 8192) = true := decide_eq_true (by omega)
     go_wp2_with fail
     go_ret
     exact ⟨(by rw [HBB2.out, decide_eq_true h8]; try rfl), HB6.out⟩
    ·have hd : decide ((S.size : Int) ≤ 8192) = false := decide_eq_false (by omega)
     go_wp2_with fail
     go_ret
     exact ⟨(by rw [HBB2.out, decide_eq_false h8]; try rfl), HB6.out⟩
end Go.Proofs.YtdbbcfohjkgdcaaGreat
