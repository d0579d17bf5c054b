/- The document's own: may a packet be: nothing more. -/
import Derived.Test.YtiancngpknnkaaaGreatK00
import Derived.Test.YtiancngpknnkaaaGreatK36
import Derived.Test.YtiancngpknnkaaaGreatK49
set_option maxRecDepth 100000
set_option maxHeartbeats 64000000
namespace Go.Proofs.YtiancngpknnkaaaGreat
open Go.RowKit Go.Lib Prp Pkt Vbi
theorem doc_13 {p : Pk} (hk : p.kind = 13) : goodP p = (inB p.re 255 && (propsB 13 p.ps && eqP p { zp 13 with ps := p.ps })) := by
 rw [none_12 (.inr rfl), Bool.eq_iff_iff, goodP_eq]
 by_cases hp : p.ps = []
 ·rw [eq_no hk (.inr rfl) hp]
  simp [mayP, partsL, allOk, inB, hk, hp]
  simp [fieldB, fieldOf, hk]
  grind
 ·simp [mayP, hk, hp, fieldB, fieldOf]
open Go.RowKit Go.Lib Prp Pkt Vbi
theorem RB_13 (p : Pk) (a : Ad) (S : ByteArray) (w : World) (h : PkAt w w.heap.size p a) (hk : p.kind = 13) (hg : goodP p = true) (hS : strP p = S) :
  Calls Tryz.prog 23 #[.agg (pkArr p a)] w fun e w' => e = .returned (.string S) ∧ Below w.heap.size w w' :=
 RBytes_of p a S w h hg hS fun R W h hR => rest_no p a R W (by omega) hg hR
open Go.RowKit Go.Lib Prp Pkt Vbi
theorem rpacket_13 (p : Pk) (a : Ad) (b : Bool) (w : World) (hf : PkFit p a) (h : PkAt w w.heap.size p a) (hk : p.kind = 13) (hb : packB p = b) :
  Calls Tryz.prog 22 #[.agg (pkArr p a)] w fun e w' => e = .returned (.bool b) ∧ Below w.heap.size w w' := by
 have HFIT := Lib.hid hf
 have HBB := Lib.hid hb
 have HDOC := Lib.hid (doc_13 hk)
 have hb1 := Box.new w 30 (pkArr p a)
 have ha1 := (Below.refl w.heap.size w).alloc (Nat.le_refl _) (.cells (pkArr p a) 30)
 obtain ⟨W1, hW⟩ : ∃ W1, w.alloc (.cells (pkArr p a) 30) = W1 := ⟨_, rfl⟩
 rw [hW] at hb1 ha1
 obtain ⟨g, hg⟩ : ∃ g, w.heap.size = g := ⟨_, rfl⟩
 rw [hg] at hb1
 have hgl := hb1.lt
 have hb3 := Box.new W1 30 (pkArr (zp 0) za)
 have ha3 := (Below.refl W1.heap.size W1).alloc (Nat.le_refl _) (.cells (pkArr (zp 0) za) 30)
 obtain ⟨W2, hW2⟩ : ∃ W2, W1.alloc (.cells (pkArr (zp 0) za) 30) = W2 := ⟨_, rfl⟩
 rw [hW2] at hb3 ha3
 obtain ⟨g3, hg3⟩ : ∃ g, W1.heap.size = g := ⟨_, rfl⟩
 rw [hg3] at hb3 hgl
 obtain ⟨W3, hW3⟩ : ∃ W3, W2.setRow g3 (pkArr (zp 13) za) = W3 := ⟨_, rfl⟩
 have hr3 := Bar.row g3 W2 (pkArr (zp 13) za)
 have hx1 : Box W3 g (pkArr p a) := by rw [← hW3]; exact hr3.box (hb1.below (ha3.mono (by omega))) (by omega)
 have hx3 : Box W3 g3 (pkArr (zp 13) za) := by rw [← hW3]; exact hb3.row _
 have hbw : Below w.heap.size w W3 := by rw [← hW3]; exact hr3.below (ha1.trans (ha3.mono (by have := ha1.size; omega))) (by omega) (by have := ha1.size; have := ha3.size; omega)
 have HP := Lib.hid (Pair.mk (w := w) (g := g) (g3 := g3) (p := p) (a := a) (N := zp 13) (a' := za) (W := W3) ⟨hx1, hx3, h.below hbw, hbw, by omega, by omega, by omega⟩)
 have c0 : W1.cell? ⟨g, 0, none⟩ = some (.int .i64 13) := by rw [hb1.cell, ← hk]; rfl
 have HB3 := Lib.hid hb3
 have HW3 := Lib.hid hW3
 have HG := Lib.hid hg
 have HG3 := Lib.hid hg3
 simp only [pkArr, zp, za, zw, List.length_nil] at hW2
 have HW2 := Lib.hid hW2
 unfold pkArr at hW ⊢
 have HW := Lib.hid hW
 have HKD := Lib.hid hk
 clear hW hW2 hW3 hb1 ha1 hb3 ha3 hr3 hx1 hx3 hbw hgl hf h hk hb hg hg3
 go_enter Tryz.func22, Tryz.ntmps22
 go_upto_region 1 with fail
 rw [HW.out, HG.out]
 generalize Value.agg _ = v0
 have hg3 := HG3.out
 go_upto_region 2 with (first | (refine wpList_build_kind rfl (.tmp 9) rfl 13 rfl ?_) | (rw [HW2.out]; refine wpList_store_whole rfl 30 (.tmp 3) (.tmp 10) rfl g3 (pkArr (zp 13) za) rfl rfl (pkArr (zp 0) za) HB3.out info_pk rfl (one_pk _ _) ?_; simp only [Act.put]))
 rw [HW3.out]
 clear hg3 c0 HW HW2 HW3 HB3 HG HG3
 have c0 : W3.cell? ⟨g, 0, none⟩ = some (.int .i64 13) := by rw [HP.out.arg, ← HKD.out]; rfl
 have c7 : W3.cell? ⟨g, 7, none⟩ = some (.int .i64 p.re) := HP.out.arg 7
 have c24 : W3.cell? ⟨g, 24, none⟩ = some (.slice a.pa p.ps.length a.pc) := HP.out.arg 24
 cases hx1 : inB p.re 255 with
 | false =>
  have hF := Lib.hid (not_good HBB.out (by rw [HDOC.out, hx1]; rfl))
  clear HFIT HBB HDOC
  go_wp2_with (first | (go_at_call 48; refine (ZNum_is _ _ _ _ rfl).mono ?_; rintro e w' ⟨rfl, rfl⟩) | (go_at_call 52; refine (rid_is _ _ _ rfl).mono ?_; rintro e w' ⟨rfl, rfl⟩) | (go_at_call 50; refine (rtext_is _ _ _ rfl).mono ?_; rintro e w' ⟨rfl, rfl⟩))
  go_ret
  exact ⟨(by rw [hF.out]; try rfl), HP.out.b⟩
 | true =>
 have HPR := Lib.hid ((RProps_is 13 p.ps a.pa a.pc _ W3 HFIT.out.pl1.1 HFIT.out.pl1.2 HFIT.out.ps HP.out.at.ps rfl).mono fun e w' (q : e = .returned (.bool (propsB 13 p.ps)) ∧ Below W3.heap.size W3 w') => q)
 cases hx2 : propsB 13 p.ps with
 | false =>
  have hF := Lib.hid (not_good HBB.out (by rw [HDOC.out, hx1, hx2]; rfl))
  clear HFIT HBB HDOC
  go_wp2_with (first | (go_at_call 48; refine (ZNum_is _ _ _ _ rfl).mono ?_; rintro e w' ⟨rfl, rfl⟩) | (go_at_call 52; refine (rid_is _ _ _ rfl).mono ?_; rintro e w' ⟨rfl, rfl⟩) | (go_at_call 50; refine (rtext_is _ _ _ rfl).mono ?_; rintro e w' ⟨rfl, rfl⟩))
  refine HPR.out.mono ?_
  rintro e w1 ⟨rfl, hb1⟩
  have HP2 := Lib.hid (HP.out.below hb1)
  clear hb1 HP HPR c0 c7 c24
  go_wp2_with (first | (go_at_call 48; refine (ZNum_is _ _ _ _ rfl).mono ?_; rintro e w' ⟨rfl, rfl⟩) | (go_at_call 52; refine (rid_is _ _ _ rfl).mono ?_; rintro e w' ⟨rfl, rfl⟩) | (go_at_call 50; refine (rtext_is _ _ _ rfl).mono ?_; rintro e w' ⟨rfl, rfl⟩))
  go_ret
  exact ⟨(by rw [hF.out]; try rfl), HP2.out.b⟩
 | true =>
 go_wp2_with (first | (go_at_call 48; refine (ZNum_is _ _ _ _ rfl).mono ?_; rintro e w' ⟨rfl, rfl⟩) | (go_at_call 52; refine (rid_is _ _ _ rfl).mono ?_; rintro e w' ⟨rfl, rfl⟩) | (go_at_call 50; refine (rtext_is _ _ _ rfl).mono ?_; rintro e w' ⟨rfl, rfl⟩))
 refine HPR.out.mono ?_
 rintro e w1 ⟨rfl, hb1⟩
 have HP2 := Lib.hid (HP.out.below hb1)
 clear hb1 HP HPR c0 c7 c24
 have c24 : w1.cell? ⟨g, 24, none⟩ = some (.slice a.pa p.ps.length a.pc) := HP2.out.arg 24
 have d24 : w1.cell? ⟨g3, 24, none⟩ = some (.slice none 0 0) := HP2.out.non 24
 have f24 := HP2.out.nfz 24
 have hne3 : ¬ g = g3 := HP2.out.out.2.2.2.2.2.2
 go_upto_region 5 with fail
 have HP3 := Lib.hid (HP2.out.put 24 (.slice a.pa p.ps.length a.pc) { zp 13 with ps := p.ps } { za with pa := a.pa, pc := a.pc } rfl)
 clear HP2 c24 d24 f24
 generalize World.setCell _ _ _ = w3 at HP3 ⊢
 have c0 : w3.cell? ⟨g, 0, none⟩ = some (.int .i64 13) := by rw [HP3.out.arg, ← HKD.out]; rfl
 have HGOOD : Hid (goodP p = eqP p { zp 13 with ps := p.ps }) := by show _ = _; rw [HDOC.out, hx1, hx2]; rfl
 have hld1 := load_bx HP3.out.out.1
 have hld3 := load_bx HP3.out.out.2.1
 have HQ := Lib.hid (asked HBB.out HGOOD.out)
 obtain ⟨hna, hnh⟩ := HP3.out.nat (.inl rfl) (.inl rfl) (.inl rfl) (.inr ⟨rfl, rfl⟩)
 have HE := Lib.hid (EqPacket_is p ({ zp 13 with ps := p.ps }) a ({ za with pa := a.pa, pc := a.pc }) w3 (fit_len HFIT.out) hnh HP3.out.at hna)
 clear hna hnh HGOOD
 go_wp2_with (first | (refine wpList_load_any (by rfl) 30 (.tmp 1) rfl g 0 rfl _ hld1 ?_) | (refine wpList_load_any (by rfl) 30 (.tmp 3) rfl g3 0 rfl _ hld3 ?_))
 refine HE.out.mono ?_
 rintro e w5 ⟨rfl, hb5⟩
 have HP5 := Lib.hid (HP3.out.below hb5)
 clear hb5 hld1 hld3 HE
 cases hq : eqP p ({ zp 13 with ps := p.ps }) with
 | false =>
  have hF := Lib.hid (HQ.out.no hq)
  go_wp2_with fail
  go_ret
  exact ⟨(by rw [hF.out]; try rfl), HP5.out.b⟩
 | true =>
  obtain ⟨hgd, hbb⟩ := HQ.out.yes hq
  obtain ⟨S, hS⟩ : ∃ S, strP p = S := ⟨_, rfl⟩
  have HBy := Lib.hid (RB_13 p a S w5 HP5.out.at HKD.out hgd hS)
  rw [hS] at hbb
  have HBB2 := Lib.hid hbb
  have hld1 := load_bx HP5.out.out.1
  clear hgd hbb hS hq HQ
  go_wp2_with (refine wpList_load_any (by rfl) 30 (.tmp 1) rfl g 0 rfl _ hld1 ?_)
  refine HBy.out.mono ?_
  rintro e w6 ⟨rfl, hb6⟩
  have HB6 := Lib.hid (HP5.out.below hb6).b
  clear hb6 hld1 HBy HP5
  by_cases h8 : S.size ≤ 8192
  ·have hd : decide ((S.size : Int) ≤ 8192) = true := decide_eq_true (by omega)
   go_wp2_with fail
   go_ret
   exact ⟨(by rw [HBB2.out, decide_eq_true h8]; try rfl), HB6.out⟩
  ·have hd : decide ((S.size : Int) ≤ 8192) = false := decide_eq_false (by omega)
   go_wp2_with fail
   go_ret
   exact ⟨(by rw [HBB2.out, decide_eq_false h8]; try rfl), HB6.out⟩
end Go.Proofs.YtiancngpknnkaaaGreat
