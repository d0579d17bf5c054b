/- The document's own: may a packet be: a kind that is none. -/
import Derived.Test.YtdbbcfohjkgdcaaGreatM00
import Derived.Test.YtdbbcfohjkgdcaaGreatM36
set_option maxRecDepth 100000
set_option maxHeartbeats 64000000
namespace Go.Proofs.YtdbbcfohjkgdcaaGreat
open Go.RowKit Go.Lib Prp Pkt Vbi
theorem rpacket_none (p : Pk) (a : Ad) (b : Bool) (w : World) (hf : PkFit p a) (h : PkAt w w.heap.size p a) (hk : ¬ (1 ≤ p.kind ∧ p.kind ≤ 15)) (hb : packB p = b) :
  Calls Tryz.prog 9 #[.agg (pkArr p a)] w fun e w' => e = .returned (.bool b) ∧ Below w.heap.size w w' := by
 have hb1 := Box.new w 30 (pkArr p a)
 have ha1 := (Below.refl w.heap.size w).alloc (Nat.le_refl _) (.cells (pkArr p a) 30)
 obtain ⟨W1, hW⟩ : ∃ W1, w.alloc (.cells (pkArr p a) 30) = W1 := ⟨_, rfl⟩
 rw [hW] at hb1 ha1
 obtain ⟨g, hg⟩ : ∃ g, w.heap.size = g := ⟨_, rfl⟩
 rw [hg] at hb1
 have hgl := hb1.lt
 have hb3 := Box.new W1 30 (pkArr (zp 0) za)
 have ha3 := (Below.refl W1.heap.size W1).alloc (Nat.le_refl _) (.cells (pkArr (zp 0) za) 30)
 obtain ⟨W2, hW2⟩ : ∃ W2, W1.alloc (.cells (pkArr (zp 0) za) 30) = W2 := ⟨_, rfl⟩
 rw [hW2] at hb3 ha3
 obtain ⟨g3, hg3⟩ : ∃ g, W1.heap.size = g := ⟨_, rfl⟩
 rw [hg3] at hb3 hgl
 obtain ⟨W3, hW3⟩ : ∃ W3, W2.setRow g3 (pkArr (zp p.kind) za) = W3 := ⟨_, rfl⟩
 have hr3 := Bar.row g3 W2 (pkArr (zp p.kind) za)
 have hx1 : Box W3 g (pkArr p a) := by rw [← hW3]; exact hr3.box (hb1.below (ha3.mono (by omega))) (by omega)
 have hx3 : Box W3 g3 (pkArr (zp p.kind) za) := by rw [← hW3]; exact hb3.row _
 have hbw : Below w.heap.size w W3 := by rw [← hW3]; exact hr3.below (ha1.trans (ha3.mono (by have := ha1.size; omega))) (by omega) (by have := ha1.size; have := ha3.size; omega)
 have HP := Lib.hid (Pair.mk (w := w) (g := g) (g3 := g3) (p := p) (a := a) (N := zp p.kind) (a' := za) (W := W3) ⟨hx1, hx3, h.below hbw, hbw, by omega, by omega, by omega⟩)
 have c0 : W1.cell? ⟨g, 0, none⟩ = some (.int .i64 p.kind) := hb1.cell 0
 have HB3 := Lib.hid hb3
 have HW3 := Lib.hid hW3
 have HG := Lib.hid hg
 have HG3 := Lib.hid hg3
 simp only [pkArr, zp, za, zw, List.length_nil] at hW2
 have HW2 := Lib.hid hW2
 unfold pkArr at hW ⊢
 have HW := Lib.hid hW
 have HKD := Lib.hid hk
 have HF := Lib.hid (not_good hb (doc_none hk))
 clear hW hW2 hW3 hb1 ha1 hb3 ha3 hr3 hx1 hx3 hbw hgl hf h hk hb hg hg3
 go_enter Tryz.func9, Tryz.ntmps9
 go_upto_region 1 with fail
 rw [HW.out, HG.out]
 generalize Value.agg _ = v0
 have hg3 := HG3.out
 go_upto_region 2 with (first | (refine wpList_build_kind rfl (.tmp 9) rfl p.kind rfl ?_) | (rw [HW2.out]; refine wpList_store_whole rfl 30 (.tmp 3) (.tmp 10) rfl g3 (pkArr (zp p.kind) za) rfl rfl (pkArr (zp 0) za) HB3.out info_pk rfl (one_pk _ _) ?_; simp only [Act.put]))
 rw [HW3.out]
 clear hg3 c0 HW HW2 HW3 HB3 HG HG3
 have c0 : W3.cell? ⟨g, 0, none⟩ = some (.int .i64 p.kind) := HP.out.arg 0
 have c7 : W3.cell? ⟨g, 7, none⟩ = some (.int .i64 p.re) := HP.out.arg 7
 have c24 : W3.cell? ⟨g, 24, none⟩ = some (.slice a.pa p.ps.length a.pc) := HP.out.arg 24
 cases hx1 : inB p.re 255 with
 | false =>
  go_wp2_with (first | (go_at_call 34; refine (ZNum_is _ _ _ _ rfl).mono ?_; rintro e w' ⟨rfl, rfl⟩) | (go_at_call 38; refine (rid_is _ _ _ rfl).mono ?_; rintro e w' ⟨rfl, rfl⟩) | (go_at_call 36; refine (rtext_is _ _ _ rfl).mono ?_; rintro e w' ⟨rfl, rfl⟩))
  go_ret
  exact ⟨(by rw [HF.out]; try rfl), HP.out.b⟩
 | true =>
 by_cases h1 : p.kind < 1
 ·have hd : decide (p.kind < 1) = true := decide_eq_true h1
  go_wp2_with (first | (go_at_call 34; refine (ZNum_is _ _ _ _ rfl).mono ?_; rintro e w' ⟨rfl, rfl⟩) | (go_at_call 38; refine (rid_is _ _ _ rfl).mono ?_; rintro e w' ⟨rfl, rfl⟩) | (go_at_call 36; refine (rtext_is _ _ _ rfl).mono ?_; rintro e w' ⟨rfl, rfl⟩))
  go_ret
  exact ⟨(by rw [HF.out]; try rfl), HP.out.b⟩
 ·have hd : decide (p.kind < 1) = false := decide_eq_false h1
  have h15 : decide ((15 : Int) < p.kind) = true := by
   refine decide_eq_true ?_
   have := HKD.out
   omega
  go_wp2_with (first | (go_at_call 34; refine (ZNum_is _ _ _ _ rfl).mono ?_; rintro e w' ⟨rfl, rfl⟩) | (go_at_call 38; refine (rid_is _ _ _ rfl).mono ?_; rintro e w' ⟨rfl, rfl⟩) | (go_at_call 36; refine (rtext_is _ _ _ rfl).mono ?_; rintro e w' ⟨rfl, rfl⟩))
  go_ret
  exact ⟨(by rw [HF.out]; try rfl), HP.out.b⟩
end Go.Proofs.YtdbbcfohjkgdcaaGreat
