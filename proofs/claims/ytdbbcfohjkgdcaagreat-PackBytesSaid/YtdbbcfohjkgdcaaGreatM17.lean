/- Package pack: what is taken behind a packet's length: a Publish. -/
import Derived.Test.YtdbbcfohjkgdcaaGreatM00
import Derived.Test.YtdbbcfohjkgdcaaGreatM16
set_option maxRecDepth 100000
set_option maxHeartbeats 64000000
namespace Go.Proofs.YtdbbcfohjkgdcaaGreat.Pkt
open Prp Vbi
def headAll : Bool := (List.range 256).all fun m => headB (m : Int) == (decide ((m : Int) / 16 ≠ 0) && (sendB (headP (m : Int)).dup (headP (m : Int)).q && decide (flagsZ (headP (m : Int)) = (m : Int) % 16)))
theorem head_all : headAll = true := by kernel_rfl
theorem head_eq {c : Int} (h0 : 0 ≤ c) (h1 : c ≤ 255) : headB c = (decide (c / 16 ≠ 0) && (sendB (headP c).dup (headP c).q && decide (flagsZ (headP c) = c % 16))) := by
 obtain ⟨m, rfl⟩ : ∃ m : Nat, c = (m : Int) := ⟨c.toNat, by omega⟩
 have h := head_all
 unfold headAll at h
 exact eq_of_beq (List.all_eq_true.1 h m (List.mem_range.2 (by omega)))
theorem headP_3 {c : Int} (h : c / 16 = 3) : headP c = { zp 3 with dup := decide (8 ≤ c % 16), q := c % 16 / 2 % 4, ret := decide (c % 2 = 1) } := by unfold headP; rw [if_pos h]
theorem headP_k {c : Int} (h : ¬ c / 16 = 3) : headP c = zp (c / 16) := by unfold headP; rw [if_neg h]
end Go.Proofs.YtdbbcfohjkgdcaaGreat.Pkt
namespace Go.Proofs.YtdbbcfohjkgdcaaGreat
open Go.RowKit Go.Lib Prp Pkt Vbi
theorem FilAt.row {w W : World} {g k k2 : Nat} {st : St} {cs ds : Array Value} (h : FilAt w g st k cs k2 ds W) (es : Array Value) : FilAt w g st k cs k2 es (W.setRow k2 es) := by
 obtain ⟨h1, h2, h3, h4, h5, h6, h7, h8⟩ := h.out
 have hb := Bar.row k2 W es
 refine .mk ⟨h1.map fun _ _ r => hb.box r (by omega), h2.then_ ⟨hb.os, hb.tape, hb.output, hb.size, fun i hi => hb.block i (by have := h2.size; omega) (by omega)⟩, hb.box h3 h7, h4.row es, h5, h6, h7, h8⟩
theorem FilAt.row1 {w W : World} {g k k2 : Nat} {st : St} {cs ds : Array Value} (h : FilAt w g st k cs k2 ds W) (es : Array Value) : FilAt w g st k es k2 ds (W.setRow k es) := by
 obtain ⟨h1, h2, h3, h4, h5, h6, h7, h8⟩ := h.out
 have hb := Bar.row k W es
 refine .mk ⟨h1.map fun _ _ r => hb.box r (by omega), h2.then_ ⟨hb.os, hb.tape, hb.output, hb.size, fun i hi => hb.block i (by have := h2.size; omega) (by omega)⟩, h3.row es, hb.box h4 (by omega), h5, h6, h7, h8⟩
theorem sent_is (g : Nat) (c : Int) (s : ByteArray) (w : World) (h0 : 0 ≤ c) (h1 : c ≤ 255) (hr : RdOf true w g (.ok s)) :
  Calls Tryz.prog 101 #[.pointer (some ⟨g, 0, none⟩), .int .i64 c] w fun r w' => r = .returned (.agg (pkArr (headP c) za)) ∧ RdOf true w' g (if headB c = true then .ok s else .bad 8) ∧ Bar g w w' := by
 have HR := Lib.hid hr
 obtain ⟨so, hso⟩ : ∃ so, (if headB c = true then St.ok s else .bad 8) = so := ⟨_, rfl⟩
 rw [hso]
 have HSO := Lib.hid hso
 clear hso
 have HK0 := Box.new w 30 (pkArr (zp 0) za)
 have ha := (Below.refl w.heap.size w).alloc (Nat.le_refl _) (.cells (pkArr (zp 0) za) 30)
 obtain ⟨W1, hW⟩ : ∃ W1, w.alloc (.cells (pkArr (zp 0) za) 30) = W1 := ⟨_, rfl⟩
 rw [hW] at HK0 ha
 simp only [pkArr, zp, za, zw, List.length_nil] at hW
 have HW := Lib.hid hW
 have HK := Lib.hid HK0
 have HA := Lib.hid ha
 clear hW HK0 ha hr
 go_enter Tryz.func101, Tryz.ntmps101
 go_upto_region 1 with fail
 rw [HW.out]
 clear HW
 obtain ⟨k1, hk1⟩ : ∃ k, w.heap.size = k := ⟨_, rfl⟩
 have hg := HR.out.lt
 have HR1 := Lib.hid (HR.out.below HA.out)
 have hkl := HK.out.lt
 have HK1 := Lib.hid hk1
 rw [hk1] at HK hg hkl ⊢
 clear hk1
 have hb0 := Box.new W1 30 (pkArr (zp 0) za)
 have ha := (Below.refl W1.heap.size W1).alloc (Nat.le_refl _) (.cells (pkArr (zp 0) za) 30)
 obtain ⟨W2, hW⟩ : ∃ W2, W1.alloc (.cells (pkArr (zp 0) za) 30) = W2 := ⟨_, rfl⟩
 rw [hW] at hb0 ha
 simp only [pkArr, zp, za, zw, List.length_nil] at hW
 have HW := Lib.hid hW
 have HF0 := Lib.hid (FilAt.mk (w := w) ⟨HR1.out.below ha, (Bar.of g HA.out).trans (Bar.of g ha), HK.out.below ha, hb0, (by have := HK1.out; omega), (by have := HK1.out; omega), (by omega), (by have := HK1.out; omega)⟩)
 have HF1 := Lib.hid (HF0.out.row (pkArr (zp (c / 16)) za))
 have HB2 := Lib.hid hb0
 clear hW hb0 ha HR HR1 HK HA
 obtain ⟨k2, hk2⟩ : ∃ k, W1.heap.size = k := ⟨_, rfl⟩
 rw [hk2] at HF0 HF1 HB2
 have HX := Lib.hid (fun (W : World) (h : RdOf true W g (.ok s)) => fail_st g (.ok s) 8 W (by decide) h)
 obtain ⟨a1, _, _, a8, _, _, _⟩ := and_bits (n := c % 16) (by omega) (by omega)
 by_cases h3 : c / 16 = 3
 ·obtain ⟨bd, hbd⟩ : ∃ b, decide (8 ≤ c % 16) = b := ⟨_, rfl⟩
  obtain ⟨br, hbr⟩ : ∃ b, decide (c % 2 = 1) = b := ⟨_, rfl⟩
  have a8' : (bits BinOp.and IntKind.i64 (c % 16) 8 != 0) = bd := by rw [a8, ← hbd]; exact decide_eq_decide.2 (by omega)
  have a1' : (bits BinOp.and IntKind.i64 (c % 16) 1 != 0) = br := by rw [a1, ← hbr]; exact decide_eq_decide.2 (by omega)
  have HPP : Hid (headP c = { zp 3 with dup := bd, q := c % 16 / 2 % 4, ret := br }) := by show _ = _; rw [headP_3 h3, hbd, hbr]
  have hk3 : Hid (c / 16 = 3) := h3
  obtain ⟨y, hy⟩ : ∃ y, sendB ({ zp 3 with dup := bd, q := c % 16 / 2 % 4, ret := br } : Pk).dup ({ zp 3 with dup := bd, q := c % 16 / 2 % 4, ret := br } : Pk).q = y := ⟨_, rfl⟩
  obtain ⟨R, hR⟩ : ∃ R, flagsZ { zp 3 with dup := bd, q := c % 16 / 2 % 4, ret := br } = R := ⟨_, rfl⟩
  have hq0 : 0 ≤ ({ zp 3 with dup := bd, q := c % 16 / 2 % 4, ret := br } : Pk).q := by show 0 ≤ c % 16 / 2 % 4; omega
  have hq3 : ({ zp 3 with dup := bd, q := c % 16 / 2 % 4, ret := br } : Pk).q ≤ 3 := by show c % 16 / 2 % 4 ≤ 3; omega
  have HYY := Lib.hid (And.intro hy (And.intro hR (And.intro hq0 (And.intro hq3 (And.intro a8' (And.intro a1' h3))))))
  clear a1 a8 hbd hbr hy hR hq0 hq3 a8' a1' h3
  go_upto_region 2 with (first | (refine wpList_build_kind rfl (.tmp 8) rfl (c / 16) rfl ?_) | (rw [HW.out]; refine wpList_store_whole rfl 30 (.tmp 5) (.tmp 9) rfl k2 (pkArr (zp (c / 16)) za) rfl rfl (pkArr (zp 0) za) HB2.out info_pk rfl (one_pk _ _) ?_; simp only [Act.put]))
  clear HF0 HB2 HW
  generalize World.setRow _ _ _ = W3 at HF1 ⊢
  obtain ⟨hy, hR, hq0, hq3, a8', a1', h3⟩ := HYY.out
  have d0 := HF1.out.c2 0
  rw [show (pkArr (zp (c / 16)) za)[0]? = some (.int .i64 3) by rw [h3]; rfl] at d0
  have HYZ := Lib.hid (And.intro hy (And.intro hR (And.intro hq0 hq3)))
  clear hy hR hq0 hq3 HYY
  have d1 := HF1.out.c2 1
  have d2 := HF1.out.c2 2
  have d3 := HF1.out.c2 3
  have f1 := HF1.out.g2 1
  have f2 := HF1.out.g2 2
  have f3 := HF1.out.g2 3
  have HF3' : Hid (FilAt w g (.ok s) k1 (pkArr (zp 0) za) k2 (pkArr { zp 3 with dup := bd, q := c % 16 / 2 % 4, ret := br } za) (((W3.setCell ⟨k2, 1, none⟩ (.bool bd)).setCell ⟨k2, 2, none⟩ (.int .i64 (c % 16 / 2 % 4))).setCell ⟨k2, 3, none⟩ (.bool br))) := by
   have := ((HF1.out.put 1 (.bool bd)).put 2 (.int .i64 (c % 16 / 2 % 4))).put 3 (.bool br)
   rw [h3] at this
   exact this
  clear h3
  go_upto_region 7 with fail
  have HF3 := HF3'
  clear d0 d1 d2 d3 f1 f2 f3 HF1 HF3' a8' a1'
  obtain ⟨hy, hR, hq0, hq3⟩ := HYZ.out
  generalize World.setCell _ _ _ = W4 at HF3 ⊢
  have HM := Lib.hid (fun W => maySend_is { zp 3 with dup := bd, q := c % 16 / 2 % 4, ret := br } za y W hy)
  have HFl := Lib.hid (fun W => flagsOf_is { zp 3 with dup := bd, q := c % 16 / 2 % 4, ret := br } za R W hq0 hq3 hR)
  have d0 : W4.cell? ⟨k2, 0, none⟩ = some (.int .i64 3) := HF3.out.c2 0
  have hld := load_bx HF3.out.out.2.2.2.1
  by_cases hkz : c / 16 = 0
  ·have HH : Hid (headB c = false) := by show _ = _; rw [head_eq h0 h1, decide_eq_false (not_not_intro hkz), Bool.false_and]
   exact absurd (hk3.out.symm.trans hkz) (by decide)
  ·skip
   cases y with
   | false =>
    have HH : Hid (headB c = false) := by show _ = _; rw [head_eq h0 h1, HPP.out, hy, Bool.false_and, Bool.and_false]
    go_wp2_with (first | (refine wpList_load_any (by rfl) 30 (.tmp 5) rfl k2 0 rfl _ hld ?_) | (go_at_call 60; refine (HM.out _).mono ?_; rintro r w4 ⟨rfl, hb⟩; have HF4 := Lib.hid (HF3.out.below hb); clear hb hld d0))
    refine (HX.out _ HF4.out.out.1).mono ?_
    rintro r w5 ⟨rfl, q1, q2⟩
    have HF6 := Lib.hid (HF4.out.bar q2 q1)
    clear q1 q2 HF3 HF4
    have hld := load_bx HF6.out.out.2.2.2.1
    have HB4 := Lib.hid HF6.out.out.2.2.1
    have HF5 := Lib.hid (HF6.out.row1 (pkArr { zp 3 with dup := bd, q := c % 16 / 2 % 4, ret := br } za))
    go_wp2_with (first | (refine wpList_load_any (by rfl) 30 (.tmp 5) rfl k2 0 rfl _ hld ?_) | (refine wpList_store_whole rfl 30 (.tmp 4) (.tmp 43) rfl k1 (pkArr { zp 3 with dup := bd, q := c % 16 / 2 % 4, ret := br } za) rfl rfl (pkArr (zp 0) za) HB4.out info_pk rfl (one_pk _ _) ?_; simp only [Act.put]))
    refine bodyPost_ret (results_pk1 Tryz.results101 rfl HF5.out.out.2.2.1) rfl ⟨by rw [HPP.out], by rw [← HSO.out, HH.out]; exact HF5.out.out.1, HF5.out.out.2.1⟩
   | true =>
    by_cases hRc : R = c % 16
    ·have HH : Hid (headB c = true) := by show _ = _; rw [head_eq h0 h1, HPP.out, hy, hR, decide_eq_true hRc, decide_eq_true hkz]; rfl
     have hRb : (R != c % 16) = false := by rw [hRc]; simp
     clear hRc
     go_wp2_with (first | (refine wpList_load_any (by rfl) 30 (.tmp 5) rfl k2 0 rfl _ hld ?_) | (go_at_call 60; refine (HM.out _).mono ?_; rintro r w4 ⟨rfl, hb⟩; have HF4 := Lib.hid (HF3.out.below hb); clear hb hld d0; have hld := load_bx HF4.out.out.2.2.2.1) | (go_at_call 33; refine (HFl.out _).mono ?_; rintro r w5 ⟨rfl, hb⟩; have HF6 := Lib.hid (HF4.out.below hb); clear hb hld; have hld := load_bx HF6.out.out.2.2.2.1; have HB4 := Lib.hid HF6.out.out.2.2.1; have HF5 := Lib.hid (HF6.out.row1 (pkArr { zp 3 with dup := bd, q := c % 16 / 2 % 4, ret := br } za))) | (refine wpList_store_whole rfl 30 (.tmp 4) (.tmp 43) rfl k1 (pkArr { zp 3 with dup := bd, q := c % 16 / 2 % 4, ret := br } za) rfl rfl (pkArr (zp 0) za) HB4.out info_pk rfl (one_pk _ _) ?_; simp only [Act.put]))
     refine bodyPost_ret (results_pk1 Tryz.results101 rfl HF5.out.out.2.2.1) rfl ⟨by rw [HPP.out], by rw [← HSO.out, HH.out]; exact HF5.out.out.1, HF5.out.out.2.1⟩
    ·have HH : Hid (headB c = false) := by show _ = _; rw [head_eq h0 h1, HPP.out, hR, decide_eq_false hRc, Bool.and_false, Bool.and_false]
     have hRb : (R != c % 16) = true := ne_true hRc
     clear hRc
     go_wp2_with (first | (refine wpList_load_any (by rfl) 30 (.tmp 5) rfl k2 0 rfl _ hld ?_) | (go_at_call 60; refine (HM.out _).mono ?_; rintro r w4 ⟨rfl, hb⟩; have HF4 := Lib.hid (HF3.out.below hb); clear hb hld d0; have hld := load_bx HF4.out.out.2.2.2.1) | (go_at_call 33; refine (HFl.out _).mono ?_; rintro r w5 ⟨rfl, hb⟩; have HF6 := Lib.hid (HF4.out.below hb); clear hb hld))
     refine (HX.out _ HF6.out.out.1).mono ?_
     rintro r w6 ⟨rfl, q1, q2⟩
     have HF7 := Lib.hid (HF6.out.bar q2 q1)
     clear q1 q2 HF3 HF4 HF6
     have hld := load_bx HF7.out.out.2.2.2.1
     have HB4 := Lib.hid HF7.out.out.2.2.1
     have HF5 := Lib.hid (HF7.out.row1 (pkArr { zp 3 with dup := bd, q := c % 16 / 2 % 4, ret := br } za))
     go_wp2_with (first | (refine wpList_load_any (by rfl) 30 (.tmp 5) rfl k2 0 rfl _ hld ?_) | (refine wpList_store_whole rfl 30 (.tmp 4) (.tmp 43) rfl k1 (pkArr { zp 3 with dup := bd, q := c % 16 / 2 % 4, ret := br } za) rfl rfl (pkArr (zp 0) za) HB4.out info_pk rfl (one_pk _ _) ?_; simp only [Act.put]))
     refine bodyPost_ret (results_pk1 Tryz.results101 rfl HF5.out.out.2.2.1) rfl ⟨by rw [HPP.out], by rw [← HSO.out, HH.out]; exact HF5.out.out.1, HF5.out.out.2.1⟩
 ·have HPP : Hid (headP c = zp (c / 16)) := headP_k h3
  obtain ⟨y, hy⟩ : ∃ y, sendB (zp (c / 16)).dup (zp (c / 16)).q = y := ⟨_, rfl⟩
  obtain ⟨R, hR⟩ : ∃ R, flagsZ (zp (c / 16)) = R := ⟨_, rfl⟩
  have hq0 : 0 ≤ (zp (c / 16)).q := Int.le_refl 0
  have hq3 : (zp (c / 16)).q ≤ 3 := show (0 : Int) ≤ 3 by decide
  have h3b : (c / 16 == 3) = false := ne_false h3
  have HYY := Lib.hid (And.intro hy (And.intro hR (And.intro hq0 hq3)))
  clear a1 a8 hy hR hq0 hq3
  go_upto_region 2 with (first | (refine wpList_build_kind rfl (.tmp 8) rfl (c / 16) rfl ?_) | (rw [HW.out]; refine wpList_store_whole rfl 30 (.tmp 5) (.tmp 9) rfl k2 (pkArr (zp (c / 16)) za) rfl rfl (pkArr (zp 0) za) HB2.out info_pk rfl (one_pk _ _) ?_; simp only [Act.put]))
  clear HF0 HB2 HW
  generalize World.setRow _ _ _ = W3 at HF1 ⊢
  have d0 : W3.cell? ⟨k2, 0, none⟩ = some (.int .i64 (c / 16)) := HF1.out.c2 0
  go_upto_region 7 with fail
  have HF3 := HF1
  clear d0 HF1
  obtain ⟨hy, hR, hq0, hq3⟩ := HYY.out
  have HM := Lib.hid (fun W => maySend_is (zp (c / 16)) za y W hy)
  have HFl := Lib.hid (fun W => flagsOf_is (zp (c / 16)) za R W hq0 hq3 hR)
  have d0 : W3.cell? ⟨k2, 0, none⟩ = some (.int .i64 (c / 16)) := HF3.out.c2 0
  have hld := load_bx HF3.out.out.2.2.2.1
  by_cases hkz : c / 16 = 0
  ·have HH : Hid (headB c = false) := by show _ = _; rw [head_eq h0 h1, decide_eq_false (not_not_intro hkz), Bool.false_and]
   have d0' : W3.cell? ⟨k2, 0, none⟩ = some (.int .i64 0) := by rw [d0, hkz]
   clear d0 hkz h3b
   go_wp2_with fail
   refine (HX.out _ HF3.out.out.1).mono ?_
   rintro r w4 ⟨rfl, q1, q2⟩
   have HF4 := Lib.hid (HF3.out.bar q2 q1)
   clear q1 q2 HF3 hld d0'
   have hld := load_bx HF4.out.out.2.2.2.1
   have HB4 := Lib.hid HF4.out.out.2.2.1
   have HF5 := Lib.hid (HF4.out.row1 (pkArr (zp (c / 16)) za))
   go_wp2_with (first | (refine wpList_load_any (by rfl) 30 (.tmp 5) rfl k2 0 rfl _ hld ?_) | (refine wpList_store_whole rfl 30 (.tmp 4) (.tmp 43) rfl k1 (pkArr (zp (c / 16)) za) rfl rfl (pkArr (zp 0) za) HB4.out info_pk rfl (one_pk _ _) ?_; simp only [Act.put]))
   refine bodyPost_ret (results_pk1 Tryz.results101 rfl HF5.out.out.2.2.1) rfl ⟨by rw [HPP.out], by rw [← HSO.out, HH.out]; exact HF5.out.out.1, HF5.out.out.2.1⟩
  ·have hkb : (c / 16 == 0) = false := ne_false hkz
   cases y with
   | false =>
    have HH : Hid (headB c = false) := by show _ = _; rw [head_eq h0 h1, HPP.out, hy, Bool.false_and, Bool.and_false]
    go_wp2_with (first | (refine wpList_load_any (by rfl) 30 (.tmp 5) rfl k2 0 rfl _ hld ?_) | (go_at_call 60; refine (HM.out _).mono ?_; rintro r w4 ⟨rfl, hb⟩; have HF4 := Lib.hid (HF3.out.below hb); clear hb hld d0))
    refine (HX.out _ HF4.out.out.1).mono ?_
    rintro r w5 ⟨rfl, q1, q2⟩
    have HF6 := Lib.hid (HF4.out.bar q2 q1)
    clear q1 q2 HF3 HF4
    have hld := load_bx HF6.out.out.2.2.2.1
    have HB4 := Lib.hid HF6.out.out.2.2.1
    have HF5 := Lib.hid (HF6.out.row1 (pkArr (zp (c / 16)) za))
    go_wp2_with (first | (refine wpList_load_any (by rfl) 30 (.tmp 5) rfl k2 0 rfl _ hld ?_) | (refine wpList_store_whole rfl 30 (.tmp 4) (.tmp 43) rfl k1 (pkArr (zp (c / 16)) za) rfl rfl (pkArr (zp 0) za) HB4.out info_pk rfl (one_pk _ _) ?_; simp only [Act.put]))
    refine bodyPost_ret (results_pk1 Tryz.results101 rfl HF5.out.out.2.2.1) rfl ⟨by rw [HPP.out], by rw [← HSO.out, HH.out]; exact HF5.out.out.1, HF5.out.out.2.1⟩
   | true =>
    by_cases hRc : R = c % 16
    ·have HH : Hid (headB c = true) := by show _ = _; rw [head_eq h0 h1, HPP.out, hy, hR, decide_eq_true hRc, decide_eq_true hkz]; rfl
     have hRb : (R != c % 16) = false := by rw [hRc]; simp
     clear hRc
     go_wp2_with (first | (refine wpList_load_any (by rfl) 30 (.tmp 5) rfl k2 0 rfl _ hld ?_) | (go_at_call 60; refine (HM.out _).mono ?_; rintro r w4 ⟨rfl, hb⟩; have HF4 := Lib.hid (HF3.out.below hb); clear hb hld d0; have hld := load_bx HF4.out.out.2.2.2.1) | (go_at_call 33; refine (HFl.out _).mono ?_; rintro r w5 ⟨rfl, hb⟩; have HF6 := Lib.hid (HF4.out.below hb); clear hb hld; have hld := load_bx HF6.out.out.2.2.2.1; have HB4 := Lib.hid HF6.out.out.2.2.1; have HF5 := Lib.hid (HF6.out.row1 (pkArr (zp (c / 16)) za))) | (refine wpList_store_whole rfl 30 (.tmp 4) (.tmp 43) rfl k1 (pkArr (zp (c / 16)) za) rfl rfl (pkArr (zp 0) za) HB4.out info_pk rfl (one_pk _ _) ?_; simp only [Act.put]))
     refine bodyPost_ret (results_pk1 Tryz.results101 rfl HF5.out.out.2.2.1) rfl ⟨by rw [HPP.out], by rw [← HSO.out, HH.out]; exact HF5.out.out.1, HF5.out.out.2.1⟩
    ·have HH : Hid (headB c = false) := by show _ = _; rw [head_eq h0 h1, HPP.out, hR, decide_eq_false hRc, Bool.and_false, Bool.and_false]
     have hRb : (R != c % 16) = true := ne_true hRc
     clear hRc
     go_wp2_with (first | (refine wpList_load_any (by rfl) 30 (.tmp 5) rfl k2 0 rfl _ hld ?_) | (go_at_call 60; refine (HM.out _).mono ?_; rintro r w4 ⟨rfl, hb⟩; have HF4 := Lib.hid (HF3.out.below hb); clear hb hld d0; have hld := load_bx HF4.out.out.2.2.2.1) | (go_at_call 33; refine (HFl.out _).mono ?_; rintro r w5 ⟨rfl, hb⟩; have HF6 := Lib.hid (HF4.out.below hb); clear hb hld))
     refine (HX.out _ HF6.out.out.1).mono ?_
     rintro r w6 ⟨rfl, q1, q2⟩
     have HF7 := Lib.hid (HF6.out.bar q2 q1)
     clear q1 q2 HF3 HF4 HF6
     have hld := load_bx HF7.out.out.2.2.2.1
     have HB4 := Lib.hid HF7.out.out.2.2.1
     have HF5 := Lib.hid (HF7.out.row1 (pkArr (zp (c / 16)) za))
     go_wp2_with (first | (refine wpList_load_any (by rfl) 30 (.tmp 5) rfl k2 0 rfl _ hld ?_) | (refine wpList_store_whole rfl 30 (.tmp 4) (.tmp 43) rfl k1 (pkArr (zp (c / 16)) za) rfl rfl (pkArr (zp 0) za) HB4.out info_pk rfl (one_pk _ _) ?_; simp only [Act.put]))
     refine bodyPost_ret (results_pk1 Tryz.results101 rfl HF5.out.out.2.2.1) rfl ⟨by rw [HPP.out], by rw [← HSO.out, HH.out]; exact HF5.out.out.1, HF5.out.out.2.1⟩
open Go.RowKit Go.Lib Prp Pkt Vbi
theorem parts_id (B g h : Nat) (w0 : World) (st : St) (p : Pk) (a : Ad) (w : World) (hk : p.kind = 4 ∨ p.kind = 5 ∨ p.kind = 6 ∨ p.kind = 7) (hl : Live true B w0 g h st p a w) :
  Calls Tryz.prog 102 #[.pointer (some ⟨g, 0, none⟩), .pointer (some ⟨h, 0, none⟩)] w (Done true B w0 g h (idReasonS p st)) := by
 have dk := hl.f0
 have d4 := hl.f4
 have f4 := hl.frozen 4
 have HO0 := number_next g st w hl.rd
 obtain ⟨n, hn⟩ : ∃ n, (st.run numberR).val 0 = n := ⟨_, rfl⟩
 obtain ⟨s1, hs1⟩ : ∃ s1, (st.run numberR).st = s1 := ⟨_, rfl⟩
 rw [hn, hs1] at HO0
 have HE : Hid (idReasonS p st = reasonS { p with id := n } s1) := by show _ = _; rw [← hn, ← hs1]; rfl
 have HO := Lib.hid HO0
 have HL := Lib.hid hl
 clear hl HO0 hn hs1
 rcases hk with hk | hk | hk | hk
 all_goals
  rw [hk] at dk
  clear hk
  go_enter Tryz.func102, Tryz.ntmps102
  go_wp2_with fail
  refine HO.out.mono ?_
  rintro r w1 ⟨rfl, k1, k2⟩
  have HL1 := Lib.hid (HL.out.bar k2 k1)
  clear k1 k2 HO HL dk d4 f4
  have d4 := HL1.out.f4
  have f4 := HL1.out.frozen 4
  have HL2 := Lib.hid (HL1.out.put1 4 (.int .i64 n) { p with id := n } rfl rfl rfl rfl rfl)
  go_wp2_with fail
  refine (reason_is B g h w0 s1 _ a _ HL2.out).mono ?_
  rintro r w2 ⟨rfl, p', a', k1, k2⟩
  have K1 := Lib.hid k1
  have K2 := Lib.hid k2
  clear k1 k2 d4 f4 HL1 HL2
  go_wp2_with fail
  exact bodyPost_end (v := .tuple #[]) (by simp [results, Tryz.results102]) rfl ⟨rfl, p', a', by rw [HE.out]; exact K1.out, by rw [HE.out]; exact K2.out⟩
theorem parts_14 (B g h : Nat) (w0 : World) (st : St) (p : Pk) (a : Ad) (w : World) (hk : p.kind = 14 ∨ p.kind = 15) (hl : Live true B w0 g h st p a w) :
  Calls Tryz.prog 102 #[.pointer (some ⟨g, 0, none⟩), .pointer (some ⟨h, 0, none⟩)] w (Done true B w0 g h (reasonS p st)) := by
 have dk := hl.f0
 have HR := Lib.hid (reason_is B g h w0 st p a w hl)
 clear hl
 rcases hk with hk | hk
 all_goals
  rw [hk] at dk
  clear hk
  go_enter Tryz.func102, Tryz.ntmps102
  go_wp2_with fail
  refine HR.out.mono ?_
  rintro r w2 ⟨rfl, p', a', k1, k2⟩
  have K1 := Lib.hid k1
  have K2 := Lib.hid k2
  clear k1 k2 dk
  go_wp2_with fail
  exact bodyPost_end (v := .tuple #[]) (by simp [results, Tryz.results102]) rfl ⟨rfl, p', a', K1.out, K2.out⟩
theorem parts_none (B g h : Nat) (w0 : World) (st : St) (p : Pk) (a : Ad) (w : World) (hk : p.kind = 0 ∨ p.kind = 12 ∨ p.kind = 13) (hl : Live true B w0 g h st p a w) :
  Calls Tryz.prog 102 #[.pointer (some ⟨g, 0, none⟩), .pointer (some ⟨h, 0, none⟩)] w (Done true B w0 g h (p, st)) := by
 have dk := hl.f0
 have HL := Lib.hid hl
 clear hl
 rcases hk with hk | hk | hk
 all_goals
  rw [hk] at dk
  clear hk
  go_enter Tryz.func102, Tryz.ntmps102
  go_wp2_with fail
  exact bodyPost_end (v := .tuple #[]) (by simp [results, Tryz.results102]) rfl ⟨rfl, p, a, HL.out, fun _ => rfl⟩
theorem pparts_2 (B g h : Nat) (w0 : World) (st : St) (p : Pk) (a : Ad) (w : World) (hk : p.kind = 2) (hl : Live true B w0 g h st p a w) :
  Calls Tryz.prog 102 #[.pointer (some ⟨g, 0, none⟩), .pointer (some ⟨h, 0, none⟩)] w (Done true B w0 g h (ackS p st)) := by
 have dk := hl.f0
 have HO0 := yes_st g st w hl.rd
 obtain ⟨n0, hn0⟩ : ∃ n, (st.run octetR).val 0 = n := ⟨_, rfl⟩
 obtain ⟨s0, hs0⟩ : ∃ s, (st.run octetR).st.want (decide ((st.run octetR).val 0 ≤ 1)) 8 = s := ⟨_, rfl⟩
 rw [hs0, hn0] at HO0
 obtain ⟨n1, hn1⟩ : ∃ n, (s0.run octetR).val 0 = n := ⟨_, rfl⟩
 obtain ⟨s1, hs1⟩ : ∃ s, (s0.run octetR).st = s := ⟨_, rfl⟩
 have H10 := fun (W : World) (hr : RdOf true W g s0) => octet_st g s0 W hr
 rw [hn1, hs1] at H10
 obtain ⟨L, hL⟩ : ∃ L, (s1.run (propsR p.kind)).val [] = L := ⟨_, rfl⟩
 obtain ⟨s2, hs2⟩ : ∃ s, (s1.run (propsR p.kind)).st = s := ⟨_, rfl⟩
 have H20 := fun (W : World) (hr : RdOf true W g s1) => pprops_st p.kind g s1 W hr
 rw [hL, hs2] at H20
 have HE : Hid (ackS p st = ({ p with pre := decide (n0 = 1), re := n1, ps := L }, s2)) := by
  subst hs2 hL hs1 hn1 hs0 hn0
  rfl
 have HO := Lib.hid HO0
 have H1 := Lib.hid H10
 have H2 := Lib.hid H20
 have HL := Lib.hid hl
 clear hl HO0 H10 H20 hn0 hs0 hn1 hs1 hL hs2
 have HK := Lib.hid hk
 have dk2 : w.cell? ⟨h, 0, none⟩ = some (.int .i64 2) := by rw [dk, hk]
 clear hk dk
 obtain ⟨b0, hb0⟩ : ∃ b, decide (n0 = 1) = b := ⟨_, rfl⟩
 rw [hb0] at HO HE
 clear hb0
 go_enter Tryz.func102, Tryz.ntmps102
 go_wp2_with fail
 refine HO.out.mono ?_
 rintro r w1 ⟨rfl, k1, k2⟩
 have HL1 := Lib.hid (HL.out.bar k2 k1)
 clear k1 k2 HO HL dk2
 have d8 := HL1.out.f8
 have f8 := HL1.out.frozen 8
 have HL2 := Lib.hid (HL1.out.put1 8 (.bool b0) { p with pre := b0 } rfl rfl rfl rfl rfl)
 go_wp2_with fail
 refine (H1.out _ HL2.out.rd).mono ?_
 rintro r w2 ⟨rfl, k1, k2⟩
 have HL3 := Lib.hid (HL2.out.bar k2 k1)
 clear k1 k2 d8 f8 HL1 HL2 H1
 have d0 := HL3.out.f0
 have d7 := HL3.out.f7
 have f7 := HL3.out.frozen 7
 have HL4 := Lib.hid (HL3.out.put1 7 (.int .i64 n1) { p with pre := b0, re := n1 } rfl rfl rfl rfl rfl)
 go_wp2_with fail
 refine (H2.out _ HL4.out.rd).mono ?_
 rintro r w3 ⟨A, c, rfl, k1, k2, k3, k4, k5⟩
 have HL5 := Lib.hid (HL4.out.bar k5 k4)
 have HN := Lib.hid (HL4.out.off k2)
 have HA := Lib.hid k3
 clear k2 k3 k4 k5 d0 d7 f7 HL3 HL4 H2
 have d24 := HL5.out.f24
 have f24 := HL5.out.frozen 24
 go_wp2_with fail
 refine bodyPost_end (v := .tuple #[]) (by simp [results, Tryz.results102]) rfl ⟨rfl, { p with pre := b0, re := n1, ps := L }, { a with pa := A, pc := c }, ?_, ?_⟩
 ·rw [HE.out]; exact HL5.out.props HA.out HN.out k1
 ·rw [HE.out]; exact fun _ => rfl
open Go.RowKit Go.Lib Prp Pkt Vbi
theorem parts_codes (B g h : Nat) (w0 : World) (st : St) (p : Pk) (a : Ad) (w : World) (hk : p.kind = 9 ∨ p.kind = 11) (hl : Live true B w0 g h st p a w) :
  Calls Tryz.prog 102 #[.pointer (some ⟨g, 0, none⟩), .pointer (some ⟨h, 0, none⟩)] w (Done true B w0 g h (codesS p st)) := by
 have dk := hl.f0
 have HO0 := number_next g st w hl.rd
 obtain ⟨n0, hn0⟩ : ∃ n, (st.run numberR).val 0 = n := ⟨_, rfl⟩
 obtain ⟨s1, hs1⟩ : ∃ s, (st.run numberR).st = s := ⟨_, rfl⟩
 rw [hs1, hn0] at HO0
 obtain ⟨L, hL⟩ : ∃ L, (s1.run (propsR p.kind)).val [] = L := ⟨_, rfl⟩
 obtain ⟨s2, hs2⟩ : ∃ s, (s1.run (propsR p.kind)).st = s := ⟨_, rfl⟩
 have H20 := fun (W : World) (hr : RdOf true W g s1) => pprops_st p.kind g s1 W hr
 rw [hL, hs2] at H20
 obtain ⟨F, hF⟩ : ∃ F, s2.run (manyR octetR 5 []) = F := ⟨_, rfl⟩
 have H30 := fun (W : World) (hr : RdOf true W g s2) => many_int g s2 W hr
 rw [hF] at H30
 have HE : Hid (codesS p st = ({ p with id := n0, ps := L, cs := F.val [] }, F.st)) := by
  subst hF hs2 hL hs1 hn0
  rfl
 have HO := Lib.hid HO0
 have H2 := Lib.hid H20
 have H3 := Lib.hid H30
 have HL := Lib.hid hl
 clear hl HO0 H20 H30 hn0 hs1 hL hs2 hF
 rcases hk with hk | hk
 all_goals
  rw [hk] at H2
  rw [hk] at dk
  have HK := Lib.hid hk
  clear hk
  go_enter Tryz.func102, Tryz.ntmps102
  go_wp2_with fail
  refine HO.out.mono ?_
  rintro r w1 ⟨rfl, k1, k2⟩
  have HL1 := Lib.hid (HL.out.bar k2 k1)
  clear k1 k2 HO HL dk
  have d0 := HL1.out.f0
  rw [HK.out] at d0
  have d4 := HL1.out.f4
  have f4 := HL1.out.frozen 4
  have HL2 := Lib.hid (HL1.out.put1 4 (.int .i64 n0) { p with id := n0 } rfl rfl rfl rfl rfl)
  go_wp2_with fail
  refine (H2.out _ HL2.out.rd).mono ?_
  rintro r w2 ⟨A, c, rfl, k1, k2, k3, k4, k5⟩
  have HL3 := Lib.hid (HL2.out.bar k5 k4)
  have HN := Lib.hid (HL2.out.off k2)
  have HA := Lib.hid k3
  have HC := Lib.hid k1
  clear k1 k2 k3 k4 k5 d0 d4 f4 HL1 HL2 H2
  have d24 := HL3.out.f24
  have f24 := HL3.out.frozen 24
  have HL4 := Lib.hid (HL3.out.props HA.out HN.out HC.out)
  go_wp2_with fail
  refine (H3.out _ HL4.out.rd).mono ?_
  rintro r w3 ⟨M, A2, c2, rfl, k1, k2, k3, k4, k5, k6⟩
  have HL5 := Lib.hid (HL4.out.bar k5 k4)
  have HN2 := Lib.hid (HL4.out.off k2)
  have HA2 := Lib.hid k3
  have HM := Lib.hid k6
  have HC2 := Lib.hid k1
  clear k1 k2 k3 k4 k5 k6 d24 f24 HL3 HL4 H3
  have d9 := HL5.out.f9
  have f9 := HL5.out.frozen 9
  go_wp2_with fail
  refine bodyPost_end (v := .tuple #[]) (by simp [results, Tryz.results102]) rfl ⟨rfl, { p with id := n0, ps := L, cs := M }, { a with pa := A, pc := c, ca := A2, cc := c2 }, ?_, ?_⟩
  ·rw [HE.out]; exact HL5.out.codes HA2.out HN2.out HC2.out
  ·rw [HE.out]; exact fun hb => by rw [HM.out hb]
open Go.RowKit Go.Lib Prp Pkt Vbi
theorem publish_q {p : Pk} {st : St} (h : 0 < p.q) : publishS p st = ({ p with t := (st.run (longR true)).val ⟨#[]⟩, id := ((st.run (longR true)).st.run numberR).val 0, ps := ((((st.run (longR true)).st.run numberR).st.run (propsR p.kind)).val []), b := (bodyR (((st.run (longR true)).st.run numberR).st.run (propsR p.kind)).st).1 }, (bodyR (((st.run (longR true)).st.run numberR).st.run (propsR p.kind)).st).2) := by
 unfold publishS
 simp only [if_pos h]
theorem publish_0 {p : Pk} {st : St} (h : ¬ 0 < p.q) : publishS p st = ({ p with t := (st.run (longR true)).val ⟨#[]⟩, ps := (((st.run (longR true)).st.run (propsR p.kind)).val []), b := (bodyR ((st.run (longR true)).st.run (propsR p.kind)).st).1 }, (bodyR ((st.run (longR true)).st.run (propsR p.kind)).st).2) := by
 unfold publishS
 simp only [if_neg h]
 generalize st.run (longR true) = r0
 cases r0 <;> rfl
theorem body_end {B g h : Nat} {w0 W : World} {st : St} {p : Pk} {a : Ad} {s : ByteArray} (k : Live true B w0 g h st p a W) (hs : st.rest = s) (hb : s.size ≤ 1024) :
  Live true B w0 g h (bodyR st).2 { p with b := s } a ((W.setCell ⟨h, 6, none⟩ (.string s)).setCell ⟨g, 0, none⟩ (.string ⟨#[]⟩)) ∧ (bodyR st).1 = s := by
 have k1 := k.put1 6 (.string s) { p with b := s } rfl rfl rfl rfl rfl
 have hr := k1.rd
 cases st with
 | ok s' =>
  have hs' : s' = s := hs
  subst hs'
  have hw : (St.ok s').want (decide ((St.ok s').rest.size ≤ 1024)) 2 = .ok s' := by rw [decide_eq_true (show (St.ok s').rest.size ≤ 1024 from hb), want_true]
  have hB : bodyR (.ok s') = (s', .ok ⟨#[]⟩) := by unfold bodyR; rw [hw]; rfl
  rw [hB]
  exact ⟨k1.bar (Bar.set g _ 0 _) ⟨hr.1.put0 ⟨#[]⟩, Nat.zero_le _⟩, rfl⟩
 | bad e =>
  obtain ⟨h0, s', h1, h2, h3⟩ := hr
  have hs' : ⟨#[]⟩ = s := hs
  subst hs'
  exact ⟨k1.bar (Bar.set g _ 0 _) ⟨h0, ⟨#[]⟩, h1.put0 ⟨#[]⟩, Nat.zero_le _, fun _ => rfl⟩, rfl⟩
theorem body_over {st : St} (hb : ¬ st.rest.size ≤ 1024) : bodyR st = bodyR (st.want false 2) ∧ (st.want false 2).rest = ⟨#[]⟩ := by
 cases st with
 | bad e => exact absurd (Nat.zero_le _) hb
 | ok s =>
  have : decide ((St.ok s).rest.size ≤ 1024) = false := decide_eq_false hb
  refine ⟨?_, rfl⟩
  unfold bodyR
  rw [this]
  rfl
theorem publish_is (B g h : Nat) (w0 : World) (st : St) (p : Pk) (a : Ad) (w : World) (hl : Live true B w0 g h st p a w) :
  Calls Tryz.prog 121 #[.pointer (some ⟨g, 0, none⟩), .pointer (some ⟨h, 0, none⟩)] w (Done true B w0 g h (publishS p st)) := by
 have hgh : ¬ g = h := hl.out.2.2.2.1
 have HO0 := words_st g st w hl.rd
 obtain ⟨T, hT⟩ : ∃ T, (st.run (longR true)).val ⟨#[]⟩ = T := ⟨_, rfl⟩
 obtain ⟨s1, hs1⟩ : ∃ s, (st.run (longR true)).st = s := ⟨_, rfl⟩
 rw [hs1, hT] at HO0
 have HO := Lib.hid HO0
 have HL := Lib.hid hl
 have HX := Lib.hid (fun (s : St) (W : World) (h : RdOf true W g s) => fail_st g s 2 W (by decide) h)
 have HCl := Lib.hid (fun (s : ByteArray) (W : World) (h : s.size ≤ 281474976710656) => Clone_same s W h)
 clear hl HO0
 by_cases hq : 0 < p.q
 ·obtain ⟨n0, hn0⟩ : ∃ n, (s1.run numberR).val 0 = n := ⟨_, rfl⟩
  obtain ⟨s2, hs2⟩ : ∃ s, (s1.run numberR).st = s := ⟨_, rfl⟩
  have H10 := fun (W : World) (hr : RdOf true W g s1) => number_next g s1 W hr
  rw [hn0, hs2] at H10
  obtain ⟨L, hL⟩ : ∃ L, (s2.run (propsR p.kind)).val [] = L := ⟨_, rfl⟩
  obtain ⟨s3, hs3⟩ : ∃ s, (s2.run (propsR p.kind)).st = s := ⟨_, rfl⟩
  have H20 := fun (W : World) (hr : RdOf true W g s2) => pprops_st p.kind g s2 W hr
  rw [hL, hs3] at H20
  have HE : Hid (publishS p st = ({ p with t := T, id := n0, ps := L, b := (bodyR s3).1 }, (bodyR s3).2)) := by
   subst hs3 hL hs2 hn0 hs1 hT
   exact publish_q hq
  have H1 := Lib.hid H10
  have H2 := Lib.hid H20
  clear H10 H20 hn0 hs1 hL hs2 hs3 hT
  go_enter Tryz.func121, Tryz.ntmps121
  go_wp2_with fail
  refine HO.out.mono ?_
  rintro r w1 ⟨rfl, k1, k2⟩
  have HL1 := Lib.hid (HL.out.bar k2 k1)
  clear k1 k2 HO HL
  have d5 := HL1.out.f5
  have f5 := HL1.out.frozen 5
  have d2 := HL1.out.f2
  have HL2 := Lib.hid (HL1.out.put1 5 (.string T) { p with t := T } rfl rfl rfl rfl rfl)
  go_wp2_with fail
  refine (H1.out _ HL2.out.rd).mono ?_
  rintro r w2 ⟨rfl, k1, k2⟩
  have HL3 := Lib.hid (HL2.out.bar k2 k1)
  clear k1 k2 d5 f5 d2 HL1 HL2 H1
  have d0 := HL3.out.f0
  have d4 := HL3.out.f4
  have f4 := HL3.out.frozen 4
  have HL4 := Lib.hid (HL3.out.put1 4 (.int .i64 n0) { p with t := T, id := n0 } rfl rfl rfl rfl rfl)
  go_wp2_with fail
  refine (H2.out _ HL4.out.rd).mono ?_
  rintro r w3 ⟨A, c, rfl, k1, k2, k3, k4, k5⟩
  have HL5 := Lib.hid (HL4.out.bar k5 k4)
  have HN := Lib.hid (HL4.out.off k2)
  have HA := Lib.hid k3
  have HC := Lib.hid k1
  clear k1 k2 k3 k4 k5 d0 d4 f4 HL3 HL4 H2
  have e0 := HL5.out.rd.at0
  have d24 := HL5.out.f24
  have f24 := HL5.out.frozen 24
  have HL6 := Lib.hid (HL5.out.props HA.out HN.out HC.out)
  obtain ⟨s, hs⟩ : ∃ s, s3.rest = s := ⟨_, rfl⟩
  rw [hs] at e0
  have hsz : s.size ≤ 268435456 := by
   obtain ⟨s', _, h2, _, _, h3⟩ := HL5.out.rd.rd
   rw [← hs, h3 rfl]; exact h2
  by_cases hb : s.size ≤ 1024
  ·have hbI : ¬ (1024 : Int) < (s.size : Int) := by omega
   go_wp2_with fail
   refine (HCl.out s _ (by omega)).mono ?_
   rintro r w4 ⟨rfl, k1⟩
   have HL7 := Lib.hid (HL6.out.below k1)
   clear k1 e0 d24 f24 HL5 HL6
   have d6 := HL7.out.f6
   have f6 := HL7.out.frozen 6
   have e0 := HL7.out.rd.at0
   have g0 : w4.frozen? ⟨g, 0, none⟩ = false := HL7.out.rd.exact.frozen 0
   have HF := Lib.hid (body_end HL7.out hs hb)
   go_wp2_with fail
   refine bodyPost_end (v := .tuple #[]) (by simp [results, Tryz.results121]) rfl ⟨rfl, { p with t := T, id := n0, ps := L, b := s }, { a with pa := A, pc := c }, ?_, ?_⟩
   ·rw [HE.out]; exact HF.out.1
   ·rw [HE.out]; exact fun _ => by rw [HF.out.2]
  ·have hbI : (1024 : Int) < (s.size : Int) := by omega
   obtain ⟨hv1, hv2⟩ := body_over (st := s3) (by rw [hs]; exact hb)
   have HV := Lib.hid hv1
   have HV2 := Lib.hid hv2
   clear hv1 hv2
   go_wp2_with fail
   refine (HX.out s3 _ HL6.out.rd).mono ?_
   rintro r w4 ⟨rfl, k1, k2⟩
   have HL7 := Lib.hid (HL6.out.bar k2 k1)
   clear k1 k2 e0 d24 f24 HL5 HL6
   have e0 := HL7.out.rd.at0
   rw [HV2.out] at e0
   go_wp2_with fail
   refine (HCl.out ⟨#[]⟩ _ (Nat.zero_le _)).mono ?_
   rintro r w5 ⟨rfl, k1⟩
   have HL8 := Lib.hid (HL7.out.below k1)
   clear k1 e0 HL7
   have d6 := HL8.out.f6
   have f6 := HL8.out.frozen 6
   have e0 := HL8.out.rd.at0
   have g0 : w5.frozen? ⟨g, 0, none⟩ = false := HL8.out.rd.exact.frozen 0
   have HF := Lib.hid (body_end HL8.out HV2.out (Nat.zero_le _))
   go_wp2_with fail
   refine bodyPost_end (v := .tuple #[]) (by simp [results, Tryz.results121]) rfl ⟨rfl, { p with t := T, id := n0, ps := L, b := ⟨#[]⟩ }, { a with pa := A, pc := c }, ?_, ?_⟩
   ·rw [HE.out, HV.out]; exact HF.out.1
   ·rw [HE.out, HV.out]; exact fun _ => by rw [HF.out.2]
 ·obtain ⟨L, hL⟩ : ∃ L, (s1.run (propsR p.kind)).val [] = L := ⟨_, rfl⟩
  obtain ⟨s3, hs3⟩ : ∃ s, (s1.run (propsR p.kind)).st = s := ⟨_, rfl⟩
  have H20 := fun (W : World) (hr : RdOf true W g s1) => pprops_st p.kind g s1 W hr
  rw [hL, hs3] at H20
  have HE : Hid (publishS p st = ({ p with t := T, ps := L, b := (bodyR s3).1 }, (bodyR s3).2)) := by
   subst hs3 hL hs1 hT
   exact publish_0 hq
  have H2 := Lib.hid H20
  clear H20 hs1 hL hs3 hT
  go_enter Tryz.func121, Tryz.ntmps121
  go_wp2_with fail
  refine HO.out.mono ?_
  rintro r w1 ⟨rfl, k1, k2⟩
  have HL1 := Lib.hid (HL.out.bar k2 k1)
  clear k1 k2 HO HL
  have d5 := HL1.out.f5
  have f5 := HL1.out.frozen 5
  have d2 := HL1.out.f2
  have d0 := HL1.out.f0
  have HL4 := Lib.hid (HL1.out.put1 5 (.string T) { p with t := T } rfl rfl rfl rfl rfl)
  go_wp2_with fail
  refine (H2.out _ HL4.out.rd).mono ?_
  rintro r w3 ⟨A, c, rfl, k1, k2, k3, k4, k5⟩
  have HL5 := Lib.hid (HL4.out.bar k5 k4)
  have HN := Lib.hid (HL4.out.off k2)
  have HA := Lib.hid k3
  have HC := Lib.hid k1
  clear k1 k2 k3 k4 k5 d0 d5 f5 d2 HL1 HL4 H2
  have e0 := HL5.out.rd.at0
  have d24 := HL5.out.f24
  have f24 := HL5.out.frozen 24
  have HL6 := Lib.hid (HL5.out.props HA.out HN.out HC.out)
  obtain ⟨s, hs⟩ : ∃ s, s3.rest = s := ⟨_, rfl⟩
  rw [hs] at e0
  have hsz : s.size ≤ 268435456 := by
   obtain ⟨s', _, h2, _, _, h3⟩ := HL5.out.rd.rd
   rw [← hs, h3 rfl]; exact h2
  by_cases hb : s.size ≤ 1024
  ·have hbI : ¬ (1024 : Int) < (s.size : Int) := by omega
   go_wp2_with fail
   refine (HCl.out s _ (by omega)).mono ?_
   rintro r w4 ⟨rfl, k1⟩
   have HL7 := Lib.hid (HL6.out.below k1)
   clear k1 e0 d24 f24 HL5 HL6
   have d6 := HL7.out.f6
   have f6 := HL7.out.frozen 6
   have e0 := HL7.out.rd.at0
   have g0 : w4.frozen? ⟨g, 0, none⟩ = false := HL7.out.rd.exact.frozen 0
   have HF := Lib.hid (body_end HL7.out hs hb)
   go_wp2_with fail
   refine bodyPost_end (v := .tuple #[]) (by simp [results, Tryz.results121]) rfl ⟨rfl, { p with t := T, ps := L, b := s }, { a with pa := A, pc := c }, ?_, ?_⟩
   ·rw [HE.out]; exact HF.out.1
   ·rw [HE.out]; exact fun _ => by rw [HF.out.2]
  ·have hbI : (1024 : Int) < (s.size : Int) := by omega
   obtain ⟨hv1, hv2⟩ := body_over (st := s3) (by rw [hs]; exact hb)
   have HV := Lib.hid hv1
   have HV2 := Lib.hid hv2
   clear hv1 hv2
   go_wp2_with fail
   refine (HX.out s3 _ HL6.out.rd).mono ?_
   rintro r w4 ⟨rfl, k1, k2⟩
   have HL7 := Lib.hid (HL6.out.bar k2 k1)
   clear k1 k2 e0 d24 f24 HL5 HL6
   have e0 := HL7.out.rd.at0
   rw [HV2.out] at e0
   go_wp2_with fail
   refine (HCl.out ⟨#[]⟩ _ (Nat.zero_le _)).mono ?_
   rintro r w5 ⟨rfl, k1⟩
   have HL8 := Lib.hid (HL7.out.below k1)
   clear k1 e0 HL7
   have d6 := HL8.out.f6
   have f6 := HL8.out.frozen 6
   have e0 := HL8.out.rd.at0
   have g0 : w5.frozen? ⟨g, 0, none⟩ = false := HL8.out.rd.exact.frozen 0
   have HF := Lib.hid (body_end HL8.out HV2.out (Nat.zero_le _))
   go_wp2_with fail
   refine bodyPost_end (v := .tuple #[]) (by simp [results, Tryz.results121]) rfl ⟨rfl, { p with t := T, ps := L, b := ⟨#[]⟩ }, { a with pa := A, pc := c }, ?_, ?_⟩
   ·rw [HE.out, HV.out]; exact HF.out.1
   ·rw [HE.out, HV.out]; exact fun _ => by rw [HF.out.2]
theorem parts_3 (B g h : Nat) (w0 : World) (st : St) (p : Pk) (a : Ad) (w : World) (hk : p.kind = 3) (hl : Live true B w0 g h st p a w) :
  Calls Tryz.prog 102 #[.pointer (some ⟨g, 0, none⟩), .pointer (some ⟨h, 0, none⟩)] w (Done true B w0 g h (publishS p st)) := by
 have dk := hl.f0
 have HR := Lib.hid (publish_is B g h w0 st p a w hl)
 clear hl
 rw [hk] at dk
 clear hk
 go_enter Tryz.func102, Tryz.ntmps102
 go_wp2_with fail
 refine HR.out.mono ?_
 rintro r w2 ⟨rfl, p', a', k1, k2⟩
 have K1 := Lib.hid k1
 have K2 := Lib.hid k2
 clear k1 k2 dk
 go_wp2_with fail
 exact bodyPost_end (v := .tuple #[]) (by simp [results, Tryz.results102]) rfl ⟨rfl, p', a', K1.out, K2.out⟩
end Go.Proofs.YtdbbcfohjkgdcaaGreat
