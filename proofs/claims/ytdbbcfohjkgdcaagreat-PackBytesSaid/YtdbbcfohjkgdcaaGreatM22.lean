/- Package pack: Bytes and Check. -/
import Derived.Test.YtdbbcfohjkgdcaaGreatM00
import Derived.Test.YtdbbcfohjkgdcaaGreatM21
set_option maxRecDepth 100000
set_option maxHeartbeats 64000000
namespace Go.Proofs.YtdbbcfohjkgdcaaGreat
open Go.RowKit Go.Lib Prp Pkt
theorem mayBe_is (p : Pk) (a : Ad) (b : Bool) (w : World) (hf : PkFit p a) (h : PkAt w w.heap.size p a) (hb : mayP p = b) :
  Calls Tryz.prog 29 #[.agg (pkArr p a)] w fun e w' => e = .returned (.bool b) ∧ Below w.heap.size w w' := by
 by_cases hk : p.kind < 1 ∨ 15 < p.kind
 ·exact mayBe_low p a b w h hk hb
 cases hF : fieldB p with
 | false => exact mayBe_not p a b w h (by omega) (by omega) hF hb
 | true =>
  by_cases h1 : p.kind = 1
  ·exact mayBe_1 p a b w h h1 hF hb
  by_cases h3 : p.kind = 3
  ·exact mayBe_3 p a b w h h3 hF hb
  by_cases h8 : p.kind = 8
  ·exact mayBe_8 p a b w h h8 hf.fl1.1 hF hb
  by_cases h10 : p.kind = 10
  ·exact mayBe_10 p a b w h h10 hf.fl1.1 hF hb
  by_cases h9 : p.kind = 9
  ·exact mayBe_9 p a b w h h9 hF hb
  by_cases h11 : p.kind = 11
  ·exact mayBe_11 p a b w h h11 hF hb
  exact mayBe_else p a b w h (by omega) (by omega) ⟨h1, h3, h8, h10, h9, h11⟩ hF hb
open Go.RowKit Go.Lib Prp Pkt Vbi Txt
theorem partsOf_1 (p : Pk) (a : Ad) (w : World) (hf : PkFit p a) (h : PkAt w w.heap.size p a) (hk : p.kind = 1) (h0 : 0 ≤ p.w.q) (h3 : p.w.q ≤ 3) :
  Calls Tryz.prog 31 #[.agg (pkArr p a)] w (GivesParts (connectL p) w.heap.size w) := by
 have H := Lib.hid h
 have HR := Lib.hid (fun (W : World) (hC : w.heap.size ≤ W.heap.size) (h : PkAt W w.heap.size p a) => connectParts_is p a w.heap.size W hC h0 h3 h hf)
 have e1 : (p.kind == 1) = true := beq_iff_eq.2 (by omega)
 clear h hk h0 h3
 have HK0 := Keep.new w 30 (pkArr p a)
 obtain ⟨W1, hW⟩ : ∃ W1, w.alloc (.cells (pkArr p a) 30) = W1 := ⟨_, rfl⟩
 rw [hW] at HK0
 unfold pkArr at hW ⊢
 have HW := Lib.hid hW
 clear hW
 go_enter Tryz.func31, Tryz.ntmps31
 go_upto_region 1 with fail
 rw [HW.out]
 generalize Value.agg _ = v0
 obtain ⟨g, hg⟩ : ∃ g, w.heap.size = g := ⟨_, rfl⟩
 rw [hg] at HK0 ⊢
 have HK := Lib.hid (KP.new HK0 H.out)
 clear HW HK0 H
 have HG := Lib.hid hg
 clear hg
 have c0 := HK.out.k.f0
 have hld := load_pk HK.out.k
 go_wp2_with (first | (refine wpList_load_one rfl 30 (.tmp 1) rfl g 0 rfl _ hld ?_) | (go_at_call 66; refine (HR.out _ HK.out.b.size HK.out.out.2).mono ?_; rintro e w1 ⟨A, c, rfl, hA, hpa, hb⟩))
 go_ret
 exact ⟨A, c, rfl, hA, hpa, HK.out.b.trans (hb.mono HK.out.b.size)⟩
theorem partsOf_2 (p : Pk) (a : Ad) (w : World) (hf : PkFit p a) (h : PkAt w w.heap.size p a) (hk : p.kind = 2) :
  Calls Tryz.prog 31 #[.agg (pkArr p a)] w (GivesParts ([.octet (bitZ p.pre 1), .octet p.re, .props p.kind p.ps]) w.heap.size w) := by
 have H := Lib.hid h
 have e1 : (p.kind == 1) = false := ne_false (by omega)
 have e2 : (p.kind == 2) = true := beq_iff_eq.2 (by omega)
 clear h hk
 have HK0 := Keep.new w 30 (pkArr p a)
 obtain ⟨W1, hW⟩ : ∃ W1, w.alloc (.cells (pkArr p a) 30) = W1 := ⟨_, rfl⟩
 rw [hW] at HK0
 unfold pkArr at hW ⊢
 have HW := Lib.hid hW
 clear hW
 go_enter Tryz.func31, Tryz.ntmps31
 go_upto_region 1 with fail
 rw [HW.out]
 generalize Value.agg _ = v0
 obtain ⟨g, hg⟩ : ∃ g, w.heap.size = g := ⟨_, rfl⟩
 rw [hg] at HK0 ⊢
 have HK := Lib.hid (KP.new HK0 H.out)
 clear HW HK0 H
 have HG := Lib.hid hg
 clear hg
 have c0 := HK.out.k.f0
 go_upto_region 6 with fail
 have st0 := HK.out
 clear HK c0
 refine wp_region_held_drew (S := KP w g p a) (by kernel_rfl) (st0.drewN 1) (fun hHeld => ?_)
 generalize W1.drew = Wd at hHeld ⊢
 refine take_op 0 11 ?v0x1 rfl rfl (by kernel_rfl) (fun _ _ _ h => h) (by rfl) (by assumption) (fun w' hS' => ?hv0x1) ?h0x1
 case hv0x1 => (go_simp; try with_reducible rfl)
 simp only [Act.put, List.setIfInBounds_toArray, List.set_cons_zero, List.set_cons_succ]
 refine take_op 1 12 ?v1x2 rfl rfl (by kernel_rfl) (fun _ _ _ h => h) (by rfl) (by assumption) (fun w' hS' => ?hv1x2) ?h1x2
 case hv1x2 => (have k := hS'.k.f8; go_simp; try with_reducible rfl)
 simp only [Act.put, List.setIfInBounds_toArray, List.set_cons_zero, List.set_cons_succ]
 refine take_op 4 15 ?v4x3 rfl rfl (by kernel_rfl) (fun _ _ _ h => h) (by rfl) (by assumption) (fun w' hS' => ?hv4x3) ?h4x3
 case hv4x3 => (go_simp; try with_reducible rfl)
 simp only [Act.put, List.setIfInBounds_toArray, List.set_cons_zero, List.set_cons_succ]
 refine take_op 5 16 ?v5x4 rfl rfl (by kernel_rfl) (fun _ _ _ h => h) (by rfl) (by assumption) (fun w' hS' => ?hv5x4) ?h5x4
 case hv5x4 => (have k := hS'.k.f7; go_simp; try with_reducible rfl)
 simp only [Act.put, List.setIfInBounds_toArray, List.set_cons_zero, List.set_cons_succ]
 refine take_op 6 17 ?v6x5 rfl rfl (by kernel_rfl) (fun _ _ _ h => h) (by rfl) (by assumption) (fun w' hS' => ?hv6x5) ?h6x5
 case hv6x5 => (go_simp; try with_reducible rfl)
 simp only [Act.put, List.setIfInBounds_toArray, List.set_cons_zero, List.set_cons_succ]
 refine take_op 7 18 ?v7x6 rfl rfl (by kernel_rfl) (fun _ _ _ h => h) (by rfl) (by assumption) (fun w' hS' => ?hv7x6) ?h7x6
 case hv7x6 => (go_simp; try with_reducible rfl)
 simp only [Act.put, List.setIfInBounds_toArray, List.set_cons_zero, List.set_cons_succ]
 refine take_op 8 19 ?v8x7 rfl rfl (by kernel_rfl) (fun _ _ _ h => h) (by rfl) (by assumption) (fun w' hS' => ?hv8x7) ?h8x7
 case hv8x7 => (have k := hS'.k.f0; go_simp; try with_reducible rfl)
 simp only [Act.put, List.setIfInBounds_toArray, List.set_cons_zero, List.set_cons_succ]
 refine take_op 9 20 ?v9x8 rfl rfl (by kernel_rfl) (fun _ _ _ h => h) (by rfl) (by assumption) (fun w' hS' => ?hv9x8) ?h9x8
 case hv9x8 => (go_simp; try with_reducible rfl)
 simp only [Act.put, List.setIfInBounds_toArray, List.set_cons_zero, List.set_cons_succ]
 refine take_op 10 21 ?v10x9 rfl rfl (by kernel_rfl) (fun _ _ _ h => h) (by rfl) (by assumption) (fun w' hS' => ?hv10x9) ?h10x9
 case hv10x9 => (have k := hS'.k.f24; go_simp; try with_reducible rfl)
 simp only [Act.put, List.setIfInBounds_toArray, List.set_cons_zero, List.set_cons_succ]
 refine take_op 11 22 ?v11x10 rfl rfl (by kernel_rfl) (fun _ _ _ h => h) (by rfl) (by assumption) (fun w' hS' => ?hv11x10) ?h11x10
 case hv11x10 => (go_simp; try with_reducible rfl)
 simp only [Act.put, List.setIfInBounds_toArray, List.set_cons_zero, List.set_cons_succ]
 refine take_op 12 23 ?v12x11 rfl rfl (by kernel_rfl) (fun _ _ _ h => h) (by rfl) (by assumption) (fun w' hS' => ?hv12x11) ?h12x11
 case hv12x11 => (go_simp; try with_reducible rfl)
 simp only [Act.put, List.setIfInBounds_toArray, List.set_cons_zero, List.set_cons_succ]
 obtain ⟨z, hz⟩ : ∃ z, bitZ p.pre 1 = z := ⟨_, rfl⟩
 rw [hz]
 refine only_op 2 rfl (by kernel_rfl) (by rfl) (wp_call 13 67 #[.bool p.pre, .int .i64 1] (.int .i64 z) (KP w g p a) rfl (by go_simp) ((bit_is p.pre 1 z _ hz).mono fun _ _ h => ⟨h.1, by rw [← h.2]; exact hHeld⟩) (fun w1 st1 => ⟨st1, ?_⟩))
 simp only [Act.put, List.setIfInBounds_toArray, List.set_cons_zero, List.set_cons_succ]
 refine take_op 3 14 ?v3x12 rfl rfl (by kernel_rfl) (fun _ _ _ h => h) (by rfl) (by assumption) (fun w' hS' => ?hv3x12) ?h3x12
 case hv3x12 => (go_simp; try with_reducible rfl)
 simp only [Act.put, List.setIfInBounds_toArray, List.set_cons_zero, List.set_cons_succ]
 have st2 := st1.alloc (.cells [.iface 110 (.int .i64 z), .iface 110 (.int .i64 p.re), .iface 113 (.agg #[.int .i64 p.kind, .slice a.pa p.ps.length a.pc])].toArray 20)
 have hown := lit_ownp w1 (w.heap.size + 1) w.heap.size [.iface 110 (.int .i64 z), .iface 110 (.int .i64 p.re), .iface 113 (.agg #[.int .i64 p.kind, .slice a.pa p.ps.length a.pc])] [.octet z, .octet p.re, .props p.kind p.ps] 3 (st1.room HG.out) st1.b.size rfl rfl (by decide) (fun j x y => by
  match j, x, y with
  | 0, _, _ => rfl
  | 1, _, _ => rfl
  | 2, _, _ => exact ⟨a.pa, a.pc, rfl, st1.out.2.ps, hf.pl1.1, hf.pl1.2, hf.ps⟩)
 refine only_op 13 rfl (by kernel_rfl) (by rfl) (wp_made 24 (.slice (some ⟨w1.heap.size, 0, none⟩) 3 3) rfl (by go_simp) ⟨st2, ?_⟩)
 simp only [Act.put, List.setIfInBounds_toArray, List.set_cons_zero, List.set_cons_succ]
 refine take_op 14 2 ?v14x13 rfl rfl (by kernel_rfl) (fun _ _ _ h => h) (by rfl) (by assumption) (fun w' hS' => ?hv14x13) ?h14x13
 case hv14x13 => (go_simp; try with_reducible rfl)
 simp only [Act.put, List.setIfInBounds_toArray, List.set_cons_zero, List.set_cons_succ]
 refine wpAnyH_done (by kernel_rfl) ?_ _
 have HO := Lib.hid (hown.gives st2.b)
 have HZ := Lib.hid hz
 clear hown st2 hHeld st1 st0 hz
 go_wp2_with fail
 go_ret
 rw [HZ.out]
 exact HO.out
theorem partsOf_3z (p : Pk) (a : Ad) (w : World) (hf : PkFit p a) (h : PkAt w w.heap.size p a) (hk : p.kind = 3) (hq : p.q = 0) :
  Calls Tryz.prog 31 #[.agg (pkArr p a)] w (GivesParts ([.words p.t, .props p.kind p.ps, .raw p.b]) w.heap.size w) := by
 have H := Lib.hid h
 have e1 : (p.kind == 1) = false := ne_false (by omega)
 have e2 : (p.kind == 2) = false := ne_false (by omega)
 have e3 : (p.kind == 3) = true := beq_iff_eq.2 (by omega)
 have eq0 : (p.q == 0) = true := beq_iff_eq.2 hq
 clear h hk hq
 have HK0 := Keep.new w 30 (pkArr p a)
 obtain ⟨W1, hW⟩ : ∃ W1, w.alloc (.cells (pkArr p a) 30) = W1 := ⟨_, rfl⟩
 rw [hW] at HK0
 unfold pkArr at hW ⊢
 have HW := Lib.hid hW
 clear hW
 go_enter Tryz.func31, Tryz.ntmps31
 go_upto_region 1 with fail
 rw [HW.out]
 generalize Value.agg _ = v0
 obtain ⟨g, hg⟩ : ∃ g, w.heap.size = g := ⟨_, rfl⟩
 rw [hg] at HK0 ⊢
 have HK := Lib.hid (KP.new HK0 H.out)
 clear HW HK0 H
 have HG := Lib.hid hg
 clear hg
 have c0 := HK.out.k.f0
 have c2 := HK.out.k.f2
 have c4 := HK.out.k.f4
 have c5 := HK.out.k.f5
 have c6 := HK.out.k.f6
 have c24 := HK.out.k.f24
 have hown := lit_ownp W1 (w.heap.size + 1) w.heap.size [.iface 114 (.string p.t), .iface 113 (.agg #[.int .i64 p.kind, .slice a.pa p.ps.length a.pc]), .iface 9 (.string p.b)] [.words p.t, .props p.kind p.ps, .raw p.b] 3 (HK.out.room HG.out) HK.out.b.size rfl rfl (by decide) (fun j x y => by
  match j, x, y with
  | 0, _, _ => exact ⟨rfl, hf.t⟩
  | 1, _, _ => exact ⟨a.pa, a.pc, rfl, HK.out.out.2.ps, hf.pl1.1, hf.pl1.2, hf.ps⟩
  | 2, _, _ => exact ⟨rfl, hf.b⟩)
 have HO := Lib.hid (hown.gives (HK.out.alloc _).b)
 clear hown
 go_wp2_with fail
 go_ret
 exact HO.out
theorem partsOf_3q (p : Pk) (a : Ad) (w : World) (hf : PkFit p a) (h : PkAt w w.heap.size p a) (hk : p.kind = 3) (hq : ¬ p.q = 0) :
  Calls Tryz.prog 31 #[.agg (pkArr p a)] w (GivesParts ([.words p.t, .number p.id, .props p.kind p.ps, .raw p.b]) w.heap.size w) := by
 have H := Lib.hid h
 have e1 : (p.kind == 1) = false := ne_false (by omega)
 have e2 : (p.kind == 2) = false := ne_false (by omega)
 have e3 : (p.kind == 3) = true := beq_iff_eq.2 (by omega)
 have eq0 : (p.q == 0) = false := ne_false hq
 clear h hk hq
 have HK0 := Keep.new w 30 (pkArr p a)
 obtain ⟨W1, hW⟩ : ∃ W1, w.alloc (.cells (pkArr p a) 30) = W1 := ⟨_, rfl⟩
 rw [hW] at HK0
 unfold pkArr at hW ⊢
 have HW := Lib.hid hW
 clear hW
 go_enter Tryz.func31, Tryz.ntmps31
 go_upto_region 1 with fail
 rw [HW.out]
 generalize Value.agg _ = v0
 obtain ⟨g, hg⟩ : ∃ g, w.heap.size = g := ⟨_, rfl⟩
 rw [hg] at HK0 ⊢
 have HK := Lib.hid (KP.new HK0 H.out)
 clear HW HK0 H
 have HG := Lib.hid hg
 clear hg
 have c0 := HK.out.k.f0
 have c2 := HK.out.k.f2
 have c4 := HK.out.k.f4
 have c5 := HK.out.k.f5
 have c6 := HK.out.k.f6
 have c24 := HK.out.k.f24
 have hown := lit_ownp W1 (w.heap.size + 1) w.heap.size [.iface 114 (.string p.t), .iface 115 (.int .i64 p.id), .iface 113 (.agg #[.int .i64 p.kind, .slice a.pa p.ps.length a.pc]), .iface 9 (.string p.b)] [.words p.t, .number p.id, .props p.kind p.ps, .raw p.b] 4 (HK.out.room HG.out) HK.out.b.size rfl rfl (by decide) (fun j x y => by
  match j, x, y with
  | 0, _, _ => exact ⟨rfl, hf.t⟩
  | 1, _, _ => exact ⟨rfl, hf.id.2⟩
  | 2, _, _ => exact ⟨a.pa, a.pc, rfl, HK.out.out.2.ps, hf.pl1.1, hf.pl1.2, hf.ps⟩
  | 3, _, _ => exact ⟨rfl, hf.b⟩)
 have HO := Lib.hid (hown.gives (HK.out.alloc _).b)
 clear hown
 go_wp2_with fail
 go_ret
 exact HO.out
theorem partsOf_14 (p : Pk) (a : Ad) (w : World) (hf : PkFit p a) (h : PkAt w w.heap.size p a) (hk : p.kind = 14) :
  Calls Tryz.prog 31 #[.agg (pkArr p a)] w (GivesParts (reasonL p) w.heap.size w) := by
 have H := Lib.hid h
 have HR := Lib.hid (fun (W : World) (hC : w.heap.size ≤ W.heap.size) (h : PkAt W w.heap.size p a) => reasonParts_is p a w.heap.size W hC hf h)
 have e1 : (p.kind == 1) = false := ne_false (by omega)
 have e2 : (p.kind == 2) = false := ne_false (by omega)
 have e3 : (p.kind == 3) = false := ne_false (by omega)
 have e4 : (p.kind == 4) = false := ne_false (by omega)
 have e5 : (p.kind == 5) = false := ne_false (by omega)
 have e6 : (p.kind == 6) = false := ne_false (by omega)
 have e7 : (p.kind == 7) = false := ne_false (by omega)
 have e8 : (p.kind == 8) = false := ne_false (by omega)
 have e10 : (p.kind == 10) = false := ne_false (by omega)
 have e9 : (p.kind == 9) = false := ne_false (by omega)
 have e11 : (p.kind == 11) = false := ne_false (by omega)
 have e14 : (p.kind == 14) = true := beq_iff_eq.2 (by omega)
 clear h hk hf
 have HK0 := Keep.new w 30 (pkArr p a)
 obtain ⟨W1, hW⟩ : ∃ W1, w.alloc (.cells (pkArr p a) 30) = W1 := ⟨_, rfl⟩
 rw [hW] at HK0
 unfold pkArr at hW ⊢
 have HW := Lib.hid hW
 clear hW
 go_enter Tryz.func31, Tryz.ntmps31
 go_upto_region 1 with fail
 rw [HW.out]
 generalize Value.agg _ = v0
 obtain ⟨g, hg⟩ : ∃ g, w.heap.size = g := ⟨_, rfl⟩
 rw [hg] at HK0 ⊢
 have HK := Lib.hid (KP.new HK0 H.out)
 clear HW HK0 H
 have HG := Lib.hid hg
 clear hg
 have c0 := HK.out.k.f0
 have hld := load_pk HK.out.k
 go_wp2_with (first | (refine wpList_load_one rfl 30 (.tmp 1) rfl g 0 rfl _ hld ?_) | (go_at_call 68; refine (HR.out _ HK.out.b.size HK.out.out.2).mono ?_; rintro e w1 ⟨A, c, rfl, hA, hpa, hb⟩))
 go_ret
 exact ⟨A, c, rfl, hA, hpa, HK.out.b.trans (hb.mono HK.out.b.size)⟩
theorem partsOf_15 (p : Pk) (a : Ad) (w : World) (hf : PkFit p a) (h : PkAt w w.heap.size p a) (hk : p.kind = 15) :
  Calls Tryz.prog 31 #[.agg (pkArr p a)] w (GivesParts (reasonL p) w.heap.size w) := by
 have H := Lib.hid h
 have HR := Lib.hid (fun (W : World) (hC : w.heap.size ≤ W.heap.size) (h : PkAt W w.heap.size p a) => reasonParts_is p a w.heap.size W hC hf h)
 have e1 : (p.kind == 1) = false := ne_false (by omega)
 have e2 : (p.kind == 2) = false := ne_false (by omega)
 have e3 : (p.kind == 3) = false := ne_false (by omega)
 have e4 : (p.kind == 4) = false := ne_false (by omega)
 have e5 : (p.kind == 5) = false := ne_false (by omega)
 have e6 : (p.kind == 6) = false := ne_false (by omega)
 have e7 : (p.kind == 7) = false := ne_false (by omega)
 have e8 : (p.kind == 8) = false := ne_false (by omega)
 have e10 : (p.kind == 10) = false := ne_false (by omega)
 have e9 : (p.kind == 9) = false := ne_false (by omega)
 have e11 : (p.kind == 11) = false := ne_false (by omega)
 have e14 : (p.kind == 14) = false := ne_false (by omega)
 have e15 : (p.kind == 15) = true := beq_iff_eq.2 (by omega)
 clear h hk hf
 have HK0 := Keep.new w 30 (pkArr p a)
 obtain ⟨W1, hW⟩ : ∃ W1, w.alloc (.cells (pkArr p a) 30) = W1 := ⟨_, rfl⟩
 rw [hW] at HK0
 unfold pkArr at hW ⊢
 have HW := Lib.hid hW
 clear hW
 go_enter Tryz.func31, Tryz.ntmps31
 go_upto_region 1 with fail
 rw [HW.out]
 generalize Value.agg _ = v0
 obtain ⟨g, hg⟩ : ∃ g, w.heap.size = g := ⟨_, rfl⟩
 rw [hg] at HK0 ⊢
 have HK := Lib.hid (KP.new HK0 H.out)
 clear HW HK0 H
 have HG := Lib.hid hg
 clear hg
 have c0 := HK.out.k.f0
 have hld := load_pk HK.out.k
 go_wp2_with (first | (refine wpList_load_one rfl 30 (.tmp 1) rfl g 0 rfl _ hld ?_) | (go_at_call 68; refine (HR.out _ HK.out.b.size HK.out.out.2).mono ?_; rintro e w1 ⟨A, c, rfl, hA, hpa, hb⟩))
 go_ret
 exact ⟨A, c, rfl, hA, hpa, HK.out.b.trans (hb.mono HK.out.b.size)⟩
theorem partsOf_12 (p : Pk) (a : Ad) (w : World) (h : PkAt w w.heap.size p a) (hk : p.kind = 12 ∨ p.kind = 13) :
  Calls Tryz.prog 31 #[.agg (pkArr p a)] w (GivesParts (([] : List Part)) w.heap.size w) := by
 have H := Lib.hid h
 have e1 : (p.kind == 1) = false := ne_false (by omega)
 have e2 : (p.kind == 2) = false := ne_false (by omega)
 have e3 : (p.kind == 3) = false := ne_false (by omega)
 have e4 : (p.kind == 4) = false := ne_false (by omega)
 have e5 : (p.kind == 5) = false := ne_false (by omega)
 have e6 : (p.kind == 6) = false := ne_false (by omega)
 have e7 : (p.kind == 7) = false := ne_false (by omega)
 have e8 : (p.kind == 8) = false := ne_false (by omega)
 have e10 : (p.kind == 10) = false := ne_false (by omega)
 have e9 : (p.kind == 9) = false := ne_false (by omega)
 have e11 : (p.kind == 11) = false := ne_false (by omega)
 have e14 : (p.kind == 14) = false := ne_false (by omega)
 have e15 : (p.kind == 15) = false := ne_false (by omega)
 clear h hk
 have HK0 := Keep.new w 30 (pkArr p a)
 obtain ⟨W1, hW⟩ : ∃ W1, w.alloc (.cells (pkArr p a) 30) = W1 := ⟨_, rfl⟩
 rw [hW] at HK0
 unfold pkArr at hW ⊢
 have HW := Lib.hid hW
 clear hW
 go_enter Tryz.func31, Tryz.ntmps31
 go_upto_region 1 with fail
 rw [HW.out]
 generalize Value.agg _ = v0
 obtain ⟨g, hg⟩ : ∃ g, w.heap.size = g := ⟨_, rfl⟩
 rw [hg] at HK0 ⊢
 have HK := Lib.hid (KP.new HK0 H.out)
 clear HW HK0 H
 have HG := Lib.hid hg
 clear hg
 have c0 := HK.out.k.f0
 go_wp2_with fail
 go_ret
 exact ⟨none, 0, rfl, fun _ => rfl, ⟨[], rfl, .inl rfl, fun j h => by simp at h⟩, HK.out.b⟩
theorem may_parts {p : Pk} (h : mayP p = true) : (1 ≤ p.kind ∧ p.kind ≤ 15) ∧ (p.kind = 1 → logInB p = true) ∧ (p.kind = 8 ∨ p.kind = 10 → askB p = true) ∧ (p.kind = 9 ∨ p.kind = 11 → countB p.cs.length = true) ∧ (p.kind = 3 → sendB p.dup p.q = true ∧ p.b.size ≤ 1024) := by
 have hk : 1 ≤ p.kind ∧ p.kind ≤ 15 := by
  by_cases hk : 1 ≤ p.kind ∧ p.kind ≤ 15
  ·exact hk
  ·rw [may_out (by omega)] at h; cases h
 have hF : fieldB p = true := by
  cases hF : fieldB p with
  | true => rfl
  | false => rw [may_field hF] at h; cases h
 refine ⟨hk, fun k => by rw [← may_1 k hF]; exact h, fun k => by rw [← may_8 k hF]; exact h, fun k => by rw [← may_9 k hF]; exact h, fun k => ?_⟩
 rw [may_3 k hF] at h
 simp only [Bool.and_eq_true, decide_eq_true_eq] at h
 exact ⟨h.1, by omega⟩
theorem ask_fits {p : Pk} (h : askB p = true) : p.fs.length ≤ 4 ∧ ∀ f ∈ p.fs, (0 ≤ f.q ∧ f.q ≤ 2) ∧ (0 ≤ f.h ∧ f.h ≤ 2) := by
 unfold askB countB at h
 simp only [Bool.and_eq_true, decide_eq_true_eq, List.all_eq_true] at h
 refine ⟨h.2.2, fun f hf => ?_⟩
 have h1 := (h.1 f hf).1
 unfold mayFilB qosB at h1
 simp only [Bool.and_eq_true, decide_eq_true_eq] at h1
 exact h1
theorem login_q {p : Pk} (h : logInB p = true) : 0 ≤ p.w.q ∧ p.w.q ≤ 2 := by
 unfold logInB at h
 simp only [Bool.and_eq_true] at h
 have h3 := h.2.2
 split at h3
 ·simp only [Bool.and_eq_true] at h3
  have := h3.1
  unfold qosB at this
  exact of_decide_eq_true this
 ·unfold wFilled at h3
  simp only [Bool.not_eq_true', Bool.or_eq_false_iff, decide_eq_false_iff_not, ne_eq, Decidable.not_not] at h3
  have := h3.2.1
  omega
theorem partsOf_is (p : Pk) (a : Ad) (w : World) (hm : mayP p = true) (hf : PkFit p a) (h : PkAt w w.heap.size p a) :
  Calls Tryz.prog 31 #[.agg (pkArr p a)] w (GivesParts (partsL p) w.heap.size w) := by
 obtain ⟨⟨hk1, hk15⟩, p1, p8, p9, _⟩ := may_parts hm
 unfold partsL
 rcases kinds_all hk1 hk15 with k | k | k | k | k | k | k | k | k | k | k | k | k | k | k
 ·have := login_q (p1 k)
  rw [if_pos k]
  exact partsOf_1 p a w hf h k this.1 (by omega)
 ·rw [if_neg (by omega), if_pos k]
  exact partsOf_2 p a w hf h k
 ·rw [if_neg (by omega), if_neg (by omega), if_pos k]
  by_cases hq : p.q = 0
  ·rw [if_pos hq]; exact partsOf_3z p a w hf h k hq
  ·rw [if_neg hq]; exact partsOf_3q p a w hf h k hq
 ·rw [if_neg (by omega), if_neg (by omega), if_neg (by omega), if_pos (by omega)]
  exact partsOf_4 p a w hf h k
 ·rw [if_neg (by omega), if_neg (by omega), if_neg (by omega), if_pos (by omega)]
  exact partsOf_5 p a w hf h k
 ·rw [if_neg (by omega), if_neg (by omega), if_neg (by omega), if_pos (by omega)]
  exact partsOf_6 p a w hf h k
 ·rw [if_neg (by omega), if_neg (by omega), if_neg (by omega), if_pos (by omega)]
  exact partsOf_7 p a w hf h k
 ·have ha := ask_fits (p8 (.inl k))
  rw [if_neg (by omega), if_neg (by omega), if_neg (by omega), if_neg (by omega), if_pos (by omega)]
  exact partsOf_8 p a w hf h k (by omega) (fun f hx => ⟨(ha.2 f hx).1, (ha.2 f hx).2, (hf.fs f hx).ht⟩)
 ·have ha : p.cs.length ≤ 4 := by have := p9 (.inl k); unfold countB at this; have := of_decide_eq_true this; omega
  rw [if_neg (by omega), if_neg (by omega), if_neg (by omega), if_neg (by omega), if_neg (by omega), if_pos (by omega)]
  exact partsOf_9 p a w hf h k (by omega)
 ·have ha := ask_fits (p8 (.inr k))
  rw [if_neg (by omega), if_neg (by omega), if_neg (by omega), if_neg (by omega), if_pos (by omega)]
  exact partsOf_10 p a w hf h k (by omega) (fun f hx => ⟨(ha.2 f hx).1, (ha.2 f hx).2, (hf.fs f hx).ht⟩)
 ·have ha : p.cs.length ≤ 4 := by have := p9 (.inr k); unfold countB at this; have := of_decide_eq_true this; omega
  rw [if_neg (by omega), if_neg (by omega), if_neg (by omega), if_neg (by omega), if_neg (by omega), if_pos (by omega)]
  exact partsOf_11 p a w hf h k (by omega)
 ·rw [if_neg (by omega), if_neg (by omega), if_neg (by omega), if_neg (by omega), if_neg (by omega), if_neg (by omega), if_neg (by omega)]
  exact partsOf_12 p a w h (.inl k)
 ·rw [if_neg (by omega), if_neg (by omega), if_neg (by omega), if_neg (by omega), if_neg (by omega), if_neg (by omega), if_neg (by omega)]
  exact partsOf_12 p a w h (.inr k)
 ·rw [if_neg (by omega), if_neg (by omega), if_neg (by omega), if_neg (by omega), if_neg (by omega), if_neg (by omega), if_pos (by omega)]
  exact partsOf_14 p a w hf h k
 ·rw [if_neg (by omega), if_neg (by omega), if_neg (by omega), if_neg (by omega), if_neg (by omega), if_neg (by omega), if_pos (by omega)]
  exact partsOf_15 p a w hf h k
open Go.RowKit Go.Lib Prp Pkt Vbi Txt
theorem may_q {p : Pk} (h : mayP p = true) : 0 ≤ p.q ∧ p.q ≤ 2 := by
 obtain ⟨⟨hk1, hk15⟩, _, _, _, p3⟩ := may_parts h
 by_cases k : p.kind = 3
 ·have h1 := (p3 k).1
  unfold sendB qosB at h1
  simp only [Bool.and_eq_true, decide_eq_true_eq] at h1
  exact h1.1
 ·have hF : fieldB p = true := by
   cases hF : fieldB p with
   | true => rfl
   | false => rw [may_field hF] at h; cases h
  unfold fieldB fieldOf at hF
  simp only [Bool.and_eq_true, Bool.or_eq_true, Bool.not_eq_true', decide_eq_true_eq] at hF
  have hb3 : b3 p = false := by
   rcases hF.2.2.1 with h | h
   ·exact h
   ·exact absurd h k
  unfold b3 at hb3
  simp only [Bool.or_eq_false_iff, decide_eq_false_iff_not, ne_eq, Decidable.not_not] at hb3
  have := hb3.2.1
  omega
theorem flags_in {p : Pk} (h : mayP p = true) : 0 ≤ flagsZ p ∧ flagsZ p ≤ 13 := by
 have hq := may_q h
 have r1 := bit_range p.dup (n := 8) (by omega)
 have r2 := bit_range p.ret (n := 1) (by omega)
 unfold flagsZ
 split <;> omega
theorem parts_few {p : Pk} (h : mayP p = true) : (partsL p).length ≤ 64 ∧ ∀ x ∈ partsL p, Short x := by
 obtain ⟨⟨hk1, hk15⟩, p1, p8, p9, p3⟩ := may_parts h
 have hr : (reasonL p).length ≤ 2 ∧ ∀ x ∈ reasonL p, Short x := by
  unfold reasonL
  refine ⟨by (repeat' split) <;> simp, fun x hx => ?_⟩
  intro s hs
  subst hs
  repeat' split at hx
  all_goals simp at hx
 unfold partsL
 rcases kinds_all hk1 hk15 with k | k | k | k | k | k | k | k | k | k | k | k | k | k | k
 ·rw [if_pos k]
  unfold connectL willL userL passL
  refine ⟨by cases p.w.has <;> cases p.hu <;> cases p.hp <;> simp, fun x hx s hs => ?_⟩
  subst hs
  cases h1 : p.w.has <;> cases h2 : p.hu <;> cases h3 : p.hp <;> simp [h1, h2, h3] at hx
 ·rw [if_neg (by omega), if_pos k]
  refine ⟨by simp, fun x hx s hs => ?_⟩
  subst hs
  simp at hx
 ·rw [if_neg (by omega), if_neg (by omega), if_pos k]
  have hb := (p3 k).2
  split
  all_goals
   refine ⟨by simp, fun x hx s hs => ?_⟩
   subst hs
   simp at hx
   rw [hx]; exact hb
 all_goals
  first
  | (
    rw [if_neg (by omega), if_neg (by omega), if_neg (by omega), if_pos (by omega)]
    refine ⟨by rw [List.length_append]; have := hr.1; simp; omega, fun x hx => ?_⟩
    rcases List.mem_append.1 hx with hx | hx
    ·intro s hs; subst hs; simp at hx
    ·exact hr.2 x hx)
  | (
    have ha := ask_fits (p8 (by omega))
    rw [if_neg (by omega), if_neg (by omega), if_neg (by omega), if_neg (by omega), if_pos (by omega)]
    refine ⟨by have := filterL_len (decide (p.kind = 8)) p.fs; rw [List.length_append]; simp; omega, fun x hx => ?_⟩
    rcases List.mem_append.1 hx with hx | hx
    ·intro s hs; subst hs; simp at hx
    ·intro s hs; subst hs
     unfold filterL at hx
     obtain ⟨f, _, hf⟩ := List.mem_flatMap.1 hx
     split at hf <;> simp at hf)
  | (
    have ha : p.cs.length ≤ 4 := by have := p9 (by omega); unfold countB at this; have := of_decide_eq_true this; omega
    rw [if_neg (by omega), if_neg (by omega), if_neg (by omega), if_neg (by omega), if_neg (by omega), if_pos (by omega)]
    refine ⟨by rw [List.length_append, codeL_len]; simp; omega, fun x hx => ?_⟩
    rcases List.mem_append.1 hx with hx | hx
    ·intro s hs; subst hs; simp at hx
    ·intro s hs; subst hs
     unfold codeL at hx
     obtain ⟨f, _, hf⟩ := List.mem_map.1 hx
     cases hf)
  | (
    rw [if_neg (by omega), if_neg (by omega), if_neg (by omega), if_neg (by omega), if_neg (by omega), if_neg (by omega), if_pos (by omega)]
    exact ⟨by have := hr.1; omega, hr.2⟩)
  | (
    rw [if_neg (by omega), if_neg (by omega), if_neg (by omega), if_neg (by omega), if_neg (by omega), if_neg (by omega), if_neg (by omega)]
    exact ⟨by simp, fun x hx => by simp at hx⟩)
theorem allStr_size {l : List Part} (h : allOk l = true) (hs : ∀ x ∈ l, Short x) : (allStr l).size ≤ 16428 * l.length := by
 induction l with
 | nil => exact Nat.le_refl _
 | cons x t ih =>
  rw [allOk_cons, Bool.and_eq_true] at h
  rw [allStr_cons, ByteArray.size_append, List.length_cons]
  have h1 := part_size h.1 (hs x (by simp))
  have h2 := ih h.2 (fun y hy => hs y (by simp [hy]))
  omega
open Go.RowKit Go.Lib Prp Pkt Vbi Txt
theorem num_of (n : Nat) (h : n < 268435456) (S : ByteArray) (w : World) (hS : strOfNums (numZ n) = S) :
  Calls Tryz.prog 32 #[.int .i64 (n : Int)] w fun e w' => e = .returned (.tuple #[.string S, .int .i64 0]) ∧ Below w.heap.size w w' := by
 have hc : numErr (n : Int) = 0 ∧ numStr (n : Int) = S := by
  rcases numErr_cases (n : Int) with ⟨_, _, e1, e2⟩ | ⟨h0, _⟩
  ·exact ⟨e1, by rw [e2, Int.toNat_natCast]; exact hS⟩
  ·omega
 exact Num_is (n : Int) S 0 w hc.2 hc.1
theorem PBytes_no (p : Pk) (a : Ad) (w : World) (hf : PkFit p a) (h : PkAt w w.heap.size p a) (hm : mayP p = false) :
  Calls Tryz.prog 8 #[.agg (pkArr p a)] w fun e w' => e = .returned (.tuple #[.string ⟨#[]⟩, .int .i64 1]) ∧ Below w.heap.size w w' := by
 have H := Lib.hid h
 have HM := Lib.hid (fun (W : World) (h : PkAt W W.heap.size p a) => mayBe_is p a false W hf h hm)
 clear h hf hm
 have HK0 := Keep.new w 30 (pkArr p a)
 obtain ⟨W1, hW⟩ : ∃ W1, w.alloc (.cells (pkArr p a) 30) = W1 := ⟨_, rfl⟩
 rw [hW] at HK0
 unfold pkArr at hW ⊢
 have HW := Lib.hid hW
 clear hW
 go_enter Tryz.func8, Tryz.ntmps8
 go_upto_region 1 with fail
 rw [HW.out]
 generalize Value.agg _ = v0
 obtain ⟨g, hg⟩ : ∃ g, w.heap.size = g := ⟨_, rfl⟩
 rw [hg] at HK0 ⊢
 have HK := Lib.hid (KP.new HK0 H.out)
 clear HW HK0 H
 have HG := Lib.hid hg
 clear hg
 have hld := load_pk HK.out.k
 go_wp2_with (first | (refine wpList_load_one rfl 30 (.tmp 1) rfl g 0 rfl _ hld ?_) | (go_at_call 29; refine (HM.out _ HK.out.at).mono ?_; rintro e w1 ⟨rfl, hb⟩))
 go_ret2
 exact ⟨rfl, HK.out.b.trans (hb.mono HK.out.b.size)⟩
theorem PBytes_bad (p : Pk) (a : Ad) (w : World) (hf : PkFit p a) (h : PkAt w w.heap.size p a) (hm : mayP p = true) (ho : allOk (partsL p) = false) :
  Calls Tryz.prog 8 #[.agg (pkArr p a)] w fun e w' => e = .returned (.tuple #[.string ⟨#[]⟩, .int .i64 1]) ∧ Below w.heap.size w w' := by
 have H := Lib.hid h
 have HM := Lib.hid (fun (W : World) (h : PkAt W W.heap.size p a) => mayBe_is p a true W hf h hm)
 have HP := Lib.hid (fun (W : World) (h : PkAt W W.heap.size p a) => partsOf_is p a W hm hf h)
 obtain ⟨L, hL⟩ : ∃ L, partsL p = L := ⟨_, rfl⟩
 have hfw := parts_few hm
 rw [hL] at HP hfw ho
 have HU := Lib.hid (fun (A : Option Addr) (c : Nat) (W : World) (h : PartsAt W W.heap.size W.heap.size A L) => putAll_is L A c W hfw.1 hfw.2 h)
 have HO := Lib.hid ho
 clear h hf hm hL hfw ho
 have HK0 := Keep.new w 30 (pkArr p a)
 obtain ⟨W1, hW⟩ : ∃ W1, w.alloc (.cells (pkArr p a) 30) = W1 := ⟨_, rfl⟩
 rw [hW] at HK0
 unfold pkArr at hW ⊢
 have HW := Lib.hid hW
 clear hW
 go_enter Tryz.func8, Tryz.ntmps8
 go_upto_region 1 with fail
 rw [HW.out]
 generalize Value.agg _ = v0
 obtain ⟨g, hg⟩ : ∃ g, w.heap.size = g := ⟨_, rfl⟩
 rw [hg] at HK0 ⊢
 have HK := Lib.hid (KP.new HK0 H.out)
 clear HW HK0 H
 have HG := Lib.hid hg
 clear hg
 have hld := load_pk HK.out.k
 go_wp2_with (first
  | (refine wpList_load_one rfl 30 (.tmp 1) rfl g 0 rfl _ hld ?_)
  | (go_at_call 29; refine (HM.out _ HK.out.at).mono ?_; rintro e w1 ⟨rfl, hb⟩; have HK1 := Lib.hid (HK.out.below hb); clear hb hld HK; have hld := load_pk HK1.out.k)
  | (go_at_call 31; refine (HP.out _ HK1.out.at).mono ?_; rintro e w2 ⟨A, c, rfl, hA, hpa, hb⟩; have HPA := Lib.hid (hpa.weak hb.size (Nat.le_refl _)); have HK2 := Lib.hid (HK1.out.below hb); clear hb hld HK1 hpa)
  | (go_at_call 30; refine (HU.out _ _ _ HPA.out).mono ?_; rintro e w3 ⟨S, E, rfl, _, hE, hb⟩; have hEb := ne_true (hE HO.out); have HK3 := Lib.hid (HK2.out.below hb); clear hb hE HK2 HPA))
 go_ret2
 exact ⟨rfl, HK3.out.b⟩
theorem PBytes_good (p : Pk) (a : Ad) (S : ByteArray) (E : Int) (w : World) (hf : PkFit p a) (h : PkAt w w.heap.size p a) (hm : mayP p = true) (ho : allOk (partsL p) = true) (hS : packStr p = S) (hE : packErr p = E) :
  Calls Tryz.prog 8 #[.agg (pkArr p a)] w fun e w' => e = .returned (.tuple #[.string S, .int .i64 E]) ∧ Below w.heap.size w w' := by
 have H := Lib.hid h
 have HM := Lib.hid (fun (W : World) (h : PkAt W W.heap.size p a) => mayBe_is p a true W hf h hm)
 have HP := Lib.hid (fun (W : World) (h : PkAt W W.heap.size p a) => partsOf_is p a W hm hf h)
 have hfw := parts_few hm
 have hrz := allStr_size ho hfw.2
 have hk := (may_parts hm).1
 have hfl := flags_in hm
 have hq := may_q hm
 obtain ⟨R, hR⟩ : ∃ R, allStr (partsL p) = R := ⟨_, rfl⟩
 rw [hR] at hrz
 have hRz : R.size ≤ 1051392 := by have := hfw.1; omega
 obtain ⟨N, hN⟩ : ∃ N, strOfNums (numZ R.size) = N := ⟨_, rfl⟩
 have hNz : N.size ≤ 4 := by rw [← hN, strOfNums_size, numZ_len (by omega)]; exact (numLen_le _).2
 have HN := Lib.hid (fun W => num_of R.size (by omega) N W hN)
 obtain ⟨z, hz⟩ : ∃ z, flagsZ p = z := ⟨_, rfl⟩
 have HF := Lib.hid (fun W => flagsOf_is p a z W hq.1 (by omega) hz)
 rw [hz] at hfl
 obtain ⟨b, hb⟩ : ∃ b, p.kind * 16 + z = b := ⟨_, rfl⟩
 obtain ⟨O, hO⟩ : ∃ O, strOfNums [b] = O := ⟨_, rfl⟩
 have hOz : O.size = 1 := by rw [← hO, strOfNums_size]; rfl
 have hstr : strP p = (O ++ N) ++ R := by
  unfold strP restP
  rw [hR, hN, hz, ← hO, ← hb, Int.mul_comm]
 have hpk : packB p = decide (((O ++ N) ++ R).size ≤ 8192) := by unfold packB; rw [hm, ho, hstr]; rfl
 have z1 : IntKind.i64.wrap (p.kind * 16) = p.kind * 16 := IntWalk.i64_in _ (by omega)
 have z2 : IntKind.i64.wrap (p.kind * 16 + z) = b := by rw [← hb]; exact IntWalk.i64_in _ (by omega)
 have z3 : IntKind.u8.wrap b = b := by rw [← hb]; unfold IntKind.wrap; simp [IntKind.bits, IntKind.signed]; omega
 have hsz : ((O ++ N) ++ R).size = 1 + N.size + R.size := by rw [ByteArray.size_append, ByteArray.size_append, hOz]
 obtain ⟨L, hL⟩ : ∃ L, partsL p = L := ⟨_, rfl⟩
 rw [hL] at HP hfw ho hR
 have HU := Lib.hid (fun (A : Option Addr) (c : Nat) (W : World) (h : PartsAt W W.heap.size W.heap.size A L) => putAll_is L A c W hfw.1 hfw.2 h)
 have HO := Lib.hid ho
 have HR := Lib.hid hR
 have HOO := Lib.hid hO
 have HS := Lib.hid hS
 have HE := Lib.hid hE
 have HPK := Lib.hid hpk
 have HST := Lib.hid hstr
 have HSZ := Lib.hid hsz
 have hcv := conv_byte b
 have hOz1 : O.size ≤ 1 := by omega
 clear h hf hm hL hfw ho hS hE hR hN hz hb hO hstr hpk hq hrz hsz hOz
 have HK0 := Keep.new w 30 (pkArr p a)
 obtain ⟨W1, hW⟩ : ∃ W1, w.alloc (.cells (pkArr p a) 30) = W1 := ⟨_, rfl⟩
 rw [hW] at HK0
 unfold pkArr at hW ⊢
 have HW := Lib.hid hW
 clear hW
 go_enter Tryz.func8, Tryz.ntmps8
 go_upto_region 1 with fail
 rw [HW.out]
 generalize Value.agg _ = v0
 obtain ⟨g, hg⟩ : ∃ g, w.heap.size = g := ⟨_, rfl⟩
 rw [hg] at HK0 ⊢
 have HK := Lib.hid (KP.new HK0 H.out)
 clear HW HK0 H
 have HG := Lib.hid hg
 clear hg
 have hld := load_pk HK.out.k
 go_upto_region 7 with (first
  | (refine wpList_load_one rfl 30 (.tmp 1) rfl g 0 rfl _ hld ?_)
  | (go_at_call 29; refine (HM.out _ HK.out.at).mono ?_; rintro e w1 ⟨rfl, hb⟩; have HK1 := Lib.hid (HK.out.below hb); clear hb hld HK; have hld := load_pk HK1.out.k)
  | (go_at_call 31; refine (HP.out _ HK1.out.at).mono ?_; rintro e w2 ⟨A, c, rfl, hA, hpa, hb⟩; have HPA := Lib.hid (hpa.weak hb.size (Nat.le_refl _)); have HK2 := Lib.hid (HK1.out.below hb); clear hb hld HK1 hpa)
  | (go_at_call 30; refine (HU.out _ _ _ HPA.out).mono ?_; rintro e w3 ⟨S', E', rfl, hg0, _, hb⟩; obtain ⟨rfl, rfl⟩ : S' = R ∧ E' = 0 := ⟨(hg0 HO.out).1.trans HR.out, (hg0 HO.out).2⟩; have HK3 := Lib.hid (HK2.out.below hb); clear hb hg0 HK2 HPA)
  | (go_at_call 32; refine (HN.out _).mono ?_; rintro e w4 ⟨rfl, hb⟩; have HK4 := Lib.hid (HK3.out.below hb); clear hb HK3))
 have st0 := HK4.out
 clear HK4 HM HP HU HN
 refine wp_region_held_drew (S := KP w g p a) (by kernel_rfl) (st0.drewN 1) (fun hHeld => ?_)
 generalize w4.drew = Wd at hHeld ⊢
 refine take_op 0 26 ?v0x1 rfl rfl (by kernel_rfl) (fun _ _ _ h => h) (by rfl) (by assumption) (fun w' hS' => ?hv0x1) ?h0x1
 case hv0x1 => (go_simp; try with_reducible rfl)
 simp only [Act.put, List.setIfInBounds_toArray, List.set_cons_zero, List.set_cons_succ]
 refine take_op 1 27 ?v1x2 rfl rfl (by kernel_rfl) (fun _ _ _ h => h) (by rfl) (by assumption) (fun w' hS' => ?hv1x2) ?h1x2
 case hv1x2 => (have k := hS'.k.f0; go_simp; try with_reducible rfl)
 simp only [Act.put, List.setIfInBounds_toArray, List.set_cons_zero, List.set_cons_succ]
 refine take_op 2 28 ?v2x3 rfl rfl (by kernel_rfl) (fun _ _ _ h => h) (by rfl) (by assumption) (fun w' hS' => ?hv2x3) ?h2x3
 case hv2x3 => (go_simp; try with_reducible rfl)
 simp only [Act.put, List.setIfInBounds_toArray, List.set_cons_zero, List.set_cons_succ]
 refine take_load 3 29 30 (.tmp 1) g 0 (.agg (pkArr p a)) rfl rfl (by kernel_rfl) (fun _ _ _ h => h) (by rfl) (by assumption) rfl rfl (fun w' hS' => load_pk hS'.k) ?_
 simp only [Act.put, List.setIfInBounds_toArray, List.set_cons_zero, List.set_cons_succ]
 refine take_op 9 35 ?v9x4 rfl rfl (by kernel_rfl) (fun _ _ _ h => h) (by rfl) (by assumption) (fun w' hS' => ?hv9x4) ?h9x4
 case hv9x4 => (go_simp; try with_reducible rfl)
 simp only [Act.put, List.setIfInBounds_toArray, List.set_cons_zero, List.set_cons_succ]
 refine take_op 11 37 ?v11x5 rfl rfl (by kernel_rfl) (fun _ _ _ h => h) (by rfl) (by assumption) (fun w' hS' => ?hv11x5) ?h11x5
 case hv11x5 => (go_simp; try with_reducible rfl)
 simp only [Act.put, List.setIfInBounds_toArray, List.set_cons_zero, List.set_cons_succ]
 refine only_op 4 rfl (by kernel_rfl) (by rfl) (wp_call 30 33 #[.agg (pkArr p a)] (.int .i64 z) (KP w g p a) rfl (by go_simp) ((HF.out _).mono fun _ _ h => ⟨h.1, hHeld.below h.2⟩) (fun w5 st5 => ⟨st5, ?_⟩))
 simp only [Act.put, List.setIfInBounds_toArray, List.set_cons_zero, List.set_cons_succ]
 refine take_op 5 31 ?v5x6 rfl rfl (by kernel_rfl) (fun _ _ _ h => h) (by rfl) (by assumption) (fun w' hS' => ?hv5x6) ?h5x6
 case hv5x6 => (go_simp; try with_reducible rfl)
 simp only [Act.put, List.setIfInBounds_toArray, List.set_cons_zero, List.set_cons_succ]
 refine take_op 6 32 ?v6x7 rfl rfl (by kernel_rfl) (fun _ _ _ h => h) (by rfl) (by assumption) (fun w' hS' => ?hv6x7) ?h6x7
 case hv6x7 => (go_simp; try with_reducible rfl)
 simp only [Act.put, List.setIfInBounds_toArray, List.set_cons_zero, List.set_cons_succ]
 have st6 := st5.alloc (.cells #[.int .u8 b] 5)
 refine only_op 7 rfl (by kernel_rfl) (by rfl) (wp_made 33 (.slice (some ⟨w5.heap.size, 0, none⟩) 1 1) rfl (by go_simp) ⟨st6, ?_⟩)
 simp only [Act.put, List.setIfInBounds_toArray, List.set_cons_zero, List.set_cons_succ]
 have hcv5 := hcv w5
 rw [HOO.out] at hcv5
 clear hcv
 refine only_op 8 rfl (by kernel_rfl) (by rfl) (wp_made 34 (.string O) rfl (by go_simp) ⟨st6, ?_⟩)
 simp only [Act.put, List.setIfInBounds_toArray, List.set_cons_zero, List.set_cons_succ]
 generalize w5.alloc (.cells #[.int .u8 b] 5) = w6 at st6 ⊢
 have hB1 : ¬ 9223372036854775807 < O.size + N.size := by omega
 have hB2 : ¬ 9223372036854775807 < O.size + N.size + S'.size := by omega
 refine take_op 10 36 ?v10x8 rfl rfl (by kernel_rfl) (fun _ _ _ h => h) (by rfl) (by assumption) (fun w' hS' => ?hv10x8) ?h10x8
 case hv10x8 => (go_simp; try with_reducible rfl)
 simp only [Act.put, List.setIfInBounds_toArray, List.set_cons_zero, List.set_cons_succ]
 refine take_op 12 38 ?v12x9 rfl rfl (by kernel_rfl) (fun _ _ _ h => h) (by rfl) (by assumption) (fun w' hS' => ?hv12x9) ?h12x9
 case hv12x9 => (go_simp; try with_reducible rfl)
 simp only [Act.put, List.setIfInBounds_toArray, List.set_cons_zero, List.set_cons_succ]
 refine take_op 13 8 ?v13x10 rfl rfl (by kernel_rfl) (fun _ _ _ h => h) (by rfl) (by assumption) (fun w' hS' => ?hv13x10) ?h13x10
 case hv13x10 => (go_simp; try with_reducible rfl)
 simp only [Act.put, List.setIfInBounds_toArray, List.set_cons_zero, List.set_cons_succ]
 clear hB1 hB2
 refine wpAnyH_done (by kernel_rfl) ?_ _
 have HK6 := Lib.hid st6
 clear st0 hHeld st5 st6 hcv5 z1 z2 z3
 obtain ⟨T, hT⟩ : ∃ T, O ++ N ++ S' = T := ⟨_, rfl⟩
 rw [hT] at HPK HST HSZ ⊢
 clear hT
 have hTz : T.size = 1 + N.size + S'.size := HSZ.out
 by_cases h8 : T.size ≤ 8192
 ·obtain ⟨e1, e2⟩ := pack_yes (HPK.out.trans (decide_eq_true h8))
  have HA : Hid (S = T ∧ E = 0) := ⟨HS.out.symm.trans (e1.trans HST.out), HE.out.symm.trans e2⟩
  have hd : decide (8192 < (T.size : Int)) = false := decide_eq_false (by omega)
  clear e1 e2 hTz HSZ
  go_wp2_with fail
  go_ret2
  exact ⟨by rw [HA.out.1, HA.out.2]; rfl, HK6.out.b⟩
 ·obtain ⟨e1, e2⟩ := pack_no (HPK.out.trans (decide_eq_false h8))
  have HA : Hid (S = ⟨#[]⟩ ∧ E = 1) := ⟨HS.out.symm.trans e1, HE.out.symm.trans e2⟩
  have hd : decide (8192 < (T.size : Int)) = true := decide_eq_true (by omega)
  clear e1 e2 hTz HSZ
  go_wp2_with fail
  go_ret2
  exact ⟨by rw [HA.out.1, HA.out.2]; rfl, HK6.out.b⟩
theorem PBytes_is (p : Pk) (a : Ad) (S : ByteArray) (E : Int) (w : World) (hf : PkFit p a) (h : PkAt w w.heap.size p a) (hS : packStr p = S) (hE : packErr p = E) :
  Calls Tryz.prog 8 #[.agg (pkArr p a)] w fun e w' => e = .returned (.tuple #[.string S, .int .i64 E]) ∧ Below w.heap.size w w' := by
 cases hm : mayP p with
 | false =>
  have hb : packB p = false := by unfold packB; rw [hm]; rfl
  obtain rfl := (pack_no hb).1.symm.trans hS
  obtain rfl := (pack_no hb).2.symm.trans hE
  exact PBytes_no p a w hf h hm
 | true =>
  cases ho : allOk (partsL p) with
  | false =>
   have hb : packB p = false := by unfold packB; rw [hm, ho]; rfl
   obtain rfl := (pack_no hb).1.symm.trans hS
   obtain rfl := (pack_no hb).2.symm.trans hE
   exact PBytes_bad p a w hf h hm ho
  | true => exact PBytes_good p a S E w hf h hm ho hS hE
theorem PCheck_is (p : Pk) (a : Ad) (E : Int) (w : World) (hf : PkFit p a) (h : PkAt w w.heap.size p a) (hE : packErr p = E) :
  Calls Tryz.prog 12 #[.agg (pkArr p a)] w fun e w' => e = .returned (.int .i64 E) ∧ Below w.heap.size w w' := by
 have H := Lib.hid h
 have HC := Lib.hid (fun (W : World) (h : PkAt W W.heap.size p a) => PBytes_is p a _ E W hf h rfl hE)
 obtain ⟨S, hS⟩ : ∃ S, packStr p = S := ⟨_, rfl⟩
 rw [hS] at HC
 clear h hf hE hS
 have HK0 := Keep.new w 30 (pkArr p a)
 obtain ⟨W1, hW⟩ : ∃ W1, w.alloc (.cells (pkArr p a) 30) = W1 := ⟨_, rfl⟩
 rw [hW] at HK0
 unfold pkArr at hW ⊢
 have HW := Lib.hid hW
 clear hW
 go_enter Tryz.func12, Tryz.ntmps12
 go_upto_region 1 with fail
 rw [HW.out]
 generalize Value.agg _ = v0
 obtain ⟨g, hg⟩ : ∃ g, w.heap.size = g := ⟨_, rfl⟩
 rw [hg] at HK0 ⊢
 have HK := Lib.hid (KP.new HK0 H.out)
 clear HW HK0 H
 have HG := Lib.hid hg
 clear hg
 have hld := load_pk HK.out.k
 go_wp2_with (first | (refine wpList_load_one rfl 30 (.tmp 1) rfl g 0 rfl _ hld ?_) | (go_at_call 8; refine (HC.out _ HK.out.at).mono ?_; rintro e w1 ⟨rfl, hb⟩))
 go_ret
 exact ⟨rfl, HK.out.b.trans (hb.mono HK.out.b.size)⟩
end Go.Proofs.YtdbbcfohjkgdcaaGreat
