/- Package pack: whether a packet may be, as far as the bytes of its parts leave it open: all others. -/
import Derived.Test.YtdbbcfohjkgdcaaGreatM00
import Derived.Test.YtdbbcfohjkgdcaaGreatM20
set_option maxRecDepth 100000
set_option maxHeartbeats 64000000
namespace Go.Proofs.YtdbbcfohjkgdcaaGreat
open Go.RowKit Go.Lib Prp Pkt Vbi Txt
theorem partsOf_8 (p : Pk) (a : Ad) (w : World) (hf : PkFit p a) (h : PkAt w w.heap.size p a) (hk : p.kind = 8) (hm : p.fs.length ≤ 32) (hq : ∀ f ∈ p.fs, (0 ≤ f.q ∧ f.q ≤ 2) ∧ (0 ≤ f.h ∧ f.h ≤ 2) ∧ f.t.size ≤ 140737488351232) :
  Calls Tryz.prog 31 #[.agg (pkArr p a)] w (GivesParts ([.number p.id, .props p.kind p.ps] ++ filterL (decide (p.kind = 8)) p.fs) w.heap.size w) := by
 have H := Lib.hid h
 have HR := Lib.hid (fun (W : World) (hC : w.heap.size ≤ W.heap.size) (h : PkAt W w.heap.size p a) => filterParts_is p a w.heap.size W hC hm hq (h.mono hC))
 have hrl : (filterL (decide (p.kind = 8)) p.fs).length ≤ 64 := by have := filterL_len (decide (p.kind = 8)) p.fs; omega
 have e1 : (p.kind == 1) = false := ne_false (by omega)
 have e2 : (p.kind == 2) = false := ne_false (by omega)
 have e3 : (p.kind == 3) = false := ne_false (by omega)
 have e4 : (p.kind == 4) = false := ne_false (by omega)
 have e5 : (p.kind == 5) = false := ne_false (by omega)
 have e6 : (p.kind == 6) = false := ne_false (by omega)
 have e7 : (p.kind == 7) = false := ne_false (by omega)
 have e8 : (p.kind == 8) = true := beq_iff_eq.2 (by omega)
 clear h hk
 have HK0 := Keep.new w 30 (pkArr p a)
 obtain ⟨W1, hW⟩ : ∃ W1, w.alloc (.cells (pkArr p a) 30) = W1 := ⟨_, rfl⟩
 rw [hW] at HK0
 unfold pkArr at hW ⊢
 have HW := Lib.hid hW
 clear hW
 go_enter Tryz.func31, Tryz.ntmps31
 go_upto_region 1 with fail
 rw [HW.out]
 generalize Value.agg _ = v0
 obtain ⟨g, hg⟩ : ∃ g, w.heap.size = g := ⟨_, rfl⟩
 rw [hg] at HK0 ⊢
 have HK := Lib.hid (KP.new HK0 H.out)
 clear HW HK0 H
 have HG := Lib.hid hg
 clear hg
 have c0 := HK.out.k.f0
 go_upto_region 17 with fail
 have st0 := HK.out
 clear HK c0
 refine wp_region_held_drew (S := KP w g p a) (by kernel_rfl) (st0.drewN 1) (fun hHeld => ?_)
 generalize W1.drew = Wd at hHeld ⊢
 refine take_op 0 74 ?v0x21 rfl rfl (by kernel_rfl) (fun _ _ _ h => h) (by rfl) (by assumption) (fun w' hS' => ?hv0x21) ?h0x21
 case hv0x21 => (go_simp; try with_reducible rfl)
 simp only [Act.put, List.setIfInBounds_toArray, List.set_cons_zero, List.set_cons_succ]
 refine take_op 1 75 ?v1x22 rfl rfl (by kernel_rfl) (fun _ _ _ h => h) (by rfl) (by assumption) (fun w' hS' => ?hv1x22) ?h1x22
 case hv1x22 => (have k := hS'.k.f4; go_simp; try with_reducible rfl)
 simp only [Act.put, List.setIfInBounds_toArray, List.set_cons_zero, List.set_cons_succ]
 refine take_op 2 76 ?v2x23 rfl rfl (by kernel_rfl) (fun _ _ _ h => h) (by rfl) (by assumption) (fun w' hS' => ?hv2x23) ?h2x23
 case hv2x23 => (go_simp; try with_reducible rfl)
 simp only [Act.put, List.setIfInBounds_toArray, List.set_cons_zero, List.set_cons_succ]
 refine take_op 3 77 ?v3x24 rfl rfl (by kernel_rfl) (fun _ _ _ h => h) (by rfl) (by assumption) (fun w' hS' => ?hv3x24) ?h3x24
 case hv3x24 => (go_simp; try with_reducible rfl)
 simp only [Act.put, List.setIfInBounds_toArray, List.set_cons_zero, List.set_cons_succ]
 refine take_op 4 78 ?v4x25 rfl rfl (by kernel_rfl) (fun _ _ _ h => h) (by rfl) (by assumption) (fun w' hS' => ?hv4x25) ?h4x25
 case hv4x25 => (have k := hS'.k.f0; go_simp; try with_reducible rfl)
 simp only [Act.put, List.setIfInBounds_toArray, List.set_cons_zero, List.set_cons_succ]
 refine take_op 5 79 ?v5x26 rfl rfl (by kernel_rfl) (fun _ _ _ h => h) (by rfl) (by assumption) (fun w' hS' => ?hv5x26) ?h5x26
 case hv5x26 => (go_simp; try with_reducible rfl)
 simp only [Act.put, List.setIfInBounds_toArray, List.set_cons_zero, List.set_cons_succ]
 refine take_op 6 80 ?v6x27 rfl rfl (by kernel_rfl) (fun _ _ _ h => h) (by rfl) (by assumption) (fun w' hS' => ?hv6x27) ?h6x27
 case hv6x27 => (have k := hS'.k.f24; go_simp; try with_reducible rfl)
 simp only [Act.put, List.setIfInBounds_toArray, List.set_cons_zero, List.set_cons_succ]
 refine take_op 7 81 ?v7x28 rfl rfl (by kernel_rfl) (fun _ _ _ h => h) (by rfl) (by assumption) (fun w' hS' => ?hv7x28) ?h7x28
 case hv7x28 => (go_simp; try with_reducible rfl)
 simp only [Act.put, List.setIfInBounds_toArray, List.set_cons_zero, List.set_cons_succ]
 refine take_op 8 82 ?v8x29 rfl rfl (by kernel_rfl) (fun _ _ _ h => h) (by rfl) (by assumption) (fun w' hS' => ?hv8x29) ?h8x29
 case hv8x29 => (go_simp; try with_reducible rfl)
 simp only [Act.put, List.setIfInBounds_toArray, List.set_cons_zero, List.set_cons_succ]
 refine take_load 10 84 30 (.tmp 1) g 0 (.agg (pkArr p a)) rfl rfl (by kernel_rfl) (fun _ _ _ h => h) (by rfl) (by assumption) rfl rfl (fun w' hS' => load_pk hS'.k) ?_
 simp only [Act.put, List.setIfInBounds_toArray, List.set_cons_zero, List.set_cons_succ]
 refine two_ops 9 11 rfl rfl (by kernel_rfl) (by rfl) (by rfl) ?_ ?_
 ·have st2 := hHeld.alloc (.cells [.iface 115 (.int .i64 p.id), .iface 113 (.agg #[.int .i64 p.kind, .slice a.pa p.ps.length a.pc])].toArray 20)
  refine wp_made 83 (.slice (some ⟨Wd.heap.size, 0, none⟩) 2 2) rfl (by go_simp) ⟨st2, ?_⟩
  simp only [Act.put, List.setIfInBounds_toArray, List.set_cons_zero, List.set_cons_succ]
  have hown := lit_ownp Wd (w.heap.size + 1) w.heap.size [.iface 115 (.int .i64 p.id), .iface 113 (.agg #[.int .i64 p.kind, .slice a.pa p.ps.length a.pc])] [.number p.id, .props p.kind p.ps] 2 (hHeld.room HG.out) hHeld.b.size rfl rfl (by decide) (fun j x y => by
   match j, x, y with
   | 0, _, _ => exact ⟨rfl, hf.id.2⟩
   | 1, _, _ => exact ⟨a.pa, a.pc, rfl, hHeld.out.2.ps, hf.pl1.1, hf.pl1.2, hf.ps⟩)
  refine only_op 11 rfl (by kernel_rfl) (by rfl) (wp_call_ex 85 69 #[.agg (pkArr p a)] _ rfl (by go_simp) (HR.out _ st2.b.size st2.out.2) ?_)
  rintro e w2 ⟨A, c, rfl, hA, hpa, hb⟩
  have st4 := st2.below hb
  have hown2 := hown.below st2.b.size hb
  refine ⟨_, rfl, st4, ?_⟩
  simp only [Act.put, List.setIfInBounds_toArray, List.set_cons_zero, List.set_cons_succ]
  refine only_op 12 rfl (by kernel_rfl) (by rfl) (wp_append_parts 86 (.tmp 83) (.tmp 85) rfl rfl rfl rfl hA hown2 hpa (by omega) (st4.room HG.out) (by simp; omega) (fun v' w3 hown3 hb3 => ⟨st4.grown HG.out hb3, ?_⟩))
  simp only [Act.put, List.setIfInBounds_toArray, List.set_cons_zero, List.set_cons_succ]
  have st3 := st4.grown HG.out hb3
  refine take_op 13 2 ?v13x30 rfl rfl (by kernel_rfl) (fun _ _ _ h => h) (by rfl) (by assumption) (fun w' hS' => ?hv13x30) ?h13x30
  case hv13x30 => (go_simp; try with_reducible rfl)
  simp only [Act.put, List.setIfInBounds_toArray, List.set_cons_zero, List.set_cons_succ]
  refine wpAnyH_done (by kernel_rfl) ?_ _
  have HO := Lib.hid (hown3.gives st3.b)
  clear hown3 st3 hb3
  go_wp2_with fail
  go_ret
  exact HO.out
 ·refine wp_call_ex 85 69 #[.agg (pkArr p a)] _ rfl (by go_simp) (HR.out _ hHeld.b.size hHeld.out.2) ?_
  rintro e w2 ⟨A, c, rfl, hA, hpa, hb⟩
  have st4 := hHeld.below hb
  refine ⟨_, rfl, st4, ?_⟩
  simp only [Act.put, List.setIfInBounds_toArray, List.set_cons_zero, List.set_cons_succ]
  have st5 := st4.alloc (.cells [.iface 115 (.int .i64 p.id), .iface 113 (.agg #[.int .i64 p.kind, .slice a.pa p.ps.length a.pc])].toArray 20)
  have hown := lit_ownp w2 (w.heap.size + 1) w.heap.size [.iface 115 (.int .i64 p.id), .iface 113 (.agg #[.int .i64 p.kind, .slice a.pa p.ps.length a.pc])] [.number p.id, .props p.kind p.ps] 2 (st4.room HG.out) st4.b.size rfl rfl (by decide) (fun j x y => by
   match j, x, y with
   | 0, _, _ => exact ⟨rfl, hf.id.2⟩
   | 1, _, _ => exact ⟨a.pa, a.pc, rfl, st4.out.2.ps, hf.pl1.1, hf.pl1.2, hf.ps⟩)
  refine only_op 9 rfl (by kernel_rfl) (by rfl) (wp_made 83 (.slice (some ⟨w2.heap.size, 0, none⟩) 2 2) rfl (by go_simp) ⟨st5, ?_⟩)
  simp only [Act.put, List.setIfInBounds_toArray, List.set_cons_zero, List.set_cons_succ]
  refine only_op 12 rfl (by kernel_rfl) (by rfl) (wp_append_parts 86 (.tmp 83) (.tmp 85) rfl rfl rfl rfl hA hown ((hpa.below st4.b.size ((Below.refl _ _).alloc (Nat.le_refl _) _)).mono (by rw [World.size_alloc]; omega)) (by omega) (st5.room HG.out) (by simp; omega) (fun v' w3 hown3 hb3 => ⟨st5.grown HG.out hb3, ?_⟩))
  simp only [Act.put, List.setIfInBounds_toArray, List.set_cons_zero, List.set_cons_succ]
  have st3 := st5.grown HG.out hb3
  refine take_op 13 2 ?v13x31 rfl rfl (by kernel_rfl) (fun _ _ _ h => h) (by rfl) (by assumption) (fun w' hS' => ?hv13x31) ?h13x31
  case hv13x31 => (go_simp; try with_reducible rfl)
  simp only [Act.put, List.setIfInBounds_toArray, List.set_cons_zero, List.set_cons_succ]
  refine wpAnyH_done (by kernel_rfl) ?_ _
  have HO := Lib.hid (hown3.gives st3.b)
  clear hown3 st3 hb3
  go_wp2_with fail
  go_ret
  exact HO.out
theorem partsOf_10 (p : Pk) (a : Ad) (w : World) (hf : PkFit p a) (h : PkAt w w.heap.size p a) (hk : p.kind = 10) (hm : p.fs.length ≤ 32) (hq : ∀ f ∈ p.fs, (0 ≤ f.q ∧ f.q ≤ 2) ∧ (0 ≤ f.h ∧ f.h ≤ 2) ∧ f.t.size ≤ 140737488351232) :
  Calls Tryz.prog 31 #[.agg (pkArr p a)] w (GivesParts ([.number p.id, .props p.kind p.ps] ++ filterL (decide (p.kind = 8)) p.fs) w.heap.size w) := by
 have H := Lib.hid h
 have HR := Lib.hid (fun (W : World) (hC : w.heap.size ≤ W.heap.size) (h : PkAt W w.heap.size p a) => filterParts_is p a w.heap.size W hC hm hq (h.mono hC))
 have hrl : (filterL (decide (p.kind = 8)) p.fs).length ≤ 64 := by have := filterL_len (decide (p.kind = 8)) p.fs; omega
 have e1 : (p.kind == 1) = false := ne_false (by omega)
 have e2 : (p.kind == 2) = false := ne_false (by omega)
 have e3 : (p.kind == 3) = false := ne_false (by omega)
 have e4 : (p.kind == 4) = false := ne_false (by omega)
 have e5 : (p.kind == 5) = false := ne_false (by omega)
 have e6 : (p.kind == 6) = false := ne_false (by omega)
 have e7 : (p.kind == 7) = false := ne_false (by omega)
 have e8 : (p.kind == 8) = false := ne_false (by omega)
 have e10 : (p.kind == 10) = true := beq_iff_eq.2 (by omega)
 clear h hk
 have HK0 := Keep.new w 30 (pkArr p a)
 obtain ⟨W1, hW⟩ : ∃ W1, w.alloc (.cells (pkArr p a) 30) = W1 := ⟨_, rfl⟩
 rw [hW] at HK0
 unfold pkArr at hW ⊢
 have HW := Lib.hid hW
 clear hW
 go_enter Tryz.func31, Tryz.ntmps31
 go_upto_region 1 with fail
 rw [HW.out]
 generalize Value.agg _ = v0
 obtain ⟨g, hg⟩ : ∃ g, w.heap.size = g := ⟨_, rfl⟩
 rw [hg] at HK0 ⊢
 have HK := Lib.hid (KP.new HK0 H.out)
 clear HW HK0 H
 have HG := Lib.hid hg
 clear hg
 have c0 := HK.out.k.f0
 go_upto_region 17 with fail
 have st0 := HK.out
 clear HK c0
 refine wp_region_held_drew (S := KP w g p a) (by kernel_rfl) (st0.drewN 1) (fun hHeld => ?_)
 generalize W1.drew = Wd at hHeld ⊢
 refine take_op 0 74 ?v0x32 rfl rfl (by kernel_rfl) (fun _ _ _ h => h) (by rfl) (by assumption) (fun w' hS' => ?hv0x32) ?h0x32
 case hv0x32 => (go_simp; try with_reducible rfl)
 simp only [Act.put, List.setIfInBounds_toArray, List.set_cons_zero, List.set_cons_succ]
 refine take_op 1 75 ?v1x33 rfl rfl (by kernel_rfl) (fun _ _ _ h => h) (by rfl) (by assumption) (fun w' hS' => ?hv1x33) ?h1x33
 case hv1x33 => (have k := hS'.k.f4; go_simp; try with_reducible rfl)
 simp only [Act.put, List.setIfInBounds_toArray, List.set_cons_zero, List.set_cons_succ]
 refine take_op 2 76 ?v2x34 rfl rfl (by kernel_rfl) (fun _ _ _ h => h) (by rfl) (by assumption) (fun w' hS' => ?hv2x34) ?h2x34
 case hv2x34 => (go_simp; try with_reducible rfl)
 simp only [Act.put, List.setIfInBounds_toArray, List.set_cons_zero, List.set_cons_succ]
 refine take_op 3 77 ?v3x35 rfl rfl (by kernel_rfl) (fun _ _ _ h => h) (by rfl) (by assumption) (fun w' hS' => ?hv3x35) ?h3x35
 case hv3x35 => (go_simp; try with_reducible rfl)
 simp only [Act.put, List.setIfInBounds_toArray, List.set_cons_zero, List.set_cons_succ]
 refine take_op 4 78 ?v4x36 rfl rfl (by kernel_rfl) (fun _ _ _ h => h) (by rfl) (by assumption) (fun w' hS' => ?hv4x36) ?h4x36
 case hv4x36 => (have k := hS'.k.f0; go_simp; try with_reducible rfl)
 simp only [Act.put, List.setIfInBounds_toArray, List.set_cons_zero, List.set_cons_succ]
 refine take_op 5 79 ?v5x37 rfl rfl (by kernel_rfl) (fun _ _ _ h => h) (by rfl) (by assumption) (fun w' hS' => ?hv5x37) ?h5x37
 case hv5x37 => (go_simp; try with_reducible rfl)
 simp only [Act.put, List.setIfInBounds_toArray, List.set_cons_zero, List.set_cons_succ]
 refine take_op 6 80 ?v6x38 rfl rfl (by kernel_rfl) (fun _ _ _ h => h) (by rfl) (by assumption) (fun w' hS' => ?hv6x38) ?h6x38
 case hv6x38 => (have k := hS'.k.f24; go_simp; try with_reducible rfl)
 simp only [Act.put, List.setIfInBounds_toArray, List.set_cons_zero, List.set_cons_succ]
 refine take_op 7 81 ?v7x39 rfl rfl (by kernel_rfl) (fun _ _ _ h => h) (by rfl) (by assumption) (fun w' hS' => ?hv7x39) ?h7x39
 case hv7x39 => (go_simp; try with_reducible rfl)
 simp only [Act.put, List.setIfInBounds_toArray, List.set_cons_zero, List.set_cons_succ]
 refine take_op 8 82 ?v8x40 rfl rfl (by kernel_rfl) (fun _ _ _ h => h) (by rfl) (by assumption) (fun w' hS' => ?hv8x40) ?h8x40
 case hv8x40 => (go_simp; try with_reducible rfl)
 simp only [Act.put, List.setIfInBounds_toArray, List.set_cons_zero, List.set_cons_succ]
 refine take_load 10 84 30 (.tmp 1) g 0 (.agg (pkArr p a)) rfl rfl (by kernel_rfl) (fun _ _ _ h => h) (by rfl) (by assumption) rfl rfl (fun w' hS' => load_pk hS'.k) ?_
 simp only [Act.put, List.setIfInBounds_toArray, List.set_cons_zero, List.set_cons_succ]
 refine two_ops 9 11 rfl rfl (by kernel_rfl) (by rfl) (by rfl) ?_ ?_
 ·have st2 := hHeld.alloc (.cells [.iface 115 (.int .i64 p.id), .iface 113 (.agg #[.int .i64 p.kind, .slice a.pa p.ps.length a.pc])].toArray 20)
  refine wp_made 83 (.slice (some ⟨Wd.heap.size, 0, none⟩) 2 2) rfl (by go_simp) ⟨st2, ?_⟩
  simp only [Act.put, List.setIfInBounds_toArray, List.set_cons_zero, List.set_cons_succ]
  have hown := lit_ownp Wd (w.heap.size + 1) w.heap.size [.iface 115 (.int .i64 p.id), .iface 113 (.agg #[.int .i64 p.kind, .slice a.pa p.ps.length a.pc])] [.number p.id, .props p.kind p.ps] 2 (hHeld.room HG.out) hHeld.b.size rfl rfl (by decide) (fun j x y => by
   match j, x, y with
   | 0, _, _ => exact ⟨rfl, hf.id.2⟩
   | 1, _, _ => exact ⟨a.pa, a.pc, rfl, hHeld.out.2.ps, hf.pl1.1, hf.pl1.2, hf.ps⟩)
  refine only_op 11 rfl (by kernel_rfl) (by rfl) (wp_call_ex 85 69 #[.agg (pkArr p a)] _ rfl (by go_simp) (HR.out _ st2.b.size st2.out.2) ?_)
  rintro e w2 ⟨A, c, rfl, hA, hpa, hb⟩
  have st4 := st2.below hb
  have hown2 := hown.below st2.b.size hb
  refine ⟨_, rfl, st4, ?_⟩
  simp only [Act.put, List.setIfInBounds_toArray, List.set_cons_zero, List.set_cons_succ]
  refine only_op 12 rfl (by kernel_rfl) (by rfl) (wp_append_parts 86 (.tmp 83) (.tmp 85) rfl rfl rfl rfl hA hown2 hpa (by omega) (st4.room HG.out) (by simp; omega) (fun v' w3 hown3 hb3 => ⟨st4.grown HG.out hb3, ?_⟩))
  simp only [Act.put, List.setIfInBounds_toArray, List.set_cons_zero, List.set_cons_succ]
  have st3 := st4.grown HG.out hb3
  refine take_op 13 2 ?v13x41 rfl rfl (by kernel_rfl) (fun _ _ _ h => h) (by rfl) (by assumption) (fun w' hS' => ?hv13x41) ?h13x41
  case hv13x41 => (go_simp; try with_reducible rfl)
  simp only [Act.put, List.setIfInBounds_toArray, List.set_cons_zero, List.set_cons_succ]
  refine wpAnyH_done (by kernel_rfl) ?_ _
  have HO := Lib.hid (hown3.gives st3.b)
  clear hown3 st3 hb3
  go_wp2_with fail
  go_ret
  exact HO.out
 ·refine wp_call_ex 85 69 #[.agg (pkArr p a)] _ rfl (by go_simp) (HR.out _ hHeld.b.size hHeld.out.2) ?_
  rintro e w2 ⟨A, c, rfl, hA, hpa, hb⟩
  have st4 := hHeld.below hb
  refine ⟨_, rfl, st4, ?_⟩
  simp only [Act.put, List.setIfInBounds_toArray, List.set_cons_zero, List.set_cons_succ]
  have st5 := st4.alloc (.cells [.iface 115 (.int .i64 p.id), .iface 113 (.agg #[.int .i64 p.kind, .slice a.pa p.ps.length a.pc])].toArray 20)
  have hown := lit_ownp w2 (w.heap.size + 1) w.heap.size [.iface 115 (.int .i64 p.id), .iface 113 (.agg #[.int .i64 p.kind, .slice a.pa p.ps.length a.pc])] [.number p.id, .props p.kind p.ps] 2 (st4.room HG.out) st4.b.size rfl rfl (by decide) (fun j x y => by
   match j, x, y with
   | 0, _, _ => exact ⟨rfl, hf.id.2⟩
   | 1, _, _ => exact ⟨a.pa, a.pc, rfl, st4.out.2.ps, hf.pl1.1, hf.pl1.2, hf.ps⟩)
  refine only_op 9 rfl (by kernel_rfl) (by rfl) (wp_made 83 (.slice (some ⟨w2.heap.size, 0, none⟩) 2 2) rfl (by go_simp) ⟨st5, ?_⟩)
  simp only [Act.put, List.setIfInBounds_toArray, List.set_cons_zero, List.set_cons_succ]
  refine only_op 12 rfl (by kernel_rfl) (by rfl) (wp_append_parts 86 (.tmp 83) (.tmp 85) rfl rfl rfl rfl hA hown ((hpa.below st4.b.size ((Below.refl _ _).alloc (Nat.le_refl _) _)).mono (by rw [World.size_alloc]; omega)) (by omega) (st5.room HG.out) (by simp; omega) (fun v' w3 hown3 hb3 => ⟨st5.grown HG.out hb3, ?_⟩))
  simp only [Act.put, List.setIfInBounds_toArray, List.set_cons_zero, List.set_cons_succ]
  have st3 := st5.grown HG.out hb3
  refine take_op 13 2 ?v13x42 rfl rfl (by kernel_rfl) (fun _ _ _ h => h) (by rfl) (by assumption) (fun w' hS' => ?hv13x42) ?h13x42
  case hv13x42 => (go_simp; try with_reducible rfl)
  simp only [Act.put, List.setIfInBounds_toArray, List.set_cons_zero, List.set_cons_succ]
  refine wpAnyH_done (by kernel_rfl) ?_ _
  have HO := Lib.hid (hown3.gives st3.b)
  clear hown3 st3 hb3
  go_wp2_with fail
  go_ret
  exact HO.out
open Go.RowKit Go.Lib Prp Pkt Vbi Txt
theorem partsOf_9 (p : Pk) (a : Ad) (w : World) (hf : PkFit p a) (h : PkAt w w.heap.size p a) (hk : p.kind = 9) (hm : p.cs.length ≤ 64) :
  Calls Tryz.prog 31 #[.agg (pkArr p a)] w (GivesParts ([.number p.id, .props p.kind p.ps] ++ codeL p.cs) w.heap.size w) := by
 have H := Lib.hid h
 have HR := Lib.hid (fun (W : World) (hC : w.heap.size ≤ W.heap.size) (h : PkAt W w.heap.size p a) => codeParts_is p a w.heap.size W hC hm (h.mono hC))
 have hrl : (codeL p.cs).length ≤ 64 := by rw [codeL_len]; omega
 have e1 : (p.kind == 1) = false := ne_false (by omega)
 have e2 : (p.kind == 2) = false := ne_false (by omega)
 have e3 : (p.kind == 3) = false := ne_false (by omega)
 have e4 : (p.kind == 4) = false := ne_false (by omega)
 have e5 : (p.kind == 5) = false := ne_false (by omega)
 have e6 : (p.kind == 6) = false := ne_false (by omega)
 have e7 : (p.kind == 7) = false := ne_false (by omega)
 have e8 : (p.kind == 8) = false := ne_false (by omega)
 have e10 : (p.kind == 10) = false := ne_false (by omega)
 have e9 : (p.kind == 9) = true := beq_iff_eq.2 (by omega)
 clear h hk
 have HK0 := Keep.new w 30 (pkArr p a)
 obtain ⟨W1, hW⟩ : ∃ W1, w.alloc (.cells (pkArr p a) 30) = W1 := ⟨_, rfl⟩
 rw [hW] at HK0
 unfold pkArr at hW ⊢
 have HW := Lib.hid hW
 clear hW
 go_enter Tryz.func31, Tryz.ntmps31
 go_upto_region 1 with fail
 rw [HW.out]
 generalize Value.agg _ = v0
 obtain ⟨g, hg⟩ : ∃ g, w.heap.size = g := ⟨_, rfl⟩
 rw [hg] at HK0 ⊢
 have HK := Lib.hid (KP.new HK0 H.out)
 clear HW HK0 H
 have HG := Lib.hid hg
 clear hg
 have c0 := HK.out.k.f0
 go_upto_region 20 with fail
 have st0 := HK.out
 clear HK c0
 refine wp_region_held_drew (S := KP w g p a) (by kernel_rfl) (st0.drewN 1) (fun hHeld => ?_)
 generalize W1.drew = Wd at hHeld ⊢
 refine take_op 0 90 ?v0x43 rfl rfl (by kernel_rfl) (fun _ _ _ h => h) (by rfl) (by assumption) (fun w' hS' => ?hv0x43) ?h0x43
 case hv0x43 => (go_simp; try with_reducible rfl)
 simp only [Act.put, List.setIfInBounds_toArray, List.set_cons_zero, List.set_cons_succ]
 refine take_op 1 91 ?v1x44 rfl rfl (by kernel_rfl) (fun _ _ _ h => h) (by rfl) (by assumption) (fun w' hS' => ?hv1x44) ?h1x44
 case hv1x44 => (have k := hS'.k.f4; go_simp; try with_reducible rfl)
 simp only [Act.put, List.setIfInBounds_toArray, List.set_cons_zero, List.set_cons_succ]
 refine take_op 2 92 ?v2x45 rfl rfl (by kernel_rfl) (fun _ _ _ h => h) (by rfl) (by assumption) (fun w' hS' => ?hv2x45) ?h2x45
 case hv2x45 => (go_simp; try with_reducible rfl)
 simp only [Act.put, List.setIfInBounds_toArray, List.set_cons_zero, List.set_cons_succ]
 refine take_op 3 93 ?v3x46 rfl rfl (by kernel_rfl) (fun _ _ _ h => h) (by rfl) (by assumption) (fun w' hS' => ?hv3x46) ?h3x46
 case hv3x46 => (go_simp; try with_reducible rfl)
 simp only [Act.put, List.setIfInBounds_toArray, List.set_cons_zero, List.set_cons_succ]
 refine take_op 4 94 ?v4x47 rfl rfl (by kernel_rfl) (fun _ _ _ h => h) (by rfl) (by assumption) (fun w' hS' => ?hv4x47) ?h4x47
 case hv4x47 => (have k := hS'.k.f0; go_simp; try with_reducible rfl)
 simp only [Act.put, List.setIfInBounds_toArray, List.set_cons_zero, List.set_cons_succ]
 refine take_op 5 95 ?v5x48 rfl rfl (by kernel_rfl) (fun _ _ _ h => h) (by rfl) (by assumption) (fun w' hS' => ?hv5x48) ?h5x48
 case hv5x48 => (go_simp; try with_reducible rfl)
 simp only [Act.put, List.setIfInBounds_toArray, List.set_cons_zero, List.set_cons_succ]
 refine take_op 6 96 ?v6x49 rfl rfl (by kernel_rfl) (fun _ _ _ h => h) (by rfl) (by assumption) (fun w' hS' => ?hv6x49) ?h6x49
 case hv6x49 => (have k := hS'.k.f24; go_simp; try with_reducible rfl)
 simp only [Act.put, List.setIfInBounds_toArray, List.set_cons_zero, List.set_cons_succ]
 refine take_op 7 97 ?v7x50 rfl rfl (by kernel_rfl) (fun _ _ _ h => h) (by rfl) (by assumption) (fun w' hS' => ?hv7x50) ?h7x50
 case hv7x50 => (go_simp; try with_reducible rfl)
 simp only [Act.put, List.setIfInBounds_toArray, List.set_cons_zero, List.set_cons_succ]
 refine take_op 8 98 ?v8x51 rfl rfl (by kernel_rfl) (fun _ _ _ h => h) (by rfl) (by assumption) (fun w' hS' => ?hv8x51) ?h8x51
 case hv8x51 => (go_simp; try with_reducible rfl)
 simp only [Act.put, List.setIfInBounds_toArray, List.set_cons_zero, List.set_cons_succ]
 refine take_load 10 100 30 (.tmp 1) g 0 (.agg (pkArr p a)) rfl rfl (by kernel_rfl) (fun _ _ _ h => h) (by rfl) (by assumption) rfl rfl (fun w' hS' => load_pk hS'.k) ?_
 simp only [Act.put, List.setIfInBounds_toArray, List.set_cons_zero, List.set_cons_succ]
 refine two_ops 9 11 rfl rfl (by kernel_rfl) (by rfl) (by rfl) ?_ ?_
 ·have st2 := hHeld.alloc (.cells [.iface 115 (.int .i64 p.id), .iface 113 (.agg #[.int .i64 p.kind, .slice a.pa p.ps.length a.pc])].toArray 20)
  refine wp_made 99 (.slice (some ⟨Wd.heap.size, 0, none⟩) 2 2) rfl (by go_simp) ⟨st2, ?_⟩
  simp only [Act.put, List.setIfInBounds_toArray, List.set_cons_zero, List.set_cons_succ]
  have hown := lit_ownp Wd (w.heap.size + 1) w.heap.size [.iface 115 (.int .i64 p.id), .iface 113 (.agg #[.int .i64 p.kind, .slice a.pa p.ps.length a.pc])] [.number p.id, .props p.kind p.ps] 2 (hHeld.room HG.out) hHeld.b.size rfl rfl (by decide) (fun j x y => by
   match j, x, y with
   | 0, _, _ => exact ⟨rfl, hf.id.2⟩
   | 1, _, _ => exact ⟨a.pa, a.pc, rfl, hHeld.out.2.ps, hf.pl1.1, hf.pl1.2, hf.ps⟩)
  refine only_op 11 rfl (by kernel_rfl) (by rfl) (wp_call_ex 101 70 #[.agg (pkArr p a)] _ rfl (by go_simp) (HR.out _ st2.b.size st2.out.2) ?_)
  rintro e w2 ⟨A, c, rfl, hA, hpa, hb⟩
  have st4 := st2.below hb
  have hown2 := hown.below st2.b.size hb
  refine ⟨_, rfl, st4, ?_⟩
  simp only [Act.put, List.setIfInBounds_toArray, List.set_cons_zero, List.set_cons_succ]
  refine only_op 12 rfl (by kernel_rfl) (by rfl) (wp_append_parts 102 (.tmp 99) (.tmp 101) rfl rfl rfl rfl hA hown2 hpa (by omega) (st4.room HG.out) (by simp; omega) (fun v' w3 hown3 hb3 => ⟨st4.grown HG.out hb3, ?_⟩))
  simp only [Act.put, List.setIfInBounds_toArray, List.set_cons_zero, List.set_cons_succ]
  have st3 := st4.grown HG.out hb3
  refine take_op 13 2 ?v13x52 rfl rfl (by kernel_rfl) (fun _ _ _ h => h) (by rfl) (by assumption) (fun w' hS' => ?hv13x52) ?h13x52
  case hv13x52 => (go_simp; try with_reducible rfl)
  simp only [Act.put, List.setIfInBounds_toArray, List.set_cons_zero, List.set_cons_succ]
  refine wpAnyH_done (by kernel_rfl) ?_ _
  have HO := Lib.hid (hown3.gives st3.b)
  clear hown3 st3 hb3
  go_wp2_with fail
  go_ret
  exact HO.out
 ·refine wp_call_ex 101 70 #[.agg (pkArr p a)] _ rfl (by go_simp) (HR.out _ hHeld.b.size hHeld.out.2) ?_
  rintro e w2 ⟨A, c, rfl, hA, hpa, hb⟩
  have st4 := hHeld.below hb
  refine ⟨_, rfl, st4, ?_⟩
  simp only [Act.put, List.setIfInBounds_toArray, List.set_cons_zero, List.set_cons_succ]
  have st5 := st4.alloc (.cells [.iface 115 (.int .i64 p.id), .iface 113 (.agg #[.int .i64 p.kind, .slice a.pa p.ps.length a.pc])].toArray 20)
  have hown := lit_ownp w2 (w.heap.size + 1) w.heap.size [.iface 115 (.int .i64 p.id), .iface 113 (.agg #[.int .i64 p.kind, .slice a.pa p.ps.length a.pc])] [.number p.id, .props p.kind p.ps] 2 (st4.room HG.out) st4.b.size rfl rfl (by decide) (fun j x y => by
   match j, x, y with
   | 0, _, _ => exact ⟨rfl, hf.id.2⟩
   | 1, _, _ => exact ⟨a.pa, a.pc, rfl, st4.out.2.ps, hf.pl1.1, hf.pl1.2, hf.ps⟩)
  refine only_op 9 rfl (by kernel_rfl) (by rfl) (wp_made 99 (.slice (some ⟨w2.heap.size, 0, none⟩) 2 2) rfl (by go_simp) ⟨st5, ?_⟩)
  simp only [Act.put, List.setIfInBounds_toArray, List.set_cons_zero, List.set_cons_succ]
  refine only_op 12 rfl (by kernel_rfl) (by rfl) (wp_append_parts 102 (.tmp 99) (.tmp 101) rfl rfl rfl rfl hA hown ((hpa.below st4.b.size ((Below.refl _ _).alloc (Nat.le_refl _) _)).mono (by rw [World.size_alloc]; omega)) (by omega) (st5.room HG.out) (by simp; omega) (fun v' w3 hown3 hb3 => ⟨st5.grown HG.out hb3, ?_⟩))
  simp only [Act.put, List.setIfInBounds_toArray, List.set_cons_zero, List.set_cons_succ]
  have st3 := st5.grown HG.out hb3
  refine take_op 13 2 ?v13x53 rfl rfl (by kernel_rfl) (fun _ _ _ h => h) (by rfl) (by assumption) (fun w' hS' => ?hv13x53) ?h13x53
  case hv13x53 => (go_simp; try with_reducible rfl)
  simp only [Act.put, List.setIfInBounds_toArray, List.set_cons_zero, List.set_cons_succ]
  refine wpAnyH_done (by kernel_rfl) ?_ _
  have HO := Lib.hid (hown3.gives st3.b)
  clear hown3 st3 hb3
  go_wp2_with fail
  go_ret
  exact HO.out
theorem partsOf_11 (p : Pk) (a : Ad) (w : World) (hf : PkFit p a) (h : PkAt w w.heap.size p a) (hk : p.kind = 11) (hm : p.cs.length ≤ 64) :
  Calls Tryz.prog 31 #[.agg (pkArr p a)] w (GivesParts ([.number p.id, .props p.kind p.ps] ++ codeL p.cs) w.heap.size w) := by
 have H := Lib.hid h
 have HR := Lib.hid (fun (W : World) (hC : w.heap.size ≤ W.heap.size) (h : PkAt W w.heap.size p a) => codeParts_is p a w.heap.size W hC hm (h.mono hC))
 have hrl : (codeL p.cs).length ≤ 64 := by rw [codeL_len]; omega
 have e1 : (p.kind == 1) = false := ne_false (by omega)
 have e2 : (p.kind == 2) = false := ne_false (by omega)
 have e3 : (p.kind == 3) = false := ne_false (by omega)
 have e4 : (p.kind == 4) = false := ne_false (by omega)
 have e5 : (p.kind == 5) = false := ne_false (by omega)
 have e6 : (p.kind == 6) = false := ne_false (by omega)
 have e7 : (p.kind == 7) = false := ne_false (by omega)
 have e8 : (p.kind == 8) = false := ne_false (by omega)
 have e10 : (p.kind == 10) = false := ne_false (by omega)
 have e9 : (p.kind == 9) = false := ne_false (by omega)
 have e11 : (p.kind == 11) = true := beq_iff_eq.2 (by omega)
 clear h hk
 have HK0 := Keep.new w 30 (pkArr p a)
 obtain ⟨W1, hW⟩ : ∃ W1, w.alloc (.cells (pkArr p a) 30) = W1 := ⟨_, rfl⟩
 rw [hW] at HK0
 unfold pkArr at hW ⊢
 have HW := Lib.hid hW
 clear hW
 go_enter Tryz.func31, Tryz.ntmps31
 go_upto_region 1 with fail
 rw [HW.out]
 generalize Value.agg _ = v0
 obtain ⟨g, hg⟩ : ∃ g, w.heap.size = g := ⟨_, rfl⟩
 rw [hg] at HK0 ⊢
 have HK := Lib.hid (KP.new HK0 H.out)
 clear HW HK0 H
 have HG := Lib.hid hg
 clear hg
 have c0 := HK.out.k.f0
 go_upto_region 20 with fail
 have st0 := HK.out
 clear HK c0
 refine wp_region_held_drew (S := KP w g p a) (by kernel_rfl) (st0.drewN 1) (fun hHeld => ?_)
 generalize W1.drew = Wd at hHeld ⊢
 refine take_op 0 90 ?v0x54 rfl rfl (by kernel_rfl) (fun _ _ _ h => h) (by rfl) (by assumption) (fun w' hS' => ?hv0x54) ?h0x54
 case hv0x54 => (go_simp; try with_reducible rfl)
 simp only [Act.put, List.setIfInBounds_toArray, List.set_cons_zero, List.set_cons_succ]
 refine take_op 1 91 ?v1x55 rfl rfl (by kernel_rfl) (fun _ _ _ h => h) (by rfl) (by assumption) (fun w' hS' => ?hv1x55) ?h1x55
 case hv1x55 => (have k := hS'.k.f4; go_simp; try with_reducible rfl)
 simp only [Act.put, List.setIfInBounds_toArray, List.set_cons_zero, List.set_cons_succ]
 refine take_op 2 92 ?v2x56 rfl rfl (by kernel_rfl) (fun _ _ _ h => h) (by rfl) (by assumption) (fun w' hS' => ?hv2x56) ?h2x56
 case hv2x56 => (go_simp; try with_reducible rfl)
 simp only [Act.put, List.setIfInBounds_toArray, List.set_cons_zero, List.set_cons_succ]
 refine take_op 3 93 ?v3x57 rfl rfl (by kernel_rfl) (fun _ _ _ h => h) (by rfl) (by assumption) (fun w' hS' => ?hv3x57) ?h3x57
 case hv3x57 => (go_simp; try with_reducible rfl)
 simp only [Act.put, List.setIfInBounds_toArray, List.set_cons_zero, List.set_cons_succ]
 refine take_op 4 94 ?v4x58 rfl rfl (by kernel_rfl) (fun _ _ _ h => h) (by rfl) (by assumption) (fun w' hS' => ?hv4x58) ?h4x58
 case hv4x58 => (have k := hS'.k.f0; go_simp; try with_reducible rfl)
 simp only [Act.put, List.setIfInBounds_toArray, List.set_cons_zero, List.set_cons_succ]
 refine take_op 5 95 ?v5x59 rfl rfl (by kernel_rfl) (fun _ _ _ h => h) (by rfl) (by assumption) (fun w' hS' => ?hv5x59) ?h5x59
 case hv5x59 => (go_simp; try with_reducible rfl)
 simp only [Act.put, List.setIfInBounds_toArray, List.set_cons_zero, List.set_cons_succ]
 refine take_op 6 96 ?v6x60 rfl rfl (by kernel_rfl) (fun _ _ _ h => h) (by rfl) (by assumption) (fun w' hS' => ?hv6x60) ?h6x60
 case hv6x60 => (have k := hS'.k.f24; go_simp; try with_reducible rfl)
 simp only [Act.put, List.setIfInBounds_toArray, List.set_cons_zero, List.set_cons_succ]
 refine take_op 7 97 ?v7x61 rfl rfl (by kernel_rfl) (fun _ _ _ h => h) (by rfl) (by assumption) (fun w' hS' => ?hv7x61) ?h7x61
 case hv7x61 => (go_simp; try with_reducible rfl)
 simp only [Act.put, List.setIfInBounds_toArray, List.set_cons_zero, List.set_cons_succ]
 refine take_op 8 98 ?v8x62 rfl rfl (by kernel_rfl) (fun _ _ _ h => h) (by rfl) (by assumption) (fun w' hS' => ?hv8x62) ?h8x62
 case hv8x62 => (go_simp; try with_reducible rfl)
 simp only [Act.put, List.setIfInBounds_toArray, List.set_cons_zero, List.set_cons_succ]
 refine take_load 10 100 30 (.tmp 1) g 0 (.agg (pkArr p a)) rfl rfl (by kernel_rfl) (fun _ _ _ h => h) (by rfl) (by assumption) rfl rfl (fun w' hS' => load_pk hS'.k) ?_
 simp only [Act.put, List.setIfInBounds_toArray, List.set_cons_zero, List.set_cons_succ]
 refine two_ops 9 11 rfl rfl (by kernel_rfl) (by rfl) (by rfl) ?_ ?_
 ·have st2 := hHeld.alloc (.cells [.iface 115 (.int .i64 p.id), .iface 113 (.agg #[.int .i64 p.kind, .slice a.pa p.ps.length a.pc])].toArray 20)
  refine wp_made 99 (.slice (some ⟨Wd.heap.size, 0, none⟩) 2 2) rfl (by go_simp) ⟨st2, ?_⟩
  simp only [Act.put, List.setIfInBounds_toArray, List.set_cons_zero, List.set_cons_succ]
  have hown := lit_ownp Wd (w.heap.size + 1) w.heap.size [.iface 115 (.int .i64 p.id), .iface 113 (.agg #[.int .i64 p.kind, .slice a.pa p.ps.length a.pc])] [.number p.id, .props p.kind p.ps] 2 (hHeld.room HG.out) hHeld.b.size rfl rfl (by decide) (fun j x y => by
   match j, x, y with
   | 0, _, _ => exact ⟨rfl, hf.id.2⟩
   | 1, _, _ => exact ⟨a.pa, a.pc, rfl, hHeld.out.2.ps, hf.pl1.1, hf.pl1.2, hf.ps⟩)
  refine only_op 11 rfl (by kernel_rfl) (by rfl) (wp_call_ex 101 70 #[.agg (pkArr p a)] _ rfl (by go_simp) (HR.out _ st2.b.size st2.out.2) ?_)
  rintro e w2 ⟨A, c, rfl, hA, hpa, hb⟩
  have st4 := st2.below hb
  have hown2 := hown.below st2.b.size hb
  refine ⟨_, rfl, st4, ?_⟩
  simp only [Act.put, List.setIfInBounds_toArray, List.set_cons_zero, List.set_cons_succ]
  refine only_op 12 rfl (by kernel_rfl) (by rfl) (wp_append_parts 102 (.tmp 99) (.tmp 101) rfl rfl rfl rfl hA hown2 hpa (by omega) (st4.room HG.out) (by simp; omega) (fun v' w3 hown3 hb3 => ⟨st4.grown HG.out hb3, ?_⟩))
  simp only [Act.put, List.setIfInBounds_toArray, List.set_cons_zero, List.set_cons_succ]
  have st3 := st4.grown HG.out hb3
  refine take_op 13 2 ?v13x63 rfl rfl (by kernel_rfl) (fun _ _ _ h => h) (by rfl) (by assumption) (fun w' hS' => ?hv13x63) ?h13x63
  case hv13x63 => (go_simp; try with_reducible rfl)
  simp only [Act.put, List.setIfInBounds_toArray, List.set_cons_zero, List.set_cons_succ]
  refine wpAnyH_done (by kernel_rfl) ?_ _
  have HO := Lib.hid (hown3.gives st3.b)
  clear hown3 st3 hb3
  go_wp2_with fail
  go_ret
  exact HO.out
 ·refine wp_call_ex 101 70 #[.agg (pkArr p a)] _ rfl (by go_simp) (HR.out _ hHeld.b.size hHeld.out.2) ?_
  rintro e w2 ⟨A, c, rfl, hA, hpa, hb⟩
  have st4 := hHeld.below hb
  refine ⟨_, rfl, st4, ?_⟩
  simp only [Act.put, List.setIfInBounds_toArray, List.set_cons_zero, List.set_cons_succ]
  have st5 := st4.alloc (.cells [.iface 115 (.int .i64 p.id), .iface 113 (.agg #[.int .i64 p.kind, .slice a.pa p.ps.length a.pc])].toArray 20)
  have hown := lit_ownp w2 (w.heap.size + 1) w.heap.size [.iface 115 (.int .i64 p.id), .iface 113 (.agg #[.int .i64 p.kind, .slice a.pa p.ps.length a.pc])] [.number p.id, .props p.kind p.ps] 2 (st4.room HG.out) st4.b.size rfl rfl (by decide) (fun j x y => by
   match j, x, y with
   | 0, _, _ => exact ⟨rfl, hf.id.2⟩
   | 1, _, _ => exact ⟨a.pa, a.pc, rfl, st4.out.2.ps, hf.pl1.1, hf.pl1.2, hf.ps⟩)
  refine only_op 9 rfl (by kernel_rfl) (by rfl) (wp_made 99 (.slice (some ⟨w2.heap.size, 0, none⟩) 2 2) rfl (by go_simp) ⟨st5, ?_⟩)
  simp only [Act.put, List.setIfInBounds_toArray, List.set_cons_zero, List.set_cons_succ]
  refine only_op 12 rfl (by kernel_rfl) (by rfl) (wp_append_parts 102 (.tmp 99) (.tmp 101) rfl rfl rfl rfl hA hown ((hpa.below st4.b.size ((Below.refl _ _).alloc (Nat.le_refl _) _)).mono (by rw [World.size_alloc]; omega)) (by omega) (st5.room HG.out) (by simp; omega) (fun v' w3 hown3 hb3 => ⟨st5.grown HG.out hb3, ?_⟩))
  simp only [Act.put, List.setIfInBounds_toArray, List.set_cons_zero, List.set_cons_succ]
  have st3 := st5.grown HG.out hb3
  refine take_op 13 2 ?v13x64 rfl rfl (by kernel_rfl) (fun _ _ _ h => h) (by rfl) (by assumption) (fun w' hS' => ?hv13x64) ?h13x64
  case hv13x64 => (go_simp; try with_reducible rfl)
  simp only [Act.put, List.setIfInBounds_toArray, List.set_cons_zero, List.set_cons_succ]
  refine wpAnyH_done (by kernel_rfl) ?_ _
  have HO := Lib.hid (hown3.gives st3.b)
  clear hown3 st3 hb3
  go_wp2_with fail
  go_ret
  exact HO.out
open Go.RowKit Go.Lib Prp Pkt
theorem mayBe_low (p : Pk) (a : Ad) (b : Bool) (w : World) (h : PkAt w w.heap.size p a) (hk : p.kind < 1 ∨ 15 < p.kind) (hb : mayP p = b) :
  Calls Tryz.prog 29 #[.agg (pkArr p a)] w fun e w' => e = .returned (.bool b) ∧ Below w.heap.size w w' := by
 have H := Lib.hid h
 clear h
 have HF : Hid (b = false) := hb.symm.trans (may_out hk)
 clear hb
 have HK0 := Keep.new w 30 (pkArr p a)
 obtain ⟨W1, hW⟩ : ∃ W1, w.alloc (.cells (pkArr p a) 30) = W1 := ⟨_, rfl⟩
 rw [hW] at HK0
 unfold pkArr at hW ⊢
 have HW := Lib.hid hW
 clear hW
 go_enter Tryz.func29, Tryz.ntmps29
 go_upto_region 1 with fail
 rw [HW.out]
 generalize Value.agg _ = v0
 obtain ⟨g, hg⟩ : ∃ g, w.heap.size = g := ⟨_, rfl⟩
 rw [hg] at HK0 ⊢
 have HK := Lib.hid (KP.new HK0 H.out)
 clear HW HK0 H
 have c0 := HK.out.k.f0
 rcases hk with h1 | h15
 ·have hd : decide (p.kind < 1) = true := decide_eq_true h1
  go_quiet (fail)
  go_wp2_with fail
  go_ret
  exact ⟨by rw [HF.out]; rfl, below_drewN HK.out.b _⟩
 ·have hd : decide (p.kind < 1) = false := decide_eq_false (by omega)
  have hd2 : decide (15 < p.kind) = true := decide_eq_true h15
  go_quiet (fail)
  go_wp2_with fail
  go_ret
  exact ⟨by rw [HF.out]; rfl, below_drewN HK.out.b _⟩
theorem mayBe_not (p : Pk) (a : Ad) (b : Bool) (w : World) (h : PkAt w w.heap.size p a) (hk1 : 1 ≤ p.kind) (hk15 : p.kind ≤ 15) (hF : fieldB p = false) (hb : mayP p = b) :
  Calls Tryz.prog 29 #[.agg (pkArr p a)] w fun e w' => e = .returned (.bool b) ∧ Below w.heap.size w w' := by
 have H := Lib.hid h
 clear h
 have HF : Hid (b = false) := hb.symm.trans (may_field hF)
 clear hb
 obtain ⟨R, hR⟩ : ∃ R, fillZ p = R := ⟨_, rfl⟩
 have HFi := Lib.hid (fun (W : World) => filled_is p a R W hR)
 obtain ⟨G, hG⟩ : ∃ G, fieldsZ p.kind = G := ⟨_, rfl⟩
 have HFo := Lib.hid (fun (W : World) => fieldsOf_is p.kind G W (by omega) (by omega) hG)
 have hfb : (bits .andNot .i64 R G != 0) = !false := fill_at (by omega) (by omega) hR hG hF
 have hd : decide (p.kind < 1) = false := decide_eq_false (by omega)
 have hd2 : decide (15 < p.kind) = false := decide_eq_false (by omega)
 clear hR hG hF
 have HK0 := Keep.new w 30 (pkArr p a)
 obtain ⟨W1, hW⟩ : ∃ W1, w.alloc (.cells (pkArr p a) 30) = W1 := ⟨_, rfl⟩
 rw [hW] at HK0
 unfold pkArr at hW ⊢
 have HW := Lib.hid hW
 clear hW
 go_enter Tryz.func29, Tryz.ntmps29
 go_upto_region 1 with fail
 rw [HW.out]
 generalize Value.agg _ = v0
 obtain ⟨g, hg⟩ : ∃ g, w.heap.size = g := ⟨_, rfl⟩
 rw [hg] at HK0 ⊢
 have HK := Lib.hid (KP.new HK0 H.out)
 clear HW HK0 H
 have k0 := fun u : In (KP w g p a) => u.h.k.f0
 have hld := fun u : In (KP w g p a) => load_pk u.h.k
 have st0 := HK.out
 clear HK
 haveI : Nonempty (In (KP w g p a)) := ⟨⟨_, st0⟩⟩
 refine region_in (S := KP w g p a) (by kernel_rfl) (by kernel_rfl) (st0.drewN 1) ?_
 iterate 9 (go_big_quiet_step (fail))
 go_big_quiet_want
 refine quiet_load_in 30 (.tmp 1) rfl g 0 rfl _ hld ?_
 go_simp
 go_big_quiet_on
 repeat (go_big_quiet_step (first | (go_at_call 57; exact in_call ((HFi.out _).mono fun _ _ h => ⟨h.1, KP.below (In.h _) h.2⟩)) | (go_at_call 58; exact in_call ((HFo.out _).mono fun _ _ h => ⟨h.1, by rw [← h.2]; exact In.h _⟩))))
 refine wpQuiet_nil ?_
 rintro _ ⟨⟨w2, st2⟩, rfl⟩
 have HK := Lib.hid st2
 clear this st0 st2 k0 hld HFi HFo hfb hd hd2
 go_wp2_with fail
 go_ret
 exact ⟨by rw [HF.out]; rfl, HK.out.b⟩
open Go.RowKit Go.Lib Prp Pkt
theorem mayBe_1 (p : Pk) (a : Ad) (b : Bool) (w : World) (h : PkAt w w.heap.size p a) (hk : p.kind = 1) (hF : fieldB p = true) (hb : mayP p = b) :
  Calls Tryz.prog 29 #[.agg (pkArr p a)] w fun e w' => e = .returned (.bool b) ∧ Below w.heap.size w w' := by
 have H := Lib.hid h
 clear h
 have HL := Lib.hid (fun (W : World) => mayLogIn_is p a b W ((may_1 hk hF).symm.trans hb))
 clear hb
 obtain ⟨R, hR⟩ : ∃ R, fillZ p = R := ⟨_, rfl⟩
 have HFi := Lib.hid (fun (W : World) => filled_is p a R W hR)
 obtain ⟨G, hG⟩ : ∃ G, fieldsZ p.kind = G := ⟨_, rfl⟩
 have HFo := Lib.hid (fun (W : World) => fieldsOf_is p.kind G W (by omega) (by omega) hG)
 have hfb : (bits .andNot .i64 R G != 0) = !true := fill_at (by omega) (by omega) hR hG hF
 have hd : decide (p.kind < 1) = false := decide_eq_false (by omega)
 have hd2 : decide (15 < p.kind) = false := decide_eq_false (by omega)
 clear hR hG hF
 have e1 : (p.kind == 1) = true := beq_iff_eq.2 (by omega)
 clear hk
 have HK0 := Keep.new w 30 (pkArr p a)
 obtain ⟨W1, hW⟩ : ∃ W1, w.alloc (.cells (pkArr p a) 30) = W1 := ⟨_, rfl⟩
 rw [hW] at HK0
 unfold pkArr at hW ⊢
 have HW := Lib.hid hW
 clear hW
 go_enter Tryz.func29, Tryz.ntmps29
 go_upto_region 1 with fail
 rw [HW.out]
 generalize Value.agg _ = v0
 obtain ⟨g, hg⟩ : ∃ g, w.heap.size = g := ⟨_, rfl⟩
 rw [hg] at HK0 ⊢
 have HK := Lib.hid (KP.new HK0 H.out)
 clear HW HK0 H
 have k0 := fun u : In (KP w g p a) => u.h.k.f0
 have hld := fun u : In (KP w g p a) => load_pk u.h.k
 have st0 := HK.out
 clear HK
 haveI : Nonempty (In (KP w g p a)) := ⟨⟨_, st0⟩⟩
 refine region_in (S := KP w g p a) (by kernel_rfl) (by kernel_rfl) (st0.drewN 1) ?_
 iterate 9 (go_big_quiet_step (fail))
 go_big_quiet_want
 refine quiet_load_in 30 (.tmp 1) rfl g 0 rfl _ hld ?_
 go_simp
 go_big_quiet_on
 repeat (go_big_quiet_step (first | (go_at_call 57; exact in_call ((HFi.out _).mono fun _ _ h => ⟨h.1, KP.below (In.h _) h.2⟩)) | (go_at_call 58; exact in_call ((HFo.out _).mono fun _ _ h => ⟨h.1, by rw [← h.2]; exact In.h _⟩))))
 refine wpQuiet_nil ?_
 rintro _ ⟨⟨w2, st2⟩, rfl⟩
 have HK := Lib.hid st2
 clear this st0 st2 k0 hld HFi HFo hfb hd hd2
 have c0 := HK.out.k.f0
 have hld := load_pk HK.out.k
 go_wp2_with (first | (refine wpList_load_one rfl 30 (.tmp 1) rfl g 0 rfl _ hld ?_) | (go_at_call 59; refine (HL.out _).mono ?_; rintro e w1 ⟨rfl, hb⟩))
 go_ret
 exact ⟨rfl, (HK.out.below hb).b⟩
open Go.RowKit Go.Lib Prp Pkt
theorem mayBe_3 (p : Pk) (a : Ad) (b : Bool) (w : World) (h : PkAt w w.heap.size p a) (hk : p.kind = 3) (hF : fieldB p = true) (hb : mayP p = b) :
  Calls Tryz.prog 29 #[.agg (pkArr p a)] w fun e w' => e = .returned (.bool b) ∧ Below w.heap.size w w' := by
 have H := Lib.hid h
 clear h
 obtain ⟨V, hV⟩ : ∃ V, sendB p.dup p.q = V := ⟨_, rfl⟩
 have HS := Lib.hid (fun (W : World) => maySend_is p a V W hV)
 have HF : Hid (b = (V && ((decide (0 < p.q) || p.id == 0) && decide ((p.b.size : Int) ≤ 1024)))) := hb.symm.trans ((may_3 hk hF).trans (by rw [hV]))
 clear hb hV
 obtain ⟨R, hR⟩ : ∃ R, fillZ p = R := ⟨_, rfl⟩
 have HFi := Lib.hid (fun (W : World) => filled_is p a R W hR)
 obtain ⟨G, hG⟩ : ∃ G, fieldsZ p.kind = G := ⟨_, rfl⟩
 have HFo := Lib.hid (fun (W : World) => fieldsOf_is p.kind G W (by omega) (by omega) hG)
 have hfb : (bits .andNot .i64 R G != 0) = !true := fill_at (by omega) (by omega) hR hG hF
 have hd : decide (p.kind < 1) = false := decide_eq_false (by omega)
 have hd2 : decide (15 < p.kind) = false := decide_eq_false (by omega)
 clear hR hG hF
 have e1 : (p.kind == 1) = false := ne_false (by omega)
 have e3 : (p.kind == 3) = true := beq_iff_eq.2 (by omega)
 clear hk
 have HK0 := Keep.new w 30 (pkArr p a)
 obtain ⟨W1, hW⟩ : ∃ W1, w.alloc (.cells (pkArr p a) 30) = W1 := ⟨_, rfl⟩
 rw [hW] at HK0
 unfold pkArr at hW ⊢
 have HW := Lib.hid hW
 clear hW
 go_enter Tryz.func29, Tryz.ntmps29
 go_upto_region 1 with fail
 rw [HW.out]
 generalize Value.agg _ = v0
 obtain ⟨g, hg⟩ : ∃ g, w.heap.size = g := ⟨_, rfl⟩
 rw [hg] at HK0 ⊢
 have HK := Lib.hid (KP.new HK0 H.out)
 clear HW HK0 H
 have k0 := fun u : In (KP w g p a) => u.h.k.f0
 have hld := fun u : In (KP w g p a) => load_pk u.h.k
 have st0 := HK.out
 clear HK
 haveI : Nonempty (In (KP w g p a)) := ⟨⟨_, st0⟩⟩
 refine region_in (S := KP w g p a) (by kernel_rfl) (by kernel_rfl) (st0.drewN 1) ?_
 iterate 9 (go_big_quiet_step (fail))
 go_big_quiet_want
 refine quiet_load_in 30 (.tmp 1) rfl g 0 rfl _ hld ?_
 go_simp
 go_big_quiet_on
 repeat (go_big_quiet_step (first | (go_at_call 57; exact in_call ((HFi.out _).mono fun _ _ h => ⟨h.1, KP.below (In.h _) h.2⟩)) | (go_at_call 58; exact in_call ((HFo.out _).mono fun _ _ h => ⟨h.1, by rw [← h.2]; exact In.h _⟩))))
 refine wpQuiet_nil ?_
 rintro _ ⟨⟨w2, st2⟩, rfl⟩
 have HK := Lib.hid st2
 clear this st0 st2 k0 hld HFi HFo hfb hd hd2
 have c0 := HK.out.k.f0
 have hld := load_pk HK.out.k
 go_wp2_with (first | (refine wpList_load_one rfl 30 (.tmp 1) rfl g 0 rfl _ hld ?_) | (go_at_call 60; refine (HS.out _).mono ?_; rintro e w1 ⟨rfl, hb⟩; have HK1 := HK.out.below hb; have d2 := HK1.k.f2; have d4 := HK1.k.f4; have d6 := HK1.k.f6))
 all_goals go_ret
 all_goals (refine ⟨ret_bool ?_, by first | exact (HK.out.below hb).b | (have hx := (HK.out.below hb).b; rw [hg] at hx; exact hx)⟩; rw [HF.out]; clear c0 hld; clear d2 d4 d6 HK1 HK HF HS; first | (simp [*]; done) | simp_all)
open Go.RowKit Go.Lib Prp Pkt
theorem mayBe_8 (p : Pk) (a : Ad) (b : Bool) (w : World) (h : PkAt w w.heap.size p a) (hk : p.kind = 8) (hm : p.fs.length ≤ 9223372036854775807) (hF : fieldB p = true) (hb : mayP p = b) :
  Calls Tryz.prog 29 #[.agg (pkArr p a)] w fun e w' => e = .returned (.bool b) ∧ Below w.heap.size w w' := by
 have H := Lib.hid h
 clear h
 have HA := Lib.hid (fun (W : World) (h : PkAt W W.heap.size p a) => mayAsk_is p a b W hm h ((may_8 (by omega) hF).symm.trans hb))
 clear hb
 obtain ⟨R, hR⟩ : ∃ R, fillZ p = R := ⟨_, rfl⟩
 have HFi := Lib.hid (fun (W : World) => filled_is p a R W hR)
 obtain ⟨G, hG⟩ : ∃ G, fieldsZ p.kind = G := ⟨_, rfl⟩
 have HFo := Lib.hid (fun (W : World) => fieldsOf_is p.kind G W (by omega) (by omega) hG)
 have hfb : (bits .andNot .i64 R G != 0) = !true := fill_at (by omega) (by omega) hR hG hF
 have hd : decide (p.kind < 1) = false := decide_eq_false (by omega)
 have hd2 : decide (15 < p.kind) = false := decide_eq_false (by omega)
 clear hR hG hF
 have e1 : (p.kind == 1) = false := ne_false (by omega)
 have e3 : (p.kind == 3) = false := ne_false (by omega)
 have e8 : (p.kind == 8) = true := beq_iff_eq.2 (by omega)
 clear hk
 have HK0 := Keep.new w 30 (pkArr p a)
 obtain ⟨W1, hW⟩ : ∃ W1, w.alloc (.cells (pkArr p a) 30) = W1 := ⟨_, rfl⟩
 rw [hW] at HK0
 unfold pkArr at hW ⊢
 have HW := Lib.hid hW
 clear hW
 go_enter Tryz.func29, Tryz.ntmps29
 go_upto_region 1 with fail
 rw [HW.out]
 generalize Value.agg _ = v0
 obtain ⟨g, hg⟩ : ∃ g, w.heap.size = g := ⟨_, rfl⟩
 rw [hg] at HK0 ⊢
 have HK := Lib.hid (KP.new HK0 H.out)
 clear HW HK0 H
 have k0 := fun u : In (KP w g p a) => u.h.k.f0
 have hld := fun u : In (KP w g p a) => load_pk u.h.k
 have st0 := HK.out
 clear HK
 haveI : Nonempty (In (KP w g p a)) := ⟨⟨_, st0⟩⟩
 refine region_in (S := KP w g p a) (by kernel_rfl) (by kernel_rfl) (st0.drewN 1) ?_
 iterate 9 (go_big_quiet_step (fail))
 go_big_quiet_want
 refine quiet_load_in 30 (.tmp 1) rfl g 0 rfl _ hld ?_
 go_simp
 go_big_quiet_on
 repeat (go_big_quiet_step (first | (go_at_call 57; exact in_call ((HFi.out _).mono fun _ _ h => ⟨h.1, KP.below (In.h _) h.2⟩)) | (go_at_call 58; exact in_call ((HFo.out _).mono fun _ _ h => ⟨h.1, by rw [← h.2]; exact In.h _⟩))))
 refine wpQuiet_nil ?_
 rintro _ ⟨⟨w2, st2⟩, rfl⟩
 have HK := Lib.hid st2
 clear this st0 st2 k0 hld HFi HFo hfb hd hd2
 have c0 := HK.out.k.f0
 have hld := load_pk HK.out.k
 have HPK := Lib.hid HK.out.at
 go_wp2_with (first | (refine wpList_load_one rfl 30 (.tmp 1) rfl g 0 rfl _ hld ?_) | (go_at_call 61; refine (HA.out _ HPK.out).mono ?_; rintro e w1 ⟨rfl, hb⟩))
 go_ret
 exact ⟨rfl, (HK.out.below hb).b⟩
open Go.RowKit Go.Lib Prp Pkt
theorem mayBe_10 (p : Pk) (a : Ad) (b : Bool) (w : World) (h : PkAt w w.heap.size p a) (hk : p.kind = 10) (hm : p.fs.length ≤ 9223372036854775807) (hF : fieldB p = true) (hb : mayP p = b) :
  Calls Tryz.prog 29 #[.agg (pkArr p a)] w fun e w' => e = .returned (.bool b) ∧ Below w.heap.size w w' := by
 have H := Lib.hid h
 clear h
 have HA := Lib.hid (fun (W : World) (h : PkAt W W.heap.size p a) => mayAsk_is p a b W hm h ((may_8 (by omega) hF).symm.trans hb))
 clear hb
 obtain ⟨R, hR⟩ : ∃ R, fillZ p = R := ⟨_, rfl⟩
 have HFi := Lib.hid (fun (W : World) => filled_is p a R W hR)
 obtain ⟨G, hG⟩ : ∃ G, fieldsZ p.kind = G := ⟨_, rfl⟩
 have HFo := Lib.hid (fun (W : World) => fieldsOf_is p.kind G W (by omega) (by omega) hG)
 have hfb : (bits .andNot .i64 R G != 0) = !true := fill_at (by omega) (by omega) hR hG hF
 have hd : decide (p.kind < 1) = false := decide_eq_false (by omega)
 have hd2 : decide (15 < p.kind) = false := decide_eq_false (by omega)
 clear hR hG hF
 have e1 : (p.kind == 1) = false := ne_false (by omega)
 have e3 : (p.kind == 3) = false := ne_false (by omega)
 have e8 : (p.kind == 8) = false := ne_false (by omega)
 have e10 : (p.kind == 10) = true := beq_iff_eq.2 (by omega)
 clear hk
 have HK0 := Keep.new w 30 (pkArr p a)
 obtain ⟨W1, hW⟩ : ∃ W1, w.alloc (.cells (pkArr p a) 30) = W1 := ⟨_, rfl⟩
 rw [hW] at HK0
 unfold pkArr at hW ⊢
 have HW := Lib.hid hW
 clear hW
 go_enter Tryz.func29, Tryz.ntmps29
 go_upto_region 1 with fail
 rw [HW.out]
 generalize Value.agg _ = v0
 obtain ⟨g, hg⟩ : ∃ g, w.heap.size = g := ⟨_, rfl⟩
 rw [hg] at HK0 ⊢
 have HK := Lib.hid (KP.new HK0 H.out)
 clear HW HK0 H
 have k0 := fun u : In (KP w g p a) => u.h.k.f0
 have hld := fun u : In (KP w g p a) => load_pk u.h.k
 have st0 := HK.out
 clear HK
 haveI : Nonempty (In (KP w g p a)) := ⟨⟨_, st0⟩⟩
 refine region_in (S := KP w g p a) (by kernel_rfl) (by kernel_rfl) (st0.drewN 1) ?_
 iterate 9 (go_big_quiet_step (fail))
 go_big_quiet_want
 refine quiet_load_in 30 (.tmp 1) rfl g 0 rfl _ hld ?_
 go_simp
 go_big_quiet_on
 repeat (go_big_quiet_step (first | (go_at_call 57; exact in_call ((HFi.out _).mono fun _ _ h => ⟨h.1, KP.below (In.h _) h.2⟩)) | (go_at_call 58; exact in_call ((HFo.out _).mono fun _ _ h => ⟨h.1, by rw [← h.2]; exact In.h _⟩))))
 refine wpQuiet_nil ?_
 rintro _ ⟨⟨w2, st2⟩, rfl⟩
 have HK := Lib.hid st2
 clear this st0 st2 k0 hld HFi HFo hfb hd hd2
 have c0 := HK.out.k.f0
 have hld := load_pk HK.out.k
 have HPK := Lib.hid HK.out.at
 go_wp2_with (first | (refine wpList_load_one rfl 30 (.tmp 1) rfl g 0 rfl _ hld ?_) | (go_at_call 61; refine (HA.out _ HPK.out).mono ?_; rintro e w1 ⟨rfl, hb⟩))
 go_ret
 exact ⟨rfl, (HK.out.below hb).b⟩
open Go.RowKit Go.Lib Prp Pkt
theorem mayBe_9 (p : Pk) (a : Ad) (b : Bool) (w : World) (h : PkAt w w.heap.size p a) (hk : p.kind = 9) (hF : fieldB p = true) (hb : mayP p = b) :
  Calls Tryz.prog 29 #[.agg (pkArr p a)] w fun e w' => e = .returned (.bool b) ∧ Below w.heap.size w w' := by
 have H := Lib.hid h
 clear h
 have HC := Lib.hid (fun (W : World) => isCount_is p.cs.length b W ((may_9 (by omega) hF).symm.trans hb))
 clear hb
 obtain ⟨R, hR⟩ : ∃ R, fillZ p = R := ⟨_, rfl⟩
 have HFi := Lib.hid (fun (W : World) => filled_is p a R W hR)
 obtain ⟨G, hG⟩ : ∃ G, fieldsZ p.kind = G := ⟨_, rfl⟩
 have HFo := Lib.hid (fun (W : World) => fieldsOf_is p.kind G W (by omega) (by omega) hG)
 have hfb : (bits .andNot .i64 R G != 0) = !true := fill_at (by omega) (by omega) hR hG hF
 have hd : decide (p.kind < 1) = false := decide_eq_false (by omega)
 have hd2 : decide (15 < p.kind) = false := decide_eq_false (by omega)
 clear hR hG hF
 have e1 : (p.kind == 1) = false := ne_false (by omega)
 have e3 : (p.kind == 3) = false := ne_false (by omega)
 have e8 : (p.kind == 8) = false := ne_false (by omega)
 have e10 : (p.kind == 10) = false := ne_false (by omega)
 have e9 : (p.kind == 9) = true := beq_iff_eq.2 (by omega)
 clear hk
 have HK0 := Keep.new w 30 (pkArr p a)
 obtain ⟨W1, hW⟩ : ∃ W1, w.alloc (.cells (pkArr p a) 30) = W1 := ⟨_, rfl⟩
 rw [hW] at HK0
 unfold pkArr at hW ⊢
 have HW := Lib.hid hW
 clear hW
 go_enter Tryz.func29, Tryz.ntmps29
 go_upto_region 1 with fail
 rw [HW.out]
 generalize Value.agg _ = v0
 obtain ⟨g, hg⟩ : ∃ g, w.heap.size = g := ⟨_, rfl⟩
 rw [hg] at HK0 ⊢
 have HK := Lib.hid (KP.new HK0 H.out)
 clear HW HK0 H
 have k0 := fun u : In (KP w g p a) => u.h.k.f0
 have hld := fun u : In (KP w g p a) => load_pk u.h.k
 have st0 := HK.out
 clear HK
 haveI : Nonempty (In (KP w g p a)) := ⟨⟨_, st0⟩⟩
 refine region_in (S := KP w g p a) (by kernel_rfl) (by kernel_rfl) (st0.drewN 1) ?_
 iterate 9 (go_big_quiet_step (fail))
 go_big_quiet_want
 refine quiet_load_in 30 (.tmp 1) rfl g 0 rfl _ hld ?_
 go_simp
 go_big_quiet_on
 repeat (go_big_quiet_step (first | (go_at_call 57; exact in_call ((HFi.out _).mono fun _ _ h => ⟨h.1, KP.below (In.h _) h.2⟩)) | (go_at_call 58; exact in_call ((HFo.out _).mono fun _ _ h => ⟨h.1, by rw [← h.2]; exact In.h _⟩))))
 refine wpQuiet_nil ?_
 rintro _ ⟨⟨w2, st2⟩, rfl⟩
 have HK := Lib.hid st2
 clear this st0 st2 k0 hld HFi HFo hfb hd hd2
 have c0 := HK.out.k.f0
 have c9 := HK.out.k.f9
 go_wp2_with (go_at_call 62; refine (HC.out _).mono ?_; rintro e w' ⟨rfl, rfl⟩)
 go_ret
 exact ⟨rfl, HK.out.b⟩
open Go.RowKit Go.Lib Prp Pkt
theorem mayBe_11 (p : Pk) (a : Ad) (b : Bool) (w : World) (h : PkAt w w.heap.size p a) (hk : p.kind = 11) (hF : fieldB p = true) (hb : mayP p = b) :
  Calls Tryz.prog 29 #[.agg (pkArr p a)] w fun e w' => e = .returned (.bool b) ∧ Below w.heap.size w w' := by
 have H := Lib.hid h
 clear h
 have HC := Lib.hid (fun (W : World) => isCount_is p.cs.length b W ((may_9 (by omega) hF).symm.trans hb))
 clear hb
 obtain ⟨R, hR⟩ : ∃ R, fillZ p = R := ⟨_, rfl⟩
 have HFi := Lib.hid (fun (W : World) => filled_is p a R W hR)
 obtain ⟨G, hG⟩ : ∃ G, fieldsZ p.kind = G := ⟨_, rfl⟩
 have HFo := Lib.hid (fun (W : World) => fieldsOf_is p.kind G W (by omega) (by omega) hG)
 have hfb : (bits .andNot .i64 R G != 0) = !true := fill_at (by omega) (by omega) hR hG hF
 have hd : decide (p.kind < 1) = false := decide_eq_false (by omega)
 have hd2 : decide (15 < p.kind) = false := decide_eq_false (by omega)
 clear hR hG hF
 have e1 : (p.kind == 1) = false := ne_false (by omega)
 have e3 : (p.kind == 3) = false := ne_false (by omega)
 have e8 : (p.kind == 8) = false := ne_false (by omega)
 have e10 : (p.kind == 10) = false := ne_false (by omega)
 have e9 : (p.kind == 9) = false := ne_false (by omega)
 have e11 : (p.kind == 11) = true := beq_iff_eq.2 (by omega)
 clear hk
 have HK0 := Keep.new w 30 (pkArr p a)
 obtain ⟨W1, hW⟩ : ∃ W1, w.alloc (.cells (pkArr p a) 30) = W1 := ⟨_, rfl⟩
 rw [hW] at HK0
 unfold pkArr at hW ⊢
 have HW := Lib.hid hW
 clear hW
 go_enter Tryz.func29, Tryz.ntmps29
 go_upto_region 1 with fail
 rw [HW.out]
 generalize Value.agg _ = v0
 obtain ⟨g, hg⟩ : ∃ g, w.heap.size = g := ⟨_, rfl⟩
 rw [hg] at HK0 ⊢
 have HK := Lib.hid (KP.new HK0 H.out)
 clear HW HK0 H
 have k0 := fun u : In (KP w g p a) => u.h.k.f0
 have hld := fun u : In (KP w g p a) => load_pk u.h.k
 have st0 := HK.out
 clear HK
 haveI : Nonempty (In (KP w g p a)) := ⟨⟨_, st0⟩⟩
 refine region_in (S := KP w g p a) (by kernel_rfl) (by kernel_rfl) (st0.drewN 1) ?_
 iterate 9 (go_big_quiet_step (fail))
 go_big_quiet_want
 refine quiet_load_in 30 (.tmp 1) rfl g 0 rfl _ hld ?_
 go_simp
 go_big_quiet_on
 repeat (go_big_quiet_step (first | (go_at_call 57; exact in_call ((HFi.out _).mono fun _ _ h => ⟨h.1, KP.below (In.h _) h.2⟩)) | (go_at_call 58; exact in_call ((HFo.out _).mono fun _ _ h => ⟨h.1, by rw [← h.2]; exact In.h _⟩))))
 refine wpQuiet_nil ?_
 rintro _ ⟨⟨w2, st2⟩, rfl⟩
 have HK := Lib.hid st2
 clear this st0 st2 k0 hld HFi HFo hfb hd hd2
 have c0 := HK.out.k.f0
 have c9 := HK.out.k.f9
 go_wp2_with (go_at_call 62; refine (HC.out _).mono ?_; rintro e w' ⟨rfl, rfl⟩)
 go_ret
 exact ⟨rfl, HK.out.b⟩
open Go.RowKit Go.Lib Prp Pkt
theorem mayBe_else (p : Pk) (a : Ad) (b : Bool) (w : World) (h : PkAt w w.heap.size p a) (h1 : 1 ≤ p.kind) (h15 : p.kind ≤ 15) (hk : p.kind ≠ 1 ∧ p.kind ≠ 3 ∧ p.kind ≠ 8 ∧ p.kind ≠ 10 ∧ p.kind ≠ 9 ∧ p.kind ≠ 11) (hF : fieldB p = true) (hb : mayP p = b) :
  Calls Tryz.prog 29 #[.agg (pkArr p a)] w fun e w' => e = .returned (.bool b) ∧ Below w.heap.size w w' := by
 have H := Lib.hid h
 clear h
 obtain rfl : true = b := (may_else h1 h15 hk hF).symm.trans hb
 clear hb
 obtain ⟨R, hR⟩ : ∃ R, fillZ p = R := ⟨_, rfl⟩
 have HFi := Lib.hid (fun (W : World) => filled_is p a R W hR)
 obtain ⟨G, hG⟩ : ∃ G, fieldsZ p.kind = G := ⟨_, rfl⟩
 have HFo := Lib.hid (fun (W : World) => fieldsOf_is p.kind G W (by omega) (by omega) hG)
 have hfb : (bits .andNot .i64 R G != 0) = !true := fill_at (by omega) (by omega) hR hG hF
 have hd : decide (p.kind < 1) = false := decide_eq_false (by omega)
 have hd2 : decide (15 < p.kind) = false := decide_eq_false (by omega)
 clear hR hG hF
 have e1 : (p.kind == 1) = false := ne_false (by omega)
 have e3 : (p.kind == 3) = false := ne_false (by omega)
 have e8 : (p.kind == 8) = false := ne_false (by omega)
 have e10 : (p.kind == 10) = false := ne_false (by omega)
 have e9 : (p.kind == 9) = false := ne_false (by omega)
 have e11 : (p.kind == 11) = false := ne_false (by omega)
 clear hk h1 h15
 have HK0 := Keep.new w 30 (pkArr p a)
 obtain ⟨W1, hW⟩ : ∃ W1, w.alloc (.cells (pkArr p a) 30) = W1 := ⟨_, rfl⟩
 rw [hW] at HK0
 unfold pkArr at hW ⊢
 have HW := Lib.hid hW
 clear hW
 go_enter Tryz.func29, Tryz.ntmps29
 go_upto_region 1 with fail
 rw [HW.out]
 generalize Value.agg _ = v0
 obtain ⟨g, hg⟩ : ∃ g, w.heap.size = g := ⟨_, rfl⟩
 rw [hg] at HK0 ⊢
 have HK := Lib.hid (KP.new HK0 H.out)
 clear HW HK0 H
 have k0 := fun u : In (KP w g p a) => u.h.k.f0
 have hld := fun u : In (KP w g p a) => load_pk u.h.k
 have st0 := HK.out
 clear HK
 haveI : Nonempty (In (KP w g p a)) := ⟨⟨_, st0⟩⟩
 refine region_in (S := KP w g p a) (by kernel_rfl) (by kernel_rfl) (st0.drewN 1) ?_
 iterate 9 (go_big_quiet_step (fail))
 go_big_quiet_want
 refine quiet_load_in 30 (.tmp 1) rfl g 0 rfl _ hld ?_
 go_simp
 go_big_quiet_on
 repeat (go_big_quiet_step (first | (go_at_call 57; exact in_call ((HFi.out _).mono fun _ _ h => ⟨h.1, KP.below (In.h _) h.2⟩)) | (go_at_call 58; exact in_call ((HFo.out _).mono fun _ _ h => ⟨h.1, by rw [← h.2]; exact In.h _⟩))))
 refine wpQuiet_nil ?_
 rintro _ ⟨⟨w2, st2⟩, rfl⟩
 have HK := Lib.hid st2
 clear this st0 st2 k0 hld HFi HFo hfb hd hd2
 have c0 := HK.out.k.f0
 go_wp2_with fail
 go_ret
 exact ⟨rfl, HK.out.b⟩
end Go.Proofs.YtdbbcfohjkgdcaaGreat
