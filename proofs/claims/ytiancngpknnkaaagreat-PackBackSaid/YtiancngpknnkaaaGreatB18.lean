/- Package pack: the parts of a packet: an acknowledgement. -/
import Derived.Test.YtiancngpknnkaaaGreatB17
set_option maxRecDepth 100000
set_option maxHeartbeats 64000000
namespace Go.Proofs.YtiancngpknnkaaaGreat
open Go.RowKit Go.Lib Prp Pkt Vbi Txt
theorem partsOf_4 (p : Pk) (a : Ad) (w : World) (hf : PkFit p a) (h : PkAt w w.heap.size p a) (hk : p.kind = 4) :
    Calls Tryz.prog 45 #[.agg (pkArr p a)] w (GivesParts ([.number p.id] ++ reasonL p) w.heap.size w) := by
  have H := Lib.hid h
  have HR := Lib.hid (fun (W : World) (hC : w.heap.size ≤ W.heap.size) (h : PkAt W w.heap.size p a) => reasonParts_is p a w.heap.size W hC hf h)
  have hrl : (reasonL p).length ≤ 2 := by unfold reasonL; repeat' split
                                          all_goals simp
  have e1 : (p.kind == 1) = false := ne_false (by omega)
  have e2 : (p.kind == 2) = false := ne_false (by omega)
  have e3 : (p.kind == 3) = false := ne_false (by omega)
  have e4 : (p.kind == 4) = true := beq_iff_eq.2 (by omega)
  clear h hk
  have HK0 := Keep.new w 30 (pkArr p a)
  obtain ⟨W1, hW⟩ : ∃ W1, w.alloc (.cells (pkArr p a) 30) = W1 := ⟨_, rfl⟩
  rw [hW] at HK0
  unfold pkArr at hW ⊢
  have HW := Lib.hid hW
  clear hW
  go_enter Tryz.func45, Tryz.ntmps45
  go_upto_region 1 with fail
  rw [HW.out]
  generalize Value.agg _ = v0
  obtain ⟨g, hg⟩ : ∃ g, w.heap.size = g := ⟨_, rfl⟩
  rw [hg] at HK0 ⊢
  have HK := Lib.hid (KP.new HK0 H.out)
  clear HW HK0 H
  have HG := Lib.hid hg
  clear hg
  have c0 := HK.out.k.f0
  go_upto_region 14 with fail
  have st0 := HK.out
  clear HK c0
  refine wp_region_held_drew (S := KP w g p a) (by kernel_rfl) (st0.drewN 1) (fun hHeld => ?_)
  generalize W1.drew = Wd at hHeld ⊢
  refine take_op 0 64 ?v0x1 rfl rfl (by kernel_rfl) (fun _ _ _ h => h) (by rfl) (by assumption) (fun w' hS' => ?hv0x1) ?h0x1
  case hv0x1 => (go_simp; try with_reducible rfl)
  simp only [Act.put, List.setIfInBounds_toArray, List.set_cons_zero, List.set_cons_succ]
  refine take_op 1 65 ?v1x2 rfl rfl (by kernel_rfl) (fun _ _ _ h => h) (by rfl) (by assumption) (fun w' hS' => ?hv1x2) ?h1x2
  case hv1x2 => (have k := hS'.k.f4; go_simp; try with_reducible rfl)
  simp only [Act.put, List.setIfInBounds_toArray, List.set_cons_zero, List.set_cons_succ]
  refine take_op 2 66 ?v2x3 rfl rfl (by kernel_rfl) (fun _ _ _ h => h) (by rfl) (by assumption) (fun w' hS' => ?hv2x3) ?h2x3
  case hv2x3 => (go_simp; try with_reducible rfl)
  simp only [Act.put, List.setIfInBounds_toArray, List.set_cons_zero, List.set_cons_succ]
  refine take_load 4 68 30 (.tmp 1) g 0 (.agg (pkArr p a)) rfl rfl (by kernel_rfl) (fun _ _ _ h => h) (by rfl) (by assumption) rfl rfl (fun w' hS' => load_pk hS'.k) ?_
  simp only [Act.put, List.setIfInBounds_toArray, List.set_cons_zero, List.set_cons_succ]
  refine two_ops 3 5 rfl rfl (by kernel_rfl) (by rfl) (by rfl) ?_ ?_
  · have st2 := hHeld.alloc (.cells [.iface 119 (.int .i64 p.id)].toArray 20)
    refine wp_made 67 (.slice (some ⟨Wd.heap.size, 0, none⟩) 1 1) rfl (by go_simp) ⟨st2, ?_⟩
    simp only [Act.put, List.setIfInBounds_toArray, List.set_cons_zero, List.set_cons_succ]
    have hown := lit_ownp Wd (w.heap.size + 1) w.heap.size [.iface 119 (.int .i64 p.id)] [.number p.id] 1 (hHeld.room HG.out) hHeld.b.size rfl rfl (by decide) (fun j x y => by
      match j, x, y with
      | 0, _, _ => exact ⟨rfl, hf.id.2⟩)
    refine only_op 5 rfl (by kernel_rfl) (by rfl) (wp_call_ex 69 83 #[.agg (pkArr p a)] _ rfl (by go_simp) (HR.out _ st2.b.size st2.out.2) ?_)
    rintro e w2 ⟨A, c, rfl, hA, hpa, hb⟩
    have st4 := st2.below hb
    have hown2 := hown.below st2.b.size hb
    refine ⟨_, rfl, st4, ?_⟩
    simp only [Act.put, List.setIfInBounds_toArray, List.set_cons_zero, List.set_cons_succ]
    refine only_op 6 rfl (by kernel_rfl) (by rfl) (wp_append_parts 70 (.tmp 67) (.tmp 69) rfl rfl rfl rfl hA hown2 hpa (by omega) (st4.room HG.out) (by simp; omega) (fun v' w3 hown3 hb3 => ⟨st4.grown HG.out hb3, ?_⟩))
    simp only [Act.put, List.setIfInBounds_toArray, List.set_cons_zero, List.set_cons_succ]
    have st3 := st4.grown HG.out hb3
    refine take_op 7 2 ?v7x4 rfl rfl (by kernel_rfl) (fun _ _ _ h => h) (by rfl) (by assumption) (fun w' hS' => ?hv7x4) ?h7x4
    case hv7x4 => (go_simp; try with_reducible rfl)
    simp only [Act.put, List.setIfInBounds_toArray, List.set_cons_zero, List.set_cons_succ]
    refine wpAnyH_done (by kernel_rfl) ?_ _
    have HO := Lib.hid (hown3.gives st3.b)
    clear hown3 st3 hb3
    go_wp2_with fail
    go_ret
    exact HO.out
  · refine wp_call_ex 69 83 #[.agg (pkArr p a)] _ rfl (by go_simp) (HR.out _ hHeld.b.size hHeld.out.2) ?_
    rintro e w2 ⟨A, c, rfl, hA, hpa, hb⟩
    have st4 := hHeld.below hb
    refine ⟨_, rfl, st4, ?_⟩
    simp only [Act.put, List.setIfInBounds_toArray, List.set_cons_zero, List.set_cons_succ]
    have st5 := st4.alloc (.cells [.iface 119 (.int .i64 p.id)].toArray 20)
    have hown := lit_ownp w2 (w.heap.size + 1) w.heap.size [.iface 119 (.int .i64 p.id)] [.number p.id] 1 (st4.room HG.out) st4.b.size rfl rfl (by decide) (fun j x y => by
      match j, x, y with
      | 0, _, _ => exact ⟨rfl, hf.id.2⟩)
    refine only_op 3 rfl (by kernel_rfl) (by rfl) (wp_made 67 (.slice (some ⟨w2.heap.size, 0, none⟩) 1 1) rfl (by go_simp) ⟨st5, ?_⟩)
    simp only [Act.put, List.setIfInBounds_toArray, List.set_cons_zero, List.set_cons_succ]
    refine only_op 6 rfl (by kernel_rfl) (by rfl) (wp_append_parts 70 (.tmp 67) (.tmp 69) rfl rfl rfl rfl hA hown ((hpa.below st4.b.size ((Below.refl _ _).alloc (Nat.le_refl _) _)).mono (by rw [World.size_alloc]; omega)) (by omega) (st5.room HG.out) (by simp; omega) (fun v' w3 hown3 hb3 => ⟨st5.grown HG.out hb3, ?_⟩))
    simp only [Act.put, List.setIfInBounds_toArray, List.set_cons_zero, List.set_cons_succ]
    have st3 := st5.grown HG.out hb3
    refine take_op 7 2 ?v7x5 rfl rfl (by kernel_rfl) (fun _ _ _ h => h) (by rfl) (by assumption) (fun w' hS' => ?hv7x5) ?h7x5
    case hv7x5 => (go_simp; try with_reducible rfl)
    simp only [Act.put, List.setIfInBounds_toArray, List.set_cons_zero, List.set_cons_succ]
    refine wpAnyH_done (by kernel_rfl) ?_ _
    have HO := Lib.hid (hown3.gives st3.b)
    clear hown3 st3 hb3
    go_wp2_with fail
    go_ret
    exact HO.out
theorem partsOf_5 (p : Pk) (a : Ad) (w : World) (hf : PkFit p a) (h : PkAt w w.heap.size p a) (hk : p.kind = 5) :
    Calls Tryz.prog 45 #[.agg (pkArr p a)] w (GivesParts ([.number p.id] ++ reasonL p) w.heap.size w) := by
  have H := Lib.hid h
  have HR := Lib.hid (fun (W : World) (hC : w.heap.size ≤ W.heap.size) (h : PkAt W w.heap.size p a) => reasonParts_is p a w.heap.size W hC hf h)
  have hrl : (reasonL p).length ≤ 2 := by unfold reasonL; repeat' split
                                          all_goals simp
  have e1 : (p.kind == 1) = false := ne_false (by omega)
  have e2 : (p.kind == 2) = false := ne_false (by omega)
  have e3 : (p.kind == 3) = false := ne_false (by omega)
  have e4 : (p.kind == 4) = false := ne_false (by omega)
  have e5 : (p.kind == 5) = true := beq_iff_eq.2 (by omega)
  clear h hk
  have HK0 := Keep.new w 30 (pkArr p a)
  obtain ⟨W1, hW⟩ : ∃ W1, w.alloc (.cells (pkArr p a) 30) = W1 := ⟨_, rfl⟩
  rw [hW] at HK0
  unfold pkArr at hW ⊢
  have HW := Lib.hid hW
  clear hW
  go_enter Tryz.func45, Tryz.ntmps45
  go_upto_region 1 with fail
  rw [HW.out]
  generalize Value.agg _ = v0
  obtain ⟨g, hg⟩ : ∃ g, w.heap.size = g := ⟨_, rfl⟩
  rw [hg] at HK0 ⊢
  have HK := Lib.hid (KP.new HK0 H.out)
  clear HW HK0 H
  have HG := Lib.hid hg
  clear hg
  have c0 := HK.out.k.f0
  go_upto_region 14 with fail
  have st0 := HK.out
  clear HK c0
  refine wp_region_held_drew (S := KP w g p a) (by kernel_rfl) (st0.drewN 1) (fun hHeld => ?_)
  generalize W1.drew = Wd at hHeld ⊢
  refine take_op 0 64 ?v0x6 rfl rfl (by kernel_rfl) (fun _ _ _ h => h) (by rfl) (by assumption) (fun w' hS' => ?hv0x6) ?h0x6
  case hv0x6 => (go_simp; try with_reducible rfl)
  simp only [Act.put, List.setIfInBounds_toArray, List.set_cons_zero, List.set_cons_succ]
  refine take_op 1 65 ?v1x7 rfl rfl (by kernel_rfl) (fun _ _ _ h => h) (by rfl) (by assumption) (fun w' hS' => ?hv1x7) ?h1x7
  case hv1x7 => (have k := hS'.k.f4; go_simp; try with_reducible rfl)
  simp only [Act.put, List.setIfInBounds_toArray, List.set_cons_zero, List.set_cons_succ]
  refine take_op 2 66 ?v2x8 rfl rfl (by kernel_rfl) (fun _ _ _ h => h) (by rfl) (by assumption) (fun w' hS' => ?hv2x8) ?h2x8
  case hv2x8 => (go_simp; try with_reducible rfl)
  simp only [Act.put, List.setIfInBounds_toArray, List.set_cons_zero, List.set_cons_succ]
  refine take_load 4 68 30 (.tmp 1) g 0 (.agg (pkArr p a)) rfl rfl (by kernel_rfl) (fun _ _ _ h => h) (by rfl) (by assumption) rfl rfl (fun w' hS' => load_pk hS'.k) ?_
  simp only [Act.put, List.setIfInBounds_toArray, List.set_cons_zero, List.set_cons_succ]
  refine two_ops 3 5 rfl rfl (by kernel_rfl) (by rfl) (by rfl) ?_ ?_
  · have st2 := hHeld.alloc (.cells [.iface 119 (.int .i64 p.id)].toArray 20)
    refine wp_made 67 (.slice (some ⟨Wd.heap.size, 0, none⟩) 1 1) rfl (by go_simp) ⟨st2, ?_⟩
    simp only [Act.put, List.setIfInBounds_toArray, List.set_cons_zero, List.set_cons_succ]
    have hown := lit_ownp Wd (w.heap.size + 1) w.heap.size [.iface 119 (.int .i64 p.id)] [.number p.id] 1 (hHeld.room HG.out) hHeld.b.size rfl rfl (by decide) (fun j x y => by
      match j, x, y with
      | 0, _, _ => exact ⟨rfl, hf.id.2⟩)
    refine only_op 5 rfl (by kernel_rfl) (by rfl) (wp_call_ex 69 83 #[.agg (pkArr p a)] _ rfl (by go_simp) (HR.out _ st2.b.size st2.out.2) ?_)
    rintro e w2 ⟨A, c, rfl, hA, hpa, hb⟩
    have st4 := st2.below hb
    have hown2 := hown.below st2.b.size hb
    refine ⟨_, rfl, st4, ?_⟩
    simp only [Act.put, List.setIfInBounds_toArray, List.set_cons_zero, List.set_cons_succ]
    refine only_op 6 rfl (by kernel_rfl) (by rfl) (wp_append_parts 70 (.tmp 67) (.tmp 69) rfl rfl rfl rfl hA hown2 hpa (by omega) (st4.room HG.out) (by simp; omega) (fun v' w3 hown3 hb3 => ⟨st4.grown HG.out hb3, ?_⟩))
    simp only [Act.put, List.setIfInBounds_toArray, List.set_cons_zero, List.set_cons_succ]
    have st3 := st4.grown HG.out hb3
    refine take_op 7 2 ?v7x9 rfl rfl (by kernel_rfl) (fun _ _ _ h => h) (by rfl) (by assumption) (fun w' hS' => ?hv7x9) ?h7x9
    case hv7x9 => (go_simp; try with_reducible rfl)
    simp only [Act.put, List.setIfInBounds_toArray, List.set_cons_zero, List.set_cons_succ]
    refine wpAnyH_done (by kernel_rfl) ?_ _
    have HO := Lib.hid (hown3.gives st3.b)
    clear hown3 st3 hb3
    go_wp2_with fail
    go_ret
    exact HO.out
  · refine wp_call_ex 69 83 #[.agg (pkArr p a)] _ rfl (by go_simp) (HR.out _ hHeld.b.size hHeld.out.2) ?_
    rintro e w2 ⟨A, c, rfl, hA, hpa, hb⟩
    have st4 := hHeld.below hb
    refine ⟨_, rfl, st4, ?_⟩
    simp only [Act.put, List.setIfInBounds_toArray, List.set_cons_zero, List.set_cons_succ]
    have st5 := st4.alloc (.cells [.iface 119 (.int .i64 p.id)].toArray 20)
    have hown := lit_ownp w2 (w.heap.size + 1) w.heap.size [.iface 119 (.int .i64 p.id)] [.number p.id] 1 (st4.room HG.out) st4.b.size rfl rfl (by decide) (fun j x y => by
      match j, x, y with
      | 0, _, _ => exact ⟨rfl, hf.id.2⟩)
    refine only_op 3 rfl (by kernel_rfl) (by rfl) (wp_made 67 (.slice (some ⟨w2.heap.size, 0, none⟩) 1 1) rfl (by go_simp) ⟨st5, ?_⟩)
    simp only [Act.put, List.setIfInBounds_toArray, List.set_cons_zero, List.set_cons_succ]
    refine only_op 6 rfl (by kernel_rfl) (by rfl) (wp_append_parts 70 (.tmp 67) (.tmp 69) rfl rfl rfl rfl hA hown ((hpa.below st4.b.size ((Below.refl _ _).alloc (Nat.le_refl _) _)).mono (by rw [World.size_alloc]; omega)) (by omega) (st5.room HG.out) (by simp; omega) (fun v' w3 hown3 hb3 => ⟨st5.grown HG.out hb3, ?_⟩))
    simp only [Act.put, List.setIfInBounds_toArray, List.set_cons_zero, List.set_cons_succ]
    have st3 := st5.grown HG.out hb3
    refine take_op 7 2 ?v7x10 rfl rfl (by kernel_rfl) (fun _ _ _ h => h) (by rfl) (by assumption) (fun w' hS' => ?hv7x10) ?h7x10
    case hv7x10 => (go_simp; try with_reducible rfl)
    simp only [Act.put, List.setIfInBounds_toArray, List.set_cons_zero, List.set_cons_succ]
    refine wpAnyH_done (by kernel_rfl) ?_ _
    have HO := Lib.hid (hown3.gives st3.b)
    clear hown3 st3 hb3
    go_wp2_with fail
    go_ret
    exact HO.out
theorem partsOf_6 (p : Pk) (a : Ad) (w : World) (hf : PkFit p a) (h : PkAt w w.heap.size p a) (hk : p.kind = 6) :
    Calls Tryz.prog 45 #[.agg (pkArr p a)] w (GivesParts ([.number p.id] ++ reasonL p) w.heap.size w) := by
  have H := Lib.hid h
  have HR := Lib.hid (fun (W : World) (hC : w.heap.size ≤ W.heap.size) (h : PkAt W w.heap.size p a) => reasonParts_is p a w.heap.size W hC hf h)
  have hrl : (reasonL p).length ≤ 2 := by unfold reasonL; repeat' split
                                          all_goals simp
  have e1 : (p.kind == 1) = false := ne_false (by omega)
  have e2 : (p.kind == 2) = false := ne_false (by omega)
  have e3 : (p.kind == 3) = false := ne_false (by omega)
  have e4 : (p.kind == 4) = false := ne_false (by omega)
  have e5 : (p.kind == 5) = false := ne_false (by omega)
  have e6 : (p.kind == 6) = true := beq_iff_eq.2 (by omega)
  clear h hk
  have HK0 := Keep.new w 30 (pkArr p a)
  obtain ⟨W1, hW⟩ : ∃ W1, w.alloc (.cells (pkArr p a) 30) = W1 := ⟨_, rfl⟩
  rw [hW] at HK0
  unfold pkArr at hW ⊢
  have HW := Lib.hid hW
  clear hW
  go_enter Tryz.func45, Tryz.ntmps45
  go_upto_region 1 with fail
  rw [HW.out]
  generalize Value.agg _ = v0
  obtain ⟨g, hg⟩ : ∃ g, w.heap.size = g := ⟨_, rfl⟩
  rw [hg] at HK0 ⊢
  have HK := Lib.hid (KP.new HK0 H.out)
  clear HW HK0 H
  have HG := Lib.hid hg
  clear hg
  have c0 := HK.out.k.f0
  go_upto_region 14 with fail
  have st0 := HK.out
  clear HK c0
  refine wp_region_held_drew (S := KP w g p a) (by kernel_rfl) (st0.drewN 1) (fun hHeld => ?_)
  generalize W1.drew = Wd at hHeld ⊢
  refine take_op 0 64 ?v0x11 rfl rfl (by kernel_rfl) (fun _ _ _ h => h) (by rfl) (by assumption) (fun w' hS' => ?hv0x11) ?h0x11
  case hv0x11 => (go_simp; try with_reducible rfl)
  simp only [Act.put, List.setIfInBounds_toArray, List.set_cons_zero, List.set_cons_succ]
  refine take_op 1 65 ?v1x12 rfl rfl (by kernel_rfl) (fun _ _ _ h => h) (by rfl) (by assumption) (fun w' hS' => ?hv1x12) ?h1x12
  case hv1x12 => (have k := hS'.k.f4; go_simp; try with_reducible rfl)
  simp only [Act.put, List.setIfInBounds_toArray, List.set_cons_zero, List.set_cons_succ]
  refine take_op 2 66 ?v2x13 rfl rfl (by kernel_rfl) (fun _ _ _ h => h) (by rfl) (by assumption) (fun w' hS' => ?hv2x13) ?h2x13
  case hv2x13 => (go_simp; try with_reducible rfl)
  simp only [Act.put, List.setIfInBounds_toArray, List.set_cons_zero, List.set_cons_succ]
  refine take_load 4 68 30 (.tmp 1) g 0 (.agg (pkArr p a)) rfl rfl (by kernel_rfl) (fun _ _ _ h => h) (by rfl) (by assumption) rfl rfl (fun w' hS' => load_pk hS'.k) ?_
  simp only [Act.put, List.setIfInBounds_toArray, List.set_cons_zero, List.set_cons_succ]
  refine two_ops 3 5 rfl rfl (by kernel_rfl) (by rfl) (by rfl) ?_ ?_
  · have st2 := hHeld.alloc (.cells [.iface 119 (.int .i64 p.id)].toArray 20)
    refine wp_made 67 (.slice (some ⟨Wd.heap.size, 0, none⟩) 1 1) rfl (by go_simp) ⟨st2, ?_⟩
    simp only [Act.put, List.setIfInBounds_toArray, List.set_cons_zero, List.set_cons_succ]
    have hown := lit_ownp Wd (w.heap.size + 1) w.heap.size [.iface 119 (.int .i64 p.id)] [.number p.id] 1 (hHeld.room HG.out) hHeld.b.size rfl rfl (by decide) (fun j x y => by
      match j, x, y with
      | 0, _, _ => exact ⟨rfl, hf.id.2⟩)
    refine only_op 5 rfl (by kernel_rfl) (by rfl) (wp_call_ex 69 83 #[.agg (pkArr p a)] _ rfl (by go_simp) (HR.out _ st2.b.size st2.out.2) ?_)
    rintro e w2 ⟨A, c, rfl, hA, hpa, hb⟩
    have st4 := st2.below hb
    have hown2 := hown.below st2.b.size hb
    refine ⟨_, rfl, st4, ?_⟩
    simp only [Act.put, List.setIfInBounds_toArray, List.set_cons_zero, List.set_cons_succ]
    refine only_op 6 rfl (by kernel_rfl) (by rfl) (wp_append_parts 70 (.tmp 67) (.tmp 69) rfl rfl rfl rfl hA hown2 hpa (by omega) (st4.room HG.out) (by simp; omega) (fun v' w3 hown3 hb3 => ⟨st4.grown HG.out hb3, ?_⟩))
    simp only [Act.put, List.setIfInBounds_toArray, List.set_cons_zero, List.set_cons_succ]
    have st3 := st4.grown HG.out hb3
    refine take_op 7 2 ?v7x14 rfl rfl (by kernel_rfl) (fun _ _ _ h => h) (by rfl) (by assumption) (fun w' hS' => ?hv7x14) ?h7x14
    case hv7x14 => (go_simp; try with_reducible rfl)
    simp only [Act.put, List.setIfInBounds_toArray, List.set_cons_zero, List.set_cons_succ]
    refine wpAnyH_done (by kernel_rfl) ?_ _
    have HO := Lib.hid (hown3.gives st3.b)
    clear hown3 st3 hb3
    go_wp2_with fail
    go_ret
    exact HO.out
  · refine wp_call_ex 69 83 #[.agg (pkArr p a)] _ rfl (by go_simp) (HR.out _ hHeld.b.size hHeld.out.2) ?_
    rintro e w2 ⟨A, c, rfl, hA, hpa, hb⟩
    have st4 := hHeld.below hb
    refine ⟨_, rfl, st4, ?_⟩
    simp only [Act.put, List.setIfInBounds_toArray, List.set_cons_zero, List.set_cons_succ]
    have st5 := st4.alloc (.cells [.iface 119 (.int .i64 p.id)].toArray 20)
    have hown := lit_ownp w2 (w.heap.size + 1) w.heap.size [.iface 119 (.int .i64 p.id)] [.number p.id] 1 (st4.room HG.out) st4.b.size rfl rfl (by decide) (fun j x y => by
      match j, x, y with
      | 0, _, _ => exact ⟨rfl, hf.id.2⟩)
    refine only_op 3 rfl (by kernel_rfl) (by rfl) (wp_made 67 (.slice (some ⟨w2.heap.size, 0, none⟩) 1 1) rfl (by go_simp) ⟨st5, ?_⟩)
    simp only [Act.put, List.setIfInBounds_toArray, List.set_cons_zero, List.set_cons_succ]
    refine only_op 6 rfl (by kernel_rfl) (by rfl) (wp_append_parts 70 (.tmp 67) (.tmp 69) rfl rfl rfl rfl hA hown ((hpa.below st4.b.size ((Below.refl _ _).alloc (Nat.le_refl _) _)).mono (by rw [World.size_alloc]; omega)) (by omega) (st5.room HG.out) (by simp; omega) (fun v' w3 hown3 hb3 => ⟨st5.grown HG.out hb3, ?_⟩))
    simp only [Act.put, List.setIfInBounds_toArray, List.set_cons_zero, List.set_cons_succ]
    have st3 := st5.grown HG.out hb3
    refine take_op 7 2 ?v7x15 rfl rfl (by kernel_rfl) (fun _ _ _ h => h) (by rfl) (by assumption) (fun w' hS' => ?hv7x15) ?h7x15
    case hv7x15 => (go_simp; try with_reducible rfl)
    simp only [Act.put, List.setIfInBounds_toArray, List.set_cons_zero, List.set_cons_succ]
    refine wpAnyH_done (by kernel_rfl) ?_ _
    have HO := Lib.hid (hown3.gives st3.b)
    clear hown3 st3 hb3
    go_wp2_with fail
    go_ret
    exact HO.out
theorem partsOf_7 (p : Pk) (a : Ad) (w : World) (hf : PkFit p a) (h : PkAt w w.heap.size p a) (hk : p.kind = 7) :
    Calls Tryz.prog 45 #[.agg (pkArr p a)] w (GivesParts ([.number p.id] ++ reasonL p) w.heap.size w) := by
  have H := Lib.hid h
  have HR := Lib.hid (fun (W : World) (hC : w.heap.size ≤ W.heap.size) (h : PkAt W w.heap.size p a) => reasonParts_is p a w.heap.size W hC hf h)
  have hrl : (reasonL p).length ≤ 2 := by unfold reasonL; repeat' split
                                          all_goals simp
  have e1 : (p.kind == 1) = false := ne_false (by omega)
  have e2 : (p.kind == 2) = false := ne_false (by omega)
  have e3 : (p.kind == 3) = false := ne_false (by omega)
  have e4 : (p.kind == 4) = false := ne_false (by omega)
  have e5 : (p.kind == 5) = false := ne_false (by omega)
  have e6 : (p.kind == 6) = false := ne_false (by omega)
  have e7 : (p.kind == 7) = true := beq_iff_eq.2 (by omega)
  clear h hk
  have HK0 := Keep.new w 30 (pkArr p a)
  obtain ⟨W1, hW⟩ : ∃ W1, w.alloc (.cells (pkArr p a) 30) = W1 := ⟨_, rfl⟩
  rw [hW] at HK0
  unfold pkArr at hW ⊢
  have HW := Lib.hid hW
  clear hW
  go_enter Tryz.func45, Tryz.ntmps45
  go_upto_region 1 with fail
  rw [HW.out]
  generalize Value.agg _ = v0
  obtain ⟨g, hg⟩ : ∃ g, w.heap.size = g := ⟨_, rfl⟩
  rw [hg] at HK0 ⊢
  have HK := Lib.hid (KP.new HK0 H.out)
  clear HW HK0 H
  have HG := Lib.hid hg
  clear hg
  have c0 := HK.out.k.f0
  go_upto_region 14 with fail
  have st0 := HK.out
  clear HK c0
  refine wp_region_held_drew (S := KP w g p a) (by kernel_rfl) (st0.drewN 1) (fun hHeld => ?_)
  generalize W1.drew = Wd at hHeld ⊢
  refine take_op 0 64 ?v0x16 rfl rfl (by kernel_rfl) (fun _ _ _ h => h) (by rfl) (by assumption) (fun w' hS' => ?hv0x16) ?h0x16
  case hv0x16 => (go_simp; try with_reducible rfl)
  simp only [Act.put, List.setIfInBounds_toArray, List.set_cons_zero, List.set_cons_succ]
  refine take_op 1 65 ?v1x17 rfl rfl (by kernel_rfl) (fun _ _ _ h => h) (by rfl) (by assumption) (fun w' hS' => ?hv1x17) ?h1x17
  case hv1x17 => (have k := hS'.k.f4; go_simp; try with_reducible rfl)
  simp only [Act.put, List.setIfInBounds_toArray, List.set_cons_zero, List.set_cons_succ]
  refine take_op 2 66 ?v2x18 rfl rfl (by kernel_rfl) (fun _ _ _ h => h) (by rfl) (by assumption) (fun w' hS' => ?hv2x18) ?h2x18
  case hv2x18 => (go_simp; try with_reducible rfl)
  simp only [Act.put, List.setIfInBounds_toArray, List.set_cons_zero, List.set_cons_succ]
  refine take_load 4 68 30 (.tmp 1) g 0 (.agg (pkArr p a)) rfl rfl (by kernel_rfl) (fun _ _ _ h => h) (by rfl) (by assumption) rfl rfl (fun w' hS' => load_pk hS'.k) ?_
  simp only [Act.put, List.setIfInBounds_toArray, List.set_cons_zero, List.set_cons_succ]
  refine two_ops 3 5 rfl rfl (by kernel_rfl) (by rfl) (by rfl) ?_ ?_
  · have st2 := hHeld.alloc (.cells [.iface 119 (.int .i64 p.id)].toArray 20)
    refine wp_made 67 (.slice (some ⟨Wd.heap.size, 0, none⟩) 1 1) rfl (by go_simp) ⟨st2, ?_⟩
    simp only [Act.put, List.setIfInBounds_toArray, List.set_cons_zero, List.set_cons_succ]
    have hown := lit_ownp Wd (w.heap.size + 1) w.heap.size [.iface 119 (.int .i64 p.id)] [.number p.id] 1 (hHeld.room HG.out) hHeld.b.size rfl rfl (by decide) (fun j x y => by
      match j, x, y with
      | 0, _, _ => exact ⟨rfl, hf.id.2⟩)
    refine only_op 5 rfl (by kernel_rfl) (by rfl) (wp_call_ex 69 83 #[.agg (pkArr p a)] _ rfl (by go_simp) (HR.out _ st2.b.size st2.out.2) ?_)
    rintro e w2 ⟨A, c, rfl, hA, hpa, hb⟩
    have st4 := st2.below hb
    have hown2 := hown.below st2.b.size hb
    refine ⟨_, rfl, st4, ?_⟩
    simp only [Act.put, List.setIfInBounds_toArray, List.set_cons_zero, List.set_cons_succ]
    refine only_op 6 rfl (by kernel_rfl) (by rfl) (wp_append_parts 70 (.tmp 67) (.tmp 69) rfl rfl rfl rfl hA hown2 hpa (by omega) (st4.room HG.out) (by simp; omega) (fun v' w3 hown3 hb3 => ⟨st4.grown HG.out hb3, ?_⟩))
    simp only [Act.put, List.setIfInBounds_toArray, List.set_cons_zero, List.set_cons_succ]
    have st3 := st4.grown HG.out hb3
    refine take_op 7 2 ?v7x19 rfl rfl (by kernel_rfl) (fun _ _ _ h => h) (by rfl) (by assumption) (fun w' hS' => ?hv7x19) ?h7x19
    case hv7x19 => (go_simp; try with_reducible rfl)
    simp only [Act.put, List.setIfInBounds_toArray, List.set_cons_zero, List.set_cons_succ]
    refine wpAnyH_done (by kernel_rfl) ?_ _
    have HO := Lib.hid (hown3.gives st3.b)
    clear hown3 st3 hb3
    go_wp2_with fail
    go_ret
    exact HO.out
  · refine wp_call_ex 69 83 #[.agg (pkArr p a)] _ rfl (by go_simp) (HR.out _ hHeld.b.size hHeld.out.2) ?_
    rintro e w2 ⟨A, c, rfl, hA, hpa, hb⟩
    have st4 := hHeld.below hb
    refine ⟨_, rfl, st4, ?_⟩
    simp only [Act.put, List.setIfInBounds_toArray, List.set_cons_zero, List.set_cons_succ]
    have st5 := st4.alloc (.cells [.iface 119 (.int .i64 p.id)].toArray 20)
    have hown := lit_ownp w2 (w.heap.size + 1) w.heap.size [.iface 119 (.int .i64 p.id)] [.number p.id] 1 (st4.room HG.out) st4.b.size rfl rfl (by decide) (fun j x y => by
      match j, x, y with
      | 0, _, _ => exact ⟨rfl, hf.id.2⟩)
    refine only_op 3 rfl (by kernel_rfl) (by rfl) (wp_made 67 (.slice (some ⟨w2.heap.size, 0, none⟩) 1 1) rfl (by go_simp) ⟨st5, ?_⟩)
    simp only [Act.put, List.setIfInBounds_toArray, List.set_cons_zero, List.set_cons_succ]
    refine only_op 6 rfl (by kernel_rfl) (by rfl) (wp_append_parts 70 (.tmp 67) (.tmp 69) rfl rfl rfl rfl hA hown ((hpa.below st4.b.size ((Below.refl _ _).alloc (Nat.le_refl _) _)).mono (by rw [World.size_alloc]; omega)) (by omega) (st5.room HG.out) (by simp; omega) (fun v' w3 hown3 hb3 => ⟨st5.grown HG.out hb3, ?_⟩))
    simp only [Act.put, List.setIfInBounds_toArray, List.set_cons_zero, List.set_cons_succ]
    have st3 := st5.grown HG.out hb3
    refine take_op 7 2 ?v7x20 rfl rfl (by kernel_rfl) (fun _ _ _ h => h) (by rfl) (by assumption) (fun w' hS' => ?hv7x20) ?h7x20
    case hv7x20 => (go_simp; try with_reducible rfl)
    simp only [Act.put, List.setIfInBounds_toArray, List.set_cons_zero, List.set_cons_succ]
    refine wpAnyH_done (by kernel_rfl) ?_ _
    have HO := Lib.hid (hown3.gives st3.b)
    clear hown3 st3 hb3
    go_wp2_with fail
    go_ret
    exact HO.out
end Go.Proofs.YtiancngpknnkaaaGreat
