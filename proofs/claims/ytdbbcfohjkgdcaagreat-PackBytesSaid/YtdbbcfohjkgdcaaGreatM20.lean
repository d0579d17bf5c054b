/- Package pack: the parts of a packet: an acknowledgement. -/
import Derived.Test.YtdbbcfohjkgdcaaGreatM00
import Derived.Test.YtdbbcfohjkgdcaaGreatM15
set_option maxRecDepth 100000
set_option maxHeartbeats 64000000
namespace Go.Proofs.YtdbbcfohjkgdcaaGreat
open Go.RowKit Go.Lib Prp Pkt Vbi Txt
theorem news_at (w : World) (T : TypeId) (cs : List Value) (j : Nat) (u : Value) (h : cs[j]? = some u) : (w.alloc (.cells cs.toArray T)).cell? ((⟨w.heap.size, 0, none⟩ : Addr).add j) = some u := by
 rw [add_new, cell_of_row (w.alloc _) w.heap.size j _ _ (0, 0) (heap_alloc_new w _)]
 simpa using h
theorem lit_own (w : World) (base : Nat) (vs : List Value) (n : Nat) (T : TypeId) (hb : base ≤ w.heap.size) (hn : vs.length = n) (hm : n ≤ 1000) : (w.alloc (.cells vs.toArray T)).ownsRow base T 1 (.slice (some ⟨w.heap.size, 0, none⟩) n n) n vs := by
 refine ⟨by omega, .inr ⟨w.heap.size, n, vs.toArray, rfl, hb, heap_alloc_new w _, Nat.le_refl _, by unfold maxLen; omega, by simp [hn], ?_⟩⟩
 rw [Nat.mul_one, ← hn]; simp
theorem lit_ownp (w : World) (base C : Nat) (vs : List Value) (l : List Part) (n : Nat) (hb : base ≤ w.heap.size) (hC : C ≤ w.heap.size) (hn : vs.length = n) (hl : l.length = n) (hm : n ≤ 1000) (h : ∀ j (_ : j < vs.length) (_ : j < l.length), PV w C vs[j] l[j]) :
  OwnParts (w.alloc (.cells vs.toArray 20)) base C (.slice (some ⟨w.heap.size, 0, none⟩) n n) l :=
 ⟨vs, by omega, by rw [hl]; exact lit_own w base vs n _ hb hn hm, fun j x y => (h j x y).below ((Below.refl _ _).alloc hC _)⟩
theorem connectParts_is (p : Pk) (a : Ad) (C : Nat) (w : World) (hC : C ≤ w.heap.size) (h0 : 0 ≤ p.w.q) (h3 : p.w.q ≤ 3) (h : PkAt w C p a) (hf : PkFit p a) :
  Calls Tryz.prog 66 #[.agg (pkArr p a)] w (GivesParts (connectL p) C w) := by
 obtain ⟨i0, hi, hz0, hz1, hz2⟩ := info_parts info_any
 have H := Lib.hid (h.mono hC)
 have HCP := Lib.hid h
 obtain ⟨z, hz⟩ : ∃ z, loginZ p = z := ⟨_, rfl⟩
 have HC := Lib.hid (fun W => connectFlags_is p a z W h0 h3 hz)
 have HZ := Lib.hid hz
 clear h hz
 have HK0 := Keep.new w 30 (pkArr p a)
 obtain ⟨W1, hW⟩ : ∃ W1, w.alloc (.cells (pkArr p a) 30) = W1 := ⟨_, rfl⟩
 rw [hW] at HK0
 unfold pkArr at hW ⊢
 have HW := Lib.hid hW
 clear hW
 go_enter Tryz.func66, Tryz.ntmps66
 go_upto_region 1 with fail
 rw [HW.out]
 generalize Value.agg _ = v0
 obtain ⟨g, hg⟩ : ∃ g, w.heap.size = g := ⟨_, rfl⟩
 rw [hg] at HK0 ⊢
 have HK := Lib.hid (KP.new HK0 H.out)
 clear HW HK0 H
 have HG := Lib.hid hg
 clear hg
 have st0 := HK.out
 clear HK
 refine wp_region_held_drew (S := KP w g p a) (by kernel_rfl) (st0.drewN 1) (fun hHeld => ?_)
 refine take_op 0 4 ?v0x1 rfl rfl (by kernel_rfl) (fun _ _ _ h => h) (by rfl) (by assumption) (fun w' hS' => ?hv0x1) ?h0x1
 case hv0x1 => (go_simp; try with_reducible rfl)
 simp only [Act.put, List.setIfInBounds_toArray, List.set_cons_zero, List.set_cons_succ]
 refine take_op 1 5 ?v1x2 rfl rfl (by kernel_rfl) (fun _ _ _ h => h) (by rfl) (by assumption) (fun w' hS' => ?hv1x2) ?h1x2
 case hv1x2 => (go_simp; try with_reducible rfl)
 simp only [Act.put, List.setIfInBounds_toArray, List.set_cons_zero, List.set_cons_succ]
 refine take_load 2 6 30 (.tmp 1) g 0 (.agg (pkArr p a)) rfl rfl (by kernel_rfl) (fun _ _ _ h => h) (by rfl) (by assumption) rfl rfl (fun w' hS' => load_pk hS'.k) ?_
 simp only [Act.put, List.setIfInBounds_toArray, List.set_cons_zero, List.set_cons_succ]
 refine take_op 5 9 ?v5x3 rfl rfl (by kernel_rfl) (fun _ _ _ h => h) (by rfl) (by assumption) (fun w' hS' => ?hv5x3) ?h5x3
 case hv5x3 => (go_simp; try with_reducible rfl)
 simp only [Act.put, List.setIfInBounds_toArray, List.set_cons_zero, List.set_cons_succ]
 refine take_op 6 10 ?v6x4 rfl rfl (by kernel_rfl) (fun _ _ _ h => h) (by rfl) (by assumption) (fun w' hS' => ?hv6x4) ?h6x4
 case hv6x4 => (have k := hS'.k.f13; go_simp; try with_reducible rfl)
 simp only [Act.put, List.setIfInBounds_toArray, List.set_cons_zero, List.set_cons_succ]
 refine take_op 7 11 ?v7x5 rfl rfl (by kernel_rfl) (fun _ _ _ h => h) (by rfl) (by assumption) (fun w' hS' => ?hv7x5) ?h7x5
 case hv7x5 => (go_simp; try with_reducible rfl)
 simp only [Act.put, List.setIfInBounds_toArray, List.set_cons_zero, List.set_cons_succ]
 refine take_op 8 12 ?v8x6 rfl rfl (by kernel_rfl) (fun _ _ _ h => h) (by rfl) (by assumption) (fun w' hS' => ?hv8x6) ?h8x6
 case hv8x6 => (go_simp; try with_reducible rfl)
 simp only [Act.put, List.setIfInBounds_toArray, List.set_cons_zero, List.set_cons_succ]
 refine take_op 9 13 ?v9x7 rfl rfl (by kernel_rfl) (fun _ _ _ h => h) (by rfl) (by assumption) (fun w' hS' => ?hv9x7) ?h9x7
 case hv9x7 => (have k := hS'.k.f0; go_simp; try with_reducible rfl)
 simp only [Act.put, List.setIfInBounds_toArray, List.set_cons_zero, List.set_cons_succ]
 refine take_op 10 14 ?v10x8 rfl rfl (by kernel_rfl) (fun _ _ _ h => h) (by rfl) (by assumption) (fun w' hS' => ?hv10x8) ?h10x8
 case hv10x8 => (go_simp; try with_reducible rfl)
 simp only [Act.put, List.setIfInBounds_toArray, List.set_cons_zero, List.set_cons_succ]
 refine take_op 11 15 ?v11x9 rfl rfl (by kernel_rfl) (fun _ _ _ h => h) (by rfl) (by assumption) (fun w' hS' => ?hv11x9) ?h11x9
 case hv11x9 => (have k := hS'.k.f24; go_simp; try with_reducible rfl)
 simp only [Act.put, List.setIfInBounds_toArray, List.set_cons_zero, List.set_cons_succ]
 refine take_op 12 16 ?v12x10 rfl rfl (by kernel_rfl) (fun _ _ _ h => h) (by rfl) (by assumption) (fun w' hS' => ?hv12x10) ?h12x10
 case hv12x10 => (go_simp; try with_reducible rfl)
 simp only [Act.put, List.setIfInBounds_toArray, List.set_cons_zero, List.set_cons_succ]
 refine take_op 13 17 ?v13x11 rfl rfl (by kernel_rfl) (fun _ _ _ h => h) (by rfl) (by assumption) (fun w' hS' => ?hv13x11) ?h13x11
 case hv13x11 => (go_simp; try with_reducible rfl)
 simp only [Act.put, List.setIfInBounds_toArray, List.set_cons_zero, List.set_cons_succ]
 refine take_op 14 18 ?v14x12 rfl rfl (by kernel_rfl) (fun _ _ _ h => h) (by rfl) (by assumption) (fun w' hS' => ?hv14x12) ?h14x12
 case hv14x12 => (go_simp; try with_reducible rfl)
 simp only [Act.put, List.setIfInBounds_toArray, List.set_cons_zero, List.set_cons_succ]
 refine take_op 15 19 ?v15x13 rfl rfl (by kernel_rfl) (fun _ _ _ h => h) (by rfl) (by assumption) (fun w' hS' => ?hv15x13) ?h15x13
 case hv15x13 => (have k := hS'.k.f11; go_simp; try with_reducible rfl)
 simp only [Act.put, List.setIfInBounds_toArray, List.set_cons_zero, List.set_cons_succ]
 refine take_op 16 20 ?v16x14 rfl rfl (by kernel_rfl) (fun _ _ _ h => h) (by rfl) (by assumption) (fun w' hS' => ?hv16x14) ?h16x14
 case hv16x14 => (go_simp; try with_reducible rfl)
 simp only [Act.put, List.setIfInBounds_toArray, List.set_cons_zero, List.set_cons_succ]
 refine only_op 3 rfl (by kernel_rfl) (by rfl) (wp_call 7 96 #[.agg (pkArr p a)] (.int .i64 z) (KP w g p a) rfl (by go_simp) ((HC.out _).mono fun _ _ h => ⟨h.1, hHeld.below h.2⟩) (fun w1 st1 => ⟨st1, ?_⟩))
 simp only [Act.put, List.setIfInBounds_toArray, List.set_cons_zero, List.set_cons_succ]
 refine take_op 4 8 ?v4x15 rfl rfl (by kernel_rfl) (fun _ _ _ h => h) (by rfl) (by assumption) (fun w' hS' => ?hv4x15) ?h4x15
 case hv4x15 => (go_simp; try with_reducible rfl)
 simp only [Act.put, List.setIfInBounds_toArray, List.set_cons_zero, List.set_cons_succ]
 have st2 := st1.alloc (.cells #[.iface 114 (.string ⟨#[77, 81, 84, 84]⟩), .iface 110 (.int .i64 5), .iface 110 (.int .i64 z), .iface 134 (.int .i64 p.keep), .iface 113 (.agg #[.int .i64 p.kind, .slice a.pa p.ps.length a.pc]), .iface 114 (.string p.cl)] 20)
 refine only_op 17 rfl (by kernel_rfl) (by rfl) (wp_made 21 (.slice (some ⟨w1.heap.size, 0, none⟩) 6 6) rfl (by go_simp) ⟨st2, ?_⟩)
 simp only [Act.put, List.setIfInBounds_toArray, List.set_cons_zero, List.set_cons_succ]
 refine take_op 18 3 ?v18x16 rfl rfl (by kernel_rfl) (fun _ _ _ h => h) (by rfl) (by assumption) (fun w' hS' => ?hv18x16) ?h18x16
 case hv18x16 => (go_simp; try with_reducible rfl)
 simp only [Act.put, List.setIfInBounds_toArray, List.set_cons_zero, List.set_cons_succ]
 refine wpAnyH_done (by kernel_rfl) ?_ _
 have hown := lit_ownp w1 (w.heap.size + 1) C [.iface 114 (.string ⟨#[77, 81, 84, 84]⟩), .iface 110 (.int .i64 5), .iface 110 (.int .i64 z), .iface 134 (.int .i64 p.keep), .iface 113 (.agg #[.int .i64 p.kind, .slice a.pa p.ps.length a.pc]), .iface 114 (.string p.cl)] [.words mqtt, .octet 5, .octet z, .short p.keep, .props p.kind p.ps, .words p.cl] 6 (st1.room HG.out) (Nat.le_trans hC st1.b.size) rfl rfl (by decide) (fun j x y => by
  match j, x, y with
  | 0, _, _ => exact ⟨rfl, by decide⟩
  | 1, _, _ => rfl
  | 2, _, _ => rfl
  | 3, _, _ => exact ⟨rfl, hf.keep.2⟩
  | 4, _, _ => exact ⟨a.pa, a.pc, rfl, (HCP.out.below (st1.b.mono hC)).ps, hf.pl1.1, hf.pl1.2, hf.ps⟩
  | 5, _, _ => exact ⟨rfl, hf.cl⟩)
 obtain ⟨w2, hw2⟩ : ∃ w2, w1.alloc (.cells [Value.iface 114 (.string ⟨#[77, 81, 84, 84]⟩), .iface 110 (.int .i64 5), .iface 110 (.int .i64 z), .iface 134 (.int .i64 p.keep), .iface 113 (.agg #[.int .i64 p.kind, .slice a.pa p.ps.length a.pc]), .iface 114 (.string p.cl)].toArray 20) = w2 := ⟨_, rfl⟩
 rw [hw2] at hown
 rw [hw2] at st2 ⊢
 generalize Value.slice (some ⟨w1.heap.size, 0, none⟩) 6 6 = v3 at hown ⊢
 have HK := Lib.hid st2
 have HO := Lib.hid hown
 clear hw2 st2 hown hHeld st1 st0
 have hwl : (willL p).length ≤ 3 := by unfold willL; split <;> simp
 have hul : (userL p).length ≤ 1 := by unfold userL; split <;> simp
 obtain ⟨L0, hL0⟩ : ∃ L : List Part, [.words mqtt, .octet 5, .octet z, .short p.keep, .props p.kind p.ps, .words p.cl] = L := ⟨_, rfl⟩
 rw [hL0] at HO
 have hl0 : L0.length ≤ 6 := by rw [← hL0]; exact Nat.le_refl _
 have HL0 := Lib.hid hL0
 clear hL0
 have c14 := HK.out.k.f14
 go_upto_if 24 with fail
 go_cut [3] (fun v wx => OwnParts wx (w.heap.size + 1) C v (L0 ++ willL p) ∧ KP w g p a wx)
 case first =>
  by_cases hh : p.w.has = true
  ·have HW : Hid (willL p = [.props 0 p.w.ps, .words p.w.t, .sized p.w.b]) := by show _ = _; unfold willL; rw [if_pos hh]
   obtain ⟨vs, h1, h2, h3⟩ := HO.out
   have A1 := Lib.hid h1
   have A2 := Lib.hid h2
   have A3 := Lib.hid h3
   clear h1 h2 h3
   have hsz := HK.out.room HG.out
   have c17 := HK.out.k.f17
   have c18 := HK.out.k.f18
   have c19 := HK.out.k.f19
   try rw [hh]
   go_wp2_with (at_builtin; refine wpList_append_own _ rfl _ _ 65 rfl (w.heap.size + 1) 20 i0 .nilIface 1 16 Tryz.underlying65 hi hz0 hz1 hz2 rfl (by decide) _ _ _ rfl (A2.out.alloc _) ⟨w2.heap.size, 0, none⟩ 3 3 [.iface 113 (.agg #[.int .i64 0, .slice a.wa p.w.ps.length a.wc]), .iface 114 (.string p.w.t), .iface 139 (.string p.w.b)] rfl rfl ?c1 ?c2 ?c3 ?c4 ?c5 ?_)
   case c1 => exact fun j u h => news_at w2 _ [.iface 113 (.agg #[.int .i64 0, .slice a.wa p.w.ps.length a.wc]), .iface 114 (.string p.w.t), .iface 139 (.string p.w.b)] j u h
   case c2 => intro u hu; simp only [List.mem_cons, List.not_mem_nil, or_false] at hu; rcases hu with rfl | rfl | rfl <;> rfl
   case c3 => unfold maxLen; show L0.length + 3 ≤ _; omega
   case c4 => show (L0.length + 3) * 16 ≤ _; omega
   case c5 => rw [World.size_alloc]; omega
   intro v' w3 hown' hgrow _
   have hb3 := below_alloc_grown hsz A2.out hgrow
   have HK3 := Lib.hid (HK.out.grown HG.out hb3)
   have HO3 := Lib.hid (own_add A1.out (ws := [.iface 113 (.agg #[.int .i64 0, .slice a.wa p.w.ps.length a.wc]), .iface 114 (.string p.w.t), .iface 139 (.string p.w.b)]) (m := [.props 0 p.w.ps, .words p.w.t, .sized p.w.b]) rfl hown' (fun j y z => (A3.out j y z).below (hb3.mono (by omega))) (fun j y z => by
    match j, y, z with
    | 0, _, _ => exact ⟨a.wa, a.wc, rfl, (HCP.out.below (HK3.out.b.mono hC)).ws, hf.wl1.1, hf.wl1.2, hf.ws⟩
    | 1, _, _ => exact ⟨rfl, hf.wt⟩
    | 2, _, _ => exact ⟨rfl, hf.wb⟩))
   clear hown' hgrow hb3 A1 A2 A3
   go_wp2_with fail
   go_meet
   exact ⟨by rw [HW.out]; exact HO3.out, HK3.out⟩
  ·have HW : Hid (willL p = []) := by show _ = _; unfold willL; rw [if_neg hh]
   try rw [Bool.eq_false_iff.2 hh]
   go_wp2_with fail
   go_meet
   exact ⟨by rw [HW.out, List.append_nil]; exact HO.out, HK.out⟩
 case rest =>
  obtain ⟨hown, hkp⟩ := hcut
  clear HO HK c14
  have HO := Lib.hid hown
  have HK := Lib.hid hkp
  clear hown hkp
  obtain ⟨L1, hL1⟩ : ∃ L, L0 ++ willL p = L := ⟨_, rfl⟩
  have hl1 : L1.length ≤ 9 := by rw [← hL1, List.length_append]; omega
  rw [hL1] at HO
  have HL1 := Lib.hid hL1
  clear hL1
  have c20 := HK.out.k.f20
  go_upto_if 42 with fail
  go_cut [3] (fun v wx => OwnParts wx (w.heap.size + 1) C v (L1 ++ userL p) ∧ KP w g p a wx)
  case first =>
   by_cases hh : p.hu = true
   ·have HW : Hid (userL p = [.words p.u]) := by show _ = _; unfold userL; rw [if_pos hh]
    obtain ⟨vs, h1, h2, h3⟩ := HO.out
    have A1 := Lib.hid h1
    have A2 := Lib.hid h2
    have A3 := Lib.hid h3
    clear h1 h2 h3
    have hsz := HK.out.room HG.out
    have c21 := HK.out.k.f21
    try rw [hh]
    go_wp2_with (at_builtin; refine wpList_append_own _ rfl _ _ 65 rfl (w.heap.size + 1) 20 i0 .nilIface 1 16 Tryz.underlying65 hi hz0 hz1 hz2 rfl (by decide) _ _ _ rfl (A2.out.alloc _) ⟨wc.heap.size, 0, none⟩ 1 1 [.iface 114 (.string p.u)] rfl rfl ?d1 ?d2 ?d3 ?d4 ?d5 ?_)
    case d1 => exact fun j u h => news_at wc _ [.iface 114 (.string p.u)] j u h
    case d2 => intro u hu; simp only [List.mem_cons, List.not_mem_nil, or_false] at hu; subst hu; rfl
    case d3 => unfold maxLen; show L1.length + 1 ≤ _; omega
    case d4 => show (L1.length + 1) * 16 ≤ _; omega
    case d5 => rw [World.size_alloc]; omega
    intro v' w3 hown' hgrow _
    have hb3 := below_alloc_grown hsz A2.out hgrow
    have HK3 := Lib.hid (HK.out.grown HG.out hb3)
    have HO3 := Lib.hid (own_add A1.out (ws := [.iface 114 (.string p.u)]) (m := [.words p.u]) rfl hown' (fun j y z => (A3.out j y z).below (hb3.mono (by omega))) (fun j y z => by
     match j, y, z with
     | 0, _, _ => exact ⟨rfl, hf.u⟩))
    clear hown' hgrow hb3 A1 A2 A3
    go_wp2_with fail
    go_meet
    exact ⟨by rw [HW.out]; exact HO3.out, HK3.out⟩
   ·have HW : Hid (userL p = []) := by show _ = _; unfold userL; rw [if_neg hh]
    try rw [Bool.eq_false_iff.2 hh]
    go_wp2_with fail
    go_meet
    exact ⟨by rw [HW.out, List.append_nil]; exact HO.out, HK.out⟩
  case rest =>
   obtain ⟨hown, hkp⟩ := hcut
   clear HO HK c20
   have HO := Lib.hid hown
   have HK := Lib.hid hkp
   clear hown hkp
   obtain ⟨L2, hL2⟩ : ∃ L, L1 ++ userL p = L := ⟨_, rfl⟩
   have hl2 : L2.length ≤ 10 := by rw [← hL2, List.length_append]; omega
   rw [hL2] at HO
   have HL2 := Lib.hid hL2
   clear hL2
   have HE : Hid (connectL p = L2 ++ passL p) := by
    show _ = _
    rw [← HL2.out, ← HL1.out, ← HL0.out]
    unfold connectL
    rw [HZ.out]
   have c22 := HK.out.k.f22
   go_upto_if 50 with fail
   go_cut [3] (fun v wx => OwnParts wx (w.heap.size + 1) C v (L2 ++ passL p) ∧ KP w g p a wx)
   case first =>
    by_cases hh : p.hp = true
    ·have HW : Hid (passL p = [.sized p.pw]) := by show _ = _; unfold passL; rw [if_pos hh]
     obtain ⟨vs, h1, h2, h3⟩ := HO.out
     have A1 := Lib.hid h1
     have A2 := Lib.hid h2
     have A3 := Lib.hid h3
     clear h1 h2 h3
     have hsz := HK.out.room HG.out
     have c23 := HK.out.k.f23
     try rw [hh]
     go_wp2_with (at_builtin; refine wpList_append_own _ rfl _ _ 65 rfl (w.heap.size + 1) 20 i0 .nilIface 1 16 Tryz.underlying65 hi hz0 hz1 hz2 rfl (by decide) _ _ _ rfl (A2.out.alloc _) ⟨wc.heap.size, 0, none⟩ 1 1 [.iface 139 (.string p.pw)] rfl rfl ?e1 ?e2 ?e3 ?e4 ?e5 ?_)
     case e1 => exact fun j u h => news_at wc _ [.iface 139 (.string p.pw)] j u h
     case e2 => intro u hu; simp only [List.mem_cons, List.not_mem_nil, or_false] at hu; subst hu; rfl
     case e3 => unfold maxLen; show L2.length + 1 ≤ _; omega
     case e4 => show (L2.length + 1) * 16 ≤ _; omega
     case e5 => rw [World.size_alloc]; omega
     intro v' w3 hown' hgrow _
     have hb3 := below_alloc_grown hsz A2.out hgrow
     have HK3 := Lib.hid (HK.out.grown HG.out hb3)
     have HO3 := Lib.hid (own_add A1.out (ws := [.iface 139 (.string p.pw)]) (m := [.sized p.pw]) rfl hown' (fun j y z => (A3.out j y z).below (hb3.mono (by omega))) (fun j y z => by
      match j, y, z with
      | 0, _, _ => exact ⟨rfl, hf.pw⟩))
     clear hown' hgrow hb3 A1 A2 A3
     go_wp2_with fail
     go_meet
     exact ⟨by rw [HW.out]; exact HO3.out, HK3.out⟩
    ·have HW : Hid (passL p = []) := by show _ = _; unfold passL; rw [if_neg hh]
     try rw [Bool.eq_false_iff.2 hh]
     go_wp2_with fail
     go_meet
     exact ⟨by rw [HW.out, List.append_nil]; exact HO.out, HK.out⟩
   case rest =>
    obtain ⟨hown, hkp⟩ := hcut
    clear HO HK c22
    have HO := Lib.hid (hown.gives hkp.b)
    clear hown hkp
    go_wp2_with fail
    go_ret
    rw [HE.out]
    exact HO.out
open Go.RowKit Go.Lib Prp Pkt Vbi Txt
theorem run_append_parts (o : Oper) (a : Act) (s x : Operand) (ho : o.op = .call { callee := .builtin .append, args := #[s, x], argTypes := #[65, 65] }) {W : World} {base C : Nat} {v : Value} {l m : List Part} {A : Option Addr} {c : Nat}
  (hs : a.eval s = v) (hx : a.eval x = .slice A m.length c) (hA : A = none → c = 0) (hown : OwnParts W base C v l) (hp : PartsAt W W.heap.size C A m) (hC : C ≤ base) (hb : base ≤ W.heap.size) (hl : l.length + m.length ≤ 1000) :
  ∃ v' W', (execOp a.eval o).run Tryz.prog W = .ok (.value v') W' ∧ OwnParts W' base C v' (l ++ m) ∧ Below base W W' := by
 obtain ⟨i0, hi, hz0, hz1, hz2⟩ := info_parts info_any
 obtain ⟨vs, h1, h2, h3⟩ := hown
 obtain ⟨ws, k1, k2, k3⟩ := hp
 have fin : ∀ (v' : Value) (W' : World), W'.ownsRow base 20 1 v' (l.length + m.length) (vs ++ ws) → Below base W W' → OwnParts W' base C v' (l ++ m) := fun v' W' ho' hb' =>
  own_add h1 k1 ho' (fun j y z => (h3 j y z).below (hb'.mono hC)) (fun j y z => (k3 j y z).below (hb'.mono hC))
 have run1 : ∀ r, (Builtin.append_ #[65, 65] o.type #[v, .slice A m.length c]).run Tryz.prog W = r → (∃ v' W', r = .ok v' W') → ∃ v' W', r = .ok v' W' ∧ (execOp a.eval o).run Tryz.prog W = .ok (.value v') W' := by
  intro r hr ⟨v', W', hv⟩
  refine ⟨v', W', hv, ?_⟩
  unfold execOp
  simp only [ho, resolve, invoke, builtin, Sem.run_bind, Sem.run_pure, Result.andThen_ok, List.map_toArray, List.map_cons, List.map_nil, hs, hx, hr, hv]
 cases A with
 | none =>
  obtain rfl := hA rfl
  have hm0 : m = [] := by
   rcases k2 with h | ⟨_, h, _⟩
   ·rw [h] at k1; exact List.eq_nil_of_length_eq_zero k1.symm
   ·cases h
  subst hm0
  have hws : ws = [] := List.eq_nil_of_length_eq_zero k1
  subst hws
  have e3 : (Builtin.append_ #[65, 65] o.type #[v, .slice none 0 0]).run Tryz.prog W = .ok v W := run_append_owned_none W base _ _ _ i0 1 Tryz.underlying65 hi v l.length vs h2
  obtain ⟨v', W', e1, e2⟩ := run1 _ e3 ⟨v, W, rfl⟩
  injection e1 with x1 x2
  subst x1 x2
  exact ⟨v, W, e2, fin v W (by rw [List.append_nil]; exact h2) (Below.refl _ _), Below.refl _ _⟩
 | some ad =>
  have hn : ∀ j u, ws[j]? = some u → W.cell? (ad.add j) = some u := fun j u hu => by
   obtain ⟨hj, rfl⟩ := List.getElem?_eq_some_iff.1 hu
   obtain ⟨a', ha', _, hc⟩ := k2.some_ (by omega)
   injection ha' with ha'
   subst ha'
   exact hc j hj
  have h1c : ∀ u ∈ ws, u.oneCell' = true := fun u hu => by
   obtain ⟨j, hj, rfl⟩ := List.getElem_of_mem hu
   exact (k3 j hj (by omega)).one
  obtain ⟨v', W', e, g1, g2, _⟩ := run_append_own (P := Tryz.prog) (w := W) base 65 o.type 20 i0 .nilIface 1 16 Tryz.underlying65 hi hz0 hz1 hz2 rfl (by decide) v l.length vs h2 ad m.length c ws (by omega) hn h1c (by unfold maxLen; omega) (by omega) hb
  obtain ⟨v2, W2, e1, e2⟩ := run1 _ e ⟨v', W', rfl⟩
  injection e1 with x1 x2
  subst x1 x2
  have hbl : Below base W W' := below_grown hb h2 g2
  exact ⟨v', W', e2, fin v' W' g1 hbl, hbl⟩
theorem wp_append_parts {o : Oper} {a : Act} {W : World} {K : Act → World → Prop} {Q : Exit → Act → World → Prop} (d : Nat) (s x : Operand) {base C : Nat} {v : Value} {l m : List Part} {A : Option Addr} {c : Nat} (hd : o.dst = some d)
  (ho : o.op = .call { callee := .builtin .append, args := #[s, x], argTypes := #[65, 65] })
  (hs : a.eval s = v) (hx : a.eval x = .slice A m.length c) (hA : A = none → c = 0) (hown : OwnParts W base C v l) (hp : PartsAt W W.heap.size C A m) (hC : C ≤ base) (hb : base ≤ W.heap.size) (hl : l.length + m.length ≤ 1000)
  (h : ∀ v' W', OwnParts W' base C v' (l ++ m) → Below base W W' → K (a.put (some d) v') W') : Oper.wp Tryz.prog o a W K Q := by
 obtain ⟨v', W', e, h1, h2⟩ := run_append_parts o a s x ho hs hx hA hown hp hC hb hl
 exact wp_made d v' hd e (h v' W' h1 h2)
open Go.RowKit Go.Lib Prp Pkt Vbi Txt
theorem partsOf_4 (p : Pk) (a : Ad) (w : World) (hf : PkFit p a) (h : PkAt w w.heap.size p a) (hk : p.kind = 4) :
  Calls Tryz.prog 31 #[.agg (pkArr p a)] w (GivesParts ([.number p.id] ++ reasonL p) w.heap.size w) := by
 have H := Lib.hid h
 have HR := Lib.hid (fun (W : World) (hC : w.heap.size ≤ W.heap.size) (h : PkAt W w.heap.size p a) => reasonParts_is p a w.heap.size W hC hf h)
 have hrl : (reasonL p).length ≤ 2 := by
  unfold reasonL
  repeat' split
  all_goals simp
 have e1 : (p.kind == 1) = false := ne_false (by omega)
 have e2 : (p.kind == 2) = false := ne_false (by omega)
 have e3 : (p.kind == 3) = false := ne_false (by omega)
 have e4 : (p.kind == 4) = true := beq_iff_eq.2 (by omega)
 clear h hk
 have HK0 := Keep.new w 30 (pkArr p a)
 obtain ⟨W1, hW⟩ : ∃ W1, w.alloc (.cells (pkArr p a) 30) = W1 := ⟨_, rfl⟩
 rw [hW] at HK0
 unfold pkArr at hW ⊢
 have HW := Lib.hid hW
 clear hW
 go_enter Tryz.func31, Tryz.ntmps31
 go_upto_region 1 with fail
 rw [HW.out]
 generalize Value.agg _ = v0
 obtain ⟨g, hg⟩ : ∃ g, w.heap.size = g := ⟨_, rfl⟩
 rw [hg] at HK0 ⊢
 have HK := Lib.hid (KP.new HK0 H.out)
 clear HW HK0 H
 have HG := Lib.hid hg
 clear hg
 have c0 := HK.out.k.f0
 go_upto_region 14 with fail
 have st0 := HK.out
 clear HK c0
 refine wp_region_held_drew (S := KP w g p a) (by kernel_rfl) (st0.drewN 1) (fun hHeld => ?_)
 generalize W1.drew = Wd at hHeld ⊢
 refine take_op 0 64 ?v0x1 rfl rfl (by kernel_rfl) (fun _ _ _ h => h) (by rfl) (by assumption) (fun w' hS' => ?hv0x1) ?h0x1
 case hv0x1 => (go_simp; try with_reducible rfl)
 simp only [Act.put, List.setIfInBounds_toArray, List.set_cons_zero, List.set_cons_succ]
 refine take_op 1 65 ?v1x2 rfl rfl (by kernel_rfl) (fun _ _ _ h => h) (by rfl) (by assumption) (fun w' hS' => ?hv1x2) ?h1x2
 case hv1x2 => (have k := hS'.k.f4; go_simp; try with_reducible rfl)
 simp only [Act.put, List.setIfInBounds_toArray, List.set_cons_zero, List.set_cons_succ]
 refine take_op 2 66 ?v2x3 rfl rfl (by kernel_rfl) (fun _ _ _ h => h) (by rfl) (by assumption) (fun w' hS' => ?hv2x3) ?h2x3
 case hv2x3 => (go_simp; try with_reducible rfl)
 simp only [Act.put, List.setIfInBounds_toArray, List.set_cons_zero, List.set_cons_succ]
 refine take_load 4 68 30 (.tmp 1) g 0 (.agg (pkArr p a)) rfl rfl (by kernel_rfl) (fun _ _ _ h => h) (by rfl) (by assumption) rfl rfl (fun w' hS' => load_pk hS'.k) ?_
 simp only [Act.put, List.setIfInBounds_toArray, List.set_cons_zero, List.set_cons_succ]
 refine two_ops 3 5 rfl rfl (by kernel_rfl) (by rfl) (by rfl) ?_ ?_
 ·have st2 := hHeld.alloc (.cells [.iface 115 (.int .i64 p.id)].toArray 20)
  refine wp_made 67 (.slice (some ⟨Wd.heap.size, 0, none⟩) 1 1) rfl (by go_simp) ⟨st2, ?_⟩
  simp only [Act.put, List.setIfInBounds_toArray, List.set_cons_zero, List.set_cons_succ]
  have hown := lit_ownp Wd (w.heap.size + 1) w.heap.size [.iface 115 (.int .i64 p.id)] [.number p.id] 1 (hHeld.room HG.out) hHeld.b.size rfl rfl (by decide) (fun j x y => by
   match j, x, y with
   | 0, _, _ => exact ⟨rfl, hf.id.2⟩)
  refine only_op 5 rfl (by kernel_rfl) (by rfl) (wp_call_ex 69 68 #[.agg (pkArr p a)] _ rfl (by go_simp) (HR.out _ st2.b.size st2.out.2) ?_)
  rintro e w2 ⟨A, c, rfl, hA, hpa, hb⟩
  have st4 := st2.below hb
  have hown2 := hown.below st2.b.size hb
  refine ⟨_, rfl, st4, ?_⟩
  simp only [Act.put, List.setIfInBounds_toArray, List.set_cons_zero, List.set_cons_succ]
  refine only_op 6 rfl (by kernel_rfl) (by rfl) (wp_append_parts 70 (.tmp 67) (.tmp 69) rfl rfl rfl rfl hA hown2 hpa (by omega) (st4.room HG.out) (by simp; omega) (fun v' w3 hown3 hb3 => ⟨st4.grown HG.out hb3, ?_⟩))
  simp only [Act.put, List.setIfInBounds_toArray, List.set_cons_zero, List.set_cons_succ]
  have st3 := st4.grown HG.out hb3
  refine take_op 7 2 ?v7x4 rfl rfl (by kernel_rfl) (fun _ _ _ h => h) (by rfl) (by assumption) (fun w' hS' => ?hv7x4) ?h7x4
  case hv7x4 => (go_simp; try with_reducible rfl)
  simp only [Act.put, List.setIfInBounds_toArray, List.set_cons_zero, List.set_cons_succ]
  refine wpAnyH_done (by kernel_rfl) ?_ _
  have HO := Lib.hid (hown3.gives st3.b)
  clear hown3 st3 hb3
  go_wp2_with fail
  go_ret
  exact HO.out
 ·refine wp_call_ex 69 68 #[.agg (pkArr p a)] _ rfl (by go_simp) (HR.out _ hHeld.b.size hHeld.out.2) ?_
  rintro e w2 ⟨A, c, rfl, hA, hpa, hb⟩
  have st4 := hHeld.below hb
  refine ⟨_, rfl, st4, ?_⟩
  simp only [Act.put, List.setIfInBounds_toArray, List.set_cons_zero, List.set_cons_succ]
  have st5 := st4.alloc (.cells [.iface 115 (.int .i64 p.id)].toArray 20)
  have hown := lit_ownp w2 (w.heap.size + 1) w.heap.size [.iface 115 (.int .i64 p.id)] [.number p.id] 1 (st4.room HG.out) st4.b.size rfl rfl (by decide) (fun j x y => by
   match j, x, y with
   | 0, _, _ => exact ⟨rfl, hf.id.2⟩)
  refine only_op 3 rfl (by kernel_rfl) (by rfl) (wp_made 67 (.slice (some ⟨w2.heap.size, 0, none⟩) 1 1) rfl (by go_simp) ⟨st5, ?_⟩)
  simp only [Act.put, List.setIfInBounds_toArray, List.set_cons_zero, List.set_cons_succ]
  refine only_op 6 rfl (by kernel_rfl) (by rfl) (wp_append_parts 70 (.tmp 67) (.tmp 69) rfl rfl rfl rfl hA hown ((hpa.below st4.b.size ((Below.refl _ _).alloc (Nat.le_refl _) _)).mono (by rw [World.size_alloc]; omega)) (by omega) (st5.room HG.out) (by simp; omega) (fun v' w3 hown3 hb3 => ⟨st5.grown HG.out hb3, ?_⟩))
  simp only [Act.put, List.setIfInBounds_toArray, List.set_cons_zero, List.set_cons_succ]
  have st3 := st5.grown HG.out hb3
  refine take_op 7 2 ?v7x5 rfl rfl (by kernel_rfl) (fun _ _ _ h => h) (by rfl) (by assumption) (fun w' hS' => ?hv7x5) ?h7x5
  case hv7x5 => (go_simp; try with_reducible rfl)
  simp only [Act.put, List.setIfInBounds_toArray, List.set_cons_zero, List.set_cons_succ]
  refine wpAnyH_done (by kernel_rfl) ?_ _
  have HO := Lib.hid (hown3.gives st3.b)
  clear hown3 st3 hb3
  go_wp2_with fail
  go_ret
  exact HO.out
theorem partsOf_5 (p : Pk) (a : Ad) (w : World) (hf : PkFit p a) (h : PkAt w w.heap.size p a) (hk : p.kind = 5) :
  Calls Tryz.prog 31 #[.agg (pkArr p a)] w (GivesParts ([.number p.id] ++ reasonL p) w.heap.size w) := by
 have H := Lib.hid h
 have HR := Lib.hid (fun (W : World) (hC : w.heap.size ≤ W.heap.size) (h : PkAt W w.heap.size p a) => reasonParts_is p a w.heap.size W hC hf h)
 have hrl : (reasonL p).length ≤ 2 := by
  unfold reasonL
  repeat' split
  all_goals simp
 have e1 : (p.kind == 1) = false := ne_false (by omega)
 have e2 : (p.kind == 2) = false := ne_false (by omega)
 have e3 : (p.kind == 3) = false := ne_false (by omega)
 have e4 : (p.kind == 4) = false := ne_false (by omega)
 have e5 : (p.kind == 5) = true := beq_iff_eq.2 (by omega)
 clear h hk
 have HK0 := Keep.new w 30 (pkArr p a)
 obtain ⟨W1, hW⟩ : ∃ W1, w.alloc (.cells (pkArr p a) 30) = W1 := ⟨_, rfl⟩
 rw [hW] at HK0
 unfold pkArr at hW ⊢
 have HW := Lib.hid hW
 clear hW
 go_enter Tryz.func31, Tryz.ntmps31
 go_upto_region 1 with fail
 rw [HW.out]
 generalize Value.agg _ = v0
 obtain ⟨g, hg⟩ : ∃ g, w.heap.size = g := ⟨_, rfl⟩
 rw [hg] at HK0 ⊢
 have HK := Lib.hid (KP.new HK0 H.out)
 clear HW HK0 H
 have HG := Lib.hid hg
 clear hg
 have c0 := HK.out.k.f0
 go_upto_region 14 with fail
 have st0 := HK.out
 clear HK c0
 refine wp_region_held_drew (S := KP w g p a) (by kernel_rfl) (st0.drewN 1) (fun hHeld => ?_)
 generalize W1.drew = Wd at hHeld ⊢
 refine take_op 0 64 ?v0x6 rfl rfl (by kernel_rfl) (fun _ _ _ h => h) (by rfl) (by assumption) (fun w' hS' => ?hv0x6) ?h0x6
 case hv0x6 => (go_simp; try with_reducible rfl)
 simp only [Act.put, List.setIfInBounds_toArray, List.set_cons_zero, List.set_cons_succ]
 refine take_op 1 65 ?v1x7 rfl rfl (by kernel_rfl) (fun _ _ _ h => h) (by rfl) (by assumption) (fun w' hS' => ?hv1x7) ?h1x7
 case hv1x7 => (have k := hS'.k.f4; go_simp; try with_reducible rfl)
 simp only [Act.put, List.setIfInBounds_toArray, List.set_cons_zero, List.set_cons_succ]
 refine take_op 2 66 ?v2x8 rfl rfl (by kernel_rfl) (fun _ _ _ h => h) (by rfl) (by assumption) (fun w' hS' => ?hv2x8) ?h2x8
 case hv2x8 => (go_simp; try with_reducible rfl)
 simp only [Act.put, List.setIfInBounds_toArray, List.set_cons_zero, List.set_cons_succ]
 refine take_load 4 68 30 (.tmp 1) g 0 (.agg (pkArr p a)) rfl rfl (by kernel_rfl) (fun _ _ _ h => h) (by rfl) (by assumption) rfl rfl (fun w' hS' => load_pk hS'.k) ?_
 simp only [Act.put, List.setIfInBounds_toArray, List.set_cons_zero, List.set_cons_succ]
 refine two_ops 3 5 rfl rfl (by kernel_rfl) (by rfl) (by rfl) ?_ ?_
 ·have st2 := hHeld.alloc (.cells [.iface 115 (.int .i64 p.id)].toArray 20)
  refine wp_made 67 (.slice (some ⟨Wd.heap.size, 0, none⟩) 1 1) rfl (by go_simp) ⟨st2, ?_⟩
  simp only [Act.put, List.setIfInBounds_toArray, List.set_cons_zero, List.set_cons_succ]
  have hown := lit_ownp Wd (w.heap.size + 1) w.heap.size [.iface 115 (.int .i64 p.id)] [.number p.id] 1 (hHeld.room HG.out) hHeld.b.size rfl rfl (by decide) (fun j x y => by
   match j, x, y with
   | 0, _, _ => exact ⟨rfl, hf.id.2⟩)
  refine only_op 5 rfl (by kernel_rfl) (by rfl) (wp_call_ex 69 68 #[.agg (pkArr p a)] _ rfl (by go_simp) (HR.out _ st2.b.size st2.out.2) ?_)
  rintro e w2 ⟨A, c, rfl, hA, hpa, hb⟩
  have st4 := st2.below hb
  have hown2 := hown.below st2.b.size hb
  refine ⟨_, rfl, st4, ?_⟩
  simp only [Act.put, List.setIfInBounds_toArray, List.set_cons_zero, List.set_cons_succ]
  refine only_op 6 rfl (by kernel_rfl) (by rfl) (wp_append_parts 70 (.tmp 67) (.tmp 69) rfl rfl rfl rfl hA hown2 hpa (by omega) (st4.room HG.out) (by simp; omega) (fun v' w3 hown3 hb3 => ⟨st4.grown HG.out hb3, ?_⟩))
  simp only [Act.put, List.setIfInBounds_toArray, List.set_cons_zero, List.set_cons_succ]
  have st3 := st4.grown HG.out hb3
  refine take_op 7 2 ?v7x9 rfl rfl (by kernel_rfl) (fun _ _ _ h => h) (by rfl) (by assumption) (fun w' hS' => ?hv7x9) ?h7x9
  case hv7x9 => (go_simp; try with_reducible rfl)
  simp only [Act.put, List.setIfInBounds_toArray, List.set_cons_zero, List.set_cons_succ]
  refine wpAnyH_done (by kernel_rfl) ?_ _
  have HO := Lib.hid (hown3.gives st3.b)
  clear hown3 st3 hb3
  go_wp2_with fail
  go_ret
  exact HO.out
 ·refine wp_call_ex 69 68 #[.agg (pkArr p a)] _ rfl (by go_simp) (HR.out _ hHeld.b.size hHeld.out.2) ?_
  rintro e w2 ⟨A, c, rfl, hA, hpa, hb⟩
  have st4 := hHeld.below hb
  refine ⟨_, rfl, st4, ?_⟩
  simp only [Act.put, List.setIfInBounds_toArray, List.set_cons_zero, List.set_cons_succ]
  have st5 := st4.alloc (.cells [.iface 115 (.int .i64 p.id)].toArray 20)
  have hown := lit_ownp w2 (w.heap.size + 1) w.heap.size [.iface 115 (.int .i64 p.id)] [.number p.id] 1 (st4.room HG.out) st4.b.size rfl rfl (by decide) (fun j x y => by
   match j, x, y with
   | 0, _, _ => exact ⟨rfl, hf.id.2⟩)
  refine only_op 3 rfl (by kernel_rfl) (by rfl) (wp_made 67 (.slice (some ⟨w2.heap.size, 0, none⟩) 1 1) rfl (by go_simp) ⟨st5, ?_⟩)
  simp only [Act.put, List.setIfInBounds_toArray, List.set_cons_zero, List.set_cons_succ]
  refine only_op 6 rfl (by kernel_rfl) (by rfl) (wp_append_parts 70 (.tmp 67) (.tmp 69) rfl rfl rfl rfl hA hown ((hpa.below st4.b.size ((Below.refl _ _).alloc (Nat.le_refl _) _)).mono (by rw [World.size_alloc]; omega)) (by omega) (st5.room HG.out) (by simp; omega) (fun v' w3 hown3 hb3 => ⟨st5.grown HG.out hb3, ?_⟩))
  simp only [Act.put, List.setIfInBounds_toArray, List.set_cons_zero, List.set_cons_succ]
  have st3 := st5.grown HG.out hb3
  refine take_op 7 2 ?v7x10 rfl rfl (by kernel_rfl) (fun _ _ _ h => h) (by rfl) (by assumption) (fun w' hS' => ?hv7x10) ?h7x10
  case hv7x10 => (go_simp; try with_reducible rfl)
  simp only [Act.put, List.setIfInBounds_toArray, List.set_cons_zero, List.set_cons_succ]
  refine wpAnyH_done (by kernel_rfl) ?_ _
  have HO := Lib.hid (hown3.gives st3.b)
  clear hown3 st3 hb3
  go_wp2_with fail
  go_ret
  exact HO.out
theorem partsOf_6 (p : Pk) (a : Ad) (w : World) (hf : PkFit p a) (h : PkAt w w.heap.size p a) (hk : p.kind = 6) :
  Calls Tryz.prog 31 #[.agg (pkArr p a)] w (GivesParts ([.number p.id] ++ reasonL p) w.heap.size w) := by
 have H := Lib.hid h
 have HR := Lib.hid (fun (W : World) (hC : w.heap.size ≤ W.heap.size) (h : PkAt W w.heap.size p a) => reasonParts_is p a w.heap.size W hC hf h)
 have hrl : (reasonL p).length ≤ 2 := by
  unfold reasonL
  repeat' split
  all_goals simp
 have e1 : (p.kind == 1) = false := ne_false (by omega)
 have e2 : (p.kind == 2) = false := ne_false (by omega)
 have e3 : (p.kind == 3) = false := ne_false (by omega)
 have e4 : (p.kind == 4) = false := ne_false (by omega)
 have e5 : (p.kind == 5) = false := ne_false (by omega)
 have e6 : (p.kind == 6) = true := beq_iff_eq.2 (by omega)
 clear h hk
 have HK0 := Keep.new w 30 (pkArr p a)
 obtain ⟨W1, hW⟩ : ∃ W1, w.alloc (.cells (pkArr p a) 30) = W1 := ⟨_, rfl⟩
 rw [hW] at HK0
 unfold pkArr at hW ⊢
 have HW := Lib.hid hW
 clear hW
 go_enter Tryz.func31, Tryz.ntmps31
 go_upto_region 1 with fail
 rw [HW.out]
 generalize Value.agg _ = v0
 obtain ⟨g, hg⟩ : ∃ g, w.heap.size = g := ⟨_, rfl⟩
 rw [hg] at HK0 ⊢
 have HK := Lib.hid (KP.new HK0 H.out)
 clear HW HK0 H
 have HG := Lib.hid hg
 clear hg
 have c0 := HK.out.k.f0
 go_upto_region 14 with fail
 have st0 := HK.out
 clear HK c0
 refine wp_region_held_drew (S := KP w g p a) (by kernel_rfl) (st0.drewN 1) (fun hHeld => ?_)
 generalize W1.drew = Wd at hHeld ⊢
 refine take_op 0 64 ?v0x11 rfl rfl (by kernel_rfl) (fun _ _ _ h => h) (by rfl) (by assumption) (fun w' hS' => ?hv0x11) ?h0x11
 case hv0x11 => (go_simp; try with_reducible rfl)
 simp only [Act.put, List.setIfInBounds_toArray, List.set_cons_zero, List.set_cons_succ]
 refine take_op 1 65 ?v1x12 rfl rfl (by kernel_rfl) (fun _ _ _ h => h) (by rfl) (by assumption) (fun w' hS' => ?hv1x12) ?h1x12
 case hv1x12 => (have k := hS'.k.f4; go_simp; try with_reducible rfl)
 simp only [Act.put, List.setIfInBounds_toArray, List.set_cons_zero, List.set_cons_succ]
 refine take_op 2 66 ?v2x13 rfl rfl (by kernel_rfl) (fun _ _ _ h => h) (by rfl) (by assumption) (fun w' hS' => ?hv2x13) ?h2x13
 case hv2x13 => (go_simp; try with_reducible rfl)
 simp only [Act.put, List.setIfInBounds_toArray, List.set_cons_zero, List.set_cons_succ]
 refine take_load 4 68 30 (.tmp 1) g 0 (.agg (pkArr p a)) rfl rfl (by kernel_rfl) (fun _ _ _ h => h) (by rfl) (by assumption) rfl rfl (fun w' hS' => load_pk hS'.k) ?_
 simp only [Act.put, List.setIfInBounds_toArray, List.set_cons_zero, List.set_cons_succ]
 refine two_ops 3 5 rfl rfl (by kernel_rfl) (by rfl) (by rfl) ?_ ?_
 ·have st2 := hHeld.alloc (.cells [.iface 115 (.int .i64 p.id)].toArray 20)
  refine wp_made 67 (.slice (some ⟨Wd.heap.size, 0, none⟩) 1 1) rfl (by go_simp) ⟨st2, ?_⟩
  simp only [Act.put, List.setIfInBounds_toArray, List.set_cons_zero, List.set_cons_succ]
  have hown := lit_ownp Wd (w.heap.size + 1) w.heap.size [.iface 115 (.int .i64 p.id)] [.number p.id] 1 (hHeld.room HG.out) hHeld.b.size rfl rfl (by decide) (fun j x y => by
   match j, x, y with
   | 0, _, _ => exact ⟨rfl, hf.id.2⟩)
  refine only_op 5 rfl (by kernel_rfl) (by rfl) (wp_call_ex 69 68 #[.agg (pkArr p a)] _ rfl (by go_simp) (HR.out _ st2.b.size st2.out.2) ?_)
  rintro e w2 ⟨A, c, rfl, hA, hpa, hb⟩
  have st4 := st2.below hb
  have hown2 := hown.below st2.b.size hb
  refine ⟨_, rfl, st4, ?_⟩
  simp only [Act.put, List.setIfInBounds_toArray, List.set_cons_zero, List.set_cons_succ]
  refine only_op 6 rfl (by kernel_rfl) (by rfl) (wp_append_parts 70 (.tmp 67) (.tmp 69) rfl rfl rfl rfl hA hown2 hpa (by omega) (st4.room HG.out) (by simp; omega) (fun v' w3 hown3 hb3 => ⟨st4.grown HG.out hb3, ?_⟩))
  simp only [Act.put, List.setIfInBounds_toArray, List.set_cons_zero, List.set_cons_succ]
  have st3 := st4.grown HG.out hb3
  refine take_op 7 2 ?v7x14 rfl rfl (by kernel_rfl) (fun _ _ _ h => h) (by rfl) (by assumption) (fun w' hS' => ?hv7x14) ?h7x14
  case hv7x14 => (go_simp; try with_reducible rfl)
  simp only [Act.put, List.setIfInBounds_toArray, List.set_cons_zero, List.set_cons_succ]
  refine wpAnyH_done (by kernel_rfl) ?_ _
  have HO := Lib.hid (hown3.gives st3.b)
  clear hown3 st3 hb3
  go_wp2_with fail
  go_ret
  exact HO.out
 ·refine wp_call_ex 69 68 #[.agg (pkArr p a)] _ rfl (by go_simp) (HR.out _ hHeld.b.size hHeld.out.2) ?_
  rintro e w2 ⟨A, c, rfl, hA, hpa, hb⟩
  have st4 := hHeld.below hb
  refine ⟨_, rfl, st4, ?_⟩
  simp only [Act.put, List.setIfInBounds_toArray, List.set_cons_zero, List.set_cons_succ]
  have st5 := st4.alloc (.cells [.iface 115 (.int .i64 p.id)].toArray 20)
  have hown := lit_ownp w2 (w.heap.size + 1) w.heap.size [.iface 115 (.int .i64 p.id)] [.number p.id] 1 (st4.room HG.out) st4.b.size rfl rfl (by decide) (fun j x y => by
   match j, x, y with
   | 0, _, _ => exact ⟨rfl, hf.id.2⟩)
  refine only_op 3 rfl (by kernel_rfl) (by rfl) (wp_made 67 (.slice (some ⟨w2.heap.size, 0, none⟩) 1 1) rfl (by go_simp) ⟨st5, ?_⟩)
  simp only [Act.put, List.setIfInBounds_toArray, List.set_cons_zero, List.set_cons_succ]
  refine only_op 6 rfl (by kernel_rfl) (by rfl) (wp_append_parts 70 (.tmp 67) (.tmp 69) rfl rfl rfl rfl hA hown ((hpa.below st4.b.size ((Below.refl _ _).alloc (Nat.le_refl _) _)).mono (by rw [World.size_alloc]; omega)) (by omega) (st5.room HG.out) (by simp; omega) (fun v' w3 hown3 hb3 => ⟨st5.grown HG.out hb3, ?_⟩))
  simp only [Act.put, List.setIfInBounds_toArray, List.set_cons_zero, List.set_cons_succ]
  have st3 := st5.grown HG.out hb3
  refine take_op 7 2 ?v7x15 rfl rfl (by kernel_rfl) (fun _ _ _ h => h) (by rfl) (by assumption) (fun w' hS' => ?hv7x15) ?h7x15
  case hv7x15 => (go_simp; try with_reducible rfl)
  simp only [Act.put, List.setIfInBounds_toArray, List.set_cons_zero, List.set_cons_succ]
  refine wpAnyH_done (by kernel_rfl) ?_ _
  have HO := Lib.hid (hown3.gives st3.b)
  clear hown3 st3 hb3
  go_wp2_with fail
  go_ret
  exact HO.out
theorem partsOf_7 (p : Pk) (a : Ad) (w : World) (hf : PkFit p a) (h : PkAt w w.heap.size p a) (hk : p.kind = 7) :
  Calls Tryz.prog 31 #[.agg (pkArr p a)] w (GivesParts ([.number p.id] ++ reasonL p) w.heap.size w) := by
 have H := Lib.hid h
 have HR := Lib.hid (fun (W : World) (hC : w.heap.size ≤ W.heap.size) (h : PkAt W w.heap.size p a) => reasonParts_is p a w.heap.size W hC hf h)
 have hrl : (reasonL p).length ≤ 2 := by
  unfold reasonL
  repeat' split
  all_goals simp
 have e1 : (p.kind == 1) = false := ne_false (by omega)
 have e2 : (p.kind == 2) = false := ne_false (by omega)
 have e3 : (p.kind == 3) = false := ne_false (by omega)
 have e4 : (p.kind == 4) = false := ne_false (by omega)
 have e5 : (p.kind == 5) = false := ne_false (by omega)
 have e6 : (p.kind == 6) = false := ne_false (by omega)
 have e7 : (p.kind == 7) = true := beq_iff_eq.2 (by omega)
 clear h hk
 have HK0 := Keep.new w 30 (pkArr p a)
 obtain ⟨W1, hW⟩ : ∃ W1, w.alloc (.cells (pkArr p a) 30) = W1 := ⟨_, rfl⟩
 rw [hW] at HK0
 unfold pkArr at hW ⊢
 have HW := Lib.hid hW
 clear hW
 go_enter Tryz.func31, Tryz.ntmps31
 go_upto_region 1 with fail
 rw [HW.out]
 generalize Value.agg _ = v0
 obtain ⟨g, hg⟩ : ∃ g, w.heap.size = g := ⟨_, rfl⟩
 rw [hg] at HK0 ⊢
 have HK := Lib.hid (KP.new HK0 H.out)
 clear HW HK0 H
 have HG := Lib.hid hg
 clear hg
 have c0 := HK.out.k.f0
 go_upto_region 14 with fail
 have st0 := HK.out
 clear HK c0
 refine wp_region_held_drew (S := KP w g p a) (by kernel_rfl) (st0.drewN 1) (fun hHeld => ?_)
 generalize W1.drew = Wd at hHeld ⊢
 refine take_op 0 64 ?v0x16 rfl rfl (by kernel_rfl) (fun _ _ _ h => h) (by rfl) (by assumption) (fun w' hS' => ?hv0x16) ?h0x16
 case hv0x16 => (go_simp; try with_reducible rfl)
 simp only [Act.put, List.setIfInBounds_toArray, List.set_cons_zero, List.set_cons_succ]
 refine take_op 1 65 ?v1x17 rfl rfl (by kernel_rfl) (fun _ _ _ h => h) (by rfl) (by assumption) (fun w' hS' => ?hv1x17) ?h1x17
 case hv1x17 => (have k := hS'.k.f4; go_simp; try with_reducible rfl)
 simp only [Act.put, List.setIfInBounds_toArray, List.set_cons_zero, List.set_cons_succ]
 refine take_op 2 66 ?v2x18 rfl rfl (by kernel_rfl) (fun _ _ _ h => h) (by rfl) (by assumption) (fun w' hS' => ?hv2x18) ?h2x18
 case hv2x18 => (go_simp; try with_reducible rfl)
 simp only [Act.put, List.setIfInBounds_toArray, List.set_cons_zero, List.set_cons_succ]
 refine take_load 4 68 30 (.tmp 1) g 0 (.agg (pkArr p a)) rfl rfl (by kernel_rfl) (fun _ _ _ h => h) (by rfl) (by assumption) rfl rfl (fun w' hS' => load_pk hS'.k) ?_
 simp only [Act.put, List.setIfInBounds_toArray, List.set_cons_zero, List.set_cons_succ]
 refine two_ops 3 5 rfl rfl (by kernel_rfl) (by rfl) (by rfl) ?_ ?_
 ·have st2 := hHeld.alloc (.cells [.iface 115 (.int .i64 p.id)].toArray 20)
  refine wp_made 67 (.slice (some ⟨Wd.heap.size, 0, none⟩) 1 1) rfl (by go_simp) ⟨st2, ?_⟩
  simp only [Act.put, List.setIfInBounds_toArray, List.set_cons_zero, List.set_cons_succ]
  have hown := lit_ownp Wd (w.heap.size + 1) w.heap.size [.iface 115 (.int .i64 p.id)] [.number p.id] 1 (hHeld.room HG.out) hHeld.b.size rfl rfl (by decide) (fun j x y => by
   match j, x, y with
   | 0, _, _ => exact ⟨rfl, hf.id.2⟩)
  refine only_op 5 rfl (by kernel_rfl) (by rfl) (wp_call_ex 69 68 #[.agg (pkArr p a)] _ rfl (by go_simp) (HR.out _ st2.b.size st2.out.2) ?_)
  rintro e w2 ⟨A, c, rfl, hA, hpa, hb⟩
  have st4 := st2.below hb
  have hown2 := hown.below st2.b.size hb
  refine ⟨_, rfl, st4, ?_⟩
  simp only [Act.put, List.setIfInBounds_toArray, List.set_cons_zero, List.set_cons_succ]
  refine only_op 6 rfl (by kernel_rfl) (by rfl) (wp_append_parts 70 (.tmp 67) (.tmp 69) rfl rfl rfl rfl hA hown2 hpa (by omega) (st4.room HG.out) (by simp; omega) (fun v' w3 hown3 hb3 => ⟨st4.grown HG.out hb3, ?_⟩))
  simp only [Act.put, List.setIfInBounds_toArray, List.set_cons_zero, List.set_cons_succ]
  have st3 := st4.grown HG.out hb3
  refine take_op 7 2 ?v7x19 rfl rfl (by kernel_rfl) (fun _ _ _ h => h) (by rfl) (by assumption) (fun w' hS' => ?hv7x19) ?h7x19
  case hv7x19 => (go_simp; try with_reducible rfl)
  simp only [Act.put, List.setIfInBounds_toArray, List.set_cons_zero, List.set_cons_succ]
  refine wpAnyH_done (by kernel_rfl) ?_ _
  have HO := Lib.hid (hown3.gives st3.b)
  clear hown3 st3 hb3
  go_wp2_with fail
  go_ret
  exact HO.out
 ·refine wp_call_ex 69 68 #[.agg (pkArr p a)] _ rfl (by go_simp) (HR.out _ hHeld.b.size hHeld.out.2) ?_
  rintro e w2 ⟨A, c, rfl, hA, hpa, hb⟩
  have st4 := hHeld.below hb
  refine ⟨_, rfl, st4, ?_⟩
  simp only [Act.put, List.setIfInBounds_toArray, List.set_cons_zero, List.set_cons_succ]
  have st5 := st4.alloc (.cells [.iface 115 (.int .i64 p.id)].toArray 20)
  have hown := lit_ownp w2 (w.heap.size + 1) w.heap.size [.iface 115 (.int .i64 p.id)] [.number p.id] 1 (st4.room HG.out) st4.b.size rfl rfl (by decide) (fun j x y => by
   match j, x, y with
   | 0, _, _ => exact ⟨rfl, hf.id.2⟩)
  refine only_op 3 rfl (by kernel_rfl) (by rfl) (wp_made 67 (.slice (some ⟨w2.heap.size, 0, none⟩) 1 1) rfl (by go_simp) ⟨st5, ?_⟩)
  simp only [Act.put, List.setIfInBounds_toArray, List.set_cons_zero, List.set_cons_succ]
  refine only_op 6 rfl (by kernel_rfl) (by rfl) (wp_append_parts 70 (.tmp 67) (.tmp 69) rfl rfl rfl rfl hA hown ((hpa.below st4.b.size ((Below.refl _ _).alloc (Nat.le_refl _) _)).mono (by rw [World.size_alloc]; omega)) (by omega) (st5.room HG.out) (by simp; omega) (fun v' w3 hown3 hb3 => ⟨st5.grown HG.out hb3, ?_⟩))
  simp only [Act.put, List.setIfInBounds_toArray, List.set_cons_zero, List.set_cons_succ]
  have st3 := st5.grown HG.out hb3
  refine take_op 7 2 ?v7x20 rfl rfl (by kernel_rfl) (fun _ _ _ h => h) (by rfl) (by assumption) (fun w' hS' => ?hv7x20) ?h7x20
  case hv7x20 => (go_simp; try with_reducible rfl)
  simp only [Act.put, List.setIfInBounds_toArray, List.set_cons_zero, List.set_cons_succ]
  refine wpAnyH_done (by kernel_rfl) ?_ _
  have HO := Lib.hid (hown3.gives st3.b)
  clear hown3 st3 hb3
  go_wp2_with fail
  go_ret
  exact HO.out
end Go.Proofs.YtdbbcfohjkgdcaaGreat
