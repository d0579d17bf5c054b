/- Package pack: whether a packet may be, as far as the bytes of its parts leave it open. -/
import Derived.Test.YtiancngpknnkaaaGreatB07
set_option maxRecDepth 100000
set_option maxHeartbeats 64000000
namespace Go.Proofs.YtiancngpknnkaaaGreat
open Go.RowKit Go.Lib Prp Pkt
theorem mayBe_low (p : Pk) (a : Ad) (b : Bool) (w : World) (h : PkAt w w.heap.size p a) (hk : p.kind < 1 ∨ 15 < p.kind) (hb : mayP p = b) :
    Calls Tryz.prog 43 #[.agg (pkArr p a)] w fun e w' => e = .returned (.bool b) ∧ Below w.heap.size w w' := by
  have H := Lib.hid h
  clear h
  have HF : Hid (b = false) := hb.symm.trans (may_out hk)
  clear hb
  have HK0 := Keep.new w 30 (pkArr p a)
  obtain ⟨W1, hW⟩ : ∃ W1, w.alloc (.cells (pkArr p a) 30) = W1 := ⟨_, rfl⟩
  rw [hW] at HK0
  unfold pkArr at hW ⊢
  have HW := Lib.hid hW
  clear hW
  go_enter Tryz.func43, Tryz.ntmps43
  go_upto_region 1 with fail
  rw [HW.out]
  generalize Value.agg _ = v0
  obtain ⟨g, hg⟩ : ∃ g, w.heap.size = g := ⟨_, rfl⟩
  rw [hg] at HK0 ⊢
  have HK := Lib.hid (KP.new HK0 H.out)
  clear HW HK0 H
  have c0 := HK.out.k.f0
  rcases hk with h1 | h15
  · have hd : decide (p.kind < 1) = true := decide_eq_true h1
    go_quiet (fail)
    go_wp2_with fail
    go_ret
    exact ⟨by rw [HF.out]; rfl, below_drewN HK.out.b _⟩
  · have hd : decide (p.kind < 1) = false := decide_eq_false (by omega)
    have hd2 : decide (15 < p.kind) = true := decide_eq_true h15
    go_quiet (fail)
    go_wp2_with fail
    go_ret
    exact ⟨by rw [HF.out]; rfl, below_drewN HK.out.b _⟩
theorem mayBe_not (p : Pk) (a : Ad) (b : Bool) (w : World) (h : PkAt w w.heap.size p a) (hk1 : 1 ≤ p.kind) (hk15 : p.kind ≤ 15) (hF : fieldB p = false) (hb : mayP p = b) :
    Calls Tryz.prog 43 #[.agg (pkArr p a)] w fun e w' => e = .returned (.bool b) ∧ Below w.heap.size w w' := by
  have H := Lib.hid h
  clear h
  have HF : Hid (b = false) := hb.symm.trans (may_field hF)
  clear hb
  obtain ⟨R, hR⟩ : ∃ R, fillZ p = R := ⟨_, rfl⟩
  have HFi := Lib.hid (fun (W : World) => filled_is p a R W hR)
  obtain ⟨G, hG⟩ : ∃ G, fieldsZ p.kind = G := ⟨_, rfl⟩
  have HFo := Lib.hid (fun (W : World) => fieldsOf_is p.kind G W (by omega) (by omega) hG)
  have hfb : (bits .andNot .i64 R G != 0) = !false := fill_at (by omega) (by omega) hR hG hF
  have hd : decide (p.kind < 1) = false := decide_eq_false (by omega)
  have hd2 : decide (15 < p.kind) = false := decide_eq_false (by omega)
  clear hR hG hF
  have HK0 := Keep.new w 30 (pkArr p a)
  obtain ⟨W1, hW⟩ : ∃ W1, w.alloc (.cells (pkArr p a) 30) = W1 := ⟨_, rfl⟩
  rw [hW] at HK0
  unfold pkArr at hW ⊢
  have HW := Lib.hid hW
  clear hW
  go_enter Tryz.func43, Tryz.ntmps43
  go_upto_region 1 with fail
  rw [HW.out]
  generalize Value.agg _ = v0
  obtain ⟨g, hg⟩ : ∃ g, w.heap.size = g := ⟨_, rfl⟩
  rw [hg] at HK0 ⊢
  have HK := Lib.hid (KP.new HK0 H.out)
  clear HW HK0 H
  have k0 := fun u : In (KP w g p a) => u.h.k.f0
  have hld := fun u : In (KP w g p a) => load_pk u.h.k
  have st0 := HK.out
  clear HK
  haveI : Nonempty (In (KP w g p a)) := ⟨⟨_, st0⟩⟩
  refine region_in (S := KP w g p a) (by kernel_rfl) (by kernel_rfl) (st0.drewN 1) ?_
  iterate 9 (go_big_quiet_step (fail))
  go_big_quiet_want
  refine quiet_load_in 30 (.tmp 1) rfl g 0 rfl _ hld ?_
  go_simp
  go_big_quiet_on
  repeat (go_big_quiet_step (first | (go_at_call 72; exact in_call ((HFi.out _).mono fun _ _ h => ⟨h.1, KP.below (In.h _) h.2⟩)) | (go_at_call 73; exact in_call ((HFo.out _).mono fun _ _ h => ⟨h.1, by rw [← h.2]; exact In.h _⟩))))
  refine wpQuiet_nil ?_
  rintro _ ⟨⟨w2, st2⟩, rfl⟩
  have HK := Lib.hid st2
  clear this st0 st2 k0 hld HFi HFo hfb hd hd2
  go_wp2_with fail
  go_ret
  exact ⟨by rw [HF.out]; rfl, HK.out.b⟩
open Go.RowKit Go.Lib Prp Pkt
theorem mayBe_1 (p : Pk) (a : Ad) (b : Bool) (w : World) (h : PkAt w w.heap.size p a) (hk : p.kind = 1) (hF : fieldB p = true) (hb : mayP p = b) :
    Calls Tryz.prog 43 #[.agg (pkArr p a)] w fun e w' => e = .returned (.bool b) ∧ Below w.heap.size w w' := by
  have H := Lib.hid h
  clear h
  have HL := Lib.hid (fun (W : World) => mayLogIn_is p a b W ((may_1 hk hF).symm.trans hb))
  clear hb
  obtain ⟨R, hR⟩ : ∃ R, fillZ p = R := ⟨_, rfl⟩
  have HFi := Lib.hid (fun (W : World) => filled_is p a R W hR)
  obtain ⟨G, hG⟩ : ∃ G, fieldsZ p.kind = G := ⟨_, rfl⟩
  have HFo := Lib.hid (fun (W : World) => fieldsOf_is p.kind G W (by omega) (by omega) hG)
  have hfb : (bits .andNot .i64 R G != 0) = !true := fill_at (by omega) (by omega) hR hG hF
  have hd : decide (p.kind < 1) = false := decide_eq_false (by omega)
  have hd2 : decide (15 < p.kind) = false := decide_eq_false (by omega)
  clear hR hG hF
  have e1 : (p.kind == 1) = true := beq_iff_eq.2 (by omega)
  clear hk
  have HK0 := Keep.new w 30 (pkArr p a)
  obtain ⟨W1, hW⟩ : ∃ W1, w.alloc (.cells (pkArr p a) 30) = W1 := ⟨_, rfl⟩
  rw [hW] at HK0
  unfold pkArr at hW ⊢
  have HW := Lib.hid hW
  clear hW
  go_enter Tryz.func43, Tryz.ntmps43
  go_upto_region 1 with fail
  rw [HW.out]
  generalize Value.agg _ = v0
  obtain ⟨g, hg⟩ : ∃ g, w.heap.size = g := ⟨_, rfl⟩
  rw [hg] at HK0 ⊢
  have HK := Lib.hid (KP.new HK0 H.out)
  clear HW HK0 H
  have k0 := fun u : In (KP w g p a) => u.h.k.f0
  have hld := fun u : In (KP w g p a) => load_pk u.h.k
  have st0 := HK.out
  clear HK
  haveI : Nonempty (In (KP w g p a)) := ⟨⟨_, st0⟩⟩
  refine region_in (S := KP w g p a) (by kernel_rfl) (by kernel_rfl) (st0.drewN 1) ?_
  iterate 9 (go_big_quiet_step (fail))
  go_big_quiet_want
  refine quiet_load_in 30 (.tmp 1) rfl g 0 rfl _ hld ?_
  go_simp
  go_big_quiet_on
  repeat (go_big_quiet_step (first | (go_at_call 72; exact in_call ((HFi.out _).mono fun _ _ h => ⟨h.1, KP.below (In.h _) h.2⟩)) | (go_at_call 73; exact in_call ((HFo.out _).mono fun _ _ h => ⟨h.1, by rw [← h.2]; exact In.h _⟩))))
  refine wpQuiet_nil ?_
  rintro _ ⟨⟨w2, st2⟩, rfl⟩
  have HK := Lib.hid st2
  clear this st0 st2 k0 hld HFi HFo hfb hd hd2
  have c0 := HK.out.k.f0
  have hld := load_pk HK.out.k
  go_wp2_with (first | (refine wpList_load_one rfl 30 (.tmp 1) rfl g 0 rfl _ hld ?_) | (go_at_call 74; refine (HL.out _).mono ?_; rintro e w1 ⟨rfl, hb⟩))
  go_ret
  exact ⟨rfl, (HK.out.below hb).b⟩
open Go.RowKit Go.Lib Prp Pkt
theorem mayBe_3 (p : Pk) (a : Ad) (b : Bool) (w : World) (h : PkAt w w.heap.size p a) (hk : p.kind = 3) (hF : fieldB p = true) (hb : mayP p = b) :
    Calls Tryz.prog 43 #[.agg (pkArr p a)] w fun e w' => e = .returned (.bool b) ∧ Below w.heap.size w w' := by
  have H := Lib.hid h
  clear h
  obtain ⟨V, hV⟩ : ∃ V, sendB p.dup p.q = V := ⟨_, rfl⟩
  have HS := Lib.hid (fun (W : World) => maySend_is p a V W hV)
  have HF : Hid (b = (V && ((decide (0 < p.q) || p.id == 0) && decide ((p.b.size : Int) ≤ 1024)))) := hb.symm.trans ((may_3 hk hF).trans (by rw [hV]))
  clear hb hV
  obtain ⟨R, hR⟩ : ∃ R, fillZ p = R := ⟨_, rfl⟩
  have HFi := Lib.hid (fun (W : World) => filled_is p a R W hR)
  obtain ⟨G, hG⟩ : ∃ G, fieldsZ p.kind = G := ⟨_, rfl⟩
  have HFo := Lib.hid (fun (W : World) => fieldsOf_is p.kind G W (by omega) (by omega) hG)
  have hfb : (bits .andNot .i64 R G != 0) = !true := fill_at (by omega) (by omega) hR hG hF
  have hd : decide (p.kind < 1) = false := decide_eq_false (by omega)
  have hd2 : decide (15 < p.kind) = false := decide_eq_false (by omega)
  clear hR hG hF
  have e1 : (p.kind == 1) = false := ne_false (by omega)
  have e3 : (p.kind == 3) = true := beq_iff_eq.2 (by omega)
  clear hk
  have HK0 := Keep.new w 30 (pkArr p a)
  obtain ⟨W1, hW⟩ : ∃ W1, w.alloc (.cells (pkArr p a) 30) = W1 := ⟨_, rfl⟩
  rw [hW] at HK0
  unfold pkArr at hW ⊢
  have HW := Lib.hid hW
  clear hW
  go_enter Tryz.func43, Tryz.ntmps43
  go_upto_region 1 with fail
  rw [HW.out]
  generalize Value.agg _ = v0
  obtain ⟨g, hg⟩ : ∃ g, w.heap.size = g := ⟨_, rfl⟩
  rw [hg] at HK0 ⊢
  have HK := Lib.hid (KP.new HK0 H.out)
  clear HW HK0 H
  have k0 := fun u : In (KP w g p a) => u.h.k.f0
  have hld := fun u : In (KP w g p a) => load_pk u.h.k
  have st0 := HK.out
  clear HK
  haveI : Nonempty (In (KP w g p a)) := ⟨⟨_, st0⟩⟩
  refine region_in (S := KP w g p a) (by kernel_rfl) (by kernel_rfl) (st0.drewN 1) ?_
  iterate 9 (go_big_quiet_step (fail))
  go_big_quiet_want
  refine quiet_load_in 30 (.tmp 1) rfl g 0 rfl _ hld ?_
  go_simp
  go_big_quiet_on
  repeat (go_big_quiet_step (first | (go_at_call 72; exact in_call ((HFi.out _).mono fun _ _ h => ⟨h.1, KP.below (In.h _) h.2⟩)) | (go_at_call 73; exact in_call ((HFo.out _).mono fun _ _ h => ⟨h.1, by rw [← h.2]; exact In.h _⟩))))
  refine wpQuiet_nil ?_
  rintro _ ⟨⟨w2, st2⟩, rfl⟩
  have HK := Lib.hid st2
  clear this st0 st2 k0 hld HFi HFo hfb hd hd2
  have c0 := HK.out.k.f0
  have hld := load_pk HK.out.k
  go_wp2_with (first | (refine wpList_load_one rfl 30 (.tmp 1) rfl g 0 rfl _ hld ?_) | (go_at_call 75; refine (HS.out _).mono ?_; rintro e w1 ⟨rfl, hb⟩; have HK1 := HK.out.below hb; have d2 := HK1.k.f2; have d4 := HK1.k.f4; have d6 := HK1.k.f6))
  all_goals go_ret
  all_goals (refine ⟨ret_bool ?_, by first | exact (HK.out.below hb).b | (have hx := (HK.out.below hb).b; rw [hg] at hx; exact hx)⟩; rw [HF.out]; clear c0 hld; clear d2 d4 d6 HK1 HK HF HS; first | (simp [*]; done) | simp_all)
open Go.RowKit Go.Lib Prp Pkt
theorem mayBe_8 (p : Pk) (a : Ad) (b : Bool) (w : World) (h : PkAt w w.heap.size p a) (hk : p.kind = 8) (hm : p.fs.length ≤ 9223372036854775807) (hF : fieldB p = true) (hb : mayP p = b) :
    Calls Tryz.prog 43 #[.agg (pkArr p a)] w fun e w' => e = .returned (.bool b) ∧ Below w.heap.size w w' := by
  have H := Lib.hid h
  clear h
  have HA := Lib.hid (fun (W : World) (h : PkAt W W.heap.size p a) => mayAsk_is p a b W hm h ((may_8 (by omega) hF).symm.trans hb))
  clear hb
  obtain ⟨R, hR⟩ : ∃ R, fillZ p = R := ⟨_, rfl⟩
  have HFi := Lib.hid (fun (W : World) => filled_is p a R W hR)
  obtain ⟨G, hG⟩ : ∃ G, fieldsZ p.kind = G := ⟨_, rfl⟩
  have HFo := Lib.hid (fun (W : World) => fieldsOf_is p.kind G W (by omega) (by omega) hG)
  have hfb : (bits .andNot .i64 R G != 0) = !true := fill_at (by omega) (by omega) hR hG hF
  have hd : decide (p.kind < 1) = false := decide_eq_false (by omega)
  have hd2 : decide (15 < p.kind) = false := decide_eq_false (by omega)
  clear hR hG hF
  have e1 : (p.kind == 1) = false := ne_false (by omega)
  have e3 : (p.kind == 3) = false := ne_false (by omega)
  have e8 : (p.kind == 8) = true := beq_iff_eq.2 (by omega)
  clear hk
  have HK0 := Keep.new w 30 (pkArr p a)
  obtain ⟨W1, hW⟩ : ∃ W1, w.alloc (.cells (pkArr p a) 30) = W1 := ⟨_, rfl⟩
  rw [hW] at HK0
  unfold pkArr at hW ⊢
  have HW := Lib.hid hW
  clear hW
  go_enter Tryz.func43, Tryz.ntmps43
  go_upto_region 1 with fail
  rw [HW.out]
  generalize Value.agg _ = v0
  obtain ⟨g, hg⟩ : ∃ g, w.heap.size = g := ⟨_, rfl⟩
  rw [hg] at HK0 ⊢
  have HK := Lib.hid (KP.new HK0 H.out)
  clear HW HK0 H
  have k0 := fun u : In (KP w g p a) => u.h.k.f0
  have hld := fun u : In (KP w g p a) => load_pk u.h.k
  have st0 := HK.out
  clear HK
  haveI : Nonempty (In (KP w g p a)) := ⟨⟨_, st0⟩⟩
  refine region_in (S := KP w g p a) (by kernel_rfl) (by kernel_rfl) (st0.drewN 1) ?_
  iterate 9 (go_big_quiet_step (fail))
  go_big_quiet_want
  refine quiet_load_in 30 (.tmp 1) rfl g 0 rfl _ hld ?_
  go_simp
  go_big_quiet_on
  repeat (go_big_quiet_step (first | (go_at_call 72; exact in_call ((HFi.out _).mono fun _ _ h => ⟨h.1, KP.below (In.h _) h.2⟩)) | (go_at_call 73; exact in_call ((HFo.out _).mono fun _ _ h => ⟨h.1, by rw [← h.2]; exact In.h _⟩))))
  refine wpQuiet_nil ?_
  rintro _ ⟨⟨w2, st2⟩, rfl⟩
  have HK := Lib.hid st2
  clear this st0 st2 k0 hld HFi HFo hfb hd hd2
  have c0 := HK.out.k.f0
  have hld := load_pk HK.out.k
  have HPK := Lib.hid HK.out.at
  go_wp2_with (first | (refine wpList_load_one rfl 30 (.tmp 1) rfl g 0 rfl _ hld ?_) | (go_at_call 76; refine (HA.out _ HPK.out).mono ?_; rintro e w1 ⟨rfl, hb⟩))
  go_ret
  exact ⟨rfl, (HK.out.below hb).b⟩
open Go.RowKit Go.Lib Prp Pkt
theorem mayBe_10 (p : Pk) (a : Ad) (b : Bool) (w : World) (h : PkAt w w.heap.size p a) (hk : p.kind = 10) (hm : p.fs.length ≤ 9223372036854775807) (hF : fieldB p = true) (hb : mayP p = b) :
    Calls Tryz.prog 43 #[.agg (pkArr p a)] w fun e w' => e = .returned (.bool b) ∧ Below w.heap.size w w' := by
  have H := Lib.hid h
  clear h
  have HA := Lib.hid (fun (W : World) (h : PkAt W W.heap.size p a) => mayAsk_is p a b W hm h ((may_8 (by omega) hF).symm.trans hb))
  clear hb
  obtain ⟨R, hR⟩ : ∃ R, fillZ p = R := ⟨_, rfl⟩
  have HFi := Lib.hid (fun (W : World) => filled_is p a R W hR)
  obtain ⟨G, hG⟩ : ∃ G, fieldsZ p.kind = G := ⟨_, rfl⟩
  have HFo := Lib.hid (fun (W : World) => fieldsOf_is p.kind G W (by omega) (by omega) hG)
  have hfb : (bits .andNot .i64 R G != 0) = !true := fill_at (by omega) (by omega) hR hG hF
  have hd : decide (p.kind < 1) = false := decide_eq_false (by omega)
  have hd2 : decide (15 < p.kind) = false := decide_eq_false (by omega)
  clear hR hG hF
  have e1 : (p.kind == 1) = false := ne_false (by omega)
  have e3 : (p.kind == 3) = false := ne_false (by omega)
  have e8 : (p.kind == 8) = false := ne_false (by omega)
  have e10 : (p.kind == 10) = true := beq_iff_eq.2 (by omega)
  clear hk
  have HK0 := Keep.new w 30 (pkArr p a)
  obtain ⟨W1, hW⟩ : ∃ W1, w.alloc (.cells (pkArr p a) 30) = W1 := ⟨_, rfl⟩
  rw [hW] at HK0
  unfold pkArr at hW ⊢
  have HW := Lib.hid hW
  clear hW
  go_enter Tryz.func43, Tryz.ntmps43
  go_upto_region 1 with fail
  rw [HW.out]
  generalize Value.agg _ = v0
  obtain ⟨g, hg⟩ : ∃ g, w.heap.size = g := ⟨_, rfl⟩
  rw [hg] at HK0 ⊢
  have HK := Lib.hid (KP.new HK0 H.out)
  clear HW HK0 H
  have k0 := fun u : In (KP w g p a) => u.h.k.f0
  have hld := fun u : In (KP w g p a) => load_pk u.h.k
  have st0 := HK.out
  clear HK
  haveI : Nonempty (In (KP w g p a)) := ⟨⟨_, st0⟩⟩
  refine region_in (S := KP w g p a) (by kernel_rfl) (by kernel_rfl) (st0.drewN 1) ?_
  iterate 9 (go_big_quiet_step (fail))
  go_big_quiet_want
  refine quiet_load_in 30 (.tmp 1) rfl g 0 rfl _ hld ?_
  go_simp
  go_big_quiet_on
  repeat (go_big_quiet_step (first | (go_at_call 72; exact in_call ((HFi.out _).mono fun _ _ h => ⟨h.1, KP.below (In.h _) h.2⟩)) | (go_at_call 73; exact in_call ((HFo.out _).mono fun _ _ h => ⟨h.1, by rw [← h.2]; exact In.h _⟩))))
  refine wpQuiet_nil ?_
  rintro _ ⟨⟨w2, st2⟩, rfl⟩
  have HK := Lib.hid st2
  clear this st0 st2 k0 hld HFi HFo hfb hd hd2
  have c0 := HK.out.k.f0
  have hld := load_pk HK.out.k
  have HPK := Lib.hid HK.out.at
  go_wp2_with (first | (refine wpList_load_one rfl 30 (.tmp 1) rfl g 0 rfl _ hld ?_) | (go_at_call 76; refine (HA.out _ HPK.out).mono ?_; rintro e w1 ⟨rfl, hb⟩))
  go_ret
  exact ⟨rfl, (HK.out.below hb).b⟩
open Go.RowKit Go.Lib Prp Pkt
theorem mayBe_9 (p : Pk) (a : Ad) (b : Bool) (w : World) (h : PkAt w w.heap.size p a) (hk : p.kind = 9) (hF : fieldB p = true) (hb : mayP p = b) :
    Calls Tryz.prog 43 #[.agg (pkArr p a)] w fun e w' => e = .returned (.bool b) ∧ Below w.heap.size w w' := by
  have H := Lib.hid h
  clear h
  have HC := Lib.hid (fun (W : World) => isCount_is p.cs.length b W ((may_9 (by omega) hF).symm.trans hb))
  clear hb
  obtain ⟨R, hR⟩ : ∃ R, fillZ p = R := ⟨_, rfl⟩
  have HFi := Lib.hid (fun (W : World) => filled_is p a R W hR)
  obtain ⟨G, hG⟩ : ∃ G, fieldsZ p.kind = G := ⟨_, rfl⟩
  have HFo := Lib.hid (fun (W : World) => fieldsOf_is p.kind G W (by omega) (by omega) hG)
  have hfb : (bits .andNot .i64 R G != 0) = !true := fill_at (by omega) (by omega) hR hG hF
  have hd : decide (p.kind < 1) = false := decide_eq_false (by omega)
  have hd2 : decide (15 < p.kind) = false := decide_eq_false (by omega)
  clear hR hG hF
  have e1 : (p.kind == 1) = false := ne_false (by omega)
  have e3 : (p.kind == 3) = false := ne_false (by omega)
  have e8 : (p.kind == 8) = false := ne_false (by omega)
  have e10 : (p.kind == 10) = false := ne_false (by omega)
  have e9 : (p.kind == 9) = true := beq_iff_eq.2 (by omega)
  clear hk
  have HK0 := Keep.new w 30 (pkArr p a)
  obtain ⟨W1, hW⟩ : ∃ W1, w.alloc (.cells (pkArr p a) 30) = W1 := ⟨_, rfl⟩
  rw [hW] at HK0
  unfold pkArr at hW ⊢
  have HW := Lib.hid hW
  clear hW
  go_enter Tryz.func43, Tryz.ntmps43
  go_upto_region 1 with fail
  rw [HW.out]
  generalize Value.agg _ = v0
  obtain ⟨g, hg⟩ : ∃ g, w.heap.size = g := ⟨_, rfl⟩
  rw [hg] at HK0 ⊢
  have HK := Lib.hid (KP.new HK0 H.out)
  clear HW HK0 H
  have k0 := fun u : In (KP w g p a) => u.h.k.f0
  have hld := fun u : In (KP w g p a) => load_pk u.h.k
  have st0 := HK.out
  clear HK
  haveI : Nonempty (In (KP w g p a)) := ⟨⟨_, st0⟩⟩
  refine region_in (S := KP w g p a) (by kernel_rfl) (by kernel_rfl) (st0.drewN 1) ?_
  iterate 9 (go_big_quiet_step (fail))
  go_big_quiet_want
  refine quiet_load_in 30 (.tmp 1) rfl g 0 rfl _ hld ?_
  go_simp
  go_big_quiet_on
  repeat (go_big_quiet_step (first | (go_at_call 72; exact in_call ((HFi.out _).mono fun _ _ h => ⟨h.1, KP.below (In.h _) h.2⟩)) | (go_at_call 73; exact in_call ((HFo.out _).mono fun _ _ h => ⟨h.1, by rw [← h.2]; exact In.h _⟩))))
  refine wpQuiet_nil ?_
  rintro _ ⟨⟨w2, st2⟩, rfl⟩
  have HK := Lib.hid st2
  clear this st0 st2 k0 hld HFi HFo hfb hd hd2
  have c0 := HK.out.k.f0
  have c9 := HK.out.k.f9
  go_wp2_with (go_at_call 77; refine (HC.out _).mono ?_; rintro e w' ⟨rfl, rfl⟩)
  go_ret
  exact ⟨rfl, HK.out.b⟩
open Go.RowKit Go.Lib Prp Pkt
theorem mayBe_11 (p : Pk) (a : Ad) (b : Bool) (w : World) (h : PkAt w w.heap.size p a) (hk : p.kind = 11) (hF : fieldB p = true) (hb : mayP p = b) :
    Calls Tryz.prog 43 #[.agg (pkArr p a)] w fun e w' => e = .returned (.bool b) ∧ Below w.heap.size w w' := by
  have H := Lib.hid h
  clear h
  have HC := Lib.hid (fun (W : World) => isCount_is p.cs.length b W ((may_9 (by omega) hF).symm.trans hb))
  clear hb
  obtain ⟨R, hR⟩ : ∃ R, fillZ p = R := ⟨_, rfl⟩
  have HFi := Lib.hid (fun (W : World) => filled_is p a R W hR)
  obtain ⟨G, hG⟩ : ∃ G, fieldsZ p.kind = G := ⟨_, rfl⟩
  have HFo := Lib.hid (fun (W : World) => fieldsOf_is p.kind G W (by omega) (by omega) hG)
  have hfb : (bits .andNot .i64 R G != 0) = !true := fill_at (by omega) (by omega) hR hG hF
  have hd : decide (p.kind < 1) = false := decide_eq_false (by omega)
  have hd2 : decide (15 < p.kind) = false := decide_eq_false (by omega)
  clear hR hG hF
  have e1 : (p.kind == 1) = false := ne_false (by omega)
  have e3 : (p.kind == 3) = false := ne_false (by omega)
  have e8 : (p.kind == 8) = false := ne_false (by omega)
  have e10 : (p.kind == 10) = false := ne_false (by omega)
  have e9 : (p.kind == 9) = false := ne_false (by omega)
  have e11 : (p.kind == 11) = true := beq_iff_eq.2 (by omega)
  clear hk
  have HK0 := Keep.new w 30 (pkArr p a)
  obtain ⟨W1, hW⟩ : ∃ W1, w.alloc (.cells (pkArr p a) 30) = W1 := ⟨_, rfl⟩
  rw [hW] at HK0
  unfold pkArr at hW ⊢
  have HW := Lib.hid hW
  clear hW
  go_enter Tryz.func43, Tryz.ntmps43
  go_upto_region 1 with fail
  rw [HW.out]
  generalize Value.agg _ = v0
  obtain ⟨g, hg⟩ : ∃ g, w.heap.size = g := ⟨_, rfl⟩
  rw [hg] at HK0 ⊢
  have HK := Lib.hid (KP.new HK0 H.out)
  clear HW HK0 H
  have k0 := fun u : In (KP w g p a) => u.h.k.f0
  have hld := fun u : In (KP w g p a) => load_pk u.h.k
  have st0 := HK.out
  clear HK
  haveI : Nonempty (In (KP w g p a)) := ⟨⟨_, st0⟩⟩
  refine region_in (S := KP w g p a) (by kernel_rfl) (by kernel_rfl) (st0.drewN 1) ?_
  iterate 9 (go_big_quiet_step (fail))
  go_big_quiet_want
  refine quiet_load_in 30 (.tmp 1) rfl g 0 rfl _ hld ?_
  go_simp
  go_big_quiet_on
  repeat (go_big_quiet_step (first | (go_at_call 72; exact in_call ((HFi.out _).mono fun _ _ h => ⟨h.1, KP.below (In.h _) h.2⟩)) | (go_at_call 73; exact in_call ((HFo.out _).mono fun _ _ h => ⟨h.1, by rw [← h.2]; exact In.h _⟩))))
  refine wpQuiet_nil ?_
  rintro _ ⟨⟨w2, st2⟩, rfl⟩
  have HK := Lib.hid st2
  clear this st0 st2 k0 hld HFi HFo hfb hd hd2
  have c0 := HK.out.k.f0
  have c9 := HK.out.k.f9
  go_wp2_with (go_at_call 77; refine (HC.out _).mono ?_; rintro e w' ⟨rfl, rfl⟩)
  go_ret
  exact ⟨rfl, HK.out.b⟩
open Go.RowKit Go.Lib Prp Pkt
theorem mayBe_else (p : Pk) (a : Ad) (b : Bool) (w : World) (h : PkAt w w.heap.size p a) (h1 : 1 ≤ p.kind) (h15 : p.kind ≤ 15) (hk : p.kind ≠ 1 ∧ p.kind ≠ 3 ∧ p.kind ≠ 8 ∧ p.kind ≠ 10 ∧ p.kind ≠ 9 ∧ p.kind ≠ 11) (hF : fieldB p = true) (hb : mayP p = b) :
    Calls Tryz.prog 43 #[.agg (pkArr p a)] w fun e w' => e = .returned (.bool b) ∧ Below w.heap.size w w' := by
  have H := Lib.hid h
  clear h
  obtain rfl : true = b := (may_else h1 h15 hk hF).symm.trans hb
  clear hb
  obtain ⟨R, hR⟩ : ∃ R, fillZ p = R := ⟨_, rfl⟩
  have HFi := Lib.hid (fun (W : World) => filled_is p a R W hR)
  obtain ⟨G, hG⟩ : ∃ G, fieldsZ p.kind = G := ⟨_, rfl⟩
  have HFo := Lib.hid (fun (W : World) => fieldsOf_is p.kind G W (by omega) (by omega) hG)
  have hfb : (bits .andNot .i64 R G != 0) = !true := fill_at (by omega) (by omega) hR hG hF
  have hd : decide (p.kind < 1) = false := decide_eq_false (by omega)
  have hd2 : decide (15 < p.kind) = false := decide_eq_false (by omega)
  clear hR hG hF
  have e1 : (p.kind == 1) = false := ne_false (by omega)
  have e3 : (p.kind == 3) = false := ne_false (by omega)
  have e8 : (p.kind == 8) = false := ne_false (by omega)
  have e10 : (p.kind == 10) = false := ne_false (by omega)
  have e9 : (p.kind == 9) = false := ne_false (by omega)
  have e11 : (p.kind == 11) = false := ne_false (by omega)
  clear hk h1 h15
  have HK0 := Keep.new w 30 (pkArr p a)
  obtain ⟨W1, hW⟩ : ∃ W1, w.alloc (.cells (pkArr p a) 30) = W1 := ⟨_, rfl⟩
  rw [hW] at HK0
  unfold pkArr at hW ⊢
  have HW := Lib.hid hW
  clear hW
  go_enter Tryz.func43, Tryz.ntmps43
  go_upto_region 1 with fail
  rw [HW.out]
  generalize Value.agg _ = v0
  obtain ⟨g, hg⟩ : ∃ g, w.heap.size = g := ⟨_, rfl⟩
  rw [hg] at HK0 ⊢
  have HK := Lib.hid (KP.new HK0 H.out)
  clear HW HK0 H
  have k0 := fun u : In (KP w g p a) => u.h.k.f0
  have hld := fun u : In (KP w g p a) => load_pk u.h.k
  have st0 := HK.out
  clear HK
  haveI : Nonempty (In (KP w g p a)) := ⟨⟨_, st0⟩⟩
  refine region_in (S := KP w g p a) (by kernel_rfl) (by kernel_rfl) (st0.drewN 1) ?_
  iterate 9 (go_big_quiet_step (fail))
  go_big_quiet_want
  refine quiet_load_in 30 (.tmp 1) rfl g 0 rfl _ hld ?_
  go_simp
  go_big_quiet_on
  repeat (go_big_quiet_step (first | (go_at_call 72; exact in_call ((HFi.out _).mono fun _ _ h => ⟨h.1, KP.below (In.h _) h.2⟩)) | (go_at_call 73; exact in_call ((HFo.out _).mono fun _ _ h => ⟨h.1, by rw [← h.2]; exact In.h _⟩))))
  refine wpQuiet_nil ?_
  rintro _ ⟨⟨w2, st2⟩, rfl⟩
  have HK := Lib.hid st2
  clear this st0 st2 k0 hld HFi HFo hfb hd hd2
  have c0 := HK.out.k.f0
  go_wp2_with fail
  go_ret
  exact ⟨rfl, HK.out.b⟩
open Go.RowKit Go.Lib Prp Pkt
theorem mayBe_is (p : Pk) (a : Ad) (b : Bool) (w : World) (hf : PkFit p a) (h : PkAt w w.heap.size p a) (hb : mayP p = b) :
    Calls Tryz.prog 43 #[.agg (pkArr p a)] w fun e w' => e = .returned (.bool b) ∧ Below w.heap.size w w' := by
  by_cases hk : p.kind < 1 ∨ 15 < p.kind
  · exact mayBe_low p a b w h hk hb
  cases hF : fieldB p with
  | false => exact mayBe_not p a b w h (by omega) (by omega) hF hb
  | true =>
    by_cases h1 : p.kind = 1
    · exact mayBe_1 p a b w h h1 hF hb
    by_cases h3 : p.kind = 3
    · exact mayBe_3 p a b w h h3 hF hb
    by_cases h8 : p.kind = 8
    · exact mayBe_8 p a b w h h8 hf.fl1.1 hF hb
    by_cases h10 : p.kind = 10
    · exact mayBe_10 p a b w h h10 hf.fl1.1 hF hb
    by_cases h9 : p.kind = 9
    · exact mayBe_9 p a b w h h9 hF hb
    by_cases h11 : p.kind = 11
    · exact mayBe_11 p a b w h h11 hF hb
    exact mayBe_else p a b w h (by omega) (by omega) ⟨h1, h3, h8, h10, h9, h11⟩ hF hb
end Go.Proofs.YtiancngpknnkaaaGreat
