/- The document's own answer on packets: what stands behind the length of an acknowledgement, a Disconnect, an Auth. -/
import Derived.Test.YtdbbcfohjkgdcaaGreatM00
import Derived.Test.YtdbbcfohjkgdcaaGreatM13
set_option maxRecDepth 100000
set_option maxHeartbeats 64000000
namespace Go.Proofs.YtdbbcfohjkgdcaaGreat
open Go.RowKit Go.Lib Prp Pkt Vbi
theorem rest_4p (p : Pk) (a : Ad) (S : ByteArray) (w : World) (h : PkAt w w.heap.size p a) (hk : p.kind = 4) (hid : 1 ≤ p.id ∧ p.id < 65536) (hre : 0 ≤ p.re ∧ p.re ≤ 255) (hps : propsB p.kind p.ps = true) (hp : 0 < p.ps.length) (hS : (fxStr p.id ++ strOfNums [p.re]) ++ propStr p.ps = S) :
  Calls Tryz.prog 39 #[.agg (pkArr p a)] w fun e w' => e = .returned (.string S) ∧ Below w.heap.size w w' := by
 have H := Lib.hid h
 clear h
 obtain ⟨F, hF⟩ : ∃ F, fxStr p.id = F := ⟨_, rfl⟩
 have hFz : F.size ≤ 2 := by rw [← hF, fxStr_size]; omega
 have HF := Lib.hid (fun W => RFixed_z2 p.id F W (by omega) (by omega) hF)
 rw [hF] at hS
 obtain ⟨P, hPP⟩ : ∃ P, propStr p.ps = P := ⟨_, rfl⟩
 have hPz : P.size ≤ 16428 := by rw [← hPP]; exact propStr_size hps
 have HP := Lib.hid (fun (W : World) (h : KP w w.heap.size p a W) => PropBytes_ok p.kind p.ps a.pa a.pc P W hps h.at.ps hPP)
 rw [hPP] at hS
 obtain ⟨O, hO⟩ : ∃ O, strOfNums [p.re] = O := ⟨_, rfl⟩
 have hOz : O.size ≤ 1 := by rw [← hO, strOfNums_size]; simp
 have HO := Lib.hid (fun W => one_is p.re O W hre.1 hre.2 hO)
 rw [hO] at hS
 have HS := Lib.hid hS
 have e1 : (p.kind == 1) = false := ne_false (by omega)
 have e2 : (p.kind == 2) = false := ne_false (by omega)
 have e3 : (p.kind == 3) = false := ne_false (by omega)
 have e4 : (p.kind == 4) = true := beq_iff_eq.2 (by omega)
 have n14 : (p.kind != 14) = true := ne_true (by omega)
 have n15 : (p.kind != 15) = true := ne_true (by omega)
 have dp : decide ((0 : Int) < (p.ps.length : Int)) = true := decide_eq_true (by omega)
 have dn : decide (0 < p.ps.length) = true := decide_eq_true hp
 clear hS hk hF hid hPP hps hO hre hp
 have HK0 := Keep.new w 30 (pkArr p a)
 obtain ⟨W1, hW⟩ : ∃ W1, w.alloc (.cells (pkArr p a) 30) = W1 := ⟨_, rfl⟩
 rw [hW] at HK0
 unfold pkArr at hW ⊢
 have HW := Lib.hid hW
 clear hW
 go_enter Tryz.func39, Tryz.ntmps39
 go_upto_region 2 with fail
 rw [HW.out]
 generalize Value.agg _ = v0
 obtain ⟨g, hg⟩ : ∃ g, w.heap.size = g := ⟨_, rfl⟩
 rw [hg] at HK0 ⊢
 have HK := Lib.hid (KP.new HK0 H.out)
 clear HW HK0 H
 rw [hg] at HP
 have HG := Lib.hid hg
 clear hg
 have c0 := HK.out.k.f0
 have c4 := HK.out.k.f4
 have c7 := HK.out.k.f7
 have c24 := HK.out.k.f24
 by_cases hr : p.re = 0
 ·have rn : (p.re != 0) = false := by rw [hr]; rfl
  clear hr
  go_wp2_with (first | (go_at_call 78; refine (HF.out _).mono ?_; rintro e w1 ⟨rfl, hb1⟩; have HK1 := Lib.hid (HK.out.below hb1); clear hb1; have d7 := HK1.out.k.f7; have d24 := HK1.out.k.f24) | (go_at_call 40; refine (HO.out _).mono ?_; rintro e w2 ⟨rfl, hb2⟩; have HK2 := Lib.hid (HK1.out.below hb2); clear hb2; have f24 := HK2.out.k.f24) | (go_at_call 79; refine (HP.out _ HK2.out).mono ?_; rintro e w3 ⟨rfl, hb3⟩; have HK3 := Lib.hid (HK2.out.below hb3); clear hb3))
  go_ret
  exact ⟨by rw [← HS.out]; rfl, HK3.out.b⟩
 ·have rn : (p.re != 0) = true := ne_true hr
  clear hr
  go_wp2_with (first | (go_at_call 78; refine (HF.out _).mono ?_; rintro e w1 ⟨rfl, hb1⟩; have HK1 := Lib.hid (HK.out.below hb1); clear hb1; have d7 := HK1.out.k.f7; have d24 := HK1.out.k.f24) | (go_at_call 40; refine (HO.out _).mono ?_; rintro e w2 ⟨rfl, hb2⟩; have HK2 := Lib.hid (HK1.out.below hb2); clear hb2; have f24 := HK2.out.k.f24) | (go_at_call 79; refine (HP.out _ HK2.out).mono ?_; rintro e w3 ⟨rfl, hb3⟩; have HK3 := Lib.hid (HK2.out.below hb3); clear hb3))
  go_ret
  exact ⟨by rw [← HS.out]; rfl, HK3.out.b⟩
theorem rest_4r (p : Pk) (a : Ad) (S : ByteArray) (w : World) (h : PkAt w w.heap.size p a) (hk : p.kind = 4) (hid : 1 ≤ p.id ∧ p.id < 65536) (hre : 0 ≤ p.re ∧ p.re ≤ 255) (hp : p.ps.length = 0) (hr : ¬ p.re = 0) (hS : fxStr p.id ++ strOfNums [p.re] = S) :
  Calls Tryz.prog 39 #[.agg (pkArr p a)] w fun e w' => e = .returned (.string S) ∧ Below w.heap.size w w' := by
 have H := Lib.hid h
 clear h
 obtain ⟨F, hF⟩ : ∃ F, fxStr p.id = F := ⟨_, rfl⟩
 have hFz : F.size ≤ 2 := by rw [← hF, fxStr_size]; omega
 have HF := Lib.hid (fun W => RFixed_z2 p.id F W (by omega) (by omega) hF)
 rw [hF] at hS
 obtain ⟨O, hO⟩ : ∃ O, strOfNums [p.re] = O := ⟨_, rfl⟩
 have hOz : O.size ≤ 1 := by rw [← hO, strOfNums_size]; simp
 have HO := Lib.hid (fun W => one_is p.re O W hre.1 hre.2 hO)
 rw [hO] at hS
 have HS := Lib.hid hS
 have e1 : (p.kind == 1) = false := ne_false (by omega)
 have e2 : (p.kind == 2) = false := ne_false (by omega)
 have e3 : (p.kind == 3) = false := ne_false (by omega)
 have e4 : (p.kind == 4) = true := beq_iff_eq.2 (by omega)
 have n14 : (p.kind != 14) = true := ne_true (by omega)
 have n15 : (p.kind != 15) = true := ne_true (by omega)
 have dp : decide ((0 : Int) < (p.ps.length : Int)) = false := decide_eq_false (by omega)
 have dn : decide (0 < p.ps.length) = false := decide_eq_false (by omega)
 have rn : (p.re != 0) = true := ne_true hr
 clear hS hk hF hid hO hre hp hr
 have HK0 := Keep.new w 30 (pkArr p a)
 obtain ⟨W1, hW⟩ : ∃ W1, w.alloc (.cells (pkArr p a) 30) = W1 := ⟨_, rfl⟩
 rw [hW] at HK0
 unfold pkArr at hW ⊢
 have HW := Lib.hid hW
 clear hW
 go_enter Tryz.func39, Tryz.ntmps39
 go_upto_region 2 with fail
 rw [HW.out]
 generalize Value.agg _ = v0
 obtain ⟨g, hg⟩ : ∃ g, w.heap.size = g := ⟨_, rfl⟩
 rw [hg] at HK0 ⊢
 have HK := Lib.hid (KP.new HK0 H.out)
 clear HW HK0 H
 have HG := Lib.hid hg
 clear hg
 have c0 := HK.out.k.f0
 have c4 := HK.out.k.f4
 have c7 := HK.out.k.f7
 have c24 := HK.out.k.f24
 go_wp2_with (first | (go_at_call 78; refine (HF.out _).mono ?_; rintro e w1 ⟨rfl, hb1⟩; have HK1 := Lib.hid (HK.out.below hb1); clear hb1; have d7 := HK1.out.k.f7; have d24 := HK1.out.k.f24) | (go_at_call 40; refine (HO.out _).mono ?_; rintro e w2 ⟨rfl, hb2⟩; have HK2 := Lib.hid (HK1.out.below hb2); clear hb2; have f24 := HK2.out.k.f24))
 go_ret
 exact ⟨by rw [← HS.out]; rfl, HK2.out.b⟩
theorem rest_4n (p : Pk) (a : Ad) (S : ByteArray) (w : World) (h : PkAt w w.heap.size p a) (hk : p.kind = 4) (hid : 1 ≤ p.id ∧ p.id < 65536) (hp : p.ps.length = 0) (hr : p.re = 0) (hS : fxStr p.id = S) :
  Calls Tryz.prog 39 #[.agg (pkArr p a)] w fun e w' => e = .returned (.string S) ∧ Below w.heap.size w w' := by
 have H := Lib.hid h
 clear h
 obtain ⟨F, hF⟩ : ∃ F, fxStr p.id = F := ⟨_, rfl⟩
 have hFz : F.size ≤ 2 := by rw [← hF, fxStr_size]; omega
 have HF := Lib.hid (fun W => RFixed_z2 p.id F W (by omega) (by omega) hF)
 rw [hF] at hS
 have HS := Lib.hid hS
 have e1 : (p.kind == 1) = false := ne_false (by omega)
 have e2 : (p.kind == 2) = false := ne_false (by omega)
 have e3 : (p.kind == 3) = false := ne_false (by omega)
 have e4 : (p.kind == 4) = true := beq_iff_eq.2 (by omega)
 have n14 : (p.kind != 14) = true := ne_true (by omega)
 have n15 : (p.kind != 15) = true := ne_true (by omega)
 have dp : decide ((0 : Int) < (p.ps.length : Int)) = false := decide_eq_false (by omega)
 have dn : decide (0 < p.ps.length) = false := decide_eq_false (by omega)
 have rn : (p.re != 0) = false := by rw [hr]; rfl
 clear hS hk hF hid hp hr
 have HK0 := Keep.new w 30 (pkArr p a)
 obtain ⟨W1, hW⟩ : ∃ W1, w.alloc (.cells (pkArr p a) 30) = W1 := ⟨_, rfl⟩
 rw [hW] at HK0
 unfold pkArr at hW ⊢
 have HW := Lib.hid hW
 clear hW
 go_enter Tryz.func39, Tryz.ntmps39
 go_upto_region 2 with fail
 rw [HW.out]
 generalize Value.agg _ = v0
 obtain ⟨g, hg⟩ : ∃ g, w.heap.size = g := ⟨_, rfl⟩
 rw [hg] at HK0 ⊢
 have HK := Lib.hid (KP.new HK0 H.out)
 clear HW HK0 H
 have HG := Lib.hid hg
 clear hg
 have c0 := HK.out.k.f0
 have c4 := HK.out.k.f4
 have c7 := HK.out.k.f7
 have c24 := HK.out.k.f24
 go_wp2_with (first | (go_at_call 78; refine (HF.out _).mono ?_; rintro e w1 ⟨rfl, hb1⟩; have HK1 := Lib.hid (HK.out.below hb1); clear hb1; have d7 := HK1.out.k.f7; have d24 := HK1.out.k.f24))
 go_ret
 exact ⟨by rw [← HS.out]; rfl, HK1.out.b⟩
theorem rest_5p (p : Pk) (a : Ad) (S : ByteArray) (w : World) (h : PkAt w w.heap.size p a) (hk : p.kind = 5) (hid : 1 ≤ p.id ∧ p.id < 65536) (hre : 0 ≤ p.re ∧ p.re ≤ 255) (hps : propsB p.kind p.ps = true) (hp : 0 < p.ps.length) (hS : (fxStr p.id ++ strOfNums [p.re]) ++ propStr p.ps = S) :
  Calls Tryz.prog 39 #[.agg (pkArr p a)] w fun e w' => e = .returned (.string S) ∧ Below w.heap.size w w' := by
 have H := Lib.hid h
 clear h
 obtain ⟨F, hF⟩ : ∃ F, fxStr p.id = F := ⟨_, rfl⟩
 have hFz : F.size ≤ 2 := by rw [← hF, fxStr_size]; omega
 have HF := Lib.hid (fun W => RFixed_z2 p.id F W (by omega) (by omega) hF)
 rw [hF] at hS
 obtain ⟨P, hPP⟩ : ∃ P, propStr p.ps = P := ⟨_, rfl⟩
 have hPz : P.size ≤ 16428 := by rw [← hPP]; exact propStr_size hps
 have HP := Lib.hid (fun (W : World) (h : KP w w.heap.size p a W) => PropBytes_ok p.kind p.ps a.pa a.pc P W hps h.at.ps hPP)
 rw [hPP] at hS
 obtain ⟨O, hO⟩ : ∃ O, strOfNums [p.re] = O := ⟨_, rfl⟩
 have hOz : O.size ≤ 1 := by rw [← hO, strOfNums_size]; simp
 have HO := Lib.hid (fun W => one_is p.re O W hre.1 hre.2 hO)
 rw [hO] at hS
 have HS := Lib.hid hS
 have e1 : (p.kind == 1) = false := ne_false (by omega)
 have e2 : (p.kind == 2) = false := ne_false (by omega)
 have e3 : (p.kind == 3) = false := ne_false (by omega)
 have e4 : (p.kind == 4) = false := ne_false (by omega)
 have e5 : (p.kind == 5) = true := beq_iff_eq.2 (by omega)
 have n14 : (p.kind != 14) = true := ne_true (by omega)
 have n15 : (p.kind != 15) = true := ne_true (by omega)
 have dp : decide ((0 : Int) < (p.ps.length : Int)) = true := decide_eq_true (by omega)
 have dn : decide (0 < p.ps.length) = true := decide_eq_true hp
 clear hS hk hF hid hPP hps hO hre hp
 have HK0 := Keep.new w 30 (pkArr p a)
 obtain ⟨W1, hW⟩ : ∃ W1, w.alloc (.cells (pkArr p a) 30) = W1 := ⟨_, rfl⟩
 rw [hW] at HK0
 unfold pkArr at hW ⊢
 have HW := Lib.hid hW
 clear hW
 go_enter Tryz.func39, Tryz.ntmps39
 go_upto_region 2 with fail
 rw [HW.out]
 generalize Value.agg _ = v0
 obtain ⟨g, hg⟩ : ∃ g, w.heap.size = g := ⟨_, rfl⟩
 rw [hg] at HK0 ⊢
 have HK := Lib.hid (KP.new HK0 H.out)
 clear HW HK0 H
 rw [hg] at HP
 have HG := Lib.hid hg
 clear hg
 have c0 := HK.out.k.f0
 have c4 := HK.out.k.f4
 have c7 := HK.out.k.f7
 have c24 := HK.out.k.f24
 by_cases hr : p.re = 0
 ·have rn : (p.re != 0) = false := by rw [hr]; rfl
  clear hr
  go_wp2_with (first | (go_at_call 78; refine (HF.out _).mono ?_; rintro e w1 ⟨rfl, hb1⟩; have HK1 := Lib.hid (HK.out.below hb1); clear hb1; have d7 := HK1.out.k.f7; have d24 := HK1.out.k.f24) | (go_at_call 40; refine (HO.out _).mono ?_; rintro e w2 ⟨rfl, hb2⟩; have HK2 := Lib.hid (HK1.out.below hb2); clear hb2; have f24 := HK2.out.k.f24) | (go_at_call 79; refine (HP.out _ HK2.out).mono ?_; rintro e w3 ⟨rfl, hb3⟩; have HK3 := Lib.hid (HK2.out.below hb3); clear hb3))
  go_ret
  exact ⟨by rw [← HS.out]; rfl, HK3.out.b⟩
 ·have rn : (p.re != 0) = true := ne_true hr
  clear hr
  go_wp2_with (first | (go_at_call 78; refine (HF.out _).mono ?_; rintro e w1 ⟨rfl, hb1⟩; have HK1 := Lib.hid (HK.out.below hb1); clear hb1; have d7 := HK1.out.k.f7; have d24 := HK1.out.k.f24) | (go_at_call 40; refine (HO.out _).mono ?_; rintro e w2 ⟨rfl, hb2⟩; have HK2 := Lib.hid (HK1.out.below hb2); clear hb2; have f24 := HK2.out.k.f24) | (go_at_call 79; refine (HP.out _ HK2.out).mono ?_; rintro e w3 ⟨rfl, hb3⟩; have HK3 := Lib.hid (HK2.out.below hb3); clear hb3))
  go_ret
  exact ⟨by rw [← HS.out]; rfl, HK3.out.b⟩
theorem rest_5r (p : Pk) (a : Ad) (S : ByteArray) (w : World) (h : PkAt w w.heap.size p a) (hk : p.kind = 5) (hid : 1 ≤ p.id ∧ p.id < 65536) (hre : 0 ≤ p.re ∧ p.re ≤ 255) (hp : p.ps.length = 0) (hr : ¬ p.re = 0) (hS : fxStr p.id ++ strOfNums [p.re] = S) :
  Calls Tryz.prog 39 #[.agg (pkArr p a)] w fun e w' => e = .returned (.string S) ∧ Below w.heap.size w w' := by
 have H := Lib.hid h
 clear h
 obtain ⟨F, hF⟩ : ∃ F, fxStr p.id = F := ⟨_, rfl⟩
 have hFz : F.size ≤ 2 := by rw [← hF, fxStr_size]; omega
 have HF := Lib.hid (fun W => RFixed_z2 p.id F W (by omega) (by omega) hF)
 rw [hF] at hS
 obtain ⟨O, hO⟩ : ∃ O, strOfNums [p.re] = O := ⟨_, rfl⟩
 have hOz : O.size ≤ 1 := by rw [← hO, strOfNums_size]; simp
 have HO := Lib.hid (fun W => one_is p.re O W hre.1 hre.2 hO)
 rw [hO] at hS
 have HS := Lib.hid hS
 have e1 : (p.kind == 1) = false := ne_false (by omega)
 have e2 : (p.kind == 2) = false := ne_false (by omega)
 have e3 : (p.kind == 3) = false := ne_false (by omega)
 have e4 : (p.kind == 4) = false := ne_false (by omega)
 have e5 : (p.kind == 5) = true := beq_iff_eq.2 (by omega)
 have n14 : (p.kind != 14) = true := ne_true (by omega)
 have n15 : (p.kind != 15) = true := ne_true (by omega)
 have dp : decide ((0 : Int) < (p.ps.length : Int)) = false := decide_eq_false (by omega)
 have dn : decide (0 < p.ps.length) = false := decide_eq_false (by omega)
 have rn : (p.re != 0) = true := ne_true hr
 clear hS hk hF hid hO hre hp hr
 have HK0 := Keep.new w 30 (pkArr p a)
 obtain ⟨W1, hW⟩ : ∃ W1, w.alloc (.cells (pkArr p a) 30) = W1 := ⟨_, rfl⟩
 rw [hW] at HK0
 unfold pkArr at hW ⊢
 have HW := Lib.hid hW
 clear hW
 go_enter Tryz.func39, Tryz.ntmps39
 go_upto_region 2 with fail
 rw [HW.out]
 generalize Value.agg _ = v0
 obtain ⟨g, hg⟩ : ∃ g, w.heap.size = g := ⟨_, rfl⟩
 rw [hg] at HK0 ⊢
 have HK := Lib.hid (KP.new HK0 H.out)
 clear HW HK0 H
 have HG := Lib.hid hg
 clear hg
 have c0 := HK.out.k.f0
 have c4 := HK.out.k.f4
 have c7 := HK.out.k.f7
 have c24 := HK.out.k.f24
 go_wp2_with (first | (go_at_call 78; refine (HF.out _).mono ?_; rintro e w1 ⟨rfl, hb1⟩; have HK1 := Lib.hid (HK.out.below hb1); clear hb1; have d7 := HK1.out.k.f7; have d24 := HK1.out.k.f24) | (go_at_call 40; refine (HO.out _).mono ?_; rintro e w2 ⟨rfl, hb2⟩; have HK2 := Lib.hid (HK1.out.below hb2); clear hb2; have f24 := HK2.out.k.f24))
 go_ret
 exact ⟨by rw [← HS.out]; rfl, HK2.out.b⟩
theorem rest_5n (p : Pk) (a : Ad) (S : ByteArray) (w : World) (h : PkAt w w.heap.size p a) (hk : p.kind = 5) (hid : 1 ≤ p.id ∧ p.id < 65536) (hp : p.ps.length = 0) (hr : p.re = 0) (hS : fxStr p.id = S) :
  Calls Tryz.prog 39 #[.agg (pkArr p a)] w fun e w' => e = .returned (.string S) ∧ Below w.heap.size w w' := by
 have H := Lib.hid h
 clear h
 obtain ⟨F, hF⟩ : ∃ F, fxStr p.id = F := ⟨_, rfl⟩
 have hFz : F.size ≤ 2 := by rw [← hF, fxStr_size]; omega
 have HF := Lib.hid (fun W => RFixed_z2 p.id F W (by omega) (by omega) hF)
 rw [hF] at hS
 have HS := Lib.hid hS
 have e1 : (p.kind == 1) = false := ne_false (by omega)
 have e2 : (p.kind == 2) = false := ne_false (by omega)
 have e3 : (p.kind == 3) = false := ne_false (by omega)
 have e4 : (p.kind == 4) = false := ne_false (by omega)
 have e5 : (p.kind == 5) = true := beq_iff_eq.2 (by omega)
 have n14 : (p.kind != 14) = true := ne_true (by omega)
 have n15 : (p.kind != 15) = true := ne_true (by omega)
 have dp : decide ((0 : Int) < (p.ps.length : Int)) = false := decide_eq_false (by omega)
 have dn : decide (0 < p.ps.length) = false := decide_eq_false (by omega)
 have rn : (p.re != 0) = false := by rw [hr]; rfl
 clear hS hk hF hid hp hr
 have HK0 := Keep.new w 30 (pkArr p a)
 obtain ⟨W1, hW⟩ : ∃ W1, w.alloc (.cells (pkArr p a) 30) = W1 := ⟨_, rfl⟩
 rw [hW] at HK0
 unfold pkArr at hW ⊢
 have HW := Lib.hid hW
 clear hW
 go_enter Tryz.func39, Tryz.ntmps39
 go_upto_region 2 with fail
 rw [HW.out]
 generalize Value.agg _ = v0
 obtain ⟨g, hg⟩ : ∃ g, w.heap.size = g := ⟨_, rfl⟩
 rw [hg] at HK0 ⊢
 have HK := Lib.hid (KP.new HK0 H.out)
 clear HW HK0 H
 have HG := Lib.hid hg
 clear hg
 have c0 := HK.out.k.f0
 have c4 := HK.out.k.f4
 have c7 := HK.out.k.f7
 have c24 := HK.out.k.f24
 go_wp2_with (first | (go_at_call 78; refine (HF.out _).mono ?_; rintro e w1 ⟨rfl, hb1⟩; have HK1 := Lib.hid (HK.out.below hb1); clear hb1; have d7 := HK1.out.k.f7; have d24 := HK1.out.k.f24))
 go_ret
 exact ⟨by rw [← HS.out]; rfl, HK1.out.b⟩
theorem rest_6p (p : Pk) (a : Ad) (S : ByteArray) (w : World) (h : PkAt w w.heap.size p a) (hk : p.kind = 6) (hid : 1 ≤ p.id ∧ p.id < 65536) (hre : 0 ≤ p.re ∧ p.re ≤ 255) (hps : propsB p.kind p.ps = true) (hp : 0 < p.ps.length) (hS : (fxStr p.id ++ strOfNums [p.re]) ++ propStr p.ps = S) :
  Calls Tryz.prog 39 #[.agg (pkArr p a)] w fun e w' => e = .returned (.string S) ∧ Below w.heap.size w w' := by
 have H := Lib.hid h
 clear h
 obtain ⟨F, hF⟩ : ∃ F, fxStr p.id = F := ⟨_, rfl⟩
 have hFz : F.size ≤ 2 := by rw [← hF, fxStr_size]; omega
 have HF := Lib.hid (fun W => RFixed_z2 p.id F W (by omega) (by omega) hF)
 rw [hF] at hS
 obtain ⟨P, hPP⟩ : ∃ P, propStr p.ps = P := ⟨_, rfl⟩
 have hPz : P.size ≤ 16428 := by rw [← hPP]; exact propStr_size hps
 have HP := Lib.hid (fun (W : World) (h : KP w w.heap.size p a W) => PropBytes_ok p.kind p.ps a.pa a.pc P W hps h.at.ps hPP)
 rw [hPP] at hS
 obtain ⟨O, hO⟩ : ∃ O, strOfNums [p.re] = O := ⟨_, rfl⟩
 have hOz : O.size ≤ 1 := by rw [← hO, strOfNums_size]; simp
 have HO := Lib.hid (fun W => one_is p.re O W hre.1 hre.2 hO)
 rw [hO] at hS
 have HS := Lib.hid hS
 have e1 : (p.kind == 1) = false := ne_false (by omega)
 have e2 : (p.kind == 2) = false := ne_false (by omega)
 have e3 : (p.kind == 3) = false := ne_false (by omega)
 have e4 : (p.kind == 4) = false := ne_false (by omega)
 have e5 : (p.kind == 5) = false := ne_false (by omega)
 have e6 : (p.kind == 6) = true := beq_iff_eq.2 (by omega)
 have n14 : (p.kind != 14) = true := ne_true (by omega)
 have n15 : (p.kind != 15) = true := ne_true (by omega)
 have dp : decide ((0 : Int) < (p.ps.length : Int)) = true := decide_eq_true (by omega)
 have dn : decide (0 < p.ps.length) = true := decide_eq_true hp
 clear hS hk hF hid hPP hps hO hre hp
 have HK0 := Keep.new w 30 (pkArr p a)
 obtain ⟨W1, hW⟩ : ∃ W1, w.alloc (.cells (pkArr p a) 30) = W1 := ⟨_, rfl⟩
 rw [hW] at HK0
 unfold pkArr at hW ⊢
 have HW := Lib.hid hW
 clear hW
 go_enter Tryz.func39, Tryz.ntmps39
 go_upto_region 2 with fail
 rw [HW.out]
 generalize Value.agg _ = v0
 obtain ⟨g, hg⟩ : ∃ g, w.heap.size = g := ⟨_, rfl⟩
 rw [hg] at HK0 ⊢
 have HK := Lib.hid (KP.new HK0 H.out)
 clear HW HK0 H
 rw [hg] at HP
 have HG := Lib.hid hg
 clear hg
 have c0 := HK.out.k.f0
 have c4 := HK.out.k.f4
 have c7 := HK.out.k.f7
 have c24 := HK.out.k.f24
 by_cases hr : p.re = 0
 ·have rn : (p.re != 0) = false := by rw [hr]; rfl
  clear hr
  go_wp2_with (first | (go_at_call 78; refine (HF.out _).mono ?_; rintro e w1 ⟨rfl, hb1⟩; have HK1 := Lib.hid (HK.out.below hb1); clear hb1; have d7 := HK1.out.k.f7; have d24 := HK1.out.k.f24) | (go_at_call 40; refine (HO.out _).mono ?_; rintro e w2 ⟨rfl, hb2⟩; have HK2 := Lib.hid (HK1.out.below hb2); clear hb2; have f24 := HK2.out.k.f24) | (go_at_call 79; refine (HP.out _ HK2.out).mono ?_; rintro e w3 ⟨rfl, hb3⟩; have HK3 := Lib.hid (HK2.out.below hb3); clear hb3))
  go_ret
  exact ⟨by rw [← HS.out]; rfl, HK3.out.b⟩
 ·have rn : (p.re != 0) = true := ne_true hr
  clear hr
  go_wp2_with (first | (go_at_call 78; refine (HF.out _).mono ?_; rintro e w1 ⟨rfl, hb1⟩; have HK1 := Lib.hid (HK.out.below hb1); clear hb1; have d7 := HK1.out.k.f7; have d24 := HK1.out.k.f24) | (go_at_call 40; refine (HO.out _).mono ?_; rintro e w2 ⟨rfl, hb2⟩; have HK2 := Lib.hid (HK1.out.below hb2); clear hb2; have f24 := HK2.out.k.f24) | (go_at_call 79; refine (HP.out _ HK2.out).mono ?_; rintro e w3 ⟨rfl, hb3⟩; have HK3 := Lib.hid (HK2.out.below hb3); clear hb3))
  go_ret
  exact ⟨by rw [← HS.out]; rfl, HK3.out.b⟩
theorem rest_6r (p : Pk) (a : Ad) (S : ByteArray) (w : World) (h : PkAt w w.heap.size p a) (hk : p.kind = 6) (hid : 1 ≤ p.id ∧ p.id < 65536) (hre : 0 ≤ p.re ∧ p.re ≤ 255) (hp : p.ps.length = 0) (hr : ¬ p.re = 0) (hS : fxStr p.id ++ strOfNums [p.re] = S) :
  Calls Tryz.prog 39 #[.agg (pkArr p a)] w fun e w' => e = .returned (.string S) ∧ Below w.heap.size w w' := by
 have H := Lib.hid h
 clear h
 obtain ⟨F, hF⟩ : ∃ F, fxStr p.id = F := ⟨_, rfl⟩
 have hFz : F.size ≤ 2 := by rw [← hF, fxStr_size]; omega
 have HF := Lib.hid (fun W => RFixed_z2 p.id F W (by omega) (by omega) hF)
 rw [hF] at hS
 obtain ⟨O, hO⟩ : ∃ O, strOfNums [p.re] = O := ⟨_, rfl⟩
 have hOz : O.size ≤ 1 := by rw [← hO, strOfNums_size]; simp
 have HO := Lib.hid (fun W => one_is p.re O W hre.1 hre.2 hO)
 rw [hO] at hS
 have HS := Lib.hid hS
 have e1 : (p.kind == 1) = false := ne_false (by omega)
 have e2 : (p.kind == 2) = false := ne_false (by omega)
 have e3 : (p.kind == 3) = false := ne_false (by omega)
 have e4 : (p.kind == 4) = false := ne_false (by omega)
 have e5 : (p.kind == 5) = false := ne_false (by omega)
 have e6 : (p.kind == 6) = true := beq_iff_eq.2 (by omega)
 have n14 : (p.kind != 14) = true := ne_true (by omega)
 have n15 : (p.kind != 15) = true := ne_true (by omega)
 have dp : decide ((0 : Int) < (p.ps.length : Int)) = false := decide_eq_false (by omega)
 have dn : decide (0 < p.ps.length) = false := decide_eq_false (by omega)
 have rn : (p.re != 0) = true := ne_true hr
 clear hS hk hF hid hO hre hp hr
 have HK0 := Keep.new w 30 (pkArr p a)
 obtain ⟨W1, hW⟩ : ∃ W1, w.alloc (.cells (pkArr p a) 30) = W1 := ⟨_, rfl⟩
 rw [hW] at HK0
 unfold pkArr at hW ⊢
 have HW := Lib.hid hW
 clear hW
 go_enter Tryz.func39, Tryz.ntmps39
 go_upto_region 2 with fail
 rw [HW.out]
 generalize Value.agg _ = v0
 obtain ⟨g, hg⟩ : ∃ g, w.heap.size = g := ⟨_, rfl⟩
 rw [hg] at HK0 ⊢
 have HK := Lib.hid (KP.new HK0 H.out)
 clear HW HK0 H
 have HG := Lib.hid hg
 clear hg
 have c0 := HK.out.k.f0
 have c4 := HK.out.k.f4
 have c7 := HK.out.k.f7
 have c24 := HK.out.k.f24
 go_wp2_with (first | (go_at_call 78; refine (HF.out _).mono ?_; rintro e w1 ⟨rfl, hb1⟩; have HK1 := Lib.hid (HK.out.below hb1); clear hb1; have d7 := HK1.out.k.f7; have d24 := HK1.out.k.f24) | (go_at_call 40; refine (HO.out _).mono ?_; rintro e w2 ⟨rfl, hb2⟩; have HK2 := Lib.hid (HK1.out.below hb2); clear hb2; have f24 := HK2.out.k.f24))
 go_ret
 exact ⟨by rw [← HS.out]; rfl, HK2.out.b⟩
theorem rest_6n (p : Pk) (a : Ad) (S : ByteArray) (w : World) (h : PkAt w w.heap.size p a) (hk : p.kind = 6) (hid : 1 ≤ p.id ∧ p.id < 65536) (hp : p.ps.length = 0) (hr : p.re = 0) (hS : fxStr p.id = S) :
  Calls Tryz.prog 39 #[.agg (pkArr p a)] w fun e w' => e = .returned (.string S) ∧ Below w.heap.size w w' := by
 have H := Lib.hid h
 clear h
 obtain ⟨F, hF⟩ : ∃ F, fxStr p.id = F := ⟨_, rfl⟩
 have hFz : F.size ≤ 2 := by rw [← hF, fxStr_size]; omega
 have HF := Lib.hid (fun W => RFixed_z2 p.id F W (by omega) (by omega) hF)
 rw [hF] at hS
 have HS := Lib.hid hS
 have e1 : (p.kind == 1) = false := ne_false (by omega)
 have e2 : (p.kind == 2) = false := ne_false (by omega)
 have e3 : (p.kind == 3) = false := ne_false (by omega)
 have e4 : (p.kind == 4) = false := ne_false (by omega)
 have e5 : (p.kind == 5) = false := ne_false (by omega)
 have e6 : (p.kind == 6) = true := beq_iff_eq.2 (by omega)
 have n14 : (p.kind != 14) = true := ne_true (by omega)
 have n15 : (p.kind != 15) = true := ne_true (by omega)
 have dp : decide ((0 : Int) < (p.ps.length : Int)) = false := decide_eq_false (by omega)
 have dn : decide (0 < p.ps.length) = false := decide_eq_false (by omega)
 have rn : (p.re != 0) = false := by rw [hr]; rfl
 clear hS hk hF hid hp hr
 have HK0 := Keep.new w 30 (pkArr p a)
 obtain ⟨W1, hW⟩ : ∃ W1, w.alloc (.cells (pkArr p a) 30) = W1 := ⟨_, rfl⟩
 rw [hW] at HK0
 unfold pkArr at hW ⊢
 have HW := Lib.hid hW
 clear hW
 go_enter Tryz.func39, Tryz.ntmps39
 go_upto_region 2 with fail
 rw [HW.out]
 generalize Value.agg _ = v0
 obtain ⟨g, hg⟩ : ∃ g, w.heap.size = g := ⟨_, rfl⟩
 rw [hg] at HK0 ⊢
 have HK := Lib.hid (KP.new HK0 H.out)
 clear HW HK0 H
 have HG := Lib.hid hg
 clear hg
 have c0 := HK.out.k.f0
 have c4 := HK.out.k.f4
 have c7 := HK.out.k.f7
 have c24 := HK.out.k.f24
 go_wp2_with (first | (go_at_call 78; refine (HF.out _).mono ?_; rintro e w1 ⟨rfl, hb1⟩; have HK1 := Lib.hid (HK.out.below hb1); clear hb1; have d7 := HK1.out.k.f7; have d24 := HK1.out.k.f24))
 go_ret
 exact ⟨by rw [← HS.out]; rfl, HK1.out.b⟩
theorem rest_7p (p : Pk) (a : Ad) (S : ByteArray) (w : World) (h : PkAt w w.heap.size p a) (hk : p.kind = 7) (hid : 1 ≤ p.id ∧ p.id < 65536) (hre : 0 ≤ p.re ∧ p.re ≤ 255) (hps : propsB p.kind p.ps = true) (hp : 0 < p.ps.length) (hS : (fxStr p.id ++ strOfNums [p.re]) ++ propStr p.ps = S) :
  Calls Tryz.prog 39 #[.agg (pkArr p a)] w fun e w' => e = .returned (.string S) ∧ Below w.heap.size w w' := by
 have H := Lib.hid h
 clear h
 obtain ⟨F, hF⟩ : ∃ F, fxStr p.id = F := ⟨_, rfl⟩
 have hFz : F.size ≤ 2 := by rw [← hF, fxStr_size]; omega
 have HF := Lib.hid (fun W => RFixed_z2 p.id F W (by omega) (by omega) hF)
 rw [hF] at hS
 obtain ⟨P, hPP⟩ : ∃ P, propStr p.ps = P := ⟨_, rfl⟩
 have hPz : P.size ≤ 16428 := by rw [← hPP]; exact propStr_size hps
 have HP := Lib.hid (fun (W : World) (h : KP w w.heap.size p a W) => PropBytes_ok p.kind p.ps a.pa a.pc P W hps h.at.ps hPP)
 rw [hPP] at hS
 obtain ⟨O, hO⟩ : ∃ O, strOfNums [p.re] = O := ⟨_, rfl⟩
 have hOz : O.size ≤ 1 := by rw [← hO, strOfNums_size]; simp
 have HO := Lib.hid (fun W => one_is p.re O W hre.1 hre.2 hO)
 rw [hO] at hS
 have HS := Lib.hid hS
 have e1 : (p.kind == 1) = false := ne_false (by omega)
 have e2 : (p.kind == 2) = false := ne_false (by omega)
 have e3 : (p.kind == 3) = false := ne_false (by omega)
 have e4 : (p.kind == 4) = false := ne_false (by omega)
 have e5 : (p.kind == 5) = false := ne_false (by omega)
 have e6 : (p.kind == 6) = false := ne_false (by omega)
 have e7 : (p.kind == 7) = true := beq_iff_eq.2 (by omega)
 have n14 : (p.kind != 14) = true := ne_true (by omega)
 have n15 : (p.kind != 15) = true := ne_true (by omega)
 have dp : decide ((0 : Int) < (p.ps.length : Int)) = true := decide_eq_true (by omega)
 have dn : decide (0 < p.ps.length) = true := decide_eq_true hp
 clear hS hk hF hid hPP hps hO hre hp
 have HK0 := Keep.new w 30 (pkArr p a)
 obtain ⟨W1, hW⟩ : ∃ W1, w.alloc (.cells (pkArr p a) 30) = W1 := ⟨_, rfl⟩
 rw [hW] at HK0
 unfold pkArr at hW ⊢
 have HW := Lib.hid hW
 clear hW
 go_enter Tryz.func39, Tryz.ntmps39
 go_upto_region 2 with fail
 rw [HW.out]
 generalize Value.agg _ = v0
 obtain ⟨g, hg⟩ : ∃ g, w.heap.size = g := ⟨_, rfl⟩
 rw [hg] at HK0 ⊢
 have HK := Lib.hid (KP.new HK0 H.out)
 clear HW HK0 H
 rw [hg] at HP
 have HG := Lib.hid hg
 clear hg
 have c0 := HK.out.k.f0
 have c4 := HK.out.k.f4
 have c7 := HK.out.k.f7
 have c24 := HK.out.k.f24
 by_cases hr : p.re = 0
 ·have rn : (p.re != 0) = false := by rw [hr]; rfl
  clear hr
  go_wp2_with (first | (go_at_call 78; refine (HF.out _).mono ?_; rintro e w1 ⟨rfl, hb1⟩; have HK1 := Lib.hid (HK.out.below hb1); clear hb1; have d7 := HK1.out.k.f7; have d24 := HK1.out.k.f24) | (go_at_call 40; refine (HO.out _).mono ?_; rintro e w2 ⟨rfl, hb2⟩; have HK2 := Lib.hid (HK1.out.below hb2); clear hb2; have f24 := HK2.out.k.f24) | (go_at_call 79; refine (HP.out _ HK2.out).mono ?_; rintro e w3 ⟨rfl, hb3⟩; have HK3 := Lib.hid (HK2.out.below hb3); clear hb3))
  go_ret
  exact ⟨by rw [← HS.out]; rfl, HK3.out.b⟩
 ·have rn : (p.re != 0) = true := ne_true hr
  clear hr
  go_wp2_with (first | (go_at_call 78; refine (HF.out _).mono ?_; rintro e w1 ⟨rfl, hb1⟩; have HK1 := Lib.hid (HK.out.below hb1); clear hb1; have d7 := HK1.out.k.f7; have d24 := HK1.out.k.f24) | (go_at_call 40; refine (HO.out _).mono ?_; rintro e w2 ⟨rfl, hb2⟩; have HK2 := Lib.hid (HK1.out.below hb2); clear hb2; have f24 := HK2.out.k.f24) | (go_at_call 79; refine (HP.out _ HK2.out).mono ?_; rintro e w3 ⟨rfl, hb3⟩; have HK3 := Lib.hid (HK2.out.below hb3); clear hb3))
  go_ret
  exact ⟨by rw [← HS.out]; rfl, HK3.out.b⟩
theorem rest_7r (p : Pk) (a : Ad) (S : ByteArray) (w : World) (h : PkAt w w.heap.size p a) (hk : p.kind = 7) (hid : 1 ≤ p.id ∧ p.id < 65536) (hre : 0 ≤ p.re ∧ p.re ≤ 255) (hp : p.ps.length = 0) (hr : ¬ p.re = 0) (hS : fxStr p.id ++ strOfNums [p.re] = S) :
  Calls Tryz.prog 39 #[.agg (pkArr p a)] w fun e w' => e = .returned (.string S) ∧ Below w.heap.size w w' := by
 have H := Lib.hid h
 clear h
 obtain ⟨F, hF⟩ : ∃ F, fxStr p.id = F := ⟨_, rfl⟩
 have hFz : F.size ≤ 2 := by rw [← hF, fxStr_size]; omega
 have HF := Lib.hid (fun W => RFixed_z2 p.id F W (by omega) (by omega) hF)
 rw [hF] at hS
 obtain ⟨O, hO⟩ : ∃ O, strOfNums [p.re] = O := ⟨_, rfl⟩
 have hOz : O.size ≤ 1 := by rw [← hO, strOfNums_size]; simp
 have HO := Lib.hid (fun W => one_is p.re O W hre.1 hre.2 hO)
 rw [hO] at hS
 have HS := Lib.hid hS
 have e1 : (p.kind == 1) = false := ne_false (by omega)
 have e2 : (p.kind == 2) = false := ne_false (by omega)
 have e3 : (p.kind == 3) = false := ne_false (by omega)
 have e4 : (p.kind == 4) = false := ne_false (by omega)
 have e5 : (p.kind == 5) = false := ne_false (by omega)
 have e6 : (p.kind == 6) = false := ne_false (by omega)
 have e7 : (p.kind == 7) = true := beq_iff_eq.2 (by omega)
 have n14 : (p.kind != 14) = true := ne_true (by omega)
 have n15 : (p.kind != 15) = true := ne_true (by omega)
 have dp : decide ((0 : Int) < (p.ps.length : Int)) = false := decide_eq_false (by omega)
 have dn : decide (0 < p.ps.length) = false := decide_eq_false (by omega)
 have rn : (p.re != 0) = true := ne_true hr
 clear hS hk hF hid hO hre hp hr
 have HK0 := Keep.new w 30 (pkArr p a)
 obtain ⟨W1, hW⟩ : ∃ W1, w.alloc (.cells (pkArr p a) 30) = W1 := ⟨_, rfl⟩
 rw [hW] at HK0
 unfold pkArr at hW ⊢
 have HW := Lib.hid hW
 clear hW
 go_enter Tryz.func39, Tryz.ntmps39
 go_upto_region 2 with fail
 rw [HW.out]
 generalize Value.agg _ = v0
 obtain ⟨g, hg⟩ : ∃ g, w.heap.size = g := ⟨_, rfl⟩
 rw [hg] at HK0 ⊢
 have HK := Lib.hid (KP.new HK0 H.out)
 clear HW HK0 H
 have HG := Lib.hid hg
 clear hg
 have c0 := HK.out.k.f0
 have c4 := HK.out.k.f4
 have c7 := HK.out.k.f7
 have c24 := HK.out.k.f24
 go_wp2_with (first | (go_at_call 78; refine (HF.out _).mono ?_; rintro e w1 ⟨rfl, hb1⟩; have HK1 := Lib.hid (HK.out.below hb1); clear hb1; have d7 := HK1.out.k.f7; have d24 := HK1.out.k.f24) | (go_at_call 40; refine (HO.out _).mono ?_; rintro e w2 ⟨rfl, hb2⟩; have HK2 := Lib.hid (HK1.out.below hb2); clear hb2; have f24 := HK2.out.k.f24))
 go_ret
 exact ⟨by rw [← HS.out]; rfl, HK2.out.b⟩
theorem rest_7n (p : Pk) (a : Ad) (S : ByteArray) (w : World) (h : PkAt w w.heap.size p a) (hk : p.kind = 7) (hid : 1 ≤ p.id ∧ p.id < 65536) (hp : p.ps.length = 0) (hr : p.re = 0) (hS : fxStr p.id = S) :
  Calls Tryz.prog 39 #[.agg (pkArr p a)] w fun e w' => e = .returned (.string S) ∧ Below w.heap.size w w' := by
 have H := Lib.hid h
 clear h
 obtain ⟨F, hF⟩ : ∃ F, fxStr p.id = F := ⟨_, rfl⟩
 have hFz : F.size ≤ 2 := by rw [← hF, fxStr_size]; omega
 have HF := Lib.hid (fun W => RFixed_z2 p.id F W (by omega) (by omega) hF)
 rw [hF] at hS
 have HS := Lib.hid hS
 have e1 : (p.kind == 1) = false := ne_false (by omega)
 have e2 : (p.kind == 2) = false := ne_false (by omega)
 have e3 : (p.kind == 3) = false := ne_false (by omega)
 have e4 : (p.kind == 4) = false := ne_false (by omega)
 have e5 : (p.kind == 5) = false := ne_false (by omega)
 have e6 : (p.kind == 6) = false := ne_false (by omega)
 have e7 : (p.kind == 7) = true := beq_iff_eq.2 (by omega)
 have n14 : (p.kind != 14) = true := ne_true (by omega)
 have n15 : (p.kind != 15) = true := ne_true (by omega)
 have dp : decide ((0 : Int) < (p.ps.length : Int)) = false := decide_eq_false (by omega)
 have dn : decide (0 < p.ps.length) = false := decide_eq_false (by omega)
 have rn : (p.re != 0) = false := by rw [hr]; rfl
 clear hS hk hF hid hp hr
 have HK0 := Keep.new w 30 (pkArr p a)
 obtain ⟨W1, hW⟩ : ∃ W1, w.alloc (.cells (pkArr p a) 30) = W1 := ⟨_, rfl⟩
 rw [hW] at HK0
 unfold pkArr at hW ⊢
 have HW := Lib.hid hW
 clear hW
 go_enter Tryz.func39, Tryz.ntmps39
 go_upto_region 2 with fail
 rw [HW.out]
 generalize Value.agg _ = v0
 obtain ⟨g, hg⟩ : ∃ g, w.heap.size = g := ⟨_, rfl⟩
 rw [hg] at HK0 ⊢
 have HK := Lib.hid (KP.new HK0 H.out)
 clear HW HK0 H
 have HG := Lib.hid hg
 clear hg
 have c0 := HK.out.k.f0
 have c4 := HK.out.k.f4
 have c7 := HK.out.k.f7
 have c24 := HK.out.k.f24
 go_wp2_with (first | (go_at_call 78; refine (HF.out _).mono ?_; rintro e w1 ⟨rfl, hb1⟩; have HK1 := Lib.hid (HK.out.below hb1); clear hb1; have d7 := HK1.out.k.f7; have d24 := HK1.out.k.f24))
 go_ret
 exact ⟨by rw [← HS.out]; rfl, HK1.out.b⟩
theorem rest_14p (p : Pk) (a : Ad) (S : ByteArray) (w : World) (h : PkAt w w.heap.size p a) (hk : p.kind = 14) (hre : 0 ≤ p.re ∧ p.re ≤ 255) (hps : propsB p.kind p.ps = true) (hp : 0 < p.ps.length) (hS : (⟨#[]⟩ ++ strOfNums [p.re]) ++ propStr p.ps = S) :
  Calls Tryz.prog 39 #[.agg (pkArr p a)] w fun e w' => e = .returned (.string S) ∧ Below w.heap.size w w' := by
 have H := Lib.hid h
 clear h
 obtain ⟨P, hPP⟩ : ∃ P, propStr p.ps = P := ⟨_, rfl⟩
 have hPz : P.size ≤ 16428 := by rw [← hPP]; exact propStr_size hps
 have HP := Lib.hid (fun (W : World) (h : KP w w.heap.size p a W) => PropBytes_ok p.kind p.ps a.pa a.pc P W hps h.at.ps hPP)
 rw [hPP] at hS
 obtain ⟨O, hO⟩ : ∃ O, strOfNums [p.re] = O := ⟨_, rfl⟩
 have hOz : O.size ≤ 1 := by rw [← hO, strOfNums_size]; simp
 have HO := Lib.hid (fun W => one_is p.re O W hre.1 hre.2 hO)
 rw [hO] at hS
 have HS := Lib.hid hS
 have e1 : (p.kind == 1) = false := ne_false (by omega)
 have e2 : (p.kind == 2) = false := ne_false (by omega)
 have e3 : (p.kind == 3) = false := ne_false (by omega)
 have e4 : (p.kind == 4) = false := ne_false (by omega)
 have e5 : (p.kind == 5) = false := ne_false (by omega)
 have e6 : (p.kind == 6) = false := ne_false (by omega)
 have e7 : (p.kind == 7) = false := ne_false (by omega)
 have e14 : (p.kind == 14) = true := beq_iff_eq.2 (by omega)
 have n14 : (p.kind != 14) = false := by rw [hk]; rfl
 have dp : decide ((0 : Int) < (p.ps.length : Int)) = true := decide_eq_true (by omega)
 have dn : decide (0 < p.ps.length) = true := decide_eq_true hp
 clear hS hk hPP hps hO hre hp
 have HK0 := Keep.new w 30 (pkArr p a)
 obtain ⟨W1, hW⟩ : ∃ W1, w.alloc (.cells (pkArr p a) 30) = W1 := ⟨_, rfl⟩
 rw [hW] at HK0
 unfold pkArr at hW ⊢
 have HW := Lib.hid hW
 clear hW
 go_enter Tryz.func39, Tryz.ntmps39
 go_upto_region 2 with fail
 rw [HW.out]
 generalize Value.agg _ = v0
 obtain ⟨g, hg⟩ : ∃ g, w.heap.size = g := ⟨_, rfl⟩
 rw [hg] at HK0 ⊢
 have HK := Lib.hid (KP.new HK0 H.out)
 clear HW HK0 H
 rw [hg] at HP
 have HG := Lib.hid hg
 clear hg
 have c0 := HK.out.k.f0
 have c7 := HK.out.k.f7
 have c24 := HK.out.k.f24
 by_cases hr : p.re = 0
 ·have rn : (p.re != 0) = false := by rw [hr]; rfl
  clear hr
  go_wp2_with (first | (go_at_call 40; refine (HO.out _).mono ?_; rintro e w2 ⟨rfl, hb2⟩; have HK2 := Lib.hid (HK.out.below hb2); clear hb2; have f24 := HK2.out.k.f24) | (go_at_call 79; refine (HP.out _ HK2.out).mono ?_; rintro e w3 ⟨rfl, hb3⟩; have HK3 := Lib.hid (HK2.out.below hb3); clear hb3))
  go_ret
  exact ⟨by rw [← HS.out]; rfl, HK3.out.b⟩
 ·have rn : (p.re != 0) = true := ne_true hr
  clear hr
  go_wp2_with (first | (go_at_call 40; refine (HO.out _).mono ?_; rintro e w2 ⟨rfl, hb2⟩; have HK2 := Lib.hid (HK.out.below hb2); clear hb2; have f24 := HK2.out.k.f24) | (go_at_call 79; refine (HP.out _ HK2.out).mono ?_; rintro e w3 ⟨rfl, hb3⟩; have HK3 := Lib.hid (HK2.out.below hb3); clear hb3))
  go_ret
  exact ⟨by rw [← HS.out]; rfl, HK3.out.b⟩
theorem rest_14r (p : Pk) (a : Ad) (S : ByteArray) (w : World) (h : PkAt w w.heap.size p a) (hk : p.kind = 14) (hre : 0 ≤ p.re ∧ p.re ≤ 255) (hp : p.ps.length = 0) (hr : ¬ p.re = 0) (hS : ⟨#[]⟩ ++ strOfNums [p.re] = S) :
  Calls Tryz.prog 39 #[.agg (pkArr p a)] w fun e w' => e = .returned (.string S) ∧ Below w.heap.size w w' := by
 have H := Lib.hid h
 clear h
 obtain ⟨O, hO⟩ : ∃ O, strOfNums [p.re] = O := ⟨_, rfl⟩
 have hOz : O.size ≤ 1 := by rw [← hO, strOfNums_size]; simp
 have HO := Lib.hid (fun W => one_is p.re O W hre.1 hre.2 hO)
 rw [hO] at hS
 have HS := Lib.hid hS
 have e1 : (p.kind == 1) = false := ne_false (by omega)
 have e2 : (p.kind == 2) = false := ne_false (by omega)
 have e3 : (p.kind == 3) = false := ne_false (by omega)
 have e4 : (p.kind == 4) = false := ne_false (by omega)
 have e5 : (p.kind == 5) = false := ne_false (by omega)
 have e6 : (p.kind == 6) = false := ne_false (by omega)
 have e7 : (p.kind == 7) = false := ne_false (by omega)
 have e14 : (p.kind == 14) = true := beq_iff_eq.2 (by omega)
 have n14 : (p.kind != 14) = false := by rw [hk]; rfl
 have dp : decide ((0 : Int) < (p.ps.length : Int)) = false := decide_eq_false (by omega)
 have dn : decide (0 < p.ps.length) = false := decide_eq_false (by omega)
 have rn : (p.re != 0) = true := ne_true hr
 clear hS hk hO hre hp hr
 have HK0 := Keep.new w 30 (pkArr p a)
 obtain ⟨W1, hW⟩ : ∃ W1, w.alloc (.cells (pkArr p a) 30) = W1 := ⟨_, rfl⟩
 rw [hW] at HK0
 unfold pkArr at hW ⊢
 have HW := Lib.hid hW
 clear hW
 go_enter Tryz.func39, Tryz.ntmps39
 go_upto_region 2 with fail
 rw [HW.out]
 generalize Value.agg _ = v0
 obtain ⟨g, hg⟩ : ∃ g, w.heap.size = g := ⟨_, rfl⟩
 rw [hg] at HK0 ⊢
 have HK := Lib.hid (KP.new HK0 H.out)
 clear HW HK0 H
 have HG := Lib.hid hg
 clear hg
 have c0 := HK.out.k.f0
 have c7 := HK.out.k.f7
 have c24 := HK.out.k.f24
 go_wp2_with (first | (go_at_call 40; refine (HO.out _).mono ?_; rintro e w2 ⟨rfl, hb2⟩; have HK2 := Lib.hid (HK.out.below hb2); clear hb2; have f24 := HK2.out.k.f24))
 go_ret
 exact ⟨by rw [← HS.out]; rfl, HK2.out.b⟩
theorem rest_14n (p : Pk) (a : Ad) (S : ByteArray) (w : World) (h : PkAt w w.heap.size p a) (hk : p.kind = 14) (hp : p.ps.length = 0) (hr : p.re = 0) (hS : ⟨#[]⟩ = S) :
  Calls Tryz.prog 39 #[.agg (pkArr p a)] w fun e w' => e = .returned (.string S) ∧ Below w.heap.size w w' := by
 have H := Lib.hid h
 clear h
 have HS := Lib.hid hS
 have e1 : (p.kind == 1) = false := ne_false (by omega)
 have e2 : (p.kind == 2) = false := ne_false (by omega)
 have e3 : (p.kind == 3) = false := ne_false (by omega)
 have e4 : (p.kind == 4) = false := ne_false (by omega)
 have e5 : (p.kind == 5) = false := ne_false (by omega)
 have e6 : (p.kind == 6) = false := ne_false (by omega)
 have e7 : (p.kind == 7) = false := ne_false (by omega)
 have e14 : (p.kind == 14) = true := beq_iff_eq.2 (by omega)
 have n14 : (p.kind != 14) = false := by rw [hk]; rfl
 have dp : decide ((0 : Int) < (p.ps.length : Int)) = false := decide_eq_false (by omega)
 have dn : decide (0 < p.ps.length) = false := decide_eq_false (by omega)
 have rn : (p.re != 0) = false := by rw [hr]; rfl
 clear hS hk hp hr
 have HK0 := Keep.new w 30 (pkArr p a)
 obtain ⟨W1, hW⟩ : ∃ W1, w.alloc (.cells (pkArr p a) 30) = W1 := ⟨_, rfl⟩
 rw [hW] at HK0
 unfold pkArr at hW ⊢
 have HW := Lib.hid hW
 clear hW
 go_enter Tryz.func39, Tryz.ntmps39
 go_upto_region 2 with fail
 rw [HW.out]
 generalize Value.agg _ = v0
 obtain ⟨g, hg⟩ : ∃ g, w.heap.size = g := ⟨_, rfl⟩
 rw [hg] at HK0 ⊢
 have HK := Lib.hid (KP.new HK0 H.out)
 clear HW HK0 H
 have HG := Lib.hid hg
 clear hg
 have c0 := HK.out.k.f0
 have c7 := HK.out.k.f7
 have c24 := HK.out.k.f24
 go_wp2_with (fail)
 go_ret
 exact ⟨by rw [← HS.out]; rfl, HK.out.b⟩
theorem rest_15p (p : Pk) (a : Ad) (S : ByteArray) (w : World) (h : PkAt w w.heap.size p a) (hk : p.kind = 15) (hre : 0 ≤ p.re ∧ p.re ≤ 255) (hps : propsB p.kind p.ps = true) (hp : 0 < p.ps.length) (hS : (⟨#[]⟩ ++ strOfNums [p.re]) ++ propStr p.ps = S) :
  Calls Tryz.prog 39 #[.agg (pkArr p a)] w fun e w' => e = .returned (.string S) ∧ Below w.heap.size w w' := by
 have H := Lib.hid h
 clear h
 obtain ⟨P, hPP⟩ : ∃ P, propStr p.ps = P := ⟨_, rfl⟩
 have hPz : P.size ≤ 16428 := by rw [← hPP]; exact propStr_size hps
 have HP := Lib.hid (fun (W : World) (h : KP w w.heap.size p a W) => PropBytes_ok p.kind p.ps a.pa a.pc P W hps h.at.ps hPP)
 rw [hPP] at hS
 obtain ⟨O, hO⟩ : ∃ O, strOfNums [p.re] = O := ⟨_, rfl⟩
 have hOz : O.size ≤ 1 := by rw [← hO, strOfNums_size]; simp
 have HO := Lib.hid (fun W => one_is p.re O W hre.1 hre.2 hO)
 rw [hO] at hS
 have HS := Lib.hid hS
 have e1 : (p.kind == 1) = false := ne_false (by omega)
 have e2 : (p.kind == 2) = false := ne_false (by omega)
 have e3 : (p.kind == 3) = false := ne_false (by omega)
 have e4 : (p.kind == 4) = false := ne_false (by omega)
 have e5 : (p.kind == 5) = false := ne_false (by omega)
 have e6 : (p.kind == 6) = false := ne_false (by omega)
 have e7 : (p.kind == 7) = false := ne_false (by omega)
 have e14 : (p.kind == 14) = false := ne_false (by omega)
 have e15 : (p.kind == 15) = true := beq_iff_eq.2 (by omega)
 have n14 : (p.kind != 14) = true := ne_true (by omega)
 have n15 : (p.kind != 15) = false := by rw [hk]; rfl
 have dp : decide ((0 : Int) < (p.ps.length : Int)) = true := decide_eq_true (by omega)
 have dn : decide (0 < p.ps.length) = true := decide_eq_true hp
 clear hS hk hPP hps hO hre hp
 have HK0 := Keep.new w 30 (pkArr p a)
 obtain ⟨W1, hW⟩ : ∃ W1, w.alloc (.cells (pkArr p a) 30) = W1 := ⟨_, rfl⟩
 rw [hW] at HK0
 unfold pkArr at hW ⊢
 have HW := Lib.hid hW
 clear hW
 go_enter Tryz.func39, Tryz.ntmps39
 go_upto_region 2 with fail
 rw [HW.out]
 generalize Value.agg _ = v0
 obtain ⟨g, hg⟩ : ∃ g, w.heap.size = g := ⟨_, rfl⟩
 rw [hg] at HK0 ⊢
 have HK := Lib.hid (KP.new HK0 H.out)
 clear HW HK0 H
 rw [hg] at HP
 have HG := Lib.hid hg
 clear hg
 have c0 := HK.out.k.f0
 have c7 := HK.out.k.f7
 have c24 := HK.out.k.f24
 by_cases hr : p.re = 0
 ·have rn : (p.re != 0) = false := by rw [hr]; rfl
  clear hr
  go_wp2_with (first | (go_at_call 40; refine (HO.out _).mono ?_; rintro e w2 ⟨rfl, hb2⟩; have HK2 := Lib.hid (HK.out.below hb2); clear hb2; have f24 := HK2.out.k.f24) | (go_at_call 79; refine (HP.out _ HK2.out).mono ?_; rintro e w3 ⟨rfl, hb3⟩; have HK3 := Lib.hid (HK2.out.below hb3); clear hb3))
  go_ret
  exact ⟨by rw [← HS.out]; rfl, HK3.out.b⟩
 ·have rn : (p.re != 0) = true := ne_true hr
  clear hr
  go_wp2_with (first | (go_at_call 40; refine (HO.out _).mono ?_; rintro e w2 ⟨rfl, hb2⟩; have HK2 := Lib.hid (HK.out.below hb2); clear hb2; have f24 := HK2.out.k.f24) | (go_at_call 79; refine (HP.out _ HK2.out).mono ?_; rintro e w3 ⟨rfl, hb3⟩; have HK3 := Lib.hid (HK2.out.below hb3); clear hb3))
  go_ret
  exact ⟨by rw [← HS.out]; rfl, HK3.out.b⟩
theorem rest_15r (p : Pk) (a : Ad) (S : ByteArray) (w : World) (h : PkAt w w.heap.size p a) (hk : p.kind = 15) (hre : 0 ≤ p.re ∧ p.re ≤ 255) (hp : p.ps.length = 0) (hr : ¬ p.re = 0) (hS : ⟨#[]⟩ ++ strOfNums [p.re] = S) :
  Calls Tryz.prog 39 #[.agg (pkArr p a)] w fun e w' => e = .returned (.string S) ∧ Below w.heap.size w w' := by
 have H := Lib.hid h
 clear h
 obtain ⟨O, hO⟩ : ∃ O, strOfNums [p.re] = O := ⟨_, rfl⟩
 have hOz : O.size ≤ 1 := by rw [← hO, strOfNums_size]; simp
 have HO := Lib.hid (fun W => one_is p.re O W hre.1 hre.2 hO)
 rw [hO] at hS
 have HS := Lib.hid hS
 have e1 : (p.kind == 1) = false := ne_false (by omega)
 have e2 : (p.kind == 2) = false := ne_false (by omega)
 have e3 : (p.kind == 3) = false := ne_false (by omega)
 have e4 : (p.kind == 4) = false := ne_false (by omega)
 have e5 : (p.kind == 5) = false := ne_false (by omega)
 have e6 : (p.kind == 6) = false := ne_false (by omega)
 have e7 : (p.kind == 7) = false := ne_false (by omega)
 have e14 : (p.kind == 14) = false := ne_false (by omega)
 have e15 : (p.kind == 15) = true := beq_iff_eq.2 (by omega)
 have n14 : (p.kind != 14) = true := ne_true (by omega)
 have n15 : (p.kind != 15) = false := by rw [hk]; rfl
 have dp : decide ((0 : Int) < (p.ps.length : Int)) = false := decide_eq_false (by omega)
 have dn : decide (0 < p.ps.length) = false := decide_eq_false (by omega)
 have rn : (p.re != 0) = true := ne_true hr
 clear hS hk hO hre hp hr
 have HK0 := Keep.new w 30 (pkArr p a)
 obtain ⟨W1, hW⟩ : ∃ W1, w.alloc (.cells (pkArr p a) 30) = W1 := ⟨_, rfl⟩
 rw [hW] at HK0
 unfold pkArr at hW ⊢
 have HW := Lib.hid hW
 clear hW
 go_enter Tryz.func39, Tryz.ntmps39
 go_upto_region 2 with fail
 rw [HW.out]
 generalize Value.agg _ = v0
 obtain ⟨g, hg⟩ : ∃ g, w.heap.size = g := ⟨_, rfl⟩
 rw [hg] at HK0 ⊢
 have HK := Lib.hid (KP.new HK0 H.out)
 clear HW HK0 H
 have HG := Lib.hid hg
 clear hg
 have c0 := HK.out.k.f0
 have c7 := HK.out.k.f7
 have c24 := HK.out.k.f24
 go_wp2_with (first | (go_at_call 40; refine (HO.out _).mono ?_; rintro e w2 ⟨rfl, hb2⟩; have HK2 := Lib.hid (HK.out.below hb2); clear hb2; have f24 := HK2.out.k.f24))
 go_ret
 exact ⟨by rw [← HS.out]; rfl, HK2.out.b⟩
theorem rest_15n (p : Pk) (a : Ad) (S : ByteArray) (w : World) (h : PkAt w w.heap.size p a) (hk : p.kind = 15) (hp : p.ps.length = 0) (hr : p.re = 0) (hS : ⟨#[]⟩ = S) :
  Calls Tryz.prog 39 #[.agg (pkArr p a)] w fun e w' => e = .returned (.string S) ∧ Below w.heap.size w w' := by
 have H := Lib.hid h
 clear h
 have HS := Lib.hid hS
 have e1 : (p.kind == 1) = false := ne_false (by omega)
 have e2 : (p.kind == 2) = false := ne_false (by omega)
 have e3 : (p.kind == 3) = false := ne_false (by omega)
 have e4 : (p.kind == 4) = false := ne_false (by omega)
 have e5 : (p.kind == 5) = false := ne_false (by omega)
 have e6 : (p.kind == 6) = false := ne_false (by omega)
 have e7 : (p.kind == 7) = false := ne_false (by omega)
 have e14 : (p.kind == 14) = false := ne_false (by omega)
 have e15 : (p.kind == 15) = true := beq_iff_eq.2 (by omega)
 have n14 : (p.kind != 14) = true := ne_true (by omega)
 have n15 : (p.kind != 15) = false := by rw [hk]; rfl
 have dp : decide ((0 : Int) < (p.ps.length : Int)) = false := decide_eq_false (by omega)
 have dn : decide (0 < p.ps.length) = false := decide_eq_false (by omega)
 have rn : (p.re != 0) = false := by rw [hr]; rfl
 clear hS hk hp hr
 have HK0 := Keep.new w 30 (pkArr p a)
 obtain ⟨W1, hW⟩ : ∃ W1, w.alloc (.cells (pkArr p a) 30) = W1 := ⟨_, rfl⟩
 rw [hW] at HK0
 unfold pkArr at hW ⊢
 have HW := Lib.hid hW
 clear hW
 go_enter Tryz.func39, Tryz.ntmps39
 go_upto_region 2 with fail
 rw [HW.out]
 generalize Value.agg _ = v0
 obtain ⟨g, hg⟩ : ∃ g, w.heap.size = g := ⟨_, rfl⟩
 rw [hg] at HK0 ⊢
 have HK := Lib.hid (KP.new HK0 H.out)
 clear HW HK0 H
 have HG := Lib.hid hg
 clear hg
 have c0 := HK.out.k.f0
 have c7 := HK.out.k.f7
 have c24 := HK.out.k.f24
 go_wp2_with (fail)
 go_ret
 exact ⟨by rw [← HS.out]; rfl, HK.out.b⟩
end Go.Proofs.YtdbbcfohjkgdcaaGreat
