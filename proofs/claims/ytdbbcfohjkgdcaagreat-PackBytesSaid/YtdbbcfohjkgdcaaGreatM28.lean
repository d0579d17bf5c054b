/- The document's own answer on packets: what stands behind the length of a Publish. -/
import Derived.Test.YtdbbcfohjkgdcaaGreatM00
import Derived.Test.YtdbbcfohjkgdcaaGreatM27
set_option maxRecDepth 100000
set_option maxHeartbeats 64000000
namespace Go.Proofs.YtdbbcfohjkgdcaaGreat
open Go.RowKit Go.Lib Prp Pkt Vbi
theorem rest_1100 (p : Pk) (a : Ad) (S : ByteArray) (w : World) (h : PkAt w w.heap.size p a) (hk : p.kind = 1) (hq0 : 0 ≤ p.w.q) (hq1 : p.w.q ≤ 2) (hkp : 0 ≤ p.keep ∧ p.keep < 65536) (hps : propsB p.kind p.ps = true) (hcl : p.cl.size ≤ 1024) (hh : p.w.has = true) (hwp : propsB 0 p.w.ps = true) (hwt : p.w.t.size ≤ 1024) (hwb : p.w.b.size ≤ 1024) (hu : p.hu = false) (hp : p.hp = false) (hS : ((((((((lgStr mqtt ++ strOfNums [5]) ++ strOfNums [loginZ p]) ++ fxStr p.keep) ++ propStr p.ps) ++ lgStr p.cl) ++ propStr p.w.ps) ++ lgStr p.w.t) ++ lgStr p.w.b) = S) :
  Calls Tryz.prog 39 #[.agg (pkArr p a)] w fun e w' => e = .returned (.string S) ∧ Below w.heap.size w w' := by
 have H := Lib.hid h
 clear h
 obtain ⟨P, hPP⟩ : ∃ P, propStr p.ps = P := ⟨_, rfl⟩
 have hPz : P.size ≤ 16428 := by rw [← hPP]; exact propStr_size hps
 obtain ⟨LM, hLM⟩ : ∃ T, lgStr mqtt = T := ⟨_, rfl⟩
 have zLM : LM.size ≤ 1026 := by rw [← hLM, lgStr_size]; decide
 have HLM := Lib.hid (fun W => long_is mqtt LM W (by decide) hLM)
 obtain ⟨LC, hLC⟩ : ∃ T, lgStr p.cl = T := ⟨_, rfl⟩
 have zLC : LC.size ≤ 1026 := by rw [← hLC, lgStr_size]; omega
 have HLC := Lib.hid (fun W => long_is p.cl LC W (by omega) hLC)
 obtain ⟨WP, hWP⟩ : ∃ P, propStr p.w.ps = P := ⟨_, rfl⟩
 have zWP : WP.size ≤ 16428 := by rw [← hWP]; exact propStr_size hwp
 have HWP := Lib.hid (fun (W : World) (h : KP w w.heap.size p a W) => PropBytes_ok 0 p.w.ps a.wa a.wc WP W hwp h.at.ws hWP)
 obtain ⟨LT, hLT⟩ : ∃ T, lgStr p.w.t = T := ⟨_, rfl⟩
 have zLT : LT.size ≤ 1026 := by rw [← hLT, lgStr_size]; omega
 have HLT := Lib.hid (fun W => long_is p.w.t LT W (by omega) hLT)
 obtain ⟨LB, hLB⟩ : ∃ T, lgStr p.w.b = T := ⟨_, rfl⟩
 have zLB : LB.size ≤ 1026 := by rw [← hLB, lgStr_size]; omega
 have HLB := Lib.hid (fun W => long_is p.w.b LB W (by omega) hLB)
 obtain ⟨F, hF⟩ : ∃ F, fxStr p.keep = F := ⟨_, rfl⟩
 have hFz : F.size ≤ 2 := by rw [← hF, fxStr_size]; omega
 have HF := Lib.hid (fun W => RFixed_z2 p.keep F W hkp.1 hkp.2 hF)
 obtain ⟨O5, hO5⟩ : ∃ O, strOfNums [5] = O := ⟨_, rfl⟩
 have zO5 : O5.size ≤ 1 := by rw [← hO5, strOfNums_size]; simp
 have HO5 := Lib.hid (fun W => one_is 5 O5 W (by decide) (by decide) hO5)
 have hlr := login_range hq0 hq1
 have hle := login_eq p
 obtain ⟨z, hz⟩ : ∃ z, loginZ p = z := ⟨_, rfl⟩
 rw [hz] at hlr hS hle
 obtain ⟨OZ, hOZ⟩ : ∃ O, strOfNums [z] = O := ⟨_, rfl⟩
 have zOZ : OZ.size ≤ 1 := by rw [← hOZ, strOfNums_size]; simp
 have HOZ := Lib.hid (fun W => one_is z OZ W hlr.1 hlr.2 hOZ)
 rw [hO5, hOZ, hF, hLM, hLC, hPP, hWP, hLT, hLB] at hS
 have r1 := bit_range p.clean (n := 1) (by omega)
 have r2 := bit_range p.w.has (n := 1) (by omega)
 have r3 := bit_range p.w.ret (n := 1) (by omega)
 have r4 := bit_range p.hp (n := 1) (by omega)
 have r5 := bit_range p.hu (n := 1) (by omega)
 have m1 : IntKind.i64.wrap (2 * bitZ p.clean 1) = 2 * bitZ p.clean 1 := IntWalk.i64_in _ (by omega)
 have m2 : IntKind.i64.wrap (4 * bitZ p.w.has 1) = 4 * bitZ p.w.has 1 := IntWalk.i64_in _ (by omega)
 have m3 : IntKind.i64.wrap (8 * p.w.q) = 8 * p.w.q := IntWalk.i64_in _ (by omega)
 have m4 : IntKind.i64.wrap (32 * bitZ p.w.ret 1) = 32 * bitZ p.w.ret 1 := IntWalk.i64_in _ (by omega)
 have m5 : IntKind.i64.wrap (64 * bitZ p.hp 1) = 64 * bitZ p.hp 1 := IntWalk.i64_in _ (by omega)
 have m6 : IntKind.i64.wrap (128 * bitZ p.hu 1) = 128 * bitZ p.hu 1 := IntWalk.i64_in _ (by omega)
 have n1 : IntKind.i64.wrap (2 * bitZ p.clean 1 + 4 * bitZ p.w.has 1) = 2 * bitZ p.clean 1 + 4 * bitZ p.w.has 1 := IntWalk.i64_in _ (by omega)
 have n2 : IntKind.i64.wrap (2 * bitZ p.clean 1 + 4 * bitZ p.w.has 1 + 8 * p.w.q) = 2 * bitZ p.clean 1 + 4 * bitZ p.w.has 1 + 8 * p.w.q := IntWalk.i64_in _ (by omega)
 have n3 : IntKind.i64.wrap (2 * bitZ p.clean 1 + 4 * bitZ p.w.has 1 + 8 * p.w.q + 32 * bitZ p.w.ret 1) = 2 * bitZ p.clean 1 + 4 * bitZ p.w.has 1 + 8 * p.w.q + 32 * bitZ p.w.ret 1 := IntWalk.i64_in _ (by omega)
 have n4 : IntKind.i64.wrap (2 * bitZ p.clean 1 + 4 * bitZ p.w.has 1 + 8 * p.w.q + 32 * bitZ p.w.ret 1 + 64 * bitZ p.hp 1) = 2 * bitZ p.clean 1 + 4 * bitZ p.w.has 1 + 8 * p.w.q + 32 * bitZ p.w.ret 1 + 64 * bitZ p.hp 1 := IntWalk.i64_in _ (by omega)
 have n5 : IntKind.i64.wrap (2 * bitZ p.clean 1 + 4 * bitZ p.w.has 1 + 8 * p.w.q + 32 * bitZ p.w.ret 1 + 64 * bitZ p.hp 1 + 128 * bitZ p.hu 1) = z := by rw [← hle]; exact IntWalk.i64_in _ (by omega)
 have HP := Lib.hid (fun (W : World) (h : KP w w.heap.size p a W) => PropBytes_ok p.kind p.ps a.pa a.pc P W hps h.at.ps hPP)
 have HS := Lib.hid hS
 have e1 : (p.kind == 1) = true := beq_iff_eq.2 (by omega)
 have HH := Lib.hid hh
 have HU := Lib.hid hu
 have HPP := Lib.hid hp
 clear hS hh hu hp hle hz hOZ hO5 hF hLM hLC hPP hWP hLT hLB hps hkp hcl hlr r1 r2 r3 r4 r5 hk hq0 hq1 hwp hwt hwb
 have HK0 := Keep.new w 30 (pkArr p a)
 obtain ⟨W1, hW⟩ : ∃ W1, w.alloc (.cells (pkArr p a) 30) = W1 := ⟨_, rfl⟩
 rw [hW] at HK0
 unfold pkArr at hW ⊢
 have HW := Lib.hid hW
 clear hW
 go_enter Tryz.func39, Tryz.ntmps39
 go_upto_region 2 with fail
 rw [HW.out]
 generalize Value.agg _ = v0
 obtain ⟨g, hg⟩ : ∃ g, w.heap.size = g := ⟨_, rfl⟩
 rw [hg] at HK0 ⊢
 have HK := Lib.hid (KP.new HK0 H.out)
 clear HW HK0 H
 rw [hg] at HP HWP
 have HG := Lib.hid hg
 clear hg
 have c0 := HK.out.k.f0
 have c14 := HK.out.k.f14
 have c15 := HK.out.k.f15
 have c16 := HK.out.k.f16
 have c17 := HK.out.k.f17
 have c18 := HK.out.k.f18
 have c19 := HK.out.k.f19
 have hk2 := HK.out.alloc (.cells (wlArr p.w a.wa a.wc) 28)
 have hb2 := Box.new W1 28 (wlArr p.w a.wa a.wc)
 obtain ⟨W2, h2⟩ : ∃ W2, W1.alloc (.cells (wlArr p.w a.wa a.wc) 28) = W2 := ⟨_, rfl⟩
 rw [h2] at hk2 hb2
 unfold wlArr at h2
 have H2 := Lib.hid h2
 clear h2
 go_upto_region 5 with fail
 rw [H2.out]
 obtain ⟨h, hhh⟩ : ∃ h, W1.heap.size = h := ⟨_, rfl⟩
 rw [hhh] at hb2 ⊢
 have st0 := KQ.mk hk2 hb2
 clear hk2 hb2 H2 HK c0 c14 c15 c16 c17 c18 c19 hhh
 haveI : Nonempty (In (KQ w g p a h (wlArr p.w a.wa a.wc))) := ⟨⟨_, st0⟩⟩
 have k11 := fun u : In (KQ w g p a h (wlArr p.w a.wa a.wc)) => u.h.k.f11
 have k12 := fun u : In (KQ w g p a h (wlArr p.w a.wa a.wc)) => u.h.k.f12
 have k13 := fun u : In (KQ w g p a h (wlArr p.w a.wa a.wc)) => u.h.k.f13
 have k20 := fun u : In (KQ w g p a h (wlArr p.w a.wa a.wc)) => u.h.k.f20
 have k22 := fun u : In (KQ w g p a h (wlArr p.w a.wa a.wc)) => u.h.k.f22
 have k24 := fun u : In (KQ w g p a h (wlArr p.w a.wa a.wc)) => u.h.k.f24
 have j0 := fun u : In (KQ w g p a h (wlArr p.w a.wa a.wc)) => u.h.w0
 have j1 := fun u : In (KQ w g p a h (wlArr p.w a.wa a.wc)) => u.h.w1
 have j2 := fun u : In (KQ w g p a h (wlArr p.w a.wa a.wc)) => u.h.w2
 refine region_in (S := KQ w g p a h (wlArr p.w a.wa a.wc)) (by kernel_rfl) (by kernel_rfl) (st0.drewN 1) ?_
 repeat (go_big_quiet_step (first | (go_at_call 77; exact in_call ((rbit_is _ _ _ rfl).mono fun _ _ h => ⟨h.1, by rw [← h.2]; exact In.h _⟩)) | (go_at_call 76; exact in_call ((HLM.out _).mono fun _ _ h => ⟨h.1, KQ.below (In.h _) h.2⟩)) | (go_at_call 76; exact in_call ((HLC.out _).mono fun _ _ h => ⟨h.1, KQ.below (In.h _) h.2⟩)) | (go_at_call 40; exact in_call ((HO5.out _).mono fun _ _ h => ⟨h.1, KQ.below (In.h _) h.2⟩)) | (go_at_call 40; exact in_call ((HOZ.out _).mono fun _ _ h => ⟨h.1, KQ.below (In.h _) h.2⟩)) | (go_at_call 78; exact in_call ((HF.out _).mono fun _ _ h => ⟨h.1, KQ.below (In.h _) h.2⟩)) | (go_at_call 79; exact in_call ((HP.out _ (KQ.out (In.h _)).1).mono fun _ _ h => ⟨h.1, KQ.below (In.h _) h.2⟩))))
 refine wpQuiet_nil ?_
 rintro _ ⟨⟨w2, st2⟩, rfl⟩
 clear this st0 k11 k12 k13 k20 k22 k24 j0 j1 j2 m1 m2 m3 m4 m5 m6 n1 n2 n3 n4 n5 HLM HLC HF HO5 HOZ HP
 have v0 := st2.w0
 rw [HH.out] at v0
 go_upto_region 7 with fail
 clear v0
 have st0 := st2
 clear st2
 haveI : Nonempty (In (KQ w g p a h (wlArr p.w a.wa a.wc))) := ⟨⟨_, st0⟩⟩
 have j3 := fun u : In (KQ w g p a h (wlArr p.w a.wa a.wc)) => u.h.w3
 have j4 := fun u : In (KQ w g p a h (wlArr p.w a.wa a.wc)) => u.h.w4
 have j5 := fun u : In (KQ w g p a h (wlArr p.w a.wa a.wc)) => u.h.w5
 refine region_in (S := KQ w g p a h (wlArr p.w a.wa a.wc)) (by kernel_rfl) (by kernel_rfl) (st0.drewN 1) ?_
 repeat (go_big_quiet_step (first | (go_at_call 76; exact in_call ((HLT.out _).mono fun _ _ h => ⟨h.1, KQ.below (In.h _) h.2⟩)) | (go_at_call 76; exact in_call ((HLB.out _).mono fun _ _ h => ⟨h.1, KQ.below (In.h _) h.2⟩)) | (go_at_call 79; exact in_call ((HWP.out _ (KQ.out (In.h _)).1).mono fun _ _ h => ⟨h.1, KQ.below (In.h _) h.2⟩))))
 refine wpQuiet_nil ?_
 rintro _ ⟨⟨w3, st2⟩, rfl⟩
 clear this st0 j3 j4 j5 HLT HLB HWP
 have c20 := st2.k.f20
 rw [HU.out] at c20
 have c22 := st2.k.f22
 rw [HPP.out] at c22
 have c23 := st2.k.f23
 go_wp2_with (fail)
 go_ret
 exact ⟨by rw [← HS.out]; rfl, st2.out.1.b⟩
theorem rest_1101 (p : Pk) (a : Ad) (S : ByteArray) (w : World) (h : PkAt w w.heap.size p a) (hk : p.kind = 1) (hq0 : 0 ≤ p.w.q) (hq1 : p.w.q ≤ 2) (hkp : 0 ≤ p.keep ∧ p.keep < 65536) (hps : propsB p.kind p.ps = true) (hcl : p.cl.size ≤ 1024) (hh : p.w.has = true) (hwp : propsB 0 p.w.ps = true) (hwt : p.w.t.size ≤ 1024) (hwb : p.w.b.size ≤ 1024) (hu : p.hu = false) (hp : p.hp = true) (hpz : p.pw.size ≤ 1024) (hS : (((((((((lgStr mqtt ++ strOfNums [5]) ++ strOfNums [loginZ p]) ++ fxStr p.keep) ++ propStr p.ps) ++ lgStr p.cl) ++ propStr p.w.ps) ++ lgStr p.w.t) ++ lgStr p.w.b) ++ lgStr p.pw) = S) :
  Calls Tryz.prog 39 #[.agg (pkArr p a)] w fun e w' => e = .returned (.string S) ∧ Below w.heap.size w w' := by
 have H := Lib.hid h
 clear h
 obtain ⟨P, hPP⟩ : ∃ P, propStr p.ps = P := ⟨_, rfl⟩
 have hPz : P.size ≤ 16428 := by rw [← hPP]; exact propStr_size hps
 obtain ⟨LM, hLM⟩ : ∃ T, lgStr mqtt = T := ⟨_, rfl⟩
 have zLM : LM.size ≤ 1026 := by rw [← hLM, lgStr_size]; decide
 have HLM := Lib.hid (fun W => long_is mqtt LM W (by decide) hLM)
 obtain ⟨LC, hLC⟩ : ∃ T, lgStr p.cl = T := ⟨_, rfl⟩
 have zLC : LC.size ≤ 1026 := by rw [← hLC, lgStr_size]; omega
 have HLC := Lib.hid (fun W => long_is p.cl LC W (by omega) hLC)
 obtain ⟨WP, hWP⟩ : ∃ P, propStr p.w.ps = P := ⟨_, rfl⟩
 have zWP : WP.size ≤ 16428 := by rw [← hWP]; exact propStr_size hwp
 have HWP := Lib.hid (fun (W : World) (h : KP w w.heap.size p a W) => PropBytes_ok 0 p.w.ps a.wa a.wc WP W hwp h.at.ws hWP)
 obtain ⟨LT, hLT⟩ : ∃ T, lgStr p.w.t = T := ⟨_, rfl⟩
 have zLT : LT.size ≤ 1026 := by rw [← hLT, lgStr_size]; omega
 have HLT := Lib.hid (fun W => long_is p.w.t LT W (by omega) hLT)
 obtain ⟨LB, hLB⟩ : ∃ T, lgStr p.w.b = T := ⟨_, rfl⟩
 have zLB : LB.size ≤ 1026 := by rw [← hLB, lgStr_size]; omega
 have HLB := Lib.hid (fun W => long_is p.w.b LB W (by omega) hLB)
 obtain ⟨LP, hLP⟩ : ∃ T, lgStr p.pw = T := ⟨_, rfl⟩
 have zLP : LP.size ≤ 1026 := by rw [← hLP, lgStr_size]; omega
 have HLP := Lib.hid (fun W => long_is p.pw LP W (by omega) hLP)
 obtain ⟨F, hF⟩ : ∃ F, fxStr p.keep = F := ⟨_, rfl⟩
 have hFz : F.size ≤ 2 := by rw [← hF, fxStr_size]; omega
 have HF := Lib.hid (fun W => RFixed_z2 p.keep F W hkp.1 hkp.2 hF)
 obtain ⟨O5, hO5⟩ : ∃ O, strOfNums [5] = O := ⟨_, rfl⟩
 have zO5 : O5.size ≤ 1 := by rw [← hO5, strOfNums_size]; simp
 have HO5 := Lib.hid (fun W => one_is 5 O5 W (by decide) (by decide) hO5)
 have hlr := login_range hq0 hq1
 have hle := login_eq p
 obtain ⟨z, hz⟩ : ∃ z, loginZ p = z := ⟨_, rfl⟩
 rw [hz] at hlr hS hle
 obtain ⟨OZ, hOZ⟩ : ∃ O, strOfNums [z] = O := ⟨_, rfl⟩
 have zOZ : OZ.size ≤ 1 := by rw [← hOZ, strOfNums_size]; simp
 have HOZ := Lib.hid (fun W => one_is z OZ W hlr.1 hlr.2 hOZ)
 rw [hO5, hOZ, hF, hLM, hLC, hPP, hWP, hLT, hLB, hLP] at hS
 have r1 := bit_range p.clean (n := 1) (by omega)
 have r2 := bit_range p.w.has (n := 1) (by omega)
 have r3 := bit_range p.w.ret (n := 1) (by omega)
 have r4 := bit_range p.hp (n := 1) (by omega)
 have r5 := bit_range p.hu (n := 1) (by omega)
 have m1 : IntKind.i64.wrap (2 * bitZ p.clean 1) = 2 * bitZ p.clean 1 := IntWalk.i64_in _ (by omega)
 have m2 : IntKind.i64.wrap (4 * bitZ p.w.has 1) = 4 * bitZ p.w.has 1 := IntWalk.i64_in _ (by omega)
 have m3 : IntKind.i64.wrap (8 * p.w.q) = 8 * p.w.q := IntWalk.i64_in _ (by omega)
 have m4 : IntKind.i64.wrap (32 * bitZ p.w.ret 1) = 32 * bitZ p.w.ret 1 := IntWalk.i64_in _ (by omega)
 have m5 : IntKind.i64.wrap (64 * bitZ p.hp 1) = 64 * bitZ p.hp 1 := IntWalk.i64_in _ (by omega)
 have m6 : IntKind.i64.wrap (128 * bitZ p.hu 1) = 128 * bitZ p.hu 1 := IntWalk.i64_in _ (by omega)
 have n1 : IntKind.i64.wrap (2 * bitZ p.clean 1 + 4 * bitZ p.w.has 1) = 2 * bitZ p.clean 1 + 4 * bitZ p.w.has 1 := IntWalk.i64_in _ (by omega)
 have n2 : IntKind.i64.wrap (2 * bitZ p.clean 1 + 4 * bitZ p.w.has 1 + 8 * p.w.q) = 2 * bitZ p.clean 1 + 4 * bitZ p.w.has 1 + 8 * p.w.q := IntWalk.i64_in _ (by omega)
 have n3 : IntKind.i64.wrap (2 * bitZ p.clean 1 + 4 * bitZ p.w.has 1 + 8 * p.w.q + 32 * bitZ p.w.ret 1) = 2 * bitZ p.clean 1 + 4 * bitZ p.w.has 1 + 8 * p.w.q + 32 * bitZ p.w.ret 1 := IntWalk.i64_in _ (by omega)
 have n4 : IntKind.i64.wrap (2 * bitZ p.clean 1 + 4 * bitZ p.w.has 1 + 8 * p.w.q + 32 * bitZ p.w.ret 1 + 64 * bitZ p.hp 1) = 2 * bitZ p.clean 1 + 4 * bitZ p.w.has 1 + 8 * p.w.q + 32 * bitZ p.w.ret 1 + 64 * bitZ p.hp 1 := IntWalk.i64_in _ (by omega)
 have n5 : IntKind.i64.wrap (2 * bitZ p.clean 1 + 4 * bitZ p.w.has 1 + 8 * p.w.q + 32 * bitZ p.w.ret 1 + 64 * bitZ p.hp 1 + 128 * bitZ p.hu 1) = z := by rw [← hle]; exact IntWalk.i64_in _ (by omega)
 have HP := Lib.hid (fun (W : World) (h : KP w w.heap.size p a W) => PropBytes_ok p.kind p.ps a.pa a.pc P W hps h.at.ps hPP)
 have HS := Lib.hid hS
 have e1 : (p.kind == 1) = true := beq_iff_eq.2 (by omega)
 have HH := Lib.hid hh
 have HU := Lib.hid hu
 have HPP := Lib.hid hp
 clear hS hh hu hp hle hz hOZ hO5 hF hLM hLC hPP hWP hLT hLB hLP hps hkp hcl hlr r1 r2 r3 r4 r5 hk hq0 hq1 hwp hwt hwb hpz
 have HK0 := Keep.new w 30 (pkArr p a)
 obtain ⟨W1, hW⟩ : ∃ W1, w.alloc (.cells (pkArr p a) 30) = W1 := ⟨_, rfl⟩
 rw [hW] at HK0
 unfold pkArr at hW ⊢
 have HW := Lib.hid hW
 clear hW
 go_enter Tryz.func39, Tryz.ntmps39
 go_upto_region 2 with fail
 rw [HW.out]
 generalize Value.agg _ = v0
 obtain ⟨g, hg⟩ : ∃ g, w.heap.size = g := ⟨_, rfl⟩
 rw [hg] at HK0 ⊢
 have HK := Lib.hid (KP.new HK0 H.out)
 clear HW HK0 H
 rw [hg] at HP HWP
 have HG := Lib.hid hg
 clear hg
 have c0 := HK.out.k.f0
 have c14 := HK.out.k.f14
 have c15 := HK.out.k.f15
 have c16 := HK.out.k.f16
 have c17 := HK.out.k.f17
 have c18 := HK.out.k.f18
 have c19 := HK.out.k.f19
 have hk2 := HK.out.alloc (.cells (wlArr p.w a.wa a.wc) 28)
 have hb2 := Box.new W1 28 (wlArr p.w a.wa a.wc)
 obtain ⟨W2, h2⟩ : ∃ W2, W1.alloc (.cells (wlArr p.w a.wa a.wc) 28) = W2 := ⟨_, rfl⟩
 rw [h2] at hk2 hb2
 unfold wlArr at h2
 have H2 := Lib.hid h2
 clear h2
 go_upto_region 5 with fail
 rw [H2.out]
 obtain ⟨h, hhh⟩ : ∃ h, W1.heap.size = h := ⟨_, rfl⟩
 rw [hhh] at hb2 ⊢
 have st0 := KQ.mk hk2 hb2
 clear hk2 hb2 H2 HK c0 c14 c15 c16 c17 c18 c19 hhh
 haveI : Nonempty (In (KQ w g p a h (wlArr p.w a.wa a.wc))) := ⟨⟨_, st0⟩⟩
 have k11 := fun u : In (KQ w g p a h (wlArr p.w a.wa a.wc)) => u.h.k.f11
 have k12 := fun u : In (KQ w g p a h (wlArr p.w a.wa a.wc)) => u.h.k.f12
 have k13 := fun u : In (KQ w g p a h (wlArr p.w a.wa a.wc)) => u.h.k.f13
 have k20 := fun u : In (KQ w g p a h (wlArr p.w a.wa a.wc)) => u.h.k.f20
 have k22 := fun u : In (KQ w g p a h (wlArr p.w a.wa a.wc)) => u.h.k.f22
 have k24 := fun u : In (KQ w g p a h (wlArr p.w a.wa a.wc)) => u.h.k.f24
 have j0 := fun u : In (KQ w g p a h (wlArr p.w a.wa a.wc)) => u.h.w0
 have j1 := fun u : In (KQ w g p a h (wlArr p.w a.wa a.wc)) => u.h.w1
 have j2 := fun u : In (KQ w g p a h (wlArr p.w a.wa a.wc)) => u.h.w2
 refine region_in (S := KQ w g p a h (wlArr p.w a.wa a.wc)) (by kernel_rfl) (by kernel_rfl) (st0.drewN 1) ?_
 repeat (go_big_quiet_step (first | (go_at_call 77; exact in_call ((rbit_is _ _ _ rfl).mono fun _ _ h => ⟨h.1, by rw [← h.2]; exact In.h _⟩)) | (go_at_call 76; exact in_call ((HLM.out _).mono fun _ _ h => ⟨h.1, KQ.below (In.h _) h.2⟩)) | (go_at_call 76; exact in_call ((HLC.out _).mono fun _ _ h => ⟨h.1, KQ.below (In.h _) h.2⟩)) | (go_at_call 40; exact in_call ((HO5.out _).mono fun _ _ h => ⟨h.1, KQ.below (In.h _) h.2⟩)) | (go_at_call 40; exact in_call ((HOZ.out _).mono fun _ _ h => ⟨h.1, KQ.below (In.h _) h.2⟩)) | (go_at_call 78; exact in_call ((HF.out _).mono fun _ _ h => ⟨h.1, KQ.below (In.h _) h.2⟩)) | (go_at_call 79; exact in_call ((HP.out _ (KQ.out (In.h _)).1).mono fun _ _ h => ⟨h.1, KQ.below (In.h _) h.2⟩))))
 refine wpQuiet_nil ?_
 rintro _ ⟨⟨w2, st2⟩, rfl⟩
 clear this st0 k11 k12 k13 k20 k22 k24 j0 j1 j2 m1 m2 m3 m4 m5 m6 n1 n2 n3 n4 n5 HLM HLC HF HO5 HOZ HP
 have v0 := st2.w0
 rw [HH.out] at v0
 go_upto_region 7 with fail
 clear v0
 have st0 := st2
 clear st2
 haveI : Nonempty (In (KQ w g p a h (wlArr p.w a.wa a.wc))) := ⟨⟨_, st0⟩⟩
 have j3 := fun u : In (KQ w g p a h (wlArr p.w a.wa a.wc)) => u.h.w3
 have j4 := fun u : In (KQ w g p a h (wlArr p.w a.wa a.wc)) => u.h.w4
 have j5 := fun u : In (KQ w g p a h (wlArr p.w a.wa a.wc)) => u.h.w5
 refine region_in (S := KQ w g p a h (wlArr p.w a.wa a.wc)) (by kernel_rfl) (by kernel_rfl) (st0.drewN 1) ?_
 repeat (go_big_quiet_step (first | (go_at_call 76; exact in_call ((HLT.out _).mono fun _ _ h => ⟨h.1, KQ.below (In.h _) h.2⟩)) | (go_at_call 76; exact in_call ((HLB.out _).mono fun _ _ h => ⟨h.1, KQ.below (In.h _) h.2⟩)) | (go_at_call 79; exact in_call ((HWP.out _ (KQ.out (In.h _)).1).mono fun _ _ h => ⟨h.1, KQ.below (In.h _) h.2⟩))))
 refine wpQuiet_nil ?_
 rintro _ ⟨⟨w3, st2⟩, rfl⟩
 clear this st0 j3 j4 j5 HLT HLB HWP
 have c20 := st2.k.f20
 rw [HU.out] at c20
 have c22 := st2.k.f22
 rw [HPP.out] at c22
 have c23 := st2.k.f23
 go_wp2_with (first | (go_at_call 76; refine (HLP.out _).mono ?_; rintro e w5 ⟨rfl, hb5⟩; have st5 := st2.below hb5; clear hb5))
 go_ret
 exact ⟨by rw [← HS.out]; rfl, st5.out.1.b⟩
theorem rest_1110 (p : Pk) (a : Ad) (S : ByteArray) (w : World) (h : PkAt w w.heap.size p a) (hk : p.kind = 1) (hq0 : 0 ≤ p.w.q) (hq1 : p.w.q ≤ 2) (hkp : 0 ≤ p.keep ∧ p.keep < 65536) (hps : propsB p.kind p.ps = true) (hcl : p.cl.size ≤ 1024) (hh : p.w.has = true) (hwp : propsB 0 p.w.ps = true) (hwt : p.w.t.size ≤ 1024) (hwb : p.w.b.size ≤ 1024) (hu : p.hu = true) (huz : p.u.size ≤ 1024) (hp : p.hp = false) (hS : (((((((((lgStr mqtt ++ strOfNums [5]) ++ strOfNums [loginZ p]) ++ fxStr p.keep) ++ propStr p.ps) ++ lgStr p.cl) ++ propStr p.w.ps) ++ lgStr p.w.t) ++ lgStr p.w.b) ++ lgStr p.u) = S) :
  Calls Tryz.prog 39 #[.agg (pkArr p a)] w fun e w' => e = .returned (.string S) ∧ Below w.heap.size w w' := by
 have H := Lib.hid h
 clear h
 obtain ⟨P, hPP⟩ : ∃ P, propStr p.ps = P := ⟨_, rfl⟩
 have hPz : P.size ≤ 16428 := by rw [← hPP]; exact propStr_size hps
 obtain ⟨LM, hLM⟩ : ∃ T, lgStr mqtt = T := ⟨_, rfl⟩
 have zLM : LM.size ≤ 1026 := by rw [← hLM, lgStr_size]; decide
 have HLM := Lib.hid (fun W => long_is mqtt LM W (by decide) hLM)
 obtain ⟨LC, hLC⟩ : ∃ T, lgStr p.cl = T := ⟨_, rfl⟩
 have zLC : LC.size ≤ 1026 := by rw [← hLC, lgStr_size]; omega
 have HLC := Lib.hid (fun W => long_is p.cl LC W (by omega) hLC)
 obtain ⟨WP, hWP⟩ : ∃ P, propStr p.w.ps = P := ⟨_, rfl⟩
 have zWP : WP.size ≤ 16428 := by rw [← hWP]; exact propStr_size hwp
 have HWP := Lib.hid (fun (W : World) (h : KP w w.heap.size p a W) => PropBytes_ok 0 p.w.ps a.wa a.wc WP W hwp h.at.ws hWP)
 obtain ⟨LT, hLT⟩ : ∃ T, lgStr p.w.t = T := ⟨_, rfl⟩
 have zLT : LT.size ≤ 1026 := by rw [← hLT, lgStr_size]; omega
 have HLT := Lib.hid (fun W => long_is p.w.t LT W (by omega) hLT)
 obtain ⟨LB, hLB⟩ : ∃ T, lgStr p.w.b = T := ⟨_, rfl⟩
 have zLB : LB.size ≤ 1026 := by rw [← hLB, lgStr_size]; omega
 have HLB := Lib.hid (fun W => long_is p.w.b LB W (by omega) hLB)
 obtain ⟨LU, hLU⟩ : ∃ T, lgStr p.u = T := ⟨_, rfl⟩
 have zLU : LU.size ≤ 1026 := by rw [← hLU, lgStr_size]; omega
 have HLU := Lib.hid (fun W => long_is p.u LU W (by omega) hLU)
 obtain ⟨F, hF⟩ : ∃ F, fxStr p.keep = F := ⟨_, rfl⟩
 have hFz : F.size ≤ 2 := by rw [← hF, fxStr_size]; omega
 have HF := Lib.hid (fun W => RFixed_z2 p.keep F W hkp.1 hkp.2 hF)
 obtain ⟨O5, hO5⟩ : ∃ O, strOfNums [5] = O := ⟨_, rfl⟩
 have zO5 : O5.size ≤ 1 := by rw [← hO5, strOfNums_size]; simp
 have HO5 := Lib.hid (fun W => one_is 5 O5 W (by decide) (by decide) hO5)
 have hlr := login_range hq0 hq1
 have hle := login_eq p
 obtain ⟨z, hz⟩ : ∃ z, loginZ p = z := ⟨_, rfl⟩
 rw [hz] at hlr hS hle
 obtain ⟨OZ, hOZ⟩ : ∃ O, strOfNums [z] = O := ⟨_, rfl⟩
 have zOZ : OZ.size ≤ 1 := by rw [← hOZ, strOfNums_size]; simp
 have HOZ := Lib.hid (fun W => one_is z OZ W hlr.1 hlr.2 hOZ)
 rw [hO5, hOZ, hF, hLM, hLC, hPP, hWP, hLT, hLB, hLU] at hS
 have r1 := bit_range p.clean (n := 1) (by omega)
 have r2 := bit_range p.w.has (n := 1) (by omega)
 have r3 := bit_range p.w.ret (n := 1) (by omega)
 have r4 := bit_range p.hp (n := 1) (by omega)
 have r5 := bit_range p.hu (n := 1) (by omega)
 have m1 : IntKind.i64.wrap (2 * bitZ p.clean 1) = 2 * bitZ p.clean 1 := IntWalk.i64_in _ (by omega)
 have m2 : IntKind.i64.wrap (4 * bitZ p.w.has 1) = 4 * bitZ p.w.has 1 := IntWalk.i64_in _ (by omega)
 have m3 : IntKind.i64.wrap (8 * p.w.q) = 8 * p.w.q := IntWalk.i64_in _ (by omega)
 have m4 : IntKind.i64.wrap (32 * bitZ p.w.ret 1) = 32 * bitZ p.w.ret 1 := IntWalk.i64_in _ (by omega)
 have m5 : IntKind.i64.wrap (64 * bitZ p.hp 1) = 64 * bitZ p.hp 1 := IntWalk.i64_in _ (by omega)
 have m6 : IntKind.i64.wrap (128 * bitZ p.hu 1) = 128 * bitZ p.hu 1 := IntWalk.i64_in _ (by omega)
 have n1 : IntKind.i64.wrap (2 * bitZ p.clean 1 + 4 * bitZ p.w.has 1) = 2 * bitZ p.clean 1 + 4 * bitZ p.w.has 1 := IntWalk.i64_in _ (by omega)
 have n2 : IntKind.i64.wrap (2 * bitZ p.clean 1 + 4 * bitZ p.w.has 1 + 8 * p.w.q) = 2 * bitZ p.clean 1 + 4 * bitZ p.w.has 1 + 8 * p.w.q := IntWalk.i64_in _ (by omega)
 have n3 : IntKind.i64.wrap (2 * bitZ p.clean 1 + 4 * bitZ p.w.has 1 + 8 * p.w.q + 32 * bitZ p.w.ret 1) = 2 * bitZ p.clean 1 + 4 * bitZ p.w.has 1 + 8 * p.w.q + 32 * bitZ p.w.ret 1 := IntWalk.i64_in _ (by omega)
 have n4 : IntKind.i64.wrap (2 * bitZ p.clean 1 + 4 * bitZ p.w.has 1 + 8 * p.w.q + 32 * bitZ p.w.ret 1 + 64 * bitZ p.hp 1) = 2 * bitZ p.clean 1 + 4 * bitZ p.w.has 1 + 8 * p.w.q + 32 * bitZ p.w.ret 1 + 64 * bitZ p.hp 1 := IntWalk.i64_in _ (by omega)
 have n5 : IntKind.i64.wrap (2 * bitZ p.clean 1 + 4 * bitZ p.w.has 1 + 8 * p.w.q + 32 * bitZ p.w.ret 1 + 64 * bitZ p.hp 1 + 128 * bitZ p.hu 1) = z := by rw [← hle]; exact IntWalk.i64_in _ (by omega)
 have HP := Lib.hid (fun (W : World) (h : KP w w.heap.size p a W) => PropBytes_ok p.kind p.ps a.pa a.pc P W hps h.at.ps hPP)
 have HS := Lib.hid hS
 have e1 : (p.kind == 1) = true := beq_iff_eq.2 (by omega)
 have HH := Lib.hid hh
 have HU := Lib.hid hu
 have HPP := Lib.hid hp
 clear hS hh hu hp hle hz hOZ hO5 hF hLM hLC hPP hWP hLT hLB hLU hps hkp hcl hlr r1 r2 r3 r4 r5 hk hq0 hq1 hwp hwt hwb huz
 have HK0 := Keep.new w 30 (pkArr p a)
 obtain ⟨W1, hW⟩ : ∃ W1, w.alloc (.cells (pkArr p a) 30) = W1 := ⟨_, rfl⟩
 rw [hW] at HK0
 unfold pkArr at hW ⊢
 have HW := Lib.hid hW
 clear hW
 go_enter Tryz.func39, Tryz.ntmps39
 go_upto_region 2 with fail
 rw [HW.out]
 generalize Value.agg _ = v0
 obtain ⟨g, hg⟩ : ∃ g, w.heap.size = g := ⟨_, rfl⟩
 rw [hg] at HK0 ⊢
 have HK := Lib.hid (KP.new HK0 H.out)
 clear HW HK0 H
 rw [hg] at HP HWP
 have HG := Lib.hid hg
 clear hg
 have c0 := HK.out.k.f0
 have c14 := HK.out.k.f14
 have c15 := HK.out.k.f15
 have c16 := HK.out.k.f16
 have c17 := HK.out.k.f17
 have c18 := HK.out.k.f18
 have c19 := HK.out.k.f19
 have hk2 := HK.out.alloc (.cells (wlArr p.w a.wa a.wc) 28)
 have hb2 := Box.new W1 28 (wlArr p.w a.wa a.wc)
 obtain ⟨W2, h2⟩ : ∃ W2, W1.alloc (.cells (wlArr p.w a.wa a.wc) 28) = W2 := ⟨_, rfl⟩
 rw [h2] at hk2 hb2
 unfold wlArr at h2
 have H2 := Lib.hid h2
 clear h2
 go_upto_region 5 with fail
 rw [H2.out]
 obtain ⟨h, hhh⟩ : ∃ h, W1.heap.size = h := ⟨_, rfl⟩
 rw [hhh] at hb2 ⊢
 have st0 := KQ.mk hk2 hb2
 clear hk2 hb2 H2 HK c0 c14 c15 c16 c17 c18 c19 hhh
 haveI : Nonempty (In (KQ w g p a h (wlArr p.w a.wa a.wc))) := ⟨⟨_, st0⟩⟩
 have k11 := fun u : In (KQ w g p a h (wlArr p.w a.wa a.wc)) => u.h.k.f11
 have k12 := fun u : In (KQ w g p a h (wlArr p.w a.wa a.wc)) => u.h.k.f12
 have k13 := fun u : In (KQ w g p a h (wlArr p.w a.wa a.wc)) => u.h.k.f13
 have k20 := fun u : In (KQ w g p a h (wlArr p.w a.wa a.wc)) => u.h.k.f20
 have k22 := fun u : In (KQ w g p a h (wlArr p.w a.wa a.wc)) => u.h.k.f22
 have k24 := fun u : In (KQ w g p a h (wlArr p.w a.wa a.wc)) => u.h.k.f24
 have j0 := fun u : In (KQ w g p a h (wlArr p.w a.wa a.wc)) => u.h.w0
 have j1 := fun u : In (KQ w g p a h (wlArr p.w a.wa a.wc)) => u.h.w1
 have j2 := fun u : In (KQ w g p a h (wlArr p.w a.wa a.wc)) => u.h.w2
 refine region_in (S := KQ w g p a h (wlArr p.w a.wa a.wc)) (by kernel_rfl) (by kernel_rfl) (st0.drewN 1) ?_
 repeat (go_big_quiet_step (first | (go_at_call 77; exact in_call ((rbit_is _ _ _ rfl).mono fun _ _ h => ⟨h.1, by rw [← h.2]; exact In.h _⟩)) | (go_at_call 76; exact in_call ((HLM.out _).mono fun _ _ h => ⟨h.1, KQ.below (In.h _) h.2⟩)) | (go_at_call 76; exact in_call ((HLC.out _).mono fun _ _ h => ⟨h.1, KQ.below (In.h _) h.2⟩)) | (go_at_call 40; exact in_call ((HO5.out _).mono fun _ _ h => ⟨h.1, KQ.below (In.h _) h.2⟩)) | (go_at_call 40; exact in_call ((HOZ.out _).mono fun _ _ h => ⟨h.1, KQ.below (In.h _) h.2⟩)) | (go_at_call 78; exact in_call ((HF.out _).mono fun _ _ h => ⟨h.1, KQ.below (In.h _) h.2⟩)) | (go_at_call 79; exact in_call ((HP.out _ (KQ.out (In.h _)).1).mono fun _ _ h => ⟨h.1, KQ.below (In.h _) h.2⟩))))
 refine wpQuiet_nil ?_
 rintro _ ⟨⟨w2, st2⟩, rfl⟩
 clear this st0 k11 k12 k13 k20 k22 k24 j0 j1 j2 m1 m2 m3 m4 m5 m6 n1 n2 n3 n4 n5 HLM HLC HF HO5 HOZ HP
 have v0 := st2.w0
 rw [HH.out] at v0
 go_upto_region 7 with fail
 clear v0
 have st0 := st2
 clear st2
 haveI : Nonempty (In (KQ w g p a h (wlArr p.w a.wa a.wc))) := ⟨⟨_, st0⟩⟩
 have j3 := fun u : In (KQ w g p a h (wlArr p.w a.wa a.wc)) => u.h.w3
 have j4 := fun u : In (KQ w g p a h (wlArr p.w a.wa a.wc)) => u.h.w4
 have j5 := fun u : In (KQ w g p a h (wlArr p.w a.wa a.wc)) => u.h.w5
 refine region_in (S := KQ w g p a h (wlArr p.w a.wa a.wc)) (by kernel_rfl) (by kernel_rfl) (st0.drewN 1) ?_
 repeat (go_big_quiet_step (first | (go_at_call 76; exact in_call ((HLT.out _).mono fun _ _ h => ⟨h.1, KQ.below (In.h _) h.2⟩)) | (go_at_call 76; exact in_call ((HLB.out _).mono fun _ _ h => ⟨h.1, KQ.below (In.h _) h.2⟩)) | (go_at_call 79; exact in_call ((HWP.out _ (KQ.out (In.h _)).1).mono fun _ _ h => ⟨h.1, KQ.below (In.h _) h.2⟩))))
 refine wpQuiet_nil ?_
 rintro _ ⟨⟨w3, st2⟩, rfl⟩
 clear this st0 j3 j4 j5 HLT HLB HWP
 have c20 := st2.k.f20
 rw [HU.out] at c20
 have c22 := st2.k.f22
 rw [HPP.out] at c22
 have c21 := st2.k.f21
 go_wp2_with (first | (go_at_call 76; refine (HLU.out _).mono ?_; rintro e w4 ⟨rfl, hb4⟩; have st4 := st2.below hb4; have d22 := st4.k.f22; rw [HPP.out] at d22; have d23 := st4.k.f23; clear hb4))
 go_ret
 exact ⟨by rw [← HS.out]; rfl, st4.out.1.b⟩
theorem rest_1111 (p : Pk) (a : Ad) (S : ByteArray) (w : World) (h : PkAt w w.heap.size p a) (hk : p.kind = 1) (hq0 : 0 ≤ p.w.q) (hq1 : p.w.q ≤ 2) (hkp : 0 ≤ p.keep ∧ p.keep < 65536) (hps : propsB p.kind p.ps = true) (hcl : p.cl.size ≤ 1024) (hh : p.w.has = true) (hwp : propsB 0 p.w.ps = true) (hwt : p.w.t.size ≤ 1024) (hwb : p.w.b.size ≤ 1024) (hu : p.hu = true) (huz : p.u.size ≤ 1024) (hp : p.hp = true) (hpz : p.pw.size ≤ 1024) (hS : ((((((((((lgStr mqtt ++ strOfNums [5]) ++ strOfNums [loginZ p]) ++ fxStr p.keep) ++ propStr p.ps) ++ lgStr p.cl) ++ propStr p.w.ps) ++ lgStr p.w.t) ++ lgStr p.w.b) ++ lgStr p.u) ++ lgStr p.pw) = S) :
  Calls Tryz.prog 39 #[.agg (pkArr p a)] w fun e w' => e = .returned (.string S) ∧ Below w.heap.size w w' := by
 have H := Lib.hid h
 clear h
 obtain ⟨P, hPP⟩ : ∃ P, propStr p.ps = P := ⟨_, rfl⟩
 have hPz : P.size ≤ 16428 := by rw [← hPP]; exact propStr_size hps
 obtain ⟨LM, hLM⟩ : ∃ T, lgStr mqtt = T := ⟨_, rfl⟩
 have zLM : LM.size ≤ 1026 := by rw [← hLM, lgStr_size]; decide
 have HLM := Lib.hid (fun W => long_is mqtt LM W (by decide) hLM)
 obtain ⟨LC, hLC⟩ : ∃ T, lgStr p.cl = T := ⟨_, rfl⟩
 have zLC : LC.size ≤ 1026 := by rw [← hLC, lgStr_size]; omega
 have HLC := Lib.hid (fun W => long_is p.cl LC W (by omega) hLC)
 obtain ⟨WP, hWP⟩ : ∃ P, propStr p.w.ps = P := ⟨_, rfl⟩
 have zWP : WP.size ≤ 16428 := by rw [← hWP]; exact propStr_size hwp
 have HWP := Lib.hid (fun (W : World) (h : KP w w.heap.size p a W) => PropBytes_ok 0 p.w.ps a.wa a.wc WP W hwp h.at.ws hWP)
 obtain ⟨LT, hLT⟩ : ∃ T, lgStr p.w.t = T := ⟨_, rfl⟩
 have zLT : LT.size ≤ 1026 := by rw [← hLT, lgStr_size]; omega
 have HLT := Lib.hid (fun W => long_is p.w.t LT W (by omega) hLT)
 obtain ⟨LB, hLB⟩ : ∃ T, lgStr p.w.b = T := ⟨_, rfl⟩
 have zLB : LB.size ≤ 1026 := by rw [← hLB, lgStr_size]; omega
 have HLB := Lib.hid (fun W => long_is p.w.b LB W (by omega) hLB)
 obtain ⟨LU, hLU⟩ : ∃ T, lgStr p.u = T := ⟨_, rfl⟩
 have zLU : LU.size ≤ 1026 := by rw [← hLU, lgStr_size]; omega
 have HLU := Lib.hid (fun W => long_is p.u LU W (by omega) hLU)
 obtain ⟨LP, hLP⟩ : ∃ T, lgStr p.pw = T := ⟨_, rfl⟩
 have zLP : LP.size ≤ 1026 := by rw [← hLP, lgStr_size]; omega
 have HLP := Lib.hid (fun W => long_is p.pw LP W (by omega) hLP)
 obtain ⟨F, hF⟩ : ∃ F, fxStr p.keep = F := ⟨_, rfl⟩
 have hFz : F.size ≤ 2 := by rw [← hF, fxStr_size]; omega
 have HF := Lib.hid (fun W => RFixed_z2 p.keep F W hkp.1 hkp.2 hF)
 obtain ⟨O5, hO5⟩ : ∃ O, strOfNums [5] = O := ⟨_, rfl⟩
 have zO5 : O5.size ≤ 1 := by rw [← hO5, strOfNums_size]; simp
 have HO5 := Lib.hid (fun W => one_is 5 O5 W (by decide) (by decide) hO5)
 have hlr := login_range hq0 hq1
 have hle := login_eq p
 obtain ⟨z, hz⟩ : ∃ z, loginZ p = z := ⟨_, rfl⟩
 rw [hz] at hlr hS hle
 obtain ⟨OZ, hOZ⟩ : ∃ O, strOfNums [z] = O := ⟨_, rfl⟩
 have zOZ : OZ.size ≤ 1 := by rw [← hOZ, strOfNums_size]; simp
 have HOZ := Lib.hid (fun W => one_is z OZ W hlr.1 hlr.2 hOZ)
 rw [hO5, hOZ, hF, hLM, hLC, hPP, hWP, hLT, hLB, hLU, hLP] at hS
 have r1 := bit_range p.clean (n := 1) (by omega)
 have r2 := bit_range p.w.has (n := 1) (by omega)
 have r3 := bit_range p.w.ret (n := 1) (by omega)
 have r4 := bit_range p.hp (n := 1) (by omega)
 have r5 := bit_range p.hu (n := 1) (by omega)
 have m1 : IntKind.i64.wrap (2 * bitZ p.clean 1) = 2 * bitZ p.clean 1 := IntWalk.i64_in _ (by omega)
 have m2 : IntKind.i64.wrap (4 * bitZ p.w.has 1) = 4 * bitZ p.w.has 1 := IntWalk.i64_in _ (by omega)
 have m3 : IntKind.i64.wrap (8 * p.w.q) = 8 * p.w.q := IntWalk.i64_in _ (by omega)
 have m4 : IntKind.i64.wrap (32 * bitZ p.w.ret 1) = 32 * bitZ p.w.ret 1 := IntWalk.i64_in _ (by omega)
 have m5 : IntKind.i64.wrap (64 * bitZ p.hp 1) = 64 * bitZ p.hp 1 := IntWalk.i64_in _ (by omega)
 have m6 : IntKind.i64.wrap (128 * bitZ p.hu 1) = 128 * bitZ p.hu 1 := IntWalk.i64_in _ (by omega)
 have n1 : IntKind.i64.wrap (2 * bitZ p.clean 1 + 4 * bitZ p.w.has 1) = 2 * bitZ p.clean 1 + 4 * bitZ p.w.has 1 := IntWalk.i64_in _ (by omega)
 have n2 : IntKind.i64.wrap (2 * bitZ p.clean 1 + 4 * bitZ p.w.has 1 + 8 * p.w.q) = 2 * bitZ p.clean 1 + 4 * bitZ p.w.has 1 + 8 * p.w.q := IntWalk.i64_in _ (by omega)
 have n3 : IntKind.i64.wrap (2 * bitZ p.clean 1 + 4 * bitZ p.w.has 1 + 8 * p.w.q + 32 * bitZ p.w.ret 1) = 2 * bitZ p.clean 1 + 4 * bitZ p.w.has 1 + 8 * p.w.q + 32 * bitZ p.w.ret 1 := IntWalk.i64_in _ (by omega)
 have n4 : IntKind.i64.wrap (2 * bitZ p.clean 1 + 4 * bitZ p.w.has 1 + 8 * p.w.q + 32 * bitZ p.w.ret 1 + 64 * bitZ p.hp 1) = 2 * bitZ p.clean 1 + 4 * bitZ p.w.has 1 + 8 * p.w.q + 32 * bitZ p.w.ret 1 + 64 * bitZ p.hp 1 := IntWalk.i64_in _ (by omega)
 have n5 : IntKind.i64.wrap (2 * bitZ p.clean 1 + 4 * bitZ p.w.has 1 + 8 * p.w.q + 32 * bitZ p.w.ret 1 + 64 * bitZ p.hp 1 + 128 * bitZ p.hu 1) = z := by rw [← hle]; exact IntWalk.i64_in _ (by omega)
 have HP := Lib.hid (fun (W : World) (h : KP w w.heap.size p a W) => PropBytes_ok p.kind p.ps a.pa a.pc P W hps h.at.ps hPP)
 have HS := Lib.hid hS
 have e1 : (p.kind == 1) = true := beq_iff_eq.2 (by omega)
 have HH := Lib.hid hh
 have HU := Lib.hid hu
 have HPP := Lib.hid hp
 clear hS hh hu hp hle hz hOZ hO5 hF hLM hLC hPP hWP hLT hLB hLU hLP hps hkp hcl hlr r1 r2 r3 r4 r5 hk hq0 hq1 hwp hwt hwb huz hpz
 have HK0 := Keep.new w 30 (pkArr p a)
 obtain ⟨W1, hW⟩ : ∃ W1, w.alloc (.cells (pkArr p a) 30) = W1 := ⟨_, rfl⟩
 rw [hW] at HK0
 unfold pkArr at hW ⊢
 have HW := Lib.hid hW
 clear hW
 go_enter Tryz.func39, Tryz.ntmps39
 go_upto_region 2 with fail
 rw [HW.out]
 generalize Value.agg _ = v0
 obtain ⟨g, hg⟩ : ∃ g, w.heap.size = g := ⟨_, rfl⟩
 rw [hg] at HK0 ⊢
 have HK := Lib.hid (KP.new HK0 H.out)
 clear HW HK0 H
 rw [hg] at HP HWP
 have HG := Lib.hid hg
 clear hg
 have c0 := HK.out.k.f0
 have c14 := HK.out.k.f14
 have c15 := HK.out.k.f15
 have c16 := HK.out.k.f16
 have c17 := HK.out.k.f17
 have c18 := HK.out.k.f18
 have c19 := HK.out.k.f19
 have hk2 := HK.out.alloc (.cells (wlArr p.w a.wa a.wc) 28)
 have hb2 := Box.new W1 28 (wlArr p.w a.wa a.wc)
 obtain ⟨W2, h2⟩ : ∃ W2, W1.alloc (.cells (wlArr p.w a.wa a.wc) 28) = W2 := ⟨_, rfl⟩
 rw [h2] at hk2 hb2
 unfold wlArr at h2
 have H2 := Lib.hid h2
 clear h2
 go_upto_region 5 with fail
 rw [H2.out]
 obtain ⟨h, hhh⟩ : ∃ h, W1.heap.size = h := ⟨_, rfl⟩
 rw [hhh] at hb2 ⊢
 have st0 := KQ.mk hk2 hb2
 clear hk2 hb2 H2 HK c0 c14 c15 c16 c17 c18 c19 hhh
 haveI : Nonempty (In (KQ w g p a h (wlArr p.w a.wa a.wc))) := ⟨⟨_, st0⟩⟩
 have k11 := fun u : In (KQ w g p a h (wlArr p.w a.wa a.wc)) => u.h.k.f11
 have k12 := fun u : In (KQ w g p a h (wlArr p.w a.wa a.wc)) => u.h.k.f12
 have k13 := fun u : In (KQ w g p a h (wlArr p.w a.wa a.wc)) => u.h.k.f13
 have k20 := fun u : In (KQ w g p a h (wlArr p.w a.wa a.wc)) => u.h.k.f20
 have k22 := fun u : In (KQ w g p a h (wlArr p.w a.wa a.wc)) => u.h.k.f22
 have k24 := fun u : In (KQ w g p a h (wlArr p.w a.wa a.wc)) => u.h.k.f24
 have j0 := fun u : In (KQ w g p a h (wlArr p.w a.wa a.wc)) => u.h.w0
 have j1 := fun u : In (KQ w g p a h (wlArr p.w a.wa a.wc)) => u.h.w1
 have j2 := fun u : In (KQ w g p a h (wlArr p.w a.wa a.wc)) => u.h.w2
 refine region_in (S := KQ w g p a h (wlArr p.w a.wa a.wc)) (by kernel_rfl) (by kernel_rfl) (st0.drewN 1) ?_
 repeat (go_big_quiet_step (first | (go_at_call 77; exact in_call ((rbit_is _ _ _ rfl).mono fun _ _ h => ⟨h.1, by rw [← h.2]; exact In.h _⟩)) | (go_at_call 76; exact in_call ((HLM.out _).mono fun _ _ h => ⟨h.1, KQ.below (In.h _) h.2⟩)) | (go_at_call 76; exact in_call ((HLC.out _).mono fun _ _ h => ⟨h.1, KQ.below (In.h _) h.2⟩)) | (go_at_call 40; exact in_call ((HO5.out _).mono fun _ _ h => ⟨h.1, KQ.below (In.h _) h.2⟩)) | (go_at_call 40; exact in_call ((HOZ.out _).mono fun _ _ h => ⟨h.1, KQ.below (In.h _) h.2⟩)) | (go_at_call 78; exact in_call ((HF.out _).mono fun _ _ h => ⟨h.1, KQ.below (In.h _) h.2⟩)) | (go_at_call 79; exact in_call ((HP.out _ (KQ.out (In.h _)).1).mono fun _ _ h => ⟨h.1, KQ.below (In.h _) h.2⟩))))
 refine wpQuiet_nil ?_
 rintro _ ⟨⟨w2, st2⟩, rfl⟩
 clear this st0 k11 k12 k13 k20 k22 k24 j0 j1 j2 m1 m2 m3 m4 m5 m6 n1 n2 n3 n4 n5 HLM HLC HF HO5 HOZ HP
 have v0 := st2.w0
 rw [HH.out] at v0
 go_upto_region 7 with fail
 clear v0
 have st0 := st2
 clear st2
 haveI : Nonempty (In (KQ w g p a h (wlArr p.w a.wa a.wc))) := ⟨⟨_, st0⟩⟩
 have j3 := fun u : In (KQ w g p a h (wlArr p.w a.wa a.wc)) => u.h.w3
 have j4 := fun u : In (KQ w g p a h (wlArr p.w a.wa a.wc)) => u.h.w4
 have j5 := fun u : In (KQ w g p a h (wlArr p.w a.wa a.wc)) => u.h.w5
 refine region_in (S := KQ w g p a h (wlArr p.w a.wa a.wc)) (by kernel_rfl) (by kernel_rfl) (st0.drewN 1) ?_
 repeat (go_big_quiet_step (first | (go_at_call 76; exact in_call ((HLT.out _).mono fun _ _ h => ⟨h.1, KQ.below (In.h _) h.2⟩)) | (go_at_call 76; exact in_call ((HLB.out _).mono fun _ _ h => ⟨h.1, KQ.below (In.h _) h.2⟩)) | (go_at_call 79; exact in_call ((HWP.out _ (KQ.out (In.h _)).1).mono fun _ _ h => ⟨h.1, KQ.below (In.h _) h.2⟩))))
 refine wpQuiet_nil ?_
 rintro _ ⟨⟨w3, st2⟩, rfl⟩
 clear this st0 j3 j4 j5 HLT HLB HWP
 have c20 := st2.k.f20
 rw [HU.out] at c20
 have c22 := st2.k.f22
 rw [HPP.out] at c22
 have c21 := st2.k.f21
 go_wp2_with (first | (go_at_call 76; refine (HLU.out _).mono ?_; rintro e w4 ⟨rfl, hb4⟩; have st4 := st2.below hb4; have d22 := st4.k.f22; rw [HPP.out] at d22; have d23 := st4.k.f23; clear hb4) | (go_at_call 76; refine (HLP.out _).mono ?_; rintro e w5 ⟨rfl, hb5⟩; have st5 := st4.below hb5; clear hb5))
 go_ret
 exact ⟨by rw [← HS.out]; rfl, st5.out.1.b⟩
open Go.RowKit Go.Lib Prp Pkt Vbi
theorem rest_2 (p : Pk) (a : Ad) (S : ByteArray) (w : World) (h : PkAt w w.heap.size p a) (hk : p.kind = 2) (hg : goodP p = true) (hS : restP p = S) :
  Calls Tryz.prog 39 #[.agg (pkArr p a)] w fun e w' => e = .returned (.string S) ∧ Below w.heap.size w w' := by
 have H := Lib.hid h
 clear h
 obtain ⟨hre, hps⟩ := good_2 hk hg
 have HS : Hid (S = (strOfNums [bitZ p.pre 1] ++ strOfNums [p.re]) ++ propStr p.ps) := by show _ = _; rw [← hS, rest_2p hk]
 clear hg hS
 have HP := Lib.hid (fun (W : World) (h : KP w w.heap.size p a W) => PropBytes_ok p.kind p.ps a.pa a.pc _ W hps h.at.ps rfl)
 have hb1 := bit_range p.pre (n := 1) (by omega)
 have z1 : (strOfNums [bitZ p.pre 1]).size = 1 := by rw [strOfNums_size]; rfl
 have z2 : (strOfNums [p.re]).size = 1 := by rw [strOfNums_size]; rfl
 have z3 : (propStr p.ps).size ≤ 16428 := propStr_size hps
 have HO1 := Lib.hid (fun W => one_is (bitZ p.pre 1) _ W (by omega) (by omega) rfl)
 have HO2 := Lib.hid (fun W => one_is p.re _ W (by omega) (by omega) rfl)
 have e1 : (p.kind == 1) = false := ne_false (by omega)
 have e2 : (p.kind == 2) = true := beq_iff_eq.2 hk
 clear hk hps hre hb1
 have HK0 := Keep.new w 30 (pkArr p a)
 obtain ⟨W1, hW⟩ : ∃ W1, w.alloc (.cells (pkArr p a) 30) = W1 := ⟨_, rfl⟩
 rw [hW] at HK0
 unfold pkArr at hW ⊢
 have HW := Lib.hid hW
 clear hW
 go_enter Tryz.func39, Tryz.ntmps39
 go_upto_region 2 with fail
 rw [HW.out]
 generalize Value.agg _ = v0
 obtain ⟨g, hg⟩ : ∃ g, w.heap.size = g := ⟨_, rfl⟩
 rw [hg] at HK0 ⊢
 have HK := Lib.hid (KP.new HK0 H.out)
 clear HW HK0 H
 have c0 := HK.out.k.f0
 go_upto_region 13 with fail
 clear c0
 rw [hg] at HP
 have k7 := fun u : In (KP w g p a) => u.h.k.f7
 have k8 := fun u : In (KP w g p a) => u.h.k.f8
 have k24 := fun u : In (KP w g p a) => u.h.k.f24
 have st0 := HK.out
 clear HK
 haveI : Nonempty (In (KP w g p a)) := ⟨⟨_, st0⟩⟩
 refine region_in (S := KP w g p a) (by kernel_rfl) (by kernel_rfl) (st0.drewN 1) ?_
 repeat (go_big_quiet_step (first | (go_at_call 77; exact in_call ((rbit_is _ _ _ rfl).mono fun _ _ h => ⟨h.1, by rw [← h.2]; exact In.h _⟩)) | (go_at_call 40; exact in_call ((HO1.out _).mono fun _ _ h => ⟨h.1, KP.below (In.h _) h.2⟩)) | (go_at_call 40; exact in_call ((HO2.out _).mono fun _ _ h => ⟨h.1, KP.below (In.h _) h.2⟩)) | (go_at_call 79; exact in_call ((HP.out _ (In.h _)).mono fun _ _ h => ⟨h.1, KP.below (In.h _) h.2⟩))))
 refine wpQuiet_nil ?_
 rintro _ ⟨⟨w2, st2⟩, rfl⟩
 have HK := Lib.hid st2
 clear this st0 st2 k7 k8 k24 HP HO1 HO2
 go_wp2_with fail
 go_ret
 exact ⟨by rw [HS.out]; rfl, HK.out.b⟩
open Go.RowKit Go.Lib Prp Pkt Vbi
theorem rest_3z (p : Pk) (a : Ad) (S : ByteArray) (w : World) (h : PkAt w w.heap.size p a) (hk : p.kind = 3) (hs : p.t.size ≤ 1024) (hps : propsB p.kind p.ps = true) (hb : p.b.size ≤ 1024) (hq : p.q = 0) (hS : (lgStr p.t ++ propStr p.ps) ++ p.b = S) :
  Calls Tryz.prog 39 #[.agg (pkArr p a)] w fun e w' => e = .returned (.string S) ∧ Below w.heap.size w w' := by
 have H := Lib.hid h
 clear h
 obtain ⟨P, hPP⟩ : ∃ P, propStr p.ps = P := ⟨_, rfl⟩
 have hPz : P.size ≤ 16428 := by rw [← hPP]; exact propStr_size hps
 obtain ⟨T, hT⟩ : ∃ T, lgStr p.t = T := ⟨_, rfl⟩
 have hTz : T.size ≤ 1026 := by rw [← hT, lgStr_size]; omega
 have HL := Lib.hid (fun W => long_is p.t T W (by omega) hT)
 have HP := Lib.hid (fun (W : World) (h : KP w w.heap.size p a W) => PropBytes_ok p.kind p.ps a.pa a.pc P W hps h.at.ps hPP)
 rw [hT, hPP] at hS
 have HS := Lib.hid hS
 have e1 : (p.kind == 1) = false := ne_false (by omega)
 have e2 : (p.kind == 2) = false := ne_false (by omega)
 have e3 : (p.kind == 3) = true := beq_iff_eq.2 (by omega)
 have dq : decide (0 < p.q) = false := decide_eq_false (by omega)
 clear hS hT hPP hps hq hk
 have HK0 := Keep.new w 30 (pkArr p a)
 obtain ⟨W1, hW⟩ : ∃ W1, w.alloc (.cells (pkArr p a) 30) = W1 := ⟨_, rfl⟩
 rw [hW] at HK0
 unfold pkArr at hW ⊢
 have HW := Lib.hid hW
 clear hW
 go_enter Tryz.func39, Tryz.ntmps39
 go_upto_region 2 with fail
 rw [HW.out]
 generalize Value.agg _ = v0
 obtain ⟨g, hg⟩ : ∃ g, w.heap.size = g := ⟨_, rfl⟩
 rw [hg] at HK0 ⊢
 have HK := Lib.hid (KP.new HK0 H.out)
 clear HW HK0 H
 rw [hg] at HP
 have HG := Lib.hid hg
 clear hg
 have c0 := HK.out.k.f0
 have c5 := HK.out.k.f5
 go_upto_region 18 with (first
  | (go_at_call 76; refine (HL.out _).mono ?_; rintro e w1 ⟨rfl, hb1⟩; have HK1 := Lib.hid (HK.out.below hb1); have d2 := HK1.out.k.f2; clear hb1))
 clear c0 c5 d2 HK
 have st0 := HK1.out
 clear HK1
 haveI : Nonempty (In (KP w g p a)) := ⟨⟨_, st0⟩⟩
 have k6 := fun u : In (KP w g p a) => u.h.k.f6
 have k24 := fun u : In (KP w g p a) => u.h.k.f24
 refine region_in (S := KP w g p a) (by kernel_rfl) (by kernel_rfl) (st0.drewN 1) ?_
 repeat (go_big_quiet_step (first | (go_at_call 79; exact in_call ((HP.out _ (In.h _)).mono fun _ _ h => ⟨h.1, KP.below (In.h _) h.2⟩))))
 refine wpQuiet_nil ?_
 rintro _ ⟨⟨w2, st2⟩, rfl⟩
 have HK := Lib.hid st2
 clear this st0 st2 k6 k24
 go_wp2_with fail
 go_ret
 exact ⟨by rw [← HS.out]; rfl, HK.out.b⟩
theorem rest_3q (p : Pk) (a : Ad) (S : ByteArray) (w : World) (h : PkAt w w.heap.size p a) (hk : p.kind = 3) (hs : p.t.size ≤ 1024) (hps : propsB p.kind p.ps = true) (hb : p.b.size ≤ 1024) (hq : 0 < p.q) (hid : 1 ≤ p.id ∧ p.id < 65536) (hS : ((lgStr p.t ++ fxStr p.id) ++ propStr p.ps) ++ p.b = S) :
  Calls Tryz.prog 39 #[.agg (pkArr p a)] w fun e w' => e = .returned (.string S) ∧ Below w.heap.size w w' := by
 have H := Lib.hid h
 clear h
 obtain ⟨P, hPP⟩ : ∃ P, propStr p.ps = P := ⟨_, rfl⟩
 have hPz : P.size ≤ 16428 := by rw [← hPP]; exact propStr_size hps
 obtain ⟨T, hT⟩ : ∃ T, lgStr p.t = T := ⟨_, rfl⟩
 have hTz : T.size ≤ 1026 := by rw [← hT, lgStr_size]; omega
 have HL := Lib.hid (fun W => long_is p.t T W (by omega) hT)
 obtain ⟨F, hF⟩ : ∃ F, fxStr p.id = F := ⟨_, rfl⟩
 have hFz : F.size ≤ 2 := by rw [← hF, fxStr_size]; omega
 have HF := Lib.hid (fun W => RFixed_z2 p.id F W (by omega) (by omega) hF)
 have HP := Lib.hid (fun (W : World) (h : KP w w.heap.size p a W) => PropBytes_ok p.kind p.ps a.pa a.pc P W hps h.at.ps hPP)
 rw [hT, hPP, hF] at hS
 have HS := Lib.hid hS
 have e1 : (p.kind == 1) = false := ne_false (by omega)
 have e2 : (p.kind == 2) = false := ne_false (by omega)
 have e3 : (p.kind == 3) = true := beq_iff_eq.2 (by omega)
 have dq : decide (0 < p.q) = true := decide_eq_true hq
 clear hS hT hPP hps hq hk hF hid
 have HK0 := Keep.new w 30 (pkArr p a)
 obtain ⟨W1, hW⟩ : ∃ W1, w.alloc (.cells (pkArr p a) 30) = W1 := ⟨_, rfl⟩
 rw [hW] at HK0
 unfold pkArr at hW ⊢
 have HW := Lib.hid hW
 clear hW
 go_enter Tryz.func39, Tryz.ntmps39
 go_upto_region 2 with fail
 rw [HW.out]
 generalize Value.agg _ = v0
 obtain ⟨g, hg⟩ : ∃ g, w.heap.size = g := ⟨_, rfl⟩
 rw [hg] at HK0 ⊢
 have HK := Lib.hid (KP.new HK0 H.out)
 clear HW HK0 H
 rw [hg] at HP
 have HG := Lib.hid hg
 clear hg
 have c0 := HK.out.k.f0
 have c5 := HK.out.k.f5
 go_upto_region 18 with (first
  | (go_at_call 76; refine (HL.out _).mono ?_; rintro e w1 ⟨rfl, hb1⟩; have HK1 := Lib.hid (HK.out.below hb1); have d2 := HK1.out.k.f2; have d4 := HK1.out.k.f4; clear hb1)
  | (go_at_call 78; refine (HF.out _).mono ?_; rintro e w3 ⟨rfl, hb3⟩; have HK3 := Lib.hid (HK1.out.below hb3); clear hb3))
 clear c0 c5 d2 d4 HK HK1
 have st0 := HK3.out
 clear HK3
 haveI : Nonempty (In (KP w g p a)) := ⟨⟨_, st0⟩⟩
 have k6 := fun u : In (KP w g p a) => u.h.k.f6
 have k24 := fun u : In (KP w g p a) => u.h.k.f24
 refine region_in (S := KP w g p a) (by kernel_rfl) (by kernel_rfl) (st0.drewN 1) ?_
 repeat (go_big_quiet_step (first | (go_at_call 79; exact in_call ((HP.out _ (In.h _)).mono fun _ _ h => ⟨h.1, KP.below (In.h _) h.2⟩))))
 refine wpQuiet_nil ?_
 rintro _ ⟨⟨w2, st2⟩, rfl⟩
 have HK := Lib.hid st2
 clear this st0 st2 k6 k24
 go_wp2_with fail
 go_ret
 exact ⟨by rw [← HS.out]; rfl, HK.out.b⟩
end Go.Proofs.YtdbbcfohjkgdcaaGreat
