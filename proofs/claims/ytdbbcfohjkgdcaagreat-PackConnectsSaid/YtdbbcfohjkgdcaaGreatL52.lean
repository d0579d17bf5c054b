/- The document's own: may a packet be: its box, and the box of one that has just what its kind has. -/
import Derived.Test.YtdbbcfohjkgdcaaGreatL00
import Derived.Test.YtdbbcfohjkgdcaaGreatL28
import Derived.Test.YtdbbcfohjkgdcaaGreatL49
set_option maxRecDepth 100000
set_option maxHeartbeats 64000000
namespace Go.Proofs.YtdbbcfohjkgdcaaGreat
open Go.RowKit Go.Lib Prp Pkt Vbi
theorem rest_1100 (p : Pk) (a : Ad) (S : ByteArray) (w : World) (h : PkAt w w.heap.size p a) (hk : p.kind = 1) (hq0 : 0 ≤ p.w.q) (hq1 : p.w.q ≤ 2) (hkp : 0 ≤ p.keep ∧ p.keep < 65536) (hps : propsB p.kind p.ps = true) (hcl : p.cl.size ≤ 1024) (hh : p.w.has = true) (hwp : propsB 0 p.w.ps = true) (hwt : p.w.t.size ≤ 1024) (hwb : p.w.b.size ≤ 1024) (hu : p.hu = false) (hp : p.hp = false) (hS : ((((((((lgStr mqtt ++ strOfNums [5]) ++ strOfNums [loginZ p]) ++ fxStr p.keep) ++ propStr p.ps) ++ lgStr p.cl) ++ propStr p.w.ps) ++ lgStr p.w.t) ++ lgStr p.w.b) = S) :
  Calls Tryz.prog 39 #[.agg (pkArr p a)] w fun e w' => e = .returned (.string S) ∧ Below w.heap.size w w' := by
 have H := Lib.hid h
 clear h
 obtain ⟨P, hPP⟩ : ∃ P, propStr p.ps = P := ⟨_, rfl⟩
 have hPz : P.size ≤ 16428 := by rw [← hPP]; exact propStr_size hps
 obtain ⟨LM, hLM⟩ : ∃ T, lgStr mqtt = T := ⟨_, rfl⟩
 have zLM : LM.size ≤ 1026 := by rw [← hLM, lgStr_size]; decide
 have HLM := Lib.hid (fun W => long_is mqtt LM W (by decide) hLM)
 obtain ⟨LC, hLC⟩ : ∃ T, lgStr p.cl = T := ⟨_, rfl⟩
 have zLC : LC.size ≤ 1026 := by rw [← hLC, lgStr_size]; omega
 have HLC := Lib.hid (fun W => long_is p.cl LC W (by omega) hLC)
 obtain ⟨WP, hWP⟩ : ∃ P, propStr p.w.ps = P := ⟨_, rfl⟩
 have zWP : WP.size ≤ 16428 := by rw [← hWP]; exact propStr_size hwp
 have HWP := Lib.hid (fun (W : World) (h : KP w w.heap.size p a W) => PropBytes_ok 0 p.w.ps a.wa a.wc WP W hwp h.at.ws hWP)
 obtain ⟨LT, hLT⟩ : ∃ T, lgStr p.w.t = T := ⟨_, rfl⟩
 have zLT : LT.size ≤ 1026 := by rw [← hLT, lgStr_size]; omega
 have HLT := Lib.hid (fun W => long_is p.w.t LT W (by omega) hLT)
 obtain ⟨LB, hLB⟩ : ∃ T, lgStr p.w.b = T := ⟨_, rfl⟩
 have zLB : LB.size ≤ 1026 := by rw [← hLB, lgStr_size]; omega
 have HLB := Lib.hid (fun W => long_is p.w.b LB W (by omega) hLB)
 obtain ⟨F, hF⟩ : ∃ F, fxStr p.keep = F := ⟨_, rfl⟩
 have hFz : F.size ≤ 2 := by rw [← hF, fxStr_size]; omega
 have HF := Lib.hid (fun W => RFixed_z2 p.keep F W hkp.1 hkp.2 hF)
 obtain ⟨O5, hO5⟩ : ∃ O, strOfNums [5] = O := ⟨_, rfl⟩
 have zO5 : O5.size ≤ 1 := by rw [← hO5, strOfNums_size]; simp
 have HO5 := Lib.hid (fun W => one_is 5 O5 W (by decide) (by decide) hO5)
 have hlr := login_range hq0 hq1
 have hle := login_eq p
 obtain ⟨z, hz⟩ : ∃ z, loginZ p = z := ⟨_, rfl⟩
 rw [hz] at hlr hS hle
 obtain ⟨OZ, hOZ⟩ : ∃ O, strOfNums [z] = O := ⟨_, rfl⟩
 have zOZ : OZ.size ≤ 1 := by rw [← hOZ, strOfNums_size]; simp
 have HOZ := Lib.hid (fun W => one_is z OZ W hlr.1 hlr.2 hOZ)
 rw [hO5, hOZ, hF, hLM, hLC, hPP, hWP, hLT, hLB] at hS
 have r1 := bit_range p.clean (n := 1) (by omega)
 have r2 := bit_range p.w.has (n := 1) (by omega)
 have r3 := bit_range p.w.ret (n := 1) (by omega)
 have r4 := bit_range p.hp (n := 1) (by omega)
 have r5 := bit_range p.hu (n := 1) (by omega)
 have m1 : IntKind.i64.wrap (2 * bitZ p.clean 1) = 2 * bitZ p.clean 1 := IntWalk.i64_in _ (by omega)
 have m2 : IntKind.i64.wrap (4 * bitZ p.w.has 1) = 4 * bitZ p.w.has 1 := IntWalk.i64_in _ (by omega)
 have m3 : IntKind.i64.wrap (8 * p.w.q) = 8 * p.w.q := IntWalk.i64_in _ (by omega)
 have m4 : IntKind.i64.wrap (32 * bitZ p.w.ret 1) = 32 * bitZ p.w.ret 1 := IntWalk.i64_in _ (by omega)
 have m5 : IntKind.i64.wrap (64 * bitZ p.hp 1) = 64 * bitZ p.hp 1 := IntWalk.i64_in _ (by omega)
 have m6 : IntKind.i64.wrap (128 * bitZ p.hu 1) = 128 * bitZ p.hu 1 := IntWalk.i64_in _ (by omega)
 have n1 : IntKind.i64.wrap (2 * bitZ p.clean 1 + 4 * bitZ p.w.has 1) = 2 * bitZ p.clean 1 + 4 * bitZ p.w.has 1 := IntWalk.i64_in _ (by omega)
 have n2 : IntKind.i64.wrap (2 * bitZ p.clean 1 + 4 * bitZ p.w.has 1 + 8 * p.w.q) = 2 * bitZ p.clean 1 + 4 * bitZ p.w.has 1 + 8 * p.w.q := IntWalk.i64_in _ (by omega)
 have n3 : IntKind.i64.wrap (2 * bitZ p.clean 1 + 4 * bitZ p.w.has 1 + 8 * p.w.q + 32 * bitZ p.w.ret 1) = 2 * bitZ p.clean 1 + 4 * bitZ p.w.has 1 + 8 * p.w.q + 32 * bitZ p.w.ret 1 := IntWalk.i64_in _ (by omega)
 have n4 : IntKind.i64.wrap (2 * bitZ p.clean 1 + 4 * bitZ p.w.has 1 + 8 * p.w.q + 32 * bitZ p.w.ret 1 + 64 * bitZ p.hp 1) = 2 * bitZ p.clean 1 + 4 * bitZ p.w.has 1 + 8 * p.w.q + 32 * bitZ p.w.ret 1 + 64 * bitZ p.hp 1 := IntWalk.i64_in _ (by omega)
 have n5 : IntKind.i64.wrap (2 * bitZ p.clean 1 + 4 * bitZ p.w.has 1 + 8 * p.w.q + 32 * bitZ p.w.ret 1 + 64 * bitZ p.hp 1 + 128 * bitZ p.hu 1) = z := by rw [← hle]; exact IntWalk.i64_in _ (by omega)
 have HP := Lib.hid (fun (W : World) (h : KP w w.heap.size p a W) => PropBytes_ok p.kind p.ps a.pa a.pc P W hps h.at.ps hPP)
 have HS := Lib.hid hS
 have e1 : (p.kind == 1) = true := beq_iff_eq.2 (by omega)
 have HH := Lib.hid hh
 have HU := Lib.hid hu
 have HPP := Lib.hid hp
 clear hS hh hu hp hle hz hOZ hO5 hF hLM hLC hPP hWP hLT hLB hps hkp hcl hlr r1 r2 r3 r4 r5 hk hq0 hq1 hwp hwt hwb
 have HK0 := Keep.new w 30 (pkArr p a)
 obtain ⟨W1, hW⟩ : ∃ W1, w.alloc (.cells (pkArr p a) 30) = W1 := ⟨_, rfl⟩
 rw [hW] at HK0
 unfold pkArr at hW ⊢
 have HW := Lib.hid hW
 clear hW
 go_enter Tryz.func39, Tryz.ntmps39
 go_upto_region 2 with fail
 rw [HW.out]
 generalize Value.agg _ = v0
 obtain ⟨g, hg⟩ : ∃ g, w.heap.size = g := ⟨_, rfl⟩
 rw [hg] at HK0 ⊢
 have HK := Lib.hid (KP.new HK0 H.out)
 clear HW HK0 H
 rw [hg] at HP HWP
 have HG := Lib.hid hg
 clear hg
 have c0 := HK.out.k.f0
 have c14 := HK.out.k.f14
 have c15 := HK.out.k.f15
 have c16 := HK.out.k.f16
 have c17 := HK.out.k.f17
 have c18 := HK.out.k.f18
 have c19 := HK.out.k.f19
 have hk2 := HK.out.alloc (.cells (wlArr p.w a.wa a.wc) 28)
 have hb2 := Box.new W1 28 (wlArr p.w a.wa a.wc)
 obtain ⟨W2, h2⟩ : ∃ W2, W1.alloc (.cells (wlArr p.w a.wa a.wc) 28) = W2 := ⟨_, rfl⟩
 rw [h2] at hk2 hb2
 unfold wlArr at h2
 have H2 := Lib.hid h2
 clear h2
 go_upto_region 5 with fail
 rw [H2.out]
 obtain ⟨h, hhh⟩ : ∃ h, W1.heap.size = h := ⟨_, rfl⟩
 rw [hhh] at hb2 ⊢
 have st0 := KQ.mk hk2 hb2
 clear hk2 hb2 H2 HK c0 c14 c15 c16 c17 c18 c19 hhh
 haveI : Nonempty (In (KQ w g p a h (wlArr p.w a.wa a.wc))) := ⟨⟨_, st0⟩⟩
 have k11 := fun u : In (KQ w g p a h (wlArr p.w a.wa a.wc)) => u.h.k.f11
 have k12 := fun u : In (KQ w g p a h (wlArr p.w a.wa a.wc)) => u.h.k.f12
 have k13 := fun u : In (KQ w g p a h (wlArr p.w a.wa a.wc)) => u.h.k.f13
 have k20 := fun u : In (KQ w g p a h (wlArr p.w a.wa a.wc)) => u.h.k.f20
 have k22 := fun u : In (KQ w g p a h (wlArr p.w a.wa a.wc)) => u.h.k.f22
 have k24 := fun u : In (KQ w g p a h (wlArr p.w a.wa a.wc)) => u.h.k.f24
 have j0 := fun u : In (KQ w g p a h (wlArr p.w a.wa a.wc)) => u.h.w0
 have j1 := fun u : In (KQ w g p a h (wlArr p.w a.wa a.wc)) => u.h.w1
 have j2 := fun u : In (KQ w g p a h (wlArr p.w a.wa a.wc)) => u.h.w2
 refine region_in (S := KQ w g p a h (wlArr p.w a.wa a.wc)) (by kernel_rfl) (by kernel_rfl) (st0.drewN 1) ?_
 repeat (go_big_quiet_step (first | (go_at_call 77; exact in_call ((rbit_is _ _ _ rfl).mono fun _ _ h => ⟨h.1, by rw [← h.2]; exact In.h _⟩)) | (go_at_call 76; exact in_call ((HLM.out _).mono fun _ _ h => ⟨h.1, KQ.below (In.h _) h.2⟩)) | (go_at_call 76; exact in_call ((HLC.out _).mono fun _ _ h => ⟨h.1, KQ.below (In.h _) h.2⟩)) | (go_at_call 40; exact in_call ((HO5.out _).mono fun _ _ h => ⟨h.1, KQ.below (In.h _) h.2⟩)) | (go_at_call 40; exact in_call ((HOZ.out _).mono fun _ _ h => ⟨h.1, KQ.below (In.h _) h.2⟩)) | (go_at_call 78; exact in_call ((HF.out _).mono fun _ _ h => ⟨h.1, KQ.below (In.h _) h.2⟩)) | (go_at_call 79; exact in_call ((HP.out _ (KQ.out (In.h _)).1).mono fun _ _ h => ⟨h.1, KQ.below (In.h _) h.2⟩))))
 refine wpQuiet_nil ?_
 rintro _ ⟨⟨w2, st2⟩, rfl⟩
 clear this st0 k11 k12 k13 k20 k22 k24 j0 j1 j2 m1 m2 m3 m4 m5 m6 n1 n2 n3 n4 n5 HLM HLC HF HO5 HOZ HP
 have v0 := st2.w0
 rw [HH.out] at v0
 go_upto_region 7 with fail
 clear v0
 have st0 := st2
 clear st2
 haveI : Nonempty (In (KQ w g p a h (wlArr p.w a.wa a.wc))) := ⟨⟨_, st0⟩⟩
 have j3 := fun u : In (KQ w g p a h (wlArr p.w a.wa a.wc)) => u.h.w3
 have j4 := fun u : In (KQ w g p a h (wlArr p.w a.wa a.wc)) => u.h.w4
 have j5 := fun u : In (KQ w g p a h (wlArr p.w a.wa a.wc)) => u.h.w5
 refine region_in (S := KQ w g p a h (wlArr p.w a.wa a.wc)) (by kernel_rfl) (by kernel_rfl) (st0.drewN 1) ?_
 repeat (go_big_quiet_step (first | (go_at_call 76; exact in_call ((HLT.out _).mono fun _ _ h => ⟨h.1, KQ.below (In.h _) h.2⟩)) | (go_at_call 76; exact in_call ((HLB.out _).mono fun _ _ h => ⟨h.1, KQ.below (In.h _) h.2⟩)) | (go_at_call 79; exact in_call ((HWP.out _ (KQ.out (In.h _)).1).mono fun _ _ h => ⟨h.1, KQ.below (In.h _) h.2⟩))))
 refine wpQuiet_nil ?_
 rintro _ ⟨⟨w3, st2⟩, rfl⟩
 clear this st0 j3 j4 j5 HLT HLB HWP
 have c20 := st2.k.f20
 rw [HU.out] at c20
 have c22 := st2.k.f22
 rw [HPP.out] at c22
 have c23 := st2.k.f23
 go_wp2_with (fail)
 go_ret
 exact ⟨by rw [← HS.out]; rfl, st2.out.1.b⟩
theorem rest_1101 (p : Pk) (a : Ad) (S : ByteArray) (w : World) (h : PkAt w w.heap.size p a) (hk : p.kind = 1) (hq0 : 0 ≤ p.w.q) (hq1 : p.w.q ≤ 2) (hkp : 0 ≤ p.keep ∧ p.keep < 65536) (hps : propsB p.kind p.ps = true) (hcl : p.cl.size ≤ 1024) (hh : p.w.has = true) (hwp : propsB 0 p.w.ps = true) (hwt : p.w.t.size ≤ 1024) (hwb : p.w.b.size ≤ 1024) (hu : p.hu = false) (hp : p.hp = true) (hpz : p.pw.size ≤ 1024) (hS : (((((((((lgStr mqtt ++ strOfNums [5]) ++ strOfNums [loginZ p]) ++ fxStr p.keep) ++ propStr p.ps) ++ lgStr p.cl) ++ propStr p.w.ps) ++ lgStr p.w.t) ++ lgStr p.w.b) ++ lgStr p.pw) = S) :
  Calls Tryz.prog 39 #[.agg (pkArr p a)] w fun e w' => e = .returned (.string S) ∧ Below w.heap.size w w' := by
 have H := Lib.hid h
 clear h
 obtain ⟨P, hPP⟩ : ∃ P, propStr p.ps = P := ⟨_, rfl⟩
 have hPz : P.size ≤ 16428 := by rw [← hPP]; exact propStr_size hps
 obtain ⟨LM, hLM⟩ : ∃ T, lgStr mqtt = T := ⟨_, rfl⟩
 have zLM : LM.size ≤ 1026 := by rw [← hLM, lgStr_size]; decide
 have HLM := Lib.hid (fun W => long_is mqtt LM W (by decide) hLM)
 obtain ⟨LC, hLC⟩ : ∃ T, lgStr p.cl = T := ⟨_, rfl⟩
 have zLC : LC.size ≤ 1026 := by rw [← hLC, lgStr_size]; omega
 have HLC := Lib.hid (fun W => long_is p.cl LC W (by omega) hLC)
 obtain ⟨WP, hWP⟩ : ∃ P, propStr p.w.ps = P := ⟨_, rfl⟩
 have zWP : WP.size ≤ 16428 := by rw [← hWP]; exact propStr_size hwp
 have HWP := Lib.hid (fun (W : World) (h : KP w w.heap.size p a W) => PropBytes_ok 0 p.w.ps a.wa a.wc WP W hwp h.at.ws hWP)
 obtain ⟨LT, hLT⟩ : ∃ T, lgStr p.w.t = T := ⟨_, rfl⟩
 have zLT : LT.size ≤ 1026 := by rw [← hLT, lgStr_size]; omega
 have HLT := Lib.hid (fun W => long_is p.w.t LT W (by omega) hLT)
 obtain ⟨LB, hLB⟩ : ∃ T, lgStr p.w.b = T := ⟨_, rfl⟩
 have zLB : LB.size ≤ 1026 := by rw [← hLB, lgStr_size]; omega
 have HLB := Lib.hid (fun W => long_is p.w.b LB W (by omega) hLB)
 obtain ⟨LP, hLP⟩ : ∃ T, lgStr p.pw = T := ⟨_, rfl⟩
 have zLP : LP.size ≤ 1026 := by rw [← hLP, lgStr_size]; omega
 have HLP := Lib.hid (fun W => long_is p.pw LP W (by omega) hLP)
 obtain ⟨F, hF⟩ : ∃ F, fxStr p.keep = F := ⟨_, rfl⟩
 have hFz : F.size ≤ 2 := by rw [← hF, fxStr_size]; omega
 have HF := Lib.hid (fun W => RFixed_z2 p.keep F W hkp.1 hkp.2 hF)
 obtain ⟨O5, hO5⟩ : ∃ O, strOfNums [5] = O := ⟨_, rfl⟩
 have zO5 : O5.size ≤ 1 := by rw [← hO5, strOfNums_size]; simp
 have HO5 := Lib.hid (fun W => one_is 5 O5 W (by decide) (by decide) hO5)
 have hlr := login_range hq0 hq1
 have hle := login_eq p
 obtain ⟨z, hz⟩ : ∃ z, loginZ p = z := ⟨_, rfl⟩
 rw [hz] at hlr hS hle
 obtain ⟨OZ, hOZ⟩ : ∃ O, strOfNums [z] = O := ⟨_, rfl⟩
 have zOZ : OZ.size ≤ 1 := by rw [← hOZ, strOfNums_size]; simp
 have HOZ := Lib.hid (fun W => one_is z OZ W hlr.1 hlr.2 hOZ)
 rw [hO5, hOZ, hF, hLM, hLC, hPP, hWP, hLT, hLB, hLP] at hS
 have r1 := bit_range p.clean (n := 1) (by omega)
 have r2 := bit_range p.w.has (n := 1) (by omega)
 have r3 := bit_range p.w.ret (n := 1) (by omega)
 have r4 := bit_range p.hp (n := 1) (by omega)
 have r5 := bit_range p.hu (n := 1) (by omega)
 have m1 : IntKind.i64.wrap (2 * bitZ p.clean 1) = 2 * bitZ p.clean 1 := IntWalk.i64_in _ (by omega)
 have m2 : IntKind.i64.wrap (4 * bitZ p.w.has 1) = 4 * bitZ p.w.has 1 := IntWalk.i64_in _ (by omega)
 have m3 : IntKind.i64.wrap (8 * p.w.q) = 8 * p.w.q := IntWalk.i64_in _ (by omega)
 have m4 : IntKind.i64.wrap (32 * bitZ p.w.ret 1) = 32 * bitZ p.w.ret 1 := IntWalk.i64_in _ (by omega)
 have m5 : IntKind.i64.wrap (64 * bitZ p.hp 1) = 64 * bitZ p.hp 1 := IntWalk.i64_in _ (by omega)
 have m6 : IntKind.i64.wrap (128 * bitZ p.hu 1) = 128 * bitZ p.hu 1 := IntWalk.i64_in _ (by omega)
 have n1 : IntKind.i64.wrap (2 * bitZ p.clean 1 + 4 * bitZ p.w.has 1) = 2 * bitZ p.clean 1 + 4 * bitZ p.w.has 1 := IntWalk.i64_in _ (by omega)
 have n2 : IntKind.i64.wrap (2 * bitZ p.clean 1 + 4 * bitZ p.w.has 1 + 8 * p.w.q) = 2 * bitZ p.clean 1 + 4 * bitZ p.w.has 1 + 8 * p.w.q := IntWalk.i64_in _ (by omega)
 have n3 : IntKind.i64.wrap (2 * bitZ p.clean 1 + 4 * bitZ p.w.has 1 + 8 * p.w.q + 32 * bitZ p.w.ret 1) = 2 * bitZ p.clean 1 + 4 * bitZ p.w.has 1 + 8 * p.w.q + 32 * bitZ p.w.ret 1 := IntWalk.i64_in _ (by omega)
 have n4 : IntKind.i64.wrap (2 * bitZ p.clean 1 + 4 * bitZ p.w.has 1 + 8 * p.w.q + 32 * bitZ p.w.ret 1 + 64 * bitZ p.hp 1) = 2 * bitZ p.clean 1 + 4 * bitZ p.w.has 1 + 8 * p.w.q + 32 * bitZ p.w.ret 1 + 64 * bitZ p.hp 1 := IntWalk.i64_in _ (by omega)
 have n5 : IntKind.i64.wrap (2 * bitZ p.clean 1 + 4 * bitZ p.w.has 1 + 8 * p.w.q + 32 * bitZ p.w.ret 1 + 64 * bitZ p.hp 1 + 128 * bitZ p.hu 1) = z := by rw [← hle]; exact IntWalk.i64_in _ (by omega)
 have HP := Lib.hid (fun (W : World) (h : KP w w.heap.size p a W) => PropBytes_ok p.kind p.ps a.pa a.pc P W hps h.at.ps hPP)
 have HS := Lib.hid hS
 have e1 : (p.kind == 1) = true := beq_iff_eq.2 (by omega)
 have HH := Lib.hid hh
 have HU := Lib.hid hu
 have HPP := Lib.hid hp
 clear hS hh hu hp hle hz hOZ hO5 hF hLM hLC hPP hWP hLT hLB hLP hps hkp hcl hlr r1 r2 r3 r4 r5 hk hq0 hq1 hwp hwt hwb hpz
 have HK0 := Keep.new w 30 (pkArr p a)
 obtain ⟨W1, hW⟩ : ∃ W1, w.alloc (.cells (pkArr p a) 30) = W1 := ⟨_, rfl⟩
 rw [hW] at HK0
 unfold pkArr at hW ⊢
 have HW := Lib.hid hW
 clear hW
 go_enter Tryz.func39, Tryz.ntmps39
 go_upto_region 2 with fail
 rw [HW.out]
 generalize Value.agg _ = v0
 obtain ⟨g, hg⟩ : ∃ g, w.heap.size = g := ⟨_, rfl⟩
 rw [hg] at HK0 ⊢
 have HK := Lib.hid (KP.new HK0 H.out)
 clear HW HK0 H
 rw [hg] at HP HWP
 have HG := Lib.hid hg
 clear hg
 have c0 := HK.out.k.f0
 have c14 := HK.out.k.f14
 have c15 := HK.out.k.f15
 have c16 := HK.out.k.f16
 have c17 := HK.out.k.f17
 have c18 := HK.out.k.f18
 have c19 := HK.out.k.f19
 have hk2 := HK.out.alloc (.cells (wlArr p.w a.wa a.wc) 28)
 have hb2 := Box.new W1 28 (wlArr p.w a.wa a.wc)
 obtain ⟨W2, h2⟩ : ∃ W2, W1.alloc (.cells (wlArr p.w a.wa a.wc) 28) = W2 := ⟨_, rfl⟩
 rw [h2] at hk2 hb2
 unfold wlArr at h2
 have H2 := Lib.hid h2
 clear h2
 go_upto_region 5 with fail
 rw [H2.out]
 obtain ⟨h, hhh⟩ : ∃ h, W1.heap.size = h := ⟨_, rfl⟩
 rw [hhh] at hb2 ⊢
 have st0 := KQ.mk hk2 hb2
 clear hk2 hb2 H2 HK c0 c14 c15 c16 c17 c18 c19 hhh
 haveI : Nonempty (In (KQ w g p a h (wlArr p.w a.wa a.wc))) := ⟨⟨_, st0⟩⟩
 have k11 := fun u : In (KQ w g p a h (wlArr p.w a.wa a.wc)) => u.h.k.f11
 have k12 := fun u : In (KQ w g p a h (wlArr p.w a.wa a.wc)) => u.h.k.f12
 have k13 := fun u : In (KQ w g p a h (wlArr p.w a.wa a.wc)) => u.h.k.f13
 have k20 := fun u : In (KQ w g p a h (wlArr p.w a.wa a.wc)) => u.h.k.f20
 have k22 := fun u : In (KQ w g p a h (wlArr p.w a.wa a.wc)) => u.h.k.f22
 have k24 := fun u : In (KQ w g p a h (wlArr p.w a.wa a.wc)) => u.h.k.f24
 have j0 := fun u : In (KQ w g p a h (wlArr p.w a.wa a.wc)) => u.h.w0
 have j1 := fun u : In (KQ w g p a h (wlArr p.w a.wa a.wc)) => u.h.w1
 have j2 := fun u : In (KQ w g p a h (wlArr p.w a.wa a.wc)) => u.h.w2
 refine region_in (S := KQ w g p a h (wlArr p.w a.wa a.wc)) (by kernel_rfl) (by kernel_rfl) (st0.drewN 1) ?_
 repeat (go_big_quiet_step (first | (go_at_call 77; exact in_call ((rbit_is _ _ _ rfl).mono fun _ _ h => ⟨h.1, by rw [← h.2]; exact In.h _⟩)) | (go_at_call 76; exact in_call ((HLM.out _).mono fun _ _ h => ⟨h.1, KQ.below (In.h _) h.2⟩)) | (go_at_call 76; exact in_call ((HLC.out _).mono fun _ _ h => ⟨h.1, KQ.below (In.h _) h.2⟩)) | (go_at_call 40; exact in_call ((HO5.out _).mono fun _ _ h => ⟨h.1, KQ.below (In.h _) h.2⟩)) | (go_at_call 40; exact in_call ((HOZ.out _).mono fun _ _ h => ⟨h.1, KQ.below (In.h _) h.2⟩)) | (go_at_call 78; exact in_call ((HF.out _).mono fun _ _ h => ⟨h.1, KQ.below (In.h _) h.2⟩)) | (go_at_call 79; exact in_call ((HP.out _ (KQ.out (In.h _)).1).mono fun _ _ h => ⟨h.1, KQ.below (In.h _) h.2⟩))))
 refine wpQuiet_nil ?_
 rintro _ ⟨⟨w2, st2⟩, rfl⟩
 clear this st0 k11 k12 k13 k20 k22 k24 j0 j1 j2 m1 m2 m3 m4 m5 m6 n1 n2 n3 n4 n5 HLM HLC HF HO5 HOZ HP
 have v0 := st2.w0
 rw [HH.out] at v0
 go_upto_region 7 with fail
 clear v0
 have st0 := st2
 clear st2
 haveI : Nonempty (In (KQ w g p a h (wlArr p.w a.wa a.wc))) := ⟨⟨_, st0⟩⟩
 have j3 := fun u : In (KQ w g p a h (wlArr p.w a.wa a.wc)) => u.h.w3
 have j4 := fun u : In (KQ w g p a h (wlArr p.w a.wa a.wc)) => u.h.w4
 have j5 := fun u : In (KQ w g p a h (wlArr p.w a.wa a.wc)) => u.h.w5
 refine region_in (S := KQ w g p a h (wlArr p.w a.wa a.wc)) (by kernel_rfl) (by kernel_rfl) (st0.drewN 1) ?_
 repeat (go_big_quiet_step (first | (go_at_call 76; exact in_call ((HLT.out _).mono fun _ _ h => ⟨h.1, KQ.below (In.h _) h.2⟩)) | (go_at_call 76; exact in_call ((HLB.out _).mono fun _ _ h => ⟨h.1, KQ.below (In.h _) h.2⟩)) | (go_at_call 79; exact in_call ((HWP.out _ (KQ.out (In.h _)).1).mono fun _ _ h => ⟨h.1, KQ.below (In.h _) h.2⟩))))
 refine wpQuiet_nil ?_
 rintro _ ⟨⟨w3, st2⟩, rfl⟩
 clear this st0 j3 j4 j5 HLT HLB HWP
 have c20 := st2.k.f20
 rw [HU.out] at c20
 have c22 := st2.k.f22
 rw [HPP.out] at c22
 have c23 := st2.k.f23
 go_wp2_with (first | (go_at_call 76; refine (HLP.out _).mono ?_; rintro e w5 ⟨rfl, hb5⟩; have st5 := st2.below hb5; clear hb5))
 go_ret
 exact ⟨by rw [← HS.out]; rfl, st5.out.1.b⟩
theorem rest_1110 (p : Pk) (a : Ad) (S : ByteArray) (w : World) (h : PkAt w w.heap.size p a) (hk : p.kind = 1) (hq0 : 0 ≤ p.w.q) (hq1 : p.w.q ≤ 2) (hkp : 0 ≤ p.keep ∧ p.keep < 65536) (hps : propsB p.kind p.ps = true) (hcl : p.cl.size ≤ 1024) (hh : p.w.has = true) (hwp : propsB 0 p.w.ps = true) (hwt : p.w.t.size ≤ 1024) (hwb : p.w.b.size ≤ 1024) (hu : p.hu = true) (huz : p.u.size ≤ 1024) (hp : p.hp = false) (hS : (((((((((lgStr mqtt ++ strOfNums [5]) ++ strOfNums [loginZ p]) ++ fxStr p.keep) ++ propStr p.ps) ++ lgStr p.cl) ++ propStr p.w.ps) ++ lgStr p.w.t) ++ lgStr p.w.b) ++ lgStr p.u) = S) :
  Calls Tryz.prog 39 #[.agg (pkArr p a)] w fun e w' => e = .returned (.string S) ∧ Below w.heap.size w w' := by
 have H := Lib.hid h
 clear h
 obtain ⟨P, hPP⟩ : ∃ P, propStr p.ps = P := ⟨_, rfl⟩
 have hPz : P.size ≤ 16428 := by rw [← hPP]; exact propStr_size hps
 obtain ⟨LM, hLM⟩ : ∃ T, lgStr mqtt = T := ⟨_, rfl⟩
 have zLM : LM.size ≤ 1026 := by rw [← hLM, lgStr_size]; decide
 have HLM := Lib.hid (fun W => long_is mqtt LM W (by decide) hLM)
 obtain ⟨LC, hLC⟩ : ∃ T, lgStr p.cl = T := ⟨_, rfl⟩
 have zLC : LC.size ≤ 1026 := by rw [← hLC, lgStr_size]; omega
 have HLC := Lib.hid (fun W => long_is p.cl LC W (by omega) hLC)
 obtain ⟨WP, hWP⟩ : ∃ P, propStr p.w.ps = P := ⟨_, rfl⟩
 have zWP : WP.size ≤ 16428 := by rw [← hWP]; exact propStr_size hwp
 have HWP := Lib.hid (fun (W : World) (h : KP w w.heap.size p a W) => PropBytes_ok 0 p.w.ps a.wa a.wc WP W hwp h.at.ws hWP)
 obtain ⟨LT, hLT⟩ : ∃ T, lgStr p.w.t = T := ⟨_, rfl⟩
 have zLT : LT.size ≤ 1026 := by rw [← hLT, lgStr_size]; omega
 have HLT := Lib.hid (fun W => long_is p.w.t LT W (by omega) hLT)
 obtain ⟨LB, hLB⟩ : ∃ T, lgStr p.w.b = T := ⟨_, rfl⟩
 have zLB : LB.size ≤ 1026 := by rw [← hLB, lgStr_size]; omega
 have HLB := Lib.hid (fun W => long_is p.w.b LB W (by omega) hLB)
 obtain ⟨LU, hLU⟩ : ∃ T, lgStr p.u = T := ⟨_, rfl⟩
 have zLU : LU.size ≤ 1026 := by rw [← hLU, lgStr_size]; omega
 have HLU := Lib.hid (fun W => long_is p.u LU W (by omega) hLU)
 obtain ⟨F, hF⟩ : ∃ F, fxStr p.keep = F := ⟨_, rfl⟩
 have hFz : F.size ≤ 2 := by rw [← hF, fxStr_size]; omega
 have HF := Lib.hid (fun W => RFixed_z2 p.keep F W hkp.1 hkp.2 hF)
 obtain ⟨O5, hO5⟩ : ∃ O, strOfNums [5] = O := ⟨_, rfl⟩
 have zO5 : O5.size ≤ 1 := by rw [← hO5, strOfNums_size]; simp
 have HO5 := Lib.hid (fun W => one_is 5 O5 W (by decide) (by decide) hO5)
 have hlr := login_range hq0 hq1
 have hle := login_eq p
 obtain ⟨z, hz⟩ : ∃ z, loginZ p = z := ⟨_, rfl⟩
 rw [hz] at hlr hS hle
 obtain ⟨OZ, hOZ⟩ : ∃ O, strOfNums [z] = O := ⟨_, rfl⟩
 have zOZ : OZ.size ≤ 1 := by rw [← hOZ, strOfNums_size]; simp
 have HOZ := Lib.hid (fun W => one_is z OZ W hlr.1 hlr.2 hOZ)
 rw [hO5, hOZ, hF, hLM, hLC, hPP, hWP, hLT, hLB, hLU] at hS
 have r1 := bit_range p.clean (n := 1) (by omega)
 have r2 := bit_range p.w.has (n := 1) (by omega)
 have r3 := bit_range p.w.ret (n := 1) (by omega)
 have r4 := bit_range p.hp (n := 1) (by omega)
 have r5 := bit_range p.hu (n := 1) (by omega)
 have m1 : IntKind.i64.wrap (2 * bitZ p.clean 1) = 2 * bitZ p.clean 1 := IntWalk.i64_in _ (by omega)
 have m2 : IntKind.i64.wrap (4 * bitZ p.w.has 1) = 4 * bitZ p.w.has 1 := IntWalk.i64_in _ (by omega)
 have m3 : IntKind.i64.wrap (8 * p.w.q) = 8 * p.w.q := IntWalk.i64_in _ (by omega)
 have m4 : IntKind.i64.wrap (32 * bitZ p.w.ret 1) = 32 * bitZ p.w.ret 1 := IntWalk.i64_in _ (by omega)
 have m5 : IntKind.i64.wrap (64 * bitZ p.hp 1) = 64 * bitZ p.hp 1 := IntWalk.i64_in _ (by omega)
 have m6 : IntKind.i64.wrap (128 * bitZ p.hu 1) = 128 * bitZ p.hu 1 := IntWalk.i64_in _ (by omega)
 have n1 : IntKind.i64.wrap (2 * bitZ p.clean 1 + 4 * bitZ p.w.has 1) = 2 * bitZ p.clean 1 + 4 * bitZ p.w.has 1 := IntWalk.i64_in _ (by omega)
 have n2 : IntKind.i64.wrap (2 * bitZ p.clean 1 + 4 * bitZ p.w.has 1 + 8 * p.w.q) = 2 * bitZ p.clean 1 + 4 * bitZ p.w.has 1 + 8 * p.w.q := IntWalk.i64_in _ (by omega)
 have n3 : IntKind.i64.wrap (2 * bitZ p.clean 1 + 4 * bitZ p.w.has 1 + 8 * p.w.q + 32 * bitZ p.w.ret 1) = 2 * bitZ p.clean 1 + 4 * bitZ p.w.has 1 + 8 * p.w.q + 32 * bitZ p.w.ret 1 := IntWalk.i64_in _ (by omega)
 have n4 : IntKind.i64.wrap (2 * bitZ p.clean 1 + 4 * bitZ p.w.has 1 + 8 * p.w.q + 32 * bitZ p.w.ret 1 + 64 * bitZ p.hp 1) = 2 * bitZ p.clean 1 + 4 * bitZ p.w.has 1 + 8 * p.w.q + 32 * bitZ p.w.ret 1 + 64 * bitZ p.hp 1 := IntWalk.i64_in _ (by omega)
 have n5 : IntKind.i64.wrap (2 * bitZ p.clean 1 + 4 * bitZ p.w.has 1 + 8 * p.w.q + 32 * bitZ p.w.ret 1 + 64 * bitZ p.hp 1 + 128 * bitZ p.hu 1) = z := by rw [← hle]; exact IntWalk.i64_in _ (by omega)
 have HP := Lib.hid (fun (W : World) (h : KP w w.heap.size p a W) => PropBytes_ok p.kind p.ps a.pa a.pc P W hps h.at.ps hPP)
 have HS := Lib.hid hS
 have e1 : (p.kind == 1) = true := beq_iff_eq.2 (by omega)
 have HH := Lib.hid hh
 have HU := Lib.hid hu
 have HPP := Lib.hid hp
 clear hS hh hu hp hle hz hOZ hO5 hF hLM hLC hPP hWP hLT hLB hLU hps hkp hcl hlr r1 r2 r3 r4 r5 hk hq0 hq1 hwp hwt hwb huz
 have HK0 := Keep.new w 30 (pkArr p a)
 obtain ⟨W1, hW⟩ : ∃ W1, w.alloc (.cells (pkArr p a) 30) = W1 := ⟨_, rfl⟩
 rw [hW] at HK0
 unfold pkArr at hW ⊢
 have HW := Lib.hid hW
 clear hW
 go_enter Tryz.func39, Tryz.ntmps39
 go_upto_region 2 with fail
 rw [HW.out]
 generalize Value.agg _ = v0
 obtain ⟨g, hg⟩ : ∃ g, w.heap.size = g := ⟨_, rfl⟩
 rw [hg] at HK0 ⊢
 have HK := Lib.hid (KP.new HK0 H.out)
 clear HW HK0 H
 rw [hg] at HP HWP
 have HG := Lib.hid hg
 clear hg
 have c0 := HK.out.k.f0
 have c14 := HK.out.k.f14
 have c15 := HK.out.k.f15
 have c16 := HK.out.k.f16
 have c17 := HK.out.k.f17
 have c18 := HK.out.k.f18
 have c19 := HK.out.k.f19
 have hk2 := HK.out.alloc (.cells (wlArr p.w a.wa a.wc) 28)
 have hb2 := Box.new W1 28 (wlArr p.w a.wa a.wc)
 obtain ⟨W2, h2⟩ : ∃ W2, W1.alloc (.cells (wlArr p.w a.wa a.wc) 28) = W2 := ⟨_, rfl⟩
 rw [h2] at hk2 hb2
 unfold wlArr at h2
 have H2 := Lib.hid h2
 clear h2
 go_upto_region 5 with fail
 rw [H2.out]
 obtain ⟨h, hhh⟩ : ∃ h, W1.heap.size = h := ⟨_, rfl⟩
 rw [hhh] at hb2 ⊢
 have st0 := KQ.mk hk2 hb2
 clear hk2 hb2 H2 HK c0 c14 c15 c16 c17 c18 c19 hhh
 haveI : Nonempty (In (KQ w g p a h (wlArr p.w a.wa a.wc))) := ⟨⟨_, st0⟩⟩
 have k11 := fun u : In (KQ w g p a h (wlArr p.w a.wa a.wc)) => u.h.k.f11
 have k12 := fun u : In (KQ w g p a h (wlArr p.w a.wa a.wc)) => u.h.k.f12
 have k13 := fun u : In (KQ w g p a h (wlArr p.w a.wa a.wc)) => u.h.k.f13
 have k20 := fun u : In (KQ w g p a h (wlArr p.w a.wa a.wc)) => u.h.k.f20
 have k22 := fun u : In (KQ w g p a h (wlArr p.w a.wa a.wc)) => u.h.k.f22
 have k24 := fun u : In (KQ w g p a h (wlArr p.w a.wa a.wc)) => u.h.k.f24
 have j0 := fun u : In (KQ w g p a h (wlArr p.w a.wa a.wc)) => u.h.w0
 have j1 := fun u : In (KQ w g p a h (wlArr p.w a.wa a.wc)) => u.h.w1
 have j2 := fun u : In (KQ w g p a h (wlArr p.w a.wa a.wc)) => u.h.w2
 refine region_in (S := KQ w g p a h (wlArr p.w a.wa a.wc)) (by kernel_rfl) (by kernel_rfl) (st0.drewN 1) ?_
 repeat (go_big_quiet_step (first | (go_at_call 77; exact in_call ((rbit_is _ _ _ rfl).mono fun _ _ h => ⟨h.1, by rw [← h.2]; exact In.h _⟩)) | (go_at_call 76; exact in_call ((HLM.out _).mono fun _ _ h => ⟨h.1, KQ.below (In.h _) h.2⟩)) | (go_at_call 76; exact in_call ((HLC.out _).mono fun _ _ h => ⟨h.1, KQ.below (In.h _) h.2⟩)) | (go_at_call 40; exact in_call ((HO5.out _).mono fun _ _ h => ⟨h.1, KQ.below (In.h _) h.2⟩)) | (go_at_call 40; exact in_call ((HOZ.out _).mono fun _ _ h => ⟨h.1, KQ.below (In.h _) h.2⟩)) | (go_at_call 78; exact in_call ((HF.out _).mono fun _ _ h => ⟨h.1, KQ.below (In.h _) h.2⟩)) | (go_at_call 79; exact in_call ((HP.out _ (KQ.out (In.h _)).1).mono fun _ _ h => ⟨h.1, KQ.below (In.h _) h.2⟩))))
 refine wpQuiet_nil ?_
 rintro _ ⟨⟨w2, st2⟩, rfl⟩
 clear this st0 k11 k12 k13 k20 k22 k24 j0 j1 j2 m1 m2 m3 m4 m5 m6 n1 n2 n3 n4 n5 HLM HLC HF HO5 HOZ HP
 have v0 := st2.w0
 rw [HH.out] at v0
 go_upto_region 7 with fail
 clear v0
 have st0 := st2
 clear st2
 haveI : Nonempty (In (KQ w g p a h (wlArr p.w a.wa a.wc))) := ⟨⟨_, st0⟩⟩
 have j3 := fun u : In (KQ w g p a h (wlArr p.w a.wa a.wc)) => u.h.w3
 have j4 := fun u : In (KQ w g p a h (wlArr p.w a.wa a.wc)) => u.h.w4
 have j5 := fun u : In (KQ w g p a h (wlArr p.w a.wa a.wc)) => u.h.w5
 refine region_in (S := KQ w g p a h (wlArr p.w a.wa a.wc)) (by kernel_rfl) (by kernel_rfl) (st0.drewN 1) ?_
 repeat (go_big_quiet_step (first | (go_at_call 76; exact in_call ((HLT.out _).mono fun _ _ h => ⟨h.1, KQ.below (In.h _) h.2⟩)) | (go_at_call 76; exact in_call ((HLB.out _).mono fun _ _ h => ⟨h.1, KQ.below (In.h _) h.2⟩)) | (go_at_call 79; exact in_call ((HWP.out _ (KQ.out (In.h _)).1).mono fun _ _ h => ⟨h.1, KQ.below (In.h _) h.2⟩))))
 refine wpQuiet_nil ?_
 rintro _ ⟨⟨w3, st2⟩, rfl⟩
 clear this st0 j3 j4 j5 HLT HLB HWP
 have c20 := st2.k.f20
 rw [HU.out] at c20
 have c22 := st2.k.f22
 rw [HPP.out] at c22
 have c21 := st2.k.f21
 go_wp2_with (first | (go_at_call 76; refine (HLU.out _).mono ?_; rintro e w4 ⟨rfl, hb4⟩; have st4 := st2.below hb4; have d22 := st4.k.f22; rw [HPP.out] at d22; have d23 := st4.k.f23; clear hb4))
 go_ret
 exact ⟨by rw [← HS.out]; rfl, st4.out.1.b⟩
theorem rest_1111 (p : Pk) (a : Ad) (S : ByteArray) (w : World) (h : PkAt w w.heap.size p a) (hk : p.kind = 1) (hq0 : 0 ≤ p.w.q) (hq1 : p.w.q ≤ 2) (hkp : 0 ≤ p.keep ∧ p.keep < 65536) (hps : propsB p.kind p.ps = true) (hcl : p.cl.size ≤ 1024) (hh : p.w.has = true) (hwp : propsB 0 p.w.ps = true) (hwt : p.w.t.size ≤ 1024) (hwb : p.w.b.size ≤ 1024) (hu : p.hu = true) (huz : p.u.size ≤ 1024) (hp : p.hp = true) (hpz : p.pw.size ≤ 1024) (hS : ((((((((((lgStr mqtt ++ strOfNums [5]) ++ strOfNums [loginZ p]) ++ fxStr p.keep) ++ propStr p.ps) ++ lgStr p.cl) ++ propStr p.w.ps) ++ lgStr p.w.t) ++ lgStr p.w.b) ++ lgStr p.u) ++ lgStr p.pw) = S) :
  Calls Tryz.prog 39 #[.agg (pkArr p a)] w fun e w' => e = .returned (.string S) ∧ Below w.heap.size w w' := by
 have H := Lib.hid h
 clear h
 obtain ⟨P, hPP⟩ : ∃ P, propStr p.ps = P := ⟨_, rfl⟩
 have hPz : P.size ≤ 16428 := by rw [← hPP]; exact propStr_size hps
 obtain ⟨LM, hLM⟩ : ∃ T, lgStr mqtt = T := ⟨_, rfl⟩
 have zLM : LM.size ≤ 1026 := by rw [← hLM, lgStr_size]; decide
 have HLM := Lib.hid (fun W => long_is mqtt LM W (by decide) hLM)
 obtain ⟨LC, hLC⟩ : ∃ T, lgStr p.cl = T := ⟨_, rfl⟩
 have zLC : LC.size ≤ 1026 := by rw [← hLC, lgStr_size]; omega
 have HLC := Lib.hid (fun W => long_is p.cl LC W (by omega) hLC)
 obtain ⟨WP, hWP⟩ : ∃ P, propStr p.w.ps = P := ⟨_, rfl⟩
 have zWP : WP.size ≤ 16428 := by rw [← hWP]; exact propStr_size hwp
 have HWP := Lib.hid (fun (W : World) (h : KP w w.heap.size p a W) => PropBytes_ok 0 p.w.ps a.wa a.wc WP W hwp h.at.ws hWP)
 obtain ⟨LT, hLT⟩ : ∃ T, lgStr p.w.t = T := ⟨_, rfl⟩
 have zLT : LT.size ≤ 1026 := by rw [← hLT, lgStr_size]; omega
 have HLT := Lib.hid (fun W => long_is p.w.t LT W (by omega) hLT)
 obtain ⟨LB, hLB⟩ : ∃ T, lgStr p.w.b = T := ⟨_, rfl⟩
 have zLB : LB.size ≤ 1026 := by rw [← hLB, lgStr_size]; omega
 have HLB := Lib.hid (fun W => long_is p.w.b LB W (by omega) hLB)
 obtain ⟨LU, hLU⟩ : ∃ T, lgStr p.u = T := ⟨_, rfl⟩
 have zLU : LU.size ≤ 1026 := by rw [← hLU, lgStr_size]; omega
 have HLU := Lib.hid (fun W => long_is p.u LU W (by omega) hLU)
 obtain ⟨LP, hLP⟩ : ∃ T, lgStr p.pw = T := ⟨_, rfl⟩
 have zLP : LP.size ≤ 1026 := by rw [← hLP, lgStr_size]; omega
 have HLP := Lib.hid (fun W => long_is p.pw LP W (by omega) hLP)
 obtain ⟨F, hF⟩ : ∃ F, fxStr p.keep = F := ⟨_, rfl⟩
 have hFz : F.size ≤ 2 := by rw [← hF, fxStr_size]; omega
 have HF := Lib.hid (fun W => RFixed_z2 p.keep F W hkp.1 hkp.2 hF)
 obtain ⟨O5, hO5⟩ : ∃ O, strOfNums [5] = O := ⟨_, rfl⟩
 have zO5 : O5.size ≤ 1 := by rw [← hO5, strOfNums_size]; simp
 have HO5 := Lib.hid (fun W => one_is 5 O5 W (by decide) (by decide) hO5)
 have hlr := login_range hq0 hq1
 have hle := login_eq p
 obtain ⟨z, hz⟩ : ∃ z, loginZ p = z := ⟨_, rfl⟩
 rw [hz] at hlr hS hle
 obtain ⟨OZ, hOZ⟩ : ∃ O, strOfNums [z] = O := ⟨_, rfl⟩
 have zOZ : OZ.size ≤ 1 := by rw [← hOZ, strOfNums_size]; simp
 have HOZ := Lib.hid (fun W => one_is z OZ W hlr.1 hlr.2 hOZ)
 rw [hO5, hOZ, hF, hLM, hLC, hPP, hWP, hLT, hLB, hLU, hLP] at hS
 have r1 := bit_range p.clean (n := 1) (by omega)
 have r2 := bit_range p.w.has (n := 1) (by omega)
 have r3 := bit_range p.w.ret (n := 1) (by omega)
 have r4 := bit_range p.hp (n := 1) (by omega)
 have r5 := bit_range p.hu (n := 1) (by omega)
 have m1 : IntKind.i64.wrap (2 * bitZ p.clean 1) = 2 * bitZ p.clean 1 := IntWalk.i64_in _ (by omega)
 have m2 : IntKind.i64.wrap (4 * bitZ p.w.has 1) = 4 * bitZ p.w.has 1 := IntWalk.i64_in _ (by omega)
 have m3 : IntKind.i64.wrap (8 * p.w.q) = 8 * p.w.q := IntWalk.i64_in _ (by omega)
 have m4 : IntKind.i64.wrap (32 * bitZ p.w.ret 1) = 32 * bitZ p.w.ret 1 := IntWalk.i64_in _ (by omega)
 have m5 : IntKind.i64.wrap (64 * bitZ p.hp 1) = 64 * bitZ p.hp 1 := IntWalk.i64_in _ (by omega)
 have m6 : IntKind.i64.wrap (128 * bitZ p.hu 1) = 128 * bitZ p.hu 1 := IntWalk.i64_in _ (by omega)
 have n1 : IntKind.i64.wrap (2 * bitZ p.clean 1 + 4 * bitZ p.w.has 1) = 2 * bitZ p.clean 1 + 4 * bitZ p.w.has 1 := IntWalk.i64_in _ (by omega)
 have n2 : IntKind.i64.wrap (2 * bitZ p.clean 1 + 4 * bitZ p.w.has 1 + 8 * p.w.q) = 2 * bitZ p.clean 1 + 4 * bitZ p.w.has 1 + 8 * p.w.q := IntWalk.i64_in _ (by omega)
 have n3 : IntKind.i64.wrap (2 * bitZ p.clean 1 + 4 * bitZ p.w.has 1 + 8 * p.w.q + 32 * bitZ p.w.ret 1) = 2 * bitZ p.clean 1 + 4 * bitZ p.w.has 1 + 8 * p.w.q + 32 * bitZ p.w.ret 1 := IntWalk.i64_in _ (by omega)
 have n4 : IntKind.i64.wrap (2 * bitZ p.clean 1 + 4 * bitZ p.w.has 1 + 8 * p.w.q + 32 * bitZ p.w.ret 1 + 64 * bitZ p.hp 1) = 2 * bitZ p.clean 1 + 4 * bitZ p.w.has 1 + 8 * p.w.q + 32 * bitZ p.w.ret 1 + 64 * bitZ p.hp 1 := IntWalk.i64_in _ (by omega)
 have n5 : IntKind.i64.wrap (2 * bitZ p.clean 1 + 4 * bitZ p.w.has 1 + 8 * p.w.q + 32 * bitZ p.w.ret 1 + 64 * bitZ p.hp 1 + 128 * bitZ p.hu 1) = z := by rw [← hle]; exact IntWalk.i64_in _ (by omega)
 have HP := Lib.hid (fun (W : World) (h : KP w w.heap.size p a W) => PropBytes_ok p.kind p.ps a.pa a.pc P W hps h.at.ps hPP)
 have HS := Lib.hid hS
 have e1 : (p.kind == 1) = true := beq_iff_eq.2 (by omega)
 have HH := Lib.hid hh
 have HU := Lib.hid hu
 have HPP := Lib.hid hp
 clear hS hh hu hp hle hz hOZ hO5 hF hLM hLC hPP hWP hLT hLB hLU hLP hps hkp hcl hlr r1 r2 r3 r4 r5 hk hq0 hq1 hwp hwt hwb huz hpz
 have HK0 := Keep.new w 30 (pkArr p a)
 obtain ⟨W1, hW⟩ : ∃ W1, w.alloc (.cells (pkArr p a) 30) = W1 := ⟨_, rfl⟩
 rw [hW] at HK0
 unfold pkArr at hW ⊢
 have HW := Lib.hid hW
 clear hW
 go_enter Tryz.func39, Tryz.ntmps39
 go_upto_region 2 with fail
 rw [HW.out]
 generalize Value.agg _ = v0
 obtain ⟨g, hg⟩ : ∃ g, w.heap.size = g := ⟨_, rfl⟩
 rw [hg] at HK0 ⊢
 have HK := Lib.hid (KP.new HK0 H.out)
 clear HW HK0 H
 rw [hg] at HP HWP
 have HG := Lib.hid hg
 clear hg
 have c0 := HK.out.k.f0
 have c14 := HK.out.k.f14
 have c15 := HK.out.k.f15
 have c16 := HK.out.k.f16
 have c17 := HK.out.k.f17
 have c18 := HK.out.k.f18
 have c19 := HK.out.k.f19
 have hk2 := HK.out.alloc (.cells (wlArr p.w a.wa a.wc) 28)
 have hb2 := Box.new W1 28 (wlArr p.w a.wa a.wc)
 obtain ⟨W2, h2⟩ : ∃ W2, W1.alloc (.cells (wlArr p.w a.wa a.wc) 28) = W2 := ⟨_, rfl⟩
 rw [h2] at hk2 hb2
 unfold wlArr at h2
 have H2 := Lib.hid h2
 clear h2
 go_upto_region 5 with fail
 rw [H2.out]
 obtain ⟨h, hhh⟩ : ∃ h, W1.heap.size = h := ⟨_, rfl⟩
 rw [hhh] at hb2 ⊢
 have st0 := KQ.mk hk2 hb2
 clear hk2 hb2 H2 HK c0 c14 c15 c16 c17 c18 c19 hhh
 haveI : Nonempty (In (KQ w g p a h (wlArr p.w a.wa a.wc))) := ⟨⟨_, st0⟩⟩
 have k11 := fun u : In (KQ w g p a h (wlArr p.w a.wa a.wc)) => u.h.k.f11
 have k12 := fun u : In (KQ w g p a h (wlArr p.w a.wa a.wc)) => u.h.k.f12
 have k13 := fun u : In (KQ w g p a h (wlArr p.w a.wa a.wc)) => u.h.k.f13
 have k20 := fun u : In (KQ w g p a h (wlArr p.w a.wa a.wc)) => u.h.k.f20
 have k22 := fun u : In (KQ w g p a h (wlArr p.w a.wa a.wc)) => u.h.k.f22
 have k24 := fun u : In (KQ w g p a h (wlArr p.w a.wa a.wc)) => u.h.k.f24
 have j0 := fun u : In (KQ w g p a h (wlArr p.w a.wa a.wc)) => u.h.w0
 have j1 := fun u : In (KQ w g p a h (wlArr p.w a.wa a.wc)) => u.h.w1
 have j2 := fun u : In (KQ w g p a h (wlArr p.w a.wa a.wc)) => u.h.w2
 refine region_in (S := KQ w g p a h (wlArr p.w a.wa a.wc)) (by kernel_rfl) (by kernel_rfl) (st0.drewN 1) ?_
 repeat (go_big_quiet_step (first | (go_at_call 77; exact in_call ((rbit_is _ _ _ rfl).mono fun _ _ h => ⟨h.1, by rw [← h.2]; exact In.h _⟩)) | (go_at_call 76; exact in_call ((HLM.out _).mono fun _ _ h => ⟨h.1, KQ.below (In.h _) h.2⟩)) | (go_at_call 76; exact in_call ((HLC.out _).mono fun _ _ h => ⟨h.1, KQ.below (In.h _) h.2⟩)) | (go_at_call 40; exact in_call ((HO5.out _).mono fun _ _ h => ⟨h.1, KQ.below (In.h _) h.2⟩)) | (go_at_call 40; exact in_call ((HOZ.out _).mono fun _ _ h => ⟨h.1, KQ.below (In.h _) h.2⟩)) | (go_at_call 78; exact in_call ((HF.out _).mono fun _ _ h => ⟨h.1, KQ.below (In.h _) h.2⟩)) | (go_at_call 79; exact in_call ((HP.out _ (KQ.out (In.h _)).1).mono fun _ _ h => ⟨h.1, KQ.below (In.h _) h.2⟩))))
 refine wpQuiet_nil ?_
 rintro _ ⟨⟨w2, st2⟩, rfl⟩
 clear this st0 k11 k12 k13 k20 k22 k24 j0 j1 j2 m1 m2 m3 m4 m5 m6 n1 n2 n3 n4 n5 HLM HLC HF HO5 HOZ HP
 have v0 := st2.w0
 rw [HH.out] at v0
 go_upto_region 7 with fail
 clear v0
 have st0 := st2
 clear st2
 haveI : Nonempty (In (KQ w g p a h (wlArr p.w a.wa a.wc))) := ⟨⟨_, st0⟩⟩
 have j3 := fun u : In (KQ w g p a h (wlArr p.w a.wa a.wc)) => u.h.w3
 have j4 := fun u : In (KQ w g p a h (wlArr p.w a.wa a.wc)) => u.h.w4
 have j5 := fun u : In (KQ w g p a h (wlArr p.w a.wa a.wc)) => u.h.w5
 refine region_in (S := KQ w g p a h (wlArr p.w a.wa a.wc)) (by kernel_rfl) (by kernel_rfl) (st0.drewN 1) ?_
 repeat (go_big_quiet_step (first | (go_at_call 76; exact in_call ((HLT.out _).mono fun _ _ h => ⟨h.1, KQ.below (In.h _) h.2⟩)) | (go_at_call 76; exact in_call ((HLB.out _).mono fun _ _ h => ⟨h.1, KQ.below (In.h _) h.2⟩)) | (go_at_call 79; exact in_call ((HWP.out _ (KQ.out (In.h _)).1).mono fun _ _ h => ⟨h.1, KQ.below (In.h _) h.2⟩))))
 refine wpQuiet_nil ?_
 rintro _ ⟨⟨w3, st2⟩, rfl⟩
 clear this st0 j3 j4 j5 HLT HLB HWP
 have c20 := st2.k.f20
 rw [HU.out] at c20
 have c22 := st2.k.f22
 rw [HPP.out] at c22
 have c21 := st2.k.f21
 go_wp2_with (first | (go_at_call 76; refine (HLU.out _).mono ?_; rintro e w4 ⟨rfl, hb4⟩; have st4 := st2.below hb4; have d22 := st4.k.f22; rw [HPP.out] at d22; have d23 := st4.k.f23; clear hb4) | (go_at_call 76; refine (HLP.out _).mono ?_; rintro e w5 ⟨rfl, hb5⟩; have st5 := st4.below hb5; clear hb5))
 go_ret
 exact ⟨by rw [← HS.out]; rfl, st5.out.1.b⟩
open Go.RowKit Go.Lib Prp Pkt Vbi
theorem parts_of (p : Pk) {l : List Part} (hg : goodP p = true) (h : partsL p = l) : allOk l = true ∧ restP p = allStr l := by
 obtain ⟨_, h2⟩ := good_parts hg
 unfold restP
 rw [h] at h2 ⊢
 exact ⟨h2, rfl⟩
theorem rest_con (p : Pk) (a : Ad) (S : ByteArray) (w : World) (h : PkAt w w.heap.size p a) (hk : p.kind = 1) (hg : goodP p = true) (hS : restP p = S) :
  Calls Tryz.prog 39 #[.agg (pkArr p a)] w fun e w' => e = .returned (.string S) ∧ Below w.heap.size w w' := by
 have hq := login_q ((may_parts (good_parts hg).1).2.1 hk)
 obtain ⟨h1, h2⟩ := parts_of p (l := connectL p) hg (by unfold partsL; rw [if_pos hk])
 unfold connectL willL userL passL at h1 h2
 cases hh : p.w.has with
 | false =>
  cases hu : p.hu with
  | false =>
   cases hp : p.hp with
   | false =>
    rw [hh, hu, hp] at h1 h2
    simp only [if_false, Bool.false_eq_true, List.append_nil] at h1 h2
    unfold allOk at h1
    simp only [List.all_cons, List.all_nil, Bool.and_eq_true, Bool.and_true] at h1
    obtain ⟨_, _, _, x1, x2, x3⟩ := h1
    refine rest_1000 p a S w h hk hq.1 hq.2 (of_decide_eq_true x1) x2 (text_size x3) hh hu hp ?_
    rw [← hS, h2]
    unfold allStr
    simp only [List.foldl_cons, List.foldl_nil, Pkt.empty_add]
    rfl
   | true =>
    rw [hh, hu, hp] at h1 h2
    simp only [if_true, if_false, Bool.false_eq_true, List.cons_append, List.nil_append, List.append_nil] at h1 h2
    unfold allOk at h1
    simp only [List.all_cons, List.all_nil, Bool.and_eq_true, Bool.and_true] at h1
    obtain ⟨_, _, _, x1, x2, x3, x8⟩ := h1
    refine rest_1001 p a S w h hk hq.1 hq.2 (of_decide_eq_true x1) x2 (text_size x3) hh hu hp (of_decide_eq_true x8) ?_
    rw [← hS, h2]
    unfold allStr
    simp only [List.foldl_cons, List.foldl_nil, Pkt.empty_add]
    rfl
  | true =>
   cases hp : p.hp with
   | false =>
    rw [hh, hu, hp] at h1 h2
    simp only [if_true, if_false, Bool.false_eq_true, List.cons_append, List.nil_append, List.append_nil] at h1 h2
    unfold allOk at h1
    simp only [List.all_cons, List.all_nil, Bool.and_eq_true, Bool.and_true] at h1
    obtain ⟨_, _, _, x1, x2, x3, x7⟩ := h1
    refine rest_1010 p a S w h hk hq.1 hq.2 (of_decide_eq_true x1) x2 (text_size x3) hh hu (text_size x7) hp ?_
    rw [← hS, h2]
    unfold allStr
    simp only [List.foldl_cons, List.foldl_nil, Pkt.empty_add]
    rfl
   | true =>
    rw [hh, hu, hp] at h1 h2
    simp only [if_true, if_false, Bool.false_eq_true, List.cons_append, List.nil_append, List.append_nil] at h1 h2
    unfold allOk at h1
    simp only [List.all_cons, List.all_nil, Bool.and_eq_true, Bool.and_true] at h1
    obtain ⟨_, _, _, x1, x2, x3, x7, x8⟩ := h1
    refine rest_1011 p a S w h hk hq.1 hq.2 (of_decide_eq_true x1) x2 (text_size x3) hh hu (text_size x7) hp (of_decide_eq_true x8) ?_
    rw [← hS, h2]
    unfold allStr
    simp only [List.foldl_cons, List.foldl_nil, Pkt.empty_add]
    rfl
 | true =>
  cases hu : p.hu with
  | false =>
   cases hp : p.hp with
   | false =>
    rw [hh, hu, hp] at h1 h2
    simp only [if_true, if_false, Bool.false_eq_true, List.cons_append, List.nil_append, List.append_nil] at h1 h2
    unfold allOk at h1
    simp only [List.all_cons, List.all_nil, Bool.and_eq_true, Bool.and_true] at h1
    obtain ⟨_, _, _, x1, x2, x3, x4, x5, x6⟩ := h1
    refine rest_1100 p a S w h hk hq.1 hq.2 (of_decide_eq_true x1) x2 (text_size x3) hh (x4) (text_size x5) (of_decide_eq_true x6) hu hp ?_
    rw [← hS, h2]
    unfold allStr
    simp only [List.foldl_cons, List.foldl_nil, Pkt.empty_add]
    rfl
   | true =>
    rw [hh, hu, hp] at h1 h2
    simp only [if_true, if_false, Bool.false_eq_true, List.cons_append, List.nil_append, List.append_nil] at h1 h2
    unfold allOk at h1
    simp only [List.all_cons, List.all_nil, Bool.and_eq_true, Bool.and_true] at h1
    obtain ⟨_, _, _, x1, x2, x3, x4, x5, x6, x8⟩ := h1
    refine rest_1101 p a S w h hk hq.1 hq.2 (of_decide_eq_true x1) x2 (text_size x3) hh (x4) (text_size x5) (of_decide_eq_true x6) hu hp (of_decide_eq_true x8) ?_
    rw [← hS, h2]
    unfold allStr
    simp only [List.foldl_cons, List.foldl_nil, Pkt.empty_add]
    rfl
  | true =>
   cases hp : p.hp with
   | false =>
    rw [hh, hu, hp] at h1 h2
    simp only [if_true, if_false, Bool.false_eq_true, List.cons_append, List.nil_append, List.append_nil] at h1 h2
    unfold allOk at h1
    simp only [List.all_cons, List.all_nil, Bool.and_eq_true, Bool.and_true] at h1
    obtain ⟨_, _, _, x1, x2, x3, x4, x5, x6, x7⟩ := h1
    refine rest_1110 p a S w h hk hq.1 hq.2 (of_decide_eq_true x1) x2 (text_size x3) hh (x4) (text_size x5) (of_decide_eq_true x6) hu (text_size x7) hp ?_
    rw [← hS, h2]
    unfold allStr
    simp only [List.foldl_cons, List.foldl_nil, Pkt.empty_add]
    rfl
   | true =>
    rw [hh, hu, hp] at h1 h2
    simp only [if_true, List.cons_append, List.nil_append] at h1 h2
    unfold allOk at h1
    simp only [List.all_cons, List.all_nil, Bool.and_eq_true, Bool.and_true] at h1
    obtain ⟨_, _, _, x1, x2, x3, x4, x5, x6, x7, x8⟩ := h1
    refine rest_1111 p a S w h hk hq.1 hq.2 (of_decide_eq_true x1) x2 (text_size x3) hh (x4) (text_size x5) (of_decide_eq_true x6) hu (text_size x7) hp (of_decide_eq_true x8) ?_
    rw [← hS, h2]
    unfold allStr
    simp only [List.foldl_cons, List.foldl_nil, Pkt.empty_add]
    rfl
open Go.RowKit Go.Lib Prp Pkt Vbi
theorem rflags_eq {p : Pk} (h : mayP p = true) : rflagsZ p = flagsZ p := by
 obtain ⟨⟨hk1, hk15⟩, _⟩ := may_parts h
 by_cases k : p.kind = 3
 ·unfold rflagsZ flagsZ bitZ
  rw [if_pos k, if_neg (show ¬ (p.kind = 6 ∨ p.kind = 8 ∨ p.kind = 10) by omega)]
  cases p.dup <;> cases p.ret <;> simp
 ·have hF : fieldB p = true := by
   cases hF : fieldB p with
   | true => rfl
   | false => rw [may_field hF] at h; cases h
  unfold fieldB fieldOf at hF
  simp only [Bool.and_eq_true, Bool.or_eq_true, Bool.not_eq_true', decide_eq_true_eq] at hF
  have hb3 : b3 p = false := by
   rcases hF.2.2.1 with h | h
   ·exact h
   ·exact absurd h k
  unfold b3 at hb3
  simp only [Bool.or_eq_false_iff, decide_eq_false_iff_not, ne_eq, Decidable.not_not] at hb3
  unfold rflagsZ flagsZ bitZ
  rw [if_neg k]
  split
  ·rfl
  ·rw [hb3.1, hb3.2.1, hb3.2.2.1]; rfl
theorem RBytes_of (p : Pk) (a : Ad) (S : ByteArray) (w : World) (h : PkAt w w.heap.size p a) (hg : goodP p = true) (hS : strP p = S)
  (hrest : ∀ (R : ByteArray) (W : World), PkAt W W.heap.size p a → restP p = R → Calls Tryz.prog 39 #[.agg (pkArr p a)] W fun e w' => e = .returned (.string R) ∧ Below W.heap.size W w') :
  Calls Tryz.prog 10 #[.agg (pkArr p a)] w fun e w' => e = .returned (.string S) ∧ Below w.heap.size w w' := by
 have H := Lib.hid h
 have hm := (good_parts hg).1
 have hk := (may_parts hm).1
 have hfl := flags_in hm
 have hq := may_q hm
 have hfw := parts_few hm
 have hrz := allStr_size (good_parts hg).2 hfw.2
 have hre := rflags_eq hm
 obtain ⟨R, hR⟩ : ∃ R, restP p = R := ⟨_, rfl⟩
 have hRz : R.size ≤ 1051392 := by rw [← hR]; unfold restP; have := hfw.1; omega
 have HR := Lib.hid (fun (W : World) (h : PkAt W W.heap.size p a) => hrest R W h hR)
 obtain ⟨N, hN⟩ : ∃ N, strOfNums (numZ R.size) = N := ⟨_, rfl⟩
 have hNz : N.size ≤ 4 := by rw [← hN, strOfNums_size, numZ_len (by omega)]; exact (numLen_le _).2
 have HN := Lib.hid (fun W => RNum_z (R.size : Int) N W (by omega) (by omega) (by rw [Int.toNat_natCast]; exact hN))
 obtain ⟨z, hz⟩ : ∃ z, flagsZ p = z := ⟨_, rfl⟩
 have HF := Lib.hid (fun W => rflags_is p a z W hq.1 (by omega) (hre.trans hz))
 rw [hz] at hfl
 obtain ⟨b, hb⟩ : ∃ b, 16 * p.kind + z = b := ⟨_, rfl⟩
 obtain ⟨O, hO⟩ : ∃ O, strOfNums [b] = O := ⟨_, rfl⟩
 have hOz : O.size ≤ 1 := by rw [← hO, strOfNums_size]; simp
 have HO := Lib.hid (fun W => one_is b O W (by omega) (by omega) hO)
 have HS : Hid (S = (O ++ N) ++ R) := by
  show _ = _
  rw [← hS]
  unfold strP
  rw [hR, hN, hz, ← hO, ← hb]
 have z1 : IntKind.i64.wrap (16 * p.kind) = 16 * p.kind := IntWalk.i64_in _ (by omega)
 have z2 : IntKind.i64.wrap (16 * p.kind + z) = b := by rw [← hb]; exact IntWalk.i64_in _ (by omega)
 clear h hg hS hm hk hfl hq hfw hrz hre hR hN hz hb hO
 have HK0 := Keep.new w 30 (pkArr p a)
 obtain ⟨W1, hW⟩ : ∃ W1, w.alloc (.cells (pkArr p a) 30) = W1 := ⟨_, rfl⟩
 rw [hW] at HK0
 unfold pkArr at hW ⊢
 have HW := Lib.hid hW
 clear hW
 go_enter Tryz.func10, Tryz.ntmps10
 go_upto_region 1 with fail
 rw [HW.out]
 generalize Value.agg _ = v0
 obtain ⟨g, hg⟩ : ∃ g, w.heap.size = g := ⟨_, rfl⟩
 rw [hg] at HK0 ⊢
 have HK := Lib.hid (KP.new HK0 H.out)
 clear HW HK0 H
 have HG := Lib.hid hg
 clear hg
 have hld := load_pk HK.out.k
 go_upto_region 2 with (first | (refine wpList_load_one rfl 30 (.tmp 1) rfl g 0 rfl _ hld ?_) | (go_at_call 39; refine (HR.out _ HK.out.at).mono ?_; rintro e w1 ⟨rfl, hb1⟩; have HK1 := Lib.hid (HK.out.below hb1); clear hb1 hld))
 have st0 := HK1.out
 clear HK HK1
 haveI : Nonempty (In (KP w g p a)) := ⟨⟨_, st0⟩⟩
 have k0 := fun u : In (KP w g p a) => u.h.k.f0
 have hld := fun u : In (KP w g p a) => load_pk u.h.k
 refine region_in (S := KP w g p a) (by kernel_rfl) (by kernel_rfl) (st0.drewN 1) ?_
 iterate 3 (go_big_quiet_step (fail))
 go_big_quiet_want
 refine quiet_load_in 30 (.tmp 1) rfl g 0 rfl _ hld ?_
 go_simp
 go_big_quiet_on
 repeat (go_big_quiet_step (first | (go_at_call 41; exact in_call ((HF.out _).mono fun _ _ h => ⟨h.1, KP.below (In.h _) h.2⟩)) | (go_at_call 40; exact in_call ((HO.out _).mono fun _ _ h => ⟨h.1, KP.below (In.h _) h.2⟩)) | (go_at_call 42; exact in_call ((HN.out _).mono fun _ _ h => ⟨h.1, KP.below (In.h _) h.2⟩))))
 refine wpQuiet_nil ?_
 rintro _ ⟨⟨w2, st2⟩, rfl⟩
 have HK := Lib.hid st2
 clear this st0 st2 k0 hld HF HO HN
 go_wp2_with fail
 go_ret
 exact ⟨by rw [HS.out]; rfl, HK.out.b⟩
theorem RB_1 (p : Pk) (a : Ad) (S : ByteArray) (w : World) (h : PkAt w w.heap.size p a) (hk : p.kind = 1) (hg : goodP p = true) (hS : strP p = S) :
  Calls Tryz.prog 10 #[.agg (pkArr p a)] w fun e w' => e = .returned (.string S) ∧ Below w.heap.size w w' :=
 RBytes_of p a S w h hg hS fun R W h hR => rest_con p a R W h hk hg hR
open Go.RowKit Go.Lib Prp Pkt Vbi
section
variable {w W W' : World} {g g3 : Nat} {p N N' : Pk} {a a' a'' : Ad}
theorem Pair.arg (h : Pair w g g3 p a N a' W) (i : Nat) : W.cell? ⟨g, i, none⟩ = (pkArr p a)[i]? := h.out.1.cell i
theorem Pair.non (h : Pair w g g3 p a N a' W) (i : Nat) : W.cell? ⟨g3, i, none⟩ = (pkArr N a')[i]? := h.out.2.1.cell i
theorem Pair.nfz (h : Pair w g g3 p a N a' W) (i : Nat) : W.frozen? ⟨g3, i, none⟩ = false := h.out.2.1.frozen i
theorem Pair.nat (h : Pair w g g3 p a N a' W) (h1 : N.cs = [] ∨ N.cs = p.cs ∧ a'.ca = a.ca) (h2 : N.fs = [] ∨ N.fs = p.fs ∧ a'.fa = a.fa) (h3 : N.w.ps = [] ∨ N.w.ps = p.w.ps ∧ a'.wa = a.wa) (h4 : N.ps = [] ∨ N.ps = p.ps ∧ a'.pa = a.pa) :
  PkAt W W.heap.size N a' ∧ HalfOf p N := by
 have k := h.at
 refine ⟨⟨?_, ?_, ?_, ?_⟩, ?_, ?_, ?_, ?_⟩
 ·rcases h1 with e | ⟨e, e'⟩
  ·rw [e]; exact .inl rfl
  ·rw [e, e']; exact k.cs
 ·rcases h2 with e | ⟨e, e'⟩
  ·rw [e]; exact .inl rfl
  ·rw [e, e']; exact k.fs
 ·rcases h3 with e | ⟨e, e'⟩
  ·rw [e]; exact .inl rfl
  ·rw [e, e']; exact k.ws
 ·rcases h4 with e | ⟨e, e'⟩
  ·rw [e]; exact .inl rfl
  ·rw [e, e']; exact k.ps
 ·exact h1.elim .inr fun x => .inl x.1
 ·exact h2.elim .inr fun x => .inl x.1
 ·exact h3.elim .inr fun x => .inl x.1
 ·exact h4.elim .inr fun x => .inl x.1
theorem Pair.there (h : Pair w g g3 p a N a' W) : W.there g3 14 6 := fun j hj => by
 refine ⟨?_, h.nfz _⟩
 rw [h.non]
 match j, hj with
 | 0, _ => rfl
 | 1, _ => rfl
 | 2, _ => rfl
 | 3, _ => rfl
 | 4, _ => rfl
 | 5, _ => rfl
theorem one_wl (x : Wl) (A : Option Addr) (c : Nat) : (wlArr x A c).all (·.oneCell') = true := by simp [wlArr, Value.oneCell']
theorem load_wlbox {W : World} {g : Nat} {x : Wl} {A : Option Addr} {c : Nat} (h : Box W g (wlArr x A c)) : (loadVar 28 ⟨g, 0, none⟩).run Tryz.prog W = .ok (.agg (wlArr x A c)) W :=
 run_loadVar_mid W g 0 28 (wlArr x A c).toList _ (fun j v hv => by rw [Nat.zero_add, h.cell j]; rw [← hv]; simp) Tryz.underlying28 rfl info_wl
end
structure Asked (p N : Pk) (b : Bool) : Prop where
 yes : eqP p N = true → goodP p = true ∧ b = decide ((strP p).size ≤ 8192)
 no : eqP p N = false → b = false
theorem asked {p N : Pk} {b : Bool} (hb : packB p = b) (hg : goodP p = eqP p N) : Asked p N b := by
 rw [pack_good] at hb
 refine ⟨fun h => ⟨hg.trans h, ?_⟩, fun h => ?_⟩
 ·rw [hg, h] at hb; exact hb.symm
 ·rw [hg, h] at hb; exact hb.symm
theorem not_good {p : Pk} {b : Bool} (hb : packB p = b) (hg : goodP p = false) : b = false := by
 rw [pack_good, hg] at hb
 exact hb.symm
end Go.Proofs.YtdbbcfohjkgdcaaGreat
