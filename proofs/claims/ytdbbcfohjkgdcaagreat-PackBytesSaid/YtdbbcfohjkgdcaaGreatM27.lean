/- The document's own answer on packets: what stands behind the length of a Connect, without a will. -/
import Derived.Test.YtdbbcfohjkgdcaaGreatM00
import Derived.Test.YtdbbcfohjkgdcaaGreatM13
set_option maxRecDepth 100000
set_option maxHeartbeats 64000000
namespace Go.Proofs.YtdbbcfohjkgdcaaGreat
open Go.RowKit Go.Lib Prp Pkt Vbi
@[irreducible] def KQ (w : World) (g : Nat) (p : Pk) (a : Ad) (h : Nat) (cs : Array Value) (W : World) : Prop := KP w g p a W ∧ Box W h cs
section
variable {w W W' : World} {g h : Nat} {p : Pk} {a : Ad} {cs : Array Value}
theorem KQ.mk (h1 : KP w g p a W) (h2 : Box W h cs) : KQ w g p a h cs W := by unfold KQ; exact ⟨h1, h2⟩
theorem KQ.out (h1 : KQ w g p a h cs W) : KP w g p a W ∧ Box W h cs := by unfold KQ at h1; exact h1
theorem KQ.below (h1 : KQ w g p a h cs W) (hb : Below W.heap.size W W') : KQ w g p a h cs W' := .mk (h1.out.1.below hb) (h1.out.2.below hb)
theorem KQ.drewN (h1 : KQ w g p a h cs W) (n : Nat) : KQ w g p a h cs (W.drewN n) := h1.below (below_drewN (Below.refl _ _) n)
theorem KQ.k (h1 : KQ w g p a h cs W) : Keep w g (pkArr p a) W := h1.out.1.k
end
section
variable {w W : World} {g h : Nat} {p : Pk} {a : Ad}
theorem KQ.w0 (x : KQ w g p a h (wlArr p.w a.wa a.wc) W) : W.cell? ⟨h, 0, none⟩ = some (.bool p.w.has) := x.out.2.cell 0
theorem KQ.w1 (x : KQ w g p a h (wlArr p.w a.wa a.wc) W) : W.cell? ⟨h, 1, none⟩ = some (.int .i64 p.w.q) := x.out.2.cell 1
theorem KQ.w2 (x : KQ w g p a h (wlArr p.w a.wa a.wc) W) : W.cell? ⟨h, 2, none⟩ = some (.bool p.w.ret) := x.out.2.cell 2
theorem KQ.w3 (x : KQ w g p a h (wlArr p.w a.wa a.wc) W) : W.cell? ⟨h, 3, none⟩ = some (.string p.w.t) := x.out.2.cell 3
theorem KQ.w4 (x : KQ w g p a h (wlArr p.w a.wa a.wc) W) : W.cell? ⟨h, 4, none⟩ = some (.string p.w.b) := x.out.2.cell 4
theorem KQ.w5 (x : KQ w g p a h (wlArr p.w a.wa a.wc) W) : W.cell? ⟨h, 5, none⟩ = some (.slice a.wa p.w.ps.length a.wc) := x.out.2.cell 5
end
theorem login_eq (p : Pk) : 2 * bitZ p.clean 1 + 4 * bitZ p.w.has 1 + 8 * p.w.q + 32 * bitZ p.w.ret 1 + 64 * bitZ p.hp 1 + 128 * bitZ p.hu 1 = loginZ p := by
 unfold loginZ bitZ
 cases p.clean <;> cases p.w.has <;> cases p.w.ret <;> cases p.hp <;> cases p.hu <;> simp
theorem login_range {p : Pk} (h0 : 0 ≤ p.w.q) (h1 : p.w.q ≤ 2) : 0 ≤ loginZ p ∧ loginZ p ≤ 255 := by
 have r1 := bit_range p.clean (n := 2) (by omega)
 have r2 := bit_range p.w.has (n := 4) (by omega)
 have r3 := bit_range p.w.ret (n := 32) (by omega)
 have r4 := bit_range p.hp (n := 64) (by omega)
 have r5 := bit_range p.hu (n := 128) (by omega)
 unfold loginZ
 omega
theorem rest_1000 (p : Pk) (a : Ad) (S : ByteArray) (w : World) (h : PkAt w w.heap.size p a) (hk : p.kind = 1) (hq0 : 0 ≤ p.w.q) (hq1 : p.w.q ≤ 2) (hkp : 0 ≤ p.keep ∧ p.keep < 65536) (hps : propsB p.kind p.ps = true) (hcl : p.cl.size ≤ 1024) (hh : p.w.has = false) (hu : p.hu = false) (hp : p.hp = false) (hS : (((((lgStr mqtt ++ strOfNums [5]) ++ strOfNums [loginZ p]) ++ fxStr p.keep) ++ propStr p.ps) ++ lgStr p.cl) = S) :
  Calls Tryz.prog 39 #[.agg (pkArr p a)] w fun e w' => e = .returned (.string S) ∧ Below w.heap.size w w' := by
 have H := Lib.hid h
 clear h
 obtain ⟨P, hPP⟩ : ∃ P, propStr p.ps = P := ⟨_, rfl⟩
 have hPz : P.size ≤ 16428 := by rw [← hPP]; exact propStr_size hps
 obtain ⟨LM, hLM⟩ : ∃ T, lgStr mqtt = T := ⟨_, rfl⟩
 have zLM : LM.size ≤ 1026 := by rw [← hLM, lgStr_size]; decide
 have HLM := Lib.hid (fun W => long_is mqtt LM W (by decide) hLM)
 obtain ⟨LC, hLC⟩ : ∃ T, lgStr p.cl = T := ⟨_, rfl⟩
 have zLC : LC.size ≤ 1026 := by rw [← hLC, lgStr_size]; omega
 have HLC := Lib.hid (fun W => long_is p.cl LC W (by omega) hLC)
 obtain ⟨F, hF⟩ : ∃ F, fxStr p.keep = F := ⟨_, rfl⟩
 have hFz : F.size ≤ 2 := by rw [← hF, fxStr_size]; omega
 have HF := Lib.hid (fun W => RFixed_z2 p.keep F W hkp.1 hkp.2 hF)
 obtain ⟨O5, hO5⟩ : ∃ O, strOfNums [5] = O := ⟨_, rfl⟩
 have zO5 : O5.size ≤ 1 := by rw [← hO5, strOfNums_size]; simp
 have HO5 := Lib.hid (fun W => one_is 5 O5 W (by decide) (by decide) hO5)
 have hlr := login_range hq0 hq1
 have hle := login_eq p
 obtain ⟨z, hz⟩ : ∃ z, loginZ p = z := ⟨_, rfl⟩
 rw [hz] at hlr hS hle
 obtain ⟨OZ, hOZ⟩ : ∃ O, strOfNums [z] = O := ⟨_, rfl⟩
 have zOZ : OZ.size ≤ 1 := by rw [← hOZ, strOfNums_size]; simp
 have HOZ := Lib.hid (fun W => one_is z OZ W hlr.1 hlr.2 hOZ)
 rw [hO5, hOZ, hF, hLM, hLC, hPP] at hS
 have r1 := bit_range p.clean (n := 1) (by omega)
 have r2 := bit_range p.w.has (n := 1) (by omega)
 have r3 := bit_range p.w.ret (n := 1) (by omega)
 have r4 := bit_range p.hp (n := 1) (by omega)
 have r5 := bit_range p.hu (n := 1) (by omega)
 have m1 : IntKind.i64.wrap (2 * bitZ p.clean 1) = 2 * bitZ p.clean 1 := IntWalk.i64_in _ (by omega)
 have m2 : IntKind.i64.wrap (4 * bitZ p.w.has 1) = 4 * bitZ p.w.has 1 := IntWalk.i64_in _ (by omega)
 have m3 : IntKind.i64.wrap (8 * p.w.q) = 8 * p.w.q := IntWalk.i64_in _ (by omega)
 have m4 : IntKind.i64.wrap (32 * bitZ p.w.ret 1) = 32 * bitZ p.w.ret 1 := IntWalk.i64_in _ (by omega)
 have m5 : IntKind.i64.wrap (64 * bitZ p.hp 1) = 64 * bitZ p.hp 1 := IntWalk.i64_in _ (by omega)
 have m6 : IntKind.i64.wrap (128 * bitZ p.hu 1) = 128 * bitZ p.hu 1 := IntWalk.i64_in _ (by omega)
 have n1 : IntKind.i64.wrap (2 * bitZ p.clean 1 + 4 * bitZ p.w.has 1) = 2 * bitZ p.clean 1 + 4 * bitZ p.w.has 1 := IntWalk.i64_in _ (by omega)
 have n2 : IntKind.i64.wrap (2 * bitZ p.clean 1 + 4 * bitZ p.w.has 1 + 8 * p.w.q) = 2 * bitZ p.clean 1 + 4 * bitZ p.w.has 1 + 8 * p.w.q := IntWalk.i64_in _ (by omega)
 have n3 : IntKind.i64.wrap (2 * bitZ p.clean 1 + 4 * bitZ p.w.has 1 + 8 * p.w.q + 32 * bitZ p.w.ret 1) = 2 * bitZ p.clean 1 + 4 * bitZ p.w.has 1 + 8 * p.w.q + 32 * bitZ p.w.ret 1 := IntWalk.i64_in _ (by omega)
 have n4 : IntKind.i64.wrap (2 * bitZ p.clean 1 + 4 * bitZ p.w.has 1 + 8 * p.w.q + 32 * bitZ p.w.ret 1 + 64 * bitZ p.hp 1) = 2 * bitZ p.clean 1 + 4 * bitZ p.w.has 1 + 8 * p.w.q + 32 * bitZ p.w.ret 1 + 64 * bitZ p.hp 1 := IntWalk.i64_in _ (by omega)
 have n5 : IntKind.i64.wrap (2 * bitZ p.clean 1 + 4 * bitZ p.w.has 1 + 8 * p.w.q + 32 * bitZ p.w.ret 1 + 64 * bitZ p.hp 1 + 128 * bitZ p.hu 1) = z := by rw [← hle]; exact IntWalk.i64_in _ (by omega)
 have HP := Lib.hid (fun (W : World) (h : KP w w.heap.size p a W) => PropBytes_ok p.kind p.ps a.pa a.pc P W hps h.at.ps hPP)
 have HS := Lib.hid hS
 have e1 : (p.kind == 1) = true := beq_iff_eq.2 (by omega)
 have HH := Lib.hid hh
 have HU := Lib.hid hu
 have HPP := Lib.hid hp
 clear hS hh hu hp hle hz hOZ hO5 hF hLM hLC hPP hps hkp hcl hlr r1 r2 r3 r4 r5 hk hq0 hq1
 have HK0 := Keep.new w 30 (pkArr p a)
 obtain ⟨W1, hW⟩ : ∃ W1, w.alloc (.cells (pkArr p a) 30) = W1 := ⟨_, rfl⟩
 rw [hW] at HK0
 unfold pkArr at hW ⊢
 have HW := Lib.hid hW
 clear hW
 go_enter Tryz.func39, Tryz.ntmps39
 go_upto_region 2 with fail
 rw [HW.out]
 generalize Value.agg _ = v0
 obtain ⟨g, hg⟩ : ∃ g, w.heap.size = g := ⟨_, rfl⟩
 rw [hg] at HK0 ⊢
 have HK := Lib.hid (KP.new HK0 H.out)
 clear HW HK0 H
 rw [hg] at HP
 have HG := Lib.hid hg
 clear hg
 have c0 := HK.out.k.f0
 have c14 := HK.out.k.f14
 have c15 := HK.out.k.f15
 have c16 := HK.out.k.f16
 have c17 := HK.out.k.f17
 have c18 := HK.out.k.f18
 have c19 := HK.out.k.f19
 have hk2 := HK.out.alloc (.cells (wlArr p.w a.wa a.wc) 28)
 have hb2 := Box.new W1 28 (wlArr p.w a.wa a.wc)
 obtain ⟨W2, h2⟩ : ∃ W2, W1.alloc (.cells (wlArr p.w a.wa a.wc) 28) = W2 := ⟨_, rfl⟩
 rw [h2] at hk2 hb2
 unfold wlArr at h2
 have H2 := Lib.hid h2
 clear h2
 go_upto_region 5 with fail
 rw [H2.out]
 obtain ⟨h, hhh⟩ : ∃ h, W1.heap.size = h := ⟨_, rfl⟩
 rw [hhh] at hb2 ⊢
 have st0 := KQ.mk hk2 hb2
 clear hk2 hb2 H2 HK c0 c14 c15 c16 c17 c18 c19 hhh
 haveI : Nonempty (In (KQ w g p a h (wlArr p.w a.wa a.wc))) := ⟨⟨_, st0⟩⟩
 have k11 := fun u : In (KQ w g p a h (wlArr p.w a.wa a.wc)) => u.h.k.f11
 have k12 := fun u : In (KQ w g p a h (wlArr p.w a.wa a.wc)) => u.h.k.f12
 have k13 := fun u : In (KQ w g p a h (wlArr p.w a.wa a.wc)) => u.h.k.f13
 have k20 := fun u : In (KQ w g p a h (wlArr p.w a.wa a.wc)) => u.h.k.f20
 have k22 := fun u : In (KQ w g p a h (wlArr p.w a.wa a.wc)) => u.h.k.f22
 have k24 := fun u : In (KQ w g p a h (wlArr p.w a.wa a.wc)) => u.h.k.f24
 have j0 := fun u : In (KQ w g p a h (wlArr p.w a.wa a.wc)) => u.h.w0
 have j1 := fun u : In (KQ w g p a h (wlArr p.w a.wa a.wc)) => u.h.w1
 have j2 := fun u : In (KQ w g p a h (wlArr p.w a.wa a.wc)) => u.h.w2
 refine region_in (S := KQ w g p a h (wlArr p.w a.wa a.wc)) (by kernel_rfl) (by kernel_rfl) (st0.drewN 1) ?_
 repeat (go_big_quiet_step (first | (go_at_call 77; exact in_call ((rbit_is _ _ _ rfl).mono fun _ _ h => ⟨h.1, by rw [← h.2]; exact In.h _⟩)) | (go_at_call 76; exact in_call ((HLM.out _).mono fun _ _ h => ⟨h.1, KQ.below (In.h _) h.2⟩)) | (go_at_call 76; exact in_call ((HLC.out _).mono fun _ _ h => ⟨h.1, KQ.below (In.h _) h.2⟩)) | (go_at_call 40; exact in_call ((HO5.out _).mono fun _ _ h => ⟨h.1, KQ.below (In.h _) h.2⟩)) | (go_at_call 40; exact in_call ((HOZ.out _).mono fun _ _ h => ⟨h.1, KQ.below (In.h _) h.2⟩)) | (go_at_call 78; exact in_call ((HF.out _).mono fun _ _ h => ⟨h.1, KQ.below (In.h _) h.2⟩)) | (go_at_call 79; exact in_call ((HP.out _ (KQ.out (In.h _)).1).mono fun _ _ h => ⟨h.1, KQ.below (In.h _) h.2⟩))))
 refine wpQuiet_nil ?_
 rintro _ ⟨⟨w2, st2⟩, rfl⟩
 clear this st0 k11 k12 k13 k20 k22 k24 j0 j1 j2 m1 m2 m3 m4 m5 m6 n1 n2 n3 n4 n5 HLM HLC HF HO5 HOZ HP
 have v0 := st2.w0
 rw [HH.out] at v0
 have c20 := st2.k.f20
 rw [HU.out] at c20
 have c22 := st2.k.f22
 rw [HPP.out] at c22
 have c23 := st2.k.f23
 go_wp2_with (fail)
 go_ret
 exact ⟨by rw [← HS.out]; rfl, st2.out.1.b⟩
theorem rest_1001 (p : Pk) (a : Ad) (S : ByteArray) (w : World) (h : PkAt w w.heap.size p a) (hk : p.kind = 1) (hq0 : 0 ≤ p.w.q) (hq1 : p.w.q ≤ 2) (hkp : 0 ≤ p.keep ∧ p.keep < 65536) (hps : propsB p.kind p.ps = true) (hcl : p.cl.size ≤ 1024) (hh : p.w.has = false) (hu : p.hu = false) (hp : p.hp = true) (hpz : p.pw.size ≤ 1024) (hS : ((((((lgStr mqtt ++ strOfNums [5]) ++ strOfNums [loginZ p]) ++ fxStr p.keep) ++ propStr p.ps) ++ lgStr p.cl) ++ lgStr p.pw) = S) :
  Calls Tryz.prog 39 #[.agg (pkArr p a)] w fun e w' => e = .returned (.string S) ∧ Below w.heap.size w w' := by
 have H := Lib.hid h
 clear h
 obtain ⟨P, hPP⟩ : ∃ P, propStr p.ps = P := ⟨_, rfl⟩
 have hPz : P.size ≤ 16428 := by rw [← hPP]; exact propStr_size hps
 obtain ⟨LM, hLM⟩ : ∃ T, lgStr mqtt = T := ⟨_, rfl⟩
 have zLM : LM.size ≤ 1026 := by rw [← hLM, lgStr_size]; decide
 have HLM := Lib.hid (fun W => long_is mqtt LM W (by decide) hLM)
 obtain ⟨LC, hLC⟩ : ∃ T, lgStr p.cl = T := ⟨_, rfl⟩
 have zLC : LC.size ≤ 1026 := by rw [← hLC, lgStr_size]; omega
 have HLC := Lib.hid (fun W => long_is p.cl LC W (by omega) hLC)
 obtain ⟨LP, hLP⟩ : ∃ T, lgStr p.pw = T := ⟨_, rfl⟩
 have zLP : LP.size ≤ 1026 := by rw [← hLP, lgStr_size]; omega
 have HLP := Lib.hid (fun W => long_is p.pw LP W (by omega) hLP)
 obtain ⟨F, hF⟩ : ∃ F, fxStr p.keep = F := ⟨_, rfl⟩
 have hFz : F.size ≤ 2 := by rw [← hF, fxStr_size]; omega
 have HF := Lib.hid (fun W => RFixed_z2 p.keep F W hkp.1 hkp.2 hF)
 obtain ⟨O5, hO5⟩ : ∃ O, strOfNums [5] = O := ⟨_, rfl⟩
 have zO5 : O5.size ≤ 1 := by rw [← hO5, strOfNums_size]; simp
 have HO5 := Lib.hid (fun W => one_is 5 O5 W (by decide) (by decide) hO5)
 have hlr := login_range hq0 hq1
 have hle := login_eq p
 obtain ⟨z, hz⟩ : ∃ z, loginZ p = z := ⟨_, rfl⟩
 rw [hz] at hlr hS hle
 obtain ⟨OZ, hOZ⟩ : ∃ O, strOfNums [z] = O := ⟨_, rfl⟩
 have zOZ : OZ.size ≤ 1 := by rw [← hOZ, strOfNums_size]; simp
 have HOZ := Lib.hid (fun W => one_is z OZ W hlr.1 hlr.2 hOZ)
 rw [hO5, hOZ, hF, hLM, hLC, hPP, hLP] at hS
 have r1 := bit_range p.clean (n := 1) (by omega)
 have r2 := bit_range p.w.has (n := 1) (by omega)
 have r3 := bit_range p.w.ret (n := 1) (by omega)
 have r4 := bit_range p.hp (n := 1) (by omega)
 have r5 := bit_range p.hu (n := 1) (by omega)
 have m1 : IntKind.i64.wrap (2 * bitZ p.clean 1) = 2 * bitZ p.clean 1 := IntWalk.i64_in _ (by omega)
 have m2 : IntKind.i64.wrap (4 * bitZ p.w.has 1) = 4 * bitZ p.w.has 1 := IntWalk.i64_in _ (by omega)
 have m3 : IntKind.i64.wrap (8 * p.w.q) = 8 * p.w.q := IntWalk.i64_in _ (by omega)
 have m4 : IntKind.i64.wrap (32 * bitZ p.w.ret 1) = 32 * bitZ p.w.ret 1 := IntWalk.i64_in _ (by omega)
 have m5 : IntKind.i64.wrap (64 * bitZ p.hp 1) = 64 * bitZ p.hp 1 := IntWalk.i64_in _ (by omega)
 have m6 : IntKind.i64.wrap (128 * bitZ p.hu 1) = 128 * bitZ p.hu 1 := IntWalk.i64_in _ (by omega)
 have n1 : IntKind.i64.wrap (2 * bitZ p.clean 1 + 4 * bitZ p.w.has 1) = 2 * bitZ p.clean 1 + 4 * bitZ p.w.has 1 := IntWalk.i64_in _ (by omega)
 have n2 : IntKind.i64.wrap (2 * bitZ p.clean 1 + 4 * bitZ p.w.has 1 + 8 * p.w.q) = 2 * bitZ p.clean 1 + 4 * bitZ p.w.has 1 + 8 * p.w.q := IntWalk.i64_in _ (by omega)
 have n3 : IntKind.i64.wrap (2 * bitZ p.clean 1 + 4 * bitZ p.w.has 1 + 8 * p.w.q + 32 * bitZ p.w.ret 1) = 2 * bitZ p.clean 1 + 4 * bitZ p.w.has 1 + 8 * p.w.q + 32 * bitZ p.w.ret 1 := IntWalk.i64_in _ (by omega)
 have n4 : IntKind.i64.wrap (2 * bitZ p.clean 1 + 4 * bitZ p.w.has 1 + 8 * p.w.q + 32 * bitZ p.w.ret 1 + 64 * bitZ p.hp 1) = 2 * bitZ p.clean 1 + 4 * bitZ p.w.has 1 + 8 * p.w.q + 32 * bitZ p.w.ret 1 + 64 * bitZ p.hp 1 := IntWalk.i64_in _ (by omega)
 have n5 : IntKind.i64.wrap (2 * bitZ p.clean 1 + 4 * bitZ p.w.has 1 + 8 * p.w.q + 32 * bitZ p.w.ret 1 + 64 * bitZ p.hp 1 + 128 * bitZ p.hu 1) = z := by rw [← hle]; exact IntWalk.i64_in _ (by omega)
 have HP := Lib.hid (fun (W : World) (h : KP w w.heap.size p a W) => PropBytes_ok p.kind p.ps a.pa a.pc P W hps h.at.ps hPP)
 have HS := Lib.hid hS
 have e1 : (p.kind == 1) = true := beq_iff_eq.2 (by omega)
 have HH := Lib.hid hh
 have HU := Lib.hid hu
 have HPP := Lib.hid hp
 clear hS hh hu hp hle hz hOZ hO5 hF hLM hLC hPP hLP hps hkp hcl hlr r1 r2 r3 r4 r5 hk hq0 hq1 hpz
 have HK0 := Keep.new w 30 (pkArr p a)
 obtain ⟨W1, hW⟩ : ∃ W1, w.alloc (.cells (pkArr p a) 30) = W1 := ⟨_, rfl⟩
 rw [hW] at HK0
 unfold pkArr at hW ⊢
 have HW := Lib.hid hW
 clear hW
 go_enter Tryz.func39, Tryz.ntmps39
 go_upto_region 2 with fail
 rw [HW.out]
 generalize Value.agg _ = v0
 obtain ⟨g, hg⟩ : ∃ g, w.heap.size = g := ⟨_, rfl⟩
 rw [hg] at HK0 ⊢
 have HK := Lib.hid (KP.new HK0 H.out)
 clear HW HK0 H
 rw [hg] at HP
 have HG := Lib.hid hg
 clear hg
 have c0 := HK.out.k.f0
 have c14 := HK.out.k.f14
 have c15 := HK.out.k.f15
 have c16 := HK.out.k.f16
 have c17 := HK.out.k.f17
 have c18 := HK.out.k.f18
 have c19 := HK.out.k.f19
 have hk2 := HK.out.alloc (.cells (wlArr p.w a.wa a.wc) 28)
 have hb2 := Box.new W1 28 (wlArr p.w a.wa a.wc)
 obtain ⟨W2, h2⟩ : ∃ W2, W1.alloc (.cells (wlArr p.w a.wa a.wc) 28) = W2 := ⟨_, rfl⟩
 rw [h2] at hk2 hb2
 unfold wlArr at h2
 have H2 := Lib.hid h2
 clear h2
 go_upto_region 5 with fail
 rw [H2.out]
 obtain ⟨h, hhh⟩ : ∃ h, W1.heap.size = h := ⟨_, rfl⟩
 rw [hhh] at hb2 ⊢
 have st0 := KQ.mk hk2 hb2
 clear hk2 hb2 H2 HK c0 c14 c15 c16 c17 c18 c19 hhh
 haveI : Nonempty (In (KQ w g p a h (wlArr p.w a.wa a.wc))) := ⟨⟨_, st0⟩⟩
 have k11 := fun u : In (KQ w g p a h (wlArr p.w a.wa a.wc)) => u.h.k.f11
 have k12 := fun u : In (KQ w g p a h (wlArr p.w a.wa a.wc)) => u.h.k.f12
 have k13 := fun u : In (KQ w g p a h (wlArr p.w a.wa a.wc)) => u.h.k.f13
 have k20 := fun u : In (KQ w g p a h (wlArr p.w a.wa a.wc)) => u.h.k.f20
 have k22 := fun u : In (KQ w g p a h (wlArr p.w a.wa a.wc)) => u.h.k.f22
 have k24 := fun u : In (KQ w g p a h (wlArr p.w a.wa a.wc)) => u.h.k.f24
 have j0 := fun u : In (KQ w g p a h (wlArr p.w a.wa a.wc)) => u.h.w0
 have j1 := fun u : In (KQ w g p a h (wlArr p.w a.wa a.wc)) => u.h.w1
 have j2 := fun u : In (KQ w g p a h (wlArr p.w a.wa a.wc)) => u.h.w2
 refine region_in (S := KQ w g p a h (wlArr p.w a.wa a.wc)) (by kernel_rfl) (by kernel_rfl) (st0.drewN 1) ?_
 repeat (go_big_quiet_step (first | (go_at_call 77; exact in_call ((rbit_is _ _ _ rfl).mono fun _ _ h => ⟨h.1, by rw [← h.2]; exact In.h _⟩)) | (go_at_call 76; exact in_call ((HLM.out _).mono fun _ _ h => ⟨h.1, KQ.below (In.h _) h.2⟩)) | (go_at_call 76; exact in_call ((HLC.out _).mono fun _ _ h => ⟨h.1, KQ.below (In.h _) h.2⟩)) | (go_at_call 40; exact in_call ((HO5.out _).mono fun _ _ h => ⟨h.1, KQ.below (In.h _) h.2⟩)) | (go_at_call 40; exact in_call ((HOZ.out _).mono fun _ _ h => ⟨h.1, KQ.below (In.h _) h.2⟩)) | (go_at_call 78; exact in_call ((HF.out _).mono fun _ _ h => ⟨h.1, KQ.below (In.h _) h.2⟩)) | (go_at_call 79; exact in_call ((HP.out _ (KQ.out (In.h _)).1).mono fun _ _ h => ⟨h.1, KQ.below (In.h _) h.2⟩))))
 refine wpQuiet_nil ?_
 rintro _ ⟨⟨w2, st2⟩, rfl⟩
 clear this st0 k11 k12 k13 k20 k22 k24 j0 j1 j2 m1 m2 m3 m4 m5 m6 n1 n2 n3 n4 n5 HLM HLC HF HO5 HOZ HP
 have v0 := st2.w0
 rw [HH.out] at v0
 have c20 := st2.k.f20
 rw [HU.out] at c20
 have c22 := st2.k.f22
 rw [HPP.out] at c22
 have c23 := st2.k.f23
 go_wp2_with (first | (go_at_call 76; refine (HLP.out _).mono ?_; rintro e w5 ⟨rfl, hb5⟩; have st5 := st2.below hb5; clear hb5))
 go_ret
 exact ⟨by rw [← HS.out]; rfl, st5.out.1.b⟩
theorem rest_1010 (p : Pk) (a : Ad) (S : ByteArray) (w : World) (h : PkAt w w.heap.size p a) (hk : p.kind = 1) (hq0 : 0 ≤ p.w.q) (hq1 : p.w.q ≤ 2) (hkp : 0 ≤ p.keep ∧ p.keep < 65536) (hps : propsB p.kind p.ps = true) (hcl : p.cl.size ≤ 1024) (hh : p.w.has = false) (hu : p.hu = true) (huz : p.u.size ≤ 1024) (hp : p.hp = false) (hS : ((((((lgStr mqtt ++ strOfNums [5]) ++ strOfNums [loginZ p]) ++ fxStr p.keep) ++ propStr p.ps) ++ lgStr p.cl) ++ lgStr p.u) = S) :
  Calls Tryz.prog 39 #[.agg (pkArr p a)] w fun e w' => e = .returned (.string S) ∧ Below w.heap.size w w' := by
 have H := Lib.hid h
 clear h
 obtain ⟨P, hPP⟩ : ∃ P, propStr p.ps = P := ⟨_, rfl⟩
 have hPz : P.size ≤ 16428 := by rw [← hPP]; exact propStr_size hps
 obtain ⟨LM, hLM⟩ : ∃ T, lgStr mqtt = T := ⟨_, rfl⟩
 have zLM : LM.size ≤ 1026 := by rw [← hLM, lgStr_size]; decide
 have HLM := Lib.hid (fun W => long_is mqtt LM W (by decide) hLM)
 obtain ⟨LC, hLC⟩ : ∃ T, lgStr p.cl = T := ⟨_, rfl⟩
 have zLC : LC.size ≤ 1026 := by rw [← hLC, lgStr_size]; omega
 have HLC := Lib.hid (fun W => long_is p.cl LC W (by omega) hLC)
 obtain ⟨LU, hLU⟩ : ∃ T, lgStr p.u = T := ⟨_, rfl⟩
 have zLU : LU.size ≤ 1026 := by rw [← hLU, lgStr_size]; omega
 have HLU := Lib.hid (fun W => long_is p.u LU W (by omega) hLU)
 obtain ⟨F, hF⟩ : ∃ F, fxStr p.keep = F := ⟨_, rfl⟩
 have hFz : F.size ≤ 2 := by rw [← hF, fxStr_size]; omega
 have HF := Lib.hid (fun W => RFixed_z2 p.keep F W hkp.1 hkp.2 hF)
 obtain ⟨O5, hO5⟩ : ∃ O, strOfNums [5] = O := ⟨_, rfl⟩
 have zO5 : O5.size ≤ 1 := by rw [← hO5, strOfNums_size]; simp
 have HO5 := Lib.hid (fun W => one_is 5 O5 W (by decide) (by decide) hO5)
 have hlr := login_range hq0 hq1
 have hle := login_eq p
 obtain ⟨z, hz⟩ : ∃ z, loginZ p = z := ⟨_, rfl⟩
 rw [hz] at hlr hS hle
 obtain ⟨OZ, hOZ⟩ : ∃ O, strOfNums [z] = O := ⟨_, rfl⟩
 have zOZ : OZ.size ≤ 1 := by rw [← hOZ, strOfNums_size]; simp
 have HOZ := Lib.hid (fun W => one_is z OZ W hlr.1 hlr.2 hOZ)
 rw [hO5, hOZ, hF, hLM, hLC, hPP, hLU] at hS
 have r1 := bit_range p.clean (n := 1) (by omega)
 have r2 := bit_range p.w.has (n := 1) (by omega)
 have r3 := bit_range p.w.ret (n := 1) (by omega)
 have r4 := bit_range p.hp (n := 1) (by omega)
 have r5 := bit_range p.hu (n := 1) (by omega)
 have m1 : IntKind.i64.wrap (2 * bitZ p.clean 1) = 2 * bitZ p.clean 1 := IntWalk.i64_in _ (by omega)
 have m2 : IntKind.i64.wrap (4 * bitZ p.w.has 1) = 4 * bitZ p.w.has 1 := IntWalk.i64_in _ (by omega)
 have m3 : IntKind.i64.wrap (8 * p.w.q) = 8 * p.w.q := IntWalk.i64_in _ (by omega)
 have m4 : IntKind.i64.wrap (32 * bitZ p.w.ret 1) = 32 * bitZ p.w.ret 1 := IntWalk.i64_in _ (by omega)
 have m5 : IntKind.i64.wrap (64 * bitZ p.hp 1) = 64 * bitZ p.hp 1 := IntWalk.i64_in _ (by omega)
 have m6 : IntKind.i64.wrap (128 * bitZ p.hu 1) = 128 * bitZ p.hu 1 := IntWalk.i64_in _ (by omega)
 have n1 : IntKind.i64.wrap (2 * bitZ p.clean 1 + 4 * bitZ p.w.has 1) = 2 * bitZ p.clean 1 + 4 * bitZ p.w.has 1 := IntWalk.i64_in _ (by omega)
 have n2 : IntKind.i64.wrap (2 * bitZ p.clean 1 + 4 * bitZ p.w.has 1 + 8 * p.w.q) = 2 * bitZ p.clean 1 + 4 * bitZ p.w.has 1 + 8 * p.w.q := IntWalk.i64_in _ (by omega)
 have n3 : IntKind.i64.wrap (2 * bitZ p.clean 1 + 4 * bitZ p.w.has 1 + 8 * p.w.q + 32 * bitZ p.w.ret 1) = 2 * bitZ p.clean 1 + 4 * bitZ p.w.has 1 + 8 * p.w.q + 32 * bitZ p.w.ret 1 := IntWalk.i64_in _ (by omega)
 have n4 : IntKind.i64.wrap (2 * bitZ p.clean 1 + 4 * bitZ p.w.has 1 + 8 * p.w.q + 32 * bitZ p.w.ret 1 + 64 * bitZ p.hp 1) = 2 * bitZ p.clean 1 + 4 * bitZ p.w.has 1 + 8 * p.w.q + 32 * bitZ p.w.ret 1 + 64 * bitZ p.hp 1 := IntWalk.i64_in _ (by omega)
 have n5 : IntKind.i64.wrap (2 * bitZ p.clean 1 + 4 * bitZ p.w.has 1 + 8 * p.w.q + 32 * bitZ p.w.ret 1 + 64 * bitZ p.hp 1 + 128 * bitZ p.hu 1) = z := by rw [← hle]; exact IntWalk.i64_in _ (by omega)
 have HP := Lib.hid (fun (W : World) (h : KP w w.heap.size p a W) => PropBytes_ok p.kind p.ps a.pa a.pc P W hps h.at.ps hPP)
 have HS := Lib.hid hS
 have e1 : (p.kind == 1) = true := beq_iff_eq.2 (by omega)
 have HH := Lib.hid hh
 have HU := Lib.hid hu
 have HPP := Lib.hid hp
 clear hS hh hu hp hle hz hOZ hO5 hF hLM hLC hPP hLU hps hkp hcl hlr r1 r2 r3 r4 r5 hk hq0 hq1 huz
 have HK0 := Keep.new w 30 (pkArr p a)
 obtain ⟨W1, hW⟩ : ∃ W1, w.alloc (.cells (pkArr p a) 30) = W1 := ⟨_, rfl⟩
 rw [hW] at HK0
 unfold pkArr at hW ⊢
 have HW := Lib.hid hW
 clear hW
 go_enter Tryz.func39, Tryz.ntmps39
 go_upto_region 2 with fail
 rw [HW.out]
 generalize Value.agg _ = v0
 obtain ⟨g, hg⟩ : ∃ g, w.heap.size = g := ⟨_, rfl⟩
 rw [hg] at HK0 ⊢
 have HK := Lib.hid (KP.new HK0 H.out)
 clear HW HK0 H
 rw [hg] at HP
 have HG := Lib.hid hg
 clear hg
 have c0 := HK.out.k.f0
 have c14 := HK.out.k.f14
 have c15 := HK.out.k.f15
 have c16 := HK.out.k.f16
 have c17 := HK.out.k.f17
 have c18 := HK.out.k.f18
 have c19 := HK.out.k.f19
 have hk2 := HK.out.alloc (.cells (wlArr p.w a.wa a.wc) 28)
 have hb2 := Box.new W1 28 (wlArr p.w a.wa a.wc)
 obtain ⟨W2, h2⟩ : ∃ W2, W1.alloc (.cells (wlArr p.w a.wa a.wc) 28) = W2 := ⟨_, rfl⟩
 rw [h2] at hk2 hb2
 unfold wlArr at h2
 have H2 := Lib.hid h2
 clear h2
 go_upto_region 5 with fail
 rw [H2.out]
 obtain ⟨h, hhh⟩ : ∃ h, W1.heap.size = h := ⟨_, rfl⟩
 rw [hhh] at hb2 ⊢
 have st0 := KQ.mk hk2 hb2
 clear hk2 hb2 H2 HK c0 c14 c15 c16 c17 c18 c19 hhh
 haveI : Nonempty (In (KQ w g p a h (wlArr p.w a.wa a.wc))) := ⟨⟨_, st0⟩⟩
 have k11 := fun u : In (KQ w g p a h (wlArr p.w a.wa a.wc)) => u.h.k.f11
 have k12 := fun u : In (KQ w g p a h (wlArr p.w a.wa a.wc)) => u.h.k.f12
 have k13 := fun u : In (KQ w g p a h (wlArr p.w a.wa a.wc)) => u.h.k.f13
 have k20 := fun u : In (KQ w g p a h (wlArr p.w a.wa a.wc)) => u.h.k.f20
 have k22 := fun u : In (KQ w g p a h (wlArr p.w a.wa a.wc)) => u.h.k.f22
 have k24 := fun u : In (KQ w g p a h (wlArr p.w a.wa a.wc)) => u.h.k.f24
 have j0 := fun u : In (KQ w g p a h (wlArr p.w a.wa a.wc)) => u.h.w0
 have j1 := fun u : In (KQ w g p a h (wlArr p.w a.wa a.wc)) => u.h.w1
 have j2 := fun u : In (KQ w g p a h (wlArr p.w a.wa a.wc)) => u.h.w2
 refine region_in (S := KQ w g p a h (wlArr p.w a.wa a.wc)) (by kernel_rfl) (by kernel_rfl) (st0.drewN 1) ?_
 repeat (go_big_quiet_step (first | (go_at_call 77; exact in_call ((rbit_is _ _ _ rfl).mono fun _ _ h => ⟨h.1, by rw [← h.2]; exact In.h _⟩)) | (go_at_call 76; exact in_call ((HLM.out _).mono fun _ _ h => ⟨h.1, KQ.below (In.h _) h.2⟩)) | (go_at_call 76; exact in_call ((HLC.out _).mono fun _ _ h => ⟨h.1, KQ.below (In.h _) h.2⟩)) | (go_at_call 40; exact in_call ((HO5.out _).mono fun _ _ h => ⟨h.1, KQ.below (In.h _) h.2⟩)) | (go_at_call 40; exact in_call ((HOZ.out _).mono fun _ _ h => ⟨h.1, KQ.below (In.h _) h.2⟩)) | (go_at_call 78; exact in_call ((HF.out _).mono fun _ _ h => ⟨h.1, KQ.below (In.h _) h.2⟩)) | (go_at_call 79; exact in_call ((HP.out _ (KQ.out (In.h _)).1).mono fun _ _ h => ⟨h.1, KQ.below (In.h _) h.2⟩))))
 refine wpQuiet_nil ?_
 rintro _ ⟨⟨w2, st2⟩, rfl⟩
 clear this st0 k11 k12 k13 k20 k22 k24 j0 j1 j2 m1 m2 m3 m4 m5 m6 n1 n2 n3 n4 n5 HLM HLC HF HO5 HOZ HP
 have v0 := st2.w0
 rw [HH.out] at v0
 have c20 := st2.k.f20
 rw [HU.out] at c20
 have c22 := st2.k.f22
 rw [HPP.out] at c22
 have c21 := st2.k.f21
 go_wp2_with (first | (go_at_call 76; refine (HLU.out _).mono ?_; rintro e w4 ⟨rfl, hb4⟩; have st4 := st2.below hb4; have d22 := st4.k.f22; rw [HPP.out] at d22; have d23 := st4.k.f23; clear hb4))
 go_ret
 exact ⟨by rw [← HS.out]; rfl, st4.out.1.b⟩
theorem rest_1011 (p : Pk) (a : Ad) (S : ByteArray) (w : World) (h : PkAt w w.heap.size p a) (hk : p.kind = 1) (hq0 : 0 ≤ p.w.q) (hq1 : p.w.q ≤ 2) (hkp : 0 ≤ p.keep ∧ p.keep < 65536) (hps : propsB p.kind p.ps = true) (hcl : p.cl.size ≤ 1024) (hh : p.w.has = false) (hu : p.hu = true) (huz : p.u.size ≤ 1024) (hp : p.hp = true) (hpz : p.pw.size ≤ 1024) (hS : (((((((lgStr mqtt ++ strOfNums [5]) ++ strOfNums [loginZ p]) ++ fxStr p.keep) ++ propStr p.ps) ++ lgStr p.cl) ++ lgStr p.u) ++ lgStr p.pw) = S) :
  Calls Tryz.prog 39 #[.agg (pkArr p a)] w fun e w' => e = .returned (.string S) ∧ Below w.heap.size w w' := by
 have H := Lib.hid h
 clear h
 obtain ⟨P, hPP⟩ : ∃ P, propStr p.ps = P := ⟨_, rfl⟩
 have hPz : P.size ≤ 16428 := by rw [← hPP]; exact propStr_size hps
 obtain ⟨LM, hLM⟩ : ∃ T, lgStr mqtt = T := ⟨_, rfl⟩
 have zLM : LM.size ≤ 1026 := by rw [← hLM, lgStr_size]; decide
 have HLM := Lib.hid (fun W => long_is mqtt LM W (by decide) hLM)
 obtain ⟨LC, hLC⟩ : ∃ T, lgStr p.cl = T := ⟨_, rfl⟩
 have zLC : LC.size ≤ 1026 := by rw [← hLC, lgStr_size]; omega
 have HLC := Lib.hid (fun W => long_is p.cl LC W (by omega) hLC)
 obtain ⟨LU, hLU⟩ : ∃ T, lgStr p.u = T := ⟨_, rfl⟩
 have zLU : LU.size ≤ 1026 := by rw [← hLU, lgStr_size]; omega
 have HLU := Lib.hid (fun W => long_is p.u LU W (by omega) hLU)
 obtain ⟨LP, hLP⟩ : ∃ T, lgStr p.pw = T := ⟨_, rfl⟩
 have zLP : LP.size ≤ 1026 := by rw [← hLP, lgStr_size]; omega
 have HLP := Lib.hid (fun W => long_is p.pw LP W (by omega) hLP)
 obtain ⟨F, hF⟩ : ∃ F, fxStr p.keep = F := ⟨_, rfl⟩
 have hFz : F.size ≤ 2 := by rw [← hF, fxStr_size]; omega
 have HF := Lib.hid (fun W => RFixed_z2 p.keep F W hkp.1 hkp.2 hF)
 obtain ⟨O5, hO5⟩ : ∃ O, strOfNums [5] = O := ⟨_, rfl⟩
 have zO5 : O5.size ≤ 1 := by rw [← hO5, strOfNums_size]; simp
 have HO5 := Lib.hid (fun W => one_is 5 O5 W (by decide) (by decide) hO5)
 have hlr := login_range hq0 hq1
 have hle := login_eq p
 obtain ⟨z, hz⟩ : ∃ z, loginZ p = z := ⟨_, rfl⟩
 rw [hz] at hlr hS hle
 obtain ⟨OZ, hOZ⟩ : ∃ O, strOfNums [z] = O := ⟨_, rfl⟩
 have zOZ : OZ.size ≤ 1 := by rw [← hOZ, strOfNums_size]; simp
 have HOZ := Lib.hid (fun W => one_is z OZ W hlr.1 hlr.2 hOZ)
 rw [hO5, hOZ, hF, hLM, hLC, hPP, hLU, hLP] at hS
 have r1 := bit_range p.clean (n := 1) (by omega)
 have r2 := bit_range p.w.has (n := 1) (by omega)
 have r3 := bit_range p.w.ret (n := 1) (by omega)
 have r4 := bit_range p.hp (n := 1) (by omega)
 have r5 := bit_range p.hu (n := 1) (by omega)
 have m1 : IntKind.i64.wrap (2 * bitZ p.clean 1) = 2 * bitZ p.clean 1 := IntWalk.i64_in _ (by omega)
 have m2 : IntKind.i64.wrap (4 * bitZ p.w.has 1) = 4 * bitZ p.w.has 1 := IntWalk.i64_in _ (by omega)
 have m3 : IntKind.i64.wrap (8 * p.w.q) = 8 * p.w.q := IntWalk.i64_in _ (by omega)
 have m4 : IntKind.i64.wrap (32 * bitZ p.w.ret 1) = 32 * bitZ p.w.ret 1 := IntWalk.i64_in _ (by omega)
 have m5 : IntKind.i64.wrap (64 * bitZ p.hp 1) = 64 * bitZ p.hp 1 := IntWalk.i64_in _ (by omega)
 have m6 : IntKind.i64.wrap (128 * bitZ p.hu 1) = 128 * bitZ p.hu 1 := IntWalk.i64_in _ (by omega)
 have n1 : IntKind.i64.wrap (2 * bitZ p.clean 1 + 4 * bitZ p.w.has 1) = 2 * bitZ p.clean 1 + 4 * bitZ p.w.has 1 := IntWalk.i64_in _ (by omega)
 have n2 : IntKind.i64.wrap (2 * bitZ p.clean 1 + 4 * bitZ p.w.has 1 + 8 * p.w.q) = 2 * bitZ p.clean 1 + 4 * bitZ p.w.has 1 + 8 * p.w.q := IntWalk.i64_in _ (by omega)
 have n3 : IntKind.i64.wrap (2 * bitZ p.clean 1 + 4 * bitZ p.w.has 1 + 8 * p.w.q + 32 * bitZ p.w.ret 1) = 2 * bitZ p.clean 1 + 4 * bitZ p.w.has 1 + 8 * p.w.q + 32 * bitZ p.w.ret 1 := IntWalk.i64_in _ (by omega)
 have n4 : IntKind.i64.wrap (2 * bitZ p.clean 1 + 4 * bitZ p.w.has 1 + 8 * p.w.q + 32 * bitZ p.w.ret 1 + 64 * bitZ p.hp 1) = 2 * bitZ p.clean 1 + 4 * bitZ p.w.has 1 + 8 * p.w.q + 32 * bitZ p.w.ret 1 + 64 * bitZ p.hp 1 := IntWalk.i64_in _ (by omega)
 have n5 : IntKind.i64.wrap (2 * bitZ p.clean 1 + 4 * bitZ p.w.has 1 + 8 * p.w.q + 32 * bitZ p.w.ret 1 + 64 * bitZ p.hp 1 + 128 * bitZ p.hu 1) = z := by rw [← hle]; exact IntWalk.i64_in _ (by omega)
 have HP := Lib.hid (fun (W : World) (h : KP w w.heap.size p a W) => PropBytes_ok p.kind p.ps a.pa a.pc P W hps h.at.ps hPP)
 have HS := Lib.hid hS
 have e1 : (p.kind == 1) = true := beq_iff_eq.2 (by omega)
 have HH := Lib.hid hh
 have HU := Lib.hid hu
 have HPP := Lib.hid hp
 clear hS hh hu hp hle hz hOZ hO5 hF hLM hLC hPP hLU hLP hps hkp hcl hlr r1 r2 r3 r4 r5 hk hq0 hq1 huz hpz
 have HK0 := Keep.new w 30 (pkArr p a)
 obtain ⟨W1, hW⟩ : ∃ W1, w.alloc (.cells (pkArr p a) 30) = W1 := ⟨_, rfl⟩
 rw [hW] at HK0
 unfold pkArr at hW ⊢
 have HW := Lib.hid hW
 clear hW
 go_enter Tryz.func39, Tryz.ntmps39
 go_upto_region 2 with fail
 rw [HW.out]
 generalize Value.agg _ = v0
 obtain ⟨g, hg⟩ : ∃ g, w.heap.size = g := ⟨_, rfl⟩
 rw [hg] at HK0 ⊢
 have HK := Lib.hid (KP.new HK0 H.out)
 clear HW HK0 H
 rw [hg] at HP
 have HG := Lib.hid hg
 clear hg
 have c0 := HK.out.k.f0
 have c14 := HK.out.k.f14
 have c15 := HK.out.k.f15
 have c16 := HK.out.k.f16
 have c17 := HK.out.k.f17
 have c18 := HK.out.k.f18
 have c19 := HK.out.k.f19
 have hk2 := HK.out.alloc (.cells (wlArr p.w a.wa a.wc) 28)
 have hb2 := Box.new W1 28 (wlArr p.w a.wa a.wc)
 obtain ⟨W2, h2⟩ : ∃ W2, W1.alloc (.cells (wlArr p.w a.wa a.wc) 28) = W2 := ⟨_, rfl⟩
 rw [h2] at hk2 hb2
 unfold wlArr at h2
 have H2 := Lib.hid h2
 clear h2
 go_upto_region 5 with fail
 rw [H2.out]
 obtain ⟨h, hhh⟩ : ∃ h, W1.heap.size = h := ⟨_, rfl⟩
 rw [hhh] at hb2 ⊢
 have st0 := KQ.mk hk2 hb2
 clear hk2 hb2 H2 HK c0 c14 c15 c16 c17 c18 c19 hhh
 haveI : Nonempty (In (KQ w g p a h (wlArr p.w a.wa a.wc))) := ⟨⟨_, st0⟩⟩
 have k11 := fun u : In (KQ w g p a h (wlArr p.w a.wa a.wc)) => u.h.k.f11
 have k12 := fun u : In (KQ w g p a h (wlArr p.w a.wa a.wc)) => u.h.k.f12
 have k13 := fun u : In (KQ w g p a h (wlArr p.w a.wa a.wc)) => u.h.k.f13
 have k20 := fun u : In (KQ w g p a h (wlArr p.w a.wa a.wc)) => u.h.k.f20
 have k22 := fun u : In (KQ w g p a h (wlArr p.w a.wa a.wc)) => u.h.k.f22
 have k24 := fun u : In (KQ w g p a h (wlArr p.w a.wa a.wc)) => u.h.k.f24
 have j0 := fun u : In (KQ w g p a h (wlArr p.w a.wa a.wc)) => u.h.w0
 have j1 := fun u : In (KQ w g p a h (wlArr p.w a.wa a.wc)) => u.h.w1
 have j2 := fun u : In (KQ w g p a h (wlArr p.w a.wa a.wc)) => u.h.w2
 refine region_in (S := KQ w g p a h (wlArr p.w a.wa a.wc)) (by kernel_rfl) (by kernel_rfl) (st0.drewN 1) ?_
 repeat (go_big_quiet_step (first | (go_at_call 77; exact in_call ((rbit_is _ _ _ rfl).mono fun _ _ h => ⟨h.1, by rw [← h.2]; exact In.h _⟩)) | (go_at_call 76; exact in_call ((HLM.out _).mono fun _ _ h => ⟨h.1, KQ.below (In.h _) h.2⟩)) | (go_at_call 76; exact in_call ((HLC.out _).mono fun _ _ h => ⟨h.1, KQ.below (In.h _) h.2⟩)) | (go_at_call 40; exact in_call ((HO5.out _).mono fun _ _ h => ⟨h.1, KQ.below (In.h _) h.2⟩)) | (go_at_call 40; exact in_call ((HOZ.out _).mono fun _ _ h => ⟨h.1, KQ.below (In.h _) h.2⟩)) | (go_at_call 78; exact in_call ((HF.out _).mono fun _ _ h => ⟨h.1, KQ.below (In.h _) h.2⟩)) | (go_at_call 79; exact in_call ((HP.out _ (KQ.out (In.h _)).1).mono fun _ _ h => ⟨h.1, KQ.below (In.h _) h.2⟩))))
 refine wpQuiet_nil ?_
 rintro _ ⟨⟨w2, st2⟩, rfl⟩
 clear this st0 k11 k12 k13 k20 k22 k24 j0 j1 j2 m1 m2 m3 m4 m5 m6 n1 n2 n3 n4 n5 HLM HLC HF HO5 HOZ HP
 have v0 := st2.w0
 rw [HH.out] at v0
 have c20 := st2.k.f20
 rw [HU.out] at c20
 have c22 := st2.k.f22
 rw [HPP.out] at c22
 have c21 := st2.k.f21
 go_wp2_with (first | (go_at_call 76; refine (HLU.out _).mono ?_; rintro e w4 ⟨rfl, hb4⟩; have st4 := st2.below hb4; have d22 := st4.k.f22; rw [HPP.out] at d22; have d23 := st4.k.f23; clear hb4) | (go_at_call 76; refine (HLP.out _).mono ?_; rintro e w5 ⟨rfl, hb5⟩; have st5 := st4.below hb5; clear hb5))
 go_ret
 exact ⟨by rw [← HS.out]; rfl, st5.out.1.b⟩
end Go.Proofs.YtdbbcfohjkgdcaaGreat
