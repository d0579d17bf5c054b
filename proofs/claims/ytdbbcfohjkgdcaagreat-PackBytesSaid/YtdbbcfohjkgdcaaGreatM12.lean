/- Package pack: the bytes of a part. -/
import Derived.Test.YtdbbcfohjkgdcaaGreatM00
import Derived.Test.YtdbbcfohjkgdcaaGreatM11
set_option maxRecDepth 100000
set_option maxHeartbeats 64000000
namespace Go.Proofs.YtdbbcfohjkgdcaaGreat
open Go.RowKit Go.Lib Prp Pkt
def fillOf (x1 x2 x3 x4 x5 x6 x7 x8 : Bool) : Int :=
 bits .or .i64 (bits .or .i64 (bits .or .i64 (bits .or .i64 (bits .or .i64 (bits .or .i64 (bits .or .i64 (bitZ x1 1) (bitZ x2 2)) (bitZ x3 4)) (bitZ x4 8)) (bitZ x5 16)) (bitZ x6 32)) (bitZ x7 64)) (bitZ x8 128)
theorem fill_field {k : Int} (h0 : 1 ≤ k) (h1 : k ≤ 15) : ∀ x1 x2 x3 x4 x5 x6 x7 x8 : Bool, (bits .andNot .i64 (fillOf x1 x2 x3 x4 x5 x6 x7 x8) (fieldsZ k) != 0) = !fieldOf k x1 x2 x3 x4 x5 x6 x7 x8 := by
 rcases kinds_all h0 h1 with rfl | rfl | rfl | rfl | rfl | rfl | rfl | rfl | rfl | rfl | rfl | rfl | rfl | rfl | rfl <;> decide +kernel
def fillZ (p : Pk) : Int := fillOf (b1 p) p.pre (b3 p) (p.id != 0) (p.re != 0) (decide (0 < p.cs.length)) (decide (0 < p.fs.length)) (decide (0 < p.ps.length))
theorem bit_same (b : Bool) (n : Int) (w : World) : Calls Tryz.prog 67 #[.bool b, .int .i64 n] w fun e w' => e = .returned (.int .i64 (bitZ b n)) ∧ w' = w :=
 (bit_is b n _ w rfl).mono fun _ _ ⟨h, h2⟩ => ⟨h, h2.symm⟩
theorem filled_is (p : Pk) (a : Ad) (R : Int) (w : World) (hR : fillZ p = R) :
  Calls Tryz.prog 57 #[.agg (pkArr p a)] w fun e w' => e = .returned (.int .i64 R) ∧ Below w.heap.size w w' := by
 obtain ⟨x, hx⟩ : ∃ x, wFilled p.w = x := ⟨_, rfl⟩
 have HF := Lib.hid (fun W => isFilled_is p.w a.wa a.wc x W hx)
 have HX := Lib.hid hx
 have HR := Lib.hid hR
 clear hx hR
 have HK0 := Keep.new w 30 (pkArr p a)
 obtain ⟨W1, hW⟩ : ∃ W1, w.alloc (.cells (pkArr p a) 30) = W1 := ⟨_, rfl⟩
 rw [hW] at HK0
 unfold pkArr at hW ⊢
 have HW := Lib.hid hW
 clear hW
 go_enter Tryz.func57, Tryz.ntmps57
 go_upto_region 1 with fail
 rw [HW.out]
 generalize Value.agg _ = v0
 obtain ⟨g, hg⟩ : ∃ g, w.heap.size = g := ⟨_, rfl⟩
 rw [hg] at HK0 ⊢
 have HK := Lib.hid HK0
 clear HW HK0
 have c1 := HK.out.f11
 have c2 := HK.out.f12
 have c3 := HK.out.f13
 have c4 := HK.out.f14
 have c5 := HK.out.f15
 have c6 := HK.out.f16
 have c7 := HK.out.f17
 have c8 := HK.out.f18
 have c9 := HK.out.f19
 go_cut [3] (fun s3 wx => s3 = .bool (b1 p) ∧ Keep w g (pkArr p a) wx)
 case first =>
  go_wp2_with (go_at_call 86; refine (HF.out _).mono ?_; rintro e w1 ⟨rfl, hb⟩; have hk := HK.out.below hb; have d0 := hk.f20; have d1 := hk.f21; have d2 := hk.f22; have d3 := hk.f23)
  all_goals go_meet
  all_goals first | refine ⟨congrArg Value.bool ?_, HK.out⟩ | refine ⟨congrArg Value.bool ?_, hk⟩
  all_goals (unfold b1; rw [HX.out]; simp only [E_iff]; simp [*])
 case rest =>
  obtain ⟨rfl, hk⟩ := hcut
  clear c1 c2 c3 c4 c5 c6 c7 c8 c9 HK HF HX
  have HK := Lib.hid hk
  clear hk
  have c1 := HK.out.f1
  have c2 := HK.out.f2
  have c3 := HK.out.f3
  have c4 := HK.out.f5
  have c5 := HK.out.f6
  obtain ⟨x, hx⟩ : ∃ x, b1 p = x := ⟨_, rfl⟩
  rw [hx]
  have HX := Lib.hid hx
  clear hx
  go_upto_region 2 with fail
  go_cut [4] (fun s4 wx => s4 = .bool (b3 p) ∧ Keep w g (pkArr p a) wx)
  case first =>
   go_wp2_with fail
   all_goals go_meet
   all_goals refine ⟨congrArg Value.bool ?_, HK.out⟩
   all_goals (unfold b3; simp only [E_iff]; simp [*])
  case rest =>
   obtain ⟨rfl, hk⟩ := hcut
   clear c1 c2 c3 c4 c5 HK
   have HK := Lib.hid hk
   clear hk
   obtain ⟨y, hy⟩ : ∃ y, b3 p = y := ⟨_, rfl⟩
   rw [hy]
   have HR2 : Hid (R = fillOf x p.pre y (p.id != 0) (p.re != 0) (decide (0 < p.cs.length)) (decide (0 < p.fs.length)) (decide (0 < p.ps.length))) := by
    show _ = _
    rw [← HR.out, ← HX.out, ← hy]; rfl
   clear hy HR HX
   have c1 := HK.out.f8
   have c2 := HK.out.f4
   have c3 := HK.out.f7
   have c4 := HK.out.f9
   have c5 := HK.out.f10
   have c6 := HK.out.f24
   go_upto_region 3 with fail
   go_quiet ((go_at_call 67; exact Calls.quiet_of_same (bit_same _ _ _)))
   go_wp2_with fail
   go_ret
   exact ⟨by rw [HR2.out]; rfl, below_drewN HK.out.out.2 _⟩
open Go.RowKit Go.Lib Prp Pkt
@[irreducible] def KP (w : World) (g : Nat) (p : Pk) (a : Ad) (W : World) : Prop := Keep w g (pkArr p a) W ∧ PkAt W w.heap.size p a
section
variable {w W W' : World} {g : Nat} {p : Pk} {a : Ad}
theorem KP.mk (h1 : Keep w g (pkArr p a) W) (h2 : PkAt W w.heap.size p a) : KP w g p a W := by unfold KP; exact ⟨h1, h2⟩
theorem KP.out (h : KP w g p a W) : Keep w g (pkArr p a) W ∧ PkAt W w.heap.size p a := by unfold KP at h; exact h
theorem KP.new (h1 : Keep w g (pkArr p a) W) (h : PkAt w w.heap.size p a) : KP w g p a W := .mk h1 (h.below h1.out.2)
theorem KP.below (h : KP w g p a W) (hb : Below W.heap.size W W') : KP w g p a W' := .mk (h.out.1.below hb) (h.out.2.below (hb.mono h.out.1.out.2.size))
theorem KP.drewN (h : KP w g p a W) (n : Nat) : KP w g p a (W.drewN n) := h.below (below_drewN (Below.refl _ _) n)
theorem KP.alloc (h : KP w g p a W) (o : Obj) : KP w g p a (W.alloc o) := h.below ((Below.refl _ _).alloc (Nat.le_refl _) o)
theorem KP.k (h : KP w g p a W) : Keep w g (pkArr p a) W := h.out.1
theorem KP.b (h : KP w g p a W) : Below w.heap.size w W := h.out.1.out.2
theorem KP.at (h : KP w g p a W) : PkAt W W.heap.size p a := h.out.2.mono h.b.size
end
theorem mayLogIn_is (p : Pk) (a : Ad) (b : Bool) (w : World) (hb : logInB p = b) :
  Calls Tryz.prog 59 #[.agg (pkArr p a)] w fun e w' => e = .returned (.bool b) ∧ Below w.heap.size w w' := by
 obtain ⟨x, hx⟩ : ∃ x, wFilled p.w = x := ⟨_, rfl⟩
 have HF := Lib.hid (fun W => isFilled_is p.w a.wa a.wc x W hx)
 obtain ⟨y, hy⟩ : ∃ y, qosB p.w.q = y := ⟨_, rfl⟩
 have HQ := Lib.hid (fun W => isQoS_is p.w.q y W hy)
 have HB : Hid (b = ((E p.u || p.hu) && ((E p.pw || p.hp) && (if p.w.has = true then y && !E p.w.t else !x)))) := by show _ = _; rw [← hb, ← hx, ← hy]; rfl
 clear hx hy hb
 have HK0 := Keep.new w 30 (pkArr p a)
 obtain ⟨W1, hW⟩ : ∃ W1, w.alloc (.cells (pkArr p a) 30) = W1 := ⟨_, rfl⟩
 rw [hW] at HK0
 unfold pkArr at hW ⊢
 have HW := Lib.hid hW
 clear hW
 go_enter Tryz.func59, Tryz.ntmps59
 go_upto_region 1 with fail
 rw [HW.out]
 generalize Value.agg _ = v0
 obtain ⟨g, hg⟩ : ∃ g, w.heap.size = g := ⟨_, rfl⟩
 rw [hg] at HK0 ⊢
 have HK := Lib.hid HK0
 clear HW HK0
 have c14 := HK.out.f14
 have c15 := HK.out.f15
 have c16 := HK.out.f16
 have c17 := HK.out.f17
 have c18 := HK.out.f18
 have c19 := HK.out.f19
 have c20 := HK.out.f20
 have c21 := HK.out.f21
 have c22 := HK.out.f22
 have c23 := HK.out.f23
 go_wp2_with (first | (go_at_call 87; refine (HQ.out _).mono ?_; rintro e w' ⟨rfl, rfl⟩) | (go_at_call 86; refine (HF.out _).mono ?_; rintro e w1 ⟨rfl, hb⟩))
 all_goals go_ret
 all_goals first | refine ⟨ret_bool ?_, HK.out.out.2⟩ | refine ⟨ret_bool ?_, (HK.out.below hb).out.2⟩
 all_goals (rw [HB.out]; simp only [E_iff]; clear HB HQ HF HK c14 c15 c16 c17 c18 c19 c20 c21 c22 c23; first | (simp [*]; done) | simp_all)
theorem bit_range (b : Bool) {n : Int} (h : 0 ≤ n) : 0 ≤ bitZ b n ∧ bitZ b n ≤ n := by
 unfold bitZ; split <;> omega
theorem flagsOf_is (p : Pk) (a : Ad) (R : Int) (w : World) (h0 : 0 ≤ p.q) (h3 : p.q ≤ 3) (hR : flagsZ p = R) :
  Calls Tryz.prog 33 #[.agg (pkArr p a)] w fun e w' => e = .returned (.int .i64 R) ∧ Below w.heap.size w w' := by
 have HR := Lib.hid hR
 clear hR
 have r1 := bit_range p.dup (n := 8) (by omega)
 have r2 := bit_range p.ret (n := 1) (by omega)
 have z1 : IntKind.i64.wrap (2 * p.q) = 2 * p.q := IntWalk.i64_in _ (by omega)
 have z2 : IntKind.i64.wrap (bitZ p.dup 8 + 2 * p.q) = bitZ p.dup 8 + 2 * p.q := IntWalk.i64_in _ (by omega)
 have z3 : IntKind.i64.wrap (bitZ p.dup 8 + 2 * p.q + bitZ p.ret 1) = bitZ p.dup 8 + 2 * p.q + bitZ p.ret 1 := IntWalk.i64_in _ (by omega)
 have HK0 := Keep.new w 30 (pkArr p a)
 obtain ⟨W1, hW⟩ : ∃ W1, w.alloc (.cells (pkArr p a) 30) = W1 := ⟨_, rfl⟩
 rw [hW] at HK0
 unfold pkArr at hW ⊢
 have HW := Lib.hid hW
 clear hW
 go_enter Tryz.func33, Tryz.ntmps33
 go_upto_region 1 with fail
 rw [HW.out]
 generalize Value.agg _ = v0
 obtain ⟨g, hg⟩ : ∃ g, w.heap.size = g := ⟨_, rfl⟩
 rw [hg] at HK0 ⊢
 have HK := Lib.hid HK0
 clear HW HK0
 have c0 := HK.out.f0
 have c1 := HK.out.f1
 have c2 := HK.out.f2
 have c3 := HK.out.f3
 by_cases hk : p.kind = 6 ∨ p.kind = 8 ∨ p.kind = 10
 ·have HS : Hid (R = 2) := by show _ = _; rw [← HR.out]; unfold flagsZ; rw [if_pos hk]
  clear z1 z2 z3 r1 r2
  rcases hk with hk | hk | hk
  all_goals
   rw [hk] at c0
   clear hk
   go_wp2
   go_ret
   exact ⟨by rw [HS.out]; rfl, HK.out.out.2⟩
 ·have HS : Hid (R = bitZ p.dup 8 + 2 * p.q + bitZ p.ret 1) := by show _ = _; rw [← HR.out]; unfold flagsZ; rw [if_neg hk]
  have k6 : (p.kind == 6) = false := ne_false (by omega)
  have k8 : (p.kind == 8) = false := ne_false (by omega)
  have k10 : (p.kind == 10) = false := ne_false (by omega)
  clear hk r1 r2
  go_wp2_with fail
  go_quiet ((go_at_call 67; exact Calls.quiet_of_same (bit_same _ _ _)))
  go_wp2_with fail
  go_ret
  exact ⟨by rw [HS.out]; rfl, below_drewN HK.out.out.2 _⟩
theorem filterFlags_is (f : Fl) (R : Int) (w : World) (h0 : 0 ≤ f.q) (h1 : f.q ≤ 3) (h2 : 0 ≤ f.h) (h3 : f.h ≤ 15) (hR : filterZ f = R) :
  Calls Tryz.prog 97 #[.agg #[.string f.t, .int .i64 f.q, .bool f.nl, .bool f.ar, .int .i64 f.h]] w fun e w' => e = .returned (.int .i64 R) ∧ Below w.heap.size w w' := by
 have HR : Hid (R = f.q + bitZ f.nl 4 + bitZ f.ar 8 + 16 * f.h) := hR.symm
 clear hR
 have r1 := bit_range f.nl (n := 4) (by omega)
 have r2 := bit_range f.ar (n := 8) (by omega)
 have z1 : IntKind.i64.wrap (16 * f.h) = 16 * f.h := IntWalk.i64_in _ (by omega)
 have z2 : IntKind.i64.wrap (f.q + bitZ f.nl 4) = f.q + bitZ f.nl 4 := IntWalk.i64_in _ (by omega)
 have z3 : IntKind.i64.wrap (f.q + bitZ f.nl 4 + bitZ f.ar 8) = f.q + bitZ f.nl 4 + bitZ f.ar 8 := IntWalk.i64_in _ (by omega)
 have z4 : IntKind.i64.wrap (f.q + bitZ f.nl 4 + bitZ f.ar 8 + 16 * f.h) = f.q + bitZ f.nl 4 + bitZ f.ar 8 + 16 * f.h := IntWalk.i64_in _ (by omega)
 go_enter Tryz.func97, Tryz.ntmps97
 go_wp2_with fail
 go_quiet ((go_at_call 67; exact Calls.quiet_of_same (bit_same _ _ _)))
 go_wp2_with fail
 go_ret
 exact ⟨by rw [HR.out]; rfl, below_drewN ((Below.refl _ _).alloc (Nat.le_refl _) _) _⟩
theorem connectFlags_is (p : Pk) (a : Ad) (R : Int) (w : World) (h0 : 0 ≤ p.w.q) (h3 : p.w.q ≤ 3) (hR : loginZ p = R) :
  Calls Tryz.prog 96 #[.agg (pkArr p a)] w fun e w' => e = .returned (.int .i64 R) ∧ Below w.heap.size w w' := by
 have HR : Hid (R = bitZ p.clean 2 + bitZ p.w.has 4 + 8 * p.w.q + bitZ p.w.ret 32 + bitZ p.hp 64 + bitZ p.hu 128) := hR.symm
 clear hR
 have r1 := bit_range p.clean (n := 2) (by omega)
 have r2 := bit_range p.w.has (n := 4) (by omega)
 have r3 := bit_range p.w.ret (n := 32) (by omega)
 have r4 := bit_range p.hp (n := 64) (by omega)
 have r5 := bit_range p.hu (n := 128) (by omega)
 have z1 : IntKind.i64.wrap (8 * p.w.q) = 8 * p.w.q := IntWalk.i64_in _ (by omega)
 have z2 : IntKind.i64.wrap (bitZ p.clean 2 + bitZ p.w.has 4) = bitZ p.clean 2 + bitZ p.w.has 4 := IntWalk.i64_in _ (by omega)
 have z3 : IntKind.i64.wrap (bitZ p.clean 2 + bitZ p.w.has 4 + 8 * p.w.q) = bitZ p.clean 2 + bitZ p.w.has 4 + 8 * p.w.q := IntWalk.i64_in _ (by omega)
 have z4 : IntKind.i64.wrap (bitZ p.clean 2 + bitZ p.w.has 4 + 8 * p.w.q + bitZ p.w.ret 32) = bitZ p.clean 2 + bitZ p.w.has 4 + 8 * p.w.q + bitZ p.w.ret 32 := IntWalk.i64_in _ (by omega)
 have z5 : IntKind.i64.wrap (bitZ p.clean 2 + bitZ p.w.has 4 + 8 * p.w.q + bitZ p.w.ret 32 + bitZ p.hp 64) = bitZ p.clean 2 + bitZ p.w.has 4 + 8 * p.w.q + bitZ p.w.ret 32 + bitZ p.hp 64 := IntWalk.i64_in _ (by omega)
 have z6 : IntKind.i64.wrap (bitZ p.clean 2 + bitZ p.w.has 4 + 8 * p.w.q + bitZ p.w.ret 32 + bitZ p.hp 64 + bitZ p.hu 128) = bitZ p.clean 2 + bitZ p.w.has 4 + 8 * p.w.q + bitZ p.w.ret 32 + bitZ p.hp 64 + bitZ p.hu 128 := IntWalk.i64_in _ (by omega)
 clear r1 r2 r3 r4 r5
 have HK0 := Keep.new w 30 (pkArr p a)
 obtain ⟨W1, hW⟩ : ∃ W1, w.alloc (.cells (pkArr p a) 30) = W1 := ⟨_, rfl⟩
 rw [hW] at HK0
 unfold pkArr at hW ⊢
 have HW := Lib.hid hW
 clear hW
 go_enter Tryz.func96, Tryz.ntmps96
 go_upto_region 1 with fail
 rw [HW.out]
 generalize Value.agg _ = v0
 obtain ⟨g, hg⟩ : ∃ g, w.heap.size = g := ⟨_, rfl⟩
 rw [hg] at HK0 ⊢
 have HK := Lib.hid HK0
 clear HW HK0
 have c12 := HK.out.f12
 have c14 := HK.out.f14
 have c15 := HK.out.f15
 have c16 := HK.out.f16
 have c17 := HK.out.f17
 have c18 := HK.out.f18
 have c19 := HK.out.f19
 have c20 := HK.out.f20
 have c22 := HK.out.f22
 have hk2 := HK.out.below ((Below.refl W1.heap.size W1).alloc (Nat.le_refl _) (.cells (wlArr p.w a.wa a.wc) 28))
 have hb2 := Box.new W1 28 (wlArr p.w a.wa a.wc)
 obtain ⟨W2, h2⟩ : ∃ W2, W1.alloc (.cells (wlArr p.w a.wa a.wc) 28) = W2 := ⟨_, rfl⟩
 rw [h2] at hk2 hb2
 unfold wlArr at h2
 have H2 := Lib.hid h2
 clear h2
 go_upto_region 2 with fail
 rw [H2.out]
 obtain ⟨h, hh⟩ : ∃ h, W1.heap.size = h := ⟨_, rfl⟩
 rw [hh] at hb2 ⊢
 have HK2 := Lib.hid hk2
 have HB2 := Lib.hid hb2
 clear hk2 hb2 H2 HK c12 c14 c15 c16 c17 c18 c19 c20 c22 hh
 have c12 := HK2.out.f12
 have c20 := HK2.out.f20
 have c22 := HK2.out.f22
 have d0 : W2.cell? ⟨h, 0, none⟩ = some (.bool p.w.has) := HB2.out.cell 0
 have d1 : W2.cell? ⟨h, 1, none⟩ = some (.int .i64 p.w.q) := HB2.out.cell 1
 have d2 : W2.cell? ⟨h, 2, none⟩ = some (.bool p.w.ret) := HB2.out.cell 2
 go_quiet ((go_at_call 67; exact Calls.quiet_of_same (bit_same _ _ _)))
 go_wp2_with fail
 go_ret
 exact ⟨by rw [HR.out]; rfl, below_drewN HK2.out.out.2 _⟩
open Go.RowKit Go.Lib Prp Pkt Vbi Txt
def PV (W : World) (B : Nat) (v : Value) : Part → Prop
 | .octet n => v = .iface 110 (.int .i64 n)
 | .short n => v = .iface 134 (.int .i64 n) ∧ n ≤ 9223372036854775807
 | .number n => v = .iface 115 (.int .i64 n) ∧ n ≤ 9223372036854775807
 | .words s => v = .iface 114 (.string s) ∧ s.size ≤ 140737488351232
 | .sized s => v = .iface 139 (.string s) ∧ s.size ≤ 140737488351232
 | .props k l => ∃ A c, v = .iface 113 (.agg #[.int .i64 k, .slice A l.length c]) ∧ PropsAt W B A l ∧ l.length ≤ 9223372036854775807 ∧ l.length ≤ c ∧ ∀ p ∈ l, Fit p
 | .raw s => v = .iface 9 (.string s) ∧ s.size ≤ 140737488351232
theorem PV.below {W W' : World} {B : Nat} {v : Value} {x : Part} (h : PV W B v x) (hb : Below B W W') : PV W' B v x := by
 cases x with
 | props k l =>
  obtain ⟨A, c, h1, h2, h3⟩ := h
  exact ⟨A, c, h1, h2.below hb, h3⟩
 | _ => exact h
theorem PV.mono {W : World} {B B' : Nat} {v : Value} {x : Part} (h : PV W B v x) (hB : B ≤ B') : PV W B' v x := by
 cases x with
 | props k l =>
  obtain ⟨A, c, h1, h2, h3⟩ := h
  exact ⟨A, c, h1, h2.mono hB, h3⟩
 | _ => exact h
theorem PV.one {W : World} {B : Nat} {v : Value} {x : Part} (h : PV W B v x) : v.oneCell' = true := by
 cases x with
 | octet n => obtain rfl := h; rfl
 | short n => obtain ⟨rfl, _⟩ := h; rfl
 | number n => obtain ⟨rfl, _⟩ := h; rfl
 | words s => obtain ⟨rfl, _⟩ := h; rfl
 | sized s => obtain ⟨rfl, _⟩ := h; rfl
 | props k l => obtain ⟨A, c, rfl, _⟩ := h; rfl
 | raw s => obtain ⟨rfl, _⟩ := h; rfl
theorem as_octet (v : Value) (w : World) : (Instr.typeAssert (.iface 110 v) 20 110 true).run Tryz.prog w = .ok (.tuple #[v, .bool true]) w := by kernel_rfl
theorem as_short_octet (v : Value) (w : World) : (Instr.typeAssert (.iface 134 v) 20 110 true).run Tryz.prog w = .ok (.tuple #[.int .i64 0, .bool false]) w := by kernel_rfl
theorem as_short (v : Value) (w : World) : (Instr.typeAssert (.iface 134 v) 20 134 true).run Tryz.prog w = .ok (.tuple #[v, .bool true]) w := by kernel_rfl
theorem as_number_octet (v : Value) (w : World) : (Instr.typeAssert (.iface 115 v) 20 110 true).run Tryz.prog w = .ok (.tuple #[.int .i64 0, .bool false]) w := by kernel_rfl
theorem as_number_short (v : Value) (w : World) : (Instr.typeAssert (.iface 115 v) 20 134 true).run Tryz.prog w = .ok (.tuple #[.int .i64 0, .bool false]) w := by kernel_rfl
theorem as_number (v : Value) (w : World) : (Instr.typeAssert (.iface 115 v) 20 115 true).run Tryz.prog w = .ok (.tuple #[v, .bool true]) w := by kernel_rfl
theorem as_words_octet (v : Value) (w : World) : (Instr.typeAssert (.iface 114 v) 20 110 true).run Tryz.prog w = .ok (.tuple #[.int .i64 0, .bool false]) w := by kernel_rfl
theorem as_words_short (v : Value) (w : World) : (Instr.typeAssert (.iface 114 v) 20 134 true).run Tryz.prog w = .ok (.tuple #[.int .i64 0, .bool false]) w := by kernel_rfl
theorem as_words_number (v : Value) (w : World) : (Instr.typeAssert (.iface 114 v) 20 115 true).run Tryz.prog w = .ok (.tuple #[.int .i64 0, .bool false]) w := by kernel_rfl
theorem as_words (v : Value) (w : World) : (Instr.typeAssert (.iface 114 v) 20 114 true).run Tryz.prog w = .ok (.tuple #[v, .bool true]) w := by kernel_rfl
theorem as_sized_octet (v : Value) (w : World) : (Instr.typeAssert (.iface 139 v) 20 110 true).run Tryz.prog w = .ok (.tuple #[.int .i64 0, .bool false]) w := by kernel_rfl
theorem as_sized_short (v : Value) (w : World) : (Instr.typeAssert (.iface 139 v) 20 134 true).run Tryz.prog w = .ok (.tuple #[.int .i64 0, .bool false]) w := by kernel_rfl
theorem as_sized_number (v : Value) (w : World) : (Instr.typeAssert (.iface 139 v) 20 115 true).run Tryz.prog w = .ok (.tuple #[.int .i64 0, .bool false]) w := by kernel_rfl
theorem as_sized_words (v : Value) (w : World) : (Instr.typeAssert (.iface 139 v) 20 114 true).run Tryz.prog w = .ok (.tuple #[.string ByteArray.empty, .bool false]) w := by kernel_rfl
theorem as_sized (v : Value) (w : World) : (Instr.typeAssert (.iface 139 v) 20 139 true).run Tryz.prog w = .ok (.tuple #[v, .bool true]) w := by kernel_rfl
theorem as_list_octet (v : Value) (w : World) : (Instr.typeAssert (.iface 113 v) 20 110 true).run Tryz.prog w = .ok (.tuple #[.int .i64 0, .bool false]) w := by kernel_rfl
theorem as_list_short (v : Value) (w : World) : (Instr.typeAssert (.iface 113 v) 20 134 true).run Tryz.prog w = .ok (.tuple #[.int .i64 0, .bool false]) w := by kernel_rfl
theorem as_list_number (v : Value) (w : World) : (Instr.typeAssert (.iface 113 v) 20 115 true).run Tryz.prog w = .ok (.tuple #[.int .i64 0, .bool false]) w := by kernel_rfl
theorem as_list_words (v : Value) (w : World) : (Instr.typeAssert (.iface 113 v) 20 114 true).run Tryz.prog w = .ok (.tuple #[.string ByteArray.empty, .bool false]) w := by kernel_rfl
theorem as_list_sized (v : Value) (w : World) : (Instr.typeAssert (.iface 113 v) 20 139 true).run Tryz.prog w = .ok (.tuple #[.string ByteArray.empty, .bool false]) w := by kernel_rfl
theorem as_list (v : Value) (w : World) : (Instr.typeAssert (.iface 113 v) 20 113 true).run Tryz.prog w = .ok (.tuple #[v, .bool true]) w := by kernel_rfl
theorem as_string_octet (v : Value) (w : World) : (Instr.typeAssert (.iface 9 v) 20 110 true).run Tryz.prog w = .ok (.tuple #[.int .i64 0, .bool false]) w := by kernel_rfl
theorem as_string_short (v : Value) (w : World) : (Instr.typeAssert (.iface 9 v) 20 134 true).run Tryz.prog w = .ok (.tuple #[.int .i64 0, .bool false]) w := by kernel_rfl
theorem as_string_number (v : Value) (w : World) : (Instr.typeAssert (.iface 9 v) 20 115 true).run Tryz.prog w = .ok (.tuple #[.int .i64 0, .bool false]) w := by kernel_rfl
theorem as_string_words (v : Value) (w : World) : (Instr.typeAssert (.iface 9 v) 20 114 true).run Tryz.prog w = .ok (.tuple #[.string ByteArray.empty, .bool false]) w := by kernel_rfl
theorem as_string_sized (v : Value) (w : World) : (Instr.typeAssert (.iface 9 v) 20 139 true).run Tryz.prog w = .ok (.tuple #[.string ByteArray.empty, .bool false]) w := by kernel_rfl
theorem as_string_list (v : Value) (w : World) : (Instr.typeAssert (.iface 9 v) 20 113 true).run Tryz.prog w = .ok (.tuple #[.agg #[.int .i64 0, .slice none 0 0], .bool false]) w := by kernel_rfl
theorem to_string (v : Value) (w : World) : (Instr.typeAssert (.iface 9 v) 20 9 false).run Tryz.prog w = .ok v w := by kernel_rfl
theorem octet_yes (n : Int) (S : ByteArray) (w : World) (h0 : 0 ≤ n) (h1 : n ≤ 255) (hS : strOfNums [n] = S) :
  Calls Tryz.prog 89 #[.int .i64 n] w fun e w' => e = .returned (.tuple #[.string S, .int .i64 0]) ∧ Below w.heap.size w w' := by
 have HS := Lib.hid hS
 clear hS
 have hcv := conv_byte n
 have hz : IntKind.u8.wrap n = n := by unfold IntKind.wrap; simp [IntKind.bits, IntKind.signed]; omega
 have d0 : decide (n < 0) = false := decide_eq_false (by omega)
 have d1 : decide (255 < n) = false := decide_eq_false (by omega)
 go_enter Tryz.func89, Tryz.ntmps89
 go_wp2_with fail
 go_ret2
 exact ⟨by rw [← HS.out]; rfl, (Below.refl _ _).alloc (Nat.le_refl _) _⟩
theorem octet_no (n : Int) (w : World) (h : ¬ (0 ≤ n ∧ n ≤ 255)) :
  Calls Tryz.prog 89 #[.int .i64 n] w fun e w' => e = .returned (.tuple #[.string ⟨#[]⟩, .int .i64 1]) ∧ w = w' := by
 by_cases h0 : n < 0
 ·have d0 : decide (n < 0) = true := decide_eq_true h0
  clear h
  go_enter Tryz.func89, Tryz.ntmps89
  go_wp2_with fail
  go_ret2
  exact ⟨rfl, rfl⟩
 ·have d0 : decide (n < 0) = false := decide_eq_false h0
  have d1 : decide (255 < n) = true := decide_eq_true (by omega)
  clear h
  go_enter Tryz.func89, Tryz.ntmps89
  go_wp2_with fail
  go_ret2
  exact ⟨rfl, rfl⟩
theorem number_yes (n : Int) (S : ByteArray) (w : World) (h0 : 1 ≤ n) (h1 : n < 65536) (hS : fxStr n = S) :
  Calls Tryz.prog 91 #[.int .i64 n] w fun e w' => e = .returned (.tuple #[.string S, .int .i64 0]) ∧ Below w.heap.size w w' := by
 have HT := Lib.hid (fun W => Two_is n S 0 W (by omega) ((fix_yes (wd := 2) (x := n) (by omega) (by omega)).2.trans hS) (fix_yes (wd := 2) (x := n) (by omega) (by omega)).1)
 have e0 : (n == 0) = false := ne_false (by omega)
 clear hS
 go_enter Tryz.func91, Tryz.ntmps91
 go_wp2_with (go_at_call 90; refine (HT.out _).mono ?_; rintro e w1 ⟨rfl, hb⟩)
 go_ret2
 exact ⟨rfl, hb⟩
theorem number_no (n : Int) (w : World) (hn : n ≤ 9223372036854775807) (h : ¬ (1 ≤ n ∧ n < 65536)) :
  Calls Tryz.prog 91 #[.int .i64 n] w (Wrong w) := by
 by_cases h0 : n = 0
 ·subst h0
  clear h
  go_enter Tryz.func91, Tryz.ntmps91
  go_wp2_with fail
  go_ret2
  exact ⟨_, _, rfl, by decide, Below.refl _ _⟩
 ·obtain ⟨S, hS⟩ : ∃ S, fixStr 2 n = S := ⟨_, rfl⟩
  have HT := Lib.hid (fun W => Two_is n S 2 W hn hS (fix_no (wd := 2) (x := n) (by omega)))
  have e0 : (n == 0) = false := ne_false h0
  clear hS h h0
  go_enter Tryz.func91, Tryz.ntmps91
  go_wp2_with (go_at_call 90; refine (HT.out _).mono ?_; rintro e w1 ⟨rfl, hb⟩)
  go_ret2
  exact ⟨_, _, rfl, by decide, hb⟩
open Go.RowKit Go.Lib Prp Pkt Vbi Txt
theorem Bin_yes (s S : ByteArray) (w : World) (h : binB s = true) (hS : lgStr s = S) :
  Calls Tryz.prog 93 #[.string s] w fun e w' => e = .returned (.tuple #[.string S, .int .i64 0]) ∧ Below w.heap.size w w' := by
 have hz : s.size ≤ 1024 := of_decide_eq_true h
 exact Bin_is s S 0 w (by unfold binStr; rw [if_neg (by omega)]; exact hS) (by unfold binErr; rw [if_neg (by omega)])
theorem Bin_no (s : ByteArray) (w : World) (h : binB s = false) : Calls Tryz.prog 93 #[.string s] w (Wrong w) := by
 have hz : ¬ s.size ≤ 1024 := of_decide_eq_false h
 exact (Bin_is s _ 2 w rfl (by unfold binErr; rw [if_pos (by omega)])).mono fun _ _ ⟨h1, h2⟩ => ⟨_, _, h1, by decide, h2⟩
theorem put_octet_yes (n : Int) (S : ByteArray) (w : World) (h : 0 ≤ n ∧ n ≤ 255) (hS : strOfNums [n] = S) :
  Calls Tryz.prog 63 #[.iface 110 (.int .i64 n)] w (fun e w' => e = .returned (.tuple #[.string S, .int .i64 0]) ∧ Below w.heap.size w w') := by
 have HC := Lib.hid (fun (W : World) => (octet_yes n S W h.1 h.2 hS : Calls Tryz.prog 89 #[.int .i64 n] W (fun e w' => e = .returned (.tuple #[.string S, .int .i64 0]) ∧ Below W.heap.size W w')))
 have b0 := as_octet
 clear h hS
 go_enter Tryz.func63, Tryz.ntmps63
 go_wp2_with (go_at_call 89; refine (HC.out _).mono ?_; rintro e w1 ⟨rfl, hb⟩)
 go_ret2
 exact ⟨rfl, hb⟩
theorem put_octet_no (n : Int) (w : World) (h : ¬ (0 ≤ n ∧ n ≤ 255)) :
  Calls Tryz.prog 63 #[.iface 110 (.int .i64 n)] w (Wrong w) := by
 have HC := Lib.hid (fun (W : World) => ((octet_no n W h).mono fun _ _ ⟨h1, h2⟩ => ⟨_, _, h1, by decide, by rw [h2]; exact Below.refl _ _⟩ : Calls Tryz.prog 89 #[.int .i64 n] W (Wrong W)))
 have b0 := as_octet
 clear h
 go_enter Tryz.func63, Tryz.ntmps63
 go_wp2_with (go_at_call 89; refine (HC.out _).mono ?_; rintro e w1 ⟨S, E, rfl, hE, hb⟩; have hE2 := Lib.hid hE; clear hE)
 go_ret2
 exact ⟨S, E, rfl, hE2.out, hb⟩
theorem put_short_yes (n : Int) (S : ByteArray) (w : World) (h : 0 ≤ n ∧ n < 65536) (hS : fxStr n = S) :
  Calls Tryz.prog 63 #[.iface 134 (.int .i64 n)] w (fun e w' => e = .returned (.tuple #[.string S, .int .i64 0]) ∧ Below w.heap.size w w') := by
 have HC := Lib.hid (fun (W : World) => (Two_is n S 0 W (by omega) ((fix_yes (wd := 2) (x := n) (by omega) (by omega)).2.trans hS) (fix_yes (wd := 2) (x := n) (by omega) (by omega)).1 : Calls Tryz.prog 90 #[.int .i64 n] W (fun e w' => e = .returned (.tuple #[.string S, .int .i64 0]) ∧ Below W.heap.size W w')))
 have a0 := as_short_octet
 have b0 := as_short
 clear h hS
 go_enter Tryz.func63, Tryz.ntmps63
 go_wp2_with (go_at_call 90; refine (HC.out _).mono ?_; rintro e w1 ⟨rfl, hb⟩)
 go_ret2
 exact ⟨rfl, hb⟩
theorem put_short_no (n : Int) (hn : n ≤ 9223372036854775807) (w : World) (h : ¬ (0 ≤ n ∧ n < 65536)) :
  Calls Tryz.prog 63 #[.iface 134 (.int .i64 n)] w (Wrong w) := by
 have HC := Lib.hid (fun (W : World) => ((Two_is n _ 2 W hn rfl (fix_no (wd := 2) (x := n) h)).mono fun _ _ ⟨h1, h2⟩ => ⟨_, _, h1, by decide, h2⟩ : Calls Tryz.prog 90 #[.int .i64 n] W (Wrong W)))
 have a0 := as_short_octet
 have b0 := as_short
 clear h hn
 go_enter Tryz.func63, Tryz.ntmps63
 go_wp2_with (go_at_call 90; refine (HC.out _).mono ?_; rintro e w1 ⟨S, E, rfl, hE, hb⟩; have hE2 := Lib.hid hE; clear hE)
 go_ret2
 exact ⟨S, E, rfl, hE2.out, hb⟩
theorem put_number_yes (n : Int) (S : ByteArray) (w : World) (h : 1 ≤ n ∧ n < 65536) (hS : fxStr n = S) :
  Calls Tryz.prog 63 #[.iface 115 (.int .i64 n)] w (fun e w' => e = .returned (.tuple #[.string S, .int .i64 0]) ∧ Below w.heap.size w w') := by
 have HC := Lib.hid (fun (W : World) => (number_yes n S W h.1 h.2 hS : Calls Tryz.prog 91 #[.int .i64 n] W (fun e w' => e = .returned (.tuple #[.string S, .int .i64 0]) ∧ Below W.heap.size W w')))
 have a0 := as_number_octet
 have a1 := as_number_short
 have b0 := as_number
 clear h hS
 go_enter Tryz.func63, Tryz.ntmps63
 go_wp2_with (go_at_call 91; refine (HC.out _).mono ?_; rintro e w1 ⟨rfl, hb⟩)
 go_ret2
 exact ⟨rfl, hb⟩
theorem put_number_no (n : Int) (hn : n ≤ 9223372036854775807) (w : World) (h : ¬ (1 ≤ n ∧ n < 65536)) :
  Calls Tryz.prog 63 #[.iface 115 (.int .i64 n)] w (Wrong w) := by
 have HC := Lib.hid (fun (W : World) => (number_no n W hn h : Calls Tryz.prog 91 #[.int .i64 n] W (Wrong W)))
 have a0 := as_number_octet
 have a1 := as_number_short
 have b0 := as_number
 clear h hn
 go_enter Tryz.func63, Tryz.ntmps63
 go_wp2_with (go_at_call 91; refine (HC.out _).mono ?_; rintro e w1 ⟨S, E, rfl, hE, hb⟩; have hE2 := Lib.hid hE; clear hE)
 go_ret2
 exact ⟨S, E, rfl, hE2.out, hb⟩
theorem put_words_yes (s : ByteArray) (S : ByteArray) (hn : s.size ≤ 9223372036854775807) (w : World) (h : textB s = true) (hS : lgStr s = S) :
  Calls Tryz.prog 63 #[.iface 114 (.string s)] w (fun e w' => e = .returned (.tuple #[.string S, .int .i64 0]) ∧ Below w.heap.size w w') := by
 have HC := Lib.hid (fun (W : World) => (Text_yes s S W hn h hS : Calls Tryz.prog 92 #[.string s] W (fun e w' => e = .returned (.tuple #[.string S, .int .i64 0]) ∧ Below W.heap.size W w')))
 have a0 := as_words_octet
 have a1 := as_words_short
 have a2 := as_words_number
 have b0 := as_words
 clear h hn hS
 go_enter Tryz.func63, Tryz.ntmps63
 go_wp2_with (go_at_call 92; refine (HC.out _).mono ?_; rintro e w1 ⟨rfl, hb⟩)
 go_ret2
 exact ⟨rfl, hb⟩
theorem put_words_no (s : ByteArray) (hn : s.size ≤ 9223372036854775807) (w : World) (h : ¬ (textB s = true)) :
  Calls Tryz.prog 63 #[.iface 114 (.string s)] w (Wrong w) := by
 have HC := Lib.hid (fun (W : World) => ((Text_no s W hn (by simpa using h)).mono fun _ _ ⟨E, h1, h2, h3⟩ => ⟨_, E, h1, h2, h3⟩ : Calls Tryz.prog 92 #[.string s] W (Wrong W)))
 have a0 := as_words_octet
 have a1 := as_words_short
 have a2 := as_words_number
 have b0 := as_words
 clear h hn
 go_enter Tryz.func63, Tryz.ntmps63
 go_wp2_with (go_at_call 92; refine (HC.out _).mono ?_; rintro e w1 ⟨S, E, rfl, hE, hb⟩; have hE2 := Lib.hid hE; clear hE)
 go_ret2
 exact ⟨S, E, rfl, hE2.out, hb⟩
theorem put_sized_yes (s : ByteArray) (S : ByteArray) (w : World) (h : binB s = true) (hS : lgStr s = S) :
  Calls Tryz.prog 63 #[.iface 139 (.string s)] w (fun e w' => e = .returned (.tuple #[.string S, .int .i64 0]) ∧ Below w.heap.size w w') := by
 have HC := Lib.hid (fun (W : World) => (Bin_yes s S W h hS : Calls Tryz.prog 93 #[.string s] W (fun e w' => e = .returned (.tuple #[.string S, .int .i64 0]) ∧ Below W.heap.size W w')))
 have a0 := as_sized_octet
 have a1 := as_sized_short
 have a2 := as_sized_number
 have a3 := as_sized_words
 have b0 := as_sized
 clear h hS
 go_enter Tryz.func63, Tryz.ntmps63
 go_wp2_with (go_at_call 93; refine (HC.out _).mono ?_; rintro e w1 ⟨rfl, hb⟩)
 go_ret2
 exact ⟨rfl, hb⟩
theorem put_sized_no (s : ByteArray) (w : World) (h : ¬ (binB s = true)) :
  Calls Tryz.prog 63 #[.iface 139 (.string s)] w (Wrong w) := by
 have HC := Lib.hid (fun (W : World) => (Bin_no s W (by simpa using h) : Calls Tryz.prog 93 #[.string s] W (Wrong W)))
 have a0 := as_sized_octet
 have a1 := as_sized_short
 have a2 := as_sized_number
 have a3 := as_sized_words
 have b0 := as_sized
 clear h
 go_enter Tryz.func63, Tryz.ntmps63
 go_wp2_with (go_at_call 93; refine (HC.out _).mono ?_; rintro e w1 ⟨S, E, rfl, hE, hb⟩; have hE2 := Lib.hid hE; clear hE)
 go_ret2
 exact ⟨S, E, rfl, hE2.out, hb⟩
theorem put_list (k : Int) (l : List P) (A : Option Addr) (c : Nat) (S : ByteArray) (E : Int) (w : World) (hm : l.length ≤ 9223372036854775807) (hcap : l.length ≤ c) (hfit : ∀ p ∈ l, Fit p) (h : PropsAt w w.heap.size A l)
  (hS : bytesStr k l = S) (hE : bytesErr k l = E) :
  Calls Tryz.prog 63 #[.iface 113 (.agg #[.int .i64 k, .slice A l.length c])] w fun e w' => e = .returned (.tuple #[.string S, .int .i64 E]) ∧ Below w.heap.size w w' := by
 have HC := Lib.hid (fun (W : World) (h : PropsAt W W.heap.size A l) => Bytes_is k l A c S E W hm hcap hfit h hS hE)
 have HP := Lib.hid (h.alloc (Nat.le_refl _) (.cells #[.int .i64 k, .slice A l.length c] 113))
 have a0 := as_list_octet
 have a1 := as_list_short
 have a2 := as_list_number
 have a3 := as_list_words
 have a4 := as_list_sized
 have b0 := as_list
 clear h hS hE hfit hm hcap
 go_enter Tryz.func63, Tryz.ntmps63
 go_wp2_with (go_at_call 94; refine (HC.out _ (HP.out.mono (by simp))).mono ?_; rintro e w1 ⟨rfl, hb⟩)
 go_ret2
 exact ⟨rfl, ((Below.refl _ _).alloc (Nat.le_refl _) _).trans (hb.mono (by simp))⟩
theorem put_raw (s : ByteArray) (w : World) :
  Calls Tryz.prog 63 #[.iface 9 (.string s)] w fun e w' => e = .returned (.tuple #[.string s, .int .i64 0]) ∧ Below w.heap.size w w' := by
 have a0 := as_string_octet
 have a1 := as_string_short
 have a2 := as_string_number
 have a3 := as_string_words
 have a4 := as_string_sized
 have a5 := as_string_list
 have b0 := to_string
 go_enter Tryz.func63, Tryz.ntmps63
 go_wp2_with fail
 go_ret2
 exact ⟨rfl, (Below.refl _ _).alloc (Nat.le_refl _) _⟩
theorem put_part_yes (v : Value) (x : Part) (S : ByteArray) (w : World) (h : PV w w.heap.size v x) (hx : x.okB = true) (hS : x.str = S) :
  Calls Tryz.prog 63 #[v] w fun e w' => e = .returned (.tuple #[.string S, .int .i64 0]) ∧ Below w.heap.size w w' := by
 cases x with
 | octet n => obtain rfl := h; exact put_octet_yes n S w (of_decide_eq_true hx) hS
 | short n => obtain ⟨rfl, hn⟩ := h; exact put_short_yes n S w (of_decide_eq_true hx) hS
 | number n => obtain ⟨rfl, hn⟩ := h; exact put_number_yes n S w (of_decide_eq_true hx) hS
 | words s => obtain ⟨rfl, hn⟩ := h; exact put_words_yes s S (by omega) w hx hS
 | sized s => obtain ⟨rfl, hn⟩ := h; exact put_sized_yes s S w hx hS
 | props k l =>
  obtain ⟨A, c, rfl, h2, h3, h4, h5⟩ := h
  have hp : propsB k l = true := hx
  exact put_list k l A c S 0 w h3 h4 h5 h2 ((bytes_yes hp).1.trans hS) (bytes_yes hp).2
 | raw s => obtain ⟨rfl, hn⟩ := h; obtain rfl : s = S := hS; exact put_raw s w
theorem put_part_no (v : Value) (x : Part) (w : World) (h : PV w w.heap.size v x) (hx : x.okB = false) :
  Calls Tryz.prog 63 #[v] w (Wrong w) := by
 cases x with
 | octet n => obtain rfl := h; exact put_octet_no n w (of_decide_eq_false hx)
 | short n => obtain ⟨rfl, hn⟩ := h; exact put_short_no n hn w (of_decide_eq_false hx)
 | number n => obtain ⟨rfl, hn⟩ := h; exact put_number_no n hn w (of_decide_eq_false hx)
 | words s => obtain ⟨rfl, hn⟩ := h; exact put_words_no s (by omega) w (by rw [show textB s = false from hx]; decide)
 | sized s => obtain ⟨rfl, hn⟩ := h; exact put_sized_no s w (by rw [show binB s = false from hx]; decide)
 | props k l =>
  obtain ⟨A, c, rfl, h2, h3, h4, h5⟩ := h
  have hp : propsB k l = false := hx
  exact (put_list k l A c _ 1 w h3 h4 h5 h2 (bytes_no hp).1 (bytes_no hp).2).mono fun _ _ ⟨h1, h2⟩ => ⟨_, _, h1, by decide, h2⟩
 | raw s => cases hx
end Go.Proofs.YtdbbcfohjkgdcaaGreat
