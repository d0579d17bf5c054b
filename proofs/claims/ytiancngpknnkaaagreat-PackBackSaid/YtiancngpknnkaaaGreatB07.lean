/- A region that draws its order, walked by hand under a word S that holds behind every operation: one operation at a time. No program. -/
import Derived.Test.YtiancngpknnkaaaGreatB06
import Derived.IntWalk
import Derived.BigQuiet
import Derived.WalkKit
import Derived.WalkSpells
import Derived.Deep.MidRow
import Derived.Test.YtiancngpknnkaaaGreatB05
import Derived.Test.YtiancngpknnkaaaGreatB04
import Derived.Lib.Hide
import Derived.Deep.RegionHeld3
set_option maxRecDepth 100000
set_option maxHeartbeats 64000000
namespace Go.Proofs.YtiancngpknnkaaaGreat
open Go.RowKit Go.Lib Prp Pkt
@[irreducible] def KP (w : World) (g : Nat) (p : Pk) (a : Ad) (W : World) : Prop := Keep w g (pkArr p a) W ∧ PkAt W w.heap.size p a
section
variable {w W W' : World} {g : Nat} {p : Pk} {a : Ad}
theorem KP.mk (h1 : Keep w g (pkArr p a) W) (h2 : PkAt W w.heap.size p a) : KP w g p a W := by unfold KP; exact ⟨h1, h2⟩
theorem KP.out (h : KP w g p a W) : Keep w g (pkArr p a) W ∧ PkAt W w.heap.size p a := by unfold KP at h; exact h
theorem KP.new (h1 : Keep w g (pkArr p a) W) (h : PkAt w w.heap.size p a) : KP w g p a W := .mk h1 (h.below h1.out.2)
theorem KP.below (h : KP w g p a W) (hb : Below W.heap.size W W') : KP w g p a W' := .mk (h.out.1.below hb) (h.out.2.below (hb.mono h.out.1.out.2.size))
theorem KP.drewN (h : KP w g p a W) (n : Nat) : KP w g p a (W.drewN n) := h.below (below_drewN (Below.refl _ _) n)
theorem KP.alloc (h : KP w g p a W) (o : Obj) : KP w g p a (W.alloc o) := h.below ((Below.refl _ _).alloc (Nat.le_refl _) o)
theorem KP.k (h : KP w g p a W) : Keep w g (pkArr p a) W := h.out.1
theorem KP.b (h : KP w g p a W) : Below w.heap.size w W := h.out.1.out.2
theorem KP.at (h : KP w g p a W) : PkAt W W.heap.size p a := h.out.2.mono h.b.size
end
theorem mayLogIn_is (p : Pk) (a : Ad) (b : Bool) (w : World) (hb : logInB p = b) :
    Calls Tryz.prog 74 #[.agg (pkArr p a)] w fun e w' => e = .returned (.bool b) ∧ Below w.heap.size w w' := by
  obtain ⟨x, hx⟩ : ∃ x, wFilled p.w = x := ⟨_, rfl⟩
  have HF := Lib.hid (fun W => isFilled_is p.w a.wa a.wc x W hx)
  obtain ⟨y, hy⟩ : ∃ y, qosB p.w.q = y := ⟨_, rfl⟩
  have HQ := Lib.hid (fun W => isQoS_is p.w.q y W hy)
  have HB : Hid (b = ((E p.u || p.hu) && ((E p.pw || p.hp) && (if p.w.has = true then y && !E p.w.t else !x)))) := by show _ = _; rw [← hb, ← hx, ← hy]; rfl
  clear hx hy hb
  have HK0 := Keep.new w 30 (pkArr p a)
  obtain ⟨W1, hW⟩ : ∃ W1, w.alloc (.cells (pkArr p a) 30) = W1 := ⟨_, rfl⟩
  rw [hW] at HK0
  unfold pkArr at hW ⊢
  have HW := Lib.hid hW
  clear hW
  go_enter Tryz.func74, Tryz.ntmps74
  go_upto_region 1 with fail
  rw [HW.out]
  generalize Value.agg _ = v0
  obtain ⟨g, hg⟩ : ∃ g, w.heap.size = g := ⟨_, rfl⟩
  rw [hg] at HK0 ⊢
  have HK := Lib.hid HK0
  clear HW HK0
  have c14 := HK.out.f14
  have c15 := HK.out.f15
  have c16 := HK.out.f16
  have c17 := HK.out.f17
  have c18 := HK.out.f18
  have c19 := HK.out.f19
  have c20 := HK.out.f20
  have c21 := HK.out.f21
  have c22 := HK.out.f22
  have c23 := HK.out.f23
  go_wp2_with (first | (go_at_call 103; refine (HQ.out _).mono ?_; rintro e w' ⟨rfl, rfl⟩) | (go_at_call 102; refine (HF.out _).mono ?_; rintro e w1 ⟨rfl, hb⟩))
  all_goals go_ret
  all_goals first | refine ⟨ret_bool ?_, HK.out.out.2⟩ | refine ⟨ret_bool ?_, (HK.out.below hb).out.2⟩
  all_goals (rw [HB.out]; simp only [E_iff]; clear HB HQ HF HK c14 c15 c16 c17 c18 c19 c20 c21 c22 c23; first | (simp [*]; done) | simp_all)
theorem bit_range (b : Bool) {n : Int} (h : 0 ≤ n) : 0 ≤ bitZ b n ∧ bitZ b n ≤ n := by
  unfold bitZ; split <;> omega
theorem flagsOf_is (p : Pk) (a : Ad) (R : Int) (w : World) (h0 : 0 ≤ p.q) (h3 : p.q ≤ 3) (hR : flagsZ p = R) :
    Calls Tryz.prog 47 #[.agg (pkArr p a)] w fun e w' => e = .returned (.int .i64 R) ∧ Below w.heap.size w w' := by
  have HR := Lib.hid hR
  clear hR
  have r1 := bit_range p.dup (n := 8) (by omega)
  have r2 := bit_range p.ret (n := 1) (by omega)
  have z1 : IntKind.i64.wrap (2 * p.q) = 2 * p.q := IntWalk.i64_in _ (by omega)
  have z2 : IntKind.i64.wrap (bitZ p.dup 8 + 2 * p.q) = bitZ p.dup 8 + 2 * p.q := IntWalk.i64_in _ (by omega)
  have z3 : IntKind.i64.wrap (bitZ p.dup 8 + 2 * p.q + bitZ p.ret 1) = bitZ p.dup 8 + 2 * p.q + bitZ p.ret 1 := IntWalk.i64_in _ (by omega)
  have HK0 := Keep.new w 30 (pkArr p a)
  obtain ⟨W1, hW⟩ : ∃ W1, w.alloc (.cells (pkArr p a) 30) = W1 := ⟨_, rfl⟩
  rw [hW] at HK0
  unfold pkArr at hW ⊢
  have HW := Lib.hid hW
  clear hW
  go_enter Tryz.func47, Tryz.ntmps47
  go_upto_region 1 with fail
  rw [HW.out]
  generalize Value.agg _ = v0
  obtain ⟨g, hg⟩ : ∃ g, w.heap.size = g := ⟨_, rfl⟩
  rw [hg] at HK0 ⊢
  have HK := Lib.hid HK0
  clear HW HK0
  have c0 := HK.out.f0
  have c1 := HK.out.f1
  have c2 := HK.out.f2
  have c3 := HK.out.f3
  by_cases hk : p.kind = 6 ∨ p.kind = 8 ∨ p.kind = 10
  · have HS : Hid (R = 2) := by show _ = _; rw [← HR.out]; unfold flagsZ; rw [if_pos hk]
    clear z1 z2 z3 r1 r2
    rcases hk with hk | hk | hk
    all_goals
      rw [hk] at c0
      clear hk
      go_wp2
      go_ret
      exact ⟨by rw [HS.out]; rfl, HK.out.out.2⟩
  · have HS : Hid (R = bitZ p.dup 8 + 2 * p.q + bitZ p.ret 1) := by show _ = _; rw [← HR.out]; unfold flagsZ; rw [if_neg hk]
    have k6 : (p.kind == 6) = false := ne_false (by omega)
    have k8 : (p.kind == 8) = false := ne_false (by omega)
    have k10 : (p.kind == 10) = false := ne_false (by omega)
    clear hk r1 r2
    go_wp2_with fail
    go_quiet ((go_at_call 82; exact Calls.quiet_of_same (bit_same _ _ _)))
    go_wp2_with fail
    go_ret
    exact ⟨by rw [HS.out]; rfl, below_drewN HK.out.out.2 _⟩
theorem filterFlags_is (f : Fl) (R : Int) (w : World) (h0 : 0 ≤ f.q) (h1 : f.q ≤ 3) (h2 : 0 ≤ f.h) (h3 : f.h ≤ 15) (hR : filterZ f = R) :
    Calls Tryz.prog 113 #[.agg #[.string f.t, .int .i64 f.q, .bool f.nl, .bool f.ar, .int .i64 f.h]] w fun e w' => e = .returned (.int .i64 R) ∧ Below w.heap.size w w' := by
  have HR : Hid (R = f.q + bitZ f.nl 4 + bitZ f.ar 8 + 16 * f.h) := hR.symm
  clear hR
  have r1 := bit_range f.nl (n := 4) (by omega)
  have r2 := bit_range f.ar (n := 8) (by omega)
  have z1 : IntKind.i64.wrap (16 * f.h) = 16 * f.h := IntWalk.i64_in _ (by omega)
  have z2 : IntKind.i64.wrap (f.q + bitZ f.nl 4) = f.q + bitZ f.nl 4 := IntWalk.i64_in _ (by omega)
  have z3 : IntKind.i64.wrap (f.q + bitZ f.nl 4 + bitZ f.ar 8) = f.q + bitZ f.nl 4 + bitZ f.ar 8 := IntWalk.i64_in _ (by omega)
  have z4 : IntKind.i64.wrap (f.q + bitZ f.nl 4 + bitZ f.ar 8 + 16 * f.h) = f.q + bitZ f.nl 4 + bitZ f.ar 8 + 16 * f.h := IntWalk.i64_in _ (by omega)
  go_enter Tryz.func113, Tryz.ntmps113
  go_wp2_with fail
  go_quiet ((go_at_call 82; exact Calls.quiet_of_same (bit_same _ _ _)))
  go_wp2_with fail
  go_ret
  exact ⟨by rw [HR.out]; rfl, below_drewN ((Below.refl _ _).alloc (Nat.le_refl _) _) _⟩
theorem connectFlags_is (p : Pk) (a : Ad) (R : Int) (w : World) (h0 : 0 ≤ p.w.q) (h3 : p.w.q ≤ 3) (hR : loginZ p = R) :
    Calls Tryz.prog 112 #[.agg (pkArr p a)] w fun e w' => e = .returned (.int .i64 R) ∧ Below w.heap.size w w' := by
  have HR : Hid (R = bitZ p.clean 2 + bitZ p.w.has 4 + 8 * p.w.q + bitZ p.w.ret 32 + bitZ p.hp 64 + bitZ p.hu 128) := hR.symm
  clear hR
  have r1 := bit_range p.clean (n := 2) (by omega)
  have r2 := bit_range p.w.has (n := 4) (by omega)
  have r3 := bit_range p.w.ret (n := 32) (by omega)
  have r4 := bit_range p.hp (n := 64) (by omega)
  have r5 := bit_range p.hu (n := 128) (by omega)
  have z1 : IntKind.i64.wrap (8 * p.w.q) = 8 * p.w.q := IntWalk.i64_in _ (by omega)
  have z2 : IntKind.i64.wrap (bitZ p.clean 2 + bitZ p.w.has 4) = bitZ p.clean 2 + bitZ p.w.has 4 := IntWalk.i64_in _ (by omega)
  have z3 : IntKind.i64.wrap (bitZ p.clean 2 + bitZ p.w.has 4 + 8 * p.w.q) = bitZ p.clean 2 + bitZ p.w.has 4 + 8 * p.w.q := IntWalk.i64_in _ (by omega)
  have z4 : IntKind.i64.wrap (bitZ p.clean 2 + bitZ p.w.has 4 + 8 * p.w.q + bitZ p.w.ret 32) = bitZ p.clean 2 + bitZ p.w.has 4 + 8 * p.w.q + bitZ p.w.ret 32 := IntWalk.i64_in _ (by omega)
  have z5 : IntKind.i64.wrap (bitZ p.clean 2 + bitZ p.w.has 4 + 8 * p.w.q + bitZ p.w.ret 32 + bitZ p.hp 64) = bitZ p.clean 2 + bitZ p.w.has 4 + 8 * p.w.q + bitZ p.w.ret 32 + bitZ p.hp 64 := IntWalk.i64_in _ (by omega)
  have z6 : IntKind.i64.wrap (bitZ p.clean 2 + bitZ p.w.has 4 + 8 * p.w.q + bitZ p.w.ret 32 + bitZ p.hp 64 + bitZ p.hu 128) = bitZ p.clean 2 + bitZ p.w.has 4 + 8 * p.w.q + bitZ p.w.ret 32 + bitZ p.hp 64 + bitZ p.hu 128 := IntWalk.i64_in _ (by omega)
  clear r1 r2 r3 r4 r5
  have HK0 := Keep.new w 30 (pkArr p a)
  obtain ⟨W1, hW⟩ : ∃ W1, w.alloc (.cells (pkArr p a) 30) = W1 := ⟨_, rfl⟩
  rw [hW] at HK0
  unfold pkArr at hW ⊢
  have HW := Lib.hid hW
  clear hW
  go_enter Tryz.func112, Tryz.ntmps112
  go_upto_region 1 with fail
  rw [HW.out]
  generalize Value.agg _ = v0
  obtain ⟨g, hg⟩ : ∃ g, w.heap.size = g := ⟨_, rfl⟩
  rw [hg] at HK0 ⊢
  have HK := Lib.hid HK0
  clear HW HK0
  have c12 := HK.out.f12
  have c14 := HK.out.f14
  have c15 := HK.out.f15
  have c16 := HK.out.f16
  have c17 := HK.out.f17
  have c18 := HK.out.f18
  have c19 := HK.out.f19
  have c20 := HK.out.f20
  have c22 := HK.out.f22
  have hk2 := HK.out.below ((Below.refl W1.heap.size W1).alloc (Nat.le_refl _) (.cells (wlArr p.w a.wa a.wc) 28))
  have hb2 := Box.new W1 28 (wlArr p.w a.wa a.wc)
  obtain ⟨W2, h2⟩ : ∃ W2, W1.alloc (.cells (wlArr p.w a.wa a.wc) 28) = W2 := ⟨_, rfl⟩
  rw [h2] at hk2 hb2
  unfold wlArr at h2
  have H2 := Lib.hid h2
  clear h2
  go_upto_region 2 with fail
  rw [H2.out]
  obtain ⟨h, hh⟩ : ∃ h, W1.heap.size = h := ⟨_, rfl⟩
  rw [hh] at hb2 ⊢
  have HK2 := Lib.hid hk2
  have HB2 := Lib.hid hb2
  clear hk2 hb2 H2 HK c12 c14 c15 c16 c17 c18 c19 c20 c22 hh
  have c12 := HK2.out.f12
  have c20 := HK2.out.f20
  have c22 := HK2.out.f22
  have d0 : W2.cell? ⟨h, 0, none⟩ = some (.bool p.w.has) := HB2.out.cell 0
  have d1 : W2.cell? ⟨h, 1, none⟩ = some (.int .i64 p.w.q) := HB2.out.cell 1
  have d2 : W2.cell? ⟨h, 2, none⟩ = some (.bool p.w.ret) := HB2.out.cell 2
  go_quiet ((go_at_call 82; exact Calls.quiet_of_same (bit_same _ _ _)))
  go_wp2_with fail
  go_ret
  exact ⟨by rw [HR.out]; rfl, below_drewN HK2.out.out.2 _⟩
open Go.RowKit
structure In (S : World → Prop) where
  w : World
  h : S w
theorem cls_of {S : World → Prop} {w : World} (h : S w) : ∃ u : In S, w = u.w := ⟨⟨w, h⟩, rfl⟩
theorem in_call {P : Program} {f : FuncId} {args : Array Value} {S : World → Prop} {u : In S} {v : Value} (h : Calls P f args u.w fun e w' => e = .returned v ∧ S w') :
    Calls P f args u.w fun e w'' => e = .returned v ∧ ∃ u' : In S, w'' = u'.w := h.mono fun _ _ ⟨he, hs⟩ => ⟨he, cls_of hs⟩
theorem region_in {P : Program} {S : World → Prop} {id : Nat} {Q : Exit → Act → World → Prop} {a : Act} {w : World} {l : List Oper} (hm : P.follows .mixedOrders = true) (hB : Region.lexB .any l.toArray = true) (h0 : S (w.drewN 1))
    (h : wpQuiet P l.toArray (fun w' => ∃ u : In S, w' = u.w) (fun a' => ∀ w', (∃ u : In S, w' = u.w) → Q .normal a' w') l a) : (Code.region id l.toArray true).wp P Q a w :=
  wp_region_quiet (C := fun w' => ∃ u : In S, w' = u.w) hm hB ⟨⟨_, h0⟩, rfl⟩ (by simpa using h)
open Go.RowKit
theorem quiet_load {P : Program} {o : Oper} {a : Act} {C : World → Prop} {K : Act → Prop} (ty : TypeId) (x : Operand) (ho : o.op = .load ty x) (b off : Nat) (hx : a.eval x = .pointer (some ⟨b, off, none⟩)) (V : Value)
    (hv : ∀ w, C w → (loadVar ty ⟨b, off, none⟩).run P w = .ok V w) (h : K (a.put o.dst V)) : o.quiet P a C K := by
  refine ⟨V, fun w hw => ?_, h⟩
  unfold Oper.quietAt execOp
  simp only [ho, hx, Instr.loadAt, Instr.sureAddr, Sem.run_bind, Sem.run_pure, Result.andThen_ok, hv w hw]
  exact ⟨rfl, rfl⟩
theorem quiet_load_in {P : Program} {o : Oper} {a : Act} {S : World → Prop} {K : Act → Prop} (ty : TypeId) (x : Operand) (ho : o.op = .load ty x) (b off : Nat) (hx : a.eval x = .pointer (some ⟨b, off, none⟩)) (V : Value)
    (hv : ∀ u : In S, (loadVar ty ⟨b, off, none⟩).run P u.w = .ok V u.w) (h : K (a.put o.dst V)) : o.quiet P a (fun w' => ∃ u : In S, w' = u.w) K :=
  quiet_load ty x ho b off hx V (fun w ⟨u, hu⟩ => by rw [hu]; exact hv u) h
theorem wp_load_one {P : Program} {op : Oper} {a : Act} {w : World} {K : Act → World → Prop} {Q : Exit → Act → World → Prop} (ty : TypeId) (x : Operand) (ho : op.op = .load ty x) (b off : Nat) (hx : a.eval x = .pointer (some ⟨b, off, none⟩)) (V : Value)
    (hv : (loadVar ty ⟨b, off, none⟩).run P w = .ok V w) (h : K (a.put op.dst V) w) : op.wp P a w K Q := by
  unfold Oper.wp execOp
  simp only [ho, hx, Instr.loadAt, Instr.sureAddr, Sem.run_bind, Sem.run_pure, Result.andThen_ok, hv]
  exact h
theorem wpList_load_one {P : Program} {ops : Array Oper} {rest : List Oper} {op : Oper} {a : Act} {w : World} {Q : Exit → Act → World → Prop} (hgd : op.guard = none) (ty : TypeId) (x : Operand) (ho : op.op = .load ty x) (b off : Nat)
    (hx : a.eval x = .pointer (some ⟨b, off, none⟩)) (V : Value) (hv : (loadVar ty ⟨b, off, none⟩).run P w = .ok V w) (h : wpList P ops Q rest (a.put op.dst V) w) : wpList P ops Q (op :: rest) a w :=
  wpList_plain hgd fun _ hK => wp_load_one ty x ho b off hx V hv (hK _ _ h)
open Go.RowKit Go.Lib Prp Pkt
theorem info_pk : (Tryz.prog.info? 30).map (·.size) = some 25 := by kernel_rfl
theorem load_pk {w W : World} {g : Nat} {p : Pk} {a : Ad} (h : Keep w g (pkArr p a) W) : (loadVar 30 ⟨g, 0, none⟩).run Tryz.prog W = .ok (.agg (pkArr p a)) W :=
  run_loadVar_mid W g 0 30 (pkArr p a).toList _ (fun j v hv => by rw [Nat.zero_add, h.cell j]; rw [← hv]; simp) Tryz.underlying30 rfl info_pk
def eqF (x y : Fl) : Bool := decide (x.t = y.t ∧ x.q = y.q ∧ x.nl = y.nl ∧ x.ar = y.ar ∧ x.h = y.h)
theorem eql_fils (t t' : ByteArray) (q q' h h' : Int) (n n' r r' : Bool) (w : World) :
    (binOp .eql 77 (.agg #[.string t, .int .i64 q, .bool n, .bool r, .int .i64 h]) (.agg #[.string t', .int .i64 q', .bool n', .bool r', .int .i64 h'])).run Tryz.prog w = .ok (.bool (eqF ⟨t, q, n, r, h⟩ ⟨t', q', n', r', h'⟩)) w := by
  rw [run_eql_struct]
  unfold eqF
  by_cases h1 : t = t' <;> by_cases h2 : q = q' <;> by_cases h3 : n = n' <;> by_cases h4 : r = r' <;> by_cases h5 : h = h' <;> (try go_simp)
  all_goals simp [h1, toList_eq_iff]
theorem eqF_only (f : Fl) : eqF f ⟨f.t, 0, false, false, 0⟩ = onlyB f := by
  unfold eqF onlyB
  obtain ⟨t, q, n, r, h⟩ := f
  cases n <;> cases r <;> simp
theorem mayAsk_is (p : Pk) (a : Ad) (b : Bool) (w : World) (hm : p.fs.length ≤ 9223372036854775807) (h : PkAt w w.heap.size p a) (hb : askB p = b) :
    Calls Tryz.prog 76 #[.agg (pkArr p a)] w fun e w' => e = .returned (.bool b) ∧ Below w.heap.size w w' := by
  have H := Lib.hid h
  obtain ⟨y, hy⟩ : ∃ y, countB p.fs.length = y := ⟨_, rfl⟩
  have HC := Lib.hid (fun W => isCount_is p.fs.length y W hy)
  have HB : Hid (b = (p.fs.all (fun f => mayFilB f && (decide (p.kind ≠ 10) || onlyB f)) && y)) := by show _ = _; rw [← hb, ← hy]; rfl
  clear h hb hy
  have HK0 := Keep.new w 30 (pkArr p a)
  obtain ⟨W1, hW⟩ : ∃ W1, w.alloc (.cells (pkArr p a) 30) = W1 := ⟨_, rfl⟩
  rw [hW] at HK0
  unfold pkArr at hW ⊢
  have HW := Lib.hid hW
  clear hW
  go_enter Tryz.func76, Tryz.ntmps76
  go_upto_region 1 with fail
  rw [HW.out]
  generalize Value.agg _ = v0
  obtain ⟨g, hg⟩ : ∃ g, w.heap.size = g := ⟨_, rfl⟩
  rw [hg] at HK0 ⊢
  have HK := Lib.hid (KP.new HK0 H.out)
  clear HW HK0 H
  have c10 := HK.out.k.f10
  go_wp2_with fail
  clear c10
  go_loopw [9] (fun i wr => ∃ k : Nat, k ≤ p.fs.length ∧ i = .int .i64 (k : Int) ∧ KP w g p a wr ∧ p.fs.all (fun f => mayFilB f && (decide (p.kind ≠ 10) || onlyB f)) = (p.fs.drop k).all (fun f => mayFilB f && (decide (p.kind ≠ 10) || onlyB f))) (fun i _ => p.fs.length - (RowKit.intOf i).toNat)
  case atStart => exact ⟨0, Nat.zero_le _, rfl, HK.out, by rw [List.drop_zero]⟩
  case round =>
    obtain ⟨k, hk, rfl, hst, hall⟩ := hrel
    have HT := Lib.hid hst
    have HA := Lib.hid hall
    clear hst hall HK
    by_cases hlt : k < p.fs.length
    · have HN : Hid (p.fs.all (fun f => mayFilB f && (decide (p.kind ≠ 10) || onlyB f)) = ((mayFilB p.fs[k] && (decide (p.kind ≠ 10) || onlyB p.fs[k])) && (p.fs.drop (k + 1)).all (fun f => mayFilB f && (decide (p.kind ≠ 10) || onlyB f)))) := by
        show _ = _
        rw [HA.out, List.drop_eq_getElem_cons hlt, List.all_cons]
      obtain ⟨b0, o, hAd, hb0, hc⟩ := HT.out.out.2.fs.some_ (by omega)
      obtain ⟨d0, d1, d2, d3, d4⟩ := hc k hlt
      clear hc
      obtain ⟨f, hf⟩ : ∃ f, p.fs[k] = f := ⟨_, rfl⟩
      rw [hf] at d0 d1 d2 d3 d4 HN
      have HAd := Lib.hid hAd
      clear hf HA hAd
      have heq := eql_fils f.t f.t f.q 0 f.h 0 f.nl false f.ar false
      rw [show eqF ⟨f.t, f.q, f.nl, f.ar, f.h⟩ ⟨f.t, 0, false, false, 0⟩ = onlyB f from eqF_only f] at heq
      obtain ⟨x, hx⟩ : ∃ x, mayFilB f = x := ⟨_, rfl⟩
      have HM := Lib.hid (fun W => mayFilter_is f x W hx)
      obtain ⟨z, hz⟩ : ∃ z, onlyB f = z := ⟨_, rfl⟩
      rw [hz] at heq
      rw [hx, hz] at HN
      have hkI : (k : Int) < (p.fs.length : Int) := by omega
      have HT1 := HT.out.alloc (.cells #[.string f.t, .int .i64 f.q, .bool f.nl, .bool f.ar, .int .i64 f.h] 77)
      clear hx hz
      rw [HAd.out]
      cases z
      all_goals go_wp2_with (go_at_call 104; refine (HM.out _).mono ?_; rintro e w1 ⟨rfl, hb1⟩; have ht := HT1.below hb1; have k0 := ht.k.f0)
      all_goals first
        | (go_ret; exact ⟨by rw [HB.out, HN.out]; simp [*], ht.b⟩)
        | (go_roundw
           case rel => exact ⟨k + 1, hlt, by go_num, ht, by rw [HN.out]; simp [*]⟩
           case measure => simp [RowKit.intOf]; omega)
    · obtain rfl : k = p.fs.length := by omega
      have HN : Hid (b = y) := by
        show _ = _
        rw [HB.out, HA.out, List.drop_length]; rfl
      have c10 := HT.out.k.f10
      clear HA HB
      go_wp2_with (go_at_call 77; refine (HC.out _).mono ?_; rintro e w' ⟨rfl, rfl⟩)
      go_ret
      exact ⟨by rw [HN.out]; rfl, HT.out.b⟩
theorem fill_at {p : Pk} {R G : Int} {F : Bool} (h0 : 1 ≤ p.kind) (h1 : p.kind ≤ 15) (hR : fillZ p = R) (hG : fieldsZ p.kind = G) (hF : fieldB p = F) : (bits .andNot .i64 R G != 0) = !F := by
  have e := fill_field h0 h1 (b1 p) p.pre (b3 p) (p.id != 0) (p.re != 0) (decide (0 < p.cs.length)) (decide (0 < p.fs.length)) (decide (0 < p.ps.length))
  subst hR hG hF
  exact e
theorem may_out {p : Pk} (h : p.kind < 1 ∨ 15 < p.kind) : mayP p = false := by unfold mayP; rw [decide_eq_false (by omega)]; rfl
theorem may_field {p : Pk} (h : fieldB p = false) : mayP p = false := by unfold mayP; rw [h]; simp
theorem may_1 {p : Pk} (h : p.kind = 1) (hf : fieldB p = true) : mayP p = logInB p := by unfold mayP; rw [if_pos h, hf, decide_eq_true (by omega)]; rfl
theorem may_3 {p : Pk} (h : p.kind = 3) (hf : fieldB p = true) : mayP p = (sendB p.dup p.q && ((decide (0 < p.q) || p.id == 0) && decide ((p.b.size : Int) ≤ 1024))) := by
  have e : decide ((p.b.size : Int) ≤ 1024) = decide (p.b.size ≤ 1024) := decide_eq_decide.2 (by omega)
  rw [e]
  unfold mayP; rw [if_neg (by omega), if_pos h, hf, decide_eq_true (by omega)]; rfl
theorem may_8 {p : Pk} (h : p.kind = 8 ∨ p.kind = 10) (hf : fieldB p = true) : mayP p = askB p := by unfold mayP; rw [if_neg (by omega), if_neg (by omega), if_pos h, hf, decide_eq_true (by omega)]; rfl
theorem may_9 {p : Pk} (h : p.kind = 9 ∨ p.kind = 11) (hf : fieldB p = true) : mayP p = countB p.cs.length := by unfold mayP; rw [if_neg (by omega), if_neg (by omega), if_neg (by omega), if_pos h, hf, decide_eq_true (by omega)]; rfl
theorem may_else {p : Pk} (h0 : 1 ≤ p.kind) (h15 : p.kind ≤ 15) (h : p.kind ≠ 1 ∧ p.kind ≠ 3 ∧ p.kind ≠ 8 ∧ p.kind ≠ 10 ∧ p.kind ≠ 9 ∧ p.kind ≠ 11) (hf : fieldB p = true) : mayP p = true := by
  unfold mayP; rw [if_neg (by omega), if_neg (by omega), if_neg (by omega), if_neg (by omega), hf, decide_eq_true (by omega)]; rfl
open Go.RowKit Go.Lib Prp
theorem info_prop : (Tryz.prog.info? 103).map (fun i => (i.zero, i.size, i.bytes)) = some (some (.agg #[.int .i64 0, .int .i64 0, .string ⟨#[]⟩, .string ⟨#[]⟩]), 4, 48) := by kernel_rfl
theorem cells_new (w : World) (T : TypeId) (cs : List Value) (j : Nat) (u : Value) (h : cs[j]? = some u) : (w.alloc (.cells cs.toArray T)).cell? ((⟨w.heap.size, 0, none⟩ : Addr).add j) = some u := by
  rw [add_new, cell_of_row (w.alloc _) w.heap.size j _ _ (0, 0) (heap_alloc_new w _)]
  simpa using h
theorem one_cells (p : P) : ∀ u ∈ pcells p, u.oneCell' = true := by
  intro u hu
  unfold pcells at hu
  simp at hu
  rcases hu with rfl | rfl | rfl | rfl <;> rfl
def upTo (l : List P) (k : Nat) : Nat := l.length + ((l.take k).map fun p => p.s.size + p.v.size).sum
theorem upTo_zero (l : List P) : upTo l 0 = l.length := by unfold upTo; rw [List.take_zero]; rfl
theorem upTo_step {l : List P} {k : Nat} (hk : k < l.length) : upTo l (k + 1) = upTo l k + (l[k].s.size + l[k].v.size) := by
  unfold upTo
  rw [List.take_succ_eq_append_getElem hk, List.map_append, List.sum_append]
  simp
  omega
def Weighs (l : List P) (w : World) (e : Ending) (w' : World) : Prop := ∃ m : Nat, e = .returned (.int .i64 (m : Int)) ∧ (m ≤ 10000 → m = upTo l l.length) ∧ m ≤ 9223372036854775807 ∧ ∃ n, w' = w.drewN n
theorem PropsWeight_is (l : List P) (A : Option Addr) (c B : Nat) (w : World) (hm : l.length ≤ 9223372036854775807) (hfit : ∀ p ∈ l, Fit p) (h : PropsAt w B A l) :
    Calls Tryz.prog 71 #[.slice A l.length c] w (Weighs l w) := by
  have H := Lib.hid h
  have HF := Lib.hid hfit
  clear h hfit
  go_enter Tryz.func71, Tryz.ntmps71
  go_wp2_with fail
  go_loopw [3, 4] (fun m i wr => ∃ k n : Nat, k ≤ l.length ∧ i = .int .i64 (k : Int) ∧ m = .int .i64 ((upTo l k : Nat) : Int) ∧ upTo l k ≤ 9223372036854775807 ∧ wr = w.drewN n) (fun _ i _ => l.length - (RowKit.intOf i).toNat)
  case atStart => exact ⟨0, 0, Nat.zero_le _, rfl, by rw [upTo_zero], by rw [upTo_zero]; exact hm, rfl⟩
  case round =>
    obtain ⟨k, n, hk, rfl, rfl, hb, rfl⟩ := hrel
    by_cases hlt : k < l.length
    · by_cases hgo : upTo l k < 1048576
      · obtain ⟨b0, o, rfl, _, hc⟩ := H.out.some_ (by omega)
        obtain ⟨d0, d1, d2, d3⟩ := hc k hlt
        have hf := HF.out _ (List.getElem_mem hlt)
        have HU := Lib.hid (upTo_step hlt)
        have hs := hf.hs
        have hv := hf.hv
        clear hc d0 d1 hf
        obtain ⟨q, hq⟩ : ∃ q, l[k] = q := ⟨_, rfl⟩
        rw [hq] at d2 d3 hs hv HU
        clear hq
        obtain ⟨U, hU⟩ : ∃ U, upTo l k = U := ⟨_, rfl⟩
        rw [hU] at HU hgo hb ⊢
        clear hU
        have hkI : (k : Int) < (l.length : Int) := by omega
        have hgI : (U : Int) < 1048576 := by omega
        go_wp2
        go_quiet (fail)
        go_wp2
        go_roundw
        case rel => exact ⟨k + 1, _, hlt, by go_num, by rw [HU.out]; go_num, by rw [HU.out]; omega, rfl⟩
        case measure => simp [RowKit.intOf]; omega
      · obtain ⟨U, hU⟩ : ∃ U, upTo l k = U := ⟨_, rfl⟩
        rw [hU] at hgo hb ⊢
        have hd : decide ((U : Int) < 1048576) = false := by simp; omega
        clear hU
        go_wp2
        go_ret
        exact ⟨U, rfl, fun e => by omega, hb, n, rfl⟩
    · obtain rfl : k = l.length := by omega
      obtain ⟨U, hU⟩ : ∃ U, upTo l l.length = U := ⟨_, rfl⟩
      rw [hU] at hb ⊢
      have HU := Lib.hid hU
      clear hU
      go_wp2
      go_ret
      exact ⟨U, rfl, fun _ => HU.out.symm, hb, n, rfl⟩
open Go.RowKit
section
variable {P : Program} {ops : Array Oper} {Q : Exit → Act → World → Prop} {S : World → Prop}
def takeB (ops : Array Oper) (listed : Array Bool) (i : Nat) : Bool := Region.noSelect ops && (Region.free .any ops listed i && (Region.ready .any ops listed).contains i)
theorem take_op {fuel : Nat} {listed : Array Bool} {a : Act} {w : World} (i d : Nat) {oi : Oper} (v : Value) (hd : oi.dst = some d) (hi : ops[i]? = some oi) (hc : takeB ops listed i = true) (hQ : ∀ c a w, Q (.panic c) (a.put oi.dst v) w → Q (.panic c) a w)
    (hw : Region.wanted oi (yielded ops a.tmps) = true) (hS : S w) (hv : ∀ w, S w → (execOp a.eval oi).run P w = .ok (.value v) w)
    (h : wpAnyH P .any ops Q S fuel (listed.setIfInBounds i true) (a.put (some d) v) w) : wpAnyH P .any ops Q S (fuel + 1) listed a w := by
  rw [← hd] at h
  unfold takeB at hc
  simp only [Bool.and_eq_true] at hc
  exact wpAnyH_take hi hc.1 hc.2.1 hc.2.2 hQ (.inl ⟨hw, hv⟩) hS h
theorem take_load {fuel : Nat} {listed : Array Bool} {a : Act} {w : World} (i d : Nat) {oi : Oper} (ty : TypeId) (x : Operand) (b off : Nat) (V : Value) (hd : oi.dst = some d) (hi : ops[i]? = some oi) (hc : takeB ops listed i = true) (hQ : ∀ c a w, Q (.panic c) (a.put oi.dst V) w → Q (.panic c) a w)
    (hw : Region.wanted oi (yielded ops a.tmps) = true) (hS : S w) (ho : oi.op = .load ty x) (hx : a.eval x = .pointer (some ⟨b, off, none⟩)) (hv : ∀ w, S w → (loadVar ty ⟨b, off, none⟩).run P w = .ok V w)
    (h : wpAnyH P .any ops Q S fuel (listed.setIfInBounds i true) (a.put (some d) V) w) : wpAnyH P .any ops Q S (fuel + 1) listed a w :=
  take_op i d V hd hi hc hQ hw hS (fun w' hS' => by
    unfold execOp
    simp only [ho, hx, Instr.loadAt, Instr.sureAddr, Sem.run_bind, Sem.run_pure, Result.andThen_ok, hv w' hS']) h
theorem only_op {fuel : Nat} {listed : Array Bool} {a : Act} {w : World} (i : Nat) {oi : Oper} (hi : ops[i]? = some oi) (hr : Region.ready .any ops listed = [i]) (hw : Region.wanted oi (yielded ops a.tmps) = true)
    (h : Oper.wp P oi a w (fun a' w' => S w' ∧ wpAnyH P .any ops Q S fuel (listed.setIfInBounds i true) a' w') Q) : wpAnyH P .any ops Q S (fuel + 1) listed a w := by
  refine wpAnyH_all (rs := [i]) hr (by simp) fun j hj => ?_
  rw [List.mem_singleton] at hj
  subst hj
  exact wpOp_step hi (fun K' hK => by
    rw [if_pos hw]
    exact Oper.wp_mono (fun a' w' h' => hK a' w' h') h)
theorem two_ops {fuel : Nat} {listed : Array Bool} {a : Act} {w : World} (i j : Nat) {oi oj : Oper} (hi : ops[i]? = some oi) (hj : ops[j]? = some oj) (hr : Region.ready .any ops listed = [i, j]) (hw : Region.wanted oi (yielded ops a.tmps) = true) (hw2 : Region.wanted oj (yielded ops a.tmps) = true)
    (h : Oper.wp P oi a w (fun a' w' => S w' ∧ wpAnyH P .any ops Q S fuel (listed.setIfInBounds i true) a' w') Q) (h2 : Oper.wp P oj a w (fun a' w' => S w' ∧ wpAnyH P .any ops Q S fuel (listed.setIfInBounds j true) a' w') Q) : wpAnyH P .any ops Q S (fuel + 1) listed a w := by
  refine wpAnyH_all (rs := [i, j]) hr (by simp) fun k hk => ?_
  rcases List.mem_cons.1 hk with rfl | hk
  · exact wpOp_step hi (fun K' hK => by
      rw [if_pos hw]
      exact Oper.wp_mono (fun a' w' h' => hK a' w' h') h)
  · rw [List.mem_singleton] at hk
    subst hk
    exact wpOp_step hj (fun K' hK => by
      rw [if_pos hw2]
      exact Oper.wp_mono (fun a' w' h' => hK a' w' h') h2)
theorem wp_call_ex {o : Oper} {a : Act} {w : World} {K : Act → World → Prop} (d : Nat) (f : FuncId) (vs : Array Value) (R : Ending → World → Prop) (hd : o.dst = some d) (hx : (execOp a.eval o).run P w = .ok (.enter f vs) w)
    (hc : Calls P f vs w R) (h : ∀ e w', R e w' → ∃ v, e = .returned v ∧ K (a.put (some d) v) w') : Oper.wp P o a w K Q := by
  unfold Oper.wp
  rw [← hd] at h
  rw [hx]
  exact hc.mono fun e w' hR => by
    obtain ⟨v, rfl, hk⟩ := h e w' hR
    exact hk
theorem wp_call {o : Oper} {a : Act} {w : World} {K : Act → World → Prop} (d : Nat) (f : FuncId) (vs : Array Value) (v : Value) (R : World → Prop) (hd : o.dst = some d) (hx : (execOp a.eval o).run P w = .ok (.enter f vs) w)
    (hc : Calls P f vs w fun e w' => e = .returned v ∧ R w') (h : ∀ w', R w' → K (a.put (some d) v) w') : Oper.wp P o a w K Q := by
  unfold Oper.wp
  rw [← hd] at h
  rw [hx]
  exact hc.mono fun e w' ⟨he, hR⟩ => by subst he; exact h w' hR
theorem wp_made {o : Oper} {a : Act} {w w' : World} {K : Act → World → Prop} (d : Nat) (v : Value) (hd : o.dst = some d) (hx : (execOp a.eval o).run P w = .ok (.value v) w') (h : K (a.put (some d) v) w') : Oper.wp P o a w K Q := by
  unfold Oper.wp
  rw [← hd] at h
  rw [hx]
  exact h
end
end Go.Proofs.YtiancngpknnkaaaGreat
