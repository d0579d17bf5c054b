/- Package pack: the parts of a packet: a reason and properties, codes, filters. -/
import Derived.Test.YtdbbcfohjkgdcaaGreatL00
import Derived.Test.YtdbbcfohjkgdcaaGreatL07
import Derived.Test.YtdbbcfohjkgdcaaGreatL11
set_option maxRecDepth 100000
set_option maxHeartbeats 64000000
namespace Go.Proofs.YtdbbcfohjkgdcaaGreat
open Go.RowKit Go.Lib Prp Pkt
theorem bit_same (b : Bool) (n : Int) (w : World) : Calls Tryz.prog 67 #[.bool b, .int .i64 n] w fun e w' => e = .returned (.int .i64 (bitZ b n)) ∧ w' = w :=
 (bit_is b n _ w rfl).mono fun _ _ ⟨h, h2⟩ => ⟨h, h2.symm⟩
open Go.RowKit Go.Lib Prp Pkt
@[irreducible] def KP (w : World) (g : Nat) (p : Pk) (a : Ad) (W : World) : Prop := Keep w g (pkArr p a) W ∧ PkAt W w.heap.size p a
section
variable {w W W' : World} {g : Nat} {p : Pk} {a : Ad}
theorem KP.mk (h1 : Keep w g (pkArr p a) W) (h2 : PkAt W w.heap.size p a) : KP w g p a W := by unfold KP; exact ⟨h1, h2⟩
theorem KP.out (h : KP w g p a W) : Keep w g (pkArr p a) W ∧ PkAt W w.heap.size p a := by unfold KP at h; exact h
theorem KP.new (h1 : Keep w g (pkArr p a) W) (h : PkAt w w.heap.size p a) : KP w g p a W := .mk h1 (h.below h1.out.2)
theorem KP.below (h : KP w g p a W) (hb : Below W.heap.size W W') : KP w g p a W' := .mk (h.out.1.below hb) (h.out.2.below (hb.mono h.out.1.out.2.size))
theorem KP.drewN (h : KP w g p a W) (n : Nat) : KP w g p a (W.drewN n) := h.below (below_drewN (Below.refl _ _) n)
theorem KP.alloc (h : KP w g p a W) (o : Obj) : KP w g p a (W.alloc o) := h.below ((Below.refl _ _).alloc (Nat.le_refl _) o)
theorem KP.k (h : KP w g p a W) : Keep w g (pkArr p a) W := h.out.1
theorem KP.b (h : KP w g p a W) : Below w.heap.size w W := h.out.1.out.2
theorem KP.at (h : KP w g p a W) : PkAt W W.heap.size p a := h.out.2.mono h.b.size
end
theorem bit_range (b : Bool) {n : Int} (h : 0 ≤ n) : 0 ≤ bitZ b n ∧ bitZ b n ≤ n := by
 unfold bitZ; split <;> omega
theorem flagsOf_is (p : Pk) (a : Ad) (R : Int) (w : World) (h0 : 0 ≤ p.q) (h3 : p.q ≤ 3) (hR : flagsZ p = R) :
  Calls Tryz.prog 33 #[.agg (pkArr p a)] w fun e w' => e = .returned (.int .i64 R) ∧ Below w.heap.size w w' := by
 have HR := Lib.hid hR
 clear hR
 have r1 := bit_range p.dup (n := 8) (by omega)
 have r2 := bit_range p.ret (n := 1) (by omega)
 have z1 : IntKind.i64.wrap (2 * p.q) = 2 * p.q := IntWalk.i64_in _ (by omega)
 have z2 : IntKind.i64.wrap (bitZ p.dup 8 + 2 * p.q) = bitZ p.dup 8 + 2 * p.q := IntWalk.i64_in _ (by omega)
 have z3 : IntKind.i64.wrap (bitZ p.dup 8 + 2 * p.q + bitZ p.ret 1) = bitZ p.dup 8 + 2 * p.q + bitZ p.ret 1 := IntWalk.i64_in _ (by omega)
 have HK0 := Keep.new w 30 (pkArr p a)
 obtain ⟨W1, hW⟩ : ∃ W1, w.alloc (.cells (pkArr p a) 30) = W1 := ⟨_, rfl⟩
 rw [hW] at HK0
 unfold pkArr at hW ⊢
 have HW := Lib.hid hW
 clear hW
 go_enter Tryz.func33, Tryz.ntmps33
 go_upto_region 1 with fail
 rw [HW.out]
 generalize Value.agg _ = v0
 obtain ⟨g, hg⟩ : ∃ g, w.heap.size = g := ⟨_, rfl⟩
 rw [hg] at HK0 ⊢
 have HK := Lib.hid HK0
 clear HW HK0
 have c0 := HK.out.f0
 have c1 := HK.out.f1
 have c2 := HK.out.f2
 have c3 := HK.out.f3
 by_cases hk : p.kind = 6 ∨ p.kind = 8 ∨ p.kind = 10
 ·have HS : Hid (R = 2) := by show _ = _; rw [← HR.out]; unfold flagsZ; rw [if_pos hk]
  clear z1 z2 z3 r1 r2
  rcases hk with hk | hk | hk
  all_goals
   rw [hk] at c0
   clear hk
   go_wp2
   go_ret
   exact ⟨by rw [HS.out]; rfl, HK.out.out.2⟩
 ·have HS : Hid (R = bitZ p.dup 8 + 2 * p.q + bitZ p.ret 1) := by show _ = _; rw [← HR.out]; unfold flagsZ; rw [if_neg hk]
  have k6 : (p.kind == 6) = false := ne_false (by omega)
  have k8 : (p.kind == 8) = false := ne_false (by omega)
  have k10 : (p.kind == 10) = false := ne_false (by omega)
  clear hk r1 r2
  go_wp2_with fail
  go_quiet ((go_at_call 67; exact Calls.quiet_of_same (bit_same _ _ _)))
  go_wp2_with fail
  go_ret
  exact ⟨by rw [HS.out]; rfl, below_drewN HK.out.out.2 _⟩
theorem connectFlags_is (p : Pk) (a : Ad) (R : Int) (w : World) (h0 : 0 ≤ p.w.q) (h3 : p.w.q ≤ 3) (hR : loginZ p = R) :
  Calls Tryz.prog 96 #[.agg (pkArr p a)] w fun e w' => e = .returned (.int .i64 R) ∧ Below w.heap.size w w' := by
 have HR : Hid (R = bitZ p.clean 2 + bitZ p.w.has 4 + 8 * p.w.q + bitZ p.w.ret 32 + bitZ p.hp 64 + bitZ p.hu 128) := hR.symm
 clear hR
 have r1 := bit_range p.clean (n := 2) (by omega)
 have r2 := bit_range p.w.has (n := 4) (by omega)
 have r3 := bit_range p.w.ret (n := 32) (by omega)
 have r4 := bit_range p.hp (n := 64) (by omega)
 have r5 := bit_range p.hu (n := 128) (by omega)
 have z1 : IntKind.i64.wrap (8 * p.w.q) = 8 * p.w.q := IntWalk.i64_in _ (by omega)
 have z2 : IntKind.i64.wrap (bitZ p.clean 2 + bitZ p.w.has 4) = bitZ p.clean 2 + bitZ p.w.has 4 := IntWalk.i64_in _ (by omega)
 have z3 : IntKind.i64.wrap (bitZ p.clean 2 + bitZ p.w.has 4 + 8 * p.w.q) = bitZ p.clean 2 + bitZ p.w.has 4 + 8 * p.w.q := IntWalk.i64_in _ (by omega)
 have z4 : IntKind.i64.wrap (bitZ p.clean 2 + bitZ p.w.has 4 + 8 * p.w.q + bitZ p.w.ret 32) = bitZ p.clean 2 + bitZ p.w.has 4 + 8 * p.w.q + bitZ p.w.ret 32 := IntWalk.i64_in _ (by omega)
 have z5 : IntKind.i64.wrap (bitZ p.clean 2 + bitZ p.w.has 4 + 8 * p.w.q + bitZ p.w.ret 32 + bitZ p.hp 64) = bitZ p.clean 2 + bitZ p.w.has 4 + 8 * p.w.q + bitZ p.w.ret 32 + bitZ p.hp 64 := IntWalk.i64_in _ (by omega)
 have z6 : IntKind.i64.wrap (bitZ p.clean 2 + bitZ p.w.has 4 + 8 * p.w.q + bitZ p.w.ret 32 + bitZ p.hp 64 + bitZ p.hu 128) = bitZ p.clean 2 + bitZ p.w.has 4 + 8 * p.w.q + bitZ p.w.ret 32 + bitZ p.hp 64 + bitZ p.hu 128 := IntWalk.i64_in _ (by omega)
 clear r1 r2 r3 r4 r5
 have HK0 := Keep.new w 30 (pkArr p a)
 obtain ⟨W1, hW⟩ : ∃ W1, w.alloc (.cells (pkArr p a) 30) = W1 := ⟨_, rfl⟩
 rw [hW] at HK0
 unfold pkArr at hW ⊢
 have HW := Lib.hid hW
 clear hW
 go_enter Tryz.func96, Tryz.ntmps96
 go_upto_region 1 with fail
 rw [HW.out]
 generalize Value.agg _ = v0
 obtain ⟨g, hg⟩ : ∃ g, w.heap.size = g := ⟨_, rfl⟩
 rw [hg] at HK0 ⊢
 have HK := Lib.hid HK0
 clear HW HK0
 have c12 := HK.out.f12
 have c14 := HK.out.f14
 have c15 := HK.out.f15
 have c16 := HK.out.f16
 have c17 := HK.out.f17
 have c18 := HK.out.f18
 have c19 := HK.out.f19
 have c20 := HK.out.f20
 have c22 := HK.out.f22
 have hk2 := HK.out.below ((Below.refl W1.heap.size W1).alloc (Nat.le_refl _) (.cells (wlArr p.w a.wa a.wc) 28))
 have hb2 := Box.new W1 28 (wlArr p.w a.wa a.wc)
 obtain ⟨W2, h2⟩ : ∃ W2, W1.alloc (.cells (wlArr p.w a.wa a.wc) 28) = W2 := ⟨_, rfl⟩
 rw [h2] at hk2 hb2
 unfold wlArr at h2
 have H2 := Lib.hid h2
 clear h2
 go_upto_region 2 with fail
 rw [H2.out]
 obtain ⟨h, hh⟩ : ∃ h, W1.heap.size = h := ⟨_, rfl⟩
 rw [hh] at hb2 ⊢
 have HK2 := Lib.hid hk2
 have HB2 := Lib.hid hb2
 clear hk2 hb2 H2 HK c12 c14 c15 c16 c17 c18 c19 c20 c22 hh
 have c12 := HK2.out.f12
 have c20 := HK2.out.f20
 have c22 := HK2.out.f22
 have d0 : W2.cell? ⟨h, 0, none⟩ = some (.bool p.w.has) := HB2.out.cell 0
 have d1 : W2.cell? ⟨h, 1, none⟩ = some (.int .i64 p.w.q) := HB2.out.cell 1
 have d2 : W2.cell? ⟨h, 2, none⟩ = some (.bool p.w.ret) := HB2.out.cell 2
 go_quiet ((go_at_call 67; exact Calls.quiet_of_same (bit_same _ _ _)))
 go_wp2_with fail
 go_ret
 exact ⟨by rw [HR.out]; rfl, below_drewN HK2.out.out.2 _⟩
open Go.RowKit Go.Lib Prp Pkt Vbi Txt
def PV (W : World) (B : Nat) (v : Value) : Part → Prop
 | .octet n => v = .iface 110 (.int .i64 n)
 | .short n => v = .iface 134 (.int .i64 n) ∧ n ≤ 9223372036854775807
 | .number n => v = .iface 115 (.int .i64 n) ∧ n ≤ 9223372036854775807
 | .words s => v = .iface 114 (.string s) ∧ s.size ≤ 140737488351232
 | .sized s => v = .iface 139 (.string s) ∧ s.size ≤ 140737488351232
 | .props k l => ∃ A c, v = .iface 113 (.agg #[.int .i64 k, .slice A l.length c]) ∧ PropsAt W B A l ∧ l.length ≤ 9223372036854775807 ∧ l.length ≤ c ∧ ∀ p ∈ l, Fit p
 | .raw s => v = .iface 9 (.string s) ∧ s.size ≤ 140737488351232
theorem PV.below {W W' : World} {B : Nat} {v : Value} {x : Part} (h : PV W B v x) (hb : Below B W W') : PV W' B v x := by
 cases x with
 | props k l =>
  obtain ⟨A, c, h1, h2, h3⟩ := h
  exact ⟨A, c, h1, h2.below hb, h3⟩
 | _ => exact h
theorem PV.mono {W : World} {B B' : Nat} {v : Value} {x : Part} (h : PV W B v x) (hB : B ≤ B') : PV W B' v x := by
 cases x with
 | props k l =>
  obtain ⟨A, c, h1, h2, h3⟩ := h
  exact ⟨A, c, h1, h2.mono hB, h3⟩
 | _ => exact h
theorem PV.one {W : World} {B : Nat} {v : Value} {x : Part} (h : PV W B v x) : v.oneCell' = true := by
 cases x with
 | octet n => obtain rfl := h; rfl
 | short n => obtain ⟨rfl, _⟩ := h; rfl
 | number n => obtain ⟨rfl, _⟩ := h; rfl
 | words s => obtain ⟨rfl, _⟩ := h; rfl
 | sized s => obtain ⟨rfl, _⟩ := h; rfl
 | props k l => obtain ⟨A, c, rfl, _⟩ := h; rfl
 | raw s => obtain ⟨rfl, _⟩ := h; rfl
open Go.RowKit Go.Lib Prp Pkt Vbi Txt
def Row (W : World) (B : Nat) (A : Option Addr) (vs : List Value) : Prop := vs = [] ∨ ∃ a, A = some a ∧ a.block < B ∧ ∀ j (h : j < vs.length), W.cell? (a.add j) = some vs[j]
def PartsAt (W : World) (B C : Nat) (A : Option Addr) (l : List Part) : Prop := ∃ vs : List Value, vs.length = l.length ∧ Row W B A vs ∧ ∀ j (h : j < vs.length) (h2 : j < l.length), PV W C vs[j] l[j]
section
variable {W W' : World} {B B' C : Nat} {A : Option Addr} {vs : List Value} {l : List Part}
theorem Row.some_ (h : Row W B A vs) (hl : 0 < vs.length) : ∃ a, A = some a ∧ a.block < B ∧ ∀ j (h : j < vs.length), W.cell? (a.add j) = some vs[j] := by
 rcases h with rfl | h
 ·simp at hl
 ·exact h
theorem Row.below (h : Row W B A vs) (hb : Below B W W') : Row W' B A vs := by
 rcases h with h | ⟨a, h1, h2, h3⟩
 ·exact .inl h
 ·exact .inr ⟨a, h1, h2, fun j hj => by rw [hb.cell (p := a.add j) (by rw [add_block]; exact h2)]; exact h3 j hj⟩
theorem Row.mono (h : Row W B A vs) (hB : B ≤ B') : Row W B' A vs := by
 rcases h with h | ⟨a, h1, h2, h3⟩
 ·exact .inl h
 ·exact .inr ⟨a, h1, Nat.lt_of_lt_of_le h2 hB, h3⟩
theorem PartsAt.below (h : PartsAt W B C A l) (hC : C ≤ B) (hb : Below B W W') : PartsAt W' B C A l := by
 obtain ⟨vs, h1, h2, h3⟩ := h
 exact ⟨vs, h1, h2.below hb, fun j x y => (h3 j x y).below (hb.mono hC)⟩
theorem PartsAt.mono (h : PartsAt W B C A l) (hB : B ≤ B') : PartsAt W B' C A l := by
 obtain ⟨vs, h1, h2, h3⟩ := h
 exact ⟨vs, h1, h2.mono hB, h3⟩
theorem PartsAt.at (h : PartsAt W B C A l) (k : Nat) (hk : k < l.length) : ∃ a v, A = some a ∧ a.block < B ∧ W.cell? (a.add k) = some v ∧ PV W C v l[k] := by
 obtain ⟨vs, h1, h2, h3⟩ := h
 obtain ⟨a, hA, hb, hc⟩ := h2.some_ (by omega)
 exact ⟨a, vs[k]'(by omega), hA, hb, hc k (by omega), h3 k (by omega) hk⟩
end
@[irreducible] def PSt (w : World) (A : Option Addr) (l : List Part) (b : Nat) (S : ByteArray) (W : World) : Prop := Built w.heap.size b S W ∧ PartsAt W w.heap.size w.heap.size A l ∧ Below w.heap.size w W
section
variable {w W W' : World} {A : Option Addr} {l : List Part} {b : Nat} {S T : ByteArray}
theorem PSt.mk (h1 : Built w.heap.size b S W) (h2 : PartsAt W w.heap.size w.heap.size A l) (h3 : Below w.heap.size w W) : PSt w A l b S W := by unfold PSt; exact ⟨h1, h2, h3⟩
theorem PSt.out (h : PSt w A l b S W) : Built w.heap.size b S W ∧ PartsAt W w.heap.size w.heap.size A l ∧ Below w.heap.size w W := by unfold PSt at h; exact h
theorem PSt.below (h : PSt w A l b S W) (hb : Below W.heap.size W W') : PSt w A l b S W' :=
 .mk (h.out.1.below hb) (h.out.2.1.below (Nat.le_refl _) (hb.mono h.out.2.2.size)) (h.out.2.2.trans (hb.mono h.out.2.2.size))
end
open Go.RowKit Go.Lib Prp Pkt Vbi Txt
def OwnParts (W : World) (base C : Nat) (v : Value) (l : List Part) : Prop := ∃ vs : List Value, vs.length = l.length ∧ W.ownsRow base 20 1 v l.length vs ∧ ∀ j (_ : j < vs.length) (_ : j < l.length), PV W C vs[j] l[j]
section
variable {W W' : World} {base C B : Nat} {v : Value} {l : List Part}
theorem OwnParts.nil (W : World) (base C : Nat) : OwnParts W base C (.slice none 0 0) [] := ⟨[], rfl, World.ownsRow_nil _ _ _ _, fun j h => by simp at h⟩
theorem OwnParts.below (h : OwnParts W base C v l) (hC : C ≤ W.heap.size) (hb : Below W.heap.size W W') : OwnParts W' base C v l := by
 obtain ⟨vs, h1, h2, h3⟩ := h
 exact ⟨vs, h1, own_below h2 hb, fun j x y => (h3 j x y).below (hb.mono hC)⟩
end
end Go.Proofs.YtdbbcfohjkgdcaaGreat
