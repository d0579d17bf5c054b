/- The document's own reader: a text, or bytes, behind their length. -/
import Derived.Test.YtdbbcfohjkgdcaaGreatL00
import Derived.Test.YtdbbcfohjkgdcaaGreatL10
import Derived.Test.YtdbbcfohjkgdcaaGreatL12
set_option maxRecDepth 100000
set_option maxHeartbeats 64000000
namespace Go.Proofs.YtdbbcfohjkgdcaaGreat
open Go.RowKit Go.Lib Prp Pkt
theorem EqNumbers_same (l : List Int) (A A' : Option Addr) (c c' B B' : Nat) (w : World) (hm : l.length ≤ 9223372036854775807) (h : Nums w B .i64 A l) (h' : Nums w B' .i64 A' l) :
  Calls Tryz.prog 43 #[.slice A l.length c, .slice A' l.length c'] w fun e w' => e = .returned (.bool true) ∧ ∃ n, w' = w.drewN n := by
 have H := Lib.hid h
 have H' := Lib.hid h'
 clear h h'
 go_enter Tryz.func43, Tryz.ntmps43
 go_wp2_with fail
 go_loopw [5] (fun i wr => ∃ k n : Nat, k ≤ l.length ∧ i = .int .i64 (k : Int) ∧ wr = w.drewN n) (fun i _ => l.length - (RowKit.intOf i).toNat)
 case atStart => exact ⟨0, 0, Nat.zero_le _, rfl, rfl⟩
 case round =>
  obtain ⟨k, n, hk, rfl, rfl⟩ := hrel
  by_cases hlt : k < l.length
  ·obtain ⟨a, rfl, _, hc⟩ := H.out.some_ (by omega)
   obtain ⟨a', rfl, _, hc'⟩ := H'.out.some_ (by omega)
   have h1 := hc k hlt
   have h2 := hc' k hlt
   clear hc hc' H H'
   obtain ⟨x, hx⟩ : ∃ x, l.getD k 0 = x := ⟨_, rfl⟩
   rw [hx] at h1 h2
   clear hx
   have hkI : (k : Int) < (l.length : Int) := by omega
   go_wp2
   go_quiet (fail)
   go_wp2
   go_roundw
   case rel => exact ⟨k + 1, _, hlt, by go_num, rfl⟩
   case measure => simp [RowKit.intOf]; omega
  ·go_wp2
   go_ret
   exact ⟨rfl, n, rfl⟩
theorem neq_fil (f : Fl) (w : World) : (binOp .neq 75 (.agg #[.string f.t, .int .i64 f.q, .bool f.nl, .bool f.ar, .int .i64 f.h]) (.agg #[.string f.t, .int .i64 f.q, .bool f.nl, .bool f.ar, .int .i64 f.h])).run Tryz.prog w = .ok (.bool false) w := by
 rw [run_neq_struct]
 go_simp
theorem EqFilters_same (l : List Fl) (A A' : Option Addr) (c c' B B' : Nat) (w : World) (hm : l.length ≤ 9223372036854775807) (h : FilsAt w B A l) (h' : FilsAt w B' A' l) :
  Calls Tryz.prog 44 #[.slice A l.length c, .slice A' l.length c'] w fun e w' => e = .returned (.bool true) ∧ ∃ n, w' = w.drewN n := by
 have H := Lib.hid h
 have H' := Lib.hid h'
 clear h h'
 go_enter Tryz.func44, Tryz.ntmps44
 go_wp2_with fail
 go_loopw [5] (fun i wr => ∃ k n : Nat, k ≤ l.length ∧ i = .int .i64 (k : Int) ∧ wr = w.drewN n) (fun i _ => l.length - (RowKit.intOf i).toNat)
 case atStart => exact ⟨0, 0, Nat.zero_le _, rfl, rfl⟩
 case round =>
  obtain ⟨k, n, hk, rfl, rfl⟩ := hrel
  by_cases hlt : k < l.length
  ·obtain ⟨b, o, rfl, _, hc⟩ := H.out.some_ (by omega)
   obtain ⟨b', o', rfl, _, hc'⟩ := H'.out.some_ (by omega)
   have h1 := hc k hlt
   have h2 := hc' k hlt
   clear hc hc' H H'
   obtain ⟨f, hf⟩ : ∃ f, l[k] = f := ⟨_, rfl⟩
   rw [hf] at h1 h2
   clear hf
   obtain ⟨c0, c1, c2, c3, c4⟩ := h1
   obtain ⟨d0, d1, d2, d3, d4⟩ := h2
   have hkI : (k : Int) < (l.length : Int) := by omega
   have hne := neq_fil f
   go_wp2
   go_quiet (fail)
   go_wp2
   go_roundw
   case rel => exact ⟨k + 1, _, hlt, by go_num, rfl⟩
   case measure => simp [RowKit.intOf]; omega
  ·go_wp2
   go_ret
   exact ⟨rfl, n, rfl⟩
open Go.RowKit Go.Lib Prp Pkt Vbi Txt
theorem rbit_is (b : Bool) (R : Int) (w : World) (hR : bitZ b 1 = R) :
  Calls Tryz.prog 77 #[.bool b] w fun e w' => e = .returned (.int .i64 R) ∧ w = w' := by
 cases b with
 | true =>
  obtain rfl : 1 = R := hR
  go_enter Tryz.func77, Tryz.ntmps77
  go_wp2
  go_ret
  exact ⟨rfl, rfl⟩
 | false =>
  obtain rfl : 0 = R := hR
  go_enter Tryz.func77, Tryz.ntmps77
  go_wp2
  go_ret
  exact ⟨rfl, rfl⟩
theorem rbit_same (b : Bool) (w : World) : Calls Tryz.prog 77 #[.bool b] w fun e w' => e = .returned (.int .i64 (bitZ b 1)) ∧ w' = w :=
 (rbit_is b _ w rfl).mono fun _ _ ⟨h, h2⟩ => ⟨h, h2.symm⟩
def rflagsZ (p : Pk) : Int := if p.kind = 3 then 8 * bitZ p.dup 1 + 2 * p.q + bitZ p.ret 1 else if p.kind = 6 ∨ p.kind = 8 ∨ p.kind = 10 then 2 else 0
theorem rflags_is (p : Pk) (a : Ad) (R : Int) (w : World) (h0 : 0 ≤ p.q) (h3 : p.q ≤ 3) (hR : rflagsZ p = R) :
  Calls Tryz.prog 41 #[.agg (pkArr p a)] w fun e w' => e = .returned (.int .i64 R) ∧ Below w.heap.size w w' := by
 have HR := Lib.hid hR
 clear hR
 have r1 := bit_range p.dup (n := 1) (by omega)
 have r2 := bit_range p.ret (n := 1) (by omega)
 have z0 : IntKind.i64.wrap (8 * bitZ p.dup 1) = 8 * bitZ p.dup 1 := IntWalk.i64_in _ (by omega)
 have z1 : IntKind.i64.wrap (2 * p.q) = 2 * p.q := IntWalk.i64_in _ (by omega)
 have z2 : IntKind.i64.wrap (8 * bitZ p.dup 1 + 2 * p.q) = 8 * bitZ p.dup 1 + 2 * p.q := IntWalk.i64_in _ (by omega)
 have z3 : IntKind.i64.wrap (8 * bitZ p.dup 1 + 2 * p.q + bitZ p.ret 1) = 8 * bitZ p.dup 1 + 2 * p.q + bitZ p.ret 1 := IntWalk.i64_in _ (by omega)
 have HK0 := Keep.new w 30 (pkArr p a)
 obtain ⟨W1, hW⟩ : ∃ W1, w.alloc (.cells (pkArr p a) 30) = W1 := ⟨_, rfl⟩
 rw [hW] at HK0
 unfold pkArr at hW ⊢
 have HW := Lib.hid hW
 clear hW
 go_enter Tryz.func41, Tryz.ntmps41
 go_upto_region 1 with fail
 rw [HW.out]
 generalize Value.agg _ = v0
 obtain ⟨g, hg⟩ : ∃ g, w.heap.size = g := ⟨_, rfl⟩
 rw [hg] at HK0 ⊢
 have HK := Lib.hid HK0
 clear HW HK0
 have c0 := HK.out.f0
 have c1 := HK.out.f1
 have c2 := HK.out.f2
 have c3 := HK.out.f3
 by_cases hk3 : p.kind = 3
 ·have HS : Hid (R = 8 * bitZ p.dup 1 + 2 * p.q + bitZ p.ret 1) := by show _ = _; rw [← HR.out]; unfold rflagsZ; rw [if_pos hk3]
  have e3 : (p.kind == 3) = true := beq_iff_eq.2 hk3
  clear hk3 r1 r2
  go_wp2_with fail
  go_quiet ((go_at_call 77; exact Calls.quiet_of_same (rbit_same _ _)))
  go_wp2_with fail
  go_ret
  exact ⟨by rw [HS.out]; rfl, below_drewN HK.out.out.2 _⟩
 have e3 : (p.kind == 3) = false := ne_false hk3
 clear z0 z1 z2 z3 r1 r2
 by_cases hk : p.kind = 6 ∨ p.kind = 8 ∨ p.kind = 10
 ·have HS : Hid (R = 2) := by show _ = _; rw [← HR.out]; unfold rflagsZ; rw [if_neg hk3, if_pos hk]
  clear hk3
  rcases hk with hk | hk | hk
  all_goals
   rw [hk] at c0 e3
   clear hk
   go_wp2
   go_ret
   exact ⟨by rw [HS.out]; rfl, HK.out.out.2⟩
 ·have HS : Hid (R = 0) := by show _ = _; rw [← HR.out]; unfold rflagsZ; rw [if_neg hk3, if_neg hk]
  have k6 : (p.kind == 6) = false := ne_false (by omega)
  have k8 : (p.kind == 8) = false := ne_false (by omega)
  have k10 : (p.kind == 10) = false := ne_false (by omega)
  clear hk hk3
  go_wp2_with fail
  go_ret
  exact ⟨by rw [HS.out]; rfl, HK.out.out.2⟩
open Go.RowKit Go.Lib Prp Pkt
theorem EqNumbers_any (l l' : List Int) (A A' : Option Addr) (c c' B B' : Nat) (w : World) (hm : l.length ≤ 9223372036854775807) (hl : l' = l ∨ l' = []) (h : Nums w B .i64 A l) (h' : Nums w B' .i64 A' l') :
  Calls Tryz.prog 43 #[.slice A l.length c, .slice A' l'.length c'] w fun e w' => e = .returned (.bool (decide (l.length = l'.length))) ∧ ∃ n, w' = w.drewN n := by
 rcases hl with rfl | rfl
 ·rw [decide_eq_true rfl]
  exact EqNumbers_same _ A A' c c' B B' w hm h h'
 ·cases l with
  | nil => exact EqNumbers_same [] A A' c c' B B' w (by simp) (.inl rfl) (.inl rfl)
  | cons x t =>
   obtain ⟨L, hL⟩ : ∃ L, (x :: t).length = L := ⟨_, rfl⟩
   have hp : 0 < L := by rw [← hL]; simp
   rw [hL]
   clear hL h h' hm
   rw [decide_eq_false (show ¬ L = ([] : List Int).length by simp; omega)]
   have hI : ¬ (L : Int) = 0 := by omega
   go_enter Tryz.func43, Tryz.ntmps43
   go_wp2_with fail
   go_ret
   exact ⟨rfl, 0, rfl⟩
theorem EqFilters_any (l l' : List Fl) (A A' : Option Addr) (c c' B B' : Nat) (w : World) (hm : l.length ≤ 9223372036854775807) (hl : l' = l ∨ l' = []) (h : FilsAt w B A l) (h' : FilsAt w B' A' l') :
  Calls Tryz.prog 44 #[.slice A l.length c, .slice A' l'.length c'] w fun e w' => e = .returned (.bool (decide (l.length = l'.length))) ∧ ∃ n, w' = w.drewN n := by
 rcases hl with rfl | rfl
 ·rw [decide_eq_true rfl]
  exact EqFilters_same _ A A' c c' B B' w hm h h'
 ·cases l with
  | nil => exact EqFilters_same [] A A' c c' B B' w (by simp) (.inl rfl) (.inl rfl)
  | cons x t =>
   obtain ⟨L, hL⟩ : ∃ L, (x :: t).length = L := ⟨_, rfl⟩
   have hp : 0 < L := by rw [← hL]; simp
   rw [hL]
   clear hL h h' hm
   rw [decide_eq_false (show ¬ L = ([] : List Fl).length by simp; omega)]
   have hI : ¬ (L : Int) = 0 := by omega
   go_enter Tryz.func44, Tryz.ntmps44
   go_wp2_with fail
   go_ret
   exact ⟨rfl, 0, rfl⟩
theorem EqProps_any (l l' : List P) (A A' : Option Addr) (c c' B B' : Nat) (w : World) (hm : l.length ≤ 9223372036854775807) (hl : l' = l ∨ l' = []) (h : PropsAt w B A l) (h' : PropsAt w B' A' l') :
  Calls Tryz.prog 45 #[.slice A l.length c, .slice A' l'.length c'] w fun e w' => e = .returned (.bool (decide (l.length = l'.length))) ∧ ∃ n, w' = w.drewN n := by
 rcases hl with rfl | rfl
 ·rw [decide_eq_true rfl]
  exact EqProps_same _ A A' c c' B B' w hm h h'
 ·cases l with
  | nil => exact EqProps_same [] A A' c c' B B' w (by simp) (.inl rfl) (.inl rfl)
  | cons x t =>
   obtain ⟨L, hL⟩ : ∃ L, (x :: t).length = L := ⟨_, rfl⟩
   have hp : 0 < L := by rw [← hL]; simp
   rw [hL]
   clear hL h h' hm
   rw [decide_eq_false (show ¬ L = ([] : List P).length by simp; omega)]
   have hI : ¬ (L : Int) = 0 := by omega
   go_enter Tryz.func45, Tryz.ntmps45
   go_wp2_with fail
   go_ret
   exact ⟨rfl, 0, rfl⟩
open Go.RowKit Go.Lib Prp Pkt
def eqW (x y : Wl) : Bool := decide (x.has = y.has) && (decide (x.q = y.q) && (decide (x.ret = y.ret) && (decide (x.t = y.t) && (decide (x.b = y.b) && decide (x.ps.length = y.ps.length)))))
theorem EqWill_is (x y : Wl) (A A' : Option Addr) (c c' B B' : Nat) (w : World) (hm : x.ps.length ≤ 9223372036854775807) (hl : y.ps = x.ps ∨ y.ps = []) (hB : B ≤ w.heap.size) (hB' : B' ≤ w.heap.size) (h : PropsAt w B A x.ps) (h' : PropsAt w B' A' y.ps) :
  Calls Tryz.prog 37 #[.agg (wlArr x A c), .agg (wlArr y A' c')] w fun e w' => e = .returned (.bool (eqW x y)) ∧ Below w.heap.size w w' := by
 have HC := Lib.hid (fun (o o' : Obj) => EqProps_any x.ps y.ps A A' c c' B B' ((w.alloc o).alloc o') hm hl (h.below (((Below.refl _ _).alloc hB _).alloc (Nat.le_trans hB (by simp)) _)) (h'.below (((Below.refl _ _).alloc hB' _).alloc (Nat.le_trans hB' (by simp)) _)))
 have hb := fun (n : Nat) (o o' : Obj) => below_drewN (((Below.refl w.heap.size w).alloc (Nat.le_refl _) o).alloc (by simp) o') n
 have HB := Lib.hid hb
 have hb0 := fun (o o' : Obj) => ((Below.refl w.heap.size w).alloc (Nat.le_refl _) o).alloc (by simp) o'
 have HB0 := Lib.hid hb0
 obtain ⟨r, hr⟩ : ∃ r, eqW x y = r := ⟨_, rfl⟩
 rw [hr]
 have HR := Lib.hid hr
 clear h h' hb hb0 hB hB' hm hl hr
 obtain ⟨has, q, ret, t, b, ps⟩ := x
 obtain ⟨has', q', ret', t', b', ps'⟩ := y
 unfold wlArr
 go_enter Tryz.func37, Tryz.ntmps37
 go_wp2_with (go_at_call 45; refine (HC.out _ _).mono ?_; rintro e w1 ⟨rfl, n, rfl⟩)
 all_goals (go_ret; refine ⟨?_, by first | exact HB.out _ _ _ | exact HB0.out _ _⟩; rw [← HR.out]; try simp only [toList_eq_iff] at *)
 all_goals (unfold eqW; simp [*])
open Go.RowKit Go.Lib
structure Ch (n : Nat) (x y : Value) (a : Act) (k : Nat) (b : Bool) : Prop where
 sz : a.tmps.size = n
 p2 : a.eval (.tmp 2) = x
 p3 : a.eval (.tmp 3) = y
 pk : a.tmps[k]? = some (.bool b)
 df : a.defers = []
section
variable {P : Program} {ops : Array Oper} {Q : Exit → Act → World → Prop} {rest : List Oper} {w : World} {a : Act} {o : Oper}
theorem put_size (d : Nat) (v : Value) : (a.put (some d) v).tmps.size = a.tmps.size := by simp [Act.put]
theorem put_get {d j : Nat} (v : Value) (h : d ≠ j) : (a.put (some d) v).tmps[j]? = a.tmps[j]? := by simp [Act.put, h]
theorem put_same {d : Nat} (v : Value) (h : d < a.tmps.size) : (a.put (some d) v).tmps[d]? = some v := by simp [Act.put, h]
theorem eval_of {j : Nat} {v : Value} (h : a.tmps[j]? = some v) : a.eval (.tmp j) = v := by simp [Act.eval, h]
theorem eval_put {d j : Nat} (v : Value) (h : d ≠ j) : (a.put (some d) v).eval (.tmp j) = a.eval (.tmp j) := by
 have := put_get (a := a) v h
 simp [Act.eval, this]
theorem eval_same {d : Nat} (v : Value) (h : d < a.tmps.size) : (a.put (some d) v).eval (.tmp d) = v := eval_of (put_same v h)
theorem wants {gi k : Nat} {b : Bool} (hg : o.guard = some (gi, true)) (hk : (ops[gi]?).bind (·.dst) = some k) (hb : a.tmps[k]? = some (.bool b)) : Region.wanted o (yielded ops a.tmps) = b := by
 unfold Region.wanted yielded
 rw [hg]
 simp only [hk, Option.bind_some, hb]
 cases b <;> rfl
theorem ch_skip {gi k : Nat} (hg : o.guard = some (gi, true)) (hk : (ops[gi]?).bind (·.dst) = some k) (hb : a.tmps[k]? = some (.bool false)) (h : wpList P ops Q rest (a.put o.dst undef) w) : wpList P ops Q (o :: rest) a w :=
 wpList_skip (wants hg hk hb) h
theorem ch_take {gi k : Nat} (hg : o.guard = some (gi, true)) (hk : (ops[gi]?).bind (·.dst) = some k) (hb : a.tmps[k]? = some (.bool true)) (h : o.wp P a w (wpList P ops Q rest) Q) : wpList P ops Q (o :: rest) a w := by
 simp only [wpList]
 rw [if_pos (wants hg hk hb)]
 exact .inl h
theorem wp_val {K : Act → World → Prop} {v : Value} (hx : (execOp a.eval o).run P w = .ok (.value v) w) (h : K (a.put o.dst v) w) : o.wp P a w K Q := by
 unfold Oper.wp
 rw [hx]
 exact h
theorem run_pick {ρ : Operand → Value} {c x y : Operand} {b : Bool} (h : o.op = .pick c x y) (hc : ρ c = .bool b) : (execOp ρ o).run P w = .ok (.value (if b = true then ρ x else ρ y)) w := by
 unfold execOp
 rw [h]
 cases b <;> simp [hc, asBool, go_sem]
theorem ch_block {n d1 d2 d3 d4 d5 d6 d7 k gi : Nat} {x y v1 u1 v3 u3 : Value} {b e : Bool} {o1 o2 o3 o4 o5 o6 o7 : Oper}
  (h : Ch n x y a k b)
  (e1 : o1.dst = some d1 ∧ o1.guard = some (gi, true)) (e2 : o2.dst = some d2 ∧ o2.guard = some (gi, true)) (e3 : o3.dst = some d3 ∧ o3.guard = some (gi, true)) (e4 : o4.dst = some d4 ∧ o4.guard = some (gi, true)) (e5 : o5.dst = some d5 ∧ o5.guard = some (gi, true))
  (e6 : o6.dst = some d6 ∧ o6.guard = none ∧ o6.op = .pick (.tmp k) (.tmp d5) (.const (.bool false))) (e7 : o7.dst = some d7 ∧ o7.guard = none ∧ (o7.op = .move (.tmp d6) ∨ o7.op = .assign (.tmp d6)))
  (hk : (ops[gi]?).bind (·.dst) = some k)
  (hd : 3 < d1 ∧ 3 < k ∧ 3 < d7 ∧ k < d1 ∧ d2 = d1 + 1 ∧ d3 = d1 + 2 ∧ d4 = d1 + 3 ∧ d5 = d1 + 4 ∧ d6 = d1 + 5 ∧ d6 < n ∧ d7 < n)
  (hx1 : ∀ a : Act, a.eval (.tmp 2) = x → (execOp a.eval o1).run P w = .ok (.value v1) w)
  (hx2 : ∀ a : Act, a.eval (.tmp d1) = v1 → (execOp a.eval o2).run P w = .ok (.value u1) w)
  (hx3 : ∀ a : Act, a.eval (.tmp 3) = y → (execOp a.eval o3).run P w = .ok (.value v3) w)
  (hx4 : ∀ a : Act, a.eval (.tmp d3) = v3 → (execOp a.eval o4).run P w = .ok (.value u3) w)
  (hx5 : ∀ (a : Act) (K : Act → World → Prop), a.eval (.tmp d2) = u1 → a.eval (.tmp d4) = u3 → (∀ w', Below w.heap.size w w' → K (a.put (some d5) (.bool e)) w') → o5.wp P a w K Q)
  (hr : ∀ (a' : Act) (w' : World), Below w.heap.size w w' → Ch n x y a' d7 (b && e) → wpList P ops Q rest a' w') : wpList P ops Q (o1 :: o2 :: o3 :: o4 :: o5 :: o6 :: o7 :: rest) a w := by
 obtain ⟨q1, q2, q3, q4, r2, r3, r4, r5, r6, r7, r8⟩ := hd
 subst r2 r3 r4 r5 r6
 have fin : ∀ (a1 : Act) (w1 : World), Below w.heap.size w w1 → a1.tmps.size = n → a1.eval (.tmp 2) = x → a1.eval (.tmp 3) = y → a1.tmps[k]? = some (.bool b) → (b = true → a1.tmps[d1 + 4]? = some (.bool e)) → a1.defers = [] → wpList P ops Q (o6 :: o7 :: rest) a1 w1 := by
  intro a1 w1 hb s1 s2 s3 s4 s5 s6
  have hv : (if b = true then a1.eval (.tmp (d1 + 4)) else a1.eval (.const (.bool false))) = .bool (b && e) := by
   cases b with
   | true => rw [if_pos rfl, eval_of (s5 rfl)]; rfl
   | false => rfl
  refine wpList_plain e6.2.1 fun K hK => wp_val (run_pick e6.2.2 (eval_of s4)) ?_
  refine hK _ _ ?_
  rw [hv, e6.1]
  have t1 := put_size (a := a1) (d1 + 5) (.bool (b && e))
  have t2 := eval_put (a := a1) (.bool (b && e)) (show d1 + 5 ≠ 2 by omega)
  have t3 := eval_put (a := a1) (.bool (b && e)) (show d1 + 5 ≠ 3 by omega)
  have t4 := eval_same (a := a1) (.bool (b && e)) (show d1 + 5 < a1.tmps.size by omega)
  have t5 : (a1.put (some (d1 + 5)) (.bool (b && e))).defers = [] := s6
  generalize a1.put (some (d1 + 5)) (.bool (b && e)) = a2 at t1 t2 t3 t4 t5 ⊢
  have go : o7.wp P a2 w1 (wpList P ops Q rest) Q := by
   have hx : (execOp a2.eval o7).run P w1 = .ok (.value (.bool (b && e))) w1 := by
    rcases e7.2.2 with h7 | h7
    ·rw [BigFrame.run_move _ h7, t4]
    ·rw [BigFrame.run_assign _ h7, t4]
   refine wp_val hx ?_
   rw [e7.1]
   refine hr _ _ hb ⟨by rw [put_size]; omega, by rw [eval_put _ (by omega), t2, s2], by rw [eval_put _ (by omega), t3, s3], put_same _ (by omega), t5⟩
  exact wpList_plain e7.2.1 fun K hK => Oper.wp_mono (fun a' w' h' => hK a' w' h') go
 cases b with
 | false =>
  have s4 := h.pk
  refine ch_skip e1.2 hk s4 ?_
  rw [e1.1]
  refine ch_skip e2.2 hk (by rw [put_get _ (by omega)]; exact s4) ?_
  rw [e2.1]
  refine ch_skip e3.2 hk (by rw [put_get _ (by omega), put_get _ (by omega)]; exact s4) ?_
  rw [e3.1]
  refine ch_skip e4.2 hk (by rw [put_get _ (by omega), put_get _ (by omega), put_get _ (by omega)]; exact s4) ?_
  rw [e4.1]
  refine ch_skip e5.2 hk (by rw [put_get _ (by omega), put_get _ (by omega), put_get _ (by omega), put_get _ (by omega)]; exact s4) ?_
  rw [e5.1]
  refine fin _ _ (Below.refl _ _) (by simp only [put_size]; exact h.sz) ?_ ?_ ?_ (fun h => by cases h) h.df
  ·rw [eval_put _ (by omega), eval_put _ (by omega), eval_put _ (by omega), eval_put _ (by omega), eval_put _ (by omega)]; exact h.p2
  ·rw [eval_put _ (by omega), eval_put _ (by omega), eval_put _ (by omega), eval_put _ (by omega), eval_put _ (by omega)]; exact h.p3
  ·rw [put_get _ (by omega), put_get _ (by omega), put_get _ (by omega), put_get _ (by omega), put_get _ (by omega)]; exact s4
 | true =>
  have s4 := h.pk
  have sz := h.sz
  refine ch_take e1.2 hk s4 (wp_val (hx1 a h.p2) ?_)
  rw [e1.1]
  refine ch_take e2.2 hk (by rw [put_get _ (by omega)]; exact s4) (wp_val (hx2 _ (eval_same _ (by omega))) ?_)
  rw [e2.1]
  refine ch_take e3.2 hk (by rw [put_get _ (by omega), put_get _ (by omega)]; exact s4) (wp_val (hx3 _ (by rw [eval_put _ (by omega), eval_put _ (by omega)]; exact h.p3)) ?_)
  rw [e3.1]
  refine ch_take e4.2 hk (by rw [put_get _ (by omega), put_get _ (by omega), put_get _ (by omega)]; exact s4) (wp_val (hx4 _ (eval_same _ (by simp only [put_size]; omega))) ?_)
  rw [e4.1]
  refine ch_take e5.2 hk (by rw [put_get _ (by omega), put_get _ (by omega), put_get _ (by omega), put_get _ (by omega)]; exact s4) (hx5 _ _ ?_ ?_ ?_)
  ·rw [eval_put _ (by omega), eval_put _ (by omega)]
   exact eval_same _ (by simp only [put_size]; omega)
  ·exact eval_same _ (by simp only [put_size]; omega)
  intro w' hb
  refine fin _ _ hb (by simp only [put_size]; exact h.sz) ?_ ?_ ?_ (fun _ => put_same _ (by simp only [put_size]; omega)) h.df
  ·rw [eval_put _ (by omega), eval_put _ (by omega), eval_put _ (by omega), eval_put _ (by omega), eval_put _ (by omega)]; exact h.p2
  ·rw [eval_put _ (by omega), eval_put _ (by omega), eval_put _ (by omega), eval_put _ (by omega), eval_put _ (by omega)]; exact h.p3
  ·rw [put_get _ (by omega), put_get _ (by omega), put_get _ (by omega), put_get _ (by omega), put_get _ (by omega)]; exact s4
theorem ch_first {n d1 d2 d3 d4 d5 d6 : Nat} {x y v1 u1 v3 u3 : Value} {e : Bool} {o1 o2 o3 o4 o5 o6 : Oper}
  (sz : a.tmps.size = n) (df : a.defers = []) (h2 : a.eval (.tmp 2) = x) (h3 : a.eval (.tmp 3) = y)
  (e1 : o1.dst = some d1 ∧ o1.guard = none) (e2 : o2.dst = some d2 ∧ o2.guard = none) (e3 : o3.dst = some d3 ∧ o3.guard = none) (e4 : o4.dst = some d4 ∧ o4.guard = none) (e5 : o5.dst = some d5 ∧ o5.guard = none)
  (e6 : o6.dst = some d6 ∧ o6.guard = none ∧ o6.op = .move (.tmp d5))
  (hd : 3 < d1 ∧ d2 = d1 + 1 ∧ d3 = d1 + 2 ∧ d4 = d1 + 3 ∧ d5 = d1 + 4 ∧ d6 = d1 + 5 ∧ d6 < n)
  (hx1 : ∀ a : Act, a.eval (.tmp 2) = x → (execOp a.eval o1).run P w = .ok (.value v1) w)
  (hx2 : ∀ a : Act, a.eval (.tmp d1) = v1 → (execOp a.eval o2).run P w = .ok (.value u1) w)
  (hx3 : ∀ a : Act, a.eval (.tmp 3) = y → (execOp a.eval o3).run P w = .ok (.value v3) w)
  (hx4 : ∀ a : Act, a.eval (.tmp d3) = v3 → (execOp a.eval o4).run P w = .ok (.value u3) w)
  (hx5 : ∀ a : Act, a.eval (.tmp d2) = u1 → a.eval (.tmp d4) = u3 → (execOp a.eval o5).run P w = .ok (.value (.bool e)) w)
  (hr : ∀ a' : Act, Ch n x y a' d6 e → wpList P ops Q rest a' w) : wpList P ops Q (o1 :: o2 :: o3 :: o4 :: o5 :: o6 :: rest) a w := by
 obtain ⟨q1, r2, r3, r4, r5, r6, q2⟩ := hd
 subst r2 r3 r4 r5 r6
 refine wpList_plain e1.2 fun K hK => wp_val (hx1 a h2) (hK _ _ ?_)
 rw [e1.1]
 refine wpList_plain e2.2 fun K hK => wp_val (hx2 _ (eval_same _ (by omega))) (hK _ _ ?_)
 rw [e2.1]
 refine wpList_plain e3.2 fun K hK => wp_val (hx3 _ (by rw [eval_put _ (by omega), eval_put _ (by omega)]; exact h3)) (hK _ _ ?_)
 rw [e3.1]
 refine wpList_plain e4.2 fun K hK => wp_val (hx4 _ (eval_same _ (by simp only [put_size]; omega))) (hK _ _ ?_)
 rw [e4.1]
 refine wpList_plain e5.2 fun K hK => wp_val (hx5 _ ?_ (eval_same _ (by simp only [put_size]; omega))) (hK _ _ ?_)
 ·rw [eval_put _ (by omega), eval_put _ (by omega)]
  exact eval_same _ (by simp only [put_size]; omega)
 rw [e5.1]
 refine wpList_plain e6.2.1 fun K hK => wp_val (BigFrame.run_move _ e6.2.2 w) (hK _ _ ?_)
 rw [e6.1, eval_same _ (by simp only [put_size]; omega)]
 refine hr _ ⟨by simp only [put_size]; exact sz, ?_, ?_, put_same _ (by simp only [put_size]; omega), df⟩
 ·rw [eval_put _ (by omega), eval_put _ (by omega), eval_put _ (by omega), eval_put _ (by omega), eval_put _ (by omega), eval_put _ (by omega)]; exact h2
 ·rw [eval_put _ (by omega), eval_put _ (by omega), eval_put _ (by omega), eval_put _ (by omega), eval_put _ (by omega), eval_put _ (by omega)]; exact h3
end
open Go.RowKit Go.Lib Prp Pkt
def eqP (x y : Pk) : Bool := ((((((((((((((((((decide (x.kind = y.kind) && decide (x.dup = y.dup)) && decide (x.q = y.q)) && decide (x.ret = y.ret)) && decide (x.id = y.id)) && decide (x.t = y.t)) && decide (x.b = y.b)) && decide (x.re = y.re)) && decide (x.pre = y.pre)) && decide (x.cs.length = y.cs.length)) && decide (x.fs.length = y.fs.length)) && decide (x.cl = y.cl)) && decide (x.clean = y.clean)) && decide (x.keep = y.keep)) && eqW x.w y.w) && decide (x.hu = y.hu)) && decide (x.u = y.u)) && decide (x.hp = y.hp)) && decide (x.pw = y.pw)) && decide (x.ps.length = y.ps.length)
def HalfOf (x y : Pk) : Prop := (y.cs = x.cs ∨ y.cs = []) ∧ (y.fs = x.fs ∨ y.fs = []) ∧ (y.w.ps = x.w.ps ∨ y.w.ps = []) ∧ (y.ps = x.ps ∨ y.ps = [])
structure PkLen (p : Pk) : Prop where
 cs : p.cs.length ≤ 9223372036854775807
 fs : p.fs.length ≤ 9223372036854775807
 ws : p.w.ps.length ≤ 9223372036854775807
 ps : p.ps.length ≤ 9223372036854775807
theorem eql_int (x y : Int) (w : World) : (binOp .eql 3 (.int .i64 x) (.int .i64 y)).run Tryz.prog w = .ok (.bool (decide (x = y))) w := by
 go_simp
 by_cases h : x = y <;> simp [h]
theorem eql_bool (x y : Bool) (w : World) : (binOp .eql 4 (.bool x) (.bool y)).run Tryz.prog w = .ok (.bool (decide (x = y))) w := by
 go_simp
 cases x <;> cases y <;> rfl
theorem eql_str (x y : ByteArray) (w : World) : (binOp .eql 9 (.string x) (.string y)).run Tryz.prog w = .ok (.bool (decide (x = y))) w := by
 go_simp
 by_cases h : x = y
 ·simp [h]
 ·have : ¬ x.toList = y.toList := fun e => h ((toList_eq_iff x y).1 e)
  simp [h, this]
theorem info_wl : (Tryz.prog.info? 28).map (·.size) = some 6 := by kernel_rfl
theorem load_wl {W : World} {g : Nat} {p : Pk} {a : Ad} (h : Box W g (pkArr p a)) : (loadVar 28 ⟨g, 14, none⟩).run Tryz.prog W = .ok (.agg (wlArr p.w a.wa a.wc)) W := by
 refine run_loadVar_mid W g 14 28 (wlArr p.w a.wa a.wc).toList _ (fun j v hv => ?_) Tryz.underlying28 rfl info_wl
 rw [h.cell]
 match j, hv with
 | 0, hv => exact hv
 | 1, hv => exact hv
 | 2, hv => exact hv
 | 3, hv => exact hv
 | 4, hv => exact hv
 | 5, hv => exact hv
theorem exec_load {P : Program} {ρ : Operand → Value} {o : Oper} {ty : TypeId} {x : Operand} {b off : Nat} {V : Value} {w : World} (ho : o.op = .load ty x) (hx : ρ x = .pointer (some ⟨b, off, none⟩)) (hv : (loadVar ty ⟨b, off, none⟩).run P w = .ok V w) :
  (execOp ρ o).run P w = .ok (.value V) w := by
 unfold execOp
 simp only [ho, hx, Instr.loadAt, Instr.sureAddr, Sem.run_bind, Sem.run_pure, Result.andThen_ok, hv]
theorem EqPacket_is (x y : Pk) (a a' : Ad) (w : World) (hf : PkLen x) (hl : HalfOf x y) (h : PkAt w w.heap.size x a) (h' : PkAt w w.heap.size y a') :
  Calls Tryz.prog 13 #[.agg (pkArr x a), .agg (pkArr y a')] w fun e w' => e = .returned (.bool (eqP x y)) ∧ Below w.heap.size w w' := by
 have HN := fun (W : World) (hb : Below w.heap.size w W) => (EqNumbers_any x.cs y.cs a.ca a'.ca a.cc a'.cc _ _ W hf.cs hl.1 (h.cs.below hb) (h'.cs.below hb)).mono fun e w' (hh : _ ∧ ∃ n, w' = W.drewN n) => (show e = .returned (.bool (decide (x.cs.length = y.cs.length))) ∧ Below W.heap.size W w' from ⟨hh.1, by obtain ⟨n, rfl⟩ := hh.2; exact below_drewN (Below.refl _ _) n⟩)
 have HF := fun (W : World) (hb : Below w.heap.size w W) => (EqFilters_any x.fs y.fs a.fa a'.fa a.fc a'.fc _ _ W hf.fs hl.2.1 (h.fs.below hb) (h'.fs.below hb)).mono fun e w' (hh : _ ∧ ∃ n, w' = W.drewN n) => (show e = .returned (.bool (decide (x.fs.length = y.fs.length))) ∧ Below W.heap.size W w' from ⟨hh.1, by obtain ⟨n, rfl⟩ := hh.2; exact below_drewN (Below.refl _ _) n⟩)
 have HW := fun (W : World) (hb : Below w.heap.size w W) => EqWill_is x.w y.w a.wa a'.wa a.wc a'.wc _ _ W hf.ws hl.2.2.1 hb.size hb.size (h.ws.below hb) (h'.ws.below hb)
 have HP := fun (W : World) (hb : Below w.heap.size w W) => (EqProps_any x.ps y.ps a.pa a'.pa a.pc a'.pc _ _ W hf.ps hl.2.2.2 (h.ps.below hb) (h'.ps.below hb)).mono fun e w' (hh : _ ∧ ∃ n, w' = W.drewN n) => (show e = .returned (.bool (decide (x.ps.length = y.ps.length))) ∧ Below W.heap.size W w' from ⟨hh.1, by obtain ⟨n, rfl⟩ := hh.2; exact below_drewN (Below.refl _ _) n⟩)
 have hb1 := Box.new w 30 (pkArr x a)
 have hw := (Below.refl w.heap.size w).alloc (Nat.le_refl _) (.cells (pkArr x a) 30)
 obtain ⟨W1, hW⟩ : ∃ W1, w.alloc (.cells (pkArr x a) 30) = W1 := ⟨_, rfl⟩
 rw [hW] at hb1 hw
 have hb2 := Box.new W1 30 (pkArr y a')
 have ha2 := (Below.refl W1.heap.size W1).alloc (Nat.le_refl _) (.cells (pkArr y a') 30)
 obtain ⟨W, hW2⟩ : ∃ W2, W1.alloc (.cells (pkArr y a') 30) = W2 := ⟨_, rfl⟩
 rw [hW2] at hb2 ha2
 have hz : w.heap.size + 1 = W1.heap.size := by rw [← hW]; simp
 rw [← hz] at hb2
 replace hb1 := hb1.below ha2
 replace hw := hw.trans (ha2.mono hw.size)
 clear hz ha2 h h' hl hf
 unfold pkArr at hW hW2 ⊢
 have HW0 := Lib.hid hW
 have HW2 := Lib.hid hW2
 have HI := Lib.hid (And.intro hb1 (And.intro hb2 (And.intro hw (And.intro HN (And.intro HF (And.intro HW HP))))))
 clear hW hW2 hb1 hb2 hw HN HF HW HP
 obtain ⟨r, hr⟩ : ∃ r, eqP x y = r := ⟨_, rfl⟩
 rw [hr]
 have HR := Lib.hid hr
 clear hr
 go_enter Tryz.func13, Tryz.ntmps13
 go_upto_region 1 with fail
 rw [HW0.out, HW2.out]
 rename_i Q' K hK
 obtain ⟨hb1, hb2, hw, HN, HF, HW, HP⟩ := HI.out
 clear HI HW0 HW2
 obtain ⟨g1, hg1⟩ : ∃ g, w.heap.size = g := ⟨_, rfl⟩
 obtain ⟨g2, hg2⟩ : ∃ g, w.heap.size + 1 = g := ⟨_, rfl⟩
 rw [hg2] at hb2 ⊢
 rw [hg1] at hb1 ⊢
 clear hg1 hg2
 have c0 : W.cell? ⟨g1, 0, none⟩ = some (.int .i64 x.kind) := hb1.cell 0
 have c1 : W.cell? ⟨g2, 0, none⟩ = some (.int .i64 y.kind) := hb2.cell 0
 refine wp_region_list ?_
 refine ch_first (n := 143) (x := .pointer (some ⟨g1, 0, none⟩)) (y := .pointer (some ⟨g2, 0, none⟩)) (e := decide (x.kind = y.kind)) rfl rfl rfl rfl ⟨rfl, rfl⟩ ⟨rfl, rfl⟩ ⟨rfl, rfl⟩ ⟨rfl, rfl⟩ ⟨rfl, rfl⟩ ⟨rfl, rfl, rfl⟩ (by decide)
  (v1 := .pointer (some ⟨g1, 0, none⟩)) (v3 := .pointer (some ⟨g2, 0, none⟩)) (u1 := .int .i64 x.kind) (u3 := .int .i64 y.kind)
  (fun A H => by generalize A.eval = ρ at H ⊢; unfold execOp; go_simp) (fun A H => by generalize A.eval = ρ at H ⊢; unfold execOp; go_simp) (fun A H => by generalize A.eval = ρ at H ⊢; unfold execOp; go_simp) (fun A H => by generalize A.eval = ρ at H ⊢; unfold execOp; go_simp) (fun A H1 H2 => by unfold execOp; simp only [H1, H2, Sem.run_bind, eql_int, Sem.run_pure]; try rfl) ?_
 intro A1 hc
 refine ch_block (n := 143) (gi := 5) (k := 10) (d1 := 11) (d2 := 12) (d3 := 13) (d4 := 14) (d5 := 15) (d6 := 16) (d7 := 17) (e := decide (x.dup = y.dup)) hc ⟨rfl, rfl⟩ ⟨rfl, rfl⟩ ⟨rfl, rfl⟩ ⟨rfl, rfl⟩ ⟨rfl, rfl⟩ ⟨rfl, rfl, rfl⟩ ⟨rfl, rfl, .inl rfl⟩ rfl (by decide)
  (v1 := .pointer (some ⟨g1, 1, none⟩)) (v3 := .pointer (some ⟨g2, 1, none⟩)) (u1 := .bool x.dup) (u3 := .bool y.dup)
  (fun A H => by generalize A.eval = ρ at H ⊢; unfold execOp; go_simp) (fun A H => by have c : W.cell? ⟨g1, 1, none⟩ = some (.bool x.dup) := hb1.cell 1; generalize A.eval = ρ at H ⊢; unfold execOp; go_simp) (fun A H => by generalize A.eval = ρ at H ⊢; unfold execOp; go_simp) (fun A H => by have c : W.cell? ⟨g2, 1, none⟩ = some (.bool y.dup) := hb2.cell 1; generalize A.eval = ρ at H ⊢; unfold execOp; go_simp)
  (fun A K H1 H2 hk => wp_val (by unfold execOp; simp only [H1, H2, Sem.run_bind, eql_bool, Sem.run_pure]; try rfl) (hk _ (Below.refl _ _))) ?_
 clear hc
 intro A1 V1 hbw hc
 replace hb1 := hb1.below hbw
 replace hb2 := hb2.below hbw
 replace hw := hw.trans (hbw.mono hw.size)
 clear hbw
 refine ch_block (n := 143) (gi := 12) (k := 17) (d1 := 18) (d2 := 19) (d3 := 20) (d4 := 21) (d5 := 22) (d6 := 23) (d7 := 24) (e := decide (x.q = y.q)) hc ⟨rfl, rfl⟩ ⟨rfl, rfl⟩ ⟨rfl, rfl⟩ ⟨rfl, rfl⟩ ⟨rfl, rfl⟩ ⟨rfl, rfl, rfl⟩ ⟨rfl, rfl, .inl rfl⟩ rfl (by decide)
  (v1 := .pointer (some ⟨g1, 2, none⟩)) (v3 := .pointer (some ⟨g2, 2, none⟩)) (u1 := .int .i64 x.q) (u3 := .int .i64 y.q)
  (fun A H => by generalize A.eval = ρ at H ⊢; unfold execOp; go_simp) (fun A H => by have c : V1.cell? ⟨g1, 2, none⟩ = some (.int .i64 x.q) := hb1.cell 2; generalize A.eval = ρ at H ⊢; unfold execOp; go_simp) (fun A H => by generalize A.eval = ρ at H ⊢; unfold execOp; go_simp) (fun A H => by have c : V1.cell? ⟨g2, 2, none⟩ = some (.int .i64 y.q) := hb2.cell 2; generalize A.eval = ρ at H ⊢; unfold execOp; go_simp)
  (fun A K H1 H2 hk => wp_val (by unfold execOp; simp only [H1, H2, Sem.run_bind, eql_int, Sem.run_pure]; try rfl) (hk _ (Below.refl _ _))) ?_
 clear hc
 intro A1 V2 hbw hc
 replace hb1 := hb1.below hbw
 replace hb2 := hb2.below hbw
 replace hw := hw.trans (hbw.mono hw.size)
 clear hbw
 refine ch_block (n := 143) (gi := 19) (k := 24) (d1 := 25) (d2 := 26) (d3 := 27) (d4 := 28) (d5 := 29) (d6 := 30) (d7 := 31) (e := decide (x.ret = y.ret)) hc ⟨rfl, rfl⟩ ⟨rfl, rfl⟩ ⟨rfl, rfl⟩ ⟨rfl, rfl⟩ ⟨rfl, rfl⟩ ⟨rfl, rfl, rfl⟩ ⟨rfl, rfl, .inl rfl⟩ rfl (by decide)
  (v1 := .pointer (some ⟨g1, 3, none⟩)) (v3 := .pointer (some ⟨g2, 3, none⟩)) (u1 := .bool x.ret) (u3 := .bool y.ret)
  (fun A H => by generalize A.eval = ρ at H ⊢; unfold execOp; go_simp) (fun A H => by have c : V2.cell? ⟨g1, 3, none⟩ = some (.bool x.ret) := hb1.cell 3; generalize A.eval = ρ at H ⊢; unfold execOp; go_simp) (fun A H => by generalize A.eval = ρ at H ⊢; unfold execOp; go_simp) (fun A H => by have c : V2.cell? ⟨g2, 3, none⟩ = some (.bool y.ret) := hb2.cell 3; generalize A.eval = ρ at H ⊢; unfold execOp; go_simp)
  (fun A K H1 H2 hk => wp_val (by unfold execOp; simp only [H1, H2, Sem.run_bind, eql_bool, Sem.run_pure]; try rfl) (hk _ (Below.refl _ _))) ?_
 clear hc
 intro A1 V3 hbw hc
 replace hb1 := hb1.below hbw
 replace hb2 := hb2.below hbw
 replace hw := hw.trans (hbw.mono hw.size)
 clear hbw
 refine ch_block (n := 143) (gi := 26) (k := 31) (d1 := 32) (d2 := 33) (d3 := 34) (d4 := 35) (d5 := 36) (d6 := 37) (d7 := 38) (e := decide (x.id = y.id)) hc ⟨rfl, rfl⟩ ⟨rfl, rfl⟩ ⟨rfl, rfl⟩ ⟨rfl, rfl⟩ ⟨rfl, rfl⟩ ⟨rfl, rfl, rfl⟩ ⟨rfl, rfl, .inl rfl⟩ rfl (by decide)
  (v1 := .pointer (some ⟨g1, 4, none⟩)) (v3 := .pointer (some ⟨g2, 4, none⟩)) (u1 := .int .i64 x.id) (u3 := .int .i64 y.id)
  (fun A H => by generalize A.eval = ρ at H ⊢; unfold execOp; go_simp) (fun A H => by have c : V3.cell? ⟨g1, 4, none⟩ = some (.int .i64 x.id) := hb1.cell 4; generalize A.eval = ρ at H ⊢; unfold execOp; go_simp) (fun A H => by generalize A.eval = ρ at H ⊢; unfold execOp; go_simp) (fun A H => by have c : V3.cell? ⟨g2, 4, none⟩ = some (.int .i64 y.id) := hb2.cell 4; generalize A.eval = ρ at H ⊢; unfold execOp; go_simp)
  (fun A K H1 H2 hk => wp_val (by unfold execOp; simp only [H1, H2, Sem.run_bind, eql_int, Sem.run_pure]; try rfl) (hk _ (Below.refl _ _))) ?_
 clear hc
 intro A1 V4 hbw hc
 replace hb1 := hb1.below hbw
 replace hb2 := hb2.below hbw
 replace hw := hw.trans (hbw.mono hw.size)
 clear hbw
 refine ch_block (n := 143) (gi := 33) (k := 38) (d1 := 39) (d2 := 40) (d3 := 41) (d4 := 42) (d5 := 43) (d6 := 44) (d7 := 45) (e := decide (x.t = y.t)) hc ⟨rfl, rfl⟩ ⟨rfl, rfl⟩ ⟨rfl, rfl⟩ ⟨rfl, rfl⟩ ⟨rfl, rfl⟩ ⟨rfl, rfl, rfl⟩ ⟨rfl, rfl, .inl rfl⟩ rfl (by decide)
  (v1 := .pointer (some ⟨g1, 5, none⟩)) (v3 := .pointer (some ⟨g2, 5, none⟩)) (u1 := .string x.t) (u3 := .string y.t)
  (fun A H => by generalize A.eval = ρ at H ⊢; unfold execOp; go_simp) (fun A H => by have c : V4.cell? ⟨g1, 5, none⟩ = some (.string x.t) := hb1.cell 5; generalize A.eval = ρ at H ⊢; unfold execOp; go_simp) (fun A H => by generalize A.eval = ρ at H ⊢; unfold execOp; go_simp) (fun A H => by have c : V4.cell? ⟨g2, 5, none⟩ = some (.string y.t) := hb2.cell 5; generalize A.eval = ρ at H ⊢; unfold execOp; go_simp)
  (fun A K H1 H2 hk => wp_val (by unfold execOp; simp only [H1, H2, Sem.run_bind, eql_str, Sem.run_pure]; try rfl) (hk _ (Below.refl _ _))) ?_
 clear hc
 intro A1 V5 hbw hc
 replace hb1 := hb1.below hbw
 replace hb2 := hb2.below hbw
 replace hw := hw.trans (hbw.mono hw.size)
 clear hbw
 refine ch_block (n := 143) (gi := 40) (k := 45) (d1 := 46) (d2 := 47) (d3 := 48) (d4 := 49) (d5 := 50) (d6 := 51) (d7 := 52) (e := decide (x.b = y.b)) hc ⟨rfl, rfl⟩ ⟨rfl, rfl⟩ ⟨rfl, rfl⟩ ⟨rfl, rfl⟩ ⟨rfl, rfl⟩ ⟨rfl, rfl, rfl⟩ ⟨rfl, rfl, .inl rfl⟩ rfl (by decide)
  (v1 := .pointer (some ⟨g1, 6, none⟩)) (v3 := .pointer (some ⟨g2, 6, none⟩)) (u1 := .string x.b) (u3 := .string y.b)
  (fun A H => by generalize A.eval = ρ at H ⊢; unfold execOp; go_simp) (fun A H => by have c : V5.cell? ⟨g1, 6, none⟩ = some (.string x.b) := hb1.cell 6; generalize A.eval = ρ at H ⊢; unfold execOp; go_simp) (fun A H => by generalize A.eval = ρ at H ⊢; unfold execOp; go_simp) (fun A H => by have c : V5.cell? ⟨g2, 6, none⟩ = some (.string y.b) := hb2.cell 6; generalize A.eval = ρ at H ⊢; unfold execOp; go_simp)
  (fun A K H1 H2 hk => wp_val (by unfold execOp; simp only [H1, H2, Sem.run_bind, eql_str, Sem.run_pure]; try rfl) (hk _ (Below.refl _ _))) ?_
 clear hc
 intro A1 V6 hbw hc
 replace hb1 := hb1.below hbw
 replace hb2 := hb2.below hbw
 replace hw := hw.trans (hbw.mono hw.size)
 clear hbw
 refine ch_block (n := 143) (gi := 47) (k := 52) (d1 := 53) (d2 := 54) (d3 := 55) (d4 := 56) (d5 := 57) (d6 := 58) (d7 := 59) (e := decide (x.re = y.re)) hc ⟨rfl, rfl⟩ ⟨rfl, rfl⟩ ⟨rfl, rfl⟩ ⟨rfl, rfl⟩ ⟨rfl, rfl⟩ ⟨rfl, rfl, rfl⟩ ⟨rfl, rfl, .inl rfl⟩ rfl (by decide)
  (v1 := .pointer (some ⟨g1, 7, none⟩)) (v3 := .pointer (some ⟨g2, 7, none⟩)) (u1 := .int .i64 x.re) (u3 := .int .i64 y.re)
  (fun A H => by generalize A.eval = ρ at H ⊢; unfold execOp; go_simp) (fun A H => by have c : V6.cell? ⟨g1, 7, none⟩ = some (.int .i64 x.re) := hb1.cell 7; generalize A.eval = ρ at H ⊢; unfold execOp; go_simp) (fun A H => by generalize A.eval = ρ at H ⊢; unfold execOp; go_simp) (fun A H => by have c : V6.cell? ⟨g2, 7, none⟩ = some (.int .i64 y.re) := hb2.cell 7; generalize A.eval = ρ at H ⊢; unfold execOp; go_simp)
  (fun A K H1 H2 hk => wp_val (by unfold execOp; simp only [H1, H2, Sem.run_bind, eql_int, Sem.run_pure]; try rfl) (hk _ (Below.refl _ _))) ?_
 clear hc
 intro A1 V7 hbw hc
 replace hb1 := hb1.below hbw
 replace hb2 := hb2.below hbw
 replace hw := hw.trans (hbw.mono hw.size)
 clear hbw
 refine ch_block (n := 143) (gi := 54) (k := 59) (d1 := 60) (d2 := 61) (d3 := 62) (d4 := 63) (d5 := 64) (d6 := 65) (d7 := 66) (e := decide (x.pre = y.pre)) hc ⟨rfl, rfl⟩ ⟨rfl, rfl⟩ ⟨rfl, rfl⟩ ⟨rfl, rfl⟩ ⟨rfl, rfl⟩ ⟨rfl, rfl, rfl⟩ ⟨rfl, rfl, .inl rfl⟩ rfl (by decide)
  (v1 := .pointer (some ⟨g1, 8, none⟩)) (v3 := .pointer (some ⟨g2, 8, none⟩)) (u1 := .bool x.pre) (u3 := .bool y.pre)
  (fun A H => by generalize A.eval = ρ at H ⊢; unfold execOp; go_simp) (fun A H => by have c : V7.cell? ⟨g1, 8, none⟩ = some (.bool x.pre) := hb1.cell 8; generalize A.eval = ρ at H ⊢; unfold execOp; go_simp) (fun A H => by generalize A.eval = ρ at H ⊢; unfold execOp; go_simp) (fun A H => by have c : V7.cell? ⟨g2, 8, none⟩ = some (.bool y.pre) := hb2.cell 8; generalize A.eval = ρ at H ⊢; unfold execOp; go_simp)
  (fun A K H1 H2 hk => wp_val (by unfold execOp; simp only [H1, H2, Sem.run_bind, eql_bool, Sem.run_pure]; try rfl) (hk _ (Below.refl _ _))) ?_
 clear hc
 intro A1 V8 hbw hc
 replace hb1 := hb1.below hbw
 replace hb2 := hb2.below hbw
 replace hw := hw.trans (hbw.mono hw.size)
 clear hbw
 refine ch_block (n := 143) (gi := 61) (k := 66) (d1 := 67) (d2 := 68) (d3 := 69) (d4 := 70) (d5 := 71) (d6 := 72) (d7 := 73) (e := decide (x.cs.length = y.cs.length)) hc ⟨rfl, rfl⟩ ⟨rfl, rfl⟩ ⟨rfl, rfl⟩ ⟨rfl, rfl⟩ ⟨rfl, rfl⟩ ⟨rfl, rfl, rfl⟩ ⟨rfl, rfl, .inl rfl⟩ rfl (by decide)
  (v1 := .pointer (some ⟨g1, 9, none⟩)) (v3 := .pointer (some ⟨g2, 9, none⟩)) (u1 := .slice a.ca x.cs.length a.cc) (u3 := .slice a'.ca y.cs.length a'.cc)
  (fun A H => by generalize A.eval = ρ at H ⊢; unfold execOp; go_simp) (fun A H => by have c : V8.cell? ⟨g1, 9, none⟩ = some (.slice a.ca x.cs.length a.cc) := hb1.cell 9; generalize A.eval = ρ at H ⊢; unfold execOp; go_simp) (fun A H => by generalize A.eval = ρ at H ⊢; unfold execOp; go_simp) (fun A H => by have c : V8.cell? ⟨g2, 9, none⟩ = some (.slice a'.ca y.cs.length a'.cc) := hb2.cell 9; generalize A.eval = ρ at H ⊢; unfold execOp; go_simp)
  (fun A K H1 H2 hk => wp_call 71 43 #[.slice a.ca x.cs.length a.cc, .slice a'.ca y.cs.length a'.cc] _ (fun w' => Below V8.heap.size V8 w') rfl (by have hf : A.eval (.func 43) = .func (.func 43) #[] #[] := rfl; generalize A.eval = ρ at H1 H2 hf ⊢; unfold execOp; go_simp) (HN V8 hw) hk) ?_
 clear hc
 intro A1 V9 hbw hc
 replace hb1 := hb1.below hbw
 replace hb2 := hb2.below hbw
 replace hw := hw.trans (hbw.mono hw.size)
 clear hbw
 refine ch_block (n := 143) (gi := 68) (k := 73) (d1 := 74) (d2 := 75) (d3 := 76) (d4 := 77) (d5 := 78) (d6 := 79) (d7 := 80) (e := decide (x.fs.length = y.fs.length)) hc ⟨rfl, rfl⟩ ⟨rfl, rfl⟩ ⟨rfl, rfl⟩ ⟨rfl, rfl⟩ ⟨rfl, rfl⟩ ⟨rfl, rfl, rfl⟩ ⟨rfl, rfl, .inl rfl⟩ rfl (by decide)
  (v1 := .pointer (some ⟨g1, 10, none⟩)) (v3 := .pointer (some ⟨g2, 10, none⟩)) (u1 := .slice a.fa x.fs.length a.fc) (u3 := .slice a'.fa y.fs.length a'.fc)
  (fun A H => by generalize A.eval = ρ at H ⊢; unfold execOp; go_simp) (fun A H => by have c : V9.cell? ⟨g1, 10, none⟩ = some (.slice a.fa x.fs.length a.fc) := hb1.cell 10; generalize A.eval = ρ at H ⊢; unfold execOp; go_simp) (fun A H => by generalize A.eval = ρ at H ⊢; unfold execOp; go_simp) (fun A H => by have c : V9.cell? ⟨g2, 10, none⟩ = some (.slice a'.fa y.fs.length a'.fc) := hb2.cell 10; generalize A.eval = ρ at H ⊢; unfold execOp; go_simp)
  (fun A K H1 H2 hk => wp_call 78 44 #[.slice a.fa x.fs.length a.fc, .slice a'.fa y.fs.length a'.fc] _ (fun w' => Below V9.heap.size V9 w') rfl (by have hf : A.eval (.func 44) = .func (.func 44) #[] #[] := rfl; generalize A.eval = ρ at H1 H2 hf ⊢; unfold execOp; go_simp) (HF V9 hw) hk) ?_
 clear hc
 intro A1 V10 hbw hc
 replace hb1 := hb1.below hbw
 replace hb2 := hb2.below hbw
 replace hw := hw.trans (hbw.mono hw.size)
 clear hbw
 refine ch_block (n := 143) (gi := 75) (k := 80) (d1 := 81) (d2 := 82) (d3 := 83) (d4 := 84) (d5 := 85) (d6 := 86) (d7 := 87) (e := decide (x.cl = y.cl)) hc ⟨rfl, rfl⟩ ⟨rfl, rfl⟩ ⟨rfl, rfl⟩ ⟨rfl, rfl⟩ ⟨rfl, rfl⟩ ⟨rfl, rfl, rfl⟩ ⟨rfl, rfl, .inl rfl⟩ rfl (by decide)
  (v1 := .pointer (some ⟨g1, 11, none⟩)) (v3 := .pointer (some ⟨g2, 11, none⟩)) (u1 := .string x.cl) (u3 := .string y.cl)
  (fun A H => by generalize A.eval = ρ at H ⊢; unfold execOp; go_simp) (fun A H => by have c : V10.cell? ⟨g1, 11, none⟩ = some (.string x.cl) := hb1.cell 11; generalize A.eval = ρ at H ⊢; unfold execOp; go_simp) (fun A H => by generalize A.eval = ρ at H ⊢; unfold execOp; go_simp) (fun A H => by have c : V10.cell? ⟨g2, 11, none⟩ = some (.string y.cl) := hb2.cell 11; generalize A.eval = ρ at H ⊢; unfold execOp; go_simp)
  (fun A K H1 H2 hk => wp_val (by unfold execOp; simp only [H1, H2, Sem.run_bind, eql_str, Sem.run_pure]; try rfl) (hk _ (Below.refl _ _))) ?_
 clear hc
 intro A1 V11 hbw hc
 replace hb1 := hb1.below hbw
 replace hb2 := hb2.below hbw
 replace hw := hw.trans (hbw.mono hw.size)
 clear hbw
 refine ch_block (n := 143) (gi := 82) (k := 87) (d1 := 88) (d2 := 89) (d3 := 90) (d4 := 91) (d5 := 92) (d6 := 93) (d7 := 94) (e := decide (x.clean = y.clean)) hc ⟨rfl, rfl⟩ ⟨rfl, rfl⟩ ⟨rfl, rfl⟩ ⟨rfl, rfl⟩ ⟨rfl, rfl⟩ ⟨rfl, rfl, rfl⟩ ⟨rfl, rfl, .inl rfl⟩ rfl (by decide)
  (v1 := .pointer (some ⟨g1, 12, none⟩)) (v3 := .pointer (some ⟨g2, 12, none⟩)) (u1 := .bool x.clean) (u3 := .bool y.clean)
  (fun A H => by generalize A.eval = ρ at H ⊢; unfold execOp; go_simp) (fun A H => by have c : V11.cell? ⟨g1, 12, none⟩ = some (.bool x.clean) := hb1.cell 12; generalize A.eval = ρ at H ⊢; unfold execOp; go_simp) (fun A H => by generalize A.eval = ρ at H ⊢; unfold execOp; go_simp) (fun A H => by have c : V11.cell? ⟨g2, 12, none⟩ = some (.bool y.clean) := hb2.cell 12; generalize A.eval = ρ at H ⊢; unfold execOp; go_simp)
  (fun A K H1 H2 hk => wp_val (by unfold execOp; simp only [H1, H2, Sem.run_bind, eql_bool, Sem.run_pure]; try rfl) (hk _ (Below.refl _ _))) ?_
 clear hc
 intro A1 V12 hbw hc
 replace hb1 := hb1.below hbw
 replace hb2 := hb2.below hbw
 replace hw := hw.trans (hbw.mono hw.size)
 clear hbw
 refine ch_block (n := 143) (gi := 89) (k := 94) (d1 := 95) (d2 := 96) (d3 := 97) (d4 := 98) (d5 := 99) (d6 := 100) (d7 := 101) (e := decide (x.keep = y.keep)) hc ⟨rfl, rfl⟩ ⟨rfl, rfl⟩ ⟨rfl, rfl⟩ ⟨rfl, rfl⟩ ⟨rfl, rfl⟩ ⟨rfl, rfl, rfl⟩ ⟨rfl, rfl, .inl rfl⟩ rfl (by decide)
  (v1 := .pointer (some ⟨g1, 13, none⟩)) (v3 := .pointer (some ⟨g2, 13, none⟩)) (u1 := .int .i64 x.keep) (u3 := .int .i64 y.keep)
  (fun A H => by generalize A.eval = ρ at H ⊢; unfold execOp; go_simp) (fun A H => by have c : V12.cell? ⟨g1, 13, none⟩ = some (.int .i64 x.keep) := hb1.cell 13; generalize A.eval = ρ at H ⊢; unfold execOp; go_simp) (fun A H => by generalize A.eval = ρ at H ⊢; unfold execOp; go_simp) (fun A H => by have c : V12.cell? ⟨g2, 13, none⟩ = some (.int .i64 y.keep) := hb2.cell 13; generalize A.eval = ρ at H ⊢; unfold execOp; go_simp)
  (fun A K H1 H2 hk => wp_val (by unfold execOp; simp only [H1, H2, Sem.run_bind, eql_int, Sem.run_pure]; try rfl) (hk _ (Below.refl _ _))) ?_
 clear hc
 intro A1 V13 hbw hc
 replace hb1 := hb1.below hbw
 replace hb2 := hb2.below hbw
 replace hw := hw.trans (hbw.mono hw.size)
 clear hbw
 refine ch_block (n := 143) (gi := 96) (k := 101) (d1 := 102) (d2 := 103) (d3 := 104) (d4 := 105) (d5 := 106) (d6 := 107) (d7 := 108) (e := eqW x.w y.w) hc ⟨rfl, rfl⟩ ⟨rfl, rfl⟩ ⟨rfl, rfl⟩ ⟨rfl, rfl⟩ ⟨rfl, rfl⟩ ⟨rfl, rfl, rfl⟩ ⟨rfl, rfl, .inl rfl⟩ rfl (by decide)
  (v1 := .pointer (some ⟨g1, 14, none⟩)) (v3 := .pointer (some ⟨g2, 14, none⟩)) (u1 := .agg (wlArr x.w a.wa a.wc)) (u3 := .agg (wlArr y.w a'.wa a'.wc))
  (fun A H => by generalize A.eval = ρ at H ⊢; unfold execOp; go_simp) (fun A H => exec_load rfl H (load_wl hb1)) (fun A H => by generalize A.eval = ρ at H ⊢; unfold execOp; go_simp) (fun A H => exec_load rfl H (load_wl hb2))
  (fun A K H1 H2 hk => wp_call 106 37 #[.agg (wlArr x.w a.wa a.wc), .agg (wlArr y.w a'.wa a'.wc)] _ (fun w' => Below V13.heap.size V13 w') rfl (by have hf : A.eval (.func 37) = .func (.func 37) #[] #[] := rfl; generalize A.eval = ρ at H1 H2 hf ⊢; unfold execOp; go_simp) (HW V13 hw) hk) ?_
 clear hc
 intro A1 V14 hbw hc
 replace hb1 := hb1.below hbw
 replace hb2 := hb2.below hbw
 replace hw := hw.trans (hbw.mono hw.size)
 clear hbw
 refine ch_block (n := 143) (gi := 103) (k := 108) (d1 := 109) (d2 := 110) (d3 := 111) (d4 := 112) (d5 := 113) (d6 := 114) (d7 := 115) (e := decide (x.hu = y.hu)) hc ⟨rfl, rfl⟩ ⟨rfl, rfl⟩ ⟨rfl, rfl⟩ ⟨rfl, rfl⟩ ⟨rfl, rfl⟩ ⟨rfl, rfl, rfl⟩ ⟨rfl, rfl, .inl rfl⟩ rfl (by decide)
  (v1 := .pointer (some ⟨g1, 20, none⟩)) (v3 := .pointer (some ⟨g2, 20, none⟩)) (u1 := .bool x.hu) (u3 := .bool y.hu)
  (fun A H => by generalize A.eval = ρ at H ⊢; unfold execOp; go_simp) (fun A H => by have c : V14.cell? ⟨g1, 20, none⟩ = some (.bool x.hu) := hb1.cell 20; generalize A.eval = ρ at H ⊢; unfold execOp; go_simp) (fun A H => by generalize A.eval = ρ at H ⊢; unfold execOp; go_simp) (fun A H => by have c : V14.cell? ⟨g2, 20, none⟩ = some (.bool y.hu) := hb2.cell 20; generalize A.eval = ρ at H ⊢; unfold execOp; go_simp)
  (fun A K H1 H2 hk => wp_val (by unfold execOp; simp only [H1, H2, Sem.run_bind, eql_bool, Sem.run_pure]; try rfl) (hk _ (Below.refl _ _))) ?_
 clear hc
 intro A1 V15 hbw hc
 replace hb1 := hb1.below hbw
 replace hb2 := hb2.below hbw
 replace hw := hw.trans (hbw.mono hw.size)
 clear hbw
 refine ch_block (n := 143) (gi := 110) (k := 115) (d1 := 116) (d2 := 117) (d3 := 118) (d4 := 119) (d5 := 120) (d6 := 121) (d7 := 122) (e := decide (x.u = y.u)) hc ⟨rfl, rfl⟩ ⟨rfl, rfl⟩ ⟨rfl, rfl⟩ ⟨rfl, rfl⟩ ⟨rfl, rfl⟩ ⟨rfl, rfl, rfl⟩ ⟨rfl, rfl, .inl rfl⟩ rfl (by decide)
  (v1 := .pointer (some ⟨g1, 21, none⟩)) (v3 := .pointer (some ⟨g2, 21, none⟩)) (u1 := .string x.u) (u3 := .string y.u)
  (fun A H => by generalize A.eval = ρ at H ⊢; unfold execOp; go_simp) (fun A H => by have c : V15.cell? ⟨g1, 21, none⟩ = some (.string x.u) := hb1.cell 21; generalize A.eval = ρ at H ⊢; unfold execOp; go_simp) (fun A H => by generalize A.eval = ρ at H ⊢; unfold execOp; go_simp) (fun A H => by have c : V15.cell? ⟨g2, 21, none⟩ = some (.string y.u) := hb2.cell 21; generalize A.eval = ρ at H ⊢; unfold execOp; go_simp)
  (fun A K H1 H2 hk => wp_val (by unfold execOp; simp only [H1, H2, Sem.run_bind, eql_str, Sem.run_pure]; try rfl) (hk _ (Below.refl _ _))) ?_
 clear hc
 intro A1 V16 hbw hc
 replace hb1 := hb1.below hbw
 replace hb2 := hb2.below hbw
 replace hw := hw.trans (hbw.mono hw.size)
 clear hbw
 refine ch_block (n := 143) (gi := 117) (k := 122) (d1 := 123) (d2 := 124) (d3 := 125) (d4 := 126) (d5 := 127) (d6 := 128) (d7 := 129) (e := decide (x.hp = y.hp)) hc ⟨rfl, rfl⟩ ⟨rfl, rfl⟩ ⟨rfl, rfl⟩ ⟨rfl, rfl⟩ ⟨rfl, rfl⟩ ⟨rfl, rfl, rfl⟩ ⟨rfl, rfl, .inl rfl⟩ rfl (by decide)
  (v1 := .pointer (some ⟨g1, 22, none⟩)) (v3 := .pointer (some ⟨g2, 22, none⟩)) (u1 := .bool x.hp) (u3 := .bool y.hp)
  (fun A H => by generalize A.eval = ρ at H ⊢; unfold execOp; go_simp) (fun A H => by have c : V16.cell? ⟨g1, 22, none⟩ = some (.bool x.hp) := hb1.cell 22; generalize A.eval = ρ at H ⊢; unfold execOp; go_simp) (fun A H => by generalize A.eval = ρ at H ⊢; unfold execOp; go_simp) (fun A H => by have c : V16.cell? ⟨g2, 22, none⟩ = some (.bool y.hp) := hb2.cell 22; generalize A.eval = ρ at H ⊢; unfold execOp; go_simp)
  (fun A K H1 H2 hk => wp_val (by unfold execOp; simp only [H1, H2, Sem.run_bind, eql_bool, Sem.run_pure]; try rfl) (hk _ (Below.refl _ _))) ?_
 clear hc
 intro A1 V17 hbw hc
 replace hb1 := hb1.below hbw
 replace hb2 := hb2.below hbw
 replace hw := hw.trans (hbw.mono hw.size)
 clear hbw
 refine ch_block (n := 143) (gi := 124) (k := 129) (d1 := 130) (d2 := 131) (d3 := 132) (d4 := 133) (d5 := 134) (d6 := 135) (d7 := 136) (e := decide (x.pw = y.pw)) hc ⟨rfl, rfl⟩ ⟨rfl, rfl⟩ ⟨rfl, rfl⟩ ⟨rfl, rfl⟩ ⟨rfl, rfl⟩ ⟨rfl, rfl, rfl⟩ ⟨rfl, rfl, .inl rfl⟩ rfl (by decide)
  (v1 := .pointer (some ⟨g1, 23, none⟩)) (v3 := .pointer (some ⟨g2, 23, none⟩)) (u1 := .string x.pw) (u3 := .string y.pw)
  (fun A H => by generalize A.eval = ρ at H ⊢; unfold execOp; go_simp) (fun A H => by have c : V17.cell? ⟨g1, 23, none⟩ = some (.string x.pw) := hb1.cell 23; generalize A.eval = ρ at H ⊢; unfold execOp; go_simp) (fun A H => by generalize A.eval = ρ at H ⊢; unfold execOp; go_simp) (fun A H => by have c : V17.cell? ⟨g2, 23, none⟩ = some (.string y.pw) := hb2.cell 23; generalize A.eval = ρ at H ⊢; unfold execOp; go_simp)
  (fun A K H1 H2 hk => wp_val (by unfold execOp; simp only [H1, H2, Sem.run_bind, eql_str, Sem.run_pure]; try rfl) (hk _ (Below.refl _ _))) ?_
 clear hc
 intro A1 V18 hbw hc
 replace hb1 := hb1.below hbw
 replace hb2 := hb2.below hbw
 replace hw := hw.trans (hbw.mono hw.size)
 clear hbw
 refine ch_block (n := 143) (gi := 131) (k := 136) (d1 := 137) (d2 := 138) (d3 := 139) (d4 := 140) (d5 := 141) (d6 := 142) (d7 := 4) (e := decide (x.ps.length = y.ps.length)) hc ⟨rfl, rfl⟩ ⟨rfl, rfl⟩ ⟨rfl, rfl⟩ ⟨rfl, rfl⟩ ⟨rfl, rfl⟩ ⟨rfl, rfl, rfl⟩ ⟨rfl, rfl, .inr rfl⟩ rfl (by decide)
  (v1 := .pointer (some ⟨g1, 24, none⟩)) (v3 := .pointer (some ⟨g2, 24, none⟩)) (u1 := .slice a.pa x.ps.length a.pc) (u3 := .slice a'.pa y.ps.length a'.pc)
  (fun A H => by generalize A.eval = ρ at H ⊢; unfold execOp; go_simp) (fun A H => by have c : V18.cell? ⟨g1, 24, none⟩ = some (.slice a.pa x.ps.length a.pc) := hb1.cell 24; generalize A.eval = ρ at H ⊢; unfold execOp; go_simp) (fun A H => by generalize A.eval = ρ at H ⊢; unfold execOp; go_simp) (fun A H => by have c : V18.cell? ⟨g2, 24, none⟩ = some (.slice a'.pa y.ps.length a'.pc) := hb2.cell 24; generalize A.eval = ρ at H ⊢; unfold execOp; go_simp)
  (fun A K H1 H2 hk => wp_call 141 45 #[.slice a.pa x.ps.length a.pc, .slice a'.pa y.ps.length a'.pc] _ (fun w' => Below V18.heap.size V18 w') rfl (by have hf : A.eval (.func 45) = .func (.func 45) #[] #[] := rfl; generalize A.eval = ρ at H1 H2 hf ⊢; unfold execOp; go_simp) (HP V18 hw) hk) ?_
 clear hc
 intro A1 V19 hbw hc
 replace hb1 := hb1.below hbw
 replace hb2 := hb2.below hbw
 replace hw := hw.trans (hbw.mono hw.size)
 clear hbw
 refine wpList_nil ?_
 refine hK _ _ ?_
 have h4 := hc.pk
 have hr4 := HR.out
 unfold eqP at hr4
 rw [hr4] at h4
 have hd4 := hc.df
 clear hc
 go_wp2_with fail
 exact bodyPost_ret (v := .bool r) (by simp [results, Tryz.results13, h4]) hd4 ⟨rfl, hw⟩
open Go.RowKit Go.Lib Prp Pkt Vbi
def lgR (t : Bool) (s : ByteArray) (e : Int) : ByteArray × ByteArray × Int := if ¬ e = 0 then (⟨#[]⟩, s, e) else if (tl t s).2.2 = 0 then ((tl t s).1, s.extract (tl t s).2.1.toNat s.size, 0) else (⟨#[]⟩, s, inn (tl t s).2.2)
theorem rdlong_is (g : Nat) (t : Bool) (s T s' : ByteArray) (e e' : Int) (w : World) (hs : s.size ≤ 281474976710656) (h : Rd w g s e) (hr : lgR t s e = (T, s', e')) :
  Calls Tryz.prog 108 #[.pointer (some ⟨g, 0, none⟩), .bool t] w fun r w' => r = .returned (.string T) ∧ Rd w' g s' e' ∧ Bar g w w' := by
 have hg := h.lt
 have c0 := h.cell 0
 have c1 := h.cell 1
 have H := Lib.hid h
 clear h
 unfold lgR at hr
 by_cases he : e = 0
 ·rw [if_neg (not_not_intro he)] at hr
  subst he
  by_cases hl : (tl t s).2.2 = 0
  ·rw [if_pos hl] at hr
   obtain ⟨m, k1, k2, -⟩ := tl_took hl
   obtain ⟨S, K, E, hT⟩ : ∃ S K E, tl t s = (S, K, E) := ⟨_, _, _, rfl⟩
   rw [hT] at hl hr k1
   obtain rfl : E = 0 := hl
   obtain rfl : K = ((2 + m : Nat) : Int) := k1
   injection hr with r1 r2
   injection r2 with r2 r3
   subst r1 r3
   obtain ⟨k, hk⟩ : ∃ k, 2 + m = k := ⟨_, rfl⟩
   rw [hk] at hT k2 r2
   have HT := Lib.hid (fun W => RTakeLong_is t s S (k : Int) 0 W hs hT)
   have HE := Lib.hid r2
   clear hT r2 hk
   have hI : (k : Int) ≤ (s.size : Int) := by omega
   go_enter Tryz.func108, Tryz.ntmps108
   go_wp2_with (go_at_call 133; refine (HT.out _).mono ?_; rintro r w1 ⟨rfl, hb⟩; have H1 : Hid (Rd w1 g s 0) := Lib.hid (Box.below H.out hb); have HB := Lib.hid hb; clear hb c0 c1; have c0 := H1.out.cell 0; have f0 := H1.out.frozen 0)
   go_ret
   exact ⟨rfl, by rw [← HE.out]; exact H1.out.put0 _, (Bar.of g HB.out).trans (Bar.set g _ 0 _)⟩
  ·rw [if_neg hl] at hr
   obtain ⟨S, K, E, hT⟩ : ∃ S K E, tl t s = (S, K, E) := ⟨_, _, _, rfl⟩
   rw [hT] at hl hr
   have hE : ¬ E = 0 := hl
   injection hr with r1 r2
   injection r2 with r2 r3
   subst r1 r2
   have HT := Lib.hid (fun W => RTakeLong_is t s S K E W hs hT)
   have HI := Lib.hid (fun W => inner_is E e' W r3)
   clear hT r3 hl
   have hEb := ne_false hE
   go_enter Tryz.func108, Tryz.ntmps108
   go_wp2_with (go_at_call 133; refine (HT.out _).mono ?_; rintro r w1 ⟨rfl, hb⟩; have H1 : Hid (Rd w1 g s 0) := Lib.hid (Box.below H.out hb); have HB := Lib.hid hb; clear hb c0 c1; have c1 := H1.out.cell 1; have f1 := H1.out.frozen 1)
   refine (HI.out _).mono ?_
   rintro r w2 ⟨rfl, rfl⟩
   go_wp2_with fail
   go_ret
   exact ⟨rfl, H1.out.put1 _, (Bar.of g HB.out).trans (Bar.set g _ 1 _)⟩
 ·rw [if_pos he] at hr
  injection hr with r1 r2
  injection r2 with r2 r3
  subst r1 r2 r3
  go_enter Tryz.func108, Tryz.ntmps108
  go_wp2_with fail
  go_ret
  exact ⟨rfl, H.out, Bar.refl _ _⟩
end Go.Proofs.YtdbbcfohjkgdcaaGreat
