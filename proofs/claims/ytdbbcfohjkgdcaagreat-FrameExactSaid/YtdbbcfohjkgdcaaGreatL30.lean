/- The document's own: all behind a packet's length: filters, with what is asked of them. -/
import Derived.Test.YtdbbcfohjkgdcaaGreatL00
import Derived.Test.YtdbbcfohjkgdcaaGreatL25
set_option maxRecDepth 100000
set_option maxHeartbeats 64000000
namespace Go.Proofs.YtdbbcfohjkgdcaaGreat
open Go.RowKit Go.Lib Prp Pkt Vbi
section
variable {w w1 w2 : World} {B e sz n g c : Nat} {A : Option Addr} {xs : List Value}
theorem own_bar_off (h : w1.ownsRow B e sz (.slice A n c) n xs) (hb : Bar g w1 w2) (ho : Off g A) : w2.ownsRow B e sz (.slice A n c) n xs := by
 refine ⟨h.1, ?_⟩
 rcases h.2 with h2 | ⟨k, cap, cur, hv, hk, hh, r⟩
 ·exact .inl h2
 ·refine .inr ⟨k, cap, cur, hv, hk, ?_, r⟩
  injection hv with hA _ _
  rw [hb.block k (Array.getElem?_eq_some_iff.1 hh).1 (ho _ hA)]
  exact hh
theorem own_off (h : w.ownsRow B e sz (.slice A n c) n xs) : Off w.heap.size A := by
 intro x hx
 rcases h.2 with ⟨hv, _⟩ | ⟨k, cap, cur, hv, _, hh, _⟩
 ·injection hv with hA _ _
  rw [hA] at hx
  cases hx
 ·injection hv with hA _ _
  rw [hA] at hx
  injection hx with hx
  subst hx
  have := (Array.getElem?_eq_some_iff.1 hh).1
  show k ≠ w.heap.size
  omega
end
theorem nums_two {w w' : World} {g h B : Nat} {A : Option Addr} {kd : IntKind} {xs : List Int} (k : Nums w B kd A xs) (hB : B ≤ w.heap.size) (h1 : Off g A) (h2 : Off h A) (hb : Bar2 g h w w') : Nums w' B kd A xs := by
 rcases k with k | ⟨a, k1, k2, k3⟩
 ·exact .inl k
 ·exact .inr ⟨a, k1, k2, fun j hj => (World.cell?_of_block (hb.block _ (by rw [add_block]; omega) (by rw [add_block]; exact h1 _ k1) (by rw [add_block]; exact h2 _ k1))).trans (k3 j hj)⟩
theorem info_fil1 : (Tryz.prog.info? 75).map (·.size) = some 5 := by kernel_rfl
theorem load_fil {W : World} {g : Nat} {f : Fl} (h : Box W g (fcells f).toArray) : (loadVar 75 ⟨g, 0, none⟩).run Tryz.prog W = .ok (fagg f) W :=
 run_loadVar_mid W g 0 75 (fcells f) _ (fun j v hv => by rw [Nat.zero_add, h.cell j]; rw [← hv]; simp) Tryz.underlying75 rfl info_fil1
@[irreducible] def FilsIn (B : Nat) (w0 : World) (g h : Nat) (st0 : St) (p : Pk) (a : Ad) (W5 : World) (l : List Fl) (A : Option Addr) (c : Nat) (sc : St) (W : World) : Prop :=
 Live false B w0 g h st0 p a W5 ∧ RdOf false W g sc ∧ Box W h (pkArr { p with fs := l } { a with fa := A, fc := c }) ∧ W.ownsRow W5.heap.size 75 5 (.slice A l.length c) l.length (flatF l) ∧ Bar2 g h W5 W
section
variable {B : Nat} {w0 : World} {g h : Nat} {st0 sc sc' : St} {p : Pk} {a : Ad} {W5 W W' : World} {l : List Fl} {A : Option Addr} {c : Nat}
theorem FilsIn.mk (k : Live false B w0 g h st0 p a W5 ∧ RdOf false W g sc ∧ Box W h (pkArr { p with fs := l } { a with fa := A, fc := c }) ∧ W.ownsRow W5.heap.size 75 5 (.slice A l.length c) l.length (flatF l) ∧ Bar2 g h W5 W) : FilsIn B w0 g h st0 p a W5 l A c sc W := by unfold FilsIn; exact k
theorem FilsIn.out (k : FilsIn B w0 g h st0 p a W5 l A c sc W) : Live false B w0 g h st0 p a W5 ∧ RdOf false W g sc ∧ Box W h (pkArr { p with fs := l } { a with fa := A, fc := c }) ∧ W.ownsRow W5.heap.size 75 5 (.slice A l.length c) l.length (flatF l) ∧ Bar2 g h W5 W := by unfold FilsIn at k; exact k
theorem FilsIn.start (k : Live false B w0 g h st0 p a W) (h1 : p.fs = []) (h2 : a.fa = none) (h3 : a.fc = 0) : FilsIn B w0 g h st0 p a W [] none 0 st0 W := by
 refine .mk ⟨k, k.rd, ?_, World.ownsRow_nil _ _ _ _, Bar2.refl _ _ _⟩
 have := k.bx
 obtain ⟨kind, dup, q, ret, id, t, b, re, pre, cs, fs, cl, clean, keep, w, hu, u, hp, pw, ps⟩ := p
 obtain ⟨ca, cc, fa, fc, wa, wc, pa, pc⟩ := a
 simp only at h1 h2 h3
 subst h1 h2 h3
 exact this
theorem FilsIn.gl (k : FilsIn B w0 g h st0 p a W5 l A c sc W) : g < W5.heap.size ∧ h < W5.heap.size ∧ g ≠ h := ⟨k.out.1.rd.lt, k.out.1.bx.lt, k.out.1.out.2.2.2.1⟩
theorem FilsIn.rd (k : FilsIn B w0 g h st0 p a W5 l A c sc W) : RdOf false W g sc := k.out.2.1
theorem FilsIn.f10 (k : FilsIn B w0 g h st0 p a W5 l A c sc W) : W.cell? ⟨h, 10, none⟩ = some (.slice A l.length c) := k.out.2.2.1.cell 10
theorem FilsIn.frozen (k : FilsIn B w0 g h st0 p a W5 l A c sc W) (i : Nat) : W.frozen? ⟨h, i, none⟩ = false := k.out.2.2.1.frozen i
theorem FilsIn.own (k : FilsIn B w0 g h st0 p a W5 l A c sc W) : W.ownsRow W5.heap.size 75 5 (.slice A l.length c) l.length (flatF l) := k.out.2.2.2.1
theorem FilsIn.size (k : FilsIn B w0 g h st0 p a W5 l A c sc W) : W5.heap.size ≤ W.heap.size := k.out.2.2.2.2.size
theorem FilsIn.bar (k : FilsIn B w0 g h st0 p a W5 l A c sc W) (hb : Bar g W W') (hr : RdOf false W' g sc') : FilsIn B w0 g h st0 p a W5 l A c sc' W' := by
 obtain ⟨k1, k2, k3, k4, k5⟩ := k.out
 exact .mk ⟨k1, hr, hb.box k3 k.gl.2.2.symm, own_bar k4 hb k.gl.1, k5.bar hb⟩
theorem FilsIn.below (k : FilsIn B w0 g h st0 p a W5 l A c sc W) (hb : Below W.heap.size W W') : FilsIn B w0 g h st0 p a W5 l A c sc W' := k.bar (.of g hb) (k.rd.below hb)
theorem FilsIn.alloc (k : FilsIn B w0 g h st0 p a W5 l A c sc W) (o : Obj) : FilsIn B w0 g h st0 p a W5 l A c sc (W.alloc o) := k.below ((Below.refl _ _).alloc (Nat.le_refl _) o)
theorem FilsIn.far (k : FilsIn B w0 g h st0 p a W5 l A c sc W) {q : Nat} (hq : W5.heap.size ≤ q) (ho : Off q A) (i : Nat) (v : Value) : FilsIn B w0 g h st0 p a W5 l A c sc (W.setCell ⟨q, i, none⟩ v) := by
 obtain ⟨k1, k2, k3, k4, k5⟩ := k.out
 obtain ⟨g1, g2, g3⟩ := k.gl
 exact .mk ⟨k1, k2.far (p := ⟨q, i, none⟩) (by show g ≠ q; omega) v, k3.far (p := ⟨q, i, none⟩) (by show h ≠ q; omega) v, own_bar_off k4 (Bar.set q W i v) ho, k5.then_ ((Below.refl _ _).setCell (p := ⟨q, i, none⟩) hq v)⟩
theorem FilsIn.box_then (k : FilsIn B w0 g h st0 p a W5 l A c sc W) (hb : Below W5.heap.size W W') : Box W' h (pkArr { p with fs := l } { a with fa := A, fc := c }) := by
 obtain ⟨T, hT⟩ := k.out.2.2.1
 exact ⟨T, (hb.block h k.gl.2.1).trans hT⟩
theorem FilsIn.more (k : FilsIn B w0 g h st0 p a W5 l A c sc W) {l' : List Fl} {A' : Option Addr} {c' : Nat} (hb : Below W5.heap.size W W') (ho : W'.ownsRow W5.heap.size 75 5 (.slice A' l'.length c') l'.length (flatF l')) :
  FilsIn B w0 g h st0 p a W5 l' A' c' sc (W'.setCell ⟨h, 10, none⟩ (.slice A' l'.length c')) := by
 obtain ⟨k1, k2, k3, k4, k5⟩ := k.out
 obtain ⟨g1, g2, g3⟩ := k.gl
 exact .mk ⟨k1, (k2.then_ hb g1).map fun _ _ r => Box.far r g3 _, (k.box_then hb).put 10 _, own_bar ho (Bar.set h _ 10 _) g2, (k5.then_ hb).bar' (Bar.set h _ 10 _)⟩
theorem FilsIn.live (k : FilsIn B w0 g h st0 p a W5 l A c sc W) : Live false B w0 g h sc { p with fs := l } { a with fa := A, fc := c } W := by
 obtain ⟨k1, k2, k3, k4, k5⟩ := k.out
 obtain ⟨g1, g2, g3⟩ := k.gl
 obtain ⟨m1, m2, m3, m4, m5, m6, m7, m8, m9, m10, m11⟩ := k1.out
 have hn := own_new k4
 have hs := k5.size
 refine .mk ⟨m1.trans ⟨k5.os, k5.tape, k5.output, k5.size, fun i hi => k5.block i (by omega) (by omega) (by omega)⟩, m2, m3, m4, k2, k3, ?_, ⟨m8.ca, hn.off g1, m8.wa, m8.pa⟩, ⟨m9.ca, hn.off g2, m9.wa, m9.pa⟩, ⟨m10.cs, own_room k4, m10.ws, m10.ps⟩, ⟨m11.ca, hn.mono (by omega), m11.wa, m11.pa⟩⟩
 exact ⟨(nums_two m7.cs (Nat.le_refl _) m8.ca m9.ca k5).mono hs, FilsAt.of_own k4, (props_bar2 m7.ws (Nat.le_refl _) m8.wa m9.wa k5).mono hs, (props_bar2 m7.ps (Nat.le_refl _) m8.pa m9.pa k5).mono hs⟩
end
@[irreducible] def FilsBx (B : Nat) (w0 : World) (g h : Nat) (st0 : St) (p : Pk) (a : Ad) (W5 : World) (l : List Fl) (A : Option Addr) (c : Nat) (sc : St) (q : Nat) (ds : Array Value) (W : World) : Prop :=
 FilsIn B w0 g h st0 p a W5 l A c sc W ∧ Box W q ds ∧ W5.heap.size ≤ q ∧ Off q A
section
variable {B : Nat} {w0 : World} {g h : Nat} {st0 sc sc' : St} {p : Pk} {a : Ad} {W5 W W' : World} {l : List Fl} {A : Option Addr} {c q : Nat} {ds : Array Value}
theorem FilsBx.mk (k : FilsIn B w0 g h st0 p a W5 l A c sc W ∧ Box W q ds ∧ W5.heap.size ≤ q ∧ Off q A) : FilsBx B w0 g h st0 p a W5 l A c sc q ds W := by unfold FilsBx; exact k
theorem FilsBx.out (k : FilsBx B w0 g h st0 p a W5 l A c sc q ds W) : FilsIn B w0 g h st0 p a W5 l A c sc W ∧ Box W q ds ∧ W5.heap.size ≤ q ∧ Off q A := by unfold FilsBx at k; exact k
theorem FilsBx.new (k : FilsIn B w0 g h st0 p a W5 l A c sc W) (ds : Array Value) : FilsBx B w0 g h st0 p a W5 l A c sc W.heap.size ds (W.alloc (.cells ds 75)) :=
 .mk ⟨k.alloc _, Box.new W 75 ds, k.size, own_off k.own⟩
theorem FilsBx.bar (k : FilsBx B w0 g h st0 p a W5 l A c sc q ds W) (hb : Bar g W W') (hr : RdOf false W' g sc') : FilsBx B w0 g h st0 p a W5 l A c sc' q ds W' := by
 obtain ⟨k1, k2, k3, k4⟩ := k.out
 exact .mk ⟨k1.bar hb hr, hb.box k2 (by have := k1.gl.1; omega), k3, k4⟩
theorem FilsBx.put (k : FilsBx B w0 g h st0 p a W5 l A c sc q ds W) (i : Nat) (v : Value) : FilsBx B w0 g h st0 p a W5 l A c sc q (ds.setIfInBounds i v) (W.setCell ⟨q, i, none⟩ v) := by
 obtain ⟨k1, k2, k3, k4⟩ := k.out
 exact .mk ⟨k1.far k3 k4 i v, k2.put i v, k3, k4⟩
theorem FilsBx.cell (k : FilsBx B w0 g h st0 p a W5 l A c sc q ds W) (i : Nat) : W.cell? ⟨q, i, none⟩ = ds[i]? := k.out.2.1.cell i
theorem FilsBx.frozen (k : FilsBx B w0 g h st0 p a W5 l A c sc q ds W) (i : Nat) : W.frozen? ⟨q, i, none⟩ = false := k.out.2.1.frozen i
end
def FilsSt (sub : Bool) (l : List Fl) (F : Res (List Fl)) (sc : St) : Prop := l.length ≤ 5 ∧ (∀ s, sc = .ok s → l.length ≤ 4 ∧ (l.length = 0 → s.size ≠ 0)) ∧ Goes (filterR sub) F l sc
theorem fils_start (sub : Bool) (s2 : St) : FilsSt sub [] (s2.run (manyR (filterR sub) 5 [])) (s2.want (decide (s2.rest.size ≠ 0)) 9) := by
 refine ⟨Nat.zero_le _, fun s hs => ⟨Nat.zero_le _, fun _ => ?_⟩, ?_⟩
 ·cases s2 with
  | ok x =>
   by_cases hx : x.size = 0
   ·have : (St.ok x).want (decide ((St.ok x).rest.size ≠ 0)) 9 = .bad 9 := by rw [decide_eq_false (fun h => h hx)]; rfl
    rw [this] at hs
    cases hs
   ·have : (St.ok x).want (decide ((St.ok x).rest.size ≠ 0)) 9 = .ok x := by rw [decide_eq_true (show (St.ok x).rest.size ≠ 0 from hx), want_true]
    rw [this] at hs
    injection hs with hs
    rw [← hs]
    exact hx
  | bad e => cases hs
 ·cases s2 with
  | ok x =>
   by_cases hx : x.size = 0
   ·have : (St.ok x).want (decide ((St.ok x).rest.size ≠ 0)) 9 = .bad 9 := by rw [decide_eq_false (fun h => h hx)]; rfl
    rw [this]
    show manyR (filterR sub) (4 + 1) [] x = .bad 9
    rw [many_stop hx]
    rfl
   ·have : (St.ok x).want (decide ((St.ok x).rest.size ≠ 0)) 9 = .ok x := by rw [decide_eq_true (show (St.ok x).rest.size ≠ 0 from hx), want_true]
    rw [this]
    rfl
  | bad e => rfl
theorem filterS_bad (sub : Bool) (e : Int) : (filterS sub (.bad e)).2 = .bad e := by
 cases sub <;> rfl
theorem fils_round {sub : Bool} {l : List Fl} {F : Res (List Fl)} {s : ByteArray} (h : FilsSt sub l F (.ok s)) (h0 : s.size ≠ 0) {b : Bool} (hb : decide ((l.length : Int) < 4) = b) {sw : St} (hw : (St.ok s).want b 2 = sw) {v : Fl} {s3 : St} (h3 : (filterS sub sw).2 = s3) (hv : s3.isBad = false → v = (filterS sub sw).1) :
  FilsSt sub (l ++ [v]) F s3 := by
 obtain ⟨h5, hok, hg⟩ := h
 obtain ⟨h4, _⟩ := hok s rfl
 have hg : F = manyR (filterR sub) (5 - l.length) l s := hg
 obtain ⟨f, hf⟩ : ∃ f, 5 - l.length = f + 1 := ⟨4 - l.length, by omega⟩
 rw [hf] at hg
 by_cases hl : l.length = 4
 ·rw [decide_eq_false (by omega)] at hb
  subst hb
  have hw : St.bad 2 = sw := hw
  subst hw
  rw [filterS_bad] at h3
  subst h3
  refine ⟨by simp; omega, fun s hs => (by cases hs), ?_⟩
  show F = .bad 2
  rw [hg, many_full h0 hl]
 ·rw [decide_eq_true (by omega)] at hb
  subst hb
  rw [want_true] at hw
  subst hw
  refine ⟨by simp; omega, fun x hx => ⟨by simp; omega, fun hz => by simp at hz⟩, ?_⟩
  cases s3 with
  | ok s' =>
   have hv := hv rfl
   have hrun : filterR sub s = .ok v s' := by
    obtain ⟨v', s1, hv'⟩ : ∃ v s1, filterS sub (.ok s) = (v, s1) := ⟨_, _, rfl⟩
    rw [hv'] at h3 hv
    unfold filterR
    rw [hv']
    have h3 : s1 = .ok s' := h3
    have hv : v = v' := hv
    rw [h3, hv]
   show F = manyR (filterR sub) (5 - (l ++ [v]).length) (l ++ [v]) s'
   rw [hg, many_step h0 hl hrun, List.length_append]
   congr 1
   simp
   omega
  | bad e =>
   have hrun : filterR sub s = .bad e := by
    obtain ⟨v', s1, hv'⟩ : ∃ v s1, filterS sub (.ok s) = (v, s1) := ⟨_, _, rfl⟩
    rw [hv'] at h3
    unfold filterR
    rw [hv']
    have h3 : s1 = .bad e := h3
    rw [h3]
   show F = .bad e
   rw [hg, many_err h0 hl hrun]
theorem fils_end {sub : Bool} {l : List Fl} {F : Res (List Fl)} {sc : St} (h : FilsSt sub l F sc) (he : sc.isBad = true ∨ ∃ s, sc = .ok s ∧ s.size = 0) : F.st = sc ∧ (F.st.isBad = false → F.val [] = l) := by
 obtain ⟨h5, hok, hg⟩ := h
 rcases he with he | ⟨s, rfl, hs⟩
 ·cases sc with
  | ok s => cases he
  | bad e =>
   have hg : F = .bad e := hg
   rw [hg]
   exact ⟨rfl, fun hb => by cases hb⟩
 ·obtain ⟨h4, hn⟩ := hok s rfl
  have hg : F = manyR (filterR sub) (5 - l.length) l s := hg
  obtain ⟨f, hf⟩ : ∃ f, 5 - l.length = f + 1 := ⟨4 - l.length, by omega⟩
  rw [hf, many_stop hs, if_neg (fun h => hn h hs)] at hg
  rw [hg]
  exact ⟨rfl, fun _ => rfl⟩
def filRd (t : ByteArray) (n : Int) : Fl := ⟨t, n % 4, decide (n / 4 % 2 = 1), decide (n / 8 % 2 = 1), n / 16 % 4⟩
theorem filRd_ok {t : ByteArray} {n : Int} {s2 : St} (h0 : 0 ≤ n) (h1 : n ≤ 255) : s2.want (decide ((n % 4 < 3 ∧ n / 16 % 4 < 3) ∧ n < 64)) 9 = s2.want (decide (n % 4 < 3 ∧ n / 16 < 3)) 9 ∧ ((s2.want (decide (n % 4 < 3 ∧ n / 16 < 3)) 9).isBad = false → filRd t n = filOf t n) := by
 have e : decide ((n % 4 < 3 ∧ n / 16 % 4 < 3) ∧ n < 64) = decide (n % 4 < 3 ∧ n / 16 < 3) := decide_eq_decide.2 (by omega)
 refine ⟨by rw [e], fun hb => ?_⟩
 have h : n % 4 < 3 ∧ n / 16 < 3 := by
  by_cases h : n % 4 < 3 ∧ n / 16 < 3
  ·exact h
  ·rw [decide_eq_false h] at hb
   cases s2 <;> cases hb
 unfold filRd filOf
 rw [show n / 16 % 4 = n / 16 by omega]
open Go.RowKit Go.Lib Prp Pkt Vbi
theorem rbody_fils8 (kd fl z : Int) (s : ByteArray) (w : World) (hk : kd = 8) (hrf : rflagsZ (zp kd) = fl) (hfl : flagsZ (zp kd) = fl) (hz0 : 0 ≤ z) (hz1 : z ≤ 15) (hs : s.size ≤ 268435456) :
  Calls Tryz.prog 84 #[.int .i64 kd, .int .i64 z, .string s] w (GivesBody (bodyS (16 * kd + z) s) w) := by
 obtain ⟨i0, hi, hz3, hz4, hz5⟩ := info_parts info_fil
 have HRF := Lib.hid hrf
 have HFL := Lib.hid hfl
 have HKD : Hid (kd = 8 ∧ kd ≠ 0 ∧ kd ≠ 3 ∧ (∀ st, partsS (zp kd) st = askS true (zp kd) st) ∧ placeB kd = true) :=
  ⟨hk, by omega, by omega, by subst hk; exact fun _ => rfl, by subst hk; rfl⟩
 have e0 : (kd == 0) = false := ne_false (by omega)
 have e1 : (kd == 1) = false := ne_false (by omega)
 have e2 : (kd == 2) = false := ne_false (by omega)
 have e3 : (kd == 3) = false := ne_false (by omega)
 have e4 : (kd == 4) = false := ne_false (by omega)
 have e5 : (kd == 5) = false := ne_false (by omega)
 have e6 : (kd == 6) = false := ne_false (by omega)
 have e7 : (kd == 7) = false := ne_false (by omega)
 have e8 : (kd == 8) = true := beq_iff_eq.2 hk
 have e9 : (kd == 9) = false := ne_false (by omega)
 have e10 : (kd == 10) = false := ne_false (by omega)
 have e11 : (kd == 11) = false := ne_false (by omega)
 have e12 : (kd == 12) = false := ne_false (by omega)
 have e13 : (kd == 13) = false := ne_false (by omega)
 have e14 : (kd == 14) = false := ne_false (by omega)
 have e15 : (kd == 15) = false := ne_false (by omega)
 clear hk hrf hfl
 ·skip
  have HF0 := hz0
  have HFB := Lib.hid HF0
  have HZ := Lib.hid hs
  have hb0 := Box.new w 30 (pkArr (zp 0) za)
  have ha := (Below.refl w.heap.size w).alloc (Nat.le_refl _) (.cells (pkArr (zp 0) za) 30)
  obtain ⟨W1, hW⟩ : ∃ W1, w.alloc (.cells (pkArr (zp 0) za) 30) = W1 := ⟨_, rfl⟩
  rw [hW] at hb0 ha
  simp only [pkArr, zp, za, zw, List.length_nil] at hW
  have HW := Lib.hid hW
  have HK0 := Lib.hid hb0
  have HA := Lib.hid ha
  clear hW hb0 ha HF0
  go_enter Tryz.func84, Tryz.ntmps84
  go_upto_region 1 with fail
  rw [HW.out]
  clear HW
  obtain ⟨k0, hk0⟩ : ∃ k, w.heap.size = k := ⟨_, rfl⟩
  have HQ9 := Lib.hid hk0
  rw [hk0] at HK0 ⊢
  clear hk0
  have hkl := HK0.out.lt
  have hb0 := Box.new W1 30 (pkArr (zp 0) za)
  have ha := (Below.refl W1.heap.size W1).alloc (Nat.le_refl _) (.cells (pkArr (zp 0) za) 30)
  obtain ⟨W2, hW⟩ : ∃ W2, W1.alloc (.cells (pkArr (zp 0) za) 30) = W2 := ⟨_, rfl⟩
  rw [hW] at hb0 ha
  simp only [pkArr, zp, za, zw, List.length_nil] at hW
  have HW := Lib.hid hW
  obtain ⟨h, hh⟩ : ∃ h, W1.heap.size = h := ⟨_, rfl⟩
  rw [hh] at hb0 ha hkl
  have HB2 := Lib.hid hb0
  have HA2 := Lib.hid ha
  have HH := Lib.hid hh
  clear hW hb0 ha
  go_upto_region 2 with (first | (refine wpList_build_kind rfl (.tmp 14) rfl kd rfl ?_) | (rw [HW.out]; refine wpList_store_whole rfl 30 (.tmp 8) (.tmp 15) rfl h (pkArr (zp kd) za) rfl rfl (pkArr (zp 0) za) HB2.out info_pk rfl (one_pk _ _) ?_; simp only [Act.put]))
  have HB3 := Lib.hid (HB2.out.row (pkArr (zp kd) za))
  have HA3 := Lib.hid ((Bar.row h W2 (pkArr (zp kd) za)).below HA2.out (Nat.le_refl _) (by have := HA2.out.size; omega))
  clear HW HB2 HA2 hh
  generalize World.setRow _ _ _ = W3 at HB3 HA3 ⊢
  have hhl := HB3.out.lt
  go_upto_region 3 with fail
  have hr4 : RdOf false (W3.alloc (.cells #[.string s, .int .i64 0] 154)) W3.heap.size (.ok s) := ⟨Box.new W3 154 #[.string s, .int .i64 0], HZ.out⟩
  have ha4 := (Below.refl W3.heap.size W3).alloc (Nat.le_refl _) (.cells #[.string s, .int .i64 0] 154)
  obtain ⟨g, hg⟩ : ∃ g, W3.heap.size = g := ⟨_, rfl⟩
  rw [hg] at hr4 hhl ⊢
  have HL4 := Lib.hid (Live.mk (x := false) (B := h) (w0 := W1) (g := g) (h := h) (st := .ok s) (p := zp kd) (a := za) ⟨HA3.out.alloc (by omega) _, by omega, Nat.le_refl _, by omega, hr4, HB3.out.below (ha4.mono (by omega)), PkAt.zero' _ _ _ ⟨rfl, rfl, rfl, rfl⟩, .zero g, .zero h, PkCap.zero' _ ⟨rfl, rfl, rfl, rfl⟩, .zero h⟩)
  clear hr4 ha4 HA3 HB3 hg HZ
  generalize W3.alloc _ = W4 at HL4 ⊢
  have hld := load_bx HL4.out.bx
  go_wp2_with (refine wpList_load_any (by rfl) 30 (.tmp 8) rfl h 0 rfl _ hld ?_)
  refine (rflags_is (zp kd) za fl W4 (Int.le_refl 0) (show (0 : Int) ≤ 3 by decide) HRF.out).mono ?_
  rintro r w5 ⟨rfl, q1⟩
  have HL5 := Lib.hid (HL4.out.bar (Bar.of g q1) (HL4.out.rd.below q1))
  have HK5 : Hid (Box w5 k0 (pkArr (zp 0) za)) := Lib.hid (HK0.out.below (HL5.out.b.mono (by have := HH.out; omega)))
  have HB5 := Lib.hid (HA.out.trans (HL5.out.b.mono (by have := HQ9.out; omega)))
  clear q1 hld HL4
  by_cases hzf : z = fl
  ·subst hzf
   have HRB := Lib.hid (body_good kd z s HKD.out.2.1 HKD.out.2.2.1 trivial hz0 hz1 HFL.out)
   clear HK5 HB5 HFB
   obtain ⟨R, hR⟩ : ∃ R, partsS (zp kd) (.ok s) = R := ⟨_, rfl⟩
   rw [hR] at HRB
   obtain ⟨n, hn⟩ : ∃ n, ((St.ok s).run (fixR 2)).val 0 = n := ⟨_, rfl⟩
   obtain ⟨s0, hs0⟩ : ∃ x, ((St.ok s).run (fixR 2)).st = x := ⟨_, rfl⟩
   have HO1 : Calls Tryz.prog 105 #[.pointer (some ⟨g, 0, none⟩), .int .i64 2] w5 fun r w' => r = .returned (.int .i64 n) ∧ RdOf false w' g s0 ∧ Bar g w5 w' := by
    rw [← hn, ← hs0]
    exact fixed_st g 2 (.ok s) w5 (by decide) HL5.out.rd
   obtain ⟨bn, hbn⟩ : ∃ b, decide (0 < n) = b := ⟨_, rfl⟩
   obtain ⟨st2, hst2⟩ : ∃ x, s0.want bn 8 = x := ⟨_, rfl⟩
   have hnv : ((St.ok s).run numberR).val 0 = n := (number_val _).trans hn
   have hns : ((St.ok s).run numberR).st = st2 := by rw [number_st, hn, hs0, hbn, hst2]
   obtain ⟨L, hL⟩ : ∃ L, (st2.run (propsR kd)).val [] = L := ⟨_, rfl⟩
   obtain ⟨s2, hs2⟩ : ∃ x, (st2.run (propsR kd)).st = x := ⟨_, rfl⟩
   obtain ⟨F, hF⟩ : ∃ F, s2.run (manyR (filterR true) 5 []) = F := ⟨_, rfl⟩
   have HRR : Hid (R = ({ zp kd with id := n, ps := L, fs := F.val [] }, F.st)) := by show _ = _; rw [← hR, HKD.out.2.2.2.1, ← hF, ← hs2, ← hL, ← hnv, ← hns]; rfl
   have HP0 := fun (W : World) (hr : RdOf false W g st2) => props_st g kd st2 W HKD.out.2.2.2.2 hr
   rw [hL, hs2] at HP0
   have HP := Lib.hid HP0
   have HCS0 := fils_start true s2
   rw [hF] at HCS0
   have HCS := Lib.hid HCS0
   clear HP0 HCS0 hL hs2 hF
   have H1 := Lib.hid HO1
   have HO2 := fun (W : World) (hr : RdOf false W g s0) => want_st g s0 bn 8 W (by decide) hr
   rw [hst2] at HO2
   have H2 := Lib.hid HO2
   clear HO1 HO2 hn hs0 hst2 hnv hns hR
   go_wp2_with fail
   refine H1.out.mono ?_
   rintro r w6 ⟨rfl, k1, k2⟩
   have HL6 := Lib.hid (HL5.out.bar k2 k1)
   clear k1 k2 HL5 H1
   have d4 := HL6.out.f4
   have f4 := HL6.out.frozen 4
   have HL7 := Lib.hid (HL6.out.put1 4 (.int .i64 n) { zp kd with id := n } rfl rfl rfl rfl rfl)
   go_wp2_with fail
   refine (H2.out _ HL7.out.rd).mono ?_
   rintro r w7 ⟨rfl, k1, k2⟩
   have HLQ := Lib.hid (HL7.out.bar k2 k1)
   clear k1 k2 HL6 HL7 H2 d4 f4 hbn
   go_wp2_with fail
   refine (HP.out _ HLQ.out.rd).mono ?_
   rintro r w8 ⟨A0, c0, rfl, k1, k2, k3, k4, k5⟩
   have HL8 := Lib.hid (HLQ.out.bar k5 k4)
   have HN := Lib.hid (HLQ.out.off k2)
   have HAA := Lib.hid k3
   have HC := Lib.hid k1
   clear k1 k2 k3 k4 k5 HLQ HP
   have d24 := HL8.out.f24
   have f24 := HL8.out.frozen 24
   have HL9 := Lib.hid (HL8.out.props HAA.out HN.out HC.out)
   go_upto_region 49 with fail
   obtain ⟨PV, hPV⟩ : ∃ P : Pk, { zp kd with id := n, ps := L } = P := ⟨_, rfl⟩
   obtain ⟨aa, haa⟩ : ∃ a : Ad, { za with pa := A0, pc := c0 } = a := ⟨_, rfl⟩
   have HL9 : Hid (Live false h W1 g h s2 PV aa (w8.setCell ⟨h, 24, none⟩ (.slice A0 L.length c0))) := by rw [← hPV, ← haa]; exact HL9
   have HPV : Hid (PV.fs = [] ∧ aa.fa = none ∧ aa.fc = 0 ∧ R = ({ PV with fs := F.val [] }, F.st)) := by subst hPV haa; exact ⟨rfl, rfl, rfl, HRR.out⟩
   clear HL8 d24 f24 HN HAA HC HRR hPV haa
   generalize World.setCell _ _ _ = w9 at HL9 ⊢
   obtain ⟨sx, hx1, _, hx3, hx4, _⟩ := HL9.out.rd.rd
   have e0 : w9.cell? ⟨g, 0, none⟩ = some (.string sx) := hx1.cell 0
   obtain ⟨bz, hbz⟩ : ∃ b, decide (0 < sx.size) = b := ⟨_, rfl⟩
   have hzz : decide ((0 : Int) < (sx.size : Int)) = bz := by rw [← hbz]; exact decide_eq_decide.2 (by omega)
   have HQ1 : s2.want (decide (s2.rest.size ≠ 0)) 9 = s2.want bz 9 := by
    cases hbd : s2.isBad with
    | false => have := hx3 hbd; rw [this]; show (St.ok sx).want (decide (sx.size ≠ 0)) 9 = _; rw [← hbz]; congr 1; exact decide_eq_decide.2 (by omega)
    | true => rw [(hx4 hbd).2]; rfl
   rw [HQ1] at HCS
   clear hx1 hx3 hx4 HQ1
   go_wp2_with fail
   refine (want_st g s2 bz 9 _ (by decide) HL9.out.rd).mono ?_
   rintro r wa ⟨rfl, q1, q2⟩
   have HLa0 := HL9.out.bar q2 q1
   obtain ⟨sc0, hsc0⟩ : ∃ x, s2.want bz 9 = x := ⟨_, rfl⟩
   rw [hsc0] at HLa0 HCS
   have HCI := Lib.hid (FilsIn.start HLa0 HPV.out.1 HPV.out.2.1 HPV.out.2.2.1)
   clear HLa0 q1 q2 HL9 e0 hzz hbz hsc0
   go_wp2_with fail
   go_loopw [11] (fun i wr => ∃ (l : List Fl) (A : Option Addr) (c : Nat) (sc : St), i = .int .i64 (l.length : Int) ∧ FilsIn h W1 g h sc0 PV aa wa l A c sc wr ∧ FilsSt true l F sc) (fun i _ => (5 - RowKit.intOf i).toNat)
   case atStart => exact ⟨[], none, 0, sc0, rfl, HCI.out, HCS.out⟩
   case round =>
    obtain ⟨l, A, c, sc, rfl, hci, hcs⟩ := hrel
    have HI := Lib.hid hci
    have HS := Lib.hid hcs
    clear hci hcs HCI HCS
    cases sc with
    | bad e =>
     obtain ⟨hne0, sx, hx, _, _⟩ := HI.out.rd
     have d0 : wr.cell? ⟨g, 0, none⟩ = some (.string sx) := hx.cell 0
     have d1 : wr.cell? ⟨g, 1, none⟩ = some (.int .i64 e) := hx.cell 1
     have he0 : (e == 0) = false := ne_false hne0
     obtain ⟨t1, t2⟩ := fils_end HS.out (.inl rfl)
     have HPQ : Hid (∃ pf af, Live false h W1 g h R.2 pf af wr ∧ (R.2.isBad = false → pf = R.1)) := ⟨{ PV with fs := l }, _, by rw [HPV.out.2.2.2]; show Live _ _ _ _ _ F.st _ _ _; rw [t1]; exact HI.out.live, fun hb => by rw [HPV.out.2.2.2] at hb ⊢; rw [← t2 hb]⟩
     clear hx hne0 HI HS HPV t1 t2
     go_upto_region 62 with fail
     clear d0 d1 he0
     obtain ⟨pf, af, hl, hp⟩ := HPQ.out
     have HLX := Lib.hid hl
     have HPQ := Lib.hid hp
     clear hl hp
     obtain ⟨sx, hx1, _, hx3, hx4, _⟩ := HLX.out.rd.rd
     have e0 := hx1.cell 0
     obtain ⟨bz, hbz⟩ : ∃ b, decide (sx.size = 0) = b := ⟨_, rfl⟩
     have hzz : ((sx.size : Int) == 0) = bz := by rw [← hbz]; exact beq_nat sx.size
     have HQ : Hid ((bodyS (16 * kd + z) s).2 = R.2.want bz 8) := by
      show _ = _
      rw [HRB.out]
      show R.2.want (decide (R.2.rest.size = 0)) 8 = _
      cases hbd : R.2.isBad with
      | false => have := hx3 hbd; rw [this]; show (St.ok sx).want (decide (sx.size = 0)) 8 = _; rw [hbz]
      | true => rw [(hx4 hbd).2]; rfl
     clear hx1 hx3 hx4 hbz
     go_wp2_with fail
     refine (want_st g R.2 bz 8 _ (by decide) HLX.out.rd).mono ?_
     rintro r w7 ⟨rfl, q1, q2⟩
     have HL8 := Lib.hid (HLX.out.bar q2 q1)
     have HK8 : Hid (Box w7 k0 (pkArr (zp 0) za)) := Lib.hid (HK0.out.below (HL8.out.b.mono (by have := HH.out; omega)))
     clear q1 q2 HLX e0 hzz
     go_upto_region 63 with fail
     obtain ⟨ste, hste⟩ : ∃ x, R.2.want bz 8 = x := ⟨_, rfl⟩
     rw [hste] at HL8 HQ
     have HCAP := Lib.hid HL8.out.cap
     have HNEW := Lib.hid (HL8.out.new.mono (B' := w.heap.size) (by have := HQ9.out; omega))
     have HWF : Hid ((bodyS (16 * kd + z) s).2.Wf) := by show St.Wf _; rw [HQ.out]; exact HL8.out.wf
     have HRES : Hid (Ending.returned (.tuple #[.agg (pkArr pf af), .int .i64 ste.err]) = .returned (.tuple #[.agg (pkArr pf af), .int .i64 (bodyS (16 * kd + z) s).2.err])) := by show _ = _; rw [HQ.out]
     have HPF : Hid ((bodyS (16 * kd + z) s).2.isBad = false → pf = (bodyS (16 * kd + z) s).1) := fun hb => by
      rw [HQ.out, ← hste] at hb
      rw [HRB.out]
      exact HPQ.out (not_bad hb)
     have HEN := Lib.hid (EndAt.mk (w := w) (k0 := k0) (g := g) (h := h) (st := ste) (p := pf) (a := af) (cs := pkArr (zp 0) za) ⟨HL8.out.rd, HL8.out.bx, HL8.out.at, HK8.out, rfl, (HA.out.trans (HL8.out.b.mono (by have := HQ9.out; omega))), by have := HQ9.out; omega, by omega, by omega, HL8.out.new.off hkl⟩)
     clear HL8 HK8 hste
     refine wp_region_held_drew (S := fun W => ∃ cs, EndAt false w k0 g h ste pf af cs W) (by kernel_rfl) ⟨_, HEN.out.drew⟩ (fun hHeld => ?_)
     generalize World.drew _ = Wd at hHeld ⊢
     refine take_load 0 273 30 (.tmp 8) h 0 (.agg (pkArr pf af)) rfl rfl (by kernel_rfl) (fun _ _ _ h => h) (by rfl) hHeld rfl rfl (fun w' hS' => load_bx hS'.choose_spec.out.2.1) ?_
     simp only [Act.put, List.setIfInBounds_toArray, List.set_cons_zero, List.set_cons_succ]
     refine take_op 1 274 _ rfl rfl (by kernel_rfl) (fun _ _ _ h => h) (by rfl) hHeld (fun w' hS' => by go_simp; try with_reducible rfl) ?_
     simp only [Act.put, List.setIfInBounds_toArray, List.set_cons_zero, List.set_cons_succ]
     refine take_op 2 275 _ rfl rfl (by kernel_rfl) (fun _ _ _ h => h) (by rfl) hHeld (fun w' hS' => by go_simp; try with_reducible rfl) ?_
     simp only [Act.put, List.setIfInBounds_toArray, List.set_cons_zero, List.set_cons_succ]
     refine take_op 3 276 _ rfl rfl (by kernel_rfl) (fun _ _ _ h => h) (by rfl) hHeld (fun w' hS' => by go_simp; try with_reducible rfl) ?_
     simp only [Act.put, List.setIfInBounds_toArray, List.set_cons_zero, List.set_cons_succ]
     refine take_op 4 277 _ rfl rfl (by kernel_rfl) (fun _ _ _ h => h) (by rfl) hHeld (fun w' hS' => by have k := hS'.choose_spec.err; go_simp; try with_reducible rfl) ?_
     simp only [Act.put, List.setIfInBounds_toArray, List.set_cons_zero, List.set_cons_succ]
     obtain ⟨cs, hcs⟩ := hHeld
     obtain ⟨T, hT⟩ := hcs.out.2.2.2.1
     refine only_op 5 rfl (by kernel_rfl) (by rfl) (wp_store_row 30 (.tmp 6) (.tmp 273) rfl k0 (pkArr pf af) rfl rfl T cs hT info_pk hcs.out.2.2.2.2.1 (one_pk _ _) ⟨⟨_, hcs.row⟩, ?_⟩)
     simp only [Act.put]
     have hHeld2 := hcs.row
     refine take_op 6 7 _ rfl rfl (by kernel_rfl) (fun _ _ _ h => h) (by rfl) ⟨_, hHeld2⟩ (fun w' hS' => by go_simp; try with_reducible rfl) ?_
     simp only [Act.put, List.setIfInBounds_toArray]
     refine wpAnyH_done (by kernel_rfl) ?_ _
     have HF := Lib.hid hHeld2
     clear hcs hT hHeld2
     go_wp2_with fail
     refine bodyPost_ret (results_pk2 Tryz.results84 rfl HF.out.out.2.2.2.1 rfl) rfl ⟨pf, af, HRES.out, HF.out.out.2.2.1, HCAP.out, HNEW.out, HF.out.out.2.2.2.2.2.1, HWF.out, HPF.out⟩
    | ok s3 =>
     have hrd : Rd wr g s3 0 := HI.out.rd.1
     have d0 : wr.cell? ⟨g, 0, none⟩ = some (.string s3) := hrd.cell 0
     have d1 : wr.cell? ⟨g, 1, none⟩ = some (.int .i64 0) := hrd.cell 1
     clear hrd
     by_cases h0 : s3.size = 0
     ·obtain ⟨t1, t2⟩ := fils_end HS.out (.inr ⟨s3, rfl, h0⟩)
      have HPQ : Hid (∃ pf af, Live false h W1 g h R.2 pf af wr ∧ (R.2.isBad = false → pf = R.1)) := ⟨{ PV with fs := l }, _, by rw [HPV.out.2.2.2]; show Live _ _ _ _ _ F.st _ _ _; rw [t1]; exact HI.out.live, fun hb => by rw [HPV.out.2.2.2] at hb ⊢; rw [← t2 hb]⟩
      obtain rfl : s3 = ByteArray.empty := ByteArray.size_eq_zero_iff.1 h0
      clear h0 HI HS HPV t1 t2
      go_upto_region 62 with fail
      clear d0 d1
      obtain ⟨pf, af, hl, hp⟩ := HPQ.out
      have HLX := Lib.hid hl
      have HPQ := Lib.hid hp
      clear hl hp
      obtain ⟨sx, hx1, _, hx3, hx4, _⟩ := HLX.out.rd.rd
      have e0 := hx1.cell 0
      obtain ⟨bz, hbz⟩ : ∃ b, decide (sx.size = 0) = b := ⟨_, rfl⟩
      have hzz : ((sx.size : Int) == 0) = bz := by rw [← hbz]; exact beq_nat sx.size
      have HQ : Hid ((bodyS (16 * kd + z) s).2 = R.2.want bz 8) := by
       show _ = _
       rw [HRB.out]
       show R.2.want (decide (R.2.rest.size = 0)) 8 = _
       cases hbd : R.2.isBad with
       | false => have := hx3 hbd; rw [this]; show (St.ok sx).want (decide (sx.size = 0)) 8 = _; rw [hbz]
       | true => rw [(hx4 hbd).2]; rfl
      clear hx1 hx3 hx4 hbz
      go_wp2_with fail
      refine (want_st g R.2 bz 8 _ (by decide) HLX.out.rd).mono ?_
      rintro r w7 ⟨rfl, q1, q2⟩
      have HL8 := Lib.hid (HLX.out.bar q2 q1)
      have HK8 : Hid (Box w7 k0 (pkArr (zp 0) za)) := Lib.hid (HK0.out.below (HL8.out.b.mono (by have := HH.out; omega)))
      clear q1 q2 HLX e0 hzz
      go_upto_region 63 with fail
      obtain ⟨ste, hste⟩ : ∃ x, R.2.want bz 8 = x := ⟨_, rfl⟩
      rw [hste] at HL8 HQ
      have HCAP := Lib.hid HL8.out.cap
      have HNEW := Lib.hid (HL8.out.new.mono (B' := w.heap.size) (by have := HQ9.out; omega))
      have HWF : Hid ((bodyS (16 * kd + z) s).2.Wf) := by show St.Wf _; rw [HQ.out]; exact HL8.out.wf
      have HRES : Hid (Ending.returned (.tuple #[.agg (pkArr pf af), .int .i64 ste.err]) = .returned (.tuple #[.agg (pkArr pf af), .int .i64 (bodyS (16 * kd + z) s).2.err])) := by show _ = _; rw [HQ.out]
      have HPF : Hid ((bodyS (16 * kd + z) s).2.isBad = false → pf = (bodyS (16 * kd + z) s).1) := fun hb => by
       rw [HQ.out, ← hste] at hb
       rw [HRB.out]
       exact HPQ.out (not_bad hb)
      have HEN := Lib.hid (EndAt.mk (w := w) (k0 := k0) (g := g) (h := h) (st := ste) (p := pf) (a := af) (cs := pkArr (zp 0) za) ⟨HL8.out.rd, HL8.out.bx, HL8.out.at, HK8.out, rfl, (HA.out.trans (HL8.out.b.mono (by have := HQ9.out; omega))), by have := HQ9.out; omega, by omega, by omega, HL8.out.new.off hkl⟩)
      clear HL8 HK8 hste
      refine wp_region_held_drew (S := fun W => ∃ cs, EndAt false w k0 g h ste pf af cs W) (by kernel_rfl) ⟨_, HEN.out.drew⟩ (fun hHeld => ?_)
      generalize World.drew _ = Wd at hHeld ⊢
      refine take_load 0 273 30 (.tmp 8) h 0 (.agg (pkArr pf af)) rfl rfl (by kernel_rfl) (fun _ _ _ h => h) (by rfl) hHeld rfl rfl (fun w' hS' => load_bx hS'.choose_spec.out.2.1) ?_
      simp only [Act.put, List.setIfInBounds_toArray, List.set_cons_zero, List.set_cons_succ]
      refine take_op 1 274 _ rfl rfl (by kernel_rfl) (fun _ _ _ h => h) (by rfl) hHeld (fun w' hS' => by go_simp; try with_reducible rfl) ?_
      simp only [Act.put, List.setIfInBounds_toArray, List.set_cons_zero, List.set_cons_succ]
      refine take_op 2 275 _ rfl rfl (by kernel_rfl) (fun _ _ _ h => h) (by rfl) hHeld (fun w' hS' => by go_simp; try with_reducible rfl) ?_
      simp only [Act.put, List.setIfInBounds_toArray, List.set_cons_zero, List.set_cons_succ]
      refine take_op 3 276 _ rfl rfl (by kernel_rfl) (fun _ _ _ h => h) (by rfl) hHeld (fun w' hS' => by go_simp; try with_reducible rfl) ?_
      simp only [Act.put, List.setIfInBounds_toArray, List.set_cons_zero, List.set_cons_succ]
      refine take_op 4 277 _ rfl rfl (by kernel_rfl) (fun _ _ _ h => h) (by rfl) hHeld (fun w' hS' => by have k := hS'.choose_spec.err; go_simp; try with_reducible rfl) ?_
      simp only [Act.put, List.setIfInBounds_toArray, List.set_cons_zero, List.set_cons_succ]
      obtain ⟨cs, hcs⟩ := hHeld
      obtain ⟨T, hT⟩ := hcs.out.2.2.2.1
      refine only_op 5 rfl (by kernel_rfl) (by rfl) (wp_store_row 30 (.tmp 6) (.tmp 273) rfl k0 (pkArr pf af) rfl rfl T cs hT info_pk hcs.out.2.2.2.2.1 (one_pk _ _) ⟨⟨_, hcs.row⟩, ?_⟩)
      simp only [Act.put]
      have hHeld2 := hcs.row
      refine take_op 6 7 _ rfl rfl (by kernel_rfl) (fun _ _ _ h => h) (by rfl) ⟨_, hHeld2⟩ (fun w' hS' => by go_simp; try with_reducible rfl) ?_
      simp only [Act.put, List.setIfInBounds_toArray]
      refine wpAnyH_done (by kernel_rfl) ?_ _
      have HF := Lib.hid hHeld2
      clear hcs hT hHeld2
      go_wp2_with fail
      refine bodyPost_ret (results_pk2 Tryz.results84 rfl HF.out.out.2.2.2.1 rfl) rfl ⟨pf, af, HRES.out, HF.out.out.2.2.1, HCAP.out, HNEW.out, HF.out.out.2.2.2.2.2.1, HWF.out, HPF.out⟩
     ·have hgt : 0 < s3.size := by omega
      obtain ⟨bb, hbb⟩ : ∃ b, decide ((l.length : Int) < 4) = b := ⟨_, rfl⟩
      obtain ⟨sw, hsw⟩ : ∃ x, (St.ok s3).want bb 2 = x := ⟨_, rfl⟩
      obtain ⟨T, hT⟩ : ∃ T, (sw.run (longR true)).val ⟨#[]⟩ = T := ⟨_, rfl⟩
      obtain ⟨s1, hs1⟩ : ∃ x, (sw.run (longR true)).st = x := ⟨_, rfl⟩
      have hl4 := (HS.out.2.1 s3 rfl).1
      have hn0 := octet_range s1
      obtain ⟨n9, hn9⟩ : ∃ n, (s1.run octetR).val 0 = n := ⟨_, rfl⟩
      obtain ⟨s5, hs5⟩ : ∃ x, (s1.run octetR).st = x := ⟨_, rfl⟩
      rw [hn9] at hn0
      obtain ⟨hn0, hn1⟩ := hn0
      obtain ⟨se, hse⟩ : ∃ x, s5.want (decide (n9 % 4 < 3 ∧ n9 / 16 < 3)) 9 = x := ⟨_, rfl⟩
      obtain ⟨b4, hb4⟩ : ∃ b, decide (n9 / 4 % 2 = 1) = b := ⟨_, rfl⟩
      obtain ⟨b8, hb8⟩ : ∃ b, decide (n9 / 8 % 2 = 1) = b := ⟨_, rfl⟩
      have hfs : filterS true sw = (filOf T n9, se) := by subst hse hs5 hn9 hs1 hT; rfl
      have hfr := filRd_ok (t := T) (s2 := s5) hn0 hn1
      have HV : filRd T n9 = ⟨T, n9 % 4, b4, b8, n9 / 16 % 4⟩ := by unfold filRd; rw [hb4, hb8]
      rw [hse, HV] at hfr
      have HS1 := Lib.hid (fils_round HS.out h0 hbb hsw (v := ⟨T, n9 % 4, b4, b8, n9 / 16 % 4⟩) (s3 := se) (by rw [hfs]) (by rw [hfs]; exact hfr.2))
      have HFX0 : ∀ W : World, RdOf false W g s1 → Calls Tryz.prog 105 #[.pointer (some ⟨g, 0, none⟩), .int .i64 1] W fun r w' => r = .returned (.int .i64 n9) ∧ RdOf false w' g s5 ∧ Bar g W w' := by
       rw [← hn9, ← hs5]
       exact fun W hr => fixed_st g 1 s1 W (by decide) hr
      have HFX := Lib.hid HFX0
      have HW5 := Lib.hid (fun (W : World) (b : Bool) (hr : RdOf false W g s5) => want_st g s5 b 9 W (by decide) hr)
      have m4 : (n9 / 4 % 2 == 1) = b4 := by rw [beq_int, hb4]
      have m8 : (n9 / 8 % 2 == 1) = b8 := by rw [beq_int, hb8]
      have HC : Hid ((decide (n9 % 4 < 3) = false ∧ s5.want false 9 = se) ∨ (decide (n9 % 4 < 3) = true ∧ decide (n9 / 16 % 4 < 3) = false ∧ s5.want false 9 = se) ∨ (decide (n9 % 4 < 3) = true ∧ decide (n9 / 16 % 4 < 3) = true ∧ decide (n9 < 64) = false ∧ s5.want false 9 = se) ∨ (decide (n9 % 4 < 3) = true ∧ decide (n9 / 16 % 4 < 3) = true ∧ decide (n9 < 64) = true ∧ s5.want true 9 = se)) := by
       show _ ∨ _
       rw [← hse]
       by_cases q1 : n9 % 4 < 3
       ·by_cases q2 : n9 / 16 % 4 < 3
        ·by_cases q3 : n9 < 64
         ·exact .inr (.inr (.inr ⟨decide_eq_true q1, decide_eq_true q2, decide_eq_true q3, by rw [decide_eq_true (show n9 % 4 < 3 ∧ n9 / 16 < 3 from ⟨q1, by omega⟩)]⟩))
         ·exact .inr (.inr (.inl ⟨decide_eq_true q1, decide_eq_true q2, decide_eq_false q3, by rw [decide_eq_false (show ¬ (n9 % 4 < 3 ∧ n9 / 16 < 3) by omega)]⟩))
        ·exact .inr (.inl ⟨decide_eq_true q1, decide_eq_false q2, by rw [decide_eq_false (show ¬ (n9 % 4 < 3 ∧ n9 / 16 < 3) by omega)]⟩)
       ·exact .inl ⟨decide_eq_false q1, by rw [decide_eq_false (show ¬ (n9 % 4 < 3 ∧ n9 / 16 < 3) by omega)]⟩
      have HLG0 := fun (W : World) (hr : RdOf false W g sw) => long_st g true sw W hr
      rw [hT, hs1] at HLG0
      have HLG := Lib.hid HLG0
      have HWT0 := want_st g (.ok s3) bb 2 wr (by decide) HI.out.rd
      rw [hsw] at HWT0
      have HWT := Lib.hid HWT0
      clear HLG0 HWT0 hT hs1 hsw HS h0 hfs HFX0 hn9 hs5 hse hb4 hb8 hfr HV
      go_wp2_with fail
      refine HWT.out.mono ?_
      rintro r w1 ⟨rfl, q1, q2⟩
      have HI1 := Lib.hid (HI.out.bar q2 q1)
      clear q1 q2 HI HWT d0 d1 hgt hbb
      go_wp2_with fail
      refine (HLG.out _ HI1.out.rd).mono ?_
      rintro r w2 ⟨rfl, q1, q2⟩
      have HI2 := Lib.hid (HI1.out.bar q2 q1)
      clear q1 q2 HI1 HLG
      have HX2 := Lib.hid (FilsBx.new HI2.out #[.string T, .int .i64 0, .bool false, .bool false, .int .i64 0])
      go_upto_region 57 with fail
      obtain ⟨k2, hk2⟩ : ∃ k, w2.heap.size = k := ⟨_, rfl⟩
      rw [hk2] at HX2 ⊢
      clear hk2 HI2
      generalize w2.alloc _ = w3 at HX2 ⊢
      go_wp2_with fail
      refine (HFX.out _ HX2.out.out.1.rd).mono ?_
      rintro r w4 ⟨rfl, q1, q2⟩
      have HX3 := Lib.hid (HX2.out.bar q2 q1)
      clear q1 q2 HX2 HFX
      have d1 := HX3.out.cell 1
      have f1 := HX3.out.frozen 1
      have d2 := HX3.out.cell 2
      have f2 := HX3.out.frozen 2
      have d3 := HX3.out.cell 3
      have f3 := HX3.out.frozen 3
      have d4 := HX3.out.cell 4
      have f4 := HX3.out.frozen 4
      have HX4 : Hid (FilsBx h W1 g h sc0 PV aa wa l A c s5 k2 #[.string T, .int .i64 (n9 % 4), .bool b4, .bool b8, .int .i64 (n9 / 16 % 4)] _) := (((HX3.out.put 1 (.int .i64 (n9 % 4))).put 2 (.bool b4)).put 3 (.bool b8)).put 4 (.int .i64 (n9 / 16 % 4))
      go_upto_region 60 with fail
      clear d1 d2 d3 d4 f1 f2 f3 f4 HX3 m4 m8
      generalize World.setCell _ _ _ = w5 at HX4 ⊢
      have d1 := HX4.out.cell 1
      have d4 := HX4.out.cell 4
      rcases HC.out with ⟨y1, hy⟩ | ⟨y1, y2, hy⟩ | ⟨y1, y2, y3, hy⟩ | ⟨y1, y2, y3, hy⟩
      ·clear HC
       go_wp2_with fail
       refine (HW5.out _ false HX4.out.out.1.rd).mono ?_
       rintro r w6 ⟨rfl, q1, q2⟩
       rw [hy] at q1
       have HX5 := Lib.hid (HX4.out.bar q2 q1)
       clear q1 q2 HX4 HW5 d1 d4 hy
       have d10 := HX5.out.out.1.f10
       have f10 := HX5.out.out.1.frozen 10
       have hld : (loadVar 75 ⟨k2, 0, none⟩).run Tryz.prog w6 = .ok (.agg #[.string T, .int .i64 (n9 % 4), .bool b4, .bool b8, .int .i64 (n9 / 16 % 4)]) w6 := load_fil (f := (⟨T, n9 % 4, b4, b8, n9 / 16 % 4⟩ : Fl)) HX5.out.out.2.1
       have hsz := HX5.out.out.1.size
       go_wp2_with (first | (refine wpList_load_any (by rfl) 75 (.tmp 12) rfl k2 0 rfl _ hld ?_) | (at_builtin; refine wpList_append_own _ rfl _ _ 25 rfl wa.heap.size 75 i0 (.agg #[.string ⟨#[]⟩, .int .i64 0, .bool false, .bool false, .int .i64 0]) 5 40 Tryz.underlying25 hi hz3 hz4 hz5 rfl (by decide) _ _ _ rfl (HX5.out.out.1.own.alloc _) ⟨w6.heap.size, 0, none⟩ 1 1 (fcells (⟨T, n9 % 4, b4, b8, n9 / 16 % 4⟩ : Fl)) rfl rfl ?c1 ?c2 ?c3 ?c4 ?c5 ?_))
       case c1 => exact fun j u hu => cells_new _ _ _ j u hu
       case c2 => exact one_fcells _
       case c3 => unfold maxLen; omega
       case c4 => omega
       case c5 => simp; omega
       intro v' w8 hown' hgrow _
       have hbl := below_alloc_grown hsz HX5.out.out.1.own hgrow
       have HOW : Hid (w8.ownsRow wa.heap.size 75 5 v' (l ++ [(⟨T, n9 % 4, b4, b8, n9 / 16 % 4⟩ : Fl)]).length (flatF (l ++ [(⟨T, n9 % 4, b4, b8, n9 / 16 % 4⟩ : Fl)]))) := by
        show World.ownsRow _ _ _ _ _ _ _
        rw [List.length_append, flatF_snoc]
        exact hown'
       obtain ⟨A', c', hv⟩ := ownF_slice HOW.out
       subst hv
       have HM := Lib.hid (FilsIn.more HX5.out.out.1 hbl HOW.out)
       have hbx := FilsIn.box_then HX5.out.out.1 hbl
       have c10 := hbx.cell 10
       have g10 := hbx.frozen 10
       clear d10 f10 hld hown' hgrow hbl hbx HOW HX5
       go_wp2_with fail
       go_roundw
       case rel => exact ⟨l ++ [(⟨T, n9 % 4, b4, b8, n9 / 16 % 4⟩ : Fl)], A', c', se, by simp, by have h9 := HM.out; rw [List.length_append] at h9; exact h9, HS1.out⟩
       case measure => simp [RowKit.intOf]; omega
      ·clear HC
       go_wp2_with fail
       refine (HW5.out _ false HX4.out.out.1.rd).mono ?_
       rintro r w6 ⟨rfl, q1, q2⟩
       rw [hy] at q1
       have HX5 := Lib.hid (HX4.out.bar q2 q1)
       clear q1 q2 HX4 HW5 d1 d4 hy
       have d10 := HX5.out.out.1.f10
       have f10 := HX5.out.out.1.frozen 10
       have hld : (loadVar 75 ⟨k2, 0, none⟩).run Tryz.prog w6 = .ok (.agg #[.string T, .int .i64 (n9 % 4), .bool b4, .bool b8, .int .i64 (n9 / 16 % 4)]) w6 := load_fil (f := (⟨T, n9 % 4, b4, b8, n9 / 16 % 4⟩ : Fl)) HX5.out.out.2.1
       have hsz := HX5.out.out.1.size
       go_wp2_with (first | (refine wpList_load_any (by rfl) 75 (.tmp 12) rfl k2 0 rfl _ hld ?_) | (at_builtin; refine wpList_append_own _ rfl _ _ 25 rfl wa.heap.size 75 i0 (.agg #[.string ⟨#[]⟩, .int .i64 0, .bool false, .bool false, .int .i64 0]) 5 40 Tryz.underlying25 hi hz3 hz4 hz5 rfl (by decide) _ _ _ rfl (HX5.out.out.1.own.alloc _) ⟨w6.heap.size, 0, none⟩ 1 1 (fcells (⟨T, n9 % 4, b4, b8, n9 / 16 % 4⟩ : Fl)) rfl rfl ?c1 ?c2 ?c3 ?c4 ?c5 ?_))
       case c1 => exact fun j u hu => cells_new _ _ _ j u hu
       case c2 => exact one_fcells _
       case c3 => unfold maxLen; omega
       case c4 => omega
       case c5 => simp; omega
       intro v' w8 hown' hgrow _
       have hbl := below_alloc_grown hsz HX5.out.out.1.own hgrow
       have HOW : Hid (w8.ownsRow wa.heap.size 75 5 v' (l ++ [(⟨T, n9 % 4, b4, b8, n9 / 16 % 4⟩ : Fl)]).length (flatF (l ++ [(⟨T, n9 % 4, b4, b8, n9 / 16 % 4⟩ : Fl)]))) := by
        show World.ownsRow _ _ _ _ _ _ _
        rw [List.length_append, flatF_snoc]
        exact hown'
       obtain ⟨A', c', hv⟩ := ownF_slice HOW.out
       subst hv
       have HM := Lib.hid (FilsIn.more HX5.out.out.1 hbl HOW.out)
       have hbx := FilsIn.box_then HX5.out.out.1 hbl
       have c10 := hbx.cell 10
       have g10 := hbx.frozen 10
       clear d10 f10 hld hown' hgrow hbl hbx HOW HX5
       go_wp2_with fail
       go_roundw
       case rel => exact ⟨l ++ [(⟨T, n9 % 4, b4, b8, n9 / 16 % 4⟩ : Fl)], A', c', se, by simp, by have h9 := HM.out; rw [List.length_append] at h9; exact h9, HS1.out⟩
       case measure => simp [RowKit.intOf]; omega
      ·clear HC
       go_wp2_with fail
       refine (HW5.out _ false HX4.out.out.1.rd).mono ?_
       rintro r w6 ⟨rfl, q1, q2⟩
       rw [hy] at q1
       have HX5 := Lib.hid (HX4.out.bar q2 q1)
       clear q1 q2 HX4 HW5 d1 d4 hy
       have d10 := HX5.out.out.1.f10
       have f10 := HX5.out.out.1.frozen 10
       have hld : (loadVar 75 ⟨k2, 0, none⟩).run Tryz.prog w6 = .ok (.agg #[.string T, .int .i64 (n9 % 4), .bool b4, .bool b8, .int .i64 (n9 / 16 % 4)]) w6 := load_fil (f := (⟨T, n9 % 4, b4, b8, n9 / 16 % 4⟩ : Fl)) HX5.out.out.2.1
       have hsz := HX5.out.out.1.size
       go_wp2_with (first | (refine wpList_load_any (by rfl) 75 (.tmp 12) rfl k2 0 rfl _ hld ?_) | (at_builtin; refine wpList_append_own _ rfl _ _ 25 rfl wa.heap.size 75 i0 (.agg #[.string ⟨#[]⟩, .int .i64 0, .bool false, .bool false, .int .i64 0]) 5 40 Tryz.underlying25 hi hz3 hz4 hz5 rfl (by decide) _ _ _ rfl (HX5.out.out.1.own.alloc _) ⟨w6.heap.size, 0, none⟩ 1 1 (fcells (⟨T, n9 % 4, b4, b8, n9 / 16 % 4⟩ : Fl)) rfl rfl ?c1 ?c2 ?c3 ?c4 ?c5 ?_))
       case c1 => exact fun j u hu => cells_new _ _ _ j u hu
       case c2 => exact one_fcells _
       case c3 => unfold maxLen; omega
       case c4 => omega
       case c5 => simp; omega
       intro v' w8 hown' hgrow _
       have hbl := below_alloc_grown hsz HX5.out.out.1.own hgrow
       have HOW : Hid (w8.ownsRow wa.heap.size 75 5 v' (l ++ [(⟨T, n9 % 4, b4, b8, n9 / 16 % 4⟩ : Fl)]).length (flatF (l ++ [(⟨T, n9 % 4, b4, b8, n9 / 16 % 4⟩ : Fl)]))) := by
        show World.ownsRow _ _ _ _ _ _ _
        rw [List.length_append, flatF_snoc]
        exact hown'
       obtain ⟨A', c', hv⟩ := ownF_slice HOW.out
       subst hv
       have HM := Lib.hid (FilsIn.more HX5.out.out.1 hbl HOW.out)
       have hbx := FilsIn.box_then HX5.out.out.1 hbl
       have c10 := hbx.cell 10
       have g10 := hbx.frozen 10
       clear d10 f10 hld hown' hgrow hbl hbx HOW HX5
       go_wp2_with fail
       go_roundw
       case rel => exact ⟨l ++ [(⟨T, n9 % 4, b4, b8, n9 / 16 % 4⟩ : Fl)], A', c', se, by simp, by have h9 := HM.out; rw [List.length_append] at h9; exact h9, HS1.out⟩
       case measure => simp [RowKit.intOf]; omega
      ·clear HC
       go_wp2_with fail
       refine (HW5.out _ true HX4.out.out.1.rd).mono ?_
       rintro r w6 ⟨rfl, q1, q2⟩
       rw [hy] at q1
       have HX5 := Lib.hid (HX4.out.bar q2 q1)
       clear q1 q2 HX4 HW5 d1 d4 hy
       have d10 := HX5.out.out.1.f10
       have f10 := HX5.out.out.1.frozen 10
       have hld : (loadVar 75 ⟨k2, 0, none⟩).run Tryz.prog w6 = .ok (.agg #[.string T, .int .i64 (n9 % 4), .bool b4, .bool b8, .int .i64 (n9 / 16 % 4)]) w6 := load_fil (f := (⟨T, n9 % 4, b4, b8, n9 / 16 % 4⟩ : Fl)) HX5.out.out.2.1
       have hsz := HX5.out.out.1.size
       go_wp2_with (first | (refine wpList_load_any (by rfl) 75 (.tmp 12) rfl k2 0 rfl _ hld ?_) | (at_builtin; refine wpList_append_own _ rfl _ _ 25 rfl wa.heap.size 75 i0 (.agg #[.string ⟨#[]⟩, .int .i64 0, .bool false, .bool false, .int .i64 0]) 5 40 Tryz.underlying25 hi hz3 hz4 hz5 rfl (by decide) _ _ _ rfl (HX5.out.out.1.own.alloc _) ⟨w6.heap.size, 0, none⟩ 1 1 (fcells (⟨T, n9 % 4, b4, b8, n9 / 16 % 4⟩ : Fl)) rfl rfl ?c1 ?c2 ?c3 ?c4 ?c5 ?_))
       case c1 => exact fun j u hu => cells_new _ _ _ j u hu
       case c2 => exact one_fcells _
       case c3 => unfold maxLen; omega
       case c4 => omega
       case c5 => simp; omega
       intro v' w8 hown' hgrow _
       have hbl := below_alloc_grown hsz HX5.out.out.1.own hgrow
       have HOW : Hid (w8.ownsRow wa.heap.size 75 5 v' (l ++ [(⟨T, n9 % 4, b4, b8, n9 / 16 % 4⟩ : Fl)]).length (flatF (l ++ [(⟨T, n9 % 4, b4, b8, n9 / 16 % 4⟩ : Fl)]))) := by
        show World.ownsRow _ _ _ _ _ _ _
        rw [List.length_append, flatF_snoc]
        exact hown'
       obtain ⟨A', c', hv⟩ := ownF_slice HOW.out
       subst hv
       have HM := Lib.hid (FilsIn.more HX5.out.out.1 hbl HOW.out)
       have hbx := FilsIn.box_then HX5.out.out.1 hbl
       have c10 := hbx.cell 10
       have g10 := hbx.frozen 10
       clear d10 f10 hld hown' hgrow hbl hbx HOW HX5
       go_wp2_with fail
       go_roundw
       case rel => exact ⟨l ++ [(⟨T, n9 % 4, b4, b8, n9 / 16 % 4⟩ : Fl)], A', c', se, by simp, by have h9 := HM.out; rw [List.length_append] at h9; exact h9, HS1.out⟩
       case measure => simp [RowKit.intOf]; omega
  ·have hzn := ne_true hzf
   have HRB := Lib.hid (body_head kd z s HKD.out.2.1 HKD.out.2.2.1 trivial hz0 hz1 (fun e => hzf (by rw [← e]; exact HFL.out)))
   have hld := load_bx HL5.out.bx
   clear hzf HFB
   go_wp2_with (first | (refine wpList_load_any (by rfl) 30 (.tmp 8) rfl h 0 rfl _ hld ?_) | (refine wpList_store_whole rfl 30 (.tmp 6) (.tmp 52) rfl k0 (pkArr (zp kd) za) rfl rfl (pkArr (zp 0) za) HK5.out info_pk rfl (one_pk _ _) ?_; simp only [Act.put]))
   refine bodyPost_ret (results_pk2 Tryz.results84 rfl (HK5.out.row (pkArr (zp kd) za)) rfl) rfl ⟨zp kd, za, by rw [HRB.out]; rfl, PkAt.zero' _ _ _ ⟨rfl, rfl, rfl, rfl⟩, PkCap.zero' _ ⟨rfl, rfl, rfl, rfl⟩, .zero _, (Bar.row k0 w5 _).below HB5.out (by have := HQ9.out; omega) HB5.out.size, by rw [HRB.out]; exact (by decide : (8 : Int) ≠ 0), fun hb => by rw [HRB.out] at hb; cases hb⟩
theorem rbody_8 (z : Int) (s : ByteArray) (w : World) (hz0 : 0 ≤ z) (hz1 : z ≤ 15) (hs : s.size ≤ 268435456) :
  Calls Tryz.prog 84 #[.int .i64 8, .int .i64 z, .string s] w (GivesBody (bodyS (16 * 8 + z) s) w) :=
 rbody_fils8 8 2 z s w rfl rfl rfl hz0 hz1 hs
end Go.Proofs.YtdbbcfohjkgdcaaGreat
