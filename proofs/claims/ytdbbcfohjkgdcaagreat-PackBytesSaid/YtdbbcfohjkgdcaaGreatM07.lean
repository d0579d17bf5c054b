/- A variable read whole: one operation of a quiet walk, by the law of its reading. No program. -/
import Derived.Test.YtdbbcfohjkgdcaaGreatM00
import Derived.Test.YtdbbcfohjkgdcaaGreatM06
set_option maxRecDepth 100000
set_option maxHeartbeats 64000000
namespace Go.Proofs.YtdbbcfohjkgdcaaGreat
open Go.RowKit Go.Lib Prp Pkt
def fcells (f : Fl) : List Value := [.string f.t, .int .i64 f.q, .bool f.nl, .bool f.ar, .int .i64 f.h]
structure FAt (w : World) (b o : Nat) (f : Fl) : Prop where
 c0 : w.cell? ⟨b, o, none⟩ = some (.string f.t)
 c1 : w.cell? ⟨b, o + 1, none⟩ = some (.int .i64 f.q)
 c2 : w.cell? ⟨b, o + 2, none⟩ = some (.bool f.nl)
 c3 : w.cell? ⟨b, o + 3, none⟩ = some (.bool f.ar)
 c4 : w.cell? ⟨b, o + 4, none⟩ = some (.int .i64 f.h)
def FilsAt (w : World) (B : Nat) (A : Option Addr) (l : List Fl) : Prop :=
 l = [] ∨ ∃ b o, A = some ⟨b, o, none⟩ ∧ b < B ∧ ∀ j (h : j < l.length), FAt w b (o + j * 5) l[j]
section
variable {w w' : World} {B B' : Nat} {A : Option Addr} {l : List Fl}
theorem FAt.keep {b o : Nat} {f : Fl} (h : FAt w b o f) (hk : ∀ i, w'.cell? ⟨b, i, none⟩ = w.cell? ⟨b, i, none⟩) : FAt w' b o f :=
 ⟨(hk _).trans h.c0, (hk _).trans h.c1, (hk _).trans h.c2, (hk _).trans h.c3, (hk _).trans h.c4⟩
theorem FilsAt.some_ (h : FilsAt w B A l) (hl : 0 < l.length) : ∃ b o, A = some ⟨b, o, none⟩ ∧ b < B ∧ ∀ j (h : j < l.length), FAt w b (o + j * 5) l[j] := by
 rcases h with rfl | h
 ·simp at hl
 ·exact h
theorem FilsAt.keep (h : FilsAt w B A l) (hk : ∀ p : Addr, p.block < B → w'.cell? p = w.cell? p) : FilsAt w' B A l := by
 rcases h with h | ⟨b, o, h1, h2, h3⟩
 ·exact .inl h
 ·exact .inr ⟨b, o, h1, h2, fun j hj => (h3 j hj).keep fun i => hk ⟨b, i, none⟩ h2⟩
theorem FilsAt.mono (h : FilsAt w B A l) (hB : B ≤ B') : FilsAt w B' A l := by
 rcases h with h | ⟨b, o, h1, h2, h3⟩
 ·exact .inl h
 ·exact .inr ⟨b, o, h1, Nat.lt_of_lt_of_le h2 hB, h3⟩
theorem FilsAt.below (h : FilsAt w B A l) (hb : Below B w w') : FilsAt w' B A l := h.keep fun _ hp => hb.cell hp
end
def flatF (l : List Fl) : List Value := l.flatMap fcells
theorem flatF_snoc (l : List Fl) (p : Fl) : flatF (l ++ [p]) = flatF l ++ fcells p := by unfold flatF; rw [List.flatMap_append]; simp
theorem flatF_at (l : List Fl) (j i : Nat) (hj : j < l.length) (hi : i < 5) : (flatF l)[j * 5 + i]? = (fcells l[j])[i]? := by
 induction l generalizing j with
 | nil => simp at hj
 | cons p t ih =>
  have e : flatF (p :: t) = fcells p ++ flatF t := by unfold flatF; rw [List.flatMap_cons]
  rw [e]
  cases j with
  | zero =>
   rw [List.getElem?_append_left (by show _ < 5; omega)]
   simp
  | succ m =>
   rw [List.getElem?_append_right (by show 5 ≤ _; omega)]
   have : (m + 1) * 5 + i - (fcells p).length = m * 5 + i := by show _ - 5 = _; omega
   rw [this]
   exact ih m (by simpa using hj)
theorem FilsAt.of_own {w : World} {base e c : Nat} {A : Option Addr} {l : List Fl} (h : w.ownsRow base e 5 (.slice A l.length c) l.length (flatF l)) : FilsAt w w.heap.size A l := by
 rcases h.2 with ⟨hv, hn⟩ | ⟨g, cap, cur, hv, _, hg, hle, _, hsz, htk⟩
 ·exact .inl (List.eq_nil_of_length_eq_zero hn)
 ·injection hv with hA _ _
  subst hA
  have key := h.cells (g := g) rfl
  refine .inr ⟨g, 0, rfl, (Array.getElem?_eq_some_iff.1 hg).1, fun j hj => ?_⟩
  have hz : ∀ i u, i < 5 → (fcells l[j])[i]? = some u → w.cell? ⟨g, 0 + j * 5 + i, none⟩ = some u := fun i u hi hu => by
   have := key (j * 5 + i) u (by rw [flatF_at l j i hj hi]; exact hu)
   rw [add_new] at this
   rw [Nat.zero_add]
   exact this
  exact ⟨hz 0 _ (by omega) rfl, hz 1 _ (by omega) rfl, hz 2 _ (by omega) rfl, hz 3 _ (by omega) rfl, hz 4 _ (by omega) rfl⟩
theorem ownF_slice {w : World} {base e : Nat} {v : Value} {l : List Fl} (h : w.ownsRow base e 5 v l.length (flatF l)) : ∃ A c, v = .slice A l.length c := by
 rcases h.2 with ⟨hv, hn⟩ | ⟨g, cap, cur, hv, _⟩
 ·exact ⟨none, 0, by rw [hv, hn]⟩
 ·exact ⟨_, cap, hv⟩
structure Ad where
 ca : Option Addr
 cc : Nat
 fa : Option Addr
 fc : Nat
 wa : Option Addr
 wc : Nat
 pa : Option Addr
 pc : Nat
def za : Ad := ⟨none, 0, none, 0, none, 0, none, 0⟩
def wlArr (x : Wl) (A : Option Addr) (c : Nat) : Array Value := #[.bool x.has, .int .i64 x.q, .bool x.ret, .string x.t, .string x.b, .slice A x.ps.length c]
def pkArr (p : Pk) (a : Ad) : Array Value :=
 #[.int .i64 p.kind, .bool p.dup, .int .i64 p.q, .bool p.ret, .int .i64 p.id, .string p.t, .string p.b, .int .i64 p.re, .bool p.pre, .slice a.ca p.cs.length a.cc, .slice a.fa p.fs.length a.fc, .string p.cl, .bool p.clean, .int .i64 p.keep,
  .bool p.w.has, .int .i64 p.w.q, .bool p.w.ret, .string p.w.t, .string p.w.b, .slice a.wa p.w.ps.length a.wc, .bool p.hu, .string p.u, .bool p.hp, .string p.pw, .slice a.pa p.ps.length a.pc]
structure PkAt (w : World) (B : Nat) (p : Pk) (a : Ad) : Prop where
 cs : Nums w B .i64 a.ca p.cs
 fs : FilsAt w B a.fa p.fs
 ws : PropsAt w B a.wa p.w.ps
 ps : PropsAt w B a.pa p.ps
section
variable {w w' : World} {B B' : Nat} {p : Pk} {a : Ad}
theorem PkAt.mono (h : PkAt w B p a) (hB : B ≤ B') : PkAt w B' p a := ⟨h.cs.mono hB, h.fs.mono hB, h.ws.mono hB, h.ps.mono hB⟩
theorem PkAt.below (h : PkAt w B p a) (hb : Below B w w') : PkAt w' B p a := ⟨h.cs.below hb, h.fs.below hb, h.ws.below hb, h.ps.below hb⟩
theorem PkAt.zero (w : World) (B : Nat) (k : Int) : PkAt w B (zp k) za := ⟨.inl rfl, .inl rfl, .inl rfl, .inl rfl⟩
end
@[irreducible] def PkIn (p : Pk) (a : Ad) (W : World) : Prop := PkAt W W.heap.size p a
section
variable {W W' : World} {p : Pk} {a : Ad}
theorem PkIn.mk (h : PkAt W W.heap.size p a) : PkIn p a W := by unfold PkIn; exact h
theorem PkIn.out (h : PkIn p a W) : PkAt W W.heap.size p a := by unfold PkIn at h; exact h
theorem PkIn.below (h : PkIn p a W) (hb : Below W.heap.size W W') : PkIn p a W' := .mk ((h.out.below hb).mono hb.size)
theorem PkIn.alloc (h : PkIn p a W) (o : Obj) : PkIn p a (W.alloc o) := h.below ((Below.refl _ _).alloc (Nat.le_refl _) o)
theorem PkIn.drewN (h : PkIn p a W) (n : Nat) : PkIn p a (W.drewN n) := h.below (below_drewN (Below.refl _ _) n)
end
structure FFit (f : Fl) : Prop where
 q0 : -9223372036854775808 ≤ f.q
 q1 : f.q ≤ 9223372036854775807
 h0 : -9223372036854775808 ≤ f.h
 h1 : f.h ≤ 9223372036854775807
 ht : f.t.size ≤ 140737488351232
structure PkFit (p : Pk) (a : Ad) : Prop where
 kind : -9223372036854775808 ≤ p.kind ∧ p.kind ≤ 9223372036854775807
 q : -9223372036854775808 ≤ p.q ∧ p.q ≤ 9223372036854775807
 id : -9223372036854775808 ≤ p.id ∧ p.id ≤ 9223372036854775807
 re : -9223372036854775808 ≤ p.re ∧ p.re ≤ 9223372036854775807
 keep : -9223372036854775808 ≤ p.keep ∧ p.keep ≤ 9223372036854775807
 wq : -9223372036854775808 ≤ p.w.q ∧ p.w.q ≤ 9223372036854775807
 t : p.t.size ≤ 140737488351232
 b : p.b.size ≤ 140737488351232
 cl : p.cl.size ≤ 140737488351232
 wt : p.w.t.size ≤ 140737488351232
 wb : p.w.b.size ≤ 140737488351232
 u : p.u.size ≤ 140737488351232
 pw : p.pw.size ≤ 140737488351232
 cs : ∀ x ∈ p.cs, -9223372036854775808 ≤ x ∧ x ≤ 9223372036854775807
 fs : ∀ f ∈ p.fs, FFit f
 ws : ∀ x ∈ p.w.ps, Fit x
 ps : ∀ x ∈ p.ps, Fit x
 cl1 : p.cs.length ≤ 9223372036854775807 ∧ p.cs.length ≤ a.cc
 fl1 : p.fs.length ≤ 9223372036854775807 ∧ p.fs.length ≤ a.fc
 wl1 : p.w.ps.length ≤ 9223372036854775807 ∧ p.w.ps.length ≤ a.wc
 pl1 : p.ps.length ≤ 9223372036854775807 ∧ p.ps.length ≤ a.pc
open Go.RowKit Go.Lib Prp Pkt
section
variable {w W : World} {g : Nat} {p : Pk} {a : Ad}
theorem Keep.f0 (h : Keep w g (pkArr p a) W) : W.cell? ⟨g, 0, none⟩ = some (.int .i64 p.kind) := h.cell 0
theorem Keep.f1 (h : Keep w g (pkArr p a) W) : W.cell? ⟨g, 1, none⟩ = some (.bool p.dup) := h.cell 1
theorem Keep.f2 (h : Keep w g (pkArr p a) W) : W.cell? ⟨g, 2, none⟩ = some (.int .i64 p.q) := h.cell 2
theorem Keep.f3 (h : Keep w g (pkArr p a) W) : W.cell? ⟨g, 3, none⟩ = some (.bool p.ret) := h.cell 3
theorem Keep.f4 (h : Keep w g (pkArr p a) W) : W.cell? ⟨g, 4, none⟩ = some (.int .i64 p.id) := h.cell 4
theorem Keep.f5 (h : Keep w g (pkArr p a) W) : W.cell? ⟨g, 5, none⟩ = some (.string p.t) := h.cell 5
theorem Keep.f6 (h : Keep w g (pkArr p a) W) : W.cell? ⟨g, 6, none⟩ = some (.string p.b) := h.cell 6
theorem Keep.f7 (h : Keep w g (pkArr p a) W) : W.cell? ⟨g, 7, none⟩ = some (.int .i64 p.re) := h.cell 7
theorem Keep.f8 (h : Keep w g (pkArr p a) W) : W.cell? ⟨g, 8, none⟩ = some (.bool p.pre) := h.cell 8
theorem Keep.f9 (h : Keep w g (pkArr p a) W) : W.cell? ⟨g, 9, none⟩ = some (.slice a.ca p.cs.length a.cc) := h.cell 9
theorem Keep.f10 (h : Keep w g (pkArr p a) W) : W.cell? ⟨g, 10, none⟩ = some (.slice a.fa p.fs.length a.fc) := h.cell 10
theorem Keep.f11 (h : Keep w g (pkArr p a) W) : W.cell? ⟨g, 11, none⟩ = some (.string p.cl) := h.cell 11
theorem Keep.f12 (h : Keep w g (pkArr p a) W) : W.cell? ⟨g, 12, none⟩ = some (.bool p.clean) := h.cell 12
theorem Keep.f13 (h : Keep w g (pkArr p a) W) : W.cell? ⟨g, 13, none⟩ = some (.int .i64 p.keep) := h.cell 13
theorem Keep.f14 (h : Keep w g (pkArr p a) W) : W.cell? ⟨g, 14, none⟩ = some (.bool p.w.has) := h.cell 14
theorem Keep.f15 (h : Keep w g (pkArr p a) W) : W.cell? ⟨g, 15, none⟩ = some (.int .i64 p.w.q) := h.cell 15
theorem Keep.f16 (h : Keep w g (pkArr p a) W) : W.cell? ⟨g, 16, none⟩ = some (.bool p.w.ret) := h.cell 16
theorem Keep.f17 (h : Keep w g (pkArr p a) W) : W.cell? ⟨g, 17, none⟩ = some (.string p.w.t) := h.cell 17
theorem Keep.f18 (h : Keep w g (pkArr p a) W) : W.cell? ⟨g, 18, none⟩ = some (.string p.w.b) := h.cell 18
theorem Keep.f19 (h : Keep w g (pkArr p a) W) : W.cell? ⟨g, 19, none⟩ = some (.slice a.wa p.w.ps.length a.wc) := h.cell 19
theorem Keep.f20 (h : Keep w g (pkArr p a) W) : W.cell? ⟨g, 20, none⟩ = some (.bool p.hu) := h.cell 20
theorem Keep.f21 (h : Keep w g (pkArr p a) W) : W.cell? ⟨g, 21, none⟩ = some (.string p.u) := h.cell 21
theorem Keep.f22 (h : Keep w g (pkArr p a) W) : W.cell? ⟨g, 22, none⟩ = some (.bool p.hp) := h.cell 22
theorem Keep.f23 (h : Keep w g (pkArr p a) W) : W.cell? ⟨g, 23, none⟩ = some (.string p.pw) := h.cell 23
theorem Keep.f24 (h : Keep w g (pkArr p a) W) : W.cell? ⟨g, 24, none⟩ = some (.slice a.pa p.ps.length a.pc) := h.cell 24
end
theorem bit_is (b : Bool) (n R : Int) (w : World) (hR : bitZ b n = R) :
  Calls Tryz.prog 67 #[.bool b, .int .i64 n] w fun e w' => e = .returned (.int .i64 R) ∧ w = w' := by
 cases b with
 | true =>
  obtain rfl : n = R := hR
  go_enter Tryz.func67, Tryz.ntmps67
  go_wp2
  go_ret
  exact ⟨rfl, rfl⟩
 | false =>
  obtain rfl : 0 = R := hR
  go_enter Tryz.func67, Tryz.ntmps67
  go_wp2
  go_ret
  exact ⟨rfl, rfl⟩
theorem isQoS_is (n : Int) (b : Bool) (w : World) (hb : qosB n = b) :
  Calls Tryz.prog 87 #[.int .i64 n] w fun e w' => e = .returned (.bool b) ∧ w = w' := by
 subst hb
 go_enter Tryz.func87, Tryz.ntmps87
 go_wp2
 all_goals (go_ret; refine ⟨ret_bool ?_, rfl⟩; unfold qosB; first | exact dec_false (by omega) | exact dec_dec (by omega) | exact dec_true (by omega))
theorem isCount_is (n : Nat) (b : Bool) (w : World) (hb : countB n = b) :
  Calls Tryz.prog 62 #[.int .i64 (n : Int)] w fun e w' => e = .returned (.bool b) ∧ w = w' := by
 subst hb
 go_enter Tryz.func62, Tryz.ntmps62
 go_wp2
 all_goals (go_ret; refine ⟨ret_bool ?_, rfl⟩; unfold countB; first | exact dec_false (by omega) | exact dec_dec (by omega) | exact dec_true (by omega))
def fieldsZ (k : Int) : Int :=
 if k = 1 then 129 else if k = 2 then 146 else if k = 3 then 140 else if k = 4 ∨ k = 5 ∨ k = 6 ∨ k = 7 then 152 else if k = 8 ∨ k = 10 then 200 else if k = 9 ∨ k = 11 then 168 else if k = 14 ∨ k = 15 then 144 else 0
theorem kinds_all {k : Int} (h0 : 1 ≤ k) (h1 : k ≤ 15) : k = 1 ∨ k = 2 ∨ k = 3 ∨ k = 4 ∨ k = 5 ∨ k = 6 ∨ k = 7 ∨ k = 8 ∨ k = 9 ∨ k = 10 ∨ k = 11 ∨ k = 12 ∨ k = 13 ∨ k = 14 ∨ k = 15 := by omega
theorem fieldsOf_is (k R : Int) (w : World) (h0 : 1 ≤ k) (h1 : k ≤ 15) (hR : fieldsZ k = R) :
  Calls Tryz.prog 58 #[.int .i64 k] w fun e w' => e = .returned (.int .i64 R) ∧ w = w' := by
 subst hR
 rcases kinds_all h0 h1 with rfl | rfl | rfl | rfl | rfl | rfl | rfl | rfl | rfl | rfl | rfl | rfl | rfl | rfl | rfl <;>
 ·go_enter Tryz.func58, Tryz.ntmps58
  go_wp2
  go_ret
  exact ⟨rfl, rfl⟩
theorem mayFilter_is (f : Fl) (b : Bool) (w : World) (hb : mayFilB f = b) :
  Calls Tryz.prog 88 #[.agg #[.string f.t, .int .i64 f.q, .bool f.nl, .bool f.ar, .int .i64 f.h]] w fun e w' => e = .returned (.bool b) ∧ Below w.heap.size w w' := by
 obtain ⟨x, hx⟩ : ∃ x, qosB f.q = x := ⟨_, rfl⟩
 have HQ := Lib.hid (fun W => isQoS_is f.q x W hx)
 have HB : Hid (b = (x && decide (0 ≤ f.h ∧ f.h ≤ 2))) := by show _ = _; rw [← hb, ← hx]; rfl
 clear hx hb
 go_enter Tryz.func88, Tryz.ntmps88
 cases x with
 | false =>
  go_wp2_with (go_at_call 87; refine (HQ.out _).mono ?_; rintro e w' ⟨rfl, rfl⟩)
  go_ret
  refine ⟨ret_bool ?_, (Below.refl _ _).alloc (Nat.le_refl _) _⟩
  rw [HB.out]; rfl
 | true =>
  go_wp2_with (go_at_call 87; refine (HQ.out _).mono ?_; rintro e w' ⟨rfl, rfl⟩)
  all_goals (go_ret; refine ⟨ret_bool ?_, (Below.refl _ _).alloc (Nat.le_refl _) _⟩; rw [HB.out, Bool.true_and]; first | exact dec_false (by omega) | exact dec_dec (by omega) | exact dec_true (by omega))
theorem toList_data (s : ByteArray) : s.toList = s.data.toList := by
 rw [ByteArray.toList_eq]
theorem E_iff (s : ByteArray) : E s = s.toList.isEmpty := by
 have h : s = ⟨#[]⟩ ↔ s.toList = [] := by
  rw [toList_data]
  exact ⟨fun h => by rw [h], fun h => ByteArray.ext (Array.toList_inj.1 h)⟩
 unfold E
 rw [Bool.eq_iff_iff, List.isEmpty_iff, decide_eq_true_iff]
 exact h
theorem len_ne {α : Type} (l : List α) : decide (l ≠ []) = decide (0 < l.length) := by rw [decide_eq_decide, List.length_pos_iff]
theorem isFilled_is (x : Wl) (A : Option Addr) (c : Nat) (b : Bool) (w : World) (hb : wFilled x = b) :
  Calls Tryz.prog 86 #[.agg #[.bool x.has, .int .i64 x.q, .bool x.ret, .string x.t, .string x.b, .slice A x.ps.length c]] w fun e w' => e = .returned (.bool b) ∧ Below w.heap.size w w' := by
 have HB := Lib.hid hb
 clear hb
 go_enter Tryz.func86, Tryz.ntmps86
 go_wp2
 all_goals go_ret
 all_goals refine ⟨ret_bool ?_, (Below.refl _ _).alloc (Nat.le_refl _) _⟩
 all_goals (rw [← HB.out]; unfold wFilled; simp only [E_iff, len_ne]; simp [*])
theorem maySend_is (p : Pk) (a : Ad) (b : Bool) (w : World) (hb : sendB p.dup p.q = b) :
  Calls Tryz.prog 60 #[.agg (pkArr p a)] w fun e w' => e = .returned (.bool b) ∧ Below w.heap.size w w' := by
 obtain ⟨x, hx⟩ : ∃ x, qosB p.q = x := ⟨_, rfl⟩
 have HQ := Lib.hid (fun W => isQoS_is p.q x W hx)
 have HB : Hid (b = (x && (decide (0 < p.q) || !p.dup))) := by show _ = _; rw [← hb, ← hx]; rfl
 clear hx hb
 unfold pkArr
 go_enter Tryz.func60, Tryz.ntmps60
 go_wp2_with (go_at_call 87; refine (HQ.out _).mono ?_; rintro e w' ⟨rfl, rfl⟩)
 all_goals go_ret
 all_goals refine ⟨ret_bool ?_, (Below.refl _ _).alloc (Nat.le_refl _) _⟩
 all_goals (rw [HB.out]; simp [*])
open Go.RowKit
structure In (S : World → Prop) where
 w : World
 h : S w
theorem cls_of {S : World → Prop} {w : World} (h : S w) : ∃ u : In S, w = u.w := ⟨⟨w, h⟩, rfl⟩
theorem in_call {P : Program} {f : FuncId} {args : Array Value} {S : World → Prop} {u : In S} {v : Value} (h : Calls P f args u.w fun e w' => e = .returned v ∧ S w') :
  Calls P f args u.w fun e w'' => e = .returned v ∧ ∃ u' : In S, w'' = u'.w := h.mono fun _ _ ⟨he, hs⟩ => ⟨he, cls_of hs⟩
theorem region_in {P : Program} {S : World → Prop} {id : Nat} {Q : Exit → Act → World → Prop} {a : Act} {w : World} {l : List Oper} (hm : P.follows .mixedOrders = true) (hB : Region.lexB .any l.toArray = true) (h0 : S (w.drewN 1))
  (h : wpQuiet P l.toArray (fun w' => ∃ u : In S, w' = u.w) (fun a' => ∀ w', (∃ u : In S, w' = u.w) → Q .normal a' w') l a) : (Code.region id l.toArray true).wp P Q a w :=
 wp_region_quiet (C := fun w' => ∃ u : In S, w' = u.w) hm hB ⟨⟨_, h0⟩, rfl⟩ (by simpa using h)
open Go.RowKit
theorem quiet_load {P : Program} {o : Oper} {a : Act} {C : World → Prop} {K : Act → Prop} (ty : TypeId) (x : Operand) (ho : o.op = .load ty x) (b off : Nat) (hx : a.eval x = .pointer (some ⟨b, off, none⟩)) (V : Value)
  (hv : ∀ w, C w → (loadVar ty ⟨b, off, none⟩).run P w = .ok V w) (h : K (a.put o.dst V)) : o.quiet P a C K := by
 refine ⟨V, fun w hw => ?_, h⟩
 unfold Oper.quietAt execOp
 simp only [ho, hx, Instr.loadAt, Instr.sureAddr, Sem.run_bind, Sem.run_pure, Result.andThen_ok, hv w hw]
 exact ⟨rfl, rfl⟩
theorem quiet_load_in {P : Program} {o : Oper} {a : Act} {S : World → Prop} {K : Act → Prop} (ty : TypeId) (x : Operand) (ho : o.op = .load ty x) (b off : Nat) (hx : a.eval x = .pointer (some ⟨b, off, none⟩)) (V : Value)
  (hv : ∀ u : In S, (loadVar ty ⟨b, off, none⟩).run P u.w = .ok V u.w) (h : K (a.put o.dst V)) : o.quiet P a (fun w' => ∃ u : In S, w' = u.w) K :=
 quiet_load ty x ho b off hx V (fun w ⟨u, hu⟩ => by rw [hu]; exact hv u) h
theorem wp_load_one {P : Program} {op : Oper} {a : Act} {w : World} {K : Act → World → Prop} {Q : Exit → Act → World → Prop} (ty : TypeId) (x : Operand) (ho : op.op = .load ty x) (b off : Nat) (hx : a.eval x = .pointer (some ⟨b, off, none⟩)) (V : Value)
  (hv : (loadVar ty ⟨b, off, none⟩).run P w = .ok V w) (h : K (a.put op.dst V) w) : op.wp P a w K Q := by
 unfold Oper.wp execOp
 simp only [ho, hx, Instr.loadAt, Instr.sureAddr, Sem.run_bind, Sem.run_pure, Result.andThen_ok, hv]
 exact h
theorem wpList_load_one {P : Program} {ops : Array Oper} {rest : List Oper} {op : Oper} {a : Act} {w : World} {Q : Exit → Act → World → Prop} (hgd : op.guard = none) (ty : TypeId) (x : Operand) (ho : op.op = .load ty x) (b off : Nat)
  (hx : a.eval x = .pointer (some ⟨b, off, none⟩)) (V : Value) (hv : (loadVar ty ⟨b, off, none⟩).run P w = .ok V w) (h : wpList P ops Q rest (a.put op.dst V) w) : wpList P ops Q (op :: rest) a w :=
 wpList_plain hgd fun _ hK => wp_load_one ty x ho b off hx V hv (hK _ _ h)
end Go.Proofs.YtdbbcfohjkgdcaaGreat
