/- Package pack: what of a packet is filled. -/
import Derived.Test.YtiancngpknnkaaaGreatB04
import Derived.Test.YtiancngpknnkaaaGreatB05
import Derived.Deep.DeepCutAuto
import Derived.Deep.QuietTactic
import Derived.BigQuiet
set_option maxRecDepth 100000
set_option maxHeartbeats 64000000
namespace Go.Proofs.YtiancngpknnkaaaGreat
open Go.RowKit Go.Lib Prp Pkt
section
variable {w W : World} {g : Nat} {p : Pk} {a : Ad}
theorem Keep.f0 (h : Keep w g (pkArr p a) W) : W.cell? ⟨g, 0, none⟩ = some (.int .i64 p.kind) := h.cell 0
theorem Keep.f1 (h : Keep w g (pkArr p a) W) : W.cell? ⟨g, 1, none⟩ = some (.bool p.dup) := h.cell 1
theorem Keep.f2 (h : Keep w g (pkArr p a) W) : W.cell? ⟨g, 2, none⟩ = some (.int .i64 p.q) := h.cell 2
theorem Keep.f3 (h : Keep w g (pkArr p a) W) : W.cell? ⟨g, 3, none⟩ = some (.bool p.ret) := h.cell 3
theorem Keep.f4 (h : Keep w g (pkArr p a) W) : W.cell? ⟨g, 4, none⟩ = some (.int .i64 p.id) := h.cell 4
theorem Keep.f5 (h : Keep w g (pkArr p a) W) : W.cell? ⟨g, 5, none⟩ = some (.string p.t) := h.cell 5
theorem Keep.f6 (h : Keep w g (pkArr p a) W) : W.cell? ⟨g, 6, none⟩ = some (.string p.b) := h.cell 6
theorem Keep.f7 (h : Keep w g (pkArr p a) W) : W.cell? ⟨g, 7, none⟩ = some (.int .i64 p.re) := h.cell 7
theorem Keep.f8 (h : Keep w g (pkArr p a) W) : W.cell? ⟨g, 8, none⟩ = some (.bool p.pre) := h.cell 8
theorem Keep.f9 (h : Keep w g (pkArr p a) W) : W.cell? ⟨g, 9, none⟩ = some (.slice a.ca p.cs.length a.cc) := h.cell 9
theorem Keep.f10 (h : Keep w g (pkArr p a) W) : W.cell? ⟨g, 10, none⟩ = some (.slice a.fa p.fs.length a.fc) := h.cell 10
theorem Keep.f11 (h : Keep w g (pkArr p a) W) : W.cell? ⟨g, 11, none⟩ = some (.string p.cl) := h.cell 11
theorem Keep.f12 (h : Keep w g (pkArr p a) W) : W.cell? ⟨g, 12, none⟩ = some (.bool p.clean) := h.cell 12
theorem Keep.f13 (h : Keep w g (pkArr p a) W) : W.cell? ⟨g, 13, none⟩ = some (.int .i64 p.keep) := h.cell 13
theorem Keep.f14 (h : Keep w g (pkArr p a) W) : W.cell? ⟨g, 14, none⟩ = some (.bool p.w.has) := h.cell 14
theorem Keep.f15 (h : Keep w g (pkArr p a) W) : W.cell? ⟨g, 15, none⟩ = some (.int .i64 p.w.q) := h.cell 15
theorem Keep.f16 (h : Keep w g (pkArr p a) W) : W.cell? ⟨g, 16, none⟩ = some (.bool p.w.ret) := h.cell 16
theorem Keep.f17 (h : Keep w g (pkArr p a) W) : W.cell? ⟨g, 17, none⟩ = some (.string p.w.t) := h.cell 17
theorem Keep.f18 (h : Keep w g (pkArr p a) W) : W.cell? ⟨g, 18, none⟩ = some (.string p.w.b) := h.cell 18
theorem Keep.f19 (h : Keep w g (pkArr p a) W) : W.cell? ⟨g, 19, none⟩ = some (.slice a.wa p.w.ps.length a.wc) := h.cell 19
theorem Keep.f20 (h : Keep w g (pkArr p a) W) : W.cell? ⟨g, 20, none⟩ = some (.bool p.hu) := h.cell 20
theorem Keep.f21 (h : Keep w g (pkArr p a) W) : W.cell? ⟨g, 21, none⟩ = some (.string p.u) := h.cell 21
theorem Keep.f22 (h : Keep w g (pkArr p a) W) : W.cell? ⟨g, 22, none⟩ = some (.bool p.hp) := h.cell 22
theorem Keep.f23 (h : Keep w g (pkArr p a) W) : W.cell? ⟨g, 23, none⟩ = some (.string p.pw) := h.cell 23
theorem Keep.f24 (h : Keep w g (pkArr p a) W) : W.cell? ⟨g, 24, none⟩ = some (.slice a.pa p.ps.length a.pc) := h.cell 24
end
theorem bit_is (b : Bool) (n R : Int) (w : World) (hR : bitZ b n = R) :
    Calls Tryz.prog 82 #[.bool b, .int .i64 n] w fun e w' => e = .returned (.int .i64 R) ∧ w = w' := by
  cases b with
  | true =>
    obtain rfl : n = R := hR
    go_enter Tryz.func82, Tryz.ntmps82
    go_wp2
    go_ret
    exact ⟨rfl, rfl⟩
  | false =>
    obtain rfl : 0 = R := hR
    go_enter Tryz.func82, Tryz.ntmps82
    go_wp2
    go_ret
    exact ⟨rfl, rfl⟩
theorem isQoS_is (n : Int) (b : Bool) (w : World) (hb : qosB n = b) :
    Calls Tryz.prog 103 #[.int .i64 n] w fun e w' => e = .returned (.bool b) ∧ w = w' := by
  subst hb
  go_enter Tryz.func103, Tryz.ntmps103
  go_wp2
  all_goals (go_ret; refine ⟨ret_bool ?_, rfl⟩; unfold qosB; first | exact dec_false (by omega) | exact dec_dec (by omega) | exact dec_true (by omega))
theorem isCount_is (n : Nat) (b : Bool) (w : World) (hb : countB n = b) :
    Calls Tryz.prog 77 #[.int .i64 (n : Int)] w fun e w' => e = .returned (.bool b) ∧ w = w' := by
  subst hb
  go_enter Tryz.func77, Tryz.ntmps77
  go_wp2
  all_goals (go_ret; refine ⟨ret_bool ?_, rfl⟩; unfold countB; first | exact dec_false (by omega) | exact dec_dec (by omega) | exact dec_true (by omega))
def fieldsZ (k : Int) : Int :=
  if k = 1 then 129 else if k = 2 then 146 else if k = 3 then 140 else if k = 4 ∨ k = 5 ∨ k = 6 ∨ k = 7 then 152 else if k = 8 ∨ k = 10 then 200 else if k = 9 ∨ k = 11 then 168 else if k = 14 ∨ k = 15 then 144 else 0
theorem kinds_all {k : Int} (h0 : 1 ≤ k) (h1 : k ≤ 15) : k = 1 ∨ k = 2 ∨ k = 3 ∨ k = 4 ∨ k = 5 ∨ k = 6 ∨ k = 7 ∨ k = 8 ∨ k = 9 ∨ k = 10 ∨ k = 11 ∨ k = 12 ∨ k = 13 ∨ k = 14 ∨ k = 15 := by omega
theorem fieldsOf_is (k R : Int) (w : World) (h0 : 1 ≤ k) (h1 : k ≤ 15) (hR : fieldsZ k = R) :
    Calls Tryz.prog 73 #[.int .i64 k] w fun e w' => e = .returned (.int .i64 R) ∧ w = w' := by
  subst hR
  rcases kinds_all h0 h1 with rfl | rfl | rfl | rfl | rfl | rfl | rfl | rfl | rfl | rfl | rfl | rfl | rfl | rfl | rfl <;>
  · go_enter Tryz.func73, Tryz.ntmps73
    go_wp2
    go_ret
    exact ⟨rfl, rfl⟩
theorem mayFilter_is (f : Fl) (b : Bool) (w : World) (hb : mayFilB f = b) :
    Calls Tryz.prog 104 #[.agg #[.string f.t, .int .i64 f.q, .bool f.nl, .bool f.ar, .int .i64 f.h]] w fun e w' => e = .returned (.bool b) ∧ Below w.heap.size w w' := by
  obtain ⟨x, hx⟩ : ∃ x, qosB f.q = x := ⟨_, rfl⟩
  have HQ := Lib.hid (fun W => isQoS_is f.q x W hx)
  have HB : Hid (b = (x && decide (0 ≤ f.h ∧ f.h ≤ 2))) := by show _ = _; rw [← hb, ← hx]; rfl
  clear hx hb
  go_enter Tryz.func104, Tryz.ntmps104
  cases x with
  | false =>
    go_wp2_with (go_at_call 103; refine (HQ.out _).mono ?_; rintro e w' ⟨rfl, rfl⟩)
    go_ret
    refine ⟨ret_bool ?_, (Below.refl _ _).alloc (Nat.le_refl _) _⟩
    rw [HB.out]; rfl
  | true =>
    go_wp2_with (go_at_call 103; refine (HQ.out _).mono ?_; rintro e w' ⟨rfl, rfl⟩)
    all_goals (go_ret; refine ⟨ret_bool ?_, (Below.refl _ _).alloc (Nat.le_refl _) _⟩; rw [HB.out, Bool.true_and]; first | exact dec_false (by omega) | exact dec_dec (by omega) | exact dec_true (by omega))
theorem toList_data (s : ByteArray) : s.toList = s.data.toList := by
  rw [ByteArray.toList_eq]
theorem E_iff (s : ByteArray) : E s = s.toList.isEmpty := by
  have h : s = ⟨#[]⟩ ↔ s.toList = [] := by
    rw [toList_data]
    exact ⟨fun h => by rw [h], fun h => ByteArray.ext (Array.toList_inj.1 h)⟩
  unfold E
  rw [Bool.eq_iff_iff, List.isEmpty_iff, decide_eq_true_iff]
  exact h
theorem len_ne {α : Type} (l : List α) : decide (l ≠ []) = decide (0 < l.length) := by rw [decide_eq_decide, List.length_pos_iff]
theorem isFilled_is (x : Wl) (A : Option Addr) (c : Nat) (b : Bool) (w : World) (hb : wFilled x = b) :
    Calls Tryz.prog 102 #[.agg #[.bool x.has, .int .i64 x.q, .bool x.ret, .string x.t, .string x.b, .slice A x.ps.length c]] w fun e w' => e = .returned (.bool b) ∧ Below w.heap.size w w' := by
  have HB := Lib.hid hb
  clear hb
  go_enter Tryz.func102, Tryz.ntmps102
  go_wp2
  all_goals go_ret
  all_goals refine ⟨ret_bool ?_, (Below.refl _ _).alloc (Nat.le_refl _) _⟩
  all_goals (rw [← HB.out]; unfold wFilled; simp only [E_iff, len_ne]; simp [*])
theorem maySend_is (p : Pk) (a : Ad) (b : Bool) (w : World) (hb : sendB p.dup p.q = b) :
    Calls Tryz.prog 75 #[.agg (pkArr p a)] w fun e w' => e = .returned (.bool b) ∧ Below w.heap.size w w' := by
  obtain ⟨x, hx⟩ : ∃ x, qosB p.q = x := ⟨_, rfl⟩
  have HQ := Lib.hid (fun W => isQoS_is p.q x W hx)
  have HB : Hid (b = (x && (decide (0 < p.q) || !p.dup))) := by show _ = _; rw [← hb, ← hx]; rfl
  clear hx hb
  unfold pkArr
  go_enter Tryz.func75, Tryz.ntmps75
  go_wp2_with (go_at_call 103; refine (HQ.out _).mono ?_; rintro e w' ⟨rfl, rfl⟩)
  all_goals go_ret
  all_goals refine ⟨ret_bool ?_, (Below.refl _ _).alloc (Nat.le_refl _) _⟩
  all_goals (rw [HB.out]; simp [*])
open Go.RowKit Go.Lib Prp Pkt
def fillOf (x1 x2 x3 x4 x5 x6 x7 x8 : Bool) : Int :=
  bits .or .i64 (bits .or .i64 (bits .or .i64 (bits .or .i64 (bits .or .i64 (bits .or .i64 (bits .or .i64 (bitZ x1 1) (bitZ x2 2)) (bitZ x3 4)) (bitZ x4 8)) (bitZ x5 16)) (bitZ x6 32)) (bitZ x7 64)) (bitZ x8 128)
theorem fill_field {k : Int} (h0 : 1 ≤ k) (h1 : k ≤ 15) : ∀ x1 x2 x3 x4 x5 x6 x7 x8 : Bool, (bits .andNot .i64 (fillOf x1 x2 x3 x4 x5 x6 x7 x8) (fieldsZ k) != 0) = !fieldOf k x1 x2 x3 x4 x5 x6 x7 x8 := by
  rcases kinds_all h0 h1 with rfl | rfl | rfl | rfl | rfl | rfl | rfl | rfl | rfl | rfl | rfl | rfl | rfl | rfl | rfl <;> decide +kernel
def fillZ (p : Pk) : Int := fillOf (b1 p) p.pre (b3 p) (p.id != 0) (p.re != 0) (decide (0 < p.cs.length)) (decide (0 < p.fs.length)) (decide (0 < p.ps.length))
theorem bit_same (b : Bool) (n : Int) (w : World) : Calls Tryz.prog 82 #[.bool b, .int .i64 n] w fun e w' => e = .returned (.int .i64 (bitZ b n)) ∧ w' = w :=
  (bit_is b n _ w rfl).mono fun _ _ ⟨h, h2⟩ => ⟨h, h2.symm⟩
theorem filled_is (p : Pk) (a : Ad) (R : Int) (w : World) (hR : fillZ p = R) :
    Calls Tryz.prog 72 #[.agg (pkArr p a)] w fun e w' => e = .returned (.int .i64 R) ∧ Below w.heap.size w w' := by
  obtain ⟨x, hx⟩ : ∃ x, wFilled p.w = x := ⟨_, rfl⟩
  have HF := Lib.hid (fun W => isFilled_is p.w a.wa a.wc x W hx)
  have HX := Lib.hid hx
  have HR := Lib.hid hR
  clear hx hR
  have HK0 := Keep.new w 30 (pkArr p a)
  obtain ⟨W1, hW⟩ : ∃ W1, w.alloc (.cells (pkArr p a) 30) = W1 := ⟨_, rfl⟩
  rw [hW] at HK0
  unfold pkArr at hW ⊢
  have HW := Lib.hid hW
  clear hW
  go_enter Tryz.func72, Tryz.ntmps72
  go_upto_region 1 with fail
  rw [HW.out]
  generalize Value.agg _ = v0
  obtain ⟨g, hg⟩ : ∃ g, w.heap.size = g := ⟨_, rfl⟩
  rw [hg] at HK0 ⊢
  have HK := Lib.hid HK0
  clear HW HK0
  have c1 := HK.out.f11
  have c2 := HK.out.f12
  have c3 := HK.out.f13
  have c4 := HK.out.f14
  have c5 := HK.out.f15
  have c6 := HK.out.f16
  have c7 := HK.out.f17
  have c8 := HK.out.f18
  have c9 := HK.out.f19
  go_cut [3] (fun s3 wx => s3 = .bool (b1 p) ∧ Keep w g (pkArr p a) wx)
  case first =>
    go_wp2_with (go_at_call 102; refine (HF.out _).mono ?_; rintro e w1 ⟨rfl, hb⟩; have hk := HK.out.below hb; have d0 := hk.f20; have d1 := hk.f21; have d2 := hk.f22; have d3 := hk.f23)
    all_goals go_meet
    all_goals first | refine ⟨congrArg Value.bool ?_, HK.out⟩ | refine ⟨congrArg Value.bool ?_, hk⟩
    all_goals (unfold b1; rw [HX.out]; simp only [E_iff]; simp [*])
  case rest =>
    obtain ⟨rfl, hk⟩ := hcut
    clear c1 c2 c3 c4 c5 c6 c7 c8 c9 HK HF HX
    have HK := Lib.hid hk
    clear hk
    have c1 := HK.out.f1
    have c2 := HK.out.f2
    have c3 := HK.out.f3
    have c4 := HK.out.f5
    have c5 := HK.out.f6
    obtain ⟨x, hx⟩ : ∃ x, b1 p = x := ⟨_, rfl⟩
    rw [hx]
    have HX := Lib.hid hx
    clear hx
    go_upto_region 2 with fail
    go_cut [4] (fun s4 wx => s4 = .bool (b3 p) ∧ Keep w g (pkArr p a) wx)
    case first =>
      go_wp2_with fail
      all_goals go_meet
      all_goals refine ⟨congrArg Value.bool ?_, HK.out⟩
      all_goals (unfold b3; simp only [E_iff]; simp [*])
    case rest =>
      obtain ⟨rfl, hk⟩ := hcut
      clear c1 c2 c3 c4 c5 HK
      have HK := Lib.hid hk
      clear hk
      obtain ⟨y, hy⟩ : ∃ y, b3 p = y := ⟨_, rfl⟩
      rw [hy]
      have HR2 : Hid (R = fillOf x p.pre y (p.id != 0) (p.re != 0) (decide (0 < p.cs.length)) (decide (0 < p.fs.length)) (decide (0 < p.ps.length))) := by
        show _ = _
        rw [← HR.out, ← HX.out, ← hy]; rfl
      clear hy HR HX
      have c1 := HK.out.f8
      have c2 := HK.out.f4
      have c3 := HK.out.f7
      have c4 := HK.out.f9
      have c5 := HK.out.f10
      have c6 := HK.out.f24
      go_upto_region 3 with fail
      go_quiet ((go_at_call 82; exact Calls.quiet_of_same (bit_same _ _ _)))
      go_wp2_with fail
      go_ret
      exact ⟨by rw [HR2.out]; rfl, below_drewN HK.out.out.2 _⟩
end Go.Proofs.YtiancngpknnkaaaGreat
