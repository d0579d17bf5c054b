/- Package pack: the parts of a packet: a reason and properties, codes, filters. -/
import Derived.Test.YtdbbcfohjkgdcaaGreatL00
import Derived.Test.YtdbbcfohjkgdcaaGreatL44
set_option maxRecDepth 100000
set_option maxHeartbeats 64000000
namespace Go.Proofs.YtdbbcfohjkgdcaaGreat
open Go.RowKit Go.Lib Prp Pkt
def fillOf (x1 x2 x3 x4 x5 x6 x7 x8 : Bool) : Int :=
 bits .or .i64 (bits .or .i64 (bits .or .i64 (bits .or .i64 (bits .or .i64 (bits .or .i64 (bits .or .i64 (bitZ x1 1) (bitZ x2 2)) (bitZ x3 4)) (bitZ x4 8)) (bitZ x5 16)) (bitZ x6 32)) (bitZ x7 64)) (bitZ x8 128)
theorem fill_field {k : Int} (h0 : 1 ≤ k) (h1 : k ≤ 15) : ∀ x1 x2 x3 x4 x5 x6 x7 x8 : Bool, (bits .andNot .i64 (fillOf x1 x2 x3 x4 x5 x6 x7 x8) (fieldsZ k) != 0) = !fieldOf k x1 x2 x3 x4 x5 x6 x7 x8 := by
 rcases kinds_all h0 h1 with rfl | rfl | rfl | rfl | rfl | rfl | rfl | rfl | rfl | rfl | rfl | rfl | rfl | rfl | rfl <;> decide +kernel
def fillZ (p : Pk) : Int := fillOf (b1 p) p.pre (b3 p) (p.id != 0) (p.re != 0) (decide (0 < p.cs.length)) (decide (0 < p.fs.length)) (decide (0 < p.ps.length))
theorem filled_is (p : Pk) (a : Ad) (R : Int) (w : World) (hR : fillZ p = R) :
  Calls Tryz.prog 57 #[.agg (pkArr p a)] w fun e w' => e = .returned (.int .i64 R) ∧ Below w.heap.size w w' := by
 obtain ⟨x, hx⟩ : ∃ x, wFilled p.w = x := ⟨_, rfl⟩
 have HF := Lib.hid (fun W => isFilled_is p.w a.wa a.wc x W hx)
 have HX := Lib.hid hx
 have HR := Lib.hid hR
 clear hx hR
 have HK0 := Keep.new w 30 (pkArr p a)
 obtain ⟨W1, hW⟩ : ∃ W1, w.alloc (.cells (pkArr p a) 30) = W1 := ⟨_, rfl⟩
 rw [hW] at HK0
 unfold pkArr at hW ⊢
 have HW := Lib.hid hW
 clear hW
 go_enter Tryz.func57, Tryz.ntmps57
 go_upto_region 1 with fail
 rw [HW.out]
 generalize Value.agg _ = v0
 obtain ⟨g, hg⟩ : ∃ g, w.heap.size = g := ⟨_, rfl⟩
 rw [hg] at HK0 ⊢
 have HK := Lib.hid HK0
 clear HW HK0
 have c1 := HK.out.f11
 have c2 := HK.out.f12
 have c3 := HK.out.f13
 have c4 := HK.out.f14
 have c5 := HK.out.f15
 have c6 := HK.out.f16
 have c7 := HK.out.f17
 have c8 := HK.out.f18
 have c9 := HK.out.f19
 go_cut [3] (fun s3 wx => s3 = .bool (b1 p) ∧ Keep w g (pkArr p a) wx)
 case first =>
  go_wp2_with (go_at_call 86; refine (HF.out _).mono ?_; rintro e w1 ⟨rfl, hb⟩; have hk := HK.out.below hb; have d0 := hk.f20; have d1 := hk.f21; have d2 := hk.f22; have d3 := hk.f23)
  all_goals go_meet
  all_goals first | refine ⟨congrArg Value.bool ?_, HK.out⟩ | refine ⟨congrArg Value.bool ?_, hk⟩
  all_goals (unfold b1; rw [HX.out]; simp only [E_iff]; simp [*])
 case rest =>
  obtain ⟨rfl, hk⟩ := hcut
  clear c1 c2 c3 c4 c5 c6 c7 c8 c9 HK HF HX
  have HK := Lib.hid hk
  clear hk
  have c1 := HK.out.f1
  have c2 := HK.out.f2
  have c3 := HK.out.f3
  have c4 := HK.out.f5
  have c5 := HK.out.f6
  obtain ⟨x, hx⟩ : ∃ x, b1 p = x := ⟨_, rfl⟩
  rw [hx]
  have HX := Lib.hid hx
  clear hx
  go_upto_region 2 with fail
  go_cut [4] (fun s4 wx => s4 = .bool (b3 p) ∧ Keep w g (pkArr p a) wx)
  case first =>
   go_wp2_with fail
   all_goals go_meet
   all_goals refine ⟨congrArg Value.bool ?_, HK.out⟩
   all_goals (unfold b3; simp only [E_iff]; simp [*])
  case rest =>
   obtain ⟨rfl, hk⟩ := hcut
   clear c1 c2 c3 c4 c5 HK
   have HK := Lib.hid hk
   clear hk
   obtain ⟨y, hy⟩ : ∃ y, b3 p = y := ⟨_, rfl⟩
   rw [hy]
   have HR2 : Hid (R = fillOf x p.pre y (p.id != 0) (p.re != 0) (decide (0 < p.cs.length)) (decide (0 < p.fs.length)) (decide (0 < p.ps.length))) := by
    show _ = _
    rw [← HR.out, ← HX.out, ← hy]; rfl
   clear hy HR HX
   have c1 := HK.out.f8
   have c2 := HK.out.f4
   have c3 := HK.out.f7
   have c4 := HK.out.f9
   have c5 := HK.out.f10
   have c6 := HK.out.f24
   go_upto_region 3 with fail
   go_quiet ((go_at_call 67; exact Calls.quiet_of_same (bit_same _ _ _)))
   go_wp2_with fail
   go_ret
   exact ⟨by rw [HR2.out]; rfl, below_drewN HK.out.out.2 _⟩
open Go.RowKit Go.Lib Prp Pkt
theorem mayLogIn_is (p : Pk) (a : Ad) (b : Bool) (w : World) (hb : logInB p = b) :
  Calls Tryz.prog 59 #[.agg (pkArr p a)] w fun e w' => e = .returned (.bool b) ∧ Below w.heap.size w w' := by
 obtain ⟨x, hx⟩ : ∃ x, wFilled p.w = x := ⟨_, rfl⟩
 have HF := Lib.hid (fun W => isFilled_is p.w a.wa a.wc x W hx)
 obtain ⟨y, hy⟩ : ∃ y, qosB p.w.q = y := ⟨_, rfl⟩
 have HQ := Lib.hid (fun W => isQoS_is p.w.q y W hy)
 have HB : Hid (b = ((E p.u || p.hu) && ((E p.pw || p.hp) && (if p.w.has = true then y && !E p.w.t else !x)))) := by show _ = _; rw [← hb, ← hx, ← hy]; rfl
 clear hx hy hb
 have HK0 := Keep.new w 30 (pkArr p a)
 obtain ⟨W1, hW⟩ : ∃ W1, w.alloc (.cells (pkArr p a) 30) = W1 := ⟨_, rfl⟩
 rw [hW] at HK0
 unfold pkArr at hW ⊢
 have HW := Lib.hid hW
 clear hW
 go_enter Tryz.func59, Tryz.ntmps59
 go_upto_region 1 with fail
 rw [HW.out]
 generalize Value.agg _ = v0
 obtain ⟨g, hg⟩ : ∃ g, w.heap.size = g := ⟨_, rfl⟩
 rw [hg] at HK0 ⊢
 have HK := Lib.hid HK0
 clear HW HK0
 have c14 := HK.out.f14
 have c15 := HK.out.f15
 have c16 := HK.out.f16
 have c17 := HK.out.f17
 have c18 := HK.out.f18
 have c19 := HK.out.f19
 have c20 := HK.out.f20
 have c21 := HK.out.f21
 have c22 := HK.out.f22
 have c23 := HK.out.f23
 go_wp2_with (first | (go_at_call 87; refine (HQ.out _).mono ?_; rintro e w' ⟨rfl, rfl⟩) | (go_at_call 86; refine (HF.out _).mono ?_; rintro e w1 ⟨rfl, hb⟩))
 all_goals go_ret
 all_goals first | refine ⟨ret_bool ?_, HK.out.out.2⟩ | refine ⟨ret_bool ?_, (HK.out.below hb).out.2⟩
 all_goals (rw [HB.out]; simp only [E_iff]; clear HB HQ HF HK c14 c15 c16 c17 c18 c19 c20 c21 c22 c23; first | (simp [*]; done) | simp_all)
theorem filterFlags_is (f : Fl) (R : Int) (w : World) (h0 : 0 ≤ f.q) (h1 : f.q ≤ 3) (h2 : 0 ≤ f.h) (h3 : f.h ≤ 15) (hR : filterZ f = R) :
  Calls Tryz.prog 97 #[.agg #[.string f.t, .int .i64 f.q, .bool f.nl, .bool f.ar, .int .i64 f.h]] w fun e w' => e = .returned (.int .i64 R) ∧ Below w.heap.size w w' := by
 have HR : Hid (R = f.q + bitZ f.nl 4 + bitZ f.ar 8 + 16 * f.h) := hR.symm
 clear hR
 have r1 := bit_range f.nl (n := 4) (by omega)
 have r2 := bit_range f.ar (n := 8) (by omega)
 have z1 : IntKind.i64.wrap (16 * f.h) = 16 * f.h := IntWalk.i64_in _ (by omega)
 have z2 : IntKind.i64.wrap (f.q + bitZ f.nl 4) = f.q + bitZ f.nl 4 := IntWalk.i64_in _ (by omega)
 have z3 : IntKind.i64.wrap (f.q + bitZ f.nl 4 + bitZ f.ar 8) = f.q + bitZ f.nl 4 + bitZ f.ar 8 := IntWalk.i64_in _ (by omega)
 have z4 : IntKind.i64.wrap (f.q + bitZ f.nl 4 + bitZ f.ar 8 + 16 * f.h) = f.q + bitZ f.nl 4 + bitZ f.ar 8 + 16 * f.h := IntWalk.i64_in _ (by omega)
 go_enter Tryz.func97, Tryz.ntmps97
 go_wp2_with fail
 go_quiet ((go_at_call 67; exact Calls.quiet_of_same (bit_same _ _ _)))
 go_wp2_with fail
 go_ret
 exact ⟨by rw [HR.out]; rfl, below_drewN ((Below.refl _ _).alloc (Nat.le_refl _) _) _⟩
open Go.RowKit Go.Lib Prp Pkt Vbi Txt
theorem as_octet (v : Value) (w : World) : (Instr.typeAssert (.iface 110 v) 20 110 true).run Tryz.prog w = .ok (.tuple #[v, .bool true]) w := by kernel_rfl
theorem as_short_octet (v : Value) (w : World) : (Instr.typeAssert (.iface 134 v) 20 110 true).run Tryz.prog w = .ok (.tuple #[.int .i64 0, .bool false]) w := by kernel_rfl
theorem as_short (v : Value) (w : World) : (Instr.typeAssert (.iface 134 v) 20 134 true).run Tryz.prog w = .ok (.tuple #[v, .bool true]) w := by kernel_rfl
theorem as_number_octet (v : Value) (w : World) : (Instr.typeAssert (.iface 115 v) 20 110 true).run Tryz.prog w = .ok (.tuple #[.int .i64 0, .bool false]) w := by kernel_rfl
theorem as_number_short (v : Value) (w : World) : (Instr.typeAssert (.iface 115 v) 20 134 true).run Tryz.prog w = .ok (.tuple #[.int .i64 0, .bool false]) w := by kernel_rfl
theorem as_number (v : Value) (w : World) : (Instr.typeAssert (.iface 115 v) 20 115 true).run Tryz.prog w = .ok (.tuple #[v, .bool true]) w := by kernel_rfl
theorem as_words_octet (v : Value) (w : World) : (Instr.typeAssert (.iface 114 v) 20 110 true).run Tryz.prog w = .ok (.tuple #[.int .i64 0, .bool false]) w := by kernel_rfl
theorem as_words_short (v : Value) (w : World) : (Instr.typeAssert (.iface 114 v) 20 134 true).run Tryz.prog w = .ok (.tuple #[.int .i64 0, .bool false]) w := by kernel_rfl
theorem as_words_number (v : Value) (w : World) : (Instr.typeAssert (.iface 114 v) 20 115 true).run Tryz.prog w = .ok (.tuple #[.int .i64 0, .bool false]) w := by kernel_rfl
theorem as_words (v : Value) (w : World) : (Instr.typeAssert (.iface 114 v) 20 114 true).run Tryz.prog w = .ok (.tuple #[v, .bool true]) w := by kernel_rfl
theorem as_sized_octet (v : Value) (w : World) : (Instr.typeAssert (.iface 139 v) 20 110 true).run Tryz.prog w = .ok (.tuple #[.int .i64 0, .bool false]) w := by kernel_rfl
theorem as_sized_short (v : Value) (w : World) : (Instr.typeAssert (.iface 139 v) 20 134 true).run Tryz.prog w = .ok (.tuple #[.int .i64 0, .bool false]) w := by kernel_rfl
theorem as_sized_number (v : Value) (w : World) : (Instr.typeAssert (.iface 139 v) 20 115 true).run Tryz.prog w = .ok (.tuple #[.int .i64 0, .bool false]) w := by kernel_rfl
theorem as_sized_words (v : Value) (w : World) : (Instr.typeAssert (.iface 139 v) 20 114 true).run Tryz.prog w = .ok (.tuple #[.string ByteArray.empty, .bool false]) w := by kernel_rfl
theorem as_sized (v : Value) (w : World) : (Instr.typeAssert (.iface 139 v) 20 139 true).run Tryz.prog w = .ok (.tuple #[v, .bool true]) w := by kernel_rfl
theorem as_list_octet (v : Value) (w : World) : (Instr.typeAssert (.iface 113 v) 20 110 true).run Tryz.prog w = .ok (.tuple #[.int .i64 0, .bool false]) w := by kernel_rfl
theorem as_list_short (v : Value) (w : World) : (Instr.typeAssert (.iface 113 v) 20 134 true).run Tryz.prog w = .ok (.tuple #[.int .i64 0, .bool false]) w := by kernel_rfl
theorem as_list_number (v : Value) (w : World) : (Instr.typeAssert (.iface 113 v) 20 115 true).run Tryz.prog w = .ok (.tuple #[.int .i64 0, .bool false]) w := by kernel_rfl
theorem as_list_words (v : Value) (w : World) : (Instr.typeAssert (.iface 113 v) 20 114 true).run Tryz.prog w = .ok (.tuple #[.string ByteArray.empty, .bool false]) w := by kernel_rfl
theorem as_list_sized (v : Value) (w : World) : (Instr.typeAssert (.iface 113 v) 20 139 true).run Tryz.prog w = .ok (.tuple #[.string ByteArray.empty, .bool false]) w := by kernel_rfl
theorem as_list (v : Value) (w : World) : (Instr.typeAssert (.iface 113 v) 20 113 true).run Tryz.prog w = .ok (.tuple #[v, .bool true]) w := by kernel_rfl
theorem as_string_octet (v : Value) (w : World) : (Instr.typeAssert (.iface 9 v) 20 110 true).run Tryz.prog w = .ok (.tuple #[.int .i64 0, .bool false]) w := by kernel_rfl
theorem as_string_short (v : Value) (w : World) : (Instr.typeAssert (.iface 9 v) 20 134 true).run Tryz.prog w = .ok (.tuple #[.int .i64 0, .bool false]) w := by kernel_rfl
theorem as_string_number (v : Value) (w : World) : (Instr.typeAssert (.iface 9 v) 20 115 true).run Tryz.prog w = .ok (.tuple #[.int .i64 0, .bool false]) w := by kernel_rfl
theorem as_string_words (v : Value) (w : World) : (Instr.typeAssert (.iface 9 v) 20 114 true).run Tryz.prog w = .ok (.tuple #[.string ByteArray.empty, .bool false]) w := by kernel_rfl
theorem as_string_sized (v : Value) (w : World) : (Instr.typeAssert (.iface 9 v) 20 139 true).run Tryz.prog w = .ok (.tuple #[.string ByteArray.empty, .bool false]) w := by kernel_rfl
theorem as_string_list (v : Value) (w : World) : (Instr.typeAssert (.iface 9 v) 20 113 true).run Tryz.prog w = .ok (.tuple #[.agg #[.int .i64 0, .slice none 0 0], .bool false]) w := by kernel_rfl
theorem to_string (v : Value) (w : World) : (Instr.typeAssert (.iface 9 v) 20 9 false).run Tryz.prog w = .ok v w := by kernel_rfl
theorem octet_yes (n : Int) (S : ByteArray) (w : World) (h0 : 0 ≤ n) (h1 : n ≤ 255) (hS : strOfNums [n] = S) :
  Calls Tryz.prog 89 #[.int .i64 n] w fun e w' => e = .returned (.tuple #[.string S, .int .i64 0]) ∧ Below w.heap.size w w' := by
 have HS := Lib.hid hS
 clear hS
 have hcv := conv_byte n
 have hz : IntKind.u8.wrap n = n := by unfold IntKind.wrap; simp [IntKind.bits, IntKind.signed]; omega
 have d0 : decide (n < 0) = false := decide_eq_false (by omega)
 have d1 : decide (255 < n) = false := decide_eq_false (by omega)
 go_enter Tryz.func89, Tryz.ntmps89
 go_wp2_with fail
 go_ret2
 exact ⟨by rw [← HS.out]; rfl, (Below.refl _ _).alloc (Nat.le_refl _) _⟩
theorem octet_no (n : Int) (w : World) (h : ¬ (0 ≤ n ∧ n ≤ 255)) :
  Calls Tryz.prog 89 #[.int .i64 n] w fun e w' => e = .returned (.tuple #[.string ⟨#[]⟩, .int .i64 1]) ∧ w = w' := by
 by_cases h0 : n < 0
 ·have d0 : decide (n < 0) = true := decide_eq_true h0
  clear h
  go_enter Tryz.func89, Tryz.ntmps89
  go_wp2_with fail
  go_ret2
  exact ⟨rfl, rfl⟩
 ·have d0 : decide (n < 0) = false := decide_eq_false h0
  have d1 : decide (255 < n) = true := decide_eq_true (by omega)
  clear h
  go_enter Tryz.func89, Tryz.ntmps89
  go_wp2_with fail
  go_ret2
  exact ⟨rfl, rfl⟩
theorem number_yes (n : Int) (S : ByteArray) (w : World) (h0 : 1 ≤ n) (h1 : n < 65536) (hS : fxStr n = S) :
  Calls Tryz.prog 91 #[.int .i64 n] w fun e w' => e = .returned (.tuple #[.string S, .int .i64 0]) ∧ Below w.heap.size w w' := by
 have HT := Lib.hid (fun W => Two_is n S 0 W (by omega) ((fix_yes (wd := 2) (x := n) (by omega) (by omega)).2.trans hS) (fix_yes (wd := 2) (x := n) (by omega) (by omega)).1)
 have e0 : (n == 0) = false := ne_false (by omega)
 clear hS
 go_enter Tryz.func91, Tryz.ntmps91
 go_wp2_with (go_at_call 90; refine (HT.out _).mono ?_; rintro e w1 ⟨rfl, hb⟩)
 go_ret2
 exact ⟨rfl, hb⟩
theorem number_no (n : Int) (w : World) (hn : n ≤ 9223372036854775807) (h : ¬ (1 ≤ n ∧ n < 65536)) :
  Calls Tryz.prog 91 #[.int .i64 n] w (Wrong w) := by
 by_cases h0 : n = 0
 ·subst h0
  clear h
  go_enter Tryz.func91, Tryz.ntmps91
  go_wp2_with fail
  go_ret2
  exact ⟨_, _, rfl, by decide, Below.refl _ _⟩
 ·obtain ⟨S, hS⟩ : ∃ S, fixStr 2 n = S := ⟨_, rfl⟩
  have HT := Lib.hid (fun W => Two_is n S 2 W hn hS (fix_no (wd := 2) (x := n) (by omega)))
  have e0 : (n == 0) = false := ne_false h0
  clear hS h h0
  go_enter Tryz.func91, Tryz.ntmps91
  go_wp2_with (go_at_call 90; refine (HT.out _).mono ?_; rintro e w1 ⟨rfl, hb⟩)
  go_ret2
  exact ⟨_, _, rfl, by decide, hb⟩
open Go.RowKit Go.Lib Prp Pkt Vbi Txt
theorem Bin_yes (s S : ByteArray) (w : World) (h : binB s = true) (hS : lgStr s = S) :
  Calls Tryz.prog 93 #[.string s] w fun e w' => e = .returned (.tuple #[.string S, .int .i64 0]) ∧ Below w.heap.size w w' := by
 have hz : s.size ≤ 1024 := of_decide_eq_true h
 exact Bin_is s S 0 w (by unfold binStr; rw [if_neg (by omega)]; exact hS) (by unfold binErr; rw [if_neg (by omega)])
theorem Bin_no (s : ByteArray) (w : World) (h : binB s = false) : Calls Tryz.prog 93 #[.string s] w (Wrong w) := by
 have hz : ¬ s.size ≤ 1024 := of_decide_eq_false h
 exact (Bin_is s _ 2 w rfl (by unfold binErr; rw [if_pos (by omega)])).mono fun _ _ ⟨h1, h2⟩ => ⟨_, _, h1, by decide, h2⟩
theorem put_octet_yes (n : Int) (S : ByteArray) (w : World) (h : 0 ≤ n ∧ n ≤ 255) (hS : strOfNums [n] = S) :
  Calls Tryz.prog 63 #[.iface 110 (.int .i64 n)] w (fun e w' => e = .returned (.tuple #[.string S, .int .i64 0]) ∧ Below w.heap.size w w') := by
 have HC := Lib.hid (fun (W : World) => (octet_yes n S W h.1 h.2 hS : Calls Tryz.prog 89 #[.int .i64 n] W (fun e w' => e = .returned (.tuple #[.string S, .int .i64 0]) ∧ Below W.heap.size W w')))
 have b0 := as_octet
 clear h hS
 go_enter Tryz.func63, Tryz.ntmps63
 go_wp2_with (go_at_call 89; refine (HC.out _).mono ?_; rintro e w1 ⟨rfl, hb⟩)
 go_ret2
 exact ⟨rfl, hb⟩
theorem put_octet_no (n : Int) (w : World) (h : ¬ (0 ≤ n ∧ n ≤ 255)) :
  Calls Tryz.prog 63 #[.iface 110 (.int .i64 n)] w (Wrong w) := by
 have HC := Lib.hid (fun (W : World) => ((octet_no n W h).mono fun _ _ ⟨h1, h2⟩ => ⟨_, _, h1, by decide, by rw [h2]; exact Below.refl _ _⟩ : Calls Tryz.prog 89 #[.int .i64 n] W (Wrong W)))
 have b0 := as_octet
 clear h
 go_enter Tryz.func63, Tryz.ntmps63
 go_wp2_with (go_at_call 89; refine (HC.out _).mono ?_; rintro e w1 ⟨S, E, rfl, hE, hb⟩; have hE2 := Lib.hid hE; clear hE)
 go_ret2
 exact ⟨S, E, rfl, hE2.out, hb⟩
theorem put_short_yes (n : Int) (S : ByteArray) (w : World) (h : 0 ≤ n ∧ n < 65536) (hS : fxStr n = S) :
  Calls Tryz.prog 63 #[.iface 134 (.int .i64 n)] w (fun e w' => e = .returned (.tuple #[.string S, .int .i64 0]) ∧ Below w.heap.size w w') := by
 have HC := Lib.hid (fun (W : World) => (Two_is n S 0 W (by omega) ((fix_yes (wd := 2) (x := n) (by omega) (by omega)).2.trans hS) (fix_yes (wd := 2) (x := n) (by omega) (by omega)).1 : Calls Tryz.prog 90 #[.int .i64 n] W (fun e w' => e = .returned (.tuple #[.string S, .int .i64 0]) ∧ Below W.heap.size W w')))
 have a0 := as_short_octet
 have b0 := as_short
 clear h hS
 go_enter Tryz.func63, Tryz.ntmps63
 go_wp2_with (go_at_call 90; refine (HC.out _).mono ?_; rintro e w1 ⟨rfl, hb⟩)
 go_ret2
 exact ⟨rfl, hb⟩
theorem put_short_no (n : Int) (hn : n ≤ 9223372036854775807) (w : World) (h : ¬ (0 ≤ n ∧ n < 65536)) :
  Calls Tryz.prog 63 #[.iface 134 (.int .i64 n)] w (Wrong w) := by
 have HC := Lib.hid (fun (W : World) => ((Two_is n _ 2 W hn rfl (fix_no (wd := 2) (x := n) h)).mono fun _ _ ⟨h1, h2⟩ => ⟨_, _, h1, by decide, h2⟩ : Calls Tryz.prog 90 #[.int .i64 n] W (Wrong W)))
 have a0 := as_short_octet
 have b0 := as_short
 clear h hn
 go_enter Tryz.func63, Tryz.ntmps63
 go_wp2_with (go_at_call 90; refine (HC.out _).mono ?_; rintro e w1 ⟨S, E, rfl, hE, hb⟩; have hE2 := Lib.hid hE; clear hE)
 go_ret2
 exact ⟨S, E, rfl, hE2.out, hb⟩
theorem put_number_yes (n : Int) (S : ByteArray) (w : World) (h : 1 ≤ n ∧ n < 65536) (hS : fxStr n = S) :
  Calls Tryz.prog 63 #[.iface 115 (.int .i64 n)] w (fun e w' => e = .returned (.tuple #[.string S, .int .i64 0]) ∧ Below w.heap.size w w') := by
 have HC := Lib.hid (fun (W : World) => (number_yes n S W h.1 h.2 hS : Calls Tryz.prog 91 #[.int .i64 n] W (fun e w' => e = .returned (.tuple #[.string S, .int .i64 0]) ∧ Below W.heap.size W w')))
 have a0 := as_number_octet
 have a1 := as_number_short
 have b0 := as_number
 clear h hS
 go_enter Tryz.func63, Tryz.ntmps63
 go_wp2_with (go_at_call 91; refine (HC.out _).mono ?_; rintro e w1 ⟨rfl, hb⟩)
 go_ret2
 exact ⟨rfl, hb⟩
theorem put_number_no (n : Int) (hn : n ≤ 9223372036854775807) (w : World) (h : ¬ (1 ≤ n ∧ n < 65536)) :
  Calls Tryz.prog 63 #[.iface 115 (.int .i64 n)] w (Wrong w) := by
 have HC := Lib.hid (fun (W : World) => (number_no n W hn h : Calls Tryz.prog 91 #[.int .i64 n] W (Wrong W)))
 have a0 := as_number_octet
 have a1 := as_number_short
 have b0 := as_number
 clear h hn
 go_enter Tryz.func63, Tryz.ntmps63
 go_wp2_with (go_at_call 91; refine (HC.out _).mono ?_; rintro e w1 ⟨S, E, rfl, hE, hb⟩; have hE2 := Lib.hid hE; clear hE)
 go_ret2
 exact ⟨S, E, rfl, hE2.out, hb⟩
theorem put_words_yes (s : ByteArray) (S : ByteArray) (hn : s.size ≤ 9223372036854775807) (w : World) (h : textB s = true) (hS : lgStr s = S) :
  Calls Tryz.prog 63 #[.iface 114 (.string s)] w (fun e w' => e = .returned (.tuple #[.string S, .int .i64 0]) ∧ Below w.heap.size w w') := by
 have HC := Lib.hid (fun (W : World) => (Text_yes s S W hn h hS : Calls Tryz.prog 92 #[.string s] W (fun e w' => e = .returned (.tuple #[.string S, .int .i64 0]) ∧ Below W.heap.size W w')))
 have a0 := as_words_octet
 have a1 := as_words_short
 have a2 := as_words_number
 have b0 := as_words
 clear h hn hS
 go_enter Tryz.func63, Tryz.ntmps63
 go_wp2_with (go_at_call 92; refine (HC.out _).mono ?_; rintro e w1 ⟨rfl, hb⟩)
 go_ret2
 exact ⟨rfl, hb⟩
theorem put_words_no (s : ByteArray) (hn : s.size ≤ 9223372036854775807) (w : World) (h : ¬ (textB s = true)) :
  Calls Tryz.prog 63 #[.iface 114 (.string s)] w (Wrong w) := by
 have HC := Lib.hid (fun (W : World) => ((Text_no s W hn (by simpa using h)).mono fun _ _ ⟨E, h1, h2, h3⟩ => ⟨_, E, h1, h2, h3⟩ : Calls Tryz.prog 92 #[.string s] W (Wrong W)))
 have a0 := as_words_octet
 have a1 := as_words_short
 have a2 := as_words_number
 have b0 := as_words
 clear h hn
 go_enter Tryz.func63, Tryz.ntmps63
 go_wp2_with (go_at_call 92; refine (HC.out _).mono ?_; rintro e w1 ⟨S, E, rfl, hE, hb⟩; have hE2 := Lib.hid hE; clear hE)
 go_ret2
 exact ⟨S, E, rfl, hE2.out, hb⟩
theorem put_sized_yes (s : ByteArray) (S : ByteArray) (w : World) (h : binB s = true) (hS : lgStr s = S) :
  Calls Tryz.prog 63 #[.iface 139 (.string s)] w (fun e w' => e = .returned (.tuple #[.string S, .int .i64 0]) ∧ Below w.heap.size w w') := by
 have HC := Lib.hid (fun (W : World) => (Bin_yes s S W h hS : Calls Tryz.prog 93 #[.string s] W (fun e w' => e = .returned (.tuple #[.string S, .int .i64 0]) ∧ Below W.heap.size W w')))
 have a0 := as_sized_octet
 have a1 := as_sized_short
 have a2 := as_sized_number
 have a3 := as_sized_words
 have b0 := as_sized
 clear h hS
 go_enter Tryz.func63, Tryz.ntmps63
 go_wp2_with (go_at_call 93; refine (HC.out _).mono ?_; rintro e w1 ⟨rfl, hb⟩)
 go_ret2
 exact ⟨rfl, hb⟩
theorem put_sized_no (s : ByteArray) (w : World) (h : ¬ (binB s = true)) :
  Calls Tryz.prog 63 #[.iface 139 (.string s)] w (Wrong w) := by
 have HC := Lib.hid (fun (W : World) => (Bin_no s W (by simpa using h) : Calls Tryz.prog 93 #[.string s] W (Wrong W)))
 have a0 := as_sized_octet
 have a1 := as_sized_short
 have a2 := as_sized_number
 have a3 := as_sized_words
 have b0 := as_sized
 clear h
 go_enter Tryz.func63, Tryz.ntmps63
 go_wp2_with (go_at_call 93; refine (HC.out _).mono ?_; rintro e w1 ⟨S, E, rfl, hE, hb⟩; have hE2 := Lib.hid hE; clear hE)
 go_ret2
 exact ⟨S, E, rfl, hE2.out, hb⟩
theorem put_list (k : Int) (l : List P) (A : Option Addr) (c : Nat) (S : ByteArray) (E : Int) (w : World) (hm : l.length ≤ 9223372036854775807) (hcap : l.length ≤ c) (hfit : ∀ p ∈ l, Fit p) (h : PropsAt w w.heap.size A l)
  (hS : bytesStr k l = S) (hE : bytesErr k l = E) :
  Calls Tryz.prog 63 #[.iface 113 (.agg #[.int .i64 k, .slice A l.length c])] w fun e w' => e = .returned (.tuple #[.string S, .int .i64 E]) ∧ Below w.heap.size w w' := by
 have HC := Lib.hid (fun (W : World) (h : PropsAt W W.heap.size A l) => Bytes_is k l A c S E W hm hcap hfit h hS hE)
 have HP := Lib.hid (h.alloc (Nat.le_refl _) (.cells #[.int .i64 k, .slice A l.length c] 113))
 have a0 := as_list_octet
 have a1 := as_list_short
 have a2 := as_list_number
 have a3 := as_list_words
 have a4 := as_list_sized
 have b0 := as_list
 clear h hS hE hfit hm hcap
 go_enter Tryz.func63, Tryz.ntmps63
 go_wp2_with (go_at_call 94; refine (HC.out _ (HP.out.mono (by simp))).mono ?_; rintro e w1 ⟨rfl, hb⟩)
 go_ret2
 exact ⟨rfl, ((Below.refl _ _).alloc (Nat.le_refl _) _).trans (hb.mono (by simp))⟩
theorem put_raw (s : ByteArray) (w : World) :
  Calls Tryz.prog 63 #[.iface 9 (.string s)] w fun e w' => e = .returned (.tuple #[.string s, .int .i64 0]) ∧ Below w.heap.size w w' := by
 have a0 := as_string_octet
 have a1 := as_string_short
 have a2 := as_string_number
 have a3 := as_string_words
 have a4 := as_string_sized
 have a5 := as_string_list
 have b0 := to_string
 go_enter Tryz.func63, Tryz.ntmps63
 go_wp2_with fail
 go_ret2
 exact ⟨rfl, (Below.refl _ _).alloc (Nat.le_refl _) _⟩
theorem put_part_yes (v : Value) (x : Part) (S : ByteArray) (w : World) (h : PV w w.heap.size v x) (hx : x.okB = true) (hS : x.str = S) :
  Calls Tryz.prog 63 #[v] w fun e w' => e = .returned (.tuple #[.string S, .int .i64 0]) ∧ Below w.heap.size w w' := by
 cases x with
 | octet n => obtain rfl := h; exact put_octet_yes n S w (of_decide_eq_true hx) hS
 | short n => obtain ⟨rfl, hn⟩ := h; exact put_short_yes n S w (of_decide_eq_true hx) hS
 | number n => obtain ⟨rfl, hn⟩ := h; exact put_number_yes n S w (of_decide_eq_true hx) hS
 | words s => obtain ⟨rfl, hn⟩ := h; exact put_words_yes s S (by omega) w hx hS
 | sized s => obtain ⟨rfl, hn⟩ := h; exact put_sized_yes s S w hx hS
 | props k l =>
  obtain ⟨A, c, rfl, h2, h3, h4, h5⟩ := h
  have hp : propsB k l = true := hx
  exact put_list k l A c S 0 w h3 h4 h5 h2 ((bytes_yes hp).1.trans hS) (bytes_yes hp).2
 | raw s => obtain ⟨rfl, hn⟩ := h; obtain rfl : s = S := hS; exact put_raw s w
theorem put_part_no (v : Value) (x : Part) (w : World) (h : PV w w.heap.size v x) (hx : x.okB = false) :
  Calls Tryz.prog 63 #[v] w (Wrong w) := by
 cases x with
 | octet n => obtain rfl := h; exact put_octet_no n w (of_decide_eq_false hx)
 | short n => obtain ⟨rfl, hn⟩ := h; exact put_short_no n hn w (of_decide_eq_false hx)
 | number n => obtain ⟨rfl, hn⟩ := h; exact put_number_no n hn w (of_decide_eq_false hx)
 | words s => obtain ⟨rfl, hn⟩ := h; exact put_words_no s (by omega) w (by rw [show textB s = false from hx]; decide)
 | sized s => obtain ⟨rfl, hn⟩ := h; exact put_sized_no s w (by rw [show binB s = false from hx]; decide)
 | props k l =>
  obtain ⟨A, c, rfl, h2, h3, h4, h5⟩ := h
  have hp : propsB k l = false := hx
  exact (put_list k l A c _ 1 w h3 h4 h5 h2 (bytes_no hp).1 (bytes_no hp).2).mono fun _ _ ⟨h1, h2⟩ => ⟨_, _, h1, by decide, h2⟩
 | raw s => cases hx
open Go.RowKit Go.Lib Prp Pkt Vbi Txt
section
variable {W W' : World} {B B' C : Nat} {A : Option Addr} {vs : List Value} {l : List Part}
theorem PartsAt.weak {C' : Nat} (h : PartsAt W B C' A l) (hC : C' ≤ C) (hB : B ≤ B') : PartsAt W B' C A l := by
 obtain ⟨vs, h1, h2, h3⟩ := h
 exact ⟨vs, h1, h2.mono hB, fun j x y => (h3 j x y).mono hC⟩
end
theorem ok_step {l : List Part} {k : Nat} (hk : k < l.length) : allOk (l.drop k) = (l[k].okB && allOk (l.drop (k + 1))) := by rw [List.drop_eq_getElem_cons hk]; rfl
theorem str_step {l : List Part} {k : Nat} (hk : k < l.length) : allStr (l.take (k + 1)) = allStr (l.take k) ++ l[k].str := by rw [List.take_succ_eq_append_getElem hk, allStr_snoc]
def Short (x : Part) : Prop := ∀ s, x = .raw s → s.size ≤ 1024
theorem part_size {x : Part} (h : x.okB = true) (hr : Short x) : x.str.size ≤ 16428 := by
 cases x with
 | octet n => show (strOfNums [n]).size ≤ _; rw [strOfNums_size]; simp
 | short n => show (fxStr n).size ≤ _; rw [fxStr_size]; omega
 | number n => show (fxStr n).size ≤ _; rw [fxStr_size]; omega
 | words s => show (lgStr s).size ≤ _; rw [lgStr_size]; have := text_size (s := s) h; omega
 | sized s => show (lgStr s).size ≤ _; rw [lgStr_size]; have : s.size ≤ 1024 := of_decide_eq_true h; omega
 | props k l => exact propStr_size (place := k) h
 | raw s => show s.size ≤ _; have := hr s rfl; omega
section
variable {w W W' : World} {A : Option Addr} {l : List Part} {b : Nat} {S T : ByteArray}
theorem PSt.write (h : PSt w A l b S W) (h1 : Built w.heap.size b T W') (hb : Below w.heap.size W W') : PSt w A l b T W' := .mk h1 (h.out.2.1.below (Nat.le_refl _) hb) (h.out.2.2.trans hb)
end
def GivesAllStr (l : List Part) (w : World) (e : Ending) (w' : World) : Prop := ∃ (S : ByteArray) (E : Int), e = .returned (.tuple #[.string S, .int .i64 E]) ∧ (allOk l = true → S = allStr l ∧ E = 0) ∧ (allOk l = false → E ≠ 0) ∧ Below w.heap.size w w'
theorem putAll_is (l : List Part) (A : Option Addr) (c : Nat) (w : World) (hm : l.length ≤ 64) (hr : ∀ x ∈ l, Short x) (h : PartsAt w w.heap.size w.heap.size A l) :
  Calls Tryz.prog 30 #[.slice A l.length c] w (GivesAllStr l w) := by
 have H := Lib.hid h
 have HR := Lib.hid hr
 clear h hr
 go_enter Tryz.func30, Tryz.ntmps30
 go_wp2_with fail
 have HB := Lib.hid (PSt.mk (w := w) (A := A) (l := l) (built_new w) (H.out.below (Nat.le_refl _) ((Below.refl _ _).alloc (Nat.le_refl _) _)) ((Below.refl _ _).alloc (Nat.le_refl _) _))
 obtain ⟨b, hb⟩ : ∃ b, w.heap.size = b := ⟨_, rfl⟩
 have hBb : PSt w A l b ⟨#[]⟩ (w.alloc (.cells #[.pointer none, .slice none 0 0] 103)) := by rw [← hb]; exact HB.out
 rw [hb]
 have HB0 := Lib.hid hBb
 clear hb hBb HB H
 go_loopw [11] (fun i wr => ∃ k : Nat, k ≤ l.length ∧ i = .int .i64 (k : Int) ∧ PSt w A l b (allStr (l.take k)) wr ∧ allOk l = allOk (l.drop k) ∧ (allStr (l.take k)).size ≤ 16428 * k) (fun i _ => l.length - (RowKit.intOf i).toNat)
 case atStart => exact ⟨0, Nat.zero_le _, rfl, HB0.out, by rw [List.drop_zero], by rw [List.take_zero]; decide⟩
 case round =>
  obtain ⟨k, hk, rfl, hst, hok, hsz⟩ := hrel
  have HT := Lib.hid hst
  have HO := Lib.hid hok
  have HZ := Lib.hid hsz
  clear hst hok hsz HB0
  by_cases hlt : k < l.length
  ·have HS := Lib.hid (str_step hlt)
   have HN := Lib.hid (HO.out.trans (ok_step hlt))
   have hsh := HR.out _ (List.getElem_mem hlt)
   obtain ⟨a, v, hA, hab, hc, hpv⟩ := HT.out.out.2.1.at k hlt
   obtain ⟨x, hx⟩ : ∃ x, l[k] = x := ⟨_, rfl⟩
   rw [hx] at HS HN hsh hpv
   obtain ⟨T, hT⟩ : ∃ T, allStr (l.take k) = T := ⟨_, rfl⟩
   rw [hT] at HT HS HZ
   have hkI : (k : Int) < (l.length : Int) := by omega
   have HA := Lib.hid hA
   have HPV := Lib.hid (hpv.mono HT.out.out.2.2.size)
   have hTz : T.size ≤ 1051392 := by have := HZ.out; omega
   clear hx hT hab hpv hA HO
   rw [HA.out]
   cases hb : x.okB with
   | false =>
    have HF : Hid (allOk l = false) := HN.out.trans (by rw [hb]; rfl)
    have HP := Lib.hid (fun (W : World) (h : PV W W.heap.size v x) => put_part_no v x W h hb)
    clear hb HN hsh
    go_wp2_with (go_at_call 63; refine (HP.out _ HPV.out).mono ?_; rintro e w1 ⟨S, E, rfl, hE, hb1⟩; have HE := Lib.hid hE; have hEb := ne_true hE; clear hE)
    go_ret2
    exact ⟨_, E, rfl, (fun h => by rw [HF.out] at h; cases h), fun _ => HE.out, (HT.out.below hb1).out.2.2⟩
   | true =>
    obtain ⟨U, hU⟩ : ∃ U, x.str = U := ⟨_, rfl⟩
    have hUz : U.size ≤ 16428 := by rw [← hU]; exact part_size hb hsh
    have HP := Lib.hid (fun (W : World) (h : PV W W.heap.size v x) => put_part_yes v x U W h hb hU)
    have HN2 : Hid (allOk l = allOk (l.drop (k + 1))) := HN.out.trans (by rw [hb]; rfl)
    have HS2 : Hid (allStr (l.take (k + 1)) = T ++ U) := by rw [← hU]; exact HS.out
    clear hb hU HN HS hsh
    go_wp2_with (first | (go_at_call 63; refine (HP.out _ HPV.out).mono ?_; rintro e w1 ⟨rfl, hb1⟩; have HT1 := Lib.hid (HT.out.below hb1); clear hb1) | (go_at_call 64; refine (WriteString_is w.heap.size b T U _ HT1.out.out.1 (by omega) HT1.out.out.2.2.size).mono ?_; rintro e w3 ⟨⟨z, rfl⟩, hbu, hb3⟩))
    have HT3 := Lib.hid (HT1.out.write hbu hb3)
    clear hbu hb3 HT1 HP HPV
    go_roundw
    case rel => exact ⟨k + 1, hlt, by go_num, by rw [HS2.out]; have ht := HT3.out; rw [HA.out] at ht; exact ht, HN2.out, by rw [HS2.out, ByteArray.size_append]; have := HZ.out; omega⟩
    case measure => simp [RowKit.intOf]; omega
  ·obtain rfl : k = l.length := by omega
   have HF : Hid (allOk l = true) := by show _ = _; rw [HO.out, List.drop_length]; rfl
   rw [List.take_length] at HT HZ
   obtain ⟨T, hT⟩ : ∃ T, allStr l = T := ⟨_, rfl⟩
   have HTT := Lib.hid hT
   rw [hT] at HT HZ
   clear hT HO HZ
   go_wp2_with (go_at_call 65; refine (String_is w.heap.size b T _ HT.out.out.1 HT.out.out.2.2.size).mono ?_; rintro e w5 ⟨rfl, hb5⟩)
   go_ret2
   exact ⟨_, _, rfl, fun _ => ⟨HTT.out.symm, rfl⟩, (fun h => by rw [HF.out] at h; cases h), HT.out.out.2.2.trans hb5⟩
open Go.RowKit Go.Lib Prp Pkt Vbi Txt
def GivesParts (l : List Part) (C : Nat) (w : World) (e : Ending) (w' : World) : Prop := ∃ A c, e = .returned (.slice A l.length c) ∧ (A = none → c = 0) ∧ PartsAt w' w'.heap.size C A l ∧ Below w.heap.size w w'
theorem info_any : (Tryz.prog.info? 20).map (fun i => (i.zero, i.size, i.bytes)) = some (some .nilIface, 1, 16) := by kernel_rfl
section
variable {W W' : World} {base C B : Nat} {v : Value} {l : List Part}
theorem row_own {w : World} {base e : Nat} {v : Value} {n : Nat} {vs : List Value} (h : w.ownsRow base e 1 v n vs) (hn : vs.length = n) : ∃ A c, v = .slice A n c ∧ (A = none → c = 0) ∧ Row w w.heap.size A vs := by
 rcases h.2 with ⟨hv, h0⟩ | ⟨g, cap, cur, hv, _, hg, _⟩
 ·exact ⟨none, 0, by rw [hv, h0], fun _ => rfl, .inl (List.eq_nil_of_length_eq_zero (by omega))⟩
 ·refine ⟨_, cap, hv, (fun h => by cases h), .inr ⟨_, rfl, (Array.getElem?_eq_some_iff.1 hg).1, fun j hj => ?_⟩⟩
  exact h.cells (by rw [hv]; rfl) j _ (List.getElem?_eq_getElem hj)
theorem OwnParts.gives {w : World} (h : OwnParts W base C v l) (hb : Below w.heap.size w W) : GivesParts l C w (.returned v) W := by
 obtain ⟨vs, h1, h2, h3⟩ := h
 obtain ⟨A, c, rfl, hc, hr⟩ := row_own h2 h1
 exact ⟨A, c, rfl, hc, ⟨vs, h1, hr, h3⟩, hb⟩
theorem lit_row (w : World) (vs : List Value) (T : TypeId) : Row (w.alloc (.cells vs.toArray T)) (w.heap.size + 1) (some ⟨w.heap.size, 0, none⟩) vs := by
 refine .inr ⟨_, rfl, by simp, fun j hj => ?_⟩
 rw [add_new, cell_of_row (w.alloc _) w.heap.size j _ _ (0, 0) (heap_alloc_new w _)]
 simp
theorem lit_parts (w : World) (C : Nat) (vs : List Value) (l : List Part) (n : Nat) (T : TypeId) (hC : C ≤ w.heap.size) (hn : n = l.length) (hl : vs.length = l.length) (h : ∀ j (_ : j < vs.length) (_ : j < l.length), PV w C vs[j] l[j]) :
  ∃ A c, Value.slice (some ⟨w.heap.size, 0, none⟩) n n = .slice A l.length c ∧ (A = none → c = 0) ∧ PartsAt (w.alloc (.cells vs.toArray T)) (w.alloc (.cells vs.toArray T)).heap.size C A l := by
 subst hn
 refine ⟨_, _, rfl, (fun h => by cases h), vs, hl, (lit_row w vs T).mono (by simp), fun j x y => (h j x y).below ((Below.refl _ _).alloc hC _)⟩
end
theorem own_add {W : World} {base C : Nat} {v' : Value} {l : List Part} {vs ws : List Value} {m : List Part} (h1 : vs.length = l.length) (h2 : ws.length = m.length) (ho : W.ownsRow base 20 1 v' (l.length + m.length) (vs ++ ws))
  (h3 : ∀ j (_ : j < vs.length) (_ : j < l.length), PV W C vs[j] l[j]) (h4 : ∀ j (_ : j < ws.length) (_ : j < m.length), PV W C ws[j] m[j]) : OwnParts W base C v' (l ++ m) := by
 refine ⟨vs ++ ws, by simp [h1, h2], by rw [List.length_append]; exact ho, fun j x y => ?_⟩
 by_cases hj : j < vs.length
 ·rw [List.getElem_append_left hj, List.getElem_append_left (by omega)]
  exact h3 j hj (by omega)
 ·rw [List.getElem_append_right (by omega), List.getElem_append_right (by omega)]
  have e : j - vs.length = j - l.length := by omega
  simp only [e]
  rw [List.length_append] at x y
  exact h4 (j - l.length) (by omega) (by omega)
theorem reasonParts_is (p : Pk) (a : Ad) (C : Nat) (w : World) (hC : C ≤ w.heap.size) (hf : PkFit p a) (h : PkAt w C p a) :
  Calls Tryz.prog 68 #[.agg (pkArr p a)] w (GivesParts (reasonL p) C w) := by
 have HC := Lib.hid hC
 have HP : Hid (PV w C (.iface 113 (.agg #[.int .i64 p.kind, .slice a.pa p.ps.length a.pc])) (.props p.kind p.ps)) := ⟨a.pa, a.pc, rfl, h.ps, hf.pl1.1, hf.pl1.2, hf.ps⟩
 clear h hf hC
 have HK0 := Keep.new w 30 (pkArr p a)
 obtain ⟨W1, hW⟩ : ∃ W1, w.alloc (.cells (pkArr p a) 30) = W1 := ⟨_, rfl⟩
 rw [hW] at HK0
 unfold pkArr at hW ⊢
 have HW := Lib.hid hW
 clear hW
 go_enter Tryz.func68, Tryz.ntmps68
 go_upto_region 1 with fail
 rw [HW.out]
 generalize Value.agg _ = v0
 obtain ⟨g, hg⟩ : ∃ g, w.heap.size = g := ⟨_, rfl⟩
 rw [hg] at HK0 ⊢
 have HK := Lib.hid HK0
 clear HW HK0
 have c0 := HK.out.f0
 have c7 := HK.out.f7
 have c24 := HK.out.f24
 by_cases hp : 0 < p.ps.length
 ·have hL : reasonL p = [.octet p.re, .props p.kind p.ps] := by unfold reasonL; rw [if_pos (List.length_pos_iff.1 hp)]
  have hpI : decide ((0 : Int) < (p.ps.length : Int)) = true := decide_eq_true (by omega)
  have HL := Lib.hid hL
  clear hL
  go_wp2_with fail
  go_ret
  obtain ⟨A, c, hv, hcc, hpa⟩ := lit_parts W1 C [.iface 110 (.int .i64 p.re), .iface 113 (.agg #[.int .i64 p.kind, .slice a.pa p.ps.length a.pc])] [.octet p.re, .props p.kind p.ps] 2 20 (Nat.le_trans HC.out HK.out.out.2.size) rfl rfl (fun j x y => by
   match j, x, y with
   | 0, _, _ => rfl
   | 1, _, _ => exact PV.below HP.out (HK.out.out.2.mono HC.out))
  rw [HL.out]
  exact ⟨A, c, congrArg Ending.returned hv, hcc, hpa, HK.out.out.2.trans ((Below.refl _ _).alloc HK.out.out.2.size _)⟩
 have h0 : p.ps = [] := List.eq_nil_of_length_eq_zero (by omega)
 have hpI : decide ((0 : Int) < (p.ps.length : Int)) = false := decide_eq_false (by omega)
 by_cases hr : p.re = 0
 ·have HL : Hid (reasonL p = []) := by show _ = _; unfold reasonL; rw [if_neg (by rw [h0]; simp), if_neg (by omega)]
  have e0 : (p.re != 0) = false := by rw [hr]; rfl
  clear hr h0
  go_wp2_with fail
  go_ret
  rw [HL.out]
  exact ⟨none, 0, rfl, fun _ => rfl, ⟨[], rfl, .inl rfl, fun j h => by simp at h⟩, HK.out.out.2⟩
 ·have HL : Hid (reasonL p = [.octet p.re]) := by show _ = _; unfold reasonL; rw [if_neg (by rw [h0]; simp), if_pos hr]
  have e0 : (p.re != 0) = true := ne_true hr
  clear hr h0
  go_wp2_with fail
  go_ret
  obtain ⟨A, c, hv, hcc, hpa⟩ := lit_parts W1 C [.iface 110 (.int .i64 p.re)] [.octet p.re] 1 20 (Nat.le_trans HC.out HK.out.out.2.size) rfl rfl (fun j x y => by
   match j, x, y with
   | 0, _, _ => rfl)
  rw [HL.out]
  exact ⟨A, c, congrArg Ending.returned hv, hcc, hpa, HK.out.out.2.trans ((Below.refl _ _).alloc HK.out.out.2.size _)⟩
end Go.Proofs.YtdbbcfohjkgdcaaGreat
