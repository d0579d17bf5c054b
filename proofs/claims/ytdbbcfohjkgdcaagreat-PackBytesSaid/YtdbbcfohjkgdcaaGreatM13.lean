/- A chain of guarded comparisons: block by block, whatever the frame holds besides. No program. -/
import Derived.Test.YtdbbcfohjkgdcaaGreatM00
import Derived.Test.YtdbbcfohjkgdcaaGreatM10
import Derived.Test.YtdbbcfohjkgdcaaGreatM12
set_option maxRecDepth 100000
set_option maxHeartbeats 64000000
namespace Go.Proofs.YtdbbcfohjkgdcaaGreat
open Go.RowKit Go.Lib Prp Pkt
theorem EqNumbers_same (l : List Int) (A A' : Option Addr) (c c' B B' : Nat) (w : World) (hm : l.length ≤ 9223372036854775807) (h : Nums w B .i64 A l) (h' : Nums w B' .i64 A' l) :
  Calls Tryz.prog 43 #[.slice A l.length c, .slice A' l.length c'] w fun e w' => e = .returned (.bool true) ∧ ∃ n, w' = w.drewN n := by
 have H := Lib.hid h
 have H' := Lib.hid h'
 clear h h'
 go_enter Tryz.func43, Tryz.ntmps43
 go_wp2_with fail
 go_loopw [5] (fun i wr => ∃ k n : Nat, k ≤ l.length ∧ i = .int .i64 (k : Int) ∧ wr = w.drewN n) (fun i _ => l.length - (RowKit.intOf i).toNat)
 case atStart => exact ⟨0, 0, Nat.zero_le _, rfl, rfl⟩
 case round =>
  obtain ⟨k, n, hk, rfl, rfl⟩ := hrel
  by_cases hlt : k < l.length
  ·obtain ⟨a, rfl, _, hc⟩ := H.out.some_ (by omega)
   obtain ⟨a', rfl, _, hc'⟩ := H'.out.some_ (by omega)
   have h1 := hc k hlt
   have h2 := hc' k hlt
   clear hc hc' H H'
   obtain ⟨x, hx⟩ : ∃ x, l.getD k 0 = x := ⟨_, rfl⟩
   rw [hx] at h1 h2
   clear hx
   have hkI : (k : Int) < (l.length : Int) := by omega
   go_wp2
   go_quiet (fail)
   go_wp2
   go_roundw
   case rel => exact ⟨k + 1, _, hlt, by go_num, rfl⟩
   case measure => simp [RowKit.intOf]; omega
  ·go_wp2
   go_ret
   exact ⟨rfl, n, rfl⟩
theorem neq_fil (f : Fl) (w : World) : (binOp .neq 75 (.agg #[.string f.t, .int .i64 f.q, .bool f.nl, .bool f.ar, .int .i64 f.h]) (.agg #[.string f.t, .int .i64 f.q, .bool f.nl, .bool f.ar, .int .i64 f.h])).run Tryz.prog w = .ok (.bool false) w := by
 rw [run_neq_struct]
 go_simp
theorem EqFilters_same (l : List Fl) (A A' : Option Addr) (c c' B B' : Nat) (w : World) (hm : l.length ≤ 9223372036854775807) (h : FilsAt w B A l) (h' : FilsAt w B' A' l) :
  Calls Tryz.prog 44 #[.slice A l.length c, .slice A' l.length c'] w fun e w' => e = .returned (.bool true) ∧ ∃ n, w' = w.drewN n := by
 have H := Lib.hid h
 have H' := Lib.hid h'
 clear h h'
 go_enter Tryz.func44, Tryz.ntmps44
 go_wp2_with fail
 go_loopw [5] (fun i wr => ∃ k n : Nat, k ≤ l.length ∧ i = .int .i64 (k : Int) ∧ wr = w.drewN n) (fun i _ => l.length - (RowKit.intOf i).toNat)
 case atStart => exact ⟨0, 0, Nat.zero_le _, rfl, rfl⟩
 case round =>
  obtain ⟨k, n, hk, rfl, rfl⟩ := hrel
  by_cases hlt : k < l.length
  ·obtain ⟨b, o, rfl, _, hc⟩ := H.out.some_ (by omega)
   obtain ⟨b', o', rfl, _, hc'⟩ := H'.out.some_ (by omega)
   have h1 := hc k hlt
   have h2 := hc' k hlt
   clear hc hc' H H'
   obtain ⟨f, hf⟩ : ∃ f, l[k] = f := ⟨_, rfl⟩
   rw [hf] at h1 h2
   clear hf
   obtain ⟨c0, c1, c2, c3, c4⟩ := h1
   obtain ⟨d0, d1, d2, d3, d4⟩ := h2
   have hkI : (k : Int) < (l.length : Int) := by omega
   have hne := neq_fil f
   go_wp2
   go_quiet (fail)
   go_wp2
   go_roundw
   case rel => exact ⟨k + 1, _, hlt, by go_num, rfl⟩
   case measure => simp [RowKit.intOf]; omega
  ·go_wp2
   go_ret
   exact ⟨rfl, n, rfl⟩
open Go.RowKit Go.Lib Prp Pkt Vbi Txt
def inB (n m : Int) : Bool := decide (0 ≤ n ∧ n ≤ m)
theorem ZNum_is (n m : Int) (b : Bool) (w : World) (hb : inB n m = b) :
  Calls Tryz.prog 34 #[.int .i64 n, .int .i64 m] w fun e w' => e = .returned (.bool b) ∧ w = w' := by
 subst hb
 go_enter Tryz.func34, Tryz.ntmps34
 go_wp2
 all_goals (go_ret; refine ⟨ret_bool ?_, rfl⟩; unfold inB; first | exact dec_false (by omega) | exact dec_dec (by omega) | exact dec_true (by omega))
def idB (n : Int) : Bool := decide (1 ≤ n ∧ n ≤ 65535)
theorem rid_is (n : Int) (b : Bool) (w : World) (hb : idB n = b) :
  Calls Tryz.prog 38 #[.int .i64 n] w fun e w' => e = .returned (.bool b) ∧ w = w' := by
 subst hb
 go_enter Tryz.func38, Tryz.ntmps38
 go_wp2
 all_goals (go_ret; refine ⟨ret_bool ?_, rfl⟩; unfold idB; first | exact dec_false (by omega) | exact dec_dec (by omega) | exact dec_true (by omega))
theorem rtext_is (s : ByteArray) (b : Bool) (w : World) (hb : textB s = b) :
  Calls Tryz.prog 36 #[.string s] w fun e w' => e = .returned (.bool b) ∧ w = w' := by
 obtain ⟨E, hE⟩ : ∃ E, textErr s.data.toList = E := ⟨_, rfl⟩
 have HT := Lib.hid (fun W => RText_eq s E W hE)
 have HB : Hid (b = (E == 0)) := by
  show _ = _
  rw [← hb]
  unfold textB loErr
  rw [if_pos rfl, hE]
  rfl
 clear hb hE
 go_enter Tryz.func36, Tryz.ntmps36
 go_wp2_with (go_at_call 75; refine (HT.out _).mono ?_; rintro e w' ⟨rfl, rfl⟩)
 go_ret
 exact ⟨by rw [HB.out]; rfl, rfl⟩
theorem rbit_is (b : Bool) (R : Int) (w : World) (hR : bitZ b 1 = R) :
  Calls Tryz.prog 77 #[.bool b] w fun e w' => e = .returned (.int .i64 R) ∧ w = w' := by
 cases b with
 | true =>
  obtain rfl : 1 = R := hR
  go_enter Tryz.func77, Tryz.ntmps77
  go_wp2
  go_ret
  exact ⟨rfl, rfl⟩
 | false =>
  obtain rfl : 0 = R := hR
  go_enter Tryz.func77, Tryz.ntmps77
  go_wp2
  go_ret
  exact ⟨rfl, rfl⟩
theorem rbit_same (b : Bool) (w : World) : Calls Tryz.prog 77 #[.bool b] w fun e w' => e = .returned (.int .i64 (bitZ b 1)) ∧ w' = w :=
 (rbit_is b _ w rfl).mono fun _ _ ⟨h, h2⟩ => ⟨h, h2.symm⟩
theorem one_is (n : Int) (S : ByteArray) (w : World) (h0 : 0 ≤ n) (h1 : n ≤ 255) (hS : strOfNums [n] = S) :
  Calls Tryz.prog 40 #[.int .i64 n] w fun e w' => e = .returned (.string S) ∧ Below w.heap.size w w' := by
 have HS := Lib.hid hS
 clear hS
 have hcv := conv_byte n
 have hz : IntKind.u8.wrap n = n := by unfold IntKind.wrap; simp [IntKind.bits, IntKind.signed]; omega
 go_enter Tryz.func40, Tryz.ntmps40
 go_wp2_with fail
 go_ret
 exact ⟨by rw [← HS.out]; rfl, (Below.refl _ _).alloc (Nat.le_refl _) _⟩
theorem long_is (s S : ByteArray) (w : World) (hs : s.size < 65536) (hS : lgStr s = S) :
  Calls Tryz.prog 76 #[.string s] w fun e w' => e = .returned (.string S) ∧ Below w.heap.size w w' := by
 obtain ⟨T, hT⟩ : ∃ T, strOfNums (fixZ 2 s.size) = T := ⟨_, rfl⟩
 have hz : T.size ≤ 2 := by rw [← hT, fix2_size]; omega
 have HF := Lib.hid (fun W => RFixed_two s.size T W hs hT)
 have HS : Hid (S = T ++ s) := by show _ = _; rw [← hS, ← hT]; rfl
 clear hS hT
 go_enter Tryz.func76, Tryz.ntmps76
 go_wp2_with (go_at_call 78; refine (HF.out _).mono ?_; rintro e w1 ⟨rfl, hb⟩)
 go_ret
 exact ⟨by rw [HS.out]; rfl, hb⟩
def rflagsZ (p : Pk) : Int := if p.kind = 3 then 8 * bitZ p.dup 1 + 2 * p.q + bitZ p.ret 1 else if p.kind = 6 ∨ p.kind = 8 ∨ p.kind = 10 then 2 else 0
theorem rflags_is (p : Pk) (a : Ad) (R : Int) (w : World) (h0 : 0 ≤ p.q) (h3 : p.q ≤ 3) (hR : rflagsZ p = R) :
  Calls Tryz.prog 41 #[.agg (pkArr p a)] w fun e w' => e = .returned (.int .i64 R) ∧ Below w.heap.size w w' := by
 have HR := Lib.hid hR
 clear hR
 have r1 := bit_range p.dup (n := 1) (by omega)
 have r2 := bit_range p.ret (n := 1) (by omega)
 have z0 : IntKind.i64.wrap (8 * bitZ p.dup 1) = 8 * bitZ p.dup 1 := IntWalk.i64_in _ (by omega)
 have z1 : IntKind.i64.wrap (2 * p.q) = 2 * p.q := IntWalk.i64_in _ (by omega)
 have z2 : IntKind.i64.wrap (8 * bitZ p.dup 1 + 2 * p.q) = 8 * bitZ p.dup 1 + 2 * p.q := IntWalk.i64_in _ (by omega)
 have z3 : IntKind.i64.wrap (8 * bitZ p.dup 1 + 2 * p.q + bitZ p.ret 1) = 8 * bitZ p.dup 1 + 2 * p.q + bitZ p.ret 1 := IntWalk.i64_in _ (by omega)
 have HK0 := Keep.new w 30 (pkArr p a)
 obtain ⟨W1, hW⟩ : ∃ W1, w.alloc (.cells (pkArr p a) 30) = W1 := ⟨_, rfl⟩
 rw [hW] at HK0
 unfold pkArr at hW ⊢
 have HW := Lib.hid hW
 clear hW
 go_enter Tryz.func41, Tryz.ntmps41
 go_upto_region 1 with fail
 rw [HW.out]
 generalize Value.agg _ = v0
 obtain ⟨g, hg⟩ : ∃ g, w.heap.size = g := ⟨_, rfl⟩
 rw [hg] at HK0 ⊢
 have HK := Lib.hid HK0
 clear HW HK0
 have c0 := HK.out.f0
 have c1 := HK.out.f1
 have c2 := HK.out.f2
 have c3 := HK.out.f3
 by_cases hk3 : p.kind = 3
 ·have HS : Hid (R = 8 * bitZ p.dup 1 + 2 * p.q + bitZ p.ret 1) := by show _ = _; rw [← HR.out]; unfold rflagsZ; rw [if_pos hk3]
  have e3 : (p.kind == 3) = true := beq_iff_eq.2 hk3
  clear hk3 r1 r2
  go_wp2_with fail
  go_quiet ((go_at_call 77; exact Calls.quiet_of_same (rbit_same _ _)))
  go_wp2_with fail
  go_ret
  exact ⟨by rw [HS.out]; rfl, below_drewN HK.out.out.2 _⟩
 have e3 : (p.kind == 3) = false := ne_false hk3
 clear z0 z1 z2 z3 r1 r2
 by_cases hk : p.kind = 6 ∨ p.kind = 8 ∨ p.kind = 10
 ·have HS : Hid (R = 2) := by show _ = _; rw [← HR.out]; unfold rflagsZ; rw [if_neg hk3, if_pos hk]
  clear hk3
  rcases hk with hk | hk | hk
  all_goals
   rw [hk] at c0 e3
   clear hk
   go_wp2
   go_ret
   exact ⟨by rw [HS.out]; rfl, HK.out.out.2⟩
 ·have HS : Hid (R = 0) := by show _ = _; rw [← HR.out]; unfold rflagsZ; rw [if_neg hk3, if_neg hk]
  have k6 : (p.kind == 6) = false := ne_false (by omega)
  have k8 : (p.kind == 8) = false := ne_false (by omega)
  have k10 : (p.kind == 10) = false := ne_false (by omega)
  clear hk hk3
  go_wp2_with fail
  go_ret
  exact ⟨by rw [HS.out]; rfl, HK.out.out.2⟩
open Go.RowKit Go.Lib Prp Pkt Vbi
def goodP (p : Pk) : Bool := mayP p && allOk (partsL p)
theorem pack_good (p : Pk) : packB p = (goodP p && decide ((strP p).size ≤ 8192)) := by unfold packB goodP; rw [Bool.and_assoc]
theorem goodL_all {place : Int} {a l : List P} (h : goodL place a l = true) : ∀ p ∈ l, kindZ p.id ≠ 0 ∧ valB (kindZ p.id) p = true := by
 induction l generalizing a with
 | nil => intro p hp; cases hp
 | cons x t ih =>
  unfold goodL at h
  rw [Bool.and_eq_true] at h
  intro p hp
  rcases List.mem_cons.1 hp with rfl | hp
  ·have h1 := h.1
   unfold goodB fitsB at h1
   simp only [Bool.and_eq_true, decide_eq_true_eq] at h1
   exact ⟨h1.2.1.1, h1.2.1.2.2⟩
  ·exact ih h.2 p hp
theorem props_all {place : Int} {l : List P} (h : propsB place l = true) : l.length ≤ 8 ∧ ∀ p ∈ l, kindZ p.id ≠ 0 ∧ valB (kindZ p.id) p = true := by
 unfold propsB at h
 simp only [Bool.and_eq_true, decide_eq_true_eq] at h
 exact ⟨h.2.1, goodL_all h.2.2⟩
theorem restStr_size {l : List P} (h : ∀ p ∈ l, kindZ p.id ≠ 0 ∧ valB (kindZ p.id) p = true) : (restStr l).size ≤ 2053 * l.length := by
 have key : ∀ (l : List P) (s : ByteArray), (∀ p ∈ l, kindZ p.id ≠ 0 ∧ valB (kindZ p.id) p = true) → (l.foldl (fun a p => a ++ oneStr p) s).size ≤ s.size + 2053 * l.length := by
  intro l
  induction l with
  | nil => intro s _; simp
  | cons x t ih =>
   intro s hx
   have h1 := hx x (by simp)
   have h2 := ih (s ++ oneStr x) (fun p hp => hx p (by simp [hp]))
   have h3 : (oneStr x).size ≤ 2053 := one_size x.id x.n x.s x.v h1.1 h1.2
   rw [ByteArray.size_append] at h2
   rw [List.foldl_cons, List.length_cons]
   omega
 have := key l ⟨#[]⟩ h
 have e : (⟨#[]⟩ : ByteArray).size = 0 := rfl
 rw [e] at this
 unfold restStr
 omega
theorem propStr_size {place : Int} {l : List P} (h : propsB place l = true) : (propStr l).size ≤ 16428 := by
 obtain ⟨h1, h2⟩ := props_all h
 have h3 := restStr_size h2
 unfold propStr
 rw [ByteArray.size_append, strOfNums_size, numZ_len (by omega)]
 have := (numLen_le (restStr l).size).2
 omega
theorem PropBytes_ok (place : Int) (l : List P) (A : Option Addr) (c : Nat) (S : ByteArray) (w : World) (hp : propsB place l = true) (h : PropsAt w w.heap.size A l) (hS : propStr l = S) :
  Calls Tryz.prog 79 #[.slice A l.length c] w fun e w' => e = .returned (.string S) ∧ Below w.heap.size w w' :=
 RPropBytes_is l A c S w (props_all hp).1 (props_all hp).2 h hS
theorem lgStr_size (s : ByteArray) : (lgStr s).size = 2 + s.size := by unfold lgStr; rw [ByteArray.size_append, fix2_size]
theorem fxStr_size (n : Int) : (fxStr n).size = 2 := fix2_size _
theorem good_parts {p : Pk} (h : goodP p = true) : mayP p = true ∧ allOk (partsL p) = true := by unfold goodP at h; rwa [Bool.and_eq_true] at h
theorem parts_2 {p : Pk} (h : p.kind = 2) : partsL p = [.octet (bitZ p.pre 1), .octet p.re, .props p.kind p.ps] := by unfold partsL; rw [if_neg (by omega), if_pos h]
theorem good_2 {p : Pk} (hk : p.kind = 2) (h : goodP p = true) : (0 ≤ p.re ∧ p.re ≤ 255) ∧ propsB p.kind p.ps = true := by
 have h2 := (good_parts h).2
 rw [parts_2 hk] at h2
 unfold allOk at h2
 simp only [List.all_cons, List.all_nil, Bool.and_eq_true, Bool.and_true] at h2
 exact ⟨of_decide_eq_true h2.2.1, h2.2.2⟩
theorem rest_2p {p : Pk} (hk : p.kind = 2) : restP p = (strOfNums [bitZ p.pre 1] ++ strOfNums [p.re]) ++ propStr p.ps := by
 unfold restP
 rw [parts_2 hk]
 unfold allStr
 simp only [List.foldl_cons, List.foldl_nil, Pkt.empty_add]
 rfl
open Go.RowKit Go.Lib Prp Pkt
theorem EqNumbers_any (l l' : List Int) (A A' : Option Addr) (c c' B B' : Nat) (w : World) (hm : l.length ≤ 9223372036854775807) (hl : l' = l ∨ l' = []) (h : Nums w B .i64 A l) (h' : Nums w B' .i64 A' l') :
  Calls Tryz.prog 43 #[.slice A l.length c, .slice A' l'.length c'] w fun e w' => e = .returned (.bool (decide (l.length = l'.length))) ∧ ∃ n, w' = w.drewN n := by
 rcases hl with rfl | rfl
 ·rw [decide_eq_true rfl]
  exact EqNumbers_same _ A A' c c' B B' w hm h h'
 ·cases l with
  | nil => exact EqNumbers_same [] A A' c c' B B' w (by simp) (.inl rfl) (.inl rfl)
  | cons x t =>
   obtain ⟨L, hL⟩ : ∃ L, (x :: t).length = L := ⟨_, rfl⟩
   have hp : 0 < L := by rw [← hL]; simp
   rw [hL]
   clear hL h h' hm
   rw [decide_eq_false (show ¬ L = ([] : List Int).length by simp; omega)]
   have hI : ¬ (L : Int) = 0 := by omega
   go_enter Tryz.func43, Tryz.ntmps43
   go_wp2_with fail
   go_ret
   exact ⟨rfl, 0, rfl⟩
theorem EqFilters_any (l l' : List Fl) (A A' : Option Addr) (c c' B B' : Nat) (w : World) (hm : l.length ≤ 9223372036854775807) (hl : l' = l ∨ l' = []) (h : FilsAt w B A l) (h' : FilsAt w B' A' l') :
  Calls Tryz.prog 44 #[.slice A l.length c, .slice A' l'.length c'] w fun e w' => e = .returned (.bool (decide (l.length = l'.length))) ∧ ∃ n, w' = w.drewN n := by
 rcases hl with rfl | rfl
 ·rw [decide_eq_true rfl]
  exact EqFilters_same _ A A' c c' B B' w hm h h'
 ·cases l with
  | nil => exact EqFilters_same [] A A' c c' B B' w (by simp) (.inl rfl) (.inl rfl)
  | cons x t =>
   obtain ⟨L, hL⟩ : ∃ L, (x :: t).length = L := ⟨_, rfl⟩
   have hp : 0 < L := by rw [← hL]; simp
   rw [hL]
   clear hL h h' hm
   rw [decide_eq_false (show ¬ L = ([] : List Fl).length by simp; omega)]
   have hI : ¬ (L : Int) = 0 := by omega
   go_enter Tryz.func44, Tryz.ntmps44
   go_wp2_with fail
   go_ret
   exact ⟨rfl, 0, rfl⟩
theorem EqProps_any (l l' : List P) (A A' : Option Addr) (c c' B B' : Nat) (w : World) (hm : l.length ≤ 9223372036854775807) (hl : l' = l ∨ l' = []) (h : PropsAt w B A l) (h' : PropsAt w B' A' l') :
  Calls Tryz.prog 45 #[.slice A l.length c, .slice A' l'.length c'] w fun e w' => e = .returned (.bool (decide (l.length = l'.length))) ∧ ∃ n, w' = w.drewN n := by
 rcases hl with rfl | rfl
 ·rw [decide_eq_true rfl]
  exact EqProps_same _ A A' c c' B B' w hm h h'
 ·cases l with
  | nil => exact EqProps_same [] A A' c c' B B' w (by simp) (.inl rfl) (.inl rfl)
  | cons x t =>
   obtain ⟨L, hL⟩ : ∃ L, (x :: t).length = L := ⟨_, rfl⟩
   have hp : 0 < L := by rw [← hL]; simp
   rw [hL]
   clear hL h h' hm
   rw [decide_eq_false (show ¬ L = ([] : List P).length by simp; omega)]
   have hI : ¬ (L : Int) = 0 := by omega
   go_enter Tryz.func45, Tryz.ntmps45
   go_wp2_with fail
   go_ret
   exact ⟨rfl, 0, rfl⟩
open Go.RowKit Go.Lib Prp Pkt
def eqW (x y : Wl) : Bool := decide (x.has = y.has) && (decide (x.q = y.q) && (decide (x.ret = y.ret) && (decide (x.t = y.t) && (decide (x.b = y.b) && decide (x.ps.length = y.ps.length)))))
theorem EqWill_is (x y : Wl) (A A' : Option Addr) (c c' B B' : Nat) (w : World) (hm : x.ps.length ≤ 9223372036854775807) (hl : y.ps = x.ps ∨ y.ps = []) (hB : B ≤ w.heap.size) (hB' : B' ≤ w.heap.size) (h : PropsAt w B A x.ps) (h' : PropsAt w B' A' y.ps) :
  Calls Tryz.prog 37 #[.agg (wlArr x A c), .agg (wlArr y A' c')] w fun e w' => e = .returned (.bool (eqW x y)) ∧ Below w.heap.size w w' := by
 have HC := Lib.hid (fun (o o' : Obj) => EqProps_any x.ps y.ps A A' c c' B B' ((w.alloc o).alloc o') hm hl (h.below (((Below.refl _ _).alloc hB _).alloc (Nat.le_trans hB (by simp)) _)) (h'.below (((Below.refl _ _).alloc hB' _).alloc (Nat.le_trans hB' (by simp)) _)))
 have hb := fun (n : Nat) (o o' : Obj) => below_drewN (((Below.refl w.heap.size w).alloc (Nat.le_refl _) o).alloc (by simp) o') n
 have HB := Lib.hid hb
 have hb0 := fun (o o' : Obj) => ((Below.refl w.heap.size w).alloc (Nat.le_refl _) o).alloc (by simp) o'
 have HB0 := Lib.hid hb0
 obtain ⟨r, hr⟩ : ∃ r, eqW x y = r := ⟨_, rfl⟩
 rw [hr]
 have HR := Lib.hid hr
 clear h h' hb hb0 hB hB' hm hl hr
 obtain ⟨has, q, ret, t, b, ps⟩ := x
 obtain ⟨has', q', ret', t', b', ps'⟩ := y
 unfold wlArr
 go_enter Tryz.func37, Tryz.ntmps37
 go_wp2_with (go_at_call 45; refine (HC.out _ _).mono ?_; rintro e w1 ⟨rfl, n, rfl⟩)
 all_goals (go_ret; refine ⟨?_, by first | exact HB.out _ _ _ | exact HB0.out _ _⟩; rw [← HR.out]; try simp only [toList_eq_iff] at *)
 all_goals (unfold eqW; simp [*])
open Go.RowKit Go.Lib
structure Ch (n : Nat) (x y : Value) (a : Act) (k : Nat) (b : Bool) : Prop where
 sz : a.tmps.size = n
 p2 : a.eval (.tmp 2) = x
 p3 : a.eval (.tmp 3) = y
 pk : a.tmps[k]? = some (.bool b)
 df : a.defers = []
section
variable {P : Program} {ops : Array Oper} {Q : Exit → Act → World → Prop} {rest : List Oper} {w : World} {a : Act} {o : Oper}
theorem put_size (d : Nat) (v : Value) : (a.put (some d) v).tmps.size = a.tmps.size := by simp [Act.put]
theorem put_get {d j : Nat} (v : Value) (h : d ≠ j) : (a.put (some d) v).tmps[j]? = a.tmps[j]? := by simp [Act.put, h]
theorem put_same {d : Nat} (v : Value) (h : d < a.tmps.size) : (a.put (some d) v).tmps[d]? = some v := by simp [Act.put, h]
theorem eval_of {j : Nat} {v : Value} (h : a.tmps[j]? = some v) : a.eval (.tmp j) = v := by simp [Act.eval, h]
theorem eval_put {d j : Nat} (v : Value) (h : d ≠ j) : (a.put (some d) v).eval (.tmp j) = a.eval (.tmp j) := by
 have := put_get (a := a) v h
 simp [Act.eval, this]
theorem eval_same {d : Nat} (v : Value) (h : d < a.tmps.size) : (a.put (some d) v).eval (.tmp d) = v := eval_of (put_same v h)
theorem wants {gi k : Nat} {b : Bool} (hg : o.guard = some (gi, true)) (hk : (ops[gi]?).bind (·.dst) = some k) (hb : a.tmps[k]? = some (.bool b)) : Region.wanted o (yielded ops a.tmps) = b := by
 unfold Region.wanted yielded
 rw [hg]
 simp only [hk, Option.bind_some, hb]
 cases b <;> rfl
theorem ch_skip {gi k : Nat} (hg : o.guard = some (gi, true)) (hk : (ops[gi]?).bind (·.dst) = some k) (hb : a.tmps[k]? = some (.bool false)) (h : wpList P ops Q rest (a.put o.dst undef) w) : wpList P ops Q (o :: rest) a w :=
 wpList_skip (wants hg hk hb) h
theorem ch_take {gi k : Nat} (hg : o.guard = some (gi, true)) (hk : (ops[gi]?).bind (·.dst) = some k) (hb : a.tmps[k]? = some (.bool true)) (h : o.wp P a w (wpList P ops Q rest) Q) : wpList P ops Q (o :: rest) a w := by
 simp only [wpList]
 rw [if_pos (wants hg hk hb)]
 exact .inl h
theorem wp_val {K : Act → World → Prop} {v : Value} (hx : (execOp a.eval o).run P w = .ok (.value v) w) (h : K (a.put o.dst v) w) : o.wp P a w K Q := by
 unfold Oper.wp
 rw [hx]
 exact h
theorem run_pick {ρ : Operand → Value} {c x y : Operand} {b : Bool} (h : o.op = .pick c x y) (hc : ρ c = .bool b) : (execOp ρ o).run P w = .ok (.value (if b = true then ρ x else ρ y)) w := by
 unfold execOp
 rw [h]
 cases b <;> simp [hc, asBool, go_sem]
theorem ch_block {n d1 d2 d3 d4 d5 d6 d7 k gi : Nat} {x y v1 u1 v3 u3 : Value} {b e : Bool} {o1 o2 o3 o4 o5 o6 o7 : Oper}
  (h : Ch n x y a k b)
  (e1 : o1.dst = some d1 ∧ o1.guard = some (gi, true)) (e2 : o2.dst = some d2 ∧ o2.guard = some (gi, true)) (e3 : o3.dst = some d3 ∧ o3.guard = some (gi, true)) (e4 : o4.dst = some d4 ∧ o4.guard = some (gi, true)) (e5 : o5.dst = some d5 ∧ o5.guard = some (gi, true))
  (e6 : o6.dst = some d6 ∧ o6.guard = none ∧ o6.op = .pick (.tmp k) (.tmp d5) (.const (.bool false))) (e7 : o7.dst = some d7 ∧ o7.guard = none ∧ (o7.op = .move (.tmp d6) ∨ o7.op = .assign (.tmp d6)))
  (hk : (ops[gi]?).bind (·.dst) = some k)
  (hd : 3 < d1 ∧ 3 < k ∧ 3 < d7 ∧ k < d1 ∧ d2 = d1 + 1 ∧ d3 = d1 + 2 ∧ d4 = d1 + 3 ∧ d5 = d1 + 4 ∧ d6 = d1 + 5 ∧ d6 < n ∧ d7 < n)
  (hx1 : ∀ a : Act, a.eval (.tmp 2) = x → (execOp a.eval o1).run P w = .ok (.value v1) w)
  (hx2 : ∀ a : Act, a.eval (.tmp d1) = v1 → (execOp a.eval o2).run P w = .ok (.value u1) w)
  (hx3 : ∀ a : Act, a.eval (.tmp 3) = y → (execOp a.eval o3).run P w = .ok (.value v3) w)
  (hx4 : ∀ a : Act, a.eval (.tmp d3) = v3 → (execOp a.eval o4).run P w = .ok (.value u3) w)
  (hx5 : ∀ (a : Act) (K : Act → World → Prop), a.eval (.tmp d2) = u1 → a.eval (.tmp d4) = u3 → (∀ w', Below w.heap.size w w' → K (a.put (some d5) (.bool e)) w') → o5.wp P a w K Q)
  (hr : ∀ (a' : Act) (w' : World), Below w.heap.size w w' → Ch n x y a' d7 (b && e) → wpList P ops Q rest a' w') : wpList P ops Q (o1 :: o2 :: o3 :: o4 :: o5 :: o6 :: o7 :: rest) a w := by
 obtain ⟨q1, q2, q3, q4, r2, r3, r4, r5, r6, r7, r8⟩ := hd
 subst r2 r3 r4 r5 r6
 have fin : ∀ (a1 : Act) (w1 : World), Below w.heap.size w w1 → a1.tmps.size = n → a1.eval (.tmp 2) = x → a1.eval (.tmp 3) = y → a1.tmps[k]? = some (.bool b) → (b = true → a1.tmps[d1 + 4]? = some (.bool e)) → a1.defers = [] → wpList P ops Q (o6 :: o7 :: rest) a1 w1 := by
  intro a1 w1 hb s1 s2 s3 s4 s5 s6
  have hv : (if b = true then a1.eval (.tmp (d1 + 4)) else a1.eval (.const (.bool false))) = .bool (b && e) := by
   cases b with
   | true => rw [if_pos rfl, eval_of (s5 rfl)]; rfl
   | false => rfl
  refine wpList_plain e6.2.1 fun K hK => wp_val (run_pick e6.2.2 (eval_of s4)) ?_
  refine hK _ _ ?_
  rw [hv, e6.1]
  have t1 := put_size (a := a1) (d1 + 5) (.bool (b && e))
  have t2 := eval_put (a := a1) (.bool (b && e)) (show d1 + 5 ≠ 2 by omega)
  have t3 := eval_put (a := a1) (.bool (b && e)) (show d1 + 5 ≠ 3 by omega)
  have t4 := eval_same (a := a1) (.bool (b && e)) (show d1 + 5 < a1.tmps.size by omega)
  have t5 : (a1.put (some (d1 + 5)) (.bool (b && e))).defers = [] := s6
  generalize a1.put (some (d1 + 5)) (.bool (b && e)) = a2 at t1 t2 t3 t4 t5 ⊢
  have go : o7.wp P a2 w1 (wpList P ops Q rest) Q := by
   have hx : (execOp a2.eval o7).run P w1 = .ok (.value (.bool (b && e))) w1 := by
    rcases e7.2.2 with h7 | h7
    ·rw [BigFrame.run_move _ h7, t4]
    ·rw [BigFrame.run_assign _ h7, t4]
   refine wp_val hx ?_
   rw [e7.1]
   refine hr _ _ hb ⟨by rw [put_size]; omega, by rw [eval_put _ (by omega), t2, s2], by rw [eval_put _ (by omega), t3, s3], put_same _ (by omega), t5⟩
  exact wpList_plain e7.2.1 fun K hK => Oper.wp_mono (fun a' w' h' => hK a' w' h') go
 cases b with
 | false =>
  have s4 := h.pk
  refine ch_skip e1.2 hk s4 ?_
  rw [e1.1]
  refine ch_skip e2.2 hk (by rw [put_get _ (by omega)]; exact s4) ?_
  rw [e2.1]
  refine ch_skip e3.2 hk (by rw [put_get _ (by omega), put_get _ (by omega)]; exact s4) ?_
  rw [e3.1]
  refine ch_skip e4.2 hk (by rw [put_get _ (by omega), put_get _ (by omega), put_get _ (by omega)]; exact s4) ?_
  rw [e4.1]
  refine ch_skip e5.2 hk (by rw [put_get _ (by omega), put_get _ (by omega), put_get _ (by omega), put_get _ (by omega)]; exact s4) ?_
  rw [e5.1]
  refine fin _ _ (Below.refl _ _) (by simp only [put_size]; exact h.sz) ?_ ?_ ?_ (fun h => by cases h) h.df
  ·rw [eval_put _ (by omega), eval_put _ (by omega), eval_put _ (by omega), eval_put _ (by omega), eval_put _ (by omega)]; exact h.p2
  ·rw [eval_put _ (by omega), eval_put _ (by omega), eval_put _ (by omega), eval_put _ (by omega), eval_put _ (by omega)]; exact h.p3
  ·rw [put_get _ (by omega), put_get _ (by omega), put_get _ (by omega), put_get _ (by omega), put_get _ (by omega)]; exact s4
 | true =>
  have s4 := h.pk
  have sz := h.sz
  refine ch_take e1.2 hk s4 (wp_val (hx1 a h.p2) ?_)
  rw [e1.1]
  refine ch_take e2.2 hk (by rw [put_get _ (by omega)]; exact s4) (wp_val (hx2 _ (eval_same _ (by omega))) ?_)
  rw [e2.1]
  refine ch_take e3.2 hk (by rw [put_get _ (by omega), put_get _ (by omega)]; exact s4) (wp_val (hx3 _ (by rw [eval_put _ (by omega), eval_put _ (by omega)]; exact h.p3)) ?_)
  rw [e3.1]
  refine ch_take e4.2 hk (by rw [put_get _ (by omega), put_get _ (by omega), put_get _ (by omega)]; exact s4) (wp_val (hx4 _ (eval_same _ (by simp only [put_size]; omega))) ?_)
  rw [e4.1]
  refine ch_take e5.2 hk (by rw [put_get _ (by omega), put_get _ (by omega), put_get _ (by omega), put_get _ (by omega)]; exact s4) (hx5 _ _ ?_ ?_ ?_)
  ·rw [eval_put _ (by omega), eval_put _ (by omega)]
   exact eval_same _ (by simp only [put_size]; omega)
  ·exact eval_same _ (by simp only [put_size]; omega)
  intro w' hb
  refine fin _ _ hb (by simp only [put_size]; exact h.sz) ?_ ?_ ?_ (fun _ => put_same _ (by simp only [put_size]; omega)) h.df
  ·rw [eval_put _ (by omega), eval_put _ (by omega), eval_put _ (by omega), eval_put _ (by omega), eval_put _ (by omega)]; exact h.p2
  ·rw [eval_put _ (by omega), eval_put _ (by omega), eval_put _ (by omega), eval_put _ (by omega), eval_put _ (by omega)]; exact h.p3
  ·rw [put_get _ (by omega), put_get _ (by omega), put_get _ (by omega), put_get _ (by omega), put_get _ (by omega)]; exact s4
theorem ch_first {n d1 d2 d3 d4 d5 d6 : Nat} {x y v1 u1 v3 u3 : Value} {e : Bool} {o1 o2 o3 o4 o5 o6 : Oper}
  (sz : a.tmps.size = n) (df : a.defers = []) (h2 : a.eval (.tmp 2) = x) (h3 : a.eval (.tmp 3) = y)
  (e1 : o1.dst = some d1 ∧ o1.guard = none) (e2 : o2.dst = some d2 ∧ o2.guard = none) (e3 : o3.dst = some d3 ∧ o3.guard = none) (e4 : o4.dst = some d4 ∧ o4.guard = none) (e5 : o5.dst = some d5 ∧ o5.guard = none)
  (e6 : o6.dst = some d6 ∧ o6.guard = none ∧ o6.op = .move (.tmp d5))
  (hd : 3 < d1 ∧ d2 = d1 + 1 ∧ d3 = d1 + 2 ∧ d4 = d1 + 3 ∧ d5 = d1 + 4 ∧ d6 = d1 + 5 ∧ d6 < n)
  (hx1 : ∀ a : Act, a.eval (.tmp 2) = x → (execOp a.eval o1).run P w = .ok (.value v1) w)
  (hx2 : ∀ a : Act, a.eval (.tmp d1) = v1 → (execOp a.eval o2).run P w = .ok (.value u1) w)
  (hx3 : ∀ a : Act, a.eval (.tmp 3) = y → (execOp a.eval o3).run P w = .ok (.value v3) w)
  (hx4 : ∀ a : Act, a.eval (.tmp d3) = v3 → (execOp a.eval o4).run P w = .ok (.value u3) w)
  (hx5 : ∀ a : Act, a.eval (.tmp d2) = u1 → a.eval (.tmp d4) = u3 → (execOp a.eval o5).run P w = .ok (.value (.bool e)) w)
  (hr : ∀ a' : Act, Ch n x y a' d6 e → wpList P ops Q rest a' w) : wpList P ops Q (o1 :: o2 :: o3 :: o4 :: o5 :: o6 :: rest) a w := by
 obtain ⟨q1, r2, r3, r4, r5, r6, q2⟩ := hd
 subst r2 r3 r4 r5 r6
 refine wpList_plain e1.2 fun K hK => wp_val (hx1 a h2) (hK _ _ ?_)
 rw [e1.1]
 refine wpList_plain e2.2 fun K hK => wp_val (hx2 _ (eval_same _ (by omega))) (hK _ _ ?_)
 rw [e2.1]
 refine wpList_plain e3.2 fun K hK => wp_val (hx3 _ (by rw [eval_put _ (by omega), eval_put _ (by omega)]; exact h3)) (hK _ _ ?_)
 rw [e3.1]
 refine wpList_plain e4.2 fun K hK => wp_val (hx4 _ (eval_same _ (by simp only [put_size]; omega))) (hK _ _ ?_)
 rw [e4.1]
 refine wpList_plain e5.2 fun K hK => wp_val (hx5 _ ?_ (eval_same _ (by simp only [put_size]; omega))) (hK _ _ ?_)
 ·rw [eval_put _ (by omega), eval_put _ (by omega)]
  exact eval_same _ (by simp only [put_size]; omega)
 rw [e5.1]
 refine wpList_plain e6.2.1 fun K hK => wp_val (BigFrame.run_move _ e6.2.2 w) (hK _ _ ?_)
 rw [e6.1, eval_same _ (by simp only [put_size]; omega)]
 refine hr _ ⟨by simp only [put_size]; exact sz, ?_, ?_, put_same _ (by simp only [put_size]; omega), df⟩
 ·rw [eval_put _ (by omega), eval_put _ (by omega), eval_put _ (by omega), eval_put _ (by omega), eval_put _ (by omega), eval_put _ (by omega)]; exact h2
 ·rw [eval_put _ (by omega), eval_put _ (by omega), eval_put _ (by omega), eval_put _ (by omega), eval_put _ (by omega), eval_put _ (by omega)]; exact h3
end
end Go.Proofs.YtdbbcfohjkgdcaaGreat
