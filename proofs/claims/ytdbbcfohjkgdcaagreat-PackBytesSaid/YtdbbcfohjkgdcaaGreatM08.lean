/- Package prop, and the document's own answer: may a property follow others at a place; does it stand there twice? -/
import Derived.Test.YtdbbcfohjkgdcaaGreatM00
import Derived.Test.YtdbbcfohjkgdcaaGreatM06
set_option maxRecDepth 100000
set_option maxHeartbeats 64000000
namespace Go.Proofs.YtdbbcfohjkgdcaaGreat
open Go.RowKit Go.Lib Prp
theorem info_prop : (Tryz.prog.info? 99).map (fun i => (i.zero, i.size, i.bytes)) = some (some (.agg #[.int .i64 0, .int .i64 0, .string ⟨#[]⟩, .string ⟨#[]⟩]), 4, 48) := by kernel_rfl
def GivesProps (l : List P) (w : World) (e : Ending) (w' : World) : Prop := ∃ A c, e = .returned (.slice A l.length c) ∧ w'.ownsRow w.heap.size 99 4 (.slice A l.length c) l.length (flat l) ∧ Below w.heap.size w w' ∧ l.length ≤ c
theorem own_cap {w : World} {B e c : Nat} {A : Option Addr} {l : List P} (h : w.ownsRow B e 4 (.slice A l.length c) l.length (flat l)) : l.length ≤ c := by
 rcases h.2 with ⟨hv, hn⟩ | ⟨g, cap, cur, hv, _, _, hle, _⟩
 ·omega
 ·injection hv with _ _ hc
  omega
theorem cells_new (w : World) (T : TypeId) (cs : List Value) (j : Nat) (u : Value) (h : cs[j]? = some u) : (w.alloc (.cells cs.toArray T)).cell? ((⟨w.heap.size, 0, none⟩ : Addr).add j) = some u := by
 rw [add_new, cell_of_row (w.alloc _) w.heap.size j _ _ (0, 0) (heap_alloc_new w _)]
 simpa using h
theorem one_cells (p : P) : ∀ u ∈ pcells p, u.oneCell' = true := by
 intro u hu
 unfold pcells at hu
 simp at hu
 rcases hu with rfl | rfl | rfl | rfl <;> rfl
theorem CopyProps_is (l : List P) (A : Option Addr) (c : Nat) (w : World) (hm : l.length * 48 ≤ 140737488351232) (h : PropsAt w w.heap.size A l) :
  Calls Tryz.prog 28 #[.slice A l.length c] w (GivesProps l w) := by
 obtain ⟨i0, hi, hz0, hz1, hz2⟩ := info_parts info_prop
 have H := Lib.hid h
 clear h
 go_enter Tryz.func28, Tryz.ntmps28
 go_wp2_with fail
 go_loopw [3, 4] (fun m i wr => ∃ k : Nat, k ≤ l.length ∧ i = .int .i64 (k : Int) ∧ wr.ownsRow w.heap.size 99 4 m k (flat (l.take k)) ∧ Below w.heap.size w wr) (fun _ i _ => l.length - (RowKit.intOf i).toNat)
 case atStart => exact ⟨0, Nat.zero_le _, rfl, World.ownsRow_nil _ _ _ _, Below.refl _ _⟩
 case round =>
  obtain ⟨k, hk, rfl, hown, hnx⟩ := hrel
  have h2 := hnx.size
  by_cases hlt : k < l.length
  ·obtain ⟨b0, o, rfl, _, hc⟩ := (H.out.below hnx).some_ (by omega)
   obtain ⟨d0, d1, d2, d3⟩ := hc k hlt
   clear hc
   have HS : Hid (flat (l.take (k + 1)) = flat (l.take k) ++ pcells l[k]) := by show _ = _; rw [List.take_succ_eq_append_getElem hlt, flat_snoc]
   obtain ⟨q, hq⟩ : ∃ q, l[k] = q := ⟨_, rfl⟩
   rw [hq] at d0 d1 d2 d3 HS
   clear hq
   obtain ⟨id, n, s, v⟩ := q
   have hkI : (k : Int) < (l.length : Int) := by omega
   have HO := Lib.hid hown
   have HN := Lib.hid hnx
   clear hown hnx
   go_wp2_with (at_builtin; refine wpList_append_own _ rfl _ _ 26 rfl w.heap.size 99 i0 (.agg #[.int .i64 0, .int .i64 0, .string ⟨#[]⟩, .string ⟨#[]⟩]) 4 48 Tryz.underlying26 hi hz0 hz1 hz2 rfl (by decide) _ _ _ rfl (HO.out.alloc _) ⟨wr.heap.size, 0, none⟩ 1 1 (pcells ⟨id, n, s, v⟩) rfl rfl ?c1 ?c2 ?c3 ?c4 ?c5 ?_)
   case c1 => exact fun _ _ h => h
   case c2 => exact one_cells _
   case c3 => unfold maxLen; omega
   case c4 => omega
   case c5 => omega
   intro v' w1 hown' hgrow _
   have HN' := Lib.hid (HN.out.trans (below_alloc_grown h2 HO.out hgrow))
   have HO' : Hid (w1.ownsRow w.heap.size 99 4 v' (k + 1) (flat (l.take (k + 1)))) := by show World.ownsRow _ _ _ _ _ _ _; rw [HS.out]; exact hown'
   clear hown' hgrow HO HN
   go_wp2
   go_roundw
   case rel => exact ⟨k + 1, hlt, by go_num, HO'.out, HN'.out⟩
   case measure => simp [RowKit.intOf]; omega
  ·obtain rfl : k = l.length := by omega
   rw [List.take_length] at hown
   obtain ⟨A', c', hv⟩ := own_slice hown
   have HO := Lib.hid hown
   have HN := Lib.hid hnx
   clear hown hnx
   subst hv
   go_wp2
   go_ret
   exact ⟨A', c', rfl, HO.out, HN.out, own_cap HO.out⟩
def upTo (l : List P) (k : Nat) : Nat := l.length + ((l.take k).map fun p => p.s.size + p.v.size).sum
theorem upTo_zero (l : List P) : upTo l 0 = l.length := by unfold upTo; rw [List.take_zero]; rfl
theorem upTo_step {l : List P} {k : Nat} (hk : k < l.length) : upTo l (k + 1) = upTo l k + (l[k].s.size + l[k].v.size) := by
 unfold upTo
 rw [List.take_succ_eq_append_getElem hk, List.map_append, List.sum_append]
 simp
 omega
def Weighs (l : List P) (w : World) (e : Ending) (w' : World) : Prop := ∃ m : Nat, e = .returned (.int .i64 (m : Int)) ∧ (m ≤ 10000 → m = upTo l l.length) ∧ m ≤ 9223372036854775807 ∧ ∃ n, w' = w.drewN n
theorem PropsWeight_is (l : List P) (A : Option Addr) (c B : Nat) (w : World) (hm : l.length ≤ 9223372036854775807) (hfit : ∀ p ∈ l, Fit p) (h : PropsAt w B A l) :
  Calls Tryz.prog 56 #[.slice A l.length c] w (Weighs l w) := by
 have H := Lib.hid h
 have HF := Lib.hid hfit
 clear h hfit
 go_enter Tryz.func56, Tryz.ntmps56
 go_wp2_with fail
 go_loopw [3, 4] (fun m i wr => ∃ k n : Nat, k ≤ l.length ∧ i = .int .i64 (k : Int) ∧ m = .int .i64 ((upTo l k : Nat) : Int) ∧ upTo l k ≤ 9223372036854775807 ∧ wr = w.drewN n) (fun _ i _ => l.length - (RowKit.intOf i).toNat)
 case atStart => exact ⟨0, 0, Nat.zero_le _, rfl, by rw [upTo_zero], by rw [upTo_zero]; exact hm, rfl⟩
 case round =>
  obtain ⟨k, n, hk, rfl, rfl, hb, rfl⟩ := hrel
  by_cases hlt : k < l.length
  ·by_cases hgo : upTo l k < 1048576
   ·obtain ⟨b0, o, rfl, _, hc⟩ := H.out.some_ (by omega)
    obtain ⟨d0, d1, d2, d3⟩ := hc k hlt
    have hf := HF.out _ (List.getElem_mem hlt)
    have HU := Lib.hid (upTo_step hlt)
    have hs := hf.hs
    have hv := hf.hv
    clear hc d0 d1 hf
    obtain ⟨q, hq⟩ : ∃ q, l[k] = q := ⟨_, rfl⟩
    rw [hq] at d2 d3 hs hv HU
    clear hq
    obtain ⟨U, hU⟩ : ∃ U, upTo l k = U := ⟨_, rfl⟩
    rw [hU] at HU hgo hb ⊢
    clear hU
    have hkI : (k : Int) < (l.length : Int) := by omega
    have hgI : (U : Int) < 1048576 := by omega
    go_wp2
    go_quiet (fail)
    go_wp2
    go_roundw
    case rel => exact ⟨k + 1, _, hlt, by go_num, by rw [HU.out]; go_num, by rw [HU.out]; omega, rfl⟩
    case measure => simp [RowKit.intOf]; omega
   ·obtain ⟨U, hU⟩ : ∃ U, upTo l k = U := ⟨_, rfl⟩
    rw [hU] at hgo hb ⊢
    have hd : decide ((U : Int) < 1048576) = false := by simp; omega
    clear hU
    go_wp2
    go_ret
    exact ⟨U, rfl, fun e => by omega, hb, n, rfl⟩
  ·obtain rfl : k = l.length := by omega
   obtain ⟨U, hU⟩ : ∃ U, upTo l l.length = U := ⟨_, rfl⟩
   rw [hU] at hb ⊢
   have HU := Lib.hid hU
   clear hU
   go_wp2
   go_ret
   exact ⟨U, rfl, fun _ => HU.out.symm, hb, n, rfl⟩
open Go.RowKit Go.Lib Prp Vbi
theorem TakeNum_z (s : ByteArray) (a b c : Int) (w : World) (hs : s.size ≤ 9223372036854775807) (h : tn s.data.toList = (a, b, c)) :
  Calls Tryz.prog 81 #[.string s] w fun e w' => e = .returned (.tuple #[.int .i64 a, .int .i64 b, .int .i64 c]) ∧ w = w' :=
 (TakeNum_ok s w hs).mono fun e w' h2 => by
  unfold TnOk at h2
  rw [h] at h2
  exact ⟨h2.1, h2.2.symm⟩
theorem TakeTwo_z (s : ByteArray) (a e : Int) (w : World) (hs : s.size ≤ 9223372036854775807) (h1 : tfVal 2 s.data.toList = a) (h2 : tfErr 2 s.data.toList = e) :
  Calls Tryz.prog 162 #[.string s] w fun x w' => x = .returned (.tuple #[.int .i64 a, .int .i64 e]) ∧ w = w' :=
 (TakeTwo_ok s w hs).mono fun _ _ h => by
  unfold TfOk at h
  rw [h1, h2] at h
  exact ⟨h.1, h.2.symm⟩
theorem TakeFour_z (s : ByteArray) (a e : Int) (w : World) (hs : s.size ≤ 9223372036854775807) (h1 : tfVal 4 s.data.toList = a) (h2 : tfErr 4 s.data.toList = e) :
  Calls Tryz.prog 170 #[.string s] w fun x w' => x = .returned (.tuple #[.int .i64 a, .int .i64 e]) ∧ w = w' :=
 (TakeFour_ok s w hs).mono fun _ _ h => by
  unfold TfOk at h
  rw [h1, h2] at h
  exact ⟨h.1, h.2.symm⟩
theorem fx_cases (wd : Nat) (s : ByteArray) : (s.size < wd ∧ tkFix wd s = tkBad 7 ∧ tfVal wd s.data.toList = 0 ∧ tfErr wd s.data.toList = 7) ∨
  (wd ≤ s.size ∧ tkFix wd s = ⟨(fixVal (s.data.toList.take wd) : Nat), ⟨#[]⟩, ⟨#[]⟩, (wd : Int), 0⟩ ∧ tfVal wd s.data.toList = (fixVal (s.data.toList.take wd) : Nat) ∧ tfErr wd s.data.toList = 0) := by
 unfold tkFix
 by_cases h : s.size < wd
 ·rw [if_pos h]
  have := tf_cut (wd := wd) (l := s.data.toList) (by rw [← Lib.size_eq]; exact h)
  exact .inl ⟨h, rfl, this.1, this.2⟩
 ·rw [if_neg h]
  have := tf_good (wd := wd) (l := s.data.toList) (by rw [← Lib.size_eq]; omega)
  exact .inr ⟨by omega, rfl, this.1, this.2⟩
def Took (k : Int) (t : Tk) (w : World) (e : Ending) (w' : World) : Prop :=
 ∃ (X : Value) (K : Int), e = .returned (.tuple #[X, .int .i64 K, .int .i64 t.e]) ∧ (t.e = 0 → X = anyOf k ⟨0, t.n, t.a, t.b⟩ ∧ K = t.k) ∧ Below w.heap.size w w'
theorem takeByte_is (s : ByteArray) (w : World) (hs : s.size ≤ 9223372036854775807) :
  Calls Tryz.prog 169 #[.string s] w fun e w' => e = .returned (.tuple #[.int .i64 (tkFix 1 s).n, .int .i64 (tkFix 1 s).k, .int .i64 (tkFix 1 s).e]) ∧ w = w' := by
 rcases fx_cases 1 s with ⟨h, e, _, _⟩ | ⟨h, e, _, _⟩
 ·rw [e]
  have h0 : s = ByteArray.empty := ByteArray.size_eq_zero_iff.1 (by omega)
  subst h0
  clear e h hs
  go_enter Tryz.func169, Tryz.ntmps169
  go_wp2
  go_ret3
  exact ⟨rfl, rfl⟩
 ·have hne : ¬ s = ByteArray.empty := fun e0 => by subst e0; simp at h
  have hne2 : ¬ s.toList = [] := fun e0 => hne (by rw [show (ByteArray.empty : ByteArray) = ⟨#[]⟩ from rfl]; exact (toList_eq_iff s ⟨#[]⟩).1 (by rw [e0, ByteArray.toList_eq]))
  have hne3 : s.toList.isEmpty = false := by cases hh : s.toList with
   | nil => exact absurd hh hne2
   | cons => rfl
  obtain ⟨b, hb⟩ : ∃ b, s[0] = b := ⟨_, rfl⟩
  have hv : fixVal (s.data.toList.take 1) = b.toNat := by
   have hd := data_at s 0 (by omega)
   rw [List.drop_zero] at hd
   rw [hd, List.take_succ_cons, List.take_zero, ← hb]
   show 0 * 256 + _ = _
   omega
  rw [e, hv]
  have hlt := b.toNat_lt
  clear e hv
  go_enter Tryz.func169, Tryz.ntmps169
  go_wp2
  go_ret3
  exact ⟨rfl, rfl⟩
theorem take_1 (s : ByteArray) (w : World) (hs : s.size ≤ 9223372036854775807) :
  Calls Tryz.prog 168 #[.int .i64 1, .string s] w (Took 1 (tkFix 1 s) w) := by
 have H0 := fun W => takeByte_is s W hs
 have hab : (tkFix 1 s).a = ⟨#[]⟩ ∧ (tkFix 1 s).b = ⟨#[]⟩ := by rcases fx_cases 1 s with ⟨_, e, _, _⟩ | ⟨_, e, _, _⟩ <;> rw [e] <;> exact ⟨rfl, rfl⟩
 obtain ⟨t, ht⟩ : ∃ t, tkFix 1 s = t := ⟨_, rfl⟩
 rw [ht] at H0 hab ⊢
 have H := Lib.hid H0
 clear H0 ht
 obtain ⟨n, a, b, k, e⟩ := t
 obtain ⟨rfl, rfl⟩ : a = _ ∧ b = _ := hab
 go_enter Tryz.func168, Tryz.ntmps168
 go_wp2_with fail
 refine (H.out _).mono ?_
 rintro e w1 ⟨rfl, rfl⟩
 go_wp2_with fail
 go_ret3
 exact ⟨_, _, rfl, (fun _ => ⟨rfl, rfl⟩), Below.refl _ _⟩
theorem take_2 (s : ByteArray) (w : World) (hs : s.size ≤ 9223372036854775807) :
  Calls Tryz.prog 168 #[.int .i64 2, .string s] w (Took 2 (tkFix 2 s) w) := by
 rcases fx_cases 2 s with ⟨_, e, h1, h2⟩ | ⟨_, e, h1, h2⟩
 ·rw [e]
  have H := Lib.hid (fun W => TakeTwo_z s 0 7 W hs h1 h2)
  clear e h1 h2
  go_enter Tryz.func168, Tryz.ntmps168
  go_wp2_with fail
  refine (H.out _).mono ?_
  rintro e w1 ⟨rfl, rfl⟩
  go_wp2_with fail
  go_ret3
  exact ⟨_, _, rfl, (fun e => by cases e), Below.refl _ _⟩
 ·rw [e]
  obtain ⟨m, hm⟩ : ∃ m, fixVal (s.data.toList.take 2) = m := ⟨_, rfl⟩
  rw [hm] at h1 ⊢
  have H := Lib.hid (fun W => TakeTwo_z s (m : Int) 0 W hs h1 h2)
  clear e h1 h2 hm
  go_enter Tryz.func168, Tryz.ntmps168
  go_wp2_with fail
  refine (H.out _).mono ?_
  rintro e w1 ⟨rfl, rfl⟩
  go_wp2_with fail
  go_ret3
  exact ⟨_, _, rfl, (fun _ => ⟨rfl, rfl⟩), Below.refl _ _⟩
theorem take_3 (s : ByteArray) (w : World) (hs : s.size ≤ 9223372036854775807) :
  Calls Tryz.prog 168 #[.int .i64 3, .string s] w (Took 3 (tkFix 4 s) w) := by
 rcases fx_cases 4 s with ⟨_, e, h1, h2⟩ | ⟨_, e, h1, h2⟩
 ·rw [e]
  have H := Lib.hid (fun W => TakeFour_z s 0 7 W hs h1 h2)
  clear e h1 h2
  go_enter Tryz.func168, Tryz.ntmps168
  go_wp2_with fail
  refine (H.out _).mono ?_
  rintro e w1 ⟨rfl, rfl⟩
  go_wp2_with fail
  go_ret3
  exact ⟨_, _, rfl, (fun e => by cases e), Below.refl _ _⟩
 ·rw [e]
  obtain ⟨m, hm⟩ : ∃ m, fixVal (s.data.toList.take 4) = m := ⟨_, rfl⟩
  rw [hm] at h1 ⊢
  have H := Lib.hid (fun W => TakeFour_z s (m : Int) 0 W hs h1 h2)
  clear e h1 h2 hm
  go_enter Tryz.func168, Tryz.ntmps168
  go_wp2_with fail
  refine (H.out _).mono ?_
  rintro e w1 ⟨rfl, rfl⟩
  go_wp2_with fail
  go_ret3
  exact ⟨_, _, rfl, (fun _ => ⟨rfl, rfl⟩), Below.refl _ _⟩
theorem take_4 (s : ByteArray) (w : World) (hs : s.size ≤ 9223372036854775807) :
  Calls Tryz.prog 168 #[.int .i64 4, .string s] w (Took 4 (tkNum s) w) := by
 obtain ⟨a, b, c, ht⟩ : ∃ a b c, tn s.data.toList = (a, b, c) := ⟨_, _, _, rfl⟩
 have e : tkNum s = ⟨a, ⟨#[]⟩, ⟨#[]⟩, b, c⟩ := by unfold tkNum; rw [ht]
 rw [e]
 have H := Lib.hid (fun W => TakeNum_z s a b c W hs ht)
 clear e ht
 go_enter Tryz.func168, Tryz.ntmps168
 go_wp2_with fail
 refine (H.out _).mono ?_
 rintro e w1 ⟨rfl, rfl⟩
 go_wp2_with fail
 go_ret3
 exact ⟨_, _, rfl, (fun _ => ⟨rfl, rfl⟩), Below.refl _ _⟩
theorem take_5 (s : ByteArray) (w : World) (hs : s.size ≤ 281474976710656) :
  Calls Tryz.prog 168 #[.int .i64 5, .string s] w (Took 5 (tkLong true s) w) := by
 obtain ⟨T, K, E, ht⟩ : ∃ T K E, tl true s = (T, K, E) := ⟨_, _, _, rfl⟩
 have e : tkLong true s = ⟨0, T, ⟨#[]⟩, K, E⟩ := by unfold tkLong; rw [ht]
 rw [e]
 have H := Lib.hid (fun W => TakeText_is s T K E W hs ht)
 clear e ht
 go_enter Tryz.func168, Tryz.ntmps168
 go_wp2_with fail
 refine (H.out _).mono ?_
 rintro e w1 ⟨rfl, hb1⟩
 have HX := Lib.hid hb1
 clear hb1
 go_wp2_with fail
 go_ret3
 exact ⟨_, _, rfl, (fun _ => ⟨rfl, rfl⟩), HX.out⟩
theorem take_6 (s : ByteArray) (w : World) (hs : s.size ≤ 281474976710656) :
  Calls Tryz.prog 168 #[.int .i64 6, .string s] w (Took 6 (tkLong false s) w) := by
 obtain ⟨T, K, E, ht⟩ : ∃ T K E, tl false s = (T, K, E) := ⟨_, _, _, rfl⟩
 have e : tkLong false s = ⟨0, T, ⟨#[]⟩, K, E⟩ := by unfold tkLong; rw [ht]
 rw [e]
 have H := Lib.hid (fun W => TakeBin_is s T K E W hs ((tl_false s).symm.trans ht))
 clear e ht
 go_enter Tryz.func168, Tryz.ntmps168
 go_wp2_with fail
 refine (H.out _).mono ?_
 rintro e w1 ⟨rfl, hb1⟩
 have HX := Lib.hid hb1
 clear hb1
 go_wp2_with fail
 go_ret3
 exact ⟨_, _, rfl, (fun _ => ⟨rfl, rfl⟩), HX.out⟩
def TookTwo (t : Tk) (w : World) (e : Ending) (w' : World) : Prop := e = .returned (.tuple #[.agg #[.string t.a, .string t.b], .int .i64 t.k, .int .i64 t.e]) ∧ Below w.heap.size w w'
theorem two_bad1 {s : ByteArray} (h : (tl true s).2.2 ≠ 0) : tkTwo s = tkBad (tl true s).2.2 := by unfold tkTwo; rw [if_pos h]
theorem two_bad2 {s : ByteArray} (h : (tl true s).2.2 = 0) (h2 : (tl true (s.extract (tl true s).2.1.toNat s.size)).2.2 ≠ 0) : tkTwo s = tkBad (tl true (s.extract (tl true s).2.1.toNat s.size)).2.2 := by
 unfold tkTwo; rw [if_neg (fun x => x h), if_pos h2]
theorem two_good {s : ByteArray} (h : (tl true s).2.2 = 0) (h2 : (tl true (s.extract (tl true s).2.1.toNat s.size)).2.2 = 0) :
  tkTwo s = ⟨0, (tl true s).1, (tl true (s.extract (tl true s).2.1.toNat s.size)).1, (tl true s).2.1 + (tl true (s.extract (tl true s).2.1.toNat s.size)).2.1, 0⟩ := by
 unfold tkTwo; rw [if_neg (fun x => x h), if_neg (fun x => x h2)]
theorem takePair_is (s : ByteArray) (w : World) (hs : s.size ≤ 281474976710656) :
  Calls Tryz.prog 171 #[.string s] w (TookTwo (tkTwo s) w) := by
 by_cases h : (tl true s).2.2 = 0
 ·obtain ⟨m, hm1, hm2, _⟩ := tl_took h
  obtain ⟨T, hT⟩ : ∃ T, (tl true s).1 = T := ⟨_, rfl⟩
  have h1 : tl true s = (T, ((2 + m : Nat) : Int), 0) := by rw [← hT, ← hm1, ← h]
  have HA := Lib.hid (fun W => TakeText_is s T ((2 + m : Nat) : Int) 0 W hs h1)
  obtain ⟨j, hj⟩ : ∃ j, 2 + m = j := ⟨_, rfl⟩
  rw [hj] at h1 hm2 HA
  obtain ⟨U, K, E, h2⟩ : ∃ U K E, tl true (s.extract j s.size) = (U, K, E) := ⟨_, _, _, rfl⟩
  have HB := Lib.hid (fun W => TakeText_is (s.extract j s.size) U K E W (by rw [ByteArray.size_extract]; omega) h2)
  by_cases hE : E = 0
  ·subst hE
   obtain ⟨m2, hk1, hk2, _⟩ := tl_took (t := true) (s := s.extract j s.size) (by rw [h2])
   rw [h2] at hk1
   have hk1 : K = ((2 + m2 : Nat) : Int) := hk1
   rw [ByteArray.size_extract] at hk2
   have e : tkTwo s = ⟨0, T, U, (j : Int) + K, 0⟩ := by
    rw [two_good h (by rw [h1, Int.toNat_natCast, h2]), h1, Int.toNat_natCast, h2]
   rw [e]
   clear e h h1 h2 hT hm1 hj
   subst hk1
   go_enter Tryz.func171, Tryz.ntmps171
   go_wp2_with fail
   refine (HA.out _).mono ?_
   rintro e w1 ⟨rfl, hb1⟩
   have HX1 := Lib.hid (Keep.mk ((Box.new w 195 #[.string ⟨#[]⟩, .string ⟨#[]⟩]).below hb1) (((Below.refl w.heap.size w).alloc (Nat.le_refl _) (.cells #[.string ⟨#[]⟩, .string ⟨#[]⟩] 195)).trans (hb1.mono (by simp))))
   clear hb1 HA
   go_wp2_with fail
   refine (HB.out _).mono ?_
   rintro e w2 ⟨rfl, hb2⟩
   have HX2 := Lib.hid (HX1.out.below hb2)
   clear hb2 HB HX1
   have q0 := HX2.out.cell 0
   have q1 := HX2.out.cell 1
   simp only [List.getElem?_toArray, List.getElem?_cons_zero, List.getElem?_cons_succ] at q0 q1
   have f0 := HX2.out.out.1.frozen 0
   have f1 := HX2.out.out.1.frozen 1
   have hsum : (j : Int) + (2 + (m2 : Int)) ≤ 9223372036854775807 := by omega
   go_wp2_with fail
   refine bodyPost_ret (v := .tuple #[.agg #[.string T, .string U], .int .i64 ((j : Int) + (2 + (m2 : Int))), .int .i64 0]) (by simp [results, Tryz.results171, go_sem, q0, q1]) rfl ⟨?_, ?_⟩
   ·simp
   ·exact (HX2.out.out.2.setCell (p := ⟨w.heap.size, 0, none⟩) (Nat.le_refl _) _).setCell (p := ⟨w.heap.size, 1, none⟩) (Nat.le_refl _) _
  ·have e : tkTwo s = tkBad E := by
    rw [two_bad2 h (by rw [h1, Int.toNat_natCast, h2]; exact hE), h1, Int.toNat_natCast, h2]
   rw [e]
   have hEb := ne_true hE
   clear e h h1 h2 hT hm1 hj hE
   go_enter Tryz.func171, Tryz.ntmps171
   go_wp2_with fail
   refine (HA.out _).mono ?_
   rintro e w1 ⟨rfl, hb1⟩
   have HX1 := Lib.hid (Keep.mk ((Box.new w 195 #[.string ⟨#[]⟩, .string ⟨#[]⟩]).below hb1) (((Below.refl w.heap.size w).alloc (Nat.le_refl _) (.cells #[.string ⟨#[]⟩, .string ⟨#[]⟩] 195)).trans (hb1.mono (by simp))))
   clear hb1 HA
   go_wp2_with fail
   refine (HB.out _).mono ?_
   rintro e w2 ⟨rfl, hb2⟩
   have HX2 := Lib.hid (HX1.out.below hb2)
   clear hb2 HB HX1
   have q0 := HX2.out.cell 0
   have q1 := HX2.out.cell 1
   simp only [List.getElem?_toArray, List.getElem?_cons_zero, List.getElem?_cons_succ] at q0 q1
   have f0 := HX2.out.out.1.frozen 0
   have f1 := HX2.out.out.1.frozen 1
   go_wp2_with fail
   refine bodyPost_ret (v := .tuple #[.agg #[.string ⟨#[]⟩, .string ⟨#[]⟩], .int .i64 0, .int .i64 E]) (by simp [results, Tryz.results171, go_sem, q0, q1]) rfl ⟨rfl, ?_⟩
   exact (HX2.out.out.2.setCell (p := ⟨w.heap.size, 0, none⟩) (Nat.le_refl _) _).setCell (p := ⟨w.heap.size, 1, none⟩) (Nat.le_refl _) _
 ·obtain ⟨T, K, E, h1⟩ : ∃ T K E, tl true s = (T, K, E) := ⟨_, _, _, rfl⟩
  have HA := Lib.hid (fun W => TakeText_is s T K E W hs h1)
  have hE : E ≠ 0 := by rw [h1] at h; exact h
  have e : tkTwo s = tkBad E := by rw [two_bad1 h, h1]
  rw [e]
  have hEb := ne_true hE
  clear e h h1 hE
  go_enter Tryz.func171, Tryz.ntmps171
  go_wp2_with fail
  refine (HA.out _).mono ?_
  rintro e w1 ⟨rfl, hb1⟩
  have HX2 := Lib.hid (Keep.mk ((Box.new w 195 #[.string ⟨#[]⟩, .string ⟨#[]⟩]).below hb1) (((Below.refl w.heap.size w).alloc (Nat.le_refl _) (.cells #[.string ⟨#[]⟩, .string ⟨#[]⟩] 195)).trans (hb1.mono (by simp))))
  clear hb1 HA
  have q0 := HX2.out.cell 0
  have q1 := HX2.out.cell 1
  simp only [List.getElem?_toArray, List.getElem?_cons_zero, List.getElem?_cons_succ] at q0 q1
  have f0 := HX2.out.out.1.frozen 0
  have f1 := HX2.out.out.1.frozen 1
  go_wp2_with fail
  refine bodyPost_ret (v := .tuple #[.agg #[.string ⟨#[]⟩, .string ⟨#[]⟩], .int .i64 0, .int .i64 E]) (by simp [results, Tryz.results171, go_sem, q0, q1]) rfl ⟨rfl, ?_⟩
  exact (HX2.out.out.2.setCell (p := ⟨w.heap.size, 0, none⟩) (Nat.le_refl _) _).setCell (p := ⟨w.heap.size, 1, none⟩) (Nat.le_refl _) _
theorem take_7 (s : ByteArray) (w : World) (hs : s.size ≤ 281474976710656) :
  Calls Tryz.prog 168 #[.int .i64 7, .string s] w (Took 7 (tkTwo s) w) := by
 have hn : (tkTwo s).n = 0 ∨ (tkTwo s).e ≠ 0 := by
  by_cases h : (tl true s).2.2 = 0
  ·by_cases h2 : (tl true (s.extract (tl true s).2.1.toNat s.size)).2.2 = 0
   ·rw [two_good h h2]; exact .inl rfl
   ·rw [two_bad2 h h2]; exact .inl rfl
  ·rw [two_bad1 h]; exact .inl rfl
 have H0 := fun W => takePair_is s W hs
 obtain ⟨t, ht⟩ : ∃ t, tkTwo s = t := ⟨_, rfl⟩
 rw [ht] at H0 hn ⊢
 have H := Lib.hid H0
 clear H0 ht
 obtain ⟨n, a, b, k, e⟩ := t
 go_enter Tryz.func168, Tryz.ntmps168
 go_wp2_with fail
 refine (H.out _).mono ?_
 rintro e w1 ⟨rfl, hb1⟩
 have HX := Lib.hid hb1
 clear hb1
 go_wp2_with fail
 go_ret3
 exact ⟨_, _, rfl, (fun _ => ⟨rfl, rfl⟩), HX.out⟩
theorem take_is (k : Int) (s : ByteArray) (w : World) (hk0 : 0 ≤ k) (hk7 : k ≤ 7) (hk : k ≠ 0) (hs : s.size ≤ 281474976710656) :
  Calls Tryz.prog 168 #[.int .i64 k, .string s] w (Took k (tk k s) w) := by
 rcases kind_seven hk0 hk7 hk with rfl | rfl | rfl | rfl | rfl | rfl | rfl
 ·exact take_1 s w (by omega)
 ·exact take_2 s w (by omega)
 ·exact take_3 s w (by omega)
 ·exact take_4 s w (by omega)
 ·exact take_5 s w hs
 ·exact take_6 s w hs
 ·exact take_7 s w hs
open Go.RowKit Go.Lib Prp Vbi
theorem tk_strip {k id : Int} {s : ByteArray} (hk0 : 0 ≤ k) (hk7 : k ≤ 7) (hk : k ≠ 0) : strip k ⟨id, (tk k s).n, (tk k s).a, (tk k s).b⟩ = ⟨id, (tk k s).n, (tk k s).a, (tk k s).b⟩ := by
 have fx : ∀ wd, (tkFix wd s).a = ⟨#[]⟩ ∧ (tkFix wd s).b = ⟨#[]⟩ := fun wd => by rcases fx_cases wd s with ⟨_, e, _, _⟩ | ⟨_, e, _, _⟩ <;> rw [e] <;> exact ⟨rfl, rfl⟩
 rcases kind_seven hk0 hk7 hk with rfl | rfl | rfl | rfl | rfl | rfl | rfl
 ·show (⟨id, (tkFix 1 s).n, ⟨#[]⟩, ⟨#[]⟩⟩ : P) = ⟨id, (tkFix 1 s).n, (tkFix 1 s).a, (tkFix 1 s).b⟩
  rw [(fx 1).1, (fx 1).2]
 ·show (⟨id, (tkFix 2 s).n, ⟨#[]⟩, ⟨#[]⟩⟩ : P) = ⟨id, (tkFix 2 s).n, (tkFix 2 s).a, (tkFix 2 s).b⟩
  rw [(fx 2).1, (fx 2).2]
 ·show (⟨id, (tkFix 4 s).n, ⟨#[]⟩, ⟨#[]⟩⟩ : P) = ⟨id, (tkFix 4 s).n, (tkFix 4 s).a, (tkFix 4 s).b⟩
  rw [(fx 4).1, (fx 4).2]
 ·rfl
 ·rfl
 ·rfl
 ·have hn : (tkTwo s).n = 0 := by
   by_cases h : (tl true s).2.2 = 0
   ·by_cases h2 : (tl true (s.extract (tl true s).2.1.toNat s.size)).2.2 = 0
    ·rw [two_good h h2]
    ·rw [two_bad2 h h2]; rfl
   ·rw [two_bad1 h]; rfl
  show (⟨id, 0, (tkTwo s).a, (tkTwo s).b⟩ : P) = ⟨id, (tkTwo s).n, (tkTwo s).a, (tkTwo s).b⟩
  rw [hn]
theorem id_at {s : ByteArray} (h : 0 < s.size) : idOf s = (s[0].toNat : Int) := by
 unfold idOf
 have hd := data_at s 0 h
 rw [List.drop_zero] at hd
 rw [hd]; rfl
theorem takeOne_is (s a b : ByteArray) (i n K E : Int) (w : World) (hs0 : 0 < s.size) (hs : s.size ≤ 281474976710656) (h : tone s = (⟨i, n, a, b⟩, K, E)) :
  Calls Tryz.prog 167 #[.string s] w fun e w' => e = .returned (.tuple #[.agg #[.int .i64 i, .int .i64 n, .string a, .string b], .int .i64 K, .int .i64 E]) ∧ Below w.heap.size w w' := by
 have hid := id_at hs0
 have hb0 := s[0].toNat_lt
 rcases tone_cases s with ⟨hk, e⟩ | ⟨hk, he, e⟩ | ⟨hk, he, e⟩
 ·rw [e] at h
  obtain ⟨⟨rfl, rfl, rfl, rfl⟩, rfl, rfl⟩ : ((0 : Int) = i ∧ (0 : Int) = n ∧ (⟨#[]⟩ : ByteArray) = a ∧ (⟨#[]⟩ : ByteArray) = b) ∧ (0 : Int) = K ∧ (8 : Int) = E := by
   injection h with h1 h2
   injection h2 with h2 h3
   unfold pz at h1
   injection h1 with x1 x2 x3 x4
   exact ⟨⟨x1, x2, x3, x4⟩, h2, h3⟩
  rw [hid] at hk
  have HK := Lib.hid (fun W => Kind_is (s[0].toNat : Int) 0 3 W hk (by unfold kindErr; rw [if_pos hk]))
  clear hk e h hid
  go_enter Tryz.func167, Tryz.ntmps167
  go_wp2_with (go_at_call 139; refine (HK.out _).mono ?_; rintro e w' ⟨rfl, rfl⟩)
  refine bodyPost_ret (v := .tuple #[.agg #[.int .i64 0, .int .i64 0, .string ⟨#[]⟩, .string ⟨#[]⟩], .int .i64 0, .int .i64 8]) (by simp [results, Tryz.results167, go_sem]) rfl ⟨rfl, ?_⟩
  exact (Below.refl _ _).alloc (Nat.le_refl _) _
 ·rw [e] at h
  obtain ⟨k, hkk⟩ : ∃ k, kindZ (idOf s) = k := ⟨_, rfl⟩
  rw [hkk] at h hk he
  have hr := kind_range (idOf s)
  rw [hkk] at hr
  have HK := Lib.hid (fun W => Kind_is (s[0].toNat : Int) k 0 W (by rw [← hid]; exact hkk) (by unfold kindErr; rw [← hid, hkk, if_neg hk]))
  have HT := Lib.hid (fun W => take_is k (s.extract 1 s.size) W hr.1 hr.2 hk (by rw [ByteArray.size_extract]; omega))
  obtain ⟨t, ht⟩ : ∃ t, tk k (s.extract 1 s.size) = t := ⟨_, rfl⟩
  rw [ht] at h he HT
  obtain ⟨⟨rfl, rfl, rfl, rfl⟩, rfl, hE⟩ : ((0 : Int) = i ∧ (0 : Int) = n ∧ (⟨#[]⟩ : ByteArray) = a ∧ (⟨#[]⟩ : ByteArray) = b) ∧ (0 : Int) = K ∧ inn t.e = E := by
   injection h with h1 h2
   injection h2 with h2 h3
   unfold pz at h1
   injection h1 with x1 x2 x3 x4
   exact ⟨⟨x1, x2, x3, x4⟩, h2, h3⟩
  obtain ⟨x, hx⟩ : ∃ x, t.e = x := ⟨_, rfl⟩
  have hs1 : (1 : Int) ≤ (s.size : Int) := by omega
  by_cases h7 : x = 7
  ·subst h7
   obtain rfl : 8 = E := by rw [← hE, hx]; rfl
   clear hE h e hkk hid ht he hr
   go_enter Tryz.func167, Tryz.ntmps167
   go_wp2_with (go_at_call 139; refine (HK.out _).mono ?_; rintro e w' ⟨rfl, rfl⟩)
   refine (HT.out _).mono ?_
   rintro e w1 ⟨X, K1, rfl, _, hb1⟩
   have HX := Lib.hid (Keep.mk ((Box.new w 99 #[.int .i64 0, .int .i64 0, .string ⟨#[]⟩, .string ⟨#[]⟩]).below hb1) (((Below.refl w.heap.size w).alloc (Nat.le_refl _) (.cells #[.int .i64 0, .int .i64 0, .string ⟨#[]⟩, .string ⟨#[]⟩] 99)).trans (hb1.mono (by simp))))
   clear hb1 HT HK
   rw [hx]
   clear hx
   have q := HX.out.four
   obtain ⟨q0, q1, q2, q3⟩ := q
   have f0 := HX.out.out.1.frozen 0
   have f1 := HX.out.out.1.frozen 1
   have f2 := HX.out.out.1.frozen 2
   have f3 := HX.out.out.1.frozen 3
   go_wp2_with fail
   refine bodyPost_ret (v := .tuple #[.agg #[.int .i64 0, .int .i64 0, .string ⟨#[]⟩, .string ⟨#[]⟩], .int .i64 0, .int .i64 8]) (by simp [results, Tryz.results167, go_sem, q0, q1, q2, q3]) rfl ⟨rfl, ?_⟩
   exact (((HX.out.out.2.setCell (p := ⟨w.heap.size, 0, none⟩) (Nat.le_refl _) _).setCell (p := ⟨w.heap.size, 1, none⟩) (Nat.le_refl _) _).setCell (p := ⟨w.heap.size, 2, none⟩) (Nat.le_refl _) _).setCell (p := ⟨w.heap.size, 3, none⟩) (Nat.le_refl _) _
  ·have hx0 : x ≠ 0 := by rw [← hx]; exact he
   obtain rfl : x = E := by rw [← hE, hx]; unfold inn; rw [if_neg h7]
   have h7b := ne_false h7
   have h0b := ne_true hx0
   clear hE h e hkk hid ht he hr
   go_enter Tryz.func167, Tryz.ntmps167
   go_wp2_with (go_at_call 139; refine (HK.out _).mono ?_; rintro e w' ⟨rfl, rfl⟩)
   refine (HT.out _).mono ?_
   rintro e w1 ⟨X, K1, rfl, _, hb1⟩
   have HX := Lib.hid (Keep.mk ((Box.new w 99 #[.int .i64 0, .int .i64 0, .string ⟨#[]⟩, .string ⟨#[]⟩]).below hb1) (((Below.refl w.heap.size w).alloc (Nat.le_refl _) (.cells #[.int .i64 0, .int .i64 0, .string ⟨#[]⟩, .string ⟨#[]⟩] 99)).trans (hb1.mono (by simp))))
   clear hb1 HT HK
   rw [hx]
   clear hx
   have q := HX.out.four
   obtain ⟨q0, q1, q2, q3⟩ := q
   have f0 := HX.out.out.1.frozen 0
   have f1 := HX.out.out.1.frozen 1
   have f2 := HX.out.out.1.frozen 2
   have f3 := HX.out.out.1.frozen 3
   go_wp2_with fail
   refine bodyPost_ret (v := .tuple #[.agg #[.int .i64 0, .int .i64 0, .string ⟨#[]⟩, .string ⟨#[]⟩], .int .i64 0, .int .i64 x]) (by simp [results, Tryz.results167, go_sem, q0, q1, q2, q3]) rfl ⟨rfl, ?_⟩
   exact (((HX.out.out.2.setCell (p := ⟨w.heap.size, 0, none⟩) (Nat.le_refl _) _).setCell (p := ⟨w.heap.size, 1, none⟩) (Nat.le_refl _) _).setCell (p := ⟨w.heap.size, 2, none⟩) (Nat.le_refl _) _).setCell (p := ⟨w.heap.size, 3, none⟩) (Nat.le_refl _) _
 ·rw [e] at h
  obtain ⟨k, hkk⟩ : ∃ k, kindZ (idOf s) = k := ⟨_, rfl⟩
  rw [hkk] at h hk he
  have hr := kind_range (idOf s)
  rw [hkk] at hr
  have hbd := tk_bound he
  rw [ByteArray.size_extract] at hbd
  have hst := tk_strip (id := (s[0].toNat : Int)) hr.1 hr.2 hk (s := s.extract 1 s.size)
  have HK := Lib.hid (fun W => Kind_is (s[0].toNat : Int) k 0 W (by rw [← hid]; exact hkk) (by unfold kindErr; rw [← hid, hkk, if_neg hk]))
  have HT := Lib.hid (fun W => take_is k (s.extract 1 s.size) W hr.1 hr.2 hk (by rw [ByteArray.size_extract]; omega))
  rw [hid] at h
  obtain ⟨t, ht⟩ : ∃ t, tk k (s.extract 1 s.size) = t := ⟨_, rfl⟩
  rw [ht] at h he HT hbd hst
  obtain ⟨tn, ta, tb, tk', te⟩ := t
  have h : ((⟨(s[0].toNat : Int), tn, ta, tb⟩ : P), 1 + tk', (0 : Int)) = (⟨i, n, a, b⟩, K, E) := h
  obtain ⟨⟨rfl, rfl, rfl, rfl⟩, rfl, rfl⟩ : ((s[0].toNat : Int) = i ∧ tn = n ∧ ta = a ∧ tb = b) ∧ 1 + tk' = K ∧ (0 : Int) = E := by
   injection h with h1 h2
   injection h2 with h2 h3
   injection h1 with x1 x2 x3 x4
   exact ⟨⟨x1, x2, x3, x4⟩, h2, h3⟩
  obtain rfl : te = 0 := he
  have hst : strip k ⟨(s[0].toNat : Int), tn, ta, tb⟩ = ⟨(s[0].toNat : Int), tn, ta, tb⟩ := hst
  have hbd0 : 0 ≤ tk' := hbd.1
  have hbd1 : tk' ≤ 281474976710656 := by have h9 : tk' ≤ _ := hbd.2; omega
  have HST := Lib.hid hst
  have hs1 : (1 : Int) ≤ (s.size : Int) := by omega
  clear h e hkk hid ht hr hbd hst
  go_enter Tryz.func167, Tryz.ntmps167
  go_wp2_with (go_at_call 139; refine (HK.out _).mono ?_; rintro e w' ⟨rfl, rfl⟩)
  refine (HT.out _).mono ?_
  rintro e w1 ⟨X, K1, rfl, hXK, hb1⟩
  obtain ⟨hX, hK1⟩ := hXK rfl
  obtain rfl : K1 = tk' := hK1
  have HX := Lib.hid (Keep.mk ((Box.new w 99 #[.int .i64 0, .int .i64 0, .string ⟨#[]⟩, .string ⟨#[]⟩]).below hb1) (((Below.refl w.heap.size w).alloc (Nat.le_refl _) (.cells #[.int .i64 0, .int .i64 0, .string ⟨#[]⟩, .string ⟨#[]⟩] 99)).trans (hb1.mono (by simp))))
  have HXE : Hid (anyOf k ⟨(s[0].toNat : Int), tn, ta, tb⟩ = X) := by rw [hX]; exact rfl
  have HO := Lib.hid (fun W => propOf_is k (s[0].toNat : Int) tn (s[0].toNat : Int) tn ta tb ta tb X W HXE.out HST.out)
  clear hb1 HT HK hXK hX
  go_wp2_with fail
  refine (HO.out _).mono ?_
  rintro e w2 ⟨rfl, hb2⟩
  have HX2 := Lib.hid (HX.out.below hb2)
  clear hb2 HX HO HXE HST
  have q := HX2.out.four
  obtain ⟨q0, q1, q2, q3⟩ := q
  have f0 := HX2.out.out.1.frozen 0
  have f1 := HX2.out.out.1.frozen 1
  have f2 := HX2.out.out.1.frozen 2
  have f3 := HX2.out.out.1.frozen 3
  go_wp2_with fail
  refine bodyPost_ret (v := .tuple #[.agg #[.int .i64 (s[0].toNat : Int), .int .i64 tn, .string ta, .string tb], .int .i64 (1 + K1), .int .i64 0]) (by simp [results, Tryz.results167, go_sem, q0, q1, q2, q3]) rfl ⟨?_, ?_⟩
  ·simp
  ·exact (((HX2.out.out.2.setCell (p := ⟨w.heap.size, 0, none⟩) (Nat.le_refl _) _).setCell (p := ⟨w.heap.size, 1, none⟩) (Nat.le_refl _) _).setCell (p := ⟨w.heap.size, 2, none⟩) (Nat.le_refl _) _).setCell (p := ⟨w.heap.size, 3, none⟩) (Nat.le_refl _) _
open Go.RowKit Go.Lib Prp
def Found (b : Bool) (w : World) (e : Ending) (w' : World) : Prop := ∃ j : Int, e = .returned (.int .i64 j) ∧ decide (0 ≤ j) = b ∧ w = w'
theorem contains_at {xs : List Int} {k : Nat} {x : Int} (hk : k < xs.length) (h : xs.getD k 0 = x) : xs.contains x = true := by
 rw [List.contains_iff_mem]
 rw [← h, List.getD_eq_getElem?_getD, List.getElem?_eq_getElem hk]
 exact List.getElem_mem hk
theorem contains_not {xs : List Int} {x : Int} (h : ∀ j, j < xs.length → xs.getD j 0 ≠ x) : xs.contains x = false := by
 rw [Bool.eq_false_iff]
 intro hc
 rw [List.contains_iff_mem] at hc
 obtain ⟨j, hj, he⟩ := List.getElem_of_mem hc
 exact h j hj (by rw [List.getD_eq_getElem?_getD, List.getElem?_eq_getElem hj]; exact he)
theorem In_is (xs : List Int) (A : Option Addr) (c B : Nat) (x : Int) (b : Bool) (w : World) (hm : xs.length ≤ 9223372036854775807) (h : Nums w B .i64 A xs) (hb : xs.contains x = b) :
  Calls Tryz.prog 99 #[.slice A xs.length c, .int .i64 x] w (Found b w) := by
 have H := Lib.hid h
 have HB := Lib.hid hb
 clear h hb
 go_enter Tryz.func99, Tryz.ntmps99
 go_wp2_with fail
 go_loop [5] (fun i => ∃ k : Nat, k ≤ xs.length ∧ i = .int .i64 (k : Int) ∧ ∀ j, j < k → xs.getD j 0 ≠ x) (fun i => xs.length - (RowKit.intOf i).toNat)
 case atStart => exact ⟨0, Nat.zero_le _, rfl, fun j hj => by omega⟩
 case round =>
  obtain ⟨k, hk, rfl, hne⟩ := hrel
  have HN := Lib.hid hne
  clear hne
  by_cases hlt : k < xs.length
  ·obtain ⟨a, rfl, _, hc⟩ := H.out.some_ (by omega)
   have h1 := hc k hlt
   clear hc H
   have hkI : (k : Int) < (xs.length : Int) := by omega
   obtain ⟨y, hy⟩ : ∃ y, xs.getD k 0 = y := ⟨_, rfl⟩
   rw [hy] at h1
   by_cases hyx : y = x
   ·subst hyx
    have HT := Lib.hid (HB.out.symm.trans (contains_at hlt hy))
    clear hy HN HB
    go_wp2
    go_ret
    exact ⟨_, rfl, by rw [HT.out]; exact decide_eq_true (by omega), rfl⟩
   ·have bb := ne_false hyx
    have HY := Lib.hid hy
    clear hy
    go_wp2
    go_round
    case rel => exact ⟨k + 1, hlt, by go_num, fun j hj => by
     by_cases e : j = k
     ·subst e; rw [HY.out]; exact hyx
     ·exact HN.out j (by omega)⟩
    case measure => simp [RowKit.intOf]; omega
  ·obtain rfl : k = xs.length := by omega
   have HT := Lib.hid (HB.out.symm.trans (contains_not HN.out))
   clear HN HB H
   go_wp2
   go_ret
   exact ⟨_, rfl, by rw [HT.out]; rfl, rfl⟩
open Go.RowKit Go.Lib Prp
theorem Nums.at_ {w : World} {B : Nat} {A : Option Addr} {xs : List Int} (h : Nums w B .i64 A xs) (hx : 0 < xs.length) : ∃ b o, A = some ⟨b, o, none⟩ ∧ ∀ j, j < xs.length → w.cell? ⟨b, o + j, none⟩ = some (.int .i64 (xs.getD j 0)) := by
 obtain ⟨⟨b, o, s⟩, rfl, _, hc⟩ := h.some_ hx
 have h0 := hc 0 hx
 have hs : s = none := by
  have := World.cell?_spot h0
  simpa [Addr.add] using this
 subst hs
 refine ⟨b, o, rfl, fun j hj => ?_⟩
 have := hc j hj
 unfold Addr.add at this
 split at this
 ·next e => subst e; simpa using this
 ·exact this
theorem Contains_is (xs : List Int) (A : Option Addr) (c B : Nat) (x : Int) (b : Bool) (w : World) (hm : xs.length ≤ 9223372036854775807) (h : Nums w B .i64 A xs) (hb : xs.contains x = b) :
  Calls Tryz.prog 158 #[.slice A xs.length c, .int .i64 x] w fun e w' => e = .returned (.bool b) ∧ w = w' := by
 subst hb
 rcases Nat.eq_zero_or_pos xs.length with h0 | h0
 ·obtain rfl : xs = [] := List.eq_nil_of_length_eq_zero h0
  exact (Tryz.slices_Contains_int_empty A c x w).mono fun _ _ h => ⟨h.1, h.2.symm⟩
 ·obtain ⟨b, o, rfl, hc⟩ := h.at_ h0
  refine (Tryz.slices_Contains_int b o xs.length c xs x w (Nat.le_refl _) hm hc).mono fun _ _ h => ⟨?_, h.2.symm⟩
  rw [h.1, List.take_length]
theorem stand_len (place : Int) : (standL place).length ≤ 17 := by
 rcases place_cases place with rfl | rfl | rfl | rfl | c | rfl | rfl | rfl | rfl | c
 all_goals first | (rw [stand_none c]; decide) | (rcases c with rfl | rfl | rfl | rfl | rfl | rfl <;> decide) | decide
theorem idsAt_is (place : Int) (w : World) : Calls Tryz.prog 159 #[.int .i64 place] w (GivesNums .i64 (standL place) w) := by
 rcases place_cases place with rfl | rfl | rfl | rfl | c | rfl | rfl | rfl | rfl | c
 ·go_enter Tryz.func159, Tryz.ntmps159
  go_wp2
  go_ret
  exact gives_lit w _ _ _ _ _ rfl rfl
 ·go_enter Tryz.func159, Tryz.ntmps159
  go_wp2
  go_ret
  exact gives_lit w _ _ _ _ _ rfl rfl
 ·go_enter Tryz.func159, Tryz.ntmps159
  go_wp2
  go_ret
  exact gives_lit w _ _ _ _ _ rfl rfl
 ·go_enter Tryz.func159, Tryz.ntmps159
  go_wp2
  go_ret
  exact gives_lit w _ _ _ _ _ rfl rfl
 ·rcases c with rfl | rfl | rfl | rfl | rfl | rfl <;>
  ·go_enter Tryz.func159, Tryz.ntmps159
   go_wp2
   go_ret
   exact gives_lit w _ _ _ _ _ rfl rfl
 ·go_enter Tryz.func159, Tryz.ntmps159
  go_wp2
  go_ret
  exact gives_lit w _ _ _ _ _ rfl rfl
 ·go_enter Tryz.func159, Tryz.ntmps159
  go_wp2
  go_ret
  exact gives_lit w _ _ _ _ _ rfl rfl
 ·go_enter Tryz.func159, Tryz.ntmps159
  go_wp2
  go_ret
  exact gives_lit w _ _ _ _ _ rfl rfl
 ·go_enter Tryz.func159, Tryz.ntmps159
  go_wp2
  go_ret
  exact gives_lit w _ _ _ _ _ rfl rfl
 ·have HN := Lib.hid (stand_none c)
  obtain ⟨n0, n1, n2, n3, ⟨n4, n5, n6, n7, n9, n11⟩, n8, n10, n14, n15⟩ := c
  replace n0 := ne_false n0
  replace n1 := ne_false n1
  replace n2 := ne_false n2
  replace n3 := ne_false n3
  replace n4 := ne_false n4
  replace n5 := ne_false n5
  replace n6 := ne_false n6
  replace n7 := ne_false n7
  replace n9 := ne_false n9
  replace n11 := ne_false n11
  replace n8 := ne_false n8
  replace n10 := ne_false n10
  replace n14 := ne_false n14
  replace n15 := ne_false n15
  go_enter Tryz.func159, Tryz.ntmps159
  go_wp2
  go_ret
  rw [HN.out]
  exact ⟨none, 0, rfl, .inl rfl, Below.refl _ _⟩
theorem mayStand_is (place id : Int) (b : Bool) (w : World) (h : standB place id = b) :
  Calls Tryz.prog 136 #[.int .i64 place, .int .i64 id] w fun e w' => e = .returned (.bool b) ∧ Below w.heap.size w w' := by
 have HL := Lib.hid (stand_len place)
 obtain ⟨xs, hx⟩ : ∃ xs, standL place = xs := ⟨_, rfl⟩
 have HI := Lib.hid (fun W => idsAt_is place W)
 unfold standB at h
 rw [hx] at h HI HL
 have HB := Lib.hid h
 clear h hx
 go_enter Tryz.func136, Tryz.ntmps136
 go_wp2_with fail
 refine (HI.out _).mono ?_
 rintro e w1 ⟨A, c, rfl, hn, hb⟩
 have HN := Lib.hid hn
 have HX := Lib.hid hb
 clear hn hb
 go_wp2_with (go_at_call 158; refine (Contains_is xs A c _ id b _ (by have := HL.out; omega) HN.out HB.out).mono ?_; rintro e w' ⟨rfl, rfl⟩)
 go_ret
 exact ⟨rfl, HX.out⟩
theorem stands_is (place id : Int) (b : Bool) (w : World) (h : standB place id = b) :
  Calls Tryz.prog 73 #[.int .i64 place, .int .i64 id] w fun e w' => e = .returned (.bool b) ∧ Below w.heap.size w w' := by
 rcases place_cases place with rfl | rfl | rfl | rfl | c | rfl | rfl | rfl | rfl | c
 ·have HB := Lib.hid h
  clear h
  go_enter Tryz.func73, Tryz.ntmps73
  go_wp2_with (go_at_call 99; refine (In_is _ _ _ _ id b _ (by decide) (lit_nums w _ _ .i64 3 rfl) HB.out).mono ?_; rintro e w' ⟨j, rfl, hj, rfl⟩)
  go_ret
  exact ⟨rfl, (Below.refl _ _).alloc (Nat.le_refl _) _⟩
 ·have HB := Lib.hid h
  clear h
  go_enter Tryz.func73, Tryz.ntmps73
  go_wp2_with (go_at_call 99; refine (In_is _ _ _ _ id b _ (by decide) (lit_nums w _ _ .i64 3 rfl) HB.out).mono ?_; rintro e w' ⟨j, rfl, hj, rfl⟩)
  go_ret
  exact ⟨rfl, (Below.refl _ _).alloc (Nat.le_refl _) _⟩
 ·have HB := Lib.hid h
  clear h
  go_enter Tryz.func73, Tryz.ntmps73
  go_wp2_with (go_at_call 99; refine (In_is _ _ _ _ id b _ (by decide) (lit_nums w _ _ .i64 3 rfl) HB.out).mono ?_; rintro e w' ⟨j, rfl, hj, rfl⟩)
  go_ret
  exact ⟨rfl, (Below.refl _ _).alloc (Nat.le_refl _) _⟩
 ·have HB := Lib.hid h
  clear h
  go_enter Tryz.func73, Tryz.ntmps73
  go_wp2_with (go_at_call 99; refine (In_is _ _ _ _ id b _ (by decide) (lit_nums w _ _ .i64 3 rfl) HB.out).mono ?_; rintro e w' ⟨j, rfl, hj, rfl⟩)
  go_ret
  exact ⟨rfl, (Below.refl _ _).alloc (Nat.le_refl _) _⟩
 ·rcases c with rfl | rfl | rfl | rfl | rfl | rfl <;>
  ·have HB := Lib.hid h
   clear h
   go_enter Tryz.func73, Tryz.ntmps73
   go_wp2_with (go_at_call 99; refine (In_is _ _ _ _ id b _ (by decide) (lit_nums w _ _ .i64 3 rfl) HB.out).mono ?_; rintro e w' ⟨j, rfl, hj, rfl⟩)
   go_ret
   exact ⟨rfl, (Below.refl _ _).alloc (Nat.le_refl _) _⟩
 ·have HB := Lib.hid h
  clear h
  go_enter Tryz.func73, Tryz.ntmps73
  go_wp2_with (go_at_call 99; refine (In_is _ _ _ _ id b _ (by decide) (lit_nums w _ _ .i64 3 rfl) HB.out).mono ?_; rintro e w' ⟨j, rfl, hj, rfl⟩)
  go_ret
  exact ⟨rfl, (Below.refl _ _).alloc (Nat.le_refl _) _⟩
 ·have HB := Lib.hid h
  clear h
  go_enter Tryz.func73, Tryz.ntmps73
  go_wp2_with (go_at_call 99; refine (In_is _ _ _ _ id b _ (by decide) (lit_nums w _ _ .i64 3 rfl) HB.out).mono ?_; rintro e w' ⟨j, rfl, hj, rfl⟩)
  go_ret
  exact ⟨rfl, (Below.refl _ _).alloc (Nat.le_refl _) _⟩
 ·have HB := Lib.hid h
  clear h
  go_enter Tryz.func73, Tryz.ntmps73
  go_wp2_with (go_at_call 99; refine (In_is _ _ _ _ id b _ (by decide) (lit_nums w _ _ .i64 3 rfl) HB.out).mono ?_; rintro e w' ⟨j, rfl, hj, rfl⟩)
  go_ret
  exact ⟨rfl, (Below.refl _ _).alloc (Nat.le_refl _) _⟩
 ·have HB := Lib.hid h
  clear h
  go_enter Tryz.func73, Tryz.ntmps73
  go_wp2_with (go_at_call 99; refine (In_is _ _ _ _ id b _ (by decide) (lit_nums w _ _ .i64 3 rfl) HB.out).mono ?_; rintro e w' ⟨j, rfl, hj, rfl⟩)
  go_ret
  exact ⟨rfl, (Below.refl _ _).alloc (Nat.le_refl _) _⟩
 ·unfold standB at h
  rw [stand_none c] at h
  have HB := Lib.hid h
  clear h
  obtain ⟨n0, n1, n2, n3, ⟨n4, n5, n6, n7, n9, n11⟩, n8, n10, n14, n15⟩ := c
  replace n0 := ne_false n0
  replace n1 := ne_false n1
  replace n2 := ne_false n2
  replace n3 := ne_false n3
  replace n4 := ne_false n4
  replace n5 := ne_false n5
  replace n6 := ne_false n6
  replace n7 := ne_false n7
  replace n9 := ne_false n9
  replace n11 := ne_false n11
  replace n8 := ne_false n8
  replace n10 := ne_false n10
  replace n14 := ne_false n14
  replace n15 := ne_false n15
  go_enter Tryz.func73, Tryz.ntmps73
  go_wp2_with (go_at_call 99; refine (In_is [] _ _ 0 id b _ (by decide) (.inl rfl) HB.out).mono ?_; rintro e w' ⟨j, rfl, hj, rfl⟩)
  go_ret
  exact ⟨rfl, Below.refl _ _⟩
open Go.RowKit Go.Lib Prp
theorem any_at {l : List P} {id : Int} {k : Nat} (hk : k < l.length) (h : l[k].id = id) : (l.any fun q => decide (q.id = id)) = true := by
 rw [List.any_eq_true]
 exact ⟨l[k], List.getElem_mem hk, decide_eq_true h⟩
theorem any_not {l : List P} {id : Int} (h : ∀ j (hj : j < l.length), l[j].id ≠ id) : (l.any fun q => decide (q.id = id)) = false := by
 rw [Bool.eq_false_iff]
 intro hc
 rw [List.any_eq_true] at hc
 obtain ⟨q, hq, he⟩ := hc
 obtain ⟨j, hj, rfl⟩ := List.getElem_of_mem hq
 exact h j hj (of_decide_eq_true he)
theorem twice_rep {place id : Int} {l : List P} (h : repB place id = true) : twiceB place id l = false := by unfold twiceB; rw [h]; rfl
theorem twice_at {place id : Int} {l : List P} {k : Nat} (h : repB place id = false) (hk : k < l.length) (he : l[k].id = id) : twiceB place id l = true := by unfold twiceB; rw [h, any_at hk he]; rfl
theorem twice_not {place id : Int} {l : List P} (h : repB place id = true ∨ ∀ j (hj : j < l.length), l[j].id ≠ id) : twiceB place id l = false := by
 rcases h with h | h
 ·exact twice_rep h
 ·unfold twiceB; rw [any_not h, Bool.and_false]
theorem twice_is (place id : Int) (l : List P) (A : Option Addr) (c B : Nat) (b : Bool) (w : World) (hm : l.length ≤ 9223372036854775807) (h : PropsAt w B A l) (hb : twiceB place id l = b) :
  Calls Tryz.prog 74 #[.int .i64 place, .int .i64 id, .slice A l.length c] w fun e w' => e = .returned (.bool b) ∧ w = w' := by
 have H := Lib.hid h
 have HB := Lib.hid hb
 clear h hb
 by_cases h38 : id = 38
 ·subst h38
  have HT := Lib.hid (HB.out.symm.trans (twice_rep (by unfold repB; exact decide_eq_true (.inl rfl))))
  clear HB
  go_enter Tryz.func74, Tryz.ntmps74
  go_wp2
  go_ret
  exact ⟨ret_bool HT.out.symm, rfl⟩
 have b38 := ne_false h38
 by_cases h11 : id = 11 ∧ place = 3
 ·obtain ⟨rfl, rfl⟩ := h11
  have HT := Lib.hid (HB.out.symm.trans (twice_rep (by unfold repB; exact decide_eq_true (.inr ⟨rfl, rfl⟩))))
  clear HB
  go_enter Tryz.func74, Tryz.ntmps74
  go_wp2
  go_ret
  exact ⟨ret_bool HT.out.symm, rfl⟩
 have HR : Hid (repB place id = false) := by show _ = _; unfold repB; exact decide_eq_false (by omega)
 have hg : ((id == 11) = false) ∨ ((id == 11) = true ∧ (place == 3) = false) := by
  by_cases e : id = 11
  ·right; exact ⟨by rw [beq_iff_eq]; exact e, ne_false (fun e3 => h11 ⟨e, e3⟩)⟩
  ·left; exact ne_false e
 rcases hg with hg | ⟨hg, hg3⟩
 all_goals
  go_enter Tryz.func74, Tryz.ntmps74
  go_wp2_with fail
  go_loop [7] (fun i => ∃ k : Nat, k ≤ l.length ∧ i = .int .i64 (k : Int) ∧ ∀ j (hj : j < l.length), j < k → l[j].id ≠ id) (fun i => l.length - (RowKit.intOf i).toNat)
  case atStart => exact ⟨0, Nat.zero_le _, rfl, fun j hj hk => by omega⟩
  case round =>
   obtain ⟨k, hk, rfl, hne⟩ := hrel
   have HN := Lib.hid hne
   clear hne
   by_cases hlt : k < l.length
   ·obtain ⟨bb, o, rfl, _, hc⟩ := H.out.some_ (by omega)
    have h1 := (hc k hlt).c0
    clear hc H
    have hkI : (k : Int) < (l.length : Int) := by omega
    obtain ⟨y, hy⟩ : ∃ y, l[k].id = y := ⟨_, rfl⟩
    rw [hy] at h1
    by_cases hyx : y = id
    ·have HT := Lib.hid (HB.out.symm.trans (twice_at HR.out hlt (hy.trans hyx)))
     have bb := show (y == id) = true by rw [beq_iff_eq]; exact hyx
     clear hy HN HB hyx
     go_wp2
     go_ret
     exact ⟨ret_bool HT.out.symm, rfl⟩
    ·have bb := ne_false hyx
     have HY := Lib.hid hy
     have HYX := Lib.hid hyx
     clear hy hyx
     go_wp2
     go_round
     case rel => exact ⟨k + 1, hlt, by go_num, fun j hj hjk => by
      by_cases e : j = k
      ·subst e; rw [HY.out]; exact HYX.out
      ·exact HN.out j hj (by omega)⟩
     case measure => simp [RowKit.intOf]; omega
   ·obtain rfl : k = l.length := by omega
    have HT := Lib.hid (HB.out.symm.trans (twice_not (.inr fun j hj => HN.out j hj hj)))
    clear HN HB H
    go_wp2
    go_ret
    exact ⟨ret_bool HT.out.symm, rfl⟩
theorem mayFollow_is (place id n : Int) (s v : ByteArray) (l : List P) (A : Option Addr) (c : Nat) (b : Bool) (w : World) (hm : l.length ≤ 9223372036854775807) (h : PropsAt w w.heap.size A l) (hb : mayB place l ⟨id, n, s, v⟩ = b) :
  Calls Tryz.prog 112 #[.int .i64 place, .slice A l.length c, .agg #[.int .i64 id, .int .i64 n, .string s, .string v]] w fun e w' => e = .returned (.bool b) ∧ Below w.heap.size w w' := by
 have H := Lib.hid h
 unfold mayB at hb
 have HB := Lib.hid hb
 clear h hb
 obtain ⟨x, hx⟩ : ∃ x, standB place id = x := ⟨_, rfl⟩
 have HS := Lib.hid (fun W => mayStand_is place id x W hx)
 obtain ⟨y, hy⟩ : ∃ y, haveB id n = y := ⟨_, rfl⟩
 have HV := Lib.hid (fun W => mayHave_is id n y W hy)
 obtain ⟨z, hz⟩ : ∃ z, repB place id = z := ⟨_, rfl⟩
 have HR := Lib.hid (fun W => mayRepeat_is place id z W hz)
 have HZ := Lib.hid hz
 have hbb := HB.out
 simp only [hx, hy] at hbb
 have HC := Lib.hid hbb
 clear hx hy hz hbb HB
 cases x with
 | false =>
  have HT := Lib.hid HC.out
  clear HC
  go_enter Tryz.func112, Tryz.ntmps112
  go_wp2_with fail
  have HK := Lib.hid (Keep.new w 99 #[.int .i64 id, .int .i64 n, .string s, .string v])
  refine (HS.out _).mono ?_
  rintro e w1 ⟨rfl, hb1⟩
  have HK1 := Lib.hid (HK.out.below hb1)
  clear hb1 HK HS
  go_wp2_with fail
  go_ret
  exact ⟨ret_bool HT.out, HK1.out.out.2⟩
 | true =>
  cases y with
  | false =>
   have HT := Lib.hid HC.out
   clear HC
   go_enter Tryz.func112, Tryz.ntmps112
   go_wp2_with fail
   have HK := Lib.hid (Keep.new w 99 #[.int .i64 id, .int .i64 n, .string s, .string v])
   refine (HS.out _).mono ?_
   rintro e w1 ⟨rfl, hb1⟩
   have HK1 := Lib.hid (HK.out.below hb1)
   clear hb1 HK HS
   obtain ⟨c0, c1, c2, c3⟩ := HK1.out.four
   go_wp2_with (go_at_call 137; refine (HV.out _).mono ?_; rintro e w' ⟨rfl, rfl⟩)
   go_ret
   exact ⟨ret_bool HT.out, HK1.out.out.2⟩
  | true =>
   go_enter Tryz.func112, Tryz.ntmps112
   go_wp2_with fail
   have HK := Lib.hid (Keep.new w 99 #[.int .i64 id, .int .i64 n, .string s, .string v])
   refine (HS.out _).mono ?_
   rintro e w1 ⟨rfl, hb1⟩
   have HK1 := Lib.hid (HK.out.below hb1)
   clear hb1 HK HS
   obtain ⟨c0, c1, c2, c3⟩ := HK1.out.four
   obtain ⟨g, hg⟩ : ∃ g, w.heap.size = g := ⟨_, rfl⟩
   rw [hg] at c0 c1 c2 c3 HK1
   go_wp2_with (go_at_call 137; refine (HV.out _).mono ?_; rintro e w' ⟨rfl, rfl⟩)
   have HH := Lib.hid (H.out.below HK1.out.out.2)
   have HSZ := Lib.hid HK1.out.out.2.size
   clear c0 c1 c2 c3 H
   go_loopw [24] (fun i wr => ∃ k : Nat, k ≤ l.length ∧ i = .int .i64 (k : Int) ∧ Keep w g #[.int .i64 id, .int .i64 n, .string s, .string v] wr ∧ (z = true ∨ ∀ j (hj : j < l.length), j < k → l[j].id ≠ id) ∧ PropsAt wr w.heap.size A l) (fun i _ => l.length - (RowKit.intOf i).toNat)
   case atStart => exact ⟨0, Nat.zero_le _, rfl, HK1.out, .inr fun j hj hk => by omega, HH.out⟩
   case round =>
    obtain ⟨k, hk, rfl, hkeep, hne, hat⟩ := hrel
    have HN := Lib.hid hne
    have HK := Lib.hid hkeep
    have HP := Lib.hid hat
    have HL := Lib.hid hkeep.out.2.size
    clear hne hkeep hat HK1 HH
    by_cases hlt : k < l.length
    ·obtain ⟨b0, o, rfl, hb0, hc⟩ := HP.out.some_ (by omega)
     obtain ⟨d0, d1, d2, d3⟩ := hc k hlt
     clear hc
     obtain ⟨q, hq⟩ : ∃ q, l[k] = q := ⟨_, rfl⟩
     rw [hq] at d0 d1 d2 d3
     have HQ := Lib.hid hq
     clear hq
     obtain ⟨i', n', s', v'⟩ := q
     have c0 := HK.out.four.1
     have hgl : g < wr.heap.size := HK.out.out.1.lt
     have hkI : (k : Int) < (l.length : Int) := by omega
     by_cases hyx : i' = id
     ·subst hyx
      cases z with
      | true =>
       go_wp2_with (go_at_call 138; refine (HR.out _).mono ?_; rintro e w' ⟨rfl, rfl⟩)
       go_roundw
       case rel => exact ⟨k + 1, hlt, by go_num, HK.out.below ((Below.refl _ _).alloc (Nat.le_refl _) _), .inl trivial, HP.out.alloc HL.out _⟩
       case measure => simp [RowKit.intOf]; omega
      | false =>
       have HT := Lib.hid (twice_at (place := place) HZ.out hlt (by rw [HQ.out]))
       go_wp2_with (go_at_call 138; refine (HR.out _).mono ?_; rintro e w' ⟨rfl, rfl⟩)
       go_ret
       exact ⟨ret_bool (by rw [← HC.out, HT.out]; rfl), HK.out.out.2.alloc HL.out _⟩
     ·have bb := ne_false hyx
      have HYX := Lib.hid hyx
      clear hyx
      go_wp2_with fail
      go_roundw
      case rel => exact ⟨k + 1, hlt, by go_num, HK.out.below ((Below.refl _ _).alloc (Nat.le_refl _) _), HN.out.imp (fun e => e) (fun hn j hj hjk => by
       by_cases e : j = k
       ·subst e; rw [HQ.out]; exact HYX.out
       ·exact hn j hj (by omega)), HP.out.alloc HL.out _⟩
      case measure => simp [RowKit.intOf]; omega
    ·obtain rfl : k = l.length := by omega
     have HT := Lib.hid (twice_not (place := place) (HN.out.imp (fun e => HZ.out.trans e) (fun hn j hj => hn j hj hj)))
     clear HN
     go_wp2_with fail
     go_ret
     exact ⟨ret_bool (by rw [← HC.out, HT.out]; rfl), HK.out.out.2⟩
end Go.Proofs.YtdbbcfohjkgdcaaGreat
