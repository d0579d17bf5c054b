/- Package prop: the bytes of properties at a place. -/
import Derived.Test.YtdbbcfohjkgdcaaGreatL00
import Derived.Test.YtdbbcfohjkgdcaaGreatL08
set_option maxRecDepth 100000
set_option maxHeartbeats 64000000
namespace Go.Proofs.YtdbbcfohjkgdcaaGreat
open Go.RowKit Go.Lib Prp Vbi
theorem tk_strip {k id : Int} {s : ByteArray} (hk0 : 0 ≤ k) (hk7 : k ≤ 7) (hk : k ≠ 0) : strip k ⟨id, (tk k s).n, (tk k s).a, (tk k s).b⟩ = ⟨id, (tk k s).n, (tk k s).a, (tk k s).b⟩ := by
 have fx : ∀ wd, (tkFix wd s).a = ⟨#[]⟩ ∧ (tkFix wd s).b = ⟨#[]⟩ := fun wd => by rcases fx_cases wd s with ⟨_, e, _, _⟩ | ⟨_, e, _, _⟩ <;> rw [e] <;> exact ⟨rfl, rfl⟩
 rcases kind_seven hk0 hk7 hk with rfl | rfl | rfl | rfl | rfl | rfl | rfl
 ·show (⟨id, (tkFix 1 s).n, ⟨#[]⟩, ⟨#[]⟩⟩ : P) = ⟨id, (tkFix 1 s).n, (tkFix 1 s).a, (tkFix 1 s).b⟩
  rw [(fx 1).1, (fx 1).2]
 ·show (⟨id, (tkFix 2 s).n, ⟨#[]⟩, ⟨#[]⟩⟩ : P) = ⟨id, (tkFix 2 s).n, (tkFix 2 s).a, (tkFix 2 s).b⟩
  rw [(fx 2).1, (fx 2).2]
 ·show (⟨id, (tkFix 4 s).n, ⟨#[]⟩, ⟨#[]⟩⟩ : P) = ⟨id, (tkFix 4 s).n, (tkFix 4 s).a, (tkFix 4 s).b⟩
  rw [(fx 4).1, (fx 4).2]
 ·rfl
 ·rfl
 ·rfl
 ·have hn : (tkTwo s).n = 0 := by
   by_cases h : (tl true s).2.2 = 0
   ·by_cases h2 : (tl true (s.extract (tl true s).2.1.toNat s.size)).2.2 = 0
    ·rw [two_good h h2]
    ·rw [two_bad2 h h2]; rfl
   ·rw [two_bad1 h]; rfl
  show (⟨id, 0, (tkTwo s).a, (tkTwo s).b⟩ : P) = ⟨id, (tkTwo s).n, (tkTwo s).a, (tkTwo s).b⟩
  rw [hn]
theorem id_at {s : ByteArray} (h : 0 < s.size) : idOf s = (s[0].toNat : Int) := by
 unfold idOf
 have hd := data_at s 0 h
 rw [List.drop_zero] at hd
 rw [hd]; rfl
theorem takeOne_is (s a b : ByteArray) (i n K E : Int) (w : World) (hs0 : 0 < s.size) (hs : s.size ≤ 281474976710656) (h : tone s = (⟨i, n, a, b⟩, K, E)) :
  Calls Tryz.prog 167 #[.string s] w fun e w' => e = .returned (.tuple #[.agg #[.int .i64 i, .int .i64 n, .string a, .string b], .int .i64 K, .int .i64 E]) ∧ Below w.heap.size w w' := by
 have hid := id_at hs0
 have hb0 := s[0].toNat_lt
 rcases tone_cases s with ⟨hk, e⟩ | ⟨hk, he, e⟩ | ⟨hk, he, e⟩
 ·rw [e] at h
  obtain ⟨⟨rfl, rfl, rfl, rfl⟩, rfl, rfl⟩ : ((0 : Int) = i ∧ (0 : Int) = n ∧ (⟨#[]⟩ : ByteArray) = a ∧ (⟨#[]⟩ : ByteArray) = b) ∧ (0 : Int) = K ∧ (8 : Int) = E := by
   injection h with h1 h2
   injection h2 with h2 h3
   unfold pz at h1
   injection h1 with x1 x2 x3 x4
   exact ⟨⟨x1, x2, x3, x4⟩, h2, h3⟩
  rw [hid] at hk
  have HK := Lib.hid (fun W => Kind_is (s[0].toNat : Int) 0 3 W hk (by unfold kindErr; rw [if_pos hk]))
  clear hk e h hid
  go_enter Tryz.func167, Tryz.ntmps167
  go_wp2_with (go_at_call 139; refine (HK.out _).mono ?_; rintro e w' ⟨rfl, rfl⟩)
  refine bodyPost_ret (v := .tuple #[.agg #[.int .i64 0, .int .i64 0, .string ⟨#[]⟩, .string ⟨#[]⟩], .int .i64 0, .int .i64 8]) (by simp [results, Tryz.results167, go_sem]) rfl ⟨rfl, ?_⟩
  exact (Below.refl _ _).alloc (Nat.le_refl _) _
 ·rw [e] at h
  obtain ⟨k, hkk⟩ : ∃ k, kindZ (idOf s) = k := ⟨_, rfl⟩
  rw [hkk] at h hk he
  have hr := kind_range (idOf s)
  rw [hkk] at hr
  have HK := Lib.hid (fun W => Kind_is (s[0].toNat : Int) k 0 W (by rw [← hid]; exact hkk) (by unfold kindErr; rw [← hid, hkk, if_neg hk]))
  have HT := Lib.hid (fun W => take_is k (s.extract 1 s.size) W hr.1 hr.2 hk (by rw [ByteArray.size_extract]; omega))
  obtain ⟨t, ht⟩ : ∃ t, tk k (s.extract 1 s.size) = t := ⟨_, rfl⟩
  rw [ht] at h he HT
  obtain ⟨⟨rfl, rfl, rfl, rfl⟩, rfl, hE⟩ : ((0 : Int) = i ∧ (0 : Int) = n ∧ (⟨#[]⟩ : ByteArray) = a ∧ (⟨#[]⟩ : ByteArray) = b) ∧ (0 : Int) = K ∧ inn t.e = E := by
   injection h with h1 h2
   injection h2 with h2 h3
   unfold pz at h1
   injection h1 with x1 x2 x3 x4
   exact ⟨⟨x1, x2, x3, x4⟩, h2, h3⟩
  obtain ⟨x, hx⟩ : ∃ x, t.e = x := ⟨_, rfl⟩
  have hs1 : (1 : Int) ≤ (s.size : Int) := by omega
  by_cases h7 : x = 7
  ·subst h7
   obtain rfl : 8 = E := by rw [← hE, hx]; rfl
   clear hE h e hkk hid ht he hr
   go_enter Tryz.func167, Tryz.ntmps167
   go_wp2_with (go_at_call 139; refine (HK.out _).mono ?_; rintro e w' ⟨rfl, rfl⟩)
   refine (HT.out _).mono ?_
   rintro e w1 ⟨X, K1, rfl, _, hb1⟩
   have HX := Lib.hid (Keep.mk ((Box.new w 99 #[.int .i64 0, .int .i64 0, .string ⟨#[]⟩, .string ⟨#[]⟩]).below hb1) (((Below.refl w.heap.size w).alloc (Nat.le_refl _) (.cells #[.int .i64 0, .int .i64 0, .string ⟨#[]⟩, .string ⟨#[]⟩] 99)).trans (hb1.mono (by simp))))
   clear hb1 HT HK
   rw [hx]
   clear hx
   have q := HX.out.four
   obtain ⟨q0, q1, q2, q3⟩ := q
   have f0 := HX.out.out.1.frozen 0
   have f1 := HX.out.out.1.frozen 1
   have f2 := HX.out.out.1.frozen 2
   have f3 := HX.out.out.1.frozen 3
   go_wp2_with fail
   refine bodyPost_ret (v := .tuple #[.agg #[.int .i64 0, .int .i64 0, .string ⟨#[]⟩, .string ⟨#[]⟩], .int .i64 0, .int .i64 8]) (by simp [results, Tryz.results167, go_sem, q0, q1, q2, q3]) rfl ⟨rfl, ?_⟩
   exact (((HX.out.out.2.setCell (p := ⟨w.heap.size, 0, none⟩) (Nat.le_refl _) _).setCell (p := ⟨w.heap.size, 1, none⟩) (Nat.le_refl _) _).setCell (p := ⟨w.heap.size, 2, none⟩) (Nat.le_refl _) _).setCell (p := ⟨w.heap.size, 3, none⟩) (Nat.le_refl _) _
  ·have hx0 : x ≠ 0 := by rw [← hx]; exact he
   obtain rfl : x = E := by rw [← hE, hx]; unfold inn; rw [if_neg h7]
   have h7b := ne_false h7
   have h0b := ne_true hx0
   clear hE h e hkk hid ht he hr
   go_enter Tryz.func167, Tryz.ntmps167
   go_wp2_with (go_at_call 139; refine (HK.out _).mono ?_; rintro e w' ⟨rfl, rfl⟩)
   refine (HT.out _).mono ?_
   rintro e w1 ⟨X, K1, rfl, _, hb1⟩
   have HX := Lib.hid (Keep.mk ((Box.new w 99 #[.int .i64 0, .int .i64 0, .string ⟨#[]⟩, .string ⟨#[]⟩]).below hb1) (((Below.refl w.heap.size w).alloc (Nat.le_refl _) (.cells #[.int .i64 0, .int .i64 0, .string ⟨#[]⟩, .string ⟨#[]⟩] 99)).trans (hb1.mono (by simp))))
   clear hb1 HT HK
   rw [hx]
   clear hx
   have q := HX.out.four
   obtain ⟨q0, q1, q2, q3⟩ := q
   have f0 := HX.out.out.1.frozen 0
   have f1 := HX.out.out.1.frozen 1
   have f2 := HX.out.out.1.frozen 2
   have f3 := HX.out.out.1.frozen 3
   go_wp2_with fail
   refine bodyPost_ret (v := .tuple #[.agg #[.int .i64 0, .int .i64 0, .string ⟨#[]⟩, .string ⟨#[]⟩], .int .i64 0, .int .i64 x]) (by simp [results, Tryz.results167, go_sem, q0, q1, q2, q3]) rfl ⟨rfl, ?_⟩
   exact (((HX.out.out.2.setCell (p := ⟨w.heap.size, 0, none⟩) (Nat.le_refl _) _).setCell (p := ⟨w.heap.size, 1, none⟩) (Nat.le_refl _) _).setCell (p := ⟨w.heap.size, 2, none⟩) (Nat.le_refl _) _).setCell (p := ⟨w.heap.size, 3, none⟩) (Nat.le_refl _) _
 ·rw [e] at h
  obtain ⟨k, hkk⟩ : ∃ k, kindZ (idOf s) = k := ⟨_, rfl⟩
  rw [hkk] at h hk he
  have hr := kind_range (idOf s)
  rw [hkk] at hr
  have hbd := tk_bound he
  rw [ByteArray.size_extract] at hbd
  have hst := tk_strip (id := (s[0].toNat : Int)) hr.1 hr.2 hk (s := s.extract 1 s.size)
  have HK := Lib.hid (fun W => Kind_is (s[0].toNat : Int) k 0 W (by rw [← hid]; exact hkk) (by unfold kindErr; rw [← hid, hkk, if_neg hk]))
  have HT := Lib.hid (fun W => take_is k (s.extract 1 s.size) W hr.1 hr.2 hk (by rw [ByteArray.size_extract]; omega))
  rw [hid] at h
  obtain ⟨t, ht⟩ : ∃ t, tk k (s.extract 1 s.size) = t := ⟨_, rfl⟩
  rw [ht] at h he HT hbd hst
  obtain ⟨tn, ta, tb, tk', te⟩ := t
  have h : ((⟨(s[0].toNat : Int), tn, ta, tb⟩ : P), 1 + tk', (0 : Int)) = (⟨i, n, a, b⟩, K, E) := h
  obtain ⟨⟨rfl, rfl, rfl, rfl⟩, rfl, rfl⟩ : ((s[0].toNat : Int) = i ∧ tn = n ∧ ta = a ∧ tb = b) ∧ 1 + tk' = K ∧ (0 : Int) = E := by
   injection h with h1 h2
   injection h2 with h2 h3
   injection h1 with x1 x2 x3 x4
   exact ⟨⟨x1, x2, x3, x4⟩, h2, h3⟩
  obtain rfl : te = 0 := he
  have hst : strip k ⟨(s[0].toNat : Int), tn, ta, tb⟩ = ⟨(s[0].toNat : Int), tn, ta, tb⟩ := hst
  have hbd0 : 0 ≤ tk' := hbd.1
  have hbd1 : tk' ≤ 281474976710656 := by have h9 : tk' ≤ _ := hbd.2; omega
  have HST := Lib.hid hst
  have hs1 : (1 : Int) ≤ (s.size : Int) := by omega
  clear h e hkk hid ht hr hbd hst
  go_enter Tryz.func167, Tryz.ntmps167
  go_wp2_with (go_at_call 139; refine (HK.out _).mono ?_; rintro e w' ⟨rfl, rfl⟩)
  refine (HT.out _).mono ?_
  rintro e w1 ⟨X, K1, rfl, hXK, hb1⟩
  obtain ⟨hX, hK1⟩ := hXK rfl
  obtain rfl : K1 = tk' := hK1
  have HX := Lib.hid (Keep.mk ((Box.new w 99 #[.int .i64 0, .int .i64 0, .string ⟨#[]⟩, .string ⟨#[]⟩]).below hb1) (((Below.refl w.heap.size w).alloc (Nat.le_refl _) (.cells #[.int .i64 0, .int .i64 0, .string ⟨#[]⟩, .string ⟨#[]⟩] 99)).trans (hb1.mono (by simp))))
  have HXE : Hid (anyOf k ⟨(s[0].toNat : Int), tn, ta, tb⟩ = X) := by rw [hX]; exact rfl
  have HO := Lib.hid (fun W => propOf_is k (s[0].toNat : Int) tn (s[0].toNat : Int) tn ta tb ta tb X W HXE.out HST.out)
  clear hb1 HT HK hXK hX
  go_wp2_with fail
  refine (HO.out _).mono ?_
  rintro e w2 ⟨rfl, hb2⟩
  have HX2 := Lib.hid (HX.out.below hb2)
  clear hb2 HX HO HXE HST
  have q := HX2.out.four
  obtain ⟨q0, q1, q2, q3⟩ := q
  have f0 := HX2.out.out.1.frozen 0
  have f1 := HX2.out.out.1.frozen 1
  have f2 := HX2.out.out.1.frozen 2
  have f3 := HX2.out.out.1.frozen 3
  go_wp2_with fail
  refine bodyPost_ret (v := .tuple #[.agg #[.int .i64 (s[0].toNat : Int), .int .i64 tn, .string ta, .string tb], .int .i64 (1 + K1), .int .i64 0]) (by simp [results, Tryz.results167, go_sem, q0, q1, q2, q3]) rfl ⟨?_, ?_⟩
  ·simp
  ·exact (((HX2.out.out.2.setCell (p := ⟨w.heap.size, 0, none⟩) (Nat.le_refl _) _).setCell (p := ⟨w.heap.size, 1, none⟩) (Nat.le_refl _) _).setCell (p := ⟨w.heap.size, 2, none⟩) (Nat.le_refl _) _).setCell (p := ⟨w.heap.size, 3, none⟩) (Nat.le_refl _) _
open Go.RowKit Go.Lib Prp
def Found (b : Bool) (w : World) (e : Ending) (w' : World) : Prop := ∃ j : Int, e = .returned (.int .i64 j) ∧ decide (0 ≤ j) = b ∧ w = w'
theorem contains_at {xs : List Int} {k : Nat} {x : Int} (hk : k < xs.length) (h : xs.getD k 0 = x) : xs.contains x = true := by
 rw [List.contains_iff_mem]
 rw [← h, List.getD_eq_getElem?_getD, List.getElem?_eq_getElem hk]
 exact List.getElem_mem hk
theorem contains_not {xs : List Int} {x : Int} (h : ∀ j, j < xs.length → xs.getD j 0 ≠ x) : xs.contains x = false := by
 rw [Bool.eq_false_iff]
 intro hc
 rw [List.contains_iff_mem] at hc
 obtain ⟨j, hj, he⟩ := List.getElem_of_mem hc
 exact h j hj (by rw [List.getD_eq_getElem?_getD, List.getElem?_eq_getElem hj]; exact he)
theorem In_is (xs : List Int) (A : Option Addr) (c B : Nat) (x : Int) (b : Bool) (w : World) (hm : xs.length ≤ 9223372036854775807) (h : Nums w B .i64 A xs) (hb : xs.contains x = b) :
  Calls Tryz.prog 99 #[.slice A xs.length c, .int .i64 x] w (Found b w) := by
 have H := Lib.hid h
 have HB := Lib.hid hb
 clear h hb
 go_enter Tryz.func99, Tryz.ntmps99
 go_wp2_with fail
 go_loop [5] (fun i => ∃ k : Nat, k ≤ xs.length ∧ i = .int .i64 (k : Int) ∧ ∀ j, j < k → xs.getD j 0 ≠ x) (fun i => xs.length - (RowKit.intOf i).toNat)
 case atStart => exact ⟨0, Nat.zero_le _, rfl, fun j hj => by omega⟩
 case round =>
  obtain ⟨k, hk, rfl, hne⟩ := hrel
  have HN := Lib.hid hne
  clear hne
  by_cases hlt : k < xs.length
  ·obtain ⟨a, rfl, _, hc⟩ := H.out.some_ (by omega)
   have h1 := hc k hlt
   clear hc H
   have hkI : (k : Int) < (xs.length : Int) := by omega
   obtain ⟨y, hy⟩ : ∃ y, xs.getD k 0 = y := ⟨_, rfl⟩
   rw [hy] at h1
   by_cases hyx : y = x
   ·subst hyx
    have HT := Lib.hid (HB.out.symm.trans (contains_at hlt hy))
    clear hy HN HB
    go_wp2
    go_ret
    exact ⟨_, rfl, by rw [HT.out]; exact decide_eq_true (by omega), rfl⟩
   ·have bb := ne_false hyx
    have HY := Lib.hid hy
    clear hy
    go_wp2
    go_round
    case rel => exact ⟨k + 1, hlt, by go_num, fun j hj => by
     by_cases e : j = k
     ·subst e; rw [HY.out]; exact hyx
     ·exact HN.out j (by omega)⟩
    case measure => simp [RowKit.intOf]; omega
  ·obtain rfl : k = xs.length := by omega
   have HT := Lib.hid (HB.out.symm.trans (contains_not HN.out))
   clear HN HB H
   go_wp2
   go_ret
   exact ⟨_, rfl, by rw [HT.out]; rfl, rfl⟩
open Go.RowKit Go.Lib Prp
theorem Nums.at_ {w : World} {B : Nat} {A : Option Addr} {xs : List Int} (h : Nums w B .i64 A xs) (hx : 0 < xs.length) : ∃ b o, A = some ⟨b, o, none⟩ ∧ ∀ j, j < xs.length → w.cell? ⟨b, o + j, none⟩ = some (.int .i64 (xs.getD j 0)) := by
 obtain ⟨⟨b, o, s⟩, rfl, _, hc⟩ := h.some_ hx
 have h0 := hc 0 hx
 have hs : s = none := by
  have := World.cell?_spot h0
  simpa [Addr.add] using this
 subst hs
 refine ⟨b, o, rfl, fun j hj => ?_⟩
 have := hc j hj
 unfold Addr.add at this
 split at this
 ·next e => subst e; simpa using this
 ·exact this
theorem Contains_is (xs : List Int) (A : Option Addr) (c B : Nat) (x : Int) (b : Bool) (w : World) (hm : xs.length ≤ 9223372036854775807) (h : Nums w B .i64 A xs) (hb : xs.contains x = b) :
  Calls Tryz.prog 158 #[.slice A xs.length c, .int .i64 x] w fun e w' => e = .returned (.bool b) ∧ w = w' := by
 subst hb
 rcases Nat.eq_zero_or_pos xs.length with h0 | h0
 ·obtain rfl : xs = [] := List.eq_nil_of_length_eq_zero h0
  exact (Tryz.slices_Contains_int_empty A c x w).mono fun _ _ h => ⟨h.1, h.2.symm⟩
 ·obtain ⟨b, o, rfl, hc⟩ := h.at_ h0
  refine (Tryz.slices_Contains_int b o xs.length c xs x w (Nat.le_refl _) hm hc).mono fun _ _ h => ⟨?_, h.2.symm⟩
  rw [h.1, List.take_length]
theorem stand_len (place : Int) : (standL place).length ≤ 17 := by
 rcases place_cases place with rfl | rfl | rfl | rfl | c | rfl | rfl | rfl | rfl | c
 all_goals first | (rw [stand_none c]; decide) | (rcases c with rfl | rfl | rfl | rfl | rfl | rfl <;> decide) | decide
theorem idsAt_is (place : Int) (w : World) : Calls Tryz.prog 159 #[.int .i64 place] w (GivesNums .i64 (standL place) w) := by
 rcases place_cases place with rfl | rfl | rfl | rfl | c | rfl | rfl | rfl | rfl | c
 ·go_enter Tryz.func159, Tryz.ntmps159
  go_wp2
  go_ret
  exact gives_lit w _ _ _ _ _ rfl rfl
 ·go_enter Tryz.func159, Tryz.ntmps159
  go_wp2
  go_ret
  exact gives_lit w _ _ _ _ _ rfl rfl
 ·go_enter Tryz.func159, Tryz.ntmps159
  go_wp2
  go_ret
  exact gives_lit w _ _ _ _ _ rfl rfl
 ·go_enter Tryz.func159, Tryz.ntmps159
  go_wp2
  go_ret
  exact gives_lit w _ _ _ _ _ rfl rfl
 ·rcases c with rfl | rfl | rfl | rfl | rfl | rfl <;>
  ·go_enter Tryz.func159, Tryz.ntmps159
   go_wp2
   go_ret
   exact gives_lit w _ _ _ _ _ rfl rfl
 ·go_enter Tryz.func159, Tryz.ntmps159
  go_wp2
  go_ret
  exact gives_lit w _ _ _ _ _ rfl rfl
 ·go_enter Tryz.func159, Tryz.ntmps159
  go_wp2
  go_ret
  exact gives_lit w _ _ _ _ _ rfl rfl
 ·go_enter Tryz.func159, Tryz.ntmps159
  go_wp2
  go_ret
  exact gives_lit w _ _ _ _ _ rfl rfl
 ·go_enter Tryz.func159, Tryz.ntmps159
  go_wp2
  go_ret
  exact gives_lit w _ _ _ _ _ rfl rfl
 ·have HN := Lib.hid (stand_none c)
  obtain ⟨n0, n1, n2, n3, ⟨n4, n5, n6, n7, n9, n11⟩, n8, n10, n14, n15⟩ := c
  replace n0 := ne_false n0
  replace n1 := ne_false n1
  replace n2 := ne_false n2
  replace n3 := ne_false n3
  replace n4 := ne_false n4
  replace n5 := ne_false n5
  replace n6 := ne_false n6
  replace n7 := ne_false n7
  replace n9 := ne_false n9
  replace n11 := ne_false n11
  replace n8 := ne_false n8
  replace n10 := ne_false n10
  replace n14 := ne_false n14
  replace n15 := ne_false n15
  go_enter Tryz.func159, Tryz.ntmps159
  go_wp2
  go_ret
  rw [HN.out]
  exact ⟨none, 0, rfl, .inl rfl, Below.refl _ _⟩
theorem mayStand_is (place id : Int) (b : Bool) (w : World) (h : standB place id = b) :
  Calls Tryz.prog 136 #[.int .i64 place, .int .i64 id] w fun e w' => e = .returned (.bool b) ∧ Below w.heap.size w w' := by
 have HL := Lib.hid (stand_len place)
 obtain ⟨xs, hx⟩ : ∃ xs, standL place = xs := ⟨_, rfl⟩
 have HI := Lib.hid (fun W => idsAt_is place W)
 unfold standB at h
 rw [hx] at h HI HL
 have HB := Lib.hid h
 clear h hx
 go_enter Tryz.func136, Tryz.ntmps136
 go_wp2_with fail
 refine (HI.out _).mono ?_
 rintro e w1 ⟨A, c, rfl, hn, hb⟩
 have HN := Lib.hid hn
 have HX := Lib.hid hb
 clear hn hb
 go_wp2_with (go_at_call 158; refine (Contains_is xs A c _ id b _ (by have := HL.out; omega) HN.out HB.out).mono ?_; rintro e w' ⟨rfl, rfl⟩)
 go_ret
 exact ⟨rfl, HX.out⟩
theorem stands_is (place id : Int) (b : Bool) (w : World) (h : standB place id = b) :
  Calls Tryz.prog 73 #[.int .i64 place, .int .i64 id] w fun e w' => e = .returned (.bool b) ∧ Below w.heap.size w w' := by
 rcases place_cases place with rfl | rfl | rfl | rfl | c | rfl | rfl | rfl | rfl | c
 ·have HB := Lib.hid h
  clear h
  go_enter Tryz.func73, Tryz.ntmps73
  go_wp2_with (go_at_call 99; refine (In_is _ _ _ _ id b _ (by decide) (lit_nums w _ _ .i64 3 rfl) HB.out).mono ?_; rintro e w' ⟨j, rfl, hj, rfl⟩)
  go_ret
  exact ⟨rfl, (Below.refl _ _).alloc (Nat.le_refl _) _⟩
 ·have HB := Lib.hid h
  clear h
  go_enter Tryz.func73, Tryz.ntmps73
  go_wp2_with (go_at_call 99; refine (In_is _ _ _ _ id b _ (by decide) (lit_nums w _ _ .i64 3 rfl) HB.out).mono ?_; rintro e w' ⟨j, rfl, hj, rfl⟩)
  go_ret
  exact ⟨rfl, (Below.refl _ _).alloc (Nat.le_refl _) _⟩
 ·have HB := Lib.hid h
  clear h
  go_enter Tryz.func73, Tryz.ntmps73
  go_wp2_with (go_at_call 99; refine (In_is _ _ _ _ id b _ (by decide) (lit_nums w _ _ .i64 3 rfl) HB.out).mono ?_; rintro e w' ⟨j, rfl, hj, rfl⟩)
  go_ret
  exact ⟨rfl, (Below.refl _ _).alloc (Nat.le_refl _) _⟩
 ·have HB := Lib.hid h
  clear h
  go_enter Tryz.func73, Tryz.ntmps73
  go_wp2_with (go_at_call 99; refine (In_is _ _ _ _ id b _ (by decide) (lit_nums w _ _ .i64 3 rfl) HB.out).mono ?_; rintro e w' ⟨j, rfl, hj, rfl⟩)
  go_ret
  exact ⟨rfl, (Below.refl _ _).alloc (Nat.le_refl _) _⟩
 ·rcases c with rfl | rfl | rfl | rfl | rfl | rfl <;>
  ·have HB := Lib.hid h
   clear h
   go_enter Tryz.func73, Tryz.ntmps73
   go_wp2_with (go_at_call 99; refine (In_is _ _ _ _ id b _ (by decide) (lit_nums w _ _ .i64 3 rfl) HB.out).mono ?_; rintro e w' ⟨j, rfl, hj, rfl⟩)
   go_ret
   exact ⟨rfl, (Below.refl _ _).alloc (Nat.le_refl _) _⟩
 ·have HB := Lib.hid h
  clear h
  go_enter Tryz.func73, Tryz.ntmps73
  go_wp2_with (go_at_call 99; refine (In_is _ _ _ _ id b _ (by decide) (lit_nums w _ _ .i64 3 rfl) HB.out).mono ?_; rintro e w' ⟨j, rfl, hj, rfl⟩)
  go_ret
  exact ⟨rfl, (Below.refl _ _).alloc (Nat.le_refl _) _⟩
 ·have HB := Lib.hid h
  clear h
  go_enter Tryz.func73, Tryz.ntmps73
  go_wp2_with (go_at_call 99; refine (In_is _ _ _ _ id b _ (by decide) (lit_nums w _ _ .i64 3 rfl) HB.out).mono ?_; rintro e w' ⟨j, rfl, hj, rfl⟩)
  go_ret
  exact ⟨rfl, (Below.refl _ _).alloc (Nat.le_refl _) _⟩
 ·have HB := Lib.hid h
  clear h
  go_enter Tryz.func73, Tryz.ntmps73
  go_wp2_with (go_at_call 99; refine (In_is _ _ _ _ id b _ (by decide) (lit_nums w _ _ .i64 3 rfl) HB.out).mono ?_; rintro e w' ⟨j, rfl, hj, rfl⟩)
  go_ret
  exact ⟨rfl, (Below.refl _ _).alloc (Nat.le_refl _) _⟩
 ·have HB := Lib.hid h
  clear h
  go_enter Tryz.func73, Tryz.ntmps73
  go_wp2_with (go_at_call 99; refine (In_is _ _ _ _ id b _ (by decide) (lit_nums w _ _ .i64 3 rfl) HB.out).mono ?_; rintro e w' ⟨j, rfl, hj, rfl⟩)
  go_ret
  exact ⟨rfl, (Below.refl _ _).alloc (Nat.le_refl _) _⟩
 ·unfold standB at h
  rw [stand_none c] at h
  have HB := Lib.hid h
  clear h
  obtain ⟨n0, n1, n2, n3, ⟨n4, n5, n6, n7, n9, n11⟩, n8, n10, n14, n15⟩ := c
  replace n0 := ne_false n0
  replace n1 := ne_false n1
  replace n2 := ne_false n2
  replace n3 := ne_false n3
  replace n4 := ne_false n4
  replace n5 := ne_false n5
  replace n6 := ne_false n6
  replace n7 := ne_false n7
  replace n9 := ne_false n9
  replace n11 := ne_false n11
  replace n8 := ne_false n8
  replace n10 := ne_false n10
  replace n14 := ne_false n14
  replace n15 := ne_false n15
  go_enter Tryz.func73, Tryz.ntmps73
  go_wp2_with (go_at_call 99; refine (In_is [] _ _ 0 id b _ (by decide) (.inl rfl) HB.out).mono ?_; rintro e w' ⟨j, rfl, hj, rfl⟩)
  go_ret
  exact ⟨rfl, Below.refl _ _⟩
open Go.RowKit Go.Lib Prp
theorem any_at {l : List P} {id : Int} {k : Nat} (hk : k < l.length) (h : l[k].id = id) : (l.any fun q => decide (q.id = id)) = true := by
 rw [List.any_eq_true]
 exact ⟨l[k], List.getElem_mem hk, decide_eq_true h⟩
theorem any_not {l : List P} {id : Int} (h : ∀ j (hj : j < l.length), l[j].id ≠ id) : (l.any fun q => decide (q.id = id)) = false := by
 rw [Bool.eq_false_iff]
 intro hc
 rw [List.any_eq_true] at hc
 obtain ⟨q, hq, he⟩ := hc
 obtain ⟨j, hj, rfl⟩ := List.getElem_of_mem hq
 exact h j hj (of_decide_eq_true he)
theorem twice_rep {place id : Int} {l : List P} (h : repB place id = true) : twiceB place id l = false := by unfold twiceB; rw [h]; rfl
theorem twice_at {place id : Int} {l : List P} {k : Nat} (h : repB place id = false) (hk : k < l.length) (he : l[k].id = id) : twiceB place id l = true := by unfold twiceB; rw [h, any_at hk he]; rfl
theorem twice_not {place id : Int} {l : List P} (h : repB place id = true ∨ ∀ j (hj : j < l.length), l[j].id ≠ id) : twiceB place id l = false := by
 rcases h with h | h
 ·exact twice_rep h
 ·unfold twiceB; rw [any_not h, Bool.and_false]
theorem twice_is (place id : Int) (l : List P) (A : Option Addr) (c B : Nat) (b : Bool) (w : World) (hm : l.length ≤ 9223372036854775807) (h : PropsAt w B A l) (hb : twiceB place id l = b) :
  Calls Tryz.prog 74 #[.int .i64 place, .int .i64 id, .slice A l.length c] w fun e w' => e = .returned (.bool b) ∧ w = w' := by
 have H := Lib.hid h
 have HB := Lib.hid hb
 clear h hb
 by_cases h38 : id = 38
 ·subst h38
  have HT := Lib.hid (HB.out.symm.trans (twice_rep (by unfold repB; exact decide_eq_true (.inl rfl))))
  clear HB
  go_enter Tryz.func74, Tryz.ntmps74
  go_wp2
  go_ret
  exact ⟨ret_bool HT.out.symm, rfl⟩
 have b38 := ne_false h38
 by_cases h11 : id = 11 ∧ place = 3
 ·obtain ⟨rfl, rfl⟩ := h11
  have HT := Lib.hid (HB.out.symm.trans (twice_rep (by unfold repB; exact decide_eq_true (.inr ⟨rfl, rfl⟩))))
  clear HB
  go_enter Tryz.func74, Tryz.ntmps74
  go_wp2
  go_ret
  exact ⟨ret_bool HT.out.symm, rfl⟩
 have HR : Hid (repB place id = false) := by show _ = _; unfold repB; exact decide_eq_false (by omega)
 have hg : ((id == 11) = false) ∨ ((id == 11) = true ∧ (place == 3) = false) := by
  by_cases e : id = 11
  ·right; exact ⟨by rw [beq_iff_eq]; exact e, ne_false (fun e3 => h11 ⟨e, e3⟩)⟩
  ·left; exact ne_false e
 rcases hg with hg | ⟨hg, hg3⟩
 all_goals
  go_enter Tryz.func74, Tryz.ntmps74
  go_wp2_with fail
  go_loop [7] (fun i => ∃ k : Nat, k ≤ l.length ∧ i = .int .i64 (k : Int) ∧ ∀ j (hj : j < l.length), j < k → l[j].id ≠ id) (fun i => l.length - (RowKit.intOf i).toNat)
  case atStart => exact ⟨0, Nat.zero_le _, rfl, fun j hj hk => by omega⟩
  case round =>
   obtain ⟨k, hk, rfl, hne⟩ := hrel
   have HN := Lib.hid hne
   clear hne
   by_cases hlt : k < l.length
   ·obtain ⟨bb, o, rfl, _, hc⟩ := H.out.some_ (by omega)
    have h1 := (hc k hlt).c0
    clear hc H
    have hkI : (k : Int) < (l.length : Int) := by omega
    obtain ⟨y, hy⟩ : ∃ y, l[k].id = y := ⟨_, rfl⟩
    rw [hy] at h1
    by_cases hyx : y = id
    ·have HT := Lib.hid (HB.out.symm.trans (twice_at HR.out hlt (hy.trans hyx)))
     have bb := show (y == id) = true by rw [beq_iff_eq]; exact hyx
     clear hy HN HB hyx
     go_wp2
     go_ret
     exact ⟨ret_bool HT.out.symm, rfl⟩
    ·have bb := ne_false hyx
     have HY := Lib.hid hy
     have HYX := Lib.hid hyx
     clear hy hyx
     go_wp2
     go_round
     case rel => exact ⟨k + 1, hlt, by go_num, fun j hj hjk => by
      by_cases e : j = k
      ·subst e; rw [HY.out]; exact HYX.out
      ·exact HN.out j hj (by omega)⟩
     case measure => simp [RowKit.intOf]; omega
   ·obtain rfl : k = l.length := by omega
    have HT := Lib.hid (HB.out.symm.trans (twice_not (.inr fun j hj => HN.out j hj hj)))
    clear HN HB H
    go_wp2
    go_ret
    exact ⟨ret_bool HT.out.symm, rfl⟩
theorem mayFollow_is (place id n : Int) (s v : ByteArray) (l : List P) (A : Option Addr) (c : Nat) (b : Bool) (w : World) (hm : l.length ≤ 9223372036854775807) (h : PropsAt w w.heap.size A l) (hb : mayB place l ⟨id, n, s, v⟩ = b) :
  Calls Tryz.prog 112 #[.int .i64 place, .slice A l.length c, .agg #[.int .i64 id, .int .i64 n, .string s, .string v]] w fun e w' => e = .returned (.bool b) ∧ Below w.heap.size w w' := by
 have H := Lib.hid h
 unfold mayB at hb
 have HB := Lib.hid hb
 clear h hb
 obtain ⟨x, hx⟩ : ∃ x, standB place id = x := ⟨_, rfl⟩
 have HS := Lib.hid (fun W => mayStand_is place id x W hx)
 obtain ⟨y, hy⟩ : ∃ y, haveB id n = y := ⟨_, rfl⟩
 have HV := Lib.hid (fun W => mayHave_is id n y W hy)
 obtain ⟨z, hz⟩ : ∃ z, repB place id = z := ⟨_, rfl⟩
 have HR := Lib.hid (fun W => mayRepeat_is place id z W hz)
 have HZ := Lib.hid hz
 have hbb := HB.out
 simp only [hx, hy] at hbb
 have HC := Lib.hid hbb
 clear hx hy hz hbb HB
 cases x with
 | false =>
  have HT := Lib.hid HC.out
  clear HC
  go_enter Tryz.func112, Tryz.ntmps112
  go_wp2_with fail
  have HK := Lib.hid (Keep.new w 99 #[.int .i64 id, .int .i64 n, .string s, .string v])
  refine (HS.out _).mono ?_
  rintro e w1 ⟨rfl, hb1⟩
  have HK1 := Lib.hid (HK.out.below hb1)
  clear hb1 HK HS
  go_wp2_with fail
  go_ret
  exact ⟨ret_bool HT.out, HK1.out.out.2⟩
 | true =>
  cases y with
  | false =>
   have HT := Lib.hid HC.out
   clear HC
   go_enter Tryz.func112, Tryz.ntmps112
   go_wp2_with fail
   have HK := Lib.hid (Keep.new w 99 #[.int .i64 id, .int .i64 n, .string s, .string v])
   refine (HS.out _).mono ?_
   rintro e w1 ⟨rfl, hb1⟩
   have HK1 := Lib.hid (HK.out.below hb1)
   clear hb1 HK HS
   obtain ⟨c0, c1, c2, c3⟩ := HK1.out.four
   go_wp2_with (go_at_call 137; refine (HV.out _).mono ?_; rintro e w' ⟨rfl, rfl⟩)
   go_ret
   exact ⟨ret_bool HT.out, HK1.out.out.2⟩
  | true =>
   go_enter Tryz.func112, Tryz.ntmps112
   go_wp2_with fail
   have HK := Lib.hid (Keep.new w 99 #[.int .i64 id, .int .i64 n, .string s, .string v])
   refine (HS.out _).mono ?_
   rintro e w1 ⟨rfl, hb1⟩
   have HK1 := Lib.hid (HK.out.below hb1)
   clear hb1 HK HS
   obtain ⟨c0, c1, c2, c3⟩ := HK1.out.four
   obtain ⟨g, hg⟩ : ∃ g, w.heap.size = g := ⟨_, rfl⟩
   rw [hg] at c0 c1 c2 c3 HK1
   go_wp2_with (go_at_call 137; refine (HV.out _).mono ?_; rintro e w' ⟨rfl, rfl⟩)
   have HH := Lib.hid (H.out.below HK1.out.out.2)
   have HSZ := Lib.hid HK1.out.out.2.size
   clear c0 c1 c2 c3 H
   go_loopw [24] (fun i wr => ∃ k : Nat, k ≤ l.length ∧ i = .int .i64 (k : Int) ∧ Keep w g #[.int .i64 id, .int .i64 n, .string s, .string v] wr ∧ (z = true ∨ ∀ j (hj : j < l.length), j < k → l[j].id ≠ id) ∧ PropsAt wr w.heap.size A l) (fun i _ => l.length - (RowKit.intOf i).toNat)
   case atStart => exact ⟨0, Nat.zero_le _, rfl, HK1.out, .inr fun j hj hk => by omega, HH.out⟩
   case round =>
    obtain ⟨k, hk, rfl, hkeep, hne, hat⟩ := hrel
    have HN := Lib.hid hne
    have HK := Lib.hid hkeep
    have HP := Lib.hid hat
    have HL := Lib.hid hkeep.out.2.size
    clear hne hkeep hat HK1 HH
    by_cases hlt : k < l.length
    ·obtain ⟨b0, o, rfl, hb0, hc⟩ := HP.out.some_ (by omega)
     obtain ⟨d0, d1, d2, d3⟩ := hc k hlt
     clear hc
     obtain ⟨q, hq⟩ : ∃ q, l[k] = q := ⟨_, rfl⟩
     rw [hq] at d0 d1 d2 d3
     have HQ := Lib.hid hq
     clear hq
     obtain ⟨i', n', s', v'⟩ := q
     have c0 := HK.out.four.1
     have hgl : g < wr.heap.size := HK.out.out.1.lt
     have hkI : (k : Int) < (l.length : Int) := by omega
     by_cases hyx : i' = id
     ·subst hyx
      cases z with
      | true =>
       go_wp2_with (go_at_call 138; refine (HR.out _).mono ?_; rintro e w' ⟨rfl, rfl⟩)
       go_roundw
       case rel => exact ⟨k + 1, hlt, by go_num, HK.out.below ((Below.refl _ _).alloc (Nat.le_refl _) _), .inl trivial, HP.out.alloc HL.out _⟩
       case measure => simp [RowKit.intOf]; omega
      | false =>
       have HT := Lib.hid (twice_at (place := place) HZ.out hlt (by rw [HQ.out]))
       go_wp2_with (go_at_call 138; refine (HR.out _).mono ?_; rintro e w' ⟨rfl, rfl⟩)
       go_ret
       exact ⟨ret_bool (by rw [← HC.out, HT.out]; rfl), HK.out.out.2.alloc HL.out _⟩
     ·have bb := ne_false hyx
      have HYX := Lib.hid hyx
      clear hyx
      go_wp2_with fail
      go_roundw
      case rel => exact ⟨k + 1, hlt, by go_num, HK.out.below ((Below.refl _ _).alloc (Nat.le_refl _) _), HN.out.imp (fun e => e) (fun hn j hj hjk => by
       by_cases e : j = k
       ·subst e; rw [HQ.out]; exact HYX.out
       ·exact hn j hj (by omega)), HP.out.alloc HL.out _⟩
      case measure => simp [RowKit.intOf]; omega
    ·obtain rfl : k = l.length := by omega
     have HT := Lib.hid (twice_not (place := place) (HN.out.imp (fun e => HZ.out.trans e) (fun hn j hj => hn j hj hj)))
     clear HN
     go_wp2_with fail
     go_ret
     exact ⟨ret_bool (by rw [← HC.out, HT.out]; rfl), HK.out.out.2⟩
open Go.RowKit Go.Lib Prp Vbi
def strSz : Value → Nat
 | .string s => s.size
 | _ => 0
@[irreducible] def TA (w : World) (A : Option Addr) (c : Nat) (l : List P) (W : World) : Prop := W.ownsRow w.heap.size 99 4 (.slice A l.length c) l.length (flat l) ∧ Below w.heap.size w W
section
variable {w W W' : World} {A : Option Addr} {c : Nat} {l : List P}
theorem TA.mk (h1 : W.ownsRow w.heap.size 99 4 (.slice A l.length c) l.length (flat l)) (h2 : Below w.heap.size w W) : TA w A c l W := by unfold TA; exact ⟨h1, h2⟩
theorem TA.out (h : TA w A c l W) : W.ownsRow w.heap.size 99 4 (.slice A l.length c) l.length (flat l) ∧ Below w.heap.size w W := by unfold TA at h; exact h
theorem TA.below (h : TA w A c l W) (hb : Below W.heap.size W W') : TA w A c l W' := .mk (own_below h.out.1 hb) (h.out.2.trans (hb.mono h.out.2.size))
theorem TA.nil (w : World) : TA w none 0 [] w := .mk (World.ownsRow_nil _ _ _ _) (Below.refl _ _)
theorem TA.at (h : TA w A c l W) : PropsAt W W.heap.size A l := .of_own h.out.1
end
@[irreducible] def TB (w : World) (A : Option Addr) (c : Nat) (l : List P) (g : Nat) (cs : Array Value) (W : World) : Prop := TA w A c l W ∧ Box W g cs
section
variable {w W W' : World} {A : Option Addr} {c g : Nat} {l : List P} {cs : Array Value}
theorem TB.mk (h1 : TA w A c l W) (h2 : Box W g cs) : TB w A c l g cs W := by unfold TB; exact ⟨h1, h2⟩
theorem TB.out (h : TB w A c l g cs W) : TA w A c l W ∧ Box W g cs := by unfold TB at h; exact h
theorem TB.below (h : TB w A c l g cs W) (hb : Below W.heap.size W W') : TB w A c l g cs W' := .mk (h.out.1.below hb) (h.out.2.below hb)
theorem TB.drewN (h : TB w A c l g cs W) (n : Nat) : TB w A c l g cs (W.drewN n) := h.below (below_drewN (Below.refl _ _) n)
theorem TB.new (h : TA w A c l W) (T : TypeId) (cs : Array Value) : TB w A c l W.heap.size cs (W.alloc (.cells cs T)) := .mk (h.below ((Below.refl _ _).alloc (Nat.le_refl _) _)) (.new W T cs)
end
theorem TB.four {w W : World} {A : Option Addr} {c g : Nat} {l : List P} {a b : Int} {s v : ByteArray} (h : TB w A c l g #[.int .i64 a, .int .i64 b, .string s, .string v] W) :
  W.cell? ⟨g, 0, none⟩ = some (.int .i64 a) ∧ W.cell? ⟨g, 1, none⟩ = some (.int .i64 b) ∧ W.cell? ⟨g, 2, none⟩ = some (.string s) ∧ W.cell? ⟨g, 3, none⟩ = some (.string v) :=
 ⟨h.out.2.cell 0, h.out.2.cell 1, h.out.2.cell 2, h.out.2.cell 3⟩
def GivesAll (l : List P) (E : Int) (w : World) (e : Ending) (w' : World) : Prop := ∃ A c, e = .returned (.tuple #[.slice A l.length c, .int .i64 E]) ∧ TA w A c l w'
theorem takeAll_is (place : Int) (s : ByteArray) (f0 : Nat) (L : List P) (E : Int) (w : World) (hs : s.size ≤ 281474976710656) (hf : s.size < f0) (h : ta place f0 [] s = (L, E)) :
  Calls Tryz.prog 164 #[.int .i64 place, .string s] w (GivesAll L E w) := by
 obtain ⟨i0, hi, hz0, hz1, hz2⟩ := info_parts info_prop
 have H := Lib.hid h
 clear h
 go_enter Tryz.func164, Tryz.ntmps164
 go_wp2_with fail
 go_loopw [1, 6] (fun x m wr => ∃ (S : ByteArray) (l : List P) (f : Nat) (A : Option Addr) (c : Nat), x = .string S ∧ m = .slice A l.length c ∧ TA w A c l wr ∧ l.length ≤ 8 ∧ S.size ≤ 281474976710656 ∧ S.size < f ∧ ta place f l S = (L, E)) (fun x _ _ => strSz x)
 case atStart => exact ⟨s, [], f0, none, 0, rfl, rfl, .nil w, by simp, hs, hf, H.out⟩
 case round =>
  obtain ⟨S, l, f, A, c, rfl, rfl, hta, hl8, hS, hSf, hgo⟩ := hrel
  have HT := Lib.hid hta
  have HG := Lib.hid hgo
  clear hta hgo H
  obtain ⟨f, rfl⟩ : ∃ f0, f = f0 + 1 := ⟨f - 1, by omega⟩
  by_cases h0 : S.size = 0
  ·obtain ⟨rfl, rfl⟩ : l = L ∧ (0 : Int) = E := by
    have := (ta_end (place := place) (f := f) (l := l) h0).symm.trans HG.out
    injection this with e1 e2
    exact ⟨e1, e2⟩
   obtain rfl : S = ByteArray.empty := ByteArray.size_eq_zero_iff.1 h0
   go_wp2_with fail
   go_ret2
   exact ⟨A, c, rfl, HT.out⟩
  have hSI : (0 : Int) < (S.size : Int) := by omega
  obtain ⟨⟨i, n, a, b⟩, K, T, ht⟩ : ∃ p K T, tone S = (p, K, T) := ⟨_, _, _, rfl⟩
  have HO := Lib.hid (fun W => takeOne_is S a b i n K T W (by omega) hS ht)
  have HTO := Lib.hid ht
  clear ht
  go_wp2_with fail
  refine (HO.out _).mono ?_
  rintro e w1 ⟨rfl, hb1⟩
  have HT1 := Lib.hid (HT.out.below hb1)
  clear hb1 HT HO
  by_cases hT : T = 0
  ·subst hT
   have HTB := Lib.hid (TB.new HT1.out 99 #[.int .i64 i, .int .i64 n, .string a, .string b])
   clear HT1
   obtain ⟨j, rfl, hj1, hj2⟩ : ∃ j : Nat, K = (j : Int) ∧ 1 ≤ j ∧ j ≤ S.size := by
    have := tone_bound (s := S) (by omega) (by rw [HTO.out])
    rw [HTO.out] at this
    have h1 : 1 ≤ K := this.1
    have h2 : K ≤ (S.size : Int) := this.2
    exact ⟨K.toNat, by omega, by omega, by omega⟩
   obtain ⟨y, hy⟩ : ∃ y, mayB place l ⟨i, n, a, b⟩ = y := ⟨_, rfl⟩
   have HM := Lib.hid (fun (W : World) (g : Nat) (h : TB w A c l g #[.int .i64 i, .int .i64 n, .string a, .string b] W) => mayFollow_is place i n a b l A c y W (by omega) h.out.1.at hy)
   have HY := Lib.hid hy
   clear hy
   have hjS : (j : Int) ≤ (S.size : Int) := by omega
   have hj0 : (0 : Int) ≤ (j : Int) := by omega
   have HTB2 := HTB.out
   obtain ⟨g, hg⟩ : ∃ g, w1.heap.size = g := ⟨_, rfl⟩
   rw [hg] at HTB2
   clear HTB
   have HTB := Lib.hid HTB2
   clear HTB2
   go_wp2_with fail
   refine (HM.out _ g HTB.out).mono ?_
   rintro e w2 ⟨rfl, hb2⟩
   have HT2 := Lib.hid (HTB.out.below hb2)
   clear hb2 HTB HM hg
   cases y with
   | false =>
    obtain ⟨rfl, rfl⟩ : [] = L ∧ (9 : Int) = E := by
     have := (ta_no (place := place) (f := f) (l := l) h0 (by rw [HTO.out]) (by rw [HTO.out]; exact HY.out)).symm.trans HG.out
     injection this with e1 e2
     exact ⟨e1, e2⟩
    clear HG HTO HY
    go_wp2_with fail
    go_ret2
    exact ⟨none, 0, rfl, .mk (World.ownsRow_nil _ _ _ _) HT2.out.out.1.out.2⟩
   | true =>
    by_cases h8 : l.length = 8
    ·obtain ⟨rfl, rfl⟩ : [] = L ∧ (2 : Int) = E := by
      have := (ta_full (place := place) (f := f) (l := l) h0 (by rw [HTO.out]) (by rw [HTO.out]; exact HY.out) h8).symm.trans HG.out
      injection this with e1 e2
      exact ⟨e1, e2⟩
     have h8I : (l.length : Int) = 8 := by omega
     clear HG HTO HY
     go_wp2_with fail
     go_ret2
     exact ⟨none, 0, rfl, .mk (World.ownsRow_nil _ _ _ _) HT2.out.out.1.out.2⟩
    ·have HG2 : Hid (ta place f (l ++ [⟨i, n, a, b⟩]) (S.extract j S.size) = (L, E)) := by
      have := (ta_step (place := place) (f := f) (l := l) h0 (by rw [HTO.out]) (by rw [HTO.out]; exact HY.out) h8).symm.trans HG.out
      rw [HTO.out] at this
      exact this
     have h8b : ((l.length : Int) == 8) = false := ne_false (by omega)
     obtain ⟨c0, c1, c2, c3⟩ := HT2.out.four
     have HS : Hid (flat (l ++ [⟨i, n, a, b⟩]) = flat l ++ pcells ⟨i, n, a, b⟩) := flat_snoc _ _
     clear HG HTO HY
     go_wp2_with (at_builtin; refine wpList_append_own _ rfl _ _ 26 rfl w.heap.size 99 i0 (.agg #[.int .i64 0, .int .i64 0, .string ⟨#[]⟩, .string ⟨#[]⟩]) 4 48 Tryz.underlying26 hi hz0 hz1 hz2 rfl (by decide) _ _ _ rfl (HT2.out.out.1.out.1.alloc _) ⟨w2.heap.size, 0, none⟩ 1 1 (pcells ⟨i, n, a, b⟩) rfl rfl ?c1 ?c2 ?c3 ?c4 ?c5 ?_)
     case c1 => exact fun j u h => cells_new w2 _ (pcells ⟨i, n, a, b⟩) j u h
     case c2 => exact one_cells _
     case c3 => unfold maxLen; omega
     case c4 => first | omega | (have := HT2.out.out.1.out.2.size; simp; omega)
     case c5 => have := HT2.out.out.1.out.2.size; simp; omega
     intro v' w3 hown' hgrow _
     have hnx := HT2.out.out.1.out.2.trans (below_alloc_grown HT2.out.out.1.out.2.size HT2.out.out.1.out.1 hgrow)
     have hown2 : w3.ownsRow w.heap.size 99 4 v' (l ++ [(⟨i, n, a, b⟩ : P)]).length (flat (l ++ [⟨i, n, a, b⟩])) := by
      rw [HS.out, List.length_append]; exact hown'
     obtain ⟨A', c', rfl⟩ := own_slice hown2
     have HT3 := Lib.hid (TA.mk hown2 hnx)
     clear hown' hgrow hnx hown2 HT2 HS c0 c1 c2 c3
     go_wp2_with fail
     go_roundw
     case rel => exact ⟨_, _, f, A', c', rfl, rfl, HT3.out, by rw [List.length_append]; show _ + 1 ≤ 8; omega, by rw [ByteArray.size_extract]; omega, by rw [ByteArray.size_extract]; omega, HG2.out⟩
     case measure => show (S.extract j S.size).size < S.size; rw [ByteArray.size_extract]; omega
  ·obtain ⟨rfl, rfl⟩ : [] = L ∧ T = E := by
    have := (ta_bad (place := place) (f := f) (l := l) h0 (by rw [HTO.out]; exact hT)).symm.trans HG.out
    rw [HTO.out] at this
    injection this with e1 e2
    exact ⟨e1, e2⟩
   have hTb := ne_true hT
   clear HG HTO
   go_wp2_with fail
   go_ret2
   exact ⟨none, 0, rfl, .mk (World.ownsRow_nil _ _ _ _) (HT1.out.below ((Below.refl _ _).alloc (Nat.le_refl _) _)).out.2⟩
open Go.RowKit Go.Lib Prp Vbi
def GivesTake (L : List P) (K E : Int) (w : World) (e : Ending) (w' : World) : Prop := ∃ A c, e = .returned (.tuple #[.slice A L.length c, .int .i64 K, .int .i64 E]) ∧ TA w A c L w'
theorem Take_is (place : Int) (s : ByteArray) (L : List P) (K E : Int) (w : World) (hs : s.size ≤ 281474976710656) (h : takeP place s = (L, K, E)) :
  Calls Tryz.prog 152 #[.int .i64 place, .string s] w (GivesTake L K E w) := by
 obtain ⟨x, hx⟩ : ∃ x, placeB place = x := ⟨_, rfl⟩
 have HP := Lib.hid (fun W => isPlace_is place x W hx)
 cases x with
 | false =>
  rw [takeP_place s hx] at h
  obtain ⟨rfl, rfl, rfl⟩ : [] = L ∧ 0 = K ∧ 1 = E := by
   injection h with h1 h2
   injection h2 with h2 h3
   exact ⟨h1, h2, h3⟩
  clear hx h
  go_enter Tryz.func152, Tryz.ntmps152
  go_wp2_with (go_at_call 111; refine (HP.out _).mono ?_; rintro e w' ⟨rfl, rfl⟩)
  go_ret3
  exact ⟨none, 0, rfl, .nil w⟩
 | true =>
  rcases takeP_cases s hx with ⟨E', ht, hE, e⟩ | ⟨m, q, ht, hq, hm, h7, e⟩ | ⟨m, q, E', ht, hq, hm, h7, hta, hE, e⟩ | ⟨m, q, L', ht, hq, hm, h7, hta, e⟩
  ·rw [e] at h
   obtain ⟨rfl, rfl, rfl⟩ : [] = L ∧ 0 = K ∧ E' = E := by
    injection h with h1 h2
    injection h2 with h2 h3
    exact ⟨h1, h2, h3⟩
   have HT := Lib.hid (fun W => TakeNum_z s 0 0 E' W (by omega) ht)
   have hEb := ne_true hE
   clear hx h e ht hE
   go_enter Tryz.func152, Tryz.ntmps152
   go_wp2_with (first | (go_at_call 111; refine (HP.out _).mono ?_; rintro e w' ⟨rfl, rfl⟩) | (go_at_call 81; refine (HT.out _).mono ?_; rintro e w' ⟨rfl, rfl⟩))
   go_ret3
   exact ⟨none, 0, rfl, .nil w⟩
  ·rw [e] at h
   obtain ⟨rfl, rfl, rfl⟩ : [] = L ∧ 0 = K ∧ 7 = E := by
    injection h with h1 h2
    injection h2 with h2 h3
    exact ⟨h1, h2, h3⟩
   have HT := Lib.hid (fun W => TakeNum_z s (m : Int) (q : Int) 0 W (by omega) ht)
   have hlt : (s.size : Int) - (q : Int) < (m : Int) := by omega
   clear hx h e ht
   go_enter Tryz.func152, Tryz.ntmps152
   go_wp2_with (first | (go_at_call 111; refine (HP.out _).mono ?_; rintro e w' ⟨rfl, rfl⟩) | (go_at_call 81; refine (HT.out _).mono ?_; rintro e w' ⟨rfl, rfl⟩))
   go_ret3
   exact ⟨none, 0, rfl, .nil w⟩
  ·rw [e] at h
   obtain ⟨rfl, rfl, rfl⟩ : [] = L ∧ 0 = K ∧ E' = E := by
    injection h with h1 h2
    injection h2 with h2 h3
    exact ⟨h1, h2, h3⟩
   have HT := Lib.hid (fun W => TakeNum_z s (m : Int) (q : Int) 0 W (by omega) ht)
   have HA := Lib.hid (fun W => takeAll_is place (s.extract q (q + m)) (s.size + 1) [] E' W (by rw [ByteArray.size_extract]; omega) (by rw [ByteArray.size_extract]; omega) hta)
   have hlt : ¬ (s.size : Int) - (q : Int) < (m : Int) := by omega
   have hdl : decide ((s.size : Int) - (q : Int) < (m : Int)) = false := decide_eq_false hlt
   have hq0 : (0 : Int) ≤ (q : Int) := by omega
   have hqm : (q : Int) ≤ (q : Int) + (m : Int) := by omega
   have hqs : (q : Int) + (m : Int) ≤ (s.size : Int) := by omega
   have htn : ((q : Int) + (m : Int)).toNat = q + m := by omega
   have hEb := ne_true hE
   clear hx h e ht hta hE
   go_enter Tryz.func152, Tryz.ntmps152
   go_wp2_with (first | (go_at_call 111; refine (HP.out _).mono ?_; rintro e w' ⟨rfl, rfl⟩) | (go_at_call 81; refine (HT.out _).mono ?_; rintro e w' ⟨rfl, rfl⟩))
   refine (HA.out _).mono ?_
   rintro e w1 ⟨A, c, rfl, hta⟩
   have HTA := Lib.hid hta
   clear hta HA HT HP
   go_wp2_with fail
   go_ret3
   exact ⟨none, 0, rfl, .mk (World.ownsRow_nil _ _ _ _) HTA.out.out.2⟩
  ·rw [e] at h
   obtain ⟨rfl, rfl, rfl⟩ : L' = L ∧ (q : Int) + (m : Int) = K ∧ 0 = E := by
    injection h with h1 h2
    injection h2 with h2 h3
    exact ⟨h1, h2, h3⟩
   have HT := Lib.hid (fun W => TakeNum_z s (m : Int) (q : Int) 0 W (by omega) ht)
   have HA := Lib.hid (fun W => takeAll_is place (s.extract q (q + m)) (s.size + 1) L' 0 W (by rw [ByteArray.size_extract]; omega) (by rw [ByteArray.size_extract]; omega) hta)
   have hlt : ¬ (s.size : Int) - (q : Int) < (m : Int) := by omega
   have hdl : decide ((s.size : Int) - (q : Int) < (m : Int)) = false := decide_eq_false hlt
   have hq0 : (0 : Int) ≤ (q : Int) := by omega
   have hqm : (q : Int) ≤ (q : Int) + (m : Int) := by omega
   have hqs : (q : Int) + (m : Int) ≤ (s.size : Int) := by omega
   have htn : ((q : Int) + (m : Int)).toNat = q + m := by omega
   clear hx h e ht hta
   go_enter Tryz.func152, Tryz.ntmps152
   go_wp2_with (first | (go_at_call 111; refine (HP.out _).mono ?_; rintro e w' ⟨rfl, rfl⟩) | (go_at_call 81; refine (HT.out _).mono ?_; rintro e w' ⟨rfl, rfl⟩))
   refine (HA.out _).mono ?_
   rintro e w1 ⟨A, c, rfl, hta⟩
   have HTA := Lib.hid hta
   clear hta HA HT HP
   go_wp2_with fail
   go_ret3
   exact ⟨A, c, rfl, HTA.out⟩
open Go.RowKit Go.Lib Prp Vbi
theorem one_size (id n : Int) (s v : ByteArray) (hk0 : kindZ id ≠ 0) (hb : valB (kindZ id) ⟨id, n, s, v⟩ = true) : (oneStr ⟨id, n, s, v⟩).size ≤ 2053 := by
 have hr := kind_range id
 rw [val_put _ id n s v hr.1 hr.2 hk0, Bool.and_eq_true] at hb
 have := val_size (id := id) hr.1 hr.2 hk0 hb.1
 unfold oneStr
 rw [ByteArray.size_append, strOfNums_size]
 show 1 + (valStr (kindZ id) _).size ≤ _
 omega
open Go.RowKit Go.Lib
def Built (B b : Nat) (s : ByteArray) (w : World) : Prop := IsBuilder 103 5 B b (Lib.byteCells s.data.toList) w
open Go.RowKit Go.Lib Prp Vbi
theorem Built.below {W W' : World} {B b : Nat} {s : ByteArray} (h : Built B b s W) (hb : Below W.heap.size W W') : Built B b s W' := by
 have key : ∀ p, BuilderAt 103 5 B b p (Lib.byteCells s.data.toList) W → BuilderAt 103 5 B b p (Lib.byteCells s.data.toList) W' := fun p h => by
  have hl := h.lt
  obtain ⟨h1, v, h2, h3, h4⟩ := h
  exact ⟨h1, v, (hb.block b hl).trans h2, own_below h3 hb, h4⟩
 rcases h with h | h
 ·exact .inl (key _ h)
 ·exact .inr (key _ h)
@[irreducible] def BSt (w : World) (A : Option Addr) (l : List P) (b : Nat) (S : ByteArray) (W : World) : Prop := Built w.heap.size b S W ∧ PropsAt W w.heap.size A l ∧ Below w.heap.size w W
section
variable {w W W' : World} {A : Option Addr} {l : List P} {b g : Nat} {S T : ByteArray} {cs : Array Value}
theorem BSt.mk (h1 : Built w.heap.size b S W) (h2 : PropsAt W w.heap.size A l) (h3 : Below w.heap.size w W) : BSt w A l b S W := by unfold BSt; exact ⟨h1, h2, h3⟩
theorem BSt.out (h : BSt w A l b S W) : Built w.heap.size b S W ∧ PropsAt W w.heap.size A l ∧ Below w.heap.size w W := by unfold BSt at h; exact h
theorem BSt.below (h : BSt w A l b S W) (hb : Below W.heap.size W W') : BSt w A l b S W' :=
 .mk (h.out.1.below hb) (h.out.2.1.below (hb.mono h.out.2.2.size)) (h.out.2.2.trans (hb.mono h.out.2.2.size))
theorem BSt.drewN (h : BSt w A l b S W) (n : Nat) : BSt w A l b S (W.drewN n) := h.below (below_drewN (Below.refl _ _) n)
theorem BSt.alloc (h : BSt w A l b S W) (o : Obj) : BSt w A l b S (W.alloc o) := h.below ((Below.refl _ _).alloc (Nat.le_refl _) o)
@[irreducible] def BStP (w : World) (A : Option Addr) (l : List P) (b : Nat) (S : ByteArray) (g : Nat) (cs : Array Value) (W : World) : Prop := BSt w A l b S W ∧ Box W g cs
theorem BStP.mk (h1 : BSt w A l b S W) (h2 : Box W g cs) : BStP w A l b S g cs W := by unfold BStP; exact ⟨h1, h2⟩
theorem BStP.out (h : BStP w A l b S g cs W) : BSt w A l b S W ∧ Box W g cs := by unfold BStP at h; exact h
theorem BStP.below (h : BStP w A l b S g cs W) (hb : Below W.heap.size W W') : BStP w A l b S g cs W' := .mk (h.out.1.below hb) (h.out.2.below hb)
theorem BStP.drewN (h : BStP w A l b S g cs W) (n : Nat) : BStP w A l b S g cs (W.drewN n) := h.below (below_drewN (Below.refl _ _) n)
theorem BStP.new (h : BSt w A l b S W) (T : TypeId) : BStP w A l b S W.heap.size cs (W.alloc (.cells cs T)) := .mk (h.alloc _) (.new W T cs)
end
theorem BStP.four {w W : World} {A : Option Addr} {l : List P} {b g : Nat} {S : ByteArray} {x y : Int} {s v : ByteArray} (h : BStP w A l b S g #[.int .i64 x, .int .i64 y, .string s, .string v] W) :
  W.cell? ⟨g, 0, none⟩ = some (.int .i64 x) ∧ W.cell? ⟨g, 1, none⟩ = some (.int .i64 y) ∧ W.cell? ⟨g, 2, none⟩ = some (.string s) ∧ W.cell? ⟨g, 3, none⟩ = some (.string v) :=
 ⟨h.out.2.cell 0, h.out.2.cell 1, h.out.2.cell 2, h.out.2.cell 3⟩
end Go.Proofs.YtdbbcfohjkgdcaaGreat
