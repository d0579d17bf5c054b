/- Package prop: one property is taken. -/
import Derived.Test.YthjlbdplhhgcpaaPropTake
namespace Go.Proofs.Ythjlbdplhhgcpaa
open Go.RowKit Go.Lib Prp Vbi

theorem tk_strip {k id : Int} {s : ByteArray} (hk0 : 0 ≤ k) (hk7 : k ≤ 7) (hk : k ≠ 0) : strip k ⟨id, (tk k s).n, (tk k s).a, (tk k s).b⟩ = ⟨id, (tk k s).n, (tk k s).a, (tk k s).b⟩ := by
  have fx : ∀ wd, (tkFix wd s).a = ⟨#[]⟩ ∧ (tkFix wd s).b = ⟨#[]⟩ := fun wd => by rcases fx_cases wd s with ⟨_, e, _, _⟩ | ⟨_, e, _, _⟩ <;> rw [e] <;> exact ⟨rfl, rfl⟩
  rcases kind_seven hk0 hk7 hk with rfl | rfl | rfl | rfl | rfl | rfl | rfl
  · show (⟨id, (tkFix 1 s).n, ⟨#[]⟩, ⟨#[]⟩⟩ : P) = ⟨id, (tkFix 1 s).n, (tkFix 1 s).a, (tkFix 1 s).b⟩
    rw [(fx 1).1, (fx 1).2]
  · show (⟨id, (tkFix 2 s).n, ⟨#[]⟩, ⟨#[]⟩⟩ : P) = ⟨id, (tkFix 2 s).n, (tkFix 2 s).a, (tkFix 2 s).b⟩
    rw [(fx 2).1, (fx 2).2]
  · show (⟨id, (tkFix 4 s).n, ⟨#[]⟩, ⟨#[]⟩⟩ : P) = ⟨id, (tkFix 4 s).n, (tkFix 4 s).a, (tkFix 4 s).b⟩
    rw [(fx 4).1, (fx 4).2]
  · rfl
  · rfl
  · rfl
  · have hn : (tkTwo s).n = 0 := by
      by_cases h : (tl true s).2.2 = 0
      · by_cases h2 : (tl true (s.extract (tl true s).2.1.toNat s.size)).2.2 = 0
        · rw [two_good h h2]
        · rw [two_bad2 h h2]; rfl
      · rw [two_bad1 h]; rfl
    show (⟨id, 0, (tkTwo s).a, (tkTwo s).b⟩ : P) = ⟨id, (tkTwo s).n, (tkTwo s).a, (tkTwo s).b⟩
    rw [hn]
theorem id_at {s : ByteArray} (h : 0 < s.size) : idOf s = (s[0].toNat : Int) := by
  unfold idOf
  have hd := data_at s 0 h
  rw [List.drop_zero] at hd
  rw [hd]; rfl

set_option maxRecDepth 100000 in
set_option maxHeartbeats 8000000 in
theorem takeOne_is (s a b : ByteArray) (i n K E : Int) (w : World) (hs0 : 0 < s.size) (hs : s.size ≤ 281474976710656) (h : tone s = (⟨i, n, a, b⟩, K, E)) :
    Calls Try.prog 54 #[.string s] w fun e w' => e = .returned (.tuple #[.agg #[.int .i64 i, .int .i64 n, .string a, .string b], .int .i64 K, .int .i64 E]) ∧ Below w.heap.size w w' := by
  have hid := id_at hs0
  have hb0 := s[0].toNat_lt
  rcases tone_cases s with ⟨hk, e⟩ | ⟨hk, he, e⟩ | ⟨hk, he, e⟩
  · rw [e] at h
    obtain ⟨⟨rfl, rfl, rfl, rfl⟩, rfl, rfl⟩ : ((0 : Int) = i ∧ (0 : Int) = n ∧ (⟨#[]⟩ : ByteArray) = a ∧ (⟨#[]⟩ : ByteArray) = b) ∧ (0 : Int) = K ∧ (8 : Int) = E := by
      injection h with h1 h2
      injection h2 with h2 h3
      unfold pz at h1
      injection h1 with x1 x2 x3 x4
      exact ⟨⟨x1, x2, x3, x4⟩, h2, h3⟩
    rw [hid] at hk
    have HK := Lib.hid (fun W => Kind_is (s[0].toNat : Int) 0 3 W hk (by unfold kindErr; rw [if_pos hk]))
    clear hk e h hid
    go_enter Try.func54, Try.ntmps54
    go_wp2_with (go_at_call 11; refine (HK.out _).mono ?_; rintro e w' ⟨rfl, rfl⟩)
    refine bodyPost_ret (v := .tuple #[.agg #[.int .i64 0, .int .i64 0, .string ⟨#[]⟩, .string ⟨#[]⟩], .int .i64 0, .int .i64 8]) (by simp [results, Try.results54, go_sem]) rfl ⟨rfl, ?_⟩
    exact (Below.refl _ _).alloc (Nat.le_refl _) _
  · rw [e] at h
    obtain ⟨k, hkk⟩ : ∃ k, kindZ (idOf s) = k := ⟨_, rfl⟩
    rw [hkk] at h hk he
    have hr := kind_range (idOf s)
    rw [hkk] at hr
    have HK := Lib.hid (fun W => Kind_is (s[0].toNat : Int) k 0 W (by rw [← hid]; exact hkk) (by unfold kindErr; rw [← hid, hkk, if_neg hk]))
    have HT := Lib.hid (fun W => take_is k (s.extract 1 s.size) W hr.1 hr.2 hk (by rw [ByteArray.size_extract]; omega))
    obtain ⟨t, ht⟩ : ∃ t, tk k (s.extract 1 s.size) = t := ⟨_, rfl⟩
    rw [ht] at h he HT
    obtain ⟨⟨rfl, rfl, rfl, rfl⟩, rfl, hE⟩ : ((0 : Int) = i ∧ (0 : Int) = n ∧ (⟨#[]⟩ : ByteArray) = a ∧ (⟨#[]⟩ : ByteArray) = b) ∧ (0 : Int) = K ∧ inn t.e = E := by
      injection h with h1 h2
      injection h2 with h2 h3
      unfold pz at h1
      injection h1 with x1 x2 x3 x4
      exact ⟨⟨x1, x2, x3, x4⟩, h2, h3⟩
    obtain ⟨x, hx⟩ : ∃ x, t.e = x := ⟨_, rfl⟩
    have hs1 : (1 : Int) ≤ (s.size : Int) := by omega
    by_cases h7 : x = 7
    · subst h7
      obtain rfl : 8 = E := by rw [← hE, hx]; rfl
      clear hE h e hkk hid ht he hr
      go_enter Try.func54, Try.ntmps54
      go_wp2_with (go_at_call 11; refine (HK.out _).mono ?_; rintro e w' ⟨rfl, rfl⟩)
      refine (HT.out _).mono ?_
      rintro e w1 ⟨X, K1, rfl, _, hb1⟩
      have HX := Lib.hid (Keep.mk ((Box.new w 48 #[.int .i64 0, .int .i64 0, .string ⟨#[]⟩, .string ⟨#[]⟩]).below hb1) (((Below.refl w.heap.size w).alloc (Nat.le_refl _) (.cells #[.int .i64 0, .int .i64 0, .string ⟨#[]⟩, .string ⟨#[]⟩] 48)).trans (hb1.mono (by simp))))
      clear hb1 HT HK
      rw [hx]
      clear hx
      have q := HX.out.four
      obtain ⟨q0, q1, q2, q3⟩ := q
      have f0 := HX.out.out.1.frozen 0
      have f1 := HX.out.out.1.frozen 1
      have f2 := HX.out.out.1.frozen 2
      have f3 := HX.out.out.1.frozen 3
      go_wp2_with fail
      refine bodyPost_ret (v := .tuple #[.agg #[.int .i64 0, .int .i64 0, .string ⟨#[]⟩, .string ⟨#[]⟩], .int .i64 0, .int .i64 8]) (by simp [results, Try.results54, go_sem, q0, q1, q2, q3]) rfl ⟨rfl, ?_⟩
      exact (((HX.out.out.2.setCell (p := ⟨w.heap.size, 0, none⟩) (Nat.le_refl _) _).setCell (p := ⟨w.heap.size, 1, none⟩) (Nat.le_refl _) _).setCell (p := ⟨w.heap.size, 2, none⟩) (Nat.le_refl _) _).setCell (p := ⟨w.heap.size, 3, none⟩) (Nat.le_refl _) _
    · have hx0 : x ≠ 0 := by rw [← hx]; exact he
      obtain rfl : x = E := by rw [← hE, hx]; unfold inn; rw [if_neg h7]
      have h7b := ne_false h7
      have h0b := ne_true hx0
      clear hE h e hkk hid ht he hr
      go_enter Try.func54, Try.ntmps54
      go_wp2_with (go_at_call 11; refine (HK.out _).mono ?_; rintro e w' ⟨rfl, rfl⟩)
      refine (HT.out _).mono ?_
      rintro e w1 ⟨X, K1, rfl, _, hb1⟩
      have HX := Lib.hid (Keep.mk ((Box.new w 48 #[.int .i64 0, .int .i64 0, .string ⟨#[]⟩, .string ⟨#[]⟩]).below hb1) (((Below.refl w.heap.size w).alloc (Nat.le_refl _) (.cells #[.int .i64 0, .int .i64 0, .string ⟨#[]⟩, .string ⟨#[]⟩] 48)).trans (hb1.mono (by simp))))
      clear hb1 HT HK
      rw [hx]
      clear hx
      have q := HX.out.four
      obtain ⟨q0, q1, q2, q3⟩ := q
      have f0 := HX.out.out.1.frozen 0
      have f1 := HX.out.out.1.frozen 1
      have f2 := HX.out.out.1.frozen 2
      have f3 := HX.out.out.1.frozen 3
      go_wp2_with fail
      refine bodyPost_ret (v := .tuple #[.agg #[.int .i64 0, .int .i64 0, .string ⟨#[]⟩, .string ⟨#[]⟩], .int .i64 0, .int .i64 x]) (by simp [results, Try.results54, go_sem, q0, q1, q2, q3]) rfl ⟨rfl, ?_⟩
      exact (((HX.out.out.2.setCell (p := ⟨w.heap.size, 0, none⟩) (Nat.le_refl _) _).setCell (p := ⟨w.heap.size, 1, none⟩) (Nat.le_refl _) _).setCell (p := ⟨w.heap.size, 2, none⟩) (Nat.le_refl _) _).setCell (p := ⟨w.heap.size, 3, none⟩) (Nat.le_refl _) _
  · rw [e] at h
    obtain ⟨k, hkk⟩ : ∃ k, kindZ (idOf s) = k := ⟨_, rfl⟩
    rw [hkk] at h hk he
    have hr := kind_range (idOf s)
    rw [hkk] at hr
    have hbd := tk_bound he
    rw [ByteArray.size_extract] at hbd
    have hst := tk_strip (id := (s[0].toNat : Int)) hr.1 hr.2 hk (s := s.extract 1 s.size)
    have HK := Lib.hid (fun W => Kind_is (s[0].toNat : Int) k 0 W (by rw [← hid]; exact hkk) (by unfold kindErr; rw [← hid, hkk, if_neg hk]))
    have HT := Lib.hid (fun W => take_is k (s.extract 1 s.size) W hr.1 hr.2 hk (by rw [ByteArray.size_extract]; omega))
    rw [hid] at h
    obtain ⟨t, ht⟩ : ∃ t, tk k (s.extract 1 s.size) = t := ⟨_, rfl⟩
    rw [ht] at h he HT hbd hst
    obtain ⟨tn, ta, tb, tk', te⟩ := t
    have h : ((⟨(s[0].toNat : Int), tn, ta, tb⟩ : P), 1 + tk', (0 : Int)) = (⟨i, n, a, b⟩, K, E) := h
    obtain ⟨⟨rfl, rfl, rfl, rfl⟩, rfl, rfl⟩ : ((s[0].toNat : Int) = i ∧ tn = n ∧ ta = a ∧ tb = b) ∧ 1 + tk' = K ∧ (0 : Int) = E := by
      injection h with h1 h2
      injection h2 with h2 h3
      injection h1 with x1 x2 x3 x4
      exact ⟨⟨x1, x2, x3, x4⟩, h2, h3⟩
    obtain rfl : te = 0 := he
    have hst : strip k ⟨(s[0].toNat : Int), tn, ta, tb⟩ = ⟨(s[0].toNat : Int), tn, ta, tb⟩ := hst
    have hbd0 : 0 ≤ tk' := hbd.1
    have hbd1 : tk' ≤ 281474976710656 := by have h9 : tk' ≤ _ := hbd.2; omega
    have HST := Lib.hid hst
    have hs1 : (1 : Int) ≤ (s.size : Int) := by omega
    clear h e hkk hid ht hr hbd hst
    go_enter Try.func54, Try.ntmps54
    go_wp2_with (go_at_call 11; refine (HK.out _).mono ?_; rintro e w' ⟨rfl, rfl⟩)
    refine (HT.out _).mono ?_
    rintro e w1 ⟨X, K1, rfl, hXK, hb1⟩
    obtain ⟨hX, hK1⟩ := hXK rfl
    obtain rfl : K1 = tk' := hK1
    have HX := Lib.hid (Keep.mk ((Box.new w 48 #[.int .i64 0, .int .i64 0, .string ⟨#[]⟩, .string ⟨#[]⟩]).below hb1) (((Below.refl w.heap.size w).alloc (Nat.le_refl _) (.cells #[.int .i64 0, .int .i64 0, .string ⟨#[]⟩, .string ⟨#[]⟩] 48)).trans (hb1.mono (by simp))))
    have HXE : Hid (anyOf k ⟨(s[0].toNat : Int), tn, ta, tb⟩ = X) := by rw [hX]; exact rfl
    have HO := Lib.hid (fun W => propOf_is k (s[0].toNat : Int) tn (s[0].toNat : Int) tn ta tb ta tb X W HXE.out HST.out)
    clear hb1 HT HK hXK hX
    go_wp2_with fail
    refine (HO.out _).mono ?_
    rintro e w2 ⟨rfl, hb2⟩
    have HX2 := Lib.hid (HX.out.below hb2)
    clear hb2 HX HO HXE HST
    have q := HX2.out.four
    obtain ⟨q0, q1, q2, q3⟩ := q
    have f0 := HX2.out.out.1.frozen 0
    have f1 := HX2.out.out.1.frozen 1
    have f2 := HX2.out.out.1.frozen 2
    have f3 := HX2.out.out.1.frozen 3
    go_wp2_with fail
    refine bodyPost_ret (v := .tuple #[.agg #[.int .i64 (s[0].toNat : Int), .int .i64 tn, .string ta, .string tb], .int .i64 (1 + K1), .int .i64 0]) (by simp [results, Try.results54, go_sem, q0, q1, q2, q3]) rfl ⟨?_, ?_⟩
    · simp
    · exact (((HX2.out.out.2.setCell (p := ⟨w.heap.size, 0, none⟩) (Nat.le_refl _) _).setCell (p := ⟨w.heap.size, 1, none⟩) (Nat.le_refl _) _).setCell (p := ⟨w.heap.size, 2, none⟩) (Nat.le_refl _) _).setCell (p := ⟨w.heap.size, 3, none⟩) (Nat.le_refl _) _
end Go.Proofs.Ythjlbdplhhgcpaa
