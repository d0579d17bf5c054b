/- The document's own answer: a value is taken, by its kind: texts, bytes, pairs of texts. -/
import Derived.Test.YthjlbdplhhgcpaaPropRVal
import Derived.IntWalk
namespace Go.Proofs.Ythjlbdplhhgcpaa
open Go.RowKit Go.Lib Prp Vbi

set_option maxRecDepth 100000 in
set_option maxHeartbeats 8000000 in
theorem value_long (k id : Int) (t : Bool) (s T : ByteArray) (K E : Int) (w : World) (hs : s.size ≤ 281474976710656) (hk : (k = 5 ∧ t = true) ∨ (k = 6 ∧ t = false)) (hkk : kindZ id = k) (h : tl t s = (T, K, E)) :
    Calls Try.prog 43 #[.int .i64 id, .string s] w (Valued id ⟨0, T, ⟨#[]⟩, K, E⟩ w) := by
  have HK := Lib.hid (fun W => RKind_is id k W hkk)
  have HT := Lib.hid (fun W => RTakeLong_is t s T K E W hs h)
  obtain ⟨r, hr⟩ : ∃ r, inn E = r := ⟨_, rfl⟩
  have HI := Lib.hid (fun W => inner_is E r W hr)
  have HR := Lib.hid hr
  clear h hr hkk
  by_cases hE : E = 0
  · subst hE
    rcases hk with ⟨rfl, rfl⟩ | ⟨rfl, rfl⟩
    all_goals
      go_enter Try.func43, Try.ntmps43
      go_wp2_with fail
      have H0 := Lib.hid (Two.new w 48 48 #[.int .i64 0, .int .i64 0, .string ⟨#[]⟩, .string ⟨#[]⟩] #[.int .i64 id, .int .i64 0, .string ⟨#[]⟩, .string ⟨#[]⟩])
      obtain ⟨g1, hg1⟩ : ∃ g1, w.heap.size + 1 = g1 := ⟨_, rfl⟩
      obtain ⟨g, hg⟩ : ∃ g, w.heap.size = g := ⟨_, rfl⟩
      generalize (w.alloc (.cells #[.int .i64 0, .int .i64 0, .string ⟨#[]⟩, .string ⟨#[]⟩] 48)).alloc (.cells #[.int .i64 id, .int .i64 0, .string ⟨#[]⟩, .string ⟨#[]⟩] 48) = w0 at H0 ⊢
      rw [hg1, hg] at H0
      rw [hg1, hg]
      clear hg hg1
      refine (HK.out _).mono ?_
      rintro e w' ⟨rfl, rfl⟩
      go_wp2_with fail
      refine (HT.out _).mono ?_
      rintro e w1 ⟨rfl, hb⟩
      have H1 := Lib.hid (H0.out.below hb)
      clear hb H0
      have fb := H1.out.frozen2 2
      have c2 := H1.out.cell2 2
      simp only [List.getElem?_toArray, List.getElem?_cons_zero, List.getElem?_cons_succ] at c2
      go_wp2_with fail
      have H2 := Lib.hid (H1.out.put2 2 (.string T))
      generalize w1.setCell ⟨g1, 2, none⟩ (.string T) = w2 at H2 ⊢
      clear H1 HK HT fb c2
      obtain ⟨w9, hw9⟩ : ∃ w9, w2.drew = w9 := ⟨_, rfl⟩
      have H9 := Lib.hid H2.out.drew
      rw [hw9] at H9
      have c0 := H2.out.cell2 0
      have c1 := H2.out.cell2 1
      have c2 := H2.out.cell2 2
      have c3 := H2.out.cell2 3
      have q0 := H2.out.cell 0
      have q1 := H2.out.cell 1
      have q2 := H2.out.cell 2
      have q3 := H2.out.cell 3
      have f0 := H2.out.frozen 0
      have f1 := H2.out.frozen 1
      have f2 := H2.out.frozen 2
      have f3 := H2.out.frozen 3
      have HD := Lib.hid H2.out.drew
      simp only [List.setIfInBounds_toArray, List.set_cons_zero, List.set_cons_succ, List.getElem?_toArray, List.getElem?_cons_zero, List.getElem?_cons_succ] at c0 c1 c2 c3 q0 q1 q2 q3
      clear H9 hw9
      go_region_with (go_at_call 56; refine (HI.out _).mono ?_; rintro e w' ⟨rfl, rfl⟩)
      all_goals
        try go_wp2_with fail
        rw [← HR.out]
        refine bodyPost_ret (v := .tuple #[.agg #[.int .i64 id, .int .i64 0, .string T, .string ⟨#[]⟩], .int .i64 K, .int .i64 (inn 0)]) (by simp [results, Try.results43, go_sem, q0, q1, q2, q3]) rfl ⟨_, _, _, _, _, rfl, fun _ => ⟨rfl, rfl, rfl, rfl, rfl⟩, HD.out.end4 _ _ _ _⟩
  · have hEb := ne_true hE
    rcases hk with ⟨rfl, rfl⟩ | ⟨rfl, rfl⟩
    all_goals
      go_enter Try.func43, Try.ntmps43
      go_wp2_with fail
      have H0 := Lib.hid (Two.new w 48 48 #[.int .i64 0, .int .i64 0, .string ⟨#[]⟩, .string ⟨#[]⟩] #[.int .i64 id, .int .i64 0, .string ⟨#[]⟩, .string ⟨#[]⟩])
      obtain ⟨g1, hg1⟩ : ∃ g1, w.heap.size + 1 = g1 := ⟨_, rfl⟩
      obtain ⟨g, hg⟩ : ∃ g, w.heap.size = g := ⟨_, rfl⟩
      generalize (w.alloc (.cells #[.int .i64 0, .int .i64 0, .string ⟨#[]⟩, .string ⟨#[]⟩] 48)).alloc (.cells #[.int .i64 id, .int .i64 0, .string ⟨#[]⟩, .string ⟨#[]⟩] 48) = w0 at H0 ⊢
      rw [hg1, hg] at H0
      rw [hg1, hg]
      clear hg hg1
      refine (HK.out _).mono ?_
      rintro e w' ⟨rfl, rfl⟩
      go_wp2_with fail
      refine (HT.out _).mono ?_
      rintro e w1 ⟨rfl, hb⟩
      have H1 := Lib.hid (H0.out.below hb)
      clear hb H0
      have fb := H1.out.frozen2 2
      have c2 := H1.out.cell2 2
      simp only [List.getElem?_toArray, List.getElem?_cons_zero, List.getElem?_cons_succ] at c2
      go_wp2_with fail
      have H2 := Lib.hid (H1.out.put2 2 (.string T))
      generalize w1.setCell ⟨g1, 2, none⟩ (.string T) = w2 at H2 ⊢
      clear H1 HK HT fb c2
      obtain ⟨w9, hw9⟩ : ∃ w9, w2.drew = w9 := ⟨_, rfl⟩
      have H9 := Lib.hid H2.out.drew
      rw [hw9] at H9
      have c0 := H2.out.cell2 0
      have c1 := H2.out.cell2 1
      have c2 := H2.out.cell2 2
      have c3 := H2.out.cell2 3
      have q0 := H2.out.cell 0
      have q1 := H2.out.cell 1
      have q2 := H2.out.cell 2
      have q3 := H2.out.cell 3
      have f0 := H2.out.frozen 0
      have f1 := H2.out.frozen 1
      have f2 := H2.out.frozen 2
      have f3 := H2.out.frozen 3
      have HD := Lib.hid H2.out.drew
      simp only [List.setIfInBounds_toArray, List.set_cons_zero, List.set_cons_succ, List.getElem?_toArray, List.getElem?_cons_zero, List.getElem?_cons_succ] at c0 c1 c2 c3 q0 q1 q2 q3
      clear H9 hw9
      go_region_with (go_at_call 56; refine (HI.out _).mono ?_; rintro e w' ⟨rfl, rfl⟩)
      all_goals
        try go_wp2_with fail
        rw [← HR.out]
        refine bodyPost_ret (v := .tuple #[.agg #[.int .i64 id, .int .i64 0, .string T, .string ⟨#[]⟩], .int .i64 K, .int .i64 (inn E)]) (by simp [results, Try.results43, go_sem, q0, q1, q2, q3]) rfl ⟨_, _, _, _, _, rfl, fun _ => ⟨rfl, rfl, rfl, rfl, rfl⟩, HD.out.end4 _ _ _ _⟩

set_option maxRecDepth 100000 in
set_option maxHeartbeats 8000000 in
theorem value_bad (id : Int) (s T : ByteArray) (K E : Int) (w : World) (hs : s.size ≤ 281474976710656) (hkk : kindZ id = 7) (h : tl true s = (T, K, E)) (hE : E ≠ 0) :
    Calls Try.prog 43 #[.int .i64 id, .string s] w (Valued id (tkBad E) w) := by
  have HK := Lib.hid (fun W => RKind_is id 7 W hkk)
  have HT := Lib.hid (fun W => RTakeLong_is true s T K E W hs h)
  obtain ⟨r, hr⟩ : ∃ r, inn E = r := ⟨_, rfl⟩
  have HI := Lib.hid (fun W => inner_is E r W hr)
  have HR := Lib.hid hr
  have HEE := Lib.hid hE
  have hEb := ne_true hE
  clear h hr hkk hE
  go_enter Try.func43, Try.ntmps43
  go_wp2_with fail
  have H0 := Lib.hid (Two.new w 48 48 #[.int .i64 0, .int .i64 0, .string ⟨#[]⟩, .string ⟨#[]⟩] #[.int .i64 id, .int .i64 0, .string ⟨#[]⟩, .string ⟨#[]⟩])
  obtain ⟨g1, hg1⟩ : ∃ g1, w.heap.size + 1 = g1 := ⟨_, rfl⟩
  obtain ⟨g, hg⟩ : ∃ g, w.heap.size = g := ⟨_, rfl⟩
  generalize (w.alloc (.cells #[.int .i64 0, .int .i64 0, .string ⟨#[]⟩, .string ⟨#[]⟩] 48)).alloc (.cells #[.int .i64 id, .int .i64 0, .string ⟨#[]⟩, .string ⟨#[]⟩] 48) = w0 at H0 ⊢
  rw [hg1, hg] at H0
  rw [hg1, hg]
  clear hg hg1
  refine (HK.out _).mono ?_
  rintro e w' ⟨rfl, rfl⟩
  go_wp2_with fail
  refine (HT.out _).mono ?_
  rintro e w1 ⟨rfl, hb⟩
  have H1 := Lib.hid (H0.out.below hb)
  clear hb H0
  have fb := H1.out.frozen2 2
  have c2 := H1.out.cell2 2
  simp only [List.getElem?_toArray, List.getElem?_cons_zero, List.getElem?_cons_succ] at c2
  go_wp2_with fail
  have H2 := Lib.hid (H1.out.put2 2 (.string T))
  generalize w1.setCell ⟨g1, 2, none⟩ (.string T) = w2 at H2 ⊢
  clear H1 HK HT fb c2
  obtain ⟨w9, hw9⟩ : ∃ w9, w2.drew = w9 := ⟨_, rfl⟩
  have H9 := Lib.hid H2.out.drew
  rw [hw9] at H9
  have c0 := H2.out.cell2 0
  have c1 := H2.out.cell2 1
  have c2 := H2.out.cell2 2
  have c3 := H2.out.cell2 3
  have q0 := H2.out.cell 0
  have q1 := H2.out.cell 1
  have q2 := H2.out.cell 2
  have q3 := H2.out.cell 3
  have f0 := H2.out.frozen 0
  have f1 := H2.out.frozen 1
  have f2 := H2.out.frozen 2
  have f3 := H2.out.frozen 3
  have HD := Lib.hid H2.out.drew
  simp only [List.setIfInBounds_toArray, List.set_cons_zero, List.set_cons_succ, List.getElem?_toArray, List.getElem?_cons_zero, List.getElem?_cons_succ] at c0 c1 c2 c3 q0 q1 q2 q3
  clear H9 hw9
  go_region_with (go_at_call 56; refine (HI.out _).mono ?_; rintro e w' ⟨rfl, rfl⟩)
  all_goals
    try go_wp2_with fail
    rw [← HR.out]
    refine bodyPost_ret (v := .tuple #[.agg #[.int .i64 id, .int .i64 0, .string T, .string ⟨#[]⟩], .int .i64 K, .int .i64 (inn E)]) (by simp [results, Try.results43, go_sem, q0, q1, q2, q3]) rfl ⟨_, _, _, _, _, rfl, fun e => absurd e HEE.out, HD.out.end4 _ _ _ _⟩

set_option maxRecDepth 100000 in
set_option maxHeartbeats 8000000 in
theorem value_two (id : Int) (s T U : ByteArray) (j : Nat) (K E : Int) (w : World) (hs : s.size ≤ 281474976710656) (hkk : kindZ id = 7) (h : tl true s = (T, (j : Int), 0)) (hj : j ≤ s.size) (h2 : tl true (s.extract j s.size) = (U, K, E)) (hK0 : 0 ≤ K) (hK : K ≤ 281474976710656) :
    Calls Try.prog 43 #[.int .i64 id, .string s] w (Valued id ⟨0, T, U, (j : Int) + K, E⟩ w) := by
  have HK := Lib.hid (fun W => RKind_is id 7 W hkk)
  have HT := Lib.hid (fun W => RTakeLong_is true s T (j : Int) 0 W hs h)
  have HU := Lib.hid (fun W => RTakeLong_is true (s.extract j s.size) U K E W (by rw [ByteArray.size_extract]; omega) h2)
  obtain ⟨r, hr⟩ : ∃ r, inn E = r := ⟨_, rfl⟩
  have HI := Lib.hid (fun W => inner_is E r W hr)
  have HR := Lib.hid hr
  have hjS : (j : Int) ≤ (s.size : Int) := by omega
  have hj0 : (0 : Int) ≤ (j : Int) := by omega
  have hwr : IntKind.i64.wrap ((j : Int) + K) = (j : Int) + K := IntWalk.i64_in _ (by omega)
  clear h hr hkk h2
  go_enter Try.func43, Try.ntmps43
  go_wp2_with fail
  have H0 := Lib.hid (Two.new w 48 48 #[.int .i64 0, .int .i64 0, .string ⟨#[]⟩, .string ⟨#[]⟩] #[.int .i64 id, .int .i64 0, .string ⟨#[]⟩, .string ⟨#[]⟩])
  obtain ⟨g1, hg1⟩ : ∃ g1, w.heap.size + 1 = g1 := ⟨_, rfl⟩
  obtain ⟨g, hg⟩ : ∃ g, w.heap.size = g := ⟨_, rfl⟩
  generalize (w.alloc (.cells #[.int .i64 0, .int .i64 0, .string ⟨#[]⟩, .string ⟨#[]⟩] 48)).alloc (.cells #[.int .i64 id, .int .i64 0, .string ⟨#[]⟩, .string ⟨#[]⟩] 48) = w0 at H0 ⊢
  rw [hg1, hg] at H0
  rw [hg1, hg]
  clear hg hg1
  refine (HK.out _).mono ?_
  rintro e w' ⟨rfl, rfl⟩
  go_wp2_with fail
  refine (HT.out _).mono ?_
  rintro e w1 ⟨rfl, hb⟩
  have H1 := Lib.hid (H0.out.below hb)
  clear hb H0 HT HK
  go_wp2_with fail
  refine (HU.out _).mono ?_
  rintro e w2 ⟨rfl, hb⟩
  have H2 := Lib.hid (H1.out.below hb)
  clear hb H1 HU
  have fb2 := H2.out.frozen2 2
  have fb3 := H2.out.frozen2 3
  have c2 := H2.out.cell2 2
  have c3 := H2.out.cell2 3
  simp only [List.getElem?_toArray, List.getElem?_cons_zero, List.getElem?_cons_succ] at c2 c3
  go_wp2_with fail
  have H3 := Lib.hid ((H2.out.put2 2 (.string T)).put2 3 (.string U))
  generalize (w2.setCell ⟨g1, 2, none⟩ (.string T)).setCell ⟨g1, 3, none⟩ (.string U) = w3 at H3 ⊢
  clear H2 fb2 fb3 c2 c3
  obtain ⟨w9, hw9⟩ : ∃ w9, w3.drew = w9 := ⟨_, rfl⟩
  have H9 := Lib.hid H3.out.drew
  rw [hw9] at H9
  have c0 := H3.out.cell2 0
  have c1 := H3.out.cell2 1
  have c2 := H3.out.cell2 2
  have c3 := H3.out.cell2 3
  have q0 := H3.out.cell 0
  have q1 := H3.out.cell 1
  have q2 := H3.out.cell 2
  have q3 := H3.out.cell 3
  have f0 := H3.out.frozen 0
  have f1 := H3.out.frozen 1
  have f2 := H3.out.frozen 2
  have f3 := H3.out.frozen 3
  have HD := Lib.hid H3.out.drew
  simp only [List.setIfInBounds_toArray, List.set_cons_zero, List.set_cons_succ, List.getElem?_toArray, List.getElem?_cons_zero, List.getElem?_cons_succ] at c0 c1 c2 c3 q0 q1 q2 q3
  clear H9 hw9
  go_region_with (go_at_call 56; refine (HI.out _).mono ?_; rintro e w' ⟨rfl, rfl⟩)
  all_goals
    try go_wp2_with fail
    rw [← HR.out]
    refine bodyPost_ret (v := .tuple #[.agg #[.int .i64 id, .int .i64 0, .string T, .string U], .int .i64 ((j : Int) + K), .int .i64 (inn E)]) (by simp [results, Try.results43, go_sem, q0, q1, q2, q3]) rfl ⟨_, _, _, _, _, rfl, fun _ => ⟨rfl, rfl, rfl, rfl, rfl⟩, HD.out.end4 _ _ _ _⟩

theorem value_is (k id : Int) (s : ByteArray) (w : World) (hs : s.size ≤ 281474976710656) (hk0 : k ≠ 0) (hkk : kindZ id = k) :
    Calls Try.prog 43 #[.int .i64 id, .string s] w (Valued id (tk k s) w) := by
  have hr := kind_range id
  rw [hkk] at hr
  rcases kind_seven hr.1 hr.2 hk0 with rfl | rfl | rfl | rfl | rfl | rfl | rfl
  · exact value_fix 1 id 1 s w hs (.inl ⟨rfl, rfl⟩) hkk
  · exact value_fix 2 id 2 s w hs (.inr (.inl ⟨rfl, rfl⟩)) hkk
  · exact value_fix 3 id 4 s w hs (.inr (.inr ⟨rfl, rfl⟩)) hkk
  · exact value_num id s w hs hkk
  · exact value_long 5 id true s _ _ _ w hs (.inl ⟨rfl, rfl⟩) hkk rfl
  · exact value_long 6 id false s _ _ _ w hs (.inr ⟨rfl, rfl⟩) hkk rfl
  · show Calls _ _ _ _ (Valued id (tkTwo s) w)
    by_cases h : (tl true s).2.2 = 0
    · obtain ⟨m, hm1, hm2, _⟩ := tl_took h
      have h1 : tl true s = ((tl true s).1, ((2 + m : Nat) : Int), 0) := by rw [← hm1, ← h]
      by_cases h2 : (tl true (s.extract (2 + m) s.size)).2.2 = 0
      · obtain ⟨m2, hk1, hk2, _⟩ := tl_took h2
        rw [ByteArray.size_extract] at hk2
        rw [two_good h (by rw [hm1, Int.toNat_natCast]; exact h2), hm1, Int.toNat_natCast]
        exact value_two id s (tl true s).1 (tl true (s.extract (2 + m) s.size)).1 (2 + m) (tl true (s.extract (2 + m) s.size)).2.1 0 w hs hkk h1 hm2 (by rw [← h2]) (by rw [hk1]; omega) (by rw [hk1]; omega)
      · obtain ⟨_, hk1⟩ := tl_not h2
        rw [two_bad2 h (by rw [hm1, Int.toNat_natCast]; exact h2), hm1, Int.toNat_natCast]
        exact (value_two id s (tl true s).1 (tl true (s.extract (2 + m) s.size)).1 (2 + m) (tl true (s.extract (2 + m) s.size)).2.1 (tl true (s.extract (2 + m) s.size)).2.2 w hs hkk h1 hm2 rfl (by rw [hk1]; omega) (by rw [hk1]; omega)).mono
          fun _ _ ⟨i, n, K, a, b, e1, _, e3⟩ => ⟨i, n, K, a, b, e1, fun e => absurd e h2, e3⟩
    · rw [two_bad1 h]
      exact value_bad id s _ _ _ w hs hkk rfl h
end Go.Proofs.Ythjlbdplhhgcpaa
