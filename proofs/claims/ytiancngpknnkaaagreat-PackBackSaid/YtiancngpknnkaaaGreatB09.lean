/- Package prop, and the document's own answer: where a property may stand. -/
import Derived.Test.YtiancngpknnkaaaGreatB04
import Derived.Test.YtiancngpknnkaaaGreatB05
import Derived.Test.YtiancngpknnkaaaGreatB01
set_option maxRecDepth 100000
set_option maxHeartbeats 64000000
namespace Go.Proofs.YtiancngpknnkaaaGreat
open Go.RowKit Go.Lib Prp Vbi
theorem TakeNum_z (s : ByteArray) (a b c : Int) (w : World) (hs : s.size ≤ 9223372036854775807) (h : tn s.data.toList = (a, b, c)) :
    Calls Tryz.prog 60 #[.string s] w fun e w' => e = .returned (.tuple #[.int .i64 a, .int .i64 b, .int .i64 c]) ∧ w = w' :=
  (TakeNum_ok s w hs).mono fun e w' h2 => by
    unfold TnOk at h2
    rw [h] at h2
    exact ⟨h2.1, h2.2.symm⟩
theorem TakeTwo_z (s : ByteArray) (a e : Int) (w : World) (hs : s.size ≤ 9223372036854775807) (h1 : tfVal 2 s.data.toList = a) (h2 : tfErr 2 s.data.toList = e) :
    Calls Tryz.prog 166 #[.string s] w fun x w' => x = .returned (.tuple #[.int .i64 a, .int .i64 e]) ∧ w = w' :=
  (TakeTwo_ok s w hs).mono fun _ _ h => by
    unfold TfOk at h
    rw [h1, h2] at h
    exact ⟨h.1, h.2.symm⟩
theorem TakeFour_z (s : ByteArray) (a e : Int) (w : World) (hs : s.size ≤ 9223372036854775807) (h1 : tfVal 4 s.data.toList = a) (h2 : tfErr 4 s.data.toList = e) :
    Calls Tryz.prog 183 #[.string s] w fun x w' => x = .returned (.tuple #[.int .i64 a, .int .i64 e]) ∧ w = w' :=
  (TakeFour_ok s w hs).mono fun _ _ h => by
    unfold TfOk at h
    rw [h1, h2] at h
    exact ⟨h.1, h.2.symm⟩
theorem fx_cases (wd : Nat) (s : ByteArray) : (s.size < wd ∧ tkFix wd s = tkBad 7 ∧ tfVal wd s.data.toList = 0 ∧ tfErr wd s.data.toList = 7) ∨
    (wd ≤ s.size ∧ tkFix wd s = ⟨(fixVal (s.data.toList.take wd) : Nat), ⟨#[]⟩, ⟨#[]⟩, (wd : Int), 0⟩ ∧ tfVal wd s.data.toList = (fixVal (s.data.toList.take wd) : Nat) ∧ tfErr wd s.data.toList = 0) := by
  unfold tkFix
  by_cases h : s.size < wd
  · rw [if_pos h]
    have := tf_cut (wd := wd) (l := s.data.toList) (by rw [← Lib.size_eq]; exact h)
    exact .inl ⟨h, rfl, this.1, this.2⟩
  · rw [if_neg h]
    have := tf_good (wd := wd) (l := s.data.toList) (by rw [← Lib.size_eq]; omega)
    exact .inr ⟨by omega, rfl, this.1, this.2⟩
def Took (k : Int) (t : Tk) (w : World) (e : Ending) (w' : World) : Prop :=
  ∃ (X : Value) (K : Int), e = .returned (.tuple #[X, .int .i64 K, .int .i64 t.e]) ∧ (t.e = 0 → X = anyOf k ⟨0, t.n, t.a, t.b⟩ ∧ K = t.k) ∧ Below w.heap.size w w'
theorem takeByte_is (s : ByteArray) (w : World) (hs : s.size ≤ 9223372036854775807) :
    Calls Tryz.prog 182 #[.string s] w fun e w' => e = .returned (.tuple #[.int .i64 (tkFix 1 s).n, .int .i64 (tkFix 1 s).k, .int .i64 (tkFix 1 s).e]) ∧ w = w' := by
  rcases fx_cases 1 s with ⟨h, e, _, _⟩ | ⟨h, e, _, _⟩
  · rw [e]
    have h0 : s = ByteArray.empty := ByteArray.size_eq_zero_iff.1 (by omega)
    subst h0
    clear e h hs
    go_enter Tryz.func182, Tryz.ntmps182
    go_wp2
    go_ret3
    exact ⟨rfl, rfl⟩
  · have hne : ¬ s = ByteArray.empty := fun e0 => by subst e0; simp at h
    have hne2 : ¬ s.toList = [] := fun e0 => hne (by rw [show (ByteArray.empty : ByteArray) = ⟨#[]⟩ from rfl]; exact (toList_eq_iff s ⟨#[]⟩).1 (by rw [e0, ByteArray.toList_eq]))
    have hne3 : s.toList.isEmpty = false := by cases hh : s.toList with
      | nil => exact absurd hh hne2
      | cons => rfl
    obtain ⟨b, hb⟩ : ∃ b, s[0] = b := ⟨_, rfl⟩
    have hv : fixVal (s.data.toList.take 1) = b.toNat := by
      have hd := data_at s 0 (by omega)
      rw [List.drop_zero] at hd
      rw [hd, List.take_succ_cons, List.take_zero, ← hb]
      show 0 * 256 + _ = _
      omega
    rw [e, hv]
    have hlt := b.toNat_lt
    clear e hv
    go_enter Tryz.func182, Tryz.ntmps182
    go_wp2
    go_ret3
    exact ⟨rfl, rfl⟩
theorem take_1 (s : ByteArray) (w : World) (hs : s.size ≤ 9223372036854775807) :
    Calls Tryz.prog 181 #[.int .i64 1, .string s] w (Took 1 (tkFix 1 s) w) := by
  have H0 := fun W => takeByte_is s W hs
  have hab : (tkFix 1 s).a = ⟨#[]⟩ ∧ (tkFix 1 s).b = ⟨#[]⟩ := by rcases fx_cases 1 s with ⟨_, e, _, _⟩ | ⟨_, e, _, _⟩ <;> rw [e] <;> exact ⟨rfl, rfl⟩
  obtain ⟨t, ht⟩ : ∃ t, tkFix 1 s = t := ⟨_, rfl⟩
  rw [ht] at H0 hab ⊢
  have H := Lib.hid H0
  clear H0 ht
  obtain ⟨n, a, b, k, e⟩ := t
  obtain ⟨rfl, rfl⟩ : a = _ ∧ b = _ := hab
  go_enter Tryz.func181, Tryz.ntmps181
  go_wp2_with fail
  refine (H.out _).mono ?_
  rintro e w1 ⟨rfl, rfl⟩
  go_wp2_with fail
  go_ret3
  exact ⟨_, _, rfl, (fun _ => ⟨rfl, rfl⟩), Below.refl _ _⟩
theorem take_2 (s : ByteArray) (w : World) (hs : s.size ≤ 9223372036854775807) :
    Calls Tryz.prog 181 #[.int .i64 2, .string s] w (Took 2 (tkFix 2 s) w) := by
  rcases fx_cases 2 s with ⟨_, e, h1, h2⟩ | ⟨_, e, h1, h2⟩
  · rw [e]
    have H := Lib.hid (fun W => TakeTwo_z s 0 7 W hs h1 h2)
    clear e h1 h2
    go_enter Tryz.func181, Tryz.ntmps181
    go_wp2_with fail
    refine (H.out _).mono ?_
    rintro e w1 ⟨rfl, rfl⟩
    go_wp2_with fail
    go_ret3
    exact ⟨_, _, rfl, (fun e => by cases e), Below.refl _ _⟩
  · rw [e]
    obtain ⟨m, hm⟩ : ∃ m, fixVal (s.data.toList.take 2) = m := ⟨_, rfl⟩
    rw [hm] at h1 ⊢
    have H := Lib.hid (fun W => TakeTwo_z s (m : Int) 0 W hs h1 h2)
    clear e h1 h2 hm
    go_enter Tryz.func181, Tryz.ntmps181
    go_wp2_with fail
    refine (H.out _).mono ?_
    rintro e w1 ⟨rfl, rfl⟩
    go_wp2_with fail
    go_ret3
    exact ⟨_, _, rfl, (fun _ => ⟨rfl, rfl⟩), Below.refl _ _⟩
theorem take_3 (s : ByteArray) (w : World) (hs : s.size ≤ 9223372036854775807) :
    Calls Tryz.prog 181 #[.int .i64 3, .string s] w (Took 3 (tkFix 4 s) w) := by
  rcases fx_cases 4 s with ⟨_, e, h1, h2⟩ | ⟨_, e, h1, h2⟩
  · rw [e]
    have H := Lib.hid (fun W => TakeFour_z s 0 7 W hs h1 h2)
    clear e h1 h2
    go_enter Tryz.func181, Tryz.ntmps181
    go_wp2_with fail
    refine (H.out _).mono ?_
    rintro e w1 ⟨rfl, rfl⟩
    go_wp2_with fail
    go_ret3
    exact ⟨_, _, rfl, (fun e => by cases e), Below.refl _ _⟩
  · rw [e]
    obtain ⟨m, hm⟩ : ∃ m, fixVal (s.data.toList.take 4) = m := ⟨_, rfl⟩
    rw [hm] at h1 ⊢
    have H := Lib.hid (fun W => TakeFour_z s (m : Int) 0 W hs h1 h2)
    clear e h1 h2 hm
    go_enter Tryz.func181, Tryz.ntmps181
    go_wp2_with fail
    refine (H.out _).mono ?_
    rintro e w1 ⟨rfl, rfl⟩
    go_wp2_with fail
    go_ret3
    exact ⟨_, _, rfl, (fun _ => ⟨rfl, rfl⟩), Below.refl _ _⟩
theorem take_4 (s : ByteArray) (w : World) (hs : s.size ≤ 9223372036854775807) :
    Calls Tryz.prog 181 #[.int .i64 4, .string s] w (Took 4 (tkNum s) w) := by
  obtain ⟨a, b, c, ht⟩ : ∃ a b c, tn s.data.toList = (a, b, c) := ⟨_, _, _, rfl⟩
  have e : tkNum s = ⟨a, ⟨#[]⟩, ⟨#[]⟩, b, c⟩ := by unfold tkNum; rw [ht]
  rw [e]
  have H := Lib.hid (fun W => TakeNum_z s a b c W hs ht)
  clear e ht
  go_enter Tryz.func181, Tryz.ntmps181
  go_wp2_with fail
  refine (H.out _).mono ?_
  rintro e w1 ⟨rfl, rfl⟩
  go_wp2_with fail
  go_ret3
  exact ⟨_, _, rfl, (fun _ => ⟨rfl, rfl⟩), Below.refl _ _⟩
theorem take_5 (s : ByteArray) (w : World) (hs : s.size ≤ 281474976710656) :
    Calls Tryz.prog 181 #[.int .i64 5, .string s] w (Took 5 (tkLong true s) w) := by
  obtain ⟨T, K, E, ht⟩ : ∃ T K E, tl true s = (T, K, E) := ⟨_, _, _, rfl⟩
  have e : tkLong true s = ⟨0, T, ⟨#[]⟩, K, E⟩ := by unfold tkLong; rw [ht]
  rw [e]
  have H := Lib.hid (fun W => TakeText_is s T K E W hs ht)
  clear e ht
  go_enter Tryz.func181, Tryz.ntmps181
  go_wp2_with fail
  refine (H.out _).mono ?_
  rintro e w1 ⟨rfl, hb1⟩
  have HX := Lib.hid hb1
  clear hb1
  go_wp2_with fail
  go_ret3
  exact ⟨_, _, rfl, (fun _ => ⟨rfl, rfl⟩), HX.out⟩
theorem take_6 (s : ByteArray) (w : World) (hs : s.size ≤ 281474976710656) :
    Calls Tryz.prog 181 #[.int .i64 6, .string s] w (Took 6 (tkLong false s) w) := by
  obtain ⟨T, K, E, ht⟩ : ∃ T K E, tl false s = (T, K, E) := ⟨_, _, _, rfl⟩
  have e : tkLong false s = ⟨0, T, ⟨#[]⟩, K, E⟩ := by unfold tkLong; rw [ht]
  rw [e]
  have H := Lib.hid (fun W => TakeBin_is s T K E W hs ((tl_false s).symm.trans ht))
  clear e ht
  go_enter Tryz.func181, Tryz.ntmps181
  go_wp2_with fail
  refine (H.out _).mono ?_
  rintro e w1 ⟨rfl, hb1⟩
  have HX := Lib.hid hb1
  clear hb1
  go_wp2_with fail
  go_ret3
  exact ⟨_, _, rfl, (fun _ => ⟨rfl, rfl⟩), HX.out⟩
def TookTwo (t : Tk) (w : World) (e : Ending) (w' : World) : Prop := e = .returned (.tuple #[.agg #[.string t.a, .string t.b], .int .i64 t.k, .int .i64 t.e]) ∧ Below w.heap.size w w'
theorem two_bad1 {s : ByteArray} (h : (tl true s).2.2 ≠ 0) : tkTwo s = tkBad (tl true s).2.2 := by unfold tkTwo; rw [if_pos h]
theorem two_bad2 {s : ByteArray} (h : (tl true s).2.2 = 0) (h2 : (tl true (s.extract (tl true s).2.1.toNat s.size)).2.2 ≠ 0) : tkTwo s = tkBad (tl true (s.extract (tl true s).2.1.toNat s.size)).2.2 := by
  unfold tkTwo; rw [if_neg (fun x => x h), if_pos h2]
theorem two_good {s : ByteArray} (h : (tl true s).2.2 = 0) (h2 : (tl true (s.extract (tl true s).2.1.toNat s.size)).2.2 = 0) :
    tkTwo s = ⟨0, (tl true s).1, (tl true (s.extract (tl true s).2.1.toNat s.size)).1, (tl true s).2.1 + (tl true (s.extract (tl true s).2.1.toNat s.size)).2.1, 0⟩ := by
  unfold tkTwo; rw [if_neg (fun x => x h), if_neg (fun x => x h2)]
theorem takePair_is (s : ByteArray) (w : World) (hs : s.size ≤ 281474976710656) :
    Calls Tryz.prog 184 #[.string s] w (TookTwo (tkTwo s) w) := by
  by_cases h : (tl true s).2.2 = 0
  · obtain ⟨m, hm1, hm2, _⟩ := tl_took h
    obtain ⟨T, hT⟩ : ∃ T, (tl true s).1 = T := ⟨_, rfl⟩
    have h1 : tl true s = (T, ((2 + m : Nat) : Int), 0) := by rw [← hT, ← hm1, ← h]
    have HA := Lib.hid (fun W => TakeText_is s T ((2 + m : Nat) : Int) 0 W hs h1)
    obtain ⟨j, hj⟩ : ∃ j, 2 + m = j := ⟨_, rfl⟩
    rw [hj] at h1 hm2 HA
    obtain ⟨U, K, E, h2⟩ : ∃ U K E, tl true (s.extract j s.size) = (U, K, E) := ⟨_, _, _, rfl⟩
    have HB := Lib.hid (fun W => TakeText_is (s.extract j s.size) U K E W (by rw [ByteArray.size_extract]; omega) h2)
    by_cases hE : E = 0
    · subst hE
      obtain ⟨m2, hk1, hk2, _⟩ := tl_took (t := true) (s := s.extract j s.size) (by rw [h2])
      rw [h2] at hk1
      have hk1 : K = ((2 + m2 : Nat) : Int) := hk1
      rw [ByteArray.size_extract] at hk2
      have e : tkTwo s = ⟨0, T, U, (j : Int) + K, 0⟩ := by
        rw [two_good h (by rw [h1, Int.toNat_natCast, h2]), h1, Int.toNat_natCast, h2]
      rw [e]
      clear e h h1 h2 hT hm1 hj
      subst hk1
      go_enter Tryz.func184, Tryz.ntmps184
      go_wp2_with fail
      refine (HA.out _).mono ?_
      rintro e w1 ⟨rfl, hb1⟩
      have HX1 := Lib.hid (Keep.mk ((Box.new w 199 #[.string ⟨#[]⟩, .string ⟨#[]⟩]).below hb1) (((Below.refl w.heap.size w).alloc (Nat.le_refl _) (.cells #[.string ⟨#[]⟩, .string ⟨#[]⟩] 199)).trans (hb1.mono (by simp))))
      clear hb1 HA
      go_wp2_with fail
      refine (HB.out _).mono ?_
      rintro e w2 ⟨rfl, hb2⟩
      have HX2 := Lib.hid (HX1.out.below hb2)
      clear hb2 HB HX1
      have q0 := HX2.out.cell 0
      have q1 := HX2.out.cell 1
      simp only [List.getElem?_toArray, List.getElem?_cons_zero, List.getElem?_cons_succ] at q0 q1
      have f0 := HX2.out.out.1.frozen 0
      have f1 := HX2.out.out.1.frozen 1
      have hsum : (j : Int) + (2 + (m2 : Int)) ≤ 9223372036854775807 := by omega
      go_wp2_with fail
      refine bodyPost_ret (v := .tuple #[.agg #[.string T, .string U], .int .i64 ((j : Int) + (2 + (m2 : Int))), .int .i64 0]) (by simp [results, Tryz.results184, go_sem, q0, q1]) rfl ⟨?_, ?_⟩
      · simp
      · exact (HX2.out.out.2.setCell (p := ⟨w.heap.size, 0, none⟩) (Nat.le_refl _) _).setCell (p := ⟨w.heap.size, 1, none⟩) (Nat.le_refl _) _
    · have e : tkTwo s = tkBad E := by
        rw [two_bad2 h (by rw [h1, Int.toNat_natCast, h2]; exact hE), h1, Int.toNat_natCast, h2]
      rw [e]
      have hEb := ne_true hE
      clear e h h1 h2 hT hm1 hj hE
      go_enter Tryz.func184, Tryz.ntmps184
      go_wp2_with fail
      refine (HA.out _).mono ?_
      rintro e w1 ⟨rfl, hb1⟩
      have HX1 := Lib.hid (Keep.mk ((Box.new w 199 #[.string ⟨#[]⟩, .string ⟨#[]⟩]).below hb1) (((Below.refl w.heap.size w).alloc (Nat.le_refl _) (.cells #[.string ⟨#[]⟩, .string ⟨#[]⟩] 199)).trans (hb1.mono (by simp))))
      clear hb1 HA
      go_wp2_with fail
      refine (HB.out _).mono ?_
      rintro e w2 ⟨rfl, hb2⟩
      have HX2 := Lib.hid (HX1.out.below hb2)
      clear hb2 HB HX1
      have q0 := HX2.out.cell 0
      have q1 := HX2.out.cell 1
      simp only [List.getElem?_toArray, List.getElem?_cons_zero, List.getElem?_cons_succ] at q0 q1
      have f0 := HX2.out.out.1.frozen 0
      have f1 := HX2.out.out.1.frozen 1
      go_wp2_with fail
      refine bodyPost_ret (v := .tuple #[.agg #[.string ⟨#[]⟩, .string ⟨#[]⟩], .int .i64 0, .int .i64 E]) (by simp [results, Tryz.results184, go_sem, q0, q1]) rfl ⟨rfl, ?_⟩
      exact (HX2.out.out.2.setCell (p := ⟨w.heap.size, 0, none⟩) (Nat.le_refl _) _).setCell (p := ⟨w.heap.size, 1, none⟩) (Nat.le_refl _) _
  · obtain ⟨T, K, E, h1⟩ : ∃ T K E, tl true s = (T, K, E) := ⟨_, _, _, rfl⟩
    have HA := Lib.hid (fun W => TakeText_is s T K E W hs h1)
    have hE : E ≠ 0 := by rw [h1] at h; exact h
    have e : tkTwo s = tkBad E := by rw [two_bad1 h, h1]
    rw [e]
    have hEb := ne_true hE
    clear e h h1 hE
    go_enter Tryz.func184, Tryz.ntmps184
    go_wp2_with fail
    refine (HA.out _).mono ?_
    rintro e w1 ⟨rfl, hb1⟩
    have HX2 := Lib.hid (Keep.mk ((Box.new w 199 #[.string ⟨#[]⟩, .string ⟨#[]⟩]).below hb1) (((Below.refl w.heap.size w).alloc (Nat.le_refl _) (.cells #[.string ⟨#[]⟩, .string ⟨#[]⟩] 199)).trans (hb1.mono (by simp))))
    clear hb1 HA
    have q0 := HX2.out.cell 0
    have q1 := HX2.out.cell 1
    simp only [List.getElem?_toArray, List.getElem?_cons_zero, List.getElem?_cons_succ] at q0 q1
    have f0 := HX2.out.out.1.frozen 0
    have f1 := HX2.out.out.1.frozen 1
    go_wp2_with fail
    refine bodyPost_ret (v := .tuple #[.agg #[.string ⟨#[]⟩, .string ⟨#[]⟩], .int .i64 0, .int .i64 E]) (by simp [results, Tryz.results184, go_sem, q0, q1]) rfl ⟨rfl, ?_⟩
    exact (HX2.out.out.2.setCell (p := ⟨w.heap.size, 0, none⟩) (Nat.le_refl _) _).setCell (p := ⟨w.heap.size, 1, none⟩) (Nat.le_refl _) _
theorem take_7 (s : ByteArray) (w : World) (hs : s.size ≤ 281474976710656) :
    Calls Tryz.prog 181 #[.int .i64 7, .string s] w (Took 7 (tkTwo s) w) := by
  have hn : (tkTwo s).n = 0 ∨ (tkTwo s).e ≠ 0 := by
    by_cases h : (tl true s).2.2 = 0
    · by_cases h2 : (tl true (s.extract (tl true s).2.1.toNat s.size)).2.2 = 0
      · rw [two_good h h2]; exact .inl rfl
      · rw [two_bad2 h h2]; exact .inl rfl
    · rw [two_bad1 h]; exact .inl rfl
  have H0 := fun W => takePair_is s W hs
  obtain ⟨t, ht⟩ : ∃ t, tkTwo s = t := ⟨_, rfl⟩
  rw [ht] at H0 hn ⊢
  have H := Lib.hid H0
  clear H0 ht
  obtain ⟨n, a, b, k, e⟩ := t
  go_enter Tryz.func181, Tryz.ntmps181
  go_wp2_with fail
  refine (H.out _).mono ?_
  rintro e w1 ⟨rfl, hb1⟩
  have HX := Lib.hid hb1
  clear hb1
  go_wp2_with fail
  go_ret3
  exact ⟨_, _, rfl, (fun _ => ⟨rfl, rfl⟩), HX.out⟩
theorem take_is (k : Int) (s : ByteArray) (w : World) (hk0 : 0 ≤ k) (hk7 : k ≤ 7) (hk : k ≠ 0) (hs : s.size ≤ 281474976710656) :
    Calls Tryz.prog 181 #[.int .i64 k, .string s] w (Took k (tk k s) w) := by
  rcases kind_seven hk0 hk7 hk with rfl | rfl | rfl | rfl | rfl | rfl | rfl
  · exact take_1 s w (by omega)
  · exact take_2 s w (by omega)
  · exact take_3 s w (by omega)
  · exact take_4 s w (by omega)
  · exact take_5 s w hs
  · exact take_6 s w hs
  · exact take_7 s w hs
open Go.RowKit Go.Lib Prp Vbi
theorem tk_strip {k id : Int} {s : ByteArray} (hk0 : 0 ≤ k) (hk7 : k ≤ 7) (hk : k ≠ 0) : strip k ⟨id, (tk k s).n, (tk k s).a, (tk k s).b⟩ = ⟨id, (tk k s).n, (tk k s).a, (tk k s).b⟩ := by
  have fx : ∀ wd, (tkFix wd s).a = ⟨#[]⟩ ∧ (tkFix wd s).b = ⟨#[]⟩ := fun wd => by rcases fx_cases wd s with ⟨_, e, _, _⟩ | ⟨_, e, _, _⟩ <;> rw [e] <;> exact ⟨rfl, rfl⟩
  rcases kind_seven hk0 hk7 hk with rfl | rfl | rfl | rfl | rfl | rfl | rfl
  · show (⟨id, (tkFix 1 s).n, ⟨#[]⟩, ⟨#[]⟩⟩ : P) = ⟨id, (tkFix 1 s).n, (tkFix 1 s).a, (tkFix 1 s).b⟩
    rw [(fx 1).1, (fx 1).2]
  · show (⟨id, (tkFix 2 s).n, ⟨#[]⟩, ⟨#[]⟩⟩ : P) = ⟨id, (tkFix 2 s).n, (tkFix 2 s).a, (tkFix 2 s).b⟩
    rw [(fx 2).1, (fx 2).2]
  · show (⟨id, (tkFix 4 s).n, ⟨#[]⟩, ⟨#[]⟩⟩ : P) = ⟨id, (tkFix 4 s).n, (tkFix 4 s).a, (tkFix 4 s).b⟩
    rw [(fx 4).1, (fx 4).2]
  · rfl
  · rfl
  · rfl
  · have hn : (tkTwo s).n = 0 := by
      by_cases h : (tl true s).2.2 = 0
      · by_cases h2 : (tl true (s.extract (tl true s).2.1.toNat s.size)).2.2 = 0
        · rw [two_good h h2]
        · rw [two_bad2 h h2]; rfl
      · rw [two_bad1 h]; rfl
    show (⟨id, 0, (tkTwo s).a, (tkTwo s).b⟩ : P) = ⟨id, (tkTwo s).n, (tkTwo s).a, (tkTwo s).b⟩
    rw [hn]
theorem id_at {s : ByteArray} (h : 0 < s.size) : idOf s = (s[0].toNat : Int) := by
  unfold idOf
  have hd := data_at s 0 h
  rw [List.drop_zero] at hd
  rw [hd]; rfl
theorem takeOne_is (s a b : ByteArray) (i n K E : Int) (w : World) (hs0 : 0 < s.size) (hs : s.size ≤ 281474976710656) (h : tone s = (⟨i, n, a, b⟩, K, E)) :
    Calls Tryz.prog 179 #[.string s] w fun e w' => e = .returned (.tuple #[.agg #[.int .i64 i, .int .i64 n, .string a, .string b], .int .i64 K, .int .i64 E]) ∧ Below w.heap.size w w' := by
  have hid := id_at hs0
  have hb0 := s[0].toNat_lt
  rcases tone_cases s with ⟨hk, e⟩ | ⟨hk, he, e⟩ | ⟨hk, he, e⟩
  · rw [e] at h
    obtain ⟨⟨rfl, rfl, rfl, rfl⟩, rfl, rfl⟩ : ((0 : Int) = i ∧ (0 : Int) = n ∧ (⟨#[]⟩ : ByteArray) = a ∧ (⟨#[]⟩ : ByteArray) = b) ∧ (0 : Int) = K ∧ (8 : Int) = E := by
      injection h with h1 h2
      injection h2 with h2 h3
      unfold pz at h1
      injection h1 with x1 x2 x3 x4
      exact ⟨⟨x1, x2, x3, x4⟩, h2, h3⟩
    rw [hid] at hk
    have HK := Lib.hid (fun W => Kind_is (s[0].toNat : Int) 0 3 W hk (by unfold kindErr; rw [if_pos hk]))
    clear hk e h hid
    go_enter Tryz.func179, Tryz.ntmps179
    go_wp2_with (go_at_call 162; refine (HK.out _).mono ?_; rintro e w' ⟨rfl, rfl⟩)
    refine bodyPost_ret (v := .tuple #[.agg #[.int .i64 0, .int .i64 0, .string ⟨#[]⟩, .string ⟨#[]⟩], .int .i64 0, .int .i64 8]) (by simp [results, Tryz.results179, go_sem]) rfl ⟨rfl, ?_⟩
    exact (Below.refl _ _).alloc (Nat.le_refl _) _
  · rw [e] at h
    obtain ⟨k, hkk⟩ : ∃ k, kindZ (idOf s) = k := ⟨_, rfl⟩
    rw [hkk] at h hk he
    have hr := kind_range (idOf s)
    rw [hkk] at hr
    have HK := Lib.hid (fun W => Kind_is (s[0].toNat : Int) k 0 W (by rw [← hid]; exact hkk) (by unfold kindErr; rw [← hid, hkk, if_neg hk]))
    have HT := Lib.hid (fun W => take_is k (s.extract 1 s.size) W hr.1 hr.2 hk (by rw [ByteArray.size_extract]; omega))
    obtain ⟨t, ht⟩ : ∃ t, tk k (s.extract 1 s.size) = t := ⟨_, rfl⟩
    rw [ht] at h he HT
    obtain ⟨⟨rfl, rfl, rfl, rfl⟩, rfl, hE⟩ : ((0 : Int) = i ∧ (0 : Int) = n ∧ (⟨#[]⟩ : ByteArray) = a ∧ (⟨#[]⟩ : ByteArray) = b) ∧ (0 : Int) = K ∧ inn t.e = E := by
      injection h with h1 h2
      injection h2 with h2 h3
      unfold pz at h1
      injection h1 with x1 x2 x3 x4
      exact ⟨⟨x1, x2, x3, x4⟩, h2, h3⟩
    obtain ⟨x, hx⟩ : ∃ x, t.e = x := ⟨_, rfl⟩
    have hs1 : (1 : Int) ≤ (s.size : Int) := by omega
    by_cases h7 : x = 7
    · subst h7
      obtain rfl : 8 = E := by rw [← hE, hx]; rfl
      clear hE h e hkk hid ht he hr
      go_enter Tryz.func179, Tryz.ntmps179
      go_wp2_with (go_at_call 162; refine (HK.out _).mono ?_; rintro e w' ⟨rfl, rfl⟩)
      refine (HT.out _).mono ?_
      rintro e w1 ⟨X, K1, rfl, _, hb1⟩
      have HX := Lib.hid (Keep.mk ((Box.new w 103 #[.int .i64 0, .int .i64 0, .string ⟨#[]⟩, .string ⟨#[]⟩]).below hb1) (((Below.refl w.heap.size w).alloc (Nat.le_refl _) (.cells #[.int .i64 0, .int .i64 0, .string ⟨#[]⟩, .string ⟨#[]⟩] 103)).trans (hb1.mono (by simp))))
      clear hb1 HT HK
      rw [hx]
      clear hx
      have q := HX.out.four
      obtain ⟨q0, q1, q2, q3⟩ := q
      have f0 := HX.out.out.1.frozen 0
      have f1 := HX.out.out.1.frozen 1
      have f2 := HX.out.out.1.frozen 2
      have f3 := HX.out.out.1.frozen 3
      go_wp2_with fail
      refine bodyPost_ret (v := .tuple #[.agg #[.int .i64 0, .int .i64 0, .string ⟨#[]⟩, .string ⟨#[]⟩], .int .i64 0, .int .i64 8]) (by simp [results, Tryz.results179, go_sem, q0, q1, q2, q3]) rfl ⟨rfl, ?_⟩
      exact (((HX.out.out.2.setCell (p := ⟨w.heap.size, 0, none⟩) (Nat.le_refl _) _).setCell (p := ⟨w.heap.size, 1, none⟩) (Nat.le_refl _) _).setCell (p := ⟨w.heap.size, 2, none⟩) (Nat.le_refl _) _).setCell (p := ⟨w.heap.size, 3, none⟩) (Nat.le_refl _) _
    · have hx0 : x ≠ 0 := by rw [← hx]; exact he
      obtain rfl : x = E := by rw [← hE, hx]; unfold inn; rw [if_neg h7]
      have h7b := ne_false h7
      have h0b := ne_true hx0
      clear hE h e hkk hid ht he hr
      go_enter Tryz.func179, Tryz.ntmps179
      go_wp2_with (go_at_call 162; refine (HK.out _).mono ?_; rintro e w' ⟨rfl, rfl⟩)
      refine (HT.out _).mono ?_
      rintro e w1 ⟨X, K1, rfl, _, hb1⟩
      have HX := Lib.hid (Keep.mk ((Box.new w 103 #[.int .i64 0, .int .i64 0, .string ⟨#[]⟩, .string ⟨#[]⟩]).below hb1) (((Below.refl w.heap.size w).alloc (Nat.le_refl _) (.cells #[.int .i64 0, .int .i64 0, .string ⟨#[]⟩, .string ⟨#[]⟩] 103)).trans (hb1.mono (by simp))))
      clear hb1 HT HK
      rw [hx]
      clear hx
      have q := HX.out.four
      obtain ⟨q0, q1, q2, q3⟩ := q
      have f0 := HX.out.out.1.frozen 0
      have f1 := HX.out.out.1.frozen 1
      have f2 := HX.out.out.1.frozen 2
      have f3 := HX.out.out.1.frozen 3
      go_wp2_with fail
      refine bodyPost_ret (v := .tuple #[.agg #[.int .i64 0, .int .i64 0, .string ⟨#[]⟩, .string ⟨#[]⟩], .int .i64 0, .int .i64 x]) (by simp [results, Tryz.results179, go_sem, q0, q1, q2, q3]) rfl ⟨rfl, ?_⟩
      exact (((HX.out.out.2.setCell (p := ⟨w.heap.size, 0, none⟩) (Nat.le_refl _) _).setCell (p := ⟨w.heap.size, 1, none⟩) (Nat.le_refl _) _).setCell (p := ⟨w.heap.size, 2, none⟩) (Nat.le_refl _) _).setCell (p := ⟨w.heap.size, 3, none⟩) (Nat.le_refl _) _
  · rw [e] at h
    obtain ⟨k, hkk⟩ : ∃ k, kindZ (idOf s) = k := ⟨_, rfl⟩
    rw [hkk] at h hk he
    have hr := kind_range (idOf s)
    rw [hkk] at hr
    have hbd := tk_bound he
    rw [ByteArray.size_extract] at hbd
    have hst := tk_strip (id := (s[0].toNat : Int)) hr.1 hr.2 hk (s := s.extract 1 s.size)
    have HK := Lib.hid (fun W => Kind_is (s[0].toNat : Int) k 0 W (by rw [← hid]; exact hkk) (by unfold kindErr; rw [← hid, hkk, if_neg hk]))
    have HT := Lib.hid (fun W => take_is k (s.extract 1 s.size) W hr.1 hr.2 hk (by rw [ByteArray.size_extract]; omega))
    rw [hid] at h
    obtain ⟨t, ht⟩ : ∃ t, tk k (s.extract 1 s.size) = t := ⟨_, rfl⟩
    rw [ht] at h he HT hbd hst
    obtain ⟨tn, ta, tb, tk', te⟩ := t
    have h : ((⟨(s[0].toNat : Int), tn, ta, tb⟩ : P), 1 + tk', (0 : Int)) = (⟨i, n, a, b⟩, K, E) := h
    obtain ⟨⟨rfl, rfl, rfl, rfl⟩, rfl, rfl⟩ : ((s[0].toNat : Int) = i ∧ tn = n ∧ ta = a ∧ tb = b) ∧ 1 + tk' = K ∧ (0 : Int) = E := by
      injection h with h1 h2
      injection h2 with h2 h3
      injection h1 with x1 x2 x3 x4
      exact ⟨⟨x1, x2, x3, x4⟩, h2, h3⟩
    obtain rfl : te = 0 := he
    have hst : strip k ⟨(s[0].toNat : Int), tn, ta, tb⟩ = ⟨(s[0].toNat : Int), tn, ta, tb⟩ := hst
    have hbd0 : 0 ≤ tk' := hbd.1
    have hbd1 : tk' ≤ 281474976710656 := by have h9 : tk' ≤ _ := hbd.2; omega
    have HST := Lib.hid hst
    have hs1 : (1 : Int) ≤ (s.size : Int) := by omega
    clear h e hkk hid ht hr hbd hst
    go_enter Tryz.func179, Tryz.ntmps179
    go_wp2_with (go_at_call 162; refine (HK.out _).mono ?_; rintro e w' ⟨rfl, rfl⟩)
    refine (HT.out _).mono ?_
    rintro e w1 ⟨X, K1, rfl, hXK, hb1⟩
    obtain ⟨hX, hK1⟩ := hXK rfl
    obtain rfl : K1 = tk' := hK1
    have HX := Lib.hid (Keep.mk ((Box.new w 103 #[.int .i64 0, .int .i64 0, .string ⟨#[]⟩, .string ⟨#[]⟩]).below hb1) (((Below.refl w.heap.size w).alloc (Nat.le_refl _) (.cells #[.int .i64 0, .int .i64 0, .string ⟨#[]⟩, .string ⟨#[]⟩] 103)).trans (hb1.mono (by simp))))
    have HXE : Hid (anyOf k ⟨(s[0].toNat : Int), tn, ta, tb⟩ = X) := by rw [hX]; exact rfl
    have HO := Lib.hid (fun W => propOf_is k (s[0].toNat : Int) tn (s[0].toNat : Int) tn ta tb ta tb X W HXE.out HST.out)
    clear hb1 HT HK hXK hX
    go_wp2_with fail
    refine (HO.out _).mono ?_
    rintro e w2 ⟨rfl, hb2⟩
    have HX2 := Lib.hid (HX.out.below hb2)
    clear hb2 HX HO HXE HST
    have q := HX2.out.four
    obtain ⟨q0, q1, q2, q3⟩ := q
    have f0 := HX2.out.out.1.frozen 0
    have f1 := HX2.out.out.1.frozen 1
    have f2 := HX2.out.out.1.frozen 2
    have f3 := HX2.out.out.1.frozen 3
    go_wp2_with fail
    refine bodyPost_ret (v := .tuple #[.agg #[.int .i64 (s[0].toNat : Int), .int .i64 tn, .string ta, .string tb], .int .i64 (1 + K1), .int .i64 0]) (by simp [results, Tryz.results179, go_sem, q0, q1, q2, q3]) rfl ⟨?_, ?_⟩
    · simp
    · exact (((HX2.out.out.2.setCell (p := ⟨w.heap.size, 0, none⟩) (Nat.le_refl _) _).setCell (p := ⟨w.heap.size, 1, none⟩) (Nat.le_refl _) _).setCell (p := ⟨w.heap.size, 2, none⟩) (Nat.le_refl _) _).setCell (p := ⟨w.heap.size, 3, none⟩) (Nat.le_refl _) _
open Go.RowKit Go.Lib Prp
end Go.Proofs.YtiancngpknnkaaaGreat
