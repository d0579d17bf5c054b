/- The document's own answer: a value is taken, by its kind. -/
import Derived.Test.YthjlbdplhhgcpaaPropTakeAll
import Derived.Test.YthjlbdplhhgcpaaPropLeaf
import Derived.Test.YthjlbdplhhgcpaaVbiLong
import Derived.Deep.RegionWith
namespace Go.Proofs.Ythjlbdplhhgcpaa
open Go.RowKit Go.Lib Prp Vbi

set_option maxRecDepth 100000 in
theorem inner_is (x r : Int) (w : World) (h : inn x = r) :
    Calls Try.prog 56 #[.int .i64 x] w fun e w' => e = .returned (.int .i64 r) ∧ w = w' := by
  unfold inn at h
  by_cases h7 : x = 7
  · subst h7
    obtain rfl : 8 = r := h
    go_enter Try.func56, Try.ntmps56
    go_wp2
    go_ret
    exact ⟨rfl, rfl⟩
  · rw [if_neg h7] at h
    subst h
    have h7b := ne_false h7
    go_enter Try.func56, Try.ntmps56
    go_wp2
    go_ret
    exact ⟨rfl, rfl⟩
theorem RTakeFixed_z (wd : Nat) (s : ByteArray) (a b : Int) (c : Bool) (w : World) (hs : s.size ≤ 9223372036854775807) (hw : wd ≤ 4) (h1 : tfVal wd s.data.toList = a) (h2 : tfErr wd s.data.toList = b) (h3 : decide (b = 0) = c) :
    Calls Try.prog 55 #[.string s, .int .i64 (wd : Int)] w fun e w' => e = .returned (.tuple #[.int .i64 a, .bool c]) ∧ w = w' :=
  (RTakeFixed_ok s wd w hs hw).mono fun _ _ h => by
    unfold RTfOk at h
    rw [h1, h2, h3] at h
    exact ⟨h.1, h.2.symm⟩
theorem RTakeNum_z (s : ByteArray) (a b c : Int) (w : World) (hs : s.size ≤ 9223372036854775807) (h : tn s.data.toList = (a, b, c)) :
    Calls Try.prog 42 #[.string s] w fun e w' => e = .returned (.tuple #[.int .i64 a, .int .i64 b, .int .i64 c]) ∧ w = w' :=
  (RTakeNum_ok s w hs).mono fun e w' h2 => by
    unfold TnOk at h2
    rw [h] at h2
    exact ⟨h2.1, h2.2.symm⟩
/-- Two blocks of the call's own. -/
@[irreducible] def Two (w : World) (g : Nat) (cs : Array Value) (k : Nat) (ds : Array Value) (W : World) : Prop := Box W g cs ∧ Box W k ds ∧ g ≠ k ∧ w.heap.size ≤ g ∧ w.heap.size ≤ k ∧ Below w.heap.size w W
section
variable {w W W' : World} {g k : Nat} {cs ds : Array Value}
theorem Two.out (h : Two w g cs k ds W) : Box W g cs ∧ Box W k ds ∧ g ≠ k ∧ w.heap.size ≤ g ∧ w.heap.size ≤ k ∧ Below w.heap.size w W := by unfold Two at h; exact h
theorem Two.mk (h : Box W g cs ∧ Box W k ds ∧ g ≠ k ∧ w.heap.size ≤ g ∧ w.heap.size ≤ k ∧ Below w.heap.size w W) : Two w g cs k ds W := by unfold Two; exact h
theorem Two.new (w : World) (T U : TypeId) (cs ds : Array Value) : Two w w.heap.size cs (w.heap.size + 1) ds ((w.alloc (.cells cs T)).alloc (.cells ds U)) := by
  have e : (w.alloc (.cells cs T)).heap.size = w.heap.size + 1 := by simp
  have h2 := Box.new (w.alloc (.cells cs T)) U ds
  rw [e] at h2
  exact .mk ⟨(Box.new w T cs).alloc _, h2, by omega, Nat.le_refl _, by omega, (((Below.refl _ _).alloc (Nat.le_refl _) _).alloc (by simp) _)⟩
theorem Two.below (h : Two w g cs k ds W) (hb : Below W.heap.size W W') : Two w g cs k ds W' :=
  .mk ⟨h.out.1.below hb, h.out.2.1.below hb, h.out.2.2.1, h.out.2.2.2.1, h.out.2.2.2.2.1, h.out.2.2.2.2.2.trans (hb.mono h.out.2.2.2.2.2.size)⟩
theorem Two.alloc (h : Two w g cs k ds W) (o : Obj) : Two w g cs k ds (W.alloc o) := h.below ((Below.refl _ _).alloc (Nat.le_refl _) _)
theorem Two.drew (h : Two w g cs k ds W) : Two w g cs k ds W.drew := h.below (below_drewN (Below.refl _ _) 1)
theorem Two.cell (h : Two w g cs k ds W) (i : Nat) : W.cell? ⟨g, i, none⟩ = cs[i]? := h.out.1.cell i
theorem Two.cell2 (h : Two w g cs k ds W) (i : Nat) : W.cell? ⟨k, i, none⟩ = ds[i]? := h.out.2.1.cell i
theorem Two.frozen (h : Two w g cs k ds W) (i : Nat) : W.frozen? ⟨g, i, none⟩ = false := h.out.1.frozen i
theorem Two.frozen2 (h : Two w g cs k ds W) (i : Nat) : W.frozen? ⟨k, i, none⟩ = false := h.out.2.1.frozen i
theorem Two.put2 (h : Two w g cs k ds W) (i : Nat) (v : Value) : Two w g cs k (ds.setIfInBounds i v) (W.setCell ⟨k, i, none⟩ v) :=
  .mk ⟨h.out.1.far (p := ⟨k, i, none⟩) h.out.2.2.1 v, h.out.2.1.put i v, h.out.2.2.1, h.out.2.2.2.1, h.out.2.2.2.2.1, h.out.2.2.2.2.2.setCell (p := ⟨k, i, none⟩) h.out.2.2.2.2.1 v⟩
theorem Two.end4 (h : Two w g cs k ds W) (a b c d : Value) : Below w.heap.size w ((((W.setCell ⟨g, 0, none⟩ a).setCell ⟨g, 1, none⟩ b).setCell ⟨g, 2, none⟩ c).setCell ⟨g, 3, none⟩ d) :=
  (((h.out.2.2.2.2.2.setCell (p := ⟨g, 0, none⟩) h.out.2.2.2.1 _).setCell (p := ⟨g, 1, none⟩) h.out.2.2.2.1 _).setCell (p := ⟨g, 2, none⟩) h.out.2.2.2.1 _).setCell (p := ⟨g, 3, none⟩) h.out.2.2.2.1 _
end
/-- What a value is taken as. -/
def Valued (id : Int) (t : Tk) (w : World) (e : Ending) (w' : World) : Prop :=
  ∃ (i n K : Int) (a b : ByteArray), e = .returned (.tuple #[.agg #[.int .i64 i, .int .i64 n, .string a, .string b], .int .i64 K, .int .i64 (inn t.e)]) ∧ (t.e = 0 → i = id ∧ n = t.n ∧ a = t.a ∧ b = t.b ∧ K = t.k) ∧ Below w.heap.size w w'

set_option maxRecDepth 100000 in
set_option maxHeartbeats 8000000 in
theorem value_fix (k id : Int) (wd : Nat) (s : ByteArray) (w : World) (hs : s.size ≤ 281474976710656) (hk : (k = 1 ∧ wd = 1) ∨ (k = 2 ∧ wd = 2) ∨ (k = 3 ∧ wd = 4)) (hkk : kindZ id = k) :
    Calls Try.prog 43 #[.int .i64 id, .string s] w (Valued id (tkFix wd s) w) := by
  have HK := Lib.hid (fun W => RKind_is id k W hkk)
  clear hkk
  have hw4 : wd ≤ 4 := by omega
  rcases fx_cases wd s with ⟨_, e, h1, h2⟩ | ⟨_, e, h1, h2⟩
  · rw [e]
    have HT := Lib.hid (fun W => RTakeFixed_z wd s 0 7 false W (by omega) hw4 h1 h2 rfl)
    clear e h1 h2
    rcases hk with ⟨rfl, rfl⟩ | ⟨rfl, rfl⟩ | ⟨rfl, rfl⟩
    all_goals
      go_enter Try.func43, Try.ntmps43
      go_wp2_with fail
      have H0 := Lib.hid (Two.new w 48 48 #[.int .i64 0, .int .i64 0, .string ⟨#[]⟩, .string ⟨#[]⟩] #[.int .i64 id, .int .i64 0, .string ⟨#[]⟩, .string ⟨#[]⟩])
      obtain ⟨g1, hg1⟩ : ∃ g1, w.heap.size + 1 = g1 := ⟨_, rfl⟩
      obtain ⟨g, hg⟩ : ∃ g, w.heap.size = g := ⟨_, rfl⟩
      generalize (w.alloc (.cells #[.int .i64 0, .int .i64 0, .string ⟨#[]⟩, .string ⟨#[]⟩] 48)).alloc (.cells #[.int .i64 id, .int .i64 0, .string ⟨#[]⟩, .string ⟨#[]⟩] 48) = w0 at H0 ⊢
      rw [hg1, hg] at H0
      rw [hg1, hg]
      clear hg hg1
      refine (HK.out _).mono ?_
      rintro e w' ⟨rfl, rfl⟩
      go_wp2_with fail
      refine (HT.out _).mono ?_
      rintro e w' ⟨rfl, rfl⟩
      have H1 := Lib.hid (H0.out.alloc (.cells #[.int .i64 0, .int .i64 1, .int .i64 2, .int .i64 4] 3))
      generalize w0.alloc (.cells #[.int .i64 0, .int .i64 1, .int .i64 2, .int .i64 4] 3) = w1 at H1 ⊢
      clear H0 HK HT
      have c0 := H1.out.cell2 0
      have c1 := H1.out.cell2 1
      have c2 := H1.out.cell2 2
      have c3 := H1.out.cell2 3
      have q0 := H1.out.cell 0
      have q1 := H1.out.cell 1
      have q2 := H1.out.cell 2
      have q3 := H1.out.cell 3
      have f0 := H1.out.frozen 0
      have f1 := H1.out.frozen 1
      have f2 := H1.out.frozen 2
      have f3 := H1.out.frozen 3
      simp only [List.getElem?_toArray, List.getElem?_cons_zero, List.getElem?_cons_succ] at c0 c1 c2 c3 q0 q1 q2 q3
      go_wp2_with fail
      refine bodyPost_ret (v := .tuple #[.agg #[.int .i64 id, .int .i64 0, .string ⟨#[]⟩, .string ⟨#[]⟩], .int .i64 0, .int .i64 8]) (by simp [results, Try.results43, go_sem, q0, q1, q2, q3]) rfl ⟨id, 0, 0, _, _, rfl, fun e => (by cases e), H1.out.end4 _ _ _ _⟩
  · obtain ⟨m, hm⟩ : ∃ m, fixVal (s.data.toList.take wd) = m := ⟨_, rfl⟩
    rw [e]
    rw [hm] at h1 ⊢
    have HT := Lib.hid (fun W => RTakeFixed_z wd s (m : Int) 0 true W (by omega) hw4 h1 h2 rfl)
    clear e h1 h2 hm
    rcases hk with ⟨rfl, rfl⟩ | ⟨rfl, rfl⟩ | ⟨rfl, rfl⟩
    all_goals
      go_enter Try.func43, Try.ntmps43
      go_wp2_with fail
      have H0 := Lib.hid (Two.new w 48 48 #[.int .i64 0, .int .i64 0, .string ⟨#[]⟩, .string ⟨#[]⟩] #[.int .i64 id, .int .i64 0, .string ⟨#[]⟩, .string ⟨#[]⟩])
      obtain ⟨g1, hg1⟩ : ∃ g1, w.heap.size + 1 = g1 := ⟨_, rfl⟩
      obtain ⟨g, hg⟩ : ∃ g, w.heap.size = g := ⟨_, rfl⟩
      generalize (w.alloc (.cells #[.int .i64 0, .int .i64 0, .string ⟨#[]⟩, .string ⟨#[]⟩] 48)).alloc (.cells #[.int .i64 id, .int .i64 0, .string ⟨#[]⟩, .string ⟨#[]⟩] 48) = w0 at H0 ⊢
      rw [hg1, hg] at H0
      rw [hg1, hg]
      clear hg hg1
      refine (HK.out _).mono ?_
      rintro e w' ⟨rfl, rfl⟩
      go_wp2_with fail
      refine (HT.out _).mono ?_
      rintro e w' ⟨rfl, rfl⟩
      have H1 := Lib.hid (H0.out.alloc (.cells #[.int .i64 0, .int .i64 1, .int .i64 2, .int .i64 4] 3))
      generalize w0.alloc (.cells #[.int .i64 0, .int .i64 1, .int .i64 2, .int .i64 4] 3) = w1 at H1 ⊢
      clear H0 HK HT
      have c0 := H1.out.cell2 0
      have c1 := H1.out.cell2 1
      have c2 := H1.out.cell2 2
      have c3 := H1.out.cell2 3
      have q0 := H1.out.cell 0
      have q1 := H1.out.cell 1
      have q2 := H1.out.cell 2
      have q3 := H1.out.cell 3
      have f0 := H1.out.frozen 0
      have f1 := H1.out.frozen 1
      have f2 := H1.out.frozen 2
      have f3 := H1.out.frozen 3
      have fb0 := H1.out.frozen2 0
      have fb1 := H1.out.frozen2 1
      have fb2 := H1.out.frozen2 2
      have fb3 := H1.out.frozen2 3
      simp only [List.getElem?_toArray, List.getElem?_cons_zero, List.getElem?_cons_succ] at c0 q0 c1 q1 c2 q2 c3 q3
      have H2 := Lib.hid (H1.out.put2 1 (.int .i64 (m : Int)))
      have d0 := H2.out.cell2 0
      have d1 := H2.out.cell2 1
      have d2 := H2.out.cell2 2
      have d3 := H2.out.cell2 3
      have r0 := H2.out.cell 0
      have r1 := H2.out.cell 1
      have r2 := H2.out.cell 2
      have r3 := H2.out.cell 3
      have s0 := H2.out.frozen 0
      have s1 := H2.out.frozen 1
      have s2 := H2.out.frozen 2
      have s3 := H2.out.frozen 3
      have sb0 := H2.out.frozen2 0
      have sb1 := H2.out.frozen2 1
      have sb2 := H2.out.frozen2 2
      have sb3 := H2.out.frozen2 3
      simp only [List.getElem?_toArray, List.getElem?_cons_zero, List.getElem?_cons_succ] at d0 r0 d1 r1 d2 r2 d3 r3
      go_wp2_with fail
      refine bodyPost_ret (v := .tuple #[.agg #[.int .i64 id, .int .i64 (m : Int), .string ⟨#[]⟩, .string ⟨#[]⟩], .int .i64 _, .int .i64 0]) (by simp [results, Try.results43, go_sem, r0, r1, r2, r3]) rfl ⟨id, (m : Int), _, _, _, rfl, fun _ => ⟨rfl, rfl, rfl, rfl, rfl⟩, H2.out.end4 _ _ _ _⟩

set_option maxRecDepth 100000 in
set_option maxHeartbeats 8000000 in
theorem value_num (id : Int) (s : ByteArray) (w : World) (hs : s.size ≤ 281474976710656) (hkk : kindZ id = 4) :
    Calls Try.prog 43 #[.int .i64 id, .string s] w (Valued id (tkNum s) w) := by
  have HK := Lib.hid (fun W => RKind_is id 4 W hkk)
  clear hkk
  obtain ⟨a, b, c, ht⟩ : ∃ a b c, tn s.data.toList = (a, b, c) := ⟨_, _, _, rfl⟩
  have e : tkNum s = ⟨a, ⟨#[]⟩, ⟨#[]⟩, b, c⟩ := by unfold tkNum; rw [ht]
  rw [e]
  have HT := Lib.hid (fun W => RTakeNum_z s a b c W (by omega) ht)
  obtain ⟨r, hr⟩ : ∃ r, inn c = r := ⟨_, rfl⟩
  have HI := Lib.hid (fun W => inner_is c r W hr)
  have HR := Lib.hid hr
  clear e ht hr
  go_enter Try.func43, Try.ntmps43
  go_wp2_with fail
  have H0 := Lib.hid (Two.new w 48 48 #[.int .i64 0, .int .i64 0, .string ⟨#[]⟩, .string ⟨#[]⟩] #[.int .i64 id, .int .i64 0, .string ⟨#[]⟩, .string ⟨#[]⟩])
  obtain ⟨g1, hg1⟩ : ∃ g1, w.heap.size + 1 = g1 := ⟨_, rfl⟩
  obtain ⟨g, hg⟩ : ∃ g, w.heap.size = g := ⟨_, rfl⟩
  generalize (w.alloc (.cells #[.int .i64 0, .int .i64 0, .string ⟨#[]⟩, .string ⟨#[]⟩] 48)).alloc (.cells #[.int .i64 id, .int .i64 0, .string ⟨#[]⟩, .string ⟨#[]⟩] 48) = w0 at H0 ⊢
  rw [hg1, hg] at H0
  rw [hg1, hg]
  clear hg hg1
  refine (HK.out _).mono ?_
  rintro e w' ⟨rfl, rfl⟩
  go_wp2_with fail
  refine (HT.out _).mono ?_
  rintro e w' ⟨rfl, rfl⟩
  have fb := H0.out.frozen2 1
  have c1 := H0.out.cell2 1
  simp only [List.getElem?_toArray, List.getElem?_cons_zero, List.getElem?_cons_succ] at c1
  go_wp2_with fail
  have H2 := Lib.hid (H0.out.put2 1 (.int .i64 a))
  generalize w0.setCell ⟨g1, 1, none⟩ (.int .i64 a) = w2 at H2 ⊢
  clear H0 HK HT fb c1
  obtain ⟨w9, hw9⟩ : ∃ w9, w2.drew = w9 := ⟨_, rfl⟩
  have H9 := Lib.hid H2.out.drew
  rw [hw9] at H9
  have c0 := H2.out.cell2 0
  have c1 := H2.out.cell2 1
  have c2 := H2.out.cell2 2
  have c3 := H2.out.cell2 3
  have q0 := H2.out.cell 0
  have q1 := H2.out.cell 1
  have q2 := H2.out.cell 2
  have q3 := H2.out.cell 3
  have f0 := H2.out.frozen 0
  have f1 := H2.out.frozen 1
  have f2 := H2.out.frozen 2
  have f3 := H2.out.frozen 3
  have HD := Lib.hid H2.out.drew
  simp only [List.setIfInBounds_toArray, List.set_cons_zero, List.set_cons_succ, List.getElem?_toArray, List.getElem?_cons_zero, List.getElem?_cons_succ] at c0 c1 c2 c3 q0 q1 q2 q3
  clear H9 hw9
  go_region_with (go_at_call 56; refine (HI.out _).mono ?_; rintro e w' ⟨rfl, rfl⟩)
  all_goals
    try go_wp2_with fail
    rw [← HR.out]
    refine bodyPost_ret (v := .tuple #[.agg #[.int .i64 id, .int .i64 a, .string ⟨#[]⟩, .string ⟨#[]⟩], .int .i64 b, .int .i64 (inn c)]) (by simp [results, Try.results43, go_sem, q0, q1, q2, q3]) rfl ⟨_, _, _, _, _, rfl, fun _ => ⟨rfl, rfl, rfl, rfl, rfl⟩, HD.out.end4 _ _ _ _⟩
end Go.Proofs.Ythjlbdplhhgcpaa
