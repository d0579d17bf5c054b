/- Package prop, and the document's own answer: small tests of IDs, places and numbers. -/
import Derived.Test.YthjlbdplhhgcpaaPropKind
namespace Go.Proofs.Ythjlbdplhhgcpaa
open Go.RowKit Go.Lib Prp

set_option maxRecDepth 100000 in
set_option maxHeartbeats 8000000 in
theorem RKind_is (id K : Int) (w : World) (hK : kindZ id = K) :
    Calls Try.prog 12 #[.int .i64 id] w fun e w' => e = .returned (.int .i64 K) ∧ w = w' := by
  rcases kind_cases id with c | c | c | c | c | c | c | c
  · rcases c with rfl | rfl | rfl | rfl | rfl | rfl | rfl | rfl <;>
    · obtain rfl : 1 = K := hK
      go_enter Try.func12, Try.ntmps12
      go_wp2
      go_ret
      exact ⟨rfl, rfl⟩
  · rcases c with rfl | rfl | rfl | rfl <;>
    · obtain rfl : 2 = K := hK
      go_enter Try.func12, Try.ntmps12
      go_wp2
      go_ret
      exact ⟨rfl, rfl⟩
  · rcases c with rfl | rfl | rfl | rfl <;>
    · obtain rfl : 3 = K := hK
      go_enter Try.func12, Try.ntmps12
      go_wp2
      go_ret
      exact ⟨rfl, rfl⟩
  · obtain rfl := c
    obtain rfl : 4 = K := hK
    go_enter Try.func12, Try.ntmps12
    go_wp2
    go_ret
    exact ⟨rfl, rfl⟩
  · rcases c with rfl | rfl | rfl | rfl | rfl | rfl | rfl <;>
    · obtain rfl : 5 = K := hK
      go_enter Try.func12, Try.ntmps12
      go_wp2
      go_ret
      exact ⟨rfl, rfl⟩
  · rcases c with rfl | rfl <;>
    · obtain rfl : 6 = K := hK
      go_enter Try.func12, Try.ntmps12
      go_wp2
      go_ret
      exact ⟨rfl, rfl⟩
  · obtain rfl := c
    obtain rfl : 7 = K := hK
    go_enter Try.func12, Try.ntmps12
    go_wp2
    go_ret
    exact ⟨rfl, rfl⟩
  · obtain rfl : 0 = K := (kind_none c).symm.trans hK
    clear hK
    obtain ⟨⟨a1, a2, a3, a4, a5, a6, a7, a8⟩, ⟨b1, b2, b3, b4⟩, ⟨c1, c2, c3, c4⟩, d1, ⟨e1, e2, e3, e4, e5, e6, e7⟩, ⟨f1, f2⟩, g1⟩ := c
    replace a1 := ne_false a1
    replace a2 := ne_false a2
    replace a3 := ne_false a3
    replace a4 := ne_false a4
    replace a5 := ne_false a5
    replace a6 := ne_false a6
    replace a7 := ne_false a7
    replace a8 := ne_false a8
    replace b1 := ne_false b1
    replace b2 := ne_false b2
    replace b3 := ne_false b3
    replace b4 := ne_false b4
    replace c1 := ne_false c1
    replace c2 := ne_false c2
    replace c3 := ne_false c3
    replace c4 := ne_false c4
    replace d1 := ne_false d1
    replace e1 := ne_false e1
    replace e2 := ne_false e2
    replace e3 := ne_false e3
    replace e4 := ne_false e4
    replace e5 := ne_false e5
    replace e6 := ne_false e6
    replace e7 := ne_false e7
    replace f1 := ne_false f1
    replace f2 := ne_false f2
    replace g1 := ne_false g1
    go_enter Try.func12, Try.ntmps12
    go_wp2
    go_ret
    exact ⟨rfl, rfl⟩

/-- The end of a walk that answers a test. -/
theorem dec_true' {p : Prop} [Decidable p] {b : Bool} (h : decide p = b) (hp : p) : true = b := by rw [← h]; exact (decide_eq_true hp).symm
theorem dec_false' {p : Prop} [Decidable p] {b : Bool} (h : decide p = b) (hp : ¬ p) : false = b := by rw [← h]; exact (decide_eq_false hp).symm
theorem dec_dec' {p q : Prop} [Decidable p] [Decidable q] {b : Bool} (h : decide p = b) (hp : q ↔ p) : decide q = b := by rw [← h]; exact decide_eq_decide.2 hp
theorem eq_dec' {p : Prop} [Decidable p] {a b : Bool} (h : decide p = b) (hp : a = true ↔ p) : a = b := by rw [← h, Bool.eq_iff_iff, hp]; simp

set_option maxHeartbeats 1000000 in
theorem isPlace_is (x : Int) (b : Bool) (w : World) (h : placeB x = b) :
    Calls Try.prog 28 #[.int .i64 x] w fun e w' => e = .returned (.bool b) ∧ w = w' := by
  have HB := Lib.hid h
  clear h
  unfold placeB at HB
  by_cases h0 : 0 ≤ x
  · go_enter Try.func28, Try.ntmps28
    go_wp2
    go_ret
    exact ⟨ret_bool (eq_dec' HB.out (by simp; omega)), rfl⟩
  · go_enter Try.func28, Try.ntmps28
    go_wp2
    go_ret
    exact ⟨ret_bool (dec_false' HB.out (by omega)), rfl⟩
set_option maxHeartbeats 1000000 in
theorem Place_is (x : Int) (b : Bool) (w : World) (h : placeB x = b) :
    Calls Try.prog 23 #[.int .i64 x] w fun e w' => e = .returned (.bool b) ∧ w = w' := by
  have HB := Lib.hid h
  clear h
  unfold placeB at HB
  by_cases h0 : 0 ≤ x
  · go_enter Try.func23, Try.ntmps23
    go_wp2
    go_ret
    exact ⟨ret_bool (eq_dec' HB.out (by simp; omega)), rfl⟩
  · go_enter Try.func23, Try.ntmps23
    go_wp2
    go_ret
    exact ⟨ret_bool (dec_false' HB.out (by omega)), rfl⟩
set_option maxHeartbeats 1000000 in
theorem mayRepeat_is (x id : Int) (b : Bool) (w : World) (h : repB x id = b) :
    Calls Try.prog 46 #[.int .i64 x, .int .i64 id] w fun e w' => e = .returned (.bool b) ∧ w = w' := by
  have HB := Lib.hid h
  clear h
  unfold repB at HB
  by_cases h38 : id = 38
  · subst h38
    go_enter Try.func46, Try.ntmps46
    go_wp2
    go_ret
    exact ⟨ret_bool (dec_true' HB.out (by simp)), rfl⟩
  · have b38 := ne_false h38
    by_cases h11 : id = 11
    · subst h11
      by_cases h3 : x = 3
      · subst h3
        go_enter Try.func46, Try.ntmps46
        go_wp2
        go_ret
        exact ⟨ret_bool (dec_true' HB.out (by simp)), rfl⟩
      · have b3 := ne_false h3
        go_enter Try.func46, Try.ntmps46
        go_wp2
        go_ret
        exact ⟨ret_bool (dec_false' HB.out (by omega)), rfl⟩
    · have b11 := ne_false h11
      go_enter Try.func46, Try.ntmps46
      go_wp2
      go_ret
      exact ⟨ret_bool (dec_false' HB.out (by omega)), rfl⟩
set_option maxHeartbeats 1000000 in
theorem zNum_is (n m : Int) (b : Bool) (w : World) (h : decide (0 ≤ n ∧ n ≤ m) = b) :
    Calls Try.prog 51 #[.int .i64 n, .int .i64 m] w fun e w' => e = .returned (.bool b) ∧ w = w' := by
  have HB := Lib.hid h
  clear h
  by_cases h0 : 0 ≤ n
  · go_enter Try.func51, Try.ntmps51
    go_wp2
    go_ret
    exact ⟨ret_bool (eq_dec' HB.out (by simp; omega)), rfl⟩
  · go_enter Try.func51, Try.ntmps51
    go_wp2
    go_ret
    exact ⟨ret_bool (dec_false' HB.out (by omega)), rfl⟩

theorem have_split (id : Int) : (id = 11 ∨ id = 33 ∨ id = 35 ∨ id = 39) ∨ (id ≠ 11 ∧ id ≠ 33 ∧ id ≠ 35 ∧ id ≠ 39) := by omega
theorem have_no {id n : Int} (c : noZ id) : haveB id n = decide (n ≠ 0) := if_pos c
theorem have_yes {id n : Int} (c : ¬ noZ id) : haveB id n = decide (kindZ id ≠ 1 ∨ n = 0 ∨ n = 1) := if_neg c
set_option maxHeartbeats 2000000 in
theorem mayHave_is (id n : Int) (b : Bool) (w : World) (h : haveB id n = b) :
    Calls Try.prog 45 #[.int .i64 id, .int .i64 n] w fun e w' => e = .returned (.bool b) ∧ w = w' := by
  rcases have_split id with c | ⟨h1, h2, h3, h4⟩
  · have HB := Lib.hid ((have_no c).symm.trans h)
    clear h
    rcases c with rfl | rfl | rfl | rfl <;>
    · go_enter Try.func45, Try.ntmps45
      go_wp2
      go_ret
      exact ⟨ret_bool (eq_dec' HB.out (by simp)), rfl⟩
  · have HB := Lib.hid ((have_yes (show ¬ noZ id by unfold noZ; omega)).symm.trans h)
    clear h
    have b1 := ne_false h1
    have b2 := ne_false h2
    have b3 := ne_false h3
    have b4 := ne_false h4
    obtain ⟨K, hK⟩ : ∃ K, kindZ id = K := ⟨_, rfl⟩
    have HK := Lib.hid (fun W => Kind_is id K _ W hK rfl)
    have hb2 := HB.out
    rw [hK] at hb2
    have HC := Lib.hid hb2
    clear hK hb2 HB
    by_cases hk : K = 1
    · subst hk
      by_cases hn : n = 0
      · subst hn
        go_enter Try.func45, Try.ntmps45
        go_wp2_with (go_at_call 11; refine (HK.out _).mono ?_; rintro e w' ⟨rfl, rfl⟩)
        go_ret
        exact ⟨ret_bool (dec_true' HC.out (by simp)), rfl⟩
      · have bn := ne_false hn
        go_enter Try.func45, Try.ntmps45
        go_wp2_with (go_at_call 11; refine (HK.out _).mono ?_; rintro e w' ⟨rfl, rfl⟩)
        go_ret
        exact ⟨ret_bool (eq_dec' HC.out (by simp; omega)), rfl⟩
    · have bk : (K != 1) = true := by rw [bne_iff_ne]; exact hk
      go_enter Try.func45, Try.ntmps45
      go_wp2_with (go_at_call 11; refine (HK.out _).mono ?_; rintro e w' ⟨rfl, rfl⟩)
      go_ret
      exact ⟨ret_bool (dec_true' HC.out (.inl hk)), rfl⟩
end Go.Proofs.Ythjlbdplhhgcpaa
