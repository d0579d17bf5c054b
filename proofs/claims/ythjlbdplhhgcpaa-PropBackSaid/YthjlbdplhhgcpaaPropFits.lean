/- The document's own answer: is a property's value one of its kind? -/
import Derived.Test.YthjlbdplhhgcpaaPropLeaf
import Derived.Test.YthjlbdplhhgcpaaPropPutOne
import Derived.Test.YthjlbdplhhgcpaaTextRText
namespace Go.Proofs.Ythjlbdplhhgcpaa
open Go.RowKit Go.Lib Prp Vbi Txt

theorem fits_none {p : P} (h : kindZ p.id = 0) : fitsB p = false := by
  unfold fitsB
  rw [decide_eq_false (show ¬ (kindZ p.id ≠ 0) from fun e => e h)]; rfl
theorem fits_zero {p : P} (hz : noZ p.id) (hn : p.n = 0) : fitsB p = false := by
  unfold fitsB
  rw [decide_eq_false (show ¬ ¬ (noZ p.id ∧ p.n = 0) from fun e => e ⟨hz, hn⟩)]; simp
theorem fits_val {p : P} {k : Int} (hk : kindZ p.id = k) (hk0 : k ≠ 0) (h : ¬ (noZ p.id ∧ p.n = 0)) : fitsB p = valB k p := by
  unfold fitsB
  rw [hk, decide_eq_true (show k ≠ 0 from hk0), decide_eq_true (show ¬ (noZ p.id ∧ p.n = 0) from h)]; rfl
theorem empty_iff (v : ByteArray) : v.toList = [] ↔ v = ⟨#[]⟩ := by rw [← toList_eq_iff, show (⟨#[]⟩ : ByteArray).toList = [] by rw [ByteArray.toList_eq]]
theorem RText_yes (s : ByteArray) (w : World) (h : textB s = true) : Calls Try.prog 52 #[.string s] w fun e w' => e = .returned (.int .i64 0) ∧ w = w' := by
  unfold textB at h
  have h0 : textErr s.data.toList = 0 := of_decide_eq_true h
  exact RText_eq s 0 w h0
theorem RText_no (s : ByteArray) (w : World) (h : textB s = false) : Calls Try.prog 52 #[.string s] w fun e w' => ∃ E : Int, e = .returned (.int .i64 E) ∧ E ≠ 0 ∧ w = w' := by
  unfold textB at h
  have h0 : ¬ textErr s.data.toList = 0 := of_decide_eq_false h
  exact (RText_eq s _ w rfl).mono fun _ _ ⟨h1, h2⟩ => ⟨_, h1, h0, h2⟩
set_option maxRecDepth 100000 in
set_option maxHeartbeats 8000000 in
theorem fits_0 (id n : Int) (s v : ByteArray) (b : Bool) (w : World) (hk : kindZ id = 0) (hb : false = b) :
    Calls Try.prog 35 #[.agg #[.int .i64 id, .int .i64 n, .string s, .string v]] w fun e w' => e = .returned (.bool b) ∧ Below w.heap.size w w' := by
  subst hb
  have HK := Lib.hid (fun W => RKind_is id 0 W hk)
  clear hk
  go_enter Try.func35, Try.ntmps35
  go_wp2_with (go_at_call 12; refine (HK.out _).mono ?_; rintro e w' ⟨rfl, rfl⟩)
  go_ret
  exact ⟨rfl, (Below.refl _ _).alloc (Nat.le_refl _) _⟩
set_option maxRecDepth 100000 in
set_option maxHeartbeats 8000000 in
theorem fits_1 (id n : Int) (s v : ByteArray) (b : Bool) (w : World) (hk : kindZ id = 1) (hb : fitsB ⟨id, n, s, v⟩ = b) :
    Calls Try.prog 35 #[.agg #[.int .i64 id, .int .i64 n, .string s, .string v]] w fun e w' => e = .returned (.bool b) ∧ Below w.heap.size w w' := by
  have HK := Lib.hid (fun W => RKind_is id 1 W hk)
  obtain ⟨x, hx⟩ : ∃ x, decide (0 ≤ n ∧ n ≤ 1) = x := ⟨_, rfl⟩
  have HN := Lib.hid (fun W => zNum_is n 1 x W hx)
  have HX := Lib.hid hx
  have mem : ∀ W : World, (W.alloc (.cells #[.int .i64 0, .int .i64 1, .int .i64 65535, .int .i64 4294967295, .int .i64 268435455] 3)).cell? ⟨W.heap.size, 1, none⟩ = some (.int .i64 1) := fun W => by rw [cell_of_row (W.alloc _) W.heap.size 1 _ _ (0, 0) (heap_alloc_new W _)]; rfl
  rcases have_split id with c | ⟨h1, h2, h3, h4⟩
  · rcases c with rfl | rfl | rfl | rfl
    · cases hk
    · cases hk
    · cases hk
    · cases hk
  · have HB : Hid (decide ((n = 0 ∨ n = 1) ∧ s = ⟨#[]⟩ ∧ v = ⟨#[]⟩) = b) := (fits_val (p := ⟨id, n, s, v⟩) hk (by decide) (fun e => by have : noZ id := e.1; unfold noZ at this; omega)).symm.trans hb
    replace h1 := ne_false h1
    replace h2 := ne_false h2
    replace h3 := ne_false h3
    replace h4 := ne_false h4
    clear hk hb hx
    cases x with
    | false =>
      have hm : ¬ (n = 0 ∨ n = 1) := by have := of_decide_eq_false HX.out; omega
      have HM := Lib.hid hm
      clear hm HX
      go_enter Try.func35, Try.ntmps35
      go_wp2_with (first | (go_at_call 12; refine (HK.out _).mono ?_; rintro e w' ⟨rfl, rfl⟩) | (go_at_call 51; refine (HN.out _).mono ?_; rintro e w' ⟨rfl, rfl⟩))
      go_ret
      exact ⟨ret_bool (dec_false' HB.out (fun e => HM.out e.1)), ((Below.refl _ _).alloc (Nat.le_refl _) _).alloc (by simp) _⟩
    | true =>
      have hm : (n = 0 ∨ n = 1) := by have := of_decide_eq_true HX.out; omega
      have HM := Lib.hid hm
      clear hm HX
      go_enter Try.func35, Try.ntmps35
      go_wp2_with (first | (go_at_call 12; refine (HK.out _).mono ?_; rintro e w' ⟨rfl, rfl⟩) | (go_at_call 51; refine (HN.out _).mono ?_; rintro e w' ⟨rfl, rfl⟩))
      all_goals
        go_ret
        refine ⟨ret_bool ?_, ((Below.refl _ _).alloc (Nat.le_refl _) _).alloc (by simp) _⟩
        have h3 := HM.out
        rw [← HB.out, Bool.eq_iff_iff]
        simp_all [List.isEmpty_iff, empty_iff]
set_option maxRecDepth 100000 in
set_option maxHeartbeats 8000000 in
theorem fits_2 (id n : Int) (s v : ByteArray) (b : Bool) (w : World) (hk : kindZ id = 2) (hb : fitsB ⟨id, n, s, v⟩ = b) :
    Calls Try.prog 35 #[.agg #[.int .i64 id, .int .i64 n, .string s, .string v]] w fun e w' => e = .returned (.bool b) ∧ Below w.heap.size w w' := by
  have HK := Lib.hid (fun W => RKind_is id 2 W hk)
  obtain ⟨x, hx⟩ : ∃ x, decide (0 ≤ n ∧ n ≤ 65535) = x := ⟨_, rfl⟩
  have HN := Lib.hid (fun W => zNum_is n 65535 x W hx)
  have HX := Lib.hid hx
  have mem : ∀ W : World, (W.alloc (.cells #[.int .i64 0, .int .i64 1, .int .i64 65535, .int .i64 4294967295, .int .i64 268435455] 3)).cell? ⟨W.heap.size, 2, none⟩ = some (.int .i64 65535) := fun W => by rw [cell_of_row (W.alloc _) W.heap.size 2 _ _ (0, 0) (heap_alloc_new W _)]; rfl
  rcases have_split id with c | ⟨h1, h2, h3, h4⟩
  · rcases c with rfl | rfl | rfl | rfl
    · cases hk
    · by_cases hn : n = 0
      · obtain rfl : false = b := (fits_zero (p := ⟨33, n, s, v⟩) (by unfold noZ; simp) hn).symm.trans hb
        subst hn
        clear hk hb hx HX HN
        go_enter Try.func35, Try.ntmps35
        go_wp2_with (go_at_call 12; refine (HK.out _).mono ?_; rintro e w' ⟨rfl, rfl⟩)
        go_ret
        exact ⟨rfl, ((Below.refl _ _).alloc (Nat.le_refl _) _).alloc (by simp) _⟩
      · have HB : Hid (decide ((0 ≤ n ∧ n < 65536) ∧ s = ⟨#[]⟩ ∧ v = ⟨#[]⟩) = b) := (fits_val (p := ⟨33, n, s, v⟩) hk (by decide) (fun e => hn e.2)).symm.trans hb
        have bn := ne_false hn
        clear hn
        clear hk hb hx
        cases x with
        | false =>
          have hm : ¬ (0 ≤ n ∧ n < 65536) := by have := of_decide_eq_false HX.out; omega
          have HM := Lib.hid hm
          clear hm HX
          go_enter Try.func35, Try.ntmps35
          go_wp2_with (first | (go_at_call 12; refine (HK.out _).mono ?_; rintro e w' ⟨rfl, rfl⟩) | (go_at_call 51; refine (HN.out _).mono ?_; rintro e w' ⟨rfl, rfl⟩))
          go_ret
          exact ⟨ret_bool (dec_false' HB.out (fun e => HM.out e.1)), ((Below.refl _ _).alloc (Nat.le_refl _) _).alloc (by simp) _⟩
        | true =>
          have hm : (0 ≤ n ∧ n < 65536) := by have := of_decide_eq_true HX.out; omega
          have HM := Lib.hid hm
          clear hm HX
          go_enter Try.func35, Try.ntmps35
          go_wp2_with (first | (go_at_call 12; refine (HK.out _).mono ?_; rintro e w' ⟨rfl, rfl⟩) | (go_at_call 51; refine (HN.out _).mono ?_; rintro e w' ⟨rfl, rfl⟩))
          all_goals
            go_ret
            refine ⟨ret_bool ?_, ((Below.refl _ _).alloc (Nat.le_refl _) _).alloc (by simp) _⟩
            have h3 := HM.out
            rw [← HB.out, Bool.eq_iff_iff]
            simp_all [List.isEmpty_iff, empty_iff]
    · by_cases hn : n = 0
      · obtain rfl : false = b := (fits_zero (p := ⟨35, n, s, v⟩) (by unfold noZ; simp) hn).symm.trans hb
        subst hn
        clear hk hb hx HX HN
        go_enter Try.func35, Try.ntmps35
        go_wp2_with (go_at_call 12; refine (HK.out _).mono ?_; rintro e w' ⟨rfl, rfl⟩)
        go_ret
        exact ⟨rfl, ((Below.refl _ _).alloc (Nat.le_refl _) _).alloc (by simp) _⟩
      · have HB : Hid (decide ((0 ≤ n ∧ n < 65536) ∧ s = ⟨#[]⟩ ∧ v = ⟨#[]⟩) = b) := (fits_val (p := ⟨35, n, s, v⟩) hk (by decide) (fun e => hn e.2)).symm.trans hb
        have bn := ne_false hn
        clear hn
        clear hk hb hx
        cases x with
        | false =>
          have hm : ¬ (0 ≤ n ∧ n < 65536) := by have := of_decide_eq_false HX.out; omega
          have HM := Lib.hid hm
          clear hm HX
          go_enter Try.func35, Try.ntmps35
          go_wp2_with (first | (go_at_call 12; refine (HK.out _).mono ?_; rintro e w' ⟨rfl, rfl⟩) | (go_at_call 51; refine (HN.out _).mono ?_; rintro e w' ⟨rfl, rfl⟩))
          go_ret
          exact ⟨ret_bool (dec_false' HB.out (fun e => HM.out e.1)), ((Below.refl _ _).alloc (Nat.le_refl _) _).alloc (by simp) _⟩
        | true =>
          have hm : (0 ≤ n ∧ n < 65536) := by have := of_decide_eq_true HX.out; omega
          have HM := Lib.hid hm
          clear hm HX
          go_enter Try.func35, Try.ntmps35
          go_wp2_with (first | (go_at_call 12; refine (HK.out _).mono ?_; rintro e w' ⟨rfl, rfl⟩) | (go_at_call 51; refine (HN.out _).mono ?_; rintro e w' ⟨rfl, rfl⟩))
          all_goals
            go_ret
            refine ⟨ret_bool ?_, ((Below.refl _ _).alloc (Nat.le_refl _) _).alloc (by simp) _⟩
            have h3 := HM.out
            rw [← HB.out, Bool.eq_iff_iff]
            simp_all [List.isEmpty_iff, empty_iff]
    · cases hk
  · have HB : Hid (decide ((0 ≤ n ∧ n < 65536) ∧ s = ⟨#[]⟩ ∧ v = ⟨#[]⟩) = b) := (fits_val (p := ⟨id, n, s, v⟩) hk (by decide) (fun e => by have : noZ id := e.1; unfold noZ at this; omega)).symm.trans hb
    replace h1 := ne_false h1
    replace h2 := ne_false h2
    replace h3 := ne_false h3
    replace h4 := ne_false h4
    clear hk hb hx
    cases x with
    | false =>
      have hm : ¬ (0 ≤ n ∧ n < 65536) := by have := of_decide_eq_false HX.out; omega
      have HM := Lib.hid hm
      clear hm HX
      go_enter Try.func35, Try.ntmps35
      go_wp2_with (first | (go_at_call 12; refine (HK.out _).mono ?_; rintro e w' ⟨rfl, rfl⟩) | (go_at_call 51; refine (HN.out _).mono ?_; rintro e w' ⟨rfl, rfl⟩))
      go_ret
      exact ⟨ret_bool (dec_false' HB.out (fun e => HM.out e.1)), ((Below.refl _ _).alloc (Nat.le_refl _) _).alloc (by simp) _⟩
    | true =>
      have hm : (0 ≤ n ∧ n < 65536) := by have := of_decide_eq_true HX.out; omega
      have HM := Lib.hid hm
      clear hm HX
      go_enter Try.func35, Try.ntmps35
      go_wp2_with (first | (go_at_call 12; refine (HK.out _).mono ?_; rintro e w' ⟨rfl, rfl⟩) | (go_at_call 51; refine (HN.out _).mono ?_; rintro e w' ⟨rfl, rfl⟩))
      all_goals
        go_ret
        refine ⟨ret_bool ?_, ((Below.refl _ _).alloc (Nat.le_refl _) _).alloc (by simp) _⟩
        have h3 := HM.out
        rw [← HB.out, Bool.eq_iff_iff]
        simp_all [List.isEmpty_iff, empty_iff]
set_option maxRecDepth 100000 in
set_option maxHeartbeats 8000000 in
theorem fits_3 (id n : Int) (s v : ByteArray) (b : Bool) (w : World) (hk : kindZ id = 3) (hb : fitsB ⟨id, n, s, v⟩ = b) :
    Calls Try.prog 35 #[.agg #[.int .i64 id, .int .i64 n, .string s, .string v]] w fun e w' => e = .returned (.bool b) ∧ Below w.heap.size w w' := by
  have HK := Lib.hid (fun W => RKind_is id 3 W hk)
  obtain ⟨x, hx⟩ : ∃ x, decide (0 ≤ n ∧ n ≤ 4294967295) = x := ⟨_, rfl⟩
  have HN := Lib.hid (fun W => zNum_is n 4294967295 x W hx)
  have HX := Lib.hid hx
  have mem : ∀ W : World, (W.alloc (.cells #[.int .i64 0, .int .i64 1, .int .i64 65535, .int .i64 4294967295, .int .i64 268435455] 3)).cell? ⟨W.heap.size, 3, none⟩ = some (.int .i64 4294967295) := fun W => by rw [cell_of_row (W.alloc _) W.heap.size 3 _ _ (0, 0) (heap_alloc_new W _)]; rfl
  rcases have_split id with c | ⟨h1, h2, h3, h4⟩
  · rcases c with rfl | rfl | rfl | rfl
    · cases hk
    · cases hk
    · cases hk
    · by_cases hn : n = 0
      · obtain rfl : false = b := (fits_zero (p := ⟨39, n, s, v⟩) (by unfold noZ; simp) hn).symm.trans hb
        subst hn
        clear hk hb hx HX HN
        go_enter Try.func35, Try.ntmps35
        go_wp2_with (go_at_call 12; refine (HK.out _).mono ?_; rintro e w' ⟨rfl, rfl⟩)
        go_ret
        exact ⟨rfl, ((Below.refl _ _).alloc (Nat.le_refl _) _).alloc (by simp) _⟩
      · have HB : Hid (decide ((0 ≤ n ∧ n < 4294967296) ∧ s = ⟨#[]⟩ ∧ v = ⟨#[]⟩) = b) := (fits_val (p := ⟨39, n, s, v⟩) hk (by decide) (fun e => hn e.2)).symm.trans hb
        have bn := ne_false hn
        clear hn
        clear hk hb hx
        cases x with
        | false =>
          have hm : ¬ (0 ≤ n ∧ n < 4294967296) := by have := of_decide_eq_false HX.out; omega
          have HM := Lib.hid hm
          clear hm HX
          go_enter Try.func35, Try.ntmps35
          go_wp2_with (first | (go_at_call 12; refine (HK.out _).mono ?_; rintro e w' ⟨rfl, rfl⟩) | (go_at_call 51; refine (HN.out _).mono ?_; rintro e w' ⟨rfl, rfl⟩))
          go_ret
          exact ⟨ret_bool (dec_false' HB.out (fun e => HM.out e.1)), ((Below.refl _ _).alloc (Nat.le_refl _) _).alloc (by simp) _⟩
        | true =>
          have hm : (0 ≤ n ∧ n < 4294967296) := by have := of_decide_eq_true HX.out; omega
          have HM := Lib.hid hm
          clear hm HX
          go_enter Try.func35, Try.ntmps35
          go_wp2_with (first | (go_at_call 12; refine (HK.out _).mono ?_; rintro e w' ⟨rfl, rfl⟩) | (go_at_call 51; refine (HN.out _).mono ?_; rintro e w' ⟨rfl, rfl⟩))
          all_goals
            go_ret
            refine ⟨ret_bool ?_, ((Below.refl _ _).alloc (Nat.le_refl _) _).alloc (by simp) _⟩
            have h3 := HM.out
            rw [← HB.out, Bool.eq_iff_iff]
            simp_all [List.isEmpty_iff, empty_iff]
  · have HB : Hid (decide ((0 ≤ n ∧ n < 4294967296) ∧ s = ⟨#[]⟩ ∧ v = ⟨#[]⟩) = b) := (fits_val (p := ⟨id, n, s, v⟩) hk (by decide) (fun e => by have : noZ id := e.1; unfold noZ at this; omega)).symm.trans hb
    replace h1 := ne_false h1
    replace h2 := ne_false h2
    replace h3 := ne_false h3
    replace h4 := ne_false h4
    clear hk hb hx
    cases x with
    | false =>
      have hm : ¬ (0 ≤ n ∧ n < 4294967296) := by have := of_decide_eq_false HX.out; omega
      have HM := Lib.hid hm
      clear hm HX
      go_enter Try.func35, Try.ntmps35
      go_wp2_with (first | (go_at_call 12; refine (HK.out _).mono ?_; rintro e w' ⟨rfl, rfl⟩) | (go_at_call 51; refine (HN.out _).mono ?_; rintro e w' ⟨rfl, rfl⟩))
      go_ret
      exact ⟨ret_bool (dec_false' HB.out (fun e => HM.out e.1)), ((Below.refl _ _).alloc (Nat.le_refl _) _).alloc (by simp) _⟩
    | true =>
      have hm : (0 ≤ n ∧ n < 4294967296) := by have := of_decide_eq_true HX.out; omega
      have HM := Lib.hid hm
      clear hm HX
      go_enter Try.func35, Try.ntmps35
      go_wp2_with (first | (go_at_call 12; refine (HK.out _).mono ?_; rintro e w' ⟨rfl, rfl⟩) | (go_at_call 51; refine (HN.out _).mono ?_; rintro e w' ⟨rfl, rfl⟩))
      all_goals
        go_ret
        refine ⟨ret_bool ?_, ((Below.refl _ _).alloc (Nat.le_refl _) _).alloc (by simp) _⟩
        have h3 := HM.out
        rw [← HB.out, Bool.eq_iff_iff]
        simp_all [List.isEmpty_iff, empty_iff]
set_option maxRecDepth 100000 in
set_option maxHeartbeats 8000000 in
theorem fits_4 (id n : Int) (s v : ByteArray) (b : Bool) (w : World) (hk : kindZ id = 4) (hb : fitsB ⟨id, n, s, v⟩ = b) :
    Calls Try.prog 35 #[.agg #[.int .i64 id, .int .i64 n, .string s, .string v]] w fun e w' => e = .returned (.bool b) ∧ Below w.heap.size w w' := by
  have HK := Lib.hid (fun W => RKind_is id 4 W hk)
  obtain ⟨x, hx⟩ : ∃ x, decide (0 ≤ n ∧ n ≤ 268435455) = x := ⟨_, rfl⟩
  have HN := Lib.hid (fun W => zNum_is n 268435455 x W hx)
  have HX := Lib.hid hx
  have mem : ∀ W : World, (W.alloc (.cells #[.int .i64 0, .int .i64 1, .int .i64 65535, .int .i64 4294967295, .int .i64 268435455] 3)).cell? ⟨W.heap.size, 4, none⟩ = some (.int .i64 268435455) := fun W => by rw [cell_of_row (W.alloc _) W.heap.size 4 _ _ (0, 0) (heap_alloc_new W _)]; rfl
  rcases have_split id with c | ⟨h1, h2, h3, h4⟩
  · rcases c with rfl | rfl | rfl | rfl
    · by_cases hn : n = 0
      · obtain rfl : false = b := (fits_zero (p := ⟨11, n, s, v⟩) (by unfold noZ; simp) hn).symm.trans hb
        subst hn
        clear hk hb hx HX HN
        go_enter Try.func35, Try.ntmps35
        go_wp2_with (go_at_call 12; refine (HK.out _).mono ?_; rintro e w' ⟨rfl, rfl⟩)
        go_ret
        exact ⟨rfl, ((Below.refl _ _).alloc (Nat.le_refl _) _).alloc (by simp) _⟩
      · have HB : Hid (decide ((0 ≤ n ∧ n < 268435456) ∧ s = ⟨#[]⟩ ∧ v = ⟨#[]⟩) = b) := (fits_val (p := ⟨11, n, s, v⟩) hk (by decide) (fun e => hn e.2)).symm.trans hb
        have bn := ne_false hn
        clear hn
        clear hk hb hx
        cases x with
        | false =>
          have hm : ¬ (0 ≤ n ∧ n < 268435456) := by have := of_decide_eq_false HX.out; omega
          have HM := Lib.hid hm
          clear hm HX
          go_enter Try.func35, Try.ntmps35
          go_wp2_with (first | (go_at_call 12; refine (HK.out _).mono ?_; rintro e w' ⟨rfl, rfl⟩) | (go_at_call 51; refine (HN.out _).mono ?_; rintro e w' ⟨rfl, rfl⟩))
          go_ret
          exact ⟨ret_bool (dec_false' HB.out (fun e => HM.out e.1)), ((Below.refl _ _).alloc (Nat.le_refl _) _).alloc (by simp) _⟩
        | true =>
          have hm : (0 ≤ n ∧ n < 268435456) := by have := of_decide_eq_true HX.out; omega
          have HM := Lib.hid hm
          clear hm HX
          go_enter Try.func35, Try.ntmps35
          go_wp2_with (first | (go_at_call 12; refine (HK.out _).mono ?_; rintro e w' ⟨rfl, rfl⟩) | (go_at_call 51; refine (HN.out _).mono ?_; rintro e w' ⟨rfl, rfl⟩))
          all_goals
            go_ret
            refine ⟨ret_bool ?_, ((Below.refl _ _).alloc (Nat.le_refl _) _).alloc (by simp) _⟩
            have h3 := HM.out
            rw [← HB.out, Bool.eq_iff_iff]
            simp_all [List.isEmpty_iff, empty_iff]
    · cases hk
    · cases hk
    · cases hk
  · have HB : Hid (decide ((0 ≤ n ∧ n < 268435456) ∧ s = ⟨#[]⟩ ∧ v = ⟨#[]⟩) = b) := (fits_val (p := ⟨id, n, s, v⟩) hk (by decide) (fun e => by have : noZ id := e.1; unfold noZ at this; omega)).symm.trans hb
    replace h1 := ne_false h1
    replace h2 := ne_false h2
    replace h3 := ne_false h3
    replace h4 := ne_false h4
    clear hk hb hx
    cases x with
    | false =>
      have hm : ¬ (0 ≤ n ∧ n < 268435456) := by have := of_decide_eq_false HX.out; omega
      have HM := Lib.hid hm
      clear hm HX
      go_enter Try.func35, Try.ntmps35
      go_wp2_with (first | (go_at_call 12; refine (HK.out _).mono ?_; rintro e w' ⟨rfl, rfl⟩) | (go_at_call 51; refine (HN.out _).mono ?_; rintro e w' ⟨rfl, rfl⟩))
      go_ret
      exact ⟨ret_bool (dec_false' HB.out (fun e => HM.out e.1)), ((Below.refl _ _).alloc (Nat.le_refl _) _).alloc (by simp) _⟩
    | true =>
      have hm : (0 ≤ n ∧ n < 268435456) := by have := of_decide_eq_true HX.out; omega
      have HM := Lib.hid hm
      clear hm HX
      go_enter Try.func35, Try.ntmps35
      go_wp2_with (first | (go_at_call 12; refine (HK.out _).mono ?_; rintro e w' ⟨rfl, rfl⟩) | (go_at_call 51; refine (HN.out _).mono ?_; rintro e w' ⟨rfl, rfl⟩))
      all_goals
        go_ret
        refine ⟨ret_bool ?_, ((Below.refl _ _).alloc (Nat.le_refl _) _).alloc (by simp) _⟩
        have h3 := HM.out
        rw [← HB.out, Bool.eq_iff_iff]
        simp_all [List.isEmpty_iff, empty_iff]
end Go.Proofs.Ythjlbdplhhgcpaa
