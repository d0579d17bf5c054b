/- The document's own answer: is a property's value one of its kind? Texts, bytes, pairs; all kinds. -/
import Derived.Test.YthjlbdplhhgcpaaPropFits
namespace Go.Proofs.Ythjlbdplhhgcpaa
open Go.RowKit Go.Lib Prp Vbi

set_option maxRecDepth 100000 in
set_option maxHeartbeats 4000000 in
theorem fits_6 (id n : Int) (s v : ByteArray) (b : Bool) (w : World) (hk : kindZ id = 6) (hb : decide (n = 0 ∧ binB s = true ∧ v = ⟨#[]⟩) = b) (hs : s.size ≤ 9223372036854775807) :
    Calls Try.prog 35 #[.agg #[.int .i64 id, .int .i64 n, .string s, .string v]] w fun e w' => e = .returned (.bool b) ∧ Below w.heap.size w w' := by
  have HK := Lib.hid (fun W => RKind_is id 6 W hk)
  unfold binB at hb
  have HB := Lib.hid hb
  clear hk hb
  by_cases hn : n = 0
  · subst hn
    go_enter Try.func35, Try.ntmps35
    go_wp2_with (go_at_call 12; refine (HK.out _).mono ?_; rintro e w' ⟨rfl, rfl⟩)
    · next hv => go_ret; exact ⟨ret_bool (eq_dec' HB.out (by rw [empty_iff] at hv; simp [hv]; omega)), (Below.refl _ _).alloc (Nat.le_refl _) _⟩
    · next hv => go_ret; exact ⟨ret_bool (dec_false' HB.out (by rw [empty_iff] at hv; simp [hv])), (Below.refl _ _).alloc (Nat.le_refl _) _⟩
  · have bn := ne_false hn
    go_enter Try.func35, Try.ntmps35
    go_wp2_with (go_at_call 12; refine (HK.out _).mono ?_; rintro e w' ⟨rfl, rfl⟩)
    go_ret
    exact ⟨ret_bool (dec_false' HB.out (by simp [hn])), (Below.refl _ _).alloc (Nat.le_refl _) _⟩
set_option maxRecDepth 100000 in
set_option maxHeartbeats 4000000 in
theorem fits_5 (id n : Int) (s v : ByteArray) (b : Bool) (w : World) (hk : kindZ id = 5) (hb : decide (n = 0 ∧ textB s = true ∧ v = ⟨#[]⟩) = b) :
    Calls Try.prog 35 #[.agg #[.int .i64 id, .int .i64 n, .string s, .string v]] w fun e w' => e = .returned (.bool b) ∧ Below w.heap.size w w' := by
  have HK := Lib.hid (fun W => RKind_is id 5 W hk)
  by_cases hn : n = 0
  · subst hn
    cases hx : textB s with
    | true =>
      rw [hx] at hb
      have HB := Lib.hid hb
      have HT := Lib.hid (fun W => RText_yes s W hx)
      clear hk hb hx
      go_enter Try.func35, Try.ntmps35
      go_wp2_with (first | (go_at_call 12; refine (HK.out _).mono ?_; rintro e w' ⟨rfl, rfl⟩) | (go_at_call 52; refine (HT.out _).mono ?_; rintro e w' ⟨rfl, rfl⟩))
      · next hv => go_ret; exact ⟨ret_bool (dec_true' HB.out (by rw [empty_iff] at hv; simp [hv])), (Below.refl _ _).alloc (Nat.le_refl _) _⟩
      · next hv => go_ret; exact ⟨ret_bool (dec_false' HB.out (by rw [empty_iff] at hv; simp [hv])), (Below.refl _ _).alloc (Nat.le_refl _) _⟩
    | false =>
      rw [hx] at hb
      have HB := Lib.hid hb
      have HT := Lib.hid (fun W => RText_no s W hx)
      clear hk hb hx
      go_enter Try.func35, Try.ntmps35
      go_wp2_with (first | (go_at_call 12; refine (HK.out _).mono ?_; rintro e w' ⟨rfl, rfl⟩) | (go_at_call 52; refine (HT.out _).mono ?_; rintro e w' ⟨E, rfl, hE, rfl⟩; replace hE := ne_false hE))
      all_goals (go_ret; exact ⟨ret_bool (dec_false' HB.out (by simp)), (Below.refl _ _).alloc (Nat.le_refl _) _⟩)
  · have HB := Lib.hid hb
    have bn := ne_false hn
    clear hk hb
    go_enter Try.func35, Try.ntmps35
    go_wp2_with (go_at_call 12; refine (HK.out _).mono ?_; rintro e w' ⟨rfl, rfl⟩)
    go_ret
    exact ⟨ret_bool (dec_false' HB.out (by simp [hn])), (Below.refl _ _).alloc (Nat.le_refl _) _⟩
set_option maxRecDepth 100000 in
set_option maxHeartbeats 4000000 in
theorem fits_7 (id n : Int) (s v : ByteArray) (b : Bool) (w : World) (hk : kindZ id = 7) (hb : decide (n = 0 ∧ textB s = true ∧ textB v = true) = b) :
    Calls Try.prog 35 #[.agg #[.int .i64 id, .int .i64 n, .string s, .string v]] w fun e w' => e = .returned (.bool b) ∧ Below w.heap.size w w' := by
  have HK := Lib.hid (fun W => RKind_is id 7 W hk)
  by_cases hn : n = 0
  · subst hn
    cases hx : textB s with
    | true =>
      rw [hx] at hb
      have HT := Lib.hid (fun W => RText_yes s W hx)
      cases hy : textB v with
      | true =>
        rw [hy] at hb
        have HB := Lib.hid hb
        have HV := Lib.hid (fun W => RText_yes v W hy)
        clear hk hb hx hy
        go_enter Try.func35, Try.ntmps35
        go_wp2_with (go_at_call 12; refine (HK.out _).mono ?_; rintro e w' ⟨rfl, rfl⟩)
        refine (HT.out _).mono ?_
        rintro e w' ⟨rfl, rfl⟩
        go_wp2_with fail
        refine (HV.out _).mono ?_
        rintro e w' ⟨rfl, rfl⟩
        go_wp2_with fail
        go_ret
        exact ⟨ret_bool (dec_true' HB.out (by simp)), (Below.refl _ _).alloc (Nat.le_refl _) _⟩
      | false =>
        rw [hy] at hb
        have HB := Lib.hid hb
        have HV := Lib.hid (fun W => RText_no v W hy)
        clear hk hb hx hy
        go_enter Try.func35, Try.ntmps35
        go_wp2_with (go_at_call 12; refine (HK.out _).mono ?_; rintro e w' ⟨rfl, rfl⟩)
        refine (HT.out _).mono ?_
        rintro e w' ⟨rfl, rfl⟩
        go_wp2_with fail
        refine (HV.out _).mono ?_
        rintro e w' ⟨E, rfl, hE, rfl⟩
        replace hE := ne_false hE
        go_wp2_with fail
        go_ret
        exact ⟨ret_bool (dec_false' HB.out (by simp)), (Below.refl _ _).alloc (Nat.le_refl _) _⟩
    | false =>
      rw [hx] at hb
      have HB := Lib.hid hb
      have HT := Lib.hid (fun W => RText_no s W hx)
      clear hk hb hx
      go_enter Try.func35, Try.ntmps35
      go_wp2_with (go_at_call 12; refine (HK.out _).mono ?_; rintro e w' ⟨rfl, rfl⟩)
      refine (HT.out _).mono ?_
      rintro e w' ⟨E, rfl, hE, rfl⟩
      replace hE := ne_false hE
      go_wp2_with fail
      go_ret
      exact ⟨ret_bool (dec_false' HB.out (by simp)), (Below.refl _ _).alloc (Nat.le_refl _) _⟩
  · have HB := Lib.hid hb
    have bn := ne_false hn
    clear hk hb
    go_enter Try.func35, Try.ntmps35
    go_wp2_with (go_at_call 12; refine (HK.out _).mono ?_; rintro e w' ⟨rfl, rfl⟩)
    go_ret
    exact ⟨ret_bool (dec_false' HB.out (by simp [hn])), (Below.refl _ _).alloc (Nat.le_refl _) _⟩

theorem not_noZ {id : Int} (h : kindZ id ≠ 2 ∧ kindZ id ≠ 3 ∧ kindZ id ≠ 4) : ¬ noZ id := by
  unfold noZ
  rintro (rfl | rfl | rfl | rfl)
  · exact h.2.2 rfl
  · exact h.1 rfl
  · exact h.1 rfl
  · exact h.2.1 rfl
/-- fairwayref4.fits. -/
theorem fits_is (id n : Int) (s v : ByteArray) (b : Bool) (w : World) (hs : s.size ≤ 9223372036854775807) (hb : fitsB ⟨id, n, s, v⟩ = b) :
    Calls Try.prog 35 #[.agg #[.int .i64 id, .int .i64 n, .string s, .string v]] w fun e w' => e = .returned (.bool b) ∧ Below w.heap.size w w' := by
  have hr := kind_range id
  by_cases h0 : kindZ id = 0
  · exact fits_0 id n s v b w h0 ((fits_none (p := ⟨id, n, s, v⟩) h0).symm.trans hb)
  rcases kind_seven hr.1 hr.2 h0 with h | h | h | h | h | h | h
  · exact fits_1 id n s v b w h hb
  · exact fits_2 id n s v b w h hb
  · exact fits_3 id n s v b w h hb
  · exact fits_4 id n s v b w h hb
  · exact fits_5 id n s v b w h ((fits_val (p := ⟨id, n, s, v⟩) h (by decide) (fun e => not_noZ (by rw [h]; decide) e.1)).symm.trans hb)
  · exact fits_6 id n s v b w h ((fits_val (p := ⟨id, n, s, v⟩) h (by decide) (fun e => not_noZ (by rw [h]; decide) e.1)).symm.trans hb) hs
  · exact fits_7 id n s v b w h ((fits_val (p := ⟨id, n, s, v⟩) h (by decide) (fun e => not_noZ (by rw [h]; decide) e.1)).symm.trans hb)
end Go.Proofs.Ythjlbdplhhgcpaa
