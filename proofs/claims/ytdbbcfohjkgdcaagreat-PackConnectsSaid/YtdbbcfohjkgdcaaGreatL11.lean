/- The document's own answer: a value is taken, by its kind: texts, bytes, pairs of texts. -/
import Derived.Test.YtdbbcfohjkgdcaaGreatL00
import Derived.Test.YtdbbcfohjkgdcaaGreatL09
set_option maxRecDepth 100000
set_option maxHeartbeats 64000000
namespace Go.Proofs.YtdbbcfohjkgdcaaGreat
open Go.RowKit Go.Lib Prp Vbi Txt
theorem fits_none {p : P} (h : kindZ p.id = 0) : fitsB p = false := by
 unfold fitsB
 rw [decide_eq_false (show ¬ (kindZ p.id ≠ 0) from fun e => e h)]; rfl
theorem fits_zero {p : P} (hz : noZ p.id) (hn : p.n = 0) : fitsB p = false := by
 unfold fitsB
 rw [decide_eq_false (show ¬ ¬ (noZ p.id ∧ p.n = 0) from fun e => e ⟨hz, hn⟩)]; simp
theorem fits_val {p : P} {k : Int} (hk : kindZ p.id = k) (hk0 : k ≠ 0) (h : ¬ (noZ p.id ∧ p.n = 0)) : fitsB p = valB k p := by
 unfold fitsB
 rw [hk, decide_eq_true (show k ≠ 0 from hk0), decide_eq_true (show ¬ (noZ p.id ∧ p.n = 0) from h)]; rfl
theorem empty_iff (v : ByteArray) : v.toList = [] ↔ v = ⟨#[]⟩ := by rw [← toList_eq_iff, show (⟨#[]⟩ : ByteArray).toList = [] by rw [ByteArray.toList_eq]]
theorem RText_yes (s : ByteArray) (w : World) (h : textB s = true) : Calls Tryz.prog 75 #[.string s] w fun e w' => e = .returned (.int .i64 0) ∧ w = w' := by
 unfold textB at h
 have h0 : textErr s.data.toList = 0 := of_decide_eq_true h
 exact RText_eq s 0 w h0
theorem RText_no (s : ByteArray) (w : World) (h : textB s = false) : Calls Tryz.prog 75 #[.string s] w fun e w' => ∃ E : Int, e = .returned (.int .i64 E) ∧ E ≠ 0 ∧ w = w' := by
 unfold textB at h
 have h0 : ¬ textErr s.data.toList = 0 := of_decide_eq_false h
 exact (RText_eq s _ w rfl).mono fun _ _ ⟨h1, h2⟩ => ⟨_, h1, h0, h2⟩
theorem fits_0 (id n : Int) (s v : ByteArray) (b : Bool) (w : World) (hk : kindZ id = 0) (hb : false = b) :
  Calls Tryz.prog 72 #[.agg #[.int .i64 id, .int .i64 n, .string s, .string v]] w fun e w' => e = .returned (.bool b) ∧ Below w.heap.size w w' := by
 subst hb
 have HK := Lib.hid (fun W => RKind_is id 0 W hk)
 clear hk
 go_enter Tryz.func72, Tryz.ntmps72
 go_wp2_with (go_at_call 98; refine (HK.out _).mono ?_; rintro e w' ⟨rfl, rfl⟩)
 go_ret
 exact ⟨rfl, (Below.refl _ _).alloc (Nat.le_refl _) _⟩
theorem fits_1 (id n : Int) (s v : ByteArray) (b : Bool) (w : World) (hk : kindZ id = 1) (hb : fitsB ⟨id, n, s, v⟩ = b) :
  Calls Tryz.prog 72 #[.agg #[.int .i64 id, .int .i64 n, .string s, .string v]] w fun e w' => e = .returned (.bool b) ∧ Below w.heap.size w w' := by
 have HK := Lib.hid (fun W => RKind_is id 1 W hk)
 obtain ⟨x, hx⟩ : ∃ x, decide (0 ≤ n ∧ n ≤ 1) = x := ⟨_, rfl⟩
 have HN := Lib.hid (fun W => zNum_is n 1 x W hx)
 have HX := Lib.hid hx
 have mem : ∀ W : World, (W.alloc (.cells #[.int .i64 0, .int .i64 1, .int .i64 65535, .int .i64 4294967295, .int .i64 268435455] 3)).cell? ⟨W.heap.size, 1, none⟩ = some (.int .i64 1) := fun W => by rw [cell_of_row (W.alloc _) W.heap.size 1 _ _ (0, 0) (heap_alloc_new W _)]; rfl
 rcases have_split id with c | ⟨h1, h2, h3, h4⟩
 ·rcases c with rfl | rfl | rfl | rfl
  ·cases hk
  ·cases hk
  ·cases hk
  ·cases hk
 ·have HB : Hid (decide ((n = 0 ∨ n = 1) ∧ s = ⟨#[]⟩ ∧ v = ⟨#[]⟩) = b) := (fits_val (p := ⟨id, n, s, v⟩) hk (by decide) (fun e => by have : noZ id := e.1; unfold noZ at this; omega)).symm.trans hb
  replace h1 := ne_false h1
  replace h2 := ne_false h2
  replace h3 := ne_false h3
  replace h4 := ne_false h4
  clear hk hb hx
  cases x with
  | false =>
   have hm : ¬ (n = 0 ∨ n = 1) := by have := of_decide_eq_false HX.out; omega
   have HM := Lib.hid hm
   clear hm HX
   go_enter Tryz.func72, Tryz.ntmps72
   go_wp2_with (first | (go_at_call 98; refine (HK.out _).mono ?_; rintro e w' ⟨rfl, rfl⟩) | (go_at_call 34; refine (HN.out _).mono ?_; rintro e w' ⟨rfl, rfl⟩))
   go_ret
   exact ⟨ret_bool (dec_false' HB.out (fun e => HM.out e.1)), ((Below.refl _ _).alloc (Nat.le_refl _) _).alloc (by simp) _⟩
  | true =>
   have hm : (n = 0 ∨ n = 1) := by have := of_decide_eq_true HX.out; omega
   have HM := Lib.hid hm
   clear hm HX
   go_enter Tryz.func72, Tryz.ntmps72
   go_wp2_with (first | (go_at_call 98; refine (HK.out _).mono ?_; rintro e w' ⟨rfl, rfl⟩) | (go_at_call 34; refine (HN.out _).mono ?_; rintro e w' ⟨rfl, rfl⟩))
   all_goals
    go_ret
    refine ⟨ret_bool ?_, ((Below.refl _ _).alloc (Nat.le_refl _) _).alloc (by simp) _⟩
    have h3 := HM.out
    rw [← HB.out, Bool.eq_iff_iff]
    simp_all [List.isEmpty_iff, empty_iff]
theorem fits_2 (id n : Int) (s v : ByteArray) (b : Bool) (w : World) (hk : kindZ id = 2) (hb : fitsB ⟨id, n, s, v⟩ = b) :
  Calls Tryz.prog 72 #[.agg #[.int .i64 id, .int .i64 n, .string s, .string v]] w fun e w' => e = .returned (.bool b) ∧ Below w.heap.size w w' := by
 have HK := Lib.hid (fun W => RKind_is id 2 W hk)
 obtain ⟨x, hx⟩ : ∃ x, decide (0 ≤ n ∧ n ≤ 65535) = x := ⟨_, rfl⟩
 have HN := Lib.hid (fun W => zNum_is n 65535 x W hx)
 have HX := Lib.hid hx
 have mem : ∀ W : World, (W.alloc (.cells #[.int .i64 0, .int .i64 1, .int .i64 65535, .int .i64 4294967295, .int .i64 268435455] 3)).cell? ⟨W.heap.size, 2, none⟩ = some (.int .i64 65535) := fun W => by rw [cell_of_row (W.alloc _) W.heap.size 2 _ _ (0, 0) (heap_alloc_new W _)]; rfl
 rcases have_split id with c | ⟨h1, h2, h3, h4⟩
 ·rcases c with rfl | rfl | rfl | rfl
  ·cases hk
  ·by_cases hn : n = 0
   ·obtain rfl : false = b := (fits_zero (p := ⟨33, n, s, v⟩) (by unfold noZ; simp) hn).symm.trans hb
    subst hn
    clear hk hb hx HX HN
    go_enter Tryz.func72, Tryz.ntmps72
    go_wp2_with (go_at_call 98; refine (HK.out _).mono ?_; rintro e w' ⟨rfl, rfl⟩)
    go_ret
    exact ⟨rfl, ((Below.refl _ _).alloc (Nat.le_refl _) _).alloc (by simp) _⟩
   ·have HB : Hid (decide ((0 ≤ n ∧ n < 65536) ∧ s = ⟨#[]⟩ ∧ v = ⟨#[]⟩) = b) := (fits_val (p := ⟨33, n, s, v⟩) hk (by decide) (fun e => hn e.2)).symm.trans hb
    have bn := ne_false hn
    clear hn
    clear hk hb hx
    cases x with
    | false =>
     have hm : ¬ (0 ≤ n ∧ n < 65536) := by have := of_decide_eq_false HX.out; omega
     have HM := Lib.hid hm
     clear hm HX
     go_enter Tryz.func72, Tryz.ntmps72
     go_wp2_with (first | (go_at_call 98; refine (HK.out _).mono ?_; rintro e w' ⟨rfl, rfl⟩) | (go_at_call 34; refine (HN.out _).mono ?_; rintro e w' ⟨rfl, rfl⟩))
     go_ret
     exact ⟨ret_bool (dec_false' HB.out (fun e => HM.out e.1)), ((Below.refl _ _).alloc (Nat.le_refl _) _).alloc (by simp) _⟩
    | true =>
     have hm : (0 ≤ n ∧ n < 65536) := by have := of_decide_eq_true HX.out; omega
     have HM := Lib.hid hm
     clear hm HX
     go_enter Tryz.func72, Tryz.ntmps72
     go_wp2_with (first | (go_at_call 98; refine (HK.out _).mono ?_; rintro e w' ⟨rfl, rfl⟩) | (go_at_call 34; refine (HN.out _).mono ?_; rintro e w' ⟨rfl, rfl⟩))
     all_goals
      go_ret
      refine ⟨ret_bool ?_, ((Below.refl _ _).alloc (Nat.le_refl _) _).alloc (by simp) _⟩
      have h3 := HM.out
      rw [← HB.out, Bool.eq_iff_iff]
      simp_all [List.isEmpty_iff, empty_iff]
  ·by_cases hn : n = 0
   ·obtain rfl : false = b := (fits_zero (p := ⟨35, n, s, v⟩) (by unfold noZ; simp) hn).symm.trans hb
    subst hn
    clear hk hb hx HX HN
    go_enter Tryz.func72, Tryz.ntmps72
    go_wp2_with (go_at_call 98; refine (HK.out _).mono ?_; rintro e w' ⟨rfl, rfl⟩)
    go_ret
    exact ⟨rfl, ((Below.refl _ _).alloc (Nat.le_refl _) _).alloc (by simp) _⟩
   ·have HB : Hid (decide ((0 ≤ n ∧ n < 65536) ∧ s = ⟨#[]⟩ ∧ v = ⟨#[]⟩) = b) := (fits_val (p := ⟨35, n, s, v⟩) hk (by decide) (fun e => hn e.2)).symm.trans hb
    have bn := ne_false hn
    clear hn
    clear hk hb hx
    cases x with
    | false =>
     have hm : ¬ (0 ≤ n ∧ n < 65536) := by have := of_decide_eq_false HX.out; omega
     have HM := Lib.hid hm
     clear hm HX
     go_enter Tryz.func72, Tryz.ntmps72
     go_wp2_with (first | (go_at_call 98; refine (HK.out _).mono ?_; rintro e w' ⟨rfl, rfl⟩) | (go_at_call 34; refine (HN.out _).mono ?_; rintro e w' ⟨rfl, rfl⟩))
     go_ret
     exact ⟨ret_bool (dec_false' HB.out (fun e => HM.out e.1)), ((Below.refl _ _).alloc (Nat.le_refl _) _).alloc (by simp) _⟩
    | true =>
     have hm : (0 ≤ n ∧ n < 65536) := by have := of_decide_eq_true HX.out; omega
     have HM := Lib.hid hm
     clear hm HX
     go_enter Tryz.func72, Tryz.ntmps72
     go_wp2_with (first | (go_at_call 98; refine (HK.out _).mono ?_; rintro e w' ⟨rfl, rfl⟩) | (go_at_call 34; refine (HN.out _).mono ?_; rintro e w' ⟨rfl, rfl⟩))
     all_goals
      go_ret
      refine ⟨ret_bool ?_, ((Below.refl _ _).alloc (Nat.le_refl _) _).alloc (by simp) _⟩
      have h3 := HM.out
      rw [← HB.out, Bool.eq_iff_iff]
      simp_all [List.isEmpty_iff, empty_iff]
  ·cases hk
 ·have HB : Hid (decide ((0 ≤ n ∧ n < 65536) ∧ s = ⟨#[]⟩ ∧ v = ⟨#[]⟩) = b) := (fits_val (p := ⟨id, n, s, v⟩) hk (by decide) (fun e => by have : noZ id := e.1; unfold noZ at this; omega)).symm.trans hb
  replace h1 := ne_false h1
  replace h2 := ne_false h2
  replace h3 := ne_false h3
  replace h4 := ne_false h4
  clear hk hb hx
  cases x with
  | false =>
   have hm : ¬ (0 ≤ n ∧ n < 65536) := by have := of_decide_eq_false HX.out; omega
   have HM := Lib.hid hm
   clear hm HX
   go_enter Tryz.func72, Tryz.ntmps72
   go_wp2_with (first | (go_at_call 98; refine (HK.out _).mono ?_; rintro e w' ⟨rfl, rfl⟩) | (go_at_call 34; refine (HN.out _).mono ?_; rintro e w' ⟨rfl, rfl⟩))
   go_ret
   exact ⟨ret_bool (dec_false' HB.out (fun e => HM.out e.1)), ((Below.refl _ _).alloc (Nat.le_refl _) _).alloc (by simp) _⟩
  | true =>
   have hm : (0 ≤ n ∧ n < 65536) := by have := of_decide_eq_true HX.out; omega
   have HM := Lib.hid hm
   clear hm HX
   go_enter Tryz.func72, Tryz.ntmps72
   go_wp2_with (first | (go_at_call 98; refine (HK.out _).mono ?_; rintro e w' ⟨rfl, rfl⟩) | (go_at_call 34; refine (HN.out _).mono ?_; rintro e w' ⟨rfl, rfl⟩))
   all_goals
    go_ret
    refine ⟨ret_bool ?_, ((Below.refl _ _).alloc (Nat.le_refl _) _).alloc (by simp) _⟩
    have h3 := HM.out
    rw [← HB.out, Bool.eq_iff_iff]
    simp_all [List.isEmpty_iff, empty_iff]
theorem fits_3 (id n : Int) (s v : ByteArray) (b : Bool) (w : World) (hk : kindZ id = 3) (hb : fitsB ⟨id, n, s, v⟩ = b) :
  Calls Tryz.prog 72 #[.agg #[.int .i64 id, .int .i64 n, .string s, .string v]] w fun e w' => e = .returned (.bool b) ∧ Below w.heap.size w w' := by
 have HK := Lib.hid (fun W => RKind_is id 3 W hk)
 obtain ⟨x, hx⟩ : ∃ x, decide (0 ≤ n ∧ n ≤ 4294967295) = x := ⟨_, rfl⟩
 have HN := Lib.hid (fun W => zNum_is n 4294967295 x W hx)
 have HX := Lib.hid hx
 have mem : ∀ W : World, (W.alloc (.cells #[.int .i64 0, .int .i64 1, .int .i64 65535, .int .i64 4294967295, .int .i64 268435455] 3)).cell? ⟨W.heap.size, 3, none⟩ = some (.int .i64 4294967295) := fun W => by rw [cell_of_row (W.alloc _) W.heap.size 3 _ _ (0, 0) (heap_alloc_new W _)]; rfl
 rcases have_split id with c | ⟨h1, h2, h3, h4⟩
 ·rcases c with rfl | rfl | rfl | rfl
  ·cases hk
  ·cases hk
  ·cases hk
  ·by_cases hn : n = 0
   ·obtain rfl : false = b := (fits_zero (p := ⟨39, n, s, v⟩) (by unfold noZ; simp) hn).symm.trans hb
    subst hn
    clear hk hb hx HX HN
    go_enter Tryz.func72, Tryz.ntmps72
    go_wp2_with (go_at_call 98; refine (HK.out _).mono ?_; rintro e w' ⟨rfl, rfl⟩)
    go_ret
    exact ⟨rfl, ((Below.refl _ _).alloc (Nat.le_refl _) _).alloc (by simp) _⟩
   ·have HB : Hid (decide ((0 ≤ n ∧ n < 4294967296) ∧ s = ⟨#[]⟩ ∧ v = ⟨#[]⟩) = b) := (fits_val (p := ⟨39, n, s, v⟩) hk (by decide) (fun e => hn e.2)).symm.trans hb
    have bn := ne_false hn
    clear hn
    clear hk hb hx
    cases x with
    | false =>
     have hm : ¬ (0 ≤ n ∧ n < 4294967296) := by have := of_decide_eq_false HX.out; omega
     have HM := Lib.hid hm
     clear hm HX
     go_enter Tryz.func72, Tryz.ntmps72
     go_wp2_with (first | (go_at_call 98; refine (HK.out _).mono ?_; rintro e w' ⟨rfl, rfl⟩) | (go_at_call 34; refine (HN.out _).mono ?_; rintro e w' ⟨rfl, rfl⟩))
     go_ret
     exact ⟨ret_bool (dec_false' HB.out (fun e => HM.out e.1)), ((Below.refl _ _).alloc (Nat.le_refl _) _).alloc (by simp) _⟩
    | true =>
     have hm : (0 ≤ n ∧ n < 4294967296) := by have := of_decide_eq_true HX.out; omega
     have HM := Lib.hid hm
     clear hm HX
     go_enter Tryz.func72, Tryz.ntmps72
     go_wp2_with (first | (go_at_call 98; refine (HK.out _).mono ?_; rintro e w' ⟨rfl, rfl⟩) | (go_at_call 34; refine (HN.out _).mono ?_; rintro e w' ⟨rfl, rfl⟩))
     all_goals
      go_ret
      refine ⟨ret_bool ?_, ((Below.refl _ _).alloc (Nat.le_refl _) _).alloc (by simp) _⟩
      have h3 := HM.out
      rw [← HB.out, Bool.eq_iff_iff]
      simp_all [List.isEmpty_iff, empty_iff]
 ·have HB : Hid (decide ((0 ≤ n ∧ n < 4294967296) ∧ s = ⟨#[]⟩ ∧ v = ⟨#[]⟩) = b) := (fits_val (p := ⟨id, n, s, v⟩) hk (by decide) (fun e => by have : noZ id := e.1; unfold noZ at this; omega)).symm.trans hb
  replace h1 := ne_false h1
  replace h2 := ne_false h2
  replace h3 := ne_false h3
  replace h4 := ne_false h4
  clear hk hb hx
  cases x with
  | false =>
   have hm : ¬ (0 ≤ n ∧ n < 4294967296) := by have := of_decide_eq_false HX.out; omega
   have HM := Lib.hid hm
   clear hm HX
   go_enter Tryz.func72, Tryz.ntmps72
   go_wp2_with (first | (go_at_call 98; refine (HK.out _).mono ?_; rintro e w' ⟨rfl, rfl⟩) | (go_at_call 34; refine (HN.out _).mono ?_; rintro e w' ⟨rfl, rfl⟩))
   go_ret
   exact ⟨ret_bool (dec_false' HB.out (fun e => HM.out e.1)), ((Below.refl _ _).alloc (Nat.le_refl _) _).alloc (by simp) _⟩
  | true =>
   have hm : (0 ≤ n ∧ n < 4294967296) := by have := of_decide_eq_true HX.out; omega
   have HM := Lib.hid hm
   clear hm HX
   go_enter Tryz.func72, Tryz.ntmps72
   go_wp2_with (first | (go_at_call 98; refine (HK.out _).mono ?_; rintro e w' ⟨rfl, rfl⟩) | (go_at_call 34; refine (HN.out _).mono ?_; rintro e w' ⟨rfl, rfl⟩))
   all_goals
    go_ret
    refine ⟨ret_bool ?_, ((Below.refl _ _).alloc (Nat.le_refl _) _).alloc (by simp) _⟩
    have h3 := HM.out
    rw [← HB.out, Bool.eq_iff_iff]
    simp_all [List.isEmpty_iff, empty_iff]
theorem fits_4 (id n : Int) (s v : ByteArray) (b : Bool) (w : World) (hk : kindZ id = 4) (hb : fitsB ⟨id, n, s, v⟩ = b) :
  Calls Tryz.prog 72 #[.agg #[.int .i64 id, .int .i64 n, .string s, .string v]] w fun e w' => e = .returned (.bool b) ∧ Below w.heap.size w w' := by
 have HK := Lib.hid (fun W => RKind_is id 4 W hk)
 obtain ⟨x, hx⟩ : ∃ x, decide (0 ≤ n ∧ n ≤ 268435455) = x := ⟨_, rfl⟩
 have HN := Lib.hid (fun W => zNum_is n 268435455 x W hx)
 have HX := Lib.hid hx
 have mem : ∀ W : World, (W.alloc (.cells #[.int .i64 0, .int .i64 1, .int .i64 65535, .int .i64 4294967295, .int .i64 268435455] 3)).cell? ⟨W.heap.size, 4, none⟩ = some (.int .i64 268435455) := fun W => by rw [cell_of_row (W.alloc _) W.heap.size 4 _ _ (0, 0) (heap_alloc_new W _)]; rfl
 rcases have_split id with c | ⟨h1, h2, h3, h4⟩
 ·rcases c with rfl | rfl | rfl | rfl
  ·by_cases hn : n = 0
   ·obtain rfl : false = b := (fits_zero (p := ⟨11, n, s, v⟩) (by unfold noZ; simp) hn).symm.trans hb
    subst hn
    clear hk hb hx HX HN
    go_enter Tryz.func72, Tryz.ntmps72
    go_wp2_with (go_at_call 98; refine (HK.out _).mono ?_; rintro e w' ⟨rfl, rfl⟩)
    go_ret
    exact ⟨rfl, ((Below.refl _ _).alloc (Nat.le_refl _) _).alloc (by simp) _⟩
   ·have HB : Hid (decide ((0 ≤ n ∧ n < 268435456) ∧ s = ⟨#[]⟩ ∧ v = ⟨#[]⟩) = b) := (fits_val (p := ⟨11, n, s, v⟩) hk (by decide) (fun e => hn e.2)).symm.trans hb
    have bn := ne_false hn
    clear hn
    clear hk hb hx
    cases x with
    | false =>
     have hm : ¬ (0 ≤ n ∧ n < 268435456) := by have := of_decide_eq_false HX.out; omega
     have HM := Lib.hid hm
     clear hm HX
     go_enter Tryz.func72, Tryz.ntmps72
     go_wp2_with (first | (go_at_call 98; refine (HK.out _).mono ?_; rintro e w' ⟨rfl, rfl⟩) | (go_at_call 34; refine (HN.out _).mono ?_; rintro e w' ⟨rfl, rfl⟩))
     go_ret
     exact ⟨ret_bool (dec_false' HB.out (fun e => HM.out e.1)), ((Below.refl _ _).alloc (Nat.le_refl _) _).alloc (by simp) _⟩
    | true =>
     have hm : (0 ≤ n ∧ n < 268435456) := by have := of_decide_eq_true HX.out; omega
     have HM := Lib.hid hm
     clear hm HX
     go_enter Tryz.func72, Tryz.ntmps72
     go_wp2_with (first | (go_at_call 98; refine (HK.out _).mono ?_; rintro e w' ⟨rfl, rfl⟩) | (go_at_call 34; refine (HN.out _).mono ?_; rintro e w' ⟨rfl, rfl⟩))
     all_goals
      go_ret
      refine ⟨ret_bool ?_, ((Below.refl _ _).alloc (Nat.le_refl _) _).alloc (by simp) _⟩
      have h3 := HM.out
      rw [← HB.out, Bool.eq_iff_iff]
      simp_all [List.isEmpty_iff, empty_iff]
  ·cases hk
  ·cases hk
  ·cases hk
 ·have HB : Hid (decide ((0 ≤ n ∧ n < 268435456) ∧ s = ⟨#[]⟩ ∧ v = ⟨#[]⟩) = b) := (fits_val (p := ⟨id, n, s, v⟩) hk (by decide) (fun e => by have : noZ id := e.1; unfold noZ at this; omega)).symm.trans hb
  replace h1 := ne_false h1
  replace h2 := ne_false h2
  replace h3 := ne_false h3
  replace h4 := ne_false h4
  clear hk hb hx
  cases x with
  | false =>
   have hm : ¬ (0 ≤ n ∧ n < 268435456) := by have := of_decide_eq_false HX.out; omega
   have HM := Lib.hid hm
   clear hm HX
   go_enter Tryz.func72, Tryz.ntmps72
   go_wp2_with (first | (go_at_call 98; refine (HK.out _).mono ?_; rintro e w' ⟨rfl, rfl⟩) | (go_at_call 34; refine (HN.out _).mono ?_; rintro e w' ⟨rfl, rfl⟩))
   go_ret
   exact ⟨ret_bool (dec_false' HB.out (fun e => HM.out e.1)), ((Below.refl _ _).alloc (Nat.le_refl _) _).alloc (by simp) _⟩
  | true =>
   have hm : (0 ≤ n ∧ n < 268435456) := by have := of_decide_eq_true HX.out; omega
   have HM := Lib.hid hm
   clear hm HX
   go_enter Tryz.func72, Tryz.ntmps72
   go_wp2_with (first | (go_at_call 98; refine (HK.out _).mono ?_; rintro e w' ⟨rfl, rfl⟩) | (go_at_call 34; refine (HN.out _).mono ?_; rintro e w' ⟨rfl, rfl⟩))
   all_goals
    go_ret
    refine ⟨ret_bool ?_, ((Below.refl _ _).alloc (Nat.le_refl _) _).alloc (by simp) _⟩
    have h3 := HM.out
    rw [← HB.out, Bool.eq_iff_iff]
    simp_all [List.isEmpty_iff, empty_iff]
open Go.RowKit Go.Lib Prp Vbi
theorem fits_6 (id n : Int) (s v : ByteArray) (b : Bool) (w : World) (hk : kindZ id = 6) (hb : decide (n = 0 ∧ binB s = true ∧ v = ⟨#[]⟩) = b) (hs : s.size ≤ 9223372036854775807) :
  Calls Tryz.prog 72 #[.agg #[.int .i64 id, .int .i64 n, .string s, .string v]] w fun e w' => e = .returned (.bool b) ∧ Below w.heap.size w w' := by
 have HK := Lib.hid (fun W => RKind_is id 6 W hk)
 unfold binB at hb
 have HB := Lib.hid hb
 clear hk hb
 by_cases hn : n = 0
 ·subst hn
  go_enter Tryz.func72, Tryz.ntmps72
  go_wp2_with (go_at_call 98; refine (HK.out _).mono ?_; rintro e w' ⟨rfl, rfl⟩)
  ·next hv => go_ret; exact ⟨ret_bool (eq_dec' HB.out (by rw [empty_iff] at hv; simp [hv]; omega)), (Below.refl _ _).alloc (Nat.le_refl _) _⟩
  ·next hv => go_ret; exact ⟨ret_bool (dec_false' HB.out (by rw [empty_iff] at hv; simp [hv])), (Below.refl _ _).alloc (Nat.le_refl _) _⟩
 ·have bn := ne_false hn
  go_enter Tryz.func72, Tryz.ntmps72
  go_wp2_with (go_at_call 98; refine (HK.out _).mono ?_; rintro e w' ⟨rfl, rfl⟩)
  go_ret
  exact ⟨ret_bool (dec_false' HB.out (by simp [hn])), (Below.refl _ _).alloc (Nat.le_refl _) _⟩
theorem fits_5 (id n : Int) (s v : ByteArray) (b : Bool) (w : World) (hk : kindZ id = 5) (hb : decide (n = 0 ∧ textB s = true ∧ v = ⟨#[]⟩) = b) :
  Calls Tryz.prog 72 #[.agg #[.int .i64 id, .int .i64 n, .string s, .string v]] w fun e w' => e = .returned (.bool b) ∧ Below w.heap.size w w' := by
 have HK := Lib.hid (fun W => RKind_is id 5 W hk)
 by_cases hn : n = 0
 ·subst hn
  cases hx : textB s with
  | true =>
   rw [hx] at hb
   have HB := Lib.hid hb
   have HT := Lib.hid (fun W => RText_yes s W hx)
   clear hk hb hx
   go_enter Tryz.func72, Tryz.ntmps72
   go_wp2_with (first | (go_at_call 98; refine (HK.out _).mono ?_; rintro e w' ⟨rfl, rfl⟩) | (go_at_call 75; refine (HT.out _).mono ?_; rintro e w' ⟨rfl, rfl⟩))
   ·next hv => go_ret; exact ⟨ret_bool (dec_true' HB.out (by rw [empty_iff] at hv; simp [hv])), (Below.refl _ _).alloc (Nat.le_refl _) _⟩
   ·next hv => go_ret; exact ⟨ret_bool (dec_false' HB.out (by rw [empty_iff] at hv; simp [hv])), (Below.refl _ _).alloc (Nat.le_refl _) _⟩
  | false =>
   rw [hx] at hb
   have HB := Lib.hid hb
   have HT := Lib.hid (fun W => RText_no s W hx)
   clear hk hb hx
   go_enter Tryz.func72, Tryz.ntmps72
   go_wp2_with (first | (go_at_call 98; refine (HK.out _).mono ?_; rintro e w' ⟨rfl, rfl⟩) | (go_at_call 75; refine (HT.out _).mono ?_; rintro e w' ⟨E, rfl, hE, rfl⟩; replace hE := ne_false hE))
   all_goals (go_ret; exact ⟨ret_bool (dec_false' HB.out (by simp)), (Below.refl _ _).alloc (Nat.le_refl _) _⟩)
 ·have HB := Lib.hid hb
  have bn := ne_false hn
  clear hk hb
  go_enter Tryz.func72, Tryz.ntmps72
  go_wp2_with (go_at_call 98; refine (HK.out _).mono ?_; rintro e w' ⟨rfl, rfl⟩)
  go_ret
  exact ⟨ret_bool (dec_false' HB.out (by simp [hn])), (Below.refl _ _).alloc (Nat.le_refl _) _⟩
theorem fits_7 (id n : Int) (s v : ByteArray) (b : Bool) (w : World) (hk : kindZ id = 7) (hb : decide (n = 0 ∧ textB s = true ∧ textB v = true) = b) :
  Calls Tryz.prog 72 #[.agg #[.int .i64 id, .int .i64 n, .string s, .string v]] w fun e w' => e = .returned (.bool b) ∧ Below w.heap.size w w' := by
 have HK := Lib.hid (fun W => RKind_is id 7 W hk)
 by_cases hn : n = 0
 ·subst hn
  cases hx : textB s with
  | true =>
   rw [hx] at hb
   have HT := Lib.hid (fun W => RText_yes s W hx)
   cases hy : textB v with
   | true =>
    rw [hy] at hb
    have HB := Lib.hid hb
    have HV := Lib.hid (fun W => RText_yes v W hy)
    clear hk hb hx hy
    go_enter Tryz.func72, Tryz.ntmps72
    go_wp2_with (go_at_call 98; refine (HK.out _).mono ?_; rintro e w' ⟨rfl, rfl⟩)
    refine (HT.out _).mono ?_
    rintro e w' ⟨rfl, rfl⟩
    go_wp2_with fail
    refine (HV.out _).mono ?_
    rintro e w' ⟨rfl, rfl⟩
    go_wp2_with fail
    go_ret
    exact ⟨ret_bool (dec_true' HB.out (by simp)), (Below.refl _ _).alloc (Nat.le_refl _) _⟩
   | false =>
    rw [hy] at hb
    have HB := Lib.hid hb
    have HV := Lib.hid (fun W => RText_no v W hy)
    clear hk hb hx hy
    go_enter Tryz.func72, Tryz.ntmps72
    go_wp2_with (go_at_call 98; refine (HK.out _).mono ?_; rintro e w' ⟨rfl, rfl⟩)
    refine (HT.out _).mono ?_
    rintro e w' ⟨rfl, rfl⟩
    go_wp2_with fail
    refine (HV.out _).mono ?_
    rintro e w' ⟨E, rfl, hE, rfl⟩
    replace hE := ne_false hE
    go_wp2_with fail
    go_ret
    exact ⟨ret_bool (dec_false' HB.out (by simp)), (Below.refl _ _).alloc (Nat.le_refl _) _⟩
  | false =>
   rw [hx] at hb
   have HB := Lib.hid hb
   have HT := Lib.hid (fun W => RText_no s W hx)
   clear hk hb hx
   go_enter Tryz.func72, Tryz.ntmps72
   go_wp2_with (go_at_call 98; refine (HK.out _).mono ?_; rintro e w' ⟨rfl, rfl⟩)
   refine (HT.out _).mono ?_
   rintro e w' ⟨E, rfl, hE, rfl⟩
   replace hE := ne_false hE
   go_wp2_with fail
   go_ret
   exact ⟨ret_bool (dec_false' HB.out (by simp)), (Below.refl _ _).alloc (Nat.le_refl _) _⟩
 ·have HB := Lib.hid hb
  have bn := ne_false hn
  clear hk hb
  go_enter Tryz.func72, Tryz.ntmps72
  go_wp2_with (go_at_call 98; refine (HK.out _).mono ?_; rintro e w' ⟨rfl, rfl⟩)
  go_ret
  exact ⟨ret_bool (dec_false' HB.out (by simp [hn])), (Below.refl _ _).alloc (Nat.le_refl _) _⟩
theorem not_noZ {id : Int} (h : kindZ id ≠ 2 ∧ kindZ id ≠ 3 ∧ kindZ id ≠ 4) : ¬ noZ id := by
 unfold noZ
 rintro (rfl | rfl | rfl | rfl)
 ·exact h.2.2 rfl
 ·exact h.1 rfl
 ·exact h.1 rfl
 ·exact h.2.1 rfl
theorem fits_is (id n : Int) (s v : ByteArray) (b : Bool) (w : World) (hs : s.size ≤ 9223372036854775807) (hb : fitsB ⟨id, n, s, v⟩ = b) :
  Calls Tryz.prog 72 #[.agg #[.int .i64 id, .int .i64 n, .string s, .string v]] w fun e w' => e = .returned (.bool b) ∧ Below w.heap.size w w' := by
 have hr := kind_range id
 by_cases h0 : kindZ id = 0
 ·exact fits_0 id n s v b w h0 ((fits_none (p := ⟨id, n, s, v⟩) h0).symm.trans hb)
 rcases kind_seven hr.1 hr.2 h0 with h | h | h | h | h | h | h
 ·exact fits_1 id n s v b w h hb
 ·exact fits_2 id n s v b w h hb
 ·exact fits_3 id n s v b w h hb
 ·exact fits_4 id n s v b w h hb
 ·exact fits_5 id n s v b w h ((fits_val (p := ⟨id, n, s, v⟩) h (by decide) (fun e => not_noZ (by rw [h]; decide) e.1)).symm.trans hb)
 ·exact fits_6 id n s v b w h ((fits_val (p := ⟨id, n, s, v⟩) h (by decide) (fun e => not_noZ (by rw [h]; decide) e.1)).symm.trans hb) hs
 ·exact fits_7 id n s v b w h ((fits_val (p := ⟨id, n, s, v⟩) h (by decide) (fun e => not_noZ (by rw [h]; decide) e.1)).symm.trans hb)
open Go.RowKit Go.Lib Prp
@[irreducible] def RSt (w : World) (A : Option Addr) (l : List P) (W : World) : Prop := PropsAt W w.heap.size A l ∧ Below w.heap.size w W
section
variable {w W W' : World} {A : Option Addr} {l : List P}
theorem RSt.mk (h1 : PropsAt W w.heap.size A l) (h2 : Below w.heap.size w W) : RSt w A l W := by unfold RSt; exact ⟨h1, h2⟩
theorem RSt.out (h : RSt w A l W) : PropsAt W w.heap.size A l ∧ Below w.heap.size w W := by unfold RSt at h; exact h
theorem RSt.below (h : RSt w A l W) (hb : Below W.heap.size W W') : RSt w A l W' := .mk (h.out.1.below (hb.mono h.out.2.size)) (h.out.2.trans (hb.mono h.out.2.size))
theorem RSt.drewN (h : RSt w A l W) (n : Nat) : RSt w A l (W.drewN n) := h.below (below_drewN (Below.refl _ _) n)
theorem RSt.cells {b o : Nat} (h : RSt w (some ⟨b, o, none⟩) l W) (k : Nat) (hk : k < l.length) : PAt W b (o + k * 4) l[k] := by
 obtain ⟨b', o', e, _, hc⟩ := h.out.1.some_ (by omega)
 injection e with e
 injection e with e1 e2
 subst e1 e2
 exact hc k hk
end
open Go.RowKit Go.Lib Prp Vbi
@[irreducible] def RStP (w : World) (A : Option Addr) (l : List P) (g : Nat) (cs : Array Value) (W : World) : Prop := RSt w A l W ∧ Box W g cs
section
variable {w W W' : World} {A : Option Addr} {l : List P} {g : Nat} {cs : Array Value}
theorem RStP.mk (h1 : RSt w A l W) (h2 : Box W g cs) : RStP w A l g cs W := by unfold RStP; exact ⟨h1, h2⟩
theorem RStP.out (h : RStP w A l g cs W) : RSt w A l W ∧ Box W g cs := by unfold RStP at h; exact h
theorem RStP.below (h : RStP w A l g cs W) (hb : Below W.heap.size W W') : RStP w A l g cs W' := .mk (h.out.1.below hb) (h.out.2.below hb)
theorem RStP.drewN (h : RStP w A l g cs W) (n : Nat) : RStP w A l g cs (W.drewN n) := h.below (below_drewN (Below.refl _ _) n)
theorem RSt.alloc (h : RSt w A l W) (o : Obj) : RSt w A l (W.alloc o) := h.below ((Below.refl _ _).alloc (Nat.le_refl _) o)
theorem RStP.alloc (h : RStP w A l g cs W) (o : Obj) : RStP w A l g cs (W.alloc o) := h.below ((Below.refl _ _).alloc (Nat.le_refl _) o)
theorem RStP.new (h : RSt w A l W) (T : TypeId) : RStP w A l W.heap.size cs (W.alloc (.cells cs T)) := .mk (h.alloc _) (.new W T cs)
end
theorem RStP.four {w W : World} {A : Option Addr} {l : List P} {g : Nat} {x y : Int} {s v : ByteArray} (h : RStP w A l g #[.int .i64 x, .int .i64 y, .string s, .string v] W) :
  W.cell? ⟨g, 0, none⟩ = some (.int .i64 x) ∧ W.cell? ⟨g, 1, none⟩ = some (.int .i64 y) ∧ W.cell? ⟨g, 2, none⟩ = some (.string s) ∧ W.cell? ⟨g, 3, none⟩ = some (.string v) :=
 ⟨h.out.2.cell 0, h.out.2.cell 1, h.out.2.cell 2, h.out.2.cell 3⟩
open Go.RowKit Go.Lib Prp Vbi
theorem inner_is (x r : Int) (w : World) (h : inn x = r) :
  Calls Tryz.prog 132 #[.int .i64 x] w fun e w' => e = .returned (.int .i64 r) ∧ w = w' := by
 unfold inn at h
 by_cases h7 : x = 7
 ·subst h7
  obtain rfl : 8 = r := h
  go_enter Tryz.func132, Tryz.ntmps132
  go_wp2
  go_ret
  exact ⟨rfl, rfl⟩
 ·rw [if_neg h7] at h
  subst h
  have h7b := ne_false h7
  go_enter Tryz.func132, Tryz.ntmps132
  go_wp2
  go_ret
  exact ⟨rfl, rfl⟩
theorem RTakeFixed_z (wd : Nat) (s : ByteArray) (a b : Int) (c : Bool) (w : World) (hs : s.size ≤ 9223372036854775807) (hw : wd ≤ 4) (h1 : tfVal wd s.data.toList = a) (h2 : tfErr wd s.data.toList = b) (h3 : decide (b = 0) = c) :
  Calls Tryz.prog 129 #[.string s, .int .i64 (wd : Int)] w fun e w' => e = .returned (.tuple #[.int .i64 a, .bool c]) ∧ w = w' :=
 (RTakeFixed_ok s wd w hs hw).mono fun _ _ h => by
  unfold RTfOk at h
  rw [h1, h2, h3] at h
  exact ⟨h.1, h.2.symm⟩
theorem RTakeNum_z (s : ByteArray) (a b c : Int) (w : World) (hs : s.size ≤ 9223372036854775807) (h : tn s.data.toList = (a, b, c)) :
  Calls Tryz.prog 83 #[.string s] w fun e w' => e = .returned (.tuple #[.int .i64 a, .int .i64 b, .int .i64 c]) ∧ w = w' :=
 (RTakeNum_ok s w hs).mono fun e w' h2 => by
  unfold TnOk at h2
  rw [h] at h2
  exact ⟨h2.1, h2.2.symm⟩
@[irreducible] def Two (w : World) (g : Nat) (cs : Array Value) (k : Nat) (ds : Array Value) (W : World) : Prop := Box W g cs ∧ Box W k ds ∧ g ≠ k ∧ w.heap.size ≤ g ∧ w.heap.size ≤ k ∧ Below w.heap.size w W
section
variable {w W W' : World} {g k : Nat} {cs ds : Array Value}
theorem Two.out (h : Two w g cs k ds W) : Box W g cs ∧ Box W k ds ∧ g ≠ k ∧ w.heap.size ≤ g ∧ w.heap.size ≤ k ∧ Below w.heap.size w W := by unfold Two at h; exact h
theorem Two.mk (h : Box W g cs ∧ Box W k ds ∧ g ≠ k ∧ w.heap.size ≤ g ∧ w.heap.size ≤ k ∧ Below w.heap.size w W) : Two w g cs k ds W := by unfold Two; exact h
theorem Two.new (w : World) (T U : TypeId) (cs ds : Array Value) : Two w w.heap.size cs (w.heap.size + 1) ds ((w.alloc (.cells cs T)).alloc (.cells ds U)) := by
 have e : (w.alloc (.cells cs T)).heap.size = w.heap.size + 1 := by simp
 have h2 := Box.new (w.alloc (.cells cs T)) U ds
 rw [e] at h2
 exact .mk ⟨(Box.new w T cs).alloc _, h2, by omega, Nat.le_refl _, by omega, (((Below.refl _ _).alloc (Nat.le_refl _) _).alloc (by simp) _)⟩
theorem Two.below (h : Two w g cs k ds W) (hb : Below W.heap.size W W') : Two w g cs k ds W' :=
 .mk ⟨h.out.1.below hb, h.out.2.1.below hb, h.out.2.2.1, h.out.2.2.2.1, h.out.2.2.2.2.1, h.out.2.2.2.2.2.trans (hb.mono h.out.2.2.2.2.2.size)⟩
theorem Two.alloc (h : Two w g cs k ds W) (o : Obj) : Two w g cs k ds (W.alloc o) := h.below ((Below.refl _ _).alloc (Nat.le_refl _) _)
theorem Two.drew (h : Two w g cs k ds W) : Two w g cs k ds W.drew := h.below (below_drewN (Below.refl _ _) 1)
theorem Two.cell (h : Two w g cs k ds W) (i : Nat) : W.cell? ⟨g, i, none⟩ = cs[i]? := h.out.1.cell i
theorem Two.cell2 (h : Two w g cs k ds W) (i : Nat) : W.cell? ⟨k, i, none⟩ = ds[i]? := h.out.2.1.cell i
theorem Two.frozen (h : Two w g cs k ds W) (i : Nat) : W.frozen? ⟨g, i, none⟩ = false := h.out.1.frozen i
theorem Two.frozen2 (h : Two w g cs k ds W) (i : Nat) : W.frozen? ⟨k, i, none⟩ = false := h.out.2.1.frozen i
theorem Two.put2 (h : Two w g cs k ds W) (i : Nat) (v : Value) : Two w g cs k (ds.setIfInBounds i v) (W.setCell ⟨k, i, none⟩ v) :=
 .mk ⟨h.out.1.far (p := ⟨k, i, none⟩) h.out.2.2.1 v, h.out.2.1.put i v, h.out.2.2.1, h.out.2.2.2.1, h.out.2.2.2.2.1, h.out.2.2.2.2.2.setCell (p := ⟨k, i, none⟩) h.out.2.2.2.2.1 v⟩
theorem Two.end4 (h : Two w g cs k ds W) (a b c d : Value) : Below w.heap.size w ((((W.setCell ⟨g, 0, none⟩ a).setCell ⟨g, 1, none⟩ b).setCell ⟨g, 2, none⟩ c).setCell ⟨g, 3, none⟩ d) :=
 (((h.out.2.2.2.2.2.setCell (p := ⟨g, 0, none⟩) h.out.2.2.2.1 _).setCell (p := ⟨g, 1, none⟩) h.out.2.2.2.1 _).setCell (p := ⟨g, 2, none⟩) h.out.2.2.2.1 _).setCell (p := ⟨g, 3, none⟩) h.out.2.2.2.1 _
end
def Valued (id : Int) (t : Tk) (w : World) (e : Ending) (w' : World) : Prop :=
 ∃ (i n K : Int) (a b : ByteArray), e = .returned (.tuple #[.agg #[.int .i64 i, .int .i64 n, .string a, .string b], .int .i64 K, .int .i64 (inn t.e)]) ∧ (t.e = 0 → i = id ∧ n = t.n ∧ a = t.a ∧ b = t.b ∧ K = t.k) ∧ Below w.heap.size w w'
theorem value_fix (k id : Int) (wd : Nat) (s : ByteArray) (w : World) (hs : s.size ≤ 281474976710656) (hk : (k = 1 ∧ wd = 1) ∨ (k = 2 ∧ wd = 2) ∨ (k = 3 ∧ wd = 4)) (hkk : kindZ id = k) :
  Calls Tryz.prog 153 #[.int .i64 id, .string s] w (Valued id (tkFix wd s) w) := by
 have HK := Lib.hid (fun W => RKind_is id k W hkk)
 clear hkk
 have hw4 : wd ≤ 4 := by omega
 rcases fx_cases wd s with ⟨_, e, h1, h2⟩ | ⟨_, e, h1, h2⟩
 ·rw [e]
  have HT := Lib.hid (fun W => RTakeFixed_z wd s 0 7 false W (by omega) hw4 h1 h2 rfl)
  clear e h1 h2
  rcases hk with ⟨rfl, rfl⟩ | ⟨rfl, rfl⟩ | ⟨rfl, rfl⟩
  all_goals
   go_enter Tryz.func153, Tryz.ntmps153
   go_wp2_with fail
   have H0 := Lib.hid (Two.new w 99 99 #[.int .i64 0, .int .i64 0, .string ⟨#[]⟩, .string ⟨#[]⟩] #[.int .i64 id, .int .i64 0, .string ⟨#[]⟩, .string ⟨#[]⟩])
   obtain ⟨g1, hg1⟩ : ∃ g1, w.heap.size + 1 = g1 := ⟨_, rfl⟩
   obtain ⟨g, hg⟩ : ∃ g, w.heap.size = g := ⟨_, rfl⟩
   generalize (w.alloc (.cells #[.int .i64 0, .int .i64 0, .string ⟨#[]⟩, .string ⟨#[]⟩] 99)).alloc (.cells #[.int .i64 id, .int .i64 0, .string ⟨#[]⟩, .string ⟨#[]⟩] 99) = w0 at H0 ⊢
   rw [hg1, hg] at H0
   rw [hg1, hg]
   clear hg hg1
   refine (HK.out _).mono ?_
   rintro e w' ⟨rfl, rfl⟩
   go_wp2_with fail
   refine (HT.out _).mono ?_
   rintro e w' ⟨rfl, rfl⟩
   have H1 := Lib.hid (H0.out.alloc (.cells #[.int .i64 0, .int .i64 1, .int .i64 2, .int .i64 4] 3))
   generalize w0.alloc (.cells #[.int .i64 0, .int .i64 1, .int .i64 2, .int .i64 4] 3) = w1 at H1 ⊢
   clear H0 HK HT
   have c0 := H1.out.cell2 0
   have c1 := H1.out.cell2 1
   have c2 := H1.out.cell2 2
   have c3 := H1.out.cell2 3
   have q0 := H1.out.cell 0
   have q1 := H1.out.cell 1
   have q2 := H1.out.cell 2
   have q3 := H1.out.cell 3
   have f0 := H1.out.frozen 0
   have f1 := H1.out.frozen 1
   have f2 := H1.out.frozen 2
   have f3 := H1.out.frozen 3
   simp only [List.getElem?_toArray, List.getElem?_cons_zero, List.getElem?_cons_succ] at c0 c1 c2 c3 q0 q1 q2 q3
   go_wp2_with fail
   refine bodyPost_ret (v := .tuple #[.agg #[.int .i64 id, .int .i64 0, .string ⟨#[]⟩, .string ⟨#[]⟩], .int .i64 0, .int .i64 8]) (by simp [results, Tryz.results153, go_sem, q0, q1, q2, q3]) rfl ⟨id, 0, 0, _, _, rfl, fun e => (by cases e), H1.out.end4 _ _ _ _⟩
 ·obtain ⟨m, hm⟩ : ∃ m, fixVal (s.data.toList.take wd) = m := ⟨_, rfl⟩
  rw [e]
  rw [hm] at h1 ⊢
  have HT := Lib.hid (fun W => RTakeFixed_z wd s (m : Int) 0 true W (by omega) hw4 h1 h2 rfl)
  clear e h1 h2 hm
  rcases hk with ⟨rfl, rfl⟩ | ⟨rfl, rfl⟩ | ⟨rfl, rfl⟩
  all_goals
   go_enter Tryz.func153, Tryz.ntmps153
   go_wp2_with fail
   have H0 := Lib.hid (Two.new w 99 99 #[.int .i64 0, .int .i64 0, .string ⟨#[]⟩, .string ⟨#[]⟩] #[.int .i64 id, .int .i64 0, .string ⟨#[]⟩, .string ⟨#[]⟩])
   obtain ⟨g1, hg1⟩ : ∃ g1, w.heap.size + 1 = g1 := ⟨_, rfl⟩
   obtain ⟨g, hg⟩ : ∃ g, w.heap.size = g := ⟨_, rfl⟩
   generalize (w.alloc (.cells #[.int .i64 0, .int .i64 0, .string ⟨#[]⟩, .string ⟨#[]⟩] 99)).alloc (.cells #[.int .i64 id, .int .i64 0, .string ⟨#[]⟩, .string ⟨#[]⟩] 99) = w0 at H0 ⊢
   rw [hg1, hg] at H0
   rw [hg1, hg]
   clear hg hg1
   refine (HK.out _).mono ?_
   rintro e w' ⟨rfl, rfl⟩
   go_wp2_with fail
   refine (HT.out _).mono ?_
   rintro e w' ⟨rfl, rfl⟩
   have H1 := Lib.hid (H0.out.alloc (.cells #[.int .i64 0, .int .i64 1, .int .i64 2, .int .i64 4] 3))
   generalize w0.alloc (.cells #[.int .i64 0, .int .i64 1, .int .i64 2, .int .i64 4] 3) = w1 at H1 ⊢
   clear H0 HK HT
   have c0 := H1.out.cell2 0
   have c1 := H1.out.cell2 1
   have c2 := H1.out.cell2 2
   have c3 := H1.out.cell2 3
   have q0 := H1.out.cell 0
   have q1 := H1.out.cell 1
   have q2 := H1.out.cell 2
   have q3 := H1.out.cell 3
   have f0 := H1.out.frozen 0
   have f1 := H1.out.frozen 1
   have f2 := H1.out.frozen 2
   have f3 := H1.out.frozen 3
   have fb0 := H1.out.frozen2 0
   have fb1 := H1.out.frozen2 1
   have fb2 := H1.out.frozen2 2
   have fb3 := H1.out.frozen2 3
   simp only [List.getElem?_toArray, List.getElem?_cons_zero, List.getElem?_cons_succ] at c0 q0 c1 q1 c2 q2 c3 q3
   have H2 := Lib.hid (H1.out.put2 1 (.int .i64 (m : Int)))
   have d0 := H2.out.cell2 0
   have d1 := H2.out.cell2 1
   have d2 := H2.out.cell2 2
   have d3 := H2.out.cell2 3
   have r0 := H2.out.cell 0
   have r1 := H2.out.cell 1
   have r2 := H2.out.cell 2
   have r3 := H2.out.cell 3
   have s0 := H2.out.frozen 0
   have s1 := H2.out.frozen 1
   have s2 := H2.out.frozen 2
   have s3 := H2.out.frozen 3
   have sb0 := H2.out.frozen2 0
   have sb1 := H2.out.frozen2 1
   have sb2 := H2.out.frozen2 2
   have sb3 := H2.out.frozen2 3
   simp only [List.getElem?_toArray, List.getElem?_cons_zero, List.getElem?_cons_succ] at d0 r0 d1 r1 d2 r2 d3 r3
   go_wp2_with fail
   refine bodyPost_ret (v := .tuple #[.agg #[.int .i64 id, .int .i64 (m : Int), .string ⟨#[]⟩, .string ⟨#[]⟩], .int .i64 _, .int .i64 0]) (by simp [results, Tryz.results153, go_sem, r0, r1, r2, r3]) rfl ⟨id, (m : Int), _, _, _, rfl, fun _ => ⟨rfl, rfl, rfl, rfl, rfl⟩, H2.out.end4 _ _ _ _⟩
theorem value_num (id : Int) (s : ByteArray) (w : World) (hs : s.size ≤ 281474976710656) (hkk : kindZ id = 4) :
  Calls Tryz.prog 153 #[.int .i64 id, .string s] w (Valued id (tkNum s) w) := by
 have HK := Lib.hid (fun W => RKind_is id 4 W hkk)
 clear hkk
 obtain ⟨a, b, c, ht⟩ : ∃ a b c, tn s.data.toList = (a, b, c) := ⟨_, _, _, rfl⟩
 have e : tkNum s = ⟨a, ⟨#[]⟩, ⟨#[]⟩, b, c⟩ := by unfold tkNum; rw [ht]
 rw [e]
 have HT := Lib.hid (fun W => RTakeNum_z s a b c W (by omega) ht)
 obtain ⟨r, hr⟩ : ∃ r, inn c = r := ⟨_, rfl⟩
 have HI := Lib.hid (fun W => inner_is c r W hr)
 have HR := Lib.hid hr
 clear e ht hr
 go_enter Tryz.func153, Tryz.ntmps153
 go_wp2_with fail
 have H0 := Lib.hid (Two.new w 99 99 #[.int .i64 0, .int .i64 0, .string ⟨#[]⟩, .string ⟨#[]⟩] #[.int .i64 id, .int .i64 0, .string ⟨#[]⟩, .string ⟨#[]⟩])
 obtain ⟨g1, hg1⟩ : ∃ g1, w.heap.size + 1 = g1 := ⟨_, rfl⟩
 obtain ⟨g, hg⟩ : ∃ g, w.heap.size = g := ⟨_, rfl⟩
 generalize (w.alloc (.cells #[.int .i64 0, .int .i64 0, .string ⟨#[]⟩, .string ⟨#[]⟩] 99)).alloc (.cells #[.int .i64 id, .int .i64 0, .string ⟨#[]⟩, .string ⟨#[]⟩] 99) = w0 at H0 ⊢
 rw [hg1, hg] at H0
 rw [hg1, hg]
 clear hg hg1
 refine (HK.out _).mono ?_
 rintro e w' ⟨rfl, rfl⟩
 go_wp2_with fail
 refine (HT.out _).mono ?_
 rintro e w' ⟨rfl, rfl⟩
 have fb := H0.out.frozen2 1
 have c1 := H0.out.cell2 1
 simp only [List.getElem?_toArray, List.getElem?_cons_zero, List.getElem?_cons_succ] at c1
 go_wp2_with fail
 have H2 := Lib.hid (H0.out.put2 1 (.int .i64 a))
 generalize w0.setCell ⟨g1, 1, none⟩ (.int .i64 a) = w2 at H2 ⊢
 clear H0 HK HT fb c1
 obtain ⟨w9, hw9⟩ : ∃ w9, w2.drew = w9 := ⟨_, rfl⟩
 have H9 := Lib.hid H2.out.drew
 rw [hw9] at H9
 have c0 := H2.out.cell2 0
 have c1 := H2.out.cell2 1
 have c2 := H2.out.cell2 2
 have c3 := H2.out.cell2 3
 have q0 := H2.out.cell 0
 have q1 := H2.out.cell 1
 have q2 := H2.out.cell 2
 have q3 := H2.out.cell 3
 have f0 := H2.out.frozen 0
 have f1 := H2.out.frozen 1
 have f2 := H2.out.frozen 2
 have f3 := H2.out.frozen 3
 have HD := Lib.hid H2.out.drew
 simp only [List.setIfInBounds_toArray, List.set_cons_zero, List.set_cons_succ, List.getElem?_toArray, List.getElem?_cons_zero, List.getElem?_cons_succ] at c0 c1 c2 c3 q0 q1 q2 q3
 clear H9 hw9
 go_region_with (go_at_call 132; refine (HI.out _).mono ?_; rintro e w' ⟨rfl, rfl⟩)
 all_goals
  try go_wp2_with fail
  rw [← HR.out]
  refine bodyPost_ret (v := .tuple #[.agg #[.int .i64 id, .int .i64 a, .string ⟨#[]⟩, .string ⟨#[]⟩], .int .i64 b, .int .i64 (inn c)]) (by simp [results, Tryz.results153, go_sem, q0, q1, q2, q3]) rfl ⟨_, _, _, _, _, rfl, fun _ => ⟨rfl, rfl, rfl, rfl, rfl⟩, HD.out.end4 _ _ _ _⟩
open Go.RowKit Go.Lib Prp Vbi
theorem value_long (k id : Int) (t : Bool) (s T : ByteArray) (K E : Int) (w : World) (hs : s.size ≤ 281474976710656) (hk : (k = 5 ∧ t = true) ∨ (k = 6 ∧ t = false)) (hkk : kindZ id = k) (h : tl t s = (T, K, E)) :
  Calls Tryz.prog 153 #[.int .i64 id, .string s] w (Valued id ⟨0, T, ⟨#[]⟩, K, E⟩ w) := by
 have HK := Lib.hid (fun W => RKind_is id k W hkk)
 have HT := Lib.hid (fun W => RTakeLong_is t s T K E W hs h)
 obtain ⟨r, hr⟩ : ∃ r, inn E = r := ⟨_, rfl⟩
 have HI := Lib.hid (fun W => inner_is E r W hr)
 have HR := Lib.hid hr
 clear h hr hkk
 by_cases hE : E = 0
 ·subst hE
  rcases hk with ⟨rfl, rfl⟩ | ⟨rfl, rfl⟩
  all_goals
   go_enter Tryz.func153, Tryz.ntmps153
   go_wp2_with fail
   have H0 := Lib.hid (Two.new w 99 99 #[.int .i64 0, .int .i64 0, .string ⟨#[]⟩, .string ⟨#[]⟩] #[.int .i64 id, .int .i64 0, .string ⟨#[]⟩, .string ⟨#[]⟩])
   obtain ⟨g1, hg1⟩ : ∃ g1, w.heap.size + 1 = g1 := ⟨_, rfl⟩
   obtain ⟨g, hg⟩ : ∃ g, w.heap.size = g := ⟨_, rfl⟩
   generalize (w.alloc (.cells #[.int .i64 0, .int .i64 0, .string ⟨#[]⟩, .string ⟨#[]⟩] 99)).alloc (.cells #[.int .i64 id, .int .i64 0, .string ⟨#[]⟩, .string ⟨#[]⟩] 99) = w0 at H0 ⊢
   rw [hg1, hg] at H0
   rw [hg1, hg]
   clear hg hg1
   refine (HK.out _).mono ?_
   rintro e w' ⟨rfl, rfl⟩
   go_wp2_with fail
   refine (HT.out _).mono ?_
   rintro e w1 ⟨rfl, hb⟩
   have H1 := Lib.hid (H0.out.below hb)
   clear hb H0
   have fb := H1.out.frozen2 2
   have c2 := H1.out.cell2 2
   simp only [List.getElem?_toArray, List.getElem?_cons_zero, List.getElem?_cons_succ] at c2
   go_wp2_with fail
   have H2 := Lib.hid (H1.out.put2 2 (.string T))
   generalize w1.setCell ⟨g1, 2, none⟩ (.string T) = w2 at H2 ⊢
   clear H1 HK HT fb c2
   obtain ⟨w9, hw9⟩ : ∃ w9, w2.drew = w9 := ⟨_, rfl⟩
   have H9 := Lib.hid H2.out.drew
   rw [hw9] at H9
   have c0 := H2.out.cell2 0
   have c1 := H2.out.cell2 1
   have c2 := H2.out.cell2 2
   have c3 := H2.out.cell2 3
   have q0 := H2.out.cell 0
   have q1 := H2.out.cell 1
   have q2 := H2.out.cell 2
   have q3 := H2.out.cell 3
   have f0 := H2.out.frozen 0
   have f1 := H2.out.frozen 1
   have f2 := H2.out.frozen 2
   have f3 := H2.out.frozen 3
   have HD := Lib.hid H2.out.drew
   simp only [List.setIfInBounds_toArray, List.set_cons_zero, List.set_cons_succ, List.getElem?_toArray, List.getElem?_cons_zero, List.getElem?_cons_succ] at c0 c1 c2 c3 q0 q1 q2 q3
   clear H9 hw9
   go_region_with (go_at_call 132; refine (HI.out _).mono ?_; rintro e w' ⟨rfl, rfl⟩)
   all_goals
    try go_wp2_with fail
    rw [← HR.out]
    refine bodyPost_ret (v := .tuple #[.agg #[.int .i64 id, .int .i64 0, .string T, .string ⟨#[]⟩], .int .i64 K, .int .i64 (inn 0)]) (by simp [results, Tryz.results153, go_sem, q0, q1, q2, q3]) rfl ⟨_, _, _, _, _, rfl, fun _ => ⟨rfl, rfl, rfl, rfl, rfl⟩, HD.out.end4 _ _ _ _⟩
 ·have hEb := ne_true hE
  rcases hk with ⟨rfl, rfl⟩ | ⟨rfl, rfl⟩
  all_goals
   go_enter Tryz.func153, Tryz.ntmps153
   go_wp2_with fail
   have H0 := Lib.hid (Two.new w 99 99 #[.int .i64 0, .int .i64 0, .string ⟨#[]⟩, .string ⟨#[]⟩] #[.int .i64 id, .int .i64 0, .string ⟨#[]⟩, .string ⟨#[]⟩])
   obtain ⟨g1, hg1⟩ : ∃ g1, w.heap.size + 1 = g1 := ⟨_, rfl⟩
   obtain ⟨g, hg⟩ : ∃ g, w.heap.size = g := ⟨_, rfl⟩
   generalize (w.alloc (.cells #[.int .i64 0, .int .i64 0, .string ⟨#[]⟩, .string ⟨#[]⟩] 99)).alloc (.cells #[.int .i64 id, .int .i64 0, .string ⟨#[]⟩, .string ⟨#[]⟩] 99) = w0 at H0 ⊢
   rw [hg1, hg] at H0
   rw [hg1, hg]
   clear hg hg1
   refine (HK.out _).mono ?_
   rintro e w' ⟨rfl, rfl⟩
   go_wp2_with fail
   refine (HT.out _).mono ?_
   rintro e w1 ⟨rfl, hb⟩
   have H1 := Lib.hid (H0.out.below hb)
   clear hb H0
   have fb := H1.out.frozen2 2
   have c2 := H1.out.cell2 2
   simp only [List.getElem?_toArray, List.getElem?_cons_zero, List.getElem?_cons_succ] at c2
   go_wp2_with fail
   have H2 := Lib.hid (H1.out.put2 2 (.string T))
   generalize w1.setCell ⟨g1, 2, none⟩ (.string T) = w2 at H2 ⊢
   clear H1 HK HT fb c2
   obtain ⟨w9, hw9⟩ : ∃ w9, w2.drew = w9 := ⟨_, rfl⟩
   have H9 := Lib.hid H2.out.drew
   rw [hw9] at H9
   have c0 := H2.out.cell2 0
   have c1 := H2.out.cell2 1
   have c2 := H2.out.cell2 2
   have c3 := H2.out.cell2 3
   have q0 := H2.out.cell 0
   have q1 := H2.out.cell 1
   have q2 := H2.out.cell 2
   have q3 := H2.out.cell 3
   have f0 := H2.out.frozen 0
   have f1 := H2.out.frozen 1
   have f2 := H2.out.frozen 2
   have f3 := H2.out.frozen 3
   have HD := Lib.hid H2.out.drew
   simp only [List.setIfInBounds_toArray, List.set_cons_zero, List.set_cons_succ, List.getElem?_toArray, List.getElem?_cons_zero, List.getElem?_cons_succ] at c0 c1 c2 c3 q0 q1 q2 q3
   clear H9 hw9
   go_region_with (go_at_call 132; refine (HI.out _).mono ?_; rintro e w' ⟨rfl, rfl⟩)
   all_goals
    try go_wp2_with fail
    rw [← HR.out]
    refine bodyPost_ret (v := .tuple #[.agg #[.int .i64 id, .int .i64 0, .string T, .string ⟨#[]⟩], .int .i64 K, .int .i64 (inn E)]) (by simp [results, Tryz.results153, go_sem, q0, q1, q2, q3]) rfl ⟨_, _, _, _, _, rfl, fun _ => ⟨rfl, rfl, rfl, rfl, rfl⟩, HD.out.end4 _ _ _ _⟩
theorem value_bad (id : Int) (s T : ByteArray) (K E : Int) (w : World) (hs : s.size ≤ 281474976710656) (hkk : kindZ id = 7) (h : tl true s = (T, K, E)) (hE : E ≠ 0) :
  Calls Tryz.prog 153 #[.int .i64 id, .string s] w (Valued id (tkBad E) w) := by
 have HK := Lib.hid (fun W => RKind_is id 7 W hkk)
 have HT := Lib.hid (fun W => RTakeLong_is true s T K E W hs h)
 obtain ⟨r, hr⟩ : ∃ r, inn E = r := ⟨_, rfl⟩
 have HI := Lib.hid (fun W => inner_is E r W hr)
 have HR := Lib.hid hr
 have HEE := Lib.hid hE
 have hEb := ne_true hE
 clear h hr hkk hE
 go_enter Tryz.func153, Tryz.ntmps153
 go_wp2_with fail
 have H0 := Lib.hid (Two.new w 99 99 #[.int .i64 0, .int .i64 0, .string ⟨#[]⟩, .string ⟨#[]⟩] #[.int .i64 id, .int .i64 0, .string ⟨#[]⟩, .string ⟨#[]⟩])
 obtain ⟨g1, hg1⟩ : ∃ g1, w.heap.size + 1 = g1 := ⟨_, rfl⟩
 obtain ⟨g, hg⟩ : ∃ g, w.heap.size = g := ⟨_, rfl⟩
 generalize (w.alloc (.cells #[.int .i64 0, .int .i64 0, .string ⟨#[]⟩, .string ⟨#[]⟩] 99)).alloc (.cells #[.int .i64 id, .int .i64 0, .string ⟨#[]⟩, .string ⟨#[]⟩] 99) = w0 at H0 ⊢
 rw [hg1, hg] at H0
 rw [hg1, hg]
 clear hg hg1
 refine (HK.out _).mono ?_
 rintro e w' ⟨rfl, rfl⟩
 go_wp2_with fail
 refine (HT.out _).mono ?_
 rintro e w1 ⟨rfl, hb⟩
 have H1 := Lib.hid (H0.out.below hb)
 clear hb H0
 have fb := H1.out.frozen2 2
 have c2 := H1.out.cell2 2
 simp only [List.getElem?_toArray, List.getElem?_cons_zero, List.getElem?_cons_succ] at c2
 go_wp2_with fail
 have H2 := Lib.hid (H1.out.put2 2 (.string T))
 generalize w1.setCell ⟨g1, 2, none⟩ (.string T) = w2 at H2 ⊢
 clear H1 HK HT fb c2
 obtain ⟨w9, hw9⟩ : ∃ w9, w2.drew = w9 := ⟨_, rfl⟩
 have H9 := Lib.hid H2.out.drew
 rw [hw9] at H9
 have c0 := H2.out.cell2 0
 have c1 := H2.out.cell2 1
 have c2 := H2.out.cell2 2
 have c3 := H2.out.cell2 3
 have q0 := H2.out.cell 0
 have q1 := H2.out.cell 1
 have q2 := H2.out.cell 2
 have q3 := H2.out.cell 3
 have f0 := H2.out.frozen 0
 have f1 := H2.out.frozen 1
 have f2 := H2.out.frozen 2
 have f3 := H2.out.frozen 3
 have HD := Lib.hid H2.out.drew
 simp only [List.setIfInBounds_toArray, List.set_cons_zero, List.set_cons_succ, List.getElem?_toArray, List.getElem?_cons_zero, List.getElem?_cons_succ] at c0 c1 c2 c3 q0 q1 q2 q3
 clear H9 hw9
 go_region_with (go_at_call 132; refine (HI.out _).mono ?_; rintro e w' ⟨rfl, rfl⟩)
 all_goals
  try go_wp2_with fail
  rw [← HR.out]
  refine bodyPost_ret (v := .tuple #[.agg #[.int .i64 id, .int .i64 0, .string T, .string ⟨#[]⟩], .int .i64 K, .int .i64 (inn E)]) (by simp [results, Tryz.results153, go_sem, q0, q1, q2, q3]) rfl ⟨_, _, _, _, _, rfl, fun e => absurd e HEE.out, HD.out.end4 _ _ _ _⟩
theorem value_two (id : Int) (s T U : ByteArray) (j : Nat) (K E : Int) (w : World) (hs : s.size ≤ 281474976710656) (hkk : kindZ id = 7) (h : tl true s = (T, (j : Int), 0)) (hj : j ≤ s.size) (h2 : tl true (s.extract j s.size) = (U, K, E)) (hK0 : 0 ≤ K) (hK : K ≤ 281474976710656) :
  Calls Tryz.prog 153 #[.int .i64 id, .string s] w (Valued id ⟨0, T, U, (j : Int) + K, E⟩ w) := by
 have HK := Lib.hid (fun W => RKind_is id 7 W hkk)
 have HT := Lib.hid (fun W => RTakeLong_is true s T (j : Int) 0 W hs h)
 have HU := Lib.hid (fun W => RTakeLong_is true (s.extract j s.size) U K E W (by rw [ByteArray.size_extract]; omega) h2)
 obtain ⟨r, hr⟩ : ∃ r, inn E = r := ⟨_, rfl⟩
 have HI := Lib.hid (fun W => inner_is E r W hr)
 have HR := Lib.hid hr
 have hjS : (j : Int) ≤ (s.size : Int) := by omega
 have hj0 : (0 : Int) ≤ (j : Int) := by omega
 have hwr : IntKind.i64.wrap ((j : Int) + K) = (j : Int) + K := IntWalk.i64_in _ (by omega)
 clear h hr hkk h2
 go_enter Tryz.func153, Tryz.ntmps153
 go_wp2_with fail
 have H0 := Lib.hid (Two.new w 99 99 #[.int .i64 0, .int .i64 0, .string ⟨#[]⟩, .string ⟨#[]⟩] #[.int .i64 id, .int .i64 0, .string ⟨#[]⟩, .string ⟨#[]⟩])
 obtain ⟨g1, hg1⟩ : ∃ g1, w.heap.size + 1 = g1 := ⟨_, rfl⟩
 obtain ⟨g, hg⟩ : ∃ g, w.heap.size = g := ⟨_, rfl⟩
 generalize (w.alloc (.cells #[.int .i64 0, .int .i64 0, .string ⟨#[]⟩, .string ⟨#[]⟩] 99)).alloc (.cells #[.int .i64 id, .int .i64 0, .string ⟨#[]⟩, .string ⟨#[]⟩] 99) = w0 at H0 ⊢
 rw [hg1, hg] at H0
 rw [hg1, hg]
 clear hg hg1
 refine (HK.out _).mono ?_
 rintro e w' ⟨rfl, rfl⟩
 go_wp2_with fail
 refine (HT.out _).mono ?_
 rintro e w1 ⟨rfl, hb⟩
 have H1 := Lib.hid (H0.out.below hb)
 clear hb H0 HT HK
 go_wp2_with fail
 refine (HU.out _).mono ?_
 rintro e w2 ⟨rfl, hb⟩
 have H2 := Lib.hid (H1.out.below hb)
 clear hb H1 HU
 have fb2 := H2.out.frozen2 2
 have fb3 := H2.out.frozen2 3
 have c2 := H2.out.cell2 2
 have c3 := H2.out.cell2 3
 simp only [List.getElem?_toArray, List.getElem?_cons_zero, List.getElem?_cons_succ] at c2 c3
 go_wp2_with fail
 have H3 := Lib.hid ((H2.out.put2 2 (.string T)).put2 3 (.string U))
 generalize (w2.setCell ⟨g1, 2, none⟩ (.string T)).setCell ⟨g1, 3, none⟩ (.string U) = w3 at H3 ⊢
 clear H2 fb2 fb3 c2 c3
 obtain ⟨w9, hw9⟩ : ∃ w9, w3.drew = w9 := ⟨_, rfl⟩
 have H9 := Lib.hid H3.out.drew
 rw [hw9] at H9
 have c0 := H3.out.cell2 0
 have c1 := H3.out.cell2 1
 have c2 := H3.out.cell2 2
 have c3 := H3.out.cell2 3
 have q0 := H3.out.cell 0
 have q1 := H3.out.cell 1
 have q2 := H3.out.cell 2
 have q3 := H3.out.cell 3
 have f0 := H3.out.frozen 0
 have f1 := H3.out.frozen 1
 have f2 := H3.out.frozen 2
 have f3 := H3.out.frozen 3
 have HD := Lib.hid H3.out.drew
 simp only [List.setIfInBounds_toArray, List.set_cons_zero, List.set_cons_succ, List.getElem?_toArray, List.getElem?_cons_zero, List.getElem?_cons_succ] at c0 c1 c2 c3 q0 q1 q2 q3
 clear H9 hw9
 go_region_with (go_at_call 132; refine (HI.out _).mono ?_; rintro e w' ⟨rfl, rfl⟩)
 all_goals
  try go_wp2_with fail
  rw [← HR.out]
  refine bodyPost_ret (v := .tuple #[.agg #[.int .i64 id, .int .i64 0, .string T, .string U], .int .i64 ((j : Int) + K), .int .i64 (inn E)]) (by simp [results, Tryz.results153, go_sem, q0, q1, q2, q3]) rfl ⟨_, _, _, _, _, rfl, fun _ => ⟨rfl, rfl, rfl, rfl, rfl⟩, HD.out.end4 _ _ _ _⟩
theorem value_is (k id : Int) (s : ByteArray) (w : World) (hs : s.size ≤ 281474976710656) (hk0 : k ≠ 0) (hkk : kindZ id = k) :
  Calls Tryz.prog 153 #[.int .i64 id, .string s] w (Valued id (tk k s) w) := by
 have hr := kind_range id
 rw [hkk] at hr
 rcases kind_seven hr.1 hr.2 hk0 with rfl | rfl | rfl | rfl | rfl | rfl | rfl
 ·exact value_fix 1 id 1 s w hs (.inl ⟨rfl, rfl⟩) hkk
 ·exact value_fix 2 id 2 s w hs (.inr (.inl ⟨rfl, rfl⟩)) hkk
 ·exact value_fix 3 id 4 s w hs (.inr (.inr ⟨rfl, rfl⟩)) hkk
 ·exact value_num id s w hs hkk
 ·exact value_long 5 id true s _ _ _ w hs (.inl ⟨rfl, rfl⟩) hkk rfl
 ·exact value_long 6 id false s _ _ _ w hs (.inr ⟨rfl, rfl⟩) hkk rfl
 ·show Calls _ _ _ _ (Valued id (tkTwo s) w)
  by_cases h : (tl true s).2.2 = 0
  ·obtain ⟨m, hm1, hm2, _⟩ := tl_took h
   have h1 : tl true s = ((tl true s).1, ((2 + m : Nat) : Int), 0) := by rw [← hm1, ← h]
   by_cases h2 : (tl true (s.extract (2 + m) s.size)).2.2 = 0
   ·obtain ⟨m2, hk1, hk2, _⟩ := tl_took h2
    rw [ByteArray.size_extract] at hk2
    rw [two_good h (by rw [hm1, Int.toNat_natCast]; exact h2), hm1, Int.toNat_natCast]
    exact value_two id s (tl true s).1 (tl true (s.extract (2 + m) s.size)).1 (2 + m) (tl true (s.extract (2 + m) s.size)).2.1 0 w hs hkk h1 hm2 (by rw [← h2]) (by rw [hk1]; omega) (by rw [hk1]; omega)
   ·obtain ⟨_, hk1⟩ := tl_not h2
    rw [two_bad2 h (by rw [hm1, Int.toNat_natCast]; exact h2), hm1, Int.toNat_natCast]
    exact (value_two id s (tl true s).1 (tl true (s.extract (2 + m) s.size)).1 (2 + m) (tl true (s.extract (2 + m) s.size)).2.1 (tl true (s.extract (2 + m) s.size)).2.2 w hs hkk h1 hm2 rfl (by rw [hk1]; omega) (by rw [hk1]; omega)).mono
     fun _ _ ⟨i, n, K, a, b, e1, _, e3⟩ => ⟨i, n, K, a, b, e1, fun e => absurd e h2, e3⟩
  ·rw [two_bad1 h]
   exact value_bad id s _ _ _ w hs hkk rfl h
end Go.Proofs.YtdbbcfohjkgdcaaGreat
