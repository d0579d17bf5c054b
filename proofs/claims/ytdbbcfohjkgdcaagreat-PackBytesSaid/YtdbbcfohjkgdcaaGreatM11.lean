/- The document's own answer: a value is taken, by its kind. -/
import Derived.Test.YtdbbcfohjkgdcaaGreatM00
import Derived.Test.YtdbbcfohjkgdcaaGreatM07
import Derived.Test.YtdbbcfohjkgdcaaGreatM09
set_option maxRecDepth 100000
set_option maxHeartbeats 64000000
namespace Go.Proofs.YtdbbcfohjkgdcaaGreat
open Go.RowKit Go.Lib Prp Vbi Txt
theorem fits_none {p : P} (h : kindZ p.id = 0) : fitsB p = false := by
 unfold fitsB
 rw [decide_eq_false (show ¬ (kindZ p.id ≠ 0) from fun e => e h)]; rfl
theorem fits_zero {p : P} (hz : noZ p.id) (hn : p.n = 0) : fitsB p = false := by
 unfold fitsB
 rw [decide_eq_false (show ¬ ¬ (noZ p.id ∧ p.n = 0) from fun e => e ⟨hz, hn⟩)]; simp
theorem fits_val {p : P} {k : Int} (hk : kindZ p.id = k) (hk0 : k ≠ 0) (h : ¬ (noZ p.id ∧ p.n = 0)) : fitsB p = valB k p := by
 unfold fitsB
 rw [hk, decide_eq_true (show k ≠ 0 from hk0), decide_eq_true (show ¬ (noZ p.id ∧ p.n = 0) from h)]; rfl
theorem empty_iff (v : ByteArray) : v.toList = [] ↔ v = ⟨#[]⟩ := by rw [← toList_eq_iff, show (⟨#[]⟩ : ByteArray).toList = [] by rw [ByteArray.toList_eq]]
theorem RText_yes (s : ByteArray) (w : World) (h : textB s = true) : Calls Tryz.prog 75 #[.string s] w fun e w' => e = .returned (.int .i64 0) ∧ w = w' := by
 unfold textB at h
 have h0 : textErr s.data.toList = 0 := of_decide_eq_true h
 exact RText_eq s 0 w h0
theorem RText_no (s : ByteArray) (w : World) (h : textB s = false) : Calls Tryz.prog 75 #[.string s] w fun e w' => ∃ E : Int, e = .returned (.int .i64 E) ∧ E ≠ 0 ∧ w = w' := by
 unfold textB at h
 have h0 : ¬ textErr s.data.toList = 0 := of_decide_eq_false h
 exact (RText_eq s _ w rfl).mono fun _ _ ⟨h1, h2⟩ => ⟨_, h1, h0, h2⟩
theorem fits_0 (id n : Int) (s v : ByteArray) (b : Bool) (w : World) (hk : kindZ id = 0) (hb : false = b) :
  Calls Tryz.prog 72 #[.agg #[.int .i64 id, .int .i64 n, .string s, .string v]] w fun e w' => e = .returned (.bool b) ∧ Below w.heap.size w w' := by
 subst hb
 have HK := Lib.hid (fun W => RKind_is id 0 W hk)
 clear hk
 go_enter Tryz.func72, Tryz.ntmps72
 go_wp2_with (go_at_call 98; refine (HK.out _).mono ?_; rintro e w' ⟨rfl, rfl⟩)
 go_ret
 exact ⟨rfl, (Below.refl _ _).alloc (Nat.le_refl _) _⟩
theorem fits_1 (id n : Int) (s v : ByteArray) (b : Bool) (w : World) (hk : kindZ id = 1) (hb : fitsB ⟨id, n, s, v⟩ = b) :
  Calls Tryz.prog 72 #[.agg #[.int .i64 id, .int .i64 n, .string s, .string v]] w fun e w' => e = .returned (.bool b) ∧ Below w.heap.size w w' := by
 have HK := Lib.hid (fun W => RKind_is id 1 W hk)
 obtain ⟨x, hx⟩ : ∃ x, decide (0 ≤ n ∧ n ≤ 1) = x := ⟨_, rfl⟩
 have HN := Lib.hid (fun W => zNum_is n 1 x W hx)
 have HX := Lib.hid hx
 have mem : ∀ W : World, (W.alloc (.cells #[.int .i64 0, .int .i64 1, .int .i64 65535, .int .i64 4294967295, .int .i64 268435455] 3)).cell? ⟨W.heap.size, 1, none⟩ = some (.int .i64 1) := fun W => by rw [cell_of_row (W.alloc _) W.heap.size 1 _ _ (0, 0) (heap_alloc_new W _)]; rfl
 rcases have_split id with c | ⟨h1, h2, h3, h4⟩
 ·rcases c with rfl | rfl | rfl | rfl
  ·cases hk
  ·cases hk
  ·cases hk
  ·cases hk
 ·have HB : Hid (decide ((n = 0 ∨ n = 1) ∧ s = ⟨#[]⟩ ∧ v = ⟨#[]⟩) = b) := (fits_val (p := ⟨id, n, s, v⟩) hk (by decide) (fun e => by have : noZ id := e.1; unfold noZ at this; omega)).symm.trans hb
  replace h1 := ne_false h1
  replace h2 := ne_false h2
  replace h3 := ne_false h3
  replace h4 := ne_false h4
  clear hk hb hx
  cases x with
  | false =>
   have hm : ¬ (n = 0 ∨ n = 1) := by have := of_decide_eq_false HX.out; omega
   have HM := Lib.hid hm
   clear hm HX
   go_enter Tryz.func72, Tryz.ntmps72
   go_wp2_with (first | (go_at_call 98; refine (HK.out _).mono ?_; rintro e w' ⟨rfl, rfl⟩) | (go_at_call 34; refine (HN.out _).mono ?_; rintro e w' ⟨rfl, rfl⟩))
   go_ret
   exact ⟨ret_bool (dec_false' HB.out (fun e => HM.out e.1)), ((Below.refl _ _).alloc (Nat.le_refl _) _).alloc (by simp) _⟩
  | true =>
   have hm : (n = 0 ∨ n = 1) := by have := of_decide_eq_true HX.out; omega
   have HM := Lib.hid hm
   clear hm HX
   go_enter Tryz.func72, Tryz.ntmps72
   go_wp2_with (first | (go_at_call 98; refine (HK.out _).mono ?_; rintro e w' ⟨rfl, rfl⟩) | (go_at_call 34; refine (HN.out _).mono ?_; rintro e w' ⟨rfl, rfl⟩))
   all_goals
    go_ret
    refine ⟨ret_bool ?_, ((Below.refl _ _).alloc (Nat.le_refl _) _).alloc (by simp) _⟩
    have h3 := HM.out
    rw [← HB.out, Bool.eq_iff_iff]
    simp_all [List.isEmpty_iff, empty_iff]
theorem fits_2 (id n : Int) (s v : ByteArray) (b : Bool) (w : World) (hk : kindZ id = 2) (hb : fitsB ⟨id, n, s, v⟩ = b) :
  Calls Tryz.prog 72 #[.agg #[.int .i64 id, .int .i64 n, .string s, .string v]] w fun e w' => e = .returned (.bool b) ∧ Below w.heap.size w w' := by
 have HK := Lib.hid (fun W => RKind_is id 2 W hk)
 obtain ⟨x, hx⟩ : ∃ x, decide (0 ≤ n ∧ n ≤ 65535) = x := ⟨_, rfl⟩
 have HN := Lib.hid (fun W => zNum_is n 65535 x W hx)
 have HX := Lib.hid hx
 have mem : ∀ W : World, (W.alloc (.cells #[.int .i64 0, .int .i64 1, .int .i64 65535, .int .i64 4294967295, .int .i64 268435455] 3)).cell? ⟨W.heap.size, 2, none⟩ = some (.int .i64 65535) := fun W => by rw [cell_of_row (W.alloc _) W.heap.size 2 _ _ (0, 0) (heap_alloc_new W _)]; rfl
 rcases have_split id with c | ⟨h1, h2, h3, h4⟩
 ·rcases c with rfl | rfl | rfl | rfl
  ·cases hk
  ·by_cases hn : n = 0
   ·obtain rfl : false = b := (fits_zero (p := ⟨33, n, s, v⟩) (by unfold noZ; simp) hn).symm.trans hb
    subst hn
    clear hk hb hx HX HN
    go_enter Tryz.func72, Tryz.ntmps72
    go_wp2_with (go_at_call 98; refine (HK.out _).mono ?_; rintro e w' ⟨rfl, rfl⟩)
    go_ret
    exact ⟨rfl, ((Below.refl _ _).alloc (Nat.le_refl _) _).alloc (by simp) _⟩
   ·have HB : Hid (decide ((0 ≤ n ∧ n < 65536) ∧ s = ⟨#[]⟩ ∧ v = ⟨#[]⟩) = b) := (fits_val (p := ⟨33, n, s, v⟩) hk (by decide) (fun e => hn e.2)).symm.trans hb
    have bn := ne_false hn
    clear hn
    clear hk hb hx
    cases x with
    | false =>
     have hm : ¬ (0 ≤ n ∧ n < 65536) := by have := of_decide_eq_false HX.out; omega
     have HM := Lib.hid hm
     clear hm HX
     go_enter Tryz.func72, Tryz.ntmps72
     go_wp2_with (first | (go_at_call 98; refine (HK.out _).mono ?_; rintro e w' ⟨rfl, rfl⟩) | (go_at_call 34; refine (HN.out _).mono ?_; rintro e w' ⟨rfl, rfl⟩))
     go_ret
     exact ⟨ret_bool (dec_false' HB.out (fun e => HM.out e.1)), ((Below.refl _ _).alloc (Nat.le_refl _) _).alloc (by simp) _⟩
    | true =>
     have hm : (0 ≤ n ∧ n < 65536) := by have := of_decide_eq_true HX.out; omega
     have HM := Lib.hid hm
     clear hm HX
     go_enter Tryz.func72, Tryz.ntmps72
     go_wp2_with (first | (go_at_call 98; refine (HK.out _).mono ?_; rintro e w' ⟨rfl, rfl⟩) | (go_at_call 34; refine (HN.out _).mono ?_; rintro e w' ⟨rfl, rfl⟩))
     all_goals
      go_ret
      refine ⟨ret_bool ?_, ((Below.refl _ _).alloc (Nat.le_refl _) _).alloc (by simp) _⟩
      have h3 := HM.out
      rw [← HB.out, Bool.eq_iff_iff]
      simp_all [List.isEmpty_iff, empty_iff]
  ·by_cases hn : n = 0
   ·obtain rfl : false = b := (fits_zero (p := ⟨35, n, s, v⟩) (by unfold noZ; simp) hn).symm.trans hb
    subst hn
    clear hk hb hx HX HN
    go_enter Tryz.func72, Tryz.ntmps72
    go_wp2_with (go_at_call 98; refine (HK.out _).mono ?_; rintro e w' ⟨rfl, rfl⟩)
    go_ret
    exact ⟨rfl, ((Below.refl _ _).alloc (Nat.le_refl _) _).alloc (by simp) _⟩
   ·have HB : Hid (decide ((0 ≤ n ∧ n < 65536) ∧ s = ⟨#[]⟩ ∧ v = ⟨#[]⟩) = b) := (fits_val (p := ⟨35, n, s, v⟩) hk (by decide) (fun e => hn e.2)).symm.trans hb
    have bn := ne_false hn
    clear hn
    clear hk hb hx
    cases x with
    | false =>
     have hm : ¬ (0 ≤ n ∧ n < 65536) := by have := of_decide_eq_false HX.out; omega
     have HM := Lib.hid hm
     clear hm HX
     go_enter Tryz.func72, Tryz.ntmps72
     go_wp2_with (first | (go_at_call 98; refine (HK.out _).mono ?_; rintro e w' ⟨rfl, rfl⟩) | (go_at_call 34; refine (HN.out _).mono ?_; rintro e w' ⟨rfl, rfl⟩))
     go_ret
     exact ⟨ret_bool (dec_false' HB.out (fun e => HM.out e.1)), ((Below.refl _ _).alloc (Nat.le_refl _) _).alloc (by simp) _⟩
    | true =>
     have hm : (0 ≤ n ∧ n < 65536) := by have := of_decide_eq_true HX.out; omega
     have HM := Lib.hid hm
     clear hm HX
     go_enter Tryz.func72, Tryz.ntmps72
     go_wp2_with (first | (go_at_call 98; refine (HK.out _).mono ?_; rintro e w' ⟨rfl, rfl⟩) | (go_at_call 34; refine (HN.out _).mono ?_; rintro e w' ⟨rfl, rfl⟩))
     all_goals
      go_ret
      refine ⟨ret_bool ?_, ((Below.refl _ _).alloc (Nat.le_refl _) _).alloc (by simp) _⟩
      have h3 := HM.out
      rw [← HB.out, Bool.eq_iff_iff]
      simp_all [List.isEmpty_iff, empty_iff]
  ·cases hk
 ·have HB : Hid (decide ((0 ≤ n ∧ n < 65536) ∧ s = ⟨#[]⟩ ∧ v = ⟨#[]⟩) = b) := (fits_val (p := ⟨id, n, s, v⟩) hk (by decide) (fun e => by have : noZ id := e.1; unfold noZ at this; omega)).symm.trans hb
  replace h1 := ne_false h1
  replace h2 := ne_false h2
  replace h3 := ne_false h3
  replace h4 := ne_false h4
  clear hk hb hx
  cases x with
  | false =>
   have hm : ¬ (0 ≤ n ∧ n < 65536) := by have := of_decide_eq_false HX.out; omega
   have HM := Lib.hid hm
   clear hm HX
   go_enter Tryz.func72, Tryz.ntmps72
   go_wp2_with (first | (go_at_call 98; refine (HK.out _).mono ?_; rintro e w' ⟨rfl, rfl⟩) | (go_at_call 34; refine (HN.out _).mono ?_; rintro e w' ⟨rfl, rfl⟩))
   go_ret
   exact ⟨ret_bool (dec_false' HB.out (fun e => HM.out e.1)), ((Below.refl _ _).alloc (Nat.le_refl _) _).alloc (by simp) _⟩
  | true =>
   have hm : (0 ≤ n ∧ n < 65536) := by have := of_decide_eq_true HX.out; omega
   have HM := Lib.hid hm
   clear hm HX
   go_enter Tryz.func72, Tryz.ntmps72
   go_wp2_with (first | (go_at_call 98; refine (HK.out _).mono ?_; rintro e w' ⟨rfl, rfl⟩) | (go_at_call 34; refine (HN.out _).mono ?_; rintro e w' ⟨rfl, rfl⟩))
   all_goals
    go_ret
    refine ⟨ret_bool ?_, ((Below.refl _ _).alloc (Nat.le_refl _) _).alloc (by simp) _⟩
    have h3 := HM.out
    rw [← HB.out, Bool.eq_iff_iff]
    simp_all [List.isEmpty_iff, empty_iff]
theorem fits_3 (id n : Int) (s v : ByteArray) (b : Bool) (w : World) (hk : kindZ id = 3) (hb : fitsB ⟨id, n, s, v⟩ = b) :
  Calls Tryz.prog 72 #[.agg #[.int .i64 id, .int .i64 n, .string s, .string v]] w fun e w' => e = .returned (.bool b) ∧ Below w.heap.size w w' := by
 have HK := Lib.hid (fun W => RKind_is id 3 W hk)
 obtain ⟨x, hx⟩ : ∃ x, decide (0 ≤ n ∧ n ≤ 4294967295) = x := ⟨_, rfl⟩
 have HN := Lib.hid (fun W => zNum_is n 4294967295 x W hx)
 have HX := Lib.hid hx
 have mem : ∀ W : World, (W.alloc (.cells #[.int .i64 0, .int .i64 1, .int .i64 65535, .int .i64 4294967295, .int .i64 268435455] 3)).cell? ⟨W.heap.size, 3, none⟩ = some (.int .i64 4294967295) := fun W => by rw [cell_of_row (W.alloc _) W.heap.size 3 _ _ (0, 0) (heap_alloc_new W _)]; rfl
 rcases have_split id with c | ⟨h1, h2, h3, h4⟩
 ·rcases c with rfl | rfl | rfl | rfl
  ·cases hk
  ·cases hk
  ·cases hk
  ·by_cases hn : n = 0
   ·obtain rfl : false = b := (fits_zero (p := ⟨39, n, s, v⟩) (by unfold noZ; simp) hn).symm.trans hb
    subst hn
    clear hk hb hx HX HN
    go_enter Tryz.func72, Tryz.ntmps72
    go_wp2_with (go_at_call 98; refine (HK.out _).mono ?_; rintro e w' ⟨rfl, rfl⟩)
    go_ret
    exact ⟨rfl, ((Below.refl _ _).alloc (Nat.le_refl _) _).alloc (by simp) _⟩
   ·have HB : Hid (decide ((0 ≤ n ∧ n < 4294967296) ∧ s = ⟨#[]⟩ ∧ v = ⟨#[]⟩) = b) := (fits_val (p := ⟨39, n, s, v⟩) hk (by decide) (fun e => hn e.2)).symm.trans hb
    have bn := ne_false hn
    clear hn
    clear hk hb hx
    cases x with
    | false =>
     have hm : ¬ (0 ≤ n ∧ n < 4294967296) := by have := of_decide_eq_false HX.out; omega
     have HM := Lib.hid hm
     clear hm HX
     go_enter Tryz.func72, Tryz.ntmps72
     go_wp2_with (first | (go_at_call 98; refine (HK.out _).mono ?_; rintro e w' ⟨rfl, rfl⟩) | (go_at_call 34; refine (HN.out _).mono ?_; rintro e w' ⟨rfl, rfl⟩))
     go_ret
     exact ⟨ret_bool (dec_false' HB.out (fun e => HM.out e.1)), ((Below.refl _ _).alloc (Nat.le_refl _) _).alloc (by simp) _⟩
    | true =>
     have hm : (0 ≤ n ∧ n < 4294967296) := by have := of_decide_eq_true HX.out; omega
     have HM := Lib.hid hm
     clear hm HX
     go_enter Tryz.func72, Tryz.ntmps72
     go_wp2_with (first | (go_at_call 98; refine (HK.out _).mono ?_; rintro e w' ⟨rfl, rfl⟩) | (go_at_call 34; refine (HN.out _).mono ?_; rintro e w' ⟨rfl, rfl⟩))
     all_goals
      go_ret
      refine ⟨ret_bool ?_, ((Below.refl _ _).alloc (Nat.le_refl _) _).alloc (by simp) _⟩
      have h3 := HM.out
      rw [← HB.out, Bool.eq_iff_iff]
      simp_all [List.isEmpty_iff, empty_iff]
 ·have HB : Hid (decide ((0 ≤ n ∧ n < 4294967296) ∧ s = ⟨#[]⟩ ∧ v = ⟨#[]⟩) = b) := (fits_val (p := ⟨id, n, s, v⟩) hk (by decide) (fun e => by have : noZ id := e.1; unfold noZ at this; omega)).symm.trans hb
  replace h1 := ne_false h1
  replace h2 := ne_false h2
  replace h3 := ne_false h3
  replace h4 := ne_false h4
  clear hk hb hx
  cases x with
  | false =>
   have hm : ¬ (0 ≤ n ∧ n < 4294967296) := by have := of_decide_eq_false HX.out; omega
   have HM := Lib.hid hm
   clear hm HX
   go_enter Tryz.func72, Tryz.ntmps72
   go_wp2_with (first | (go_at_call 98; refine (HK.out _).mono ?_; rintro e w' ⟨rfl, rfl⟩) | (go_at_call 34; refine (HN.out _).mono ?_; rintro e w' ⟨rfl, rfl⟩))
   go_ret
   exact ⟨ret_bool (dec_false' HB.out (fun e => HM.out e.1)), ((Below.refl _ _).alloc (Nat.le_refl _) _).alloc (by simp) _⟩
  | true =>
   have hm : (0 ≤ n ∧ n < 4294967296) := by have := of_decide_eq_true HX.out; omega
   have HM := Lib.hid hm
   clear hm HX
   go_enter Tryz.func72, Tryz.ntmps72
   go_wp2_with (first | (go_at_call 98; refine (HK.out _).mono ?_; rintro e w' ⟨rfl, rfl⟩) | (go_at_call 34; refine (HN.out _).mono ?_; rintro e w' ⟨rfl, rfl⟩))
   all_goals
    go_ret
    refine ⟨ret_bool ?_, ((Below.refl _ _).alloc (Nat.le_refl _) _).alloc (by simp) _⟩
    have h3 := HM.out
    rw [← HB.out, Bool.eq_iff_iff]
    simp_all [List.isEmpty_iff, empty_iff]
theorem fits_4 (id n : Int) (s v : ByteArray) (b : Bool) (w : World) (hk : kindZ id = 4) (hb : fitsB ⟨id, n, s, v⟩ = b) :
  Calls Tryz.prog 72 #[.agg #[.int .i64 id, .int .i64 n, .string s, .string v]] w fun e w' => e = .returned (.bool b) ∧ Below w.heap.size w w' := by
 have HK := Lib.hid (fun W => RKind_is id 4 W hk)
 obtain ⟨x, hx⟩ : ∃ x, decide (0 ≤ n ∧ n ≤ 268435455) = x := ⟨_, rfl⟩
 have HN := Lib.hid (fun W => zNum_is n 268435455 x W hx)
 have HX := Lib.hid hx
 have mem : ∀ W : World, (W.alloc (.cells #[.int .i64 0, .int .i64 1, .int .i64 65535, .int .i64 4294967295, .int .i64 268435455] 3)).cell? ⟨W.heap.size, 4, none⟩ = some (.int .i64 268435455) := fun W => by rw [cell_of_row (W.alloc _) W.heap.size 4 _ _ (0, 0) (heap_alloc_new W _)]; rfl
 rcases have_split id with c | ⟨h1, h2, h3, h4⟩
 ·rcases c with rfl | rfl | rfl | rfl
  ·by_cases hn : n = 0
   ·obtain rfl : false = b := (fits_zero (p := ⟨11, n, s, v⟩) (by unfold noZ; simp) hn).symm.trans hb
    subst hn
    clear hk hb hx HX HN
    go_enter Tryz.func72, Tryz.ntmps72
    go_wp2_with (go_at_call 98; refine (HK.out _).mono ?_; rintro e w' ⟨rfl, rfl⟩)
    go_ret
    exact ⟨rfl, ((Below.refl _ _).alloc (Nat.le_refl _) _).alloc (by simp) _⟩
   ·have HB : Hid (decide ((0 ≤ n ∧ n < 268435456) ∧ s = ⟨#[]⟩ ∧ v = ⟨#[]⟩) = b) := (fits_val (p := ⟨11, n, s, v⟩) hk (by decide) (fun e => hn e.2)).symm.trans hb
    have bn := ne_false hn
    clear hn
    clear hk hb hx
    cases x with
    | false =>
     have hm : ¬ (0 ≤ n ∧ n < 268435456) := by have := of_decide_eq_false HX.out; omega
     have HM := Lib.hid hm
     clear hm HX
     go_enter Tryz.func72, Tryz.ntmps72
     go_wp2_with (first | (go_at_call 98; refine (HK.out _).mono ?_; rintro e w' ⟨rfl, rfl⟩) | (go_at_call 34; refine (HN.out _).mono ?_; rintro e w' ⟨rfl, rfl⟩))
     go_ret
     exact ⟨ret_bool (dec_false' HB.out (fun e => HM.out e.1)), ((Below.refl _ _).alloc (Nat.le_refl _) _).alloc (by simp) _⟩
    | true =>
     have hm : (0 ≤ n ∧ n < 268435456) := by have := of_decide_eq_true HX.out; omega
     have HM := Lib.hid hm
     clear hm HX
     go_enter Tryz.func72, Tryz.ntmps72
     go_wp2_with (first | (go_at_call 98; refine (HK.out _).mono ?_; rintro e w' ⟨rfl, rfl⟩) | (go_at_call 34; refine (HN.out _).mono ?_; rintro e w' ⟨rfl, rfl⟩))
     all_goals
      go_ret
      refine ⟨ret_bool ?_, ((Below.refl _ _).alloc (Nat.le_refl _) _).alloc (by simp) _⟩
      have h3 := HM.out
      rw [← HB.out, Bool.eq_iff_iff]
      simp_all [List.isEmpty_iff, empty_iff]
  ·cases hk
  ·cases hk
  ·cases hk
 ·have HB : Hid (decide ((0 ≤ n ∧ n < 268435456) ∧ s = ⟨#[]⟩ ∧ v = ⟨#[]⟩) = b) := (fits_val (p := ⟨id, n, s, v⟩) hk (by decide) (fun e => by have : noZ id := e.1; unfold noZ at this; omega)).symm.trans hb
  replace h1 := ne_false h1
  replace h2 := ne_false h2
  replace h3 := ne_false h3
  replace h4 := ne_false h4
  clear hk hb hx
  cases x with
  | false =>
   have hm : ¬ (0 ≤ n ∧ n < 268435456) := by have := of_decide_eq_false HX.out; omega
   have HM := Lib.hid hm
   clear hm HX
   go_enter Tryz.func72, Tryz.ntmps72
   go_wp2_with (first | (go_at_call 98; refine (HK.out _).mono ?_; rintro e w' ⟨rfl, rfl⟩) | (go_at_call 34; refine (HN.out _).mono ?_; rintro e w' ⟨rfl, rfl⟩))
   go_ret
   exact ⟨ret_bool (dec_false' HB.out (fun e => HM.out e.1)), ((Below.refl _ _).alloc (Nat.le_refl _) _).alloc (by simp) _⟩
  | true =>
   have hm : (0 ≤ n ∧ n < 268435456) := by have := of_decide_eq_true HX.out; omega
   have HM := Lib.hid hm
   clear hm HX
   go_enter Tryz.func72, Tryz.ntmps72
   go_wp2_with (first | (go_at_call 98; refine (HK.out _).mono ?_; rintro e w' ⟨rfl, rfl⟩) | (go_at_call 34; refine (HN.out _).mono ?_; rintro e w' ⟨rfl, rfl⟩))
   all_goals
    go_ret
    refine ⟨ret_bool ?_, ((Below.refl _ _).alloc (Nat.le_refl _) _).alloc (by simp) _⟩
    have h3 := HM.out
    rw [← HB.out, Bool.eq_iff_iff]
    simp_all [List.isEmpty_iff, empty_iff]
open Go.RowKit Go.Lib Prp Vbi
theorem fits_6 (id n : Int) (s v : ByteArray) (b : Bool) (w : World) (hk : kindZ id = 6) (hb : decide (n = 0 ∧ binB s = true ∧ v = ⟨#[]⟩) = b) (hs : s.size ≤ 9223372036854775807) :
  Calls Tryz.prog 72 #[.agg #[.int .i64 id, .int .i64 n, .string s, .string v]] w fun e w' => e = .returned (.bool b) ∧ Below w.heap.size w w' := by
 have HK := Lib.hid (fun W => RKind_is id 6 W hk)
 unfold binB at hb
 have HB := Lib.hid hb
 clear hk hb
 by_cases hn : n = 0
 ·subst hn
  go_enter Tryz.func72, Tryz.ntmps72
  go_wp2_with (go_at_call 98; refine (HK.out _).mono ?_; rintro e w' ⟨rfl, rfl⟩)
  ·next hv => go_ret; exact ⟨ret_bool (eq_dec' HB.out (by rw [empty_iff] at hv; simp [hv]; omega)), (Below.refl _ _).alloc (Nat.le_refl _) _⟩
  ·next hv => go_ret; exact ⟨ret_bool (dec_false' HB.out (by rw [empty_iff] at hv; simp [hv])), (Below.refl _ _).alloc (Nat.le_refl _) _⟩
 ·have bn := ne_false hn
  go_enter Tryz.func72, Tryz.ntmps72
  go_wp2_with (go_at_call 98; refine (HK.out _).mono ?_; rintro e w' ⟨rfl, rfl⟩)
  go_ret
  exact ⟨ret_bool (dec_false' HB.out (by simp [hn])), (Below.refl _ _).alloc (Nat.le_refl _) _⟩
theorem fits_5 (id n : Int) (s v : ByteArray) (b : Bool) (w : World) (hk : kindZ id = 5) (hb : decide (n = 0 ∧ textB s = true ∧ v = ⟨#[]⟩) = b) :
  Calls Tryz.prog 72 #[.agg #[.int .i64 id, .int .i64 n, .string s, .string v]] w fun e w' => e = .returned (.bool b) ∧ Below w.heap.size w w' := by
 have HK := Lib.hid (fun W => RKind_is id 5 W hk)
 by_cases hn : n = 0
 ·subst hn
  cases hx : textB s with
  | true =>
   rw [hx] at hb
   have HB := Lib.hid hb
   have HT := Lib.hid (fun W => RText_yes s W hx)
   clear hk hb hx
   go_enter Tryz.func72, Tryz.ntmps72
   go_wp2_with (first | (go_at_call 98; refine (HK.out _).mono ?_; rintro e w' ⟨rfl, rfl⟩) | (go_at_call 75; refine (HT.out _).mono ?_; rintro e w' ⟨rfl, rfl⟩))
   ·next hv => go_ret; exact ⟨ret_bool (dec_true' HB.out (by rw [empty_iff] at hv; simp [hv])), (Below.refl _ _).alloc (Nat.le_refl _) _⟩
   ·next hv => go_ret; exact ⟨ret_bool (dec_false' HB.out (by rw [empty_iff] at hv; simp [hv])), (Below.refl _ _).alloc (Nat.le_refl _) _⟩
  | false =>
   rw [hx] at hb
   have HB := Lib.hid hb
   have HT := Lib.hid (fun W => RText_no s W hx)
   clear hk hb hx
   go_enter Tryz.func72, Tryz.ntmps72
   go_wp2_with (first | (go_at_call 98; refine (HK.out _).mono ?_; rintro e w' ⟨rfl, rfl⟩) | (go_at_call 75; refine (HT.out _).mono ?_; rintro e w' ⟨E, rfl, hE, rfl⟩; replace hE := ne_false hE))
   all_goals (go_ret; exact ⟨ret_bool (dec_false' HB.out (by simp)), (Below.refl _ _).alloc (Nat.le_refl _) _⟩)
 ·have HB := Lib.hid hb
  have bn := ne_false hn
  clear hk hb
  go_enter Tryz.func72, Tryz.ntmps72
  go_wp2_with (go_at_call 98; refine (HK.out _).mono ?_; rintro e w' ⟨rfl, rfl⟩)
  go_ret
  exact ⟨ret_bool (dec_false' HB.out (by simp [hn])), (Below.refl _ _).alloc (Nat.le_refl _) _⟩
theorem fits_7 (id n : Int) (s v : ByteArray) (b : Bool) (w : World) (hk : kindZ id = 7) (hb : decide (n = 0 ∧ textB s = true ∧ textB v = true) = b) :
  Calls Tryz.prog 72 #[.agg #[.int .i64 id, .int .i64 n, .string s, .string v]] w fun e w' => e = .returned (.bool b) ∧ Below w.heap.size w w' := by
 have HK := Lib.hid (fun W => RKind_is id 7 W hk)
 by_cases hn : n = 0
 ·subst hn
  cases hx : textB s with
  | true =>
   rw [hx] at hb
   have HT := Lib.hid (fun W => RText_yes s W hx)
   cases hy : textB v with
   | true =>
    rw [hy] at hb
    have HB := Lib.hid hb
    have HV := Lib.hid (fun W => RText_yes v W hy)
    clear hk hb hx hy
    go_enter Tryz.func72, Tryz.ntmps72
    go_wp2_with (go_at_call 98; refine (HK.out _).mono ?_; rintro e w' ⟨rfl, rfl⟩)
    refine (HT.out _).mono ?_
    rintro e w' ⟨rfl, rfl⟩
    go_wp2_with fail
    refine (HV.out _).mono ?_
    rintro e w' ⟨rfl, rfl⟩
    go_wp2_with fail
    go_ret
    exact ⟨ret_bool (dec_true' HB.out (by simp)), (Below.refl _ _).alloc (Nat.le_refl _) _⟩
   | false =>
    rw [hy] at hb
    have HB := Lib.hid hb
    have HV := Lib.hid (fun W => RText_no v W hy)
    clear hk hb hx hy
    go_enter Tryz.func72, Tryz.ntmps72
    go_wp2_with (go_at_call 98; refine (HK.out _).mono ?_; rintro e w' ⟨rfl, rfl⟩)
    refine (HT.out _).mono ?_
    rintro e w' ⟨rfl, rfl⟩
    go_wp2_with fail
    refine (HV.out _).mono ?_
    rintro e w' ⟨E, rfl, hE, rfl⟩
    replace hE := ne_false hE
    go_wp2_with fail
    go_ret
    exact ⟨ret_bool (dec_false' HB.out (by simp)), (Below.refl _ _).alloc (Nat.le_refl _) _⟩
  | false =>
   rw [hx] at hb
   have HB := Lib.hid hb
   have HT := Lib.hid (fun W => RText_no s W hx)
   clear hk hb hx
   go_enter Tryz.func72, Tryz.ntmps72
   go_wp2_with (go_at_call 98; refine (HK.out _).mono ?_; rintro e w' ⟨rfl, rfl⟩)
   refine (HT.out _).mono ?_
   rintro e w' ⟨E, rfl, hE, rfl⟩
   replace hE := ne_false hE
   go_wp2_with fail
   go_ret
   exact ⟨ret_bool (dec_false' HB.out (by simp)), (Below.refl _ _).alloc (Nat.le_refl _) _⟩
 ·have HB := Lib.hid hb
  have bn := ne_false hn
  clear hk hb
  go_enter Tryz.func72, Tryz.ntmps72
  go_wp2_with (go_at_call 98; refine (HK.out _).mono ?_; rintro e w' ⟨rfl, rfl⟩)
  go_ret
  exact ⟨ret_bool (dec_false' HB.out (by simp [hn])), (Below.refl _ _).alloc (Nat.le_refl _) _⟩
theorem not_noZ {id : Int} (h : kindZ id ≠ 2 ∧ kindZ id ≠ 3 ∧ kindZ id ≠ 4) : ¬ noZ id := by
 unfold noZ
 rintro (rfl | rfl | rfl | rfl)
 ·exact h.2.2 rfl
 ·exact h.1 rfl
 ·exact h.1 rfl
 ·exact h.2.1 rfl
theorem fits_is (id n : Int) (s v : ByteArray) (b : Bool) (w : World) (hs : s.size ≤ 9223372036854775807) (hb : fitsB ⟨id, n, s, v⟩ = b) :
  Calls Tryz.prog 72 #[.agg #[.int .i64 id, .int .i64 n, .string s, .string v]] w fun e w' => e = .returned (.bool b) ∧ Below w.heap.size w w' := by
 have hr := kind_range id
 by_cases h0 : kindZ id = 0
 ·exact fits_0 id n s v b w h0 ((fits_none (p := ⟨id, n, s, v⟩) h0).symm.trans hb)
 rcases kind_seven hr.1 hr.2 h0 with h | h | h | h | h | h | h
 ·exact fits_1 id n s v b w h hb
 ·exact fits_2 id n s v b w h hb
 ·exact fits_3 id n s v b w h hb
 ·exact fits_4 id n s v b w h hb
 ·exact fits_5 id n s v b w h ((fits_val (p := ⟨id, n, s, v⟩) h (by decide) (fun e => not_noZ (by rw [h]; decide) e.1)).symm.trans hb)
 ·exact fits_6 id n s v b w h ((fits_val (p := ⟨id, n, s, v⟩) h (by decide) (fun e => not_noZ (by rw [h]; decide) e.1)).symm.trans hb) hs
 ·exact fits_7 id n s v b w h ((fits_val (p := ⟨id, n, s, v⟩) h (by decide) (fun e => not_noZ (by rw [h]; decide) e.1)).symm.trans hb)
open Go.RowKit Go.Lib Prp
@[irreducible] def RSt (w : World) (A : Option Addr) (l : List P) (W : World) : Prop := PropsAt W w.heap.size A l ∧ Below w.heap.size w W
section
variable {w W W' : World} {A : Option Addr} {l : List P}
theorem RSt.mk (h1 : PropsAt W w.heap.size A l) (h2 : Below w.heap.size w W) : RSt w A l W := by unfold RSt; exact ⟨h1, h2⟩
theorem RSt.out (h : RSt w A l W) : PropsAt W w.heap.size A l ∧ Below w.heap.size w W := by unfold RSt at h; exact h
theorem RSt.below (h : RSt w A l W) (hb : Below W.heap.size W W') : RSt w A l W' := .mk (h.out.1.below (hb.mono h.out.2.size)) (h.out.2.trans (hb.mono h.out.2.size))
theorem RSt.drewN (h : RSt w A l W) (n : Nat) : RSt w A l (W.drewN n) := h.below (below_drewN (Below.refl _ _) n)
theorem RSt.cells {b o : Nat} (h : RSt w (some ⟨b, o, none⟩) l W) (k : Nat) (hk : k < l.length) : PAt W b (o + k * 4) l[k] := by
 obtain ⟨b', o', e, _, hc⟩ := h.out.1.some_ (by omega)
 injection e with e
 injection e with e1 e2
 subst e1 e2
 exact hc k hk
end
theorem twice_take (place id : Int) (l : List P) (k : Nat) (A : Option Addr) (c B : Nat) (b : Bool) (w : World) (hk : k ≤ l.length) (hm : l.length ≤ 9223372036854775807) (h : PropsAt w B A l) (hb : twiceB place id (l.take k) = b) :
  Calls Tryz.prog 74 #[.int .i64 place, .int .i64 id, .slice A k c] w fun e w' => e = .returned (.bool b) ∧ w = w' := by
 have := twice_is place id (l.take k) A c B b w (by rw [List.length_take]; omega) (h.take k) hb
 rwa [List.length_take, Nat.min_eq_left hk] at this
theorem RProps_is (place : Int) (l : List P) (A : Option Addr) (c : Nat) (z : Bool) (w : World) (hm : l.length ≤ 9223372036854775807) (hcap : l.length ≤ c) (hfit : ∀ p ∈ l, Fit p) (h : PropsAt w w.heap.size A l) (hz : propsB place l = z) :
  Calls Tryz.prog 35 #[.int .i64 place, .slice A l.length c] w fun e w' => e = .returned (.bool z) ∧ Below w.heap.size w w' := by
 have H := Lib.hid h
 have HF := Lib.hid hfit
 clear h hfit
 obtain ⟨x, hx⟩ : ∃ x, placeB place = x := ⟨_, rfl⟩
 have HP := Lib.hid (fun W => Place_is place x W hx)
 cases x with
 | false =>
  obtain rfl : false = z := (props_place (l := l) hx).symm.trans hz
  clear hx hz
  go_enter Tryz.func35, Tryz.ntmps35
  go_wp2_with (go_at_call 71; refine (HP.out _).mono ?_; rintro e w' ⟨rfl, rfl⟩)
  go_ret
  exact ⟨rfl, Below.refl _ _⟩
 | true =>
 by_cases h8 : 8 < l.length
 ·obtain rfl : false = z := (props_many (place := place) h8).symm.trans hz
  clear hx hz
  go_enter Tryz.func35, Tryz.ntmps35
  go_wp2_with (go_at_call 71; refine (HP.out _).mono ?_; rintro e w' ⟨rfl, rfl⟩)
  go_ret
  exact ⟨rfl, Below.refl _ _⟩
 have hd8 : decide (8 < (l.length : Int)) = false := by simp; omega
 have hl8 : l.length ≤ 8 := by omega
 have HG := Lib.hid ((props_few hx hl8).symm.trans hz)
 clear hx hz
 go_enter Tryz.func35, Tryz.ntmps35
 go_wp2_with (go_at_call 71; refine (HP.out _).mono ?_; rintro e w' ⟨rfl, rfl⟩)
 go_loopw [5] (fun i wr => ∃ k : Nat, k ≤ l.length ∧ i = .int .i64 (k : Int) ∧ RSt w A l wr ∧ z = goodL place (l.take k) (l.drop k)) (fun i _ => l.length - (RowKit.intOf i).toNat)
 case atStart => exact ⟨0, Nat.zero_le _, rfl, .mk H.out (Below.refl _ _), HG.out.symm⟩
 case round =>
  obtain ⟨k, hk, rfl, hst, hgood⟩ := hrel
  have HT := Lib.hid hst
  have HGD := Lib.hid hgood
  clear hst hgood
  by_cases hlt : k < l.length
  ·have HGS := Lib.hid (HGD.out.trans (good_step hlt))
   have hfp : Fit l[k] := HF.out _ (List.getElem_mem hlt)
   obtain ⟨b0, o, rfl, hb0, hc⟩ := HT.out.out.1.some_ (by omega)
   clear hc
   obtain ⟨d0, d1, d2, d3⟩ := HT.out.cells k hlt
   have HCL := Lib.hid (fun (W : World) (h : RSt w (some ⟨b0, o, none⟩) l W) => h.cells k hlt)
   obtain ⟨q, hq⟩ : ∃ q, l[k] = q := ⟨_, rfl⟩
   rw [hq] at d0 d1 d2 d3 hfp HCL HGS
   clear hq
   obtain ⟨id, n, s, v⟩ := q
   have hn1 := hfp.n1
   have hs1 := hfp.hs
   have hkI : (k : Int) < (l.length : Int) := by omega
   have hk0 : (0 : Int) ≤ (k : Int) := by omega
   have hkc : (k : Int) ≤ (c : Int) := by omega
   obtain ⟨f, hf⟩ : ∃ f, fitsB ⟨id, n, s, v⟩ = f := ⟨_, rfl⟩
   have HFI := Lib.hid (fun W => fits_is id n s v f W (by have : s.size ≤ 140737488351232 := hs1; omega) hf)
   obtain ⟨g, hg⟩ : ∃ g, standB place id = g := ⟨_, rfl⟩
   have HSI := Lib.hid (fun W => stands_is place id g W hg)
   obtain ⟨t, ht⟩ : ∃ t, twiceB place id (l.take k) = t := ⟨_, rfl⟩
   have HTI := Lib.hid (fun (W : World) (h : RSt w (some ⟨b0, o, none⟩) l W) => twice_take place id l k (some ⟨b0, o, none⟩) c w.heap.size t W hk hm h.out.1 ht)
   have HGO : Hid (goodB place (l.take k) ⟨id, n, s, v⟩ = (g && (f && !t))) := by show _ = _; unfold goodB; rw [hf, ht]; show (standB place id && _) = _; rw [hg]
   clear hf hg ht
   have st0 := HT.out
   clear HT
   go_wp2_with fail
   haveI : Nonempty (In (RSt w (some ⟨b0, o, none⟩) l)) := ⟨⟨_, st0⟩⟩
   have k0 : ∀ u : In (RSt w (some ⟨b0, o, none⟩) l), u.w.cell? ⟨b0, o + k * 4, none⟩ = some (.int .i64 id) := fun u => (HCL.out _ u.h).c0
   have k1 : ∀ u : In (RSt w (some ⟨b0, o, none⟩) l), u.w.cell? ⟨b0, o + k * 4 + 1, none⟩ = some (.int .i64 n) := fun u => (HCL.out _ u.h).c1
   have k2 : ∀ u : In (RSt w (some ⟨b0, o, none⟩) l), u.w.cell? ⟨b0, o + k * 4 + 2, none⟩ = some (.string s) := fun u => (HCL.out _ u.h).c2
   have k3 : ∀ u : In (RSt w (some ⟨b0, o, none⟩) l), u.w.cell? ⟨b0, o + k * 4 + 3, none⟩ = some (.string v) := fun u => (HCL.out _ u.h).c3
   cases f with
   | true =>
    cases g with
    | true =>
     refine region_in (S := RSt w (some ⟨b0, o, none⟩) l) (by kernel_rfl) (by kernel_rfl) (st0.drewN 1) ?_
     repeat (go_big_quiet_step (first | (go_at_call 72; exact in_call ((HFI.out _).mono fun _ _ h => ⟨h.1, RSt.below (In.h _) h.2⟩)) | (go_at_call 73; exact in_call ((HSI.out _).mono fun _ _ h => ⟨h.1, RSt.below (In.h _) h.2⟩)) | (go_at_call 74; exact in_call ((HTI.out _ (In.h _)).mono fun _ _ h => ⟨h.1, by rw [← h.2]; exact In.h _⟩))))
     refine wpQuiet_nil ?_
     rintro _ ⟨⟨w2, st2⟩, rfl⟩
     clear st0
     have HT2 := Lib.hid st2
     clear st2 k0 k1 k2 k3 HCL HFI HSI HTI d0 d1 d2 d3
     cases t with
     | true =>
      obtain rfl : z = false := HGS.out.trans (by rw [HGO.out]; rfl)
      go_wp2_with fail
      go_ret
      exact ⟨rfl, HT2.out.out.2⟩
     | false =>
      have HN : Hid (z = goodL place (l.take (k + 1)) (l.drop (k + 1))) := HGS.out.trans (by rw [HGO.out]; simp)
      go_wp2_with fail
      go_roundw
      case rel => exact ⟨k + 1, hlt, by go_num, HT2.out, HN.out⟩
      case measure => simp [RowKit.intOf]; omega
    | false =>
     obtain rfl : z = false := HGS.out.trans (by rw [HGO.out]; rfl)
     refine region_in (S := RSt w (some ⟨b0, o, none⟩) l) (by kernel_rfl) (by kernel_rfl) (st0.drewN 1) ?_
     repeat (go_big_quiet_step (first | (go_at_call 72; exact in_call ((HFI.out _).mono fun _ _ h => ⟨h.1, RSt.below (In.h _) h.2⟩)) | (go_at_call 73; exact in_call ((HSI.out _).mono fun _ _ h => ⟨h.1, RSt.below (In.h _) h.2⟩)) | (go_at_call 74; exact in_call ((HTI.out _ (In.h _)).mono fun _ _ h => ⟨h.1, by rw [← h.2]; exact In.h _⟩))))
     refine wpQuiet_nil ?_
     rintro _ ⟨⟨w2, st2⟩, rfl⟩
     clear st0
     have HT2 := Lib.hid st2
     clear st2 k0 k1 k2 k3 HCL HFI HSI HTI d0 d1 d2 d3
     go_wp2_with fail
     go_ret
     exact ⟨rfl, HT2.out.out.2⟩
   | false =>
    obtain rfl : z = false := HGS.out.trans (by rw [HGO.out]; cases g <;> rfl)
    refine region_in (S := RSt w (some ⟨b0, o, none⟩) l) (by kernel_rfl) (by kernel_rfl) (st0.drewN 1) ?_
    repeat (go_big_quiet_step (first | (go_at_call 72; exact in_call ((HFI.out _).mono fun _ _ h => ⟨h.1, RSt.below (In.h _) h.2⟩)) | (go_at_call 73; exact in_call ((HSI.out _).mono fun _ _ h => ⟨h.1, RSt.below (In.h _) h.2⟩)) | (go_at_call 74; exact in_call ((HTI.out _ (In.h _)).mono fun _ _ h => ⟨h.1, by rw [← h.2]; exact In.h _⟩))))
    refine wpQuiet_nil ?_
    rintro _ ⟨⟨w2, st2⟩, rfl⟩
    clear st0
    have HT2 := Lib.hid st2
    clear st2 k0 k1 k2 k3 HCL HFI HSI HTI d0 d1 d2 d3
    go_wp2_with fail
    go_ret
    exact ⟨rfl, HT2.out.out.2⟩
  ·obtain rfl : k = l.length := by omega
   have hgo : z = true := by have := HGD.out; rw [List.drop_length] at this; exact this
   subst hgo
   go_wp2_with fail
   go_ret
   exact ⟨rfl, HT.out.out.2⟩
open Go.RowKit Go.Lib Prp Vbi
theorem app_assoc (a b c : ByteArray) : (a ++ b) ++ c = a ++ (b ++ c) := by
 apply ByteArray.ext
 simp only [ByteArray.data_append]
 exact Array.append_assoc
@[irreducible] def RStP (w : World) (A : Option Addr) (l : List P) (g : Nat) (cs : Array Value) (W : World) : Prop := RSt w A l W ∧ Box W g cs
section
variable {w W W' : World} {A : Option Addr} {l : List P} {g : Nat} {cs : Array Value}
theorem RStP.mk (h1 : RSt w A l W) (h2 : Box W g cs) : RStP w A l g cs W := by unfold RStP; exact ⟨h1, h2⟩
theorem RStP.out (h : RStP w A l g cs W) : RSt w A l W ∧ Box W g cs := by unfold RStP at h; exact h
theorem RStP.below (h : RStP w A l g cs W) (hb : Below W.heap.size W W') : RStP w A l g cs W' := .mk (h.out.1.below hb) (h.out.2.below hb)
theorem RStP.drewN (h : RStP w A l g cs W) (n : Nat) : RStP w A l g cs (W.drewN n) := h.below (below_drewN (Below.refl _ _) n)
theorem RSt.alloc (h : RSt w A l W) (o : Obj) : RSt w A l (W.alloc o) := h.below ((Below.refl _ _).alloc (Nat.le_refl _) o)
theorem RStP.alloc (h : RStP w A l g cs W) (o : Obj) : RStP w A l g cs (W.alloc o) := h.below ((Below.refl _ _).alloc (Nat.le_refl _) o)
theorem RStP.new (h : RSt w A l W) (T : TypeId) : RStP w A l W.heap.size cs (W.alloc (.cells cs T)) := .mk (h.alloc _) (.new W T cs)
end
theorem RStP.four {w W : World} {A : Option Addr} {l : List P} {g : Nat} {x y : Int} {s v : ByteArray} (h : RStP w A l g #[.int .i64 x, .int .i64 y, .string s, .string v] W) :
  W.cell? ⟨g, 0, none⟩ = some (.int .i64 x) ∧ W.cell? ⟨g, 1, none⟩ = some (.int .i64 y) ∧ W.cell? ⟨g, 2, none⟩ = some (.string s) ∧ W.cell? ⟨g, 3, none⟩ = some (.string v) :=
 ⟨h.out.2.cell 0, h.out.2.cell 1, h.out.2.cell 2, h.out.2.cell 3⟩
theorem conv_byte2 (z : Int) (w : World) (o : Obj) : (convert 68 9 (.slice (some ⟨w.heap.size + 1, 0, none⟩) 1 1)).run Tryz.prog ((w.alloc o).alloc (.cells #[.int .u8 z] 5)) = .ok (.string (strOfNums [z])) ((w.alloc o).alloc (.cells #[.int .u8 z] 5)) := by
 have := conv_byte z (w.alloc o)
 rwa [show (w.alloc o).heap.size = w.heap.size + 1 by simp] at this
theorem RNum_z (x : Int) (S : ByteArray) (w : World) (h0 : 0 ≤ x) (h1 : x < 268435456) (hS : strOfNums (numZ x.toNat) = S) :
  Calls Tryz.prog 42 #[.int .i64 x] w fun e w' => e = .returned (.string S) ∧ Below w.heap.size w w' := by
 subst hS
 obtain ⟨m, rfl⟩ := Int.eq_ofNat_of_zero_le h0
 exact RNum_ok m w (by omega)
theorem RFixed_z2 (x : Int) (S : ByteArray) (w : World) (h0 : 0 ≤ x) (h1 : x < 65536) (hS : strOfNums (fixZ 2 x.toNat) = S) :
  Calls Tryz.prog 78 #[.int .i64 x, .int .i64 2] w fun e w' => e = .returned (.string S) ∧ Below w.heap.size w w' := by
 subst hS
 obtain ⟨m, rfl⟩ := Int.eq_ofNat_of_zero_le h0
 exact RFixed_ok m 2 w (by omega) (by omega)
theorem RFixed_z4 (x : Int) (S : ByteArray) (w : World) (h0 : 0 ≤ x) (h1 : x < 4294967296) (hS : strOfNums (fixZ 4 x.toNat) = S) :
  Calls Tryz.prog 78 #[.int .i64 x, .int .i64 4] w fun e w' => e = .returned (.string S) ∧ Below w.heap.size w w' := by
 subst hS
 obtain ⟨m, rfl⟩ := Int.eq_ofNat_of_zero_le h0
 exact RFixed_ok m 4 w (by omega) (by omega)
theorem RFixed_n2 (n : Nat) (S : ByteArray) (w : World) (h1 : n < 65536) (hS : strOfNums (fixZ 2 n) = S) :
  Calls Tryz.prog 78 #[.int .i64 (n : Int), .int .i64 2] w fun e w' => e = .returned (.string S) ∧ Below w.heap.size w w' := by
 subst hS
 exact RFixed_ok n 2 w (by omega) (by omega)
theorem val_1 {p : P} (h : valB 1 p = true) : p.n = 0 ∨ p.n = 1 := (of_decide_eq_true h).1
theorem val_2 {p : P} (h : valB 2 p = true) : 0 ≤ p.n ∧ p.n < 65536 := (of_decide_eq_true h).1
theorem val_3 {p : P} (h : valB 3 p = true) : 0 ≤ p.n ∧ p.n < 4294967296 := (of_decide_eq_true h).1
theorem val_4 {p : P} (h : valB 4 p = true) : 0 ≤ p.n ∧ p.n < 268435456 := (of_decide_eq_true h).1
theorem val_5 {p : P} (h : valB 5 p = true) : p.s.size ≤ 1024 := text_size (of_decide_eq_true h).2.1
theorem val_6 {p : P} (h : valB 6 p = true) : p.s.size ≤ 1024 := by
 have := (of_decide_eq_true h).2.1
 unfold binB at this
 exact of_decide_eq_true this
theorem val_7 {p : P} (h : valB 7 p = true) : p.s.size ≤ 1024 ∧ p.v.size ≤ 1024 := ⟨text_size (of_decide_eq_true h).2.1, text_size (of_decide_eq_true h).2.2⟩
theorem RPropBytes_is (l : List P) (A : Option Addr) (c : Nat) (S : ByteArray) (w : World) (hm : l.length ≤ 8) (hok : ∀ p ∈ l, kindZ p.id ≠ 0 ∧ valB (kindZ p.id) p = true) (h : PropsAt w w.heap.size A l) (hS : propStr l = S) :
  Calls Tryz.prog 79 #[.slice A l.length c] w fun e w' => e = .returned (.string S) ∧ Below w.heap.size w w' := by
 have H := Lib.hid h
 have HF := Lib.hid hok
 have HS := Lib.hid hS
 clear h hok hS
 have hcv := conv_byte
 have hcv2 := conv_byte2
 go_enter Tryz.func79, Tryz.ntmps79
 go_wp2_with fail
 go_loopw [3, 4] (fun sv i wr => ∃ k : Nat, k ≤ l.length ∧ i = .int .i64 (k : Int) ∧ sv = .string (restStr (l.take k)) ∧ RSt w A l wr ∧ (restStr (l.take k)).size ≤ 2053 * k) (fun _ i _ => l.length - (RowKit.intOf i).toNat)
 case atStart => exact ⟨0, Nat.zero_le _, rfl, rfl, .mk H.out (Below.refl _ _), by rw [List.take_zero]; decide⟩
 case round =>
  obtain ⟨k, hk, rfl, rfl, hst, hsz⟩ := hrel
  have HT := Lib.hid hst
  have HZ := Lib.hid hsz
  have hsz2 : (restStr (l.take k)).size ≤ 16424 := by omega
  clear hst hsz
  by_cases hlt : k < l.length
  ·have HR := Lib.hid (rest_step hlt)
   obtain ⟨hkind, hval⟩ := HF.out _ (List.getElem_mem hlt)
   obtain ⟨b0, o, rfl, hb0, hc⟩ := HT.out.out.1.some_ (by omega)
   clear hc
   obtain ⟨d0, d1, d2, d3⟩ := HT.out.cells k hlt
   obtain ⟨q, hq⟩ : ∃ q, l[k] = q := ⟨_, rfl⟩
   rw [hq] at d0 d1 d2 d3 hkind hval HR
   clear hq
   obtain ⟨id, n, s, v⟩ := q
   replace hkind : kindZ id ≠ 0 := hkind
   obtain ⟨hi1, hi42⟩ := kind_id hkind
   have hone : (oneStr ⟨id, n, s, v⟩).size ≤ 2053 := one_size id n s v hkind hval
   have hr := kind_range id
   obtain ⟨T, hT⟩ : ∃ T, restStr (l.take k) = T := ⟨_, rfl⟩
   rw [hT] at hsz2 HR HZ ⊢
   clear hT
   have HBP := Lib.hid (RStP.new (cs := #[.int .i64 id, .int .i64 n, .string s, .string v]) HT.out 99)
   have hkI : (k : Int) < (l.length : Int) := by omega
   have hz1 : (strOfNums [id]).size ≤ 1 := by rw [strOfNums_size]; simp
   obtain ⟨I, hI⟩ : ∃ I, strOfNums [id] = I := ⟨_, rfl⟩
   have HI := Lib.hid hI
   obtain ⟨K, hK⟩ : ∃ K, kindZ id = K := ⟨_, rfl⟩
   have HK := Lib.hid (fun W => RKind_is id K W hK)
   have hval2 : valB K ⟨id, n, s, v⟩ = true := by rw [← hK]; exact hval
   have HRR : Hid (restStr (l.take (k + 1)) = (T ++ I) ++ valStr K ⟨id, n, s, v⟩) := by show _ = _; rw [HR.out, app_assoc]; unfold oneStr; show T ++ (strOfNums [id] ++ valStr (kindZ id) _) = _; rw [hI, hK]
   have HZZ : Hid ((restStr (l.take (k + 1))).size ≤ 2053 * (k + 1)) := by show _ ≤ _; rw [HR.out, ByteArray.size_append]; have := HZ.out; omega
   have hK0 : K ≠ 0 := by rw [← hK]; exact hkind
   rw [hK] at hr
   clear hK hkind hval HR HZ hone
   have hIz : I.size ≤ 1 := by rw [← hI]; exact hz1
   go_wp2_with fail
   have HB2 := Lib.hid (HBP.out.alloc (.cells #[.int .u8 id] 5))
   clear HBP
   obtain ⟨g, hg⟩ : ∃ g, wr.heap.size = g := ⟨_, rfl⟩
   rw [hg] at HB2 ⊢
   clear hg hI
   generalize (wr.alloc (.cells #[.int .i64 id, .int .i64 n, .string s, .string v] 99)).alloc (.cells #[.int .u8 id] 5) = wa at HB2 ⊢
   obtain ⟨e0, e1, e2, e3⟩ := HB2.out.four
   refine (HK.out _).mono ?_
   rintro e w' ⟨rfl, rfl⟩
   rcases kind_seven hr.1 hr.2 hK0 with rfl | rfl | rfl | rfl | rfl | rfl | rfl
   ·have hn := val_1 hval2
    have hn : n = 0 ∨ n = 1 := hn
    obtain ⟨U, hU⟩ : ∃ U, strOfNums [n] = U := ⟨_, rfl⟩
    have hUz : U.size ≤ 1 := by rw [← hU, strOfNums_size]; simp
    have HRU : Hid (restStr (l.take (k + 1)) = (T ++ I) ++ U) := by rw [← hU]; exact HRR.out
    rcases hn with rfl | rfl
    all_goals
     go_wp2_with fail
     go_roundw
     case rel => exact ⟨k + 1, hlt, by go_num, by rw [HRU.out], (HB2.out.alloc _).out.1, HZZ.out⟩
     case measure => simp [RowKit.intOf]; omega
   ·obtain ⟨hn0, hn1⟩ := val_2 hval2
    obtain ⟨U, hU⟩ : ∃ U, strOfNums (fixZ 2 n.toNat) = U := ⟨_, rfl⟩
    have hUz : U.size ≤ 4 := by rw [← hU, strOfNums_size, fixZ_len]; omega
    have HC := Lib.hid (fun W => RFixed_z2 n U W hn0 hn1 hU)
    have HRU : Hid (restStr (l.take (k + 1)) = (T ++ I) ++ U) := by rw [← hU]; exact HRR.out
    clear hU
    go_wp2_with fail
    refine (HC.out _).mono ?_
    rintro e w2 ⟨rfl, hb2⟩
    have HB3 := Lib.hid (HB2.out.below hb2)
    clear hb2 HB2 HC e0 e1 e2 e3
    go_wp2_with fail
    go_roundw
    case rel => exact ⟨k + 1, hlt, by go_num, by rw [HRU.out], HB3.out.out.1, HZZ.out⟩
    case measure => simp [RowKit.intOf]; omega
   ·obtain ⟨hn0, hn1⟩ := val_3 hval2
    obtain ⟨U, hU⟩ : ∃ U, strOfNums (fixZ 4 n.toNat) = U := ⟨_, rfl⟩
    have hUz : U.size ≤ 4 := by rw [← hU, strOfNums_size, fixZ_len]; omega
    have HC := Lib.hid (fun W => RFixed_z4 n U W hn0 hn1 hU)
    have HRU : Hid (restStr (l.take (k + 1)) = (T ++ I) ++ U) := by rw [← hU]; exact HRR.out
    clear hU
    go_wp2_with fail
    refine (HC.out _).mono ?_
    rintro e w2 ⟨rfl, hb2⟩
    have HB3 := Lib.hid (HB2.out.below hb2)
    clear hb2 HB2 HC e0 e1 e2 e3
    go_wp2_with fail
    go_roundw
    case rel => exact ⟨k + 1, hlt, by go_num, by rw [HRU.out], HB3.out.out.1, HZZ.out⟩
    case measure => simp [RowKit.intOf]; omega
   ·obtain ⟨hn0, hn1⟩ := val_4 hval2
    have hn0 : 0 ≤ n := hn0
    have hn1 : n < 268435456 := hn1
    obtain ⟨U, hU⟩ : ∃ U, strOfNums (numZ n.toNat) = U := ⟨_, rfl⟩
    have hUz : U.size ≤ 4 := by rw [← hU, strOfNums_size, numZ_len (by omega)]; exact (numLen_le _).2
    have HC := Lib.hid (fun W => RNum_z n U W hn0 hn1 hU)
    have HRU : Hid (restStr (l.take (k + 1)) = (T ++ I) ++ U) := by rw [← hU]; exact HRR.out
    clear hU
    go_wp2_with fail
    refine (HC.out _).mono ?_
    rintro e w2 ⟨rfl, hb2⟩
    have HB3 := Lib.hid (HB2.out.below hb2)
    clear hb2 HB2 HC e0 e1 e2 e3
    go_wp2_with fail
    go_roundw
    case rel => exact ⟨k + 1, hlt, by go_num, by rw [HRU.out], HB3.out.out.1, HZZ.out⟩
    case measure => simp [RowKit.intOf]; omega
   ·have hs1 : s.size ≤ 1024 := val_5 hval2
    obtain ⟨U, hU⟩ : ∃ U, strOfNums (fixZ 2 s.size) = U := ⟨_, rfl⟩
    have hUz : U.size ≤ 2 := by rw [← hU, fix2_size]; omega
    have HC := Lib.hid (fun W => RFixed_n2 s.size U W (by omega) hU)
    have HRU : Hid (restStr (l.take (k + 1)) = ((T ++ I) ++ U) ++ s) := by show _ = _; rw [HRR.out, ← hU, app_assoc (T ++ I)]; rfl
    clear hU
    have st0 := HB2.out
    haveI : Nonempty (In (RStP w (some ⟨b0, o, none⟩) l g #[.int .i64 id, .int .i64 n, .string s, .string v])) := ⟨⟨_, st0⟩⟩
    have k2 : ∀ u : In (RStP w (some ⟨b0, o, none⟩) l g #[.int .i64 id, .int .i64 n, .string s, .string v]), u.w.cell? ⟨g, 2, none⟩ = some (.string s) := fun u => u.h.four.2.2.1
    go_wp2_with fail
    refine region_in (S := RStP w (some ⟨b0, o, none⟩) l g #[.int .i64 id, .int .i64 n, .string s, .string v]) (by kernel_rfl) (by kernel_rfl) (st0.drewN 1) ?_
    repeat (go_big_quiet_step ((go_at_call 78; exact in_call ((HC.out _).mono fun _ _ h => ⟨h.1, RStP.below (In.h _) h.2⟩))))
    refine wpQuiet_nil ?_
    rintro _ ⟨⟨w2, st2⟩, rfl⟩
    have HB3 := Lib.hid st2
    clear st2 st0 k2 HC HB2 e0 e1 e2 e3
    go_wp2_with fail
    go_roundw
    case rel => exact ⟨k + 1, hlt, by go_num, by rw [HRU.out], HB3.out.out.1, HZZ.out⟩
    case measure => simp [RowKit.intOf]; omega
   ·have hs1 : s.size ≤ 1024 := val_6 hval2
    obtain ⟨U, hU⟩ : ∃ U, strOfNums (fixZ 2 s.size) = U := ⟨_, rfl⟩
    have hUz : U.size ≤ 2 := by rw [← hU, fix2_size]; omega
    have HC := Lib.hid (fun W => RFixed_n2 s.size U W (by omega) hU)
    have HRU : Hid (restStr (l.take (k + 1)) = ((T ++ I) ++ U) ++ s) := by show _ = _; rw [HRR.out, ← hU, app_assoc (T ++ I)]; rfl
    clear hU
    have st0 := HB2.out
    haveI : Nonempty (In (RStP w (some ⟨b0, o, none⟩) l g #[.int .i64 id, .int .i64 n, .string s, .string v])) := ⟨⟨_, st0⟩⟩
    have k2 : ∀ u : In (RStP w (some ⟨b0, o, none⟩) l g #[.int .i64 id, .int .i64 n, .string s, .string v]), u.w.cell? ⟨g, 2, none⟩ = some (.string s) := fun u => u.h.four.2.2.1
    go_wp2_with fail
    refine region_in (S := RStP w (some ⟨b0, o, none⟩) l g #[.int .i64 id, .int .i64 n, .string s, .string v]) (by kernel_rfl) (by kernel_rfl) (st0.drewN 1) ?_
    repeat (go_big_quiet_step ((go_at_call 78; exact in_call ((HC.out _).mono fun _ _ h => ⟨h.1, RStP.below (In.h _) h.2⟩))))
    refine wpQuiet_nil ?_
    rintro _ ⟨⟨w2, st2⟩, rfl⟩
    have HB3 := Lib.hid st2
    clear st2 st0 k2 HC HB2 e0 e1 e2 e3
    go_wp2_with fail
    go_roundw
    case rel => exact ⟨k + 1, hlt, by go_num, by rw [HRU.out], HB3.out.out.1, HZZ.out⟩
    case measure => simp [RowKit.intOf]; omega
   ·obtain ⟨hs1, hv1⟩ := val_7 hval2
    have hs1 : s.size ≤ 1024 := hs1
    have hv1 : v.size ≤ 1024 := hv1
    obtain ⟨U, hU⟩ : ∃ U, strOfNums (fixZ 2 s.size) = U := ⟨_, rfl⟩
    have hUz : U.size ≤ 2 := by rw [← hU, fix2_size]; omega
    obtain ⟨V, hV⟩ : ∃ V, strOfNums (fixZ 2 v.size) = V := ⟨_, rfl⟩
    have hVz : V.size ≤ 2 := by rw [← hV, fix2_size]; omega
    have HC := Lib.hid (fun W => RFixed_n2 s.size U W (by omega) hU)
    have HD := Lib.hid (fun W => RFixed_n2 v.size V W (by omega) hV)
    have HRU : Hid (restStr (l.take (k + 1)) = ((((T ++ I) ++ U) ++ s) ++ V) ++ v) := by
     show _ = _
     rw [HRR.out]
     show (T ++ I) ++ ((strOfNums (fixZ 2 s.size) ++ s) ++ (strOfNums (fixZ 2 v.size) ++ v)) = _
     rw [hU, hV, app_assoc (T ++ I) U s, app_assoc (T ++ I) (U ++ s) V, app_assoc (T ++ I) ((U ++ s) ++ V) v, app_assoc (U ++ s) V v]
    clear hU hV
    have st0 := HB2.out
    haveI : Nonempty (In (RStP w (some ⟨b0, o, none⟩) l g #[.int .i64 id, .int .i64 n, .string s, .string v])) := ⟨⟨_, st0⟩⟩
    have k2 : ∀ u : In (RStP w (some ⟨b0, o, none⟩) l g #[.int .i64 id, .int .i64 n, .string s, .string v]), u.w.cell? ⟨g, 2, none⟩ = some (.string s) := fun u => u.h.four.2.2.1
    have k3 : ∀ u : In (RStP w (some ⟨b0, o, none⟩) l g #[.int .i64 id, .int .i64 n, .string s, .string v]), u.w.cell? ⟨g, 3, none⟩ = some (.string v) := fun u => u.h.four.2.2.2
    go_wp2_with fail
    refine region_in (S := RStP w (some ⟨b0, o, none⟩) l g #[.int .i64 id, .int .i64 n, .string s, .string v]) (by kernel_rfl) (by kernel_rfl) (st0.drewN 1) ?_
    repeat (go_big_quiet_step (first | (go_at_call 78; with_reducible exact in_call ((HC.out _).mono fun _ _ h => ⟨h.1, RStP.below (In.h _) h.2⟩)) | (go_at_call 78; with_reducible exact in_call ((HD.out _).mono fun _ _ h => ⟨h.1, RStP.below (In.h _) h.2⟩))))
    refine wpQuiet_nil ?_
    rintro _ ⟨⟨w2, st2⟩, rfl⟩
    have HB3 := Lib.hid st2
    clear st2 st0 k2 k3 HC HD HB2 e0 e1 e2 e3
    go_wp2_with fail
    go_roundw
    case rel => exact ⟨k + 1, hlt, by go_num, by rw [HRU.out], HB3.out.out.1, HZZ.out⟩
    case measure => simp [RowKit.intOf]; omega
  ·obtain rfl : k = l.length := by omega
   rw [List.take_length] at hsz2
   obtain ⟨R, hR⟩ : ∃ R, restStr l = R := ⟨_, rfl⟩
   rw [List.take_length, hR]
   rw [hR] at hsz2
   obtain ⟨N, hN⟩ : ∃ N, strOfNums (numZ R.size) = N := ⟨_, rfl⟩
   have hNz : N.size ≤ 4 := by rw [← hN, strOfNums_size, numZ_len (by omega)]; exact (numLen_le _).2
   have HN := Lib.hid (fun W => RNum_z (R.size : Int) N W (by omega) (by omega) (by rw [Int.toNat_natCast]; exact hN))
   have HSS : Hid (S = N ++ R) := HS.out.symm.trans (by unfold propStr; rw [hR, hN])
   clear hR hN
   go_wp2_with fail
   refine (HN.out _).mono ?_
   rintro e w2 ⟨rfl, hb2⟩
   have HB3 := Lib.hid (HT.out.below hb2)
   clear hb2 HT HN
   go_wp2_with fail
   go_ret
   exact ⟨by rw [HSS.out]; rfl, HB3.out.out.2⟩
open Go.RowKit Go.Lib Prp Vbi
@[irreducible] def Two (w : World) (g : Nat) (cs : Array Value) (k : Nat) (ds : Array Value) (W : World) : Prop := Box W g cs ∧ Box W k ds ∧ g ≠ k ∧ w.heap.size ≤ g ∧ w.heap.size ≤ k ∧ Below w.heap.size w W
section
variable {w W W' : World} {g k : Nat} {cs ds : Array Value}
theorem Two.out (h : Two w g cs k ds W) : Box W g cs ∧ Box W k ds ∧ g ≠ k ∧ w.heap.size ≤ g ∧ w.heap.size ≤ k ∧ Below w.heap.size w W := by unfold Two at h; exact h
theorem Two.mk (h : Box W g cs ∧ Box W k ds ∧ g ≠ k ∧ w.heap.size ≤ g ∧ w.heap.size ≤ k ∧ Below w.heap.size w W) : Two w g cs k ds W := by unfold Two; exact h
theorem Two.new (w : World) (T U : TypeId) (cs ds : Array Value) : Two w w.heap.size cs (w.heap.size + 1) ds ((w.alloc (.cells cs T)).alloc (.cells ds U)) := by
 have e : (w.alloc (.cells cs T)).heap.size = w.heap.size + 1 := by simp
 have h2 := Box.new (w.alloc (.cells cs T)) U ds
 rw [e] at h2
 exact .mk ⟨(Box.new w T cs).alloc _, h2, by omega, Nat.le_refl _, by omega, (((Below.refl _ _).alloc (Nat.le_refl _) _).alloc (by simp) _)⟩
theorem Two.below (h : Two w g cs k ds W) (hb : Below W.heap.size W W') : Two w g cs k ds W' :=
 .mk ⟨h.out.1.below hb, h.out.2.1.below hb, h.out.2.2.1, h.out.2.2.2.1, h.out.2.2.2.2.1, h.out.2.2.2.2.2.trans (hb.mono h.out.2.2.2.2.2.size)⟩
theorem Two.alloc (h : Two w g cs k ds W) (o : Obj) : Two w g cs k ds (W.alloc o) := h.below ((Below.refl _ _).alloc (Nat.le_refl _) _)
theorem Two.drew (h : Two w g cs k ds W) : Two w g cs k ds W.drew := h.below (below_drewN (Below.refl _ _) 1)
theorem Two.cell (h : Two w g cs k ds W) (i : Nat) : W.cell? ⟨g, i, none⟩ = cs[i]? := h.out.1.cell i
theorem Two.frozen (h : Two w g cs k ds W) (i : Nat) : W.frozen? ⟨g, i, none⟩ = false := h.out.1.frozen i
end
end Go.Proofs.YtdbbcfohjkgdcaaGreat
