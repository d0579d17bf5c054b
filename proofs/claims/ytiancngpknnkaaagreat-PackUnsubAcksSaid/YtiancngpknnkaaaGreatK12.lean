/- The document's own answer: a value is taken, by its kind. -/
import Derived.Test.YtiancngpknnkaaaGreatK00
import Derived.Test.YtiancngpknnkaaaGreatK07
import Derived.Test.YtiancngpknnkaaaGreatK10
set_option maxRecDepth 100000
set_option maxHeartbeats 64000000
namespace Go.Proofs.YtiancngpknnkaaaGreat
open Go.RowKit Go.Lib Prp Vbi Txt
theorem fits_none {p : P} (h : kindZ p.id = 0) : fitsB p = false := by
 unfold fitsB
 rw [decide_eq_false (show ¬ (kindZ p.id ≠ 0) from fun e => e h)]; rfl
theorem fits_zero {p : P} (hz : noZ p.id) (hn : p.n = 0) : fitsB p = false := by
 unfold fitsB
 rw [decide_eq_false (show ¬ ¬ (noZ p.id ∧ p.n = 0) from fun e => e ⟨hz, hn⟩)]; simp
theorem fits_val {p : P} {k : Int} (hk : kindZ p.id = k) (hk0 : k ≠ 0) (h : ¬ (noZ p.id ∧ p.n = 0)) : fitsB p = valB k p := by
 unfold fitsB
 rw [hk, decide_eq_true (show k ≠ 0 from hk0), decide_eq_true (show ¬ (noZ p.id ∧ p.n = 0) from h)]; rfl
theorem empty_iff (v : ByteArray) : v.toList = [] ↔ v = ⟨#[]⟩ := by rw [← toList_eq_iff, show (⟨#[]⟩ : ByteArray).toList = [] by rw [ByteArray.toList_eq]]
theorem RText_yes (s : ByteArray) (w : World) (h : textB s = true) : Calls Tryz.prog 90 #[.string s] w fun e w' => e = .returned (.int .i64 0) ∧ w = w' := by
 unfold textB at h
 have h0 : textErr s.data.toList = 0 := of_decide_eq_true h
 exact RText_eq s 0 w h0
theorem RText_no (s : ByteArray) (w : World) (h : textB s = false) : Calls Tryz.prog 90 #[.string s] w fun e w' => ∃ E : Int, e = .returned (.int .i64 E) ∧ E ≠ 0 ∧ w = w' := by
 unfold textB at h
 have h0 : ¬ textErr s.data.toList = 0 := of_decide_eq_false h
 exact (RText_eq s _ w rfl).mono fun _ _ ⟨h1, h2⟩ => ⟨_, h1, h0, h2⟩
theorem fits_0 (id n : Int) (s v : ByteArray) (b : Bool) (w : World) (hk : kindZ id = 0) (hb : false = b) :
  Calls Tryz.prog 87 #[.agg #[.int .i64 id, .int .i64 n, .string s, .string v]] w fun e w' => e = .returned (.bool b) ∧ Below w.heap.size w w' := by
 subst hb
 have HK := Lib.hid (fun W => RKind_is id 0 W hk)
 clear hk
 go_enter Tryz.func87, Tryz.ntmps87
 go_wp2_with (go_at_call 114; refine (HK.out _).mono ?_; rintro e w' ⟨rfl, rfl⟩)
 go_ret
 exact ⟨rfl, (Below.refl _ _).alloc (Nat.le_refl _) _⟩
theorem fits_1 (id n : Int) (s v : ByteArray) (b : Bool) (w : World) (hk : kindZ id = 1) (hb : fitsB ⟨id, n, s, v⟩ = b) :
  Calls Tryz.prog 87 #[.agg #[.int .i64 id, .int .i64 n, .string s, .string v]] w fun e w' => e = .returned (.bool b) ∧ Below w.heap.size w w' := by
 have HK := Lib.hid (fun W => RKind_is id 1 W hk)
 obtain ⟨x, hx⟩ : ∃ x, decide (0 ≤ n ∧ n ≤ 1) = x := ⟨_, rfl⟩
 have HN := Lib.hid (fun W => zNum_is n 1 x W hx)
 have HX := Lib.hid hx
 have mem : ∀ W : World, (W.alloc (.cells #[.int .i64 0, .int .i64 1, .int .i64 65535, .int .i64 4294967295, .int .i64 268435455] 3)).cell? ⟨W.heap.size, 1, none⟩ = some (.int .i64 1) := fun W => by rw [cell_of_row (W.alloc _) W.heap.size 1 _ _ (0, 0) (heap_alloc_new W _)]; rfl
 rcases have_split id with c | ⟨h1, h2, h3, h4⟩
 ·rcases c with rfl | rfl | rfl | rfl
  ·cases hk
  ·cases hk
  ·cases hk
  ·cases hk
 ·have HB : Hid (decide ((n = 0 ∨ n = 1) ∧ s = ⟨#[]⟩ ∧ v = ⟨#[]⟩) = b) := (fits_val (p := ⟨id, n, s, v⟩) hk (by decide) (fun e => by have : noZ id := e.1; unfold noZ at this; omega)).symm.trans hb
  replace h1 := ne_false h1
  replace h2 := ne_false h2
  replace h3 := ne_false h3
  replace h4 := ne_false h4
  clear hk hb hx
  cases x with
  | false =>
   have hm : ¬ (n = 0 ∨ n = 1) := by have := of_decide_eq_false HX.out; omega
   have HM := Lib.hid hm
   clear hm HX
   go_enter Tryz.func87, Tryz.ntmps87
   go_wp2_with (first | (go_at_call 114; refine (HK.out _).mono ?_; rintro e w' ⟨rfl, rfl⟩) | (go_at_call 48; refine (HN.out _).mono ?_; rintro e w' ⟨rfl, rfl⟩))
   go_ret
   exact ⟨ret_bool (dec_false' HB.out (fun e => HM.out e.1)), ((Below.refl _ _).alloc (Nat.le_refl _) _).alloc (by simp) _⟩
  | true =>
   have hm : (n = 0 ∨ n = 1) := by have := of_decide_eq_true HX.out; omega
   have HM := Lib.hid hm
   clear hm HX
   go_enter Tryz.func87, Tryz.ntmps87
   go_wp2_with (first | (go_at_call 114; refine (HK.out _).mono ?_; rintro e w' ⟨rfl, rfl⟩) | (go_at_call 48; refine (HN.out _).mono ?_; rintro e w' ⟨rfl, rfl⟩))
   all_goals
    go_ret
    refine ⟨ret_bool ?_, ((Below.refl _ _).alloc (Nat.le_refl _) _).alloc (by simp) _⟩
    have h3 := HM.out
    rw [← HB.out, Bool.eq_iff_iff]
    simp_all [List.isEmpty_iff, empty_iff]
theorem fits_2 (id n : Int) (s v : ByteArray) (b : Bool) (w : World) (hk : kindZ id = 2) (hb : fitsB ⟨id, n, s, v⟩ = b) :
  Calls Tryz.prog 87 #[.agg #[.int .i64 id, .int .i64 n, .string s, .string v]] w fun e w' => e = .returned (.bool b) ∧ Below w.heap.size w w' := by
 have HK := Lib.hid (fun W => RKind_is id 2 W hk)
 obtain ⟨x, hx⟩ : ∃ x, decide (0 ≤ n ∧ n ≤ 65535) = x := ⟨_, rfl⟩
 have HN := Lib.hid (fun W => zNum_is n 65535 x W hx)
 have HX := Lib.hid hx
 have mem : ∀ W : World, (W.alloc (.cells #[.int .i64 0, .int .i64 1, .int .i64 65535, .int .i64 4294967295, .int .i64 268435455] 3)).cell? ⟨W.heap.size, 2, none⟩ = some (.int .i64 65535) := fun W => by rw [cell_of_row (W.alloc _) W.heap.size 2 _ _ (0, 0) (heap_alloc_new W _)]; rfl
 rcases have_split id with c | ⟨h1, h2, h3, h4⟩
 ·rcases c with rfl | rfl | rfl | rfl
  ·cases hk
  ·by_cases hn : n = 0
   ·obtain rfl : false = b := (fits_zero (p := ⟨33, n, s, v⟩) (by unfold noZ; simp) hn).symm.trans hb
    subst hn
    clear hk hb hx HX HN
    go_enter Tryz.func87, Tryz.ntmps87
    go_wp2_with (go_at_call 114; refine (HK.out _).mono ?_; rintro e w' ⟨rfl, rfl⟩)
    go_ret
    exact ⟨rfl, ((Below.refl _ _).alloc (Nat.le_refl _) _).alloc (by simp) _⟩
   ·have HB : Hid (decide ((0 ≤ n ∧ n < 65536) ∧ s = ⟨#[]⟩ ∧ v = ⟨#[]⟩) = b) := (fits_val (p := ⟨33, n, s, v⟩) hk (by decide) (fun e => hn e.2)).symm.trans hb
    have bn := ne_false hn
    clear hn
    clear hk hb hx
    cases x with
    | false =>
     have hm : ¬ (0 ≤ n ∧ n < 65536) := by have := of_decide_eq_false HX.out; omega
     have HM := Lib.hid hm
     clear hm HX
     go_enter Tryz.func87, Tryz.ntmps87
     go_wp2_with (first | (go_at_call 114; refine (HK.out _).mono ?_; rintro e w' ⟨rfl, rfl⟩) | (go_at_call 48; refine (HN.out _).mono ?_; rintro e w' ⟨rfl, rfl⟩))
     go_ret
     exact ⟨ret_bool (dec_false' HB.out (fun e => HM.out e.1)), ((Below.refl _ _).alloc (Nat.le_refl _) _).alloc (by simp) _⟩
    | true =>
     have hm : (0 ≤ n ∧ n < 65536) := by have := of_decide_eq_true HX.out; omega
     have HM := Lib.hid hm
     clear hm HX
     go_enter Tryz.func87, Tryz.ntmps87
     go_wp2_with (first | (go_at_call 114; refine (HK.out _).mono ?_; rintro e w' ⟨rfl, rfl⟩) | (go_at_call 48; refine (HN.out _).mono ?_; rintro e w' ⟨rfl, rfl⟩))
     all_goals
      go_ret
      refine ⟨ret_bool ?_, ((Below.refl _ _).alloc (Nat.le_refl _) _).alloc (by simp) _⟩
      have h3 := HM.out
      rw [← HB.out, Bool.eq_iff_iff]
      simp_all [List.isEmpty_iff, empty_iff]
  ·by_cases hn : n = 0
   ·obtain rfl : false = b := (fits_zero (p := ⟨35, n, s, v⟩) (by unfold noZ; simp) hn).symm.trans hb
    subst hn
    clear hk hb hx HX HN
    go_enter Tryz.func87, Tryz.ntmps87
    go_wp2_with (go_at_call 114; refine (HK.out _).mono ?_; rintro e w' ⟨rfl, rfl⟩)
    go_ret
    exact ⟨rfl, ((Below.refl _ _).alloc (Nat.le_refl _) _).alloc (by simp) _⟩
   ·have HB : Hid (decide ((0 ≤ n ∧ n < 65536) ∧ s = ⟨#[]⟩ ∧ v = ⟨#[]⟩) = b) := (fits_val (p := ⟨35, n, s, v⟩) hk (by decide) (fun e => hn e.2)).symm.trans hb
    have bn := ne_false hn
    clear hn
    clear hk hb hx
    cases x with
    | false =>
     have hm : ¬ (0 ≤ n ∧ n < 65536) := by have := of_decide_eq_false HX.out; omega
     have HM := Lib.hid hm
     clear hm HX
     go_enter Tryz.func87, Tryz.ntmps87
     go_wp2_with (first | (go_at_call 114; refine (HK.out _).mono ?_; rintro e w' ⟨rfl, rfl⟩) | (go_at_call 48; refine (HN.out _).mono ?_; rintro e w' ⟨rfl, rfl⟩))
     go_ret
     exact ⟨ret_bool (dec_false' HB.out (fun e => HM.out e.1)), ((Below.refl _ _).alloc (Nat.le_refl _) _).alloc (by simp) _⟩
    | true =>
     have hm : (0 ≤ n ∧ n < 65536) := by have := of_decide_eq_true HX.out; omega
     have HM := Lib.hid hm
     clear hm HX
     go_enter Tryz.func87, Tryz.ntmps87
     go_wp2_with (first | (go_at_call 114; refine (HK.out _).mono ?_; rintro e w' ⟨rfl, rfl⟩) | (go_at_call 48; refine (HN.out _).mono ?_; rintro e w' ⟨rfl, rfl⟩))
     all_goals
      go_ret
      refine ⟨ret_bool ?_, ((Below.refl _ _).alloc (Nat.le_refl _) _).alloc (by simp) _⟩
      have h3 := HM.out
      rw [← HB.out, Bool.eq_iff_iff]
      simp_all [List.isEmpty_iff, empty_iff]
  ·cases hk
 ·have HB : Hid (decide ((0 ≤ n ∧ n < 65536) ∧ s = ⟨#[]⟩ ∧ v = ⟨#[]⟩) = b) := (fits_val (p := ⟨id, n, s, v⟩) hk (by decide) (fun e => by have : noZ id := e.1; unfold noZ at this; omega)).symm.trans hb
  replace h1 := ne_false h1
  replace h2 := ne_false h2
  replace h3 := ne_false h3
  replace h4 := ne_false h4
  clear hk hb hx
  cases x with
  | false =>
   have hm : ¬ (0 ≤ n ∧ n < 65536) := by have := of_decide_eq_false HX.out; omega
   have HM := Lib.hid hm
   clear hm HX
   go_enter Tryz.func87, Tryz.ntmps87
   go_wp2_with (first | (go_at_call 114; refine (HK.out _).mono ?_; rintro e w' ⟨rfl, rfl⟩) | (go_at_call 48; refine (HN.out _).mono ?_; rintro e w' ⟨rfl, rfl⟩))
   go_ret
   exact ⟨ret_bool (dec_false' HB.out (fun e => HM.out e.1)), ((Below.refl _ _).alloc (Nat.le_refl _) _).alloc (by simp) _⟩
  | true =>
   have hm : (0 ≤ n ∧ n < 65536) := by have := of_decide_eq_true HX.out; omega
   have HM := Lib.hid hm
   clear hm HX
   go_enter Tryz.func87, Tryz.ntmps87
   go_wp2_with (first | (go_at_call 114; refine (HK.out _).mono ?_; rintro e w' ⟨rfl, rfl⟩) | (go_at_call 48; refine (HN.out _).mono ?_; rintro e w' ⟨rfl, rfl⟩))
   all_goals
    go_ret
    refine ⟨ret_bool ?_, ((Below.refl _ _).alloc (Nat.le_refl _) _).alloc (by simp) _⟩
    have h3 := HM.out
    rw [← HB.out, Bool.eq_iff_iff]
    simp_all [List.isEmpty_iff, empty_iff]
theorem fits_3 (id n : Int) (s v : ByteArray) (b : Bool) (w : World) (hk : kindZ id = 3) (hb : fitsB ⟨id, n, s, v⟩ = b) :
  Calls Tryz.prog 87 #[.agg #[.int .i64 id, .int .i64 n, .string s, .string v]] w fun e w' => e = .returned (.bool b) ∧ Below w.heap.size w w' := by
 have HK := Lib.hid (fun W => RKind_is id 3 W hk)
 obtain ⟨x, hx⟩ : ∃ x, decide (0 ≤ n ∧ n ≤ 4294967295) = x := ⟨_, rfl⟩
 have HN := Lib.hid (fun W => zNum_is n 4294967295 x W hx)
 have HX := Lib.hid hx
 have mem : ∀ W : World, (W.alloc (.cells #[.int .i64 0, .int .i64 1, .int .i64 65535, .int .i64 4294967295, .int .i64 268435455] 3)).cell? ⟨W.heap.size, 3, none⟩ = some (.int .i64 4294967295) := fun W => by rw [cell_of_row (W.alloc _) W.heap.size 3 _ _ (0, 0) (heap_alloc_new W _)]; rfl
 rcases have_split id with c | ⟨h1, h2, h3, h4⟩
 ·rcases c with rfl | rfl | rfl | rfl
  ·cases hk
  ·cases hk
  ·cases hk
  ·by_cases hn : n = 0
   ·obtain rfl : false = b := (fits_zero (p := ⟨39, n, s, v⟩) (by unfold noZ; simp) hn).symm.trans hb
    subst hn
    clear hk hb hx HX HN
    go_enter Tryz.func87, Tryz.ntmps87
    go_wp2_with (go_at_call 114; refine (HK.out _).mono ?_; rintro e w' ⟨rfl, rfl⟩)
    go_ret
    exact ⟨rfl, ((Below.refl _ _).alloc (Nat.le_refl _) _).alloc (by simp) _⟩
   ·have HB : Hid (decide ((0 ≤ n ∧ n < 4294967296) ∧ s = ⟨#[]⟩ ∧ v = ⟨#[]⟩) = b) := (fits_val (p := ⟨39, n, s, v⟩) hk (by decide) (fun e => hn e.2)).symm.trans hb
    have bn := ne_false hn
    clear hn
    clear hk hb hx
    cases x with
    | false =>
     have hm : ¬ (0 ≤ n ∧ n < 4294967296) := by have := of_decide_eq_false HX.out; omega
     have HM := Lib.hid hm
     clear hm HX
     go_enter Tryz.func87, Tryz.ntmps87
     go_wp2_with (first | (go_at_call 114; refine (HK.out _).mono ?_; rintro e w' ⟨rfl, rfl⟩) | (go_at_call 48; refine (HN.out _).mono ?_; rintro e w' ⟨rfl, rfl⟩))
     go_ret
     exact ⟨ret_bool (dec_false' HB.out (fun e => HM.out e.1)), ((Below.refl _ _).alloc (Nat.le_refl _) _).alloc (by simp) _⟩
    | true =>
     have hm : (0 ≤ n ∧ n < 4294967296) := by have := of_decide_eq_true HX.out; omega
     have HM := Lib.hid hm
     clear hm HX
     go_enter Tryz.func87, Tryz.ntmps87
     go_wp2_with (first | (go_at_call 114; refine (HK.out _).mono ?_; rintro e w' ⟨rfl, rfl⟩) | (go_at_call 48; refine (HN.out _).mono ?_; rintro e w' ⟨rfl, rfl⟩))
     all_goals
      go_ret
      refine ⟨ret_bool ?_, ((Below.refl _ _).alloc (Nat.le_refl _) _).alloc (by simp) _⟩
      have h3 := HM.out
      rw [← HB.out, Bool.eq_iff_iff]
      simp_all [List.isEmpty_iff, empty_iff]
 ·have HB : Hid (decide ((0 ≤ n ∧ n < 4294967296) ∧ s = ⟨#[]⟩ ∧ v = ⟨#[]⟩) = b) := (fits_val (p := ⟨id, n, s, v⟩) hk (by decide) (fun e => by have : noZ id := e.1; unfold noZ at this; omega)).symm.trans hb
  replace h1 := ne_false h1
  replace h2 := ne_false h2
  replace h3 := ne_false h3
  replace h4 := ne_false h4
  clear hk hb hx
  cases x with
  | false =>
   have hm : ¬ (0 ≤ n ∧ n < 4294967296) := by have := of_decide_eq_false HX.out; omega
   have HM := Lib.hid hm
   clear hm HX
   go_enter Tryz.func87, Tryz.ntmps87
   go_wp2_with (first | (go_at_call 114; refine (HK.out _).mono ?_; rintro e w' ⟨rfl, rfl⟩) | (go_at_call 48; refine (HN.out _).mono ?_; rintro e w' ⟨rfl, rfl⟩))
   go_ret
   exact ⟨ret_bool (dec_false' HB.out (fun e => HM.out e.1)), ((Below.refl _ _).alloc (Nat.le_refl _) _).alloc (by simp) _⟩
  | true =>
   have hm : (0 ≤ n ∧ n < 4294967296) := by have := of_decide_eq_true HX.out; omega
   have HM := Lib.hid hm
   clear hm HX
   go_enter Tryz.func87, Tryz.ntmps87
   go_wp2_with (first | (go_at_call 114; refine (HK.out _).mono ?_; rintro e w' ⟨rfl, rfl⟩) | (go_at_call 48; refine (HN.out _).mono ?_; rintro e w' ⟨rfl, rfl⟩))
   all_goals
    go_ret
    refine ⟨ret_bool ?_, ((Below.refl _ _).alloc (Nat.le_refl _) _).alloc (by simp) _⟩
    have h3 := HM.out
    rw [← HB.out, Bool.eq_iff_iff]
    simp_all [List.isEmpty_iff, empty_iff]
theorem fits_4 (id n : Int) (s v : ByteArray) (b : Bool) (w : World) (hk : kindZ id = 4) (hb : fitsB ⟨id, n, s, v⟩ = b) :
  Calls Tryz.prog 87 #[.agg #[.int .i64 id, .int .i64 n, .string s, .string v]] w fun e w' => e = .returned (.bool b) ∧ Below w.heap.size w w' := by
 have HK := Lib.hid (fun W => RKind_is id 4 W hk)
 obtain ⟨x, hx⟩ : ∃ x, decide (0 ≤ n ∧ n ≤ 268435455) = x := ⟨_, rfl⟩
 have HN := Lib.hid (fun W => zNum_is n 268435455 x W hx)
 have HX := Lib.hid hx
 have mem : ∀ W : World, (W.alloc (.cells #[.int .i64 0, .int .i64 1, .int .i64 65535, .int .i64 4294967295, .int .i64 268435455] 3)).cell? ⟨W.heap.size, 4, none⟩ = some (.int .i64 268435455) := fun W => by rw [cell_of_row (W.alloc _) W.heap.size 4 _ _ (0, 0) (heap_alloc_new W _)]; rfl
 rcases have_split id with c | ⟨h1, h2, h3, h4⟩
 ·rcases c with rfl | rfl | rfl | rfl
  ·by_cases hn : n = 0
   ·obtain rfl : false = b := (fits_zero (p := ⟨11, n, s, v⟩) (by unfold noZ; simp) hn).symm.trans hb
    subst hn
    clear hk hb hx HX HN
    go_enter Tryz.func87, Tryz.ntmps87
    go_wp2_with (go_at_call 114; refine (HK.out _).mono ?_; rintro e w' ⟨rfl, rfl⟩)
    go_ret
    exact ⟨rfl, ((Below.refl _ _).alloc (Nat.le_refl _) _).alloc (by simp) _⟩
   ·have HB : Hid (decide ((0 ≤ n ∧ n < 268435456) ∧ s = ⟨#[]⟩ ∧ v = ⟨#[]⟩) = b) := (fits_val (p := ⟨11, n, s, v⟩) hk (by decide) (fun e => hn e.2)).symm.trans hb
    have bn := ne_false hn
    clear hn
    clear hk hb hx
    cases x with
    | false =>
     have hm : ¬ (0 ≤ n ∧ n < 268435456) := by have := of_decide_eq_false HX.out; omega
     have HM := Lib.hid hm
     clear hm HX
     go_enter Tryz.func87, Tryz.ntmps87
     go_wp2_with (first | (go_at_call 114; refine (HK.out _).mono ?_; rintro e w' ⟨rfl, rfl⟩) | (go_at_call 48; refine (HN.out _).mono ?_; rintro e w' ⟨rfl, rfl⟩))
     go_ret
     exact ⟨ret_bool (dec_false' HB.out (fun e => HM.out e.1)), ((Below.refl _ _).alloc (Nat.le_refl _) _).alloc (by simp) _⟩
    | true =>
     have hm : (0 ≤ n ∧ n < 268435456) := by have := of_decide_eq_true HX.out; omega
     have HM := Lib.hid hm
     clear hm HX
     go_enter Tryz.func87, Tryz.ntmps87
     go_wp2_with (first | (go_at_call 114; refine (HK.out _).mono ?_; rintro e w' ⟨rfl, rfl⟩) | (go_at_call 48; refine (HN.out _).mono ?_; rintro e w' ⟨rfl, rfl⟩))
     all_goals
      go_ret
      refine ⟨ret_bool ?_, ((Below.refl _ _).alloc (Nat.le_refl _) _).alloc (by simp) _⟩
      have h3 := HM.out
      rw [← HB.out, Bool.eq_iff_iff]
      simp_all [List.isEmpty_iff, empty_iff]
  ·cases hk
  ·cases hk
  ·cases hk
 ·have HB : Hid (decide ((0 ≤ n ∧ n < 268435456) ∧ s = ⟨#[]⟩ ∧ v = ⟨#[]⟩) = b) := (fits_val (p := ⟨id, n, s, v⟩) hk (by decide) (fun e => by have : noZ id := e.1; unfold noZ at this; omega)).symm.trans hb
  replace h1 := ne_false h1
  replace h2 := ne_false h2
  replace h3 := ne_false h3
  replace h4 := ne_false h4
  clear hk hb hx
  cases x with
  | false =>
   have hm : ¬ (0 ≤ n ∧ n < 268435456) := by have := of_decide_eq_false HX.out; omega
   have HM := Lib.hid hm
   clear hm HX
   go_enter Tryz.func87, Tryz.ntmps87
   go_wp2_with (first | (go_at_call 114; refine (HK.out _).mono ?_; rintro e w' ⟨rfl, rfl⟩) | (go_at_call 48; refine (HN.out _).mono ?_; rintro e w' ⟨rfl, rfl⟩))
   go_ret
   exact ⟨ret_bool (dec_false' HB.out (fun e => HM.out e.1)), ((Below.refl _ _).alloc (Nat.le_refl _) _).alloc (by simp) _⟩
  | true =>
   have hm : (0 ≤ n ∧ n < 268435456) := by have := of_decide_eq_true HX.out; omega
   have HM := Lib.hid hm
   clear hm HX
   go_enter Tryz.func87, Tryz.ntmps87
   go_wp2_with (first | (go_at_call 114; refine (HK.out _).mono ?_; rintro e w' ⟨rfl, rfl⟩) | (go_at_call 48; refine (HN.out _).mono ?_; rintro e w' ⟨rfl, rfl⟩))
   all_goals
    go_ret
    refine ⟨ret_bool ?_, ((Below.refl _ _).alloc (Nat.le_refl _) _).alloc (by simp) _⟩
    have h3 := HM.out
    rw [← HB.out, Bool.eq_iff_iff]
    simp_all [List.isEmpty_iff, empty_iff]
open Go.RowKit Go.Lib Prp Vbi
theorem fits_6 (id n : Int) (s v : ByteArray) (b : Bool) (w : World) (hk : kindZ id = 6) (hb : decide (n = 0 ∧ binB s = true ∧ v = ⟨#[]⟩) = b) (hs : s.size ≤ 9223372036854775807) :
  Calls Tryz.prog 87 #[.agg #[.int .i64 id, .int .i64 n, .string s, .string v]] w fun e w' => e = .returned (.bool b) ∧ Below w.heap.size w w' := by
 have HK := Lib.hid (fun W => RKind_is id 6 W hk)
 unfold binB at hb
 have HB := Lib.hid hb
 clear hk hb
 by_cases hn : n = 0
 ·subst hn
  go_enter Tryz.func87, Tryz.ntmps87
  go_wp2_with (go_at_call 114; refine (HK.out _).mono ?_; rintro e w' ⟨rfl, rfl⟩)
  ·next hv => go_ret; exact ⟨ret_bool (eq_dec' HB.out (by rw [empty_iff] at hv; simp [hv]; omega)), (Below.refl _ _).alloc (Nat.le_refl _) _⟩
  ·next hv => go_ret; exact ⟨ret_bool (dec_false' HB.out (by rw [empty_iff] at hv; simp [hv])), (Below.refl _ _).alloc (Nat.le_refl _) _⟩
 ·have bn := ne_false hn
  go_enter Tryz.func87, Tryz.ntmps87
  go_wp2_with (go_at_call 114; refine (HK.out _).mono ?_; rintro e w' ⟨rfl, rfl⟩)
  go_ret
  exact ⟨ret_bool (dec_false' HB.out (by simp [hn])), (Below.refl _ _).alloc (Nat.le_refl _) _⟩
theorem fits_5 (id n : Int) (s v : ByteArray) (b : Bool) (w : World) (hk : kindZ id = 5) (hb : decide (n = 0 ∧ textB s = true ∧ v = ⟨#[]⟩) = b) :
  Calls Tryz.prog 87 #[.agg #[.int .i64 id, .int .i64 n, .string s, .string v]] w fun e w' => e = .returned (.bool b) ∧ Below w.heap.size w w' := by
 have HK := Lib.hid (fun W => RKind_is id 5 W hk)
 by_cases hn : n = 0
 ·subst hn
  cases hx : textB s with
  | true =>
   rw [hx] at hb
   have HB := Lib.hid hb
   have HT := Lib.hid (fun W => RText_yes s W hx)
   clear hk hb hx
   go_enter Tryz.func87, Tryz.ntmps87
   go_wp2_with (first | (go_at_call 114; refine (HK.out _).mono ?_; rintro e w' ⟨rfl, rfl⟩) | (go_at_call 90; refine (HT.out _).mono ?_; rintro e w' ⟨rfl, rfl⟩))
   ·next hv => go_ret; exact ⟨ret_bool (dec_true' HB.out (by rw [empty_iff] at hv; simp [hv])), (Below.refl _ _).alloc (Nat.le_refl _) _⟩
   ·next hv => go_ret; exact ⟨ret_bool (dec_false' HB.out (by rw [empty_iff] at hv; simp [hv])), (Below.refl _ _).alloc (Nat.le_refl _) _⟩
  | false =>
   rw [hx] at hb
   have HB := Lib.hid hb
   have HT := Lib.hid (fun W => RText_no s W hx)
   clear hk hb hx
   go_enter Tryz.func87, Tryz.ntmps87
   go_wp2_with (first | (go_at_call 114; refine (HK.out _).mono ?_; rintro e w' ⟨rfl, rfl⟩) | (go_at_call 90; refine (HT.out _).mono ?_; rintro e w' ⟨E, rfl, hE, rfl⟩; replace hE := ne_false hE))
   all_goals (go_ret; exact ⟨ret_bool (dec_false' HB.out (by simp)), (Below.refl _ _).alloc (Nat.le_refl _) _⟩)
 ·have HB := Lib.hid hb
  have bn := ne_false hn
  clear hk hb
  go_enter Tryz.func87, Tryz.ntmps87
  go_wp2_with (go_at_call 114; refine (HK.out _).mono ?_; rintro e w' ⟨rfl, rfl⟩)
  go_ret
  exact ⟨ret_bool (dec_false' HB.out (by simp [hn])), (Below.refl _ _).alloc (Nat.le_refl _) _⟩
theorem fits_7 (id n : Int) (s v : ByteArray) (b : Bool) (w : World) (hk : kindZ id = 7) (hb : decide (n = 0 ∧ textB s = true ∧ textB v = true) = b) :
  Calls Tryz.prog 87 #[.agg #[.int .i64 id, .int .i64 n, .string s, .string v]] w fun e w' => e = .returned (.bool b) ∧ Below w.heap.size w w' := by
 have HK := Lib.hid (fun W => RKind_is id 7 W hk)
 by_cases hn : n = 0
 ·subst hn
  cases hx : textB s with
  | true =>
   rw [hx] at hb
   have HT := Lib.hid (fun W => RText_yes s W hx)
   cases hy : textB v with
   | true =>
    rw [hy] at hb
    have HB := Lib.hid hb
    have HV := Lib.hid (fun W => RText_yes v W hy)
    clear hk hb hx hy
    go_enter Tryz.func87, Tryz.ntmps87
    go_wp2_with (go_at_call 114; refine (HK.out _).mono ?_; rintro e w' ⟨rfl, rfl⟩)
    refine (HT.out _).mono ?_
    rintro e w' ⟨rfl, rfl⟩
    go_wp2_with fail
    refine (HV.out _).mono ?_
    rintro e w' ⟨rfl, rfl⟩
    go_wp2_with fail
    go_ret
    exact ⟨ret_bool (dec_true' HB.out (by simp)), (Below.refl _ _).alloc (Nat.le_refl _) _⟩
   | false =>
    rw [hy] at hb
    have HB := Lib.hid hb
    have HV := Lib.hid (fun W => RText_no v W hy)
    clear hk hb hx hy
    go_enter Tryz.func87, Tryz.ntmps87
    go_wp2_with (go_at_call 114; refine (HK.out _).mono ?_; rintro e w' ⟨rfl, rfl⟩)
    refine (HT.out _).mono ?_
    rintro e w' ⟨rfl, rfl⟩
    go_wp2_with fail
    refine (HV.out _).mono ?_
    rintro e w' ⟨E, rfl, hE, rfl⟩
    replace hE := ne_false hE
    go_wp2_with fail
    go_ret
    exact ⟨ret_bool (dec_false' HB.out (by simp)), (Below.refl _ _).alloc (Nat.le_refl _) _⟩
  | false =>
   rw [hx] at hb
   have HB := Lib.hid hb
   have HT := Lib.hid (fun W => RText_no s W hx)
   clear hk hb hx
   go_enter Tryz.func87, Tryz.ntmps87
   go_wp2_with (go_at_call 114; refine (HK.out _).mono ?_; rintro e w' ⟨rfl, rfl⟩)
   refine (HT.out _).mono ?_
   rintro e w' ⟨E, rfl, hE, rfl⟩
   replace hE := ne_false hE
   go_wp2_with fail
   go_ret
   exact ⟨ret_bool (dec_false' HB.out (by simp)), (Below.refl _ _).alloc (Nat.le_refl _) _⟩
 ·have HB := Lib.hid hb
  have bn := ne_false hn
  clear hk hb
  go_enter Tryz.func87, Tryz.ntmps87
  go_wp2_with (go_at_call 114; refine (HK.out _).mono ?_; rintro e w' ⟨rfl, rfl⟩)
  go_ret
  exact ⟨ret_bool (dec_false' HB.out (by simp [hn])), (Below.refl _ _).alloc (Nat.le_refl _) _⟩
theorem not_noZ {id : Int} (h : kindZ id ≠ 2 ∧ kindZ id ≠ 3 ∧ kindZ id ≠ 4) : ¬ noZ id := by
 unfold noZ
 rintro (rfl | rfl | rfl | rfl)
 ·exact h.2.2 rfl
 ·exact h.1 rfl
 ·exact h.1 rfl
 ·exact h.2.1 rfl
theorem fits_is (id n : Int) (s v : ByteArray) (b : Bool) (w : World) (hs : s.size ≤ 9223372036854775807) (hb : fitsB ⟨id, n, s, v⟩ = b) :
  Calls Tryz.prog 87 #[.agg #[.int .i64 id, .int .i64 n, .string s, .string v]] w fun e w' => e = .returned (.bool b) ∧ Below w.heap.size w w' := by
 have hr := kind_range id
 by_cases h0 : kindZ id = 0
 ·exact fits_0 id n s v b w h0 ((fits_none (p := ⟨id, n, s, v⟩) h0).symm.trans hb)
 rcases kind_seven hr.1 hr.2 h0 with h | h | h | h | h | h | h
 ·exact fits_1 id n s v b w h hb
 ·exact fits_2 id n s v b w h hb
 ·exact fits_3 id n s v b w h hb
 ·exact fits_4 id n s v b w h hb
 ·exact fits_5 id n s v b w h ((fits_val (p := ⟨id, n, s, v⟩) h (by decide) (fun e => not_noZ (by rw [h]; decide) e.1)).symm.trans hb)
 ·exact fits_6 id n s v b w h ((fits_val (p := ⟨id, n, s, v⟩) h (by decide) (fun e => not_noZ (by rw [h]; decide) e.1)).symm.trans hb) hs
 ·exact fits_7 id n s v b w h ((fits_val (p := ⟨id, n, s, v⟩) h (by decide) (fun e => not_noZ (by rw [h]; decide) e.1)).symm.trans hb)
open Go.RowKit Go.Lib Prp
@[irreducible] def RSt (w : World) (A : Option Addr) (l : List P) (W : World) : Prop := PropsAt W w.heap.size A l ∧ Below w.heap.size w W
section
variable {w W W' : World} {A : Option Addr} {l : List P}
theorem RSt.mk (h1 : PropsAt W w.heap.size A l) (h2 : Below w.heap.size w W) : RSt w A l W := by unfold RSt; exact ⟨h1, h2⟩
theorem RSt.out (h : RSt w A l W) : PropsAt W w.heap.size A l ∧ Below w.heap.size w W := by unfold RSt at h; exact h
theorem RSt.below (h : RSt w A l W) (hb : Below W.heap.size W W') : RSt w A l W' := .mk (h.out.1.below (hb.mono h.out.2.size)) (h.out.2.trans (hb.mono h.out.2.size))
theorem RSt.drewN (h : RSt w A l W) (n : Nat) : RSt w A l (W.drewN n) := h.below (below_drewN (Below.refl _ _) n)
theorem RSt.cells {b o : Nat} (h : RSt w (some ⟨b, o, none⟩) l W) (k : Nat) (hk : k < l.length) : PAt W b (o + k * 4) l[k] := by
 obtain ⟨b', o', e, _, hc⟩ := h.out.1.some_ (by omega)
 injection e with e
 injection e with e1 e2
 subst e1 e2
 exact hc k hk
end
theorem twice_take (place id : Int) (l : List P) (k : Nat) (A : Option Addr) (c B : Nat) (b : Bool) (w : World) (hk : k ≤ l.length) (hm : l.length ≤ 9223372036854775807) (h : PropsAt w B A l) (hb : twiceB place id (l.take k) = b) :
  Calls Tryz.prog 89 #[.int .i64 place, .int .i64 id, .slice A k c] w fun e w' => e = .returned (.bool b) ∧ w = w' := by
 have := twice_is place id (l.take k) A c B b w (by rw [List.length_take]; omega) (h.take k) hb
 rwa [List.length_take, Nat.min_eq_left hk] at this
theorem RProps_is (place : Int) (l : List P) (A : Option Addr) (c : Nat) (z : Bool) (w : World) (hm : l.length ≤ 9223372036854775807) (hcap : l.length ≤ c) (hfit : ∀ p ∈ l, Fit p) (h : PropsAt w w.heap.size A l) (hz : propsB place l = z) :
  Calls Tryz.prog 49 #[.int .i64 place, .slice A l.length c] w fun e w' => e = .returned (.bool z) ∧ Below w.heap.size w w' := by
 have H := Lib.hid h
 have HF := Lib.hid hfit
 clear h hfit
 obtain ⟨x, hx⟩ : ∃ x, placeB place = x := ⟨_, rfl⟩
 have HP := Lib.hid (fun W => Place_is place x W hx)
 cases x with
 | false =>
  obtain rfl : false = z := (props_place (l := l) hx).symm.trans hz
  clear hx hz
  go_enter Tryz.func49, Tryz.ntmps49
  go_wp2_with (go_at_call 86; refine (HP.out _).mono ?_; rintro e w' ⟨rfl, rfl⟩)
  go_ret
  exact ⟨rfl, Below.refl _ _⟩
 | true =>
 by_cases h8 : 8 < l.length
 ·obtain rfl : false = z := (props_many (place := place) h8).symm.trans hz
  clear hx hz
  go_enter Tryz.func49, Tryz.ntmps49
  go_wp2_with (go_at_call 86; refine (HP.out _).mono ?_; rintro e w' ⟨rfl, rfl⟩)
  go_ret
  exact ⟨rfl, Below.refl _ _⟩
 have hd8 : decide (8 < (l.length : Int)) = false := by simp; omega
 have hl8 : l.length ≤ 8 := by omega
 have HG := Lib.hid ((props_few hx hl8).symm.trans hz)
 clear hx hz
 go_enter Tryz.func49, Tryz.ntmps49
 go_wp2_with (go_at_call 86; refine (HP.out _).mono ?_; rintro e w' ⟨rfl, rfl⟩)
 go_loopw [5] (fun i wr => ∃ k : Nat, k ≤ l.length ∧ i = .int .i64 (k : Int) ∧ RSt w A l wr ∧ z = goodL place (l.take k) (l.drop k)) (fun i _ => l.length - (RowKit.intOf i).toNat)
 case atStart => exact ⟨0, Nat.zero_le _, rfl, .mk H.out (Below.refl _ _), HG.out.symm⟩
 case round =>
  obtain ⟨k, hk, rfl, hst, hgood⟩ := hrel
  have HT := Lib.hid hst
  have HGD := Lib.hid hgood
  clear hst hgood
  by_cases hlt : k < l.length
  ·have HGS := Lib.hid (HGD.out.trans (good_step hlt))
   have hfp : Fit l[k] := HF.out _ (List.getElem_mem hlt)
   obtain ⟨b0, o, rfl, hb0, hc⟩ := HT.out.out.1.some_ (by omega)
   clear hc
   obtain ⟨d0, d1, d2, d3⟩ := HT.out.cells k hlt
   have HCL := Lib.hid (fun (W : World) (h : RSt w (some ⟨b0, o, none⟩) l W) => h.cells k hlt)
   obtain ⟨q, hq⟩ : ∃ q, l[k] = q := ⟨_, rfl⟩
   rw [hq] at d0 d1 d2 d3 hfp HCL HGS
   clear hq
   obtain ⟨id, n, s, v⟩ := q
   have hn1 := hfp.n1
   have hs1 := hfp.hs
   have hkI : (k : Int) < (l.length : Int) := by omega
   have hk0 : (0 : Int) ≤ (k : Int) := by omega
   have hkc : (k : Int) ≤ (c : Int) := by omega
   obtain ⟨f, hf⟩ : ∃ f, fitsB ⟨id, n, s, v⟩ = f := ⟨_, rfl⟩
   have HFI := Lib.hid (fun W => fits_is id n s v f W (by have : s.size ≤ 140737488351232 := hs1; omega) hf)
   obtain ⟨g, hg⟩ : ∃ g, standB place id = g := ⟨_, rfl⟩
   have HSI := Lib.hid (fun W => stands_is place id g W hg)
   obtain ⟨t, ht⟩ : ∃ t, twiceB place id (l.take k) = t := ⟨_, rfl⟩
   have HTI := Lib.hid (fun (W : World) (h : RSt w (some ⟨b0, o, none⟩) l W) => twice_take place id l k (some ⟨b0, o, none⟩) c w.heap.size t W hk hm h.out.1 ht)
   have HGO : Hid (goodB place (l.take k) ⟨id, n, s, v⟩ = (g && (f && !t))) := by show _ = _; unfold goodB; rw [hf, ht]; show (standB place id && _) = _; rw [hg]
   clear hf hg ht
   have st0 := HT.out
   clear HT
   go_wp2_with fail
   haveI : Nonempty (In (RSt w (some ⟨b0, o, none⟩) l)) := ⟨⟨_, st0⟩⟩
   have k0 : ∀ u : In (RSt w (some ⟨b0, o, none⟩) l), u.w.cell? ⟨b0, o + k * 4, none⟩ = some (.int .i64 id) := fun u => (HCL.out _ u.h).c0
   have k1 : ∀ u : In (RSt w (some ⟨b0, o, none⟩) l), u.w.cell? ⟨b0, o + k * 4 + 1, none⟩ = some (.int .i64 n) := fun u => (HCL.out _ u.h).c1
   have k2 : ∀ u : In (RSt w (some ⟨b0, o, none⟩) l), u.w.cell? ⟨b0, o + k * 4 + 2, none⟩ = some (.string s) := fun u => (HCL.out _ u.h).c2
   have k3 : ∀ u : In (RSt w (some ⟨b0, o, none⟩) l), u.w.cell? ⟨b0, o + k * 4 + 3, none⟩ = some (.string v) := fun u => (HCL.out _ u.h).c3
   cases f with
   | true =>
    cases g with
    | true =>
     refine region_in (S := RSt w (some ⟨b0, o, none⟩) l) (by kernel_rfl) (by kernel_rfl) (st0.drewN 1) ?_
     repeat (go_big_quiet_step (first | (go_at_call 87; exact in_call ((HFI.out _).mono fun _ _ h => ⟨h.1, RSt.below (In.h _) h.2⟩)) | (go_at_call 88; exact in_call ((HSI.out _).mono fun _ _ h => ⟨h.1, RSt.below (In.h _) h.2⟩)) | (go_at_call 89; exact in_call ((HTI.out _ (In.h _)).mono fun _ _ h => ⟨h.1, by rw [← h.2]; exact In.h _⟩))))
     refine wpQuiet_nil ?_
     rintro _ ⟨⟨w2, st2⟩, rfl⟩
     clear st0
     have HT2 := Lib.hid st2
     clear st2 k0 k1 k2 k3 HCL HFI HSI HTI d0 d1 d2 d3
     cases t with
     | true =>
      obtain rfl : z = false := HGS.out.trans (by rw [HGO.out]; rfl)
      go_wp2_with fail
      go_ret
      exact ⟨rfl, HT2.out.out.2⟩
     | false =>
      have HN : Hid (z = goodL place (l.take (k + 1)) (l.drop (k + 1))) := HGS.out.trans (by rw [HGO.out]; simp)
      go_wp2_with fail
      go_roundw
      case rel => exact ⟨k + 1, hlt, by go_num, HT2.out, HN.out⟩
      case measure => simp [RowKit.intOf]; omega
    | false =>
     obtain rfl : z = false := HGS.out.trans (by rw [HGO.out]; rfl)
     refine region_in (S := RSt w (some ⟨b0, o, none⟩) l) (by kernel_rfl) (by kernel_rfl) (st0.drewN 1) ?_
     repeat (go_big_quiet_step (first | (go_at_call 87; exact in_call ((HFI.out _).mono fun _ _ h => ⟨h.1, RSt.below (In.h _) h.2⟩)) | (go_at_call 88; exact in_call ((HSI.out _).mono fun _ _ h => ⟨h.1, RSt.below (In.h _) h.2⟩)) | (go_at_call 89; exact in_call ((HTI.out _ (In.h _)).mono fun _ _ h => ⟨h.1, by rw [← h.2]; exact In.h _⟩))))
     refine wpQuiet_nil ?_
     rintro _ ⟨⟨w2, st2⟩, rfl⟩
     clear st0
     have HT2 := Lib.hid st2
     clear st2 k0 k1 k2 k3 HCL HFI HSI HTI d0 d1 d2 d3
     go_wp2_with fail
     go_ret
     exact ⟨rfl, HT2.out.out.2⟩
   | false =>
    obtain rfl : z = false := HGS.out.trans (by rw [HGO.out]; cases g <;> rfl)
    refine region_in (S := RSt w (some ⟨b0, o, none⟩) l) (by kernel_rfl) (by kernel_rfl) (st0.drewN 1) ?_
    repeat (go_big_quiet_step (first | (go_at_call 87; exact in_call ((HFI.out _).mono fun _ _ h => ⟨h.1, RSt.below (In.h _) h.2⟩)) | (go_at_call 88; exact in_call ((HSI.out _).mono fun _ _ h => ⟨h.1, RSt.below (In.h _) h.2⟩)) | (go_at_call 89; exact in_call ((HTI.out _ (In.h _)).mono fun _ _ h => ⟨h.1, by rw [← h.2]; exact In.h _⟩))))
    refine wpQuiet_nil ?_
    rintro _ ⟨⟨w2, st2⟩, rfl⟩
    clear st0
    have HT2 := Lib.hid st2
    clear st2 k0 k1 k2 k3 HCL HFI HSI HTI d0 d1 d2 d3
    go_wp2_with fail
    go_ret
    exact ⟨rfl, HT2.out.out.2⟩
  ·obtain rfl : k = l.length := by omega
   have hgo : z = true := by have := HGD.out; rw [List.drop_length] at this; exact this
   subst hgo
   go_wp2_with fail
   go_ret
   exact ⟨rfl, HT.out.out.2⟩
open Go.RowKit Go.Lib Prp Vbi
@[irreducible] def RStP (w : World) (A : Option Addr) (l : List P) (g : Nat) (cs : Array Value) (W : World) : Prop := RSt w A l W ∧ Box W g cs
section
variable {w W W' : World} {A : Option Addr} {l : List P} {g : Nat} {cs : Array Value}
theorem RStP.mk (h1 : RSt w A l W) (h2 : Box W g cs) : RStP w A l g cs W := by unfold RStP; exact ⟨h1, h2⟩
theorem RStP.out (h : RStP w A l g cs W) : RSt w A l W ∧ Box W g cs := by unfold RStP at h; exact h
theorem RStP.below (h : RStP w A l g cs W) (hb : Below W.heap.size W W') : RStP w A l g cs W' := .mk (h.out.1.below hb) (h.out.2.below hb)
theorem RStP.drewN (h : RStP w A l g cs W) (n : Nat) : RStP w A l g cs (W.drewN n) := h.below (below_drewN (Below.refl _ _) n)
theorem RSt.alloc (h : RSt w A l W) (o : Obj) : RSt w A l (W.alloc o) := h.below ((Below.refl _ _).alloc (Nat.le_refl _) o)
theorem RStP.alloc (h : RStP w A l g cs W) (o : Obj) : RStP w A l g cs (W.alloc o) := h.below ((Below.refl _ _).alloc (Nat.le_refl _) o)
theorem RStP.new (h : RSt w A l W) (T : TypeId) : RStP w A l W.heap.size cs (W.alloc (.cells cs T)) := .mk (h.alloc _) (.new W T cs)
end
theorem RStP.four {w W : World} {A : Option Addr} {l : List P} {g : Nat} {x y : Int} {s v : ByteArray} (h : RStP w A l g #[.int .i64 x, .int .i64 y, .string s, .string v] W) :
  W.cell? ⟨g, 0, none⟩ = some (.int .i64 x) ∧ W.cell? ⟨g, 1, none⟩ = some (.int .i64 y) ∧ W.cell? ⟨g, 2, none⟩ = some (.string s) ∧ W.cell? ⟨g, 3, none⟩ = some (.string v) :=
 ⟨h.out.2.cell 0, h.out.2.cell 1, h.out.2.cell 2, h.out.2.cell 3⟩
theorem RNum_z (x : Int) (S : ByteArray) (w : World) (h0 : 0 ≤ x) (h1 : x < 268435456) (hS : strOfNums (numZ x.toNat) = S) :
  Calls Tryz.prog 56 #[.int .i64 x] w fun e w' => e = .returned (.string S) ∧ Below w.heap.size w w' := by
 subst hS
 obtain ⟨m, rfl⟩ := Int.eq_ofNat_of_zero_le h0
 exact RNum_ok m w (by omega)
open Go.RowKit Go.Lib Prp Vbi
theorem inner_is (x r : Int) (w : World) (h : inn x = r) :
  Calls Tryz.prog 155 #[.int .i64 x] w fun e w' => e = .returned (.int .i64 r) ∧ w = w' := by
 unfold inn at h
 by_cases h7 : x = 7
 ·subst h7
  obtain rfl : 8 = r := h
  go_enter Tryz.func155, Tryz.ntmps155
  go_wp2
  go_ret
  exact ⟨rfl, rfl⟩
 ·rw [if_neg h7] at h
  subst h
  have h7b := ne_false h7
  go_enter Tryz.func155, Tryz.ntmps155
  go_wp2
  go_ret
  exact ⟨rfl, rfl⟩
theorem RTakeFixed_z (wd : Nat) (s : ByteArray) (a b : Int) (c : Bool) (w : World) (hs : s.size ≤ 9223372036854775807) (hw : wd ≤ 4) (h1 : tfVal wd s.data.toList = a) (h2 : tfErr wd s.data.toList = b) (h3 : decide (b = 0) = c) :
  Calls Tryz.prog 152 #[.string s, .int .i64 (wd : Int)] w fun e w' => e = .returned (.tuple #[.int .i64 a, .bool c]) ∧ w = w' :=
 (RTakeFixed_ok s wd w hs hw).mono fun _ _ h => by
  unfold RTfOk at h
  rw [h1, h2, h3] at h
  exact ⟨h.1, h.2.symm⟩
theorem RTakeNum_z (s : ByteArray) (a b c : Int) (w : World) (hs : s.size ≤ 9223372036854775807) (h : tn s.data.toList = (a, b, c)) :
  Calls Tryz.prog 99 #[.string s] w fun e w' => e = .returned (.tuple #[.int .i64 a, .int .i64 b, .int .i64 c]) ∧ w = w' :=
 (RTakeNum_ok s w hs).mono fun e w' h2 => by
  unfold TnOk at h2
  rw [h] at h2
  exact ⟨h2.1, h2.2.symm⟩
@[irreducible] def Two (w : World) (g : Nat) (cs : Array Value) (k : Nat) (ds : Array Value) (W : World) : Prop := Box W g cs ∧ Box W k ds ∧ g ≠ k ∧ w.heap.size ≤ g ∧ w.heap.size ≤ k ∧ Below w.heap.size w W
section
variable {w W W' : World} {g k : Nat} {cs ds : Array Value}
theorem Two.out (h : Two w g cs k ds W) : Box W g cs ∧ Box W k ds ∧ g ≠ k ∧ w.heap.size ≤ g ∧ w.heap.size ≤ k ∧ Below w.heap.size w W := by unfold Two at h; exact h
theorem Two.mk (h : Box W g cs ∧ Box W k ds ∧ g ≠ k ∧ w.heap.size ≤ g ∧ w.heap.size ≤ k ∧ Below w.heap.size w W) : Two w g cs k ds W := by unfold Two; exact h
theorem Two.new (w : World) (T U : TypeId) (cs ds : Array Value) : Two w w.heap.size cs (w.heap.size + 1) ds ((w.alloc (.cells cs T)).alloc (.cells ds U)) := by
 have e : (w.alloc (.cells cs T)).heap.size = w.heap.size + 1 := by simp
 have h2 := Box.new (w.alloc (.cells cs T)) U ds
 rw [e] at h2
 exact .mk ⟨(Box.new w T cs).alloc _, h2, by omega, Nat.le_refl _, by omega, (((Below.refl _ _).alloc (Nat.le_refl _) _).alloc (by simp) _)⟩
theorem Two.below (h : Two w g cs k ds W) (hb : Below W.heap.size W W') : Two w g cs k ds W' :=
 .mk ⟨h.out.1.below hb, h.out.2.1.below hb, h.out.2.2.1, h.out.2.2.2.1, h.out.2.2.2.2.1, h.out.2.2.2.2.2.trans (hb.mono h.out.2.2.2.2.2.size)⟩
theorem Two.alloc (h : Two w g cs k ds W) (o : Obj) : Two w g cs k ds (W.alloc o) := h.below ((Below.refl _ _).alloc (Nat.le_refl _) _)
theorem Two.drew (h : Two w g cs k ds W) : Two w g cs k ds W.drew := h.below (below_drewN (Below.refl _ _) 1)
theorem Two.cell (h : Two w g cs k ds W) (i : Nat) : W.cell? ⟨g, i, none⟩ = cs[i]? := h.out.1.cell i
theorem Two.cell2 (h : Two w g cs k ds W) (i : Nat) : W.cell? ⟨k, i, none⟩ = ds[i]? := h.out.2.1.cell i
theorem Two.frozen (h : Two w g cs k ds W) (i : Nat) : W.frozen? ⟨g, i, none⟩ = false := h.out.1.frozen i
theorem Two.frozen2 (h : Two w g cs k ds W) (i : Nat) : W.frozen? ⟨k, i, none⟩ = false := h.out.2.1.frozen i
theorem Two.put2 (h : Two w g cs k ds W) (i : Nat) (v : Value) : Two w g cs k (ds.setIfInBounds i v) (W.setCell ⟨k, i, none⟩ v) :=
 .mk ⟨h.out.1.far (p := ⟨k, i, none⟩) h.out.2.2.1 v, h.out.2.1.put i v, h.out.2.2.1, h.out.2.2.2.1, h.out.2.2.2.2.1, h.out.2.2.2.2.2.setCell (p := ⟨k, i, none⟩) h.out.2.2.2.2.1 v⟩
theorem Two.end4 (h : Two w g cs k ds W) (a b c d : Value) : Below w.heap.size w ((((W.setCell ⟨g, 0, none⟩ a).setCell ⟨g, 1, none⟩ b).setCell ⟨g, 2, none⟩ c).setCell ⟨g, 3, none⟩ d) :=
 (((h.out.2.2.2.2.2.setCell (p := ⟨g, 0, none⟩) h.out.2.2.2.1 _).setCell (p := ⟨g, 1, none⟩) h.out.2.2.2.1 _).setCell (p := ⟨g, 2, none⟩) h.out.2.2.2.1 _).setCell (p := ⟨g, 3, none⟩) h.out.2.2.2.1 _
end
def Valued (id : Int) (t : Tk) (w : World) (e : Ending) (w' : World) : Prop :=
 ∃ (i n K : Int) (a b : ByteArray), e = .returned (.tuple #[.agg #[.int .i64 i, .int .i64 n, .string a, .string b], .int .i64 K, .int .i64 (inn t.e)]) ∧ (t.e = 0 → i = id ∧ n = t.n ∧ a = t.a ∧ b = t.b ∧ K = t.k) ∧ Below w.heap.size w w'
theorem value_fix (k id : Int) (wd : Nat) (s : ByteArray) (w : World) (hs : s.size ≤ 281474976710656) (hk : (k = 1 ∧ wd = 1) ∨ (k = 2 ∧ wd = 2) ∨ (k = 3 ∧ wd = 4)) (hkk : kindZ id = k) :
  Calls Tryz.prog 169 #[.int .i64 id, .string s] w (Valued id (tkFix wd s) w) := by
 have HK := Lib.hid (fun W => RKind_is id k W hkk)
 clear hkk
 have hw4 : wd ≤ 4 := by omega
 rcases fx_cases wd s with ⟨_, e, h1, h2⟩ | ⟨_, e, h1, h2⟩
 ·rw [e]
  have HT := Lib.hid (fun W => RTakeFixed_z wd s 0 7 false W (by omega) hw4 h1 h2 rfl)
  clear e h1 h2
  rcases hk with ⟨rfl, rfl⟩ | ⟨rfl, rfl⟩ | ⟨rfl, rfl⟩
  all_goals
   go_enter Tryz.func169, Tryz.ntmps169
   go_wp2_with fail
   have H0 := Lib.hid (Two.new w 103 103 #[.int .i64 0, .int .i64 0, .string ⟨#[]⟩, .string ⟨#[]⟩] #[.int .i64 id, .int .i64 0, .string ⟨#[]⟩, .string ⟨#[]⟩])
   obtain ⟨g1, hg1⟩ : ∃ g1, w.heap.size + 1 = g1 := ⟨_, rfl⟩
   obtain ⟨g, hg⟩ : ∃ g, w.heap.size = g := ⟨_, rfl⟩
   generalize (w.alloc (.cells #[.int .i64 0, .int .i64 0, .string ⟨#[]⟩, .string ⟨#[]⟩] 103)).alloc (.cells #[.int .i64 id, .int .i64 0, .string ⟨#[]⟩, .string ⟨#[]⟩] 103) = w0 at H0 ⊢
   rw [hg1, hg] at H0
   rw [hg1, hg]
   clear hg hg1
   refine (HK.out _).mono ?_
   rintro e w' ⟨rfl, rfl⟩
   go_wp2_with fail
   refine (HT.out _).mono ?_
   rintro e w' ⟨rfl, rfl⟩
   have H1 := Lib.hid (H0.out.alloc (.cells #[.int .i64 0, .int .i64 1, .int .i64 2, .int .i64 4] 3))
   generalize w0.alloc (.cells #[.int .i64 0, .int .i64 1, .int .i64 2, .int .i64 4] 3) = w1 at H1 ⊢
   clear H0 HK HT
   have c0 := H1.out.cell2 0
   have c1 := H1.out.cell2 1
   have c2 := H1.out.cell2 2
   have c3 := H1.out.cell2 3
   have q0 := H1.out.cell 0
   have q1 := H1.out.cell 1
   have q2 := H1.out.cell 2
   have q3 := H1.out.cell 3
   have f0 := H1.out.frozen 0
   have f1 := H1.out.frozen 1
   have f2 := H1.out.frozen 2
   have f3 := H1.out.frozen 3
   simp only [List.getElem?_toArray, List.getElem?_cons_zero, List.getElem?_cons_succ] at c0 c1 c2 c3 q0 q1 q2 q3
   go_wp2_with fail
   refine bodyPost_ret (v := .tuple #[.agg #[.int .i64 id, .int .i64 0, .string ⟨#[]⟩, .string ⟨#[]⟩], .int .i64 0, .int .i64 8]) (by simp [results, Tryz.results169, go_sem, q0, q1, q2, q3]) rfl ⟨id, 0, 0, _, _, rfl, fun e => (by cases e), H1.out.end4 _ _ _ _⟩
 ·obtain ⟨m, hm⟩ : ∃ m, fixVal (s.data.toList.take wd) = m := ⟨_, rfl⟩
  rw [e]
  rw [hm] at h1 ⊢
  have HT := Lib.hid (fun W => RTakeFixed_z wd s (m : Int) 0 true W (by omega) hw4 h1 h2 rfl)
  clear e h1 h2 hm
  rcases hk with ⟨rfl, rfl⟩ | ⟨rfl, rfl⟩ | ⟨rfl, rfl⟩
  all_goals
   go_enter Tryz.func169, Tryz.ntmps169
   go_wp2_with fail
   have H0 := Lib.hid (Two.new w 103 103 #[.int .i64 0, .int .i64 0, .string ⟨#[]⟩, .string ⟨#[]⟩] #[.int .i64 id, .int .i64 0, .string ⟨#[]⟩, .string ⟨#[]⟩])
   obtain ⟨g1, hg1⟩ : ∃ g1, w.heap.size + 1 = g1 := ⟨_, rfl⟩
   obtain ⟨g, hg⟩ : ∃ g, w.heap.size = g := ⟨_, rfl⟩
   generalize (w.alloc (.cells #[.int .i64 0, .int .i64 0, .string ⟨#[]⟩, .string ⟨#[]⟩] 103)).alloc (.cells #[.int .i64 id, .int .i64 0, .string ⟨#[]⟩, .string ⟨#[]⟩] 103) = w0 at H0 ⊢
   rw [hg1, hg] at H0
   rw [hg1, hg]
   clear hg hg1
   refine (HK.out _).mono ?_
   rintro e w' ⟨rfl, rfl⟩
   go_wp2_with fail
   refine (HT.out _).mono ?_
   rintro e w' ⟨rfl, rfl⟩
   have H1 := Lib.hid (H0.out.alloc (.cells #[.int .i64 0, .int .i64 1, .int .i64 2, .int .i64 4] 3))
   generalize w0.alloc (.cells #[.int .i64 0, .int .i64 1, .int .i64 2, .int .i64 4] 3) = w1 at H1 ⊢
   clear H0 HK HT
   have c0 := H1.out.cell2 0
   have c1 := H1.out.cell2 1
   have c2 := H1.out.cell2 2
   have c3 := H1.out.cell2 3
   have q0 := H1.out.cell 0
   have q1 := H1.out.cell 1
   have q2 := H1.out.cell 2
   have q3 := H1.out.cell 3
   have f0 := H1.out.frozen 0
   have f1 := H1.out.frozen 1
   have f2 := H1.out.frozen 2
   have f3 := H1.out.frozen 3
   have fb0 := H1.out.frozen2 0
   have fb1 := H1.out.frozen2 1
   have fb2 := H1.out.frozen2 2
   have fb3 := H1.out.frozen2 3
   simp only [List.getElem?_toArray, List.getElem?_cons_zero, List.getElem?_cons_succ] at c0 q0 c1 q1 c2 q2 c3 q3
   have H2 := Lib.hid (H1.out.put2 1 (.int .i64 (m : Int)))
   have d0 := H2.out.cell2 0
   have d1 := H2.out.cell2 1
   have d2 := H2.out.cell2 2
   have d3 := H2.out.cell2 3
   have r0 := H2.out.cell 0
   have r1 := H2.out.cell 1
   have r2 := H2.out.cell 2
   have r3 := H2.out.cell 3
   have s0 := H2.out.frozen 0
   have s1 := H2.out.frozen 1
   have s2 := H2.out.frozen 2
   have s3 := H2.out.frozen 3
   have sb0 := H2.out.frozen2 0
   have sb1 := H2.out.frozen2 1
   have sb2 := H2.out.frozen2 2
   have sb3 := H2.out.frozen2 3
   simp only [List.getElem?_toArray, List.getElem?_cons_zero, List.getElem?_cons_succ] at d0 r0 d1 r1 d2 r2 d3 r3
   go_wp2_with fail
   refine bodyPost_ret (v := .tuple #[.agg #[.int .i64 id, .int .i64 (m : Int), .string ⟨#[]⟩, .string ⟨#[]⟩], .int .i64 _, .int .i64 0]) (by simp [results, Tryz.results169, go_sem, r0, r1, r2, r3]) rfl ⟨id, (m : Int), _, _, _, rfl, fun _ => ⟨rfl, rfl, rfl, rfl, rfl⟩, H2.out.end4 _ _ _ _⟩
theorem value_num (id : Int) (s : ByteArray) (w : World) (hs : s.size ≤ 281474976710656) (hkk : kindZ id = 4) :
  Calls Tryz.prog 169 #[.int .i64 id, .string s] w (Valued id (tkNum s) w) := by
 have HK := Lib.hid (fun W => RKind_is id 4 W hkk)
 clear hkk
 obtain ⟨a, b, c, ht⟩ : ∃ a b c, tn s.data.toList = (a, b, c) := ⟨_, _, _, rfl⟩
 have e : tkNum s = ⟨a, ⟨#[]⟩, ⟨#[]⟩, b, c⟩ := by unfold tkNum; rw [ht]
 rw [e]
 have HT := Lib.hid (fun W => RTakeNum_z s a b c W (by omega) ht)
 obtain ⟨r, hr⟩ : ∃ r, inn c = r := ⟨_, rfl⟩
 have HI := Lib.hid (fun W => inner_is c r W hr)
 have HR := Lib.hid hr
 clear e ht hr
 go_enter Tryz.func169, Tryz.ntmps169
 go_wp2_with fail
 have H0 := Lib.hid (Two.new w 103 103 #[.int .i64 0, .int .i64 0, .string ⟨#[]⟩, .string ⟨#[]⟩] #[.int .i64 id, .int .i64 0, .string ⟨#[]⟩, .string ⟨#[]⟩])
 obtain ⟨g1, hg1⟩ : ∃ g1, w.heap.size + 1 = g1 := ⟨_, rfl⟩
 obtain ⟨g, hg⟩ : ∃ g, w.heap.size = g := ⟨_, rfl⟩
 generalize (w.alloc (.cells #[.int .i64 0, .int .i64 0, .string ⟨#[]⟩, .string ⟨#[]⟩] 103)).alloc (.cells #[.int .i64 id, .int .i64 0, .string ⟨#[]⟩, .string ⟨#[]⟩] 103) = w0 at H0 ⊢
 rw [hg1, hg] at H0
 rw [hg1, hg]
 clear hg hg1
 refine (HK.out _).mono ?_
 rintro e w' ⟨rfl, rfl⟩
 go_wp2_with fail
 refine (HT.out _).mono ?_
 rintro e w' ⟨rfl, rfl⟩
 have fb := H0.out.frozen2 1
 have c1 := H0.out.cell2 1
 simp only [List.getElem?_toArray, List.getElem?_cons_zero, List.getElem?_cons_succ] at c1
 go_wp2_with fail
 have H2 := Lib.hid (H0.out.put2 1 (.int .i64 a))
 generalize w0.setCell ⟨g1, 1, none⟩ (.int .i64 a) = w2 at H2 ⊢
 clear H0 HK HT fb c1
 obtain ⟨w9, hw9⟩ : ∃ w9, w2.drew = w9 := ⟨_, rfl⟩
 have H9 := Lib.hid H2.out.drew
 rw [hw9] at H9
 have c0 := H2.out.cell2 0
 have c1 := H2.out.cell2 1
 have c2 := H2.out.cell2 2
 have c3 := H2.out.cell2 3
 have q0 := H2.out.cell 0
 have q1 := H2.out.cell 1
 have q2 := H2.out.cell 2
 have q3 := H2.out.cell 3
 have f0 := H2.out.frozen 0
 have f1 := H2.out.frozen 1
 have f2 := H2.out.frozen 2
 have f3 := H2.out.frozen 3
 have HD := Lib.hid H2.out.drew
 simp only [List.setIfInBounds_toArray, List.set_cons_zero, List.set_cons_succ, List.getElem?_toArray, List.getElem?_cons_zero, List.getElem?_cons_succ] at c0 c1 c2 c3 q0 q1 q2 q3
 clear H9 hw9
 go_region_with (go_at_call 155; refine (HI.out _).mono ?_; rintro e w' ⟨rfl, rfl⟩)
 all_goals
  try go_wp2_with fail
  rw [← HR.out]
  refine bodyPost_ret (v := .tuple #[.agg #[.int .i64 id, .int .i64 a, .string ⟨#[]⟩, .string ⟨#[]⟩], .int .i64 b, .int .i64 (inn c)]) (by simp [results, Tryz.results169, go_sem, q0, q1, q2, q3]) rfl ⟨_, _, _, _, _, rfl, fun _ => ⟨rfl, rfl, rfl, rfl, rfl⟩, HD.out.end4 _ _ _ _⟩
end Go.Proofs.YtiancngpknnkaaaGreat
