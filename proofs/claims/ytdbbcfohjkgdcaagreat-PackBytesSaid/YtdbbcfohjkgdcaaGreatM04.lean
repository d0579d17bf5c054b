/- The document's own answer: a number as two bytes. -/
import Derived.Test.YtdbbcfohjkgdcaaGreatM00
import Derived.Test.YtdbbcfohjkgdcaaGreatM03
set_option maxRecDepth 100000
set_option maxHeartbeats 64000000
namespace Go.Proofs.YtdbbcfohjkgdcaaGreat
open Go.RowKit Go.Lib Txt
def byt (s : ByteArray) (k : Nat) : Nat := (s.data.toList.getD k 0).toNat
theorem byt_at (s : ByteArray) (k : Nat) (h : k < s.size) : s[k].toNat = byt s k := by
 unfold byt
 rw [Lib.getD_at s k h]
theorem byt_lt (s : ByteArray) (k : Nat) : byt s k < 256 := UInt8.toNat_lt _
theorem pt_byt (s : ByteArray) : pt s.data.toList = ptN s.size (byt s 0) (byt s 1) (byt s 2) (byt s 3) := by
 unfold pt byt; rw [← Lib.size_eq]
def racc (s : ByteArray) (c0 : Int) : Nat → Int
 | 0 => c0
 | k + 1 => racc s c0 k * 64 + (byt s (k + 1) : Int) - 128
def conts (s : ByteArray) (k : Nat) : Prop := ∀ j, 1 ≤ j → j ≤ k → 128 ≤ byt s j ∧ byt s j < 192
theorem conts_zero (s : ByteArray) : conts s 0 := fun j h1 h2 => by omega
theorem conts_succ {s : ByteArray} {k : Nat} (h : conts s k) (h1 : 128 ≤ byt s (k + 1)) (h2 : byt s (k + 1) < 192) : conts s (k + 1) := fun j a b => by
 by_cases e : j = k + 1
 ·subst e; exact ⟨h1, h2⟩
 ·exact h j a (by omega)
theorem racc_bd (s : ByteArray) (c0 : Int) (k : Nat) (hk : k ≤ 3) (h0 : 0 ≤ c0) (h1 : c0 < 32) (hc : conts s k) : 0 ≤ racc s c0 k ∧ racc s c0 k < 100000000 := by
 have a1 := hc 1 (by omega)
 have a2 := hc 2 (by omega)
 have a3 := hc 3 (by omega)
 match k, hk with
 | 0, _ => simp only [racc]; omega
 | 1, _ => simp only [racc, Nat.zero_add]; omega
 | 2, _ => simp only [racc, Nat.zero_add, Nat.reduceAdd]; omega
 | 3, _ => simp only [racc, Nat.zero_add, Nat.reduceAdd]; omega
theorem ret_pt {d : Nat × Nat} {a b : Int} (h : ((d.1 : Int), (d.2 : Int)) = (a, b)) : Ending.returned (.tuple #[.int .i64 a, .int .i64 b]) = .returned (.tuple #[.int .i64 (d.1 : Int), .int .i64 (d.2 : Int)]) := by
 obtain ⟨rfl, rfl⟩ := Prod.mk.inj h; rfl
theorem bad_two (s : ByteArray) (h : 192 ≤ byt s 0 ∧ byt s 0 < 224) (hb : s.size < 2 ∨ ∃ j, 1 ≤ j ∧ j < 2 ∧ ¬ (128 ≤ byt s j ∧ byt s j < 192)) : pt s.data.toList = (0, 0) := by
 rw [pt_byt, ptN_two _ _ _ _ _ h (byt_lt s 1) _ rfl]
 apply if_neg
 intro x
 rcases hb with hb | ⟨j, h1, h2, h3⟩
 ·omega
 ·apply h3
  obtain rfl | rfl | rfl : j = 1 ∨ j = 2 ∨ j = 3 := by omega
  all_goals omega
theorem end_two (s : ByteArray) (h : 192 ≤ byt s 0 ∧ byt s 0 < 224) (hs : 2 ≤ s.size) (hc : conts s 1) :
  pt s.data.toList = if 128 ≤ racc s ((byt s 0 : Int) - 192) 1 ∧ good (racc s ((byt s 0 : Int) - 192) 1) = true then ((racc s ((byt s 0 : Int) - 192) 1).toNat, 2) else (0, 0) := by
 have a1 := hc 1 (by omega)
 have a2 := hc 2 (by omega)
 have a3 := hc 3 (by omega)
 have e : (((byt s 0 - 192) * 64 + (byt s 1 - 128) : Nat) : Int) = racc s ((byt s 0 : Int) - 192) 1 := by simp only [racc, Nat.zero_add]; omega
 rw [pt_byt, ptN_two _ _ _ _ _ h (byt_lt s 1) _ rfl, e, ← e]
 simp only [Int.toNat_natCast]
 by_cases hg : good (((byt s 0 - 192) * 64 + (byt s 1 - 128) : Nat) : Int) = true
 ·by_cases hl : 128 ≤ (byt s 0 - 192) * 64 + (byt s 1 - 128)
  ·rw [if_pos, if_pos]
   ·exact ⟨by omega, hg⟩
   ·refine ⟨hs, ?_⟩; simp only [hg, hl, and_true, and_self]; omega
  ·rw [if_neg (fun x => hl (by omega)), if_neg (fun x => hl (by omega))]
 ·rw [if_neg (fun x => hg (by simp only [x])), if_neg (fun x => hg x.2)]
theorem point_two (s : ByteArray) (w : World) (hs : 0 < s.size) (hm : s.size ≤ 9223372036854775807) (hb : 192 ≤ byt s 0) (hb' : byt s 0 < 224) :
  Calls Tryz.prog 100 #[.string s] w fun e w' => e = .returned (.tuple #[.int .i64 ((pt s.data.toList).1 : Int), .int .i64 ((pt s.data.toList).2 : Int)]) ∧ w' = w := by
 have g0 : 192 ≤ s[0].toNat := by rw [byt_at]; exact hb
 have g1 : s[0].toNat < 224 := by rw [byt_at]; exact hb'
 by_cases h3 : s.size < 2
 ·have H := Lib.hid (bad_two s ⟨hb, hb'⟩ (.inl h3))
  go_enter Tryz.func100, Tryz.ntmps100
  go_wp2
  go_ret2
  exact ⟨ret_pt (by rw [H.out]; rfl), rfl⟩
 ·have h3' : 2 ≤ s.size := by omega
  have hd : decide ((s.size : Int) < 2) = false := by simp; omega
  have hd2 : decide ((s[0].toNat : Int) < 224) = true := by simp; omega
  have H0 := Lib.hid (byt_at s 0 hs)
  go_enter Tryz.func100, Tryz.ntmps100
  go_wp2_with fail
  go_loop [7, 8] (fun r i => ∃ k : Nat, k + 1 ≤ 2 ∧ i = .int .i64 ((k + 1 : Nat) : Int) ∧ r = .int .i64 (racc s ((byt s 0 : Int) - 192) k) ∧ conts s k) (fun _ i => 2 - (RowKit.intOf i).toNat)
  case atStart => exact ⟨0, by omega, rfl, by rw [H0.out]; rfl, conts_zero s⟩
  case round =>
   obtain ⟨k, hk, rfl, rfl, hc⟩ := hrel
   obtain ⟨r0, r1⟩ := racc_bd s ((byt s 0 : Int) - 192) k (by omega) (by omega) (by omega) hc
   by_cases hlt : k + 1 < 2
   ·have hlt' : k + 1 < s.size := by omega
    have HB := Lib.hid (byt_at s (k + 1) hlt')
    have hu : s[k + 1].toNat < 256 := UInt8.toNat_lt _
    have HC := Lib.hid hc
    clear hc
    by_cases c1 : s[k + 1].toNat < 128
    ·have HX := Lib.hid (bad_two s ⟨hb, hb'⟩ (.inr ⟨k + 1, by omega, hlt, fun x => by rw [← HB.out] at x; omega⟩))
     go_wp2_with fail
     go_ret2
     exact ⟨ret_pt (by rw [HX.out]; rfl), rfl⟩
    ·by_cases c2 : 192 ≤ s[k + 1].toNat
     ·have HX := Lib.hid (bad_two s ⟨hb, hb'⟩ (.inr ⟨k + 1, by omega, hlt, fun x => by rw [← HB.out] at x; omega⟩))
      go_wp2_with fail
      go_ret2
      exact ⟨ret_pt (by rw [HX.out]; rfl), rfl⟩
     ·go_wp2_with fail
      go_round
      case rel => exact ⟨k + 1, hlt, by go_num, by rw [HB.out]; rfl, conts_succ HC.out (by rw [← HB.out]; omega) (by rw [← HB.out]; omega)⟩
      case measure => simp [RowKit.intOf]; omega
   ·obtain rfl : k = 1 := by omega
    have HE := Lib.hid (end_two s ⟨hb, hb'⟩ h3' hc)
    clear hc hlt
    generalize racc s ((byt s 0 : Int) - 192) 1 = R at r0 r1 HE
    cases hg : good R with
    | false =>
     have HX := Lib.hid (HE.out.trans (if_neg (fun x => by rw [hg] at x; cases x.2)))
     have hg' := Lib.hid hg
     clear hg HE
     by_cases hl : R < 128
     all_goals
      go_wp2_with (go_at_call 116; refine (good_any _ _ (by omega) (by omega)).mono ?_; rw [hg'.out]; rintro e w' ⟨rfl, rfl⟩)
      go_ret2
      exact ⟨ret_pt (by rw [HX.out]; rfl), rfl⟩
    | true =>
     have hg' := Lib.hid hg
     by_cases hl : R < 128
     ·have HX := Lib.hid (HE.out.trans (if_neg (fun x => by omega)))
      clear hg HE
      go_wp2_with (go_at_call 116; refine (good_any _ _ (by omega) (by omega)).mono ?_; rw [hg'.out]; rintro e w' ⟨rfl, rfl⟩)
      go_ret2
      exact ⟨ret_pt (by rw [HX.out]; rfl), rfl⟩
     ·have HX := Lib.hid (HE.out.trans (if_pos ⟨by omega, hg⟩))
      clear hg HE
      go_wp2_with (go_at_call 116; refine (good_any _ _ (by omega) (by omega)).mono ?_; rw [hg'.out]; rintro e w' ⟨rfl, rfl⟩)
      go_ret2
      exact ⟨ret_pt (by rw [HX.out]; simp only [Int.toNat_of_nonneg r0]; rfl), rfl⟩
theorem bad_three (s : ByteArray) (h : 224 ≤ byt s 0 ∧ byt s 0 < 240) (hb : s.size < 3 ∨ ∃ j, 1 ≤ j ∧ j < 3 ∧ ¬ (128 ≤ byt s j ∧ byt s j < 192)) : pt s.data.toList = (0, 0) := by
 rw [pt_byt, ptN_three _ _ _ _ _ h (byt_lt s 1) (byt_lt s 2) _ rfl]
 apply if_neg
 intro x
 rcases hb with hb | ⟨j, h1, h2, h3⟩
 ·omega
 ·apply h3
  obtain rfl | rfl | rfl : j = 1 ∨ j = 2 ∨ j = 3 := by omega
  all_goals omega
theorem end_three (s : ByteArray) (h : 224 ≤ byt s 0 ∧ byt s 0 < 240) (hs : 3 ≤ s.size) (hc : conts s 2) :
  pt s.data.toList = if 2048 ≤ racc s ((byt s 0 : Int) - 224) 2 ∧ good (racc s ((byt s 0 : Int) - 224) 2) = true then ((racc s ((byt s 0 : Int) - 224) 2).toNat, 3) else (0, 0) := by
 have a1 := hc 1 (by omega)
 have a2 := hc 2 (by omega)
 have a3 := hc 3 (by omega)
 have e : ((((byt s 0 - 224) * 64 + (byt s 1 - 128)) * 64 + (byt s 2 - 128) : Nat) : Int) = racc s ((byt s 0 : Int) - 224) 2 := by simp only [racc, Nat.zero_add, Nat.reduceAdd]; omega
 rw [pt_byt, ptN_three _ _ _ _ _ h (byt_lt s 1) (byt_lt s 2) _ rfl, e, ← e]
 simp only [Int.toNat_natCast]
 by_cases hg : good ((((byt s 0 - 224) * 64 + (byt s 1 - 128)) * 64 + (byt s 2 - 128) : Nat) : Int) = true
 ·by_cases hl : 2048 ≤ ((byt s 0 - 224) * 64 + (byt s 1 - 128)) * 64 + (byt s 2 - 128)
  ·rw [if_pos, if_pos]
   ·exact ⟨by omega, hg⟩
   ·refine ⟨hs, ?_⟩; simp only [hg, hl, and_true, and_self]; omega
  ·rw [if_neg (fun x => hl (by omega)), if_neg (fun x => hl (by omega))]
 ·rw [if_neg (fun x => hg (by simp only [x])), if_neg (fun x => hg x.2)]
theorem point_three (s : ByteArray) (w : World) (hs : 0 < s.size) (hm : s.size ≤ 9223372036854775807) (hb : 224 ≤ byt s 0) (hb' : byt s 0 < 240) :
  Calls Tryz.prog 100 #[.string s] w fun e w' => e = .returned (.tuple #[.int .i64 ((pt s.data.toList).1 : Int), .int .i64 ((pt s.data.toList).2 : Int)]) ∧ w' = w := by
 have g0 : 224 ≤ s[0].toNat := by rw [byt_at]; exact hb
 have g1 : s[0].toNat < 240 := by rw [byt_at]; exact hb'
 by_cases h3 : s.size < 3
 ·have H := Lib.hid (bad_three s ⟨hb, hb'⟩ (.inl h3))
  go_enter Tryz.func100, Tryz.ntmps100
  go_wp2
  go_ret2
  exact ⟨ret_pt (by rw [H.out]; rfl), rfl⟩
 ·have h3' : 3 ≤ s.size := by omega
  have hd : decide ((s.size : Int) < 3) = false := by simp; omega
  have hd2 : decide ((s[0].toNat : Int) < 240) = true := by simp; omega
  have H0 := Lib.hid (byt_at s 0 hs)
  go_enter Tryz.func100, Tryz.ntmps100
  go_wp2_with fail
  go_loop [7, 8] (fun r i => ∃ k : Nat, k + 1 ≤ 3 ∧ i = .int .i64 ((k + 1 : Nat) : Int) ∧ r = .int .i64 (racc s ((byt s 0 : Int) - 224) k) ∧ conts s k) (fun _ i => 3 - (RowKit.intOf i).toNat)
  case atStart => exact ⟨0, by omega, rfl, by rw [H0.out]; rfl, conts_zero s⟩
  case round =>
   obtain ⟨k, hk, rfl, rfl, hc⟩ := hrel
   obtain ⟨r0, r1⟩ := racc_bd s ((byt s 0 : Int) - 224) k (by omega) (by omega) (by omega) hc
   by_cases hlt : k + 1 < 3
   ·have hlt' : k + 1 < s.size := by omega
    have HB := Lib.hid (byt_at s (k + 1) hlt')
    have hu : s[k + 1].toNat < 256 := UInt8.toNat_lt _
    have HC := Lib.hid hc
    clear hc
    by_cases c1 : s[k + 1].toNat < 128
    ·have HX := Lib.hid (bad_three s ⟨hb, hb'⟩ (.inr ⟨k + 1, by omega, hlt, fun x => by rw [← HB.out] at x; omega⟩))
     go_wp2_with fail
     go_ret2
     exact ⟨ret_pt (by rw [HX.out]; rfl), rfl⟩
    ·by_cases c2 : 192 ≤ s[k + 1].toNat
     ·have HX := Lib.hid (bad_three s ⟨hb, hb'⟩ (.inr ⟨k + 1, by omega, hlt, fun x => by rw [← HB.out] at x; omega⟩))
      go_wp2_with fail
      go_ret2
      exact ⟨ret_pt (by rw [HX.out]; rfl), rfl⟩
     ·go_wp2_with fail
      go_round
      case rel => exact ⟨k + 1, hlt, by go_num, by rw [HB.out]; rfl, conts_succ HC.out (by rw [← HB.out]; omega) (by rw [← HB.out]; omega)⟩
      case measure => simp [RowKit.intOf]; omega
   ·obtain rfl : k = 2 := by omega
    have HE := Lib.hid (end_three s ⟨hb, hb'⟩ h3' hc)
    clear hc hlt
    generalize racc s ((byt s 0 : Int) - 224) 2 = R at r0 r1 HE
    cases hg : good R with
    | false =>
     have HX := Lib.hid (HE.out.trans (if_neg (fun x => by rw [hg] at x; cases x.2)))
     have hg' := Lib.hid hg
     clear hg HE
     by_cases hl : R < 2048
     all_goals
      go_wp2_with (go_at_call 116; refine (good_any _ _ (by omega) (by omega)).mono ?_; rw [hg'.out]; rintro e w' ⟨rfl, rfl⟩)
      go_ret2
      exact ⟨ret_pt (by rw [HX.out]; rfl), rfl⟩
    | true =>
     have hg' := Lib.hid hg
     by_cases hl : R < 2048
     ·have HX := Lib.hid (HE.out.trans (if_neg (fun x => by omega)))
      clear hg HE
      go_wp2_with (go_at_call 116; refine (good_any _ _ (by omega) (by omega)).mono ?_; rw [hg'.out]; rintro e w' ⟨rfl, rfl⟩)
      go_ret2
      exact ⟨ret_pt (by rw [HX.out]; rfl), rfl⟩
     ·have HX := Lib.hid (HE.out.trans (if_pos ⟨by omega, hg⟩))
      clear hg HE
      go_wp2_with (go_at_call 116; refine (good_any _ _ (by omega) (by omega)).mono ?_; rw [hg'.out]; rintro e w' ⟨rfl, rfl⟩)
      go_ret2
      exact ⟨ret_pt (by rw [HX.out]; simp only [Int.toNat_of_nonneg r0]; rfl), rfl⟩
theorem bad_four (s : ByteArray) (h : 240 ≤ byt s 0 ∧ byt s 0 < 248) (hb : s.size < 4 ∨ ∃ j, 1 ≤ j ∧ j < 4 ∧ ¬ (128 ≤ byt s j ∧ byt s j < 192)) : pt s.data.toList = (0, 0) := by
 rw [pt_byt, ptN_four _ _ _ _ _ h (byt_lt s 1) (byt_lt s 2) (byt_lt s 3) _ rfl]
 apply if_neg
 intro x
 rcases hb with hb | ⟨j, h1, h2, h3⟩
 ·omega
 ·apply h3
  obtain rfl | rfl | rfl : j = 1 ∨ j = 2 ∨ j = 3 := by omega
  all_goals omega
theorem end_four (s : ByteArray) (h : 240 ≤ byt s 0 ∧ byt s 0 < 248) (hs : 4 ≤ s.size) (hc : conts s 3) :
  pt s.data.toList = if 65536 ≤ racc s ((byt s 0 : Int) - 240) 3 ∧ good (racc s ((byt s 0 : Int) - 240) 3) = true then ((racc s ((byt s 0 : Int) - 240) 3).toNat, 4) else (0, 0) := by
 have a1 := hc 1 (by omega)
 have a2 := hc 2 (by omega)
 have a3 := hc 3 (by omega)
 have e : (((((byt s 0 - 240) * 64 + (byt s 1 - 128)) * 64 + (byt s 2 - 128)) * 64 + (byt s 3 - 128) : Nat) : Int) = racc s ((byt s 0 : Int) - 240) 3 := by simp only [racc, Nat.zero_add, Nat.reduceAdd]; omega
 rw [pt_byt, ptN_four _ _ _ _ _ h (byt_lt s 1) (byt_lt s 2) (byt_lt s 3) _ rfl, e, ← e]
 simp only [Int.toNat_natCast]
 by_cases hg : good (((((byt s 0 - 240) * 64 + (byt s 1 - 128)) * 64 + (byt s 2 - 128)) * 64 + (byt s 3 - 128) : Nat) : Int) = true
 ·by_cases hl : 65536 ≤ (((byt s 0 - 240) * 64 + (byt s 1 - 128)) * 64 + (byt s 2 - 128)) * 64 + (byt s 3 - 128)
  ·rw [if_pos, if_pos]
   ·exact ⟨by omega, hg⟩
   ·refine ⟨hs, ?_⟩; simp only [hg, hl, and_true, and_self]; omega
  ·rw [if_neg (fun x => hl (by omega)), if_neg (fun x => hl (by omega))]
 ·rw [if_neg (fun x => hg (by simp only [x])), if_neg (fun x => hg x.2)]
theorem point_four (s : ByteArray) (w : World) (hs : 0 < s.size) (hm : s.size ≤ 9223372036854775807) (hb : 240 ≤ byt s 0) (hb' : byt s 0 < 248) :
  Calls Tryz.prog 100 #[.string s] w fun e w' => e = .returned (.tuple #[.int .i64 ((pt s.data.toList).1 : Int), .int .i64 ((pt s.data.toList).2 : Int)]) ∧ w' = w := by
 have g0 : 240 ≤ s[0].toNat := by rw [byt_at]; exact hb
 have g1 : s[0].toNat < 248 := by rw [byt_at]; exact hb'
 by_cases h3 : s.size < 4
 ·have H := Lib.hid (bad_four s ⟨hb, hb'⟩ (.inl h3))
  go_enter Tryz.func100, Tryz.ntmps100
  go_wp2
  go_ret2
  exact ⟨ret_pt (by rw [H.out]; rfl), rfl⟩
 ·have h3' : 4 ≤ s.size := by omega
  have hd : decide ((s.size : Int) < 4) = false := by simp; omega
  have hd2 : decide ((s[0].toNat : Int) < 248) = true := by simp; omega
  have H0 := Lib.hid (byt_at s 0 hs)
  go_enter Tryz.func100, Tryz.ntmps100
  go_wp2_with fail
  go_loop [7, 8] (fun r i => ∃ k : Nat, k + 1 ≤ 4 ∧ i = .int .i64 ((k + 1 : Nat) : Int) ∧ r = .int .i64 (racc s ((byt s 0 : Int) - 240) k) ∧ conts s k) (fun _ i => 4 - (RowKit.intOf i).toNat)
  case atStart => exact ⟨0, by omega, rfl, by rw [H0.out]; rfl, conts_zero s⟩
  case round =>
   obtain ⟨k, hk, rfl, rfl, hc⟩ := hrel
   obtain ⟨r0, r1⟩ := racc_bd s ((byt s 0 : Int) - 240) k (by omega) (by omega) (by omega) hc
   by_cases hlt : k + 1 < 4
   ·have hlt' : k + 1 < s.size := by omega
    have HB := Lib.hid (byt_at s (k + 1) hlt')
    have hu : s[k + 1].toNat < 256 := UInt8.toNat_lt _
    have HC := Lib.hid hc
    clear hc
    by_cases c1 : s[k + 1].toNat < 128
    ·have HX := Lib.hid (bad_four s ⟨hb, hb'⟩ (.inr ⟨k + 1, by omega, hlt, fun x => by rw [← HB.out] at x; omega⟩))
     go_wp2_with fail
     go_ret2
     exact ⟨ret_pt (by rw [HX.out]; rfl), rfl⟩
    ·by_cases c2 : 192 ≤ s[k + 1].toNat
     ·have HX := Lib.hid (bad_four s ⟨hb, hb'⟩ (.inr ⟨k + 1, by omega, hlt, fun x => by rw [← HB.out] at x; omega⟩))
      go_wp2_with fail
      go_ret2
      exact ⟨ret_pt (by rw [HX.out]; rfl), rfl⟩
     ·go_wp2_with fail
      go_round
      case rel => exact ⟨k + 1, hlt, by go_num, by rw [HB.out]; rfl, conts_succ HC.out (by rw [← HB.out]; omega) (by rw [← HB.out]; omega)⟩
      case measure => simp [RowKit.intOf]; omega
   ·obtain rfl : k = 3 := by omega
    have HE := Lib.hid (end_four s ⟨hb, hb'⟩ h3' hc)
    clear hc hlt
    generalize racc s ((byt s 0 : Int) - 240) 3 = R at r0 r1 HE
    cases hg : good R with
    | false =>
     have HX := Lib.hid (HE.out.trans (if_neg (fun x => by rw [hg] at x; cases x.2)))
     have hg' := Lib.hid hg
     clear hg HE
     by_cases hl : R < 65536
     all_goals
      go_wp2_with (go_at_call 116; refine (good_any _ _ (by omega) (by omega)).mono ?_; rw [hg'.out]; rintro e w' ⟨rfl, rfl⟩)
      go_ret2
      exact ⟨ret_pt (by rw [HX.out]; rfl), rfl⟩
    | true =>
     have hg' := Lib.hid hg
     by_cases hl : R < 65536
     ·have HX := Lib.hid (HE.out.trans (if_neg (fun x => by omega)))
      clear hg HE
      go_wp2_with (go_at_call 116; refine (good_any _ _ (by omega) (by omega)).mono ?_; rw [hg'.out]; rintro e w' ⟨rfl, rfl⟩)
      go_ret2
      exact ⟨ret_pt (by rw [HX.out]; rfl), rfl⟩
     ·have HX := Lib.hid (HE.out.trans (if_pos ⟨by omega, hg⟩))
      clear hg HE
      go_wp2_with (go_at_call 116; refine (good_any _ _ (by omega) (by omega)).mono ?_; rw [hg'.out]; rintro e w' ⟨rfl, rfl⟩)
      go_ret2
      exact ⟨ret_pt (by rw [HX.out]; simp only [Int.toNat_of_nonneg r0]; rfl), rfl⟩
theorem point_low (s : ByteArray) (w : World) (hs : 0 < s.size) (hm : s.size ≤ 9223372036854775807) (hb : byt s 0 < 128) :
  Calls Tryz.prog 100 #[.string s] w fun e w' => e = .returned (.tuple #[.int .i64 ((pt s.data.toList).1 : Int), .int .i64 ((pt s.data.toList).2 : Int)]) ∧ w' = w := by
 have g1 : s[0].toNat < 128 := by rw [byt_at]; exact hb
 have HE := Lib.hid ((pt_byt s).trans (ptN_one _ _ _ _ _ hb))
 have HB := Lib.hid (byt_at s 0 hs)
 cases hg : good (byt s 0 : Int) with
 | false =>
  have HX := Lib.hid (HE.out.trans (if_neg (by rw [hg]; simp)))
  have hg' := Lib.hid hg
  clear hg HE
  go_enter Tryz.func100, Tryz.ntmps100
  go_wp2_with fail
  refine wp_loop_rounds 1 ?_
  rw [rounds_succ]
  go_wp2_with (go_at_call 116; refine (good_any _ _ (by omega) (by omega)).mono ?_; rw [HB.out, hg'.out]; rintro e w' ⟨rfl, rfl⟩)
  go_ret2
  exact ⟨ret_pt (by rw [HX.out]; rfl), rfl⟩
 | true =>
  have HX := Lib.hid (HE.out.trans (if_pos hg))
  have hg' := Lib.hid hg
  clear hg HE
  go_enter Tryz.func100, Tryz.ntmps100
  go_wp2_with fail
  refine wp_loop_rounds 1 ?_
  rw [rounds_succ]
  go_wp2_with (go_at_call 116; refine (good_any _ _ (by omega) (by omega)).mono ?_; rw [HB.out, hg'.out]; rintro e w' ⟨rfl, rfl⟩)
  go_ret2
  exact ⟨ret_pt (by rw [HX.out]; rfl), rfl⟩
theorem point_none (s : ByteArray) (w : World) (hs : 0 < s.size) (hb : (128 ≤ byt s 0 ∧ byt s 0 < 192) ∨ 248 ≤ byt s 0) :
  Calls Tryz.prog 100 #[.string s] w fun e w' => e = .returned (.tuple #[.int .i64 ((pt s.data.toList).1 : Int), .int .i64 ((pt s.data.toList).2 : Int)]) ∧ w' = w := by
 have H := Lib.hid ((pt_byt s).trans (ptN_none _ _ _ _ _ (by have := byt_lt s 0; omega)))
 have g := byt_lt s 0
 rw [← byt_at s 0 hs] at hb g
 rcases hb with hb | hb
 ·obtain ⟨b0, b1⟩ := hb
  go_enter Tryz.func100, Tryz.ntmps100
  go_wp2
  go_ret2
  exact ⟨ret_pt (by rw [H.out]; rfl), rfl⟩
 ·go_enter Tryz.func100, Tryz.ntmps100
  go_wp2
  go_ret2
  exact ⟨ret_pt (by rw [H.out]; rfl), rfl⟩
theorem point_any (s : ByteArray) (w : World) (hs : 0 < s.size) (hm : s.size ≤ 9223372036854775807) :
  Calls Tryz.prog 100 #[.string s] w fun e w' => e = .returned (.tuple #[.int .i64 ((pt s.data.toList).1 : Int), .int .i64 ((pt s.data.toList).2 : Int)]) ∧ w' = w := by
 by_cases h1 : byt s 0 < 128
 ·exact point_low s w hs hm h1
 ·by_cases h2 : byt s 0 < 192
  ·exact point_none s w hs (.inl ⟨by omega, h2⟩)
  ·by_cases h3 : byt s 0 < 224
   ·exact point_two s w hs hm (by omega) h3
   ·by_cases h4 : byt s 0 < 240
    ·exact point_three s w hs hm (by omega) h4
    ·by_cases h5 : byt s 0 < 248
     ·exact point_four s w hs hm (by omega) h5
     ·exact point_none s w hs (.inr (by omega))
open Go.RowKit Go.Lib Txt
def strLen : Value → Nat
 | .string t => t.size
 | _ => 0
theorem data_ne {t : ByteArray} (h : 0 < t.size) : t.data.toList ≠ [] := by
 intro e; rw [Lib.size_eq, e] at h; simp at h
theorem data_cut (t : ByteArray) (k : Nat) : (t.extract k t.size).data.toList = t.data.toList.drop k := by
 rw [Lib.extract_data, List.take_of_length_le]
 rw [List.length_drop, ← Lib.size_eq]; omega
theorem size_cut (t : ByteArray) (k : Nat) : (t.extract k t.size).size = t.size - k := by
 rw [Lib.size_eq, data_cut, List.length_drop, ← Lib.size_eq]
theorem RText_any (s : ByteArray) (w : World) :
  Calls Tryz.prog 75 #[.string s] w fun e w' => e = .returned (.int .i64 (textErr s.data.toList)) ∧ w' = w := by
 by_cases hlim : 1024 < s.size
 ·have H := Lib.hid (show textErr s.data.toList = 2 by unfold textErr; rw [← Lib.size_eq, if_pos hlim])
  go_enter Tryz.func75, Tryz.ntmps75
  go_wp2
  go_ret
  exact ⟨ret_int H.out.symm, rfl⟩
 ·have H : Hid (textErr s.data.toList = if chk s.data.toList = true then 0 else 8) := Lib.hid (by unfold textErr; rw [← Lib.size_eq, if_neg hlim])
  have hz : decide (1024 < (s.size : Int)) = false := by simp; omega
  go_enter Tryz.func75, Tryz.ntmps75
  go_wp2_with fail
  go_loop [0] (fun v => ∃ t : ByteArray, v = .string t ∧ t.size ≤ s.size ∧ chk t.data.toList = chk s.data.toList) (fun v => strLen v)
  case atStart => exact ⟨s, rfl, Nat.le_refl _, rfl⟩
  case round =>
   obtain ⟨t, rfl, hts, hc⟩ := hrel
   have HC := Lib.hid hc
   clear hc
   by_cases hp : 0 < t.size
   ·have HS := Lib.hid (chk_step t.data.toList (data_ne hp))
    have hle := pt_le (data_ne hp)
    rw [← Lib.size_eq] at hle
    have HP := Lib.hid (fun W => point_any t W hp (by omega))
    generalize hd : pt t.data.toList = d at HS hle HP
    clear hd
    obtain ⟨r, n⟩ := d
    simp only [] at hle
    by_cases hn : n = 0
    ·subst hn
     go_wp2_with (go_at_call 100; refine (HP.out _).mono ?_; rintro e w' ⟨rfl, rfl⟩)
     go_ret
     refine ⟨ret_int ?_, rfl⟩
     rw [H.out, ← HC.out, HS.out]; rfl
    ·have hb : ((n : Int) == 0) = false := by simp; omega
     go_wp2_with (go_at_call 100; refine (HP.out _).mono ?_; rintro e w' ⟨rfl, rfl⟩)
     go_round
     case rel => exact ⟨_, rfl, by rw [size_cut]; omega, by rw [data_cut, ← HC.out, HS.out, if_neg hn]⟩
     case measure => simp [strLen]; omega
   ·go_wp2
    go_ret
    refine ⟨ret_int ?_, rfl⟩
    have e : t.data.toList = [] := List.eq_nil_of_length_eq_zero (by rw [← Lib.size_eq]; omega)
    rw [H.out, ← HC.out, e, chk_nil]; rfl
open Go.RowKit Go.Lib Vbi Txt
def binErr (s : ByteArray) : Int := if 1024 < s.size then 2 else 0
def binStr (s : ByteArray) : ByteArray := if 1024 < s.size then ⟨#[]⟩ else strOfNums (fixZ 2 s.size) ++ s
def tbN (s : ByteArray) : Nat := fixVal (s.data.toList.take 2)
def tb (s : ByteArray) : ByteArray × Int × Int :=
 if s.size < 2 then (⟨#[]⟩, 0, 7) else if 1024 < tbN s then (⟨#[]⟩, 0, 2) else if s.size < 2 + tbN s then (⟨#[]⟩, 0, 7) else (s.extract 2 (2 + tbN s), ((2 + tbN s : Nat) : Int), 0)
theorem tb_cases (s : ByteArray) : (s.size < 2 ∧ tb s = (⟨#[]⟩, 0, 7)) ∨ (2 ≤ s.size ∧ 1024 < tbN s ∧ tb s = (⟨#[]⟩, 0, 2)) ∨ (2 ≤ s.size ∧ tbN s ≤ 1024 ∧ s.size < 2 + tbN s ∧ tb s = (⟨#[]⟩, 0, 7)) ∨
  (tbN s ≤ 1024 ∧ 2 + tbN s ≤ s.size ∧ tb s = (s.extract 2 (2 + tbN s), ((2 + tbN s : Nat) : Int), 0)) := by
 unfold tb
 by_cases h1 : s.size < 2
 ·rw [if_pos h1]; exact .inl ⟨h1, rfl⟩
 ·rw [if_neg h1]
  by_cases h2 : 1024 < tbN s
  ·rw [if_pos h2]; exact .inr (.inl ⟨by omega, h2, rfl⟩)
  ·rw [if_neg h2]
   by_cases h3 : s.size < 2 + tbN s
   ·rw [if_pos h3]; exact .inr (.inr (.inl ⟨by omega, by omega, h3, rfl⟩))
   ·rw [if_neg h3]; exact .inr (.inr (.inr ⟨by omega, by omega, rfl⟩))
theorem Clone_same (s : ByteArray) (w : World) (h : s.size ≤ 281474976710656) :
  Calls Tryz.prog 54 #[.string s] w fun e w' => e = .returned (.string s) ∧ Below w.heap.size w w' := by
 have HC := Lib.hid (fun W => Tryz.stringslite_Clone s W h)
 go_enter Tryz.func54, Tryz.ntmps54
 go_wp2_with fail
 refine (HC.out _).mono ?_
 rintro e w1 ⟨rfl, hb⟩
 go_wp2_with fail
 go_ret
 exact ⟨rfl, hb⟩
theorem fix2_size (n : Nat) : (strOfNums (fixZ 2 n)).size = 2 := by rw [strOfNums_size, fixZ_len]
theorem fix2_of (n : Nat) (h : n < 65536) : fixStr 2 (n : Int) = strOfNums (fixZ 2 n) ∧ fixErr 2 (n : Int) = 0 := by
 rcases fix_cases 2 (n : Int) with ⟨_, _, e1, e2⟩ | ⟨h0, _⟩
 ·exact ⟨e2, e1⟩
 ·omega
theorem Bin_good (s S : ByteArray) (w : World) (hs : s.size ≤ 1024) (hS : strOfNums (fixZ 2 s.size) ++ s = S) :
  Calls Tryz.prog 93 #[.string s] w fun e w' => e = .returned (.tuple #[.string S, .int .i64 0]) ∧ Below w.heap.size w w' := by
 subst hS
 have H2 := Lib.hid (fun W => Two_is (s.size : Int) _ _ W (by omega) (fix2_of s.size (by omega)).1 (fix2_of s.size (by omega)).2)
 obtain ⟨T, hT⟩ : ∃ T, T = strOfNums (fixZ 2 s.size) := ⟨_, rfl⟩
 have hz : T.size ≤ 2 := by rw [hT, fix2_size]; omega
 rw [← hT] at H2
 rw [← hT]
 clear hT
 have hd : decide (1024 < (s.size : Int)) = false := by simp; omega
 go_enter Tryz.func93, Tryz.ntmps93
 go_wp2_with fail
 refine (H2.out _).mono ?_
 rintro e w1 ⟨rfl, hb⟩
 go_wp2_with fail
 go_ret2
 exact ⟨rfl, hb⟩
theorem Bin_bad (s : ByteArray) (w : World) (hs : 1024 < s.size) :
  Calls Tryz.prog 93 #[.string s] w fun e w' => e = .returned (.tuple #[.string ⟨#[]⟩, .int .i64 2]) ∧ Below w.heap.size w w' := by
 have hd : decide (1024 < (s.size : Int)) = true := by simp; omega
 go_enter Tryz.func93, Tryz.ntmps93
 go_wp2_with fail
 go_ret2
 exact ⟨rfl, Below.refl _ _⟩
theorem Bin_is (s S : ByteArray) (E : Int) (w : World) (hS : binStr s = S) (hE : binErr s = E) :
  Calls Tryz.prog 93 #[.string s] w fun e w' => e = .returned (.tuple #[.string S, .int .i64 E]) ∧ Below w.heap.size w w' := by
 subst hS hE
 unfold binStr binErr
 by_cases h : 1024 < s.size
 ·rw [if_pos h, if_pos h]; exact Bin_bad s w h
 ·rw [if_neg h, if_neg h]; exact Bin_good s _ w (by omega) rfl
theorem TakeTwo_cut (s : ByteArray) (w : World) (hs : s.size < 2) : Calls Tryz.prog 162 #[.string s] w fun e w' => e = .returned (.tuple #[.int .i64 0, .int .i64 7]) ∧ w = w' :=
 (TakeTwo_ok s w (by omega)).mono fun e w' h => by
  unfold TfOk at h
  rw [(tf_cut (wd := 2) (l := s.data.toList) (by rw [← Lib.size_eq]; exact hs)).1, (tf_cut (wd := 2) (l := s.data.toList) (by rw [← Lib.size_eq]; exact hs)).2] at h
  exact ⟨h.1, h.2.symm⟩
theorem TakeTwo_good (s : ByteArray) (n : Nat) (w : World) (hs : 2 ≤ s.size) (hm : s.size ≤ 9223372036854775807) (hn : tbN s = n) : Calls Tryz.prog 162 #[.string s] w fun e w' => e = .returned (.tuple #[.int .i64 (n : Int), .int .i64 0]) ∧ w = w' :=
 (TakeTwo_ok s w hm).mono fun e w' h => by
  subst hn
  unfold TfOk at h
  rw [(tf_good (wd := 2) (l := s.data.toList) (by rw [← Lib.size_eq]; exact hs)).1, (tf_good (wd := 2) (l := s.data.toList) (by rw [← Lib.size_eq]; exact hs)).2] at h
  exact ⟨h.1, h.2.symm⟩
theorem TakeBin_is (s S : ByteArray) (K E : Int) (w : World) (hm : s.size ≤ 281474976710656) (h : tb s = (S, K, E)) :
  Calls Tryz.prog 148 #[.string s] w fun e w' => e = .returned (.tuple #[.string S, .int .i64 K, .int .i64 E]) ∧ Below w.heap.size w w' := by
 obtain ⟨n, hn⟩ : ∃ n, tbN s = n := ⟨_, rfl⟩
 rcases tb_cases s with ⟨h1, e⟩ | ⟨h1, h2, e⟩ | ⟨h1, h2, h3, e⟩ | ⟨h1, h2, e⟩
 ·rw [e] at h
  obtain ⟨rfl, rfl, rfl⟩ : ⟨#[]⟩ = S ∧ 0 = K ∧ 7 = E := by simpa using h
  have HT := Lib.hid (fun W => TakeTwo_cut s W h1)
  clear h e hn
  go_enter Tryz.func148, Tryz.ntmps148
  go_wp2_with fail
  refine (HT.out _).mono ?_
  rintro e w1 ⟨rfl, rfl⟩
  go_wp2_with fail
  go_ret3
  exact ⟨rfl, Below.refl _ _⟩
 ·rw [e] at h
  obtain ⟨rfl, rfl, rfl⟩ : ⟨#[]⟩ = S ∧ 0 = K ∧ 2 = E := by simpa using h
  have HT := Lib.hid (fun W => TakeTwo_good s n W h1 (by omega) hn)
  rw [hn] at h2
  clear h e hn
  go_enter Tryz.func148, Tryz.ntmps148
  go_wp2_with fail
  refine (HT.out _).mono ?_
  rintro e w1 ⟨rfl, rfl⟩
  go_wp2_with fail
  go_ret3
  exact ⟨rfl, Below.refl _ _⟩
 ·rw [e] at h
  obtain ⟨rfl, rfl, rfl⟩ : ⟨#[]⟩ = S ∧ 0 = K ∧ 7 = E := by simpa using h
  have HT := Lib.hid (fun W => TakeTwo_good s n W h1 (by omega) hn)
  rw [hn] at h2 h3
  clear h e hn
  go_enter Tryz.func148, Tryz.ntmps148
  go_wp2_with fail
  refine (HT.out _).mono ?_
  rintro e w1 ⟨rfl, rfl⟩
  go_wp2_with fail
  go_ret3
  exact ⟨rfl, Below.refl _ _⟩
 ·rw [e] at h
  rw [hn] at h h1 h2
  obtain ⟨hS, rfl, rfl⟩ : s.extract 2 (2 + n) = S ∧ ((2 + n : Nat) : Int) = K ∧ 0 = E := by
   injection h with a b
   injection b with b c
   exact ⟨a, b, c⟩
  have HT := Lib.hid (fun W => TakeTwo_good s n W (by omega) (by omega) hn)
  have hz : (s.extract 2 (2 + n)).size ≤ 1024 := by rw [ByteArray.size_extract]; omega
  have HC := Lib.hid (fun W => Clone_same (s.extract 2 (2 + n)) W (by omega))
  have HS := Lib.hid hS
  clear h e hn hS
  go_enter Tryz.func148, Tryz.ntmps148
  go_wp2_with fail
  refine (HT.out _).mono ?_
  rintro e w1 ⟨rfl, rfl⟩
  go_wp2_with (go_at_call 54; refine (HC.out _).mono ?_; rintro e w1 ⟨rfl, hb⟩)
  go_ret3
  refine ⟨?_, hb⟩
  rw [← HS.out]
  rfl
open Go.RowKit Go.Lib Vbi Txt
def loErr (t : Bool) (s : ByteArray) : Int := if t = true then textErr s.data.toList else binErr s
def loStr (t : Bool) (s : ByteArray) : ByteArray := if loErr t s = 0 then strOfNums (fixZ 2 s.size) ++ s else ⟨#[]⟩
def tlErr (t : Bool) (s : ByteArray) : Int := if t = true then textErr s.data.toList else 0
def tl (t : Bool) (s : ByteArray) : ByteArray × Int × Int := if (tb s).2.2 = 0 ∧ tlErr t (tb s).1 ≠ 0 then (⟨#[]⟩, 0, tlErr t (tb s).1) else tb s
theorem textErr_zero {l : List UInt8} (h : textErr l = 0) : l.length ≤ 1024 := by
 unfold textErr at h
 by_cases c : 1024 < l.length
 ·rw [if_pos c] at h; cases h
 ·omega
theorem loErr_zero {t : Bool} {s : ByteArray} (h : loErr t s = 0) : s.size ≤ 1024 := by
 unfold loErr at h
 cases t with
 | true => rw [if_pos rfl] at h; rw [Lib.size_eq]; exact textErr_zero h
 | false =>
  rw [if_neg (by simp)] at h
  unfold binErr at h
  by_cases c : 1024 < s.size
  ·rw [if_pos c] at h; cases h
  ·omega
theorem lo_cases (t : Bool) (s : ByteArray) : (loErr t s = 0 ∧ s.size ≤ 1024 ∧ loStr t s = strOfNums (fixZ 2 s.size) ++ s) ∨ (loErr t s ≠ 0 ∧ loStr t s = ⟨#[]⟩) := by
 unfold loStr
 by_cases h : loErr t s = 0
 ·rw [if_pos h]; exact .inl ⟨h, loErr_zero h, rfl⟩
 ·rw [if_neg h]; exact .inr ⟨h, rfl⟩
theorem Check_eq (s : ByteArray) (E : Int) (w : World) (hm : s.size ≤ 9223372036854775807) (hE : textErr s.data.toList = E) :
  Calls Tryz.prog 110 #[.string s] w fun e w' => e = .returned (.int .i64 E) ∧ Below w.heap.size w w' := by
 rw [← hE]; exact Check_any s w hm
theorem RText_eq (s : ByteArray) (E : Int) (w : World) (hE : textErr s.data.toList = E) :
  Calls Tryz.prog 75 #[.string s] w fun e w' => e = .returned (.int .i64 E) ∧ w = w' := by
 rw [← hE]; exact (RText_any s w).mono fun _ _ h => ⟨h.1, h.2.symm⟩
theorem Text_is (s S : ByteArray) (E : Int) (w : World) (hm : s.size ≤ 9223372036854775807) (hS : loStr true s = S) (hE : loErr true s = E) :
  Calls Tryz.prog 92 #[.string s] w fun e w' => e = .returned (.tuple #[.string S, .int .i64 E]) ∧ Below w.heap.size w w' := by
 have he : textErr s.data.toList = E := by rw [← hE]; rfl
 have HK := Lib.hid (fun W => Check_eq s E W hm he)
 rcases lo_cases true s with ⟨h0, hl, e1⟩ | ⟨h0, e1⟩
 ·obtain rfl : 0 = E := h0.symm.trans hE
  have HB := Lib.hid (fun W => Bin_good s S W hl (e1.symm.trans hS))
  clear hS hE he h0 e1
  go_enter Tryz.func92, Tryz.ntmps92
  go_wp2_with fail
  refine (HK.out _).mono ?_
  rintro e w1 ⟨rfl, hb1⟩
  have HX := Lib.hid hb1
  clear hb1
  go_wp2_with fail
  refine (HB.out _).mono ?_
  rintro e w2 ⟨rfl, hb2⟩
  go_wp2_with fail
  go_ret2
  exact ⟨rfl, HX.out.trans (hb2.mono HX.out.size)⟩
 ·obtain rfl : ⟨#[]⟩ = S := e1.symm.trans hS
  have hne : (E != 0) = true := by rw [bne_iff_ne, ← hE]; exact h0
  clear hS hE he h0 e1
  go_enter Tryz.func92, Tryz.ntmps92
  go_wp2_with fail
  refine (HK.out _).mono ?_
  rintro e w1 ⟨rfl, hb1⟩
  have HX := Lib.hid hb1
  clear hb1
  go_wp2_with fail
  go_ret2
  exact ⟨rfl, HX.out⟩
theorem tl_bad {t : Bool} {s : ByteArray} (h : (tb s).2.2 ≠ 0) : tl t s = tb s := by unfold tl; rw [if_neg (fun x => h x.1)]
theorem tl_false (s : ByteArray) : tl false s = tb s := by
 unfold tl; rw [if_neg (fun x => x.2 rfl)]
theorem tl_good {t : Bool} {s T : ByteArray} {K : Int} (h : tb s = (T, K, 0)) (h2 : tlErr t T = 0) : tl t s = (T, K, 0) := by
 unfold tl; rw [if_neg (fun x => x.2 (by rw [h]; exact h2)), h]
theorem tl_wrong {t : Bool} {s T : ByteArray} {K : Int} (h : tb s = (T, K, 0)) (h2 : tlErr t T ≠ 0) : tl t s = (⟨#[]⟩, 0, tlErr t T) := by
 unfold tl; rw [h, if_pos ⟨rfl, h2⟩]
theorem tb_err (s : ByteArray) : ((tb s).2.2 ≠ 0 ∧ (tb s).1 = ⟨#[]⟩ ∧ (tb s).2.1 = 0) ∨ (∃ T K, tb s = (T, K, 0) ∧ T.size ≤ 1024) := by
 rcases tb_cases s with ⟨_, e⟩ | ⟨_, _, e⟩ | ⟨_, _, _, e⟩ | ⟨h1, h2, e⟩
 ·left; rw [e]; simp
 ·left; rw [e]; simp
 ·left; rw [e]; simp
 ·right; exact ⟨_, _, e, by rw [ByteArray.size_extract]; omega⟩
theorem TakeText_is (s S : ByteArray) (K E : Int) (w : World) (hm : s.size ≤ 281474976710656) (h : tl true s = (S, K, E)) :
  Calls Tryz.prog 163 #[.string s] w fun e w' => e = .returned (.tuple #[.string S, .int .i64 K, .int .i64 E]) ∧ Below w.heap.size w w' := by
 rcases tb_err s with ⟨h0, h1, h2⟩ | ⟨T, K', hT, hz⟩
 ·rw [tl_bad h0] at h
  rw [h] at h0 h1 h2
  simp only [] at h0 h1 h2
  subst h1 h2
  have HB := Lib.hid (fun W => TakeBin_is s _ _ E W hm h)
  have hne : (E != 0) = true := by rw [bne_iff_ne]; exact h0
  have heq : (E == 0) = false := by rw [beq_eq_false_iff_ne]; exact h0
  clear h h0
  go_enter Tryz.func163, Tryz.ntmps163
  go_wp2_with fail
  refine (HB.out _).mono ?_
  rintro e w1 ⟨rfl, hb1⟩
  have HX := Lib.hid hb1
  clear hb1
  go_wp2_with fail
  go_ret3
  exact ⟨rfl, HX.out⟩
 ·have HB := Lib.hid (fun W => TakeBin_is s _ _ 0 W hm hT)
  by_cases hc : textErr T.data.toList = 0
  ·rw [tl_good (t := true) hT hc] at h
   obtain ⟨rfl, rfl, rfl⟩ : T = S ∧ K' = K ∧ 0 = E := by
    injection h with a b
    injection b with b c
    exact ⟨a, b, c⟩
   have HK := Lib.hid (fun W => Check_eq T 0 W (by omega) hc)
   clear h hc hT
   go_enter Tryz.func163, Tryz.ntmps163
   go_wp2_with fail
   refine (HB.out _).mono ?_
   rintro e w1 ⟨rfl, hb1⟩
   have HX := Lib.hid hb1
   clear hb1
   go_wp2_with fail
   refine (HK.out _).mono ?_
   rintro e w2 ⟨rfl, hb2⟩
   go_wp2_with fail
   go_ret3
   exact ⟨rfl, HX.out.trans (hb2.mono HX.out.size)⟩
  ·rw [tl_wrong (t := true) hT hc] at h
   have he : textErr T.data.toList = E := by
    injection h with a b
    injection b with b c
   obtain ⟨rfl, rfl⟩ : ⟨#[]⟩ = S ∧ 0 = K := by
    injection h with a b
    injection b with b c
    exact ⟨a, b⟩
   have HK := Lib.hid (fun W => Check_eq T E W (by omega) he)
   have hne : (E != 0) = true := by rw [bne_iff_ne, ← he]; exact hc
   clear h hc hT he
   go_enter Tryz.func163, Tryz.ntmps163
   go_wp2_with fail
   refine (HB.out _).mono ?_
   rintro e w1 ⟨rfl, hb1⟩
   have HX := Lib.hid hb1
   clear hb1
   go_wp2_with fail
   refine (HK.out _).mono ?_
   rintro e w2 ⟨rfl, hb2⟩
   go_wp2_with fail
   go_ret3
   exact ⟨rfl, HX.out.trans (hb2.mono HX.out.size)⟩
open Go.RowKit Go.Lib Vbi Txt
theorem RFixed_two (n : Nat) (S : ByteArray) (w : World) (hn : n < 65536) (hS : strOfNums (fixZ 2 n) = S) :
  Calls Tryz.prog 78 #[.int .i64 (n : Int), .int .i64 2] w fun e w' => e = .returned (.string S) ∧ Below w.heap.size w w' := by
 rw [← hS]; exact RFixed_ok n 2 w (by omega) (by omega)
end Go.Proofs.YtdbbcfohjkgdcaaGreat
