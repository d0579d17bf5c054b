/- The document's own answer: the code point that bytes begin with, and how many bytes it has. -/
import Derived.Test.YtdogeljlcnlbkaaTextLeaf
import Derived.Lib.ItoaWalk
namespace Go.Proofs.Ytdogeljlcnlbkaa
open Go.RowKit Go.Lib Txt

/-- Byte k of a text (0 beyond its end). -/
def byt (s : ByteArray) (k : Nat) : Nat := (s.data.toList.getD k 0).toNat
theorem byt_at (s : ByteArray) (k : Nat) (h : k < s.size) : s[k].toNat = byt s k := by
  unfold byt
  rw [Lib.getD_at s k h]
theorem byt_lt (s : ByteArray) (k : Nat) : byt s k < 256 := UInt8.toNat_lt _
theorem pt_byt (s : ByteArray) : pt s.data.toList = ptN s.size (byt s 0) (byt s 1) (byt s 2) (byt s 3) := by
  unfold pt byt; rw [← Lib.size_eq]

/-- What the loop of 'point' gathers. -/
def racc (s : ByteArray) (c0 : Int) : Nat → Int
  | 0 => c0
  | k + 1 => racc s c0 k * 64 + (byt s (k + 1) : Int) - 128
def conts (s : ByteArray) (k : Nat) : Prop := ∀ j, 1 ≤ j → j ≤ k → 128 ≤ byt s j ∧ byt s j < 192
theorem conts_zero (s : ByteArray) : conts s 0 := fun j h1 h2 => by omega
theorem conts_succ {s : ByteArray} {k : Nat} (h : conts s k) (h1 : 128 ≤ byt s (k + 1)) (h2 : byt s (k + 1) < 192) : conts s (k + 1) := fun j a b => by
  by_cases e : j = k + 1
  · subst e; exact ⟨h1, h2⟩
  · exact h j a (by omega)
theorem racc_bd (s : ByteArray) (c0 : Int) (k : Nat) (hk : k ≤ 3) (h0 : 0 ≤ c0) (h1 : c0 < 32) (hc : conts s k) : 0 ≤ racc s c0 k ∧ racc s c0 k < 100000000 := by
  have a1 := hc 1 (by omega)
  have a2 := hc 2 (by omega)
  have a3 := hc 3 (by omega)
  match k, hk with
  | 0, _ => simp only [racc]; omega
  | 1, _ => simp only [racc, Nat.zero_add]; omega
  | 2, _ => simp only [racc, Nat.zero_add, Nat.reduceAdd]; omega
  | 3, _ => simp only [racc, Nat.zero_add, Nat.reduceAdd]; omega

theorem ret_pt {d : Nat × Nat} {a b : Int} (h : ((d.1 : Int), (d.2 : Int)) = (a, b)) : Ending.returned (.tuple #[.int .i64 a, .int .i64 b]) = .returned (.tuple #[.int .i64 (d.1 : Int), .int .i64 (d.2 : Int)]) := by
  obtain ⟨rfl, rfl⟩ := Prod.mk.inj h; rfl

/-! ### what the gathered number is -/
theorem bad_two (s : ByteArray) (h : 192 ≤ byt s 0 ∧ byt s 0 < 224) (hb : s.size < 2 ∨ ∃ j, 1 ≤ j ∧ j < 2 ∧ ¬ (128 ≤ byt s j ∧ byt s j < 192)) : pt s.data.toList = (0, 0) := by
  rw [pt_byt, ptN_two _ _ _ _ _ h (byt_lt s 1) _ rfl]
  apply if_neg
  intro x
  rcases hb with hb | ⟨j, h1, h2, h3⟩
  · omega
  · apply h3
    obtain rfl | rfl | rfl : j = 1 ∨ j = 2 ∨ j = 3 := by omega
    all_goals omega
theorem end_two (s : ByteArray) (h : 192 ≤ byt s 0 ∧ byt s 0 < 224) (hs : 2 ≤ s.size) (hc : conts s 1) :
    pt s.data.toList = if 128 ≤ racc s ((byt s 0 : Int) - 192) 1 ∧ good (racc s ((byt s 0 : Int) - 192) 1) = true then ((racc s ((byt s 0 : Int) - 192) 1).toNat, 2) else (0, 0) := by
  have a1 := hc 1 (by omega)
  have a2 := hc 2 (by omega)
  have a3 := hc 3 (by omega)
  have e : (((byt s 0 - 192) * 64 + (byt s 1 - 128) : Nat) : Int) = racc s ((byt s 0 : Int) - 192) 1 := by simp only [racc, Nat.zero_add]; omega
  rw [pt_byt, ptN_two _ _ _ _ _ h (byt_lt s 1) _ rfl, e, ← e]
  simp only [Int.toNat_natCast]
  by_cases hg : good (((byt s 0 - 192) * 64 + (byt s 1 - 128) : Nat) : Int) = true
  · by_cases hl : 128 ≤ (byt s 0 - 192) * 64 + (byt s 1 - 128)
    · rw [if_pos, if_pos]
      · exact ⟨by omega, hg⟩
      · refine ⟨hs, ?_⟩; simp only [hg, hl, and_true, and_self]; omega
    · rw [if_neg (fun x => hl (by omega)), if_neg (fun x => hl (by omega))]
  · rw [if_neg (fun x => hg (by simp only [x])), if_neg (fun x => hg x.2)]

set_option maxRecDepth 100000 in
set_option maxHeartbeats 4000000 in
theorem point_two (s : ByteArray) (w : World) (hs : 0 < s.size) (hm : s.size ≤ 9223372036854775807) (hb : 192 ≤ byt s 0) (hb' : byt s 0 < 224) :
    Calls Try.prog 58 #[.string s] w fun e w' => e = .returned (.tuple #[.int .i64 ((pt s.data.toList).1 : Int), .int .i64 ((pt s.data.toList).2 : Int)]) ∧ w' = w := by
  have g0 : 192 ≤ s[0].toNat := by rw [byt_at]; exact hb
  have g1 : s[0].toNat < 224 := by rw [byt_at]; exact hb'
  by_cases h3 : s.size < 2
  · have H := Lib.hid (bad_two s ⟨hb, hb'⟩ (.inl h3))
    go_enter Try.func58, Try.ntmps58
    go_wp2
    go_ret2
    exact ⟨ret_pt (by rw [H.out]; rfl), rfl⟩
  · have h3' : 2 ≤ s.size := by omega
    have hd : decide ((s.size : Int) < 2) = false := by simp; omega
    have hd2 : decide ((s[0].toNat : Int) < 224) = true := by simp; omega
    have H0 := Lib.hid (byt_at s 0 hs)
    go_enter Try.func58, Try.ntmps58
    go_wp2_with fail
    go_loop [7, 8] (fun r i => ∃ k : Nat, k + 1 ≤ 2 ∧ i = .int .i64 ((k + 1 : Nat) : Int) ∧ r = .int .i64 (racc s ((byt s 0 : Int) - 192) k) ∧ conts s k) (fun _ i => 2 - (RowKit.intOf i).toNat)
    case atStart => exact ⟨0, by omega, rfl, by rw [H0.out]; rfl, conts_zero s⟩
    case round =>
      obtain ⟨k, hk, rfl, rfl, hc⟩ := hrel
      obtain ⟨r0, r1⟩ := racc_bd s ((byt s 0 : Int) - 192) k (by omega) (by omega) (by omega) hc
      by_cases hlt : k + 1 < 2
      · have hlt' : k + 1 < s.size := by omega
        have HB := Lib.hid (byt_at s (k + 1) hlt')
        have hu : s[k + 1].toNat < 256 := UInt8.toNat_lt _
        have HC := Lib.hid hc
        clear hc
        by_cases c1 : s[k + 1].toNat < 128
        · have HX := Lib.hid (bad_two s ⟨hb, hb'⟩ (.inr ⟨k + 1, by omega, hlt, fun x => by rw [← HB.out] at x; omega⟩))
          go_wp2_with fail
          go_ret2
          exact ⟨ret_pt (by rw [HX.out]; rfl), rfl⟩
        · by_cases c2 : 192 ≤ s[k + 1].toNat
          · have HX := Lib.hid (bad_two s ⟨hb, hb'⟩ (.inr ⟨k + 1, by omega, hlt, fun x => by rw [← HB.out] at x; omega⟩))
            go_wp2_with fail
            go_ret2
            exact ⟨ret_pt (by rw [HX.out]; rfl), rfl⟩
          · go_wp2_with fail
            go_round
            case rel => exact ⟨k + 1, hlt, by go_num, by rw [HB.out]; rfl, conts_succ HC.out (by rw [← HB.out]; omega) (by rw [← HB.out]; omega)⟩
            case measure => simp [RowKit.intOf]; omega
      · obtain rfl : k = 1 := by omega
        have HE := Lib.hid (end_two s ⟨hb, hb'⟩ h3' hc)
        clear hc hlt
        generalize racc s ((byt s 0 : Int) - 192) 1 = R at r0 r1 HE
        cases hg : good R with
        | false =>
          have HX := Lib.hid (HE.out.trans (if_neg (fun x => by rw [hg] at x; cases x.2)))
          have hg' := Lib.hid hg
          clear hg HE
          by_cases hl : R < 128
          all_goals
            go_wp2_with (go_at_call 66; refine (good_any _ _ (by omega) (by omega)).mono ?_; rw [hg'.out]; rintro e w' ⟨rfl, rfl⟩)
            go_ret2
            exact ⟨ret_pt (by rw [HX.out]; rfl), rfl⟩
        | true =>
          have hg' := Lib.hid hg
          by_cases hl : R < 128
          · have HX := Lib.hid (HE.out.trans (if_neg (fun x => by omega)))
            clear hg HE
            go_wp2_with (go_at_call 66; refine (good_any _ _ (by omega) (by omega)).mono ?_; rw [hg'.out]; rintro e w' ⟨rfl, rfl⟩)
            go_ret2
            exact ⟨ret_pt (by rw [HX.out]; rfl), rfl⟩
          · have HX := Lib.hid (HE.out.trans (if_pos ⟨by omega, hg⟩))
            clear hg HE
            go_wp2_with (go_at_call 66; refine (good_any _ _ (by omega) (by omega)).mono ?_; rw [hg'.out]; rintro e w' ⟨rfl, rfl⟩)
            go_ret2
            exact ⟨ret_pt (by rw [HX.out]; simp only [Int.toNat_of_nonneg r0]; rfl), rfl⟩

theorem bad_three (s : ByteArray) (h : 224 ≤ byt s 0 ∧ byt s 0 < 240) (hb : s.size < 3 ∨ ∃ j, 1 ≤ j ∧ j < 3 ∧ ¬ (128 ≤ byt s j ∧ byt s j < 192)) : pt s.data.toList = (0, 0) := by
  rw [pt_byt, ptN_three _ _ _ _ _ h (byt_lt s 1) (byt_lt s 2) _ rfl]
  apply if_neg
  intro x
  rcases hb with hb | ⟨j, h1, h2, h3⟩
  · omega
  · apply h3
    obtain rfl | rfl | rfl : j = 1 ∨ j = 2 ∨ j = 3 := by omega
    all_goals omega
theorem end_three (s : ByteArray) (h : 224 ≤ byt s 0 ∧ byt s 0 < 240) (hs : 3 ≤ s.size) (hc : conts s 2) :
    pt s.data.toList = if 2048 ≤ racc s ((byt s 0 : Int) - 224) 2 ∧ good (racc s ((byt s 0 : Int) - 224) 2) = true then ((racc s ((byt s 0 : Int) - 224) 2).toNat, 3) else (0, 0) := by
  have a1 := hc 1 (by omega)
  have a2 := hc 2 (by omega)
  have a3 := hc 3 (by omega)
  have e : ((((byt s 0 - 224) * 64 + (byt s 1 - 128)) * 64 + (byt s 2 - 128) : Nat) : Int) = racc s ((byt s 0 : Int) - 224) 2 := by simp only [racc, Nat.zero_add, Nat.reduceAdd]; omega
  rw [pt_byt, ptN_three _ _ _ _ _ h (byt_lt s 1) (byt_lt s 2) _ rfl, e, ← e]
  simp only [Int.toNat_natCast]
  by_cases hg : good ((((byt s 0 - 224) * 64 + (byt s 1 - 128)) * 64 + (byt s 2 - 128) : Nat) : Int) = true
  · by_cases hl : 2048 ≤ ((byt s 0 - 224) * 64 + (byt s 1 - 128)) * 64 + (byt s 2 - 128)
    · rw [if_pos, if_pos]
      · exact ⟨by omega, hg⟩
      · refine ⟨hs, ?_⟩; simp only [hg, hl, and_true, and_self]; omega
    · rw [if_neg (fun x => hl (by omega)), if_neg (fun x => hl (by omega))]
  · rw [if_neg (fun x => hg (by simp only [x])), if_neg (fun x => hg x.2)]

set_option maxRecDepth 100000 in
set_option maxHeartbeats 4000000 in
theorem point_three (s : ByteArray) (w : World) (hs : 0 < s.size) (hm : s.size ≤ 9223372036854775807) (hb : 224 ≤ byt s 0) (hb' : byt s 0 < 240) :
    Calls Try.prog 58 #[.string s] w fun e w' => e = .returned (.tuple #[.int .i64 ((pt s.data.toList).1 : Int), .int .i64 ((pt s.data.toList).2 : Int)]) ∧ w' = w := by
  have g0 : 224 ≤ s[0].toNat := by rw [byt_at]; exact hb
  have g1 : s[0].toNat < 240 := by rw [byt_at]; exact hb'
  by_cases h3 : s.size < 3
  · have H := Lib.hid (bad_three s ⟨hb, hb'⟩ (.inl h3))
    go_enter Try.func58, Try.ntmps58
    go_wp2
    go_ret2
    exact ⟨ret_pt (by rw [H.out]; rfl), rfl⟩
  · have h3' : 3 ≤ s.size := by omega
    have hd : decide ((s.size : Int) < 3) = false := by simp; omega
    have hd2 : decide ((s[0].toNat : Int) < 240) = true := by simp; omega
    have H0 := Lib.hid (byt_at s 0 hs)
    go_enter Try.func58, Try.ntmps58
    go_wp2_with fail
    go_loop [7, 8] (fun r i => ∃ k : Nat, k + 1 ≤ 3 ∧ i = .int .i64 ((k + 1 : Nat) : Int) ∧ r = .int .i64 (racc s ((byt s 0 : Int) - 224) k) ∧ conts s k) (fun _ i => 3 - (RowKit.intOf i).toNat)
    case atStart => exact ⟨0, by omega, rfl, by rw [H0.out]; rfl, conts_zero s⟩
    case round =>
      obtain ⟨k, hk, rfl, rfl, hc⟩ := hrel
      obtain ⟨r0, r1⟩ := racc_bd s ((byt s 0 : Int) - 224) k (by omega) (by omega) (by omega) hc
      by_cases hlt : k + 1 < 3
      · have hlt' : k + 1 < s.size := by omega
        have HB := Lib.hid (byt_at s (k + 1) hlt')
        have hu : s[k + 1].toNat < 256 := UInt8.toNat_lt _
        have HC := Lib.hid hc
        clear hc
        by_cases c1 : s[k + 1].toNat < 128
        · have HX := Lib.hid (bad_three s ⟨hb, hb'⟩ (.inr ⟨k + 1, by omega, hlt, fun x => by rw [← HB.out] at x; omega⟩))
          go_wp2_with fail
          go_ret2
          exact ⟨ret_pt (by rw [HX.out]; rfl), rfl⟩
        · by_cases c2 : 192 ≤ s[k + 1].toNat
          · have HX := Lib.hid (bad_three s ⟨hb, hb'⟩ (.inr ⟨k + 1, by omega, hlt, fun x => by rw [← HB.out] at x; omega⟩))
            go_wp2_with fail
            go_ret2
            exact ⟨ret_pt (by rw [HX.out]; rfl), rfl⟩
          · go_wp2_with fail
            go_round
            case rel => exact ⟨k + 1, hlt, by go_num, by rw [HB.out]; rfl, conts_succ HC.out (by rw [← HB.out]; omega) (by rw [← HB.out]; omega)⟩
            case measure => simp [RowKit.intOf]; omega
      · obtain rfl : k = 2 := by omega
        have HE := Lib.hid (end_three s ⟨hb, hb'⟩ h3' hc)
        clear hc hlt
        generalize racc s ((byt s 0 : Int) - 224) 2 = R at r0 r1 HE
        cases hg : good R with
        | false =>
          have HX := Lib.hid (HE.out.trans (if_neg (fun x => by rw [hg] at x; cases x.2)))
          have hg' := Lib.hid hg
          clear hg HE
          by_cases hl : R < 2048
          all_goals
            go_wp2_with (go_at_call 66; refine (good_any _ _ (by omega) (by omega)).mono ?_; rw [hg'.out]; rintro e w' ⟨rfl, rfl⟩)
            go_ret2
            exact ⟨ret_pt (by rw [HX.out]; rfl), rfl⟩
        | true =>
          have hg' := Lib.hid hg
          by_cases hl : R < 2048
          · have HX := Lib.hid (HE.out.trans (if_neg (fun x => by omega)))
            clear hg HE
            go_wp2_with (go_at_call 66; refine (good_any _ _ (by omega) (by omega)).mono ?_; rw [hg'.out]; rintro e w' ⟨rfl, rfl⟩)
            go_ret2
            exact ⟨ret_pt (by rw [HX.out]; rfl), rfl⟩
          · have HX := Lib.hid (HE.out.trans (if_pos ⟨by omega, hg⟩))
            clear hg HE
            go_wp2_with (go_at_call 66; refine (good_any _ _ (by omega) (by omega)).mono ?_; rw [hg'.out]; rintro e w' ⟨rfl, rfl⟩)
            go_ret2
            exact ⟨ret_pt (by rw [HX.out]; simp only [Int.toNat_of_nonneg r0]; rfl), rfl⟩

theorem bad_four (s : ByteArray) (h : 240 ≤ byt s 0 ∧ byt s 0 < 248) (hb : s.size < 4 ∨ ∃ j, 1 ≤ j ∧ j < 4 ∧ ¬ (128 ≤ byt s j ∧ byt s j < 192)) : pt s.data.toList = (0, 0) := by
  rw [pt_byt, ptN_four _ _ _ _ _ h (byt_lt s 1) (byt_lt s 2) (byt_lt s 3) _ rfl]
  apply if_neg
  intro x
  rcases hb with hb | ⟨j, h1, h2, h3⟩
  · omega
  · apply h3
    obtain rfl | rfl | rfl : j = 1 ∨ j = 2 ∨ j = 3 := by omega
    all_goals omega
theorem end_four (s : ByteArray) (h : 240 ≤ byt s 0 ∧ byt s 0 < 248) (hs : 4 ≤ s.size) (hc : conts s 3) :
    pt s.data.toList = if 65536 ≤ racc s ((byt s 0 : Int) - 240) 3 ∧ good (racc s ((byt s 0 : Int) - 240) 3) = true then ((racc s ((byt s 0 : Int) - 240) 3).toNat, 4) else (0, 0) := by
  have a1 := hc 1 (by omega)
  have a2 := hc 2 (by omega)
  have a3 := hc 3 (by omega)
  have e : (((((byt s 0 - 240) * 64 + (byt s 1 - 128)) * 64 + (byt s 2 - 128)) * 64 + (byt s 3 - 128) : Nat) : Int) = racc s ((byt s 0 : Int) - 240) 3 := by simp only [racc, Nat.zero_add, Nat.reduceAdd]; omega
  rw [pt_byt, ptN_four _ _ _ _ _ h (byt_lt s 1) (byt_lt s 2) (byt_lt s 3) _ rfl, e, ← e]
  simp only [Int.toNat_natCast]
  by_cases hg : good (((((byt s 0 - 240) * 64 + (byt s 1 - 128)) * 64 + (byt s 2 - 128)) * 64 + (byt s 3 - 128) : Nat) : Int) = true
  · by_cases hl : 65536 ≤ (((byt s 0 - 240) * 64 + (byt s 1 - 128)) * 64 + (byt s 2 - 128)) * 64 + (byt s 3 - 128)
    · rw [if_pos, if_pos]
      · exact ⟨by omega, hg⟩
      · refine ⟨hs, ?_⟩; simp only [hg, hl, and_true, and_self]; omega
    · rw [if_neg (fun x => hl (by omega)), if_neg (fun x => hl (by omega))]
  · rw [if_neg (fun x => hg (by simp only [x])), if_neg (fun x => hg x.2)]

set_option maxRecDepth 100000 in
set_option maxHeartbeats 4000000 in
theorem point_four (s : ByteArray) (w : World) (hs : 0 < s.size) (hm : s.size ≤ 9223372036854775807) (hb : 240 ≤ byt s 0) (hb' : byt s 0 < 248) :
    Calls Try.prog 58 #[.string s] w fun e w' => e = .returned (.tuple #[.int .i64 ((pt s.data.toList).1 : Int), .int .i64 ((pt s.data.toList).2 : Int)]) ∧ w' = w := by
  have g0 : 240 ≤ s[0].toNat := by rw [byt_at]; exact hb
  have g1 : s[0].toNat < 248 := by rw [byt_at]; exact hb'
  by_cases h3 : s.size < 4
  · have H := Lib.hid (bad_four s ⟨hb, hb'⟩ (.inl h3))
    go_enter Try.func58, Try.ntmps58
    go_wp2
    go_ret2
    exact ⟨ret_pt (by rw [H.out]; rfl), rfl⟩
  · have h3' : 4 ≤ s.size := by omega
    have hd : decide ((s.size : Int) < 4) = false := by simp; omega
    have hd2 : decide ((s[0].toNat : Int) < 248) = true := by simp; omega
    have H0 := Lib.hid (byt_at s 0 hs)
    go_enter Try.func58, Try.ntmps58
    go_wp2_with fail
    go_loop [7, 8] (fun r i => ∃ k : Nat, k + 1 ≤ 4 ∧ i = .int .i64 ((k + 1 : Nat) : Int) ∧ r = .int .i64 (racc s ((byt s 0 : Int) - 240) k) ∧ conts s k) (fun _ i => 4 - (RowKit.intOf i).toNat)
    case atStart => exact ⟨0, by omega, rfl, by rw [H0.out]; rfl, conts_zero s⟩
    case round =>
      obtain ⟨k, hk, rfl, rfl, hc⟩ := hrel
      obtain ⟨r0, r1⟩ := racc_bd s ((byt s 0 : Int) - 240) k (by omega) (by omega) (by omega) hc
      by_cases hlt : k + 1 < 4
      · have hlt' : k + 1 < s.size := by omega
        have HB := Lib.hid (byt_at s (k + 1) hlt')
        have hu : s[k + 1].toNat < 256 := UInt8.toNat_lt _
        have HC := Lib.hid hc
        clear hc
        by_cases c1 : s[k + 1].toNat < 128
        · have HX := Lib.hid (bad_four s ⟨hb, hb'⟩ (.inr ⟨k + 1, by omega, hlt, fun x => by rw [← HB.out] at x; omega⟩))
          go_wp2_with fail
          go_ret2
          exact ⟨ret_pt (by rw [HX.out]; rfl), rfl⟩
        · by_cases c2 : 192 ≤ s[k + 1].toNat
          · have HX := Lib.hid (bad_four s ⟨hb, hb'⟩ (.inr ⟨k + 1, by omega, hlt, fun x => by rw [← HB.out] at x; omega⟩))
            go_wp2_with fail
            go_ret2
            exact ⟨ret_pt (by rw [HX.out]; rfl), rfl⟩
          · go_wp2_with fail
            go_round
            case rel => exact ⟨k + 1, hlt, by go_num, by rw [HB.out]; rfl, conts_succ HC.out (by rw [← HB.out]; omega) (by rw [← HB.out]; omega)⟩
            case measure => simp [RowKit.intOf]; omega
      · obtain rfl : k = 3 := by omega
        have HE := Lib.hid (end_four s ⟨hb, hb'⟩ h3' hc)
        clear hc hlt
        generalize racc s ((byt s 0 : Int) - 240) 3 = R at r0 r1 HE
        cases hg : good R with
        | false =>
          have HX := Lib.hid (HE.out.trans (if_neg (fun x => by rw [hg] at x; cases x.2)))
          have hg' := Lib.hid hg
          clear hg HE
          by_cases hl : R < 65536
          all_goals
            go_wp2_with (go_at_call 66; refine (good_any _ _ (by omega) (by omega)).mono ?_; rw [hg'.out]; rintro e w' ⟨rfl, rfl⟩)
            go_ret2
            exact ⟨ret_pt (by rw [HX.out]; rfl), rfl⟩
        | true =>
          have hg' := Lib.hid hg
          by_cases hl : R < 65536
          · have HX := Lib.hid (HE.out.trans (if_neg (fun x => by omega)))
            clear hg HE
            go_wp2_with (go_at_call 66; refine (good_any _ _ (by omega) (by omega)).mono ?_; rw [hg'.out]; rintro e w' ⟨rfl, rfl⟩)
            go_ret2
            exact ⟨ret_pt (by rw [HX.out]; rfl), rfl⟩
          · have HX := Lib.hid (HE.out.trans (if_pos ⟨by omega, hg⟩))
            clear hg HE
            go_wp2_with (go_at_call 66; refine (good_any _ _ (by omega) (by omega)).mono ?_; rw [hg'.out]; rintro e w' ⟨rfl, rfl⟩)
            go_ret2
            exact ⟨ret_pt (by rw [HX.out]; simp only [Int.toNat_of_nonneg r0]; rfl), rfl⟩

set_option maxRecDepth 100000 in
set_option maxHeartbeats 1000000 in
theorem point_low (s : ByteArray) (w : World) (hs : 0 < s.size) (hm : s.size ≤ 9223372036854775807) (hb : byt s 0 < 128) :
    Calls Try.prog 58 #[.string s] w fun e w' => e = .returned (.tuple #[.int .i64 ((pt s.data.toList).1 : Int), .int .i64 ((pt s.data.toList).2 : Int)]) ∧ w' = w := by
  have g1 : s[0].toNat < 128 := by rw [byt_at]; exact hb
  have HE := Lib.hid ((pt_byt s).trans (ptN_one _ _ _ _ _ hb))
  have HB := Lib.hid (byt_at s 0 hs)
  cases hg : good (byt s 0 : Int) with
  | false =>
    have HX := Lib.hid (HE.out.trans (if_neg (by rw [hg]; simp)))
    have hg' := Lib.hid hg
    clear hg HE
    go_enter Try.func58, Try.ntmps58
    go_wp2_with fail
    refine wp_loop_rounds 1 ?_
    rw [rounds_succ]
    go_wp2_with (go_at_call 66; refine (good_any _ _ (by omega) (by omega)).mono ?_; rw [HB.out, hg'.out]; rintro e w' ⟨rfl, rfl⟩)
    go_ret2
    exact ⟨ret_pt (by rw [HX.out]; rfl), rfl⟩
  | true =>
    have HX := Lib.hid (HE.out.trans (if_pos hg))
    have hg' := Lib.hid hg
    clear hg HE
    go_enter Try.func58, Try.ntmps58
    go_wp2_with fail
    refine wp_loop_rounds 1 ?_
    rw [rounds_succ]
    go_wp2_with (go_at_call 66; refine (good_any _ _ (by omega) (by omega)).mono ?_; rw [HB.out, hg'.out]; rintro e w' ⟨rfl, rfl⟩)
    go_ret2
    exact ⟨ret_pt (by rw [HX.out]; rfl), rfl⟩

set_option maxRecDepth 100000 in
set_option maxHeartbeats 1000000 in
theorem point_none (s : ByteArray) (w : World) (hs : 0 < s.size) (hb : (128 ≤ byt s 0 ∧ byt s 0 < 192) ∨ 248 ≤ byt s 0) :
    Calls Try.prog 58 #[.string s] w fun e w' => e = .returned (.tuple #[.int .i64 ((pt s.data.toList).1 : Int), .int .i64 ((pt s.data.toList).2 : Int)]) ∧ w' = w := by
  have H := Lib.hid ((pt_byt s).trans (ptN_none _ _ _ _ _ (by have := byt_lt s 0; omega)))
  have g := byt_lt s 0
  rw [← byt_at s 0 hs] at hb g
  rcases hb with hb | hb
  · obtain ⟨b0, b1⟩ := hb
    go_enter Try.func58, Try.ntmps58
    go_wp2
    go_ret2
    exact ⟨ret_pt (by rw [H.out]; rfl), rfl⟩
  · go_enter Try.func58, Try.ntmps58
    go_wp2
    go_ret2
    exact ⟨ret_pt (by rw [H.out]; rfl), rfl⟩

theorem point_any (s : ByteArray) (w : World) (hs : 0 < s.size) (hm : s.size ≤ 9223372036854775807) :
    Calls Try.prog 58 #[.string s] w fun e w' => e = .returned (.tuple #[.int .i64 ((pt s.data.toList).1 : Int), .int .i64 ((pt s.data.toList).2 : Int)]) ∧ w' = w := by
  by_cases h1 : byt s 0 < 128
  · exact point_low s w hs hm h1
  · by_cases h2 : byt s 0 < 192
    · exact point_none s w hs (.inl ⟨by omega, h2⟩)
    · by_cases h3 : byt s 0 < 224
      · exact point_two s w hs hm (by omega) h3
      · by_cases h4 : byt s 0 < 240
        · exact point_three s w hs hm (by omega) h4
        · by_cases h5 : byt s 0 < 248
          · exact point_four s w hs hm (by omega) h5
          · exact point_none s w hs (.inr (by omega))
end Go.Proofs.Ytdogeljlcnlbkaa
