/- text.Check: whether any bytes may be a text. -/
import Derived.Test.YtdogeljlcnlbkaaTextLeaf
import Derived.Lib.RuneCount
namespace Go.Proofs.Ytdogeljlcnlbkaa
open Go.RowKit Go.Lib Txt

/-- What one round of Check's loop decides. -/
def okAt (s : ByteArray) (pos : Nat) : Bool := good ((Utf8.decode s pos).1 : Int) && !(decide ((Utf8.decode s pos).1 = 65533) && decide ((Utf8.decode s pos).2 = 1))
theorem okAt_no (s : ByteArray) (pos : Nat) (hp : pos < s.size) (h : okAt s pos = false) : chk (s.data.toList.drop pos) = false := by
  have hne : s.data.toList.drop pos ≠ [] := by
    intro e; have := congrArg List.length e; rw [List.length_drop, ← Lib.size_eq] at this; simp at this; omega
  rw [chk_step _ hne, if_pos]
  rw [pt_eq, decodeL_drop, if_neg]
  intro x
  unfold okAt at h
  rw [x.1] at h
  have : (decide ((Utf8.decode s pos).1 = 65533) && decide ((Utf8.decode s pos).2 = 1)) = false := by
    rw [Bool.and_eq_false_iff, decide_eq_false_iff_not, decide_eq_false_iff_not]
    exact Decidable.not_and_iff_not_or_not.1 x.2
  rw [this] at h
  cases h
theorem okAt_yes (s : ByteArray) (pos : Nat) (hp : pos < s.size) (h : okAt s pos = true) : chk (s.data.toList.drop (pos + (Utf8.decode s pos).2)) = chk (s.data.toList.drop pos) ∧ pos + (Utf8.decode s pos).2 ≤ s.size ∧ 1 ≤ (Utf8.decode s pos).2 := by
  have hne : s.data.toList.drop pos ≠ [] := by
    intro e; have := congrArg List.length e; rw [List.length_drop, ← Lib.size_eq] at this; simp at this; omega
  unfold okAt at h
  rw [Bool.and_eq_true] at h
  obtain ⟨h1, h2⟩ := h
  have h3 : ¬ ((Utf8.decode s pos).1 = 65533 ∧ (Utf8.decode s pos).2 = 1) := by
    intro x
    rw [decide_eq_true x.1, decide_eq_true x.2] at h2
    cases h2
  have hpt : pt (s.data.toList.drop pos) = Utf8.decode s pos := by
    rw [pt_eq, decodeL_drop, if_pos ⟨h1, h3⟩]
  have hw := Lib.decode_width_pos s pos hp
  have hle := pt_le hne
  rw [hpt, List.length_drop, ← Lib.size_eq] at hle
  refine ⟨?_, by omega, hw⟩
  rw [chk_step _ hne, hpt, if_neg (by omega), List.drop_drop]
theorem err_at (s : ByteArray) (pos : Nat) (hp : pos < s.size) (h : (Utf8.decode s pos).1 = 65533) :
    hasPrefix (s.extract pos s.size).data.toList [239, 191, 189] = !decide ((Utf8.decode s pos).2 = 1) := by
  have hne : s.data.toList.drop pos ≠ [] := by
    intro e; have := congrArg List.length e; rw [List.length_drop, ← Lib.size_eq] at this; simp at this; omega
  have e : (s.extract pos s.size).data.toList = s.data.toList.drop pos := by
    rw [Lib.extract_data, List.take_of_length_le]
    rw [List.length_drop, ← Lib.size_eq]; omega
  rw [e, err_prefix _ hne (by rw [decodeL_drop]; exact h), decodeL_drop]

theorem mayBe_at (n : Int) (b : Bool) (w : World) (h : good n = b) :
    Calls Try.prog 67 #[.int .i32 n] w fun e w' => e = .returned (.bool b) ∧ w' = w := by
  rw [← h]; exact mayBe_any n w
theorem prefix_at (s p : ByteArray) (b : Bool) (w : World) (h : hasPrefix s.data.toList p.data.toList = b) :
    Calls Try.prog 52 #[.string s, .string p] w fun e w' => e = .returned (.bool b) ∧ w' = w := by
  rw [← h]; exact Try.strings_HasPrefix s p w

set_option maxRecDepth 100000 in
set_option maxHeartbeats 2000000 in
theorem Check_any (s : ByteArray) (w : World) (hm : s.size ≤ 9223372036854775807) :
    Calls Try.prog 59 #[.string s] w fun e w' => e = .returned (.int .i64 (textErr s.data.toList)) ∧ Below w.heap.size w w' := by
  by_cases hlim : 1024 < s.size
  · have H := Lib.hid (show textErr s.data.toList = 2 by unfold textErr; rw [← Lib.size_eq, if_pos hlim])
    go_enter Try.func59, Try.ntmps59
    go_wp2
    go_ret
    exact ⟨ret_int H.out.symm, Below.refl _ _⟩
  · have H : Hid (textErr s.data.toList = if chk s.data.toList = true then 0 else 8) := Lib.hid (by unfold textErr; rw [← Lib.size_eq, if_neg hlim])
    have hz : decide (1024 < (s.size : Int)) = false := by simp; omega
    go_enter Try.func59, Try.ntmps59
    go_wp2_with fail
    go_loopw [4] (fun _ wr => ∃ pos : Nat, pos ≤ s.size ∧ wr = w.iter s pos ∧ chk (s.data.toList.drop pos) = chk s.data.toList) (fun _ wr => s.size - wr.iterPos w.heap.size)
    case atStart => exact ⟨0, Nat.zero_le _, rfl, rfl⟩
    case round =>
      obtain ⟨pos, hps, rfl, hc⟩ := hrel
      have HC := Lib.hid hc
      clear hc
      have hb : ∀ p, Below w.heap.size w (w.iter s p) := fun p => (Below.refl _ w).alloc (Nat.le_refl _) _
      by_cases hp : pos < s.size
      · have hnx := fun ty => run_next_any (P := Try.prog) w s pos ty hp
        have hd1 := decode_le s pos
        have hw0 := Lib.decode_width_pos s pos hp
        have HE := fun h => err_at s pos hp h
        have HO : okAt s pos = (good ((Utf8.decode s pos).1 : Int) && !(decide ((Utf8.decode s pos).1 = 65533) && decide ((Utf8.decode s pos).2 = 1))) := rfl
        have HN := okAt_no s pos hp
        have HY := okAt_yes s pos hp
        generalize Utf8.decode s pos = d at hnx hd1 HE HO HY hw0
        obtain ⟨r, v⟩ := d
        simp only [] at hnx hd1 HE HO HY hw0
        have HO' := Lib.hid HO
        clear HO
        have HE' := Lib.hid HE
        clear HE
        have HN' := Lib.hid HN
        clear HN
        have HY' := Lib.hid HY
        clear HY
        cases hg : good (r : Int) with
        | false =>
          have hg' := Lib.hid hg
          clear hg
          go_wp2_with (go_at_call 67; refine (mayBe_at _ false _ hg'.out).mono ?_; rintro e w' ⟨rfl, rfl⟩)
          go_ret
          refine ⟨ret_int ?_, hb _⟩
          rw [H.out, ← HC.out, HN'.out (by rw [HO'.out, hg'.out]; rfl)]; rfl
        | true =>
          have hg' := Lib.hid hg
          clear hg
          by_cases he : r = 65533
          · have hq : ((r : Int) == 65533) = true := by simp; omega
            have HE1 := Lib.hid (HE'.out he)
            have he' := Lib.hid he
            clear he
            clear HE'
            by_cases hv : v = 1
            · have HP := Lib.hid (HE1.out.trans (show (!decide (v = 1)) = false by rw [hv]; rfl))
              have hv' := Lib.hid hv
              clear hv
              clear HE1
              go_wp2_with (first | (go_at_call 67; refine (mayBe_at _ true _ hg'.out).mono ?_; rintro e w' ⟨rfl, rfl⟩) | (go_at_call 52; refine (prefix_at (s.extract pos s.size) ⟨#[239, 191, 189]⟩ false _ HP.out).mono ?_; rintro e w' ⟨rfl, rfl⟩))
              go_ret
              refine ⟨ret_int ?_, hb _⟩
              rw [H.out, ← HC.out, HN'.out (by rw [HO'.out, hg'.out, he'.out, hv'.out]; rfl)]; rfl
            · have HP := Lib.hid (HE1.out.trans (show (!decide (v = 1)) = true by rw [decide_eq_false hv]; rfl))
              have hv' := Lib.hid hv
              clear hv
              clear HE1
              have HZ := Lib.hid (HY'.out (by rw [HO'.out, hg'.out, he'.out, decide_eq_false hv'.out]; rfl))
              go_wp2_with (first | (go_at_call 67; refine (mayBe_at _ true _ hg'.out).mono ?_; rintro e w' ⟨rfl, rfl⟩) | (go_at_call 52; refine (prefix_at (s.extract pos s.size) ⟨#[239, 191, 189]⟩ true _ HP.out).mono ?_; rintro e w' ⟨rfl, rfl⟩))
              go_roundw
              case rel => exact ⟨pos + v, HZ.out.2.1, rfl, HZ.out.1.trans HC.out⟩
              case measure => simp; omega
          · have hq : ((r : Int) == 65533) = false := by simp; omega
            have HZ := Lib.hid (HY'.out (by rw [HO'.out, hg'.out, decide_eq_false he]; rfl))
            have he' := Lib.hid he
            clear he
            clear HE'
            go_wp2_with (go_at_call 67; refine (mayBe_at _ true _ hg'.out).mono ?_; rintro e w' ⟨rfl, rfl⟩)
            go_roundw
            case rel => exact ⟨pos + v, HZ.out.2.1, rfl, HZ.out.1.trans HC.out⟩
            case measure => simp; omega
      · have hnx := fun ty => run_next_end (P := Try.prog) w s pos ty hp
        go_wp2
        go_ret
        refine ⟨ret_int ?_, hb _⟩
        rw [H.out, ← HC.out, List.drop_of_length_le (by rw [← Lib.size_eq]; omega), chk_nil]; rfl
end Go.Proofs.Ytdogeljlcnlbkaa
