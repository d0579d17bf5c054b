/- The document's own answer: whether bytes may be a text. -/
import Derived.Test.YtdogeljlcnlbkaaTextPoint
namespace Go.Proofs.Ytdogeljlcnlbkaa
open Go.RowKit Go.Lib Txt

/-- How long a text in a slot is. -/
def strLen : Value → Nat
  | .string t => t.size
  | _ => 0

theorem data_ne {t : ByteArray} (h : 0 < t.size) : t.data.toList ≠ [] := by
  intro e; rw [Lib.size_eq, e] at h; simp at h
theorem data_cut (t : ByteArray) (k : Nat) : (t.extract k t.size).data.toList = t.data.toList.drop k := by
  rw [Lib.extract_data, List.take_of_length_le]
  rw [List.length_drop, ← Lib.size_eq]; omega
theorem size_cut (t : ByteArray) (k : Nat) : (t.extract k t.size).size = t.size - k := by
  rw [Lib.size_eq, data_cut, List.length_drop, ← Lib.size_eq]

set_option maxRecDepth 100000 in
set_option maxHeartbeats 1000000 in
/-- fairwayref1.Text. -/
theorem RText_any (s : ByteArray) (w : World) :
    Calls Try.prog 41 #[.string s] w fun e w' => e = .returned (.int .i64 (textErr s.data.toList)) ∧ w' = w := by
  by_cases hlim : 1024 < s.size
  · have H := Lib.hid (show textErr s.data.toList = 2 by unfold textErr; rw [← Lib.size_eq, if_pos hlim])
    go_enter Try.func41, Try.ntmps41
    go_wp2
    go_ret
    exact ⟨ret_int H.out.symm, rfl⟩
  · have H : Hid (textErr s.data.toList = if chk s.data.toList = true then 0 else 8) := Lib.hid (by unfold textErr; rw [← Lib.size_eq, if_neg hlim])
    have hz : decide (1024 < (s.size : Int)) = false := by simp; omega
    go_enter Try.func41, Try.ntmps41
    go_wp2_with fail
    go_loop [0] (fun v => ∃ t : ByteArray, v = .string t ∧ t.size ≤ s.size ∧ chk t.data.toList = chk s.data.toList) (fun v => strLen v)
    case atStart => exact ⟨s, rfl, Nat.le_refl _, rfl⟩
    case round =>
      obtain ⟨t, rfl, hts, hc⟩ := hrel
      have HC := Lib.hid hc
      clear hc
      by_cases hp : 0 < t.size
      · have HS := Lib.hid (chk_step t.data.toList (data_ne hp))
        have hle := pt_le (data_ne hp)
        rw [← Lib.size_eq] at hle
        have HP := Lib.hid (fun W => point_any t W hp (by omega))
        generalize hd : pt t.data.toList = d at HS hle HP
        clear hd
        obtain ⟨r, n⟩ := d
        simp only [] at hle
        by_cases hn : n = 0
        · subst hn
          go_wp2_with (go_at_call 58; refine (HP.out _).mono ?_; rintro e w' ⟨rfl, rfl⟩)
          go_ret
          refine ⟨ret_int ?_, rfl⟩
          rw [H.out, ← HC.out, HS.out]; rfl
        · have hb : ((n : Int) == 0) = false := by simp; omega
          go_wp2_with (go_at_call 58; refine (HP.out _).mono ?_; rintro e w' ⟨rfl, rfl⟩)
          go_round
          case rel => exact ⟨_, rfl, by rw [size_cut]; omega, by rw [data_cut, ← HC.out, HS.out, if_neg hn]⟩
          case measure => simp [strLen]; omega
      · go_wp2
        go_ret
        refine ⟨ret_int ?_, rfl⟩
        have e : t.data.toList = [] := List.eq_nil_of_length_eq_zero (by rw [← Lib.size_eq]; omega)
        rw [H.out, ← HC.out, e, chk_nil]; rfl

end Go.Proofs.Ytdogeljlcnlbkaa
