/- Package disk: which names may be: a range over a text's code points, and the same byte by byte. -/
import Derived.Test.YtgimecgdfcckbaaShelf
import Derived.Test.YtgimecgdfcckbaaSay
import Derived.Test.YtgimecgdfcckbaaDskMem
import Derived.Lib.MapLaws
import Derived.Lib.TrimUEq
import Derived.Lib.DecodeN
import Derived.Lib.RuneCount
import Derived.WalkSmall
namespace Go.Proofs.Ytgimecgdfcckbaa.Dsk
open Go.RowKit Go.Lib

def printB (l : List UInt8) : Bool := l.all fun c => decide (33 ≤ c.toNat) && decide (c.toNat ≤ 126)
theorem nameB_eq (n : List UInt8) : nameB n = (decide (1 ≤ n.length) && (decide (n.length ≤ 64) && printB n)) := rfl
theorem decodeN_print (n b0 b1 b2 b3 : Nat) : ((decodeN n b0 b1 b2 b3).1 < 33 → b0 < 33) ∧ (126 < (decodeN n b0 b1 b2 b3).1 → 126 < b0) ∧
    ((decodeN n b0 b1 b2 b3).1 ≤ 126 → b0 = (decodeN n b0 b1 b2 b3).1 ∧ (decodeN n b0 b1 b2 b3).2 = 1) := by
  unfold decodeN
  repeat' split
  all_goals (refine ⟨fun h => ?_, fun h => ?_, fun h => ⟨?_, ?_⟩⟩ <;> dsimp only at * <;> omega)
theorem print_step (l : List UInt8) (hne : l ≠ []) :
    ((decodeL l).1 < 33 ∨ 126 < (decodeL l).1 → printB l = false) ∧ (33 ≤ (decodeL l).1 → (decodeL l).1 ≤ 126 → printB l = printB (l.drop (decodeL l).2)) := by
  obtain ⟨h1, h2, h3⟩ := decodeN_print l.length (l.getD 0 0).toNat (l.getD 1 0).toNat (l.getD 2 0).toNat (l.getD 3 0).toNat
  rw [← decodeL_N] at h1 h2 h3
  cases l with
  | nil => exact absurd rfl hne
  | cons b t =>
    have e0 : ((b :: t).getD 0 0) = b := rfl
    rw [e0] at h1 h2 h3
    refine ⟨fun h => ?_, fun ha hb => ?_⟩
    · unfold printB
      rw [List.all_cons]
      rcases h with h | h
      · have : decide (33 ≤ b.toNat) = false := by have := h1 h; simp; omega
        rw [this]; rfl
      · have : decide (b.toNat ≤ 126) = false := by have := h2 h; simp; omega
        rw [this]; simp
    · obtain ⟨e1, e2⟩ := h3 hb
      rw [e2]
      unfold printB
      rw [List.all_cons]
      have q1 : decide (33 ≤ b.toNat) = true := by simp; omega
      have q2 : decide (b.toNat ≤ 126) = true := by simp; omega
      rw [q1, q2]; rfl
theorem drop_ne {s : ByteArray} {pos : Nat} (hp : pos < s.size) : s.data.toList.drop pos ≠ [] := by
  intro e; have := congrArg List.length e; rw [List.length_drop, ← Lib.size_eq] at this; simp at this; omega
theorem decodeL_at (s : ByteArray) (pos : Nat) (hp : pos < s.size) : 1 ≤ (Utf8.decode s pos).2 ∧ pos + (Utf8.decode s pos).2 ≤ s.size := by
  have hle := decodeL_le _ (drop_ne hp)
  rw [decodeL_drop, List.length_drop, ← Lib.size_eq] at hle
  have := Lib.decode_width_pos s pos hp
  omega

set_option maxRecDepth 100000 in
set_option maxHeartbeats 2000000 in
/-- disk.isName. -/
theorem isName_is (x : List UInt8) (b : Bool) (w : World) (hS : nameB x = b) :
    Calls Try.prog 26 #[.string (str x)] w fun e w' => e = .returned (.bool b) ∧ Below w.heap.size w w' := by
  have hS : (decide (1 ≤ (str x).size) && (decide ((str x).size ≤ 64) && printB (str x).data.toList)) = b := by rw [str_size, str_data, ← nameB_eq]; exact hS
  generalize str x = s at hS
  by_cases h1 : s.size < 1
  · have q1 : decide ((s.size : Int) < 1) = true := by simp; omega
    have HB := Lib.hid (show b = false by rw [← hS]; simp; omega)
    clear hS h1
    go_enter Try.func26, Try.ntmps26
    go_wp2
    go_ret
    exact ⟨ret_bool HB.out.symm, Below.refl _ _⟩
  · have q1 : decide ((s.size : Int) < 1) = false := by simp; omega
    by_cases h2 : 64 < s.size
    · have q2 : decide ((64 : Int) < (s.size : Int)) = true := by simp; omega
      have HB := Lib.hid (show b = false by rw [← hS]; simp; omega)
      clear hS h1 h2
      go_enter Try.func26, Try.ntmps26
      go_wp2
      go_ret
      exact ⟨ret_bool HB.out.symm, Below.refl _ _⟩
    · have q2 : decide ((64 : Int) < (s.size : Int)) = false := by simp; omega
      have HS := Lib.hid (show printB s.data.toList = b by
        have e1 : decide (1 ≤ s.size) = true := by simp; omega
        have e2 : decide (s.size ≤ 64) = true := by simp; omega
        rw [e1, e2] at hS; simpa using hS)
      clear hS h1 h2
      go_enter Try.func26, Try.ntmps26
      go_wp2_with fail
      go_loopw [4] (fun _ wr => ∃ pos : Nat, pos ≤ s.size ∧ wr = w.iter s pos ∧ printB (s.data.toList.drop pos) = printB s.data.toList) (fun _ wr => s.size - wr.iterPos w.heap.size)
      case atStart => exact ⟨0, Nat.zero_le _, rfl, rfl⟩
      case round =>
        obtain ⟨pos, hps, rfl, hc⟩ := hrel
        have HC := Lib.hid (hc.trans HS.out)
        have HC0 := Lib.hid hc
        clear hc HS
        have hb : ∀ p, Below w.heap.size w (w.iter s p) := fun p => (Below.refl _ w).alloc (Nat.le_refl _) _
        by_cases hp : pos < s.size
        · have hnx := fun ty => run_next_any (P := Try.prog) w s pos ty hp
          obtain ⟨hw0, hd1⟩ := decodeL_at s pos hp
          obtain ⟨s1, s2⟩ := print_step _ (drop_ne hp)
          rw [decodeL_drop] at s1 s2
          generalize Utf8.decode s pos = d at hnx hd1 hw0 s1 s2
          obtain ⟨r, v⟩ := d
          simp only [] at hnx hd1 hw0 s1 s2
          have S1 := Lib.hid s1
          have S2 := Lib.hid s2
          clear s1 s2
          by_cases h1 : r < 33
          · have q3 : decide ((r : Int) < 33) = true := by simp; omega
            have H1 := Lib.hid h1
            clear h1 S2
            go_wp2
            go_ret
            exact ⟨ret_bool ((S1.out (.inl H1.out)).symm.trans HC.out), hb _⟩
          · have q3 : decide ((r : Int) < 33) = false := by simp; omega
            by_cases h2 : 126 < r
            · have q4 : decide ((126 : Int) < (r : Int)) = true := by simp; omega
              have H2 := Lib.hid h2
              clear h2 S2
              go_wp2
              go_ret
              exact ⟨ret_bool ((S1.out (.inr H2.out)).symm.trans HC.out), hb _⟩
            · have q4 : decide ((126 : Int) < (r : Int)) = false := by simp; omega
              have H3 := Lib.hid (S2.out (by omega) (by omega))
              clear h1 h2 S1 S2
              go_wp2
              go_roundw
              case rel => exact ⟨pos + v, hd1, rfl, by rw [← HC0.out, H3.out, List.drop_drop]⟩
              case measure => simp; omega
        · have hnx := fun ty => run_next_end (P := Try.prog) w s pos ty hp
          go_wp2
          go_ret
          refine ⟨ret_bool ?_, hb _⟩
          rw [← HC.out, List.drop_of_length_le (by rw [← Lib.size_eq]; omega)]; rfl
end Go.Proofs.Ytgimecgdfcckbaa.Dsk
