/- Package vbi: numbers as two and as four bytes, the highest first. -/
import Derived.Test.YtimoncjdfmfojaaDoorRcOr
namespace Go.Proofs.YtimoncjdfmfojaaDoor
open Go.RowKit Go.Lib Vbi

theorem make_2 (w : World) : (Instr.makeSlice 50 (.int .i64 2) (.int .i64 2)).run Tryd.prog w = .ok (.slice (some ⟨w.heap.size, 0, none⟩) 2 2) (w.alloc (.cells #[.int .u8 0, .int .u8 0] 5)) := by kernel_rfl
theorem fixZ_2 (n : Nat) (hn : n < 65536) : fixZ 2 n = [(n : Int) / 256, (n : Int) % 256] := by
  unfold fixZ fixZ fixZ
  simp only [Nat.pow_zero, Nat.pow_one, Nat.div_one]
  congr 1
  omega
set_option maxRecDepth 100000 in
set_option maxHeartbeats 2000000 in
theorem fixed2 (n : Nat) (w : World) (hn : n < 65536) :
    Calls Tryd.prog 39 #[.int .i64 (n : Int), .int .i64 2] w fun e w' => e = .returned (.tuple #[.string (strOfNums (fixZ 2 n)), .int .i64 0]) ∧ Below w.heap.size w w' := by
  have hd0 : decide ((n : Int) < 0) = false := by simp
  have hd1 : decide (0 < (n : Int) / 65536) = false := by simp; omega
  have hmk := make_2
  have HF := Lib.hid (fixZ_2 n hn)
  go_enter Tryd.func39, Tryd.ntmps39
  go_wp2_with fail
  go_loopw [21] (fun iv wr => ∃ (k a0 a1 : Int), iv = .int .i64 k ∧ ((k = 0 ∧ a0 = 0 ∧ a1 = 0) ∨ (k = 1 ∧ a0 = 0 ∧ a1 = (n : Int) % 256) ∨ (k = 2 ∧ a0 = (n : Int) / 256 ∧ a1 = (n : Int) % 256)) ∧ wr = w.alloc (.cells #[.int .u8 a0, .int .u8 a1] 5)) (fun iv _ => (2 - RowKit.intOf iv).toNat)
  case atStart => exact ⟨0, 0, 0, rfl, .inl ⟨rfl, rfl, rfl⟩, rfl⟩
  case round =>
    obtain ⟨k, a0, a1, rfl, hk, rfl⟩ := hrel
    rcases hk with ⟨rfl, rfl, rfl⟩ | ⟨rfl, rfl, rfl⟩ | ⟨rfl, rfl, rfl⟩
    · go_wp2_with fail
      go_roundw
      case rel => exact ⟨1, _, _, rfl, (.inr (.inl ⟨rfl, rfl, rfl⟩)), rfl⟩
      case measure => simp [RowKit.intOf]
    · go_wp2_with fail
      go_roundw
      case rel => exact ⟨2, _, _, rfl, (.inr (.inr ⟨rfl, rfl, rfl⟩)), rfl⟩
      case measure => simp [RowKit.intOf]
    · have hcv : (convert 50 9 (.slice (some ⟨w.heap.size, 0, none⟩) 2 2)).run Tryd.prog (w.alloc (.cells #[.int .u8 ((n : Int) / 256), .int .u8 ((n : Int) % 256)] 5)) = .ok (.string (strOfNums (fixZ 2 n))) (w.alloc (.cells #[.int .u8 ((n : Int) / 256), .int .u8 ((n : Int) % 256)] 5)) := by
        have hl := lit_nums w #[.int .u8 ((n : Int) / 256), .int .u8 ((n : Int) % 256)] (fixZ 2 n) .u8 5 (by rw [HF.out]; rfl)
        obtain ⟨a, ha, _, hc⟩ := hl.some_ (by rw [fixZ_len]; omega)
        injection ha with ha
        subst ha
        exact run_convert_bytes_arg _ 50 5 Tryd.underlying50 Tryd.underlying5 w.heap.size 0 2 2 (fixZ 2 n) (fixZ_len _ _) (fun i hi => by
          have := hc i (by rw [fixZ_len]; exact hi)
          rw [add_new] at this
          rw [Nat.zero_add]; exact this) 9 Tryd.underlying9
      go_wp2_with fail
      go_ret2
      exact ⟨rfl, (Below.refl _ _).alloc (Nat.le_refl _) _⟩
theorem make_4 (w : World) : (Instr.makeSlice 50 (.int .i64 4) (.int .i64 4)).run Tryd.prog w = .ok (.slice (some ⟨w.heap.size, 0, none⟩) 4 4) (w.alloc (.cells #[.int .u8 0, .int .u8 0, .int .u8 0, .int .u8 0] 5)) := by kernel_rfl
theorem fixZ_4 (n : Nat) (hn : n < 4294967296) : fixZ 4 n = [(n : Int) / 16777216, (n : Int) / 65536 % 256, (n : Int) / 256 % 256, (n : Int) % 256] := by
  unfold fixZ fixZ fixZ fixZ fixZ
  simp only [Nat.reducePow, Nat.pow_zero, Nat.pow_one, Nat.div_one]
  congr 1
  omega
set_option maxRecDepth 100000 in
set_option maxHeartbeats 2000000 in
theorem fixed4 (n : Nat) (w : World) (hn : n < 4294967296) :
    Calls Tryd.prog 39 #[.int .i64 (n : Int), .int .i64 4] w fun e w' => e = .returned (.tuple #[.string (strOfNums (fixZ 4 n)), .int .i64 0]) ∧ Below w.heap.size w w' := by
  have hd0 : decide ((n : Int) < 0) = false := by simp
  have hd1 : decide (0 < (n : Int) / 4294967296) = false := by simp; omega
  have hmk := make_4
  have HF := Lib.hid (fixZ_4 n hn)
  go_enter Tryd.func39, Tryd.ntmps39
  go_wp2_with fail
  go_loopw [21] (fun iv wr => ∃ (k a0 a1 a2 a3 : Int), iv = .int .i64 k ∧ ((k = 0 ∧ a0 = 0 ∧ a1 = 0 ∧ a2 = 0 ∧ a3 = 0) ∨ (k = 1 ∧ a0 = 0 ∧ a1 = 0 ∧ a2 = 0 ∧ a3 = (n : Int) % 256) ∨ (k = 2 ∧ a0 = 0 ∧ a1 = 0 ∧ a2 = (n : Int) / 256 % 256 ∧ a3 = (n : Int) % 256) ∨ (k = 3 ∧ a0 = 0 ∧ a1 = (n : Int) / 65536 % 256 ∧ a2 = (n : Int) / 256 % 256 ∧ a3 = (n : Int) % 256) ∨ (k = 4 ∧ a0 = (n : Int) / 16777216 ∧ a1 = (n : Int) / 65536 % 256 ∧ a2 = (n : Int) / 256 % 256 ∧ a3 = (n : Int) % 256)) ∧ wr = w.alloc (.cells #[.int .u8 a0, .int .u8 a1, .int .u8 a2, .int .u8 a3] 5)) (fun iv _ => (4 - RowKit.intOf iv).toNat)
  case atStart => exact ⟨0, 0, 0, 0, 0, rfl, .inl ⟨rfl, rfl, rfl, rfl, rfl⟩, rfl⟩
  case round =>
    obtain ⟨k, a0, a1, a2, a3, rfl, hk, rfl⟩ := hrel
    rcases hk with ⟨rfl, rfl, rfl, rfl, rfl⟩ | ⟨rfl, rfl, rfl, rfl, rfl⟩ | ⟨rfl, rfl, rfl, rfl, rfl⟩ | ⟨rfl, rfl, rfl, rfl, rfl⟩ | ⟨rfl, rfl, rfl, rfl, rfl⟩
    · go_wp2_with fail
      go_roundw
      case rel => exact ⟨1, _, _, _, _, rfl, (.inr (.inl ⟨rfl, rfl, rfl, rfl, rfl⟩)), rfl⟩
      case measure => simp [RowKit.intOf]
    · go_wp2_with fail
      go_roundw
      case rel => exact ⟨2, _, _, _, _, rfl, (.inr (.inr (.inl ⟨rfl, rfl, rfl, rfl, rfl⟩))), rfl⟩
      case measure => simp [RowKit.intOf]
    · go_wp2_with fail
      go_roundw
      case rel => exact ⟨3, _, _, _, _, rfl, (.inr (.inr (.inr (.inl ⟨rfl, rfl, rfl, rfl, rfl⟩)))), rfl⟩
      case measure => simp [RowKit.intOf]
    · go_wp2_with fail
      go_roundw
      case rel => exact ⟨4, _, _, _, _, rfl, (.inr (.inr (.inr (.inr ⟨rfl, rfl, rfl, rfl, rfl⟩)))), rfl⟩
      case measure => simp [RowKit.intOf]
    · have hcv : (convert 50 9 (.slice (some ⟨w.heap.size, 0, none⟩) 4 4)).run Tryd.prog (w.alloc (.cells #[.int .u8 ((n : Int) / 16777216), .int .u8 ((n : Int) / 65536 % 256), .int .u8 ((n : Int) / 256 % 256), .int .u8 ((n : Int) % 256)] 5)) = .ok (.string (strOfNums (fixZ 4 n))) (w.alloc (.cells #[.int .u8 ((n : Int) / 16777216), .int .u8 ((n : Int) / 65536 % 256), .int .u8 ((n : Int) / 256 % 256), .int .u8 ((n : Int) % 256)] 5)) := by
        have hl := lit_nums w #[.int .u8 ((n : Int) / 16777216), .int .u8 ((n : Int) / 65536 % 256), .int .u8 ((n : Int) / 256 % 256), .int .u8 ((n : Int) % 256)] (fixZ 4 n) .u8 5 (by rw [HF.out]; rfl)
        obtain ⟨a, ha, _, hc⟩ := hl.some_ (by rw [fixZ_len]; omega)
        injection ha with ha
        subst ha
        exact run_convert_bytes_arg _ 50 5 Tryd.underlying50 Tryd.underlying5 w.heap.size 0 4 4 (fixZ 4 n) (fixZ_len _ _) (fun i hi => by
          have := hc i (by rw [fixZ_len]; exact hi)
          rw [add_new] at this
          rw [Nat.zero_add]; exact this) 9 Tryd.underlying9
      go_wp2_with fail
      go_ret2
      exact ⟨rfl, (Below.refl _ _).alloc (Nat.le_refl _) _⟩

/-- A number that has no room in so many bytes. -/
theorem fixed_bad (n : Int) (wd : Int) (w : World) (hn : (n < 0 ∧ 0 ≤ wd ∧ wd ≤ 4) ∨ (65536 ≤ n ∧ n ≤ 9223372036854775807 ∧ wd = 2) ∨ (4294967296 ≤ n ∧ n ≤ 9223372036854775807 ∧ wd = 4)) :
    Calls Tryd.prog 39 #[.int .i64 n, .int .i64 wd] w fun e w' => e = .returned (.tuple #[.string ⟨#[]⟩, .int .i64 2]) ∧ Below w.heap.size w w' := by
  rcases hn with ⟨h, h1, h2⟩ | ⟨h, h1, rfl⟩ | ⟨h, h1, rfl⟩
  · have hd0 : decide (n < 0) = true := by simp; omega
    go_enter Tryd.func39, Tryd.ntmps39
    go_wp2_with fail
    go_ret2
    exact ⟨rfl, Below.refl _ _⟩
  · have hd0 : decide (n < 0) = false := by simp; omega
    have hd1 : decide (0 < n / 65536) = true := by simp; omega
    go_enter Tryd.func39, Tryd.ntmps39
    go_wp2_with fail
    go_ret2
    exact ⟨rfl, Below.refl _ _⟩
  · have hd0 : decide (n < 0) = false := by simp; omega
    have hd1 : decide (0 < n / 4294967296) = true := by simp; omega
    go_enter Tryd.func39, Tryd.ntmps39
    go_wp2_with fail
    go_ret2
    exact ⟨rfl, Below.refl _ _⟩
theorem Two_fixed (n : Int) (S : ByteArray) (E : Int) (w : World) (h1 : n ≤ 9223372036854775807) (hS : fixStr 2 n = S) (hE : fixErr 2 n = E) :
    Calls Tryd.prog 39 #[.int .i64 n, .int .i64 2] w fun e w' => e = .returned (.tuple #[.string S, .int .i64 E]) ∧ Below w.heap.size w w' := by
  subst hS hE
  rcases fix_cases 2 n with ⟨h0, h1, e1, e2⟩ | ⟨h0, e1, e2⟩
  · rw [e1, e2]
    obtain ⟨m, rfl⟩ := Int.eq_ofNat_of_zero_le h0
    exact fixed2 m w (by omega)
  · rw [e1, e2]
    exact fixed_bad n 2 w (by omega)
set_option maxHeartbeats 1000000 in
/-- vbi.Two. -/
theorem Two_is (n : Int) (S : ByteArray) (E : Int) (w : World) (h1 : n ≤ 9223372036854775807) (hS : fixStr 2 n = S) (hE : fixErr 2 n = E) :
    Calls Tryd.prog 28 #[.int .i64 n] w fun e w' => e = .returned (.tuple #[.string S, .int .i64 E]) ∧ Below w.heap.size w w' := by
  have HF := Lib.hid (fun W => Two_fixed n S E W h1 hS hE)
  clear hS hE
  go_enter Tryd.func28, Tryd.ntmps28
  go_wp2_with fail
  refine (HF.out _).mono ?_
  rintro e w1 ⟨rfl, hb⟩
  go_wp2_with fail
  go_ret2
  exact ⟨rfl, hb⟩
theorem Four_fixed (n : Int) (S : ByteArray) (E : Int) (w : World) (h1 : n ≤ 9223372036854775807) (hS : fixStr 4 n = S) (hE : fixErr 4 n = E) :
    Calls Tryd.prog 39 #[.int .i64 n, .int .i64 4] w fun e w' => e = .returned (.tuple #[.string S, .int .i64 E]) ∧ Below w.heap.size w w' := by
  subst hS hE
  rcases fix_cases 4 n with ⟨h0, h1, e1, e2⟩ | ⟨h0, e1, e2⟩
  · rw [e1, e2]
    obtain ⟨m, rfl⟩ := Int.eq_ofNat_of_zero_le h0
    exact fixed4 m w (by omega)
  · rw [e1, e2]
    exact fixed_bad n 4 w (by omega)
set_option maxHeartbeats 1000000 in
/-- vbi.Four. -/
theorem Four_is (n : Int) (S : ByteArray) (E : Int) (w : World) (h1 : n ≤ 9223372036854775807) (hS : fixStr 4 n = S) (hE : fixErr 4 n = E) :
    Calls Tryd.prog 29 #[.int .i64 n] w fun e w' => e = .returned (.tuple #[.string S, .int .i64 E]) ∧ Below w.heap.size w w' := by
  have HF := Lib.hid (fun W => Four_fixed n S E W h1 hS hE)
  clear hS hE
  go_enter Tryd.func29, Tryd.ntmps29
  go_wp2_with fail
  refine (HF.out _).mono ?_
  rintro e w1 ⟨rfl, hb⟩
  go_wp2_with fail
  go_ret2
  exact ⟨rfl, hb⟩
end Go.Proofs.YtimoncjdfmfojaaDoor
