/- text.Check: whether any bytes may be a text. -/
import Derived.Test.YtiancngpknnkaaaGreatB01
import Derived.LoopN
import Derived.Lib.RuneCount
set_option maxRecDepth 100000
set_option maxHeartbeats 64000000
namespace Go.Proofs.YtiancngpknnkaaaGreat
open Go.RowKit Go.Lib Vbi
theorem info_byte : (Tryz.prog.info? 5).map (fun i => (i.zero, i.size, i.bytes)) = some (some (.int .u8 0), 1, 1) := by kernel_rfl
theorem conv_bytes {w : World} {B : Nat} {v : Value} {zs : List Int} (h : w.ownsRow B 5 1 v zs.length (zs.map (Value.int .u8))) : (convert 70 9 v).run Tryz.prog w = .ok (.string (strOfNums zs)) w := by
  rcases h.2 with ⟨rfl, hn⟩ | ⟨g, cap, cur, rfl, _⟩
  · have : zs = [] := List.eq_nil_of_length_eq_zero hn
    subst this
    exact run_convert_bytes_nil w 70 5 Tryz.underlying70 Tryz.underlying5 0 0 9 Tryz.underlying9
  · refine run_convert_bytes_arg w 70 5 Tryz.underlying70 Tryz.underlying5 g 0 zs.length cap zs rfl (fun i hi => ?_) 9 Tryz.underlying9
    have := h.cells (g := g) rfl i (.int .u8 (zs.getD i 0)) (by simp [List.getElem?_eq_getElem hi])
    rw [add_new] at this
    rw [Nat.zero_add]; exact this
theorem numZ_short {n m : Nat} {zs : List Int} (hn : n < 268435456) (hm : m < 268435456) (h : numZ n = zs ++ numZ m) : zs.length ≤ 3 := by
  have h1 := congrArg List.length h
  rw [List.length_append, numZ_len hn, numZ_len hm] at h1
  have := numLen_le n
  have := numLen_le m
  omega
theorem numZ_go {n m : Nat} {zs : List Int} (h : numZ n = zs ++ numZ m) (hm : 128 ≤ m) : numZ n = (zs ++ [(m : Int) % 128 + 128]) ++ numZ (m / 128) := by
  rw [h, numZ_more hm]; simp
theorem numZ_stop {n m : Nat} {zs : List Int} (h : numZ n = zs ++ numZ m) (hm : m < 128) : zs ++ [(m : Int)] = numZ n := by
  rw [h, numZ_last hm]
theorem Num_good (n : Nat) (w : World) (hn : n < 268435456) :
    Calls Tryz.prog 46 #[.int .i64 (n : Int)] w fun e w' => e = .returned (.tuple #[.string (strOfNums (numZ n)), .int .i64 0]) ∧ Below w.heap.size w w' := by
  obtain ⟨i0, hi, hz0, hz1, hz2⟩ := info_parts info_byte
  have hd0 : decide ((n : Int) < 0) = false := by simp
  have hd1 : decide ((268435455 : Int) < (n : Int)) = false := by simp; omega
  go_enter Tryz.func46, Tryz.ntmps46
  go_wp2_with fail
  go_loopw [0, 4] (fun nv v wr => ∃ (m : Nat) (zs : List Int), nv = .int .i64 (m : Int) ∧ m < 268435456 ∧ numZ n = zs ++ numZ m ∧ wr.ownsRow w.heap.size 5 1 v zs.length (zs.map (Value.int .u8)) ∧ Below w.heap.size w wr) (fun nv _ _ => (RowKit.intOf nv).toNat)
  case atStart => exact ⟨n, [], rfl, hn, rfl, World.ownsRow_nil _ _ _ _, Below.refl _ _⟩
  case round =>
    obtain ⟨m, zs, rfl, hm, hz, hown, hnx⟩ := hrel
    have h2 := hnx.size
    have hzl := numZ_short hn hm hz
    by_cases hlt : 128 ≤ m
    · have HZ := Lib.hid (numZ_go hz hlt)
      clear hz
      go_wp2_with (at_builtin; refine wpList_append_own _ rfl _ _ 70 rfl w.heap.size 5 i0 (.int .u8 0) 1 1 Tryz.underlying70 hi hz0 hz1 hz2 rfl (by decide) _ _ _ rfl (hown.alloc _) ⟨wr.heap.size, 0, none⟩ 1 1 [.int .u8 ((m : Int) % 128 + 128)] rfl rfl ?c1 ?c2 ?c3 ?c4 ?c5 ?_)
      case c1 => exact cell_one_new _ _ _
      case c2 => intro u hu; simp at hu; subst hu; rfl
      case c3 => unfold maxLen; omega
      case c4 => omega
      case c5 => simp; omega
      intro v' w1 hown' hgrow _
      have hnx' := hnx.trans (below_alloc_grown h2 hown hgrow)
      have HO := Lib.hid (own_snoc hown')
      clear hown' hgrow hown
      go_wp2
      go_roundw
      case rel => exact ⟨m / 128, _, rfl, by omega, HZ.out, HO.out, hnx'⟩
      case measure => simp [RowKit.intOf]; omega
    · have HZ := Lib.hid (numZ_stop hz (by omega))
      clear hz
      go_wp2_with (at_builtin; refine wpList_append_own _ rfl _ _ 70 rfl w.heap.size 5 i0 (.int .u8 0) 1 1 Tryz.underlying70 hi hz0 hz1 hz2 rfl (by decide) _ _ _ rfl (hown.alloc _) ⟨wr.heap.size, 0, none⟩ 1 1 [.int .u8 (m : Int)] rfl rfl ?c1 ?c2 ?c3 ?c4 ?c5 ?_)
      case c1 => exact cell_one_new _ _ _
      case c2 => intro u hu; simp at hu; subst hu; rfl
      case c3 => unfold maxLen; omega
      case c4 => omega
      case c5 => simp; omega
      intro v' w1 hown' hgrow _
      have hnx' := hnx.trans (below_alloc_grown h2 hown hgrow)
      have hcv := conv_bytes (own_snoc hown')
      rw [HZ.out] at hcv
      clear hown' hgrow hown HZ
      go_wp2
      go_ret2
      exact ⟨rfl, hnx'⟩
theorem Num_bad (n : Int) (w : World) (hn : n < 0 ∨ 268435455 < n) :
    Calls Tryz.prog 46 #[.int .i64 n] w fun e w' => e = .returned (.tuple #[.string ⟨#[]⟩, .int .i64 2]) ∧ Below w.heap.size w w' := by
  by_cases h0 : n < 0
  · have hd0 : decide (n < 0) = true := by simp; omega
    go_enter Tryz.func46, Tryz.ntmps46
    go_wp2_with fail
    go_ret2
    exact ⟨rfl, Below.refl _ _⟩
  · have hd0 : decide (n < 0) = false := by simp; omega
    have hd1 : decide (268435455 < n) = true := by simp; omega
    go_enter Tryz.func46, Tryz.ntmps46
    go_wp2_with fail
    go_ret2
    exact ⟨rfl, Below.refl _ _⟩
theorem Num_is (n : Int) (S : ByteArray) (E : Int) (w : World) (hS : numStr n = S) (hE : numErr n = E) :
    Calls Tryz.prog 46 #[.int .i64 n] w fun e w' => e = .returned (.tuple #[.string S, .int .i64 E]) ∧ Below w.heap.size w w' := by
  subst hS hE
  rcases numErr_cases n with ⟨h0, h1, e1, e2⟩ | ⟨h0, e1, e2⟩
  · rw [e1, e2]
    obtain ⟨m, rfl⟩ := Int.eq_ofNat_of_zero_le h0
    exact Num_good m w (by omega)
  · rw [e1, e2]
    exact Num_bad n w h0
open Go.RowKit Go.Lib Vbi
theorem make_2 (w : World) : (Instr.makeSlice 70 (.int .i64 2) (.int .i64 2)).run Tryz.prog w = .ok (.slice (some ⟨w.heap.size, 0, none⟩) 2 2) (w.alloc (.cells #[.int .u8 0, .int .u8 0] 5)) := by kernel_rfl
theorem fixZ_2 (n : Nat) (hn : n < 65536) : fixZ 2 n = [(n : Int) / 256, (n : Int) % 256] := by
  unfold fixZ fixZ fixZ
  simp only [Nat.pow_zero, Nat.pow_one, Nat.div_one]
  congr 1
  omega
theorem fixed2 (n : Nat) (w : World) (hn : n < 65536) :
    Calls Tryz.prog 134 #[.int .i64 (n : Int), .int .i64 2] w fun e w' => e = .returned (.tuple #[.string (strOfNums (fixZ 2 n)), .int .i64 0]) ∧ Below w.heap.size w w' := by
  have hd0 : decide ((n : Int) < 0) = false := by simp
  have hd1 : decide (0 < (n : Int) / 65536) = false := by simp; omega
  have hmk := make_2
  have HF := Lib.hid (fixZ_2 n hn)
  go_enter Tryz.func134, Tryz.ntmps134
  go_wp2_with fail
  go_loopw [21] (fun iv wr => ∃ (k a0 a1 : Int), iv = .int .i64 k ∧ ((k = 0 ∧ a0 = 0 ∧ a1 = 0) ∨ (k = 1 ∧ a0 = 0 ∧ a1 = (n : Int) % 256) ∨ (k = 2 ∧ a0 = (n : Int) / 256 ∧ a1 = (n : Int) % 256)) ∧ wr = w.alloc (.cells #[.int .u8 a0, .int .u8 a1] 5)) (fun iv _ => (2 - RowKit.intOf iv).toNat)
  case atStart => exact ⟨0, 0, 0, rfl, .inl ⟨rfl, rfl, rfl⟩, rfl⟩
  case round =>
    obtain ⟨k, a0, a1, rfl, hk, rfl⟩ := hrel
    rcases hk with ⟨rfl, rfl, rfl⟩ | ⟨rfl, rfl, rfl⟩ | ⟨rfl, rfl, rfl⟩
    · go_wp2_with fail
      go_roundw
      case rel => exact ⟨1, _, _, rfl, (.inr (.inl ⟨rfl, rfl, rfl⟩)), rfl⟩
      case measure => simp [RowKit.intOf]
    · go_wp2_with fail
      go_roundw
      case rel => exact ⟨2, _, _, rfl, (.inr (.inr ⟨rfl, rfl, rfl⟩)), rfl⟩
      case measure => simp [RowKit.intOf]
    · have hcv : (convert 70 9 (.slice (some ⟨w.heap.size, 0, none⟩) 2 2)).run Tryz.prog (w.alloc (.cells #[.int .u8 ((n : Int) / 256), .int .u8 ((n : Int) % 256)] 5)) = .ok (.string (strOfNums (fixZ 2 n))) (w.alloc (.cells #[.int .u8 ((n : Int) / 256), .int .u8 ((n : Int) % 256)] 5)) := by
        have hl := lit_nums w #[.int .u8 ((n : Int) / 256), .int .u8 ((n : Int) % 256)] (fixZ 2 n) .u8 5 (by rw [HF.out]; rfl)
        obtain ⟨a, ha, _, hc⟩ := hl.some_ (by rw [fixZ_len]; omega)
        injection ha with ha
        subst ha
        exact run_convert_bytes_arg _ 70 5 Tryz.underlying70 Tryz.underlying5 w.heap.size 0 2 2 (fixZ 2 n) (fixZ_len _ _) (fun i hi => by
          have := hc i (by rw [fixZ_len]; exact hi)
          rw [add_new] at this
          rw [Nat.zero_add]; exact this) 9 Tryz.underlying9
      go_wp2_with fail
      go_ret2
      exact ⟨rfl, (Below.refl _ _).alloc (Nat.le_refl _) _⟩
theorem make_4 (w : World) : (Instr.makeSlice 70 (.int .i64 4) (.int .i64 4)).run Tryz.prog w = .ok (.slice (some ⟨w.heap.size, 0, none⟩) 4 4) (w.alloc (.cells #[.int .u8 0, .int .u8 0, .int .u8 0, .int .u8 0] 5)) := by kernel_rfl
theorem fixZ_4 (n : Nat) (hn : n < 4294967296) : fixZ 4 n = [(n : Int) / 16777216, (n : Int) / 65536 % 256, (n : Int) / 256 % 256, (n : Int) % 256] := by
  unfold fixZ fixZ fixZ fixZ fixZ
  simp only [Nat.reducePow, Nat.pow_zero, Nat.pow_one, Nat.div_one]
  congr 1
  omega
theorem fixed4 (n : Nat) (w : World) (hn : n < 4294967296) :
    Calls Tryz.prog 134 #[.int .i64 (n : Int), .int .i64 4] w fun e w' => e = .returned (.tuple #[.string (strOfNums (fixZ 4 n)), .int .i64 0]) ∧ Below w.heap.size w w' := by
  have hd0 : decide ((n : Int) < 0) = false := by simp
  have hd1 : decide (0 < (n : Int) / 4294967296) = false := by simp; omega
  have hmk := make_4
  have HF := Lib.hid (fixZ_4 n hn)
  go_enter Tryz.func134, Tryz.ntmps134
  go_wp2_with fail
  go_loopw [21] (fun iv wr => ∃ (k a0 a1 a2 a3 : Int), iv = .int .i64 k ∧ ((k = 0 ∧ a0 = 0 ∧ a1 = 0 ∧ a2 = 0 ∧ a3 = 0) ∨ (k = 1 ∧ a0 = 0 ∧ a1 = 0 ∧ a2 = 0 ∧ a3 = (n : Int) % 256) ∨ (k = 2 ∧ a0 = 0 ∧ a1 = 0 ∧ a2 = (n : Int) / 256 % 256 ∧ a3 = (n : Int) % 256) ∨ (k = 3 ∧ a0 = 0 ∧ a1 = (n : Int) / 65536 % 256 ∧ a2 = (n : Int) / 256 % 256 ∧ a3 = (n : Int) % 256) ∨ (k = 4 ∧ a0 = (n : Int) / 16777216 ∧ a1 = (n : Int) / 65536 % 256 ∧ a2 = (n : Int) / 256 % 256 ∧ a3 = (n : Int) % 256)) ∧ wr = w.alloc (.cells #[.int .u8 a0, .int .u8 a1, .int .u8 a2, .int .u8 a3] 5)) (fun iv _ => (4 - RowKit.intOf iv).toNat)
  case atStart => exact ⟨0, 0, 0, 0, 0, rfl, .inl ⟨rfl, rfl, rfl, rfl, rfl⟩, rfl⟩
  case round =>
    obtain ⟨k, a0, a1, a2, a3, rfl, hk, rfl⟩ := hrel
    rcases hk with ⟨rfl, rfl, rfl, rfl, rfl⟩ | ⟨rfl, rfl, rfl, rfl, rfl⟩ | ⟨rfl, rfl, rfl, rfl, rfl⟩ | ⟨rfl, rfl, rfl, rfl, rfl⟩ | ⟨rfl, rfl, rfl, rfl, rfl⟩
    · go_wp2_with fail
      go_roundw
      case rel => exact ⟨1, _, _, _, _, rfl, (.inr (.inl ⟨rfl, rfl, rfl, rfl, rfl⟩)), rfl⟩
      case measure => simp [RowKit.intOf]
    · go_wp2_with fail
      go_roundw
      case rel => exact ⟨2, _, _, _, _, rfl, (.inr (.inr (.inl ⟨rfl, rfl, rfl, rfl, rfl⟩))), rfl⟩
      case measure => simp [RowKit.intOf]
    · go_wp2_with fail
      go_roundw
      case rel => exact ⟨3, _, _, _, _, rfl, (.inr (.inr (.inr (.inl ⟨rfl, rfl, rfl, rfl, rfl⟩)))), rfl⟩
      case measure => simp [RowKit.intOf]
    · go_wp2_with fail
      go_roundw
      case rel => exact ⟨4, _, _, _, _, rfl, (.inr (.inr (.inr (.inr ⟨rfl, rfl, rfl, rfl, rfl⟩)))), rfl⟩
      case measure => simp [RowKit.intOf]
    · have hcv : (convert 70 9 (.slice (some ⟨w.heap.size, 0, none⟩) 4 4)).run Tryz.prog (w.alloc (.cells #[.int .u8 ((n : Int) / 16777216), .int .u8 ((n : Int) / 65536 % 256), .int .u8 ((n : Int) / 256 % 256), .int .u8 ((n : Int) % 256)] 5)) = .ok (.string (strOfNums (fixZ 4 n))) (w.alloc (.cells #[.int .u8 ((n : Int) / 16777216), .int .u8 ((n : Int) / 65536 % 256), .int .u8 ((n : Int) / 256 % 256), .int .u8 ((n : Int) % 256)] 5)) := by
        have hl := lit_nums w #[.int .u8 ((n : Int) / 16777216), .int .u8 ((n : Int) / 65536 % 256), .int .u8 ((n : Int) / 256 % 256), .int .u8 ((n : Int) % 256)] (fixZ 4 n) .u8 5 (by rw [HF.out]; rfl)
        obtain ⟨a, ha, _, hc⟩ := hl.some_ (by rw [fixZ_len]; omega)
        injection ha with ha
        subst ha
        exact run_convert_bytes_arg _ 70 5 Tryz.underlying70 Tryz.underlying5 w.heap.size 0 4 4 (fixZ 4 n) (fixZ_len _ _) (fun i hi => by
          have := hc i (by rw [fixZ_len]; exact hi)
          rw [add_new] at this
          rw [Nat.zero_add]; exact this) 9 Tryz.underlying9
      go_wp2_with fail
      go_ret2
      exact ⟨rfl, (Below.refl _ _).alloc (Nat.le_refl _) _⟩
theorem fixed_bad (n : Int) (wd : Int) (w : World) (hn : (n < 0 ∧ 0 ≤ wd ∧ wd ≤ 4) ∨ (65536 ≤ n ∧ n ≤ 9223372036854775807 ∧ wd = 2) ∨ (4294967296 ≤ n ∧ n ≤ 9223372036854775807 ∧ wd = 4)) :
    Calls Tryz.prog 134 #[.int .i64 n, .int .i64 wd] w fun e w' => e = .returned (.tuple #[.string ⟨#[]⟩, .int .i64 2]) ∧ Below w.heap.size w w' := by
  rcases hn with ⟨h, h1, h2⟩ | ⟨h, h1, rfl⟩ | ⟨h, h1, rfl⟩
  · have hd0 : decide (n < 0) = true := by simp; omega
    go_enter Tryz.func134, Tryz.ntmps134
    go_wp2_with fail
    go_ret2
    exact ⟨rfl, Below.refl _ _⟩
  · have hd0 : decide (n < 0) = false := by simp; omega
    have hd1 : decide (0 < n / 65536) = true := by simp; omega
    go_enter Tryz.func134, Tryz.ntmps134
    go_wp2_with fail
    go_ret2
    exact ⟨rfl, Below.refl _ _⟩
  · have hd0 : decide (n < 0) = false := by simp; omega
    have hd1 : decide (0 < n / 4294967296) = true := by simp; omega
    go_enter Tryz.func134, Tryz.ntmps134
    go_wp2_with fail
    go_ret2
    exact ⟨rfl, Below.refl _ _⟩
theorem Two_fixed (n : Int) (S : ByteArray) (E : Int) (w : World) (h1 : n ≤ 9223372036854775807) (hS : fixStr 2 n = S) (hE : fixErr 2 n = E) :
    Calls Tryz.prog 134 #[.int .i64 n, .int .i64 2] w fun e w' => e = .returned (.tuple #[.string S, .int .i64 E]) ∧ Below w.heap.size w w' := by
  subst hS hE
  rcases fix_cases 2 n with ⟨h0, h1, e1, e2⟩ | ⟨h0, e1, e2⟩
  · rw [e1, e2]
    obtain ⟨m, rfl⟩ := Int.eq_ofNat_of_zero_le h0
    exact fixed2 m w (by omega)
  · rw [e1, e2]
    exact fixed_bad n 2 w (by omega)
theorem Two_is (n : Int) (S : ByteArray) (E : Int) (w : World) (h1 : n ≤ 9223372036854775807) (hS : fixStr 2 n = S) (hE : fixErr 2 n = E) :
    Calls Tryz.prog 106 #[.int .i64 n] w fun e w' => e = .returned (.tuple #[.string S, .int .i64 E]) ∧ Below w.heap.size w w' := by
  have HF := Lib.hid (fun W => Two_fixed n S E W h1 hS hE)
  clear hS hE
  go_enter Tryz.func106, Tryz.ntmps106
  go_wp2_with fail
  refine (HF.out _).mono ?_
  rintro e w1 ⟨rfl, hb⟩
  go_wp2_with fail
  go_ret2
  exact ⟨rfl, hb⟩
theorem Four_fixed (n : Int) (S : ByteArray) (E : Int) (w : World) (h1 : n ≤ 9223372036854775807) (hS : fixStr 4 n = S) (hE : fixErr 4 n = E) :
    Calls Tryz.prog 134 #[.int .i64 n, .int .i64 4] w fun e w' => e = .returned (.tuple #[.string S, .int .i64 E]) ∧ Below w.heap.size w w' := by
  subst hS hE
  rcases fix_cases 4 n with ⟨h0, h1, e1, e2⟩ | ⟨h0, e1, e2⟩
  · rw [e1, e2]
    obtain ⟨m, rfl⟩ := Int.eq_ofNat_of_zero_le h0
    exact fixed4 m w (by omega)
  · rw [e1, e2]
    exact fixed_bad n 4 w (by omega)
theorem Four_is (n : Int) (S : ByteArray) (E : Int) (w : World) (h1 : n ≤ 9223372036854775807) (hS : fixStr 4 n = S) (hE : fixErr 4 n = E) :
    Calls Tryz.prog 176 #[.int .i64 n] w fun e w' => e = .returned (.tuple #[.string S, .int .i64 E]) ∧ Below w.heap.size w w' := by
  have HF := Lib.hid (fun W => Four_fixed n S E W h1 hS hE)
  clear hS hE
  go_enter Tryz.func176, Tryz.ntmps176
  go_wp2_with fail
  refine (HF.out _).mono ?_
  rintro e w1 ⟨rfl, hb⟩
  go_wp2_with fail
  go_ret2
  exact ⟨rfl, hb⟩
open Go.RowKit Go.Lib Txt
def okAt (s : ByteArray) (pos : Nat) : Bool := good ((Utf8.decode s pos).1 : Int) && !(decide ((Utf8.decode s pos).1 = 65533) && decide ((Utf8.decode s pos).2 = 1))
theorem okAt_no (s : ByteArray) (pos : Nat) (hp : pos < s.size) (h : okAt s pos = false) : chk (s.data.toList.drop pos) = false := by
  have hne : s.data.toList.drop pos ≠ [] := by
    intro e; have := congrArg List.length e; rw [List.length_drop, ← Lib.size_eq] at this; simp at this; omega
  rw [chk_step _ hne, if_pos]
  rw [pt_eq, decodeL_drop, if_neg]
  intro x
  unfold okAt at h
  rw [x.1] at h
  have : (decide ((Utf8.decode s pos).1 = 65533) && decide ((Utf8.decode s pos).2 = 1)) = false := by
    rw [Bool.and_eq_false_iff, decide_eq_false_iff_not, decide_eq_false_iff_not]
    exact Decidable.not_and_iff_not_or_not.1 x.2
  rw [this] at h
  cases h
theorem okAt_yes (s : ByteArray) (pos : Nat) (hp : pos < s.size) (h : okAt s pos = true) : chk (s.data.toList.drop (pos + (Utf8.decode s pos).2)) = chk (s.data.toList.drop pos) ∧ pos + (Utf8.decode s pos).2 ≤ s.size ∧ 1 ≤ (Utf8.decode s pos).2 := by
  have hne : s.data.toList.drop pos ≠ [] := by
    intro e; have := congrArg List.length e; rw [List.length_drop, ← Lib.size_eq] at this; simp at this; omega
  unfold okAt at h
  rw [Bool.and_eq_true] at h
  obtain ⟨h1, h2⟩ := h
  have h3 : ¬ ((Utf8.decode s pos).1 = 65533 ∧ (Utf8.decode s pos).2 = 1) := by
    intro x
    rw [decide_eq_true x.1, decide_eq_true x.2] at h2
    cases h2
  have hpt : pt (s.data.toList.drop pos) = Utf8.decode s pos := by
    rw [pt_eq, decodeL_drop, if_pos ⟨h1, h3⟩]
  have hw := Lib.decode_width_pos s pos hp
  have hle := pt_le hne
  rw [hpt, List.length_drop, ← Lib.size_eq] at hle
  refine ⟨?_, by omega, hw⟩
  rw [chk_step _ hne, hpt, if_neg (by omega), List.drop_drop]
theorem err_at (s : ByteArray) (pos : Nat) (hp : pos < s.size) (h : (Utf8.decode s pos).1 = 65533) :
    hasPrefix (s.extract pos s.size).data.toList [239, 191, 189] = !decide ((Utf8.decode s pos).2 = 1) := by
  have hne : s.data.toList.drop pos ≠ [] := by
    intro e; have := congrArg List.length e; rw [List.length_drop, ← Lib.size_eq] at this; simp at this; omega
  have e : (s.extract pos s.size).data.toList = s.data.toList.drop pos := by
    rw [Lib.extract_data, List.take_of_length_le]
    rw [List.length_drop, ← Lib.size_eq]; omega
  rw [e, err_prefix _ hne (by rw [decodeL_drop]; exact h), decodeL_drop]
theorem mayBe_at (n : Int) (b : Bool) (w : World) (h : good n = b) :
    Calls Tryz.prog 157 #[.int .i32 n] w fun e w' => e = .returned (.bool b) ∧ w' = w := by
  rw [← h]; exact mayBe_any n w
theorem prefix_at (s p : ByteArray) (b : Bool) (w : World) (h : hasPrefix s.data.toList p.data.toList = b) :
    Calls Tryz.prog 158 #[.string s, .string p] w fun e w' => e = .returned (.bool b) ∧ w' = w := by
  rw [← h]; exact Tryz.strings_HasPrefix s p w
theorem Check_any (s : ByteArray) (w : World) (hm : s.size ≤ 9223372036854775807) :
    Calls Tryz.prog 135 #[.string s] w fun e w' => e = .returned (.int .i64 (textErr s.data.toList)) ∧ Below w.heap.size w w' := by
  by_cases hlim : 1024 < s.size
  · have H := Lib.hid (show textErr s.data.toList = 2 by unfold textErr; rw [← Lib.size_eq, if_pos hlim])
    go_enter Tryz.func135, Tryz.ntmps135
    go_wp2
    go_ret
    exact ⟨ret_int H.out.symm, Below.refl _ _⟩
  · have H : Hid (textErr s.data.toList = if chk s.data.toList = true then 0 else 8) := Lib.hid (by unfold textErr; rw [← Lib.size_eq, if_neg hlim])
    have hz : decide (1024 < (s.size : Int)) = false := by simp; omega
    go_enter Tryz.func135, Tryz.ntmps135
    go_wp2_with fail
    go_loopw [4] (fun _ wr => ∃ pos : Nat, pos ≤ s.size ∧ wr = w.iter s pos ∧ chk (s.data.toList.drop pos) = chk s.data.toList) (fun _ wr => s.size - wr.iterPos w.heap.size)
    case atStart => exact ⟨0, Nat.zero_le _, rfl, rfl⟩
    case round =>
      obtain ⟨pos, hps, rfl, hc⟩ := hrel
      have HC := Lib.hid hc
      clear hc
      have hb : ∀ p, Below w.heap.size w (w.iter s p) := fun p => (Below.refl _ w).alloc (Nat.le_refl _) _
      by_cases hp : pos < s.size
      · have hnx := fun ty => run_next_any (P := Tryz.prog) w s pos ty hp
        have hd1 := decode_le s pos
        have hw0 := Lib.decode_width_pos s pos hp
        have HE := fun h => err_at s pos hp h
        have HO : okAt s pos = (good ((Utf8.decode s pos).1 : Int) && !(decide ((Utf8.decode s pos).1 = 65533) && decide ((Utf8.decode s pos).2 = 1))) := rfl
        have HN := okAt_no s pos hp
        have HY := okAt_yes s pos hp
        generalize Utf8.decode s pos = d at hnx hd1 HE HO HY hw0
        obtain ⟨r, v⟩ := d
        simp only [] at hnx hd1 HE HO HY hw0
        have HO' := Lib.hid HO
        clear HO
        have HE' := Lib.hid HE
        clear HE
        have HN' := Lib.hid HN
        clear HN
        have HY' := Lib.hid HY
        clear HY
        cases hg : good (r : Int) with
        | false =>
          have hg' := Lib.hid hg
          clear hg
          go_wp2_with (go_at_call 157; refine (mayBe_at _ false _ hg'.out).mono ?_; rintro e w' ⟨rfl, rfl⟩)
          go_ret
          refine ⟨ret_int ?_, hb _⟩
          rw [H.out, ← HC.out, HN'.out (by rw [HO'.out, hg'.out]; rfl)]; rfl
        | true =>
          have hg' := Lib.hid hg
          clear hg
          by_cases he : r = 65533
          · have hq : ((r : Int) == 65533) = true := by simp; omega
            have HE1 := Lib.hid (HE'.out he)
            have he' := Lib.hid he
            clear he
            clear HE'
            by_cases hv : v = 1
            · have HP := Lib.hid (HE1.out.trans (show (!decide (v = 1)) = false by rw [hv]; rfl))
              have hv' := Lib.hid hv
              clear hv
              clear HE1
              go_wp2_with (first | (go_at_call 157; refine (mayBe_at _ true _ hg'.out).mono ?_; rintro e w' ⟨rfl, rfl⟩) | (go_at_call 158; refine (prefix_at (s.extract pos s.size) ⟨#[239, 191, 189]⟩ false _ HP.out).mono ?_; rintro e w' ⟨rfl, rfl⟩))
              go_ret
              refine ⟨ret_int ?_, hb _⟩
              rw [H.out, ← HC.out, HN'.out (by rw [HO'.out, hg'.out, he'.out, hv'.out]; rfl)]; rfl
            · have HP := Lib.hid (HE1.out.trans (show (!decide (v = 1)) = true by rw [decide_eq_false hv]; rfl))
              have hv' := Lib.hid hv
              clear hv
              clear HE1
              have HZ := Lib.hid (HY'.out (by rw [HO'.out, hg'.out, he'.out, decide_eq_false hv'.out]; rfl))
              go_wp2_with (first | (go_at_call 157; refine (mayBe_at _ true _ hg'.out).mono ?_; rintro e w' ⟨rfl, rfl⟩) | (go_at_call 158; refine (prefix_at (s.extract pos s.size) ⟨#[239, 191, 189]⟩ true _ HP.out).mono ?_; rintro e w' ⟨rfl, rfl⟩))
              go_roundw
              case rel => exact ⟨pos + v, HZ.out.2.1, rfl, HZ.out.1.trans HC.out⟩
              case measure => simp; omega
          · have hq : ((r : Int) == 65533) = false := by simp; omega
            have HZ := Lib.hid (HY'.out (by rw [HO'.out, hg'.out, decide_eq_false he]; rfl))
            have he' := Lib.hid he
            clear he
            clear HE'
            go_wp2_with (go_at_call 157; refine (mayBe_at _ true _ hg'.out).mono ?_; rintro e w' ⟨rfl, rfl⟩)
            go_roundw
            case rel => exact ⟨pos + v, HZ.out.2.1, rfl, HZ.out.1.trans HC.out⟩
            case measure => simp; omega
      · have hnx := fun ty => run_next_end (P := Tryz.prog) w s pos ty hp
        go_wp2
        go_ret
        refine ⟨ret_int ?_, hb _⟩
        rw [H.out, ← HC.out, List.drop_of_length_le (by rw [← Lib.size_eq]; omega), chk_nil]; rfl
end Go.Proofs.YtiancngpknnkaaaGreat
