/- Package vbi, and the document's own answer: the bytes of a number, seven bits a byte. -/
import Derived.Test.YthjlbdplhhgcpaaTextLeaf
import Derived.Test.YthjlbdplhhgcpaaVbiPlain
import Derived.Test.YthjlbdplhhgcpaaMem
namespace Go.Proofs.Ythjlbdplhhgcpaa
open Go.RowKit Go.Lib Vbi

theorem info_byte : (Try.prog.info? 5).map (fun i => (i.zero, i.size, i.bytes)) = some (some (.int .u8 0), 1, 1) := by kernel_rfl
theorem conv_bytes {w : World} {B : Nat} {v : Value} {zs : List Int} (h : w.ownsRow B 5 1 v zs.length (zs.map (Value.int .u8))) : (convert 53 9 v).run Try.prog w = .ok (.string (strOfNums zs)) w := by
  rcases h.2 with ⟨rfl, hn⟩ | ⟨g, cap, cur, rfl, _⟩
  · have : zs = [] := List.eq_nil_of_length_eq_zero hn
    subst this
    exact run_convert_bytes_nil w 53 5 Try.underlying53 Try.underlying5 0 0 9 Try.underlying9
  · refine run_convert_bytes_arg w 53 5 Try.underlying53 Try.underlying5 g 0 zs.length cap zs rfl (fun i hi => ?_) 9 Try.underlying9
    have := h.cells (g := g) rfl i (.int .u8 (zs.getD i 0)) (by simp [List.getElem?_eq_getElem hi])
    rw [add_new] at this
    rw [Nat.zero_add]; exact this

theorem numZ_short {n m : Nat} {zs : List Int} (hn : n < 268435456) (hm : m < 268435456) (h : numZ n = zs ++ numZ m) : zs.length ≤ 3 := by
  have h1 := congrArg List.length h
  rw [List.length_append, numZ_len hn, numZ_len hm] at h1
  have := numLen_le n
  have := numLen_le m
  omega
theorem numZ_go {n m : Nat} {zs : List Int} (h : numZ n = zs ++ numZ m) (hm : 128 ≤ m) : numZ n = (zs ++ [(m : Int) % 128 + 128]) ++ numZ (m / 128) := by
  rw [h, numZ_more hm]; simp
theorem numZ_stop {n m : Nat} {zs : List Int} (h : numZ n = zs ++ numZ m) (hm : m < 128) : zs ++ [(m : Int)] = numZ n := by
  rw [h, numZ_last hm]

set_option maxRecDepth 100000 in
set_option maxHeartbeats 2000000 in
theorem RNum_ok (n : Nat) (w : World) (hn : n < 268435456) :
    Calls Try.prog 39 #[.int .i64 (n : Int)] w fun e w' => e = .returned (.string (strOfNums (numZ n))) ∧ Below w.heap.size w w' := by
  obtain ⟨i0, hi, hz0, hz1, hz2⟩ := info_parts info_byte
  go_enter Try.func39, Try.ntmps39
  go_wp2_with fail
  go_loopw [0, 3] (fun nv v wr => ∃ (m : Nat) (zs : List Int), nv = .int .i64 (m : Int) ∧ m < 268435456 ∧ numZ n = zs ++ numZ m ∧ wr.ownsRow w.heap.size 5 1 v zs.length (zs.map (Value.int .u8)) ∧ Below w.heap.size w wr) (fun nv _ _ => (RowKit.intOf nv).toNat)
  case atStart => exact ⟨n, [], rfl, hn, rfl, World.ownsRow_nil _ _ _ _, Below.refl _ _⟩
  case round =>
    obtain ⟨m, zs, rfl, hm, hz, hown, hnx⟩ := hrel
    have h2 := hnx.size
    have hzl := numZ_short hn hm hz
    by_cases hlt : 128 ≤ m
    · have HZ := Lib.hid (numZ_go hz hlt)
      clear hz
      go_wp2_with (at_builtin; refine wpList_append_own _ rfl _ _ 53 rfl w.heap.size 5 i0 (.int .u8 0) 1 1 Try.underlying53 hi hz0 hz1 hz2 rfl (by decide) _ _ _ rfl (hown.alloc _) ⟨wr.heap.size, 0, none⟩ 1 1 [.int .u8 ((m : Int) % 128 + 128)] rfl rfl ?c1 ?c2 ?c3 ?c4 ?c5 ?_)
      case c1 => exact cell_one_new _ _ _
      case c2 => intro u hu; simp at hu; subst hu; rfl
      case c3 => unfold maxLen; omega
      case c4 => omega
      case c5 => simp; omega
      intro v' w1 hown' hgrow _
      have hnx' := hnx.trans (below_alloc_grown h2 hown hgrow)
      have HO := Lib.hid (own_snoc hown')
      clear hown' hgrow hown
      go_wp2
      go_roundw
      case rel => exact ⟨m / 128, _, rfl, by omega, HZ.out, HO.out, hnx'⟩
      case measure => simp [RowKit.intOf]; omega
    · have HZ := Lib.hid (numZ_stop hz (by omega))
      clear hz
      go_wp2_with (at_builtin; refine wpList_append_own _ rfl _ _ 53 rfl w.heap.size 5 i0 (.int .u8 0) 1 1 Try.underlying53 hi hz0 hz1 hz2 rfl (by decide) _ _ _ rfl (hown.alloc _) ⟨wr.heap.size, 0, none⟩ 1 1 [.int .u8 (m : Int)] rfl rfl ?c1 ?c2 ?c3 ?c4 ?c5 ?_)
      case c1 => exact cell_one_new _ _ _
      case c2 => intro u hu; simp at hu; subst hu; rfl
      case c3 => unfold maxLen; omega
      case c4 => omega
      case c5 => simp; omega
      intro v' w1 hown' hgrow _
      have hnx' := hnx.trans (below_alloc_grown h2 hown hgrow)
      have hcv := conv_bytes (own_snoc hown')
      rw [HZ.out] at hcv
      clear hown' hgrow hown HZ
      go_wp2
      go_ret
      exact ⟨rfl, hnx'⟩

set_option maxRecDepth 100000 in
set_option maxHeartbeats 2000000 in
/-- vbi.Num of a number that may be. -/
theorem Num_good (n : Nat) (w : World) (hn : n < 268435456) :
    Calls Try.prog 32 #[.int .i64 (n : Int)] w fun e w' => e = .returned (.tuple #[.string (strOfNums (numZ n)), .int .i64 0]) ∧ Below w.heap.size w w' := by
  obtain ⟨i0, hi, hz0, hz1, hz2⟩ := info_parts info_byte
  have hd0 : decide ((n : Int) < 0) = false := by simp
  have hd1 : decide ((268435455 : Int) < (n : Int)) = false := by simp; omega
  go_enter Try.func32, Try.ntmps32
  go_wp2_with fail
  go_loopw [0, 4] (fun nv v wr => ∃ (m : Nat) (zs : List Int), nv = .int .i64 (m : Int) ∧ m < 268435456 ∧ numZ n = zs ++ numZ m ∧ wr.ownsRow w.heap.size 5 1 v zs.length (zs.map (Value.int .u8)) ∧ Below w.heap.size w wr) (fun nv _ _ => (RowKit.intOf nv).toNat)
  case atStart => exact ⟨n, [], rfl, hn, rfl, World.ownsRow_nil _ _ _ _, Below.refl _ _⟩
  case round =>
    obtain ⟨m, zs, rfl, hm, hz, hown, hnx⟩ := hrel
    have h2 := hnx.size
    have hzl := numZ_short hn hm hz
    by_cases hlt : 128 ≤ m
    · have HZ := Lib.hid (numZ_go hz hlt)
      clear hz
      go_wp2_with (at_builtin; refine wpList_append_own _ rfl _ _ 53 rfl w.heap.size 5 i0 (.int .u8 0) 1 1 Try.underlying53 hi hz0 hz1 hz2 rfl (by decide) _ _ _ rfl (hown.alloc _) ⟨wr.heap.size, 0, none⟩ 1 1 [.int .u8 ((m : Int) % 128 + 128)] rfl rfl ?c1 ?c2 ?c3 ?c4 ?c5 ?_)
      case c1 => exact cell_one_new _ _ _
      case c2 => intro u hu; simp at hu; subst hu; rfl
      case c3 => unfold maxLen; omega
      case c4 => omega
      case c5 => simp; omega
      intro v' w1 hown' hgrow _
      have hnx' := hnx.trans (below_alloc_grown h2 hown hgrow)
      have HO := Lib.hid (own_snoc hown')
      clear hown' hgrow hown
      go_wp2
      go_roundw
      case rel => exact ⟨m / 128, _, rfl, by omega, HZ.out, HO.out, hnx'⟩
      case measure => simp [RowKit.intOf]; omega
    · have HZ := Lib.hid (numZ_stop hz (by omega))
      clear hz
      go_wp2_with (at_builtin; refine wpList_append_own _ rfl _ _ 53 rfl w.heap.size 5 i0 (.int .u8 0) 1 1 Try.underlying53 hi hz0 hz1 hz2 rfl (by decide) _ _ _ rfl (hown.alloc _) ⟨wr.heap.size, 0, none⟩ 1 1 [.int .u8 (m : Int)] rfl rfl ?c1 ?c2 ?c3 ?c4 ?c5 ?_)
      case c1 => exact cell_one_new _ _ _
      case c2 => intro u hu; simp at hu; subst hu; rfl
      case c3 => unfold maxLen; omega
      case c4 => omega
      case c5 => simp; omega
      intro v' w1 hown' hgrow _
      have hnx' := hnx.trans (below_alloc_grown h2 hown hgrow)
      have hcv := conv_bytes (own_snoc hown')
      rw [HZ.out] at hcv
      clear hown' hgrow hown HZ
      go_wp2
      go_ret2
      exact ⟨rfl, hnx'⟩
set_option maxHeartbeats 1000000 in
/-- vbi.Num of a number that may not be. -/
theorem Num_bad (n : Int) (w : World) (hn : n < 0 ∨ 268435455 < n) :
    Calls Try.prog 32 #[.int .i64 n] w fun e w' => e = .returned (.tuple #[.string ⟨#[]⟩, .int .i64 2]) ∧ Below w.heap.size w w' := by
  by_cases h0 : n < 0
  · have hd0 : decide (n < 0) = true := by simp; omega
    go_enter Try.func32, Try.ntmps32
    go_wp2_with fail
    go_ret2
    exact ⟨rfl, Below.refl _ _⟩
  · have hd0 : decide (n < 0) = false := by simp; omega
    have hd1 : decide (268435455 < n) = true := by simp; omega
    go_enter Try.func32, Try.ntmps32
    go_wp2_with fail
    go_ret2
    exact ⟨rfl, Below.refl _ _⟩
/-- vbi.Num. -/
theorem Num_is (n : Int) (S : ByteArray) (E : Int) (w : World) (hS : numStr n = S) (hE : numErr n = E) :
    Calls Try.prog 32 #[.int .i64 n] w fun e w' => e = .returned (.tuple #[.string S, .int .i64 E]) ∧ Below w.heap.size w w' := by
  subst hS hE
  rcases numErr_cases n with ⟨h0, h1, e1, e2⟩ | ⟨h0, e1, e2⟩
  · rw [e1, e2]
    obtain ⟨m, rfl⟩ := Int.eq_ofNat_of_zero_le h0
    exact Num_good m w (by omega)
  · rw [e1, e2]
    exact Num_bad n w h0
end Go.Proofs.Ythjlbdplhhgcpaa
