/- Bits that have nothing in common, as sums; rows of bytes of the call's own; the words of numbers taken. -/
import Derived.Test.YtimoncjdfmfojaaDoorChecked
import Derived.Test.YtimoncjdfmfojaaDoorSay
import Derived.Test.YtimoncjdfmfojaaDoorVbiPlain
import Derived.Test.YtimoncjdfmfojaaDoorMem
import Derived.LoopN
import Derived.Lib.Strings
import Derived.Laws.BytesArg
namespace Go.Proofs.YtimoncjdfmfojaaDoor
open Go.RowKit Go.Lib Vbi

theorem ofInt_i64 (a : Nat) (ha : a < 9223372036854775808) : (BitVec.ofInt 64 (a : Int)).toNat = a := by
  rw [BitVec.ofInt_natCast, BitVec.toNat_ofNat]; exact Nat.mod_eq_of_lt (by omega)
theorem i64_or_nat (a b : Nat) (ha : a < 9223372036854775808) (hb : b < 9223372036854775808) : bits .or .i64 (a : Int) (b : Int) = ((a ||| b : Nat) : Int) := by
  have hx : a ||| b < 2 ^ 63 := Nat.or_lt_two_pow (by omega) (by omega)
  show IntKind.i64.wrap ((BitVec.ofInt 64 (a : Int) ||| BitVec.ofInt 64 (b : Int)).toNat : Int) = _
  rw [BitVec.toNat_or, ofInt_i64 a ha, ofInt_i64 b hb]
  unfold IntKind.wrap
  simp [IntKind.bits, IntKind.signed]
  omega
/-- Bits that have nothing in common. -/
theorem i64_or_add (a b k : Nat) (ha : a < 2 ^ k) (hk : k ≤ 40) (hb : b * 2 ^ k < 9223372036854775808) : bits .or .i64 (a : Int) ((b * 2 ^ k : Nat) : Int) = ((a + b * 2 ^ k : Nat) : Int) := by
  have h2 : (2 : Nat) ^ k ≤ 2 ^ 40 := Nat.pow_le_pow_right (by decide) hk
  rw [i64_or_nat a _ (by omega) hb, Nat.or_comm, Nat.mul_comm b, ← Nat.two_pow_add_eq_or_of_lt ha, Nat.add_comm]

theorem data_at (s : ByteArray) (k : Nat) (h : k < s.size) : s.data.toList.drop k = s[k] :: s.data.toList.drop (k + 1) := by
  rw [List.drop_eq_getElem_cons (by simpa using h)]; rfl
theorem data_end (s : ByteArray) (k : Nat) (h : s.size ≤ k) : s.data.toList.drop k = [] := List.drop_of_length_le (by rw [← Lib.size_eq]; exact h)
theorem i64_or8 (m c : Nat) (hm : m < 16777216) (hc : c < 256) : bits .or .i64 ((m : Int) * 256) (c : Int) = ((m * 256 + c : Nat) : Int) := by
  have h := i64_or_nat (m * 256) c (by omega) (by omega)
  rw [Nat.mul_comm m 256, show (256 : Nat) = 2 ^ 8 from rfl, ← Nat.two_pow_add_eq_or_of_lt (by omega)] at h
  rw [show ((m : Int) * 256) = ((2 ^ 8 * m : Nat) : Int) by omega, h]
  omega

@[irreducible] def TfOk (wd : Nat) (l : List UInt8) (w : World) (e : Ending) (w' : World) : Prop := e = .returned (.tuple #[.int .i64 (tfVal wd l), .int .i64 (tfErr wd l)]) ∧ w' = w
theorem tf_ok {wd : Nat} {l : List UInt8} {w : World} {a b : Int} (h : tfVal wd l = a) (h2 : tfErr wd l = b) : TfOk wd l w (.returned (.tuple #[.int .i64 a, .int .i64 b])) w := by
  unfold TfOk; rw [h, h2]; exact ⟨rfl, rfl⟩
@[irreducible] def RTfOk (wd : Nat) (l : List UInt8) (w : World) (e : Ending) (w' : World) : Prop := e = .returned (.tuple #[.int .i64 (tfVal wd l), .bool (decide (tfErr wd l = 0))]) ∧ w' = w
theorem rtf_ok {wd : Nat} {l : List UInt8} {w : World} {a b : Int} {c : Bool} (h : tfVal wd l = a) (h2 : tfErr wd l = b) (h3 : decide (b = 0) = c) : RTfOk wd l w (.returned (.tuple #[.int .i64 a, .bool c])) w := by
  unfold RTfOk; rw [h, h2, h3]; exact ⟨rfl, rfl⟩
theorem tf_cut {wd : Nat} {l : List UInt8} (h : l.length < wd) : tfVal wd l = 0 ∧ tfErr wd l = 7 := by
  unfold tfVal tfErr; rw [if_pos h, if_pos h]; exact ⟨rfl, rfl⟩
theorem tf_good {wd : Nat} {l : List UInt8} (h : wd ≤ l.length) : tfVal wd l = (fixVal (l.take wd) : Nat) ∧ tfErr wd l = 0 := by
  unfold tfVal tfErr; rw [if_neg (by omega), if_neg (by omega)]; exact ⟨rfl, rfl⟩
theorem take_drop_at (s : ByteArray) (wd k : Nat) (hk : k < wd) (h : wd ≤ s.size) : (s.data.toList.take wd).drop k = (s[k]'(by omega)) :: (s.data.toList.take wd).drop (k + 1) := by
  have hl : k < (s.data.toList.take wd).length := by rw [List.length_take, ← Lib.size_eq]; omega
  rw [List.drop_eq_getElem_cons hl, List.getElem_take]; rfl
theorem take_drop_end (s : ByteArray) (wd : Nat) : (s.data.toList.take wd).drop wd = [] := List.drop_of_length_le (by rw [List.length_take]; omega)
theorem pow_lt24 {m k : Nat} (hm : m < 256 ^ k) (hk : k < 4) : m < 16777216 := by
  have : 256 ^ k ≤ 256 ^ 3 := Nat.pow_le_pow_right (by decide) (by omega)
  omega
theorem pow_next {m k c : Nat} (hm : m < 256 ^ k) (hc : c < 256) : m * 256 + c < 256 ^ (k + 1) := by
  rw [Nat.pow_succ]; omega

theorem info_byte : (Tryd.prog.info? 5).map (fun i => (i.zero, i.size, i.bytes)) = some (some (.int .u8 0), 1, 1) := by kernel_rfl
theorem conv_bytes {w : World} {B : Nat} {v : Value} {zs : List Int} (h : w.ownsRow B 5 1 v zs.length (zs.map (Value.int .u8))) : (convert 50 9 v).run Tryd.prog w = .ok (.string (strOfNums zs)) w := by
  rcases h.2 with ⟨rfl, hn⟩ | ⟨g, cap, cur, rfl, _⟩
  · have : zs = [] := List.eq_nil_of_length_eq_zero hn
    subst this
    exact run_convert_bytes_nil w 50 5 Tryd.underlying50 Tryd.underlying5 0 0 9 Tryd.underlying9
  · refine run_convert_bytes_arg w 50 5 Tryd.underlying50 Tryd.underlying5 g 0 zs.length cap zs rfl (fun i hi => ?_) 9 Tryd.underlying9
    have := h.cells (g := g) rfl i (.int .u8 (zs.getD i 0)) (by simp [List.getElem?_eq_getElem hi])
    rw [add_new] at this
    rw [Nat.zero_add]; exact this

theorem fixZ_step (zs : List Int) (k n : Nat) (x : Int) (hx : ((n / 256 ^ k % 256 : Nat) : Int) = x) : zs ++ fixZ (k + 1) n = (zs ++ [x]) ++ fixZ k n := by
  rw [← hx]
  show zs ++ (((n / 256 ^ k % 256 : Nat) : Int) :: fixZ k n) = _
  simp
end Go.Proofs.YtimoncjdfmfojaaDoor
