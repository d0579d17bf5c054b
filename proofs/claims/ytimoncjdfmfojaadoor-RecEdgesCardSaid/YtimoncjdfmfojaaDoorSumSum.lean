/- Package sum: the sum of bytes, behind any sum. -/
import Derived.Test.YtimoncjdfmfojaaDoorSumStep
import Derived.Test.YtimoncjdfmfojaaDoorMem
import Derived.Laws.IdiomStrings
namespace Go.Proofs.YtimoncjdfmfojaaDoor
open Go.RowKit Go.Lib Crc

/-- The bytes of a string, in a row of the call's own. -/
def BytesAt (W : World) (g : Nat) (l : List UInt8) : Prop := g < W.heap.size ∧ ∀ j, j < l.length → W.cell? ⟨g, j, none⟩ = some (.int .u8 (((l.getD j 0).toNat : Nat) : Int)) ∧ W.frozen? ⟨g, j, none⟩ = false
theorem bytes_conv (b : ByteArray) (w : World) : ∃ c W1, (convert 9 50 (.string b)).run Tryd.prog w = .ok (.slice (some ⟨w.heap.size, 0, none⟩) b.size c) W1 ∧ BytesAt W1 w.heap.size b.data.toList ∧ Below w.heap.size w W1 := by
  refine ⟨_, _, run_bytes_of_string (P := Tryd.prog) w 9 50 5 b Tryd.underlying9 Tryd.underlying50 Tryd.underlying5, ⟨by simp, fun j hj => ⟨?_, ?_⟩⟩, ?_⟩
  · have hj' : j < b.data.size := by simpa using hj
    have h1 := bytesRow_at b (grownCap w b.size 0 5) j hj'
    refine (World.cell?_alloc_mark w.drew _ _ _ j).trans ?_
    rw [h1, List.getD_eq_getElem?_getD, List.getElem?_eq_getElem hj]
    simp
  · refine (World.frozen?_alloc_mark w.drew _ _ _ _ j).trans ?_
    have h2 : j < (bytesRow b (grownCap w b.size 0 5)).size := by
      have hj' : j < b.data.size := by simpa using hj
      have h3 : (bytesRow b (grownCap w b.size 0 5)).size = b.data.size + (grownCap w b.size 0 5 - b.size) := by unfold bytesRow; simp
      omega
    rw [decide_eq_false (by omega)]
    rfl
  · exact ((Below.refl _ _).drew).alloc (Nat.le_refl _) _

theorem not_nat (s : Nat) (hs : s < 4294967296) : 4294967295 ^^^ s = 4294967295 - s := by
  apply Nat.eq_of_testBit_eq
  intro i
  have h1 := Nat.testBit_two_pow_sub_succ (x := s) (n := 32) hs i
  rw [show 2 ^ 32 - (s + 1) = 4294967295 - s by omega] at h1
  rw [h1, Nat.testBit_xor, show (4294967295 : Nat) = 2 ^ 32 - 1 from rfl, Nat.testBit_two_pow_sub_one]
  by_cases hi : i < 32
  · simp [hi]
  · have : s.testBit i = false := Nat.testBit_lt_two_pow (Nat.lt_of_lt_of_le hs (Nat.pow_le_pow_right (n := 2) (i := 32) (by omega) (by omega)))
    simp [hi, this]
theorem not_u32 (s : Nat) (hs : s < 4294967296) : bits .xor .u32 IntKind.u32.max (s : Int) = ((4294967295 - s : Nat) : Int) := by
  have h := u32_xor_nat 4294967295 s (by omega) hs
  have e : IntKind.u32.max = ((4294967295 : Nat) : Int) := rfl
  rw [e, h]
  congr 1
  exact not_nat s hs
theorem xor_byte (s : Nat) (x : UInt8) (hs : s < 4294967296) : bits .xor .u32 (s : Int) ((x.toNat : Nat) : Int) = ((s ^^^ x.toNat : Nat) : Int) :=
  u32_xor_nat s x.toNat hs (by have := x.toNat_lt; omega)

theorem take_next (l : List UInt8) (k : Nat) (h : k < l.length) : l.take (k + 1) = l.take k ++ [l.getD k 0] := by
  rw [List.take_succ_eq_append_getElem h, List.getD_eq_getElem?_getD, List.getElem?_eq_getElem h]; rfl
theorem crc_next (s : Nat) (l : List UInt8) (k : Nat) (h : k < l.length) : stepN (stepN (crc s (l.take k) ^^^ (l.getD k 0).toNat)) = crc s (l.take (k + 1)) := by
  rw [take_next l k h, crc_snoc, step2_eq]

set_option maxRecDepth 100000 in
set_option maxHeartbeats 2000000 in
theorem Sum_any (s : Nat) (b : ByteArray) (w : World) (hs : s < 4294967296) (hb : b.size ≤ 9223372036854775807) (ht : Tab w) :
    Calls Tryd.prog 40 #[.int .u32 (s : Int), .string b] w fun e w' => e = .returned (.int .u32 ((sumN s b.data.toList : Nat) : Int)) ∧ Below w.heap.size w w' := by
  obtain ⟨c, W1, hcv, hby, hbel⟩ := bytes_conv b w
  have HT := Lib.hid (ht.below hbel)
  have HN := not_u32 s hs
  have HB := Lib.hid hby
  have HL := Lib.hid hbel
  have HZ : Hid (b.data.toList.length = b.size) := by show _ = _; rw [Array.length_toList]; rfl
  clear ht hby hbel
  go_enter Tryd.func40, Tryd.ntmps40
  go_wp2_with fail
  clear HN hcv
  go_loop [0, 12] (fun v i => ∃ k m : Nat, k ≤ b.size ∧ i = .int .i64 (k : Int) ∧ v = .int .u32 (m : Int) ∧ m < 4294967296 ∧ m = crc (4294967295 - s) (b.data.toList.take k)) (fun _ i => b.size - (RowKit.intOf i).toNat)
  case atStart => exact ⟨0, _, Nat.zero_le _, rfl, rfl, by omega, rfl⟩
  case round =>
    obtain ⟨k, m, hk, rfl, rfl, hm, hcrc⟩ := hrel
    by_cases hlt : k < b.size
    · have hkl : k < b.data.toList.length := by rw [HZ.out]; exact hlt
      have hcl := (HB.out.2 k hkl).1
      have hc := crc_next (4294967295 - s) b.data.toList k hkl
      rw [← hcrc] at hc
      obtain ⟨x, hx⟩ : ∃ x, b.data.toList.getD k 0 = x := ⟨_, rfl⟩
      rw [hx] at hcl hc
      have hx256 : x.toNat < 256 := x.toNat_lt
      have HX := xor_byte m x hm
      have h2 := byte_lt hm x
      have HC := Lib.hid hc
      clear hkl hc hx hcrc
      go_wp2_with fail
      clear HX
      refine (step_any (m ^^^ x.toNat) _ h2 HT.out).mono ?_
      rintro e w' ⟨rfl, rfl⟩
      go_wp2_with fail
      refine (step_any _ _ (by rw [step_eq]; exact R4_lt h2) HT.out).mono ?_
      rintro e w' ⟨rfl, rfl⟩
      have HR := Lib.hid (show stepN (stepN (m ^^^ x.toNat)) < 4294967296 by rw [step2_eq]; exact R8_lt h2)
      go_wp2_with fail
      go_round
      case rel => exact ⟨k + 1, _, hlt, by go_num, rfl, HR.out, HC.out⟩
      case measure => simp [RowKit.intOf]; omega
    · have he : m = crc (4294967295 - s) b.data.toList := by rw [hcrc, List.take_of_length_le (by rw [HZ.out]; omega)]
      have HN := not_u32 m hm
      have HE := Lib.hid he
      clear he hcrc
      go_wp2_with fail
      go_ret
      exact ⟨ret_int (by rw [HE.out]; rfl), HL.out⟩

/-- A call of Sum, its answer named. -/
theorem Sum_is (s : Nat) (b : ByteArray) (N : Nat) (w : World) (hs : s < 4294967296) (hb : b.size ≤ 9223372036854775807) (ht : Tab w) (hN : sumN s b.data.toList = N) :
    Calls Tryd.prog 40 #[.int .u32 (s : Int), .string b] w fun e w' => e = .returned (.int .u32 (N : Int)) ∧ Below w.heap.size w w' := by
  rw [← hN]
  exact Sum_any s b w hs hb ht
end Go.Proofs.YtimoncjdfmfojaaDoor
