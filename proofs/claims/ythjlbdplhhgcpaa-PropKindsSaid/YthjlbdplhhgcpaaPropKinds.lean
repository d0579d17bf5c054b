/- PropKinds: whatever is asked, package prop and the document's own answer agree on what each property is of. -/
import Derived.Test.YthjlbdplhhgcpaaPropWakes
import Derived.Test.YthjlbdplhhgcpaaPropAsks
import Derived.Test.YthjlbdplhhgcpaaPropLeaf
namespace Go.Proofs.Ythjlbdplhhgcpaa
open Go.RowKit Go.Lib Prp

theorem kind_both (id : Int) : (kindZ id = 0 ∧ kindErr id = 3) ∨ (kindZ id ≠ 0 ∧ kindErr id = 0 ∧ 0 < kindZ id) := by
  have := kind_range id
  unfold kindErr
  by_cases h : kindZ id = 0
  · rw [if_pos h]; exact .inl ⟨h, rfl⟩
  · rw [if_neg h]; exact .inr ⟨h, rfl, by omega⟩

set_option maxRecDepth 100000 in
set_option maxHeartbeats 8000000 in
theorem PropKinds_any (A : Option Addr) (n c : Nat) (w : World) (h : Asks w A n) :
    Calls Try.prog 3 #[.slice A n c] w fun e w' => e = .returned (.bool true) ∧ Below w.heap.size w w' := by
  have H := Lib.hid h
  clear h
  go_enter Try.func3, Try.ntmps3
  go_wp2_with fail
  go_loop [3] (fun i => ∃ z : Int, -3 ≤ z ∧ z ≤ 260 ∧ i = .int .i64 z) (fun i => (260 - RowKit.intOf i).toNat)
  case atStart => exact ⟨-3, by omega, by omega, rfl⟩
  case round =>
    obtain ⟨z, hz0, hz1, rfl⟩ := hrel
    by_cases hgo : z < 260
    · by_cases hin : 250 ≤ z ∧ z - 250 < (n : Int)
      · obtain ⟨hin0, hin1⟩ := hin
        rcases H.out with h0 | ⟨b, off, rfl, hall⟩
        · omega
        · obtain ⟨k, hk⟩ := Int.eq_ofNat_of_zero_le (show 0 ≤ z - 250 by omega)
          obtain rfl : z = (k : Int) + 250 := by omega
          obtain ⟨id, P, l, c', s, ha⟩ := hall k (by omega)
          have q0 := ha.c0
          have e1 : (k : Int) + 250 - 250 = (k : Int) := by omega
          have hkn : (k : Int) < (n : Int) := by omega
          clear hall ha hk H hin1
          rcases kind_both id with ⟨hK, hE⟩ | ⟨hK, hE, hK1⟩
          · have HK := Lib.hid (fun W => Kind_is id 0 3 W hK hE)
            have HR := Lib.hid (fun W => RKind_is id 0 W hK)
            clear hK hE
            go_wp2_with (first | (go_at_call 13; refine (num_same _ _).mono ?_; rintro e w' ⟨rfl, rfl⟩) | (go_at_call 11; refine (HK.out _).mono ?_; rintro e w' ⟨rfl, rfl⟩) | (go_at_call 12; refine (HR.out _).mono ?_; rintro e w' ⟨rfl, rfl⟩))
            go_round
            case rel => exact ⟨(k : Int) + 250 + 1, by omega, by omega, rfl⟩
            case measure => simp [RowKit.intOf]; omega
          · obtain ⟨K, hKK⟩ : ∃ K, kindZ id = K := ⟨_, rfl⟩
            rw [hKK] at hK hK1
            have HK := Lib.hid (fun W => Kind_is id K 0 W hKK hE)
            have HR := Lib.hid (fun W => RKind_is id K W hKK)
            have bk := ne_false hK
            have dk : decide (0 < K) = true := by simp; omega
            clear hKK hE hK
            go_wp2_with (first | (go_at_call 13; refine (num_same _ _).mono ?_; rintro e w' ⟨rfl, rfl⟩) | (go_at_call 11; refine (HK.out _).mono ?_; rintro e w' ⟨rfl, rfl⟩) | (go_at_call 12; refine (HR.out _).mono ?_; rintro e w' ⟨rfl, rfl⟩))
            go_round
            case rel => exact ⟨(k : Int) + 250 + 1, by omega, by omega, rfl⟩
            case measure => simp [RowKit.intOf]; omega
      · have hin' : ¬ 250 ≤ z ∨ (250 ≤ z ∧ ¬ z - 250 < (n : Int)) := by omega
        clear hin
        rcases hin' with hin | ⟨hin, hin2⟩
        · rcases kind_both z with ⟨hK, hE⟩ | ⟨hK, hE, hK1⟩
          · have HK := Lib.hid (fun W => Kind_is z 0 3 W hK hE)
            have HR := Lib.hid (fun W => RKind_is z 0 W hK)
            clear hK hE
            go_wp2_with (first | (go_at_call 13; refine (num_same _ _).mono ?_; rintro e w' ⟨rfl, rfl⟩) | (go_at_call 11; refine (HK.out _).mono ?_; rintro e w' ⟨rfl, rfl⟩) | (go_at_call 12; refine (HR.out _).mono ?_; rintro e w' ⟨rfl, rfl⟩))
            go_round
            case rel => exact ⟨z + 1, by omega, by omega, rfl⟩
            case measure => simp [RowKit.intOf]; omega
          · obtain ⟨K, hKK⟩ : ∃ K, kindZ z = K := ⟨_, rfl⟩
            rw [hKK] at hK hK1
            have HK := Lib.hid (fun W => Kind_is z K 0 W hKK hE)
            have HR := Lib.hid (fun W => RKind_is z K W hKK)
            have bk := ne_false hK
            have dk : decide (0 < K) = true := by simp; omega
            clear hKK hE hK
            go_wp2_with (first | (go_at_call 13; refine (num_same _ _).mono ?_; rintro e w' ⟨rfl, rfl⟩) | (go_at_call 11; refine (HK.out _).mono ?_; rintro e w' ⟨rfl, rfl⟩) | (go_at_call 12; refine (HR.out _).mono ?_; rintro e w' ⟨rfl, rfl⟩))
            go_round
            case rel => exact ⟨z + 1, by omega, by omega, rfl⟩
            case measure => simp [RowKit.intOf]; omega
        · rcases kind_both z with ⟨hK, hE⟩ | ⟨hK, hE, hK1⟩
          · have HK := Lib.hid (fun W => Kind_is z 0 3 W hK hE)
            have HR := Lib.hid (fun W => RKind_is z 0 W hK)
            clear hK hE
            go_wp2_with (first | (go_at_call 13; refine (num_same _ _).mono ?_; rintro e w' ⟨rfl, rfl⟩) | (go_at_call 11; refine (HK.out _).mono ?_; rintro e w' ⟨rfl, rfl⟩) | (go_at_call 12; refine (HR.out _).mono ?_; rintro e w' ⟨rfl, rfl⟩))
            go_round
            case rel => exact ⟨z + 1, by omega, by omega, rfl⟩
            case measure => simp [RowKit.intOf]; omega
          · obtain ⟨K, hKK⟩ : ∃ K, kindZ z = K := ⟨_, rfl⟩
            rw [hKK] at hK hK1
            have HK := Lib.hid (fun W => Kind_is z K 0 W hKK hE)
            have HR := Lib.hid (fun W => RKind_is z K W hKK)
            have bk := ne_false hK
            have dk : decide (0 < K) = true := by simp; omega
            clear hKK hE hK
            go_wp2_with (first | (go_at_call 13; refine (num_same _ _).mono ?_; rintro e w' ⟨rfl, rfl⟩) | (go_at_call 11; refine (HK.out _).mono ?_; rintro e w' ⟨rfl, rfl⟩) | (go_at_call 12; refine (HR.out _).mono ?_; rintro e w' ⟨rfl, rfl⟩))
            go_round
            case rel => exact ⟨z + 1, by omega, by omega, rfl⟩
            case measure => simp [RowKit.intOf]; omega
    · go_wp2_with (go_at_call 14; refine (wakes_any _).mono ?_; rintro e w1 ⟨rfl, hb1⟩)
      go_ret
      exact ⟨rfl, hb1⟩
end Go.Proofs.Ythjlbdplhhgcpaa
