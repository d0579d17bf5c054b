/- VbiNums: whatever is asked, package vbi and the document's own answer agree on the bytes of a number, in each of the three ways, or on the error. -/
import Derived.Test.YtjpngjhfakgefaaVbiLeaf
import Derived.Test.YtjpngjhfakgefaaVbiAsks
import Derived.Test.YtjpngjhfakgefaaVbiTwo
namespace Go.Proofs.Ytjpngjhfakgefaa
open Go.RowKit Go.Lib Vbi

theorem zNum_is (n m : Int) (b : Bool) (w : World) (h : decide (0 ≤ n ∧ n ≤ m) = b) :
    Calls Try.prog 12 #[.int .i64 n, .int .i64 m] w fun e w' => e = .returned (.bool b) ∧ w = w' := by
  subst h
  by_cases h0 : 0 ≤ n
  · go_enter Try.func12, Try.ntmps12
    go_wp2
    go_ret
    refine ⟨ret_bool ?_, rfl⟩
    first | exact dec_dec (by omega) | (refine bool_dec ?_; simp; omega)
  · go_enter Try.func12, Try.ntmps12
    go_wp2
    go_ret
    refine ⟨ret_bool ?_, rfl⟩
    rw [decide_eq_false (show ¬ 0 ≤ n by omega)]; rfl
theorem RNum_is (x : Int) (S : ByteArray) (w : World) (h0 : 0 ≤ x) (h1 : x < 268435456) (hS : strOfNums (numZ x.toNat) = S) :
    Calls Try.prog 13 #[.int .i64 x] w fun e w' => e = .returned (.string S) ∧ Below w.heap.size w w' := by
  subst hS
  obtain ⟨m, rfl⟩ := Int.eq_ofNat_of_zero_le h0
  exact RNum_ok m w (by omega)
theorem RFixed2_is (x : Int) (S : ByteArray) (w : World) (h0 : 0 ≤ x) (h1 : x < 65536) (hS : strOfNums (fixZ 2 x.toNat) = S) :
    Calls Try.prog 14 #[.int .i64 x, .int .i64 2] w fun e w' => e = .returned (.string S) ∧ Below w.heap.size w w' := by
  subst hS
  obtain ⟨m, rfl⟩ := Int.eq_ofNat_of_zero_le h0
  exact RFixed_ok m 2 w (by omega) (by omega)
theorem RFixed4_is (x : Int) (S : ByteArray) (w : World) (h0 : 0 ≤ x) (h1 : x < 4294967296) (hS : strOfNums (fixZ 4 x.toNat) = S) :
    Calls Try.prog 14 #[.int .i64 x, .int .i64 4] w fun e w' => e = .returned (.string S) ∧ Below w.heap.size w w' := by
  subst hS
  obtain ⟨m, rfl⟩ := Int.eq_ofNat_of_zero_le h0
  exact RFixed_ok m 4 w (by omega) (by omega)

/-- The two arrays of the call's own. -/
structure Locals (w : World) (B : Nat) (a b c : ByteArray) (x y z : Int) : Prop where
  s : w.heap[B]? = some (.cells #[.string a, .string b, .string c] 28 (0, 0))
  i : w.heap[B + 1]? = some (.cells #[.int .i64 x, .int .i64 y, .int .i64 z] 29 (0, 0))
  z : B + 1 < w.heap.size
section
variable {w w' : World} {B : Nat} {a b c : ByteArray} {x y z : Int}
theorem Locals.facts (h : Locals w B a b c x y z) : (w.cell? ⟨B, 0, none⟩ = some (.string a) ∧ w.cell? ⟨B, 1, none⟩ = some (.string b) ∧ w.cell? ⟨B, 2, none⟩ = some (.string c)) ∧
    (w.cell? ⟨B + 1, 0, none⟩ = some (.int .i64 x) ∧ w.cell? ⟨B + 1, 1, none⟩ = some (.int .i64 y) ∧ w.cell? ⟨B + 1, 2, none⟩ = some (.int .i64 z)) ∧
    (∀ j, w.frozen? ⟨B, j, none⟩ = false) ∧ (∀ j, w.frozen? ⟨B + 1, j, none⟩ = false) := by
  refine ⟨⟨?_, ?_, ?_⟩, ⟨?_, ?_, ?_⟩, fun j => ?_, fun j => ?_⟩
  · exact cell_of_row w B 0 _ _ (0, 0) h.s
  · exact cell_of_row w B 1 _ _ (0, 0) h.s
  · exact cell_of_row w B 2 _ _ (0, 0) h.s
  · exact cell_of_row w (B + 1) 0 _ _ (0, 0) h.i
  · exact cell_of_row w (B + 1) 1 _ _ (0, 0) h.i
  · exact cell_of_row w (B + 1) 2 _ _ (0, 0) h.i
  · have := h.s; simp [World.frozen?, this]
  · have := h.i; simp [World.frozen?, this]
theorem Locals.call (h : Locals w B a b c x y z) (hb : Below w.heap.size w w') : Locals w' B a b c x y z :=
  ⟨(hb.block B (by have := h.z; omega)).trans h.s, (hb.block (B + 1) h.z).trans h.i, Nat.lt_of_lt_of_le h.z hb.size⟩
theorem put_row {w : World} {g : Nat} {e : TypeId} {cs : Array Value} (h : w.heap[g]? = some (.cells cs e (0, 0))) (i : Nat) (v : Value) : (w.setCell ⟨g, i, none⟩ v).heap[g]? = some (.cells (cs.setIfInBounds i v) e (0, 0)) := by
  simp [World.setCell, Array.getElem?_modify, h]
theorem put_far {w : World} {g g' : Nat} (i : Nat) (v : Value) (hne : g ≠ g') : (w.setCell ⟨g', i, none⟩ v).heap[g]? = w.heap[g]? := Below.heap_setCell w ⟨g', i, none⟩ v g hne
theorem Locals.put (h : Locals w B a b c x y z) (k : Nat) (s : ByteArray) (v : Int) (a' b' c' : ByteArray) (x' y' z' : Int)
    (hs : (#[Value.string a, .string b, .string c] : Array Value).setIfInBounds k (.string s) = #[.string a', .string b', .string c'])
    (hi : (#[Value.int .i64 x, .int .i64 y, .int .i64 z] : Array Value).setIfInBounds k (.int .i64 v) = #[.int .i64 x', .int .i64 y', .int .i64 z']) :
    Locals ((w.setCell ⟨B, k, none⟩ (.string s)).setCell ⟨B + 1, k, none⟩ (.int .i64 v)) B a' b' c' x' y' z' := by
  refine ⟨?_, ?_, ?_⟩
  · rw [put_far _ _ (by omega), put_row h.s, hs]
  · rw [put_row (by rw [put_far _ _ (by omega)]; exact h.i), hi]
  · simpa [World.setCell] using h.z
end
/-- Where a round stands: the two arrays, and what was there ahead of the call. -/
def Stands (w W : World) (B : Nat) (a b c : ByteArray) (x y z : Int) : Prop := Locals W B a b c x y z ∧ Below w.heap.size w W ∧ w.heap.size ≤ B
theorem Stands.call {w W W' : World} {B : Nat} {a b c : ByteArray} {x y z : Int} (h : Stands w W B a b c x y z) (hb : Below W.heap.size W W') : Stands w W' B a b c x y z :=
  ⟨h.1.call hb, h.2.1.trans (hb.mono h.2.1.size), h.2.2⟩
theorem Stands.put {w W : World} {B : Nat} {a b c : ByteArray} {x y z : Int} (h : Stands w W B a b c x y z) (k : Nat) (s : ByteArray) (v : Int) (a' b' c' : ByteArray) (x' y' z' : Int)
    (hs : (#[Value.string a, .string b, .string c] : Array Value).setIfInBounds k (.string s) = #[.string a', .string b', .string c'])
    (hi : (#[Value.int .i64 x, .int .i64 y, .int .i64 z] : Array Value).setIfInBounds k (.int .i64 v) = #[.int .i64 x', .int .i64 y', .int .i64 z']) :
    Stands w ((W.setCell ⟨B, k, none⟩ (.string s)).setCell ⟨B + 1, k, none⟩ (.int .i64 v)) B a' b' c' x' y' z' := by
  have := h.2.2
  exact ⟨h.1.put k s v a' b' c' x' y' z' hs hi, (h.2.1.setCell (by show w.heap.size ≤ B; omega) _).setCell (by show w.heap.size ≤ B + 1; omega) _, h.2.2⟩
theorem stands_new {w W : World} (h : Below w.heap.size w W) :
    Stands w ((W.alloc (.cells #[.string ⟨#[]⟩, .string ⟨#[]⟩, .string ⟨#[]⟩] 28)).alloc (.cells #[.int .i64 2, .int .i64 2, .int .i64 2] 29)) W.heap.size ⟨#[]⟩ ⟨#[]⟩ ⟨#[]⟩ 2 2 2 := by
  have hz := h.size
  refine ⟨⟨?_, ?_, by simp⟩, (h.alloc hz _).alloc (by simp; omega) _, hz⟩
  · exact (Below.heap_alloc _ _ _ (by simp)).trans (heap_alloc_new W _)
  · have := heap_alloc_new (W.alloc (.cells #[.string ⟨#[]⟩, .string ⟨#[]⟩, .string ⟨#[]⟩] 28)) (.cells #[.int .i64 2, .int .i64 2, .int .i64 2] 29)
    simpa using this
theorem num_flip (n : Int) (w : World) : Calls Try.prog 15 #[.int .i64 n] w fun e w' => e = .returned (.int .i64 n) ∧ w' = w :=
  (num_same n w).mono fun _ _ h => ⟨h.1, h.2.symm⟩
theorem num_of_bad {x : Int} (h : x < 0 ∨ 268435455 < x) : numErr x = 2 ∧ numStr x = ⟨#[]⟩ := by
  rcases numErr_cases x with ⟨_, _, _, _⟩ | ⟨_, e1, e2⟩
  · omega
  · exact ⟨e1, e2⟩
theorem num_of_good {x : Int} (h0 : 0 ≤ x) (h1 : x ≤ 268435455) : numErr x = 0 ∧ numStr x = strOfNums (numZ x.toNat) := by
  rcases numErr_cases x with ⟨_, _, e1, e2⟩ | ⟨_, _, _⟩
  · exact ⟨e1, e2⟩
  · omega
theorem fix_of_bad {w : Nat} {x : Int} (h : x < 0 ∨ 256 ^ w ≤ x) : fixErr w x = 2 ∧ fixStr w x = ⟨#[]⟩ := by
  rcases fix_cases w x with ⟨_, _, _, _⟩ | ⟨_, e1, e2⟩
  · omega
  · exact ⟨e1, e2⟩
theorem fix_of_good {w : Nat} {x : Int} (h0 : 0 ≤ x) (h1 : x < 256 ^ w) : fixErr w x = 0 ∧ fixStr w x = strOfNums (fixZ w x.toNat) := by
  rcases fix_cases w x with ⟨_, _, e1, e2⟩ | ⟨_, _, _⟩
  · exact ⟨e1, e2⟩
  · omega

set_option maxRecDepth 100000 in
set_option maxHeartbeats 16000000 in
theorem VbiNums_any (A : Option Addr) (n c : Nat) (w : World) (h : Asks w A n) :
    Calls Try.prog 3 #[.slice A n c] w fun e w' => e = .returned (.bool true) ∧ Below w.heap.size w w' := by
  have H := Lib.hid h
  clear h
  go_enter Try.func3, Try.ntmps3
  go_wp2_with fail
  go_loopw [3] (fun i wr => ∃ k : Nat, k ≤ n ∧ k ≤ 15 ∧ i = .int .i64 (k : Int) ∧ Below w.heap.size w wr) (fun i _ => 15 - (RowKit.intOf i).toNat)
  case atStart => exact ⟨0, Nat.zero_le _, by omega, rfl, Below.refl _ _⟩
  case round =>
    obtain ⟨k, hkn, hk15, rfl, hnx⟩ := hrel
    obtain ⟨wo, rfl⟩ : ∃ wo : World, wo = wr := ⟨_, rfl⟩
    by_cases hgo : k < n ∧ k < 15
    · obtain ⟨h1, h2⟩ := hgo
      rcases H.out with h0 | ⟨b, off, rfl, hall⟩
      · omega
      · obtain ⟨x, s, y, ha⟩ := hall k h1
        have HA := Lib.hid (ha.below hnx)
        have HX := Lib.hid hnx
        clear hall ha hnx H
        have q0 := HA.out.c0
        have hkn' : (k : Int) < (n : Int) := by omega
        have hk15' : (k : Int) < 15 := by omega
        have hr1 := HA.out.r1
        obtain ⟨S1, hS1⟩ : ∃ S, numStr x = S := ⟨_, rfl⟩
        obtain ⟨E1, hE1⟩ : ∃ E, numErr x = E := ⟨_, rfl⟩
        obtain ⟨S2, hS2⟩ : ∃ S, fixStr 2 x = S := ⟨_, rfl⟩
        obtain ⟨E2, hE2⟩ : ∃ E, fixErr 2 x = E := ⟨_, rfl⟩
        obtain ⟨S4, hS4⟩ : ∃ S, fixStr 4 x = S := ⟨_, rfl⟩
        obtain ⟨E4, hE4⟩ : ∃ E, fixErr 4 x = E := ⟨_, rfl⟩
        have H1 := Lib.hid (fun W => Num_is x S1 E1 W hS1 hE1)
        have H2 := Lib.hid (fun W => Two_is x S2 E2 W hr1 hS2 hE2)
        have H4 := Lib.hid (fun W => Four_is x S4 E4 W hr1 hS4 hE4)
        have J1 := Lib.hid hS1
        have J2 := Lib.hid hS2
        have J4 := Lib.hid hS4
        have G1 := Lib.hid hE1
        have G2 := Lib.hid hE2
        have G4 := Lib.hid hE4
        clear hS1 hE1 hS2 hE2 hS4 hE4
        go_wp2_with fail
        refine (H1.out _).mono ?_
        rintro e w1 ⟨rfl, hb1⟩
        have HX1 := Lib.hid (HX.out.trans (hb1.mono HX.out.size))
        clear q0 hb1 HX HA
        go_wp2_with fail
        refine (H2.out _).mono ?_
        rintro e w2 ⟨rfl, hb2⟩
        have HX2 := Lib.hid (HX1.out.trans (hb2.mono HX1.out.size))
        clear hb2 HX1
        go_wp2_with fail
        refine (H4.out _).mono ?_
        rintro e w4 ⟨rfl, hb4⟩
        have HX4 := Lib.hid (HX2.out.trans (hb4.mono HX2.out.size))
        clear hb4 HX2
        have ST := Lib.hid (stands_new HX4.out)
        clear HX4
        rcases (by omega : (0 ≤ x ∧ x ≤ 65535) ∨ (65536 ≤ x ∧ x ≤ 268435455) ∨ (268435456 ≤ x ∧ x ≤ 4294967295) ∨ (x < 0 ∨ 4294967296 ≤ x)) with hx | hx | hx | hx
        · have e1 := num_of_good (x := x) (by omega) (by omega)
          have e2 := fix_of_good (w := 2) (x := x) (by omega) (by omega)
          have e4 := fix_of_good (w := 4) (x := x) (by omega) (by omega)
          obtain rfl : 0 = E1 := e1.1.symm.trans G1.out
          have R1 := Lib.hid (fun W => RNum_is x S1 W (by omega) (by omega) (e1.2.symm.trans J1.out))
          have Z1 := Lib.hid (fun W => zNum_is x 268435455 true W (by exact decide_eq_true ⟨by omega, by omega⟩))
          obtain rfl : 0 = E2 := e2.1.symm.trans G2.out
          have R2 := Lib.hid (fun W => RFixed2_is x S2 W (by omega) (by omega) (e2.2.symm.trans J2.out))
          have Z2 := Lib.hid (fun W => zNum_is x 65535 true W (by exact decide_eq_true ⟨by omega, by omega⟩))
          obtain rfl : 0 = E4 := e4.1.symm.trans G4.out
          have R4 := Lib.hid (fun W => RFixed4_is x S4 W (by omega) (by omega) (e4.2.symm.trans J4.out))
          have Z4 := Lib.hid (fun W => zNum_is x 4294967295 true W (by exact decide_eq_true ⟨by omega, by omega⟩))
          clear e1 e2 e4 J1 J2 J4 G1 G2 G4
          go_wp2_with fail
          refine (Z1.out _).mono ?_
          rintro e w' ⟨rfl, rfl⟩
          go_wp2_with fail
          refine (R1.out _).mono ?_
          rintro e v1 ⟨rfl, hc1⟩
          have SC1 := Lib.hid (ST.out.call hc1)
          clear hc1 R1
          obtain ⟨⟨f0, f1, f2⟩, ⟨f3, f4, f5⟩, f6, f7⟩ := SC1.out.1.facts
          have SP1 := Lib.hid (SC1.out.put 0 S1 0 S1 ⟨#[]⟩ ⟨#[]⟩ 0 2 2 rfl rfl)
          go_wp2_with fail
          clear f0 f1 f2 f3 f4 f5 f6 f7
          refine (Z2.out _).mono ?_
          rintro e w' ⟨rfl, rfl⟩
          go_wp2_with fail
          refine (R2.out _).mono ?_
          rintro e v2 ⟨rfl, hc2⟩
          have SC2 := Lib.hid (SP1.out.call hc2)
          clear hc2 R2
          obtain ⟨⟨f0, f1, f2⟩, ⟨f3, f4, f5⟩, f6, f7⟩ := SC2.out.1.facts
          have SP2 := Lib.hid (SC2.out.put 1 S2 0 S1 S2 ⟨#[]⟩ 0 0 2 rfl rfl)
          go_wp2_with fail
          clear f0 f1 f2 f3 f4 f5 f6 f7
          refine (Z4.out _).mono ?_
          rintro e w' ⟨rfl, rfl⟩
          go_wp2_with fail
          refine (R4.out _).mono ?_
          rintro e v4 ⟨rfl, hc4⟩
          have SC4 := Lib.hid (SP2.out.call hc4)
          clear hc4 R4
          obtain ⟨⟨f0, f1, f2⟩, ⟨f3, f4, f5⟩, f6, f7⟩ := SC4.out.1.facts
          have SP4 := Lib.hid (SC4.out.put 2 S4 0 S1 S2 S4 0 0 0 rfl rfl)
          go_wp2_with fail
          clear f0 f1 f2 f3 f4 f5 f6 f7
          obtain ⟨⟨f0, f1, f2⟩, ⟨f3, f4, f5⟩, f6, f7⟩ := SP4.out.1.facts
          clear f6 f7
          go_quiet ((go_at_call 15; exact Calls.quiet_of_same (num_flip _ _)))
          go_wp2_with fail
          go_roundw
          case rel => exact ⟨k + 1, h1, h2, by go_num, below_drewN SP4.out.2.1 _⟩
          case measure => simp [RowKit.intOf]; omega
        · have e1 := num_of_good (x := x) (by omega) (by omega)
          have e2 := fix_of_bad (w := 2) (x := x) (by omega)
          have e4 := fix_of_good (w := 4) (x := x) (by omega) (by omega)
          obtain rfl : 0 = E1 := e1.1.symm.trans G1.out
          have R1 := Lib.hid (fun W => RNum_is x S1 W (by omega) (by omega) (e1.2.symm.trans J1.out))
          have Z1 := Lib.hid (fun W => zNum_is x 268435455 true W (by exact decide_eq_true ⟨by omega, by omega⟩))
          obtain rfl : 2 = E2 := e2.1.symm.trans G2.out
          obtain rfl : ⟨#[]⟩ = S2 := e2.2.symm.trans J2.out
          have Z2 := Lib.hid (fun W => zNum_is x 65535 false W (by exact decide_eq_false (by omega)))
          obtain rfl : 0 = E4 := e4.1.symm.trans G4.out
          have R4 := Lib.hid (fun W => RFixed4_is x S4 W (by omega) (by omega) (e4.2.symm.trans J4.out))
          have Z4 := Lib.hid (fun W => zNum_is x 4294967295 true W (by exact decide_eq_true ⟨by omega, by omega⟩))
          clear e1 e2 e4 J1 J2 J4 G1 G2 G4
          go_wp2_with fail
          refine (Z1.out _).mono ?_
          rintro e w' ⟨rfl, rfl⟩
          go_wp2_with fail
          refine (R1.out _).mono ?_
          rintro e v1 ⟨rfl, hc1⟩
          have SC1 := Lib.hid (ST.out.call hc1)
          clear hc1 R1
          obtain ⟨⟨f0, f1, f2⟩, ⟨f3, f4, f5⟩, f6, f7⟩ := SC1.out.1.facts
          have SP1 := Lib.hid (SC1.out.put 0 S1 0 S1 ⟨#[]⟩ ⟨#[]⟩ 0 2 2 rfl rfl)
          go_wp2_with fail
          clear f0 f1 f2 f3 f4 f5 f6 f7
          refine (Z2.out _).mono ?_
          rintro e w' ⟨rfl, rfl⟩
          go_wp2_with fail
          refine (Z4.out _).mono ?_
          rintro e w' ⟨rfl, rfl⟩
          go_wp2_with fail
          refine (R4.out _).mono ?_
          rintro e v4 ⟨rfl, hc4⟩
          have SC4 := Lib.hid (SP1.out.call hc4)
          clear hc4 R4
          obtain ⟨⟨f0, f1, f2⟩, ⟨f3, f4, f5⟩, f6, f7⟩ := SC4.out.1.facts
          have SP4 := Lib.hid (SC4.out.put 2 S4 0 S1 ⟨#[]⟩ S4 0 2 0 rfl rfl)
          go_wp2_with fail
          clear f0 f1 f2 f3 f4 f5 f6 f7
          obtain ⟨⟨f0, f1, f2⟩, ⟨f3, f4, f5⟩, f6, f7⟩ := SP4.out.1.facts
          clear f6 f7
          go_quiet ((go_at_call 15; exact Calls.quiet_of_same (num_flip _ _)))
          go_wp2_with fail
          go_roundw
          case rel => exact ⟨k + 1, h1, h2, by go_num, below_drewN SP4.out.2.1 _⟩
          case measure => simp [RowKit.intOf]; omega
        · have e1 := num_of_bad (x := x) (by omega)
          have e2 := fix_of_bad (w := 2) (x := x) (by omega)
          have e4 := fix_of_good (w := 4) (x := x) (by omega) (by omega)
          obtain rfl : 2 = E1 := e1.1.symm.trans G1.out
          obtain rfl : ⟨#[]⟩ = S1 := e1.2.symm.trans J1.out
          have Z1 := Lib.hid (fun W => zNum_is x 268435455 false W (by exact decide_eq_false (by omega)))
          obtain rfl : 2 = E2 := e2.1.symm.trans G2.out
          obtain rfl : ⟨#[]⟩ = S2 := e2.2.symm.trans J2.out
          have Z2 := Lib.hid (fun W => zNum_is x 65535 false W (by exact decide_eq_false (by omega)))
          obtain rfl : 0 = E4 := e4.1.symm.trans G4.out
          have R4 := Lib.hid (fun W => RFixed4_is x S4 W (by omega) (by omega) (e4.2.symm.trans J4.out))
          have Z4 := Lib.hid (fun W => zNum_is x 4294967295 true W (by exact decide_eq_true ⟨by omega, by omega⟩))
          clear e1 e2 e4 J1 J2 J4 G1 G2 G4
          go_wp2_with fail
          refine (Z1.out _).mono ?_
          rintro e w' ⟨rfl, rfl⟩
          go_wp2_with fail
          refine (Z2.out _).mono ?_
          rintro e w' ⟨rfl, rfl⟩
          go_wp2_with fail
          refine (Z4.out _).mono ?_
          rintro e w' ⟨rfl, rfl⟩
          go_wp2_with fail
          refine (R4.out _).mono ?_
          rintro e v4 ⟨rfl, hc4⟩
          have SC4 := Lib.hid (ST.out.call hc4)
          clear hc4 R4
          obtain ⟨⟨f0, f1, f2⟩, ⟨f3, f4, f5⟩, f6, f7⟩ := SC4.out.1.facts
          have SP4 := Lib.hid (SC4.out.put 2 S4 0 ⟨#[]⟩ ⟨#[]⟩ S4 2 2 0 rfl rfl)
          go_wp2_with fail
          clear f0 f1 f2 f3 f4 f5 f6 f7
          obtain ⟨⟨f0, f1, f2⟩, ⟨f3, f4, f5⟩, f6, f7⟩ := SP4.out.1.facts
          clear f6 f7
          go_quiet ((go_at_call 15; exact Calls.quiet_of_same (num_flip _ _)))
          go_wp2_with fail
          go_roundw
          case rel => exact ⟨k + 1, h1, h2, by go_num, below_drewN SP4.out.2.1 _⟩
          case measure => simp [RowKit.intOf]; omega
        · have e1 := num_of_bad (x := x) (by omega)
          have e2 := fix_of_bad (w := 2) (x := x) (by omega)
          have e4 := fix_of_bad (w := 4) (x := x) (by omega)
          obtain rfl : 2 = E1 := e1.1.symm.trans G1.out
          obtain rfl : ⟨#[]⟩ = S1 := e1.2.symm.trans J1.out
          have Z1 := Lib.hid (fun W => zNum_is x 268435455 false W (by exact decide_eq_false (by omega)))
          obtain rfl : 2 = E2 := e2.1.symm.trans G2.out
          obtain rfl : ⟨#[]⟩ = S2 := e2.2.symm.trans J2.out
          have Z2 := Lib.hid (fun W => zNum_is x 65535 false W (by exact decide_eq_false (by omega)))
          obtain rfl : 2 = E4 := e4.1.symm.trans G4.out
          obtain rfl : ⟨#[]⟩ = S4 := e4.2.symm.trans J4.out
          have Z4 := Lib.hid (fun W => zNum_is x 4294967295 false W (by exact decide_eq_false (by omega)))
          clear e1 e2 e4 J1 J2 J4 G1 G2 G4
          go_wp2_with fail
          refine (Z1.out _).mono ?_
          rintro e w' ⟨rfl, rfl⟩
          go_wp2_with fail
          refine (Z2.out _).mono ?_
          rintro e w' ⟨rfl, rfl⟩
          go_wp2_with fail
          refine (Z4.out _).mono ?_
          rintro e w' ⟨rfl, rfl⟩
          go_wp2_with fail
          obtain ⟨⟨f0, f1, f2⟩, ⟨f3, f4, f5⟩, f6, f7⟩ := ST.out.1.facts
          clear f6 f7
          go_quiet ((go_at_call 15; exact Calls.quiet_of_same (num_flip _ _)))
          go_wp2_with fail
          go_roundw
          case rel => exact ⟨k + 1, h1, h2, by go_num, below_drewN ST.out.2.1 _⟩
          case measure => simp [RowKit.intOf]; omega
    · go_wp2_with (go_at_call 16; refine (wakes_any _).mono ?_; rintro e w1 ⟨rfl, hb1⟩)
      all_goals (go_ret; exact ⟨rfl, hnx.trans (hb1.mono hnx.size)⟩)
end Go.Proofs.Ytjpngjhfakgefaa
