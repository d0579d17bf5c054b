/- SumSums: whatever is asked, package sum and the document's own answer agree on the sum of bytes behind any sum. -/
import Derived.Test.YtbonmfhkcoacjaaDoorSumLeaf
import Derived.Test.YtbonmfhkcoacjaaDoorSumAsks
import Derived.Deep.RegionHeld3
namespace Go.Proofs.YtbonmfhkcoacjaaDoor
open Go.RowKit Go.Lib Crc

/-- Where a round stands: the ask, the table, what was there ahead of the call. -/
@[irreducible] def Stand (w : World) (b o x : Nat) (s : ByteArray) (y : Int) (W : World) : Prop := AskAt W W.heap.size b o x s y ∧ Tab W ∧ Below w.heap.size w W
theorem Stand.mk {w W : World} {b o x : Nat} {s : ByteArray} {y : Int} (h1 : AskAt W W.heap.size b o x s y) (h2 : Tab W) (h3 : Below w.heap.size w W) : Stand w b o x s y W := by unfold Stand; exact ⟨h1, h2, h3⟩
theorem Stand.out {w W : World} {b o x : Nat} {s : ByteArray} {y : Int} (h : Stand w b o x s y W) : AskAt W W.heap.size b o x s y ∧ Tab W ∧ Below w.heap.size w W := by unfold Stand at h; exact h
theorem AskAt.up {w : World} {B B' b o x : Nat} {s : ByteArray} {y : Int} (h : AskAt w B b o x s y) (hB : B ≤ B') : AskAt w B' b o x s y :=
  ⟨h.c0, h.c1, h.c2, h.hx, h.hs, Nat.lt_of_lt_of_le h.hb hB, h.r0, h.r1⟩
theorem Stand.below {w W W' : World} {b o x : Nat} {s : ByteArray} {y : Int} (h : Stand w b o x s y W) (hb : Below W.heap.size W W') : Stand w b o x s y W' := by
  obtain ⟨h1, h2, h3⟩ := h.out
  exact .mk ((h1.below hb).up hb.size) (h2.below hb) (h3.trans (hb.mono h3.size))
theorem Stand.drewN {w W : World} {b o x : Nat} {s : ByteArray} {y : Int} (h : Stand w b o x s y W) (n : Nat) : Stand w b o x s y (W.drewN n) :=
  h.below (below_drewN (Below.refl _ _) n)
/-- A call of Sum in a round: where it stands is told anew. -/
theorem Sum_stand {w W : World} {b o x : Nat} {s : ByteArray} {y : Int} (N X : Nat) (t : ByteArray) (h : Stand w b o x s y W) (hX : X < 4294967296) (ht : t.size ≤ 9223372036854775807) (hN : sumN X t.data.toList = N) :
    Calls Tryd.prog 5 #[.int .u32 (X : Int), .string t] W fun e w' => e = .returned (.int .u32 (N : Int)) ∧ w'.cell? ⟨b, o, none⟩ = some (.int .u32 (x : Int)) ∧ w'.cell? ⟨b, o + 1, none⟩ = some (.string s) ∧ Stand w b o x s y w' :=
  (Sum_is X t N W hX ht h.out.2.1 hN).mono fun _ _ ⟨he, hb⟩ => ⟨he, (h.below hb).out.1.c0, (h.below hb).out.1.c1, h.below hb⟩

set_option maxRecDepth 100000 in
set_option maxHeartbeats 8000000 in
theorem SumSums_any (A : Option Addr) (n c : Nat) (w : World) (h : Asks w A n) (ht : Tab w) :
    Calls Tryd.prog 3 #[.slice A n c] w fun e w' => e = .returned (.bool true) ∧ Below w.heap.size w w' := by
  have H := Lib.hid h
  have T := Lib.hid ht
  clear h ht
  go_enter Tryd.func3, Tryd.ntmps3
  go_wp2_with fail
  go_loopw [3] (fun i wr => ∃ k : Nat, k ≤ n ∧ k ≤ 15 ∧ i = .int .i64 (k : Int) ∧ Below w.heap.size w wr) (fun i _ => 15 - (RowKit.intOf i).toNat)
  case atStart => exact ⟨0, Nat.zero_le _, by omega, rfl, Below.refl _ _⟩
  case round =>
    obtain ⟨k, hkn, hk15, rfl, hnx⟩ := hrel
    have TW := Lib.hid (T.out.below hnx)
    by_cases hgo : k < n ∧ k < 15
    · obtain ⟨h1, h2⟩ := hgo
      rcases H.out with h0 | ⟨b, off, rfl, hall⟩
      · omega
      · obtain ⟨x, s, y, ha⟩ := hall k h1
        have HA := Lib.hid (ha.below hnx)
        have HX := Lib.hid hnx
        clear hall ha hnx H T
        have q0 := HA.out.c0
        have q1 := HA.out.c1
        have hs := HA.out.hs
        have hkn' : (k : Int) < (n : Int) := by omega
        have hk15' : (k : Int) < 15 := by omega
        by_cases hbig : 3000 < s.size
        · go_wp2_with fail
          go_ret
          exact ⟨rfl, HX.out⟩
        · obtain ⟨N, hN⟩ : ∃ N, sumN x s.data.toList = N := ⟨_, rfl⟩
          have HS := Lib.hid (fun (W : World) (h : Stand w b (off + k * 3) x s y W) => Sum_stand N x s h HA.out.hx hs hN)
          have HR := Lib.hid (fun W => RSum_is x s N W HA.out.hx hs hN)
          have st : Stand w b (off + k * 3) x s y wr := .mk (HA.out.up HX.out.size) TW.out HX.out
          clear hN HA HX TW
          go_wp2_with fail
          go_region_held3 (fun W => W.cell? ⟨b, off + k * 3, none⟩ = some (.int .u32 (x : Int)) ∧ W.cell? ⟨b, off + k * 3 + 1, none⟩ = some (.string s) ∧ Stand w b (off + k * 3) x s y W)
            (first | exact ⟨c0, c1, st1⟩ | exact ⟨q0, q1, st.drewN 1⟩ | go_keep)
            (first | (go_at_call 5; refine (HS.out _ ?_).mono ?_; (first | assumption | exact Stand.drewN (by assumption) _); rintro e w1 ⟨rfl, c0, c1, st1⟩) | (go_at_call 6; refine (HR.out _).mono ?_; rintro e w1 ⟨rfl, rfl⟩))
          all_goals
            clear c0 c1
            have HB := Lib.hid st1.out.2.2
            go_wp2_with fail
            go_roundw
            case rel => exact ⟨k + 1, h1, h2, by go_num, HB.out⟩
            case measure => simp [RowKit.intOf]; omega
    · go_wp2_with (go_at_call 7; refine (wakes_any _ TW.out).mono ?_; rintro e w1 ⟨rfl, hb1⟩)
      all_goals (go_ret; exact ⟨rfl, hnx.trans (hb1.mono hnx.size)⟩)
end Go.Proofs.YtbonmfhkcoacjaaDoor
