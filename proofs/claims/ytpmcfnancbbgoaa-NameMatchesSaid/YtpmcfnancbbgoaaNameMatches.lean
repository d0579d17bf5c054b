/- NameMatches: whatever is asked, package name and the document's own answer agree on which filter matches which topic's name. -/
import Derived.Test.YtpmcfnancbbgoaaNameAsks
import Derived.Test.YtpmcfnancbbgoaaNameLaw
import Derived.Test.YtpmcfnancbbgoaaNameRMatch
namespace Go.Proofs.Ytpmcfnancbbgoaa
open Go.RowKit Go.Lib Txt Nam

/-- Two asks that stay. -/
@[irreducible] def AA (w : World) (b o o' : Nat) (f t f' t' : ByteArray) (W : World) : Prop := AskAt W w.heap.size b o f t ∧ AskAt W w.heap.size b o' f' t' ∧ Below w.heap.size w W
section
variable {w W W' : World} {b o o' : Nat} {f t f' t' : ByteArray}
theorem AA.mk (h : AskAt W w.heap.size b o f t ∧ AskAt W w.heap.size b o' f' t' ∧ Below w.heap.size w W) : AA w b o o' f t f' t' W := by unfold AA; exact h
theorem AA.out (h : AA w b o o' f t f' t' W) : AskAt W w.heap.size b o f t ∧ AskAt W w.heap.size b o' f' t' ∧ Below w.heap.size w W := by unfold AA at h; exact h
theorem AA.below (h : AA w b o o' f t f' t' W) (hb : Below W.heap.size W W') : AA w b o o' f t f' t' W' := by
  obtain ⟨h1, h2, h3⟩ := h.out
  have hb' := hb.mono h3.size
  exact .mk ⟨h1.below hb', h2.below hb', h3.trans hb'⟩
theorem AA.drewN (h : AA w b o o' f t f' t' W) (n : Nat) : AA w b o o' f t f' t' (W.drewN n) := h.below (below_drewN (Below.refl _ _) n)
end

set_option maxRecDepth 100000 in
set_option maxHeartbeats 8000000 in
theorem NameMatches_any (A : Option Addr) (n c : Nat) (w : World) (h : Asks w A n) :
    Calls Try.prog 4 #[.slice A n c] w fun e w' => e = .returned (.bool true) ∧ Below w.heap.size w w' := by
  have H := Lib.hid h
  clear h
  go_enter Try.func4, Try.ntmps4
  go_wp2_with fail
  go_loopw [3, 4] (fun i _ wr => ∃ k : Nat, k ≤ n ∧ k ≤ 12 ∧ i = .int .i64 (k : Int) ∧ Below w.heap.size w wr) (fun i _ _ => 12 - (RowKit.intOf i).toNat)
  case atStart => exact ⟨0, Nat.zero_le _, by omega, rfl, Below.refl _ _⟩
  case round =>
    obtain ⟨k, hkn, hk12, rfl, hnx⟩ := hrel
    by_cases hgo : k < n ∧ k < 12
    · obtain ⟨h1, h2⟩ := hgo
      rcases H.out with h0 | ⟨b, off, rfl, hall⟩
      · omega
      · obtain ⟨f, t, ha⟩ := hall k h1
        have HA := Lib.hid ha
        have HALL := Lib.hid hall
        have HX := Lib.hid hnx
        have q0 := (ha.below hnx).c0
        have q1 := (ha.below hnx).c1
        have hs0 := ha.hf
        have hs1 := ha.ht
        clear hall ha hnx H
        have hknI : (k : Int) < (n : Int) := by omega
        have hk12I : (k : Int) < 12 := by omega
        by_cases hh : 4000 < f.size + t.size
        · have HH := Lib.hid (fun W => heavy_is f t true W hs0 hs1 (decide_eq_true hh))
          go_wp2_with (go_at_call 7; refine (HH.out _).mono ?_; rintro e w1 ⟨rfl, hb1⟩)
          go_ret
          exact ⟨rfl, HX.out.trans (hb1.mono HX.out.size)⟩
        · have HH := Lib.hid (fun W => heavy_is f t false W hs0 hs1 (decide_eq_false hh))
          go_wp2_with fail
          refine (HH.out _).mono ?_
          rintro e w1 ⟨rfl, hb1⟩
          have HX1 := Lib.hid (HX.out.trans (hb1.mono HX.out.size))
          clear q0 q1 hb1 HH HX
          go_wp2_with fail
          go_loopw [4] (fun i wr => ∃ j : Nat, j ≤ n ∧ j ≤ 12 ∧ i = .int .i64 (j : Int) ∧ Below w.heap.size w wr) (fun i _ => 12 - (RowKit.intOf i).toNat)
          case atStart => exact ⟨0, Nat.zero_le _, by omega, rfl, HX1.out⟩
          case round =>
            obtain ⟨j, hjn, hj12, rfl, hnx⟩ := hrel
            clear HX1
            by_cases hgo : j < n ∧ j < 12
            · obtain ⟨g1, g2⟩ := hgo
              obtain ⟨f', t', ha'⟩ := HALL.out j g1
              have HA' := Lib.hid ha'
              have HX := Lib.hid hnx
              have q0 := (ha'.below hnx).c0
              have q1 := (ha'.below hnx).c1
              have hs0' := ha'.hf
              have hs1' := ha'.ht
              clear ha' hnx
              have hjnI : (j : Int) < (n : Int) := by omega
              have hj12I : (j : Int) < 12 := by omega
              by_cases hh' : 4000 < f'.size + t'.size
              · have HH := Lib.hid (fun W => heavy_is f' t' true W hs0' hs1' (decide_eq_true hh'))
                go_wp2_with (go_at_call 7; refine (HH.out _).mono ?_; rintro e w1 ⟨rfl, hb1⟩)
                go_ret
                exact ⟨rfl, HX.out.trans (hb1.mono HX.out.size)⟩
              · have HH := Lib.hid (fun W => heavy_is f' t' false W hs0' hs1' (decide_eq_false hh'))
                go_wp2_with fail
                refine (HH.out _).mono ?_
                rintro e w3 ⟨rfl, hb1⟩
                have hX3 := HX.out.trans (hb1.mono HX.out.size)
                have ST := Lib.hid (AA.mk ⟨HA.out.below hX3, HA'.out.below hX3, hX3⟩)
                obtain ⟨m, hm⟩ : ∃ m, matchB f.data.toList t'.data.toList = m := ⟨_, rfl⟩
                have HM := Lib.hid (fun W => Match_is f t' m W (by omega) (by omega) hm)
                have HR := Lib.hid (fun W => RMatch_is f t' m W (by omega) (by omega) hm)
                clear q0 q1 hb1 HH HX hX3 hm
                go_upto_region 11 with fail
                have st0 := ST.out
                haveI : Nonempty (In (AA w b (off + k * 2) (off + j * 2) f t f' t')) := ⟨⟨_, st0⟩⟩
                have k0 := fun u : In (AA w b (off + k * 2) (off + j * 2) f t f' t') => u.h.out.1.c0
                have k1 := fun u : In (AA w b (off + k * 2) (off + j * 2) f t f' t') => u.h.out.2.1.c1
                clear ST
                refine region_in (S := AA w b (off + k * 2) (off + j * 2) f t f' t') (by kernel_rfl) (by kernel_rfl) (st0.drewN 1) ?_
                repeat (go_big_quiet_step (first | (go_at_call 20; exact in_call ((HM.out _).mono fun _ _ h => ⟨h.1, AA.below (In.h _) h.2⟩)) | (go_at_call 21; exact in_call ((HR.out _).mono fun _ _ h => ⟨h.1, AA.below (In.h _) h.2⟩))))
                refine wpQuiet_nil ?_
                rintro _ ⟨⟨w7, st7⟩, rfl⟩
                have HX7 := Lib.hid st7.out.2.2
                clear this st0 st7 k0 k1 HM HR
                have hmm : (m != m) = false := by cases m <;> rfl
                go_wp2
                go_roundw
                case rel => exact ⟨j + 1, g1, g2, by go_num, HX7.out⟩
                case measure => simp [RowKit.intOf]; omega
            · have HX := Lib.hid hnx
              clear hnx
              go_wp2_with fail
              all_goals (
                go_roundw
                case rel => exact ⟨k + 1, h1, h2, by go_num, HX.out⟩
                case measure => simp [RowKit.intOf]; omega)
    · go_wp2_with (go_at_call 19; refine (wakes_is _).mono ?_; rintro e w1 ⟨rfl, hb1⟩)
      all_goals (go_ret; exact ⟨rfl, hnx.trans (hb1.mono hnx.size)⟩)
end Go.Proofs.Ytpmcfnancbbgoaa
