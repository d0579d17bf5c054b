/- Package subs: whether subscriptions may be. -/
import Derived.Test.YtdogeljlcnlbkaaSubLeaf
namespace Go.Proofs.Ytdogeljlcnlbkaa.Sbs
open Go.RowKit Go.Lib Txt Nam

/-- Subscriptions that may be: each by itself, rising, few. -/
structure May (l : List Sb) : Prop where
  fine : ∀ s ∈ l, Fine s
  rise : ∀ i (h : i + 1 < l.length), Go.Op.bytesLess (l[i]'(by omega)).t l[i + 1].t = true
  few : l.length ≤ 8

/-- Where a round over subscriptions stands: one of them in a box, all of them, what was there ahead. -/
@[irreducible] def Round (w : World) (A : Option Addr) (l : List Sb) (g : Nat) (s : Sb) (W : World) : Prop := Blk W g (scells s).toArray ∧ SubsAt W w.heap.size A l ∧ Below w.heap.size w W
section
variable {w W W' : World} {A : Option Addr} {l : List Sb} {g : Nat} {s : Sb}
theorem Round.mk (h : Blk W g (scells s).toArray ∧ SubsAt W w.heap.size A l ∧ Below w.heap.size w W) : Round w A l g s W := by unfold Round; exact h
theorem Round.out (h : Round w A l g s W) : Blk W g (scells s).toArray ∧ SubsAt W w.heap.size A l ∧ Below w.heap.size w W := by unfold Round at h; exact h
theorem Round.below (h : Round w A l g s W) (hb : Below W.heap.size W W') : Round w A l g s W' := by
  obtain ⟨h1, h2, h3⟩ := h.out
  have hb' := hb.mono h3.size
  exact .mk ⟨h1.below hb, h2.below hb', h3.trans hb'⟩
theorem Round.drewN (h : Round w A l g s W) (n : Nat) : Round w A l g s (W.drewN n) := h.below (below_drewN (Below.refl _ _) n)
end

set_option maxRecDepth 100000 in
set_option maxHeartbeats 4000000 in
/-- subs.Check, of subscriptions that may be. -/
theorem Check_is (l : List Sb) (A : Option Addr) (c : Nat) (w : World) (h : SubsAt w w.heap.size A l) (hm : May l) :
    Calls Try.prog 11 #[.slice A l.length c] w fun e w' => e = .returned (.int .i64 0) ∧ Below w.heap.size w w' := by
  have H := Lib.hid h
  have M := Lib.hid hm
  have h8 := hm.few
  have h8I : ¬ (8 : Int) < (l.length : Int) := by omega
  clear h hm
  go_enter Try.func11, Try.ntmps11
  go_wp2_with fail
  clear h8I
  go_loopw [10] (fun i wr => ∃ k : Nat, k ≤ l.length ∧ i = .int .i64 (k : Int) ∧ Below w.heap.size w wr) (fun i _ => l.length - (RowKit.intOf i).toNat)
  case atStart => exact ⟨0, Nat.zero_le _, rfl, Below.refl _ _⟩
  case round =>
    obtain ⟨k, hk, rfl, hb⟩ := hrel
    have HX := Lib.hid hb
    have hsz := hb.size
    clear hb
    by_cases hlt : k < l.length
    · obtain ⟨b0, o, rfl, hb0, hc⟩ := (H.out.below HX.out).some_ (by omega)
      obtain ⟨d0, d1, d2, d3, d4, d5, d6, d7, d8⟩ := hc k hlt
      have hf := M.out.fine _ (List.getElem_mem hlt)
      have hrise := fun (j : Nat) (hj : j + 1 = k) => M.out.rise j (by omega)
      have HC := Lib.hid hc
      obtain ⟨s, hs⟩ : ∃ s, l[k] = s := ⟨_, rfl⟩
      rw [hs] at d0 d1 hf
      have HSk := Lib.hid hs
      clear hs hc
      have HMB := Lib.hid (fun W => mayBe_is s W hf)
      have hnew : Round w (some ⟨b0, o, none⟩) l wr.heap.size s (wr.alloc (.cells (scells s).toArray 33)) :=
        .mk ⟨Blk.new _ _ _, (H.out.below HX.out).alloc hsz _, HX.out.alloc hsz _⟩
      have hkI : (k : Int) < (l.length : Int) := by omega
      clear hf
      rcases Nat.eq_zero_or_pos k with h0 | hpos
      · have hp0 : decide (0 < k) = false := decide_eq_false (by omega)
        have hp1 : decide ((0 : Int) < (k : Int)) = false := by rw [decide_eq_false_iff_not]; omega
        clear h0 hrise
        obtain ⟨t, q⟩ := s
        unfold scells at hnew
        unfold sagg at HMB
        dsimp only at hnew HMB d0 d1
        go_upto_region 6 with fail
        generalize wr.heap.size = g at hnew ⊢
        generalize wr.alloc _ = wa at hnew ⊢
        clear d0 d1 d2 d3 d4 d5 d6 d7 d8 HC
        have st0 := hnew
        haveI : Nonempty (In (Round w (some ⟨b0, o, none⟩) l g ⟨t, q⟩)) := ⟨⟨_, st0⟩⟩
        have k0 := fun u : In (Round w (some ⟨b0, o, none⟩) l g ⟨t, q⟩) => u.h.out.1.cell 0
        have k1 := fun u : In (Round w (some ⟨b0, o, none⟩) l g ⟨t, q⟩) => u.h.out.1.cell 1
        have k2 := fun u : In (Round w (some ⟨b0, o, none⟩) l g ⟨t, q⟩) => u.h.out.1.cell 2
        have k3 := fun u : In (Round w (some ⟨b0, o, none⟩) l g ⟨t, q⟩) => u.h.out.1.cell 3
        have k4 := fun u : In (Round w (some ⟨b0, o, none⟩) l g ⟨t, q⟩) => u.h.out.1.cell 4
        have k5 := fun u : In (Round w (some ⟨b0, o, none⟩) l g ⟨t, q⟩) => u.h.out.1.cell 5
        have k6 := fun u : In (Round w (some ⟨b0, o, none⟩) l g ⟨t, q⟩) => u.h.out.1.cell 6
        have k7 := fun u : In (Round w (some ⟨b0, o, none⟩) l g ⟨t, q⟩) => u.h.out.1.cell 7
        have k8 := fun u : In (Round w (some ⟨b0, o, none⟩) l g ⟨t, q⟩) => u.h.out.1.cell 8
        unfold scells at k0 k1 k2 k3 k4 k5 k6 k7 k8
        dsimp only at k0 k1 k2 k3 k4 k5 k6 k7 k8
        simp only [List.getElem?_toArray, List.getElem?_cons_zero, List.getElem?_cons_succ] at k0 k1 k2 k3 k4 k5 k6 k7 k8
        refine region_in (S := Round w (some ⟨b0, o, none⟩) l g ⟨t, q⟩) (by kernel_rfl) (by kernel_rfl) (st0.drewN 1) ?_
        repeat (go_big_quiet_step (first | (go_at_call 12; exact in_call ((HMB.out _).mono fun _ _ h => ⟨h.1, Round.below (In.h _) h.2⟩))))
        refine wpQuiet_nil ?_
        rintro _ ⟨⟨w7, st7⟩, rfl⟩
        have HX7 := Lib.hid st7.out.2.2
        clear this st0 st7 k0 k1 k2 k3 k4 k5 k6 k7 k8 HMB
        go_wp2
        go_roundw
        case rel => exact ⟨k + 1, hlt, by go_num, HX7.out⟩
        case measure => simp [RowKit.intOf]; omega
      · have hr := hrise (k - 1) (by omega)
        have hpc := fun W (h : Round w (some ⟨b0, o, none⟩) l wr.heap.size s W) => (h.out.2.1.some_ (by omega : 0 < l.length))
        clear hrise
        obtain ⟨x, hx⟩ : ∃ x, l[k - 1] = x := ⟨_, rfl⟩
        have hprev : ∀ W, Round w (some ⟨b0, o, none⟩) l wr.heap.size s W → W.cell? ⟨b0, o + (k - 1) * 9, none⟩ = some (.string (str x.t)) := fun W h => by
          obtain ⟨b1, o1, e1, _, h2⟩ := hpc W h
          injection e1 with e1
          injection e1 with e2 e3
          subst e2 e3
          rw [← hx]
          exact (h2 (k - 1) (by omega)).c0
        rw [hx, show l[k - 1 + 1] = l[k]'hlt by congr 1; omega, HSk.out] at hr
        clear hpc hx
        have hless : Go.Op.bytesLess (str x.t).toList (str s.t).toList = true := by rw [str_toList, str_toList]; exact hr
        obtain ⟨j, hj⟩ : ∃ j, k - 1 = j := ⟨_, rfl⟩
        have hkj : k = j + 1 := by omega
        rw [hj] at hprev
        have hp0 : decide (0 < k) = true := decide_eq_true hpos
        have hp1 : decide ((0 : Int) < (k : Int)) = true := by rw [decide_eq_true_eq]; omega
        have hw : IntKind.i64.wrap ((k : Int) - 1) = (j : Int) := by rw [show (k : Int) - 1 = (j : Int) by omega]; exact IntWalk.i64_in _ (by omega)
        have hw2 : (k : Int) - 1 = (j : Int) := by omega
        have hjl : (j : Int) < (l.length : Int) := by omega
        clear hr hj hkj hpos
        obtain ⟨t, q⟩ := s
        unfold scells at hnew
        unfold sagg at HMB
        dsimp only at hnew HMB d0 d1 hless
        go_upto_region 6 with fail
        generalize wr.heap.size = g at hnew hprev ⊢
        generalize wr.alloc _ = wa at hnew ⊢
        clear d0 d1 d2 d3 d4 d5 d6 d7 d8 HC
        have st0 := hnew
        haveI : Nonempty (In (Round w (some ⟨b0, o, none⟩) l g ⟨t, q⟩)) := ⟨⟨_, st0⟩⟩
        have k0 := fun u : In (Round w (some ⟨b0, o, none⟩) l g ⟨t, q⟩) => u.h.out.1.cell 0
        have k1 := fun u : In (Round w (some ⟨b0, o, none⟩) l g ⟨t, q⟩) => u.h.out.1.cell 1
        have k2 := fun u : In (Round w (some ⟨b0, o, none⟩) l g ⟨t, q⟩) => u.h.out.1.cell 2
        have k3 := fun u : In (Round w (some ⟨b0, o, none⟩) l g ⟨t, q⟩) => u.h.out.1.cell 3
        have k4 := fun u : In (Round w (some ⟨b0, o, none⟩) l g ⟨t, q⟩) => u.h.out.1.cell 4
        have k5 := fun u : In (Round w (some ⟨b0, o, none⟩) l g ⟨t, q⟩) => u.h.out.1.cell 5
        have k6 := fun u : In (Round w (some ⟨b0, o, none⟩) l g ⟨t, q⟩) => u.h.out.1.cell 6
        have k7 := fun u : In (Round w (some ⟨b0, o, none⟩) l g ⟨t, q⟩) => u.h.out.1.cell 7
        have k8 := fun u : In (Round w (some ⟨b0, o, none⟩) l g ⟨t, q⟩) => u.h.out.1.cell 8
        have kp := fun u : In (Round w (some ⟨b0, o, none⟩) l g ⟨t, q⟩) => hprev u.w u.h
        unfold scells at k0 k1 k2 k3 k4 k5 k6 k7 k8
        dsimp only at k0 k1 k2 k3 k4 k5 k6 k7 k8 kp
        simp only [List.getElem?_toArray, List.getElem?_cons_zero, List.getElem?_cons_succ] at k0 k1 k2 k3 k4 k5 k6 k7 k8
        clear hprev
        refine region_in (S := Round w (some ⟨b0, o, none⟩) l g ⟨t, q⟩) (by kernel_rfl) (by kernel_rfl) (st0.drewN 1) ?_
        repeat (go_big_quiet_step (first | (go_at_call 12; exact in_call ((HMB.out _).mono fun _ _ h => ⟨h.1, Round.below (In.h _) h.2⟩))))
        refine wpQuiet_nil ?_
        rintro _ ⟨⟨w7, st7⟩, rfl⟩
        have HX7 := Lib.hid st7.out.2.2
        clear this st0 st7 k0 k1 k2 k3 k4 k5 k6 k7 k8 kp HMB
        go_wp2
        go_roundw
        case rel => exact ⟨k + 1, hlt, by go_num, HX7.out⟩
        case measure => simp [RowKit.intOf]; omega
    · go_wp2_with fail
      go_ret
      exact ⟨rfl, HX.out⟩
end Go.Proofs.Ytdogeljlcnlbkaa.Sbs
