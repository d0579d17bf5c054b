/- PropBytes: whatever is asked, package prop and the document's own answer agree on whether properties may be at any place, and on their bytes. -/
import Derived.Test.YthjlbdplhhgcpaaPropHeavy
import Derived.Test.YthjlbdplhhgcpaaPropRBytes
namespace Go.Proofs.Ythjlbdplhhgcpaa
open Go.RowKit Go.Lib Prp

theorem good_fits {place : Int} : ∀ {l a : List P}, goodL place a l = true → ∀ p ∈ l, fitsB p = true
  | [], _, _, p, hp => by cases hp
  | q :: t, a, h, p, hp => by
    unfold goodL at h
    rw [Bool.and_eq_true] at h
    rcases List.mem_cons.1 hp with rfl | hp
    · have := h.1
      unfold goodB at this
      rw [Bool.and_eq_true, Bool.and_eq_true] at this
      exact this.2.1
    · exact good_fits h.2 p hp
theorem props_ok {place : Int} {l : List P} (h : propsB place l = true) : l.length ≤ 8 ∧ ∀ p ∈ l, kindZ p.id ≠ 0 ∧ valB (kindZ p.id) p = true := by
  unfold propsB at h
  rw [Bool.and_eq_true, Bool.and_eq_true] at h
  refine ⟨of_decide_eq_true h.2.1, fun p hp => ?_⟩
  have hf := good_fits h.2.2 p hp
  unfold fitsB at hf
  rw [Bool.and_eq_true, Bool.and_eq_true] at hf
  exact ⟨of_decide_eq_true hf.1, hf.2.2⟩

set_option maxRecDepth 100000 in
set_option maxHeartbeats 16000000 in
theorem PropBytes_any (A : Option Addr) (n c : Nat) (w : World) (h : Asks w A n) :
    Calls Try.prog 4 #[.slice A n c] w fun e w' => e = .returned (.bool true) ∧ Below w.heap.size w w' := by
  have H := Lib.hid h
  clear h
  go_enter Try.func4, Try.ntmps4
  go_wp2_with fail
  go_loopw [3] (fun i wr => ∃ k : Nat, k ≤ n ∧ k ≤ 10 ∧ i = .int .i64 (k : Int) ∧ Below w.heap.size w wr) (fun i _ => 10 - (RowKit.intOf i).toNat)
  case atStart => exact ⟨0, Nat.zero_le _, by omega, rfl, Below.refl _ _⟩
  case round =>
    obtain ⟨k, hkn, hk10, rfl, hnx⟩ := hrel
    obtain ⟨wo, rfl⟩ : ∃ wo : World, wo = wr := ⟨_, rfl⟩
    by_cases hgo : k < n ∧ k < 10
    · obtain ⟨h1, h2⟩ := hgo
      rcases H.out with h0 | ⟨b, off, rfl, hall⟩
      · omega
      · obtain ⟨x, P0, l, cl, s, ha⟩ := hall k h1
        have HA := Lib.hid (ha.below hnx)
        have HX := Lib.hid hnx
        clear hall ha hnx H
        obtain ⟨q0, q1, q2⟩ : _ ∧ _ ∧ _ := ⟨HA.out.c0, HA.out.c1, HA.out.c2⟩
        have hkn' : (k : Int) < (n : Int) := by omega
        have hk10' : (k : Int) < 10 := by omega
        have hcap := HA.out.cap
        have hll := HA.out.hl
        have HFI := Lib.hid HA.out.fit
        have HV := Lib.hid (fun (W : World) (h : PropsAt W W.heap.size P0 l) => heavy_is x l P0 cl s W hll HFI.out h)
        go_wp2_with fail
        have HB0 := Lib.hid ((Below.refl wo.heap.size wo).alloc (Nat.le_refl _) (.cells #[.int .i64 x, .slice P0 l.length cl, .string s] 25))
        have HS0 := Lib.hid (Stand.mk (w := w) (Box.new wo 25 #[.int .i64 x, .slice P0 l.length cl, .string s]) (HA.out.ps.alloc HX.out.size _) (HX.out.trans (HB0.out.mono HX.out.size)))
        obtain ⟨g, hg⟩ : ∃ g, wo.heap.size = g := ⟨_, rfl⟩
        rw [hg] at HS0 ⊢
        clear hg HB0 q0 q1 q2
        generalize wo.alloc (.cells #[.int .i64 x, .slice P0 l.length cl, .string s] 25) = w0 at HS0 ⊢
        refine (HV.out _ HS0.out.props).mono ?_
        rintro e w1 ⟨bh, rfl, hlight, hb1⟩
        have HS1 := Lib.hid (HS0.out.below hb1)
        have HLI := Lib.hid hlight
        clear hb1 hlight HS0 HV HA HX
        cases bh with
        | true =>
          go_wp2_with fail
          go_ret
          exact ⟨rfl, HS1.out.out.2.2⟩
        | false =>
          have hl4 := (HLI.out rfl).1
          go_wp2_with fail
          go_loopw [5] (fun pl wr => ∃ z : Int, -1 ≤ z ∧ z ≤ 17 ∧ pl = .int .i64 z ∧ Stand w g x P0 l cl s wr) (fun pl _ => (17 - RowKit.intOf pl).toNat)
          case atStart => exact ⟨-1, by omega, by omega, rfl, HS1.out⟩
          case round =>
            obtain ⟨z, hz0, hz1, rfl, hst⟩ := hrel
            have HT := Lib.hid hst
            clear hst HS1
            by_cases hzz : z ≤ 16
            · obtain ⟨q0, q1, q2⟩ := HT.out.cells
              obtain ⟨S, hS⟩ : ∃ S, bytesStr z l = S := ⟨_, rfl⟩
              obtain ⟨E, hE⟩ : ∃ E, bytesErr z l = E := ⟨_, rfl⟩
              obtain ⟨bz, hbz⟩ : ∃ bz, propsB z l = bz := ⟨_, rfl⟩
              have HC := Lib.hid (fun (W : World) (h : PropsAt W W.heap.size P0 l) => CopyProps_is l P0 cl W (by omega) h)
              have HBy := Lib.hid (fun (A2 : Option Addr) (c2 : Nat) (hc2 : l.length ≤ c2) (W : World) (h : PropsAt W W.heap.size A2 l) => Bytes_is z l A2 c2 S E W hll hc2 HFI.out h hS hE)
              have HCh := Lib.hid (fun (A2 : Option Addr) (c2 : Nat) (hc2 : l.length ≤ c2) (W : World) (h : PropsAt W W.heap.size A2 l) => Check_is z l A2 c2 E W hll hc2 HFI.out h hE)
              have HPr := Lib.hid (fun (W : World) (h : PropsAt W W.heap.size P0 l) => RProps_is z l P0 cl bz W hll hcap HFI.out h hbz)
              have HE := Lib.hid hE
              have HSS := Lib.hid hS
              have HBZ := Lib.hid hbz
              clear hS hE hbz
              go_wp2_with fail
              refine (HC.out _ HT.out.props).mono ?_
              rintro e w2 ⟨A2, c2, rfl, hown, hb2, hcap2⟩
              have HL2 := Lib.hid (Lies.mk (PropsAt.of_own hown))
              have HT2 := Lib.hid (HT.out.below hb2)
              clear hown hb2 HT HC q0 q1 q2
              go_wp2_with fail
              refine (HBy.out A2 c2 hcap2 _ HL2.out.out).mono ?_
              rintro e w3 ⟨rfl, hb3⟩
              have HL3 := Lib.hid (HL2.out.below hb3)
              have HT3 := Lib.hid (HT2.out.below hb3)
              clear hb3 HT2 HL2 HBy
              obtain ⟨q0, q1, q2⟩ := HT3.out.cells
              go_wp2_with fail
              refine (HPr.out _ HT3.out.props).mono ?_
              rintro e w4 ⟨rfl, hb4⟩
              have HL4 := Lib.hid (HL3.out.below hb4)
              have HT4 := Lib.hid (HT3.out.below hb4)
              clear hb4 HT3 HL3 HPr q0 q1 q2
              have HEq := Lib.hid (fun (W : World) (h : Lies A2 l W) (h' : PropsAt W W.heap.size P0 l) => EqProps_lies l A2 P0 c2 cl W hll h (Lies.mk h'))
              cases bz with
              | false =>
                obtain rfl : 1 = E := (bytes_no HBZ.out).2.symm.trans HE.out
                obtain rfl : ⟨#[]⟩ = S := (bytes_no HBZ.out).1.symm.trans HSS.out
                go_wp2_with fail
                refine (HCh.out A2 c2 hcap2 _ HL4.out.out).mono ?_
                rintro e w5 ⟨rfl, hb5⟩
                have HL5 := Lib.hid (HL4.out.below hb5)
                have HT5 := Lib.hid (HT4.out.below hb5)
                clear hb5 HT4 HL4 HCh
                obtain ⟨q0, q1, q2⟩ := HT5.out.cells
                go_wp2_with (go_at_call 13; refine (num_same _ _).mono ?_; rintro e w' ⟨rfl, rfl⟩)
                refine (HEq.out _ HL5.out HT5.out.props).mono ?_
                rintro e w6 ⟨rfl, hb6⟩
                have HT6 := Lib.hid (HT5.out.below hb6)
                clear hb6 HT5 HL5 HEq q0 q1 q2
                go_wp2_with fail
                go_roundw
                case rel => exact ⟨z + 1, by omega, by omega, rfl, HT6.out⟩
                case measure => simp [RowKit.intOf]; omega
              | true =>
                obtain rfl : 0 = E := (bytes_yes HBZ.out).2.symm.trans HE.out
                have hpS : propStr l = S := (bytes_yes HBZ.out).1.symm.trans HSS.out
                have HRB := Lib.hid (fun (W : World) (h : PropsAt W W.heap.size P0 l) => RPropBytes_is l P0 cl S W (props_ok HBZ.out).1 (props_ok HBZ.out).2 h hpS)
                clear hpS
                obtain ⟨q0, q1, q2⟩ := HT4.out.cells
                go_wp2_with fail
                refine (HRB.out _ HT4.out.props).mono ?_
                rintro e w4' ⟨rfl, hb4⟩
                have HL4' := Lib.hid (HL4.out.below hb4)
                have HT4' := Lib.hid (HT4.out.below hb4)
                clear hb4 HT4 HL4 HRB q0 q1 q2
                go_wp2_with fail
                refine (HCh.out A2 c2 hcap2 _ HL4'.out.out).mono ?_
                rintro e w5 ⟨rfl, hb5⟩
                have HL5 := Lib.hid (HL4'.out.below hb5)
                have HT5 := Lib.hid (HT4'.out.below hb5)
                clear hb5 HT4' HL4' HCh
                obtain ⟨q0, q1, q2⟩ := HT5.out.cells
                go_wp2_with (go_at_call 13; refine (num_same _ _).mono ?_; rintro e w' ⟨rfl, rfl⟩)
                refine (HEq.out _ HL5.out HT5.out.props).mono ?_
                rintro e w6 ⟨rfl, hb6⟩
                have HT6 := Lib.hid (HT5.out.below hb6)
                clear hb6 HT5 HL5 HEq q0 q1 q2
                go_wp2_with fail
                go_roundw
                case rel => exact ⟨z + 1, by omega, by omega, rfl, HT6.out⟩
                case measure => simp [RowKit.intOf]; omega
            · have hd : decide (z ≤ 16) = false := by simp; omega
              go_wp2_with fail
              go_roundw
              case rel => exact ⟨k + 1, h1, h2, by go_num, HT.out.out.2.2⟩
              case measure => simp [RowKit.intOf]; omega
    · go_wp2_with (go_at_call 14; refine (wakes_any _).mono ?_; rintro e w1 ⟨rfl, hb1⟩)
      all_goals (go_ret; exact ⟨rfl, hnx.trans (hb1.mono hnx.size)⟩)
end Go.Proofs.Ythjlbdplhhgcpaa
