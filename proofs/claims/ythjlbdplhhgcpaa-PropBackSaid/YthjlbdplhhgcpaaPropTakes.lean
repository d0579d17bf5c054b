/- PropTakes: whatever is asked, package prop and the document's own answer take the same properties, at any place. -/
import Derived.Test.YthjlbdplhhgcpaaPropHeavy
import Derived.Test.YthjlbdplhhgcpaaPropRTake
import Derived.Test.YthjlbdplhhgcpaaPropSpoil
namespace Go.Proofs.Ythjlbdplhhgcpaa
open Go.RowKit Go.Lib Prp

theorem ta_len (place : Int) (f : Nat) (l : List P) (s : ByteArray) (h : l.length ≤ 8) : (ta place f l s).1.length ≤ 8 := by
  induction f generalizing l s with
  | zero => exact h
  | succ f ih =>
    by_cases h0 : s.size = 0
    · rw [ta_end h0]; exact h
    by_cases he : (tone s).2.2 = 0
    · cases hm : mayB place l (tone s).1 with
      | false => rw [ta_no h0 he hm]; exact Nat.zero_le _
      | true =>
        by_cases h8 : l.length = 8
        · rw [ta_full h0 he hm h8]; exact Nat.zero_le _
        · rw [ta_step h0 he hm h8]
          exact ih _ _ (by rw [List.length_append]; show _ + 1 ≤ 8; omega)
    · rw [ta_bad h0 he]; exact Nat.zero_le _
theorem takeP_len {place : Int} {s : ByteArray} {L : List P} {K E : Int} (h : takeP place s = (L, K, E)) : L.length ≤ 8 := by
  obtain rfl : (takeP place s).1 = L := by rw [h]
  cases hp : placeB place with
  | false => rw [takeP_place s hp]; exact Nat.zero_le _
  | true =>
    rcases takeP_cases s hp with ⟨_, _, _, e⟩ | ⟨_, _, _, _, _, _, e⟩ | ⟨_, _, _, _, _, _, _, _, _, e⟩ | ⟨m, q, L', _, _, _, _, hta, e⟩
    · rw [e]; exact Nat.zero_le _
    · rw [e]; exact Nat.zero_le _
    · rw [e]; exact Nat.zero_le _
    · rw [e]
      have := ta_len place (s.size + 1) [] (s.extract q (q + m)) (Nat.zero_le _)
      rw [hta] at this
      exact this
theorem TA.lies {w W : World} {A : Option Addr} {c : Nat} {l : List P} (h : TA w A c l W) : Lies A l W := .mk h.at
theorem Spoil_ta {wr W : World} {A : Option Addr} {c m : Nat} {L : List P} (h : TA wr A c L W) (hm : m = L.length) (h8 : L.length ≤ 8) :
    Calls Try.prog 25 #[.slice A m c] W fun e w' => (∃ v, e = .returned v) ∧ Below wr.heap.size wr w' := by
  subst hm
  exact (Spoil_is wr.heap.size L.length c A _ W h.out.2.size h8 h.out.1).mono fun _ _ ⟨a, b⟩ => ⟨a, h.out.2.trans b⟩
theorem nil_lies (W : World) : Lies none [] W := .mk .none_

set_option maxRecDepth 100000 in
set_option maxHeartbeats 16000000 in
theorem PropTakes_any (A : Option Addr) (n c : Nat) (w : World) (h : Asks w A n) :
    Calls Try.prog 5 #[.slice A n c] w fun e w' => e = .returned (.bool true) ∧ Below w.heap.size w w' := by
  have H := Lib.hid h
  clear h
  go_enter Try.func5, Try.ntmps5
  go_wp2_with fail
  go_loopw [3] (fun i wr => ∃ k : Nat, k ≤ n ∧ k ≤ 10 ∧ i = .int .i64 (k : Int) ∧ Below w.heap.size w wr) (fun i _ => 10 - (RowKit.intOf i).toNat)
  case atStart => exact ⟨0, Nat.zero_le _, by omega, rfl, Below.refl _ _⟩
  case round =>
    obtain ⟨k, hkn, hk10, rfl, hnx⟩ := hrel
    obtain ⟨wo, rfl⟩ : ∃ wo : World, wo = wr := ⟨_, rfl⟩
    by_cases hgo : k < n ∧ k < 10
    · obtain ⟨h1, h2⟩ := hgo
      rcases H.out with h0 | ⟨b, off, rfl, hall⟩
      · omega
      · obtain ⟨x, P0, l, cl, s, ha⟩ := hall k h1
        have HA := Lib.hid (ha.below hnx)
        have HX := Lib.hid hnx
        clear hall ha hnx H
        obtain ⟨q0, q1, q2⟩ : _ ∧ _ ∧ _ := ⟨HA.out.c0, HA.out.c1, HA.out.c2⟩
        have hkn' : (k : Int) < (n : Int) := by omega
        have hk10' : (k : Int) < 10 := by omega
        have hll := HA.out.hl
        have HFI := Lib.hid HA.out.fit
        have HV := Lib.hid (fun (W : World) (h : PropsAt W W.heap.size P0 l) => heavy_is x l P0 cl s W hll HFI.out h)
        go_wp2_with fail
        have HB0 := Lib.hid ((Below.refl wo.heap.size wo).alloc (Nat.le_refl _) (.cells #[.int .i64 x, .slice P0 l.length cl, .string s] 25))
        have HS0 := Lib.hid (Stand.mk (w := w) (Box.new wo 25 #[.int .i64 x, .slice P0 l.length cl, .string s]) (HA.out.ps.alloc HX.out.size _) (HX.out.trans (HB0.out.mono HX.out.size)))
        obtain ⟨g, hg⟩ : ∃ g, wo.heap.size = g := ⟨_, rfl⟩
        rw [hg] at HS0 ⊢
        clear hg HB0 q0 q1 q2
        generalize wo.alloc (.cells #[.int .i64 x, .slice P0 l.length cl, .string s] 25) = w0 at HS0 ⊢
        refine (HV.out _ HS0.out.props).mono ?_
        rintro e w1 ⟨bh, rfl, hlight, hb1⟩
        have HS1 := Lib.hid (HS0.out.below hb1)
        have HLI := Lib.hid hlight
        clear hb1 hlight HS0 HV HA HX
        cases bh with
        | true =>
          go_wp2_with fail
          go_ret
          exact ⟨rfl, HS1.out.out.2.2⟩
        | false =>
          have hsz : s.size ≤ 281474976710656 := by have := (HLI.out rfl).2.2; omega
          go_wp2_with fail
          go_loopw [5] (fun pl wr => ∃ z : Int, -1 ≤ z ∧ z ≤ 17 ∧ pl = .int .i64 z ∧ Stand w g x P0 l cl s wr) (fun pl _ => (17 - RowKit.intOf pl).toNat)
          case atStart => exact ⟨-1, by omega, by omega, rfl, HS1.out⟩
          case round =>
            obtain ⟨z, hz0, hz1, rfl, hst⟩ := hrel
            have HT := Lib.hid hst
            clear hst HS1
            by_cases hzz : z ≤ 16
            · obtain ⟨q0, q1, q2⟩ := HT.out.cells
              obtain ⟨L, K, E, hE⟩ : ∃ L K E, takeP z s = (L, K, E) := ⟨_, _, _, rfl⟩
              have hL8 := takeP_len hE
              obtain ⟨bz, hbz⟩ : ∃ bz, placeB z = bz := ⟨_, rfl⟩
              have HTk := Lib.hid (fun W => Take_is z s L K E W hsz hE)
              have HPl := Lib.hid (fun W => Place_is z bz W hbz)
              have HBZ := Lib.hid hbz
              have HE := Lib.hid hE
              clear hbz hE
              go_wp2_with fail
              refine (HTk.out _).mono ?_
              rintro e w2 ⟨A2, c2, rfl, hta⟩
              have HA2 := Lib.hid hta
              have HT2 := Lib.hid (HT.out.below hta.out.2)
              clear hta q0 q1 q2 HTk
              obtain ⟨q0, q1, q2⟩ := HT2.out.cells
              cases bz with
              | false =>
                obtain ⟨rfl, rfl, rfl⟩ : [] = L ∧ 0 = K ∧ 1 = E := by
                  have := (takeP_place s HBZ.out).symm.trans HE.out
                  injection this with h1 h2
                  injection h2 with h2 h3
                  exact ⟨h1, h2, h3⟩
                clear HBZ HE
                go_wp2_with (first | (go_at_call 23; refine (HPl.out _).mono ?_; rintro e w' ⟨rfl, rfl⟩) | (go_at_call 13; refine (num_same _ _).mono ?_; rintro e w' ⟨rfl, rfl⟩))
                refine (EqProps_lies [] A2 none c2 0 _ (by simp) HA2.out.lies (nil_lies _)).mono ?_
                rintro e w5 ⟨rfl, hb5⟩
                have HA5 := Lib.hid (HA2.out.below hb5)
                clear hb5 HA2 HT2 q0 q1 q2
                go_wp2_with fail
                refine (Spoil_ta HA5.out rfl (by simp)).mono ?_
                rintro e w6 ⟨⟨v6, rfl⟩, hb6⟩
                have HT6 := Lib.hid (HT.out.below hb6)
                clear hb6 HA5 HT
                go_wp2_with fail
                go_roundw
                case rel => exact ⟨z + 1, by omega, by omega, rfl, HT6.out⟩
                case measure => simp [RowKit.intOf]; omega
              | true =>
                have HR := Lib.hid (fun W => RTakeProps_is z s L K E W hsz HBZ.out HE.out)
                clear HBZ HE
                go_wp2_with (go_at_call 23; refine (HPl.out _).mono ?_; rintro e w' ⟨rfl, rfl⟩)
                refine (HR.out _).mono ?_
                rintro e w3 ⟨A3, c3, rfl, hta3⟩
                have HA3 := Lib.hid (HA2.out.below hta3.out.2)
                have HB3 := Lib.hid hta3
                clear hta3 HA2 HT2 HR q0 q1 q2 HPl
                go_wp2_with (go_at_call 13; refine (num_same _ _).mono ?_; rintro e w' ⟨rfl, rfl⟩)
                refine (EqProps_lies L A2 A3 c2 c3 _ (by omega) HA3.out.lies HB3.out.lies).mono ?_
                rintro e w5 ⟨rfl, hb5⟩
                have HA5 := Lib.hid (HA3.out.below hb5)
                clear hb5 HA3 HB3
                go_wp2_with fail
                refine (Spoil_ta HA5.out rfl hL8).mono ?_
                rintro e w6 ⟨⟨v6, rfl⟩, hb6⟩
                have HT6 := Lib.hid (HT.out.below hb6)
                clear hb6 HA5 HT
                go_wp2_with fail
                go_roundw
                case rel => exact ⟨z + 1, by omega, by omega, rfl, HT6.out⟩
                case measure => simp [RowKit.intOf]; omega
            · have hd : decide (z ≤ 16) = false := by simp; omega
              go_wp2_with fail
              go_roundw
              case rel => exact ⟨k + 1, h1, h2, by go_num, HT.out.out.2.2⟩
              case measure => simp [RowKit.intOf]; omega
    · go_wp2_with (go_at_call 14; refine (wakes_any _).mono ?_; rintro e w1 ⟨rfl, hb1⟩)
      all_goals (go_ret; exact ⟨rfl, hnx.trans (hb1.mono hnx.size)⟩)
end Go.Proofs.Ythjlbdplhhgcpaa
