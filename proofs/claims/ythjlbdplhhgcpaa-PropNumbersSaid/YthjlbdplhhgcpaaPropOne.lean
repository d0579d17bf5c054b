/- One property of every kind within bounds: its bytes are the document's; and what is taken of bytes near them is the document's too. -/
import Derived.Test.YthjlbdplhhgcpaaPropByteRow
namespace Go.Proofs.Ythjlbdplhhgcpaa
open Go.RowKit Go.Lib Prp Vbi

theorem place_at {z : Int} (h0 : 0 ≤ z) (h1 : z ≤ 15) : placeB z = true := by unfold placeB; exact decide_eq_true ⟨h0, h1⟩

set_option maxRecDepth 100000 in
set_option maxHeartbeats 32000000 in
theorem one_any (A : Option Addr) (n c : Nat) (lo hi : Int) (w : World) (h : Asks w A n) :
    Calls Try.prog 26 #[.slice A n c, .int .i64 lo, .int .i64 hi] w fun e w' => e = .returned (.bool true) ∧ Below w.heap.size w w' := by
  have H := Lib.hid h
  clear h
  go_enter Try.func26, Try.ntmps26
  go_wp2_with fail
  go_loopw [7] (fun i wr => ∃ k : Nat, k ≤ n ∧ k ≤ 10 ∧ i = .int .i64 (k : Int) ∧ Below w.heap.size w wr) (fun i _ => 10 - (RowKit.intOf i).toNat)
  case atStart => exact ⟨0, Nat.zero_le _, by omega, rfl, Below.refl _ _⟩
  case round =>
    obtain ⟨k, hkn, hk10, rfl, hnx⟩ := hrel
    by_cases hgo : k < n ∧ k < 10
    · obtain ⟨h1, h2⟩ := hgo
      rcases H.out with h0 | ⟨b, off, rfl, hall⟩
      · omega
      · obtain ⟨x, P0, l, cl, s, ha⟩ := hall k h1
        have HA := Lib.hid ha
        have HX := Lib.hid hnx
        have HA1 := Lib.hid (ha.below hnx)
        clear hall ha hnx H
        obtain ⟨q0, q1, q2⟩ : _ ∧ _ ∧ _ := ⟨HA1.out.c0, HA1.out.c1, HA1.out.c2⟩
        have hkn' : (k : Int) < (n : Int) := by omega
        have hk10' : (k : Int) < 10 := by omega
        have hll := HA.out.hl
        have HFI := Lib.hid HA.out.fit
        have HV := Lib.hid (fun (W : World) (h : PropsAt W W.heap.size P0 l) => heavy_is x l P0 cl s W hll HFI.out h)
        go_wp2_with fail
        refine (HV.out _ (HA1.out.ps.mono HX.out.size)).mono ?_
        rintro e w1 ⟨bh, rfl, hlight, hb1⟩
        have HX1 := Lib.hid (HX.out.trans (hb1.mono HX.out.size))
        have HLI := Lib.hid hlight
        clear hb1 hlight HV HX HA1 q0 q1 q2
        cases bh with
        | true =>
          go_wp2_with fail
          go_ret
          exact ⟨rfl, HX1.out⟩
        | false =>
          go_wp2_with fail
          go_loopw [8] (fun i wr => ∃ j : Nat, j ≤ l.length ∧ j ≤ 6 ∧ i = .int .i64 (j : Int) ∧ Below w.heap.size w wr) (fun i _ => 6 - (RowKit.intOf i).toNat)
          case atStart => exact ⟨0, Nat.zero_le _, by omega, rfl, HX1.out⟩
          case round =>
            obtain ⟨j, hjn, hj6, rfl, hnx⟩ := hrel
            have HX := Lib.hid hnx
            have HA2 := Lib.hid (HA.out.below hnx)
            clear hnx HX1
            obtain ⟨q0, q1, q2⟩ : _ ∧ _ ∧ _ := ⟨HA2.out.c0, HA2.out.c1, HA2.out.c2⟩
            by_cases hjg : j < l.length ∧ j < 6
            · obtain ⟨hj1, hj2⟩ := hjg
              obtain ⟨b0, o, rfl, hb0, hc⟩ := HA2.out.ps.some_ (by omega)
              obtain ⟨d0, d1, d2, d3⟩ := hc j hj1
              have hfp : Fit l[j] := HFI.out _ (List.getElem_mem hj1)
              obtain ⟨q, hq⟩ : ∃ q, l[j] = q := ⟨_, rfl⟩
              rw [hq] at d0 d1 d2 d3 hfp
              clear hc hq
              obtain ⟨id, m, ps, pv⟩ := q
              have hjI : (j : Int) < (l.length : Int) := by omega
              have hj6' : (j : Int) < 6 := by omega
              obtain ⟨K, hK⟩ : ∃ K, kindZ id = K := ⟨_, rfl⟩
              have HK := Lib.hid (fun W => RKind_is id K W hK)
              have HF := Lib.hid hfp
              clear hK hfp
              go_wp2_with fail
              have HP := Lib.hid (Keep.mk (Box.new wr 48 #[.int .i64 id, .int .i64 m, .string ps, .string pv]) (HX.out.alloc HX.out.size (.cells #[.int .i64 id, .int .i64 m, .string ps, .string pv] 48)))
              obtain ⟨g, hg⟩ : ∃ g, wr.heap.size = g := ⟨_, rfl⟩
              rw [hg] at HP ⊢
              clear hg d0 d1 d2 d3 q0 q1 q2 HX HA2
              generalize wr.alloc (.cells #[.int .i64 id, .int .i64 m, .string ps, .string pv] 48) = wb at HP ⊢
              by_cases hlo : K < lo
              · have hd : decide (K < lo) = true := decide_eq_true hlo
                go_wp2_with (go_at_call 12; refine (HK.out _).mono ?_; rintro e w' ⟨rfl, rfl⟩)
                go_roundw
                case rel => exact ⟨j + 1, hj1, hj2, by go_num, HP.out.out.2⟩
                case measure => simp [RowKit.intOf]; omega
              have hd : decide (K < lo) = false := decide_eq_false hlo
              by_cases hhi : hi < K
              · have hd2 : decide (hi < K) = true := decide_eq_true hhi
                go_wp2_with (go_at_call 12; refine (HK.out _).mono ?_; rintro e w' ⟨rfl, rfl⟩)
                go_roundw
                case rel => exact ⟨j + 1, hj1, hj2, by go_num, HP.out.out.2⟩
                case measure => simp [RowKit.intOf]; omega
              have hd2 : decide (hi < K) = false := decide_eq_false hhi
              go_wp2_with (go_at_call 12; refine (HK.out _).mono ?_; rintro e w' ⟨rfl, rfl⟩)
              clear HK
              go_loopw [11] (fun i wr => ∃ z : Int, 0 ≤ z ∧ z ≤ 16 ∧ i = .int .i64 z ∧ Keep w g #[.int .i64 id, .int .i64 m, .string ps, .string pv] wr) (fun i _ => (16 - RowKit.intOf i).toNat)
              case atStart => exact ⟨0, by omega, by omega, rfl, HP.out⟩
              case round =>
                obtain ⟨z, hz0, hz1, rfl, hst⟩ := hrel
                have HT := Lib.hid hst
                clear hst HP
                by_cases hzz : z ≤ 15
                · obtain ⟨T, hT⟩ : ∃ T, bytesStr z [⟨id, m, ps, pv⟩] = T := ⟨_, rfl⟩
                  obtain ⟨E, hE⟩ : ∃ E, bytesErr z [⟨id, m, ps, pv⟩] = E := ⟨_, rfl⟩
                  obtain ⟨bz, hbz⟩ : ∃ bz, propsB z [⟨id, m, ps, pv⟩] = bz := ⟨_, rfl⟩
                  have hTz := one_str_size z id m ps pv T hT
                  have HBy := Lib.hid (fun W => Bytes_one z id m ps pv T E W HF.out hT hE)
                  have HPr := Lib.hid (fun W => RProps_one z id m ps pv bz W HF.out hbz)
                  have HTT := Lib.hid hT
                  have HE := Lib.hid hE
                  have HBZ := Lib.hid hbz
                  clear hT hE hbz
                  obtain ⟨c0, c1, c2, c3⟩ := HT.out.four
                  go_wp2_with fail
                  refine (HBy.out _).mono ?_
                  rintro e w2 ⟨rfl, hb2⟩
                  have HT2 := Lib.hid (HT.out.below hb2)
                  clear hb2 c0 c1 c2 c3 HT HBy
                  obtain ⟨c0, c1, c2, c3⟩ := HT2.out.four
                  go_wp2_with fail
                  refine (HPr.out _).mono ?_
                  rintro e w3 ⟨rfl, hb3⟩
                  have HT3 := Lib.hid (HT2.out.below hb3)
                  clear hb3 c0 c1 c2 c3 HT2 HPr
                  cases bz with
                  | false =>
                    obtain rfl : 1 = E := (bytes_no HBZ.out).2.symm.trans HE.out
                    clear HE HBZ HTT
                    go_wp2_with (go_at_call 13; refine (num_same _ _).mono ?_; rintro e w' ⟨rfl, rfl⟩)
                    go_roundw
                    case rel => exact ⟨z + 1, by omega, by omega, rfl, HT3.out⟩
                    case measure => simp [RowKit.intOf]; omega
                  | true =>
                    obtain rfl : 0 = E := (bytes_yes HBZ.out).2.symm.trans HE.out
                    have HRB := Lib.hid (fun W => RBytes_one z id m ps pv T W HBZ.out HTT.out)
                    clear HE HBZ HTT
                    obtain ⟨c0, c1, c2, c3⟩ := HT3.out.four
                    go_wp2_with (go_at_call 13; refine (num_same _ _).mono ?_; rintro e w' ⟨rfl, rfl⟩)
                    refine (HRB.out _).mono ?_
                    rintro e w4 ⟨rfl, hb4⟩
                    have HT4 := Lib.hid (HT3.out.below hb4)
                    clear hb4 c0 c1 c2 c3 HT3 HRB
                    go_wp2_with fail
                    go_loopw [15] (fun i wr => ∃ a : Nat, a ≤ T.size ∧ a ≤ 12 ∧ i = .int .i64 (a : Int) ∧ Keep w g #[.int .i64 id, .int .i64 m, .string ps, .string pv] wr) (fun i _ => 12 - (RowKit.intOf i).toNat)
                    case atStart => exact ⟨0, Nat.zero_le _, by omega, rfl, HT4.out⟩
                    case round =>
                      obtain ⟨a, haT, ha12, rfl, hst⟩ := hrel
                      have HT := Lib.hid hst
                      clear hst HT4
                      by_cases hag : a < T.size ∧ a < 12
                      · obtain ⟨ha1, ha2⟩ := hag
                        have haI : (a : Int) < (T.size : Int) := by omega
                        have ha12' : (a : Int) < 12 := by omega
                        obtain ⟨cx, w5, hcv, hrow, hbel⟩ := row_conv T wr
                        have HT5 := Lib.hid (HT.out.below hbel)
                        have HR5 := Lib.hid hrow
                        have hal : a < T.data.toList.length := by rw [Array.length_toList]; exact ha1
                        obtain ⟨f0, f1⟩ := hrow.2 a hal
                        obtain ⟨v, hv⟩ : ∃ v, T.data.toList.getD a 0 = v := ⟨_, rfl⟩
                        rw [hv] at f0
                        have HG := Lib.hid HT.out.out.2.size
                        obtain ⟨v', hv'⟩ : ∃ v' : UInt8, bits .xor .u8 ((v.toNat : Nat) : Int) (1 + ((k : Int) * 41 + (a : Int) * 13) % 255) = ((v'.toNat : Nat) : Int) := by
                          obtain ⟨v', e⟩ := xor_any v (1 + ((k : Int) * 41 + (a : Int) * 13) % 255)
                          rw [Int.emod_eq_of_lt (a := 1 + ((k : Int) * 41 + (a : Int) * 13) % 255) (b := 256) (by omega) (by omega)] at e
                          exact ⟨v', e⟩
                        have HR6 := Lib.hid (hrow.put a v')
                        have HB6 := Lib.hid (hbel.setCell (p := ⟨wr.heap.size, a, none⟩) (Nat.le_refl _) (.int .u8 ((v'.toNat : Nat) : Int)))
                        have hlen : (T.data.toList.set a v').length = T.size := by rw [List.length_set, Array.length_toList]; rfl
                        have HCV := Lib.hid (fun (W : World) (h : RowOf W wr.heap.size (T.data.toList.set a v')) => h.conv (c := cx) hlen)
                        have hUz : (ByteArray.mk (T.data.toList.set a v').toArray).size ≤ 281474976710656 := by rw [row_size, hlen]; omega
                        obtain ⟨U, hU⟩ : ∃ U, ByteArray.mk (T.data.toList.set a v').toArray = U := ⟨_, rfl⟩
                        rw [hU] at HCV hUz
                        obtain ⟨L, KK, E, hE⟩ : ∃ L K E, takeP z U = (L, K, E) := ⟨_, _, _, rfl⟩
                        have hL8 := takeP_len hE
                        have HTk := Lib.hid (fun W => Take_is z U L KK E W hUz hE)
                        have HRT := Lib.hid (fun W => RTakeProps_is z U L KK E W hUz (place_at hz0 hzz) hE)
                        have hcv2 := HCV.out _ HR6.out
                        clear hrow hbel hv hal hU hlen hE HR5 HT5
                        go_wp2_with fail
                        refine (HTk.out _).mono ?_
                        rintro e w6 ⟨A2, c2, rfl, hta⟩
                        have HA6 := Lib.hid hta
                        have HR7 := Lib.hid (HR6.out.below hta.out.2)
                        have HB7 := Lib.hid (HB6.out.trans (hta.out.2.mono HB6.out.size))
                        clear hta hcv2 hcv f0 f1 hv' HTk HR6 HB6
                        have hcv3 := HCV.out _ HR7.out
                        go_wp2_with fail
                        refine (HRT.out _).mono ?_
                        rintro e w7 ⟨A3, c3, rfl, hta3⟩
                        have HA7 := Lib.hid (HA6.out.below hta3.out.2)
                        have HB8 := Lib.hid (HB7.out.trans (hta3.out.2.mono HB7.out.size))
                        have HA8 := Lib.hid hta3
                        clear hta3 HA6 HB7 HR7 hcv3 HRT HCV
                        go_wp2_with (go_at_call 13; refine (num_same _ _).mono ?_; rintro e w' ⟨rfl, rfl⟩)
                        refine (EqProps_lies L A2 A3 c2 c3 _ (by omega) HA7.out.lies HA8.out.lies).mono ?_
                        rintro e w8 ⟨rfl, hb8⟩
                        have HT8 := Lib.hid (HT.out.below (HB8.out.trans (hb8.mono HB8.out.size)))
                        clear hb8 HA7 HA8 HB8 HT HG
                        go_wp2_with fail
                        go_roundw
                        case rel => exact ⟨a + 1, ha1, ha2, by go_num, HT8.out⟩
                        case measure => simp [RowKit.intOf]; omega
                      · by_cases hx : a < T.size
                        · have haI : (a : Int) < (T.size : Int) := by omega
                          have hd12 : decide ((a : Int) < 12) = false := by simp; omega
                          go_wp2_with fail
                          go_roundw
                          case rel => exact ⟨z + 1, by omega, by omega, rfl, HT.out⟩
                          case measure => simp [RowKit.intOf]; omega
                        · have hdT : decide ((a : Int) < (T.size : Int)) = false := by simp; omega
                          go_wp2_with fail
                          go_roundw
                          case rel => exact ⟨z + 1, by omega, by omega, rfl, HT.out⟩
                          case measure => simp [RowKit.intOf]; omega
                · have hdz : decide (z ≤ 15) = false := by simp; omega
                  go_wp2_with fail
                  go_roundw
                  case rel => exact ⟨j + 1, hj1, hj2, by go_num, HT.out.out.2⟩
                  case measure => simp [RowKit.intOf]; omega
            · by_cases hx : j < l.length
              · have hjI : (j : Int) < (l.length : Int) := by omega
                have hd6 : decide ((j : Int) < 6) = false := by simp; omega
                go_wp2_with fail
                go_roundw
                case rel => exact ⟨k + 1, h1, h2, by go_num, HX.out⟩
                case measure => simp [RowKit.intOf]; omega
              · have hdl : decide ((j : Int) < (l.length : Int)) = false := by simp; omega
                go_wp2_with fail
                go_roundw
                case rel => exact ⟨k + 1, h1, h2, by go_num, HX.out⟩
                case measure => simp [RowKit.intOf]; omega
    · go_wp2_with (go_at_call 14; refine (wakes_any _).mono ?_; rintro e w1 ⟨rfl, hb1⟩)
      all_goals (go_ret; exact ⟨rfl, hnx.trans (hb1.mono hnx.size)⟩)
end Go.Proofs.Ythjlbdplhhgcpaa
