/- The document's own answer: whether a filter matches a topic's name. -/
import Derived.Test.YtpmcfnancbbgoaaNameRTop
import Derived.Test.YtpmcfnancbbgoaaNameMatch
import Derived.Test.YtpmcfnancbbgoaaNameWord
namespace Go.Proofs.Ytpmcfnancbbgoaa
open Go.RowKit Go.Lib Txt Nam

theorem own_byte {t : ByteArray} (h : 0 < t.size) : ((t[0].toNat : Int) == 36) = own t.data.toList := by
  rw [show ((36 : Int)) = (((36 : UInt8).toNat : Nat) : Int) from rfl, byte_eq]
  have := drop_byte h
  rw [List.drop_zero] at this
  rw [this]
  unfold own hasPrefix
  generalize t[0] = c
  rw [Bool.eq_iff_iff]
  simp [List.isPrefixOf]
  exact ⟨fun e => e.symm, fun e => e.symm⟩

set_option maxRecDepth 100000 in
set_option maxHeartbeats 8000000 in
/-- fairwayref7.Match. -/
theorem RMatch_is (f t : ByteArray) (b : Bool) (w : World) (hs : f.size ≤ 1000000) (hs' : t.size ≤ 1000000) (hb : matchB f.data.toList t.data.toList = b) :
    Calls Try.prog 21 #[.string f, .string t] w fun e w' => e = .returned (.bool b) ∧ Below w.heap.size w w' := by
  obtain ⟨E, hE⟩ : ∃ E, filterErr f.data.toList = E := ⟨_, rfl⟩
  obtain ⟨T, hT⟩ : ∃ T, topicErr t.data.toList = T := ⟨_, rfl⟩
  have HF := Lib.hid (fun W => RFilter_is f E W hs hE)
  have HT := Lib.hid (fun W => RTopic_is t T W hs' hT)
  by_cases hE0 : E = 0
  · subst hE0
    by_cases hT0 : T = 0
    · subst hT0
      have hbb := (matchB_ok hE hT).symm.trans hb
      have hl1 := (checkErr_len (filterErr_zero.1 hE).1).2.2
      have hl2 := (checkErr_len (topicErr_zero.1 hT).1).2.2
      have htne := (checkErr_len (topicErr_zero.1 hT).1).2.1
      have ht0 : 0 < t.size := by rw [Lib.size_eq]; exact List.length_pos_iff.2 htne
      have ht0I : (0 : Int) < (t.size : Int) := by omega
      have hpos : 0 < (split f.data.toList).length := List.length_pos_iff.2 (split_ne _)
      have HL := Lib.hid (fun W => RLevels_is f W hs)
      have HL' := Lib.hid (fun W => RLevels_is t W hs')
      have hob := own_byte ht0
      have h256 : t[0].toNat < 256 := UInt8.toNat_lt _
      obtain ⟨o, ho⟩ : ∃ o, own t.data.toList = o := ⟨_, rfl⟩
      rw [ho] at hbb hob
      clear hb hE hT ho htne
      generalize split f.data.toList = fs at HL hbb hl1 hpos
      generalize split t.data.toList = ts at HL' hbb hl2
      obtain ⟨m, hm⟩ : ∃ m, meets fs ts = m := ⟨_, rfl⟩
      rw [hm] at hbb
      obtain ⟨x0, hx0⟩ : ∃ x, fs.getD 0 [] = x := ⟨_, rfl⟩
      rw [hx0] at hbb
      obtain ⟨v, hv⟩ : ∃ v, (x0 == [43] || x0 == [35]) = v := ⟨_, rfl⟩
      have hvw : wild x0 = v := hv
      rw [hvw] at hbb
      have HBB := Lib.hid hbb
      have HMM := Lib.hid hm
      have hq1 : ((str x0).toList == [43]) = (x0 == [43]) := by rw [str_toList]
      have hq2 : ((str x0).toList == [35]) = (x0 == [35]) := by rw [str_toList]
      clear hvw hbb hm
      obtain ⟨v1, hv1⟩ : ∃ v, (x0 == [43]) = v := ⟨_, rfl⟩
      obtain ⟨v2, hv2⟩ : ∃ v, (x0 == [35]) = v := ⟨_, rfl⟩
      rw [hv1] at hq1 hv
      rw [hv2] at hq2 hv
      have HX0 := Lib.hid hx0
      have HV := Lib.hid hv
      clear hv1 hv2 hx0 hv
      go_enter Try.func21, Try.ntmps21
      go_wp2_with fail
      refine (HF.out _).mono ?_
      rintro e w1 ⟨rfl, hb1⟩
      go_wp2_with fail
      refine (HT.out _).mono ?_
      rintro e w2 ⟨rfl, hb2⟩
      go_wp2_with fail
      refine (HL.out _).mono ?_
      rintro e w3 ⟨A, c, rfl, hown, hb3⟩
      have HN3 := Lib.hid (Strs.of_own hown)
      have h2 := hb1.trans (hb2.mono hb1.size)
      have h3 := Lib.hid (h2.trans (hb3.mono h2.size))
      clear hown hb1 hb2 hb3 h2
      go_wp2_with fail
      refine (HL'.out _).mono ?_
      rintro e w4 ⟨A', c', rfl, hown', hb4⟩
      have HN := Lib.hid (HN3.out.on hb4)
      have HN' := Lib.hid (Strs.of_own hown')
      have h4 := Lib.hid (h3.out.trans (hb4.mono h3.out.size))
      clear hown' hb4 HN3
      obtain ⟨a, rfl, ha, hc⟩ := HN.out.some_ hpos
      have hc0 := hc 0 hpos
      rw [HX0.out] at hc0
      have hz : a.add 0 = a := by unfold Addr.add; split <;> simp_all
      rw [hz] at hc0
      clear hz
      have hlI : (0 : Int) < (fs.length : Int) := by omega
      clear hc
      generalize str x0 = sx at hq1 hq2 hc0
      by_cases hstop : o = true ∧ v = true
      · have HR := Lib.hid (show false = b by rw [← HBB.out, hstop.1, hstop.2]; rfl)
        obtain ⟨rfl, rfl⟩ := hstop
        have hvv : v1 = true ∨ v2 = true := by have := HV.out; cases v1 <;> cases v2 <;> simp_all
        rcases hvv with rfl | rfl
        · go_wp2
          go_ret
          exact ⟨ret_bool HR.out, h4.out⟩
        · cases v1 <;>
          · go_wp2
            go_ret
            exact ⟨ret_bool HR.out, h4.out⟩
      · have HR := Lib.hid (show m = b by
          rw [← HBB.out]
          cases o <;> cases v <;> first | rfl | exact absurd ⟨rfl, rfl⟩ hstop)
        have key : o = false ∨ (o = true ∧ v1 = false ∧ v2 = false) := by
          have := HV.out
          cases o <;> cases v1 <;> cases v2 <;> simp_all
        clear hstop HV HBB
        rcases key with rfl | ⟨rfl, rfl, rfl⟩
        all_goals (go_wp2_with fail)
        all_goals (clear hob hq1 hq2 hc0 HX0)
        all_goals (
          go_loopw [7] (fun i wr => ∃ k : Nat, k ≤ fs.length ∧ k ≤ ts.length ∧ i = .int .i64 (k : Int) ∧ meets (fs.drop k) (ts.drop k) = b ∧ Below w4.heap.size w4 wr) (fun i _ => fs.length - (RowKit.intOf i).toNat)
          case atStart => exact ⟨0, Nat.zero_le _, Nat.zero_le _, rfl, HMM.out.trans HR.out, Below.refl _ _⟩
          case round =>
            obtain ⟨k, hk, hkt, rfl, hm, hbw⟩ := hrel
            have HM := Lib.hid hm
            have HW := Lib.hid hbw
            have hsz := hbw.size
            clear hm hbw HMM HR
            by_cases hlt : k < fs.length
            · obtain ⟨a1, he1, hab, hc⟩ := (HN.out.below HW.out).some_ (by omega)
              obtain rfl : a = a1 := by injection he1
              have hx := hc k hlt
              have hkI : (k : Int) < (fs.length : Int) := by omega
              have MR := fun h => meets_rest (ts := ts) hlt h
              have MO := fun h ht => meets_out (ts := ts) hlt h ht
              have MS := fun h ht => meets_step (ts := ts) hlt h ht
              obtain ⟨x, hxe⟩ : ∃ x, x = fs.getD k [] := ⟨_, rfl⟩
              rw [← hxe] at hx MR MO MS
              clear hc hxe he1
              by_cases h35 : x = [35]
              · have HR2 := Lib.hid (show true = b by rw [← HM.out, MR h35])
                have q2 : ((str x).toList == [35]) = true := by rw [str_toList, h35]; rfl
                have hktI : (k : Int) ≤ (ts.length : Int) := by omega
                clear MR MO MS h35
                generalize str x = sx at hx q2
                go_wp2
                go_ret
                exact ⟨ret_bool HR2.out, h4.out.trans (HW.out.mono h4.out.size)⟩
              · have q2 : ((str x).toList == [35]) = false := by rw [str_toList, beq_eq_false_iff_ne]; exact h35
                by_cases hkt2 : k < ts.length
                · have hktI : (k : Int) < (ts.length : Int) := by omega
                  have hdk : decide (ts.length ≤ k) = false := by simp; omega
                  obtain ⟨a', rfl, hab', hc'⟩ := (HN'.out.below HW.out).some_ (by omega)
                  have hy := hc' k hkt2
                  have hs1 := MS h35 hkt2
                  obtain ⟨y, hye⟩ : ∃ y, y = ts.getD k [] := ⟨_, rfl⟩
                  rw [← hye] at hy hs1
                  have HS := Lib.hid hs1
                  clear hc' hye hs1 MR MO MS
                  by_cases h43 : x = [43]
                  · have q1 : ((str x).toList == [43]) = true := by rw [str_toList, h43]; rfl
                    have q1' : ((str x).toList != [43]) = false := by rw [bne, q1]; rfl
                    have HT2 := Lib.hid (show (x == [43] || x == y) = true by rw [h43]; rfl)
                    clear h43 h35
                    generalize str x = sx at hx q2 q1 q1'
                    generalize str y = sy at hy
                    have ST := Lib.hid (TwoAt.mk (w := w4) (B := w4.heap.size) ⟨hx, hy, HW.out, by rw [add_block]; exact hab, by rw [add_block]; exact hab'⟩)
                    go_upto_region 11 with fail
                    have st0 := ST.out
                    haveI : Nonempty (In (TwoAt w4 w4.heap.size (a.add k) (a'.add k) (.string sx) (.string sy))) := ⟨⟨_, st0⟩⟩
                    have k0 := fun u : In (TwoAt w4 w4.heap.size (a.add k) (a'.add k) (.string sx) (.string sy)) => u.h.out.1
                    have k1 := fun u : In (TwoAt w4 w4.heap.size (a.add k) (a'.add k) (.string sx) (.string sy)) => u.h.out.2.1
                    refine region_in (S := TwoAt w4 w4.heap.size (a.add k) (a'.add k) (.string sx) (.string sy)) (by kernel_rfl) (by kernel_rfl) (st0.drewN 1) ?_
                    repeat (go_big_quiet_step (fail))
                    refine wpQuiet_nil ?_
                    rintro _ ⟨⟨w7, st7⟩, rfl⟩
                    have H7 := Lib.hid st7.out.2.2.1
                    clear this st0 st7 k0 k1
                    go_wp2
                    go_roundw
                    case rel => exact ⟨k + 1, hlt, hkt2, by go_num, by rw [← HM.out, HS.out, HT2.out, Bool.true_and], H7.out⟩
                    case measure => simp [RowKit.intOf]; omega
                  · have q1 : ((str x).toList == [43]) = false := by rw [str_toList, beq_eq_false_iff_ne]; exact h43
                    have q1' : ((str x).toList != [43]) = true := by rw [bne, q1]; rfl
                    by_cases hxy : x = y
                    · have q3 : ((str x).toList == (str y).toList) = true := by rw [hxy, beq_iff_eq]
                      have q3' : ((str x).toList != (str y).toList) = false := by rw [bne, q3]; rfl
                      have HT2 := Lib.hid (show (x == [43] || x == y) = true by rw [hxy]; simp)
                      clear h43 h35 hxy
                      generalize str x = sx at hx q2 q1 q1' q3 q3'
                      generalize str y = sy at hy q3 q3'
                      have ST := Lib.hid (TwoAt.mk (w := w4) (B := w4.heap.size) ⟨hx, hy, HW.out, by rw [add_block]; exact hab, by rw [add_block]; exact hab'⟩)
                      go_upto_region 11 with fail
                      have st0 := ST.out
                      haveI : Nonempty (In (TwoAt w4 w4.heap.size (a.add k) (a'.add k) (.string sx) (.string sy))) := ⟨⟨_, st0⟩⟩
                      have k0 := fun u : In (TwoAt w4 w4.heap.size (a.add k) (a'.add k) (.string sx) (.string sy)) => u.h.out.1
                      have k1 := fun u : In (TwoAt w4 w4.heap.size (a.add k) (a'.add k) (.string sx) (.string sy)) => u.h.out.2.1
                      refine region_in (S := TwoAt w4 w4.heap.size (a.add k) (a'.add k) (.string sx) (.string sy)) (by kernel_rfl) (by kernel_rfl) (st0.drewN 1) ?_
                      repeat (go_big_quiet_step (fail))
                      refine wpQuiet_nil ?_
                      rintro _ ⟨⟨w7, st7⟩, rfl⟩
                      have H7 := Lib.hid st7.out.2.2.1
                      clear this st0 st7 k0 k1
                      go_wp2
                      go_roundw
                      case rel => exact ⟨k + 1, hlt, hkt2, by go_num, by rw [← HM.out, HS.out, HT2.out, Bool.true_and], H7.out⟩
                      case measure => simp [RowKit.intOf]; omega
                    · have q3 : ((str x).toList == (str y).toList) = false := by rw [str_toList, str_toList, beq_eq_false_iff_ne]; exact hxy
                      have q3' : ((str x).toList != (str y).toList) = true := by rw [bne, q3]; rfl
                      have HR2 := Lib.hid (show false = b by rw [← HM.out, HS.out, beq_eq_false_iff_ne.2 h43, beq_eq_false_iff_ne.2 hxy]; rfl)
                      clear h43 h35 hxy
                      generalize str x = sx at hx q2 q1 q1' q3 q3'
                      generalize str y = sy at hy q3 q3'
                      have ST := Lib.hid (TwoAt.mk (w := w4) (B := w4.heap.size) ⟨hx, hy, HW.out, by rw [add_block]; exact hab, by rw [add_block]; exact hab'⟩)
                      go_upto_region 11 with fail
                      have st0 := ST.out
                      haveI : Nonempty (In (TwoAt w4 w4.heap.size (a.add k) (a'.add k) (.string sx) (.string sy))) := ⟨⟨_, st0⟩⟩
                      have k0 := fun u : In (TwoAt w4 w4.heap.size (a.add k) (a'.add k) (.string sx) (.string sy)) => u.h.out.1
                      have k1 := fun u : In (TwoAt w4 w4.heap.size (a.add k) (a'.add k) (.string sx) (.string sy)) => u.h.out.2.1
                      refine region_in (S := TwoAt w4 w4.heap.size (a.add k) (a'.add k) (.string sx) (.string sy)) (by kernel_rfl) (by kernel_rfl) (st0.drewN 1) ?_
                      repeat (go_big_quiet_step (fail))
                      refine wpQuiet_nil ?_
                      rintro _ ⟨⟨w7, st7⟩, rfl⟩
                      have H7 := Lib.hid st7.out.2.2.1
                      clear this st0 st7 k0 k1
                      go_wp2
                      go_ret
                      exact ⟨ret_bool HR2.out, h4.out.trans (H7.out.mono h4.out.size)⟩
                · have hktI : (ts.length : Int) ≤ (k : Int) := by omega
                  have HR2 := Lib.hid (show false = b by rw [← HM.out, MO h35 (by omega)])
                  clear MR MO MS h35
                  generalize str x = sx at hx q2
                  go_wp2
                  go_quiet (fail)
                  go_wp2
                  go_ret
                  exact ⟨ret_bool HR2.out, h4.out.trans ((below_drewN HW.out _).mono h4.out.size)⟩
            · have HE := Lib.hid (meets_end (fs := fs) (ts := ts) (k := k) (by omega) hkt hk)
              have q : ((fs.length : Int) == (ts.length : Int)) = decide (fs.length = ts.length) := by
                rw [Bool.eq_iff_iff]; simp; omega
              go_wp2
              go_ret
              refine ⟨ret_bool ?_, h4.out.trans (HW.out.mono h4.out.size)⟩
              rw [← HM.out, HE.out])
    · have HB := Lib.hid (show false = b by rw [← hb, matchB_no (fun h => hT0 (hT.symm.trans h.2))])
      have q : (T != 0) = true := by rw [bne_iff_ne]; exact hT0
      clear hb hE hT hT0
      go_enter Try.func21, Try.ntmps21
      go_wp2_with (first | (go_at_call 15; refine (HF.out _).mono ?_; rintro e w1 ⟨rfl, hb1⟩) | (go_at_call 13; refine (HT.out _).mono ?_; rintro e w2 ⟨rfl, hb2⟩))
      go_ret
      exact ⟨ret_bool HB.out, hb1.trans (hb2.mono hb1.size)⟩
  · have HB := Lib.hid (show false = b by rw [← hb, matchB_no (fun h => hE0 (hE.symm.trans h.1))])
    have q : (E != 0) = true := by rw [bne_iff_ne]; exact hE0
    clear hb hE hT hE0
    go_enter Try.func21, Try.ntmps21
    go_wp2_with (go_at_call 15; refine (HF.out _).mono ?_; rintro e w1 ⟨rfl, hb1⟩)
    go_ret
    exact ⟨ret_bool HB.out, hb1⟩
end Go.Proofs.Ytpmcfnancbbgoaa
