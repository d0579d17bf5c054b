/- The document's own answer: topics, filters, shared filters. -/
import Derived.Test.YtdogeljlcnlbkaaNameRLevels
import Derived.Test.YtdogeljlcnlbkaaNameShare
namespace Go.Proofs.Ytdogeljlcnlbkaa
open Go.RowKit Go.Lib Txt Nam

set_option maxRecDepth 100000 in
set_option maxHeartbeats 4000000 in
/-- fairwayref7.Filter. -/
theorem RFilter_is (s : ByteArray) (E : Int) (w : World) (hs : s.size ≤ 1000000) (hE : filterErr s.data.toList = E) :
    Calls Try.prog 32 #[.string s] w fun e w' => e = .returned (.int .i64 E) ∧ Below w.heap.size w w' := by
  have HC := Lib.hid (fun W => (RText_any s W).mono fun _ _ h => And.intro h.1 h.2.symm)
  by_cases h0 : textErr s.data.toList = 0
  · have hck : checkErr s.data.toList = errOf (room s.data.toList) := by unfold checkErr; rw [if_pos h0]
    have hsl := (textErr_zero h0).1
    rw [h0] at HC
    have HL := Lib.hid (fun W => RLevels_is s W hs)
    by_cases he : s.data.toList = []
    · have hs0 : s = ⟨#[]⟩ := by rw [← data_str s, he]; rfl
      have HE := Lib.hid (show E = 8 by rw [← hE, he]; decide +kernel)
      clear hE hck he h0
      subst hs0
      go_enter Try.func32, Try.ntmps32
      go_wp2_with (first | (go_at_call 41; refine (HC.out _).mono ?_; rintro e w' ⟨rfl, rfl⟩) | (go_at_call 42; refine (HL.out _).mono ?_; rintro e w2 ⟨A, c, rfl, hown, hb2⟩; clear hown))
      go_ret
      exact ⟨ret_int HE.out.symm, hb2⟩
    · have hq := empty_no he
      have hq2 : (s.toList == []) = false := by rw [beq_eq_false_iff_ne]; exact hq
      have hse : ¬ s = ByteArray.empty := by rintro rfl; exact he rfl
      have hie : s.data.toList.isEmpty = false := by cases hl : s.data.toList <;> simp_all
      have hroom : room s.data.toList = decide ((split s.data.toList).length ≤ 16) := by
        unfold room
        rw [hie, split_len, Bool.not_false, Bool.true_and, decide_eq_decide]; omega
      have hlen : (split s.data.toList).length ≤ 1000001 := by
        rw [split_len]
        have := List.count_le_length (a := (47 : UInt8)) (l := s.data.toList)
        rw [← Lib.size_eq] at this; omega
      have hlv : ∀ x ∈ split s.data.toList, x.length ≤ 1000000 := fun x hx => by
        have := split_level_len _ x hx; omega
      have HT : E = if checkErr s.data.toList = 0 then errOf (mayAsk (split s.data.toList)) else checkErr s.data.toList := by rw [← hE]; rfl
      rw [hck, hroom] at HT
      have HTT := Lib.hid HT
      clear hE hck he h0 hie hroom HT hsl
      generalize split s.data.toList = ls at HL HTT hlen hlv
      by_cases hl : ls.length ≤ 16
      · have HE := Lib.hid (show E = errOf (mayAsk ls) by rw [HTT.out, decide_eq_true hl]; rfl)
        have hli : decide ((16 : Int) < (ls.length : Int)) = false := by simp; omega
        have HLV := Lib.hid hlv
        clear HTT hlv
        go_enter Try.func32, Try.ntmps32
        go_wp2_with fail
        refine (HC.out _).mono ?_
        rintro e w' ⟨rfl, rfl⟩
        go_wp2_with fail
        refine (HL.out _).mono ?_
        rintro e w2 ⟨A, c, rfl, hown, hb2⟩
        have HN := Lib.hid (Strs.of_own hown)
        have HB := Lib.hid hb2
        clear hown hb2
        go_wp2_with fail
        go_loopw [5] (fun i wr => ∃ k : Nat, k ≤ ls.length ∧ i = .int .i64 (k : Int) ∧ mayAsk (ls.drop k) = mayAsk ls ∧ Below w2.heap.size w2 wr) (fun i _ => ls.length - (RowKit.intOf i).toNat)
        case atStart => exact ⟨0, Nat.zero_le _, rfl, rfl, Below.refl _ _⟩
        case round =>
          obtain ⟨k, hk, rfl, hm, hbw⟩ := hrel
          have HM := Lib.hid hm
          have HW := Lib.hid hbw
          clear hm hbw
          by_cases hlt : k < ls.length
          · obtain ⟨a, rfl, ha, hc⟩ := (HN.out.below HW.out).some_ (by omega)
            have hx := hc k hlt
            have hab : (a.add k).block < w2.heap.size := by rw [add_block]; exact ha
            have HS := Lib.hid (mayAsk_step hlt)
            have hkI : (k : Int) < (ls.length : Int) := by omega
            have hxl : (ls.getD k []).length ≤ 1000000 := by
              rw [List.getD_eq_getElem?_getD, List.getElem?_eq_getElem hlt]
              exact HLV.out _ (List.getElem_mem hlt)
            clear hc ha
            obtain ⟨x, hxe⟩ : ∃ x, x = ls.getD k [] := ⟨_, rfl⟩
            rw [← hxe] at hx HS hxl
            obtain ⟨p, hp⟩ : ∃ p, plain x = p := ⟨_, rfl⟩
            have HH := Lib.hid (fun W => has_is (str x) ⟨#[43, 35]⟩ (!p) W (by rw [str_size]; exact hxl) (by decide) (by rw [← hp, str_data]; exact has_plain _))
            have hsz := HW.out.size
            clear hxe hxl
            cases p with
            | true =>
              have HV := Lib.hid (show ∀ q, level x q = true by intro q; unfold level; rw [hp]; simp)
              clear hp
              generalize str x = sx at hx HH
              go_wp2_with (go_at_call 43; refine (HH.out _).mono ?_; rintro e w3 ⟨rfl, hb3⟩)
              go_roundw
              case rel => exact ⟨k + 1, hlt, by go_num, by rw [← HM.out, HS.out, HV.out, Bool.true_and], HW.out.trans (hb3.mono hsz)⟩
              case measure => simp [RowKit.intOf]; omega
            | false =>
              by_cases h43 : x = [43]
              · have HV := Lib.hid (show ∀ q, level x q = true by intro q; rw [h43]; rfl)
                have q1 : ((str x).toList == [43]) = true := by rw [str_toList, h43]; rfl
                have q1' : ((str x).toList != [43]) = false := by rw [bne, q1]; rfl
                clear hp h43
                generalize str x = sx at hx HH q1 q1'
                go_wp2_with fail
                refine (HH.out _).mono ?_
                rintro e w3 ⟨rfl, hb3⟩
                have hx3 : w3.cell? (a.add k) = some (.string sx) := by rw [hb3.cell (Nat.lt_of_lt_of_le hab hsz)]; exact hx
                have HB3 := Lib.hid (HW.out.trans (hb3.mono hsz))
                clear hx hb3
                go_wp2
                go_roundw
                case rel => exact ⟨k + 1, hlt, by go_num, by rw [← HM.out, HS.out, HV.out, Bool.true_and], HB3.out⟩
                case measure => simp [RowKit.intOf]; omega
              · have q1 : ((str x).toList == [43]) = false := by rw [str_toList, beq_eq_false_iff_ne]; exact h43
                have q1' : ((str x).toList != [43]) = true := by rw [bne, q1]; rfl
                by_cases h35 : x = [35]
                · have HV := Lib.hid (show ∀ q, level x q = q by intro q; rw [h35]; cases q <;> rfl)
                  have q2 : ((str x).toList == [35]) = true := by rw [str_toList, h35]; rfl
                  have q2' : ((str x).toList != [35]) = false := by rw [bne, q2]; rfl
                  clear hp h43 h35
                  generalize str x = sx at hx HH q1 q1' q2 q2'
                  by_cases hlast : k + 1 = ls.length
                  · have q3 : decide ((k : Int) < (ls.length : Int) - 1) = false := by simp; omega
                    have HLS := Lib.hid hlast
                    clear hlast
                    go_wp2_with fail
                    refine (HH.out _).mono ?_
                    rintro e w3 ⟨rfl, hb3⟩
                    have hx3 : w3.cell? (a.add k) = some (.string sx) := by rw [hb3.cell (Nat.lt_of_lt_of_le hab hsz)]; exact hx
                    have HB3 := Lib.hid (HW.out.trans (hb3.mono hsz))
                    clear hx hb3
                    go_wp2
                    go_roundw
                    case rel => exact ⟨k + 1, hlt, by go_num, by rw [← HM.out, HS.out, HV.out, decide_eq_true HLS.out, Bool.true_and], HB3.out⟩
                    case measure => simp [RowKit.intOf]; omega
                  · have q3 : decide ((k : Int) < (ls.length : Int) - 1) = true := by simp; omega
                    have HR := Lib.hid (show E = 8 by rw [HE.out, ← HM.out, HS.out, HV.out, decide_eq_false hlast]; rfl)
                    clear hlast
                    go_wp2_with fail
                    refine (HH.out _).mono ?_
                    rintro e w3 ⟨rfl, hb3⟩
                    have hx3 : w3.cell? (a.add k) = some (.string sx) := by rw [hb3.cell (Nat.lt_of_lt_of_le hab hsz)]; exact hx
                    have HB3 := Lib.hid (HW.out.trans (hb3.mono hsz))
                    clear hx hb3
                    go_wp2
                    go_ret
                    exact ⟨ret_int HR.out.symm, HB.out.trans (HB3.out.mono HB.out.size)⟩
                · have q2 : ((str x).toList == [35]) = false := by rw [str_toList, beq_eq_false_iff_ne]; exact h35
                  have q2' : ((str x).toList != [35]) = true := by rw [bne, q2]; rfl
                  have HV := Lib.hid (show ∀ q, level x q = false by intro q; unfold level; rw [hp]; simp [h43, h35])
                  have HR := Lib.hid (show E = 8 by rw [HE.out, ← HM.out, HS.out, HV.out]; rfl)
                  clear hp h43 h35
                  generalize str x = sx at hx HH q1 q1' q2 q2'
                  go_wp2_with fail
                  refine (HH.out _).mono ?_
                  rintro e w3 ⟨rfl, hb3⟩
                  have hx3 : w3.cell? (a.add k) = some (.string sx) := by rw [hb3.cell (Nat.lt_of_lt_of_le hab hsz)]; exact hx
                  have HB3 := Lib.hid (HW.out.trans (hb3.mono hsz))
                  clear hx hb3
                  go_wp2
                  go_ret
                  exact ⟨ret_int HR.out.symm, HB.out.trans (HB3.out.mono HB.out.size)⟩
          · have HR := Lib.hid (show E = 0 by rw [HE.out, ← HM.out, List.drop_of_length_le (by omega)]; rfl)
            go_wp2
            go_ret
            exact ⟨ret_int HR.out.symm, HB.out.trans (HW.out.mono HB.out.size)⟩
      · have HE := Lib.hid (show E = 8 by rw [HTT.out, decide_eq_false hl]; rfl)
        have hli : decide ((16 : Int) < (ls.length : Int)) = true := by simp; omega
        clear HTT
        go_enter Try.func32, Try.ntmps32
        go_wp2_with (first | (go_at_call 41; refine (HC.out _).mono ?_; rintro e w' ⟨rfl, rfl⟩) | (go_at_call 42; refine (HL.out _).mono ?_; rintro e w2 ⟨A, c, rfl, hown, hb2⟩; clear hown))
        go_ret
        exact ⟨ret_int HE.out.symm, hb2⟩
  · have HE := Lib.hid (show E = textErr s.data.toList by
      have hck : checkErr s.data.toList = textErr s.data.toList := by unfold checkErr; rw [if_neg h0]
      rw [← hE]; unfold filterErr; rw [hck, if_neg h0])
    have q : (textErr s.data.toList != 0) = true := by rw [bne_iff_ne]; exact h0
    clear hE h0
    generalize textErr s.data.toList = T at HC HE q
    go_enter Try.func32, Try.ntmps32
    go_wp2_with (go_at_call 41; refine (HC.out _).mono ?_; rintro e w' ⟨rfl, rfl⟩)
    go_ret
    exact ⟨ret_int HE.out.symm, Below.refl _ _⟩
end Go.Proofs.Ytdogeljlcnlbkaa
