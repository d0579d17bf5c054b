/- Package name: whether a filter matches a topic's name. -/
import Derived.Test.YtdogeljlcnlbkaaNameTop
namespace Go.Proofs.Ytdogeljlcnlbkaa
open Go.RowKit Go.Lib Txt Nam

theorem matchB_ok {f t : List UInt8} (hf : filterErr f = 0) (ht : topicErr t = 0) : matchB f t = (!(own t && wild ((split f).getD 0 [])) && meets (split f) (split t)) := by
  unfold matchB
  rw [hf, ht]
  have : (split f).headD [] = (split f).getD 0 [] := by cases split f <;> rfl
  rw [this]; simp
theorem matchB_no {f t : List UInt8} (h : ¬ (filterErr f = 0 ∧ topicErr t = 0)) : matchB f t = false := by
  unfold matchB
  by_cases hf : filterErr f = 0
  · have ht : topicErr t ≠ 0 := fun e => h ⟨hf, e⟩
    rw [decide_eq_false ht]; simp
  · rw [decide_eq_false hf]; simp

set_option maxRecDepth 100000 in
set_option maxHeartbeats 4000000 in
/-- name.Match. -/
theorem Match_is (f t : ByteArray) (b : Bool) (w : World) (hs : f.size ≤ 1000000) (hs' : t.size ≤ 1000000) (hb : matchB f.data.toList t.data.toList = b) :
    Calls Try.prog 37 #[.string f, .string t] w fun e w' => e = .returned (.bool b) ∧ Below w.heap.size w w' := by
  obtain ⟨E, hE⟩ : ∃ E, filterErr f.data.toList = E := ⟨_, rfl⟩
  obtain ⟨T, hT⟩ : ∃ T, topicErr t.data.toList = T := ⟨_, rfl⟩
  have HF := Lib.hid (fun W => Filter_is f E W hs hE)
  have HT := Lib.hid (fun W => Topic_is t T W hs' hT)
  by_cases hE0 : E = 0
  · subst hE0
    by_cases hT0 : T = 0
    · subst hT0
      have hbb := (matchB_ok hE hT).symm.trans hb
      have hma := (filterErr_zero.1 hE).2
      have hl1 := (checkErr_len (filterErr_zero.1 hE).1).2.2
      have hl2 := (checkErr_len (topicErr_zero.1 hT).1).2.2
      have hne := split_ne f.data.toList
      have hpos : 0 < (split f.data.toList).length := List.length_pos_iff.2 hne
      have HL := Lib.hid (fun W => Levels_is f W hs)
      have HL' := Lib.hid (fun W => Levels_is t W hs')
      obtain ⟨o, ho⟩ : ∃ o, own t.data.toList = o := ⟨_, rfl⟩
      have HO := Lib.hid (fun W => (prefix_at t ⟨#[36]⟩ o W ho).mono fun _ _ h => And.intro h.1 h.2.symm)
      rw [ho] at hbb
      clear hb hE hT ho hne
      generalize split f.data.toList = fs at HL hbb hma hl1 hpos
      generalize split t.data.toList = ts at HL' hbb hl2
      have hm1 := (mayAsk_at (k := 0) (by simpa using hma) hpos).1
      have HM := Lib.hid (fun A A' c c' W h h' => meets_is fs ts A A' c c' (meets fs ts) W (by omega) (by omega) h h' hma rfl)
      obtain ⟨m, hm⟩ : ∃ m, meets fs ts = m := ⟨_, rfl⟩
      rw [hm] at HM hbb
      have HBB := Lib.hid hbb
      clear hma hm hbb
      cases o with
      | false =>
        have HR := Lib.hid (show m = b by rw [← HBB.out]; rfl)
        clear hm1 hpos HBB
        go_enter Try.func37, Try.ntmps37
        go_wp2_with fail
        refine (HF.out _).mono ?_
        rintro e w1 ⟨rfl, hb1⟩
        go_wp2_with fail
        refine (HT.out _).mono ?_
        rintro e w2 ⟨rfl, hb2⟩
        go_wp2_with fail
        refine (HL.out _).mono ?_
        rintro e w3 ⟨A, c, rfl, hown, hb3⟩
        have HN := Lib.hid (Strs.of_own hown)
        have h2 := hb1.trans (hb2.mono hb1.size)
        have h3 := Lib.hid (h2.trans (hb3.mono h2.size))
        clear hown hb1 hb2 hb3 h2
        go_wp2_with (go_at_call 52; refine (HO.out _).mono ?_; rintro e w' ⟨rfl, rfl⟩)
        refine (HL'.out _).mono ?_
        rintro e w4 ⟨A', c', rfl, hown', hb4⟩
        have HQ := Lib.hid (HM.out A A' c c' w4 (HN.out.on hb4) (Strs.of_own hown'))
        have h4 := Lib.hid (h3.out.trans (hb4.mono h3.out.size))
        clear hown' hb4
        go_wp2_with fail
        refine HQ.out.mono ?_
        rintro e w5 ⟨rfl, hb5⟩
        go_wp2
        go_ret
        exact ⟨ret_bool HR.out, h4.out.trans (hb5.mono h4.out.size)⟩
      | true =>
        obtain ⟨x, hx⟩ : ∃ x, fs.getD 0 [] = x := ⟨_, rfl⟩
        rw [hx] at hm1
        have hx2 := Lib.hid hx
        obtain ⟨v, hv⟩ : ∃ v, wild x = v := ⟨_, rfl⟩
        have hvp : v = true ∨ plain x = true := by
          rcases hm1 with h | h | h
          · exact .inl (by rw [← hv, h]; rfl)
          · exact .inl (by rw [← hv, h]; rfl)
          · exact .inr h
        have HW := Lib.hid (fun W => isWild_is x v W hv hvp)
        have HA := Lib.hid (fun W => ask_is x _ W rfl)
        have HR := Lib.hid (show (!v && m) = b by rw [← HBB.out, hx, hv]; rfl)
        clear hm1 hx hv hvp HBB
        go_enter Try.func37, Try.ntmps37
        go_wp2_with fail
        refine (HF.out _).mono ?_
        rintro e w1 ⟨rfl, hb1⟩
        go_wp2_with fail
        refine (HT.out _).mono ?_
        rintro e w2 ⟨rfl, hb2⟩
        go_wp2_with fail
        refine (HL.out _).mono ?_
        rintro e w3 ⟨A, c, rfl, hown, hb3⟩
        have HN := Lib.hid (Strs.of_own hown)
        have h2 := hb1.trans (hb2.mono hb1.size)
        have h3 := Lib.hid (h2.trans (hb3.mono h2.size))
        clear hown hb1 hb2 hb3 h2
        obtain ⟨a, rfl, ha, hc⟩ := HN.out.some_ hpos
        have hc0 := hc 0 hpos
        rw [hx2.out] at hc0
        have hz : a.add 0 = a := by unfold Addr.add; split <;> simp_all
        rw [hz] at hc0
        have hlI : (0 : Int) < (fs.length : Int) := by omega
        clear hc ha
        generalize askV x = V at HA HW
        generalize str x = sx at HA hc0
        cases v with
        | true =>
          go_wp2_with (first | (go_at_call 52; refine (HO.out _).mono ?_; rintro e w' ⟨rfl, rfl⟩) | (go_at_call 54; refine (HA.out _).mono ?_; rintro e w4 ⟨rfl, hb4⟩) | (go_at_call 53; refine (HW.out _).mono ?_; rintro e w5 ⟨rfl, hb5⟩))
          go_ret
          have h4 := h3.out.trans (hb4.mono h3.out.size)
          exact ⟨ret_bool HR.out, h4.trans (hb5.mono h4.size)⟩
        | false =>
          go_wp2_with (first | (go_at_call 52; refine (HO.out _).mono ?_; rintro e w' ⟨rfl, rfl⟩) | (go_at_call 54; refine (HA.out _).mono ?_; rintro e w4 ⟨rfl, hb4⟩) | (go_at_call 53; refine (HW.out _).mono ?_; rintro e w5 ⟨rfl, hb5⟩))
          have h45 := hb4.trans (hb5.mono hb4.size)
          have HN5 := Lib.hid (HN.out.on h45)
          have h5 := Lib.hid (h3.out.trans (h45.mono h3.out.size))
          clear hb4 hb5 h45 hc0 HN
          refine (HL'.out _).mono ?_
          rintro e w6 ⟨A', c', rfl, hown', hb6⟩
          have HQ := Lib.hid (HM.out (some a) A' c c' w6 (HN5.out.on hb6) (Strs.of_own hown'))
          have h6 := Lib.hid (h5.out.trans (hb6.mono h5.out.size))
          clear hown' hb6
          go_wp2_with fail
          refine HQ.out.mono ?_
          rintro e w7 ⟨rfl, hb7⟩
          go_wp2
          go_ret
          exact ⟨ret_bool HR.out, h6.out.trans (hb7.mono h6.out.size)⟩
    · have HB := Lib.hid (show false = b by rw [← hb, matchB_no (fun h => hT0 (hT.symm.trans h.2))])
      have q : (T != 0) = true := by rw [bne_iff_ne]; exact hT0
      clear hb hE hT hT0
      go_enter Try.func37, Try.ntmps37
      go_wp2_with (first | (go_at_call 48; refine (HF.out _).mono ?_; rintro e w1 ⟨rfl, hb1⟩) | (go_at_call 34; refine (HT.out _).mono ?_; rintro e w2 ⟨rfl, hb2⟩))
      go_ret
      exact ⟨ret_bool HB.out, hb1.trans (hb2.mono hb1.size)⟩
  · have HB := Lib.hid (show false = b by rw [← hb, matchB_no (fun h => hE0 (hE.symm.trans h.1))])
    have q : (E != 0) = true := by rw [bne_iff_ne]; exact hE0
    clear hb hE hT hE0
    go_enter Try.func37, Try.ntmps37
    go_wp2_with (go_at_call 48; refine (HF.out _).mono ?_; rintro e w1 ⟨rfl, hb1⟩)
    go_ret
    exact ⟨ret_bool HB.out, hb1⟩
end Go.Proofs.Ytdogeljlcnlbkaa
