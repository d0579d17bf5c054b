/- Package name: topics, filters, shared filters, matches. -/
import Derived.Test.YtdogeljlcnlbkaaNameMeets
namespace Go.Proofs.Ytdogeljlcnlbkaa
open Go.RowKit Go.Lib Txt Nam

theorem size_str (s : ByteArray) : s.size = s.data.toList.length := Lib.size_eq s
theorem empty_no {s : ByteArray} (h : s.data.toList ≠ []) : s.toList ≠ [] := by rw [toList_data_eq]; exact h

set_option maxRecDepth 100000 in
set_option maxHeartbeats 2000000 in
/-- name.check. -/
theorem check_is (s : ByteArray) (E : Int) (w : World) (hs : s.size ≤ 1000000) (hE : checkErr s.data.toList = E) :
    Calls Try.prog 44 #[.string s] w fun e w' => e = .returned (.int .i64 E) ∧ Below w.heap.size w w' := by
  have HC := Lib.hid (Check_any s w (by omega))
  by_cases h0 : textErr s.data.toList = 0
  · have HB := Lib.hid (fun b W => badUnless_is b W)
    have hn := fun W => Try.strings_Count_one s 47 W
    have hcnt : s.data.toList.count 47 ≤ 1000000 := Nat.le_trans List.count_le_length (by rw [← Lib.size_eq]; exact hs)
    have HE := Lib.hid (show E = errOf (room s.data.toList) by rw [← hE]; unfold checkErr; rw [if_pos h0])
    rw [h0] at HC
    obtain ⟨n, hne⟩ : ∃ n, s.data.toList.count 47 = n := ⟨_, rfl⟩
    have hr : room s.data.toList = (!s.data.toList.isEmpty && decide (n < 16)) := by unfold room; rw [hne]
    have hn2 : ∀ W, Calls Try.prog 60 #[.string s, .string ⟨#[47]⟩] W fun e w' => e = .returned (.int .i64 (n : Int)) ∧ w' = W := fun W => by
      rw [← hne]; exact hn W
    rw [hne] at hcnt
    have HN := Lib.hid hn2
    clear hn hn2 hne h0 hE
    by_cases he : s.data.toList = []
    · have hs0 : s = ⟨#[]⟩ := by rw [← data_str s, he]; rfl
      have HR := Lib.hid (show room s.data.toList = false by rw [hr, he]; rfl)
      clear hr he
      subst hs0
      go_enter Try.func44, Try.ntmps44
      go_wp2_with (first | (go_at_call 59; refine HC.out.mono ?_; rintro e w1 ⟨rfl, hb1⟩) | (go_at_call 60; refine (HN.out _).mono ?_; rintro e w' ⟨rfl, rfl⟩) | (go_at_call 45; refine (HB.out _ _).mono ?_; rintro e w' ⟨rfl, rfl⟩))
      go_ret
      exact ⟨ret_int (by rw [HE.out, HR.out]), hb1⟩
    · have hq := empty_no he
      have hq2 : (s.toList == []) = false := by rw [beq_eq_false_iff_ne]; exact hq
      have hsz : 0 < s.size := by
        rw [Lib.size_eq]; exact List.length_pos_iff.2 he
      have hse : ¬ s = ByteArray.empty := by rintro rfl; exact he rfl
      have hie : s.data.toList.isEmpty = false := by cases hl : s.data.toList <;> simp_all
      have HR := Lib.hid (show room s.data.toList = decide (n < 16) by rw [hr, hie]; simp)
      clear hr he hie
      have hd : decide ((n : Int) < 16) = decide (n < 16) := by rw [decide_eq_decide]; omega
      go_enter Try.func44, Try.ntmps44
      go_wp2_with (first | (go_at_call 59; refine HC.out.mono ?_; rintro e w1 ⟨rfl, hb1⟩) | (go_at_call 60; refine (HN.out _).mono ?_; rintro e w' ⟨rfl, rfl⟩) | (go_at_call 45; refine (HB.out _ _).mono ?_; rintro e w' ⟨rfl, rfl⟩))
      go_ret
      exact ⟨ret_int (by rw [HE.out, HR.out]), hb1⟩
  · have HE := Lib.hid (show E = textErr s.data.toList by rw [← hE]; unfold checkErr; rw [if_neg h0])
    have q : (textErr s.data.toList != 0) = true := by rw [bne_iff_ne]; exact h0
    clear h0 hE
    generalize textErr s.data.toList = T at HC HE q
    go_enter Try.func44, Try.ntmps44
    go_wp2_with (go_at_call 59; refine HC.out.mono ?_; rintro e w1 ⟨rfl, hb1⟩)
    go_ret
    exact ⟨ret_int HE.out.symm, hb1⟩

set_option maxRecDepth 100000 in
set_option maxHeartbeats 2000000 in
/-- name.Topic. -/
theorem Topic_is (s : ByteArray) (E : Int) (w : World) (hs : s.size ≤ 1000000) (hE : topicErr s.data.toList = E) :
    Calls Try.prog 34 #[.string s] w fun e w' => e = .returned (.int .i64 E) ∧ Below w.heap.size w w' := by
  obtain ⟨C, hC⟩ : ∃ C, checkErr s.data.toList = C := ⟨_, rfl⟩
  have HC := Lib.hid (check_is s C w hs hC)
  by_cases h0 : C = 0
  · obtain ⟨b, hb⟩ : ∃ b, plain s.data.toList = b := ⟨_, rfl⟩
    have HP := Lib.hid (fun W => isPlain_is s b W hb)
    have HB := Lib.hid (fun W => badUnless_is b W)
    have HE := Lib.hid (show E = errOf b by rw [← hE]; unfold topicErr; rw [if_pos (by rw [hC, h0]), hb])
    subst h0
    clear hE hb hC
    go_enter Try.func34, Try.ntmps34
    go_wp2_with (first | (go_at_call 44; refine HC.out.mono ?_; rintro e w1 ⟨rfl, hb1⟩) | (go_at_call 46; refine (HP.out _).mono ?_; rintro e w2 ⟨rfl, hb2⟩) | (go_at_call 45; refine (HB.out _).mono ?_; rintro e w' ⟨rfl, rfl⟩))
    go_ret
    exact ⟨ret_int HE.out.symm, hb1.trans (hb2.mono hb1.size)⟩
  · have HE := Lib.hid (show E = C by rw [← hE]; unfold topicErr; rw [if_neg (by rw [hC]; exact h0), hC])
    have q : (C != 0) = true := by rw [bne_iff_ne]; exact h0
    clear h0 hE hC
    go_enter Try.func34, Try.ntmps34
    go_wp2_with (go_at_call 44; refine HC.out.mono ?_; rintro e w1 ⟨rfl, hb1⟩)
    go_ret
    exact ⟨ret_int HE.out.symm, hb1⟩

set_option maxRecDepth 100000 in
set_option maxHeartbeats 2000000 in
/-- name.Filter. -/
theorem Filter_is (s : ByteArray) (E : Int) (w : World) (hs : s.size ≤ 1000000) (hE : filterErr s.data.toList = E) :
    Calls Try.prog 48 #[.string s] w fun e w' => e = .returned (.int .i64 E) ∧ Below w.heap.size w w' := by
  obtain ⟨C, hC⟩ : ∃ C, checkErr s.data.toList = C := ⟨_, rfl⟩
  have HC := Lib.hid (check_is s C w hs hC)
  by_cases h0 : C = 0
  · obtain ⟨b, hb⟩ : ∃ b, mayAsk (split s.data.toList) = b := ⟨_, rfl⟩
    have HL := Lib.hid (fun W => Levels_is s W hs)
    have HB := Lib.hid (fun W => badUnless_is b W)
    have HE := Lib.hid (show E = errOf b by rw [← hE]; unfold filterErr; rw [if_pos (by rw [hC, h0]), hb])
    have hlen : (split s.data.toList).length ≤ 1000000 := by
      have := (checkErr_len (show checkErr s.data.toList = 0 by rw [hC, h0])).2.2; omega
    have HM := Lib.hid (fun A c W h => mayAsk_is (split s.data.toList) A c b W hlen h hb)
    subst h0
    clear hE hb hC hlen
    generalize split s.data.toList = ls at HL HM
    go_enter Try.func48, Try.ntmps48
    go_wp2_with (first | (go_at_call 44; refine HC.out.mono ?_; rintro e w1 ⟨rfl, hb1⟩) | (go_at_call 51; refine (HL.out _).mono ?_; rintro e w2 ⟨A, c, rfl, hown, hb2⟩; have HN := Lib.hid (HM.out A c w2 (Strs.of_own hown)); clear hown) | (go_at_call 62; refine HN.out.mono ?_; rintro e w3 ⟨rfl, hb3⟩) | (go_at_call 45; refine (HB.out _).mono ?_; rintro e w' ⟨rfl, rfl⟩))
    go_ret
    have h12 := hb1.trans (hb2.mono hb1.size)
    exact ⟨ret_int HE.out.symm, h12.trans (hb3.mono h12.size)⟩
  · have HE := Lib.hid (show E = C by rw [← hE]; unfold filterErr; rw [if_neg (by rw [hC]; exact h0), hC])
    have q : (C != 0) = true := by rw [bne_iff_ne]; exact h0
    clear h0 hE hC
    go_enter Try.func48, Try.ntmps48
    go_wp2_with (go_at_call 44; refine HC.out.mono ?_; rintro e w1 ⟨rfl, hb1⟩)
    go_ret
    exact ⟨ret_int HE.out.symm, hb1⟩
end Go.Proofs.Ytdogeljlcnlbkaa
