/- Package frame: how many bytes a packet has; may a framer be. -/
import Derived.Test.YtiancngpknnkaaaFramePlain
import Derived.Test.YtiancngpknnkaaaF08
namespace Go.Proofs.Ytiancngpknnkaaa
open Go.RowKit Go.Lib Prp Pkt Vbi

set_option maxHeartbeats 1000000 in
theorem isMax_is (n : Int) (b : Bool) (w : World) (hb : decide (2 ≤ n ∧ n ≤ 8192) = b) :
    Calls Try.prog 13 #[.int .i64 n] w fun e w' => e = .returned (.bool b) ∧ w = w' := by
  by_cases h1 : 2 ≤ n
  · by_cases h2 : n ≤ 8192
    · rw [decide_eq_true ⟨h1, h2⟩] at hb
      subst hb
      go_enter Try.func13, Try.ntmps13
      go_wp2
      go_ret
      exact ⟨rfl, rfl⟩
    · rw [decide_eq_false (fun h => h2 h.2)] at hb
      subst hb
      go_enter Try.func13, Try.ntmps13
      go_wp2
      go_ret
      exact ⟨rfl, rfl⟩
  · rw [decide_eq_false (fun h => h1 h.1)] at hb
    subst hb
    go_enter Try.func13, Try.ntmps13
    go_wp2
    go_ret
    exact ⟨rfl, rfl⟩
set_option maxHeartbeats 1000000 in
theorem formUnless_is (b : Bool) (w : World) :
    Calls Try.prog 18 #[.bool b] w fun e w' => e = .returned (.int .i64 (if b = true then 0 else 1)) ∧ w = w' := by
  cases b with
  | true =>
    go_enter Try.func18, Try.ntmps18
    go_wp2
    go_ret
    exact ⟨rfl, rfl⟩
  | false =>
    go_enter Try.func18, Try.ntmps18
    go_wp2
    go_ret
    exact ⟨rfl, rfl⟩
set_option maxRecDepth 100000 in
set_option maxHeartbeats 4000000 in
theorem wholeSize_is (s : ByteArray) (max N E : Int) (w : World) (hs : s.size ≤ 281474976710656) (h : sizeS max s = (N, E)) :
    Calls Try.prog 19 #[.string s, .int .i64 max] w fun r w' => r = .returned (.tuple #[.int .i64 N, .int .i64 E]) ∧ w = w' := by
  rcases takeS_cases s with ⟨hz, _⟩ | ⟨hz, X, ht, hE, _⟩ | ⟨hz, m, q, ht, hq, hm, _, _⟩
  · have e : sizeS max s = (0, 7) := by unfold sizeS lenS; rw [if_pos hz]; rfl
    rw [e] at h
    injection h with h1 h2
    subst h1 h2
    obtain rfl : s = ByteArray.empty := ByteArray.size_eq_zero_iff.1 hz
    clear hz e
    go_enter Try.func19, Try.ntmps19
    go_wp2_with fail
    go_ret2
    exact ⟨rfl, rfl⟩
  · have e : sizeS max s = (0, X) := by unfold sizeS lenS; rw [if_neg hz, ht, if_pos hE, if_pos hE]
    rw [e] at h
    injection h with h1 h2
    subst h1 h2
    have HT := Lib.hid (fun W => TakeNum_z (s.extract 1 s.size) 0 0 X W (by rw [ByteArray.size_extract]; omega) ht)
    obtain ⟨hne, hne2⟩ := size_facts hz
    have hEb := ne_true hE
    have hl1 : (1 : Int) ≤ (s.size : Int) := by omega
    clear e ht
    go_enter Try.func19, Try.ntmps19
    go_wp2_with (go_at_call 26; refine (HT.out _).mono ?_; rintro r wt ⟨rfl, rfl⟩)
    go_ret2
    exact ⟨rfl, rfl⟩
  · have e : lenS s = (1 + (q : Int) + (m : Int), 0) := by unfold lenS; rw [if_neg hz, ht]; exact if_neg (fun hh => hh rfl)
    have HT := Lib.hid (fun W => TakeNum_z (s.extract 1 s.size) (m : Int) (q : Int) 0 W (by rw [ByteArray.size_extract]; omega) ht)
    obtain ⟨hne, hne2⟩ := size_facts hz
    have hl1 : (1 : Int) ≤ (s.size : Int) := by omega
    have hw1 : IntKind.i64.wrap (1 + (q : Int) + (m : Int)) = 1 + (q : Int) + (m : Int) := IntWalk.i64_in _ (by omega)
    unfold sizeS at h
    rw [e, if_neg (not_not_intro rfl)] at h
    clear e ht
    by_cases hx : max < 1 + (q : Int) + (m : Int)
    · rw [if_pos hx] at h
      injection h with h1 h2
      subst h1 h2
      go_enter Try.func19, Try.ntmps19
      go_wp2_with (go_at_call 26; refine (HT.out _).mono ?_; rintro r wt ⟨rfl, rfl⟩)
      go_ret2
      exact ⟨rfl, rfl⟩
    · rw [if_neg hx] at h
      by_cases hy : (s.size : Int) < 1 + (q : Int) + (m : Int)
      · rw [if_pos hy] at h
        injection h with h1 h2
        subst h1 h2
        go_enter Try.func19, Try.ntmps19
        go_wp2_with (go_at_call 26; refine (HT.out _).mono ?_; rintro r wt ⟨rfl, rfl⟩)
        go_ret2
        exact ⟨rfl, rfl⟩
      · rw [if_neg hy] at h
        injection h with h1 h2
        have HN : Hid (N = 1 + (q : Int) + (m : Int)) := h1.symm
        subst h2
        clear h1
        go_enter Try.func19, Try.ntmps19
        go_wp2_with (go_at_call 26; refine (HT.out _).mono ?_; rintro r wt ⟨rfl, rfl⟩)
        go_ret2
        refine ⟨?_, rfl⟩
        rw [HN.out]
        rfl
/-- A framer's cells. -/
def frArr (rest : ByteArray) (max : Int) (dead : Bool) : Array Value := #[.string rest, .int .i64 max, .bool dead]
theorem mayF_no {rest : ByteArray} {max : Int} {dead : Bool} (h : ¬ (2 ≤ max ∧ max ≤ 8192)) : mayF rest max dead = false := by unfold mayF; rw [decide_eq_false h]; rfl
set_option maxRecDepth 100000 in
set_option maxHeartbeats 4000000 in
theorem FrCheck_is (rest : ByteArray) (max : Int) (dead b : Bool) (w : World) (hs : rest.size ≤ 281474976710656) (hb : mayF rest max dead = b) :
    Calls Try.prog 14 #[.agg (frArr rest max dead)] w fun e w' => e = .returned (.int .i64 (if b = true then 0 else 1)) ∧ Below w.heap.size w w' := by
  have hb0 := Box.new w 23 (frArr rest max dead)
  have ha := (Below.refl w.heap.size w).alloc (Nat.le_refl _) (.cells (frArr rest max dead) 23)
  obtain ⟨W1, hW⟩ : ∃ W1, w.alloc (.cells (frArr rest max dead) 23) = W1 := ⟨_, rfl⟩
  rw [hW] at hb0 ha
  have HA := Lib.hid ha
  obtain ⟨g, hg⟩ : ∃ g, w.heap.size = g := ⟨_, rfl⟩
  rw [hg] at hb0
  have HG := Lib.hid hg
  unfold frArr at hW ⊢
  have HW := Lib.hid hW
  have c0 : W1.cell? ⟨g, 0, none⟩ = some (.string rest) := hb0.cell 0
  have c1 : W1.cell? ⟨g, 1, none⟩ = some (.int .i64 max) := hb0.cell 1
  have c2 : W1.cell? ⟨g, 2, none⟩ = some (.bool dead) := hb0.cell 2
  clear hW hb0 ha hg
  obtain ⟨bm, hbm⟩ : ∃ bm, decide (2 ≤ max ∧ max ≤ 8192) = bm := ⟨_, rfl⟩
  have HM := Lib.hid (fun W => isMax_is max bm W hbm)
  obtain ⟨N, E, hNE⟩ : ∃ N E, sizeS max rest = (N, E) := ⟨_, _, rfl⟩
  have HZ := Lib.hid (fun W => wholeSize_is rest max N E W hs hNE)
  have HB : Hid (b = (bm && (if dead = true then decide (rest.size = 0) else decide (E = 7)))) := by
    show _ = _
    rw [← hb]
    unfold mayF
    rw [hbm, hNE]
  clear hb hbm hNE hs
  cases bm with
  | false =>
    obtain rfl : b = false := HB.out
    go_enter Try.func14, Try.ntmps14
    go_upto_region 1 with fail
    rw [HW.out, HG.out]
    generalize Value.agg _ = v0
    go_wp2_with (go_at_call 13; refine (HM.out _).mono ?_; rintro e w' ⟨rfl, rfl⟩)
    go_ret
    exact ⟨rfl, HA.out⟩
  | true =>
    cases dead with
    | true =>
      have HB2 : Hid (b = decide (rest.size = 0)) := HB.out
      have hbe : (rest.toList.isEmpty) = b := by
        rw [HB2.out]
        by_cases hz : rest.size = 0
        · rw [decide_eq_true hz, ByteArray.size_eq_zero_iff.1 hz, ByteArray.toList_eq]; rfl
        · rw [decide_eq_false hz]; exact (size_facts hz).2
      clear HB HB2
      go_enter Try.func14, Try.ntmps14
      go_upto_region 1 with fail
      rw [HW.out, HG.out]
      generalize Value.agg _ = v0
      go_wp2_with (first | (go_at_call 13; refine (HM.out _).mono ?_; rintro e w' ⟨rfl, rfl⟩) | (go_at_call 18; refine (formUnless_is _ _).mono ?_; rintro e w' ⟨rfl, rfl⟩))
      all_goals go_ret
      all_goals exact ⟨by simp [*], HA.out⟩
    | false =>
      have HB2 : Hid (b = decide (E = 7)) := HB.out
      have hbe : (E == 7) = b := by rw [HB2.out]; rfl
      clear HB HB2
      go_enter Try.func14, Try.ntmps14
      go_upto_region 1 with fail
      rw [HW.out, HG.out]
      generalize Value.agg _ = v0
      go_wp2_with (first | (go_at_call 13; refine (HM.out _).mono ?_; rintro e w' ⟨rfl, rfl⟩) | (go_at_call 19; refine (HZ.out _).mono ?_; rintro e w' ⟨rfl, rfl⟩) | (go_at_call 18; refine (formUnless_is _ _).mono ?_; rintro e w' ⟨rfl, rfl⟩))
      all_goals go_ret
      all_goals exact ⟨by simp [*], HA.out⟩
end Go.Proofs.Ytiancngpknnkaaa
