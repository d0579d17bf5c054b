/- Package name: whether a topic's levels are such as a filter's ask for. -/
import Derived.Test.YtdogeljlcnlbkaaNameAsk
namespace Go.Proofs.Ytdogeljlcnlbkaa
open Go.RowKit Go.Lib Txt Nam

theorem drop_getD {ls : List (List UInt8)} {k : Nat} (hk : k < ls.length) : ls.drop k = ls.getD k [] :: ls.drop (k + 1) := by
  rw [List.drop_eq_getElem_cons hk, List.getD_eq_getElem?_getD, List.getElem?_eq_getElem hk]; rfl
theorem meets_rest {fs ts : List (List UInt8)} {k : Nat} (hk : k < fs.length) (h : fs.getD k [] = [35]) : meets (fs.drop k) (ts.drop k) = true := by
  rw [drop_getD hk, h]
  cases ts.drop k with
  | nil => rfl
  | cons y t => show ([35] == [35] || _) = true; rfl
theorem meets_out {fs ts : List (List UInt8)} {k : Nat} (hk : k < fs.length) (h : fs.getD k [] ≠ [35]) (ht : ts.length ≤ k) : meets (fs.drop k) (ts.drop k) = false := by
  rw [drop_getD hk, List.drop_of_length_le ht]
  show (fs.getD k [] == [35]) = false
  rw [beq_eq_false_iff_ne]; exact h
theorem meets_step {fs ts : List (List UInt8)} {k : Nat} (hk : k < fs.length) (h : fs.getD k [] ≠ [35]) (ht : k < ts.length) : meets (fs.drop k) (ts.drop k) = ((fs.getD k [] == [43] || fs.getD k [] == ts.getD k []) && meets (fs.drop (k + 1)) (ts.drop (k + 1))) := by
  rw [drop_getD hk, drop_getD ht]
  show (fs.getD k [] == [35] || _) = _
  rw [beq_eq_false_iff_ne.2 h, Bool.false_or]
theorem meets_end {fs ts : List (List UInt8)} {k : Nat} (hk : fs.length ≤ k) (ht : k ≤ ts.length) (hk' : k ≤ fs.length) : meets (fs.drop k) (ts.drop k) = decide (fs.length = ts.length) := by
  rw [List.drop_of_length_le hk]
  show (ts.drop k).isEmpty = _
  rw [Bool.eq_iff_iff, List.isEmpty_iff, List.drop_eq_nil_iff, decide_eq_true_eq]
  omega
theorem mayAsk_at {fs : List (List UInt8)} {k : Nat} (h : mayAsk (fs.drop k) = true) (hk : k < fs.length) : (fs.getD k [] = [43] ∨ fs.getD k [] = [35] ∨ plain (fs.getD k []) = true) ∧ mayAsk (fs.drop (k + 1)) = true := by
  rw [mayAsk_step hk, Bool.and_eq_true] at h
  refine ⟨?_, h.2⟩
  have h1 := h.1
  unfold level at h1
  simp only [Bool.or_eq_true, Bool.and_eq_true, beq_iff_eq] at h1
  rcases h1 with (h1 | h1) | h1
  · exact .inl h1
  · exact .inr (.inl h1.1)
  · exact .inr (.inr h1)

set_option maxRecDepth 100000 in
set_option maxHeartbeats 8000000 in
/-- name.meets, of a filter's levels that may be. -/
theorem meets_is (fs ts : List (List UInt8)) (A A' : Option Addr) (c c' : Nat) (b : Bool) (w : World) (hl : fs.length ≤ 1000000) (hl' : ts.length ≤ 1000000) (h : Strs w w.heap.size A fs) (h' : Strs w w.heap.size A' ts) (hf : mayAsk fs = true) (hb : meets fs ts = b) :
    Calls Try.prog 55 #[.slice A fs.length c, .slice A' ts.length c'] w fun e w' => e = .returned (.bool b) ∧ Below w.heap.size w w' := by
  have H := Lib.hid h
  have H' := Lib.hid h'
  have HB := Lib.hid hb
  have HF := Lib.hid hf
  clear h h' hb hf
  go_enter Try.func55, Try.ntmps55
  go_wp2_with fail
  go_loopw [12] (fun i wr => ∃ k : Nat, k ≤ fs.length ∧ k ≤ ts.length ∧ i = .int .i64 (k : Int) ∧ meets (fs.drop k) (ts.drop k) = b ∧ mayAsk (fs.drop k) = true ∧ Below w.heap.size w wr) (fun i _ => fs.length - (RowKit.intOf i).toNat)
  case atStart => exact ⟨0, Nat.zero_le _, Nat.zero_le _, rfl, HB.out, HF.out, Below.refl _ _⟩
  case round =>
    obtain ⟨k, hk, hkt, rfl, hm, hf, hbw⟩ := hrel
    have HM := Lib.hid hm
    have HW := Lib.hid hbw
    have hsz := hbw.size
    clear hm hbw HB HF
    by_cases hlt : k < fs.length
    · obtain ⟨a, rfl, ha, hc⟩ := (H.out.below HW.out).some_ (by omega)
      have hx := hc k hlt
      have hab : (a.add k).block < w.heap.size := by rw [add_block]; exact ha
      obtain ⟨hm1, hm2⟩ := mayAsk_at hf hlt
      have HF2 := Lib.hid hm2
      have hkI : (k : Int) < (fs.length : Int) := by omega
      clear hc hm2 hf
      have hcs := askV_cases (fs.getD k [])
      have MR := fun h => meets_rest (ts := ts) hlt h
      have MO := fun h ht => meets_out (ts := ts) hlt h ht
      have MS := fun h ht => meets_step (ts := ts) hlt h ht
      obtain ⟨x, hxe⟩ : ∃ x, x = fs.getD k [] := ⟨_, rfl⟩
      rw [← hxe] at hx hcs MR MO MS hm1
      have HA := Lib.hid (fun W V hV => ask_is x V W hV)
      clear hxe
      by_cases h35 : x = [35]
      · have h2 : askV x = .iface 94 (.agg #[]) := by rw [h35]; rfl
        have HA1 := Lib.hid (fun W => HA.out W _ h2)
        have HR := Lib.hid (MR h35)
        have as1 := as_rest (.agg #[])
        clear h2 HA h35 hcs MR MO MS hm1
        generalize str x = s at hx HA1
        go_wp2_with (go_at_call 54; refine (HA1.out _).mono ?_; rintro e w1 ⟨rfl, hb1⟩)
        go_ret
        refine ⟨ret_bool ?_, (HW.out.trans (hb1.mono hsz)).alloc (Nat.le_trans hsz hb1.size) _⟩
        rw [← HM.out, HR.out]
      · have hp : x = [43] ∨ plain x = true := by
          rcases hm1 with h | h | h
          · exact .inl h
          · exact absurd h h35
          · exact .inr h
        have as1 : (Instr.typeAssert (askV x) 20 94 true).run Try.prog = fun w => .ok (.tuple #[.agg #[], .bool false]) w := by
          funext w
          rcases hcs with ⟨h1, h2⟩ | ⟨h1, h2⟩ | ⟨h0, h1, h1', h2⟩ | ⟨h0, h1, h1', h2⟩
          · rw [h2]; exact as_one_rest _ w
          · exact absurd h1 h35
          · rw [h2]; exact as_plain_rest _ w
          · rcases hp with h | h
            · exact absurd h h1
            · rw [h0] at h; cases h
        have as2 := fun w => congrFun as1 w
        clear as1
        by_cases hkt2 : k < ts.length
        · have hne : ((k : Int) == (ts.length : Int)) = false := by simp; omega
          have hktI : (k : Int) < (ts.length : Int) := by omega
          obtain ⟨a', rfl, ha', hc'⟩ := (H'.out.below HW.out).some_ (by omega)
          have hy := hc' k hkt2
          have hab' : (a'.add k).block < w.heap.size := by rw [add_block]; exact ha'
          have HS := Lib.hid (MS h35 hkt2)
          obtain ⟨y, hye⟩ : ∃ y, y = ts.getD k [] := ⟨_, rfl⟩
          rw [← hye] at hy HS
          obtain ⟨m, hme⟩ : ∃ m, (x == [43] || x == y) = m := ⟨_, rfl⟩
          rw [hme] at HS
          have HI := Lib.hid (fun W => isMet_is x y m W hme h35 hp)
          have HA1 := Lib.hid (fun W => HA.out W _ rfl)
          clear hc' hye hme hp hcs MR MO MS hm1 HA h35
          generalize askV x = V at HA1 HI as2
          generalize str x = s at hx HA1
          generalize str y = t at hy HI
          go_wp2_with fail
          refine (HA1.out _).mono ?_
          rintro e w1 ⟨rfl, hb1⟩
          have hy1 : w1.cell? (a'.add k) = some (.string t) := by rw [(hb1.cell (Nat.lt_of_lt_of_le hab' hsz))]; exact hy
          have HB1 := Lib.hid (HW.out.trans (hb1.mono hsz))
          have hy2 : ∀ o, (w1.alloc o).cell? (a'.add k) = some (.string t) := fun o => by
            rw [World.cell?_alloc_lt w1 o _ (Nat.lt_of_lt_of_le hab' HB1.out.size)]; exact hy1
          have hy3 := hy2 (.cells #[] 94)
          clear hy hy1 hy2 hb1 HA1 hx
          cases m with
          | true =>
            go_wp2_with (go_at_call 65; refine (HI.out _).mono ?_; rintro e w2 ⟨rfl, hb2⟩)
            go_roundw
            case rel => exact ⟨k + 1, hlt, hkt2, by go_num, by rw [← HM.out, HS.out, Bool.true_and], HF2.out, (HB1.out.alloc HB1.out.size _).trans (hb2.mono (by have := HB1.out.size; simp; omega))⟩
            case measure => simp [RowKit.intOf]; omega
          | false =>
            go_wp2_with (go_at_call 65; refine (HI.out _).mono ?_; rintro e w2 ⟨rfl, hb2⟩)
            go_ret
            refine ⟨ret_bool ?_, (HB1.out.alloc HB1.out.size _).trans (hb2.mono (by have := HB1.out.size; simp; omega))⟩
            rw [← HM.out, HS.out, Bool.false_and]
        · have hne : ((k : Int) == (ts.length : Int)) = true := by simp; omega
          have HO := Lib.hid (MO h35 (by omega))
          have HA1 := Lib.hid (fun W => HA.out W _ rfl)
          clear hp hcs MR MO MS hm1 HA h35
          generalize askV x = V at HA1 as2
          generalize str x = s at hx HA1
          go_wp2_with (go_at_call 54; refine (HA1.out _).mono ?_; rintro e w1 ⟨rfl, hb1⟩)
          go_ret
          refine ⟨ret_bool ?_, (HW.out.trans (hb1.mono hsz)).alloc (Nat.le_trans hsz hb1.size) _⟩
          rw [← HM.out, HO.out]
    · have HE := Lib.hid (meets_end (fs := fs) (ts := ts) (k := k) (by omega) hkt hk)
      have q : ((fs.length : Int) == (ts.length : Int)) = decide (fs.length = ts.length) := by
        rw [Bool.eq_iff_iff]; simp; omega
      go_wp2
      go_ret
      refine ⟨ret_bool ?_, HW.out⟩
      rw [← HM.out, HE.out]
end Go.Proofs.Ytdogeljlcnlbkaa
