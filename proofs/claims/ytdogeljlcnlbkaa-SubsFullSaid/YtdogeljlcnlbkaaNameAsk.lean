/- Package name: whether levels may be a filter's, and whether a topic's are such as they ask for. -/
import Derived.Test.YtdogeljlcnlbkaaNameLevels
namespace Go.Proofs.Ytdogeljlcnlbkaa
open Go.RowKit Go.Lib Txt Nam

theorem mayAsk_step {ls : List (List UInt8)} {k : Nat} (hk : k < ls.length) : mayAsk (ls.drop k) = (level (ls.getD k []) (decide (k + 1 = ls.length)) && mayAsk (ls.drop (k + 1))) := by
  rw [List.drop_eq_getElem_cons hk, List.getD_eq_getElem?_getD, List.getElem?_eq_getElem hk]
  show (level ls[k] (ls.drop (k + 1)).isEmpty && mayAsk (ls.drop (k + 1))) = _
  congr 2
  rw [Bool.eq_iff_iff, List.isEmpty_iff, List.drop_eq_nil_iff, decide_eq_true_eq]
  omega

set_option maxRecDepth 100000 in
set_option maxHeartbeats 4000000 in
/-- name.mayAsk. -/
theorem mayAsk_is (ls : List (List UInt8)) (A : Option Addr) (c : Nat) (b : Bool) (w : World) (hl : ls.length ≤ 1000000) (h : Strs w w.heap.size A ls) (hb : mayAsk ls = b) :
    Calls Try.prog 62 #[.slice A ls.length c] w fun e w' => e = .returned (.bool b) ∧ Below w.heap.size w w' := by
  have H := Lib.hid h
  have HB := Lib.hid hb
  clear h hb
  go_enter Try.func62, Try.ntmps62
  go_wp2_with fail
  go_loopw [16] (fun i wr => ∃ k : Nat, k ≤ ls.length ∧ i = .int .i64 (k : Int) ∧ mayAsk (ls.drop k) = b ∧ Below w.heap.size w wr) (fun i _ => ls.length - (RowKit.intOf i).toNat)
  case atStart => exact ⟨0, Nat.zero_le _, rfl, HB.out, Below.refl _ _⟩
  case round =>
    obtain ⟨k, hk, rfl, hm, hbw⟩ := hrel
    have HM := Lib.hid hm
    have HW := Lib.hid hbw
    have hsz := hbw.size
    clear hm hbw HB
    by_cases hlt : k < ls.length
    · obtain ⟨a, rfl, _, hc⟩ := (H.out.below HW.out).some_ (by omega)
      have hx := hc k hlt
      have HS := Lib.hid (mayAsk_step hlt)
      have hkI : (k : Int) < (ls.length : Int) := by omega
      clear hc
      have hcs := askV_cases (ls.getD k [])
      obtain ⟨x, hxe⟩ : ∃ x, x = ls.getD k [] := ⟨_, rfl⟩
      rw [← hxe] at hx HS hcs
      have HA := Lib.hid (fun W V hV => ask_is x V W hV)
      clear hxe
      rcases hcs with ⟨h1, h2⟩ | ⟨h1, h2⟩ | ⟨h0, h1, h1', h2⟩ | ⟨h0, h1, h1', h2⟩
      · have HA1 := Lib.hid (fun W => HA.out W _ h2)
        have HL := Lib.hid (show ∀ q, level x q = true by intro q; rw [h1]; rfl)
        have as0 := as_one_errno (.agg #[])
        have as1 := as_one_rest (.agg #[])
        clear h1 h2 HA
        generalize str x = s at hx HA1
        go_wp2_with (go_at_call 54; refine (HA1.out _).mono ?_; rintro e w1 ⟨rfl, hb1⟩)
        go_roundw
        case rel => exact ⟨k + 1, hlt, by go_num, by rw [← HM.out, HS.out, HL.out, Bool.true_and], (HW.out.trans (hb1.mono hsz)).alloc (Nat.le_trans hsz hb1.size) _⟩
        case measure => simp [RowKit.intOf]; omega
      · have HA1 := Lib.hid (fun W => HA.out W _ h2)
        have HL := Lib.hid (show ∀ q, level x q = q by intro q; rw [h1]; cases q <;> rfl)
        have as0 := as_rest_errno (.agg #[])
        have as1 := as_rest (.agg #[])
        clear h1 h2 HA
        generalize str x = s at hx HA1
        by_cases hlast : k + 1 = ls.length
        · have q1 : decide ((k : Int) < (ls.length : Int) - 1) = false := by simp; omega
          have HLS := Lib.hid hlast
          clear hlast
          go_wp2_with (go_at_call 54; refine (HA1.out _).mono ?_; rintro e w1 ⟨rfl, hb1⟩)
          go_roundw
          case rel => exact ⟨k + 1, hlt, by go_num, by rw [← HM.out, HS.out, HL.out, decide_eq_true HLS.out, Bool.true_and], (HW.out.trans (hb1.mono hsz)).alloc (Nat.le_trans hsz hb1.size) _⟩
          case measure => simp [RowKit.intOf]; omega
        · have q1 : decide ((k : Int) < (ls.length : Int) - 1) = true := by simp; omega
          go_wp2_with (go_at_call 54; refine (HA1.out _).mono ?_; rintro e w1 ⟨rfl, hb1⟩)
          go_ret
          refine ⟨ret_bool ?_, (HW.out.trans (hb1.mono hsz)).alloc (Nat.le_trans hsz hb1.size) _⟩
          rw [← HM.out, HS.out, HL.out, decide_eq_false hlast, Bool.false_and]
      · have HA1 := Lib.hid (fun W => HA.out W _ h2)
        have HL := Lib.hid (show ∀ q, level x q = true by intro q; unfold level; rw [h0]; simp)
        clear h0 h1 h1' h2 HA
        generalize str x = s at hx HA1
        have as0 := as_plain_errno (.string s)
        have as1 := as_plain_rest (.string s)
        go_wp2_with (go_at_call 54; refine (HA1.out _).mono ?_; rintro e w1 ⟨rfl, hb1⟩)
        go_roundw
        case rel => exact ⟨k + 1, hlt, by go_num, by rw [← HM.out, HS.out, HL.out, Bool.true_and], (HW.out.trans (hb1.mono hsz)).alloc (Nat.le_trans hsz hb1.size) _⟩
        case measure => simp [RowKit.intOf]; omega
      · have HA1 := Lib.hid (fun W => HA.out W _ h2)
        have HL := Lib.hid (show ∀ q, level x q = false by intro q; unfold level; rw [h0]; simp [h1, h1'])
        have as0 := as_errno (.int .i64 8)
        clear h0 h1 h1' h2 HA
        generalize str x = s at hx HA1
        go_wp2_with (go_at_call 54; refine (HA1.out _).mono ?_; rintro e w1 ⟨rfl, hb1⟩)
        go_ret
        refine ⟨ret_bool ?_, HW.out.trans (hb1.mono hsz)⟩
        rw [← HM.out, HS.out, HL.out, Bool.false_and]
    · have HN := Lib.hid (show b = true by rw [← HM.out, List.drop_of_length_le (by omega)]; rfl)
      clear HM
      go_wp2
      go_ret
      exact ⟨ret_bool HN.out.symm, HW.out⟩
end Go.Proofs.Ytdogeljlcnlbkaa
