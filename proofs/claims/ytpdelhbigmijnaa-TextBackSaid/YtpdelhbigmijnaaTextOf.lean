/- text.Of: the bytes of code points, or the error. -/
import Derived.Test.YtpdelhbigmijnaaTextMem
import Derived.Test.YtpdelhbigmijnaaTextCheck
import Derived.Test.YtpdelhbigmijnaaTextPlainOf
namespace Go.Proofs.Ytpdelhbigmijnaa
open Go.RowKit Go.Lib Txt

theorem RuneLen_good (r : Int) (w : World) (h : good r = true) :
    Calls Try.prog 25 #[.int .i32 r] w fun e w' => e = .returned (.int .i64 ((encodeRuneZ r).length : Int)) ∧ w = w' := by
  rw [← runeLen_good r h]
  exact (Try.utf8_RuneLen r w).mono fun _ _ h => ⟨h.1, h.2.symm⟩
theorem mayBe_same (n : Int) (b : Bool) (w : World) (h : good n = b) :
    Calls Try.prog 23 #[.int .i32 n] w fun e w' => e = .returned (.bool b) ∧ w = w' := (mayBe_at n b w h).mono fun _ _ h => ⟨h.1, h.2.symm⟩

set_option maxRecDepth 100000 in
set_option maxHeartbeats 1000000 in
theorem Of_any (xs : List Int) (A : Option Addr) (c B : Nat) (w : World) (hm : xs.length ≤ 9223372036854775807) (h : Nums w B .i32 A xs) :
    Calls Try.prog 16 #[.slice A xs.length c] w fun e w' => e = .returned (.tuple #[.string (ofStr xs), .int .i64 (ofErr xs)]) ∧ w = w' := by
  have H := Lib.hid h
  clear h
  go_enter Try.func16, Try.ntmps16
  go_wp2_with fail
  go_loop [4, 9] (fun z i => ∃ (k n : Nat), k ≤ xs.length ∧ n ≤ 1024 ∧ i = .int .i64 (k : Int) ∧ z = .int .i64 (n : Int) ∧ ofErr xs = ofGo n (xs.drop k)) (fun _ i => xs.length - (RowKit.intOf i).toNat)
  case atStart => exact ⟨0, 0, Nat.zero_le _, by omega, rfl, rfl, rfl⟩
  case round =>
    obtain ⟨k, n, hk, hn, rfl, rfl, he⟩ := hrel
    by_cases hlt : k < xs.length
    · obtain ⟨a, rfl, _, hc⟩ := H.out.some_ (by omega)
      have h1 := hc k hlt
      have hkI : (k : Int) < (xs.length : Int) := by omega
      have hd : xs.drop k = xs.getD k 0 :: xs.drop (k + 1) := by
        rw [List.drop_eq_getElem_cons hlt, List.getD_eq_getElem?_getD, List.getElem?_eq_getElem hlt]; rfl
      rw [hd] at he
      have HE := Lib.hid he
      clear hc he hd H
      generalize xs.getD k 0 = r at h1 HE
      cases hg : good r with
      | false =>
        have HX := Lib.hid (HE.out.trans (ofGo_bad hg))
        have hg' := Lib.hid hg
        clear hg HE
        go_wp2_with (go_at_call 23; refine (mayBe_same _ false _ hg'.out).mono ?_; rintro e w' ⟨rfl, rfl⟩)
        go_ret2
        refine ⟨?_, rfl⟩
        unfold ofStr
        rw [HX.out]; rfl
      | true =>
        have hlen := encodeRuneZ_length r
        by_cases hl : 1024 < n + (encodeRuneZ r).length
        · have HX := Lib.hid (HE.out.trans (ofGo_long hg hl))
          have HL := Lib.hid (fun W => RuneLen_good r W hg)
          have hg' := Lib.hid hg
          clear hg HE
          generalize (encodeRuneZ r).length = m at hlen hl HL
          go_wp2_with (first | (go_at_call 23; refine (mayBe_same _ true _ hg'.out).mono ?_; rintro e w' ⟨rfl, rfl⟩) | (go_at_call 25; refine (HL.out _).mono ?_; rintro e w' ⟨rfl, rfl⟩))
          go_ret2
          refine ⟨?_, rfl⟩
          unfold ofStr
          rw [HX.out]; rfl
        · have HX := Lib.hid (HE.out.trans (ofGo_step hg hl))
          have HL := Lib.hid (fun W => RuneLen_good r W hg)
          have hg' := Lib.hid hg
          clear hg HE
          generalize (encodeRuneZ r).length = m at hlen hl HL HX
          go_wp2_with (first | (go_at_call 23; refine (mayBe_same _ true _ hg'.out).mono ?_; rintro e w' ⟨rfl, rfl⟩) | (go_at_call 25; refine (HL.out _).mono ?_; rintro e w' ⟨rfl, rfl⟩))
          go_round
          case rel => exact ⟨k + 1, n + m, hlt, by omega, by go_num, by go_num, HX.out⟩
          case measure => simp [RowKit.intOf]; omega
    · have e : xs.drop k = [] := List.drop_of_length_le (by omega)
      rw [e] at he
      have he0 : ofErr xs = 0 := he
      have hstr : ofStr xs = strOfNums (encZ xs) := by unfold ofStr; rw [he0]; rfl
      have hgood := ofGo_good xs 0 he0
      have hconv : (convert 24 9 (.slice A xs.length c)).run Try.prog w = .ok (.string (ofStr xs)) w := by
        rw [hstr, ← runesBytes_good xs hgood]
        rcases H.out with h0 | ⟨a, rfl, _, hc⟩
        · subst h0
          cases A with
          | none => exact run_convert_runes_nil w _ _ 21 _ _ Try.underlying24 Try.underlying21 Try.underlying9
          | some a => exact run_convert_runes w _ _ 21 a 0 c [] (Nat.zero_le _) Try.underlying24 Try.underlying21 Try.underlying9 (by simp)
        · have := run_convert_runes (P := Try.prog) w _ _ 21 a xs.length c xs (Nat.le_refl _) Try.underlying24 Try.underlying21 Try.underlying9 hc
          rw [List.take_length] at this
          exact this
      have HO := Lib.hid he0
      clear he he0 hstr hgood e H
      obtain ⟨S, hS⟩ : ∃ S, S = ofStr xs := ⟨_, rfl⟩
      rw [← hS] at hconv
      have HS := Lib.hid hS
      clear hS
      go_wp2_with fail
      go_ret2
      refine ⟨?_, rfl⟩
      rw [HO.out, ← HS.out]; rfl
end Go.Proofs.Ytpdelhbigmijnaa
