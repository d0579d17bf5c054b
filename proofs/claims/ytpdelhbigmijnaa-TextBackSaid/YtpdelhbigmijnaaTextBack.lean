/- TextBack: a text's code points make it again; put behind itself it may be unless it is too long; cut anywhere it is a beginning, and what is left may be. -/
import Derived.Test.YtpdelhbigmijnaaTextOfs
import Derived.Test.YtpdelhbigmijnaaTextCuts
import Derived.Test.YtpdelhbigmijnaaTextPlainBack
namespace Go.Proofs.Ytpdelhbigmijnaa
open Go.RowKit Go.Lib Txt

theorem Within_same (i n : Int) (w : World) (h0 : 0 < n) (h1 : n ≤ 100000) :
    Calls Try.prog 21 #[.int .i64 i, .int .i64 n] w fun e w' => ∃ k : Int, e = .returned (.int .i64 k) ∧ 0 ≤ k ∧ k < n ∧ w = w' :=
  (Within_any i n w h0 h1).mono fun _ _ ⟨k, a, b, c, d⟩ => ⟨k, a, b, c, d.symm⟩
/-- What a beginning of a text is. -/
theorem cut_text (s : ByteArray) (hc : chk s.data.toList = true) (hl : s.size ≤ 1024) (n : Int) (h0 : 0 ≤ n) :
    ∃ T : ByteArray, cutStr s n = T ∧ cutErr s.data.toList n = 0 ∧ (T.size : Int) ≤ n ∧ T.size ≤ s.size ∧ s.extract 0 T.size = T ∧ textErr (s.extract T.size s.size).data.toList = 0 ∧ (n ≤ s.size → n ≤ T.size + 3) ∧ ((s.size : Int) ≤ n → T.size = s.size) := by
  obtain ⟨m, rfl⟩ := Int.eq_ofNat_of_zero_le h0
  have he : cutErr s.data.toList (m : Int) = 0 := by
    unfold cutErr
    have : textErr s.data.toList = 0 := by unfold textErr; rw [← Lib.size_eq, if_neg (by omega), hc]; rfl
    rw [this, if_neg (by simp), if_neg (by omega)]
  obtain ⟨f1, f2, f3, f4, f5, _⟩ := cut_facts _ hc m
  rw [← Lib.size_eq] at f2 f3 f5
  have hsz : (s.extract 0 (Txt.cut s.data.toList m)).size = Txt.cut s.data.toList m := by rw [ByteArray.size_extract]; omega
  refine ⟨s.extract 0 (Txt.cut s.data.toList m), ?_, he, by omega, by omega, by rw [hsz], ?_, fun h => by have := f5 (by omega); omega, fun h => by have := f3 (by omega); omega⟩
  · unfold cutStr; rw [he, if_pos rfl, Int.toNat_natCast]
  · rw [hsz, data_cut]
    unfold textErr
    rw [f4, if_neg (by rw [List.length_drop, ← Lib.size_eq]; omega)]; rfl

set_option maxRecDepth 100000 in
set_option maxHeartbeats 8000000 in
theorem TextBack_any (A : Option Addr) (n c : Nat) (w : World) (h : Asks w A n) :
    Calls Try.prog 6 #[.slice A n c] w fun e w' => e = .returned (.bool true) ∧ Below w.heap.size w w' := by
  have H := Lib.hid h
  clear h
  go_enter Try.func6, Try.ntmps6
  go_wp2_with fail
  go_loopw [3] (fun i wr => ∃ k : Nat, k ≤ n ∧ k ≤ 15 ∧ i = .int .i64 (k : Int) ∧ Below w.heap.size w wr) (fun i _ => 15 - (RowKit.intOf i).toNat)
  case atStart => exact ⟨0, Nat.zero_le _, by omega, rfl, Below.refl _ _⟩
  case round =>
    obtain ⟨k, hkn, hk15, rfl, hnx⟩ := hrel
    by_cases hgo : k < n ∧ k < 15
    · obtain ⟨h1, h2⟩ := hgo
      rcases H.out with h0 | ⟨b, off, rfl, hall⟩
      · omega
      · obtain ⟨s, P, xs, cc, x, ha⟩ := hall k h1
        have HA := Lib.hid (ha.below hnx)
        have HX := Lib.hid hnx
        clear hall ha hnx H
        have q0 := HA.out.c0
        have q1 := HA.out.c1
        have q2 := HA.out.c2
        have hkn' : (k : Int) < (n : Int) := by omega
        have hk15' : (k : Int) < 15 := by omega
        cases hh : heavyB s.size xs.length with
        | true =>
          have HH := Lib.hid (fun W => heavy_is s P xs.length cc x W true hh)
          clear hh
          go_wp2_with (go_at_call 8; refine (HH.out _).mono ?_; rintro e w1 ⟨rfl, hb1⟩)
          go_ret
          exact ⟨rfl, HX.out.trans (hb1.mono HX.out.size)⟩
        | false =>
          have HH := Lib.hid (fun W => heavy_is s P xs.length cc x W false hh)
          have hsz : s.size ≤ 3000 := (heavy_not hh).1
          clear hh
          go_wp2_with fail
          refine (HH.out _).mono ?_
          rintro e w1 ⟨rfl, hb1⟩
          have HA1 := Lib.hid (HA.out.below (hb1.mono HX.out.size))
          have HX1 := Lib.hid (HX.out.trans (hb1.mono HX.out.size))
          clear q0 q1 q2 hb1 HH HA HX
          have q0 := HA1.out.c0
          have q1 := HA1.out.c1
          have q2 := HA1.out.c2
          have HR := Lib.hid (fun W => Runes_any s W (by omega))
          rcases textErr_cases s.data.toList with ⟨e0, hc, hl⟩ | ⟨e0, _⟩
          · rw [← Lib.size_eq] at hl
            have hrl : rlist s.data.toList = runes s.data.toList := by unfold rlist; rw [if_pos e0]
            obtain ⟨o1, o2⟩ := of_runes s hc hl
            have HT2 := Lib.hid (twice_err s hc)
            have hlen := runes_len _ hc
            rw [← Lib.size_eq] at hlen
            have HCT := Lib.hid (fun m => cut_text s hc hl m)
            obtain ⟨rs, hrs⟩ : ∃ rs, rs = runes s.data.toList := ⟨_, rfl⟩
            rw [← hrs] at hrl o1 o2 hlen
            have HRL := Lib.hid hrl
            have HE := Lib.hid e0
            have HO : ∀ (B' c' : Nat) (A' : Option Addr) (W : World), Nums W B' .i32 A' rs → Calls Try.prog 16 #[.slice A' rs.length c'] W fun e w' => e = .returned (.tuple #[.string s, .int .i64 0]) ∧ W = w' := by
              intro B' c' A' W hW
              have := Of_any rs A' c' B' W (by omega) hW
              rw [o1, o2] at this
              exact this
            have HO' := Lib.hid HO
            clear e0 hc hrl hrs o1 o2 HO
            go_wp2_with fail
            refine (HR.out _).mono ?_
            rintro e w3 ⟨A3, c3, he, n3, hb3⟩
            rw [HRL.out, HE.out] at he
            rw [HRL.out] at n3
            subst he
            have HA3 := Lib.hid (HA1.out.below (hb3.mono HX1.out.size))
            have HX3 := Lib.hid (HX1.out.trans (hb3.mono HX1.out.size))
            have HN3 := Lib.hid n3
            clear q0 q1 q2 hb3 HA1 HX1 n3 HR
            by_cases h2s : 1024 < 2 * s.size
            · have HK := Lib.hid (fun W => Check_is (s ++ s) 2 W (by rw [ByteArray.size_append]; omega) (by rw [HT2.out, if_pos h2s]))
              go_wp2_with (first | (go_at_call 12; refine (num_same _ _).mono ?_; rintro e w' ⟨rfl, rfl⟩) | (go_at_call 16; refine (HO'.out _ _ _ _ HN3.out).mono ?_; rintro e w' ⟨rfl, rfl⟩))
              refine (HK.out _).mono ?_
              rintro e w4 ⟨rfl, hb4⟩
              have HA4 := Lib.hid (HA3.out.below (hb4.mono HX3.out.size))
              have HX4 := Lib.hid (HX3.out.trans (hb4.mono HX3.out.size))
              clear hb4 HA3 HX3 HN3 HK HO'
              have q0 := HA4.out.c0
              have q1 := HA4.out.c1
              have q2 := HA4.out.c2
              go_wp2_with (go_at_call 12; refine (num_same _ _).mono ?_; rintro e w' ⟨rfl, rfl⟩)
              refine (Within_same _ _ _ (by omega) (by omega)).mono ?_
              rintro e w' ⟨m, rfl, hm0, hm1, rfl⟩
              obtain ⟨T, t1, t2, t3, t4, t5, t6, t7, t8⟩ := HCT.out m hm0
              have HKc := Lib.hid (fun W => Cut_is s m T 0 W (by omega) (by omega) (by omega) t1 t2)
              have HKd := Lib.hid (fun W => Check_is (s.extract T.size s.size) 0 W (by rw [size_cut]; omega) t6)
              have hmin : ¬ ((T.size : Int) < min m (s.size : Int) - 3) := by omega
              clear t1 t2 t6 t7 t8 HCT q0 q1 q2
              go_wp2_with (first | (go_at_call 12; refine (num_same _ _).mono ?_; rintro e w' ⟨rfl, rfl⟩) | (go_at_call 20; refine (HKc.out _).mono ?_; rintro e w5 ⟨rfl, hb5⟩))
              have HX5 := Lib.hid (HX4.out.trans (hb5.mono HX4.out.size))
              clear hb5 HX4 HA4 HKc
              refine (HKd.out _).mono ?_
              rintro e w6 ⟨rfl, hb6⟩
              have HX6 := Lib.hid (HX5.out.trans (hb6.mono HX5.out.size))
              clear hb6 HX5 HKd
              go_wp2_with (go_at_call 12; refine (num_same _ _).mono ?_; rintro e w' ⟨rfl, rfl⟩)
              go_roundw
              case rel => exact ⟨k + 1, h1, h2, by go_num, HX6.out⟩
              case measure => simp [RowKit.intOf]; omega
            · have HK := Lib.hid (fun W => Check_is (s ++ s) 0 W (by rw [ByteArray.size_append]; omega) (by rw [HT2.out, if_neg h2s]))
              go_wp2_with (first | (go_at_call 12; refine (num_same _ _).mono ?_; rintro e w' ⟨rfl, rfl⟩) | (go_at_call 16; refine (HO'.out _ _ _ _ HN3.out).mono ?_; rintro e w' ⟨rfl, rfl⟩))
              refine (HK.out _).mono ?_
              rintro e w4 ⟨rfl, hb4⟩
              have HA4 := Lib.hid (HA3.out.below (hb4.mono HX3.out.size))
              have HX4 := Lib.hid (HX3.out.trans (hb4.mono HX3.out.size))
              clear hb4 HA3 HX3 HN3 HK HO'
              have q0 := HA4.out.c0
              have q1 := HA4.out.c1
              have q2 := HA4.out.c2
              go_wp2_with (go_at_call 12; refine (num_same _ _).mono ?_; rintro e w' ⟨rfl, rfl⟩)
              refine (Within_same _ _ _ (by omega) (by omega)).mono ?_
              rintro e w' ⟨m, rfl, hm0, hm1, rfl⟩
              obtain ⟨T, t1, t2, t3, t4, t5, t6, t7, t8⟩ := HCT.out m hm0
              have HKc := Lib.hid (fun W => Cut_is s m T 0 W (by omega) (by omega) (by omega) t1 t2)
              have HKd := Lib.hid (fun W => Check_is (s.extract T.size s.size) 0 W (by rw [size_cut]; omega) t6)
              have hmin : ¬ ((T.size : Int) < min m (s.size : Int) - 3) := by omega
              clear t1 t2 t6 t7 t8 HCT q0 q1 q2
              go_wp2_with (first | (go_at_call 12; refine (num_same _ _).mono ?_; rintro e w' ⟨rfl, rfl⟩) | (go_at_call 20; refine (HKc.out _).mono ?_; rintro e w5 ⟨rfl, hb5⟩))
              have HX5 := Lib.hid (HX4.out.trans (hb5.mono HX4.out.size))
              clear hb5 HX4 HA4 HKc
              refine (HKd.out _).mono ?_
              rintro e w6 ⟨rfl, hb6⟩
              have HX6 := Lib.hid (HX5.out.trans (hb6.mono HX5.out.size))
              clear hb6 HX5 HKd
              go_wp2_with (go_at_call 12; refine (num_same _ _).mono ?_; rintro e w' ⟨rfl, rfl⟩)
              go_roundw
              case rel => exact ⟨k + 1, h1, h2, by go_num, HX6.out⟩
              case measure => simp [RowKit.intOf]; omega
          · have hrl : rlist s.data.toList = [] := by unfold rlist; rw [if_neg e0]
            obtain ⟨E, hE⟩ : ∃ E, E = textErr s.data.toList := ⟨_, rfl⟩
            have hE0 : (E != 0) = true := by rw [bne_iff_ne, hE]; exact e0
            have HE := Lib.hid hE
            have HRL := Lib.hid hrl
            clear hrl hE e0
            go_wp2_with fail
            refine (HR.out _).mono ?_
            rintro e w3 ⟨A3, c3, he, _, hb3⟩
            rw [HRL.out, ← HE.out] at he
            subst he
            have HX3 := Lib.hid (HX1.out.trans (hb3.mono HX1.out.size))
            clear q0 q1 q2 hb3 HA1 HX1 HR
            go_wp2_with (go_at_call 12; refine (num_same _ _).mono ?_; rintro e w' ⟨rfl, rfl⟩)
            go_roundw
            case rel => exact ⟨k + 1, h1, h2, by go_num, HX3.out⟩
            case measure => simp [RowKit.intOf]; omega
    · go_wp2_with (go_at_call 15; refine (wakes_any _).mono ?_; rintro e w1 ⟨rfl, hb1⟩)
      all_goals (go_ret; exact ⟨rfl, hnx.trans (hb1.mono hnx.size)⟩)
end Go.Proofs.Ytpdelhbigmijnaa
