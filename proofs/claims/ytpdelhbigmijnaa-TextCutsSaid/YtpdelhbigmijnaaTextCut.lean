/- The longest beginning of a text that has so many bytes: the document's own answer, and text.Cut. -/
import Derived.Test.YtpdelhbigmijnaaTextPlainCut
import Derived.Test.YtpdelhbigmijnaaTextCheck
import Derived.Test.YtpdelhbigmijnaaTextRef
import Derived.Test.YtpdelhbigmijnaaTextRunes
namespace Go.Proofs.Ytpdelhbigmijnaa
open Go.RowKit Go.Lib Txt

theorem point_same (s : ByteArray) (w : World) (hs : 0 < s.size) (hm : s.size ≤ 9223372036854775807) (d : Nat × Nat) (h : pt s.data.toList = d) :
    Calls Try.prog 22 #[.string s] w fun e w' => e = .returned (.tuple #[.int .i64 (d.1 : Int), .int .i64 (d.2 : Int)]) ∧ w = w' := by
  rw [← h]; exact (point_any s w hs hm).mono fun _ _ h => ⟨h.1, h.2.symm⟩

set_option maxRecDepth 100000 in
set_option maxHeartbeats 1000000 in
/-- fairwayref1.Cut, of a text that may be. -/
theorem RCut_any (s : ByteArray) (n : Nat) (w : World) (hs : s.size ≤ 1024) (hn : n ≤ 9223372036854775807) (hc : chk s.data.toList = true) :
    Calls Try.prog 19 #[.string s, .int .i64 (n : Int)] w fun e w' => e = .returned (.string (s.extract 0 (Txt.cut s.data.toList n))) ∧ w = w' := by
  have HC := Lib.hid hc
  clear hc
  go_enter Try.func19, Try.ntmps19
  go_wp2_with fail
  go_loop [5] (fun v => ∃ m : Nat, v = .int .i64 (m : Int) ∧ m ≤ s.size ∧ m ≤ n ∧ chk (s.data.toList.drop m) = true ∧ Txt.cut s.data.toList n = m + Txt.cut (s.data.toList.drop m) (n - m)) (fun v => s.size - (RowKit.intOf v).toNat)
  case atStart => exact ⟨0, rfl, Nat.zero_le _, Nat.zero_le _, HC.out, by simp⟩
  case round =>
    obtain ⟨m, rfl, hms, hmn, hc, hcut⟩ := hrel
    by_cases hlt : m < s.size
    · have hne : s.data.toList.drop m ≠ [] := by
        intro e; have := congrArg List.length e; rw [List.length_drop, ← Lib.size_eq] at this; simp at this; omega
      have hz := chk_pt hne hc
      have hle := pt_le hne
      rw [List.length_drop, ← Lib.size_eq] at hle
      have HD := Lib.hid (chk_drop hne hc)
      have HS1 := Lib.hid (fun h => cut_short (l := s.data.toList.drop m) (n := n - m) h)
      have HS2 := Lib.hid (fun h => cut_step (n := n - m) hne hz h)
      have hsz : (s.extract m s.size).size = s.size - m := size_cut s m
      have hp : ∀ W : World, Calls Try.prog 22 #[.string (s.extract m s.size)] W fun e w' => e = .returned (.tuple #[.int .i64 ((pt (s.data.toList.drop m)).1 : Int), .int .i64 ((pt (s.data.toList.drop m)).2 : Int)]) ∧ W = w' :=
        fun W => point_same (s.extract m s.size) W (by omega) (by omega) _ (by rw [data_cut])
      have HP := Lib.hid hp
      have HU := Lib.hid hcut
      clear hc hne hsz hcut hp
      generalize hd : pt (s.data.toList.drop m) = d at HD HS1 HS2 hle hz HP
      have HD2 := Lib.hid hd
      clear hd
      obtain ⟨r, k⟩ := d
      simp only [] at hle hz HS1 HS2
      by_cases hk : n - m < k
      · have HX := Lib.hid (HU.out.trans (by rw [HS1.out hk]; rfl : m + Txt.cut (s.data.toList.drop m) (n - m) = m))
        have hk' : (n : Int) - (m : Int) < (k : Int) := by omega
        go_wp2_with (go_at_call 22; refine (HP.out _).mono ?_; rintro e w' ⟨rfl, rfl⟩)
        go_ret
        refine ⟨?_, rfl⟩
        rw [HX.out]; rfl
      · have HX := Lib.hid (HU.out.trans (by rw [HS2.out (by omega)]))
        have hk' : ¬ (n : Int) - (m : Int) < (k : Int) := by omega
        go_wp2_with (go_at_call 22; refine (HP.out _).mono ?_; rintro e w' ⟨rfl, rfl⟩)
        go_round
        case rel =>
          refine ⟨m + k, by go_num, by omega, by omega, ?_, ?_⟩
          · have := HD.out; rw [List.drop_drop] at this; exact this
          · rw [HX.out, List.drop_drop, Nat.add_assoc, Nat.sub_sub]
        case measure => simp [RowKit.intOf]; omega
    · have e : s.data.toList.drop m = [] := List.drop_of_length_le (by rw [← Lib.size_eq]; omega)
      rw [e, cut_nil] at hcut
      have HX := Lib.hid (show Txt.cut s.data.toList n = s.size by omega)
      clear hcut e hc
      go_wp2
      go_ret
      refine ⟨?_, rfl⟩
      rw [HX.out, extract_all]; rfl

theorem Clone_any (s : ByteArray) (w : World) (hlim : s.size ≤ 281474976710656) :
    Calls Try.prog 28 #[.string s] w fun e w' => e = .returned (.string s) ∧ Below w.heap.size w w' := by
  go_enter Try.func28, Try.ntmps28
  go_wp2_with (go_at_call 34; refine (Try.stringslite_Clone _ _ hlim).mono ?_; rintro e w' ⟨rfl, hb⟩)
  go_ret
  exact ⟨rfl, hb⟩
theorem RuneStart_is (b : Int) (w : World) (h0 : 0 ≤ b) (h1 : b < 256) (r : Bool) (h : Lib.runeStart b = r) :
    Calls Try.prog 29 #[.int .u8 b] w fun e w' => e = .returned (.bool r) ∧ w = w' := by
  rw [← h]; exact (Try.utf8_RuneStart b w h0 h1).mono fun _ _ h => ⟨h.1, h.2.symm⟩
theorem Check_is (s : ByteArray) (E : Int) (w : World) (hm : s.size ≤ 9223372036854775807) (h : textErr s.data.toList = E) :
    Calls Try.prog 13 #[.string s] w fun e w' => e = .returned (.int .i64 E) ∧ Below w.heap.size w w' := by
  rw [← h]; exact Check_any s w hm
theorem runeStart_no (s : ByteArray) (j : Nat) (h : j < s.size) (hl : later s.data.toList j) : Lib.runeStart (s[j].toNat : Int) = false := by
  rw [byt_at s j h]
  unfold later at hl
  unfold Lib.runeStart byt
  generalize (s.data.toList.getD j 0).toNat = x at hl ⊢
  simp
  omega
theorem runeStart_yes (s : ByteArray) (j : Nat) (h : j < s.size) (hl : ¬ later s.data.toList j) : Lib.runeStart (s[j].toNat : Int) = true := by
  rw [byt_at s j h]
  unfold later at hl
  unfold Lib.runeStart byt
  generalize (s.data.toList.getD j 0).toNat = x at hl ⊢
  simp
  omega

set_option maxRecDepth 100000 in
set_option maxHeartbeats 1000000 in
/-- text.Cut. -/
theorem Cut_any (s : ByteArray) (n : Int) (w : World) (hm : s.size ≤ 100000) (h0 : -9223372036854775808 ≤ n) (h1 : n ≤ 9223372036854775807) :
    Calls Try.prog 20 #[.string s, .int .i64 n] w fun e w' => e = .returned (.tuple #[.string (cutStr s n), .int .i64 (cutErr s.data.toList n)]) ∧ Below w.heap.size w w' := by
  obtain ⟨E, hE⟩ : ∃ E, E = textErr s.data.toList := ⟨_, rfl⟩
  have HC := Lib.hid (fun W => Check_is s E W (by omega) hE.symm)
  rcases textErr_cases s.data.toList with ⟨e0, hc, hl⟩ | ⟨e0, _⟩
  · rw [← hE] at e0
    subst e0
    by_cases hn : n < 0
    · have he : cutErr s.data.toList n = 1 := by unfold cutErr; rw [← hE, if_neg (by simp), if_pos hn]
      have HE := Lib.hid he
      have HS := Lib.hid (show cutStr s n = ⟨#[]⟩ by unfold cutStr; rw [he]; rfl)
      clear he hE hc
      go_enter Try.func20, Try.ntmps20
      go_wp2_with (go_at_call 13; refine (HC.out _).mono ?_; rintro e w1 ⟨rfl, hb1⟩)
      go_ret2
      refine ⟨?_, hb1⟩
      rw [HE.out, HS.out]; rfl
    · have he : cutErr s.data.toList n = 0 := by unfold cutErr; rw [← hE, if_neg (by simp), if_neg hn]
      have HE := Lib.hid he
      have HS : Hid (cutStr s n = s.extract 0 (Txt.cut s.data.toList n.toNat)) := Lib.hid (by unfold cutStr; rw [he, if_pos rfl])
      obtain ⟨m, rfl⟩ := Int.eq_ofNat_of_zero_le (show 0 ≤ n by omega)
      rw [Int.toNat_natCast] at HS
      obtain ⟨f1, f2, f3, _, _, f6⟩ := cut_facts _ hc m
      rw [← Lib.size_eq] at f2 f3 f6
      clear he hE hc hl hn
      generalize hcc : Txt.cut s.data.toList m = c at f1 f2 f3 f6 HS
      clear hcc
      by_cases hge : s.size ≤ m
      · have HX := Lib.hid (show cutStr s (m : Int) = s by rw [HS.out, f3 hge, extract_all])
        clear HS f1 f2 f3 f6
        go_enter Try.func20, Try.ntmps20
        go_wp2_with (first | (go_at_call 13; refine (HC.out _).mono ?_; rintro e w1 ⟨rfl, hb1⟩) | (go_at_call 28; refine (Clone_any _ _ (by omega)).mono ?_; rintro e w2 ⟨rfl, hb2⟩))
        go_ret2
        refine ⟨?_, hb1.trans (hb2.mono hb1.size)⟩
        rw [HE.out, HX.out]; rfl
      · obtain ⟨g1, g2⟩ := f6 (by omega)
        have HG1 := Lib.hid g1
        have HG2 := Lib.hid g2
        clear f3 f6 g1 g2
        have hge0 : decide ((s.size : Int) ≤ (m : Int)) = false := by simp; omega
        go_enter Try.func20, Try.ntmps20
        go_wp2_with (go_at_call 13; refine (HC.out _).mono ?_; rintro e w1 ⟨rfl, hb1⟩)
        have HB1 := Lib.hid hb1
        clear hb1
        go_loop [1] (fun v => ∃ j : Nat, v = .int .i64 (j : Int) ∧ c ≤ j ∧ j ≤ m) (fun v => (RowKit.intOf v).toNat)
        case atStart => exact ⟨m, rfl, f1, Nat.le_refl _⟩
        case round =>
          obtain ⟨j, rfl, hj1, hj2⟩ := hrel
          have hjs : j < s.size := by omega
          have hu : s[j].toNat < 256 := UInt8.toNat_lt _
          by_cases hjc : j = c
          · have hst : Lib.runeStart (s[j].toNat : Int) = true := runeStart_yes s j hjs (by rw [hjc]; exact HG1.out)
            have HR := Lib.hid (fun W => RuneStart_is (s[j].toNat : Int) W (by omega) (by omega) true hst)
            have HJ := Lib.hid hjc
            clear hst hjc
            go_wp2_with (first | (go_at_call 29; refine (HR.out _).mono ?_; rintro e w' ⟨rfl, rfl⟩) | (go_at_call 28; refine (Clone_any _ _ (by rw [ByteArray.size_extract]; omega)).mono ?_; rintro e w2 ⟨rfl, hb2⟩))
            go_ret2
            refine ⟨?_, HB1.out.trans (hb2.mono HB1.out.size)⟩
            rw [HE.out, HS.out, ← HJ.out]; rfl
          · have hlt := HG2.out j (by omega) hj2
            have hst : Lib.runeStart (s[j].toNat : Int) = false := runeStart_no s j hjs hlt
            have HR := Lib.hid (fun W => RuneStart_is (s[j].toNat : Int) W (by omega) (by omega) false hst)
            obtain ⟨i, rfl⟩ : ∃ i, j = i + 1 := ⟨j - 1, by omega⟩
            clear hst hlt
            go_wp2_with (go_at_call 29; refine (HR.out _).mono ?_; rintro e w' ⟨rfl, rfl⟩)
            go_round
            case rel => exact ⟨i, by go_num, by omega, by omega⟩
            case measure => simp [RowKit.intOf]
  · have hne : cutErr s.data.toList n = E := by unfold cutErr; rw [if_pos e0, hE]
    rw [← hE] at e0
    have HS := Lib.hid (show cutStr s n = ⟨#[]⟩ by unfold cutStr; rw [hne, if_neg e0])
    have HE := Lib.hid hne
    have hb : (E != 0) = true := by rw [bne_iff_ne]; exact e0
    clear hE hne e0
    go_enter Try.func20, Try.ntmps20
    go_wp2_with (go_at_call 13; refine (HC.out _).mono ?_; rintro e w1 ⟨rfl, hb1⟩)
    go_ret2
    refine ⟨?_, hb1⟩
    rw [HE.out, HS.out]; rfl
end Go.Proofs.Ytpdelhbigmijnaa
