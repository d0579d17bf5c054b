/- There is room for so many subscriptions; one more is told so; one of a topic that is there is taken; each is found until it is deleted. -/
import Derived.Test.YtdogeljlcnlbkaaSubLaw
import Derived.Laws.BytesArg
namespace Go.Proofs.Ytdogeljlcnlbkaa.Sbs
open Go.RowKit Go.Lib Txt Nam

/-- The text of a letter. -/
def lt1 (k : Nat) : ByteArray := str [UInt8.ofNat (97 + k)]
theorem nums_letter : ∀ k : Nat, k < 9 → (strOfNums [97 + (k : Int)]).data.toList = [UInt8.ofNat (97 + k)] := by decide +kernel
theorem conv_letter (k : Nat) (hk : k < 9) (w : World) : (convert 35 9 (.slice (some ⟨w.heap.size, 0, none⟩) 1 1)).run Try.prog (w.alloc (.cells #[.int .u8 (97 + (k : Int))] 5)) = .ok (.string (lt1 k)) (w.alloc (.cells #[.int .u8 (97 + (k : Int))] 5)) := by
  have h := run_convert_bytes_arg (P := Try.prog) (w.alloc (.cells #[.int .u8 (97 + (k : Int))] 5)) 35 5 Try.underlying35 Try.underlying5 w.heap.size 0 1 1 [97 + (k : Int)] rfl (fun i hi => by
    obtain rfl : i = 0 := by simpa using hi
    exact cell_of_row (w.alloc _) w.heap.size 0 _ _ (0, 0) (heap_alloc_new w _)) 9 Try.underlying9
  rw [h]
  have e := nums_letter k hk
  rw [← data_str (strOfNums [97 + (k : Int)]), e]
  rfl
theorem letter_cat (k : Nat) : (⟨#[116]⟩ : ByteArray) ++ lt1 k = str (tp k) := by apply ByteArray.ext; simp [lt1, str, tp]
theorem letter_size (k : Nat) : (lt1 k).size = 1 := by unfold lt1; rw [str_size]; rfl

/-- What Put tells of the next one. -/
theorem put_next (k : Nat) (hk : k < 8) (A : Option Addr) (c : Nat) (w : World) (h : SubsAt w w.heap.size A (fs k)) :
    Calls Try.prog 4 #[.slice A k c, sagg (sb k)] w fun e w' => ∃ A' c', e = .returned (.tuple #[.slice A' (k + 1) c', .bool false, .int .i64 0]) ∧ SubsAt w' w'.heap.size A' (fs (k + 1)) ∧ Below w.heap.size w w' := by
  have hp := Put_new (fs k) (sb k) A c w h (may_of (fs_may k (by omega))) (fine_of (sb_fine k (by omega))) (by rw [fs_len]; exact place_of (fs_place k (by omega))) (by rw [fs_len]; exact hk)
  rw [fs_len, fs_step] at hp
  refine hp.mono ?_
  rintro e w' ⟨A', c', rfl, hown, hb⟩
  have hs := SubsAt.of_own hown
  rw [fs_len]
  exact ⟨A', c', rfl, hs, hb⟩
theorem put_more (A : Option Addr) (c : Nat) (w : World) (h : SubsAt w w.heap.size A (fs 8)) :
    Calls Try.prog 4 #[.slice A 8 c, sagg (sb 8)] w fun e w' => e = .returned (.tuple #[.slice none 0 0, .bool false, .int .i64 5]) ∧ Below w.heap.size w w' := by
  have hp := Put_full (fs 8) (sb 8) A c 8 w h (may_of (fs_may 8 (by omega))) (fine_of (sb_fine 8 (by omega))) (place_of (fs_place 8 (by omega))) (fs_len 8)
  rwa [fs_len] at hp
theorem put_again (k : Nat) (hk : k < 8) (A : Option Addr) (c : Nat) (w : World) (h : SubsAt w w.heap.size A (fs 8)) :
    Calls Try.prog 4 #[.slice A 8 c, sagg (s2 k)] w fun e w' => ∃ A' c', e = .returned (.tuple #[.slice A' 8 c', .bool true, .int .i64 0]) ∧ SubsAt w' w'.heap.size A' (xs k) ∧ Below w.heap.size w w' := by
  have hp := Put_old (fs 8) (s2 k) A c k w h (may_of (fs_may 8 (by omega))) (fine_of (s2_fine k hk)) (place_of (fs_there k hk)) (by rw [fs_len]; exact hk)
  rw [fs_len] at hp
  refine hp.mono ?_
  rintro e w' ⟨A', c', rfl, hs, hb⟩
  rw [List.length_set, fs_len]
  exact ⟨A', c', rfl, hs, hb⟩
theorem find_x (k : Nat) (hk : k < 8) (A : Option Addr) (c : Nat) (w : World) (h : SubsAt w w.heap.size A (xs k)) :
    Calls Try.prog 7 #[.slice A 8 c, .string (str (tp k))] w fun e w' => e = .returned (.tuple #[.agg (sarr (str (tp k)) 2), .int .i64 0]) ∧ Below w.heap.size w w' := by
  have hp := Find_yes (xs k) A c (tp k) k (s2 k) w h (may_of (xs_may k hk)) (place_of (xs_place k hk)) (by rw [xs_len]; exact hk) (xs_at k hk)
  rwa [xs_len] at hp
theorem most_x (k : Nat) (hk : k < 8) (A : Option Addr) (c : Nat) (w : World) (h : SubsAt w w.heap.size A (xs k)) :
    Calls Try.prog 8 #[.slice A 8 c, .string (str (tp k))] w fun e w' => e = .returned (.tuple #[.int .i64 2, .int .i64 0]) ∧ Below w.heap.size w w' := by
  have hp := Most_is (xs k) A c (tp k) [s2 k] 2 w h (may_of (xs_may k hk)) (by show 2 ≤ 1000000; omega) (tp_name k hk) (xs_reached k hk) rfl
  rwa [xs_len] at hp
theorem del_x (k : Nat) (hk : k < 8) (A : Option Addr) (c : Nat) (w : World) (h : SubsAt w w.heap.size A (xs k)) :
    Calls Try.prog 9 #[.slice A 8 c, .string (str (tp k))] w fun e w' => ∃ A' c', e = .returned (.tuple #[.slice A' 7 c', .int .i64 0]) ∧ SubsAt w' w'.heap.size A' (ys k) ∧ Below w.heap.size w w' := by
  have hp := Del_yes (xs k) A c (tp k) k w h (may_of (xs_may k hk)) (place_of (xs_place k hk)) (by rw [xs_len]; exact hk)
  rw [xs_len] at hp
  refine hp.mono ?_
  rintro e w' ⟨A', c', rfl, hs, hb⟩
  have hl := ys_len k hk
  unfold ys at hl
  rw [hl]
  exact ⟨A', c', rfl, hs, hb⟩
theorem find_y (k : Nat) (hk : k < 8) (A : Option Addr) (c : Nat) (w : World) (h : SubsAt w w.heap.size A (ys k)) :
    Calls Try.prog 7 #[.slice A 7 c, .string (str (tp k))] w fun e w' => e = .returned (.tuple #[.agg zcells, .int .i64 3]) ∧ Below w.heap.size w w' := by
  have hp := Find_no (ys k) A c (tp k) k w h (may_of (ys_may k hk)) (place_of (ys_place k hk))
  rwa [ys_len k hk] at hp
theorem most_y (k : Nat) (hk : k < 8) (A : Option Addr) (c : Nat) (w : World) (h : SubsAt w w.heap.size A (ys k)) :
    Calls Try.prog 8 #[.slice A 7 c, .string (str (tp k))] w fun e w' => e = .returned (.tuple #[.int .i64 (-1), .int .i64 0]) ∧ Below w.heap.size w w' := by
  have hp := Most_is (ys k) A c (tp k) [] (-1) w h (may_of (ys_may k hk)) (by show 2 ≤ 1000000; omega) (tp_name k hk) (ys_reached k hk) rfl
  rwa [ys_len k hk] at hp

set_option maxRecDepth 100000 in
set_option maxHeartbeats 8000000 in
theorem SubsFull_any (A B : Option Addr) (n n' c c' : Nat) (w : World) :
    Calls Try.prog 3 #[.agg #[.slice A n c, .slice B n' c']] w fun e w' => e = .returned (.bool true) ∧ Below w.heap.size w w' := by
  have HB := Lib.hid (Blk.new w 25 #[.slice A n c, .slice B n' c'])
  have HX := Lib.hid ((Below.refl w.heap.size w).alloc (Nat.le_refl _) (.cells #[.slice A n c, .slice B n' c'] 25))
  go_enter Try.func3, Try.ntmps3
  go_upto_region 1 with fail
  obtain ⟨W0, hW⟩ : ∃ W0, w.alloc (.cells #[.slice A n c, .slice B n' c'] 25) = W0 := ⟨_, rfl⟩
  rw [hW] at HB HX ⊢
  clear hW
  obtain ⟨g, hg⟩ : ∃ g, w.heap.size = g := ⟨_, rfl⟩
  have HG := Lib.hid hg
  rw [hg] at HB ⊢
  clear hg
  go_wp2_with fail
  go_loopw [3, 4] (fun s i wr => ∃ (k : Nat) (A : Option Addr) (c : Nat), k ≤ 8 ∧ i = .int .i64 (k : Int) ∧ s = .slice A k c ∧ SubsAt wr wr.heap.size A (fs k) ∧ Below W0.heap.size W0 wr) (fun _ i _ => 9 - (RowKit.intOf i).toNat)
  case atStart => exact ⟨0, none, 0, by omega, rfl, rfl, .none_, Below.refl _ _⟩
  case round =>
    obtain ⟨k, A1, c1, hk, rfl, rfl, hs, hb⟩ := hrel
    have HS1 := Lib.hid hs
    have HX1 := Lib.hid hb
    have hsz1 := hb.size
    clear hs hb
    have cv := conv_letter k (by omega) wr
    have hcat := letter_cat k
    have hz : ¬ (9223372036854775807 < 1 + (lt1 k).size) := by rw [letter_size]; omega
    have hba := (Below.refl wr.heap.size wr).alloc (Nat.le_refl _) (.cells #[.int .u8 (97 + (k : Int))] 5)
    have HBA := Lib.hid hba
    have HS := Lib.hid (fun W => show Calls Try.prog 5 #[.string (str (tp k)), .int .i64 ((k : Int) % 3)] W fun e w' => e = .returned (sagg (sb k)) ∧ Below W.heap.size W w' from S_is (sb k) W (fine_of (sb_fine k (by omega))))
    generalize lt1 k = x at cv hcat hz
    generalize str (tp k) = tx at hcat HS
    clear hba
    by_cases hlt : k < 8
    · have HP := Lib.hid (fun A c W h => put_next k hlt A c W h)
      generalize sagg (sb k) = sg at HS HP
      have hkI : (k : Int) < 8 := by omega
      go_wp2_with fail
      refine (HS.out _).mono ?_
      rintro e w2 ⟨rfl, hb2⟩
      have HX2 := Lib.hid (HBA.out.trans (hb2.mono HBA.out.size))
      have HS2 := Lib.hid (HS1.out.on HX2.out)
      clear hb2 HS HBA cv hcat hz
      go_wp2_with fail
      refine (HP.out _ _ _ HS2.out).mono ?_
      rintro e w3 ⟨A3, c3, rfl, hs3, hb3⟩
      have HX3 := Lib.hid (HX1.out.trans (HX2.out.mono hsz1))
      have HX4 := Lib.hid (HX3.out.trans (hb3.mono HX3.out.size))
      have HS3 := Lib.hid hs3
      clear hs3 hb3 HS2 HX2 HS1 HX1 HP
      go_wp2_with (go_at_call 6; refine (num_is _ _).mono ?_; rintro e w' ⟨rfl, rfl⟩)
      go_roundw
      case rel => exact ⟨k + 1, A3, c3, by omega, by go_num, rfl, HS3.out, HX4.out⟩
      case measure => simp [RowKit.intOf]; omega
    · obtain hk8 : k = 8 := by omega
      have HP := Lib.hid (fun A c W (h : SubsAt W W.heap.size A (fs k)) => show Calls Try.prog 4 #[.slice A k c, sagg (sb k)] W fun e w' => e = .returned (.tuple #[.slice none 0 0, .bool false, .int .i64 5]) ∧ Below W.heap.size W w' by rw [hk8] at h ⊢; exact put_more A c W h)
      generalize sagg (sb k) = sg at HS HP
      have hkI : ((k : Int) == 8) = true := by rw [beq_iff_eq]; omega
      have hkJ : (k : Int) ≤ 8 := by omega
      have HK8 := Lib.hid hk8
      clear hk8
      go_wp2_with fail
      refine (HS.out _).mono ?_
      rintro e w2 ⟨rfl, hb2⟩
      have HX2 := Lib.hid (HBA.out.trans (hb2.mono HBA.out.size))
      have HS2 := Lib.hid (HS1.out.on HX2.out)
      clear hb2 HS HBA cv hcat hz
      go_wp2_with fail
      refine (HP.out _ _ _ HS2.out).mono ?_
      rintro e w3 ⟨rfl, hb3⟩
      have HX3 := Lib.hid (HX1.out.trans (HX2.out.mono hsz1))
      have HX4 := Lib.hid (HX3.out.trans (hb3.mono HX3.out.size))
      have HS3 := Lib.hid (show SubsAt w3 w3.heap.size A1 (fs 8) by have := HS2.out.on hb3; rwa [HK8.out] at this)
      clear hb3 HS2 HX2 HS1 HX1 HP HX3
      go_wp2_with (go_at_call 6; refine (num_is _ _).mono ?_; rintro e w' ⟨rfl, rfl⟩)
      clear hkI hkJ hlt hk
      have HPa := Lib.hid (fun (j : Nat) (hj : j < 8) A c W (h : SubsAt W W.heap.size A (fs 8)) => show Calls Try.prog 4 #[.slice A k c, sagg (s2 j)] W fun e w' => ∃ A' c', e = .returned (.tuple #[.slice A' 8 c', .bool true, .int .i64 0]) ∧ SubsAt w' w'.heap.size A' (xs j) ∧ Below W.heap.size W w' by rw [HK8.out]; exact put_again j hj A c W h)
      clear HK8
      go_loopw [8] (fun i wr => ∃ j : Nat, j ≤ 8 ∧ i = .int .i64 (j : Int) ∧ Below w3.heap.size w3 wr) (fun i _ => 8 - (RowKit.intOf i).toNat)
      case atStart => exact ⟨0, by omega, rfl, Below.refl _ _⟩
      case round =>
        obtain ⟨j, hj, rfl, hb⟩ := hrel
        have HX1 := Lib.hid hb
        have hsz1 := hb.size
        clear hb
        by_cases hlt : j < 8
        · have cv := conv_letter j (by omega) wr
          have hcat := letter_cat j
          have hz : ¬ (9223372036854775807 < 1 + (lt1 j).size) := by rw [letter_size]; omega
          have HBA := Lib.hid ((Below.refl wr.heap.size wr).alloc (Nat.le_refl _) (.cells #[.int .u8 (97 + (j : Int))] 5))
          have HS := Lib.hid (fun W => show Calls Try.prog 5 #[.string (str (tp j)), .int .i64 2] W fun e w' => e = .returned (sagg (s2 j)) ∧ Below W.heap.size W w' from S_is (s2 j) W (fine_of (s2_fine j hlt)))
          have HP := Lib.hid (fun A c W h => HPa.out j hlt A c W h)
          have HFx := Lib.hid (fun A c W h => find_x j hlt A c W h)
          have HMx := Lib.hid (fun A c W h => most_x j hlt A c W h)
          have HDx := Lib.hid (fun A c W h => del_x j hlt A c W h)
          have HFy := Lib.hid (fun A c W h => find_y j hlt A c W h)
          have HMy := Lib.hid (fun A c W h => most_y j hlt A c W h)
          generalize lt1 j = x at cv hcat hz
          generalize str (tp j) = tx at hcat HS HFx HMx HDx HFy HMy
          generalize sagg (s2 j) = sg at HS HP
          have hjI : (j : Int) < 8 := by omega
          go_wp2_with fail
          refine (HS.out _).mono ?_
          rintro e w2 ⟨rfl, hb2⟩
          have HX2 := Lib.hid (HX1.out.trans ((HBA.out.trans (hb2.mono HBA.out.size)).mono hsz1))
          have HS2 := Lib.hid (HS3.out.on HX2.out)
          clear hb2 HS HBA cv hcat hz HX1
          go_wp2_with fail
          refine (HP.out _ _ _ HS2.out).mono ?_
          rintro e w4 ⟨A4, c4, rfl, hs4, hb4⟩
          have HX4 := Lib.hid (HX2.out.trans (hb4.mono HX2.out.size))
          have HS4 := Lib.hid hs4
          clear hs4 hb4 HS2 HX2 HP
          go_wp2_with fail
          refine (HFx.out _ _ _ HS4.out).mono ?_
          rintro e w5 ⟨rfl, hb5⟩
          have HX5 := Lib.hid (HX4.out.trans (hb5.mono HX4.out.size))
          have HS5 := Lib.hid (HS4.out.on hb5)
          clear hb5 HS4 HX4 HFx
          unfold sarr
          go_upto_region 18 with fail
          have hba := (Below.refl w5.heap.size w5).alloc (Nat.le_refl _) (.cells (sarr tx 2) 33)
          have HBx := Lib.hid (Blk.new w5 33 (sarr tx 2))
          have HS6 := Lib.hid (HS5.out.on hba)
          have HX6 := Lib.hid (HX5.out.trans (hba.mono HX5.out.size))
          clear hba HS5 HX5
          unfold sarr at HBx HS6 HX6
          generalize w5.heap.size = gx at HBx ⊢
          generalize w5.alloc _ = w6 at HBx HS6 HX6 ⊢
          go_wp2_with fail
          refine (HMx.out _ _ _ HS6.out).mono ?_
          rintro e w7 ⟨rfl, hb7⟩
          have HX7 := Lib.hid (HX6.out.trans (hb7.mono HX6.out.size))
          have HS7 := Lib.hid (HS6.out.on hb7)
          have HB7 := Lib.hid (HBx.out.below hb7)
          clear hb7 HS6 HX6 HBx HMx
          go_wp2_with fail
          refine (HDx.out _ _ _ HS7.out).mono ?_
          rintro e w8 ⟨A8, c8, rfl, hs8, hb8⟩
          have HX8 := Lib.hid (HX7.out.trans (hb8.mono HX7.out.size))
          have HS8 := Lib.hid hs8
          have HB8 := Lib.hid (HB7.out.below hb8)
          clear hs8 hb8 HS7 HX7 HB7 HDx
          go_wp2_with fail
          refine (HFy.out _ _ _ HS8.out).mono ?_
          rintro e w9 ⟨rfl, hb9⟩
          have HX9 := Lib.hid (HX8.out.trans (hb9.mono HX8.out.size))
          have HS9 := Lib.hid (HS8.out.on hb9)
          have HB9 := Lib.hid (HB8.out.below hb9)
          clear hb9 HS8 HX8 HB8 HFy
          unfold zcells
          go_upto_region 21 with fail
          have hba := (Below.refl w9.heap.size w9).alloc (Nat.le_refl _) (.cells zcells 33)
          have HS10 := Lib.hid (HS9.out.on hba)
          have HX10 := Lib.hid (HX9.out.trans (hba.mono HX9.out.size))
          have HB10 := Lib.hid (HB9.out.below hba)
          clear hba HS9 HX9 HB9
          unfold zcells at HS10 HX10 HB10
          generalize w9.alloc _ = w10 at HS10 HX10 HB10 ⊢
          go_wp2_with fail
          refine (HMy.out _ _ _ HS10.out).mono ?_
          rintro e w11 ⟨rfl, hb11⟩
          have HX11 := Lib.hid (HX10.out.trans (hb11.mono HX10.out.size))
          have HB11 := Lib.hid (HB10.out.below hb11)
          have d1 := HB11.out.cell 1
          clear hb11 HS10 HX10 HB10 HMy
          go_wp2_with (go_at_call 6; refine (num_is _ _).mono ?_; rintro e w' ⟨rfl, rfl⟩)
          go_roundw
          case rel => exact ⟨j + 1, hlt, by go_num, HX11.out⟩
          case measure => simp [RowKit.intOf]; omega
        · have hjI : ¬ (j : Int) < 8 := by omega
          have hx := HX4.out.trans (HX1.out.mono HX4.out.size)
          have HBk := Lib.hid (HB.out.below hx)
          have HXe := Lib.hid (HX.out.trans (hx.mono HX.out.size))
          have d1 := HBk.out.cell 1
          have hn0 : (0 : Int) ≤ (n' : Int) := by omega
          clear hx
          go_wp2_with (go_at_call 10; refine (wakes_is _).mono ?_; rintro e w7 ⟨rfl, hb7⟩)
          go_ret
          exact ⟨rfl, HXe.out.trans (hb7.mono HXe.out.size)⟩
end Go.Proofs.Ytdogeljlcnlbkaa.Sbs
