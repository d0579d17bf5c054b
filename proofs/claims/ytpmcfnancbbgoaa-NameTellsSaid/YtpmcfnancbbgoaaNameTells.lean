/- NameTells: whatever is asked, package name and the document's own answer agree on which texts are names, filters, shared ones, and on their levels. -/
import Derived.Test.YtpmcfnancbbgoaaNameAsks
import Derived.Test.YtpmcfnancbbgoaaNameLaw
import Derived.Test.YtpmcfnancbbgoaaNameRShare
import Derived.StillTailTactics
namespace Go.Proofs.Ytpmcfnancbbgoaa
open Go.RowKit Go.Lib Txt Nam

def gsign : List UInt8 := [36, 115, 104, 97, 114, 101, 47, 103, 47]
/-- The texts that are asked of one ask. -/
def four (f t : ByteArray) : List (List UInt8) := [f.data.toList, t.data.toList, gsign ++ f.data.toList, shareSign ++ t.data.toList]
theorem app_str (a : List UInt8) (f : ByteArray) : (⟨a.toArray⟩ : ByteArray) ++ f = str (a ++ f.data.toList) := by apply ByteArray.ext; simp [str]
theorem four_lit (f t : ByteArray) : (#[.string f, .string t, .string ((⟨#[36, 115, 104, 97, 114, 101, 47, 103, 47]⟩ : ByteArray) ++ f), .string ((⟨#[36, 115, 104, 97, 114, 101, 47]⟩ : ByteArray) ++ t)] : Array Value) = (strs (four f t)).toArray := by
  rw [show (⟨#[36, 115, 104, 97, 114, 101, 47, 103, 47]⟩ : ByteArray) ++ f = str (gsign ++ f.data.toList) from app_str gsign f, show (⟨#[36, 115, 104, 97, 114, 101, 47]⟩ : ByteArray) ++ t = str (shareSign ++ t.data.toList) from app_str shareSign t]
  unfold strs four
  simp [data_str]
theorem four_len (f t : ByteArray) (h : ¬ 4000 < f.size + t.size) : ∀ x ∈ four f t, x.length ≤ 5000 := by
  intro x hx
  rw [Lib.size_eq, Lib.size_eq] at h
  unfold four at hx
  simp only [List.mem_cons, List.mem_singleton, List.not_mem_nil, or_false] at hx
  rcases hx with rfl | rfl | rfl | rfl
  · omega
  · omega
  · rw [List.length_append]; show 9 + _ ≤ _; omega
  · rw [List.length_append]; show 7 + _ ≤ _; omega

theorem getD_in {ls : List (List UInt8)} {k : Nat} (h : k < ls.length) : ls.getD k [] ∈ ls := by
  rw [List.getD_eq_getElem?_getD, List.getElem?_eq_getElem h]; exact List.getElem_mem h

set_option maxRecDepth 100000 in
set_option maxHeartbeats 8000000 in
theorem NameTells_any (A : Option Addr) (n c : Nat) (w : World) (h : Asks w A n) :
    Calls Try.prog 3 #[.slice A n c] w fun e w' => e = .returned (.bool true) ∧ Below w.heap.size w w' := by
  have H := Lib.hid h
  clear h
  go_enter Try.func3, Try.ntmps3
  go_wp2_with fail
  go_loopw [3] (fun i wr => ∃ k : Nat, k ≤ n ∧ k ≤ 12 ∧ i = .int .i64 (k : Int) ∧ Below w.heap.size w wr) (fun i _ => 12 - (RowKit.intOf i).toNat)
  case atStart => exact ⟨0, Nat.zero_le _, by omega, rfl, Below.refl _ _⟩
  case round =>
    obtain ⟨k, hkn, hk12, rfl, hnx⟩ := hrel
    by_cases hgo : k < n ∧ k < 12
    · obtain ⟨h1, h2⟩ := hgo
      rcases H.out with h0 | ⟨b, off, rfl, hall⟩
      · omega
      · obtain ⟨f, t, ha⟩ := hall k h1
        have HA := Lib.hid ha
        have HX := Lib.hid hnx
        have q0 := (ha.below hnx).c0
        have q1 := (ha.below hnx).c1
        have hs0 := ha.hf
        have hs1 := ha.ht
        clear hall ha hnx H
        have hknI : (k : Int) < (n : Int) := by omega
        have hk12I : (k : Int) < 12 := by omega
        by_cases hh : 4000 < f.size + t.size
        · have HH := Lib.hid (fun W => heavy_is f t true W hs0 hs1 (decide_eq_true hh))
          go_wp2_with (go_at_call 7; refine (HH.out _).mono ?_; rintro e w1 ⟨rfl, hb1⟩)
          go_ret
          exact ⟨rfl, HX.out.trans (hb1.mono HX.out.size)⟩
        · have HH := Lib.hid (fun W => heavy_is f t false W hs0 hs1 (decide_eq_false hh))
          have HL4 := Lib.hid (fun W => lit_strs W _ (four f t) 9 (four_lit f t))
          have HLN := Lib.hid (four_len f t hh)
          go_wp2_with fail
          refine (HH.out _).mono ?_
          rintro e w1 ⟨rfl, hb1⟩
          have hX1 := HX.out.trans (hb1.mono HX.out.size)
          have HX1 := Lib.hid hX1
          clear q0 q1 hb1 HH HX
          have q0 := (HA.out.below hX1).c0
          have q1 := (HA.out.below hX1).c1
          clear hX1
          have z1 : ¬ (9223372036854775807 < 9 + f.size) := by omega
          have z2 : ¬ (9223372036854775807 < 7 + t.size) := by omega
          have z3 : ¬ (9223372036854775807 < (⟨#[36, 115, 104, 97, 114, 101, 47, 103, 47]⟩ : ByteArray).size + f.size) := by show ¬ (_ < 9 + f.size); omega
          have z4 : ¬ (9223372036854775807 < (⟨#[36, 115, 104, 97, 114, 101, 47]⟩ : ByteArray).size + t.size) := by show ¬ (_ < 7 + t.size); omega
          go_wp2_with fail
          go_still_tail 22, (by kernel_rfl)
          change wpList _ _ _ _ _ w1.drew
          have HX2 := Lib.hid (show Below w.heap.size w w1.drew from HX1.out.drew)
          clear q0 q1 HX1
          generalize w1.drew = w2 at HX2 ⊢
          go_wp2_with fail
          have HN := Lib.hid (HL4.out w2)
          have HX3 := Lib.hid (HX2.out.alloc HX2.out.size (.cells #[.string f, .string t, .string ((⟨#[36, 115, 104, 97, 114, 101, 47, 103, 47]⟩ : ByteArray) ++ f), .string ((⟨#[36, 115, 104, 97, 114, 101, 47]⟩ : ByteArray) ++ t)] 9))
          have HZ : Hid ((w2.alloc (.cells #[.string f, .string t, .string ((⟨#[36, 115, 104, 97, 114, 101, 47, 103, 47]⟩ : ByteArray) ++ f), .string ((⟨#[36, 115, 104, 97, 114, 101, 47]⟩ : ByteArray) ++ t)] 9)).heap.size = w2.heap.size + 1) := Lib.hid (by simp)
          generalize w2.alloc (.cells #[.string f, .string t, .string ((⟨#[36, 115, 104, 97, 114, 101, 47, 103, 47]⟩ : ByteArray) ++ f), .string ((⟨#[36, 115, 104, 97, 114, 101, 47]⟩ : ByteArray) ++ t)] 9) = w3 at HN HX3 HZ ⊢
          rw [← HZ.out] at HN
          generalize (some ⟨w2.heap.size, 0, none⟩ : Option Addr) = P at HN ⊢
          generalize (⟨#[36, 115, 104, 97, 114, 101, 47, 103, 47]⟩ : ByteArray) ++ f = fg
          generalize (⟨#[36, 115, 104, 97, 114, 101, 47]⟩ : ByteArray) ++ t = tg
          have hl4 : (four f t).length = 4 := rfl
          generalize four f t = xs at HN HLN hl4
          clear HZ HX2 HL4 z1 z2 z3 z4 hs0 hs1 hh HA
          go_loopw [5] (fun i wr => ∃ j : Nat, j ≤ 4 ∧ i = .int .i64 (j : Int) ∧ Below w3.heap.size w3 wr) (fun i _ => 4 - (RowKit.intOf i).toNat)
          case atStart => exact ⟨0, by omega, rfl, Below.refl _ _⟩
          case round =>
            obtain ⟨j, hj, rfl, hbw⟩ := hrel
            have HW := Lib.hid hbw
            have hsz := hbw.size
            clear hbw
            by_cases hlt : j < 4
            · obtain ⟨a, rfl, hab, hc⟩ := (HN.out.below HW.out).some_ (by omega)
              have hx := hc j (by omega)
              have hxl := HLN.out _ (getD_in (ls := xs) (k := j) (by omega))
              have hjI : (j : Int) < 4 := by omega
              clear hc hab
              generalize xs.getD j [] = x at hx hxl
              have hd : (str x).data.toList = x := str_data x
              have hsx : (str x).size ≤ 1000000 := by rw [str_size]; omega
              obtain ⟨r, hr⟩ : ∃ r, shareOf x = r := ⟨_, rfl⟩
              obtain ⟨E1, hE1⟩ : ∃ E, topicErr x = E := ⟨_, rfl⟩
              obtain ⟨E2, hE2⟩ : ∃ E, filterErr x = E := ⟨_, rfl⟩
              have M1 := Lib.hid (fun W => Share_is (str x) r W hsx (by rw [hd]; exact hr))
              have M2 := Lib.hid (fun W => RShare_is (str x) r W hsx (by rw [hd]; exact hr))
              have M3 := Lib.hid (fun W => Levels_is (str x) W hsx)
              have M4 := Lib.hid (fun W => Topic_is (str x) E1 W hsx (by rw [hd]; exact hE1))
              have M5 := Lib.hid (fun W => RTopic_is (str x) E1 W hsx (by rw [hd]; exact hE1))
              have M6 := Lib.hid (fun W => Filter_is (str x) E2 W hsx (by rw [hd]; exact hE2))
              have M7 := Lib.hid (fun W => RFilter_is (str x) E2 W hsx (by rw [hd]; exact hE2))
              have M8 := Lib.hid (fun W => RLevels_is (str x) W hsx)
              rw [hd] at M3 M8
              have hll : (split x).length ≤ 1000000 := by
                rw [split_len]
                have := List.count_le_length (a := (47 : UInt8)) (l := x)
                omega
              clear hd hsx hr hE1 hE2
              generalize str x = s at hx M1 M2 M3 M4 M5 M6 M7 M8
              generalize split x = ls at M3 M8 hll
              obtain ⟨ri, rg, rf, re⟩ := r
              unfold shV at M1 M2
              dsimp only at M1 M2
              generalize str rg = sg at M1 M2
              generalize str rf = sf at M1 M2
              go_wp2_with fail
              refine (M1.out _).mono ?_
              rintro e w4 ⟨rfl, hb4⟩
              have H4 := Lib.hid (HW.out.trans (hb4.mono hsz))
              clear hx hb4 M1
              go_wp2_with fail
              refine (M2.out _).mono ?_
              rintro e w5 ⟨rfl, hb5⟩
              have H5 := Lib.hid (H4.out.trans (hb5.mono H4.out.size))
              clear hb5 M2
              go_wp2_with fail
              refine (M3.out _).mono ?_
              rintro e w6 ⟨A1, c1, rfl, hown, hb6⟩
              have H6 := Lib.hid (H5.out.trans (hb6.mono H5.out.size))
              have HO6 := Lib.hid hown
              have hs56 := hb6.size
              clear hb6 M3 hown
              go_wp2_with fail
              refine (M4.out _).mono ?_
              rintro e w7 ⟨rfl, hb7⟩
              have H7 := Lib.hid (H6.out.trans (hb7.mono H6.out.size))
              have HO7 := Lib.hid (own_below HO6.out hb7)
              have hs57 := Nat.le_trans hs56 hb7.size
              clear hb7 M4 HO6 hs56
              go_wp2_with (go_at_call 11; refine (num_is _ _).mono ?_; rintro e w' ⟨rfl, rfl⟩)
              refine (M5.out _).mono ?_
              rintro e w8 ⟨rfl, hb8⟩
              have H8 := Lib.hid (H7.out.trans (hb8.mono H7.out.size))
              have HO8 := Lib.hid (own_below HO7.out hb8)
              have hs58 := Nat.le_trans hs57 hb8.size
              clear hb8 M5 HO7 hs57
              go_wp2_with fail
              refine (M6.out _).mono ?_
              rintro e w9 ⟨rfl, hb9⟩
              have H9 := Lib.hid (H8.out.trans (hb9.mono H8.out.size))
              have HO9 := Lib.hid (own_below HO8.out hb9)
              have hs59 := Nat.le_trans hs58 hb9.size
              clear hb9 M6 HO8 hs58
              go_wp2_with (go_at_call 11; refine (num_is _ _).mono ?_; rintro e w' ⟨rfl, rfl⟩)
              refine (M7.out _).mono ?_
              rintro e w10 ⟨rfl, hb10⟩
              have H10 := Lib.hid (H9.out.trans (hb10.mono H9.out.size))
              have HO10 := Lib.hid (own_below HO9.out hb10)
              have hs510 := Nat.le_trans hs59 hb10.size
              clear hb10 M7 HO9 hs59
              go_wp2_with (go_at_call 11; refine (num_is _ _).mono ?_; rintro e w' ⟨rfl, rfl⟩)
              refine (M8.out _).mono ?_
              rintro e w11 ⟨A2, c2, rfl, hown2, hb11⟩
              have H11 := Lib.hid (H10.out.trans (hb11.mono H10.out.size))
              have HO11 := Lib.hid (own_below HO10.out hb11)
              have hs511 := Nat.le_trans hs510 hb11.size
              have HQ := Lib.hid (EqStrings_same ls A1 A2 c1 c2 _ _ w11 (by omega) (Strs.of_own HO11.out) (Strs.of_own hown2))
              clear hb11 M8 HO10 hs510 hown2
              go_wp2_with fail
              refine HQ.out.mono ?_
              rintro e w12 ⟨rfl, m, rfl⟩
              have HS := Lib.hid (Spoil_is w5.heap.size ls.length c1 A1 _ (w11.drewN m) hs511 (by omega) (own_below HO11.out (below_drewN (Below.refl _ _) m)))
              have H12 := Lib.hid (below_drewN H11.out m)
              clear HQ HO11 H11
              generalize w11.drewN m = w13 at HS H12 ⊢
              go_wp2_with fail
              refine HS.out.mono ?_
              rintro e w14 ⟨⟨v, rfl⟩, hb14⟩
              have H14 := Lib.hid (H12.out.trans (hb14.mono H5.out.size))
              clear HS hb14
              go_wp2_with fail
              go_roundw
              case rel => exact ⟨j + 1, hlt, by go_num, H14.out⟩
              case measure => simp [RowKit.intOf]; omega
            · have hjI : ¬ ((j : Int) < 4) := by omega
              have HXn := Lib.hid (HX3.out.trans (HW.out.mono HX3.out.size))
              clear HN HX3 HW hsz
              go_wp2_with fail
              go_roundw
              case rel => exact ⟨k + 1, h1, h2, by go_num, HXn.out⟩
              case measure => simp [RowKit.intOf]; omega
    · go_wp2_with (go_at_call 19; refine (wakes_is _).mono ?_; rintro e w1 ⟨rfl, hb1⟩)
      all_goals (go_ret; exact ⟨rfl, hnx.trans (hb1.mono hnx.size)⟩)
end Go.Proofs.Ytpmcfnancbbgoaa
