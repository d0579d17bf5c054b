/- Just ahead of the call that was said the power goes; calls that ask alone do not count. -/
import Derived.Test.YtgimecgdfcckbaaDskSafe
namespace Go.Proofs.Ytgimecgdfcckbaa.Dsk
open Go.RowKit Go.Lib Go.Maps

/-- One file, of j bytes; none, if j is nought. -/
def offF (j : Nat) : List Fl := if j = 0 then [] else [⟨[97], List.replicate j 120, 0⟩]
theorem off_app : ∀ j : Nat, j < 7 → (decide (appE (offF j) [97] [120] = 0) && flB (appF (offF j) [97] [120]) (offF (j + 1))) = true := by decide +kernel
/-- Where the power stands ahead of call i: n was said. -/
def leftI (n i : Int) : Int := if n < i then 0 else n - i + 1
theorem leftI_on {n i : Int} (h : ¬ n < i) : leftI n i = ((n - i + 1).toNat : Int) := by unfold leftI; rw [if_neg h]; omega
theorem leftI_off {n i : Int} (h : n < i) : leftI n i = 0 := by unfold leftI; rw [if_pos h]

set_option maxRecDepth 100000 in
set_option maxHeartbeats 8000000 in
theorem DiskOff_any (A B L : Option Addr) (n c n' c' m cl : Nat) (w : World) :
    Calls Try.prog 4 #[.agg #[.slice A n c, .slice B n' c', .slice L m cl]] w fun e w' => e = .returned (.bool true) ∧ Below w.heap.size w w' := by
  have HX := Lib.hid ((Below.refl w.heap.size w).alloc (Nat.le_refl _) (.cells #[.slice A n c, .slice B n' c', .slice L m cl] 25))
  have HB := Lib.hid (Bk.new w 25 #[.slice A n c, .slice B n' c', .slice L m cl])
  have HNm := Lib.hid (fun (x : Int) W => num_is x W)
  go_enter Try.func4, Try.ntmps4
  go_upto_region 1 with fail
  obtain ⟨W0, hW⟩ : ∃ W0, w.alloc (.cells #[.slice A n c, .slice B n' c', .slice L m cl] 25) = W0 := ⟨_, rfl⟩
  rw [hW] at HB HX ⊢
  clear hW
  obtain ⟨g, hg⟩ : ∃ g, w.heap.size = g := ⟨_, rfl⟩
  have HG := Lib.hid hg
  rw [hg] at HB ⊢
  clear hg
  go_wp2_with fail
  go_loopw [3] (fun i wr => ∃ x : Int, -1 ≤ x ∧ x ≤ 7 ∧ i = .int .i64 x ∧ Below W0.heap.size W0 wr) (fun i _ => (7 - RowKit.intOf i).toNat)
  case atStart => exact ⟨-1, by omega, by omega, rfl, Below.refl _ _⟩
  case round =>
    obtain ⟨x, hx0, hx7, rfl, hb⟩ := hrel
    obtain ⟨V, hV⟩ : ∃ V, V = wr := ⟨_, rfl⟩
    subst hV
    have HBe := Lib.hid hb
    clear hb
    by_cases hlt : x ≤ 6
    · have HN := Lib.hid (new_none_at V)
      have HOf := Lib.hid (fun d W (h : At V W d [] 0 false) => show Calls Try.prog 20 #[.pointer (some ⟨d, 0, none⟩), .int .i64 x] W fun e w' => e = .returned (.tuple #[]) ∧ At V w' d (offF 0) (leftI x 1) (decide (x < 1)) from by
        have e : (if x < 1 then (0 : Int) else x) = leftI x 1 := by unfold leftI; split <;> omega
        have := off_at h x
        rw [e] at this
        exact this)
      go_wp2_with fail
      refine HN.out.mono ?_
      rintro e w1 ⟨d, rfl, h1⟩
      have H1 := Lib.hid h1
      clear h1 HN
      go_wp2_with (go_at_call 12; refine (HNm.out _ _).mono ?_; rintro e w' ⟨rfl, rfl⟩)
      refine (HOf.out _ _ H1.out).mono ?_
      rintro e w2 ⟨rfl, h2⟩
      have H2 := Lib.hid h2
      clear h2 HOf H1
      go_wp2_with fail
      go_loopw [6] (fun i wr => ∃ (y : Int) (j : Nat), 1 ≤ y ∧ y ≤ 7 ∧ i = .int .i64 y ∧ (j : Int) < y ∧ At V wr d (offF j) (leftI x y) (decide (x < y))) (fun i _ => (7 - RowKit.intOf i).toNat)
      case atStart => exact ⟨1, 0, by omega, by omega, rfl, by omega, H2.out⟩
      case round =>
        obtain ⟨y, j, hy1, hy7, rfl, hjy, hat⟩ := hrel
        by_cases hy : y ≤ 6
        · by_cases hxy : x < y
          · have q1 : decide (x < y) = true := by simpa using hxy
            rw [leftI_off hxy, q1] at hat
            have HAt := Lib.hid hat
            have HNo := Lib.hid (names_off_at hat)
            have HAp := Lib.hid (fun W (h : At V W d (offF j) 0 true) => show Calls Try.prog 13 #[.pointer (some ⟨d, 0, none⟩), .string ⟨#[97]⟩, .string ⟨#[120]⟩] W fun e w' => e = .returned (.int .i64 10) ∧ At V w' d (offF j) 0 true from
              app_off_at h 0 rfl (by omega) [97] [120] rfl)
            have HR : Hid (∀ W, At V W d (offF j) 0 true → At V W d (offF j) (leftI x (y + 1)) (decide (x < y + 1))) := Lib.hid fun W h => by
              rw [leftI_off (show x < y + 1 by omega), show decide (x < y + 1) = true by simp; omega]
              exact h
            have q2 : decide (x ≤ y) = true := by simp; omega
            clear hat
            by_cases hx1 : x < 1
            · go_wp2_with fail
              refine HNo.out.mono ?_
              rintro e w3 ⟨rfl, rfl⟩
              clear HNo
              go_wp2_with (go_at_call 12; refine (HNm.out _ _).mono ?_; rintro e w' ⟨rfl, rfl⟩)
              refine (HAp.out _ HAt.out).mono ?_
              rintro e w4 ⟨rfl, h4⟩
              have H4 := Lib.hid h4
              clear h4 HAp HAt
              go_wp2_with (go_at_call 12; refine (HNm.out _ _).mono ?_; rintro e w' ⟨rfl, rfl⟩)
              go_roundw
              case rel => exact ⟨y + 1, j, by omega, by omega, by go_num, by omega, HR.out _ H4.out⟩
              case measure => simp [RowKit.intOf]; omega
            · have q3 : decide (x < 1) = false := by simp; omega
              go_wp2_with fail
              refine HNo.out.mono ?_
              rintro e w3 ⟨rfl, rfl⟩
              clear HNo
              go_wp2_with (go_at_call 12; refine (HNm.out _ _).mono ?_; rintro e w' ⟨rfl, rfl⟩)
              refine (HAp.out _ HAt.out).mono ?_
              rintro e w4 ⟨rfl, h4⟩
              have H4 := Lib.hid h4
              clear h4 HAp HAt
              go_wp2_with (go_at_call 12; refine (HNm.out _ _).mono ?_; rintro e w' ⟨rfl, rfl⟩)
              go_roundw
              case rel => exact ⟨y + 1, j, by omega, by omega, by go_num, by omega, HR.out _ H4.out⟩
              case measure => simp [RowKit.intOf]; omega
          · have q1 : decide (x < y) = false := by simpa using hxy
            have hl := leftI_on hxy
            rw [q1] at hat
            have HAt := Lib.hid hat
            have HNo := Lib.hid (names_on_at hat)
            have q3 : decide (x < 1) = false := by simp; omega
            obtain ⟨nf, hnf⟩ : ∃ nf, (offF j).length = nf := ⟨_, rfl⟩
            rw [hnf] at HNo
            clear hat hnf
            by_cases hyx : y = x
            · have HAp := Lib.hid (fun W (h : At V W d (offF j) (leftI x y) false) => show Calls Try.prog 13 #[.pointer (some ⟨d, 0, none⟩), .string ⟨#[97]⟩, .string ⟨#[120]⟩] W fun e w' => e = .returned (.int .i64 10) ∧ At V w' d (offF j) 0 true from
                app_off_at h 1 (by rw [hl, hyx]; omega) (by omega) [97] [120] rfl)
              have HR : Hid (∀ W, At V W d (offF j) 0 true → At V W d (offF j) (leftI x (y + 1)) (decide (x < y + 1))) := Lib.hid fun W h => by
                rw [leftI_off (show x < y + 1 by omega), show decide (x < y + 1) = true by simp; omega]
                exact h
              have q2 : decide (x ≤ y) = true := by simp; omega
              clear hl
              have HYX := Lib.hid hyx
              clear hyx
              go_wp2_with fail
              refine HNo.out.mono ?_
              rintro e w3 ⟨⟨A1, c1, rfl⟩, h3⟩
              have H3 := Lib.hid h3
              clear h3 HNo HAt
              go_wp2_with (go_at_call 12; refine (HNm.out _ _).mono ?_; rintro e w' ⟨rfl, rfl⟩)
              refine (HAp.out _ H3.out).mono ?_
              rintro e w4 ⟨rfl, h4⟩
              have H4 := Lib.hid h4
              clear h4 HAp H3
              go_wp2_with (go_at_call 12; refine (HNm.out _ _).mono ?_; rintro e w' ⟨rfl, rfl⟩)
              go_roundw
              case rel => exact ⟨y + 1, j, by omega, by omega, by go_num, by omega, HR.out _ H4.out⟩
              case measure => simp [RowKit.intOf]; omega
            · have hj7 : j < 7 := by omega
              have ha := off_app j hj7
              simp only [Bool.and_eq_true, decide_eq_true_eq] at ha
              have HAp := Lib.hid (fun W (h : At V W d (offF j) (leftI x y) false) => show Calls Try.prog 13 #[.pointer (some ⟨d, 0, none⟩), .string ⟨#[97]⟩, .string ⟨#[120]⟩] W fun e w' => e = .returned (.int .i64 0) ∧ At V w' d (offF (j + 1)) (leftI x (y + 1)) (decide (x < y + 1)) from by
                have h0 := app_on_at h (x - y + 1).toNat hl.symm (by omega) [97] [120] 0 (offF (j + 1)) (by decide) (by decide) (by unfold tickO; simp; omega) ha.1 (fl_of ha.2)
                have e : ((tickL (x - y + 1).toNat : Nat) : Int) = leftI x (y + 1) := by unfold tickL; rw [leftI_on (by omega)]; omega
                rw [e] at h0
                rw [show decide (x < y + 1) = false by simp; omega]
                exact h0)
              have q2 : decide (x ≤ y) = false := by simp; omega
              clear hl ha
              go_wp2_with fail
              refine HNo.out.mono ?_
              rintro e w3 ⟨⟨A1, c1, rfl⟩, h3⟩
              have H3 := Lib.hid h3
              clear h3 HNo HAt
              go_wp2_with (go_at_call 12; refine (HNm.out _ _).mono ?_; rintro e w' ⟨rfl, rfl⟩)
              refine (HAp.out _ H3.out).mono ?_
              rintro e w4 ⟨rfl, h4⟩
              have H4 := Lib.hid h4
              clear h4 HAp H3
              go_wp2_with (go_at_call 12; refine (HNm.out _ _).mono ?_; rintro e w' ⟨rfl, rfl⟩)
              go_roundw
              case rel => exact ⟨y + 1, j + 1, by omega, by omega, by go_num, by omega, H4.out⟩
              case measure => simp [RowKit.intOf]; omega
        · have HEnd := Lib.hid (HBe.out.trans (hat.low.mono HBe.out.size))
          clear hat
          go_wp2_with fail
          go_roundw
          case rel => exact ⟨x + 1, by omega, by omega, by go_num, HEnd.out⟩
          case measure => simp [RowKit.intOf]; omega
    · have HB2 := Lib.hid (HB.out.below HBe.out)
      have HWk := Lib.hid (fun W => wakes_is W)
      have c2 := HB2.out.cell 2
      simp at c2
      have hmI : (0 : Int) ≤ (m : Int) := by omega
      have HLw := Lib.hid (HX.out.trans (HBe.out.mono HX.out.size))
      clear HX HB HB2 HBe
      go_wp2_with fail
      refine (HWk.out _).mono ?_
      rintro e w2 ⟨rfl, hb2⟩
      have HB2 := Lib.hid (HLw.out.trans (hb2.mono HLw.out.size))
      clear hb2
      go_wp2_with fail
      go_ret
      exact ⟨rfl, HB2.out⟩
end Go.Proofs.Ytgimecgdfcckbaa.Dsk
