/- What is safe is in every crash; of the rest a beginning; a name is safe at once. -/
import Derived.Test.YtgimecgdfcckbaaDskAt
namespace Go.Proofs.Ytgimecgdfcckbaa.Dsk
open Go.RowKit Go.Lib Go.Maps

def sA : List UInt8 := [97]
def sB : List UInt8 := [98]
def sC : List UInt8 := [99]
def sSafe : List UInt8 := [115, 97, 102, 101]
def sRest : List UInt8 := [114, 101, 115, 116, 46]
def sAll : List UInt8 := [115, 97, 102, 101, 114, 101, 115, 116, 46]
def sNew : List UInt8 := [110, 101, 119]
/-- What is kept at pick k. -/
def sKept (k : Nat) : List UInt8 := sAll.take (4 + min k 5)
def safeF1 : List Fl := [⟨sA, sSafe, 0⟩]
def safeF2 : List Fl := [⟨sA, sSafe, 4⟩]
def safeF3 : List Fl := [⟨sA, sAll, 4⟩]
def safeG (k : Nat) : List Fl := [⟨sA, sKept k, (sKept k).length⟩]
def safeH (k : Nat) : List Fl := [⟨sB, sKept k, (sKept k).length⟩]
def safeI (k : Nat) : List Fl := [⟨sB, sKept k, (sKept k).length⟩, ⟨sC, sNew, 0⟩]
def flB (F G : List Fl) : Bool := (F.map fun f => (f.n, f.t, f.s)) == (G.map fun f => (f.n, f.t, f.s))
theorem fl_eq {F G : List Fl} (h : (F.map fun f => (f.n, f.t, f.s)) = (G.map fun f => (f.n, f.t, f.s))) : F = G := by
  induction F generalizing G with
  | nil => cases G with
    | nil => rfl
    | cons => cases h
  | cons a r ih => cases G with
    | nil => cases h
    | cons b q =>
      rw [List.map_cons, List.map_cons, List.cons.injEq] at h
      obtain ⟨h1, h2⟩ := h
      rw [ih h2]
      obtain ⟨n1, t1, s1⟩ := a
      obtain ⟨n2, t2, s2⟩ := b
      simp only [Prod.mk.injEq] at h1
      obtain ⟨rfl, rfl, rfl⟩ := h1
      rfl
theorem fl_of {F G : List Fl} (h : flB F G = true) : F = G := fl_eq (beq_iff_eq.1 h)
/-- Texts in memory, by block and place. -/
theorem strs_flat {w : World} {B : Nat} {A : Option Addr} {ls : List (List UInt8)} (h : Strs w B A ls) (hl : 0 < ls.length) :
    ∃ b o, A = some ⟨b, o, none⟩ ∧ b < B ∧ ∀ j, j < ls.length → w.cell? ⟨b, o + j, none⟩ = some (.string (str (ls.getD j []))) := by
  obtain ⟨a, e, hb, hc⟩ := h.some_ hl
  have h0 := hc 0 hl
  have hsp : a.spot = none := by
    have := World.cell?_spot h0
    simpa [Addr.add] using this
  obtain ⟨b, o, sp⟩ := a
  obtain rfl : sp = none := hsp
  refine ⟨b, o, e, hb, fun j hj => ?_⟩
  have h1 := hc j hj
  have e2 : ((⟨b, o, none⟩ : Addr).add j) = ⟨b, o + j, none⟩ := by
    unfold Addr.add; split
    · next h => subst h; rfl
    · rfl
  rwa [e2] at h1
theorem safe_kept : ∀ k : Nat, k < 7 → (crashT safeF3 [(k : Int)] == [sKept k]) = true := by decide +kernel
theorem safe_may : ∀ k : Nat, k < 7 → mayFrom [] [sA] [sKept k] = true := by decide +kernel
theorem safe_new : ∀ k : Nat, k < 7 → flB (newF [sA] [sKept k]) (safeG k) = true := by decide +kernel
theorem safe_ren : ∀ k : Nat, k < 7 → (decide (renE (safeG k) sA sB = 0) && flB (renF (safeG k) sA sB) (safeH k)) = true := by decide +kernel
theorem safe_app : ∀ k : Nat, k < 7 → (decide (appE (safeH k) sC sNew = 0) && flB (appF (safeH k) sC sNew) (safeI k)) = true := by decide +kernel
theorem safe_end : ∀ k : Nat, k < 7 → (crashT (safeI k) [] == [sKept k, []]) = true := by decide +kernel
theorem kept_len (k : Nat) : (sKept k).length ≤ 9 := by unfold sKept; rw [List.length_take]; exact Nat.min_le_right _ _
theorem slice_kept (k : Nat) : (⟨#[115, 97, 102, 101, 114, 101, 115, 116, 46]⟩ : ByteArray).extract 0 (4 + min k 5) = str (sKept k) := by
  apply ByteArray.ext
  rw [ByteArray.data_extract]
  apply Array.ext'
  simp [str, sKept, sAll]

set_option maxRecDepth 100000 in
set_option maxHeartbeats 8000000 in
theorem DiskSafe_any (A B L : Option Addr) (n c n' c' m cl : Nat) (w : World) :
    Calls Try.prog 3 #[.agg #[.slice A n c, .slice B n' c', .slice L m cl]] w fun e w' => e = .returned (.bool true) ∧ Below w.heap.size w w' := by
  have HX := Lib.hid ((Below.refl w.heap.size w).alloc (Nat.le_refl _) (.cells #[.slice A n c, .slice B n' c', .slice L m cl] 25))
  have HB := Lib.hid (Bk.new w 25 #[.slice A n c, .slice B n' c', .slice L m cl])
  have HNm := Lib.hid (fun (x : Int) W => num_is x W)
  go_enter Try.func3, Try.ntmps3
  go_upto_region 1 with fail
  obtain ⟨W0, hW⟩ : ∃ W0, w.alloc (.cells #[.slice A n c, .slice B n' c', .slice L m cl] 25) = W0 := ⟨_, rfl⟩
  rw [hW] at HB HX ⊢
  clear hW
  obtain ⟨g, hg⟩ : ∃ g, w.heap.size = g := ⟨_, rfl⟩
  have HG := Lib.hid hg
  rw [hg] at HB ⊢
  clear hg
  go_wp2_with fail
  go_loopw [3] (fun i wr => ∃ k : Nat, k ≤ 7 ∧ i = .int .i64 (k : Int) ∧ Below W0.heap.size W0 wr) (fun i _ => 7 - (RowKit.intOf i).toNat)
  case atStart => exact ⟨0, by omega, rfl, Below.refl _ _⟩
  case round =>
    obtain ⟨k, hk, rfl, hb⟩ := hrel
    have HBe := Lib.hid hb
    clear hb
    by_cases hlt : k < 7
    · have hkI : (k : Int) ≤ 6 := by omega
      have HN := Lib.hid (new_none_at wr)
      have HA1 := Lib.hid (fun d W (h : At wr W d [] 0 false) => show Calls Try.prog 13 #[.pointer (some ⟨d, 0, none⟩), .string ⟨#[97]⟩, .string ⟨#[115, 97, 102, 101]⟩] W fun e w' => e = .returned (.int .i64 0) ∧ At wr w' d safeF1 0 false from
        app_at h sA sSafe 0 safeF1 (by decide) (by decide) (by decide +kernel) rfl)
      have HS1 := Lib.hid (fun d W (h : At wr W d safeF1 0 false) => show Calls Try.prog 14 #[.pointer (some ⟨d, 0, none⟩), .string ⟨#[97]⟩] W fun e w' => e = .returned (.int .i64 0) ∧ At wr w' d safeF2 0 false from
        sync_at h sA 0 safeF2 (by decide) (by decide +kernel) rfl)
      have HA2 := Lib.hid (fun d W (h : At wr W d safeF2 0 false) => show Calls Try.prog 13 #[.pointer (some ⟨d, 0, none⟩), .string ⟨#[97]⟩, .string ⟨#[114, 101, 115, 116, 46]⟩] W fun e w' => e = .returned (.int .i64 0) ∧ At wr w' d safeF3 0 false from
        app_at h sA sRest 0 safeF3 (by decide) (by decide) (by decide +kernel) rfl)
      have HR1 := Lib.hid (fun d W (h : At wr W d safeF3 0 false) => show Calls Try.prog 15 #[.pointer (some ⟨d, 0, none⟩), .string ⟨#[97]⟩, .string ⟨#[98]⟩] W fun e w' => e = .returned (.int .i64 6) ∧ At wr w' d safeF3 0 false from
        ren_at h sA sB 6 safeF3 (by decide) (by decide) (by decide +kernel) rfl)
      have HC1 := Lib.hid (fun d W (h : At wr W d safeF3 0 false) => show Calls Try.prog 16 #[.pointer (some ⟨d, 0, none⟩), .slice (some ⟨W.heap.size, 0, none⟩) 1 1] (W.alloc (.cells #[.int .i64 (k : Int)] 3)) fun e w' => ∃ A c B c', e = .returned (.tuple #[.slice A 1 c, .slice B 1 c']) ∧ Strs w' w'.heap.size A [sA] ∧ Strs w' w'.heap.size B [sKept k] ∧ At wr w' d safeF3 0 true from by
        have := crash_one_at h (k : Int)
        rw [beq_iff_eq.1 (safe_kept k hlt)] at this
        exact this)
      have HNo := Lib.hid (fun d W (h : At wr W d safeF3 0 true) => names_off_at h)
      have HE1 := Lib.hid (fun (xs : List (List UInt8)) A A' c c' B B' W (h : Strs W B A xs) (h' : Strs W B' A' xs) (hl : xs.length = 1) => EqStrings_same xs 1 A A' c c' _ _ W hl (by omega) h h')
      have HE2 := Lib.hid (fun (xs : List (List UInt8)) A A' c c' B B' W (h : Strs W B A xs) (h' : Strs W B' A' xs) (hl : xs.length = 2) => EqStrings_same xs 2 A A' c c' _ _ W hl (by omega) h h')
      have HN2 := Lib.hid (fun A B c c' W (hA : Strs W W.heap.size A [sA]) (hB : Strs W W.heap.size B [sKept k]) => show Calls Try.prog 11 #[.slice A 1 c, .slice B 1 c'] W fun e w' => ∃ d, e = .returned (.tuple #[.pointer (some ⟨d, 0, none⟩), .int .i64 0]) ∧ At W w' d (safeG k) 0 false from
        new_at [sA] [sKept k] A B c c' (safeG k) W hA hB (fun x hx => by simp at hx; subst hx; decide) (fun x hx => by simp at hx; subst hx; have := kept_len k; omega) (by simp) (by simp) (safe_may k hlt) (fl_of (safe_new k hlt)))
      have hr := safe_ren k hlt
      have ha := safe_app k hlt
      simp only [Bool.and_eq_true, decide_eq_true_eq] at hr ha
      have HR2 := Lib.hid (fun w0 d W (h : At w0 W d (safeG k) 0 false) => show Calls Try.prog 15 #[.pointer (some ⟨d, 0, none⟩), .string ⟨#[97]⟩, .string ⟨#[98]⟩] W fun e w' => e = .returned (.int .i64 0) ∧ At w0 w' d (safeH k) 0 false from
        ren_at h sA sB 0 (safeH k) (by decide) (by decide) hr.1 (fl_of hr.2))
      have HA3 := Lib.hid (fun w0 d W (h : At w0 W d (safeH k) 0 false) => show Calls Try.prog 13 #[.pointer (some ⟨d, 0, none⟩), .string ⟨#[99]⟩, .string ⟨#[110, 101, 119]⟩] W fun e w' => e = .returned (.int .i64 0) ∧ At w0 w' d (safeI k) 0 false from
        app_at h sC sNew 0 (safeI k) (by decide) (by decide) ha.1 (fl_of ha.2))
      have HC2 := Lib.hid (fun w0 d W (h : At w0 W d (safeI k) 0 false) => show Calls Try.prog 16 #[.pointer (some ⟨d, 0, none⟩), .slice none 0 0] W fun e w' => ∃ A c B c', e = .returned (.tuple #[.slice A 2 c, .slice B 2 c']) ∧ Strs w' w'.heap.size A [sB, sC] ∧ Strs w' w'.heap.size B [sKept k, []] ∧ At w0 w' d (safeI k) 0 true from by
        have := crash_none_at h
        rw [beq_iff_eq.1 (safe_end k hlt)] at this
        exact this)
      have hsl := slice_kept k
      obtain ⟨j, hj⟩ : ∃ j, min k 5 = j := ⟨_, rfl⟩
      have hm5 : min (k : Int) 5 = (j : Int) := by omega
      have hj5 : (j : Int) ≤ 5 := by omega
      have hwj : IntKind.i64.wrap (4 + (j : Int)) = 4 + (j : Int) := IntWalk.i64_in _ ⟨by omega, by omega⟩
      have hj0 : (0 : Int) ≤ 4 + (j : Int) := by omega
      have hj9 : (4 : Int) + (j : Int) ≤ 9 := by omega
      rw [hj, show 4 + j = ((4 : Int) + (j : Int)).toNat by omega] at hsl
      clear hr ha hlt hj
      go_wp2_with fail
      refine HN.out.mono ?_
      rintro e w1 ⟨d, rfl, h1⟩
      have H1 := Lib.hid h1
      clear h1 HN
      go_wp2_with (go_at_call 12; refine (HNm.out _ _).mono ?_; rintro e w' ⟨rfl, rfl⟩)
      refine (HA1.out _ _ H1.out).mono ?_
      rintro e w2 ⟨rfl, h2⟩
      have H2 := Lib.hid h2
      clear h2 HA1 H1
      go_wp2_with (go_at_call 12; refine (HNm.out _ _).mono ?_; rintro e w' ⟨rfl, rfl⟩)
      refine (HS1.out _ _ H2.out).mono ?_
      rintro e w3 ⟨rfl, h3⟩
      have H3 := Lib.hid h3
      clear h3 HS1 H2
      go_wp2_with (go_at_call 12; refine (HNm.out _ _).mono ?_; rintro e w' ⟨rfl, rfl⟩)
      refine (HA2.out _ _ H3.out).mono ?_
      rintro e w4 ⟨rfl, h4⟩
      have H4 := Lib.hid h4
      clear h4 HA2 H3
      go_wp2_with (go_at_call 12; refine (HNm.out _ _).mono ?_; rintro e w' ⟨rfl, rfl⟩)
      refine (HR1.out _ _ H4.out).mono ?_
      rintro e w5 ⟨rfl, h5⟩
      have H5 := Lib.hid h5
      clear h5 HR1 H4
      go_wp2_with (go_at_call 12; refine (HNm.out _ _).mono ?_; rintro e w' ⟨rfl, rfl⟩)
      refine (HC1.out _ _ H5.out).mono ?_
      rintro e w6 ⟨A1, c1, B1, c2, rfl, hA, hB, h6⟩
      have H6 := Lib.hid h6
      have HSA := Lib.hid hA
      have HSB := Lib.hid hB
      clear h6 hA hB HC1 H5
      go_wp2_with fail
      refine (HNo.out _ _ H6.out).mono ?_
      rintro e w7 ⟨rfl, rfl⟩
      clear HNo
      go_wp2_with fail
      obtain ⟨b0, o0, rfl, hb0, hcb⟩ := strs_flat HSB.out (by simp)
      have y0 : w7.cell? ⟨b0, o0, none⟩ = some (.string (str (sKept k))) := hcb 0 (by simp)
      obtain ⟨sk, hsk⟩ : ∃ sk, str (sKept k) = sk := ⟨_, rfl⟩
      have HSK := Lib.hid hsk
      rw [hsk] at y0 hsl
      clear hsk hcb
      go_region_held3 (fun W' => W'.cell? ⟨b0, o0, none⟩ = some (.string sk))
        (first | exact y0 | exact (World.cell?_alloc_lt _ _ _ (by exact hb0)).trans y0)
        (first
          | ((go_at_call 18; refine (HE1.out [sA] _ _ _ _ _ _ _ (Strs.alloc (show Strs w7.drew w7.heap.size A1 [sA] from HSA.out.drewN 1) (Nat.le_refl _) _) (lit_strs w7.drew #[.string ⟨#[97]⟩] [[97]] 9 rfl) rfl).mono ?_; rintro e w8 ⟨rfl, n8, rfl⟩))
          | ((go_at_call 12; refine (HNm.out _ _).mono ?_; rintro e w' ⟨rfl, rfl⟩)))
      have hal : Below w7.heap.size w7 ((w7.alloc (.cells #[.string ⟨#[97]⟩] 9)).drewN (1 + n8)) := below_drewN ((Below.refl _ _).alloc (Nat.le_refl _) _) _
      have HSA8 := Lib.hid (HSA.out.on hal)
      have HSB8 := Lib.hid (HSB.out.on hal)
      have HL8 := Lib.hid (HBe.out.trans ((H6.out.low.trans (hal.mono H6.out.low.size)).mono HBe.out.size))
      have hsz8 : w7.heap.size ≤ ((w7.alloc (.cells #[.string ⟨#[97]⟩] 9)).drewN (1 + n8)).heap.size := hal.size
      have y8 := (hal.cell (p := ⟨b0, o0, none⟩) hb0).trans y0
      obtain ⟨W8, hW8⟩ : ∃ W8, (w7.alloc (.cells #[.string ⟨#[97]⟩] 9)).drewN (1 + n8) = W8 := ⟨_, rfl⟩
      rw [hW8] at HSA8 HSB8 HL8 hsz8 y8 ⊢
      have hb8 : b0 < W8.heap.size := by omega
      clear hal hW8 HSA HSB H6 y0 hsl hm5 hj5 hwj hj0 hj9 hb0
      go_wp2_with fail
      refine (HN2.out _ _ _ _ _ HSA8.out HSB8.out).mono ?_
      rintro e w9 ⟨d2, rfl, h9⟩
      have H9 := Lib.hid h9
      clear h9 HN2 HSA8 HSB8
      go_wp2_with (go_at_call 12; refine (HNm.out _ _).mono ?_; rintro e w' ⟨rfl, rfl⟩)
      refine (HR2.out _ _ _ H9.out).mono ?_
      rintro e w10 ⟨rfl, h10⟩
      have H10 := Lib.hid h10
      clear h10 HR2 H9
      go_wp2_with (go_at_call 12; refine (HNm.out _ _).mono ?_; rintro e w' ⟨rfl, rfl⟩)
      refine (HA3.out _ _ _ H10.out).mono ?_
      rintro e w11 ⟨rfl, h11⟩
      have H11 := Lib.hid h11
      clear h11 HA3 H10
      go_wp2_with (go_at_call 12; refine (HNm.out _ _).mono ?_; rintro e w' ⟨rfl, rfl⟩)
      refine (HC2.out _ _ _ H11.out).mono ?_
      rintro e w12 ⟨A3, c3, B3, c4, rfl, hA, hB, h12⟩
      have H12 := Lib.hid h12
      have HSA := Lib.hid hA
      clear h12 hA HC2 H11
      obtain ⟨b3, o3, rfl, hb3, hcb⟩ := strs_flat hB (by simp)
      have v0 : w12.cell? ⟨b3, o3, none⟩ = some (.string (str (sKept k))) := hcb 0 (by simp)
      have v1 : w12.cell? ⟨b3, o3 + 1, none⟩ = some (.string ⟨#[]⟩) := hcb 1 (by simp)
      rw [HSK.out] at v0
      have y12 := (H12.out.low.cell (p := ⟨b0, o0, none⟩) hb8).trans y8
      have hb12 : b0 < w12.heap.size := by have := H12.out.low.size; omega
      clear hB hcb y8 hb8
      go_wp2_with fail
      go_region_held3 (fun W' => W'.cell? ⟨b3, o3, none⟩ = some (.string sk) ∧ W'.cell? ⟨b3, o3 + 1, none⟩ = some (.string ⟨#[]⟩) ∧ W'.cell? ⟨b0, o0, none⟩ = some (.string sk))
        (first | exact ⟨v0, v1, y12⟩ | exact ⟨(World.cell?_alloc_lt _ _ _ (by exact hb3)).trans v0, (World.cell?_alloc_lt _ _ _ (by exact hb3)).trans v1, (World.cell?_alloc_lt _ _ _ (by exact hb12)).trans y12⟩)
        (first
          | ((go_at_call 18; refine (HE2.out [sB, sC] _ _ _ _ _ _ _ (Strs.alloc (show Strs w12.drew w12.heap.size A3 [sB, sC] from HSA.out.drewN 1) (Nat.le_refl _) _) (lit_strs w12.drew #[.string ⟨#[98]⟩, .string ⟨#[99]⟩] [[98], [99]] 9 rfl) rfl).mono ?_; rintro e w8 ⟨rfl, n9, rfl⟩)))
      have hal : Below w12.heap.size w12 ((w12.alloc (.cells #[.string ⟨#[98]⟩, .string ⟨#[99]⟩] 9)).drewN (1 + n9)) := below_drewN ((Below.refl _ _).alloc (Nat.le_refl _) _) _
      have HEnd := Lib.hid (HL8.out.trans ((H12.out.low.trans (hal.mono H12.out.low.size)).mono HL8.out.size))
      clear hal v0 v1 y12 hb3 hb12 H12 HSA
      go_wp2_with fail
      go_roundw
      case rel => exact ⟨k + 1, by omega, by go_num, HEnd.out⟩
      case measure => simp [RowKit.intOf]; omega
    · have hkI : ¬ (k : Int) ≤ 6 := by omega
      have HB2 := Lib.hid (HB.out.below HBe.out)
      have HWk := Lib.hid (fun W => wakes_is W)
      have c2 := HB2.out.cell 2
      simp at c2
      have hmI : (0 : Int) ≤ (m : Int) := by omega
      have HLw := Lib.hid (HX.out.trans (HBe.out.mono HX.out.size))
      clear hlt HX HB HB2 HBe
      go_wp2_with fail
      refine (HWk.out _).mono ?_
      rintro e w2 ⟨rfl, hb2⟩
      have HB2 := Lib.hid (HLw.out.trans (hb2.mono HLw.out.size))
      clear hb2
      go_wp2_with fail
      go_ret
      exact ⟨rfl, HB2.out⟩
end Go.Proofs.Ytgimecgdfcckbaa.Dsk
