/- For every list of asks: the last of each key stay, just as they were; done again it is the same; nothing is there that was not, all in order; what has no key stays. No condition. -/
import Derived.SizedLaws
import Derived.Test.YthdefnfpjbpbkaaX13
/- FoldSame, by its walk: the last of each key stay, just as they were; done again it is the same; nothing is there that was not, all in order; what has no key stays. -/
namespace Go.Proofs.Ythdefnfpjbpbkaa.Kpd
open Go.RowKit Go.Lib Rcd

theorem same_lasts {gr now : Int} {l0 : List Sp} {u : Sp} (h : rowB (l0 ++ [u]) = true) : lastsL (recsOf (foldC gr now l0 u)) = lastsL (recsOf (l0 ++ [u])) := by
  unfold lastsL
  rw [lasts_fold h]

set_option maxRecDepth 100000 in
set_option maxHeartbeats 16000000 in
theorem FoldSame_any (A : Option Addr) (n c : Nat) (w : World) (hA : Asks w A n) : Calls Try.prog 4 #[.slice A n c] w fun e w' => e = .returned (.bool true) ∧ Below w.heap.size w w' := by
  have HAS := Lib.hid hA
  clear hA
  go_enter Try.func4, Try.ntmps4
  go_wp2_with fail
  go_loopw [3] (fun i wr => ∃ k : Nat, k ≤ n ∧ k ≤ 8 ∧ i = .int .i64 (k : Int) ∧ Below w.heap.size w wr) (fun i _ => 8 - (RowKit.intOf i).toNat)
  case atStart => exact ⟨0, Nat.zero_le _, Nat.zero_le _, rfl, Below.refl _ _⟩
  case round =>
    obtain ⟨k, hkn, hk8, rfl, hbl⟩ := hrel
    have HB := Lib.hid hbl
    clear hbl
    by_cases hlt : k < n
    · have e1 : (k : Int) < (n : Int) := by omega
      by_cases hlt8 : k < 8
      · have e2 : (k : Int) < 8 := by omega
        obtain ⟨b, off, rfl, hall⟩ : ∃ b off, A = some ⟨b, off, none⟩ ∧ ∀ i, i < n → ∃ l r now A' c', AskAt w w.heap.size b (off + i * 7) l r now A' c' := by
          rcases HAS.out with h0 | h
          · omega
          · exact h
        obtain ⟨l, r, now, A', c', hask⟩ := hall k hlt
        have hask2 := hask.below HB.out
        have hld := load_ask_at hask2
        have HL0 := Lib.hid hask.hA
        have hcap' := hask.cap
        have hlen' := hask.len
        have HLM := Lib.hid hask.lim
        clear hall hask hask2
        obtain ⟨N, hN⟩ : ∃ N, l.length = N := ⟨_, rfl⟩
        rw [hN] at hld hcap' hlen'
        obtain ⟨sb, by_, ag, co, gr⟩ := r
        obtain ⟨R3, hR3⟩ : ∃ R3, askB l ⟨sb, by_, ag, co, gr⟩ now = R3 := ⟨_, rfl⟩
        obtain ⟨X, hX⟩ : ∃ X, heavyB l = X := ⟨_, rfl⟩
        have HHV := Lib.hid (fun W (hb : Below w.heap.size w W) => Heavy_is l ⟨sb, by_, ag, co, gr⟩ now N A' c' w.heap.size X W hN (by omega) hb.size (HL0.out.below hb) hX)
        have HMAY := Lib.hid (fun W (hb : Below w.heap.size w W) (hbig : (recsOf l).length ≤ 1000000) => May_is l ⟨sb, by_, ag, co, gr⟩ now N A' c' w.heap.size R3 W hN (by omega) hcap' hbig hb.size (HL0.out.below hb) hR3)
        unfold aarr at hld HHV HMAY
        dsimp only at hld HHV HMAY
        have HR3 := Lib.hid hR3
        have HX := Lib.hid hX
        have HN := Lib.hid hN
        have HCAP := Lib.hid (And.intro hcap' hlen')
        clear hR3 hX hN hcap' hlen'
        obtain ⟨p, W4, hg9, hW4, hbn, hbx, hbw⟩ := any_box HB.out 27 azero #[.slice A' N c', .int .i64 sb, .int .i64 by_, .int .i64 ag, .bool co, .int .i64 gr, .int .i64 now]
        have HBN := Lib.hid hbn
        have R5 := Lib.hid hbx
        unfold azero at hW4
        have HW4 := Lib.hid hW4
        clear hbn hbx hbw hW4 HB
        go_upto_region 5 with (first | (refine wpList_load_any (by rfl) 27 (.tmp 31) rfl b (off + k * 7) rfl _ hld ?_; simp only [Act.put]) | (rw [HW4.out]; refine wpList_store_whole rfl 27 (.tmp 4) (.tmp 32) rfl p _ rfl rfl azero HBN.out info_ask rfl (by simp [Value.oneCell']) ?_; simp only [Act.put]))
        clear HW4 HBN hg9 hld
        generalize World.setRow _ _ _ = w5 at R5 ⊢
        have hld := load_ask R5.out.out.1 rfl
        go_wp2_with (refine wpList_load_any (by rfl) 27 (.tmp 4) rfl p 0 rfl _ hld ?_; simp only [Act.put])
        refine (HHV.out _ R5.out.out.2).mono ?_
        rintro e w6 ⟨rfl, hb6⟩
        have R6 := Lib.hid (R5.out.below hb6)
        clear R5 hb6 hld HHV
        cases X with
        | true =>
          go_wp2_with fail
          go_roundw
          case rel => exact ⟨k + 1, hlt, hlt8, by go_num, R6.out.out.2⟩
          case measure => simp [RowKit.intOf]; omega
        | false =>
          obtain ⟨hn250, hn8⟩ := heavy_no HX.out HLM.out
          rw [HN.out] at hn250
          have HBIG := Lib.hid (show (recsOf l).length ≤ 1000000 by omega)
          clear hn8 HX HLM
          have hld := load_ask R6.out.out.1 rfl
          go_wp2_with (refine wpList_load_any (by rfl) 27 (.tmp 4) rfl p 0 rfl _ hld ?_; simp only [Act.put])
          refine (HMAY.out w6 R6.out.out.2 HBIG.out).mono ?_
          rintro e w7 ⟨rfl, hb7⟩
          have R7 := Lib.hid (R6.out.below hb7)
          clear R6 hb7 hld HMAY
          cases R3 with
          | false =>
            (try dsimp only)
            go_wp2_with fail
            go_roundw
            case rel => exact ⟨k + 1, hlt, hlt8, by go_num, R7.out.out.2⟩
            case measure => simp [RowKit.intOf]; omega
          | true =>
            (try dsimp only)
            obtain ⟨a1, a2, a3⟩ := ask_parts HR3.out
            obtain ⟨l0, u, hl⟩ : ∃ l0 u, l = l0 ++ [u] := by
              rcases List.eq_nil_or_concat l with h | ⟨l0, u, h⟩
              · subst h
                exact absurd (row_iff.1 a1).1.1 (by simp)
              · exact ⟨l0, u, by rw [h]; simp⟩
            subst hl
            obtain ⟨K0, hK0⟩ : ∃ K0, shutF gr now (recsOf (l0 ++ [u])) l0 = K0 := ⟨_, rfl⟩
            have hKc : foldC gr now l0 u = K0 ++ [u] := by unfold foldC; rw [hK0]
            have hKf : foldR ⟨sb, by_, ag, true, gr⟩ now l0 u = K0 ++ [u] := by unfold foldR; rw [if_pos rfl, hKc]
            have hKg : foldR ⟨sb, by_, ag, true, gr⟩ now K0 u = K0 ++ [u] := by
              unfold foldR
              rw [if_pos rfl, ← hK0]
              dsimp only
              rw [fold_again, hKc, hK0]
            have hrf := foldR_row (r := ⟨sb, by_, ag, true, gr⟩) (now := now) a1
            rw [hKf] at hrf
            have hs1 := fold_said true HR3.out
            have hs2 := fold_said (l0 := K0) (u := u) (sb := sb) (by_ := by_) (ag := ag) (co := co) (gr := gr) (now := now) true (by unfold askB; rw [hrf, a2, a3]; rfl)
            rw [hKf] at hs1
            rw [hKg] at hs2
            have hla := same_lasts (gr := gr) (now := now) a1
            rw [hKc] at hla
            have hst0 := left_start gr now l0 u
            rw [hKc] at hst0
            have hr1 := (row_pairs.1 hrf).1
            have hr2 := (row_pairs.1 a1).1
            obtain ⟨L, hL⟩ : ∃ L, (K0 ++ [u]).length = L := ⟨_, rfl⟩
            obtain ⟨KL, hKL⟩ : ∃ KL, lastsL (recsOf (l0 ++ [u])) = KL := ⟨_, rfl⟩
            obtain ⟨F, hF⟩ : ∃ F, KL.length = F := ⟨_, rfl⟩
            obtain ⟨MA, hMA⟩ : ∃ MA, (recsOf (l0 ++ [u])).length = MA := ⟨_, rfl⟩
            obtain ⟨ML, hML⟩ : ∃ ML, (recsOf (K0 ++ [u])).length = ML := ⟨_, rfl⟩
            have hF200 : F ≤ 200 := by
              have := lastsL_len (recsOf (l0 ++ [u]))
              rw [hKL, hF, hMA] at this
              have := hr2.2.2
              omega
            rw [hKL] at hla
            rw [hL, hML] at hr1
            have hL201 : L ≤ 201 := hr1.2.1
            have hML200 : ML ≤ 200 := hr1.2.2
            have hMA200 : MA ≤ 200 := by rw [← hMA]; exact hr2.2.2
            have HFO1 := Lib.hid (fun W (hb : Below w.heap.size w W) => Fold_is (l0 ++ [u]) (K0 ++ [u]) ⟨sb, by_, ag, true, gr⟩ now N L A' c' w.heap.size 0 W HN.out (by omega) HCAP.out.1 hb.size (HL0.out.below hb) hL hs1)
            have HFO2 := Lib.hid (fun W A2 c2 (hc : L ≤ c2) (h : SegsAt W W.heap.size A2 (K0 ++ [u])) => Fold_is (K0 ++ [u]) (K0 ++ [u]) ⟨sb, by_, ag, true, gr⟩ now L L A2 c2 W.heap.size 0 W hL (by omega) hc (Nat.le_refl _) h hL hs2)
            have HLA1 := Lib.hid (fun W (hb : Below w.heap.size w W) => Lasts_is (l0 ++ [u]) KL N F A' c' w.heap.size 0 W HN.out (by omega) HCAP.out.1 hb.size (HL0.out.below hb) hF (.inr ⟨rfl, a1, hKL.symm⟩))
            have HLA2 := Lib.hid (fun W A2 c2 (hc : L ≤ c2) (h : SegsAt W W.heap.size A2 (K0 ++ [u])) => Lasts_is (K0 ++ [u]) KL L F A2 c2 W.heap.size 0 W hL (by omega) hc (Nat.le_refl _) h hF (.inr ⟨rfl, hrf, hla.symm⟩))
            have HRO := Lib.hid (fun W A2 c2 (hc : L ≤ c2) (h : SegsAt W W.heap.size A2 (K0 ++ [u])) => RRow_is (K0 ++ [u]) L A2 c2 W.heap.size true W hL (by omega) hc (by rw [hML]; omega) (Nat.le_refl _) h hrf)
            have HEY := Lib.hid (fun W A2 A3 c2 c3 (h : SegsAt W W.heap.size A2 (K0 ++ [u])) (h' : SegsAt W W.heap.size A3 (K0 ++ [u])) => EqSegs_same (K0 ++ [u]) L A2 A3 c2 c3 W.heap.size W.heap.size W hL (by omega) (Nat.le_refl _) (Nat.le_refl _) h h')
            have HER := Lib.hid (fun W A2 A3 c2 c3 (h : RecsAt W W.heap.size A2 KL) (h' : RecsAt W W.heap.size A3 KL) => EqRecs_same KL A2 A3 c2 c3 W.heap.size W.heap.size W (by rw [hF]; omega) h h')
            rw [hF] at HER
            have HRA := Lib.hid (fun W (hb : Below w.heap.size w W) => RRecs_is (l0 ++ [u]) N MA A' c' w.heap.size W HN.out (by omega) hMA (by omega) hb.size (HL0.out.below hb))
            have HRL := Lib.hid (fun W A2 c2 (h : SegsAt W W.heap.size A2 (K0 ++ [u])) => RRecs_is (K0 ++ [u]) L ML A2 c2 W.heap.size W hL (by omega) hML (by omega) (Nat.le_refl _) h)
            unfold ruagg ruarr at HFO1 HFO2
            dsimp only at HFO1 HFO2
            have HLL := Lib.hid hL
            have HF := Lib.hid hF
            have HMA := Lib.hid hMA
            have HML := Lib.hid hML
            have HNX := Lib.hid (fun k hk => left_next (gr := gr) (now := now) a1 (k := k) hk)
            have HS0 := Lib.hid hst0
            have HEND := Lib.hid (left_end gr now l0 u)
            rw [hMA] at HEND
            clear a1 a2 a3 hK0 hKc hKf hKg hs1 hs2 hrf hla hr1 hr2 hst0 hL hKL hF hMA hML HR3
            have hlr := RBox.loadRu R7.out
            obtain ⟨f, W4, hf, hW4, hbn, hbx, hbw⟩ := any_box (Below.refl w7.heap.size w7) 25 (ruarr 0 0 0 false 0) (ruarr sb by_ ag co gr)
            have HBN := Lib.hid hbn
            have F8 := Lib.hid hbx
            have HF7 : Hid (w7.heap.size ≤ f) := Nat.le_of_eq hf
            unfold ruarr at hW4 F8
            have HW4 := Lib.hid hW4
            clear hbn hbx hbw hW4
            go_upto_region 7 with (first | (refine wpList_load_any (by rfl) 25 (.tmp 40) rfl p 1 rfl _ hlr ?_; simp only [Act.put]) | (rw [HW4.out]; refine wpList_store_whole rfl 25 (.tmp 5) (.tmp 41) rfl f _ rfl rfl _ HBN.out info_ru rfl (by simp [Value.oneCell']) ?_; simp only [Act.put]))
            clear HW4 HBN hf hlr
            generalize World.setRow _ _ _ = w8 at F8 ⊢
            have c3 : w8.cell? ⟨f, 3, none⟩ = some (.bool co) := F8.out.cell 3
            have z3 := F8.out.out.1.frozen 3
            have F9 : Hid (RBox w7 f #[.int .i64 sb, .int .i64 by_, .int .i64 ag, .bool true, .int .i64 gr] (w8.setCell ⟨f, 3, none⟩ (.bool true))) := kbox_put F8.out HF7.out 3 (.bool true)
            clear F8
            go_upto_region 8 with fail
            clear c3 z3
            generalize World.setCell _ _ _ = w9 at F9 ⊢
            have R9 := Lib.hid (R7.out.below F9.out.out.2)
            have hlf := load_ru F9.out.out.1 rfl
            have d0 : w9.cell? ⟨p, 0, none⟩ = some (.slice A' N c') := R9.out.cell 0
            have d6 : w9.cell? ⟨p, 6, none⟩ = some (.int .i64 now) := R9.out.cell 6
            have HC1 := Lib.hid (HFO1.out w9 R9.out.out.2)
            go_wp2_with (refine wpList_load_any (by rfl) 25 (.tmp 5) rfl f 0 rfl _ hlf ?_; simp only [Act.put])
            refine HC1.out.mono ?_
            rintro e w10 ⟨Ak, ck, xk, rfl, hok, hb10⟩
            have F10 := Lib.hid (F9.out.below hb10)
            have R10 := Lib.hid (R9.out.below hb10)
            have X10 := Lib.hid (SegsAt.of_own hok)
            have HCK := Lib.hid (row_cap (show w10.ownsRow w9.heap.size 49 2 (.slice Ak L ck) L (xflat xk) by have := hok.row; rw [HLL.out] at this; exact this))
            clear hok hb10 d0 d6 hlf HC1 HFO1 HF7 F9 R9 R7
            have hlf := load_ru F10.out.out.1 rfl
            have d6 : w10.cell? ⟨p, 6, none⟩ = some (.int .i64 now) := R10.out.cell 6
            have HC2 := Lib.hid (HFO2.out w10 Ak ck HCK.out X10.out)
            go_wp2_with (refine wpList_load_any (by rfl) 25 (.tmp 5) rfl f 0 rfl _ hlf ?_; simp only [Act.put])
            refine HC2.out.mono ?_
            rintro e w11 ⟨Ay, cy, xy, rfl, hoy, hb11⟩
            have R11 := Lib.hid (R10.out.below hb11)
            have X11 := Lib.hid (X10.out.on hb11)
            have Y11 := Lib.hid (SegsAt.of_own hoy)
            clear hoy hb11 d6 hlf HC2 HFO2 X10 F10 R10
            have d0 : w11.cell? ⟨p, 0, none⟩ = some (.slice A' N c') := R11.out.cell 0
            have HC3 := Lib.hid (HLA1.out w11 R11.out.out.2)
            go_wp2_with fail
            refine HC3.out.mono ?_
            rintro e w12 ⟨Aa, ca, rfl, hoa, hb12⟩
            have R12 := Lib.hid (R11.out.below hb12)
            have X12 := Lib.hid (X11.out.on hb12)
            have Y12 := Lib.hid (Y11.out.on hb12)
            have La12 : Hid (RecsAt w12 w12.heap.size Aa KL) := Lib.hid (.of_own (by rw [HF.out]; exact hoa))
            clear hoa hb12 d0 HC3 HLA1 R11 X11 Y11
            have HC4 := Lib.hid (HLA2.out w12 Ak ck HCK.out X12.out)
            go_wp2_with fail
            refine HC4.out.mono ?_
            rintro e w13 ⟨Ab, cb, rfl, hob, hb13⟩
            have R13 := Lib.hid (R12.out.below hb13)
            have X13 := Lib.hid (X12.out.on hb13)
            have Y13 := Lib.hid (Y12.out.on hb13)
            have La13 := Lib.hid (La12.out.on hb13)
            have Lb13 : Hid (RecsAt w13 w13.heap.size Ab KL) := Lib.hid (.of_own (by rw [HF.out]; exact hob))
            clear hob hb13 HC4 HLA2 R12 X12 Y12 La12
            have HC5 := Lib.hid (HEY.out w13 Ak Ay ck cy X13.out Y13.out)
            go_wp2_with (go_at_call 12; refine (fnum_is _ _).mono ?_; rintro e w' ⟨rfl, rfl⟩)
            refine HC5.out.mono ?_
            rintro e w14 ⟨rfl, hb14⟩
            have R14 := Lib.hid (R13.out.below hb14)
            have X14 := Lib.hid (X13.out.on hb14)
            have La14 := Lib.hid (La13.out.on hb14)
            have Lb14 := Lib.hid (Lb13.out.on hb14)
            clear hb14 HC5 HEY R13 X13 Y13 La13 Lb13
            have HC6 := Lib.hid (HER.out w14 Aa Ab ca cb La14.out Lb14.out)
            go_wp2_with fail
            refine HC6.out.mono ?_
            rintro e w15 ⟨rfl, hb15⟩
            have R15 := Lib.hid (R14.out.below hb15)
            have X15 := Lib.hid (X14.out.on hb15)
            clear hb15 HC6 HER R14 X14 La14 Lb14
            have HC7 := Lib.hid (HRO.out w15 Ak ck HCK.out X15.out)
            go_wp2_with fail
            refine HC7.out.mono ?_
            rintro e w16 ⟨rfl, hb16⟩
            have R16 := Lib.hid (R15.out.below hb16)
            have X16 := Lib.hid (X15.out.on hb16)
            clear hb16 HC7 HRO R15 X15
            have d0 : w16.cell? ⟨p, 0, none⟩ = some (.slice A' N c') := R16.out.cell 0
            have HC8 := Lib.hid (HRA.out w16 R16.out.out.2)
            go_wp2_with fail
            refine HC8.out.mono ?_
            rintro e w17 ⟨Al, cl, rfl, hal, hb17⟩
            have R17 := Lib.hid (R16.out.below hb17)
            have X17 := Lib.hid (X16.out.on hb17)
            have AL17 := Lib.hid hal
            clear hal hb17 d0 HC8 HRA R16 X16
            have HC9 := Lib.hid (HRL.out w17 Ak ck X17.out)
            go_wp2_with fail
            refine HC9.out.mono ?_
            rintro e w18 ⟨Af, cf, rfl, haf, hb18⟩
            have B18 := Lib.hid (R17.out.below hb18).out.2
            have AL := Lib.hid (AL17.out.on hb18)
            have AF := Lib.hid haf
            clear haf hb18 HC9 HRL R17 X17 AL17 HCK
            go_wp2_with fail
            go_loopw [16, 17] (fun a i wr => ∃ y z : Nat, y ≤ MA ∧ z ≤ ML ∧ i = .int .i64 (y : Int) ∧ a = .int .i64 (z : Int) ∧ (recsOf (K0 ++ [u])).drop z = leftF gr now l0 u y ∧ Below w18.heap.size w18 wr) (fun _ i _ => MA - (RowKit.intOf i).toNat)
            case atStart => exact ⟨0, 0, Nat.zero_le _, Nat.zero_le _, rfl, rfl, by rw [List.drop_zero]; exact HS0.out.symm, Below.refl _ _⟩
            case round =>
              obtain ⟨y, z, hy, hz, rfl, rfl, hdr, hbl⟩ := hrel
              obtain ⟨V, hV⟩ : ∃ V, V = wr := ⟨_, rfl⟩
              rw [← hV] at hbl ⊢
              clear hV
              have BY := Lib.hid hbl
              have HDR := Lib.hid hdr
              clear hbl hdr
              by_cases hyt : y < MA
              · have hyr : y < (recsOf (l0 ++ [u])).length := by rw [HMA.out]; exact hyt
                have hnx := HNX.out y hyr
                rw [← HDR.out] at hnx
                have hald := AL.out
                obtain ⟨b3, o3, hAl, hb3, hc3⟩ := AL.out.some_ (by omega)
                subst hAl
                have hra := hc3 y hyr
                clear hc3 hald
                generalize (recsOf (l0 ++ [u]))[y] = x at hnx hra
                have e1 : (y : Int) < (MA : Int) := by omega
                haveI : Nonempty (In (Bel V)) := ⟨⟨V, bel_of (Below.refl _ _)⟩⟩
                have k3 := fun X : In (Bel V) => load_rat (hra.keep (w' := X.w) (fun i => (bel_step BY.out X.h.out).cell (p := ⟨b3, i, none⟩) hb3))
                have HC3 := Lib.hid (fun W (hb : Below w18.heap.size w18 W) => hra.keep (w' := W) (fun i => hb.cell (p := ⟨b3, i, none⟩) hb3))
                by_cases hzt : z < ML
                · have hzr : z < (recsOf (K0 ++ [u])).length := by rw [HML.out]; exact hzt
                  have hdc := List.drop_eq_getElem_cons hzr
                  obtain ⟨b4, o4, hAf, hb4, hc4⟩ := AF.out.some_ (by omega)
                  subst hAf
                  have hrb := hc4 z hzr
                  clear hc4
                  generalize (recsOf (K0 ++ [u]))[z] = v at hdc hrb
                  have k4 := fun X : In (Bel V) => load_rat (hrb.keep (w' := X.w) (fun i => (bel_step BY.out X.h.out).cell (p := ⟨b4, i, none⟩) hb4))
                  have e2 : (z : Int) < (ML : Int) := by omega
                  rw [hdc] at hnx
                  unfold ragg at k3 k4
                  rcases hnx with h1 | ⟨h1, h2, h3⟩
                  · injection h1 with h1 h4
                    subst h1
                    have hq := fun W => eql_rec v.o v.t (str v.k) (str v.b) v.q v.g W
                    have HD2 := Lib.hid h4
                    clear h4 hdc hra hrb hyr hzr HC3
                    generalize rarr v.o v.t (str v.k) (str v.b) v.q v.g = rv at k3 k4 hq
                    go_upto_region 19 with fail
                    refine region_in (S := Bel V) (by kernel_rfl) (by kernel_rfl) (Bel.drewN (bel_of (Below.refl _ _)) 1) ?_
                    iterate 8 (go_big_quiet_step (fail))
                    go_big_quiet_want
                    refine quiet_load_in 46 (.tmp 124) rfl b4 (o4 + z * 6) rfl _ k4 ?_
                    go_simp
                    go_big_quiet_on
                    iterate 3 (go_big_quiet_step (fail))
                    go_big_quiet_want
                    refine quiet_load_in 46 (.tmp 128) rfl b3 (o3 + y * 6) rfl _ k3 ?_
                    go_simp
                    go_big_quiet_on
                    repeat (go_big_quiet_step (fail))
                    refine wpQuiet_nil ?_
                    rintro w19 ⟨⟨x19, st19⟩, rfl⟩
                    have B19 := Lib.hid (bel_step BY.out st19.out)
                    clear this st19 k3 k4 hq
                    (try simp only [Bool.not_true, Bool.not_false])
                    go_wp2_with fail
                    go_roundw
                    case rel => exact ⟨y + 1, z + 1, hyt, hzt, by go_num, by go_num, HD2.out, B19.out⟩
                    case measure => simp [RowKit.intOf]; omega
                  · have hne : ¬ v.o = x.o := by
                      have := h3 v List.mem_cons_self
                      omega
                    have hq := fun W => eql_rec_off v.o x.o v.t x.t (str v.k) (str x.k) (str v.b) (str x.b) v.q x.q v.g x.g W hne
                    have HD2 := Lib.hid (hdc.trans h1)
                    have HK2 := Lib.hid h2
                    clear h1 h2 h3 hdc hne hra hrb hyr hzr
                    obtain ⟨rv, hrv⟩ : ∃ rv, rarr v.o v.t (str v.k) (str v.b) v.q v.g = rv := ⟨_, rfl⟩
                    rw [hrv] at k4 hq
                    obtain ⟨rx, hrx⟩ : ∃ rx, rarr x.o x.t (str x.k) (str x.b) x.q x.g = rx := ⟨_, rfl⟩
                    rw [hrx] at k3 hq
                    clear hrv hrx
                    go_upto_region 19 with fail
                    refine region_in (S := Bel V) (by kernel_rfl) (by kernel_rfl) (Bel.drewN (bel_of (Below.refl _ _)) 1) ?_
                    iterate 8 (go_big_quiet_step (fail))
                    go_big_quiet_want
                    refine quiet_load_in 46 (.tmp 124) rfl b4 (o4 + z * 6) rfl _ k4 ?_
                    go_simp
                    go_big_quiet_on
                    iterate 3 (go_big_quiet_step (fail))
                    go_big_quiet_want
                    refine quiet_load_in 46 (.tmp 128) rfl b3 (o3 + y * 6) rfl _ k3 ?_
                    go_simp
                    go_big_quiet_on
                    repeat (go_big_quiet_step (fail))
                    refine wpQuiet_nil ?_
                    rintro w19 ⟨⟨x19, st19⟩, rfl⟩
                    have B19 := Lib.hid (bel_step BY.out st19.out)
                    clear this st19 k3 k4 hq
                    (try simp only [Bool.not_true, Bool.not_false])
                    obtain ⟨_, _, r2, _, _, r5⟩ := HC3.out _ B19.out
                    obtain ⟨ks, hks⟩ : ∃ ks, str x.k = ks := ⟨_, rfl⟩
                    rw [hks] at r2
                    have HKL := Lib.hid (show ks.toList = x.k by rw [← hks, str_toList])
                    obtain ⟨xg, hxg⟩ : ∃ xg, x.g = xg := ⟨_, rfl⟩
                    rw [hxg] at r5 HK2
                    clear hks hxg
                    by_cases hk0 : x.k = []
                    · have g1 : (ks.toList == []) = true := by rw [HKL.out, hk0]; rfl
                      have g2 : ks = ByteArray.empty := by rw [← data_str ks, ← toList_data_eq, HKL.out, hk0]; rfl
                      have hgt : xg = true := by
                        rcases HK2.out with h | h
                        · exact absurd hk0 h
                        · exact h
                      subst hgt
                      clear hk0
                      go_wp2_with fail
                      go_roundw
                      case rel => exact ⟨y + 1, z, hyt, hz, by go_num, rfl, HD2.out, B19.out⟩
                      case measure => simp [RowKit.intOf]; omega
                    · have g1 : (ks.toList == []) = false := by rw [HKL.out, beq_eq_false_iff_ne]; exact hk0
                      have g2 : ¬ ks = ByteArray.empty := fun e => hk0 (by rw [← HKL.out, e, ByteArray.toList_eq]; rfl)
                      clear hk0
                      go_wp2_with fail
                      go_roundw
                      case rel => exact ⟨y + 1, z, hyt, hz, by go_num, rfl, HD2.out, B19.out⟩
                      case measure => simp [RowKit.intOf]; omega
                · have hzM : z = ML := by omega
                  have e2 : ¬ (z : Int) < (ML : Int) := by omega
                  have hnil : (recsOf (K0 ++ [u])).drop z = [] := List.drop_of_length_le (by rw [HML.out, hzM]; exact Nat.le_refl _)
                  rw [hnil] at hnx
                  rcases hnx with h1 | ⟨h1, h2, _⟩
                  · exact absurd h1 (by simp)
                  · have HD2 := Lib.hid (hnil.trans h1)
                    have HK2 := Lib.hid h2
                    clear h1 h2 hnil hra hyr k3 hzM
                    go_upto_region 19 with fail
                    refine region_in (S := Bel V) (by kernel_rfl) (by kernel_rfl) (Bel.drewN (bel_of (Below.refl _ _)) 1) ?_
                    repeat (go_big_quiet_step (fail))
                    refine wpQuiet_nil ?_
                    rintro w19 ⟨⟨x19, st19⟩, rfl⟩
                    have B19 := Lib.hid (bel_step BY.out st19.out)
                    clear this st19
                    (try simp only [Bool.not_true, Bool.not_false])
                    obtain ⟨_, _, r2, _, _, r5⟩ := HC3.out _ B19.out
                    obtain ⟨ks, hks⟩ : ∃ ks, str x.k = ks := ⟨_, rfl⟩
                    rw [hks] at r2
                    have HKL := Lib.hid (show ks.toList = x.k by rw [← hks, str_toList])
                    obtain ⟨xg, hxg⟩ : ∃ xg, x.g = xg := ⟨_, rfl⟩
                    rw [hxg] at r5 HK2
                    clear hks hxg
                    by_cases hk0 : x.k = []
                    · have g1 : (ks.toList == []) = true := by rw [HKL.out, hk0]; rfl
                      have g2 : ks = ByteArray.empty := by rw [← data_str ks, ← toList_data_eq, HKL.out, hk0]; rfl
                      have hgt : xg = true := by
                        rcases HK2.out with h | h
                        · exact absurd hk0 h
                        · exact h
                      subst hgt
                      clear hk0
                      go_wp2_with fail
                      go_roundw
                      case rel => exact ⟨y + 1, z, hyt, hz, by go_num, rfl, HD2.out, B19.out⟩
                      case measure => simp [RowKit.intOf]; omega
                    · have g1 : (ks.toList == []) = false := by rw [HKL.out, beq_eq_false_iff_ne]; exact hk0
                      have g2 : ¬ ks = ByteArray.empty := fun e => hk0 (by rw [← HKL.out, e, ByteArray.toList_eq]; rfl)
                      clear hk0
                      go_wp2_with fail
                      go_roundw
                      case rel => exact ⟨y + 1, z, hyt, hz, by go_num, rfl, HD2.out, B19.out⟩
                      case measure => simp [RowKit.intOf]; omega
              · have hyM : y = MA := by omega
                have e1 : ¬ (y : Int) < (MA : Int) := by omega
                have hd := HDR.out
                rw [hyM, HEND.out] at hd
                have hzl : ML ≤ z := by
                  have := congrArg List.length hd
                  rw [List.length_drop, HML.out, List.length_nil] at this
                  omega
                have hzM : z = ML := by omega
                subst hzM
                clear hd hzl hyM
                go_wp2_with fail
                go_roundw
                case rel => exact ⟨k + 1, hlt, hlt8, by go_num, bel_step B18.out BY.out⟩
                case measure => simp [RowKit.intOf]; omega
      · have e3 : ¬ (k : Int) < 8 := by omega
        have HWK := Lib.hid (fwakes_any wr)
        go_wp2_with fail
        refine HWK.out.mono ?_
        rintro e w1 ⟨rfl, hb1⟩
        have B1 := Lib.hid (bel_step HB.out hb1)
        clear hb1 HB HWK
        go_wp2_with fail
        go_ret
        exact ⟨rfl, B1.out⟩
    · have e3 : ¬ (k : Int) < (n : Int) := by omega
      have HWK := Lib.hid (fwakes_any wr)
      go_wp2_with fail
      refine HWK.out.mono ?_
      rintro e w1 ⟨rfl, hb1⟩
      have B1 := Lib.hid (bel_step HB.out hb1)
      clear hb1 HB HWK
      go_wp2_with fail
      go_ret
      exact ⟨rfl, B1.out⟩
end Go.Proofs.Ythdefnfpjbpbkaa.Kpd
/- For every list of asks: the last of each key stay, just as they were; done again it is the same; nothing is there that was not, all in order; what has no key stays. No condition. -/
namespace Go.Proofs.Ythdefnfpjbpbkaa.foldSame
open Go.ChangeShapes Go.WideShapes Go.ChangeAt Go.RowKit Kpd

set_option maxRecDepth 100000 in
theorem lifted (os : Os) (started : os.Started) (H : Type) (enc : TypeId × Value → H) :
    ReturnsInHanded {} Try.checked os 4 .any (Rows.foldSameSpec.pre6 enc Try.prog Try.f4 Rows.foldSameRow.domain false) (Rows.foldSameSpec.post enc Try.prog Try.f4 false true false false) := by
  refine returnsInHanded_of_change_sized (C := Try.checked) ownKnob_none started (by kernel_rfl) Try.func4
    (ChangeSpec.witness6 (enc := enc) (C := Try.checked) false ⟨#[], #[.slice none 0 0], []⟩ 8 (by kernel_rfl) (by kernel_rfl) (by kernel_rfl) (by kernel_rfl)) ?_
  intro W base args ds gs before hval0 hW _ hsz0 _
  have hval : ∀ (j : Nat) t v, Try.f4.params[j]? = some t → args[j]? = some v → Value.okWide Try.prog W .any base t v := hval0
  have hW' := hW
  obtain ⟨p, q, hA0, hV, rfl, _, _⟩ := hW
  have hA : DataW.TrodAll enc Try.prog W 0 (fun _ => true) true Try.f4.params.toList args.toList ds p := hA0
  rw [Try.params4] at hA hval
  obtain ⟨v0, d0, rfl, rfl, h0⟩ := trodAll_one hA
  obtain ⟨rfl, rfl⟩ := trodVars_none hV
  obtain ⟨a0, n0, c0, rfl⟩ := okWide_slice Try.underlying22 (hval 0 22 v0 rfl rfl)
  have lt0 : ∀ x ∈ p, x.block < W.heap.size := by obtain ⟨m, hm⟩ := h0; exact DataW.trod_lt m _ _ _ hm
  have near : Near 22 d0 := fun n hn => by
    have := List.all_eq_true.1 hsz0 n (DataW.weights_mem_each (j := 0) (t := 22) (d := d0) (by rw [Try.params4]; rfl) rfl n hn)
    simpa using this
  clear hA0 hval0
  refine (FoldSame_any a0 n0 c0 W (asks_near near h0)).mono fun e W' ⟨he, bel⟩ => ?_
  subst he
  exact ⟨_, rfl, _, _, _, [], _, [], hW', trodAll_mk1 (shut_bool Try.underlying4 _), trodAll_mk1 (Below.trod laidOut_true (by kernel_rfl) (of_decide_eq_true (by kernel_rfl)) h0 bel lt0), rfl, bel.frame _, fun h => by cases h⟩

theorem over : Rows.foldSameRow.holds Try.pinned (OpenSpec.ofChange Rows.foldSameSpec) :=
  OpenClaim.holds_of_wide 4 Try.f4 rfl rfl rfl rfl rfl rfl rfl ⟨rfl, rfl, rfl, rfl, rfl⟩ rfl rfl rfl rfl rfl (by kernel_rfl) Try.func4 (by kernel_rfl)
    (of_decide_eq_true (by kernel_rfl)) (by unfold Func.isWrapper; rw [if_neg (of_decide_eq_false (by kernel_rfl))]; exact ⟨rfl, rfl⟩)
    (fun os started H enc _ => lifted os started H enc)

theorem proved : Rows.FoldSameSaid := over
#print axioms proved
end Go.Proofs.Ythdefnfpjbpbkaa.foldSame
