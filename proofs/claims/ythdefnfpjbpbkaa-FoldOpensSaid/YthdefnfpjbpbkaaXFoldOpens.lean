/- For every list of asks: the open segment stays, whatever its keys; where topics are not compacted all stays; a key in the open one takes away those in closed ones. No condition. -/
import Derived.SizedLaws
import Derived.Test.YthdefnfpjbpbkaaX13
/- FoldOpens, by its walk: the open segment stays, whatever its keys; where topics are not compacted all stays; a key in the open one takes away those in closed ones. -/
namespace Go.Proofs.Ythdefnfpjbpbkaa.Kpd
open Go.RowKit Go.Lib Rcd

set_option maxRecDepth 100000 in
set_option maxHeartbeats 16000000 in
theorem FoldOpens_any (A : Option Addr) (n c : Nat) (w : World) (hA : Asks w A n) : Calls Try.prog 6 #[.slice A n c] w fun e w' => e = .returned (.bool true) ∧ Below w.heap.size w w' := by
  have HAS := Lib.hid hA
  clear hA
  go_enter Try.func6, Try.ntmps6
  go_wp2_with fail
  go_loopw [3] (fun i wr => ∃ k : Nat, k ≤ n ∧ k ≤ 8 ∧ i = .int .i64 (k : Int) ∧ Below w.heap.size w wr) (fun i _ => 8 - (RowKit.intOf i).toNat)
  case atStart => exact ⟨0, Nat.zero_le _, Nat.zero_le _, rfl, Below.refl _ _⟩
  case round =>
    obtain ⟨k, hkn, hk8, rfl, hbl⟩ := hrel
    have HB := Lib.hid hbl
    clear hbl
    by_cases hlt : k < n
    · have e1 : (k : Int) < (n : Int) := by omega
      by_cases hlt8 : k < 8
      · have e2 : (k : Int) < 8 := by omega
        obtain ⟨b, off, rfl, hall⟩ : ∃ b off, A = some ⟨b, off, none⟩ ∧ ∀ i, i < n → ∃ l r now A' c', AskAt w w.heap.size b (off + i * 7) l r now A' c' := by
          rcases HAS.out with h0 | h
          · omega
          · exact h
        obtain ⟨l, r, now, A', c', hask⟩ := hall k hlt
        have hask2 := hask.below HB.out
        have hld := load_ask_at hask2
        have HL0 := Lib.hid hask.hA
        have hcap' := hask.cap
        have hlen' := hask.len
        have HLM := Lib.hid hask.lim
        clear hall hask hask2
        obtain ⟨N, hN⟩ : ∃ N, l.length = N := ⟨_, rfl⟩
        rw [hN] at hld hcap' hlen'
        obtain ⟨sb, by_, ag, co, gr⟩ := r
        obtain ⟨R3, hR3⟩ : ∃ R3, askB l ⟨sb, by_, ag, co, gr⟩ now = R3 := ⟨_, rfl⟩
        obtain ⟨X, hX⟩ : ∃ X, heavyB l = X := ⟨_, rfl⟩
        have HHV := Lib.hid (fun W (hb : Below w.heap.size w W) => Heavy_is l ⟨sb, by_, ag, co, gr⟩ now N A' c' w.heap.size X W hN (by omega) hb.size (HL0.out.below hb) hX)
        have HMAY := Lib.hid (fun W (hb : Below w.heap.size w W) (hbig : (recsOf l).length ≤ 1000000) => May_is l ⟨sb, by_, ag, co, gr⟩ now N A' c' w.heap.size R3 W hN (by omega) hcap' hbig hb.size (HL0.out.below hb) hR3)
        unfold aarr at hld HHV HMAY
        dsimp only at hld HHV HMAY
        have HR3 := Lib.hid hR3
        have HX := Lib.hid hX
        have HN := Lib.hid hN
        have HCAP := Lib.hid (And.intro hcap' hlen')
        clear hR3 hX hN hcap' hlen'
        obtain ⟨p, W4, hg9, hW4, hbn, hbx, hbw⟩ := any_box HB.out 27 azero #[.slice A' N c', .int .i64 sb, .int .i64 by_, .int .i64 ag, .bool co, .int .i64 gr, .int .i64 now]
        have HBN := Lib.hid hbn
        have R5 := Lib.hid hbx
        unfold azero at hW4
        have HW4 := Lib.hid hW4
        clear hbn hbx hbw hW4 HB
        go_upto_region 5 with (first | (refine wpList_load_any (by rfl) 27 (.tmp 26) rfl b (off + k * 7) rfl _ hld ?_; simp only [Act.put]) | (rw [HW4.out]; refine wpList_store_whole rfl 27 (.tmp 4) (.tmp 27) rfl p _ rfl rfl azero HBN.out info_ask rfl (by simp [Value.oneCell']) ?_; simp only [Act.put]))
        clear HW4 HBN hg9 hld
        generalize World.setRow _ _ _ = w5 at R5 ⊢
        have hld := load_ask R5.out.out.1 rfl
        go_wp2_with (refine wpList_load_any (by rfl) 27 (.tmp 4) rfl p 0 rfl _ hld ?_; simp only [Act.put])
        refine (HHV.out _ R5.out.out.2).mono ?_
        rintro e w6 ⟨rfl, hb6⟩
        have R6 := Lib.hid (R5.out.below hb6)
        clear R5 hb6 hld HHV
        cases X with
        | true =>
          go_wp2_with fail
          go_roundw
          case rel => exact ⟨k + 1, hlt, hlt8, by go_num, R6.out.out.2⟩
          case measure => simp [RowKit.intOf]; omega
        | false =>
          obtain ⟨hn250, hn8⟩ := heavy_no HX.out HLM.out
          rw [HN.out] at hn250
          have HBIG := Lib.hid (show (recsOf l).length ≤ 1000000 by omega)
          clear hn8 HX HLM
          have hld := load_ask R6.out.out.1 rfl
          go_wp2_with (refine wpList_load_any (by rfl) 27 (.tmp 4) rfl p 0 rfl _ hld ?_; simp only [Act.put])
          refine (HMAY.out w6 R6.out.out.2 HBIG.out).mono ?_
          rintro e w7 ⟨rfl, hb7⟩
          have R7 := Lib.hid (R6.out.below hb7)
          clear R6 hb7 hld HMAY
          cases R3 with
          | false =>
            (try dsimp only)
            go_wp2_with fail
            go_roundw
            case rel => exact ⟨k + 1, hlt, hlt8, by go_num, R7.out.out.2⟩
            case measure => simp [RowKit.intOf]; omega
          | true =>
            (try dsimp only)
            obtain ⟨a1, a2, a3⟩ := ask_parts HR3.out
            obtain ⟨l0, u, hl⟩ : ∃ l0 u, l = l0 ++ [u] := by
              rcases List.eq_nil_or_concat l with h | ⟨l0, u, h⟩
              · subst h
                exact absurd (row_iff.1 a1).1.1 (by simp)
              · exact ⟨l0, u, by rw [h]; simp⟩
            subst hl
            obtain ⟨n0, hn0⟩ : ∃ n0, l0.length = n0 := ⟨_, rfl⟩
            have hnN : n0 + 1 = N := by rw [← HN.out, List.length_append, hn0]; rfl
            obtain ⟨K0, hK0⟩ : ∃ K0, shutF gr now (recsOf (l0 ++ [u])) l0 = K0 := ⟨_, rfl⟩
            have hKf : foldR ⟨sb, by_, ag, true, gr⟩ now l0 u = K0 ++ [u] := by unfold foldR foldC; rw [if_pos rfl, hK0]
            have hKg : foldR ⟨sb, by_, ag, false, gr⟩ now l0 u = l0 ++ [u] := rfl
            have hs1 := fold_said true HR3.out
            have hs2 := fold_said false HR3.out
            rw [hKf] at hs1
            rw [hKg] at hs2
            have hrf := foldR_row (r := ⟨sb, by_, ag, true, gr⟩) (now := now) a1
            rw [hKf] at hrf
            have hr1 := (row_pairs.1 hrf).1
            have hr2 := (row_pairs.1 a1).1
            obtain ⟨L, hL⟩ : ∃ L, (K0 ++ [u]).length = L := ⟨_, rfl⟩
            obtain ⟨q, hq⟩ : ∃ q, K0.length = q := ⟨_, rfl⟩
            have hqL : q + 1 = L := by rw [← hL, List.length_append, hq]; rfl
            obtain ⟨M, hM⟩ : ∃ M, u.rs.length = M := ⟨_, rfl⟩
            obtain ⟨M2, hM2⟩ : ∃ M2, (recsOf K0).length = M2 := ⟨_, rfl⟩
            have hMb : M2 + M ≤ 200 := by
              have := hr1.2.2
              rw [recs_snoc, List.length_append, hM, hM2] at this
              exact this
            have hkey : ∀ x ∈ recsOf K0, ∀ y ∈ u.rs, ¬ y.k = [] → ¬ x.k = y.k := fun x hx y hy hk => open_keys a1 (by rw [hK0]; exact hx) hy hk
            rw [hL] at hr1
            have hL201 : L ≤ 201 := hr1.2.1
            have HFO1 := Lib.hid (fun W (hb : Below w.heap.size w W) => Fold_is (l0 ++ [u]) (K0 ++ [u]) ⟨sb, by_, ag, true, gr⟩ now N L A' c' w.heap.size 0 W HN.out (by omega) HCAP.out.1 hb.size (HL0.out.below hb) hL hs1)
            have HFO2 := Lib.hid (fun W (hb : Below w.heap.size w W) => Fold_is (l0 ++ [u]) (l0 ++ [u]) ⟨sb, by_, ag, false, gr⟩ now N N A' c' w.heap.size 0 W HN.out (by omega) HCAP.out.1 hb.size (HL0.out.below hb) HN.out hs2)
            unfold ruagg ruarr at HFO1 HFO2
            dsimp only at HFO1 HFO2
            have HKY := Lib.hid hkey
            have HLL := Lib.hid hL
            have HQ := Lib.hid hq
            have HM := Lib.hid hM
            have HM2 := Lib.hid hM2
            have HN0 := Lib.hid hn0
            clear a1 a2 a3 hK0 hKf hKg hs1 hs2 hrf hr1 hr2 hkey hL hq hM hM2 hn0 HR3
            have hlr := RBox.loadRu R7.out
            obtain ⟨f, W4, hf, hW4, hbn, hbx, hbw⟩ := any_box (Below.refl w7.heap.size w7) 25 (ruarr 0 0 0 false 0) (ruarr sb by_ ag co gr)
            have HBN := Lib.hid hbn
            have F8 := Lib.hid hbx
            have HF7 : Hid (w7.heap.size ≤ f) := Nat.le_of_eq hf
            unfold ruarr at hW4 F8
            have HW4 := Lib.hid hW4
            clear hbn hbx hbw hW4
            go_upto_region 7 with (first | (refine wpList_load_any (by rfl) 25 (.tmp 35) rfl p 1 rfl _ hlr ?_; simp only [Act.put]) | (rw [HW4.out]; refine wpList_store_whole rfl 25 (.tmp 5) (.tmp 36) rfl f _ rfl rfl _ HBN.out info_ru rfl (by simp [Value.oneCell']) ?_; simp only [Act.put]))
            clear HW4 HBN hf hlr
            generalize World.setRow _ _ _ = w8 at F8 ⊢
            have c3 : w8.cell? ⟨f, 3, none⟩ = some (.bool co) := F8.out.cell 3
            have z3 := F8.out.out.1.frozen 3
            have F9 : Hid (RBox w7 f #[.int .i64 sb, .int .i64 by_, .int .i64 ag, .bool true, .int .i64 gr] (w8.setCell ⟨f, 3, none⟩ (.bool true))) := kbox_put F8.out HF7.out 3 (.bool true)
            clear F8
            go_upto_region 8 with fail
            clear c3 z3
            generalize World.setCell _ _ _ = w9 at F9 ⊢
            have R9 := Lib.hid (R7.out.below F9.out.out.2)
            have hlf := load_ru F9.out.out.1 rfl
            have d0 : w9.cell? ⟨p, 0, none⟩ = some (.slice A' N c') := R9.out.cell 0
            have d6 : w9.cell? ⟨p, 6, none⟩ = some (.int .i64 now) := R9.out.cell 6
            have HC1 := Lib.hid (HFO1.out w9 R9.out.out.2)
            go_wp2_with (refine wpList_load_any (by rfl) 25 (.tmp 5) rfl f 0 rfl _ hlf ?_; simp only [Act.put])
            refine HC1.out.mono ?_
            rintro e w10 ⟨Ak, ck, xk, rfl, hok, hb10⟩
            have F10 := Lib.hid (F9.out.below hb10)
            have hfl : f < w9.heap.size := F9.out.out.1.lt
            have O10 := Lib.hid hok
            clear hok hb10 d0 d6 hlf HC1 HFO1
            have c3 : w10.cell? ⟨f, 3, none⟩ = some (.bool true) := F10.out.cell 3
            have z3 := F10.out.out.1.frozen 3
            have F11 : Hid (RBox w7 f #[.int .i64 sb, .int .i64 by_, .int .i64 ag, .bool false, .int .i64 gr] (w10.setCell ⟨f, 3, none⟩ (.bool false))) := kbox_put F10.out HF7.out 3 (.bool false)
            have O11 := Lib.hid (O10.out.far (i := 3) (u := .bool false) hfl)
            clear O10 F10 F9
            go_upto_region 10 with fail
            clear c3 z3
            generalize World.setCell _ _ _ = w11 at F11 O11 ⊢
            have R11 := Lib.hid (R7.out.below F11.out.out.2)
            have hlf := load_ru F11.out.out.1 rfl
            have d0 : w11.cell? ⟨p, 0, none⟩ = some (.slice A' N c') := R11.out.cell 0
            have d6 : w11.cell? ⟨p, 6, none⟩ = some (.int .i64 now) := R11.out.cell 6
            have HC2 := Lib.hid (HFO2.out w11 R11.out.out.2)
            go_wp2_with (refine wpList_load_any (by rfl) 25 (.tmp 5) rfl f 0 rfl _ hlf ?_; simp only [Act.put])
            refine HC2.out.mono ?_
            rintro e w12 ⟨Ay, cy, xy, rfl, hoy, hb12⟩
            have R12 := Lib.hid (R11.out.below hb12)
            have O12 := Lib.hid (O11.out.below hb12)
            have Y12 := Lib.hid (SegsAt.of_own hoy)
            clear hoy hb12 d0 d6 hlf HC2 HFO2 O11 R11 F11 HF7 hfl R9 R7
            have hcapk := row_cap (show w12.ownsRow w9.heap.size 49 2 (.slice Ak L ck) L (xflat xk) by have := O12.out.row; rw [HLL.out] at this; exact this)
            obtain ⟨gk, A1, c1, rfl, hgk, t0, t1, hA1⟩ := own_last HLL.out hqL O12.out
            obtain ⟨b1, o1, A3, c3, rfl, hb1, s0, s1, hA3⟩ := at_last HN0.out HL0.out
            have hKAT := SegsAt.of_own O12.out
            have hBw := R12.out.out.2
            obtain ⟨ub, hub⟩ : ∃ ub, u.b = ub := ⟨_, rfl⟩
            have HEQ := Lib.hid (fun W (hb : Bel w12 W) => EqSeg_same u.b u.rs A1 A3 c1 c3 w12.heap.size w.heap.size W (by rw [HM.out]; omega) hb.out.size (bel_step hBw hb.out).size (hA1.below hb.out) (hA3.below (bel_step hBw hb.out)))
            have HEY := Lib.hid (fun W (hb : Bel w12 W) => EqSegs_same (l0 ++ [u]) N Ay (some ⟨b1, o1, none⟩) cy c' w12.heap.size w.heap.size W HN.out (by omega) hb.out.size (bel_step hBw hb.out).size (Y12.out.below hb.out) (HL0.out.below (bel_step hBw hb.out)))
            rw [hub, HM.out] at HEQ
            rw [hub] at t0 s0
            rw [HM.out] at t1 s1
            haveI : Nonempty (In (Bel w12)) := ⟨⟨w12, bel_of (Below.refl _ _)⟩⟩
            have hp12 : p < w12.heap.size := R12.out.out.1.lt
            have k0 := fun x : In (Bel w12) => (x.h.out.cell (p := ⟨p, 0, none⟩) hp12).trans (show w12.cell? ⟨p, 0, none⟩ = some (.slice (some ⟨b1, o1, none⟩) N c') from R12.out.cell 0)
            have kx := fun x : In (Bel w12) => load_seg_at ((x.h.out.cell (p := ⟨gk, q * 2, none⟩) hgk).trans t0) ((x.h.out.cell (p := ⟨gk, q * 2 + 1, none⟩) hgk).trans t1)
            have kp := fun x : In (Bel w12) => load_seg_at (((bel_step hBw x.h.out).cell (p := ⟨b1, o1 + n0 * 2, none⟩) hb1).trans s0) (((bel_step hBw x.h.out).cell (p := ⟨b1, o1 + n0 * 2 + 1, none⟩) hb1).trans s1)
            have HKP := Lib.hid (fun W (hb : Below w12.heap.size w12 W) => (((bel_step hBw hb).cell (p := ⟨b1, o1 + n0 * 2 + 1, none⟩) hb1).trans s1))
            have HP0 := Lib.hid (fun W (hb : Below w12.heap.size w12 W) => (hb.cell (p := ⟨p, 0, none⟩) hp12).trans (show w12.cell? ⟨p, 0, none⟩ = some (.slice (some ⟨b1, o1, none⟩) N c') from R12.out.cell 0))
            have HK12 := Lib.hid hKAT
            have HBW := Lib.hid hBw
            have HA3 := Lib.hid hA3
            have f2 : (L : Int) - 1 = (q : Int) := by omega
            have f3 : (q : Int) < (L : Int) := by omega
            have f4 : (N : Int) - 1 = (n0 : Int) := by omega
            have f5 : (n0 : Int) < (N : Int) := by omega
            have f6 : ((L : Int) == 0) = false := by rw [beq_eq_false_iff_ne]; omega
            have f7 : (L == 0) = false := by rw [beq_eq_false_iff_ne]; omega
            have HCK := Lib.hid hcapk
            clear hcapk hA1 hA3 hKAT hBw hub t0 t1 s0 s1 R12 O12 Y12
            go_upto_region 11 with fail
            refine region_in (S := Bel w12) (by kernel_rfl) (by kernel_rfl) (Bel.drewN (bel_of (Below.refl _ _)) 1) ?_
            iterate 19 (go_big_quiet_step (first | (go_at_call 12; exact in_call ((fnum_is _ _).mono fun _ _ h => ⟨h.1, h.2 ▸ In.h _⟩))))
            go_big_quiet_want
            refine quiet_load_in 49 (.tmp 75) rfl gk (q * 2) rfl _ kx ?_
            go_simp
            go_big_quiet_on
            iterate 7 (go_big_quiet_step (fail))
            go_big_quiet_want
            refine quiet_load_in 49 (.tmp 83) rfl b1 (o1 + n0 * 2) rfl _ kp ?_
            go_simp
            go_big_quiet_on
            repeat (go_big_quiet_step (first | (go_at_call 22; exact in_call ((HEQ.out _ (In.h _)).mono fun _ _ h => ⟨h.1, Bel.below (In.h _) h.2⟩)) | (go_at_call 13; exact in_call ((HEY.out _ (In.h _)).mono fun _ _ h => ⟨h.1, Bel.below (In.h _) h.2⟩))))
            refine wpQuiet_nil ?_
            rintro w13 ⟨⟨x13, st13⟩, rfl⟩
            have B13 := Lib.hid st13.out
            clear this st13 k0 kx kp HEQ HEY f6 f7
            (try simp only [Bool.not_true, Bool.not_false])
            have d0 := HP0.out _ B13.out
            have d1 := HKP.out _ B13.out
            have hfr := fun W => segs_front (some ⟨gk, 0, none⟩) L ck q W (by have := HCK.out; omega)
            have hk13 := (HK12.out.below B13.out).take q
            rw [List.take_left' HQ.out] at hk13
            have HRC := Lib.hid (RRecs_is K0 q M2 (some ⟨gk, 0, none⟩) ck w12.heap.size _ HQ.out (by omega) HM2.out (by omega) B13.out.size hk13)
            clear hk13
            go_wp2_with fail
            refine HRC.out.mono ?_
            rintro e w14 ⟨AR, cR, rfl, hAR, hb14⟩
            have HAR := Lib.hid hAR
            have B14 := Lib.hid (bel_step B13.out hb14)
            clear hAR hb14 HRC d0 d1 hfr B13 f2 f3 f4 f5
            go_wp2_with fail
            go_loopw [12] (fun i wr => ∃ y : Nat, y ≤ M ∧ i = .int .i64 (y : Int) ∧ Below w14.heap.size w14 wr) (fun i _ => M - (RowKit.intOf i).toNat)
            case atStart => exact ⟨0, Nat.zero_le _, rfl, Below.refl _ _⟩
            case round =>
              obtain ⟨y, hy, rfl, hbl⟩ := hrel
              have BY := Lib.hid hbl
              clear hbl
              by_cases hyt : y < M
              · have hyr : y < u.rs.length := by rw [HM.out]; exact hyt
                have hkk := fun x hx => HKY.out x hx _ (List.getElem_mem hyr)
                obtain ⟨b3, o3, rfl, hb3, hc3⟩ := HA3.out.some_ (by omega)
                have y2 := (hc3 y hyr).c2
                clear hc3
                generalize u.rs[y].k = yk at y2 hkk
                obtain ⟨ys, hys⟩ : ∃ ys, str yk = ys := ⟨_, rfl⟩
                rw [hys] at y2
                have HYL := Lib.hid (show ys.toList = yk by rw [← hys, str_toList])
                have HY2 := Lib.hid (fun W (hb : Below w14.heap.size w14 W) => ((bel_step HBW.out (bel_step B14.out hb)).cell (p := ⟨b3, o3 + y * 6 + 2, none⟩) hb3).trans y2)
                have HKK := Lib.hid hkk
                have e1 : (y : Int) < (M : Int) := by omega
                clear hys y2 hkk hyr
                go_wp2_with fail
                go_loopw [13] (fun i wr => ∃ z : Nat, z ≤ M2 ∧ i = .int .i64 (z : Int) ∧ Below w14.heap.size w14 wr) (fun i _ => M2 - (RowKit.intOf i).toNat)
                case atStart => exact ⟨0, Nat.zero_le _, rfl, BY.out⟩
                case round =>
                  obtain ⟨z, hz, rfl, hbl⟩ := hrel
                  have BZ := Lib.hid hbl
                  clear hbl BY
                  by_cases hzt : z < M2
                  · have hzr : z < (recsOf K0).length := by rw [HM2.out]; exact hzt
                    have hne := HKK.out _ (List.getElem_mem hzr)
                    obtain ⟨b4, o4, rfl, hb4, hc4⟩ := (HAR.out.below BZ.out).some_ (by omega)
                    have z2 := (hc4 z hzr).c2
                    clear hc4
                    generalize (recsOf K0)[z].k = zk at z2 hne
                    obtain ⟨zs, hzs⟩ : ∃ zs, str zk = zs := ⟨_, rfl⟩
                    rw [hzs] at z2
                    have HZL := Lib.hid (show zs.toList = zk by rw [← hzs, str_toList])
                    have y2 := HY2.out _ BZ.out
                    have e2 : (z : Int) < (M2 : Int) := by omega
                    clear hzs hzr
                    by_cases hk0 : yk = []
                    · have g1 : (ys.toList == []) = true := by rw [HYL.out, hk0]; rfl
                      have g2 : ys = ByteArray.empty := by rw [← data_str ys, ← toList_data_eq, HYL.out, hk0]; rfl
                      clear hk0 hne
                      go_upto_region 21 with fail
                      go_quiet (fail)
                      go_wp2_with fail
                      go_roundw
                      case rel => exact ⟨z + 1, hzt, by go_num, below_drewN BZ.out _⟩
                      case measure => simp [RowKit.intOf]; omega
                    · have g1 : (ys.toList == []) = false := by rw [HYL.out, beq_eq_false_iff_ne]; exact hk0
                      have g2 : ¬ ys = ByteArray.empty := fun e => hk0 (by rw [← HYL.out, e, ByteArray.toList_eq]; rfl)
                      have g3 : (zs.toList == ys.toList) = false := by rw [HZL.out, HYL.out, beq_eq_false_iff_ne]; exact hne hk0
                      clear hk0 hne
                      go_upto_region 21 with fail
                      go_quiet (fail)
                      go_wp2_with fail
                      go_roundw
                      case rel => exact ⟨z + 1, hzt, by go_num, below_drewN BZ.out _⟩
                      case measure => simp [RowKit.intOf]; omega
                  · have e2 : ¬ (z : Int) < (M2 : Int) := by omega
                    go_wp2_with fail
                    go_roundw
                    case rel => exact ⟨y + 1, hyt, by go_num, BZ.out⟩
                    case measure => simp [RowKit.intOf]; omega
              · have e1 : ¬ (y : Int) < (M : Int) := by omega
                go_wp2_with fail
                go_roundw
                case rel => exact ⟨k + 1, hlt, hlt8, by go_num, bel_step HBW.out (bel_step B14.out BY.out)⟩
                case measure => simp [RowKit.intOf]; omega
      · have e3 : ¬ (k : Int) < 8 := by omega
        have HWK := Lib.hid (fwakes_any)
        have HR1 := Lib.hid (R_is 1 0 ⟨#[]⟩ ⟨#[]⟩ wr)
        unfold rarr at HR1
        have hfd : ∀ W, (Instr.field 46 (.agg #[.int .i64 1, .int .i64 0, .string ⟨#[]⟩, .string ⟨#[]⟩, .int .i64 1, .bool false]) 0).run Try.prog W = .ok (.int .i64 1) W := fun W => by kernel_rfl
        have hfe : ∀ W, (Instr.field 49 (.agg #[.int .i64 0, .slice none 0 0]) 0).run Try.prog W = .ok (.int .i64 0) W := fun W => by kernel_rfl
        go_wp2_with fail
        refine HR1.out.mono ?_
        rintro e w1 ⟨rfl, hb1⟩
        have B1 := Lib.hid (bel_step HB.out hb1)
        clear hb1 HB HR1
        go_wp2_with fail
        refine (HWK.out _).mono ?_
        rintro e w3 ⟨rfl, hb3⟩
        have B3 := Lib.hid (bel_step B1.out hb3)
        clear hb3 B1 HWK
        go_wp2_with fail
        go_ret
        exact ⟨rfl, B3.out⟩
    · have e3 : ¬ (k : Int) < (n : Int) := by omega
      have HWK := Lib.hid (fwakes_any)
      have HR1 := Lib.hid (R_is 1 0 ⟨#[]⟩ ⟨#[]⟩ wr)
      unfold rarr at HR1
      have hfd : ∀ W, (Instr.field 46 (.agg #[.int .i64 1, .int .i64 0, .string ⟨#[]⟩, .string ⟨#[]⟩, .int .i64 1, .bool false]) 0).run Try.prog W = .ok (.int .i64 1) W := fun W => by kernel_rfl
      have hfe : ∀ W, (Instr.field 49 (.agg #[.int .i64 0, .slice none 0 0]) 0).run Try.prog W = .ok (.int .i64 0) W := fun W => by kernel_rfl
      go_wp2_with fail
      refine HR1.out.mono ?_
      rintro e w1 ⟨rfl, hb1⟩
      have B1 := Lib.hid (bel_step HB.out hb1)
      clear hb1 HB HR1
      go_wp2_with fail
      refine (HWK.out _).mono ?_
      rintro e w3 ⟨rfl, hb3⟩
      have B3 := Lib.hid (bel_step B1.out hb3)
      clear hb3 B1 HWK
      go_wp2_with fail
      go_ret
      exact ⟨rfl, B3.out⟩
end Go.Proofs.Ythdefnfpjbpbkaa.Kpd
/- For every list of asks: the open segment stays, whatever its keys; where topics are not compacted all stays; a key in the open one takes away those in closed ones. No condition. -/
namespace Go.Proofs.Ythdefnfpjbpbkaa.foldOpens
open Go.ChangeShapes Go.WideShapes Go.ChangeAt Go.RowKit Kpd

set_option maxRecDepth 100000 in
theorem lifted (os : Os) (started : os.Started) (H : Type) (enc : TypeId × Value → H) :
    ReturnsInHanded {} Try.checked os 6 .any (Rows.foldOpensSpec.pre6 enc Try.prog Try.f6 Rows.foldOpensRow.domain false) (Rows.foldOpensSpec.post enc Try.prog Try.f6 false true false false) := by
  refine returnsInHanded_of_change_sized (C := Try.checked) ownKnob_none started (by kernel_rfl) Try.func6
    (ChangeSpec.witness6 (enc := enc) (C := Try.checked) false ⟨#[], #[.slice none 0 0], []⟩ 8 (by kernel_rfl) (by kernel_rfl) (by kernel_rfl) (by kernel_rfl)) ?_
  intro W base args ds gs before hval0 hW _ hsz0 _
  have hval : ∀ (j : Nat) t v, Try.f6.params[j]? = some t → args[j]? = some v → Value.okWide Try.prog W .any base t v := hval0
  have hW' := hW
  obtain ⟨p, q, hA0, hV, rfl, _, _⟩ := hW
  have hA : DataW.TrodAll enc Try.prog W 0 (fun _ => true) true Try.f6.params.toList args.toList ds p := hA0
  rw [Try.params6] at hA hval
  obtain ⟨v0, d0, rfl, rfl, h0⟩ := trodAll_one hA
  obtain ⟨rfl, rfl⟩ := trodVars_none hV
  obtain ⟨a0, n0, c0, rfl⟩ := okWide_slice Try.underlying22 (hval 0 22 v0 rfl rfl)
  have lt0 : ∀ x ∈ p, x.block < W.heap.size := by obtain ⟨m, hm⟩ := h0; exact DataW.trod_lt m _ _ _ hm
  have near : Near 22 d0 := fun n hn => by
    have := List.all_eq_true.1 hsz0 n (DataW.weights_mem_each (j := 0) (t := 22) (d := d0) (by rw [Try.params6]; rfl) rfl n hn)
    simpa using this
  clear hA0 hval0
  refine (FoldOpens_any a0 n0 c0 W (asks_near near h0)).mono fun e W' ⟨he, bel⟩ => ?_
  subst he
  exact ⟨_, rfl, _, _, _, [], _, [], hW', trodAll_mk1 (shut_bool Try.underlying4 _), trodAll_mk1 (Below.trod laidOut_true (by kernel_rfl) (of_decide_eq_true (by kernel_rfl)) h0 bel lt0), rfl, bel.frame _, fun h => by cases h⟩

theorem over : Rows.foldOpensRow.holds Try.pinned (OpenSpec.ofChange Rows.foldOpensSpec) :=
  OpenClaim.holds_of_wide 6 Try.f6 rfl rfl rfl rfl rfl rfl rfl ⟨rfl, rfl, rfl, rfl, rfl⟩ rfl rfl rfl rfl rfl (by kernel_rfl) Try.func6 (by kernel_rfl)
    (of_decide_eq_true (by kernel_rfl)) (by unfold Func.isWrapper; rw [if_neg (of_decide_eq_false (by kernel_rfl))]; exact ⟨rfl, rfl⟩)
    (fun os started H enc _ => lifted os started H enc)

theorem proved : Rows.FoldOpensSaid := over
#print axioms proved
end Go.Proofs.Ythdefnfpjbpbkaa.foldOpens
