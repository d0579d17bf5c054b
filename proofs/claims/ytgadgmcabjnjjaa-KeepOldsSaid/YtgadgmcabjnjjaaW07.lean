/- Texts of the proof, part 7: KpRRow, KpBare, NearBy, RcArg, SgWeight, KpWeight. -/
import Derived.Test.YtgadgmcabjnjjaaRows
import Derived.Test.YtgadgmcabjnjjaaChecked
import Derived.ProofKit
import Derived.Deep.Slices
import Derived.SizedLaws
import Derived.ChangeOld
import Derived.Below
import Derived.ChangeArms
import Derived.Test.YtgadgmcabjnjjaaW06
/- The document's own answer: whether segments are in a row. -/
namespace Go.Proofs.Ytgadgmcabjnjjaa.Kpd
open Go.RowKit Go.Lib Rcd

/-- So many of the first ones are as the document asks. -/
def DocOf (l : List Sp) (k : Nat) : Prop := ∀ j, j < l.length → j < k → docB l j

set_option maxRecDepth 100000 in
set_option maxHeartbeats 16000000 in
/-- fairwayref13.Row. -/
theorem RRow_is (l : List Sp) (N : Nat) (A : Option Addr) (c B : Nat) (X : Bool) (w : World) (hN : l.length = N) (hm : N ≤ 9223372036854775807) (hcap : N ≤ c) (hbig : (recsOf l).length ≤ 1000000) (hB : B ≤ w.heap.size) (h : SegsAt w B A l) (hX : rowB l = X) :
    Calls Try.prog 15 #[.slice A N c] w fun e w' => e = .returned (.bool X) ∧ Below w.heap.size w w' := by
  have H := Lib.hid (h.mono hB)
  have HX := Lib.hid hX
  have HN := Lib.hid hN
  have HBG := Lib.hid hbig
  clear h hX hN hB hbig
  by_cases hN0 : N = 0
  · subst hN0
    obtain rfl : X = false := by
      rw [← HX.out]
      unfold rowB
      rw [decide_eq_false (by rw [HN.out]; omega)]; rfl
    go_enter Try.func15, Try.ntmps15
    go_wp2_with fail
    go_ret
    exact ⟨rfl, Below.refl _ _⟩
  have e0 : ((N : Int) == 0) = false := by rw [beq_eq_false_iff_ne]; omega
  have e00 : (N == 0) = false := by rw [beq_eq_false_iff_ne]; omega
  have HRR := Lib.hid (fun k F W (hk : k ≤ N) (hF : (recsOf (l.take k)).length = F) (hb : Below w.heap.size w W) => RRecs_is (l.take k) k F A c w.heap.size W (by rw [List.length_take, HN.out]; omega) (by omega) hF (by rw [← hF]; exact Nat.le_trans (recs_take_le l k) HBG.out) hb.size ((H.out.below hb).take k))
  have HN0 := Lib.hid (Nat.pos_of_ne_zero hN0)
  clear hN0
  go_enter Try.func15, Try.ntmps15
  go_wp2_with fail
  clear e0 e00
  go_loopw [3] (fun i wr => ∃ k : Nat, k ≤ N ∧ i = .int .i64 (k : Int) ∧ Bel w wr ∧ DocOf l k) (fun i _ => N - (RowKit.intOf i).toNat)
  case atStart => exact ⟨0, Nat.zero_le _, rfl, .mk (Below.refl _ _), fun j _ h => absurd h (Nat.not_lt_zero _)⟩
  case round =>
    obtain ⟨k, hk, rfl, hbl, hdoc⟩ := hrel
    have HB := Lib.hid hbl
    have HD := Lib.hid hdoc
    clear hbl hdoc
    by_cases hlt : k < N
    · have hlr : k < l.length := by rw [HN.out]; exact hlt
      obtain ⟨b0, o0, rfl, hb0, hc⟩ := H.out.some_ (by omega)
      have hsl := fun W => segs_front (some ⟨b0, o0, none⟩) N c k W (by omega)
      have HYES : Hid (docB l k → DocOf l (k + 1)) := by
        show _ → _
        intro hd j hj hjk
        by_cases c : j < k
        · exact HD.out j hj c
        · obtain rfl : j = k := by omega
          exact hd
      have HNO : Hid (¬ docB l k → X = false) := by
        show _ → _
        intro hno
        rw [← HX.out, ← Bool.not_eq_true]
        intro hr
        exact hno ((row_doc.1 hr).2 k hlr)
      obtain ⟨F, hF⟩ : ∃ F, (recsOf (l.take k)).length = F := ⟨_, rfl⟩
      have HRF := Lib.hid (fun W hb => HRR.out k F W hk hF hb)
      obtain ⟨A1, c1, hsg⟩ := hc k hlr
      obtain ⟨X1, hX1⟩ : ∃ X1, segB l[k].b l[k].rs = X1 := ⟨_, rfl⟩
      have e1 : (k : Int) < (N : Int) := by omega
      have st0 := HB.out
      haveI : Nonempty (In (Bel w)) := ⟨⟨_, st0⟩⟩
      clear HD HB HRR
      rcases Nat.eq_zero_or_pos k with hk0 | hkp
      · have g1 : decide (0 < k) = false := decide_eq_false (by omega)
        have g2 : decide ((0 : Int) < (k : Int)) = false := decide_eq_false (by omega)
        have HDK : Hid (docB l k ↔ (X1 = true ∧ ∀ a, (recsOf (l.take k)).getLast? = some a → a.o < l[k].b ∧ firstB a.t l[k].rs = true)) := by
          show _ ↔ _
          unfold docB
          rw [← hX1]
          exact ⟨fun h => ⟨(h hlr).1, (h hlr).2.2⟩, fun h _ => ⟨h.1, fun h0 => absurd h0 (by omega), h.2⟩⟩
        clear hc
        have HFR := Lib.hid hF
        have HFB : Hid ((recsOf (l.take k)).length ≤ 1000000) := Nat.le_trans (recs_take_le l k) HBG.out
        generalize recsOf (l.take k) = fr at HFR HRF HDK HFB
        generalize l[k] = s at hsg HDK hX1
        obtain ⟨sb, srs⟩ := s
        obtain ⟨s0, s1, hA, _, hlim⟩ := hsg
        dsimp only at s0 s1 hA hlim HDK hX1
        obtain ⟨M, hM⟩ : ∃ M, srs.length = M := ⟨_, rfl⟩
        have HM := Lib.hid hM
        rw [hM] at s1 hlim
        have HA := Lib.hid hA
        have HSG := Lib.hid (fun W (hb : Bel w W) => RSeg_is sb srs M A1 c1 w.heap.size X1 W hM (by omega) hb.out.size (hA.below hb.out) hX1)
        have kr := fun u : In (Bel w) => (u.h.out.cell (p := ⟨b0, o0 + k * 2, none⟩) hb0).trans s0
        have kl := fun u : In (Bel w) => load_seg_at ((u.h.out.cell (p := ⟨b0, o0 + k * 2, none⟩) hb0).trans s0) ((u.h.out.cell (p := ⟨b0, o0 + k * 2 + 1, none⟩) hb0).trans s1)
        have HS01 := Lib.hid (And.intro s0 s1)
        clear hF hM hlim s0 s1 hA hX1 hlr
        clear hk0
        cases X1 with
        | false =>
          go_upto_region 6 with fail
          refine region_in (S := Bel w) (by kernel_rfl) (by kernel_rfl) (st0.drewN 1) ?_
          iterate 3 (go_big_quiet_step (fail))
          go_big_quiet_want
          refine quiet_load_in 48 (.tmp 17) rfl b0 (o0 + k * 2) rfl _ kl ?_
          go_simp
          go_big_quiet_on
          repeat (go_big_quiet_step (first | (go_at_call 33; exact in_call ((HSG.out _ (In.h _)).mono fun _ _ h => ⟨h.1, Bel.below (In.h _) h.2⟩))))
          refine wpQuiet_nil ?_
          rintro _ ⟨⟨w7, st7⟩, rfl⟩
          have S7 := Lib.hid st7
          clear this st0 st7 kl kr HSG
          (try simp only [Bool.not_true, Bool.not_false])
          obtain rfl : X = false := HNO.out (fun h => by have := (HDK.out.1 h).1; cases this)
          go_wp2_with fail
          go_ret
          exact ⟨rfl, S7.out.out⟩
        | true =>
          go_upto_region 6 with fail
          refine region_in (S := Bel w) (by kernel_rfl) (by kernel_rfl) (st0.drewN 1) ?_
          iterate 3 (go_big_quiet_step (fail))
          go_big_quiet_want
          refine quiet_load_in 48 (.tmp 17) rfl b0 (o0 + k * 2) rfl _ kl ?_
          go_simp
          go_big_quiet_on
          repeat (go_big_quiet_step (first | (go_at_call 33; exact in_call ((HSG.out _ (In.h _)).mono fun _ _ h => ⟨h.1, Bel.below (In.h _) h.2⟩))))
          refine wpQuiet_nil ?_
          rintro _ ⟨⟨w7, st7⟩, rfl⟩
          have S7 := Lib.hid st7
          clear this st0 st7 kl kr HSG
          (try simp only [Bool.not_true, Bool.not_false])
          have HDK2 := Lib.hid (show (∀ a, fr.getLast? = some a → a.o < sb ∧ firstB a.t srs = true) → docB l k from fun h => HDK.out.2 ⟨rfl, h⟩)
          have HDN2 := Lib.hid (show ¬ (∀ a, fr.getLast? = some a → a.o < sb ∧ firstB a.t srs = true) → X = false from fun h => HNO.out fun h2 => h (HDK.out.1 h2).2)
          clear HDK HNO g1 g2
          go_wp2_with fail
          refine (HRF.out _ S7.out.out).mono ?_
          rintro e w8 ⟨A', c', rfl, hr8, hb8⟩
          have S8 := Lib.hid (S7.out.below hb8)
          have HR8 := Lib.hid hr8
          clear hr8 hb8 S7 HRF hsl
          cases F with
          | zero =>
            have hfr : fr = [] := List.eq_nil_of_length_eq_zero HFR.out
            have HDD := Lib.hid (HYES.out (HDK2.out (fun a ha => by rw [hfr] at ha; cases ha)))
            clear hfr HDK2 HDN2 HYES HFR
            go_wp2_with fail
            go_roundw
            case rel => exact ⟨k + 1, hlt, by go_num, S8.out, HDD.out⟩
            case measure => simp [RowKit.intOf]; omega
          | succ f =>
            obtain ⟨F, hFf⟩ : ∃ F, f + 1 = F := ⟨_, rfl⟩
            have hfl := HFR.out
            rw [hFf] at hfl ⊢
            have hFm : F ≤ 1000000 := by rw [← hfl]; exact HFB.out
            have hlast : fr.getLast? = some (fr[f]'(by omega)) := last_all (by omega)
            obtain ⟨bb, oo, rfl, hbb, hcc⟩ := HR8.out.some_ (by omega)
            have hrr := hcc f (by omega)
            have HDK3 := Lib.hid (show ((fr[f]'(by omega)).o < sb ∧ firstB (fr[f]'(by omega)).t srs = true) → docB l k from fun h => HDK2.out fun a ha => by rw [hlast] at ha; injection ha with ha; rw [← ha]; exact h)
            have HDN3 := Lib.hid (show ¬ ((fr[f]'(by omega)).o < sb ∧ firstB (fr[f]'(by omega)).t srs = true) → X = false from fun h => HDN2.out fun h2 => h (h2 _ hlast))
            clear HDK2 HDN2 hcc hlast HR8
            generalize fr[f]'(by omega) = a at hrr HDK3 HDN3
            obtain ⟨ao, aT, ak, ab, aq, ag⟩ := a
            obtain ⟨c0, c1, c2, c3, c4, c5⟩ := hrr
            dsimp only at c0 c1 c2 c3 c4 c5 HDK3 HDN3
            generalize str ak = ks at c2
            generalize str ab = bs at c3
            have g6 : decide (0 < F) = true := decide_eq_true (by omega)
            have g7 : decide ((0 : Int) < (F : Int)) = true := decide_eq_true (by omega)
            have g8 : (F : Int) - 1 = (f : Int) := by omega
            have g9 : (f : Int) < (F : Int) := by omega
            obtain ⟨p9, W4, hg9, hW4, hbn, hbx, hbw⟩ := box_new S8.out.out (rarr ao aT ks bs aq ag)
            have HBN := Lib.hid hbn
            have HBX := Lib.hid hbx
            unfold zcells at hW4
            unfold rarr at HBX
            have HW4 := Lib.hid hW4
            clear hbn hbx hbw hW4 hfl hFf HFR S8 hbb
            go_upto_region 11 with (rw [HW4.out]; refine wpList_store_whole rfl 51 (.tmp 5) (.tmp 51) rfl p9 _ rfl rfl zcells HBN.out info_rec rfl (by simp [Value.oneCell']) ?_; simp only [Act.put])
            clear HW4 HBN c0 c1 c2 c3 c4 c5 hg9 g6 g7 g8 g9 hFm
            generalize World.setRow _ _ _ = w9 at HBX ⊢
            have d0 : w9.cell? ⟨p9, 0, none⟩ = some (.int .i64 ao) := HBX.out.cell 0
            have d1 : w9.cell? ⟨p9, 1, none⟩ = some (.int .i64 aT) := HBX.out.cell 1
            have t0 := (HBX.out.out.2.cell (p := ⟨b0, o0 + k * 2, none⟩) hb0).trans HS01.out.1
            have t1 := (HBX.out.out.2.cell (p := ⟨b0, o0 + k * 2 + 1, none⟩) hb0).trans HS01.out.2
            have B9 := Lib.hid (show Bel w w9 from .mk HBX.out.out.2)
            have hAt := HA.out.below HBX.out.out.2
            clear HBX HS01 HA
            by_cases h5 : sb ≤ ao
            · have f1 : decide (sb ≤ ao) = true := decide_eq_true h5
              obtain rfl : X = false := HDN3.out (fun h => by omega)
              clear hAt
              go_quiet (fail)
              go_wp2_with fail
              go_ret
              exact ⟨rfl, below_drewN B9.out.out _⟩
            · have f1 : decide (sb ≤ ao) = false := decide_eq_false h5
              cases M with
              | zero =>
                have hs0 : srs = [] := List.eq_nil_of_length_eq_zero HM.out
                have HDD := Lib.hid (HYES.out (HDK3.out ⟨by omega, by rw [hs0]; rfl⟩))
                clear hs0 HDK3 HDN3 HYES hAt
                go_quiet (fail)
                go_wp2_with fail
                go_roundw
                case rel => exact ⟨k + 1, hlt, by go_num, B9.out.drewN _, HDD.out⟩
                case measure => simp [RowKit.intOf]; omega
              | succ m =>
                obtain ⟨M, hMm⟩ : ∃ M, m + 1 = M := ⟨_, rfl⟩
                have hml := HM.out
                rw [hMm] at hml t1
                obtain ⟨b2, o2, rfl, _, hc2⟩ := hAt.some_ (by omega)
                have y1 := (hc2 0 (by omega)).c1
                rw [Nat.zero_mul, Nat.add_zero] at y1
                have hfb := first_at (t := aT) (rs := srs) (by omega)
                rw [hfb] at HDK3 HDN3
                clear hc2 hfb
                generalize (srs[0]'(by omega)).t = fT at y1 HDK3 HDN3
                have f2 : decide (0 < M) = true := decide_eq_true (by omega)
                have f3 : decide ((0 : Int) < (M : Int)) = true := decide_eq_true (by omega)
                have f4 : (0 : Int) < (M : Int) := by omega
                clear hml hMm HM
                by_cases h6 : fT < aT
                · have f5 : decide (fT < aT) = true := decide_eq_true h6
                  obtain rfl : X = false := HDN3.out (fun h => by have := of_decide_eq_true h.2; omega)
                  go_quiet (fail)
                  go_wp2_with fail
                  go_ret
                  exact ⟨rfl, below_drewN B9.out.out _⟩
                · have f5 : decide (fT < aT) = false := decide_eq_false h6
                  have HDD := Lib.hid (HYES.out (HDK3.out ⟨by omega, decide_eq_true (by omega)⟩))
                  clear HDK3 HDN3 HYES
                  go_quiet (fail)
                  go_wp2_with fail
                  go_roundw
                  case rel => exact ⟨k + 1, hlt, by go_num, B9.out.drewN _, HDD.out⟩
                  case measure => simp [RowKit.intOf]; omega
      · obtain ⟨j, hj⟩ : ∃ j, k = j + 1 := ⟨k - 1, by omega⟩
        have g1 : decide (0 < k) = true := decide_eq_true hkp
        have g2 : decide ((0 : Int) < (k : Int)) = true := decide_eq_true (by omega)
        have g3 : (k : Int) - 1 = (j : Int) := by omega
        have g4 : (j : Int) < (N : Int) := by omega
        have hjl : j < l.length := by omega
        obtain ⟨A0, c0, hsj⟩ := hc j hjl
        have q0 := hsj.c0
        have HDK : Hid (docB l k ↔ (X1 = true ∧ l[j].b ≤ l[k].b ∧ ∀ a, (recsOf (l.take k)).getLast? = some a → a.o < l[k].b ∧ firstB a.t l[k].rs = true)) := by
          show _ ↔ _
          unfold docB
          rw [← hX1]
          have e : k - 1 = j := by omega
          simp only [e]
          exact ⟨fun h => ⟨(h hlr).1, (h hlr).2.1 hkp, (h hlr).2.2⟩, fun h _ => ⟨h.1, fun _ => h.2.1, h.2.2⟩⟩
        clear hc hsj
        generalize l[j].b = qb at q0 HDK
        have HFR := Lib.hid hF
        have HFB : Hid ((recsOf (l.take k)).length ≤ 1000000) := Nat.le_trans (recs_take_le l k) HBG.out
        generalize recsOf (l.take k) = fr at HFR HRF HDK HFB
        generalize l[k] = s at hsg HDK hX1
        obtain ⟨sb, srs⟩ := s
        obtain ⟨s0, s1, hA, _, hlim⟩ := hsg
        dsimp only at s0 s1 hA hlim HDK hX1
        obtain ⟨M, hM⟩ : ∃ M, srs.length = M := ⟨_, rfl⟩
        have HM := Lib.hid hM
        rw [hM] at s1 hlim
        have HA := Lib.hid hA
        have HSG := Lib.hid (fun W (hb : Bel w W) => RSeg_is sb srs M A1 c1 w.heap.size X1 W hM (by omega) hb.out.size (hA.below hb.out) hX1)
        have kr := fun u : In (Bel w) => (u.h.out.cell (p := ⟨b0, o0 + k * 2, none⟩) hb0).trans s0
        have kl := fun u : In (Bel w) => load_seg_at ((u.h.out.cell (p := ⟨b0, o0 + k * 2, none⟩) hb0).trans s0) ((u.h.out.cell (p := ⟨b0, o0 + k * 2 + 1, none⟩) hb0).trans s1)
        have HS01 := Lib.hid (And.intro s0 s1)
        clear hF hM hlim s0 s1 hA hX1 hlr
        have kq := fun u : In (Bel w) => (u.h.out.cell (p := ⟨b0, o0 + j * 2, none⟩) hb0).trans q0
        clear hkp hjl hj q0
        cases X1 with
        | false =>
          go_upto_region 6 with fail
          refine region_in (S := Bel w) (by kernel_rfl) (by kernel_rfl) (st0.drewN 1) ?_
          iterate 3 (go_big_quiet_step (fail))
          go_big_quiet_want
          refine quiet_load_in 48 (.tmp 17) rfl b0 (o0 + k * 2) rfl _ kl ?_
          go_simp
          go_big_quiet_on
          repeat (go_big_quiet_step (first | (go_at_call 33; exact in_call ((HSG.out _ (In.h _)).mono fun _ _ h => ⟨h.1, Bel.below (In.h _) h.2⟩))))
          refine wpQuiet_nil ?_
          rintro _ ⟨⟨w7, st7⟩, rfl⟩
          have S7 := Lib.hid st7
          clear this st0 st7 kl kr HSG
          (try simp only [Bool.not_true, Bool.not_false])
          obtain rfl : X = false := HNO.out (fun h => by have := (HDK.out.1 h).1; cases this)
          clear kq
          go_wp2_with fail
          go_ret
          exact ⟨rfl, S7.out.out⟩
        | true =>
          by_cases h3 : sb < qb
          · have g5 : decide (sb < qb) = true := decide_eq_true h3
            go_upto_region 6 with fail
            refine region_in (S := Bel w) (by kernel_rfl) (by kernel_rfl) (st0.drewN 1) ?_
            iterate 3 (go_big_quiet_step (fail))
            go_big_quiet_want
            refine quiet_load_in 48 (.tmp 17) rfl b0 (o0 + k * 2) rfl _ kl ?_
            go_simp
            go_big_quiet_on
            repeat (go_big_quiet_step (first | (go_at_call 33; exact in_call ((HSG.out _ (In.h _)).mono fun _ _ h => ⟨h.1, Bel.below (In.h _) h.2⟩))))
            refine wpQuiet_nil ?_
            rintro _ ⟨⟨w7, st7⟩, rfl⟩
            have S7 := Lib.hid st7
            clear this st0 st7 kl kr HSG
            (try simp only [Bool.not_true, Bool.not_false])
            obtain rfl : X = false := HNO.out (fun h => by have := (HDK.out.1 h).2.1; omega)
            clear kq
            go_wp2_with fail
            go_ret
            exact ⟨rfl, S7.out.out⟩
          · have g5 : decide (sb < qb) = false := decide_eq_false h3
            go_upto_region 6 with fail
            refine region_in (S := Bel w) (by kernel_rfl) (by kernel_rfl) (st0.drewN 1) ?_
            iterate 3 (go_big_quiet_step (fail))
            go_big_quiet_want
            refine quiet_load_in 48 (.tmp 17) rfl b0 (o0 + k * 2) rfl _ kl ?_
            go_simp
            go_big_quiet_on
            repeat (go_big_quiet_step (first | (go_at_call 33; exact in_call ((HSG.out _ (In.h _)).mono fun _ _ h => ⟨h.1, Bel.below (In.h _) h.2⟩))))
            refine wpQuiet_nil ?_
            rintro _ ⟨⟨w7, st7⟩, rfl⟩
            have S7 := Lib.hid st7
            clear this st0 st7 kl kr HSG
            (try simp only [Bool.not_true, Bool.not_false])
            clear kq
            have HDK2 := Lib.hid (show (∀ a, fr.getLast? = some a → a.o < sb ∧ firstB a.t srs = true) → docB l k from fun h => HDK.out.2 ⟨rfl, by omega, h⟩)
            have HDN2 := Lib.hid (show ¬ (∀ a, fr.getLast? = some a → a.o < sb ∧ firstB a.t srs = true) → X = false from fun h => HNO.out fun h2 => h (HDK.out.1 h2).2.2)
            clear HDK HNO g1 g2 g3 g4 g5 h3
            go_wp2_with fail
            refine (HRF.out _ S7.out.out).mono ?_
            rintro e w8 ⟨A', c', rfl, hr8, hb8⟩
            have S8 := Lib.hid (S7.out.below hb8)
            have HR8 := Lib.hid hr8
            clear hr8 hb8 S7 HRF hsl
            cases F with
            | zero =>
              have hfr : fr = [] := List.eq_nil_of_length_eq_zero HFR.out
              have HDD := Lib.hid (HYES.out (HDK2.out (fun a ha => by rw [hfr] at ha; cases ha)))
              clear hfr HDK2 HDN2 HYES HFR
              go_wp2_with fail
              go_roundw
              case rel => exact ⟨k + 1, hlt, by go_num, S8.out, HDD.out⟩
              case measure => simp [RowKit.intOf]; omega
            | succ f =>
              obtain ⟨F, hFf⟩ : ∃ F, f + 1 = F := ⟨_, rfl⟩
              have hfl := HFR.out
              rw [hFf] at hfl ⊢
              have hFm : F ≤ 1000000 := by rw [← hfl]; exact HFB.out
              have hlast : fr.getLast? = some (fr[f]'(by omega)) := last_all (by omega)
              obtain ⟨bb, oo, rfl, hbb, hcc⟩ := HR8.out.some_ (by omega)
              have hrr := hcc f (by omega)
              have HDK3 := Lib.hid (show ((fr[f]'(by omega)).o < sb ∧ firstB (fr[f]'(by omega)).t srs = true) → docB l k from fun h => HDK2.out fun a ha => by rw [hlast] at ha; injection ha with ha; rw [← ha]; exact h)
              have HDN3 := Lib.hid (show ¬ ((fr[f]'(by omega)).o < sb ∧ firstB (fr[f]'(by omega)).t srs = true) → X = false from fun h => HDN2.out fun h2 => h (h2 _ hlast))
              clear HDK2 HDN2 hcc hlast HR8
              generalize fr[f]'(by omega) = a at hrr HDK3 HDN3
              obtain ⟨ao, aT, ak, ab, aq, ag⟩ := a
              obtain ⟨c0, c1, c2, c3, c4, c5⟩ := hrr
              dsimp only at c0 c1 c2 c3 c4 c5 HDK3 HDN3
              generalize str ak = ks at c2
              generalize str ab = bs at c3
              have g6 : decide (0 < F) = true := decide_eq_true (by omega)
              have g7 : decide ((0 : Int) < (F : Int)) = true := decide_eq_true (by omega)
              have g8 : (F : Int) - 1 = (f : Int) := by omega
              have g9 : (f : Int) < (F : Int) := by omega
              obtain ⟨p9, W4, hg9, hW4, hbn, hbx, hbw⟩ := box_new S8.out.out (rarr ao aT ks bs aq ag)
              have HBN := Lib.hid hbn
              have HBX := Lib.hid hbx
              unfold zcells at hW4
              unfold rarr at HBX
              have HW4 := Lib.hid hW4
              clear hbn hbx hbw hW4 hfl hFf HFR S8 hbb
              go_upto_region 11 with (rw [HW4.out]; refine wpList_store_whole rfl 51 (.tmp 5) (.tmp 51) rfl p9 _ rfl rfl zcells HBN.out info_rec rfl (by simp [Value.oneCell']) ?_; simp only [Act.put])
              clear HW4 HBN c0 c1 c2 c3 c4 c5 hg9 g6 g7 g8 g9 hFm
              generalize World.setRow _ _ _ = w9 at HBX ⊢
              have d0 : w9.cell? ⟨p9, 0, none⟩ = some (.int .i64 ao) := HBX.out.cell 0
              have d1 : w9.cell? ⟨p9, 1, none⟩ = some (.int .i64 aT) := HBX.out.cell 1
              have t0 := (HBX.out.out.2.cell (p := ⟨b0, o0 + k * 2, none⟩) hb0).trans HS01.out.1
              have t1 := (HBX.out.out.2.cell (p := ⟨b0, o0 + k * 2 + 1, none⟩) hb0).trans HS01.out.2
              have B9 := Lib.hid (show Bel w w9 from .mk HBX.out.out.2)
              have hAt := HA.out.below HBX.out.out.2
              clear HBX HS01 HA
              by_cases h5 : sb ≤ ao
              · have f1 : decide (sb ≤ ao) = true := decide_eq_true h5
                obtain rfl : X = false := HDN3.out (fun h => by omega)
                clear hAt
                go_quiet (fail)
                go_wp2_with fail
                go_ret
                exact ⟨rfl, below_drewN B9.out.out _⟩
              · have f1 : decide (sb ≤ ao) = false := decide_eq_false h5
                cases M with
                | zero =>
                  have hs0 : srs = [] := List.eq_nil_of_length_eq_zero HM.out
                  have HDD := Lib.hid (HYES.out (HDK3.out ⟨by omega, by rw [hs0]; rfl⟩))
                  clear hs0 HDK3 HDN3 HYES hAt
                  go_quiet (fail)
                  go_wp2_with fail
                  go_roundw
                  case rel => exact ⟨k + 1, hlt, by go_num, B9.out.drewN _, HDD.out⟩
                  case measure => simp [RowKit.intOf]; omega
                | succ m =>
                  obtain ⟨M, hMm⟩ : ∃ M, m + 1 = M := ⟨_, rfl⟩
                  have hml := HM.out
                  rw [hMm] at hml t1
                  obtain ⟨b2, o2, rfl, _, hc2⟩ := hAt.some_ (by omega)
                  have y1 := (hc2 0 (by omega)).c1
                  rw [Nat.zero_mul, Nat.add_zero] at y1
                  have hfb := first_at (t := aT) (rs := srs) (by omega)
                  rw [hfb] at HDK3 HDN3
                  clear hc2 hfb
                  generalize (srs[0]'(by omega)).t = fT at y1 HDK3 HDN3
                  have f2 : decide (0 < M) = true := decide_eq_true (by omega)
                  have f3 : decide ((0 : Int) < (M : Int)) = true := decide_eq_true (by omega)
                  have f4 : (0 : Int) < (M : Int) := by omega
                  clear hml hMm HM
                  by_cases h6 : fT < aT
                  · have f5 : decide (fT < aT) = true := decide_eq_true h6
                    obtain rfl : X = false := HDN3.out (fun h => by have := of_decide_eq_true h.2; omega)
                    go_quiet (fail)
                    go_wp2_with fail
                    go_ret
                    exact ⟨rfl, below_drewN B9.out.out _⟩
                  · have f5 : decide (fT < aT) = false := decide_eq_false h6
                    have HDD := Lib.hid (HYES.out (HDK3.out ⟨by omega, decide_eq_true (by omega)⟩))
                    clear HDK3 HDN3 HYES
                    go_quiet (fail)
                    go_wp2_with fail
                    go_roundw
                    case rel => exact ⟨k + 1, hlt, by go_num, B9.out.drewN _, HDD.out⟩
                    case measure => simp [RowKit.intOf]; omega
    · obtain rfl : k = N := by omega
      obtain ⟨F, hF⟩ : ∃ F, (recsOf l).length = F := ⟨_, rfl⟩
      have htk : l.take k = l := List.take_of_length_le (by rw [HN.out]; exact Nat.le_refl _)
      have HRF := Lib.hid (HRR.out k F wr (Nat.le_refl _) (by rw [htk]; exact hF) HB.out.out)
      have HALL := Lib.hid (show X = decide (F ≤ 200 ∧ k ≤ 201) by
        rw [← HX.out, Bool.eq_iff_iff, decide_eq_true_iff]
        refine ⟨fun h => ?_, fun h => row_doc.2 ⟨⟨by rw [HN.out]; exact HN0.out, by rw [HN.out]; exact h.2, by rw [hF]; exact h.1⟩, fun i hi => HD.out i hi (by rw [← HN.out]; exact hi)⟩⟩
        have := (row_doc.1 h).1
        rw [HN.out, hF] at this
        exact ⟨this.2.2, this.2.1⟩)
      clear HRR hF HD htk
      by_cases h1 : F ≤ 200
      · have f1 : decide ((F : Int) ≤ 200) = true := decide_eq_true (by omega)
        have f2 : decide (F ≤ 200) = true := decide_eq_true h1
        by_cases h2 : k ≤ 201
        · have f3 : decide ((k : Int) ≤ 201) = true := decide_eq_true (by omega)
          have f4 : decide (k ≤ 201) = true := decide_eq_true h2
          obtain rfl : X = true := by rw [HALL.out]; exact decide_eq_true ⟨h1, h2⟩
          go_wp2_with fail
          refine HRF.out.mono ?_
          rintro e w7 ⟨A', c', rfl, _, hb7⟩
          have B7 := Lib.hid (bel_step HB.out.out hb7)
          clear hb7 HB
          go_wp2_with fail
          go_ret
          exact ⟨rfl, B7.out⟩
        · have f3 : decide ((k : Int) ≤ 201) = false := decide_eq_false (by omega)
          have f4 : decide (k ≤ 201) = false := decide_eq_false h2
          obtain rfl : X = false := by rw [HALL.out]; exact decide_eq_false fun h => h2 h.2
          go_wp2_with fail
          refine HRF.out.mono ?_
          rintro e w7 ⟨A', c', rfl, _, hb7⟩
          have B7 := Lib.hid (bel_step HB.out.out hb7)
          clear hb7 HB
          go_wp2_with fail
          go_ret
          exact ⟨rfl, B7.out⟩
      · have f1 : decide ((F : Int) ≤ 200) = false := decide_eq_false (by omega)
        have f2 : decide (F ≤ 200) = false := decide_eq_false h1
        obtain rfl : X = false := by rw [HALL.out]; exact decide_eq_false fun h => h1 h.1
        go_wp2_with fail
        refine HRF.out.mono ?_
        rintro e w7 ⟨A', c', rfl, _, hb7⟩
        have B7 := Lib.hid (bel_step HB.out.out hb7)
        clear hb7 HB
        go_wp2_with fail
        go_ret
        exact ⟨rfl, B7.out⟩
end Go.Proofs.Ytgadgmcabjnjjaa.Kpd
/- A plain record. -/
namespace Go.Proofs.Ytgadgmcabjnjjaa.Kpd
open Go.RowKit Go.Lib Rcd

/-- A record without key and body. -/
def bare (o t : Int) : Rc := ⟨o, t, [], [], 1, false⟩
end Go.Proofs.Ytgadgmcabjnjjaa.Kpd
/- What the form's reach says of an argument's parts: how long its slices and texts are; a slice's value. -/
namespace Go.Proofs.Ytgadgmcabjnjjaa
open Go.ChangeShapes Go.WideShapes Go.ChangeAt Go.RowKit

theorem cell_in {w : World} {a : Addr} {v : Value} (h : w.cell? a = some v) : a.block < w.heap.size := by
  rcases Nat.lt_or_ge a.block w.heap.size with hlt | hge
  · exact hlt
  · unfold World.cell? at h
    rw [Array.getElem?_eq_none hge] at h
    cases h
section
variable {H : Type} {enc : TypeId × Value → H} {W : World} {base : Nat} {spare : Nat → Bool} {held : Bool}
/-- All that is read is within the form's reach. -/
def Near (t : TypeId) (d : DataW H) : Prop := ∀ n ∈ d.weights Try.prog t, n ≤ reachBytes
theorem near_field {t e : TypeId} {fs : Array Field} {ys : List (DataW H × List MemPlace)} {j : Nat} {f : Field} {y : DataW H × List MemPlace} (hu : Try.prog.underlying t = some (.struct fs)) (h : Near t (.agg (ys.map (·.1)))) (hf : fs[j]? = some f) (he : f.type = e) (hy : ys[j]? = some y) : Near e y.1 := by
  subst he
  intro n hn
  refine h n ?_
  rw [DataW.weights, hu]
  refine DataW.weights_mem_each (j := j) ?_ ?_ n hn
  · rw [List.getElem?_map, Array.getElem?_toList, hf]; rfl
  · rw [List.getElem?_map, hy]; rfl
theorem near_string {t : TypeId} {s : ByteArray} (h : Near t (DataW.lit (H := H) (.string s.data.toList))) : s.data.toList.length ≤ 140737488351232 :=
  h s.data.toList.length (by rw [DataW.weights]; exact List.mem_singleton.2 rfl)
theorem near_len {t e : TypeId} {fuel : Nat} {A : Option Addr} {n c k : Nat} {y : DataW H × List MemPlace} (hu : Try.prog.underlying t = some (.slice e)) (hk : Try.prog.bytesOf e = k) (hw : Near t y.1) (h : DataW.trod enc Try.prog W base spare held fuel t [.slice A n c] = some y) : n * k ≤ 140737488351232 ∧ n ≤ c := by
  rcases Go.Deep.open_slice hu h with ⟨hcs, _⟩ | ⟨a, len, cap, m, k', D, Pl, hcs, _, hlc, _, _, hx, _⟩
  · simp at hcs
    rw [hcs.2.1]
    omega
  · simp at hcs
    obtain ⟨_, rfl, rfl⟩ := hcs
    rw [hx] at hw
    have h1 := hw _ (by rw [DataW.weights, hu]; exact List.mem_cons_self)
    rw [List.length_map, List.length_range, hk] at h1
    exact ⟨Nat.le_trans (Nat.mul_le_mul_right k (Nat.le_add_right _ _)) h1, hlc⟩
theorem slice_form {t e : TypeId} {fuel : Nat} {v : Value} {y : DataW H × List MemPlace} (hu : Try.prog.underlying t = some (.slice e)) (h : DataW.trod enc Try.prog W base spare held fuel t [v] = some y) : ∃ A n c, v = .slice A n c := by
  rcases Go.Deep.open_slice hu h with ⟨hcs, _⟩ | ⟨a, len, cap, m, k, D, Pl, hcs, _⟩
  · simp at hcs
    exact ⟨none, 0, 0, hcs⟩
  · simp at hcs
    exact ⟨_, len, cap, hcs⟩
end
end Go.Proofs.Ytgadgmcabjnjjaa
/- What a list of records is in memory, out of the reading of an argument. -/
namespace Go.Proofs.Ytgadgmcabjnjjaa
open Go.ChangeShapes Go.WideShapes Go.ChangeAt Go.RowKit Rcd

theorem ownKnob_none : ownKnob Try.prog.godebug = none := by kernel_rfl
theorem laidOut_true : laidOutB Try.prog = true := by kernel_rfl
theorem cells_string : Try.prog.cellsOf 9 = 1 := by kernel_rfl
theorem cells_int : Try.prog.cellsOf 3 = 1 := by kernel_rfl
theorem cells_bool : Try.prog.cellsOf 4 = 1 := by kernel_rfl
theorem cells_recs : Try.prog.cellsOf 46 = 1 := by kernel_rfl
theorem cells_rec : Try.prog.cellsOf 51 = 6 := by kernel_rfl
theorem add_off {b off : Nat} (k : Nat) : ((⟨b, off, none⟩ : Addr).add k) = ⟨b, off + k, none⟩ := by
  unfold Addr.add; split
  · next h => subst h; rfl
  · rfl

section
variable {H : Type} {enc : TypeId × Value → H} {W : World} {base : Nat} {spare : Nat → Bool} {held : Bool}
theorem one_rec {fuel : Nat} {a : Addr} {cs : List Value} {y : DataW H × List MemPlace} (hc : W.cells? base a 6 = some cs) (h : DataW.trod enc Try.prog W base spare held fuel 51 cs = some y) :
    ∃ r, RAt W a.block a.off r ∧ a.spot = none := by
  obtain ⟨_, hlen, hcell⟩ := World.cells?_some hc
  match cs, hlen with
  | [v0, v1, v2, v3, v4, v5], _ =>
    have g0 := hcell 0 (by omega)
    have g1 := hcell 1 (by omega)
    have g2 := hcell 2 (by omega)
    have g3 := hcell 3 (by omega)
    have g4 := hcell 4 (by omega)
    have g5 := hcell 5 (by omega)
    change W.cell? (a.add 0) = some v0 at g0
    change W.cell? (a.add 1) = some v1 at g1
    change W.cell? (a.add 2) = some v2 at g2
    change W.cell? (a.add 3) = some v3 at g3
    change W.cell? (a.add 4) = some v4 at g4
    change W.cell? (a.add 5) = some v5 at g5
    obtain ⟨ys, n, _, _, _, hyl, hf⟩ := DataW.trod_struct Try.underlying51 h
    have hyl' : ys.length = 6 := by simpa using hyl
    have f0 := hf 0 _ rfl
    have f1 := hf 1 _ rfl
    have f2 := hf 2 _ rfl
    have f3 := hf 3 _ rfl
    have f4 := hf 4 _ rfl
    have f5 := hf 5 _ rfl
    rw [List.getElem?_eq_getElem (by omega)] at f0 f1 f2 f3 f4 f5
    change DataW.trod enc Try.prog W base spare held n 3 (List.take (Try.prog.cellsOf 3) [v0, v1, v2, v3, v4, v5]) = _ at f0
    change DataW.trod enc Try.prog W base spare held n 3 (List.take (Try.prog.cellsOf 3) [v1, v2, v3, v4, v5]) = _ at f1
    change DataW.trod enc Try.prog W base spare held n 9 (List.take (Try.prog.cellsOf 9) [v2, v3, v4, v5]) = _ at f2
    change DataW.trod enc Try.prog W base spare held n 9 (List.take (Try.prog.cellsOf 9) [v3, v4, v5]) = _ at f3
    change DataW.trod enc Try.prog W base spare held n 3 (List.take (Try.prog.cellsOf 3) [v4, v5]) = _ at f4
    change DataW.trod enc Try.prog W base spare held n 4 (List.take (Try.prog.cellsOf 4) [v5]) = _ at f5
    rw [cells_int] at f0 f1 f4
    rw [cells_string] at f2 f3
    rw [cells_bool] at f5
    obtain ⟨o, e0, _, _⟩ := DataW.trod_int Try.underlying3 f0
    obtain ⟨t, e1, _, _⟩ := DataW.trod_int Try.underlying3 f1
    obtain ⟨k, e2, _, _⟩ := DataW.trod_string Try.underlying9 f2
    obtain ⟨b, e3, _, _⟩ := DataW.trod_string Try.underlying9 f3
    obtain ⟨q, e4, _, _⟩ := DataW.trod_int Try.underlying3 f4
    obtain ⟨g, e5, _⟩ := DataW.trod_bool Try.underlying4 f5
    have hsp : a.spot = none := by
      have := World.cell?_spot g0
      simpa [Addr.add] using this
    obtain ⟨bl, off, spot⟩ := a
    obtain rfl : spot = none := hsp
    rw [add_off] at g0 g1 g2 g3 g4 g5
    simp at e0 e1 e2 e3 e4 e5
    subst e0 e1 e2 e3 e4 e5
    refine ⟨⟨o, t, k.data.toList, b.data.toList, q, g⟩, ⟨g0, g1, ?_, ?_, g4, g5⟩, rfl⟩
    · show _ = some (Value.string (str k.data.toList))
      rw [data_str]; exact g2
    · show _ = some (Value.string (str b.data.toList))
      rw [data_str]; exact g3

/-- A slice of records. -/
theorem recs_of_trod {fuel : Nat} {v : Value} {y : DataW H × List MemPlace} (h : DataW.trod enc Try.prog W base spare held fuel 46 [v] = some y) :
    ∃ A l c, v = .slice A (List.length l) c ∧ RecsAt W W.heap.size A l ∧ l.length ≤ 9223372036854775807 := by
  rcases Go.Deep.open_slice Try.underlying46 h with ⟨hcs, _⟩ | ⟨a, len, cap, m, k, D, Pl, hcs, _, hl, hcm, hm, hx, hi⟩
  · simp at hcs
    subst hcs
    exact ⟨none, [], 0, rfl, .inl rfl, by simp⟩
  · simp at hcs
    subst hcs
    have hml : len ≤ m := by rw [hm]; split <;> omega
    rw [cells_rec] at hi
    have key : ∀ i, i < len → ∃ r, RAt W (a.add (i * 6)).block (a.add (i * 6)).off r ∧ (a.add (i * 6)).spot = none := fun i hin => by
      obtain ⟨cs, hc, ht⟩ := hi i (by omega)
      exact one_rec hc ht
    have hcm' : cap ≤ 9223372036854775807 := by unfold maxLen at hcm; omega
    by_cases h0 : len = 0
    · subst h0
      exact ⟨some a, [], cap, rfl, .inl rfl, by simp⟩
    · have hsp : a.spot = none := by
        obtain ⟨_, _, h⟩ := key 0 (by omega)
        simpa [Addr.add] using h
      obtain ⟨b, off, spot⟩ := a
      obtain rfl : spot = none := hsp
      have key2 : ∀ i, ∃ r : Rc, i < len → RAt W b (off + i * 6) r := fun i => by
        by_cases hin : i < len
        · obtain ⟨r, hr, _⟩ := key i hin
          rw [add_off] at hr
          exact ⟨r, fun _ => hr⟩
        · exact ⟨zero, fun h => absurd h hin⟩
      obtain ⟨f, hf⟩ := Classical.axiomOfChoice key2
      refine ⟨some ⟨b, off, none⟩, (List.range len).map f, cap, by simp, .inr ⟨b, off, rfl, ?_, fun j hj => ?_⟩, by simp; omega⟩
      · exact cell_lt (hf 0 (by omega)).c0
      · have hj' : j < len := by simpa using hj
        rw [List.getElem_map, List.getElem_range]
        exact hf j hj'

end
end Go.Proofs.Ytgadgmcabjnjjaa
/- Records weighed, to the number. -/
namespace Go.Proofs.Ytgadgmcabjnjjaa
open Go.RowKit Go.Lib Rcd

/-- The weight of records, from z on. -/
def wgo : List Rc → Int → Int
  | [], z => z
  | r :: t, z => if z < 1048576 then wgo t (wrap64 (wrap64 (z + (r.k.length : Int)) + (r.b.length : Int))) else z
def weightZ (l : List Rc) : Int := wgo l (l.length : Int)
theorem wgo_yes {r : Rc} {t : List Rc} {z : Int} (h : z < 1048576) : wgo (r :: t) z = wgo t (wrap64 (wrap64 (z + (r.k.length : Int)) + (r.b.length : Int))) := by rw [wgo, if_pos h]
theorem wgo_no {r : Rc} {t : List Rc} {z : Int} (h : ¬ z < 1048576) : wgo (r :: t) z = z := by rw [wgo, if_neg h]

set_option maxRecDepth 100000 in
set_option maxHeartbeats 4000000 in
/-- fairwaylaw0.RecsWeight. -/
theorem WeightZ_is (l : List Rc) (A : Option Addr) (c B : Nat) (Z : Int) (w : World) (hm : l.length ≤ 9223372036854775807) (h : RecsAt w B A l) (hZ : weightZ l = Z) :
    Calls Try.prog 39 #[.slice A l.length c] w fun e w' => e = .returned (.int .i64 Z) ∧ Below w.heap.size w w' := by
  have H := Lib.hid h
  have HZ := Lib.hid hZ
  clear h hZ
  go_enter Try.func39, Try.ntmps39
  go_wp2_with fail
  go_loopw [3, 4] (fun v i wr => ∃ (k n : Nat) (z : Int), k ≤ l.length ∧ v = .int .i64 z ∧ i = .int .i64 (k : Int) ∧ wr = w.drewN n ∧ wgo (l.drop k) z = Z) (fun _ i _ => l.length - (RowKit.intOf i).toNat)
  case atStart => exact ⟨0, 0, _, Nat.zero_le _, rfl, rfl, rfl, HZ.out⟩
  case round =>
    obtain ⟨k, n, z, hk, rfl, rfl, rfl, hz⟩ := hrel
    have HG := Lib.hid hz
    clear hz
    by_cases hlt : k < l.length
    · have hdr := List.drop_eq_getElem_cons hlt
      by_cases hz : z < 1048576
      · have HS := Lib.hid (show wgo (l.drop (k + 1)) (wrap64 (wrap64 (z + ((str l[k].k).size : Int)) + ((str l[k].b).size : Int))) = Z by
          rw [str_size, str_size, ← HG.out, hdr, wgo_yes hz])
        obtain ⟨b, o, rfl, _, hc⟩ := H.out.some_ (by omega)
        have h1 := hc k hlt
        clear hc H HG hdr
        generalize l[k] = r at h1 HS
        obtain ⟨x, t, ks, bs, q, g⟩ := r
        obtain ⟨c0, c1, c2, c3, c4, c5⟩ := h1
        dsimp only at HS c2 c3
        generalize str ks = kz at c2 HS
        generalize str bs = bz at c3 HS
        have hkI : (k : Int) < (l.length : Int) := by omega
        have hd1 : decide ((k : Int) < (l.length : Int)) = true := decide_eq_true hkI
        have hd2 : decide (k < l.length) = true := decide_eq_true hlt
        have hd3 : decide (z < 1048576) = true := decide_eq_true hz
        go_wp2
        go_quiet (fail)
        go_wp2
        go_roundw
        case rel => exact ⟨k + 1, _, _, hlt, rfl, by go_num, rfl, HS.out⟩
        case measure => simp [RowKit.intOf]; omega
      · have HF := Lib.hid (show z = Z by rw [← HG.out, hdr, wgo_no hz])
        go_wp2
        all_goals (go_ret; exact ⟨ret_int HF.out, below_drewN (Below.refl _ _) n⟩)
    · have HF := Lib.hid (show z = Z by
        have := HG.out
        rw [List.drop_of_length_le (by omega)] at this
        exact this)
      go_wp2
      all_goals (go_ret; exact ⟨ret_int HF.out, below_drewN (Below.refl _ _) n⟩)
end Go.Proofs.Ytgadgmcabjnjjaa
/- Segments weighed; whether an ask is heavy. -/
namespace Go.Proofs.Ytgadgmcabjnjjaa.Kpd
open Go.RowKit Go.Lib Rcd

/-- The weight of segments, from z on. -/
def sgo : List Sp → Int → Int
  | [], z => z
  | s :: t, z => if z < 1048576 then sgo t (wrap64 (z + weightZ s.rs)) else z
def weightS (l : List Sp) : Int := sgo l (l.length : Int)
theorem sgo_yes {s : Sp} {t : List Sp} {z : Int} (h : z < 1048576) : sgo (s :: t) z = sgo t (wrap64 (z + weightZ s.rs)) := by rw [sgo, if_pos h]
theorem sgo_no {s : Sp} {t : List Sp} {z : Int} (h : ¬ z < 1048576) : sgo (s :: t) z = z := by rw [sgo, if_neg h]
theorem sgo_end {t : List Sp} {z : Int} (h : ¬ z < 1048576) : sgo t z = z := by
  cases t with
  | nil => rfl
  | cons s t => exact sgo_no h
/-- No longer than memory reaches. -/
def Lim (s : Sp) : Prop := s.rs.length * 64 ≤ 140737488351232 ∧ ∀ r ∈ s.rs, r.k.length ≤ 140737488351232 ∧ r.b.length ≤ 140737488351232
theorem w64_in (n : Int) (h1 : -9223372036854775808 ≤ n) (h2 : n ≤ 9223372036854775807) : wrap64 n = n := by unfold wrap64; omega
theorem wgo_le (rs : List Rc) : ∀ z : Int, 0 ≤ z → z ≤ 1000000000000000 → (∀ r ∈ rs, r.k.length ≤ 140737488351232 ∧ r.b.length ≤ 140737488351232) → z ≤ wgo rs z ∧ wgo rs z ≤ 1000000000000000 := by
  induction rs with
  | nil => intro z h1 h2 _; exact ⟨Int.le_refl _, h2⟩
  | cons r t ih =>
    intro z h1 h2 h3
    have hr := h3 r List.mem_cons_self
    have ht : ∀ r ∈ t, r.k.length ≤ 140737488351232 ∧ r.b.length ≤ 140737488351232 := fun x hx => h3 x (List.mem_cons_of_mem _ hx)
    by_cases c : z < 1048576
    · rw [wgo_yes c, w64_in (z + (r.k.length : Int)) (by omega) (by omega), w64_in _ (by omega) (by omega)]
      have := ih (z + (r.k.length : Int) + (r.b.length : Int)) (by omega) (by omega) ht
      exact ⟨by omega, this.2⟩
    · rw [wgo_no c]; exact ⟨Int.le_refl _, h2⟩
theorem weightZ_le {s : Sp} (h : Lim s) : (s.rs.length : Int) ≤ weightZ s.rs ∧ weightZ s.rs ≤ 1000000000000000 := by
  have h1 := h.1
  exact wgo_le s.rs _ (by omega) (by omega) h.2
theorem sgo_recs (l : List Sp) : ∀ z : Int, 0 ≤ z → (∀ s ∈ l, Lim s) → sgo l z ≤ 8000 → z + ((recsOf l).length : Int) ≤ 8000 := by
  induction l with
  | nil => intro z h1 _ h2; simp [recsOf]; exact h2
  | cons s t ih =>
    intro z h1 h2 h3
    have hs := weightZ_le (h2 s List.mem_cons_self)
    by_cases c : z < 1048576
    · rw [sgo_yes c, w64_in _ (by omega) (by omega)] at h3
      have := ih (z + weightZ s.rs) (by omega) (fun x hx => h2 x (List.mem_cons_of_mem _ hx)) h3
      have e : recsOf (s :: t) = s.rs ++ recsOf t := by unfold recsOf; rw [List.flatMap_cons]
      rw [e, List.length_append, Int.natCast_add]
      omega
    · rw [sgo_no c] at h3; omega

set_option maxRecDepth 100000 in
set_option maxHeartbeats 4000000 in
/-- fairwaylaw0.SegsWeight. -/
theorem WeightS_is (l : List Sp) (N : Nat) (A : Option Addr) (c B : Nat) (Z : Int) (w : World) (hN : l.length = N) (hm : N ≤ 9223372036854775807) (hB : B ≤ w.heap.size) (h : SegsAt w B A l) (hZ : weightS l = Z) :
    Calls Try.prog 25 #[.slice A N c] w fun e w' => e = .returned (.int .i64 Z) ∧ Below w.heap.size w w' := by
  have H := Lib.hid (h.mono hB)
  have HN := Lib.hid hN
  have HZ := Lib.hid (show sgo l (N : Int) = Z by rw [← hZ, ← hN]; rfl)
  clear h hN hZ hB
  go_enter Try.func25, Try.ntmps25
  go_wp2_with fail
  go_loopw [3, 4] (fun v i wr => ∃ (k : Nat) (z : Int), k ≤ N ∧ v = .int .i64 z ∧ i = .int .i64 (k : Int) ∧ sgo (l.drop k) z = Z ∧ Below w.heap.size w wr) (fun _ i _ => N - (RowKit.intOf i).toNat)
  case atStart => exact ⟨0, (N : Int), Nat.zero_le _, rfl, rfl, HZ.out, Below.refl _ _⟩
  case round =>
    obtain ⟨k, z, hk, rfl, rfl, hz, hbl⟩ := hrel
    have HG := Lib.hid hz
    have HB := Lib.hid hbl
    clear hz hbl HZ
    by_cases hlt : k < N
    · have hlr : k < l.length := by rw [HN.out]; exact hlt
      have e1 : (k : Int) < (N : Int) := by omega
      by_cases hzb : z < 1048576
      · obtain ⟨b0, o0, rfl, hb0, hc⟩ := (H.out.below HB.out).some_ (by omega)
        obtain ⟨A1, c1, hsg⟩ := hc k hlr
        have hnx : sgo (l.drop (k + 1)) (wrap64 (z + weightZ l[k].rs)) = Z := by
          have := HG.out
          rw [List.drop_eq_getElem_cons hlr, sgo_yes hzb] at this
          exact this
        clear hc HG
        generalize l[k] = s at hsg hnx
        obtain ⟨sb, srs⟩ := s
        obtain ⟨s0, s1, hA, _, hlim⟩ := hsg
        dsimp only at s1 hA hlim hnx
        obtain ⟨wz, hwz⟩ : ∃ wz, weightZ srs = wz := ⟨_, rfl⟩
        have hcw := WeightZ_is srs A1 c1 w.heap.size wz wr (by omega) hA hwz
        rw [hwz] at hnx
        obtain ⟨M, hM⟩ : ∃ M, srs.length = M := ⟨_, rfl⟩
        rw [hM] at s1 hcw
        have HC := Lib.hid hcw
        have HG2 := Lib.hid hnx
        clear hcw hM hwz hnx hA hlim s0 hlr
        go_wp2_with fail
        refine HC.out.mono ?_
        rintro e w1 ⟨rfl, hb1⟩
        have HB1 := Lib.hid (bel_step HB.out hb1)
        clear hb1 HB HC s1
        go_wp2_with fail
        go_roundw
        case rel => exact ⟨k + 1, wrap64 (z + wz), hlt, rfl, by go_num, HG2.out, HB1.out⟩
        case measure => simp [RowKit.intOf]; omega
      · obtain rfl : z = Z := by rw [← HG.out]; exact (sgo_end hzb).symm
        go_wp2_with fail
        go_ret
        exact ⟨rfl, HB.out⟩
    · obtain rfl : k = N := by omega
      obtain rfl : z = Z := by
        rw [← HG.out, List.drop_of_length_le (by rw [HN.out]; exact Nat.le_refl _)]; rfl
      go_wp2_with fail
      go_ret
      exact ⟨rfl, HB.out⟩

/-- An ask's cells. -/
def aarr (A : Option Addr) (N c : Nat) (r : Ru) (now : Int) : Array Value := #[.slice A N c, .int .i64 r.sb, .int .i64 r.by_, .int .i64 r.ag, .bool r.co, .int .i64 r.gr, .int .i64 now]
def heavyB (l : List Sp) : Bool := decide (8000 < weightS l) || decide (250 < l.length)
theorem heavy_no {l : List Sp} (h : heavyB l = false) (hl : ∀ s ∈ l, Lim s) : l.length ≤ 250 ∧ (recsOf l).length ≤ 8000 := by
  unfold heavyB at h
  rw [Bool.or_eq_false_iff, decide_eq_false_iff_not, decide_eq_false_iff_not] at h
  have := sgo_recs l (l.length : Int) (by omega) hl (by have := h.1; unfold weightS at this; omega)
  exact ⟨by omega, by omega⟩

set_option maxRecDepth 100000 in
set_option maxHeartbeats 4000000 in
/-- fairwaylaw13.Heavy. -/
theorem Heavy_is (l : List Sp) (r : Ru) (now : Int) (N : Nat) (A : Option Addr) (c B : Nat) (X : Bool) (w : World) (hN : l.length = N) (hm : N ≤ 9223372036854775807) (hB : B ≤ w.heap.size) (h : SegsAt w B A l) (hX : heavyB l = X) :
    Calls Try.prog 7 #[.agg (aarr A N c r now)] w fun e w' => e = .returned (.bool X) ∧ Below w.heap.size w w' := by
  obtain ⟨Z, hZ⟩ : ∃ Z, weightS l = Z := ⟨_, rfl⟩
  unfold heavyB at hX
  rw [hZ, hN] at hX
  have HC := Lib.hid (fun W (hb : Below w.heap.size w W) => WeightS_is l N A c B Z W hN hm (Nat.le_trans hB hb.size) (h.below (hb.mono hB)) hZ)
  have HX := Lib.hid hX
  unfold aarr
  obtain ⟨sb, by_, ag, co, gr⟩ := r
  dsimp only
  have R0 := Lib.hid (RBox.new w 27 #[.slice A N c, .int .i64 sb, .int .i64 by_, .int .i64 ag, .bool co, .int .i64 gr, .int .i64 now])
  obtain ⟨p, hp⟩ : ∃ p, w.heap.size = p := ⟨_, rfl⟩
  obtain ⟨W0, hW⟩ : ∃ W0, w.alloc (.cells #[.slice A N c, .int .i64 sb, .int .i64 by_, .int .i64 ag, .bool co, .int .i64 gr, .int .i64 now] 27) = W0 := ⟨_, rfl⟩
  rw [hW, hp] at R0
  have HW := Lib.hid hW
  have HP := Lib.hid hp
  clear hW hp h hN hX hZ hB
  go_enter Try.func7, Try.ntmps7
  go_upto_region 1 with fail
  rw [HW.out, HP.out]
  clear HW HP
  have d0 : W0.cell? ⟨p, 0, none⟩ = some (.slice A N c) := R0.out.cell 0
  go_wp2_with fail
  refine (HC.out _ R0.out.out.2).mono ?_
  rintro e w1 ⟨rfl, hb1⟩
  have R1 := Lib.hid (R0.out.below hb1)
  clear R0 hb1 HC d0
  have d0 : w1.cell? ⟨p, 0, none⟩ = some (.slice A N c) := R1.out.cell 0
  by_cases h1 : 8000 < Z
  · have f1 : decide (8000 < Z) = true := decide_eq_true h1
    obtain rfl : X = true := by rw [← HX.out, f1]; rfl
    go_wp2_with fail
    go_ret
    exact ⟨rfl, R1.out.out.2⟩
  · have f1 : decide (8000 < Z) = false := decide_eq_false h1
    by_cases h2 : 250 < N
    · have f2 : decide ((250 : Int) < (N : Int)) = true := decide_eq_true (by omega)
      have f3 : decide (250 < N) = true := decide_eq_true h2
      obtain rfl : X = true := by rw [← HX.out, f1, f3]; rfl
      go_wp2_with fail
      go_ret
      exact ⟨rfl, R1.out.out.2⟩
    · have f2 : decide ((250 : Int) < (N : Int)) = false := decide_eq_false (by omega)
      have f3 : decide (250 < N) = false := decide_eq_false h2
      obtain rfl : X = false := by rw [← HX.out, f1, f3]; rfl
      go_wp2_with fail
      go_ret
      exact ⟨rfl, R1.out.out.2⟩
end Go.Proofs.Ytgadgmcabjnjjaa.Kpd
