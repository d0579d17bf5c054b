/- Texts of the proof, part 11: SgRSeg, KpRRow, KpRRules. -/
import Derived.Test.YthdefnfpjbpbkaaX10
/- The document's own answer: whether a segment may be. -/
namespace Go.Proofs.Ythdefnfpjbpbkaa
open Go.RowKit Go.Lib Rcd

theorem load_parts {W : World} {g o : Nat} {x t : Int} {k b : ByteArray} {q : Int} {h : Bool} (c0 : W.cell? ⟨g, o, none⟩ = some (.int .i64 x)) (c1 : W.cell? ⟨g, o + 1, none⟩ = some (.int .i64 t)) (c2 : W.cell? ⟨g, o + 2, none⟩ = some (.string k)) (c3 : W.cell? ⟨g, o + 3, none⟩ = some (.string b)) (c4 : W.cell? ⟨g, o + 4, none⟩ = some (.int .i64 q)) (c5 : W.cell? ⟨g, o + 5, none⟩ = some (.bool h)) :
    (loadVar 46 ⟨g, o, none⟩).run Try.prog W = .ok (.agg #[.int .i64 x, .int .i64 t, .string k, .string b, .int .i64 q, .bool h]) W :=
  run_loadVar_mid W g o 46 [.int .i64 x, .int .i64 t, .string k, .string b, .int .i64 q, .bool h] _ (fun j v hv => by
    match j, hv with
    | 0, hv => rw [← hv]; exact c0
    | 1, hv => rw [← hv]; exact c1
    | 2, hv => rw [← hv]; exact c2
    | 3, hv => rw [← hv]; exact c3
    | 4, hv => rw [← hv]; exact c4
    | 5, hv => rw [← hv]; exact c5) Try.underlying46 rfl info_rec

/-- So many of the first ones are as the document asks. -/
def DocTo (b : Int) (rs : List Rc) (k : Nat) : Prop := ∀ j, j < rs.length → j < k → docAt b rs j

set_option maxRecDepth 100000 in
set_option maxHeartbeats 16000000 in
/-- fairwayref10.Seg. -/
theorem RSeg_is (b : Int) (rs : List Rc) (N : Nat) (A : Option Addr) (c B : Nat) (X0 : Bool) (w : World) (hN : rs.length = N) (hm : N ≤ 9223372036854775807) (hB : B ≤ w.heap.size) (h : RecsAt w B A rs) (hX : segB b rs = X0) :
    Calls Try.prog 30 #[.agg #[.int .i64 b, .slice A N c]] w fun e w' => e = .returned (.bool X0) ∧ Below w.heap.size w w' := by
  have R0 := Lib.hid (RBox.new w 49 (sarr b A N c))
  obtain ⟨p, hp⟩ : ∃ p, w.heap.size = p := ⟨_, rfl⟩
  obtain ⟨W0, hW⟩ : ∃ W0, w.alloc (.cells (sarr b A N c) 49) = W0 := ⟨_, rfl⟩
  rw [hW, hp] at R0
  unfold sarr at R0 hW
  have HW := Lib.hid hW
  have HP := Lib.hid hp
  have H := Lib.hid (h.mono hB)
  have HX := Lib.hid hX
  have HNN := Lib.hid hN
  clear hW hp h hX hN hB
  have n2 : (N : Int) < 9223372036854775808 := by omega
  go_enter Try.func30, Try.ntmps30
  go_upto_region 1 with fail
  rw [HW.out, HP.out]
  clear HW
  go_wp2_with fail
  go_loopw [3] (fun i wr => ∃ k : Nat, k ≤ N ∧ i = .int .i64 (k : Int) ∧ RBox w p #[.int .i64 b, .slice A N c] wr ∧ DocTo b rs k) (fun i _ => N - (RowKit.intOf i).toNat)
  case atStart => exact ⟨0, Nat.zero_le _, rfl, R0.out, fun j _ h => absurd h (Nat.not_lt_zero _)⟩
  case round =>
    obtain ⟨k, hk, rfl, hbx, hdoc⟩ := hrel
    have HD := Lib.hid hdoc
    have R := Lib.hid hbx
    clear hbx hdoc R0
    have d1 : wr.cell? ⟨p, 1, none⟩ = some (.slice A N c) := R.out.cell 1
    by_cases hlt : k < N
    · have hlr : k < rs.length := by rw [HNN.out]; exact hlt
      obtain ⟨b0, o0, rfl, hb0, hc⟩ := H.out.some_ (by omega)
      have hr := hc k hlr
      have HYES : Hid ((mayB rs[k] = true ∧ b ≤ rs[k].o ∧ (∀ h0 : 0 < k, pairB (rs[k - 1]'(by omega)) rs[k] = true)) → DocTo b rs (k + 1)) := by
        show _ → _
        intro hall j hj hjk
        by_cases hjk2 : j < k
        · exact HD.out j hj hjk2
        · obtain rfl : j = k := by omega
          exact fun _ => hall
      have HNO : Hid (¬ (mayB rs[k] = true ∧ b ≤ rs[k].o ∧ (∀ h0 : 0 < k, pairB (rs[k - 1]'(by omega)) rs[k] = true)) → X0 = false) := by
        show _ → _
        intro hno
        rw [← HX.out, ← Bool.not_eq_true]
        intro hs
        exact hno ((seg_doc.1 hs).2 k hlr hlr)
      obtain ⟨M, hM⟩ : ∃ M, mayB rs[k] = M := ⟨_, rfl⟩
      have HRR := Lib.hid (fun W => RRec_is rs[k] M W hM)
      rw [hM] at HYES HNO
      clear HD hM
      have e1 : (k : Int) < (N : Int) := by omega
      rcases Nat.eq_zero_or_pos k with hk0 | hkp
      · have g1 : decide (0 < k) = false := decide_eq_false (by omega)
        have g2 : decide ((0 : Int) < (k : Int)) = false := decide_eq_false (by omega)
        replace HYES : Hid (M = true ∧ b ≤ rs[k].o → DocTo b rs (k + 1)) := fun h => HYES.out ⟨h.1, h.2, fun h0 => absurd h0 (by omega)⟩
        replace HNO : Hid (¬ (M = true ∧ b ≤ rs[k].o) → X0 = false) := fun h => HNO.out fun h2 => h ⟨h2.1, h2.2.1⟩
        clear hc
        unfold ragg at HRR
        generalize rs[k] = r at hr HRR HYES HNO
        obtain ⟨o, t, key, bod, q, g⟩ := r
        obtain ⟨c0, c1, c2, c3, c4, c5⟩ := hr
        dsimp only at c0 c1 c2 c3 c4 c5 HRR HYES HNO
        generalize str key = ks at c2 HRR
        generalize str bod = bs at c3 HRR
        unfold rarr at HRR
        clear hk0 hlr
        cases M with
        | false =>
          haveI : Nonempty (In (RBox w p #[.int .i64 b, .slice (some ⟨b0, o0, none⟩) N c])) := ⟨⟨_, R.out⟩⟩
          have k0 := fun u : In (RBox w p #[.int .i64 b, .slice (some ⟨b0, o0, none⟩) N c]) => (show u.w.cell? ⟨p, 0, none⟩ = some (.int .i64 b) from u.h.cell 0)
          have k1 := fun u : In (RBox w p #[.int .i64 b, .slice (some ⟨b0, o0, none⟩) N c]) => (show u.w.cell? ⟨p, 1, none⟩ = some (.slice (some ⟨b0, o0, none⟩) N c) from u.h.cell 1)
          have kr := fun u : In (RBox w p #[.int .i64 b, .slice (some ⟨b0, o0, none⟩) N c]) => (u.h.out.2.cell (p := ⟨b0, o0 + k * 6, none⟩) hb0).trans c0
          have kt := fun u : In (RBox w p #[.int .i64 b, .slice (some ⟨b0, o0, none⟩) N c]) => (u.h.out.2.cell (p := ⟨b0, o0 + k * 6 + 1, none⟩) hb0).trans c1
          have kl := fun u : In (RBox w p #[.int .i64 b, .slice (some ⟨b0, o0, none⟩) N c]) => load_parts ((u.h.out.2.cell (p := ⟨b0, o0 + k * 6, none⟩) hb0).trans c0) ((u.h.out.2.cell (p := ⟨b0, o0 + k * 6 + 1, none⟩) hb0).trans c1) ((u.h.out.2.cell (p := ⟨b0, o0 + k * 6 + 2, none⟩) hb0).trans c2) ((u.h.out.2.cell (p := ⟨b0, o0 + k * 6 + 3, none⟩) hb0).trans c3) ((u.h.out.2.cell (p := ⟨b0, o0 + k * 6 + 4, none⟩) hb0).trans c4) ((u.h.out.2.cell (p := ⟨b0, o0 + k * 6 + 5, none⟩) hb0).trans c5)
          have st0 := R.out
          clear R c0 c1 c2 c3 c4 c5
          go_upto_region 4 with fail
          refine region_in (S := RBox w p #[.int .i64 b, .slice (some ⟨b0, o0, none⟩) N c]) (by kernel_rfl) (by kernel_rfl) (st0.drewN 1) ?_
          iterate 4 (go_big_quiet_step (fail))
          go_big_quiet_want
          refine quiet_load_in 46 (.tmp 14) rfl b0 (o0 + k * 6) rfl _ kl ?_
          go_simp
          go_big_quiet_on
          repeat (go_big_quiet_step (first | (go_at_call 42; exact in_call ((HRR.out _).mono fun _ _ h => ⟨h.1, RBox.below (In.h _) h.2⟩))))
          refine wpQuiet_nil ?_
          rintro _ ⟨⟨w7, st7⟩, rfl⟩
          have S7 := Lib.hid st7
          clear this st0 st7 k0 k1 kr kt kl HRR
          (try simp only [Bool.not_true, Bool.not_false])
          obtain rfl : X0 = false := HNO.out (fun h => by cases h.1)
          go_wp2_with fail
          go_ret
          exact ⟨rfl, S7.out.out.2⟩
        | true =>
        by_cases h2 : o < b
        · have g3 : decide (o < b) = true := decide_eq_true h2
          haveI : Nonempty (In (RBox w p #[.int .i64 b, .slice (some ⟨b0, o0, none⟩) N c])) := ⟨⟨_, R.out⟩⟩
          have k0 := fun u : In (RBox w p #[.int .i64 b, .slice (some ⟨b0, o0, none⟩) N c]) => (show u.w.cell? ⟨p, 0, none⟩ = some (.int .i64 b) from u.h.cell 0)
          have k1 := fun u : In (RBox w p #[.int .i64 b, .slice (some ⟨b0, o0, none⟩) N c]) => (show u.w.cell? ⟨p, 1, none⟩ = some (.slice (some ⟨b0, o0, none⟩) N c) from u.h.cell 1)
          have kr := fun u : In (RBox w p #[.int .i64 b, .slice (some ⟨b0, o0, none⟩) N c]) => (u.h.out.2.cell (p := ⟨b0, o0 + k * 6, none⟩) hb0).trans c0
          have kt := fun u : In (RBox w p #[.int .i64 b, .slice (some ⟨b0, o0, none⟩) N c]) => (u.h.out.2.cell (p := ⟨b0, o0 + k * 6 + 1, none⟩) hb0).trans c1
          have kl := fun u : In (RBox w p #[.int .i64 b, .slice (some ⟨b0, o0, none⟩) N c]) => load_parts ((u.h.out.2.cell (p := ⟨b0, o0 + k * 6, none⟩) hb0).trans c0) ((u.h.out.2.cell (p := ⟨b0, o0 + k * 6 + 1, none⟩) hb0).trans c1) ((u.h.out.2.cell (p := ⟨b0, o0 + k * 6 + 2, none⟩) hb0).trans c2) ((u.h.out.2.cell (p := ⟨b0, o0 + k * 6 + 3, none⟩) hb0).trans c3) ((u.h.out.2.cell (p := ⟨b0, o0 + k * 6 + 4, none⟩) hb0).trans c4) ((u.h.out.2.cell (p := ⟨b0, o0 + k * 6 + 5, none⟩) hb0).trans c5)
          have st0 := R.out
          clear R c0 c1 c2 c3 c4 c5
          go_upto_region 4 with fail
          refine region_in (S := RBox w p #[.int .i64 b, .slice (some ⟨b0, o0, none⟩) N c]) (by kernel_rfl) (by kernel_rfl) (st0.drewN 1) ?_
          iterate 4 (go_big_quiet_step (fail))
          go_big_quiet_want
          refine quiet_load_in 46 (.tmp 14) rfl b0 (o0 + k * 6) rfl _ kl ?_
          go_simp
          go_big_quiet_on
          repeat (go_big_quiet_step (first | (go_at_call 42; exact in_call ((HRR.out _).mono fun _ _ h => ⟨h.1, RBox.below (In.h _) h.2⟩))))
          refine wpQuiet_nil ?_
          rintro _ ⟨⟨w7, st7⟩, rfl⟩
          have S7 := Lib.hid st7
          clear this st0 st7 k0 k1 kr kt kl HRR
          (try simp only [Bool.not_true, Bool.not_false])
          obtain rfl : X0 = false := HNO.out (fun h => by have := h.2; omega)
          go_wp2_with fail
          go_ret
          exact ⟨rfl, S7.out.out.2⟩
        · have g3 : decide (o < b) = false := decide_eq_false h2
          haveI : Nonempty (In (RBox w p #[.int .i64 b, .slice (some ⟨b0, o0, none⟩) N c])) := ⟨⟨_, R.out⟩⟩
          have k0 := fun u : In (RBox w p #[.int .i64 b, .slice (some ⟨b0, o0, none⟩) N c]) => (show u.w.cell? ⟨p, 0, none⟩ = some (.int .i64 b) from u.h.cell 0)
          have k1 := fun u : In (RBox w p #[.int .i64 b, .slice (some ⟨b0, o0, none⟩) N c]) => (show u.w.cell? ⟨p, 1, none⟩ = some (.slice (some ⟨b0, o0, none⟩) N c) from u.h.cell 1)
          have kr := fun u : In (RBox w p #[.int .i64 b, .slice (some ⟨b0, o0, none⟩) N c]) => (u.h.out.2.cell (p := ⟨b0, o0 + k * 6, none⟩) hb0).trans c0
          have kt := fun u : In (RBox w p #[.int .i64 b, .slice (some ⟨b0, o0, none⟩) N c]) => (u.h.out.2.cell (p := ⟨b0, o0 + k * 6 + 1, none⟩) hb0).trans c1
          have kl := fun u : In (RBox w p #[.int .i64 b, .slice (some ⟨b0, o0, none⟩) N c]) => load_parts ((u.h.out.2.cell (p := ⟨b0, o0 + k * 6, none⟩) hb0).trans c0) ((u.h.out.2.cell (p := ⟨b0, o0 + k * 6 + 1, none⟩) hb0).trans c1) ((u.h.out.2.cell (p := ⟨b0, o0 + k * 6 + 2, none⟩) hb0).trans c2) ((u.h.out.2.cell (p := ⟨b0, o0 + k * 6 + 3, none⟩) hb0).trans c3) ((u.h.out.2.cell (p := ⟨b0, o0 + k * 6 + 4, none⟩) hb0).trans c4) ((u.h.out.2.cell (p := ⟨b0, o0 + k * 6 + 5, none⟩) hb0).trans c5)
          have st0 := R.out
          clear R c0 c1 c2 c3 c4 c5
          go_upto_region 4 with fail
          refine region_in (S := RBox w p #[.int .i64 b, .slice (some ⟨b0, o0, none⟩) N c]) (by kernel_rfl) (by kernel_rfl) (st0.drewN 1) ?_
          iterate 4 (go_big_quiet_step (fail))
          go_big_quiet_want
          refine quiet_load_in 46 (.tmp 14) rfl b0 (o0 + k * 6) rfl _ kl ?_
          go_simp
          go_big_quiet_on
          repeat (go_big_quiet_step (first | (go_at_call 42; exact in_call ((HRR.out _).mono fun _ _ h => ⟨h.1, RBox.below (In.h _) h.2⟩))))
          refine wpQuiet_nil ?_
          rintro _ ⟨⟨w7, st7⟩, rfl⟩
          have S7 := Lib.hid st7
          clear this st0 st7 k0 k1 kr kt kl HRR
          (try simp only [Bool.not_true, Bool.not_false])
          go_wp2_with fail
          go_roundw
          case rel => exact ⟨k + 1, hlt, by go_num, S7.out, HYES.out (⟨rfl, by omega⟩)⟩
          case measure => simp [RowKit.intOf]; omega
      · obtain ⟨j, hj⟩ : ∃ j, j + 1 = k := ⟨k - 1, by omega⟩
        have g1 : decide (0 < k) = true := decide_eq_true hkp
        have g2 : decide ((0 : Int) < (k : Int)) = true := decide_eq_true (by omega)
        have e5 : (k : Int) - 1 = (j : Int) := by omega
        have e6 : (j : Int) < (N : Int) := by omega
        have hjl : j < rs.length := by omega
        have hrj := hc j hjl
        have hjk : rs[k - 1]'(by omega) = rs[j] := by congr 1; omega
        replace HYES : Hid (M = true ∧ b ≤ rs[k].o ∧ rs[j].o < rs[k].o ∧ rs[j].t ≤ rs[k].t → DocTo b rs (k + 1)) := fun h => HYES.out ⟨h.1, h.2.1, fun h0 => by rw [hjk]; exact pair_iff.2 h.2.2⟩
        replace HNO : Hid (¬ (M = true ∧ b ≤ rs[k].o ∧ rs[j].o < rs[k].o ∧ rs[j].t ≤ rs[k].t) → X0 = false) := fun h => HNO.out fun h2 => h ⟨h2.1, h2.2.1, by have := h2.2.2 hkp; rw [hjk] at this; exact pair_iff.1 this⟩
        unfold ragg at HRR
        generalize rs[k] = r at hr HRR HYES HNO
        generalize rs[j] = r' at hrj HYES HNO
        obtain ⟨o, t, key, bod, q, g⟩ := r
        obtain ⟨o', t', key', bod', q', g'⟩ := r'
        obtain ⟨c0, c1, c2, c3, c4, c5⟩ := hr
        obtain ⟨x0, x1, _, _, _, _⟩ := hrj
        dsimp only at c0 c1 c2 c3 c4 c5 x0 x1 HRR HYES HNO
        generalize str key = ks at c2 HRR
        generalize str bod = bs at c3 HRR
        unfold rarr at HRR
        clear hc hlr hj hkp hjl hjk
        cases M with
        | false =>
          haveI : Nonempty (In (RBox w p #[.int .i64 b, .slice (some ⟨b0, o0, none⟩) N c])) := ⟨⟨_, R.out⟩⟩
          have k0 := fun u : In (RBox w p #[.int .i64 b, .slice (some ⟨b0, o0, none⟩) N c]) => (show u.w.cell? ⟨p, 0, none⟩ = some (.int .i64 b) from u.h.cell 0)
          have k1 := fun u : In (RBox w p #[.int .i64 b, .slice (some ⟨b0, o0, none⟩) N c]) => (show u.w.cell? ⟨p, 1, none⟩ = some (.slice (some ⟨b0, o0, none⟩) N c) from u.h.cell 1)
          have kr := fun u : In (RBox w p #[.int .i64 b, .slice (some ⟨b0, o0, none⟩) N c]) => (u.h.out.2.cell (p := ⟨b0, o0 + k * 6, none⟩) hb0).trans c0
          have kt := fun u : In (RBox w p #[.int .i64 b, .slice (some ⟨b0, o0, none⟩) N c]) => (u.h.out.2.cell (p := ⟨b0, o0 + k * 6 + 1, none⟩) hb0).trans c1
          have kl := fun u : In (RBox w p #[.int .i64 b, .slice (some ⟨b0, o0, none⟩) N c]) => load_parts ((u.h.out.2.cell (p := ⟨b0, o0 + k * 6, none⟩) hb0).trans c0) ((u.h.out.2.cell (p := ⟨b0, o0 + k * 6 + 1, none⟩) hb0).trans c1) ((u.h.out.2.cell (p := ⟨b0, o0 + k * 6 + 2, none⟩) hb0).trans c2) ((u.h.out.2.cell (p := ⟨b0, o0 + k * 6 + 3, none⟩) hb0).trans c3) ((u.h.out.2.cell (p := ⟨b0, o0 + k * 6 + 4, none⟩) hb0).trans c4) ((u.h.out.2.cell (p := ⟨b0, o0 + k * 6 + 5, none⟩) hb0).trans c5)
          have kx := fun u : In (RBox w p #[.int .i64 b, .slice (some ⟨b0, o0, none⟩) N c]) => (u.h.out.2.cell (p := ⟨b0, o0 + j * 6, none⟩) hb0).trans x0
          have ky := fun u : In (RBox w p #[.int .i64 b, .slice (some ⟨b0, o0, none⟩) N c]) => (u.h.out.2.cell (p := ⟨b0, o0 + j * 6 + 1, none⟩) hb0).trans x1
          have st0 := R.out
          clear R c0 c1 c2 c3 c4 c5 x0 x1
          go_upto_region 4 with fail
          refine region_in (S := RBox w p #[.int .i64 b, .slice (some ⟨b0, o0, none⟩) N c]) (by kernel_rfl) (by kernel_rfl) (st0.drewN 1) ?_
          iterate 4 (go_big_quiet_step (fail))
          go_big_quiet_want
          refine quiet_load_in 46 (.tmp 14) rfl b0 (o0 + k * 6) rfl _ kl ?_
          go_simp
          go_big_quiet_on
          repeat (go_big_quiet_step (first | (go_at_call 42; exact in_call ((HRR.out _).mono fun _ _ h => ⟨h.1, RBox.below (In.h _) h.2⟩))))
          refine wpQuiet_nil ?_
          rintro _ ⟨⟨w7, st7⟩, rfl⟩
          have S7 := Lib.hid st7
          clear this st0 st7 k0 k1 kr kt kl HRR kx ky
          (try simp only [Bool.not_true, Bool.not_false])
          obtain rfl : X0 = false := HNO.out (fun h => by cases h.1)
          go_wp2_with fail
          go_ret
          exact ⟨rfl, S7.out.out.2⟩
        | true =>
        by_cases h2 : o < b
        · have g3 : decide (o < b) = true := decide_eq_true h2
          haveI : Nonempty (In (RBox w p #[.int .i64 b, .slice (some ⟨b0, o0, none⟩) N c])) := ⟨⟨_, R.out⟩⟩
          have k0 := fun u : In (RBox w p #[.int .i64 b, .slice (some ⟨b0, o0, none⟩) N c]) => (show u.w.cell? ⟨p, 0, none⟩ = some (.int .i64 b) from u.h.cell 0)
          have k1 := fun u : In (RBox w p #[.int .i64 b, .slice (some ⟨b0, o0, none⟩) N c]) => (show u.w.cell? ⟨p, 1, none⟩ = some (.slice (some ⟨b0, o0, none⟩) N c) from u.h.cell 1)
          have kr := fun u : In (RBox w p #[.int .i64 b, .slice (some ⟨b0, o0, none⟩) N c]) => (u.h.out.2.cell (p := ⟨b0, o0 + k * 6, none⟩) hb0).trans c0
          have kt := fun u : In (RBox w p #[.int .i64 b, .slice (some ⟨b0, o0, none⟩) N c]) => (u.h.out.2.cell (p := ⟨b0, o0 + k * 6 + 1, none⟩) hb0).trans c1
          have kl := fun u : In (RBox w p #[.int .i64 b, .slice (some ⟨b0, o0, none⟩) N c]) => load_parts ((u.h.out.2.cell (p := ⟨b0, o0 + k * 6, none⟩) hb0).trans c0) ((u.h.out.2.cell (p := ⟨b0, o0 + k * 6 + 1, none⟩) hb0).trans c1) ((u.h.out.2.cell (p := ⟨b0, o0 + k * 6 + 2, none⟩) hb0).trans c2) ((u.h.out.2.cell (p := ⟨b0, o0 + k * 6 + 3, none⟩) hb0).trans c3) ((u.h.out.2.cell (p := ⟨b0, o0 + k * 6 + 4, none⟩) hb0).trans c4) ((u.h.out.2.cell (p := ⟨b0, o0 + k * 6 + 5, none⟩) hb0).trans c5)
          have kx := fun u : In (RBox w p #[.int .i64 b, .slice (some ⟨b0, o0, none⟩) N c]) => (u.h.out.2.cell (p := ⟨b0, o0 + j * 6, none⟩) hb0).trans x0
          have ky := fun u : In (RBox w p #[.int .i64 b, .slice (some ⟨b0, o0, none⟩) N c]) => (u.h.out.2.cell (p := ⟨b0, o0 + j * 6 + 1, none⟩) hb0).trans x1
          have st0 := R.out
          clear R c0 c1 c2 c3 c4 c5 x0 x1
          go_upto_region 4 with fail
          refine region_in (S := RBox w p #[.int .i64 b, .slice (some ⟨b0, o0, none⟩) N c]) (by kernel_rfl) (by kernel_rfl) (st0.drewN 1) ?_
          iterate 4 (go_big_quiet_step (fail))
          go_big_quiet_want
          refine quiet_load_in 46 (.tmp 14) rfl b0 (o0 + k * 6) rfl _ kl ?_
          go_simp
          go_big_quiet_on
          repeat (go_big_quiet_step (first | (go_at_call 42; exact in_call ((HRR.out _).mono fun _ _ h => ⟨h.1, RBox.below (In.h _) h.2⟩))))
          refine wpQuiet_nil ?_
          rintro _ ⟨⟨w7, st7⟩, rfl⟩
          have S7 := Lib.hid st7
          clear this st0 st7 k0 k1 kr kt kl HRR kx ky
          (try simp only [Bool.not_true, Bool.not_false])
          obtain rfl : X0 = false := HNO.out (fun h => by have := h.2.1; omega)
          go_wp2_with fail
          go_ret
          exact ⟨rfl, S7.out.out.2⟩
        · have g3 : decide (o < b) = false := decide_eq_false h2
          by_cases h3 : o ≤ o'
          · have g4 : decide (o ≤ o') = true := decide_eq_true h3
            haveI : Nonempty (In (RBox w p #[.int .i64 b, .slice (some ⟨b0, o0, none⟩) N c])) := ⟨⟨_, R.out⟩⟩
            have k0 := fun u : In (RBox w p #[.int .i64 b, .slice (some ⟨b0, o0, none⟩) N c]) => (show u.w.cell? ⟨p, 0, none⟩ = some (.int .i64 b) from u.h.cell 0)
            have k1 := fun u : In (RBox w p #[.int .i64 b, .slice (some ⟨b0, o0, none⟩) N c]) => (show u.w.cell? ⟨p, 1, none⟩ = some (.slice (some ⟨b0, o0, none⟩) N c) from u.h.cell 1)
            have kr := fun u : In (RBox w p #[.int .i64 b, .slice (some ⟨b0, o0, none⟩) N c]) => (u.h.out.2.cell (p := ⟨b0, o0 + k * 6, none⟩) hb0).trans c0
            have kt := fun u : In (RBox w p #[.int .i64 b, .slice (some ⟨b0, o0, none⟩) N c]) => (u.h.out.2.cell (p := ⟨b0, o0 + k * 6 + 1, none⟩) hb0).trans c1
            have kl := fun u : In (RBox w p #[.int .i64 b, .slice (some ⟨b0, o0, none⟩) N c]) => load_parts ((u.h.out.2.cell (p := ⟨b0, o0 + k * 6, none⟩) hb0).trans c0) ((u.h.out.2.cell (p := ⟨b0, o0 + k * 6 + 1, none⟩) hb0).trans c1) ((u.h.out.2.cell (p := ⟨b0, o0 + k * 6 + 2, none⟩) hb0).trans c2) ((u.h.out.2.cell (p := ⟨b0, o0 + k * 6 + 3, none⟩) hb0).trans c3) ((u.h.out.2.cell (p := ⟨b0, o0 + k * 6 + 4, none⟩) hb0).trans c4) ((u.h.out.2.cell (p := ⟨b0, o0 + k * 6 + 5, none⟩) hb0).trans c5)
            have kx := fun u : In (RBox w p #[.int .i64 b, .slice (some ⟨b0, o0, none⟩) N c]) => (u.h.out.2.cell (p := ⟨b0, o0 + j * 6, none⟩) hb0).trans x0
            have ky := fun u : In (RBox w p #[.int .i64 b, .slice (some ⟨b0, o0, none⟩) N c]) => (u.h.out.2.cell (p := ⟨b0, o0 + j * 6 + 1, none⟩) hb0).trans x1
            have st0 := R.out
            clear R c0 c1 c2 c3 c4 c5 x0 x1
            go_upto_region 4 with fail
            refine region_in (S := RBox w p #[.int .i64 b, .slice (some ⟨b0, o0, none⟩) N c]) (by kernel_rfl) (by kernel_rfl) (st0.drewN 1) ?_
            iterate 4 (go_big_quiet_step (fail))
            go_big_quiet_want
            refine quiet_load_in 46 (.tmp 14) rfl b0 (o0 + k * 6) rfl _ kl ?_
            go_simp
            go_big_quiet_on
            repeat (go_big_quiet_step (first | (go_at_call 42; exact in_call ((HRR.out _).mono fun _ _ h => ⟨h.1, RBox.below (In.h _) h.2⟩))))
            refine wpQuiet_nil ?_
            rintro _ ⟨⟨w7, st7⟩, rfl⟩
            have S7 := Lib.hid st7
            clear this st0 st7 k0 k1 kr kt kl HRR kx ky
            (try simp only [Bool.not_true, Bool.not_false])
            obtain rfl : X0 = false := HNO.out (fun h => by have := h.2.2.1; omega)
            go_wp2_with fail
            go_ret
            exact ⟨rfl, S7.out.out.2⟩
          · have g4 : decide (o ≤ o') = false := decide_eq_false h3
            by_cases h4 : t < t'
            · have g5 : decide (t < t') = true := decide_eq_true h4
              haveI : Nonempty (In (RBox w p #[.int .i64 b, .slice (some ⟨b0, o0, none⟩) N c])) := ⟨⟨_, R.out⟩⟩
              have k0 := fun u : In (RBox w p #[.int .i64 b, .slice (some ⟨b0, o0, none⟩) N c]) => (show u.w.cell? ⟨p, 0, none⟩ = some (.int .i64 b) from u.h.cell 0)
              have k1 := fun u : In (RBox w p #[.int .i64 b, .slice (some ⟨b0, o0, none⟩) N c]) => (show u.w.cell? ⟨p, 1, none⟩ = some (.slice (some ⟨b0, o0, none⟩) N c) from u.h.cell 1)
              have kr := fun u : In (RBox w p #[.int .i64 b, .slice (some ⟨b0, o0, none⟩) N c]) => (u.h.out.2.cell (p := ⟨b0, o0 + k * 6, none⟩) hb0).trans c0
              have kt := fun u : In (RBox w p #[.int .i64 b, .slice (some ⟨b0, o0, none⟩) N c]) => (u.h.out.2.cell (p := ⟨b0, o0 + k * 6 + 1, none⟩) hb0).trans c1
              have kl := fun u : In (RBox w p #[.int .i64 b, .slice (some ⟨b0, o0, none⟩) N c]) => load_parts ((u.h.out.2.cell (p := ⟨b0, o0 + k * 6, none⟩) hb0).trans c0) ((u.h.out.2.cell (p := ⟨b0, o0 + k * 6 + 1, none⟩) hb0).trans c1) ((u.h.out.2.cell (p := ⟨b0, o0 + k * 6 + 2, none⟩) hb0).trans c2) ((u.h.out.2.cell (p := ⟨b0, o0 + k * 6 + 3, none⟩) hb0).trans c3) ((u.h.out.2.cell (p := ⟨b0, o0 + k * 6 + 4, none⟩) hb0).trans c4) ((u.h.out.2.cell (p := ⟨b0, o0 + k * 6 + 5, none⟩) hb0).trans c5)
              have kx := fun u : In (RBox w p #[.int .i64 b, .slice (some ⟨b0, o0, none⟩) N c]) => (u.h.out.2.cell (p := ⟨b0, o0 + j * 6, none⟩) hb0).trans x0
              have ky := fun u : In (RBox w p #[.int .i64 b, .slice (some ⟨b0, o0, none⟩) N c]) => (u.h.out.2.cell (p := ⟨b0, o0 + j * 6 + 1, none⟩) hb0).trans x1
              have st0 := R.out
              clear R c0 c1 c2 c3 c4 c5 x0 x1
              go_upto_region 4 with fail
              refine region_in (S := RBox w p #[.int .i64 b, .slice (some ⟨b0, o0, none⟩) N c]) (by kernel_rfl) (by kernel_rfl) (st0.drewN 1) ?_
              iterate 4 (go_big_quiet_step (fail))
              go_big_quiet_want
              refine quiet_load_in 46 (.tmp 14) rfl b0 (o0 + k * 6) rfl _ kl ?_
              go_simp
              go_big_quiet_on
              repeat (go_big_quiet_step (first | (go_at_call 42; exact in_call ((HRR.out _).mono fun _ _ h => ⟨h.1, RBox.below (In.h _) h.2⟩))))
              refine wpQuiet_nil ?_
              rintro _ ⟨⟨w7, st7⟩, rfl⟩
              have S7 := Lib.hid st7
              clear this st0 st7 k0 k1 kr kt kl HRR kx ky
              (try simp only [Bool.not_true, Bool.not_false])
              obtain rfl : X0 = false := HNO.out (fun h => by have := h.2.2.2; omega)
              go_wp2_with fail
              go_ret
              exact ⟨rfl, S7.out.out.2⟩
            · have g5 : decide (t < t') = false := decide_eq_false h4
              haveI : Nonempty (In (RBox w p #[.int .i64 b, .slice (some ⟨b0, o0, none⟩) N c])) := ⟨⟨_, R.out⟩⟩
              have k0 := fun u : In (RBox w p #[.int .i64 b, .slice (some ⟨b0, o0, none⟩) N c]) => (show u.w.cell? ⟨p, 0, none⟩ = some (.int .i64 b) from u.h.cell 0)
              have k1 := fun u : In (RBox w p #[.int .i64 b, .slice (some ⟨b0, o0, none⟩) N c]) => (show u.w.cell? ⟨p, 1, none⟩ = some (.slice (some ⟨b0, o0, none⟩) N c) from u.h.cell 1)
              have kr := fun u : In (RBox w p #[.int .i64 b, .slice (some ⟨b0, o0, none⟩) N c]) => (u.h.out.2.cell (p := ⟨b0, o0 + k * 6, none⟩) hb0).trans c0
              have kt := fun u : In (RBox w p #[.int .i64 b, .slice (some ⟨b0, o0, none⟩) N c]) => (u.h.out.2.cell (p := ⟨b0, o0 + k * 6 + 1, none⟩) hb0).trans c1
              have kl := fun u : In (RBox w p #[.int .i64 b, .slice (some ⟨b0, o0, none⟩) N c]) => load_parts ((u.h.out.2.cell (p := ⟨b0, o0 + k * 6, none⟩) hb0).trans c0) ((u.h.out.2.cell (p := ⟨b0, o0 + k * 6 + 1, none⟩) hb0).trans c1) ((u.h.out.2.cell (p := ⟨b0, o0 + k * 6 + 2, none⟩) hb0).trans c2) ((u.h.out.2.cell (p := ⟨b0, o0 + k * 6 + 3, none⟩) hb0).trans c3) ((u.h.out.2.cell (p := ⟨b0, o0 + k * 6 + 4, none⟩) hb0).trans c4) ((u.h.out.2.cell (p := ⟨b0, o0 + k * 6 + 5, none⟩) hb0).trans c5)
              have kx := fun u : In (RBox w p #[.int .i64 b, .slice (some ⟨b0, o0, none⟩) N c]) => (u.h.out.2.cell (p := ⟨b0, o0 + j * 6, none⟩) hb0).trans x0
              have ky := fun u : In (RBox w p #[.int .i64 b, .slice (some ⟨b0, o0, none⟩) N c]) => (u.h.out.2.cell (p := ⟨b0, o0 + j * 6 + 1, none⟩) hb0).trans x1
              have st0 := R.out
              clear R c0 c1 c2 c3 c4 c5 x0 x1
              go_upto_region 4 with fail
              refine region_in (S := RBox w p #[.int .i64 b, .slice (some ⟨b0, o0, none⟩) N c]) (by kernel_rfl) (by kernel_rfl) (st0.drewN 1) ?_
              iterate 4 (go_big_quiet_step (fail))
              go_big_quiet_want
              refine quiet_load_in 46 (.tmp 14) rfl b0 (o0 + k * 6) rfl _ kl ?_
              go_simp
              go_big_quiet_on
              repeat (go_big_quiet_step (first | (go_at_call 42; exact in_call ((HRR.out _).mono fun _ _ h => ⟨h.1, RBox.below (In.h _) h.2⟩))))
              refine wpQuiet_nil ?_
              rintro _ ⟨⟨w7, st7⟩, rfl⟩
              have S7 := Lib.hid st7
              clear this st0 st7 k0 k1 kr kt kl HRR kx ky
              (try simp only [Bool.not_true, Bool.not_false])
              go_wp2_with fail
              go_roundw
              case rel => exact ⟨k + 1, hlt, by go_num, S7.out, HYES.out (⟨rfl, by omega, by omega, by omega⟩)⟩
              case measure => simp [RowKit.intOf]; omega
    · obtain rfl : k = N := by omega
      have HALL := Lib.hid (show X0 = (baseB b && decide (k ≤ 200)) by
        rw [← HX.out, Bool.eq_iff_iff, Bool.and_eq_true, decide_eq_true_iff]
        refine ⟨fun h => (by rw [← HNN.out]; exact (seg_doc.1 h).1), fun h => seg_doc.2 ⟨by rw [HNN.out]; exact h, fun i hi => HD.out i hi (by rw [← HNN.out]; exact hi)⟩⟩)
      have HNU := Lib.hid (fun X W (h : decide (0 ≤ b ∧ b ≤ 1099511627776) = X) => RNum_is b 1099511627776 X W h)
      have d0 : wr.cell? ⟨p, 0, none⟩ = some (.int .i64 b) := R.out.cell 0
      unfold baseB at HALL
      clear HD
      obtain ⟨Y, hY⟩ : ∃ Y, decide (0 ≤ b ∧ b ≤ 1099511627776) = Y := ⟨_, rfl⟩
      rw [hY] at HALL
      have HNU1 := Lib.hid (fun W => HNU.out Y W hY)
      clear HNU hY
      cases Y with
      | true =>
        go_wp2_with (go_at_call 27; refine (HNU1.out _).mono ?_; rintro e w' ⟨rfl, rfl⟩)
        go_ret
        exact ⟨ret_bool (by rw [HALL.out, Bool.true_and]; exact decide_eq_decide.2 (by omega)), R.out.out.2⟩
      | false =>
        go_wp2_with (go_at_call 27; refine (HNU1.out _).mono ?_; rintro e w' ⟨rfl, rfl⟩)
        go_ret
        exact ⟨ret_bool (by rw [HALL.out]; rfl), R.out.out.2⟩
end Go.Proofs.Ythdefnfpjbpbkaa
/- The document's own answer: whether segments are in a row. -/
namespace Go.Proofs.Ythdefnfpjbpbkaa.Kpd
open Go.RowKit Go.Lib Rcd

/-- So many of the first ones are as the document asks. -/
def DocOf (l : List Sp) (k : Nat) : Prop := ∀ j, j < l.length → j < k → docB l j

set_option maxRecDepth 100000 in
set_option maxHeartbeats 16000000 in
/-- fairwayref13.Row. -/
theorem RRow_is (l : List Sp) (N : Nat) (A : Option Addr) (c B : Nat) (X : Bool) (w : World) (hN : l.length = N) (hm : N ≤ 9223372036854775807) (hcap : N ≤ c) (hbig : (recsOf l).length ≤ 1000000) (hB : B ≤ w.heap.size) (h : SegsAt w B A l) (hX : rowB l = X) :
    Calls Try.prog 16 #[.slice A N c] w fun e w' => e = .returned (.bool X) ∧ Below w.heap.size w w' := by
  have H := Lib.hid (h.mono hB)
  have HX := Lib.hid hX
  have HN := Lib.hid hN
  have HBG := Lib.hid hbig
  clear h hX hN hB hbig
  by_cases hN0 : N = 0
  · subst hN0
    obtain rfl : X = false := by
      rw [← HX.out]
      unfold rowB
      rw [decide_eq_false (by rw [HN.out]; omega)]; rfl
    go_enter Try.func16, Try.ntmps16
    go_wp2_with fail
    go_ret
    exact ⟨rfl, Below.refl _ _⟩
  have e0 : ((N : Int) == 0) = false := by rw [beq_eq_false_iff_ne]; omega
  have e00 : (N == 0) = false := by rw [beq_eq_false_iff_ne]; omega
  have HRR := Lib.hid (fun k F W (hk : k ≤ N) (hF : (recsOf (l.take k)).length = F) (hb : Below w.heap.size w W) => RRecs_is (l.take k) k F A c w.heap.size W (by rw [List.length_take, HN.out]; omega) (by omega) hF (by rw [← hF]; exact Nat.le_trans (recs_take_le l k) HBG.out) hb.size ((H.out.below hb).take k))
  have HN0 := Lib.hid (Nat.pos_of_ne_zero hN0)
  clear hN0
  go_enter Try.func16, Try.ntmps16
  go_wp2_with fail
  clear e0 e00
  go_loopw [3] (fun i wr => ∃ k : Nat, k ≤ N ∧ i = .int .i64 (k : Int) ∧ Bel w wr ∧ DocOf l k) (fun i _ => N - (RowKit.intOf i).toNat)
  case atStart => exact ⟨0, Nat.zero_le _, rfl, .mk (Below.refl _ _), fun j _ h => absurd h (Nat.not_lt_zero _)⟩
  case round =>
    obtain ⟨k, hk, rfl, hbl, hdoc⟩ := hrel
    have HB := Lib.hid hbl
    have HD := Lib.hid hdoc
    clear hbl hdoc
    by_cases hlt : k < N
    · have hlr : k < l.length := by rw [HN.out]; exact hlt
      obtain ⟨b0, o0, rfl, hb0, hc⟩ := H.out.some_ (by omega)
      have hsl := fun W => segs_front (some ⟨b0, o0, none⟩) N c k W (by omega)
      have HYES : Hid (docB l k → DocOf l (k + 1)) := by
        show _ → _
        intro hd j hj hjk
        by_cases c : j < k
        · exact HD.out j hj c
        · obtain rfl : j = k := by omega
          exact hd
      have HNO : Hid (¬ docB l k → X = false) := by
        show _ → _
        intro hno
        rw [← HX.out, ← Bool.not_eq_true]
        intro hr
        exact hno ((row_doc.1 hr).2 k hlr)
      obtain ⟨F, hF⟩ : ∃ F, (recsOf (l.take k)).length = F := ⟨_, rfl⟩
      have HRF := Lib.hid (fun W hb => HRR.out k F W hk hF hb)
      obtain ⟨A1, c1, hsg⟩ := hc k hlr
      obtain ⟨X1, hX1⟩ : ∃ X1, segB l[k].b l[k].rs = X1 := ⟨_, rfl⟩
      have e1 : (k : Int) < (N : Int) := by omega
      have st0 := HB.out
      haveI : Nonempty (In (Bel w)) := ⟨⟨_, st0⟩⟩
      clear HD HB HRR
      rcases Nat.eq_zero_or_pos k with hk0 | hkp
      · have g1 : decide (0 < k) = false := decide_eq_false (by omega)
        have g2 : decide ((0 : Int) < (k : Int)) = false := decide_eq_false (by omega)
        have HDK : Hid (docB l k ↔ (X1 = true ∧ ∀ a, (recsOf (l.take k)).getLast? = some a → a.o < l[k].b ∧ firstB a.t l[k].rs = true)) := by
          show _ ↔ _
          unfold docB
          rw [← hX1]
          exact ⟨fun h => ⟨(h hlr).1, (h hlr).2.2⟩, fun h _ => ⟨h.1, fun h0 => absurd h0 (by omega), h.2⟩⟩
        clear hc
        have HFR := Lib.hid hF
        have HFB : Hid ((recsOf (l.take k)).length ≤ 1000000) := Nat.le_trans (recs_take_le l k) HBG.out
        generalize recsOf (l.take k) = fr at HFR HRF HDK HFB
        generalize l[k] = s at hsg HDK hX1
        obtain ⟨sb, srs⟩ := s
        obtain ⟨s0, s1, hA, _, hlim⟩ := hsg
        dsimp only at s0 s1 hA hlim HDK hX1
        obtain ⟨M, hM⟩ : ∃ M, srs.length = M := ⟨_, rfl⟩
        have HM := Lib.hid hM
        rw [hM] at s1 hlim
        have HA := Lib.hid hA
        have HSG := Lib.hid (fun W (hb : Bel w W) => RSeg_is sb srs M A1 c1 w.heap.size X1 W hM (by omega) hb.out.size (hA.below hb.out) hX1)
        have kr := fun u : In (Bel w) => (u.h.out.cell (p := ⟨b0, o0 + k * 2, none⟩) hb0).trans s0
        have kl := fun u : In (Bel w) => load_seg_at ((u.h.out.cell (p := ⟨b0, o0 + k * 2, none⟩) hb0).trans s0) ((u.h.out.cell (p := ⟨b0, o0 + k * 2 + 1, none⟩) hb0).trans s1)
        have HS01 := Lib.hid (And.intro s0 s1)
        clear hF hM hlim s0 s1 hA hX1 hlr
        clear hk0
        cases X1 with
        | false =>
          go_upto_region 6 with fail
          refine region_in (S := Bel w) (by kernel_rfl) (by kernel_rfl) (st0.drewN 1) ?_
          iterate 3 (go_big_quiet_step (fail))
          go_big_quiet_want
          refine quiet_load_in 49 (.tmp 17) rfl b0 (o0 + k * 2) rfl _ kl ?_
          go_simp
          go_big_quiet_on
          repeat (go_big_quiet_step (first | (go_at_call 30; exact in_call ((HSG.out _ (In.h _)).mono fun _ _ h => ⟨h.1, Bel.below (In.h _) h.2⟩))))
          refine wpQuiet_nil ?_
          rintro _ ⟨⟨w7, st7⟩, rfl⟩
          have S7 := Lib.hid st7
          clear this st0 st7 kl kr HSG
          (try simp only [Bool.not_true, Bool.not_false])
          obtain rfl : X = false := HNO.out (fun h => by have := (HDK.out.1 h).1; cases this)
          go_wp2_with fail
          go_ret
          exact ⟨rfl, S7.out.out⟩
        | true =>
          go_upto_region 6 with fail
          refine region_in (S := Bel w) (by kernel_rfl) (by kernel_rfl) (st0.drewN 1) ?_
          iterate 3 (go_big_quiet_step (fail))
          go_big_quiet_want
          refine quiet_load_in 49 (.tmp 17) rfl b0 (o0 + k * 2) rfl _ kl ?_
          go_simp
          go_big_quiet_on
          repeat (go_big_quiet_step (first | (go_at_call 30; exact in_call ((HSG.out _ (In.h _)).mono fun _ _ h => ⟨h.1, Bel.below (In.h _) h.2⟩))))
          refine wpQuiet_nil ?_
          rintro _ ⟨⟨w7, st7⟩, rfl⟩
          have S7 := Lib.hid st7
          clear this st0 st7 kl kr HSG
          (try simp only [Bool.not_true, Bool.not_false])
          have HDK2 := Lib.hid (show (∀ a, fr.getLast? = some a → a.o < sb ∧ firstB a.t srs = true) → docB l k from fun h => HDK.out.2 ⟨rfl, h⟩)
          have HDN2 := Lib.hid (show ¬ (∀ a, fr.getLast? = some a → a.o < sb ∧ firstB a.t srs = true) → X = false from fun h => HNO.out fun h2 => h (HDK.out.1 h2).2)
          clear HDK HNO g1 g2
          go_wp2_with fail
          refine (HRF.out _ S7.out.out).mono ?_
          rintro e w8 ⟨A', c', rfl, hr8, hb8⟩
          have S8 := Lib.hid (S7.out.below hb8)
          have HR8 := Lib.hid hr8
          clear hr8 hb8 S7 HRF hsl
          cases F with
          | zero =>
            have hfr : fr = [] := List.eq_nil_of_length_eq_zero HFR.out
            have HDD := Lib.hid (HYES.out (HDK2.out (fun a ha => by rw [hfr] at ha; cases ha)))
            clear hfr HDK2 HDN2 HYES HFR
            go_wp2_with fail
            go_roundw
            case rel => exact ⟨k + 1, hlt, by go_num, S8.out, HDD.out⟩
            case measure => simp [RowKit.intOf]; omega
          | succ f =>
            obtain ⟨F, hFf⟩ : ∃ F, f + 1 = F := ⟨_, rfl⟩
            have hfl := HFR.out
            rw [hFf] at hfl ⊢
            have hFm : F ≤ 1000000 := by rw [← hfl]; exact HFB.out
            have hlast : fr.getLast? = some (fr[f]'(by omega)) := last_all (by omega)
            obtain ⟨bb, oo, rfl, hbb, hcc⟩ := HR8.out.some_ (by omega)
            have hrr := hcc f (by omega)
            have HDK3 := Lib.hid (show ((fr[f]'(by omega)).o < sb ∧ firstB (fr[f]'(by omega)).t srs = true) → docB l k from fun h => HDK2.out fun a ha => by rw [hlast] at ha; injection ha with ha; rw [← ha]; exact h)
            have HDN3 := Lib.hid (show ¬ ((fr[f]'(by omega)).o < sb ∧ firstB (fr[f]'(by omega)).t srs = true) → X = false from fun h => HDN2.out fun h2 => h (h2 _ hlast))
            clear HDK2 HDN2 hcc hlast HR8
            generalize fr[f]'(by omega) = a at hrr HDK3 HDN3
            obtain ⟨ao, aT, ak, ab, aq, ag⟩ := a
            obtain ⟨c0, c1, c2, c3, c4, c5⟩ := hrr
            dsimp only at c0 c1 c2 c3 c4 c5 HDK3 HDN3
            generalize str ak = ks at c2
            generalize str ab = bs at c3
            have g6 : decide (0 < F) = true := decide_eq_true (by omega)
            have g7 : decide ((0 : Int) < (F : Int)) = true := decide_eq_true (by omega)
            have g8 : (F : Int) - 1 = (f : Int) := by omega
            have g9 : (f : Int) < (F : Int) := by omega
            obtain ⟨p9, W4, hg9, hW4, hbn, hbx, hbw⟩ := box_new S8.out.out (rarr ao aT ks bs aq ag)
            have HBN := Lib.hid hbn
            have HBX := Lib.hid hbx
            unfold zcells at hW4
            unfold rarr at HBX
            have HW4 := Lib.hid hW4
            clear hbn hbx hbw hW4 hfl hFf HFR S8 hbb
            go_upto_region 11 with (rw [HW4.out]; refine wpList_store_whole rfl 46 (.tmp 5) (.tmp 51) rfl p9 _ rfl rfl zcells HBN.out info_rec rfl (by simp [Value.oneCell']) ?_; simp only [Act.put])
            clear HW4 HBN c0 c1 c2 c3 c4 c5 hg9 g6 g7 g8 g9 hFm
            generalize World.setRow _ _ _ = w9 at HBX ⊢
            have d0 : w9.cell? ⟨p9, 0, none⟩ = some (.int .i64 ao) := HBX.out.cell 0
            have d1 : w9.cell? ⟨p9, 1, none⟩ = some (.int .i64 aT) := HBX.out.cell 1
            have t0 := (HBX.out.out.2.cell (p := ⟨b0, o0 + k * 2, none⟩) hb0).trans HS01.out.1
            have t1 := (HBX.out.out.2.cell (p := ⟨b0, o0 + k * 2 + 1, none⟩) hb0).trans HS01.out.2
            have B9 := Lib.hid (show Bel w w9 from .mk HBX.out.out.2)
            have hAt := HA.out.below HBX.out.out.2
            clear HBX HS01 HA
            by_cases h5 : sb ≤ ao
            · have f1 : decide (sb ≤ ao) = true := decide_eq_true h5
              obtain rfl : X = false := HDN3.out (fun h => by omega)
              clear hAt
              go_quiet (fail)
              go_wp2_with fail
              go_ret
              exact ⟨rfl, below_drewN B9.out.out _⟩
            · have f1 : decide (sb ≤ ao) = false := decide_eq_false h5
              cases M with
              | zero =>
                have hs0 : srs = [] := List.eq_nil_of_length_eq_zero HM.out
                have HDD := Lib.hid (HYES.out (HDK3.out ⟨by omega, by rw [hs0]; rfl⟩))
                clear hs0 HDK3 HDN3 HYES hAt
                go_quiet (fail)
                go_wp2_with fail
                go_roundw
                case rel => exact ⟨k + 1, hlt, by go_num, B9.out.drewN _, HDD.out⟩
                case measure => simp [RowKit.intOf]; omega
              | succ m =>
                obtain ⟨M, hMm⟩ : ∃ M, m + 1 = M := ⟨_, rfl⟩
                have hml := HM.out
                rw [hMm] at hml t1
                obtain ⟨b2, o2, rfl, _, hc2⟩ := hAt.some_ (by omega)
                have y1 := (hc2 0 (by omega)).c1
                rw [Nat.zero_mul, Nat.add_zero] at y1
                have hfb := first_at (t := aT) (rs := srs) (by omega)
                rw [hfb] at HDK3 HDN3
                clear hc2 hfb
                generalize (srs[0]'(by omega)).t = fT at y1 HDK3 HDN3
                have f2 : decide (0 < M) = true := decide_eq_true (by omega)
                have f3 : decide ((0 : Int) < (M : Int)) = true := decide_eq_true (by omega)
                have f4 : (0 : Int) < (M : Int) := by omega
                clear hml hMm HM
                by_cases h6 : fT < aT
                · have f5 : decide (fT < aT) = true := decide_eq_true h6
                  obtain rfl : X = false := HDN3.out (fun h => by have := of_decide_eq_true h.2; omega)
                  go_quiet (fail)
                  go_wp2_with fail
                  go_ret
                  exact ⟨rfl, below_drewN B9.out.out _⟩
                · have f5 : decide (fT < aT) = false := decide_eq_false h6
                  have HDD := Lib.hid (HYES.out (HDK3.out ⟨by omega, decide_eq_true (by omega)⟩))
                  clear HDK3 HDN3 HYES
                  go_quiet (fail)
                  go_wp2_with fail
                  go_roundw
                  case rel => exact ⟨k + 1, hlt, by go_num, B9.out.drewN _, HDD.out⟩
                  case measure => simp [RowKit.intOf]; omega
      · obtain ⟨j, hj⟩ : ∃ j, k = j + 1 := ⟨k - 1, by omega⟩
        have g1 : decide (0 < k) = true := decide_eq_true hkp
        have g2 : decide ((0 : Int) < (k : Int)) = true := decide_eq_true (by omega)
        have g3 : (k : Int) - 1 = (j : Int) := by omega
        have g4 : (j : Int) < (N : Int) := by omega
        have hjl : j < l.length := by omega
        obtain ⟨A0, c0, hsj⟩ := hc j hjl
        have q0 := hsj.c0
        have HDK : Hid (docB l k ↔ (X1 = true ∧ l[j].b ≤ l[k].b ∧ ∀ a, (recsOf (l.take k)).getLast? = some a → a.o < l[k].b ∧ firstB a.t l[k].rs = true)) := by
          show _ ↔ _
          unfold docB
          rw [← hX1]
          have e : k - 1 = j := by omega
          simp only [e]
          exact ⟨fun h => ⟨(h hlr).1, (h hlr).2.1 hkp, (h hlr).2.2⟩, fun h _ => ⟨h.1, fun _ => h.2.1, h.2.2⟩⟩
        clear hc hsj
        generalize l[j].b = qb at q0 HDK
        have HFR := Lib.hid hF
        have HFB : Hid ((recsOf (l.take k)).length ≤ 1000000) := Nat.le_trans (recs_take_le l k) HBG.out
        generalize recsOf (l.take k) = fr at HFR HRF HDK HFB
        generalize l[k] = s at hsg HDK hX1
        obtain ⟨sb, srs⟩ := s
        obtain ⟨s0, s1, hA, _, hlim⟩ := hsg
        dsimp only at s0 s1 hA hlim HDK hX1
        obtain ⟨M, hM⟩ : ∃ M, srs.length = M := ⟨_, rfl⟩
        have HM := Lib.hid hM
        rw [hM] at s1 hlim
        have HA := Lib.hid hA
        have HSG := Lib.hid (fun W (hb : Bel w W) => RSeg_is sb srs M A1 c1 w.heap.size X1 W hM (by omega) hb.out.size (hA.below hb.out) hX1)
        have kr := fun u : In (Bel w) => (u.h.out.cell (p := ⟨b0, o0 + k * 2, none⟩) hb0).trans s0
        have kl := fun u : In (Bel w) => load_seg_at ((u.h.out.cell (p := ⟨b0, o0 + k * 2, none⟩) hb0).trans s0) ((u.h.out.cell (p := ⟨b0, o0 + k * 2 + 1, none⟩) hb0).trans s1)
        have HS01 := Lib.hid (And.intro s0 s1)
        clear hF hM hlim s0 s1 hA hX1 hlr
        have kq := fun u : In (Bel w) => (u.h.out.cell (p := ⟨b0, o0 + j * 2, none⟩) hb0).trans q0
        clear hkp hjl hj q0
        cases X1 with
        | false =>
          go_upto_region 6 with fail
          refine region_in (S := Bel w) (by kernel_rfl) (by kernel_rfl) (st0.drewN 1) ?_
          iterate 3 (go_big_quiet_step (fail))
          go_big_quiet_want
          refine quiet_load_in 49 (.tmp 17) rfl b0 (o0 + k * 2) rfl _ kl ?_
          go_simp
          go_big_quiet_on
          repeat (go_big_quiet_step (first | (go_at_call 30; exact in_call ((HSG.out _ (In.h _)).mono fun _ _ h => ⟨h.1, Bel.below (In.h _) h.2⟩))))
          refine wpQuiet_nil ?_
          rintro _ ⟨⟨w7, st7⟩, rfl⟩
          have S7 := Lib.hid st7
          clear this st0 st7 kl kr HSG
          (try simp only [Bool.not_true, Bool.not_false])
          obtain rfl : X = false := HNO.out (fun h => by have := (HDK.out.1 h).1; cases this)
          clear kq
          go_wp2_with fail
          go_ret
          exact ⟨rfl, S7.out.out⟩
        | true =>
          by_cases h3 : sb < qb
          · have g5 : decide (sb < qb) = true := decide_eq_true h3
            go_upto_region 6 with fail
            refine region_in (S := Bel w) (by kernel_rfl) (by kernel_rfl) (st0.drewN 1) ?_
            iterate 3 (go_big_quiet_step (fail))
            go_big_quiet_want
            refine quiet_load_in 49 (.tmp 17) rfl b0 (o0 + k * 2) rfl _ kl ?_
            go_simp
            go_big_quiet_on
            repeat (go_big_quiet_step (first | (go_at_call 30; exact in_call ((HSG.out _ (In.h _)).mono fun _ _ h => ⟨h.1, Bel.below (In.h _) h.2⟩))))
            refine wpQuiet_nil ?_
            rintro _ ⟨⟨w7, st7⟩, rfl⟩
            have S7 := Lib.hid st7
            clear this st0 st7 kl kr HSG
            (try simp only [Bool.not_true, Bool.not_false])
            obtain rfl : X = false := HNO.out (fun h => by have := (HDK.out.1 h).2.1; omega)
            clear kq
            go_wp2_with fail
            go_ret
            exact ⟨rfl, S7.out.out⟩
          · have g5 : decide (sb < qb) = false := decide_eq_false h3
            go_upto_region 6 with fail
            refine region_in (S := Bel w) (by kernel_rfl) (by kernel_rfl) (st0.drewN 1) ?_
            iterate 3 (go_big_quiet_step (fail))
            go_big_quiet_want
            refine quiet_load_in 49 (.tmp 17) rfl b0 (o0 + k * 2) rfl _ kl ?_
            go_simp
            go_big_quiet_on
            repeat (go_big_quiet_step (first | (go_at_call 30; exact in_call ((HSG.out _ (In.h _)).mono fun _ _ h => ⟨h.1, Bel.below (In.h _) h.2⟩))))
            refine wpQuiet_nil ?_
            rintro _ ⟨⟨w7, st7⟩, rfl⟩
            have S7 := Lib.hid st7
            clear this st0 st7 kl kr HSG
            (try simp only [Bool.not_true, Bool.not_false])
            clear kq
            have HDK2 := Lib.hid (show (∀ a, fr.getLast? = some a → a.o < sb ∧ firstB a.t srs = true) → docB l k from fun h => HDK.out.2 ⟨rfl, by omega, h⟩)
            have HDN2 := Lib.hid (show ¬ (∀ a, fr.getLast? = some a → a.o < sb ∧ firstB a.t srs = true) → X = false from fun h => HNO.out fun h2 => h (HDK.out.1 h2).2.2)
            clear HDK HNO g1 g2 g3 g4 g5 h3
            go_wp2_with fail
            refine (HRF.out _ S7.out.out).mono ?_
            rintro e w8 ⟨A', c', rfl, hr8, hb8⟩
            have S8 := Lib.hid (S7.out.below hb8)
            have HR8 := Lib.hid hr8
            clear hr8 hb8 S7 HRF hsl
            cases F with
            | zero =>
              have hfr : fr = [] := List.eq_nil_of_length_eq_zero HFR.out
              have HDD := Lib.hid (HYES.out (HDK2.out (fun a ha => by rw [hfr] at ha; cases ha)))
              clear hfr HDK2 HDN2 HYES HFR
              go_wp2_with fail
              go_roundw
              case rel => exact ⟨k + 1, hlt, by go_num, S8.out, HDD.out⟩
              case measure => simp [RowKit.intOf]; omega
            | succ f =>
              obtain ⟨F, hFf⟩ : ∃ F, f + 1 = F := ⟨_, rfl⟩
              have hfl := HFR.out
              rw [hFf] at hfl ⊢
              have hFm : F ≤ 1000000 := by rw [← hfl]; exact HFB.out
              have hlast : fr.getLast? = some (fr[f]'(by omega)) := last_all (by omega)
              obtain ⟨bb, oo, rfl, hbb, hcc⟩ := HR8.out.some_ (by omega)
              have hrr := hcc f (by omega)
              have HDK3 := Lib.hid (show ((fr[f]'(by omega)).o < sb ∧ firstB (fr[f]'(by omega)).t srs = true) → docB l k from fun h => HDK2.out fun a ha => by rw [hlast] at ha; injection ha with ha; rw [← ha]; exact h)
              have HDN3 := Lib.hid (show ¬ ((fr[f]'(by omega)).o < sb ∧ firstB (fr[f]'(by omega)).t srs = true) → X = false from fun h => HDN2.out fun h2 => h (h2 _ hlast))
              clear HDK2 HDN2 hcc hlast HR8
              generalize fr[f]'(by omega) = a at hrr HDK3 HDN3
              obtain ⟨ao, aT, ak, ab, aq, ag⟩ := a
              obtain ⟨c0, c1, c2, c3, c4, c5⟩ := hrr
              dsimp only at c0 c1 c2 c3 c4 c5 HDK3 HDN3
              generalize str ak = ks at c2
              generalize str ab = bs at c3
              have g6 : decide (0 < F) = true := decide_eq_true (by omega)
              have g7 : decide ((0 : Int) < (F : Int)) = true := decide_eq_true (by omega)
              have g8 : (F : Int) - 1 = (f : Int) := by omega
              have g9 : (f : Int) < (F : Int) := by omega
              obtain ⟨p9, W4, hg9, hW4, hbn, hbx, hbw⟩ := box_new S8.out.out (rarr ao aT ks bs aq ag)
              have HBN := Lib.hid hbn
              have HBX := Lib.hid hbx
              unfold zcells at hW4
              unfold rarr at HBX
              have HW4 := Lib.hid hW4
              clear hbn hbx hbw hW4 hfl hFf HFR S8 hbb
              go_upto_region 11 with (rw [HW4.out]; refine wpList_store_whole rfl 46 (.tmp 5) (.tmp 51) rfl p9 _ rfl rfl zcells HBN.out info_rec rfl (by simp [Value.oneCell']) ?_; simp only [Act.put])
              clear HW4 HBN c0 c1 c2 c3 c4 c5 hg9 g6 g7 g8 g9 hFm
              generalize World.setRow _ _ _ = w9 at HBX ⊢
              have d0 : w9.cell? ⟨p9, 0, none⟩ = some (.int .i64 ao) := HBX.out.cell 0
              have d1 : w9.cell? ⟨p9, 1, none⟩ = some (.int .i64 aT) := HBX.out.cell 1
              have t0 := (HBX.out.out.2.cell (p := ⟨b0, o0 + k * 2, none⟩) hb0).trans HS01.out.1
              have t1 := (HBX.out.out.2.cell (p := ⟨b0, o0 + k * 2 + 1, none⟩) hb0).trans HS01.out.2
              have B9 := Lib.hid (show Bel w w9 from .mk HBX.out.out.2)
              have hAt := HA.out.below HBX.out.out.2
              clear HBX HS01 HA
              by_cases h5 : sb ≤ ao
              · have f1 : decide (sb ≤ ao) = true := decide_eq_true h5
                obtain rfl : X = false := HDN3.out (fun h => by omega)
                clear hAt
                go_quiet (fail)
                go_wp2_with fail
                go_ret
                exact ⟨rfl, below_drewN B9.out.out _⟩
              · have f1 : decide (sb ≤ ao) = false := decide_eq_false h5
                cases M with
                | zero =>
                  have hs0 : srs = [] := List.eq_nil_of_length_eq_zero HM.out
                  have HDD := Lib.hid (HYES.out (HDK3.out ⟨by omega, by rw [hs0]; rfl⟩))
                  clear hs0 HDK3 HDN3 HYES hAt
                  go_quiet (fail)
                  go_wp2_with fail
                  go_roundw
                  case rel => exact ⟨k + 1, hlt, by go_num, B9.out.drewN _, HDD.out⟩
                  case measure => simp [RowKit.intOf]; omega
                | succ m =>
                  obtain ⟨M, hMm⟩ : ∃ M, m + 1 = M := ⟨_, rfl⟩
                  have hml := HM.out
                  rw [hMm] at hml t1
                  obtain ⟨b2, o2, rfl, _, hc2⟩ := hAt.some_ (by omega)
                  have y1 := (hc2 0 (by omega)).c1
                  rw [Nat.zero_mul, Nat.add_zero] at y1
                  have hfb := first_at (t := aT) (rs := srs) (by omega)
                  rw [hfb] at HDK3 HDN3
                  clear hc2 hfb
                  generalize (srs[0]'(by omega)).t = fT at y1 HDK3 HDN3
                  have f2 : decide (0 < M) = true := decide_eq_true (by omega)
                  have f3 : decide ((0 : Int) < (M : Int)) = true := decide_eq_true (by omega)
                  have f4 : (0 : Int) < (M : Int) := by omega
                  clear hml hMm HM
                  by_cases h6 : fT < aT
                  · have f5 : decide (fT < aT) = true := decide_eq_true h6
                    obtain rfl : X = false := HDN3.out (fun h => by have := of_decide_eq_true h.2; omega)
                    go_quiet (fail)
                    go_wp2_with fail
                    go_ret
                    exact ⟨rfl, below_drewN B9.out.out _⟩
                  · have f5 : decide (fT < aT) = false := decide_eq_false h6
                    have HDD := Lib.hid (HYES.out (HDK3.out ⟨by omega, decide_eq_true (by omega)⟩))
                    clear HDK3 HDN3 HYES
                    go_quiet (fail)
                    go_wp2_with fail
                    go_roundw
                    case rel => exact ⟨k + 1, hlt, by go_num, B9.out.drewN _, HDD.out⟩
                    case measure => simp [RowKit.intOf]; omega
    · obtain rfl : k = N := by omega
      obtain ⟨F, hF⟩ : ∃ F, (recsOf l).length = F := ⟨_, rfl⟩
      have htk : l.take k = l := List.take_of_length_le (by rw [HN.out]; exact Nat.le_refl _)
      have HRF := Lib.hid (HRR.out k F wr (Nat.le_refl _) (by rw [htk]; exact hF) HB.out.out)
      have HALL := Lib.hid (show X = decide (F ≤ 200 ∧ k ≤ 201) by
        rw [← HX.out, Bool.eq_iff_iff, decide_eq_true_iff]
        refine ⟨fun h => ?_, fun h => row_doc.2 ⟨⟨by rw [HN.out]; exact HN0.out, by rw [HN.out]; exact h.2, by rw [hF]; exact h.1⟩, fun i hi => HD.out i hi (by rw [← HN.out]; exact hi)⟩⟩
        have := (row_doc.1 h).1
        rw [HN.out, hF] at this
        exact ⟨this.2.2, this.2.1⟩)
      clear HRR hF HD htk
      by_cases h1 : F ≤ 200
      · have f1 : decide ((F : Int) ≤ 200) = true := decide_eq_true (by omega)
        have f2 : decide (F ≤ 200) = true := decide_eq_true h1
        by_cases h2 : k ≤ 201
        · have f3 : decide ((k : Int) ≤ 201) = true := decide_eq_true (by omega)
          have f4 : decide (k ≤ 201) = true := decide_eq_true h2
          obtain rfl : X = true := by rw [HALL.out]; exact decide_eq_true ⟨h1, h2⟩
          go_wp2_with fail
          refine HRF.out.mono ?_
          rintro e w7 ⟨A', c', rfl, _, hb7⟩
          have B7 := Lib.hid (bel_step HB.out.out hb7)
          clear hb7 HB
          go_wp2_with fail
          go_ret
          exact ⟨rfl, B7.out⟩
        · have f3 : decide ((k : Int) ≤ 201) = false := decide_eq_false (by omega)
          have f4 : decide (k ≤ 201) = false := decide_eq_false h2
          obtain rfl : X = false := by rw [HALL.out]; exact decide_eq_false fun h => h2 h.2
          go_wp2_with fail
          refine HRF.out.mono ?_
          rintro e w7 ⟨A', c', rfl, _, hb7⟩
          have B7 := Lib.hid (bel_step HB.out.out hb7)
          clear hb7 HB
          go_wp2_with fail
          go_ret
          exact ⟨rfl, B7.out⟩
      · have f1 : decide ((F : Int) ≤ 200) = false := decide_eq_false (by omega)
        have f2 : decide (F ≤ 200) = false := decide_eq_false h1
        obtain rfl : X = false := by rw [HALL.out]; exact decide_eq_false fun h => h1 h.1
        go_wp2_with fail
        refine HRF.out.mono ?_
        rintro e w7 ⟨A', c', rfl, _, hb7⟩
        have B7 := Lib.hid (bel_step HB.out.out hb7)
        clear hb7 HB
        go_wp2_with fail
        go_ret
        exact ⟨rfl, B7.out⟩
end Go.Proofs.Ythdefnfpjbpbkaa.Kpd
/- The document's own answer: whether rules may be. -/
namespace Go.Proofs.Ythdefnfpjbpbkaa.Kpd
open Go.RowKit Go.Lib Rcd

set_option maxRecDepth 100000 in
set_option maxHeartbeats 8000000 in
/-- fairwayref13.Rules. -/
theorem RRules_is (r : Ru) (X : Bool) (w : World) (hX : ruB r = X) :
    Calls Try.prog 26 #[ruagg r] w fun e w' => e = .returned (.bool X) ∧ Below w.heap.size w w' := by
  unfold ruagg
  obtain ⟨sb, by_, ag, co, gr⟩ := r
  unfold ruB at hX
  dsimp only at hX ⊢
  have R0 := Lib.hid (RBox.new w 25 (ruarr sb by_ ag co gr))
  obtain ⟨p, hp⟩ : ∃ p, w.heap.size = p := ⟨_, rfl⟩
  obtain ⟨W0, hW⟩ : ∃ W0, w.alloc (.cells (ruarr sb by_ ag co gr) 25) = W0 := ⟨_, rfl⟩
  rw [hW, hp] at R0
  unfold ruarr at R0 hW ⊢
  have HW := Lib.hid hW
  have HP := Lib.hid hp
  have HX := Lib.hid hX
  obtain ⟨G, hG⟩ : ∃ G, decide (0 ≤ gr ∧ gr ≤ 1073741824) = G := ⟨_, rfl⟩
  have HG := Lib.hid hG
  clear hW hp hX hG
  have d0 : W0.cell? ⟨p, 0, none⟩ = some (.int .i64 sb) := R0.out.cell 0
  have d1 : W0.cell? ⟨p, 1, none⟩ = some (.int .i64 by_) := R0.out.cell 1
  have d2 : W0.cell? ⟨p, 2, none⟩ = some (.int .i64 ag) := R0.out.cell 2
  have d4 : W0.cell? ⟨p, 4, none⟩ = some (.int .i64 gr) := R0.out.cell 4
  have HF : Hid (¬ ((1 ≤ sb ∧ sb ≤ 32768) ∧ (-1 ≤ by_ ∧ by_ ≤ 1073741824) ∧ (-1 ≤ ag ∧ ag ≤ 1073741824)) → X = false) := by
    show _ → _
    intro h
    rw [← HX.out]
    exact decide_eq_false fun h2 => h ⟨h2.1, h2.2.1, h2.2.2.1⟩
  have HT : Hid (((1 ≤ sb ∧ sb ≤ 32768) ∧ (-1 ≤ by_ ∧ by_ ≤ 1073741824) ∧ (-1 ≤ ag ∧ ag ≤ 1073741824)) → X = G) := by
    show _ → _
    intro h
    rw [← HX.out, ← HG.out]
    by_cases c4 : 0 ≤ gr ∧ gr ≤ 1073741824
    · rw [decide_eq_true c4, decide_eq_true ⟨h.1, h.2.1, h.2.2, c4⟩]
    · rw [decide_eq_false c4, decide_eq_false (fun h => c4 h.2.2.2)]
  by_cases c1 : 1 ≤ sb
  · by_cases c2 : sb ≤ 32768
    · by_cases c3 : -1 ≤ by_
      · by_cases c4 : by_ ≤ 1073741824
        · by_cases c5 : -1 ≤ ag
          · by_cases c6 : ag ≤ 1073741824
            · obtain rfl : X = G := HT.out (by omega)
              go_enter Try.func26, Try.ntmps26
              go_upto_region 1 with fail
              rw [HW.out, HP.out]
              go_wp2_with (go_at_call 27; refine (RNum_is _ _ _ _ HG.out).mono ?_; rintro e w' ⟨rfl, rfl⟩)
              go_ret
              exact ⟨rfl, R0.out.out.2⟩
            · obtain rfl : X = false := HF.out (by omega)
              go_enter Try.func26, Try.ntmps26
              go_upto_region 1 with fail
              rw [HW.out, HP.out]
              go_wp2_with fail
              go_ret
              exact ⟨rfl, R0.out.out.2⟩
          · obtain rfl : X = false := HF.out (by omega)
            go_enter Try.func26, Try.ntmps26
            go_upto_region 1 with fail
            rw [HW.out, HP.out]
            go_wp2_with fail
            go_ret
            exact ⟨rfl, R0.out.out.2⟩
        · obtain rfl : X = false := HF.out (by omega)
          go_enter Try.func26, Try.ntmps26
          go_upto_region 1 with fail
          rw [HW.out, HP.out]
          go_wp2_with fail
          go_ret
          exact ⟨rfl, R0.out.out.2⟩
      · obtain rfl : X = false := HF.out (by omega)
        go_enter Try.func26, Try.ntmps26
        go_upto_region 1 with fail
        rw [HW.out, HP.out]
        go_wp2_with fail
        go_ret
        exact ⟨rfl, R0.out.out.2⟩
    · obtain rfl : X = false := HF.out (by omega)
      go_enter Try.func26, Try.ntmps26
      go_upto_region 1 with fail
      rw [HW.out, HP.out]
      go_wp2_with fail
      go_ret
      exact ⟨rfl, R0.out.out.2⟩
  · obtain rfl : X = false := HF.out (by omega)
    go_enter Try.func26, Try.ntmps26
    go_upto_region 1 with fail
    rw [HW.out, HP.out]
    go_wp2_with fail
    go_ret
    exact ⟨rfl, R0.out.out.2⟩
end Go.Proofs.Ythdefnfpjbpbkaa.Kpd
