/- Texts of the proof, part 9: RcRBytes, RcRBytesIs, RcClone, SgTakeSnoc. -/
import Derived.Deep.CutRange
import Derived.Test.YtgadgmcabjnjjaaShelf
import Derived.Test.YtgadgmcabjnjjaaW08
/- The document's own answer: a record's bytes. -/
namespace Go.Proofs.Ytgadgmcabjnjjaa
open Go.RowKit Go.Lib Vbi Rcd Crc

/-- One byte in memory, as a string. -/
theorem conv_one {x : Nat} (F : Nat) (C : ByteArray) (hC : strOfNums [(F : Int)] = C) (W : World) (h : W.cell? ⟨x, 0, none⟩ = some (.int .u8 (F : Int))) : (convert 69 9 (.slice (some ⟨x, 0, none⟩) 1 1)).run Try.prog W = .ok (.string C) W := by
  rw [← hC]
  exact run_convert_bytes_arg _ 69 5 Try.underlying69 Try.underlying5 x 0 1 1 [(F : Int)] rfl (fun i hi => by
    obtain rfl : i = 0 := by simpa using hi
    exact h) 9 Try.underlying9
theorem RFixed_is (wd n : Nat) (S : ByteArray) (w : World) (hw : wd ≤ 4) (hn : n < 256 ^ wd) (hS : str (fx wd n) = S) :
    Calls Try.prog 37 #[.int .i64 (n : Int), .int .i64 (wd : Int)] w fun e w' => e = .returned (.string S) ∧ Below w.heap.size w w' := by
  rw [← str_fx] at hS
  rw [← hS]
  exact RFixed_ok n wd w hn hw

set_option maxRecDepth 100000 in
set_option maxHeartbeats 16000000 in
theorem RBytes_parts (o t : Nat) (ks bs : ByteArray) (q F : Nat) (gn : Bool) (A B C D H Z : ByteArray) (N : Nat) (w : World) (hq3 : q < 3) (hq : q + (if gn then 4 else 0) = F)
    (ho : o < 1099511627776) (ht : t < 1099511627777) (hk : ks.size ≤ 1024) (hb : bs.size ≤ 1024) (hA : str (fx 8 o) = A) (hB : str (fx 8 t) = B) (hC : strOfNums [(F : Int)] = C) (hD : str (fx 2 ks.size) = D)
    (hH : str (fx 2 (A ++ B ++ C ++ D ++ ks ++ bs).size) = H) (hN : sumN 0 (H ++ (A ++ B ++ C ++ D ++ ks ++ bs)).data.toList = N) (hZ : str (fx 4 N) = Z) :
    Calls Try.prog 24 #[.agg (rarr (o : Int) (t : Int) ks bs (q : Int) gn)] w fun e w' => e = .returned (.string (H ++ Z ++ (A ++ B ++ C ++ D ++ ks ++ bs))) ∧ Below w.heap.size w w' := by
  have hF : F < 8 := by rw [← hq]; split <;> omega
  have hAz : A.size = 8 := by rw [← hA, str_size, fx_len]
  have hBz : B.size = 8 := by rw [← hB, str_size, fx_len]
  have hCz : C.size = 1 := by rw [← hC, strOfNums_size]; rfl
  have hDz : D.size = 2 := by rw [← hD, str_size, fx_len]
  have hHz : H.size = 2 := by rw [← hH, str_size, fx_len]
  have hZz : Z.size = 4 := by rw [← hZ, str_size, fx_len]
  have hN32 : N < 4294967296 := by rw [← hN]; exact sum_lt _ _
  have hYz : (A ++ B ++ C ++ D ++ ks ++ bs).size ≤ 3000 := by simp only [ByteArray.size_append]; omega
  have HA := Lib.hid (fun W => RFixed8_is o A W (by omega) hA)
  have HB := Lib.hid (fun W => RFixed8_is t B W (by omega) hB)
  have HD := Lib.hid (fun W => RFixed_is 2 ks.size D W (by omega) (by omega) hD)
  have HH := Lib.hid (fun W => RFixed_is 2 (A ++ B ++ C ++ D ++ ks ++ bs).size H W (by omega) (by omega) hH)
  have HN := Lib.hid (fun W => RSum_is 0 (H ++ (A ++ B ++ C ++ D ++ ks ++ bs)) N W (by omega) (by rw [ByteArray.size_append]; omega) hN)
  have HZ := Lib.hid (fun W => RFixed_is 4 N Z W (by omega) (by omega) hZ)
  have n1 : ¬ 9223372036854775807 < A.size + B.size := by omega
  have n2 : ¬ 9223372036854775807 < A.size + B.size + C.size := by omega
  have n3 : ¬ 9223372036854775807 < A.size + B.size + C.size + D.size := by omega
  have n4 : ¬ 9223372036854775807 < A.size + B.size + C.size + D.size + ks.size := by omega
  have n5 : ¬ 9223372036854775807 < A.size + B.size + C.size + D.size + ks.size + bs.size := by omega
  have n6 : IntKind.u8.wrap (F : Int) = (F : Int) := by unfold IntKind.wrap; simp [IntKind.bits, IntKind.signed]; omega
  have R0 := Lib.hid (RBox.new w 51 (rarr (o : Int) (t : Int) ks bs (q : Int) gn))
  obtain ⟨W0, hW⟩ : ∃ W0, w.alloc (.cells (rarr (o : Int) (t : Int) ks bs (q : Int) gn) 51) = W0 := ⟨_, rfl⟩
  rw [hW] at R0
  unfold rarr at hW R0 ⊢
  have HW := Lib.hid hW
  clear hW hA hB hD hH hN hZ 
  go_enter Try.func24, Try.ntmps24
  go_upto_region 1 with fail
  rw [HW.out]
  clear HW
  generalize Value.agg _ = v1
  obtain ⟨g, hg⟩ : ∃ g, w.heap.size = g := ⟨_, rfl⟩
  rw [hg] at R0
  rw [hg]
  clear hg
  have d4 : W0.cell? ⟨g, 4, none⟩ = some (.int .i64 (q : Int)) := R0.out.cell 4
  by_cases hgn : gn = true
  · have d5 : W0.cell? ⟨g, 5, none⟩ = some (.bool true) := by rw [← hgn]; exact R0.out.cell 5
    have hFq : (q : Int) + 4 = (F : Int) := by rw [if_pos hgn] at hq; omega
    have HFq := Lib.hid hFq
    clear hq hgn hFq
    go_upto_region 4 with fail
    rw [HFq.out]
    clear HFq d4 d5
    go_cut [4] from 12 to 34 (fun s4 wx => s4 = .string (A ++ B ++ C ++ D ++ ks ++ bs) ∧ RBox w g #[.int .i64 (o : Int), .int .i64 (t : Int), .string ks, .string bs, .int .i64 (q : Int), .bool gn] wx)
    case first =>
      have hS0 := R0.out.drewN 1
      clear HH HN HZ R0
      refine wp_region_held_drew (S := fun W => RBox w g #[.int .i64 (o : Int), .int .i64 (t : Int), .string ks, .string bs, .int .i64 (q : Int), .bool gn] W) (by kernel_rfl) hS0 (fun hS => ?_)
      clear hS0
      generalize W0.drew = Wd at hS ⊢
      refine take_op 0 12 ?v1 rfl rfl (by kernel_rfl) (fun _ _ _ h => h) (by rfl) hS (fun w' hS' => ?hv1) ?hh1
      case hv1 => (go_simp; (try with_reducible rfl); (try omega))
      simp only [Act.put, List.setIfInBounds_toArray, List.set_cons_zero, List.set_cons_succ]
      refine take_op 1 13 ?v2 rfl rfl (by kernel_rfl) (fun _ _ _ h => h) (by rfl) hS (fun w' hS' => ?hv2) ?hh2
      case hv2 => (have d0 : w'.cell? ⟨g, 0, none⟩ = some (.int .i64 (o : Int)) := hS'.cell 0; go_simp; try with_reducible rfl)
      simp only [Act.put, List.setIfInBounds_toArray, List.set_cons_zero, List.set_cons_succ]
      refine take_op 3 15 ?v3 rfl rfl (by kernel_rfl) (fun _ _ _ h => h) (by rfl) hS (fun w' hS' => ?hv3) ?hh3
      case hv3 => (go_simp; (try with_reducible rfl); (try omega))
      simp only [Act.put, List.setIfInBounds_toArray, List.set_cons_zero, List.set_cons_succ]
      refine take_op 4 16 ?v4 rfl rfl (by kernel_rfl) (fun _ _ _ h => h) (by rfl) hS (fun w' hS' => ?hv4) ?hh4
      case hv4 => (have d1 : w'.cell? ⟨g, 1, none⟩ = some (.int .i64 (t : Int)) := hS'.cell 1; go_simp; try with_reducible rfl)
      simp only [Act.put, List.setIfInBounds_toArray, List.set_cons_zero, List.set_cons_succ]
      refine take_op 7 19 ?v5 rfl rfl (by kernel_rfl) (fun _ _ _ h => h) (by rfl) hS (fun w' hS' => ?hv5) ?hh5
      case hv5 => (go_simp; (try with_reducible rfl); (try omega))
      simp only [Act.put, List.setIfInBounds_toArray, List.set_cons_zero, List.set_cons_succ]
      refine take_op 8 20 (.int .u8 (F : Int)) rfl rfl (by kernel_rfl) (fun _ _ _ h => h) (by rfl) hS (fun w' hS' => ?hv6) ?hh6
      case hv6 => (go_simp; (try with_reducible rfl); (try omega))
      simp only [Act.put, List.setIfInBounds_toArray, List.set_cons_zero, List.set_cons_succ]
      refine take_op 12 24 ?v7 rfl rfl (by kernel_rfl) (fun _ _ _ h => h) (by rfl) hS (fun w' hS' => ?hv7) ?hh7
      case hv7 => (go_simp; (try with_reducible rfl); (try omega))
      simp only [Act.put, List.setIfInBounds_toArray, List.set_cons_zero, List.set_cons_succ]
      refine take_op 13 25 ?v8 rfl rfl (by kernel_rfl) (fun _ _ _ h => h) (by rfl) hS (fun w' hS' => ?hv8) ?hh8
      case hv8 => (have d2 : w'.cell? ⟨g, 2, none⟩ = some (.string ks) := hS'.cell 2; go_simp; try with_reducible rfl)
      simp only [Act.put, List.setIfInBounds_toArray, List.set_cons_zero, List.set_cons_succ]
      refine take_op 14 26 ?v9 rfl rfl (by kernel_rfl) (fun _ _ _ h => h) (by rfl) hS (fun w' hS' => ?hv9) ?hh9
      case hv9 => (go_simp; (try with_reducible rfl); (try omega))
      simp only [Act.put, List.setIfInBounds_toArray, List.set_cons_zero, List.set_cons_succ]
      refine take_op 17 29 ?v10 rfl rfl (by kernel_rfl) (fun _ _ _ h => h) (by rfl) hS (fun w' hS' => ?hv10) ?hh10
      case hv10 => (go_simp; (try with_reducible rfl); (try omega))
      simp only [Act.put, List.setIfInBounds_toArray, List.set_cons_zero, List.set_cons_succ]
      refine take_op 18 30 ?v11 rfl rfl (by kernel_rfl) (fun _ _ _ h => h) (by rfl) hS (fun w' hS' => ?hv11) ?hh11
      case hv11 => (have d2 : w'.cell? ⟨g, 2, none⟩ = some (.string ks) := hS'.cell 2; go_simp; try with_reducible rfl)
      simp only [Act.put, List.setIfInBounds_toArray, List.set_cons_zero, List.set_cons_succ]
      refine take_op 20 32 ?v12 rfl rfl (by kernel_rfl) (fun _ _ _ h => h) (by rfl) hS (fun w' hS' => ?hv12) ?hh12
      case hv12 => (go_simp; (try with_reducible rfl); (try omega))
      simp only [Act.put, List.setIfInBounds_toArray, List.set_cons_zero, List.set_cons_succ]
      refine take_op 21 33 ?v13 rfl rfl (by kernel_rfl) (fun _ _ _ h => h) (by rfl) hS (fun w' hS' => ?hv13) ?hh13
      case hv13 => (have d3 : w'.cell? ⟨g, 3, none⟩ = some (.string bs) := hS'.cell 3; go_simp; try with_reducible rfl)
      simp only [Act.put, List.setIfInBounds_toArray, List.set_cons_zero, List.set_cons_succ]
      refine two_ops 2 9 rfl rfl (by kernel_rfl) (by rfl) (by rfl) (wp_call 14 37 #[.int .i64 (o : Int), .int .i64 8] (.string A) (fun W => Below Wd.heap.size Wd W) rfl (by go_simp) (HA.out Wd) (fun Wdc hb => ⟨hS.below hb, ?_⟩)) (wp_made 21 (.slice (some ⟨Wd.heap.size, 0, none⟩) 1 1) rfl (w' := Wd.alloc (.cells #[.int .u8 (F : Int)] 5)) (by go_simp; try rfl) ⟨hS.below ((Below.refl _ _).alloc (Nat.le_refl _) _), ?_⟩)
      · simp only [Act.put, List.setIfInBounds_toArray, List.set_cons_zero, List.set_cons_succ]
        have hS := hS.below hb
        clear hb
        refine two_ops 5 9 rfl rfl (by kernel_rfl) (by rfl) (by rfl) (wp_call 17 37 #[.int .i64 (t : Int), .int .i64 8] (.string B) (fun W => Below Wdc.heap.size Wdc W) rfl (by go_simp) (HB.out Wdc) (fun Wdcc hb => ⟨hS.below hb, ?_⟩)) (wp_made 21 (.slice (some ⟨Wdc.heap.size, 0, none⟩) 1 1) rfl (w' := Wdc.alloc (.cells #[.int .u8 (F : Int)] 5)) (by go_simp; try rfl) ⟨hS.below ((Below.refl _ _).alloc (Nat.le_refl _) _), ?_⟩)
        · simp only [Act.put, List.setIfInBounds_toArray, List.set_cons_zero, List.set_cons_succ]
          have hS := hS.below hb
          clear hb
          refine take_op 6 18 (.string (A ++ B)) rfl rfl (by kernel_rfl) (fun _ _ _ h => h) (by rfl) hS (fun w' hS' => ?hv14) ?hh14
          case hv14 => (go_simp; (try with_reducible rfl); (try omega))
          simp only [Act.put, List.setIfInBounds_toArray, List.set_cons_zero, List.set_cons_succ]
          refine two_ops 9 15 rfl rfl (by kernel_rfl) (by rfl) (by rfl) (wp_made 21 (.slice (some ⟨Wdcc.heap.size, 0, none⟩) 1 1) rfl (w' := Wdcc.alloc (.cells #[.int .u8 (F : Int)] 5)) (by go_simp; try rfl) ⟨hS.below ((Below.refl _ _).alloc (Nat.le_refl _) _), ?_⟩) (wp_call 27 37 #[.int .i64 (ks.size : Int), .int .i64 2] (.string D) (fun W => Below Wdcc.heap.size Wdcc W) rfl (by go_simp) (HD.out Wdcc) (fun Wdccc hb => ⟨hS.below hb, ?_⟩))
          · simp only [Act.put, List.setIfInBounds_toArray, List.set_cons_zero, List.set_cons_succ]
            have hx : Wdcc.heap.size < (Wdcc.alloc (.cells #[.int .u8 (F : Int)] 5)).heap.size := by simp
            have hS : RBox w g #[.int .i64 (o : Int), .int .i64 (t : Int), .string ks, .string bs, .int .i64 (q : Int), .bool gn] (Wdcc.alloc (.cells #[.int .u8 (F : Int)] 5)) ∧ (Wdcc.alloc (.cells #[.int .u8 (F : Int)] 5)).cell? ⟨Wdcc.heap.size, 0, none⟩ = some (.int .u8 (F : Int)) := ⟨hS.below ((Below.refl _ _).alloc (Nat.le_refl _) _), by rw [cell_of_row (Wdcc.alloc _) Wdcc.heap.size 0 _ _ (0, 0) (heap_alloc_new Wdcc _)]; rfl⟩
            have hcv := fun W h => conv_one (x := Wdcc.heap.size) F C hC W h
            generalize Wdcc.alloc _ = Wdccm at hx hS ⊢
            generalize Wdcc.heap.size = x at hx hS hcv ⊢
            refine held_stronger (S' := fun W => RBox w g #[.int .i64 (o : Int), .int .i64 (t : Int), .string ks, .string bs, .int .i64 (q : Int), .bool gn] W ∧ W.cell? ⟨x, 0, none⟩ = some (.int .u8 (F : Int))) (fun _ h => h.1) _ _ _ _ ?_
            have hcv := fun W (h : RBox w g #[.int .i64 (o : Int), .int .i64 (t : Int), .string ks, .string bs, .int .i64 (q : Int), .bool gn] W ∧ W.cell? ⟨x, 0, none⟩ = some (.int .u8 (F : Int))) => hcv W h.2
            refine take_op 10 22 (.string C) rfl rfl (by kernel_rfl) (fun _ _ _ h => h) (by rfl) hS (fun w' hS' => ?hv15) ?hh15
            case hv15 => (have hc := hcv w' hS'; go_simp; try with_reducible rfl)
            simp only [Act.put, List.setIfInBounds_toArray, List.set_cons_zero, List.set_cons_succ]
            refine take_op 11 23 (.string (A ++ B ++ C)) rfl rfl (by kernel_rfl) (fun _ _ _ h => h) (by rfl) hS (fun w' hS' => ?hv16) ?hh16
            case hv16 => (go_simp; (try with_reducible rfl); (try omega))
            simp only [Act.put, List.setIfInBounds_toArray, List.set_cons_zero, List.set_cons_succ]
            refine only_op 15 rfl (by kernel_rfl) (by rfl) (wp_call 27 37 #[.int .i64 (ks.size : Int), .int .i64 2] (.string D) (fun W => Below Wdccm.heap.size Wdccm W) rfl (by go_simp) (HD.out Wdccm) (fun Wdccmc hb => ⟨⟨hS.1.below hb, (hb.cell (p := ⟨x, 0, none⟩) hx).trans hS.2⟩, ?_⟩))
            simp only [Act.put, List.setIfInBounds_toArray, List.set_cons_zero, List.set_cons_succ]
            have hS : RBox w g #[.int .i64 (o : Int), .int .i64 (t : Int), .string ks, .string bs, .int .i64 (q : Int), .bool gn] Wdccmc ∧ Wdccmc.cell? ⟨x, 0, none⟩ = some (.int .u8 (F : Int)) := ⟨hS.1.below hb, (hb.cell (p := ⟨x, 0, none⟩) hx).trans hS.2⟩
            have hx := Nat.lt_of_lt_of_le hx hb.size
            clear hb
            refine take_op 16 28 (.string (A ++ B ++ C ++ D)) rfl rfl (by kernel_rfl) (fun _ _ _ h => h) (by rfl) hS (fun w' hS' => ?hv17) ?hh17
            case hv17 => (go_simp; (try with_reducible rfl); (try omega))
            simp only [Act.put, List.setIfInBounds_toArray, List.set_cons_zero, List.set_cons_succ]
            refine take_op 19 31 (.string (A ++ B ++ C ++ D ++ ks)) rfl rfl (by kernel_rfl) (fun _ _ _ h => h) (by rfl) hS (fun w' hS' => ?hv18) ?hh18
            case hv18 => (go_simp; (try with_reducible rfl); (try omega))
            simp only [Act.put, List.setIfInBounds_toArray, List.set_cons_zero, List.set_cons_succ]
            refine take_op 22 34 (.string (A ++ B ++ C ++ D ++ ks ++ bs)) rfl rfl (by kernel_rfl) (fun _ _ _ h => h) (by rfl) hS (fun w' hS' => ?hv19) ?hh19
            case hv19 => (go_simp; (try with_reducible rfl); (try omega))
            simp only [Act.put, List.setIfInBounds_toArray, List.set_cons_zero, List.set_cons_succ]
            refine take_op 23 4 (.string (A ++ B ++ C ++ D ++ ks ++ bs)) rfl rfl (by kernel_rfl) (fun _ _ _ h => h) (by rfl) hS (fun w' hS' => ?hv20) ?hh20
            case hv20 => (go_simp; (try with_reducible rfl); (try omega))
            simp only [Act.put, List.setIfInBounds_toArray, List.set_cons_zero, List.set_cons_succ]
            refine wpAnyH_done (by kernel_rfl) ?_ _
            go_wp2_with fail
            go_meet
            exact ⟨rfl, hS.1⟩
          · simp only [Act.put, List.setIfInBounds_toArray, List.set_cons_zero, List.set_cons_succ]
            have hS := hS.below hb
            clear hb
            refine only_op 9 rfl (by kernel_rfl) (by rfl) (wp_made 21 (.slice (some ⟨Wdccc.heap.size, 0, none⟩) 1 1) rfl (w' := Wdccc.alloc (.cells #[.int .u8 (F : Int)] 5)) (by go_simp; try rfl) ⟨hS.below ((Below.refl _ _).alloc (Nat.le_refl _) _), ?_⟩)
            simp only [Act.put, List.setIfInBounds_toArray, List.set_cons_zero, List.set_cons_succ]
            have hx : Wdccc.heap.size < (Wdccc.alloc (.cells #[.int .u8 (F : Int)] 5)).heap.size := by simp
            have hS : RBox w g #[.int .i64 (o : Int), .int .i64 (t : Int), .string ks, .string bs, .int .i64 (q : Int), .bool gn] (Wdccc.alloc (.cells #[.int .u8 (F : Int)] 5)) ∧ (Wdccc.alloc (.cells #[.int .u8 (F : Int)] 5)).cell? ⟨Wdccc.heap.size, 0, none⟩ = some (.int .u8 (F : Int)) := ⟨hS.below ((Below.refl _ _).alloc (Nat.le_refl _) _), by rw [cell_of_row (Wdccc.alloc _) Wdccc.heap.size 0 _ _ (0, 0) (heap_alloc_new Wdccc _)]; rfl⟩
            have hcv := fun W h => conv_one (x := Wdccc.heap.size) F C hC W h
            generalize Wdccc.alloc _ = Wdcccm at hx hS ⊢
            generalize Wdccc.heap.size = x at hx hS hcv ⊢
            refine held_stronger (S' := fun W => RBox w g #[.int .i64 (o : Int), .int .i64 (t : Int), .string ks, .string bs, .int .i64 (q : Int), .bool gn] W ∧ W.cell? ⟨x, 0, none⟩ = some (.int .u8 (F : Int))) (fun _ h => h.1) _ _ _ _ ?_
            have hcv := fun W (h : RBox w g #[.int .i64 (o : Int), .int .i64 (t : Int), .string ks, .string bs, .int .i64 (q : Int), .bool gn] W ∧ W.cell? ⟨x, 0, none⟩ = some (.int .u8 (F : Int))) => hcv W h.2
            refine take_op 10 22 (.string C) rfl rfl (by kernel_rfl) (fun _ _ _ h => h) (by rfl) hS (fun w' hS' => ?hv21) ?hh21
            case hv21 => (have hc := hcv w' hS'; go_simp; try with_reducible rfl)
            simp only [Act.put, List.setIfInBounds_toArray, List.set_cons_zero, List.set_cons_succ]
            refine take_op 11 23 (.string (A ++ B ++ C)) rfl rfl (by kernel_rfl) (fun _ _ _ h => h) (by rfl) hS (fun w' hS' => ?hv22) ?hh22
            case hv22 => (go_simp; (try with_reducible rfl); (try omega))
            simp only [Act.put, List.setIfInBounds_toArray, List.set_cons_zero, List.set_cons_succ]
            refine take_op 16 28 (.string (A ++ B ++ C ++ D)) rfl rfl (by kernel_rfl) (fun _ _ _ h => h) (by rfl) hS (fun w' hS' => ?hv23) ?hh23
            case hv23 => (go_simp; (try with_reducible rfl); (try omega))
            simp only [Act.put, List.setIfInBounds_toArray, List.set_cons_zero, List.set_cons_succ]
            refine take_op 19 31 (.string (A ++ B ++ C ++ D ++ ks)) rfl rfl (by kernel_rfl) (fun _ _ _ h => h) (by rfl) hS (fun w' hS' => ?hv24) ?hh24
            case hv24 => (go_simp; (try with_reducible rfl); (try omega))
            simp only [Act.put, List.setIfInBounds_toArray, List.set_cons_zero, List.set_cons_succ]
            refine take_op 22 34 (.string (A ++ B ++ C ++ D ++ ks ++ bs)) rfl rfl (by kernel_rfl) (fun _ _ _ h => h) (by rfl) hS (fun w' hS' => ?hv25) ?hh25
            case hv25 => (go_simp; (try with_reducible rfl); (try omega))
            simp only [Act.put, List.setIfInBounds_toArray, List.set_cons_zero, List.set_cons_succ]
            refine take_op 23 4 (.string (A ++ B ++ C ++ D ++ ks ++ bs)) rfl rfl (by kernel_rfl) (fun _ _ _ h => h) (by rfl) hS (fun w' hS' => ?hv26) ?hh26
            case hv26 => (go_simp; (try with_reducible rfl); (try omega))
            simp only [Act.put, List.setIfInBounds_toArray, List.set_cons_zero, List.set_cons_succ]
            refine wpAnyH_done (by kernel_rfl) ?_ _
            go_wp2_with fail
            go_meet
            exact ⟨rfl, hS.1⟩
        · simp only [Act.put, List.setIfInBounds_toArray, List.set_cons_zero, List.set_cons_succ]
          have hx : Wdc.heap.size < (Wdc.alloc (.cells #[.int .u8 (F : Int)] 5)).heap.size := by simp
          have hS : RBox w g #[.int .i64 (o : Int), .int .i64 (t : Int), .string ks, .string bs, .int .i64 (q : Int), .bool gn] (Wdc.alloc (.cells #[.int .u8 (F : Int)] 5)) ∧ (Wdc.alloc (.cells #[.int .u8 (F : Int)] 5)).cell? ⟨Wdc.heap.size, 0, none⟩ = some (.int .u8 (F : Int)) := ⟨hS.below ((Below.refl _ _).alloc (Nat.le_refl _) _), by rw [cell_of_row (Wdc.alloc _) Wdc.heap.size 0 _ _ (0, 0) (heap_alloc_new Wdc _)]; rfl⟩
          have hcv := fun W h => conv_one (x := Wdc.heap.size) F C hC W h
          generalize Wdc.alloc _ = Wdcm at hx hS ⊢
          generalize Wdc.heap.size = x at hx hS hcv ⊢
          refine held_stronger (S' := fun W => RBox w g #[.int .i64 (o : Int), .int .i64 (t : Int), .string ks, .string bs, .int .i64 (q : Int), .bool gn] W ∧ W.cell? ⟨x, 0, none⟩ = some (.int .u8 (F : Int))) (fun _ h => h.1) _ _ _ _ ?_
          have hcv := fun W (h : RBox w g #[.int .i64 (o : Int), .int .i64 (t : Int), .string ks, .string bs, .int .i64 (q : Int), .bool gn] W ∧ W.cell? ⟨x, 0, none⟩ = some (.int .u8 (F : Int))) => hcv W h.2
          refine take_op 10 22 (.string C) rfl rfl (by kernel_rfl) (fun _ _ _ h => h) (by rfl) hS (fun w' hS' => ?hv27) ?hh27
          case hv27 => (have hc := hcv w' hS'; go_simp; try with_reducible rfl)
          simp only [Act.put, List.setIfInBounds_toArray, List.set_cons_zero, List.set_cons_succ]
          refine only_op 5 rfl (by kernel_rfl) (by rfl) (wp_call 17 37 #[.int .i64 (t : Int), .int .i64 8] (.string B) (fun W => Below Wdcm.heap.size Wdcm W) rfl (by go_simp) (HB.out Wdcm) (fun Wdcmc hb => ⟨⟨hS.1.below hb, (hb.cell (p := ⟨x, 0, none⟩) hx).trans hS.2⟩, ?_⟩))
          simp only [Act.put, List.setIfInBounds_toArray, List.set_cons_zero, List.set_cons_succ]
          have hS : RBox w g #[.int .i64 (o : Int), .int .i64 (t : Int), .string ks, .string bs, .int .i64 (q : Int), .bool gn] Wdcmc ∧ Wdcmc.cell? ⟨x, 0, none⟩ = some (.int .u8 (F : Int)) := ⟨hS.1.below hb, (hb.cell (p := ⟨x, 0, none⟩) hx).trans hS.2⟩
          have hx := Nat.lt_of_lt_of_le hx hb.size
          clear hb
          refine take_op 6 18 (.string (A ++ B)) rfl rfl (by kernel_rfl) (fun _ _ _ h => h) (by rfl) hS (fun w' hS' => ?hv28) ?hh28
          case hv28 => (go_simp; (try with_reducible rfl); (try omega))
          simp only [Act.put, List.setIfInBounds_toArray, List.set_cons_zero, List.set_cons_succ]
          refine take_op 11 23 (.string (A ++ B ++ C)) rfl rfl (by kernel_rfl) (fun _ _ _ h => h) (by rfl) hS (fun w' hS' => ?hv29) ?hh29
          case hv29 => (go_simp; (try with_reducible rfl); (try omega))
          simp only [Act.put, List.setIfInBounds_toArray, List.set_cons_zero, List.set_cons_succ]
          refine only_op 15 rfl (by kernel_rfl) (by rfl) (wp_call 27 37 #[.int .i64 (ks.size : Int), .int .i64 2] (.string D) (fun W => Below Wdcmc.heap.size Wdcmc W) rfl (by go_simp) (HD.out Wdcmc) (fun Wdcmcc hb => ⟨⟨hS.1.below hb, (hb.cell (p := ⟨x, 0, none⟩) hx).trans hS.2⟩, ?_⟩))
          simp only [Act.put, List.setIfInBounds_toArray, List.set_cons_zero, List.set_cons_succ]
          have hS : RBox w g #[.int .i64 (o : Int), .int .i64 (t : Int), .string ks, .string bs, .int .i64 (q : Int), .bool gn] Wdcmcc ∧ Wdcmcc.cell? ⟨x, 0, none⟩ = some (.int .u8 (F : Int)) := ⟨hS.1.below hb, (hb.cell (p := ⟨x, 0, none⟩) hx).trans hS.2⟩
          have hx := Nat.lt_of_lt_of_le hx hb.size
          clear hb
          refine take_op 16 28 (.string (A ++ B ++ C ++ D)) rfl rfl (by kernel_rfl) (fun _ _ _ h => h) (by rfl) hS (fun w' hS' => ?hv30) ?hh30
          case hv30 => (go_simp; (try with_reducible rfl); (try omega))
          simp only [Act.put, List.setIfInBounds_toArray, List.set_cons_zero, List.set_cons_succ]
          refine take_op 19 31 (.string (A ++ B ++ C ++ D ++ ks)) rfl rfl (by kernel_rfl) (fun _ _ _ h => h) (by rfl) hS (fun w' hS' => ?hv31) ?hh31
          case hv31 => (go_simp; (try with_reducible rfl); (try omega))
          simp only [Act.put, List.setIfInBounds_toArray, List.set_cons_zero, List.set_cons_succ]
          refine take_op 22 34 (.string (A ++ B ++ C ++ D ++ ks ++ bs)) rfl rfl (by kernel_rfl) (fun _ _ _ h => h) (by rfl) hS (fun w' hS' => ?hv32) ?hh32
          case hv32 => (go_simp; (try with_reducible rfl); (try omega))
          simp only [Act.put, List.setIfInBounds_toArray, List.set_cons_zero, List.set_cons_succ]
          refine take_op 23 4 (.string (A ++ B ++ C ++ D ++ ks ++ bs)) rfl rfl (by kernel_rfl) (fun _ _ _ h => h) (by rfl) hS (fun w' hS' => ?hv33) ?hh33
          case hv33 => (go_simp; (try with_reducible rfl); (try omega))
          simp only [Act.put, List.setIfInBounds_toArray, List.set_cons_zero, List.set_cons_succ]
          refine wpAnyH_done (by kernel_rfl) ?_ _
          go_wp2_with fail
          go_meet
          exact ⟨rfl, hS.1⟩
      · simp only [Act.put, List.setIfInBounds_toArray, List.set_cons_zero, List.set_cons_succ]
        have hx : Wd.heap.size < (Wd.alloc (.cells #[.int .u8 (F : Int)] 5)).heap.size := by simp
        have hS : RBox w g #[.int .i64 (o : Int), .int .i64 (t : Int), .string ks, .string bs, .int .i64 (q : Int), .bool gn] (Wd.alloc (.cells #[.int .u8 (F : Int)] 5)) ∧ (Wd.alloc (.cells #[.int .u8 (F : Int)] 5)).cell? ⟨Wd.heap.size, 0, none⟩ = some (.int .u8 (F : Int)) := ⟨hS.below ((Below.refl _ _).alloc (Nat.le_refl _) _), by rw [cell_of_row (Wd.alloc _) Wd.heap.size 0 _ _ (0, 0) (heap_alloc_new Wd _)]; rfl⟩
        have hcv := fun W h => conv_one (x := Wd.heap.size) F C hC W h
        generalize Wd.alloc _ = Wdm at hx hS ⊢
        generalize Wd.heap.size = x at hx hS hcv ⊢
        refine held_stronger (S' := fun W => RBox w g #[.int .i64 (o : Int), .int .i64 (t : Int), .string ks, .string bs, .int .i64 (q : Int), .bool gn] W ∧ W.cell? ⟨x, 0, none⟩ = some (.int .u8 (F : Int))) (fun _ h => h.1) _ _ _ _ ?_
        have hcv := fun W (h : RBox w g #[.int .i64 (o : Int), .int .i64 (t : Int), .string ks, .string bs, .int .i64 (q : Int), .bool gn] W ∧ W.cell? ⟨x, 0, none⟩ = some (.int .u8 (F : Int))) => hcv W h.2
        refine take_op 10 22 (.string C) rfl rfl (by kernel_rfl) (fun _ _ _ h => h) (by rfl) hS (fun w' hS' => ?hv34) ?hh34
        case hv34 => (have hc := hcv w' hS'; go_simp; try with_reducible rfl)
        simp only [Act.put, List.setIfInBounds_toArray, List.set_cons_zero, List.set_cons_succ]
        refine only_op 2 rfl (by kernel_rfl) (by rfl) (wp_call 14 37 #[.int .i64 (o : Int), .int .i64 8] (.string A) (fun W => Below Wdm.heap.size Wdm W) rfl (by go_simp) (HA.out Wdm) (fun Wdmc hb => ⟨⟨hS.1.below hb, (hb.cell (p := ⟨x, 0, none⟩) hx).trans hS.2⟩, ?_⟩))
        simp only [Act.put, List.setIfInBounds_toArray, List.set_cons_zero, List.set_cons_succ]
        have hS : RBox w g #[.int .i64 (o : Int), .int .i64 (t : Int), .string ks, .string bs, .int .i64 (q : Int), .bool gn] Wdmc ∧ Wdmc.cell? ⟨x, 0, none⟩ = some (.int .u8 (F : Int)) := ⟨hS.1.below hb, (hb.cell (p := ⟨x, 0, none⟩) hx).trans hS.2⟩
        have hx := Nat.lt_of_lt_of_le hx hb.size
        clear hb
        refine only_op 5 rfl (by kernel_rfl) (by rfl) (wp_call 17 37 #[.int .i64 (t : Int), .int .i64 8] (.string B) (fun W => Below Wdmc.heap.size Wdmc W) rfl (by go_simp) (HB.out Wdmc) (fun Wdmcc hb => ⟨⟨hS.1.below hb, (hb.cell (p := ⟨x, 0, none⟩) hx).trans hS.2⟩, ?_⟩))
        simp only [Act.put, List.setIfInBounds_toArray, List.set_cons_zero, List.set_cons_succ]
        have hS : RBox w g #[.int .i64 (o : Int), .int .i64 (t : Int), .string ks, .string bs, .int .i64 (q : Int), .bool gn] Wdmcc ∧ Wdmcc.cell? ⟨x, 0, none⟩ = some (.int .u8 (F : Int)) := ⟨hS.1.below hb, (hb.cell (p := ⟨x, 0, none⟩) hx).trans hS.2⟩
        have hx := Nat.lt_of_lt_of_le hx hb.size
        clear hb
        refine take_op 6 18 (.string (A ++ B)) rfl rfl (by kernel_rfl) (fun _ _ _ h => h) (by rfl) hS (fun w' hS' => ?hv35) ?hh35
        case hv35 => (go_simp; (try with_reducible rfl); (try omega))
        simp only [Act.put, List.setIfInBounds_toArray, List.set_cons_zero, List.set_cons_succ]
        refine take_op 11 23 (.string (A ++ B ++ C)) rfl rfl (by kernel_rfl) (fun _ _ _ h => h) (by rfl) hS (fun w' hS' => ?hv36) ?hh36
        case hv36 => (go_simp; (try with_reducible rfl); (try omega))
        simp only [Act.put, List.setIfInBounds_toArray, List.set_cons_zero, List.set_cons_succ]
        refine only_op 15 rfl (by kernel_rfl) (by rfl) (wp_call 27 37 #[.int .i64 (ks.size : Int), .int .i64 2] (.string D) (fun W => Below Wdmcc.heap.size Wdmcc W) rfl (by go_simp) (HD.out Wdmcc) (fun Wdmccc hb => ⟨⟨hS.1.below hb, (hb.cell (p := ⟨x, 0, none⟩) hx).trans hS.2⟩, ?_⟩))
        simp only [Act.put, List.setIfInBounds_toArray, List.set_cons_zero, List.set_cons_succ]
        have hS : RBox w g #[.int .i64 (o : Int), .int .i64 (t : Int), .string ks, .string bs, .int .i64 (q : Int), .bool gn] Wdmccc ∧ Wdmccc.cell? ⟨x, 0, none⟩ = some (.int .u8 (F : Int)) := ⟨hS.1.below hb, (hb.cell (p := ⟨x, 0, none⟩) hx).trans hS.2⟩
        have hx := Nat.lt_of_lt_of_le hx hb.size
        clear hb
        refine take_op 16 28 (.string (A ++ B ++ C ++ D)) rfl rfl (by kernel_rfl) (fun _ _ _ h => h) (by rfl) hS (fun w' hS' => ?hv37) ?hh37
        case hv37 => (go_simp; (try with_reducible rfl); (try omega))
        simp only [Act.put, List.setIfInBounds_toArray, List.set_cons_zero, List.set_cons_succ]
        refine take_op 19 31 (.string (A ++ B ++ C ++ D ++ ks)) rfl rfl (by kernel_rfl) (fun _ _ _ h => h) (by rfl) hS (fun w' hS' => ?hv38) ?hh38
        case hv38 => (go_simp; (try with_reducible rfl); (try omega))
        simp only [Act.put, List.setIfInBounds_toArray, List.set_cons_zero, List.set_cons_succ]
        refine take_op 22 34 (.string (A ++ B ++ C ++ D ++ ks ++ bs)) rfl rfl (by kernel_rfl) (fun _ _ _ h => h) (by rfl) hS (fun w' hS' => ?hv39) ?hh39
        case hv39 => (go_simp; (try with_reducible rfl); (try omega))
        simp only [Act.put, List.setIfInBounds_toArray, List.set_cons_zero, List.set_cons_succ]
        refine take_op 23 4 (.string (A ++ B ++ C ++ D ++ ks ++ bs)) rfl rfl (by kernel_rfl) (fun _ _ _ h => h) (by rfl) hS (fun w' hS' => ?hv40) ?hh40
        case hv40 => (go_simp; (try with_reducible rfl); (try omega))
        simp only [Act.put, List.setIfInBounds_toArray, List.set_cons_zero, List.set_cons_succ]
        refine wpAnyH_done (by kernel_rfl) ?_ _
        go_wp2_with fail
        go_meet
        exact ⟨rfl, hS.1⟩
    case rest =>
      obtain ⟨rfl, hbx⟩ := hcut
      have R1 := Lib.hid hbx
      clear hbx R0 HA HB HD
      obtain ⟨Y, hY⟩ : ∃ Y, A ++ B ++ C ++ D ++ ks ++ bs = Y := ⟨_, rfl⟩
      rw [hY] at HH HN hYz ⊢
      have HY := Lib.hid hY
      clear hY
      clear n1 n2 n3 n4 n5 n6
      go_wp2_with fail
      refine (HH.out _).mono ?_
      rintro e w2 ⟨rfl, hb2⟩
      have R2 := Lib.hid (R1.out.below hb2)
      clear hb2 R1 HH
      go_wp2_with fail
      refine (HN.out _).mono ?_
      rintro e w3 ⟨rfl, rfl⟩
      go_wp2_with fail
      refine (HZ.out _).mono ?_
      rintro e w3 ⟨rfl, hb3⟩
      have R3 := Lib.hid (R2.out.below hb3)
      clear hb3 R2 HZ HN
      go_wp2_with fail
      go_ret
      exact ⟨by rw [HY.out]; rfl, R3.out.out.2⟩
  · have d5 : W0.cell? ⟨g, 5, none⟩ = some (.bool false) := by rw [← Bool.eq_false_iff.2 hgn]; exact R0.out.cell 5
    have hFq : (q : Int) = (F : Int) := by rw [if_neg hgn] at hq; omega
    have HFq := Lib.hid hFq
    clear hq hgn hFq
    go_upto_region 4 with fail
    rw [HFq.out]
    clear HFq d4 d5
    go_cut [4] from 12 to 34 (fun s4 wx => s4 = .string (A ++ B ++ C ++ D ++ ks ++ bs) ∧ RBox w g #[.int .i64 (o : Int), .int .i64 (t : Int), .string ks, .string bs, .int .i64 (q : Int), .bool gn] wx)
    case first =>
      have hS0 := R0.out.drewN 1
      clear HH HN HZ R0
      refine wp_region_held_drew (S := fun W => RBox w g #[.int .i64 (o : Int), .int .i64 (t : Int), .string ks, .string bs, .int .i64 (q : Int), .bool gn] W) (by kernel_rfl) hS0 (fun hS => ?_)
      clear hS0
      generalize W0.drew = Wd at hS ⊢
      refine take_op 0 12 ?v41 rfl rfl (by kernel_rfl) (fun _ _ _ h => h) (by rfl) hS (fun w' hS' => ?hv41) ?hh41
      case hv41 => (go_simp; (try with_reducible rfl); (try omega))
      simp only [Act.put, List.setIfInBounds_toArray, List.set_cons_zero, List.set_cons_succ]
      refine take_op 1 13 ?v42 rfl rfl (by kernel_rfl) (fun _ _ _ h => h) (by rfl) hS (fun w' hS' => ?hv42) ?hh42
      case hv42 => (have d0 : w'.cell? ⟨g, 0, none⟩ = some (.int .i64 (o : Int)) := hS'.cell 0; go_simp; try with_reducible rfl)
      simp only [Act.put, List.setIfInBounds_toArray, List.set_cons_zero, List.set_cons_succ]
      refine take_op 3 15 ?v43 rfl rfl (by kernel_rfl) (fun _ _ _ h => h) (by rfl) hS (fun w' hS' => ?hv43) ?hh43
      case hv43 => (go_simp; (try with_reducible rfl); (try omega))
      simp only [Act.put, List.setIfInBounds_toArray, List.set_cons_zero, List.set_cons_succ]
      refine take_op 4 16 ?v44 rfl rfl (by kernel_rfl) (fun _ _ _ h => h) (by rfl) hS (fun w' hS' => ?hv44) ?hh44
      case hv44 => (have d1 : w'.cell? ⟨g, 1, none⟩ = some (.int .i64 (t : Int)) := hS'.cell 1; go_simp; try with_reducible rfl)
      simp only [Act.put, List.setIfInBounds_toArray, List.set_cons_zero, List.set_cons_succ]
      refine take_op 7 19 ?v45 rfl rfl (by kernel_rfl) (fun _ _ _ h => h) (by rfl) hS (fun w' hS' => ?hv45) ?hh45
      case hv45 => (go_simp; (try with_reducible rfl); (try omega))
      simp only [Act.put, List.setIfInBounds_toArray, List.set_cons_zero, List.set_cons_succ]
      refine take_op 8 20 (.int .u8 (F : Int)) rfl rfl (by kernel_rfl) (fun _ _ _ h => h) (by rfl) hS (fun w' hS' => ?hv46) ?hh46
      case hv46 => (go_simp; (try with_reducible rfl); (try omega))
      simp only [Act.put, List.setIfInBounds_toArray, List.set_cons_zero, List.set_cons_succ]
      refine take_op 12 24 ?v47 rfl rfl (by kernel_rfl) (fun _ _ _ h => h) (by rfl) hS (fun w' hS' => ?hv47) ?hh47
      case hv47 => (go_simp; (try with_reducible rfl); (try omega))
      simp only [Act.put, List.setIfInBounds_toArray, List.set_cons_zero, List.set_cons_succ]
      refine take_op 13 25 ?v48 rfl rfl (by kernel_rfl) (fun _ _ _ h => h) (by rfl) hS (fun w' hS' => ?hv48) ?hh48
      case hv48 => (have d2 : w'.cell? ⟨g, 2, none⟩ = some (.string ks) := hS'.cell 2; go_simp; try with_reducible rfl)
      simp only [Act.put, List.setIfInBounds_toArray, List.set_cons_zero, List.set_cons_succ]
      refine take_op 14 26 ?v49 rfl rfl (by kernel_rfl) (fun _ _ _ h => h) (by rfl) hS (fun w' hS' => ?hv49) ?hh49
      case hv49 => (go_simp; (try with_reducible rfl); (try omega))
      simp only [Act.put, List.setIfInBounds_toArray, List.set_cons_zero, List.set_cons_succ]
      refine take_op 17 29 ?v50 rfl rfl (by kernel_rfl) (fun _ _ _ h => h) (by rfl) hS (fun w' hS' => ?hv50) ?hh50
      case hv50 => (go_simp; (try with_reducible rfl); (try omega))
      simp only [Act.put, List.setIfInBounds_toArray, List.set_cons_zero, List.set_cons_succ]
      refine take_op 18 30 ?v51 rfl rfl (by kernel_rfl) (fun _ _ _ h => h) (by rfl) hS (fun w' hS' => ?hv51) ?hh51
      case hv51 => (have d2 : w'.cell? ⟨g, 2, none⟩ = some (.string ks) := hS'.cell 2; go_simp; try with_reducible rfl)
      simp only [Act.put, List.setIfInBounds_toArray, List.set_cons_zero, List.set_cons_succ]
      refine take_op 20 32 ?v52 rfl rfl (by kernel_rfl) (fun _ _ _ h => h) (by rfl) hS (fun w' hS' => ?hv52) ?hh52
      case hv52 => (go_simp; (try with_reducible rfl); (try omega))
      simp only [Act.put, List.setIfInBounds_toArray, List.set_cons_zero, List.set_cons_succ]
      refine take_op 21 33 ?v53 rfl rfl (by kernel_rfl) (fun _ _ _ h => h) (by rfl) hS (fun w' hS' => ?hv53) ?hh53
      case hv53 => (have d3 : w'.cell? ⟨g, 3, none⟩ = some (.string bs) := hS'.cell 3; go_simp; try with_reducible rfl)
      simp only [Act.put, List.setIfInBounds_toArray, List.set_cons_zero, List.set_cons_succ]
      refine two_ops 2 9 rfl rfl (by kernel_rfl) (by rfl) (by rfl) (wp_call 14 37 #[.int .i64 (o : Int), .int .i64 8] (.string A) (fun W => Below Wd.heap.size Wd W) rfl (by go_simp) (HA.out Wd) (fun Wdc hb => ⟨hS.below hb, ?_⟩)) (wp_made 21 (.slice (some ⟨Wd.heap.size, 0, none⟩) 1 1) rfl (w' := Wd.alloc (.cells #[.int .u8 (F : Int)] 5)) (by go_simp; try rfl) ⟨hS.below ((Below.refl _ _).alloc (Nat.le_refl _) _), ?_⟩)
      · simp only [Act.put, List.setIfInBounds_toArray, List.set_cons_zero, List.set_cons_succ]
        have hS := hS.below hb
        clear hb
        refine two_ops 5 9 rfl rfl (by kernel_rfl) (by rfl) (by rfl) (wp_call 17 37 #[.int .i64 (t : Int), .int .i64 8] (.string B) (fun W => Below Wdc.heap.size Wdc W) rfl (by go_simp) (HB.out Wdc) (fun Wdcc hb => ⟨hS.below hb, ?_⟩)) (wp_made 21 (.slice (some ⟨Wdc.heap.size, 0, none⟩) 1 1) rfl (w' := Wdc.alloc (.cells #[.int .u8 (F : Int)] 5)) (by go_simp; try rfl) ⟨hS.below ((Below.refl _ _).alloc (Nat.le_refl _) _), ?_⟩)
        · simp only [Act.put, List.setIfInBounds_toArray, List.set_cons_zero, List.set_cons_succ]
          have hS := hS.below hb
          clear hb
          refine take_op 6 18 (.string (A ++ B)) rfl rfl (by kernel_rfl) (fun _ _ _ h => h) (by rfl) hS (fun w' hS' => ?hv54) ?hh54
          case hv54 => (go_simp; (try with_reducible rfl); (try omega))
          simp only [Act.put, List.setIfInBounds_toArray, List.set_cons_zero, List.set_cons_succ]
          refine two_ops 9 15 rfl rfl (by kernel_rfl) (by rfl) (by rfl) (wp_made 21 (.slice (some ⟨Wdcc.heap.size, 0, none⟩) 1 1) rfl (w' := Wdcc.alloc (.cells #[.int .u8 (F : Int)] 5)) (by go_simp; try rfl) ⟨hS.below ((Below.refl _ _).alloc (Nat.le_refl _) _), ?_⟩) (wp_call 27 37 #[.int .i64 (ks.size : Int), .int .i64 2] (.string D) (fun W => Below Wdcc.heap.size Wdcc W) rfl (by go_simp) (HD.out Wdcc) (fun Wdccc hb => ⟨hS.below hb, ?_⟩))
          · simp only [Act.put, List.setIfInBounds_toArray, List.set_cons_zero, List.set_cons_succ]
            have hx : Wdcc.heap.size < (Wdcc.alloc (.cells #[.int .u8 (F : Int)] 5)).heap.size := by simp
            have hS : RBox w g #[.int .i64 (o : Int), .int .i64 (t : Int), .string ks, .string bs, .int .i64 (q : Int), .bool gn] (Wdcc.alloc (.cells #[.int .u8 (F : Int)] 5)) ∧ (Wdcc.alloc (.cells #[.int .u8 (F : Int)] 5)).cell? ⟨Wdcc.heap.size, 0, none⟩ = some (.int .u8 (F : Int)) := ⟨hS.below ((Below.refl _ _).alloc (Nat.le_refl _) _), by rw [cell_of_row (Wdcc.alloc _) Wdcc.heap.size 0 _ _ (0, 0) (heap_alloc_new Wdcc _)]; rfl⟩
            have hcv := fun W h => conv_one (x := Wdcc.heap.size) F C hC W h
            generalize Wdcc.alloc _ = Wdccm at hx hS ⊢
            generalize Wdcc.heap.size = x at hx hS hcv ⊢
            refine held_stronger (S' := fun W => RBox w g #[.int .i64 (o : Int), .int .i64 (t : Int), .string ks, .string bs, .int .i64 (q : Int), .bool gn] W ∧ W.cell? ⟨x, 0, none⟩ = some (.int .u8 (F : Int))) (fun _ h => h.1) _ _ _ _ ?_
            have hcv := fun W (h : RBox w g #[.int .i64 (o : Int), .int .i64 (t : Int), .string ks, .string bs, .int .i64 (q : Int), .bool gn] W ∧ W.cell? ⟨x, 0, none⟩ = some (.int .u8 (F : Int))) => hcv W h.2
            refine take_op 10 22 (.string C) rfl rfl (by kernel_rfl) (fun _ _ _ h => h) (by rfl) hS (fun w' hS' => ?hv55) ?hh55
            case hv55 => (have hc := hcv w' hS'; go_simp; try with_reducible rfl)
            simp only [Act.put, List.setIfInBounds_toArray, List.set_cons_zero, List.set_cons_succ]
            refine take_op 11 23 (.string (A ++ B ++ C)) rfl rfl (by kernel_rfl) (fun _ _ _ h => h) (by rfl) hS (fun w' hS' => ?hv56) ?hh56
            case hv56 => (go_simp; (try with_reducible rfl); (try omega))
            simp only [Act.put, List.setIfInBounds_toArray, List.set_cons_zero, List.set_cons_succ]
            refine only_op 15 rfl (by kernel_rfl) (by rfl) (wp_call 27 37 #[.int .i64 (ks.size : Int), .int .i64 2] (.string D) (fun W => Below Wdccm.heap.size Wdccm W) rfl (by go_simp) (HD.out Wdccm) (fun Wdccmc hb => ⟨⟨hS.1.below hb, (hb.cell (p := ⟨x, 0, none⟩) hx).trans hS.2⟩, ?_⟩))
            simp only [Act.put, List.setIfInBounds_toArray, List.set_cons_zero, List.set_cons_succ]
            have hS : RBox w g #[.int .i64 (o : Int), .int .i64 (t : Int), .string ks, .string bs, .int .i64 (q : Int), .bool gn] Wdccmc ∧ Wdccmc.cell? ⟨x, 0, none⟩ = some (.int .u8 (F : Int)) := ⟨hS.1.below hb, (hb.cell (p := ⟨x, 0, none⟩) hx).trans hS.2⟩
            have hx := Nat.lt_of_lt_of_le hx hb.size
            clear hb
            refine take_op 16 28 (.string (A ++ B ++ C ++ D)) rfl rfl (by kernel_rfl) (fun _ _ _ h => h) (by rfl) hS (fun w' hS' => ?hv57) ?hh57
            case hv57 => (go_simp; (try with_reducible rfl); (try omega))
            simp only [Act.put, List.setIfInBounds_toArray, List.set_cons_zero, List.set_cons_succ]
            refine take_op 19 31 (.string (A ++ B ++ C ++ D ++ ks)) rfl rfl (by kernel_rfl) (fun _ _ _ h => h) (by rfl) hS (fun w' hS' => ?hv58) ?hh58
            case hv58 => (go_simp; (try with_reducible rfl); (try omega))
            simp only [Act.put, List.setIfInBounds_toArray, List.set_cons_zero, List.set_cons_succ]
            refine take_op 22 34 (.string (A ++ B ++ C ++ D ++ ks ++ bs)) rfl rfl (by kernel_rfl) (fun _ _ _ h => h) (by rfl) hS (fun w' hS' => ?hv59) ?hh59
            case hv59 => (go_simp; (try with_reducible rfl); (try omega))
            simp only [Act.put, List.setIfInBounds_toArray, List.set_cons_zero, List.set_cons_succ]
            refine take_op 23 4 (.string (A ++ B ++ C ++ D ++ ks ++ bs)) rfl rfl (by kernel_rfl) (fun _ _ _ h => h) (by rfl) hS (fun w' hS' => ?hv60) ?hh60
            case hv60 => (go_simp; (try with_reducible rfl); (try omega))
            simp only [Act.put, List.setIfInBounds_toArray, List.set_cons_zero, List.set_cons_succ]
            refine wpAnyH_done (by kernel_rfl) ?_ _
            go_wp2_with fail
            go_meet
            exact ⟨rfl, hS.1⟩
          · simp only [Act.put, List.setIfInBounds_toArray, List.set_cons_zero, List.set_cons_succ]
            have hS := hS.below hb
            clear hb
            refine only_op 9 rfl (by kernel_rfl) (by rfl) (wp_made 21 (.slice (some ⟨Wdccc.heap.size, 0, none⟩) 1 1) rfl (w' := Wdccc.alloc (.cells #[.int .u8 (F : Int)] 5)) (by go_simp; try rfl) ⟨hS.below ((Below.refl _ _).alloc (Nat.le_refl _) _), ?_⟩)
            simp only [Act.put, List.setIfInBounds_toArray, List.set_cons_zero, List.set_cons_succ]
            have hx : Wdccc.heap.size < (Wdccc.alloc (.cells #[.int .u8 (F : Int)] 5)).heap.size := by simp
            have hS : RBox w g #[.int .i64 (o : Int), .int .i64 (t : Int), .string ks, .string bs, .int .i64 (q : Int), .bool gn] (Wdccc.alloc (.cells #[.int .u8 (F : Int)] 5)) ∧ (Wdccc.alloc (.cells #[.int .u8 (F : Int)] 5)).cell? ⟨Wdccc.heap.size, 0, none⟩ = some (.int .u8 (F : Int)) := ⟨hS.below ((Below.refl _ _).alloc (Nat.le_refl _) _), by rw [cell_of_row (Wdccc.alloc _) Wdccc.heap.size 0 _ _ (0, 0) (heap_alloc_new Wdccc _)]; rfl⟩
            have hcv := fun W h => conv_one (x := Wdccc.heap.size) F C hC W h
            generalize Wdccc.alloc _ = Wdcccm at hx hS ⊢
            generalize Wdccc.heap.size = x at hx hS hcv ⊢
            refine held_stronger (S' := fun W => RBox w g #[.int .i64 (o : Int), .int .i64 (t : Int), .string ks, .string bs, .int .i64 (q : Int), .bool gn] W ∧ W.cell? ⟨x, 0, none⟩ = some (.int .u8 (F : Int))) (fun _ h => h.1) _ _ _ _ ?_
            have hcv := fun W (h : RBox w g #[.int .i64 (o : Int), .int .i64 (t : Int), .string ks, .string bs, .int .i64 (q : Int), .bool gn] W ∧ W.cell? ⟨x, 0, none⟩ = some (.int .u8 (F : Int))) => hcv W h.2
            refine take_op 10 22 (.string C) rfl rfl (by kernel_rfl) (fun _ _ _ h => h) (by rfl) hS (fun w' hS' => ?hv61) ?hh61
            case hv61 => (have hc := hcv w' hS'; go_simp; try with_reducible rfl)
            simp only [Act.put, List.setIfInBounds_toArray, List.set_cons_zero, List.set_cons_succ]
            refine take_op 11 23 (.string (A ++ B ++ C)) rfl rfl (by kernel_rfl) (fun _ _ _ h => h) (by rfl) hS (fun w' hS' => ?hv62) ?hh62
            case hv62 => (go_simp; (try with_reducible rfl); (try omega))
            simp only [Act.put, List.setIfInBounds_toArray, List.set_cons_zero, List.set_cons_succ]
            refine take_op 16 28 (.string (A ++ B ++ C ++ D)) rfl rfl (by kernel_rfl) (fun _ _ _ h => h) (by rfl) hS (fun w' hS' => ?hv63) ?hh63
            case hv63 => (go_simp; (try with_reducible rfl); (try omega))
            simp only [Act.put, List.setIfInBounds_toArray, List.set_cons_zero, List.set_cons_succ]
            refine take_op 19 31 (.string (A ++ B ++ C ++ D ++ ks)) rfl rfl (by kernel_rfl) (fun _ _ _ h => h) (by rfl) hS (fun w' hS' => ?hv64) ?hh64
            case hv64 => (go_simp; (try with_reducible rfl); (try omega))
            simp only [Act.put, List.setIfInBounds_toArray, List.set_cons_zero, List.set_cons_succ]
            refine take_op 22 34 (.string (A ++ B ++ C ++ D ++ ks ++ bs)) rfl rfl (by kernel_rfl) (fun _ _ _ h => h) (by rfl) hS (fun w' hS' => ?hv65) ?hh65
            case hv65 => (go_simp; (try with_reducible rfl); (try omega))
            simp only [Act.put, List.setIfInBounds_toArray, List.set_cons_zero, List.set_cons_succ]
            refine take_op 23 4 (.string (A ++ B ++ C ++ D ++ ks ++ bs)) rfl rfl (by kernel_rfl) (fun _ _ _ h => h) (by rfl) hS (fun w' hS' => ?hv66) ?hh66
            case hv66 => (go_simp; (try with_reducible rfl); (try omega))
            simp only [Act.put, List.setIfInBounds_toArray, List.set_cons_zero, List.set_cons_succ]
            refine wpAnyH_done (by kernel_rfl) ?_ _
            go_wp2_with fail
            go_meet
            exact ⟨rfl, hS.1⟩
        · simp only [Act.put, List.setIfInBounds_toArray, List.set_cons_zero, List.set_cons_succ]
          have hx : Wdc.heap.size < (Wdc.alloc (.cells #[.int .u8 (F : Int)] 5)).heap.size := by simp
          have hS : RBox w g #[.int .i64 (o : Int), .int .i64 (t : Int), .string ks, .string bs, .int .i64 (q : Int), .bool gn] (Wdc.alloc (.cells #[.int .u8 (F : Int)] 5)) ∧ (Wdc.alloc (.cells #[.int .u8 (F : Int)] 5)).cell? ⟨Wdc.heap.size, 0, none⟩ = some (.int .u8 (F : Int)) := ⟨hS.below ((Below.refl _ _).alloc (Nat.le_refl _) _), by rw [cell_of_row (Wdc.alloc _) Wdc.heap.size 0 _ _ (0, 0) (heap_alloc_new Wdc _)]; rfl⟩
          have hcv := fun W h => conv_one (x := Wdc.heap.size) F C hC W h
          generalize Wdc.alloc _ = Wdcm at hx hS ⊢
          generalize Wdc.heap.size = x at hx hS hcv ⊢
          refine held_stronger (S' := fun W => RBox w g #[.int .i64 (o : Int), .int .i64 (t : Int), .string ks, .string bs, .int .i64 (q : Int), .bool gn] W ∧ W.cell? ⟨x, 0, none⟩ = some (.int .u8 (F : Int))) (fun _ h => h.1) _ _ _ _ ?_
          have hcv := fun W (h : RBox w g #[.int .i64 (o : Int), .int .i64 (t : Int), .string ks, .string bs, .int .i64 (q : Int), .bool gn] W ∧ W.cell? ⟨x, 0, none⟩ = some (.int .u8 (F : Int))) => hcv W h.2
          refine take_op 10 22 (.string C) rfl rfl (by kernel_rfl) (fun _ _ _ h => h) (by rfl) hS (fun w' hS' => ?hv67) ?hh67
          case hv67 => (have hc := hcv w' hS'; go_simp; try with_reducible rfl)
          simp only [Act.put, List.setIfInBounds_toArray, List.set_cons_zero, List.set_cons_succ]
          refine only_op 5 rfl (by kernel_rfl) (by rfl) (wp_call 17 37 #[.int .i64 (t : Int), .int .i64 8] (.string B) (fun W => Below Wdcm.heap.size Wdcm W) rfl (by go_simp) (HB.out Wdcm) (fun Wdcmc hb => ⟨⟨hS.1.below hb, (hb.cell (p := ⟨x, 0, none⟩) hx).trans hS.2⟩, ?_⟩))
          simp only [Act.put, List.setIfInBounds_toArray, List.set_cons_zero, List.set_cons_succ]
          have hS : RBox w g #[.int .i64 (o : Int), .int .i64 (t : Int), .string ks, .string bs, .int .i64 (q : Int), .bool gn] Wdcmc ∧ Wdcmc.cell? ⟨x, 0, none⟩ = some (.int .u8 (F : Int)) := ⟨hS.1.below hb, (hb.cell (p := ⟨x, 0, none⟩) hx).trans hS.2⟩
          have hx := Nat.lt_of_lt_of_le hx hb.size
          clear hb
          refine take_op 6 18 (.string (A ++ B)) rfl rfl (by kernel_rfl) (fun _ _ _ h => h) (by rfl) hS (fun w' hS' => ?hv68) ?hh68
          case hv68 => (go_simp; (try with_reducible rfl); (try omega))
          simp only [Act.put, List.setIfInBounds_toArray, List.set_cons_zero, List.set_cons_succ]
          refine take_op 11 23 (.string (A ++ B ++ C)) rfl rfl (by kernel_rfl) (fun _ _ _ h => h) (by rfl) hS (fun w' hS' => ?hv69) ?hh69
          case hv69 => (go_simp; (try with_reducible rfl); (try omega))
          simp only [Act.put, List.setIfInBounds_toArray, List.set_cons_zero, List.set_cons_succ]
          refine only_op 15 rfl (by kernel_rfl) (by rfl) (wp_call 27 37 #[.int .i64 (ks.size : Int), .int .i64 2] (.string D) (fun W => Below Wdcmc.heap.size Wdcmc W) rfl (by go_simp) (HD.out Wdcmc) (fun Wdcmcc hb => ⟨⟨hS.1.below hb, (hb.cell (p := ⟨x, 0, none⟩) hx).trans hS.2⟩, ?_⟩))
          simp only [Act.put, List.setIfInBounds_toArray, List.set_cons_zero, List.set_cons_succ]
          have hS : RBox w g #[.int .i64 (o : Int), .int .i64 (t : Int), .string ks, .string bs, .int .i64 (q : Int), .bool gn] Wdcmcc ∧ Wdcmcc.cell? ⟨x, 0, none⟩ = some (.int .u8 (F : Int)) := ⟨hS.1.below hb, (hb.cell (p := ⟨x, 0, none⟩) hx).trans hS.2⟩
          have hx := Nat.lt_of_lt_of_le hx hb.size
          clear hb
          refine take_op 16 28 (.string (A ++ B ++ C ++ D)) rfl rfl (by kernel_rfl) (fun _ _ _ h => h) (by rfl) hS (fun w' hS' => ?hv70) ?hh70
          case hv70 => (go_simp; (try with_reducible rfl); (try omega))
          simp only [Act.put, List.setIfInBounds_toArray, List.set_cons_zero, List.set_cons_succ]
          refine take_op 19 31 (.string (A ++ B ++ C ++ D ++ ks)) rfl rfl (by kernel_rfl) (fun _ _ _ h => h) (by rfl) hS (fun w' hS' => ?hv71) ?hh71
          case hv71 => (go_simp; (try with_reducible rfl); (try omega))
          simp only [Act.put, List.setIfInBounds_toArray, List.set_cons_zero, List.set_cons_succ]
          refine take_op 22 34 (.string (A ++ B ++ C ++ D ++ ks ++ bs)) rfl rfl (by kernel_rfl) (fun _ _ _ h => h) (by rfl) hS (fun w' hS' => ?hv72) ?hh72
          case hv72 => (go_simp; (try with_reducible rfl); (try omega))
          simp only [Act.put, List.setIfInBounds_toArray, List.set_cons_zero, List.set_cons_succ]
          refine take_op 23 4 (.string (A ++ B ++ C ++ D ++ ks ++ bs)) rfl rfl (by kernel_rfl) (fun _ _ _ h => h) (by rfl) hS (fun w' hS' => ?hv73) ?hh73
          case hv73 => (go_simp; (try with_reducible rfl); (try omega))
          simp only [Act.put, List.setIfInBounds_toArray, List.set_cons_zero, List.set_cons_succ]
          refine wpAnyH_done (by kernel_rfl) ?_ _
          go_wp2_with fail
          go_meet
          exact ⟨rfl, hS.1⟩
      · simp only [Act.put, List.setIfInBounds_toArray, List.set_cons_zero, List.set_cons_succ]
        have hx : Wd.heap.size < (Wd.alloc (.cells #[.int .u8 (F : Int)] 5)).heap.size := by simp
        have hS : RBox w g #[.int .i64 (o : Int), .int .i64 (t : Int), .string ks, .string bs, .int .i64 (q : Int), .bool gn] (Wd.alloc (.cells #[.int .u8 (F : Int)] 5)) ∧ (Wd.alloc (.cells #[.int .u8 (F : Int)] 5)).cell? ⟨Wd.heap.size, 0, none⟩ = some (.int .u8 (F : Int)) := ⟨hS.below ((Below.refl _ _).alloc (Nat.le_refl _) _), by rw [cell_of_row (Wd.alloc _) Wd.heap.size 0 _ _ (0, 0) (heap_alloc_new Wd _)]; rfl⟩
        have hcv := fun W h => conv_one (x := Wd.heap.size) F C hC W h
        generalize Wd.alloc _ = Wdm at hx hS ⊢
        generalize Wd.heap.size = x at hx hS hcv ⊢
        refine held_stronger (S' := fun W => RBox w g #[.int .i64 (o : Int), .int .i64 (t : Int), .string ks, .string bs, .int .i64 (q : Int), .bool gn] W ∧ W.cell? ⟨x, 0, none⟩ = some (.int .u8 (F : Int))) (fun _ h => h.1) _ _ _ _ ?_
        have hcv := fun W (h : RBox w g #[.int .i64 (o : Int), .int .i64 (t : Int), .string ks, .string bs, .int .i64 (q : Int), .bool gn] W ∧ W.cell? ⟨x, 0, none⟩ = some (.int .u8 (F : Int))) => hcv W h.2
        refine take_op 10 22 (.string C) rfl rfl (by kernel_rfl) (fun _ _ _ h => h) (by rfl) hS (fun w' hS' => ?hv74) ?hh74
        case hv74 => (have hc := hcv w' hS'; go_simp; try with_reducible rfl)
        simp only [Act.put, List.setIfInBounds_toArray, List.set_cons_zero, List.set_cons_succ]
        refine only_op 2 rfl (by kernel_rfl) (by rfl) (wp_call 14 37 #[.int .i64 (o : Int), .int .i64 8] (.string A) (fun W => Below Wdm.heap.size Wdm W) rfl (by go_simp) (HA.out Wdm) (fun Wdmc hb => ⟨⟨hS.1.below hb, (hb.cell (p := ⟨x, 0, none⟩) hx).trans hS.2⟩, ?_⟩))
        simp only [Act.put, List.setIfInBounds_toArray, List.set_cons_zero, List.set_cons_succ]
        have hS : RBox w g #[.int .i64 (o : Int), .int .i64 (t : Int), .string ks, .string bs, .int .i64 (q : Int), .bool gn] Wdmc ∧ Wdmc.cell? ⟨x, 0, none⟩ = some (.int .u8 (F : Int)) := ⟨hS.1.below hb, (hb.cell (p := ⟨x, 0, none⟩) hx).trans hS.2⟩
        have hx := Nat.lt_of_lt_of_le hx hb.size
        clear hb
        refine only_op 5 rfl (by kernel_rfl) (by rfl) (wp_call 17 37 #[.int .i64 (t : Int), .int .i64 8] (.string B) (fun W => Below Wdmc.heap.size Wdmc W) rfl (by go_simp) (HB.out Wdmc) (fun Wdmcc hb => ⟨⟨hS.1.below hb, (hb.cell (p := ⟨x, 0, none⟩) hx).trans hS.2⟩, ?_⟩))
        simp only [Act.put, List.setIfInBounds_toArray, List.set_cons_zero, List.set_cons_succ]
        have hS : RBox w g #[.int .i64 (o : Int), .int .i64 (t : Int), .string ks, .string bs, .int .i64 (q : Int), .bool gn] Wdmcc ∧ Wdmcc.cell? ⟨x, 0, none⟩ = some (.int .u8 (F : Int)) := ⟨hS.1.below hb, (hb.cell (p := ⟨x, 0, none⟩) hx).trans hS.2⟩
        have hx := Nat.lt_of_lt_of_le hx hb.size
        clear hb
        refine take_op 6 18 (.string (A ++ B)) rfl rfl (by kernel_rfl) (fun _ _ _ h => h) (by rfl) hS (fun w' hS' => ?hv75) ?hh75
        case hv75 => (go_simp; (try with_reducible rfl); (try omega))
        simp only [Act.put, List.setIfInBounds_toArray, List.set_cons_zero, List.set_cons_succ]
        refine take_op 11 23 (.string (A ++ B ++ C)) rfl rfl (by kernel_rfl) (fun _ _ _ h => h) (by rfl) hS (fun w' hS' => ?hv76) ?hh76
        case hv76 => (go_simp; (try with_reducible rfl); (try omega))
        simp only [Act.put, List.setIfInBounds_toArray, List.set_cons_zero, List.set_cons_succ]
        refine only_op 15 rfl (by kernel_rfl) (by rfl) (wp_call 27 37 #[.int .i64 (ks.size : Int), .int .i64 2] (.string D) (fun W => Below Wdmcc.heap.size Wdmcc W) rfl (by go_simp) (HD.out Wdmcc) (fun Wdmccc hb => ⟨⟨hS.1.below hb, (hb.cell (p := ⟨x, 0, none⟩) hx).trans hS.2⟩, ?_⟩))
        simp only [Act.put, List.setIfInBounds_toArray, List.set_cons_zero, List.set_cons_succ]
        have hS : RBox w g #[.int .i64 (o : Int), .int .i64 (t : Int), .string ks, .string bs, .int .i64 (q : Int), .bool gn] Wdmccc ∧ Wdmccc.cell? ⟨x, 0, none⟩ = some (.int .u8 (F : Int)) := ⟨hS.1.below hb, (hb.cell (p := ⟨x, 0, none⟩) hx).trans hS.2⟩
        have hx := Nat.lt_of_lt_of_le hx hb.size
        clear hb
        refine take_op 16 28 (.string (A ++ B ++ C ++ D)) rfl rfl (by kernel_rfl) (fun _ _ _ h => h) (by rfl) hS (fun w' hS' => ?hv77) ?hh77
        case hv77 => (go_simp; (try with_reducible rfl); (try omega))
        simp only [Act.put, List.setIfInBounds_toArray, List.set_cons_zero, List.set_cons_succ]
        refine take_op 19 31 (.string (A ++ B ++ C ++ D ++ ks)) rfl rfl (by kernel_rfl) (fun _ _ _ h => h) (by rfl) hS (fun w' hS' => ?hv78) ?hh78
        case hv78 => (go_simp; (try with_reducible rfl); (try omega))
        simp only [Act.put, List.setIfInBounds_toArray, List.set_cons_zero, List.set_cons_succ]
        refine take_op 22 34 (.string (A ++ B ++ C ++ D ++ ks ++ bs)) rfl rfl (by kernel_rfl) (fun _ _ _ h => h) (by rfl) hS (fun w' hS' => ?hv79) ?hh79
        case hv79 => (go_simp; (try with_reducible rfl); (try omega))
        simp only [Act.put, List.setIfInBounds_toArray, List.set_cons_zero, List.set_cons_succ]
        refine take_op 23 4 (.string (A ++ B ++ C ++ D ++ ks ++ bs)) rfl rfl (by kernel_rfl) (fun _ _ _ h => h) (by rfl) hS (fun w' hS' => ?hv80) ?hh80
        case hv80 => (go_simp; (try with_reducible rfl); (try omega))
        simp only [Act.put, List.setIfInBounds_toArray, List.set_cons_zero, List.set_cons_succ]
        refine wpAnyH_done (by kernel_rfl) ?_ _
        go_wp2_with fail
        go_meet
        exact ⟨rfl, hS.1⟩
    case rest =>
      obtain ⟨rfl, hbx⟩ := hcut
      have R1 := Lib.hid hbx
      clear hbx R0 HA HB HD
      obtain ⟨Y, hY⟩ : ∃ Y, A ++ B ++ C ++ D ++ ks ++ bs = Y := ⟨_, rfl⟩
      rw [hY] at HH HN hYz ⊢
      have HY := Lib.hid hY
      clear hY
      clear n1 n2 n3 n4 n5 n6
      go_wp2_with fail
      refine (HH.out _).mono ?_
      rintro e w2 ⟨rfl, hb2⟩
      have R2 := Lib.hid (R1.out.below hb2)
      clear hb2 R1 HH
      go_wp2_with fail
      refine (HN.out _).mono ?_
      rintro e w3 ⟨rfl, rfl⟩
      go_wp2_with fail
      refine (HZ.out _).mono ?_
      rintro e w3 ⟨rfl, hb3⟩
      have R3 := Lib.hid (R2.out.below hb3)
      clear hb3 R2 HZ HN
      go_wp2_with fail
      go_ret
      exact ⟨by rw [HY.out]; rfl, R3.out.out.2⟩
end Go.Proofs.Ytgadgmcabjnjjaa
/- The document's own answer: the bytes of a record that may be. -/
namespace Go.Proofs.Ytgadgmcabjnjjaa
open Go.RowKit Go.Lib Vbi Rcd Crc

theorem RBytes_is (r : Rc) (S : ByteArray) (w : World) (h : mayB r = true) (hS : str (recL r) = S) :
    Calls Try.prog 24 #[ragg r] w fun e w' => e = .returned (.string S) ∧ Below w.heap.size w w' := by
  have hf := flag_lt h
  have hbl := body_len r
  obtain ⟨h1, h2, h3, h4, h5, h6, h7, h8, h9⟩ := (may_iff _).1 h
  have hY : str (fx 8 r.o.toNat) ++ str (fx 8 r.t.toNat) ++ strOfNums [((flagN r : Nat) : Int)] ++ str (fx 2 (str r.k).size) ++ str r.k ++ str r.b = str (bodyL r) := by
    rw [byte_str _ (by omega), str_size, str_add, str_add, str_add, str_add, str_add]
    unfold bodyL
    congr 1
  have hYs : (str (bodyL r)).size = (bodyL r).length := str_size _
  obtain ⟨N, hN⟩ : ∃ N, sumN 0 (fx 2 (bodyL r).length ++ bodyL r) = N := ⟨_, rfl⟩
  have hR : str (fx 2 (bodyL r).length) ++ str (fx 4 N) ++ str (bodyL r) = S := by
    rw [str_add, str_add, ← hS]
    unfold recL sealL
    rw [hN, List.append_assoc]
  have key := RBytes_parts r.o.toNat r.t.toNat (str r.k) (str r.b) r.q.toNat (flagN r) r.g _ _ _ _ (str (fx 2 (bodyL r).length)) (str (fx 4 N)) N w (by omega) rfl (by omega) (by omega) (by rw [str_size]; exact h5) (by rw [str_size]; exact h6) rfl rfl rfl rfl
    (by rw [hY, hYs]) (by rw [hY, ByteArray.data_append, Array.toList_append, str_data, str_data]; exact hN) rfl
  rw [hY, hR] at key
  have e1 : ((r.o.toNat : Nat) : Int) = r.o := by omega
  have e2 : ((r.t.toNat : Nat) : Int) = r.t := by omega
  have e3 : ((r.q.toNat : Nat) : Int) = r.q := by omega
  rw [e1, e2, e3] at key
  exact key

end Go.Proofs.Ytgadgmcabjnjjaa
/- strings.Clone; records that are not too long. -/
namespace Go.Proofs.Ytgadgmcabjnjjaa
open Go.RowKit Go.Lib Rcd

set_option maxHeartbeats 1000000 in
theorem CloneS_is (s : ByteArray) (w : World) (h : s.size ≤ 281474976710656) :
    Calls Try.prog 44 #[.string s] w fun e w' => e = .returned (.string s) ∧ Below w.heap.size w w' := by
  have HC := Lib.hid (fun W => Try.stringslite_Clone s W h)
  go_enter Try.func44, Try.ntmps44
  go_wp2_with fail
  refine (HC.out _).mono ?_
  rintro e w1 ⟨rfl, hb⟩
  go_wp2_with fail
  go_ret
  exact ⟨rfl, hb⟩

/-- A record that is no longer than one may be. -/
def Short (r : Rc) : Prop := r.k.length ≤ 1000000 ∧ r.b.length ≤ 1000000
theorem short_of {r : Rc} (h : mayB r = true) : Short r := by
  obtain ⟨_, _, _, _, h5, h6, _⟩ := (may_iff r).1 h
  exact ⟨by omega, by omega⟩

end Go.Proofs.Ytgadgmcabjnjjaa
/- Records: one more of the first few. -/
namespace Go.Proofs.Ytgadgmcabjnjjaa
open Go.RowKit Go.Lib Rcd

theorem takeR_snoc {l : List Rc} {k : Nat} (h : k < l.length) : flat (l.take (k + 1)) = flat (l.take k) ++ rcells l[k] := by rw [List.take_succ_eq_append_getElem h, flat_snoc]

end Go.Proofs.Ytgadgmcabjnjjaa
