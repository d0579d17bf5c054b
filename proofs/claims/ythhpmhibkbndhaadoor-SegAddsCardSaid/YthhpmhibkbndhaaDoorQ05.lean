/- Texts of the proof, part 5: RcRBytes, RcRBytesIs, SgREq, Near, RcArg, SgScript, SumLaid, SgText, SgSlice. -/
import Derived.Deep.CutRange
import Derived.Test.YthhpmhibkbndhaaDoorRows
import Derived.Test.YthhpmhibkbndhaaDoorChecked
import Derived.ProofKit
import Derived.Deep.Slices
import Derived.SizedLaws
import Derived.ChangeOld
import Derived.Below
import Derived.ChangeArms
import Derived.Test.YthhpmhibkbndhaaDoorTie
import Derived.LaidMore
import Derived.OpenShut
import Derived.MakeChecks
import Derived.LaidLaws
import Derived.LaidHandle
import Derived.Stop.Joined
import Derived.Test.YthhpmhibkbndhaaDoorQ04
/- The document's own answer: a record's bytes. -/
namespace Go.Proofs.YthhpmhibkbndhaaDoor
open Go.RowKit Go.Lib Vbi Rcd Crc

/-- One byte in memory, as a string. -/
theorem conv_one {x : Nat} (F : Nat) (C : ByteArray) (hC : strOfNums [(F : Int)] = C) (W : World) (h : W.cell? ⟨x, 0, none⟩ = some (.int .u8 (F : Int))) : (convert 59 9 (.slice (some ⟨x, 0, none⟩) 1 1)).run Tryd.prog W = .ok (.string C) W := by
  rw [← hC]
  exact run_convert_bytes_arg _ 59 5 Tryd.underlying59 Tryd.underlying5 x 0 1 1 [(F : Int)] rfl (fun i hi => by
    obtain rfl : i = 0 := by simpa using hi
    exact h) 9 Tryd.underlying9
theorem RFixed_is (wd n : Nat) (S : ByteArray) (w : World) (hw : wd ≤ 4) (hn : n < 256 ^ wd) (hS : str (fx wd n) = S) :
    Calls Tryd.prog 37 #[.int .i64 (n : Int), .int .i64 (wd : Int)] w fun e w' => e = .returned (.string S) ∧ Below w.heap.size w w' := by
  rw [← str_fx] at hS
  rw [← hS]
  exact RFixed_ok n wd w hn hw

set_option maxRecDepth 100000 in
set_option maxHeartbeats 16000000 in
theorem RBytes_parts (o t : Nat) (ks bs : ByteArray) (q F : Nat) (gn : Bool) (A B C D H Z : ByteArray) (N : Nat) (w : World) (hq3 : q < 3) (hq : q + (if gn then 4 else 0) = F)
    (ho : o < 1099511627776) (ht : t < 1099511627777) (hk : ks.size ≤ 1024) (hb : bs.size ≤ 1024) (hA : str (fx 8 o) = A) (hB : str (fx 8 t) = B) (hC : strOfNums [(F : Int)] = C) (hD : str (fx 2 ks.size) = D)
    (hH : str (fx 2 (A ++ B ++ C ++ D ++ ks ++ bs).size) = H) (hN : sumN 0 (H ++ (A ++ B ++ C ++ D ++ ks ++ bs)).data.toList = N) (hZ : str (fx 4 N) = Z) :
    Calls Tryd.prog 20 #[.agg (rarr (o : Int) (t : Int) ks bs (q : Int) gn)] w fun e w' => e = .returned (.string (H ++ Z ++ (A ++ B ++ C ++ D ++ ks ++ bs))) ∧ Below w.heap.size w w' := by
  have hF : F < 8 := by rw [← hq]; split <;> omega
  have hAz : A.size = 8 := by rw [← hA, str_size, fx_len]
  have hBz : B.size = 8 := by rw [← hB, str_size, fx_len]
  have hCz : C.size = 1 := by rw [← hC, strOfNums_size]; rfl
  have hDz : D.size = 2 := by rw [← hD, str_size, fx_len]
  have hHz : H.size = 2 := by rw [← hH, str_size, fx_len]
  have hZz : Z.size = 4 := by rw [← hZ, str_size, fx_len]
  have hN32 : N < 4294967296 := by rw [← hN]; exact sum_lt _ _
  have hYz : (A ++ B ++ C ++ D ++ ks ++ bs).size ≤ 3000 := by simp only [ByteArray.size_append]; omega
  have HA := Lib.hid (fun W => RFixed8_is o A W (by omega) hA)
  have HB := Lib.hid (fun W => RFixed8_is t B W (by omega) hB)
  have HD := Lib.hid (fun W => RFixed_is 2 ks.size D W (by omega) (by omega) hD)
  have HH := Lib.hid (fun W => RFixed_is 2 (A ++ B ++ C ++ D ++ ks ++ bs).size H W (by omega) (by omega) hH)
  have HN := Lib.hid (fun W => RSum_is 0 (H ++ (A ++ B ++ C ++ D ++ ks ++ bs)) N W (by omega) (by rw [ByteArray.size_append]; omega) hN)
  have HZ := Lib.hid (fun W => RFixed_is 4 N Z W (by omega) (by omega) hZ)
  have n1 : ¬ 9223372036854775807 < A.size + B.size := by omega
  have n2 : ¬ 9223372036854775807 < A.size + B.size + C.size := by omega
  have n3 : ¬ 9223372036854775807 < A.size + B.size + C.size + D.size := by omega
  have n4 : ¬ 9223372036854775807 < A.size + B.size + C.size + D.size + ks.size := by omega
  have n5 : ¬ 9223372036854775807 < A.size + B.size + C.size + D.size + ks.size + bs.size := by omega
  have n6 : IntKind.u8.wrap (F : Int) = (F : Int) := by unfold IntKind.wrap; simp [IntKind.bits, IntKind.signed]; omega
  have R0 := Lib.hid (RBox.new w 42 (rarr (o : Int) (t : Int) ks bs (q : Int) gn))
  obtain ⟨W0, hW⟩ : ∃ W0, w.alloc (.cells (rarr (o : Int) (t : Int) ks bs (q : Int) gn) 42) = W0 := ⟨_, rfl⟩
  rw [hW] at R0
  unfold rarr at hW R0 ⊢
  have HW := Lib.hid hW
  clear hW hA hB hD hH hN hZ 
  go_enter Tryd.func20, Tryd.ntmps20
  go_upto_region 1 with fail
  rw [HW.out]
  clear HW
  generalize Value.agg _ = v1
  obtain ⟨g, hg⟩ : ∃ g, w.heap.size = g := ⟨_, rfl⟩
  rw [hg] at R0
  rw [hg]
  clear hg
  have d4 : W0.cell? ⟨g, 4, none⟩ = some (.int .i64 (q : Int)) := R0.out.cell 4
  by_cases hgn : gn = true
  · have d5 : W0.cell? ⟨g, 5, none⟩ = some (.bool true) := by rw [← hgn]; exact R0.out.cell 5
    have hFq : (q : Int) + 4 = (F : Int) := by rw [if_pos hgn] at hq; omega
    have HFq := Lib.hid hFq
    clear hq hgn hFq
    go_upto_region 4 with fail
    rw [HFq.out]
    clear HFq d4 d5
    go_cut [4] from 12 to 34 (fun s4 wx => s4 = .string (A ++ B ++ C ++ D ++ ks ++ bs) ∧ RBox w g #[.int .i64 (o : Int), .int .i64 (t : Int), .string ks, .string bs, .int .i64 (q : Int), .bool gn] wx)
    case first =>
      have hS0 := R0.out.drewN 1
      clear HH HN HZ R0
      refine wp_region_held_drew (S := fun W => RBox w g #[.int .i64 (o : Int), .int .i64 (t : Int), .string ks, .string bs, .int .i64 (q : Int), .bool gn] W) (by kernel_rfl) hS0 (fun hS => ?_)
      clear hS0
      generalize W0.drew = Wd at hS ⊢
      refine take_op 0 12 ?v1 rfl rfl (by kernel_rfl) (fun _ _ _ h => h) (by rfl) hS (fun w' hS' => ?hv1) ?hh1
      case hv1 => (go_simp; (try with_reducible rfl); (try omega))
      simp only [Act.put, List.setIfInBounds_toArray, List.set_cons_zero, List.set_cons_succ]
      refine take_op 1 13 ?v2 rfl rfl (by kernel_rfl) (fun _ _ _ h => h) (by rfl) hS (fun w' hS' => ?hv2) ?hh2
      case hv2 => (have d0 : w'.cell? ⟨g, 0, none⟩ = some (.int .i64 (o : Int)) := hS'.cell 0; go_simp; try with_reducible rfl)
      simp only [Act.put, List.setIfInBounds_toArray, List.set_cons_zero, List.set_cons_succ]
      refine take_op 3 15 ?v3 rfl rfl (by kernel_rfl) (fun _ _ _ h => h) (by rfl) hS (fun w' hS' => ?hv3) ?hh3
      case hv3 => (go_simp; (try with_reducible rfl); (try omega))
      simp only [Act.put, List.setIfInBounds_toArray, List.set_cons_zero, List.set_cons_succ]
      refine take_op 4 16 ?v4 rfl rfl (by kernel_rfl) (fun _ _ _ h => h) (by rfl) hS (fun w' hS' => ?hv4) ?hh4
      case hv4 => (have d1 : w'.cell? ⟨g, 1, none⟩ = some (.int .i64 (t : Int)) := hS'.cell 1; go_simp; try with_reducible rfl)
      simp only [Act.put, List.setIfInBounds_toArray, List.set_cons_zero, List.set_cons_succ]
      refine take_op 7 19 ?v5 rfl rfl (by kernel_rfl) (fun _ _ _ h => h) (by rfl) hS (fun w' hS' => ?hv5) ?hh5
      case hv5 => (go_simp; (try with_reducible rfl); (try omega))
      simp only [Act.put, List.setIfInBounds_toArray, List.set_cons_zero, List.set_cons_succ]
      refine take_op 8 20 (.int .u8 (F : Int)) rfl rfl (by kernel_rfl) (fun _ _ _ h => h) (by rfl) hS (fun w' hS' => ?hv6) ?hh6
      case hv6 => (go_simp; (try with_reducible rfl); (try omega))
      simp only [Act.put, List.setIfInBounds_toArray, List.set_cons_zero, List.set_cons_succ]
      refine take_op 12 24 ?v7 rfl rfl (by kernel_rfl) (fun _ _ _ h => h) (by rfl) hS (fun w' hS' => ?hv7) ?hh7
      case hv7 => (go_simp; (try with_reducible rfl); (try omega))
      simp only [Act.put, List.setIfInBounds_toArray, List.set_cons_zero, List.set_cons_succ]
      refine take_op 13 25 ?v8 rfl rfl (by kernel_rfl) (fun _ _ _ h => h) (by rfl) hS (fun w' hS' => ?hv8) ?hh8
      case hv8 => (have d2 : w'.cell? ⟨g, 2, none⟩ = some (.string ks) := hS'.cell 2; go_simp; try with_reducible rfl)
      simp only [Act.put, List.setIfInBounds_toArray, List.set_cons_zero, List.set_cons_succ]
      refine take_op 14 26 ?v9 rfl rfl (by kernel_rfl) (fun _ _ _ h => h) (by rfl) hS (fun w' hS' => ?hv9) ?hh9
      case hv9 => (go_simp; (try with_reducible rfl); (try omega))
      simp only [Act.put, List.setIfInBounds_toArray, List.set_cons_zero, List.set_cons_succ]
      refine take_op 17 29 ?v10 rfl rfl (by kernel_rfl) (fun _ _ _ h => h) (by rfl) hS (fun w' hS' => ?hv10) ?hh10
      case hv10 => (go_simp; (try with_reducible rfl); (try omega))
      simp only [Act.put, List.setIfInBounds_toArray, List.set_cons_zero, List.set_cons_succ]
      refine take_op 18 30 ?v11 rfl rfl (by kernel_rfl) (fun _ _ _ h => h) (by rfl) hS (fun w' hS' => ?hv11) ?hh11
      case hv11 => (have d2 : w'.cell? ⟨g, 2, none⟩ = some (.string ks) := hS'.cell 2; go_simp; try with_reducible rfl)
      simp only [Act.put, List.setIfInBounds_toArray, List.set_cons_zero, List.set_cons_succ]
      refine take_op 20 32 ?v12 rfl rfl (by kernel_rfl) (fun _ _ _ h => h) (by rfl) hS (fun w' hS' => ?hv12) ?hh12
      case hv12 => (go_simp; (try with_reducible rfl); (try omega))
      simp only [Act.put, List.setIfInBounds_toArray, List.set_cons_zero, List.set_cons_succ]
      refine take_op 21 33 ?v13 rfl rfl (by kernel_rfl) (fun _ _ _ h => h) (by rfl) hS (fun w' hS' => ?hv13) ?hh13
      case hv13 => (have d3 : w'.cell? ⟨g, 3, none⟩ = some (.string bs) := hS'.cell 3; go_simp; try with_reducible rfl)
      simp only [Act.put, List.setIfInBounds_toArray, List.set_cons_zero, List.set_cons_succ]
      refine two_ops 2 9 rfl rfl (by kernel_rfl) (by rfl) (by rfl) (wp_call 14 37 #[.int .i64 (o : Int), .int .i64 8] (.string A) (fun W => Below Wd.heap.size Wd W) rfl (by go_simp) (HA.out Wd) (fun Wdc hb => ⟨hS.below hb, ?_⟩)) (wp_made 21 (.slice (some ⟨Wd.heap.size, 0, none⟩) 1 1) rfl (w' := Wd.alloc (.cells #[.int .u8 (F : Int)] 5)) (by go_simp; try rfl) ⟨hS.below ((Below.refl _ _).alloc (Nat.le_refl _) _), ?_⟩)
      · simp only [Act.put, List.setIfInBounds_toArray, List.set_cons_zero, List.set_cons_succ]
        have hS := hS.below hb
        clear hb
        refine two_ops 5 9 rfl rfl (by kernel_rfl) (by rfl) (by rfl) (wp_call 17 37 #[.int .i64 (t : Int), .int .i64 8] (.string B) (fun W => Below Wdc.heap.size Wdc W) rfl (by go_simp) (HB.out Wdc) (fun Wdcc hb => ⟨hS.below hb, ?_⟩)) (wp_made 21 (.slice (some ⟨Wdc.heap.size, 0, none⟩) 1 1) rfl (w' := Wdc.alloc (.cells #[.int .u8 (F : Int)] 5)) (by go_simp; try rfl) ⟨hS.below ((Below.refl _ _).alloc (Nat.le_refl _) _), ?_⟩)
        · simp only [Act.put, List.setIfInBounds_toArray, List.set_cons_zero, List.set_cons_succ]
          have hS := hS.below hb
          clear hb
          refine take_op 6 18 (.string (A ++ B)) rfl rfl (by kernel_rfl) (fun _ _ _ h => h) (by rfl) hS (fun w' hS' => ?hv14) ?hh14
          case hv14 => (go_simp; (try with_reducible rfl); (try omega))
          simp only [Act.put, List.setIfInBounds_toArray, List.set_cons_zero, List.set_cons_succ]
          refine two_ops 9 15 rfl rfl (by kernel_rfl) (by rfl) (by rfl) (wp_made 21 (.slice (some ⟨Wdcc.heap.size, 0, none⟩) 1 1) rfl (w' := Wdcc.alloc (.cells #[.int .u8 (F : Int)] 5)) (by go_simp; try rfl) ⟨hS.below ((Below.refl _ _).alloc (Nat.le_refl _) _), ?_⟩) (wp_call 27 37 #[.int .i64 (ks.size : Int), .int .i64 2] (.string D) (fun W => Below Wdcc.heap.size Wdcc W) rfl (by go_simp) (HD.out Wdcc) (fun Wdccc hb => ⟨hS.below hb, ?_⟩))
          · simp only [Act.put, List.setIfInBounds_toArray, List.set_cons_zero, List.set_cons_succ]
            have hx : Wdcc.heap.size < (Wdcc.alloc (.cells #[.int .u8 (F : Int)] 5)).heap.size := by simp
            have hS : RBox w g #[.int .i64 (o : Int), .int .i64 (t : Int), .string ks, .string bs, .int .i64 (q : Int), .bool gn] (Wdcc.alloc (.cells #[.int .u8 (F : Int)] 5)) ∧ (Wdcc.alloc (.cells #[.int .u8 (F : Int)] 5)).cell? ⟨Wdcc.heap.size, 0, none⟩ = some (.int .u8 (F : Int)) := ⟨hS.below ((Below.refl _ _).alloc (Nat.le_refl _) _), by rw [cell_of_row (Wdcc.alloc _) Wdcc.heap.size 0 _ _ (0, 0) (heap_alloc_new Wdcc _)]; rfl⟩
            have hcv := fun W h => conv_one (x := Wdcc.heap.size) F C hC W h
            generalize Wdcc.alloc _ = Wdccm at hx hS ⊢
            generalize Wdcc.heap.size = x at hx hS hcv ⊢
            refine held_stronger (S' := fun W => RBox w g #[.int .i64 (o : Int), .int .i64 (t : Int), .string ks, .string bs, .int .i64 (q : Int), .bool gn] W ∧ W.cell? ⟨x, 0, none⟩ = some (.int .u8 (F : Int))) (fun _ h => h.1) _ _ _ _ ?_
            have hcv := fun W (h : RBox w g #[.int .i64 (o : Int), .int .i64 (t : Int), .string ks, .string bs, .int .i64 (q : Int), .bool gn] W ∧ W.cell? ⟨x, 0, none⟩ = some (.int .u8 (F : Int))) => hcv W h.2
            refine take_op 10 22 (.string C) rfl rfl (by kernel_rfl) (fun _ _ _ h => h) (by rfl) hS (fun w' hS' => ?hv15) ?hh15
            case hv15 => (have hc := hcv w' hS'; go_simp; try with_reducible rfl)
            simp only [Act.put, List.setIfInBounds_toArray, List.set_cons_zero, List.set_cons_succ]
            refine take_op 11 23 (.string (A ++ B ++ C)) rfl rfl (by kernel_rfl) (fun _ _ _ h => h) (by rfl) hS (fun w' hS' => ?hv16) ?hh16
            case hv16 => (go_simp; (try with_reducible rfl); (try omega))
            simp only [Act.put, List.setIfInBounds_toArray, List.set_cons_zero, List.set_cons_succ]
            refine only_op 15 rfl (by kernel_rfl) (by rfl) (wp_call 27 37 #[.int .i64 (ks.size : Int), .int .i64 2] (.string D) (fun W => Below Wdccm.heap.size Wdccm W) rfl (by go_simp) (HD.out Wdccm) (fun Wdccmc hb => ⟨⟨hS.1.below hb, (hb.cell (p := ⟨x, 0, none⟩) hx).trans hS.2⟩, ?_⟩))
            simp only [Act.put, List.setIfInBounds_toArray, List.set_cons_zero, List.set_cons_succ]
            have hS : RBox w g #[.int .i64 (o : Int), .int .i64 (t : Int), .string ks, .string bs, .int .i64 (q : Int), .bool gn] Wdccmc ∧ Wdccmc.cell? ⟨x, 0, none⟩ = some (.int .u8 (F : Int)) := ⟨hS.1.below hb, (hb.cell (p := ⟨x, 0, none⟩) hx).trans hS.2⟩
            have hx := Nat.lt_of_lt_of_le hx hb.size
            clear hb
            refine take_op 16 28 (.string (A ++ B ++ C ++ D)) rfl rfl (by kernel_rfl) (fun _ _ _ h => h) (by rfl) hS (fun w' hS' => ?hv17) ?hh17
            case hv17 => (go_simp; (try with_reducible rfl); (try omega))
            simp only [Act.put, List.setIfInBounds_toArray, List.set_cons_zero, List.set_cons_succ]
            refine take_op 19 31 (.string (A ++ B ++ C ++ D ++ ks)) rfl rfl (by kernel_rfl) (fun _ _ _ h => h) (by rfl) hS (fun w' hS' => ?hv18) ?hh18
            case hv18 => (go_simp; (try with_reducible rfl); (try omega))
            simp only [Act.put, List.setIfInBounds_toArray, List.set_cons_zero, List.set_cons_succ]
            refine take_op 22 34 (.string (A ++ B ++ C ++ D ++ ks ++ bs)) rfl rfl (by kernel_rfl) (fun _ _ _ h => h) (by rfl) hS (fun w' hS' => ?hv19) ?hh19
            case hv19 => (go_simp; (try with_reducible rfl); (try omega))
            simp only [Act.put, List.setIfInBounds_toArray, List.set_cons_zero, List.set_cons_succ]
            refine take_op 23 4 (.string (A ++ B ++ C ++ D ++ ks ++ bs)) rfl rfl (by kernel_rfl) (fun _ _ _ h => h) (by rfl) hS (fun w' hS' => ?hv20) ?hh20
            case hv20 => (go_simp; (try with_reducible rfl); (try omega))
            simp only [Act.put, List.setIfInBounds_toArray, List.set_cons_zero, List.set_cons_succ]
            refine wpAnyH_done (by kernel_rfl) ?_ _
            go_wp2_with fail
            go_meet
            exact ⟨rfl, hS.1⟩
          · simp only [Act.put, List.setIfInBounds_toArray, List.set_cons_zero, List.set_cons_succ]
            have hS := hS.below hb
            clear hb
            refine only_op 9 rfl (by kernel_rfl) (by rfl) (wp_made 21 (.slice (some ⟨Wdccc.heap.size, 0, none⟩) 1 1) rfl (w' := Wdccc.alloc (.cells #[.int .u8 (F : Int)] 5)) (by go_simp; try rfl) ⟨hS.below ((Below.refl _ _).alloc (Nat.le_refl _) _), ?_⟩)
            simp only [Act.put, List.setIfInBounds_toArray, List.set_cons_zero, List.set_cons_succ]
            have hx : Wdccc.heap.size < (Wdccc.alloc (.cells #[.int .u8 (F : Int)] 5)).heap.size := by simp
            have hS : RBox w g #[.int .i64 (o : Int), .int .i64 (t : Int), .string ks, .string bs, .int .i64 (q : Int), .bool gn] (Wdccc.alloc (.cells #[.int .u8 (F : Int)] 5)) ∧ (Wdccc.alloc (.cells #[.int .u8 (F : Int)] 5)).cell? ⟨Wdccc.heap.size, 0, none⟩ = some (.int .u8 (F : Int)) := ⟨hS.below ((Below.refl _ _).alloc (Nat.le_refl _) _), by rw [cell_of_row (Wdccc.alloc _) Wdccc.heap.size 0 _ _ (0, 0) (heap_alloc_new Wdccc _)]; rfl⟩
            have hcv := fun W h => conv_one (x := Wdccc.heap.size) F C hC W h
            generalize Wdccc.alloc _ = Wdcccm at hx hS ⊢
            generalize Wdccc.heap.size = x at hx hS hcv ⊢
            refine held_stronger (S' := fun W => RBox w g #[.int .i64 (o : Int), .int .i64 (t : Int), .string ks, .string bs, .int .i64 (q : Int), .bool gn] W ∧ W.cell? ⟨x, 0, none⟩ = some (.int .u8 (F : Int))) (fun _ h => h.1) _ _ _ _ ?_
            have hcv := fun W (h : RBox w g #[.int .i64 (o : Int), .int .i64 (t : Int), .string ks, .string bs, .int .i64 (q : Int), .bool gn] W ∧ W.cell? ⟨x, 0, none⟩ = some (.int .u8 (F : Int))) => hcv W h.2
            refine take_op 10 22 (.string C) rfl rfl (by kernel_rfl) (fun _ _ _ h => h) (by rfl) hS (fun w' hS' => ?hv21) ?hh21
            case hv21 => (have hc := hcv w' hS'; go_simp; try with_reducible rfl)
            simp only [Act.put, List.setIfInBounds_toArray, List.set_cons_zero, List.set_cons_succ]
            refine take_op 11 23 (.string (A ++ B ++ C)) rfl rfl (by kernel_rfl) (fun _ _ _ h => h) (by rfl) hS (fun w' hS' => ?hv22) ?hh22
            case hv22 => (go_simp; (try with_reducible rfl); (try omega))
            simp only [Act.put, List.setIfInBounds_toArray, List.set_cons_zero, List.set_cons_succ]
            refine take_op 16 28 (.string (A ++ B ++ C ++ D)) rfl rfl (by kernel_rfl) (fun _ _ _ h => h) (by rfl) hS (fun w' hS' => ?hv23) ?hh23
            case hv23 => (go_simp; (try with_reducible rfl); (try omega))
            simp only [Act.put, List.setIfInBounds_toArray, List.set_cons_zero, List.set_cons_succ]
            refine take_op 19 31 (.string (A ++ B ++ C ++ D ++ ks)) rfl rfl (by kernel_rfl) (fun _ _ _ h => h) (by rfl) hS (fun w' hS' => ?hv24) ?hh24
            case hv24 => (go_simp; (try with_reducible rfl); (try omega))
            simp only [Act.put, List.setIfInBounds_toArray, List.set_cons_zero, List.set_cons_succ]
            refine take_op 22 34 (.string (A ++ B ++ C ++ D ++ ks ++ bs)) rfl rfl (by kernel_rfl) (fun _ _ _ h => h) (by rfl) hS (fun w' hS' => ?hv25) ?hh25
            case hv25 => (go_simp; (try with_reducible rfl); (try omega))
            simp only [Act.put, List.setIfInBounds_toArray, List.set_cons_zero, List.set_cons_succ]
            refine take_op 23 4 (.string (A ++ B ++ C ++ D ++ ks ++ bs)) rfl rfl (by kernel_rfl) (fun _ _ _ h => h) (by rfl) hS (fun w' hS' => ?hv26) ?hh26
            case hv26 => (go_simp; (try with_reducible rfl); (try omega))
            simp only [Act.put, List.setIfInBounds_toArray, List.set_cons_zero, List.set_cons_succ]
            refine wpAnyH_done (by kernel_rfl) ?_ _
            go_wp2_with fail
            go_meet
            exact ⟨rfl, hS.1⟩
        · simp only [Act.put, List.setIfInBounds_toArray, List.set_cons_zero, List.set_cons_succ]
          have hx : Wdc.heap.size < (Wdc.alloc (.cells #[.int .u8 (F : Int)] 5)).heap.size := by simp
          have hS : RBox w g #[.int .i64 (o : Int), .int .i64 (t : Int), .string ks, .string bs, .int .i64 (q : Int), .bool gn] (Wdc.alloc (.cells #[.int .u8 (F : Int)] 5)) ∧ (Wdc.alloc (.cells #[.int .u8 (F : Int)] 5)).cell? ⟨Wdc.heap.size, 0, none⟩ = some (.int .u8 (F : Int)) := ⟨hS.below ((Below.refl _ _).alloc (Nat.le_refl _) _), by rw [cell_of_row (Wdc.alloc _) Wdc.heap.size 0 _ _ (0, 0) (heap_alloc_new Wdc _)]; rfl⟩
          have hcv := fun W h => conv_one (x := Wdc.heap.size) F C hC W h
          generalize Wdc.alloc _ = Wdcm at hx hS ⊢
          generalize Wdc.heap.size = x at hx hS hcv ⊢
          refine held_stronger (S' := fun W => RBox w g #[.int .i64 (o : Int), .int .i64 (t : Int), .string ks, .string bs, .int .i64 (q : Int), .bool gn] W ∧ W.cell? ⟨x, 0, none⟩ = some (.int .u8 (F : Int))) (fun _ h => h.1) _ _ _ _ ?_
          have hcv := fun W (h : RBox w g #[.int .i64 (o : Int), .int .i64 (t : Int), .string ks, .string bs, .int .i64 (q : Int), .bool gn] W ∧ W.cell? ⟨x, 0, none⟩ = some (.int .u8 (F : Int))) => hcv W h.2
          refine take_op 10 22 (.string C) rfl rfl (by kernel_rfl) (fun _ _ _ h => h) (by rfl) hS (fun w' hS' => ?hv27) ?hh27
          case hv27 => (have hc := hcv w' hS'; go_simp; try with_reducible rfl)
          simp only [Act.put, List.setIfInBounds_toArray, List.set_cons_zero, List.set_cons_succ]
          refine only_op 5 rfl (by kernel_rfl) (by rfl) (wp_call 17 37 #[.int .i64 (t : Int), .int .i64 8] (.string B) (fun W => Below Wdcm.heap.size Wdcm W) rfl (by go_simp) (HB.out Wdcm) (fun Wdcmc hb => ⟨⟨hS.1.below hb, (hb.cell (p := ⟨x, 0, none⟩) hx).trans hS.2⟩, ?_⟩))
          simp only [Act.put, List.setIfInBounds_toArray, List.set_cons_zero, List.set_cons_succ]
          have hS : RBox w g #[.int .i64 (o : Int), .int .i64 (t : Int), .string ks, .string bs, .int .i64 (q : Int), .bool gn] Wdcmc ∧ Wdcmc.cell? ⟨x, 0, none⟩ = some (.int .u8 (F : Int)) := ⟨hS.1.below hb, (hb.cell (p := ⟨x, 0, none⟩) hx).trans hS.2⟩
          have hx := Nat.lt_of_lt_of_le hx hb.size
          clear hb
          refine take_op 6 18 (.string (A ++ B)) rfl rfl (by kernel_rfl) (fun _ _ _ h => h) (by rfl) hS (fun w' hS' => ?hv28) ?hh28
          case hv28 => (go_simp; (try with_reducible rfl); (try omega))
          simp only [Act.put, List.setIfInBounds_toArray, List.set_cons_zero, List.set_cons_succ]
          refine take_op 11 23 (.string (A ++ B ++ C)) rfl rfl (by kernel_rfl) (fun _ _ _ h => h) (by rfl) hS (fun w' hS' => ?hv29) ?hh29
          case hv29 => (go_simp; (try with_reducible rfl); (try omega))
          simp only [Act.put, List.setIfInBounds_toArray, List.set_cons_zero, List.set_cons_succ]
          refine only_op 15 rfl (by kernel_rfl) (by rfl) (wp_call 27 37 #[.int .i64 (ks.size : Int), .int .i64 2] (.string D) (fun W => Below Wdcmc.heap.size Wdcmc W) rfl (by go_simp) (HD.out Wdcmc) (fun Wdcmcc hb => ⟨⟨hS.1.below hb, (hb.cell (p := ⟨x, 0, none⟩) hx).trans hS.2⟩, ?_⟩))
          simp only [Act.put, List.setIfInBounds_toArray, List.set_cons_zero, List.set_cons_succ]
          have hS : RBox w g #[.int .i64 (o : Int), .int .i64 (t : Int), .string ks, .string bs, .int .i64 (q : Int), .bool gn] Wdcmcc ∧ Wdcmcc.cell? ⟨x, 0, none⟩ = some (.int .u8 (F : Int)) := ⟨hS.1.below hb, (hb.cell (p := ⟨x, 0, none⟩) hx).trans hS.2⟩
          have hx := Nat.lt_of_lt_of_le hx hb.size
          clear hb
          refine take_op 16 28 (.string (A ++ B ++ C ++ D)) rfl rfl (by kernel_rfl) (fun _ _ _ h => h) (by rfl) hS (fun w' hS' => ?hv30) ?hh30
          case hv30 => (go_simp; (try with_reducible rfl); (try omega))
          simp only [Act.put, List.setIfInBounds_toArray, List.set_cons_zero, List.set_cons_succ]
          refine take_op 19 31 (.string (A ++ B ++ C ++ D ++ ks)) rfl rfl (by kernel_rfl) (fun _ _ _ h => h) (by rfl) hS (fun w' hS' => ?hv31) ?hh31
          case hv31 => (go_simp; (try with_reducible rfl); (try omega))
          simp only [Act.put, List.setIfInBounds_toArray, List.set_cons_zero, List.set_cons_succ]
          refine take_op 22 34 (.string (A ++ B ++ C ++ D ++ ks ++ bs)) rfl rfl (by kernel_rfl) (fun _ _ _ h => h) (by rfl) hS (fun w' hS' => ?hv32) ?hh32
          case hv32 => (go_simp; (try with_reducible rfl); (try omega))
          simp only [Act.put, List.setIfInBounds_toArray, List.set_cons_zero, List.set_cons_succ]
          refine take_op 23 4 (.string (A ++ B ++ C ++ D ++ ks ++ bs)) rfl rfl (by kernel_rfl) (fun _ _ _ h => h) (by rfl) hS (fun w' hS' => ?hv33) ?hh33
          case hv33 => (go_simp; (try with_reducible rfl); (try omega))
          simp only [Act.put, List.setIfInBounds_toArray, List.set_cons_zero, List.set_cons_succ]
          refine wpAnyH_done (by kernel_rfl) ?_ _
          go_wp2_with fail
          go_meet
          exact ⟨rfl, hS.1⟩
      · simp only [Act.put, List.setIfInBounds_toArray, List.set_cons_zero, List.set_cons_succ]
        have hx : Wd.heap.size < (Wd.alloc (.cells #[.int .u8 (F : Int)] 5)).heap.size := by simp
        have hS : RBox w g #[.int .i64 (o : Int), .int .i64 (t : Int), .string ks, .string bs, .int .i64 (q : Int), .bool gn] (Wd.alloc (.cells #[.int .u8 (F : Int)] 5)) ∧ (Wd.alloc (.cells #[.int .u8 (F : Int)] 5)).cell? ⟨Wd.heap.size, 0, none⟩ = some (.int .u8 (F : Int)) := ⟨hS.below ((Below.refl _ _).alloc (Nat.le_refl _) _), by rw [cell_of_row (Wd.alloc _) Wd.heap.size 0 _ _ (0, 0) (heap_alloc_new Wd _)]; rfl⟩
        have hcv := fun W h => conv_one (x := Wd.heap.size) F C hC W h
        generalize Wd.alloc _ = Wdm at hx hS ⊢
        generalize Wd.heap.size = x at hx hS hcv ⊢
        refine held_stronger (S' := fun W => RBox w g #[.int .i64 (o : Int), .int .i64 (t : Int), .string ks, .string bs, .int .i64 (q : Int), .bool gn] W ∧ W.cell? ⟨x, 0, none⟩ = some (.int .u8 (F : Int))) (fun _ h => h.1) _ _ _ _ ?_
        have hcv := fun W (h : RBox w g #[.int .i64 (o : Int), .int .i64 (t : Int), .string ks, .string bs, .int .i64 (q : Int), .bool gn] W ∧ W.cell? ⟨x, 0, none⟩ = some (.int .u8 (F : Int))) => hcv W h.2
        refine take_op 10 22 (.string C) rfl rfl (by kernel_rfl) (fun _ _ _ h => h) (by rfl) hS (fun w' hS' => ?hv34) ?hh34
        case hv34 => (have hc := hcv w' hS'; go_simp; try with_reducible rfl)
        simp only [Act.put, List.setIfInBounds_toArray, List.set_cons_zero, List.set_cons_succ]
        refine only_op 2 rfl (by kernel_rfl) (by rfl) (wp_call 14 37 #[.int .i64 (o : Int), .int .i64 8] (.string A) (fun W => Below Wdm.heap.size Wdm W) rfl (by go_simp) (HA.out Wdm) (fun Wdmc hb => ⟨⟨hS.1.below hb, (hb.cell (p := ⟨x, 0, none⟩) hx).trans hS.2⟩, ?_⟩))
        simp only [Act.put, List.setIfInBounds_toArray, List.set_cons_zero, List.set_cons_succ]
        have hS : RBox w g #[.int .i64 (o : Int), .int .i64 (t : Int), .string ks, .string bs, .int .i64 (q : Int), .bool gn] Wdmc ∧ Wdmc.cell? ⟨x, 0, none⟩ = some (.int .u8 (F : Int)) := ⟨hS.1.below hb, (hb.cell (p := ⟨x, 0, none⟩) hx).trans hS.2⟩
        have hx := Nat.lt_of_lt_of_le hx hb.size
        clear hb
        refine only_op 5 rfl (by kernel_rfl) (by rfl) (wp_call 17 37 #[.int .i64 (t : Int), .int .i64 8] (.string B) (fun W => Below Wdmc.heap.size Wdmc W) rfl (by go_simp) (HB.out Wdmc) (fun Wdmcc hb => ⟨⟨hS.1.below hb, (hb.cell (p := ⟨x, 0, none⟩) hx).trans hS.2⟩, ?_⟩))
        simp only [Act.put, List.setIfInBounds_toArray, List.set_cons_zero, List.set_cons_succ]
        have hS : RBox w g #[.int .i64 (o : Int), .int .i64 (t : Int), .string ks, .string bs, .int .i64 (q : Int), .bool gn] Wdmcc ∧ Wdmcc.cell? ⟨x, 0, none⟩ = some (.int .u8 (F : Int)) := ⟨hS.1.below hb, (hb.cell (p := ⟨x, 0, none⟩) hx).trans hS.2⟩
        have hx := Nat.lt_of_lt_of_le hx hb.size
        clear hb
        refine take_op 6 18 (.string (A ++ B)) rfl rfl (by kernel_rfl) (fun _ _ _ h => h) (by rfl) hS (fun w' hS' => ?hv35) ?hh35
        case hv35 => (go_simp; (try with_reducible rfl); (try omega))
        simp only [Act.put, List.setIfInBounds_toArray, List.set_cons_zero, List.set_cons_succ]
        refine take_op 11 23 (.string (A ++ B ++ C)) rfl rfl (by kernel_rfl) (fun _ _ _ h => h) (by rfl) hS (fun w' hS' => ?hv36) ?hh36
        case hv36 => (go_simp; (try with_reducible rfl); (try omega))
        simp only [Act.put, List.setIfInBounds_toArray, List.set_cons_zero, List.set_cons_succ]
        refine only_op 15 rfl (by kernel_rfl) (by rfl) (wp_call 27 37 #[.int .i64 (ks.size : Int), .int .i64 2] (.string D) (fun W => Below Wdmcc.heap.size Wdmcc W) rfl (by go_simp) (HD.out Wdmcc) (fun Wdmccc hb => ⟨⟨hS.1.below hb, (hb.cell (p := ⟨x, 0, none⟩) hx).trans hS.2⟩, ?_⟩))
        simp only [Act.put, List.setIfInBounds_toArray, List.set_cons_zero, List.set_cons_succ]
        have hS : RBox w g #[.int .i64 (o : Int), .int .i64 (t : Int), .string ks, .string bs, .int .i64 (q : Int), .bool gn] Wdmccc ∧ Wdmccc.cell? ⟨x, 0, none⟩ = some (.int .u8 (F : Int)) := ⟨hS.1.below hb, (hb.cell (p := ⟨x, 0, none⟩) hx).trans hS.2⟩
        have hx := Nat.lt_of_lt_of_le hx hb.size
        clear hb
        refine take_op 16 28 (.string (A ++ B ++ C ++ D)) rfl rfl (by kernel_rfl) (fun _ _ _ h => h) (by rfl) hS (fun w' hS' => ?hv37) ?hh37
        case hv37 => (go_simp; (try with_reducible rfl); (try omega))
        simp only [Act.put, List.setIfInBounds_toArray, List.set_cons_zero, List.set_cons_succ]
        refine take_op 19 31 (.string (A ++ B ++ C ++ D ++ ks)) rfl rfl (by kernel_rfl) (fun _ _ _ h => h) (by rfl) hS (fun w' hS' => ?hv38) ?hh38
        case hv38 => (go_simp; (try with_reducible rfl); (try omega))
        simp only [Act.put, List.setIfInBounds_toArray, List.set_cons_zero, List.set_cons_succ]
        refine take_op 22 34 (.string (A ++ B ++ C ++ D ++ ks ++ bs)) rfl rfl (by kernel_rfl) (fun _ _ _ h => h) (by rfl) hS (fun w' hS' => ?hv39) ?hh39
        case hv39 => (go_simp; (try with_reducible rfl); (try omega))
        simp only [Act.put, List.setIfInBounds_toArray, List.set_cons_zero, List.set_cons_succ]
        refine take_op 23 4 (.string (A ++ B ++ C ++ D ++ ks ++ bs)) rfl rfl (by kernel_rfl) (fun _ _ _ h => h) (by rfl) hS (fun w' hS' => ?hv40) ?hh40
        case hv40 => (go_simp; (try with_reducible rfl); (try omega))
        simp only [Act.put, List.setIfInBounds_toArray, List.set_cons_zero, List.set_cons_succ]
        refine wpAnyH_done (by kernel_rfl) ?_ _
        go_wp2_with fail
        go_meet
        exact ⟨rfl, hS.1⟩
    case rest =>
      obtain ⟨rfl, hbx⟩ := hcut
      have R1 := Lib.hid hbx
      clear hbx R0 HA HB HD
      obtain ⟨Y, hY⟩ : ∃ Y, A ++ B ++ C ++ D ++ ks ++ bs = Y := ⟨_, rfl⟩
      rw [hY] at HH HN hYz ⊢
      have HY := Lib.hid hY
      clear hY
      clear n1 n2 n3 n4 n5 n6
      go_wp2_with fail
      refine (HH.out _).mono ?_
      rintro e w2 ⟨rfl, hb2⟩
      have R2 := Lib.hid (R1.out.below hb2)
      clear hb2 R1 HH
      go_wp2_with fail
      refine (HN.out _).mono ?_
      rintro e w3 ⟨rfl, rfl⟩
      go_wp2_with fail
      refine (HZ.out _).mono ?_
      rintro e w3 ⟨rfl, hb3⟩
      have R3 := Lib.hid (R2.out.below hb3)
      clear hb3 R2 HZ HN
      go_wp2_with fail
      go_ret
      exact ⟨by rw [HY.out]; rfl, R3.out.out.2⟩
  · have d5 : W0.cell? ⟨g, 5, none⟩ = some (.bool false) := by rw [← Bool.eq_false_iff.2 hgn]; exact R0.out.cell 5
    have hFq : (q : Int) = (F : Int) := by rw [if_neg hgn] at hq; omega
    have HFq := Lib.hid hFq
    clear hq hgn hFq
    go_upto_region 4 with fail
    rw [HFq.out]
    clear HFq d4 d5
    go_cut [4] from 12 to 34 (fun s4 wx => s4 = .string (A ++ B ++ C ++ D ++ ks ++ bs) ∧ RBox w g #[.int .i64 (o : Int), .int .i64 (t : Int), .string ks, .string bs, .int .i64 (q : Int), .bool gn] wx)
    case first =>
      have hS0 := R0.out.drewN 1
      clear HH HN HZ R0
      refine wp_region_held_drew (S := fun W => RBox w g #[.int .i64 (o : Int), .int .i64 (t : Int), .string ks, .string bs, .int .i64 (q : Int), .bool gn] W) (by kernel_rfl) hS0 (fun hS => ?_)
      clear hS0
      generalize W0.drew = Wd at hS ⊢
      refine take_op 0 12 ?v41 rfl rfl (by kernel_rfl) (fun _ _ _ h => h) (by rfl) hS (fun w' hS' => ?hv41) ?hh41
      case hv41 => (go_simp; (try with_reducible rfl); (try omega))
      simp only [Act.put, List.setIfInBounds_toArray, List.set_cons_zero, List.set_cons_succ]
      refine take_op 1 13 ?v42 rfl rfl (by kernel_rfl) (fun _ _ _ h => h) (by rfl) hS (fun w' hS' => ?hv42) ?hh42
      case hv42 => (have d0 : w'.cell? ⟨g, 0, none⟩ = some (.int .i64 (o : Int)) := hS'.cell 0; go_simp; try with_reducible rfl)
      simp only [Act.put, List.setIfInBounds_toArray, List.set_cons_zero, List.set_cons_succ]
      refine take_op 3 15 ?v43 rfl rfl (by kernel_rfl) (fun _ _ _ h => h) (by rfl) hS (fun w' hS' => ?hv43) ?hh43
      case hv43 => (go_simp; (try with_reducible rfl); (try omega))
      simp only [Act.put, List.setIfInBounds_toArray, List.set_cons_zero, List.set_cons_succ]
      refine take_op 4 16 ?v44 rfl rfl (by kernel_rfl) (fun _ _ _ h => h) (by rfl) hS (fun w' hS' => ?hv44) ?hh44
      case hv44 => (have d1 : w'.cell? ⟨g, 1, none⟩ = some (.int .i64 (t : Int)) := hS'.cell 1; go_simp; try with_reducible rfl)
      simp only [Act.put, List.setIfInBounds_toArray, List.set_cons_zero, List.set_cons_succ]
      refine take_op 7 19 ?v45 rfl rfl (by kernel_rfl) (fun _ _ _ h => h) (by rfl) hS (fun w' hS' => ?hv45) ?hh45
      case hv45 => (go_simp; (try with_reducible rfl); (try omega))
      simp only [Act.put, List.setIfInBounds_toArray, List.set_cons_zero, List.set_cons_succ]
      refine take_op 8 20 (.int .u8 (F : Int)) rfl rfl (by kernel_rfl) (fun _ _ _ h => h) (by rfl) hS (fun w' hS' => ?hv46) ?hh46
      case hv46 => (go_simp; (try with_reducible rfl); (try omega))
      simp only [Act.put, List.setIfInBounds_toArray, List.set_cons_zero, List.set_cons_succ]
      refine take_op 12 24 ?v47 rfl rfl (by kernel_rfl) (fun _ _ _ h => h) (by rfl) hS (fun w' hS' => ?hv47) ?hh47
      case hv47 => (go_simp; (try with_reducible rfl); (try omega))
      simp only [Act.put, List.setIfInBounds_toArray, List.set_cons_zero, List.set_cons_succ]
      refine take_op 13 25 ?v48 rfl rfl (by kernel_rfl) (fun _ _ _ h => h) (by rfl) hS (fun w' hS' => ?hv48) ?hh48
      case hv48 => (have d2 : w'.cell? ⟨g, 2, none⟩ = some (.string ks) := hS'.cell 2; go_simp; try with_reducible rfl)
      simp only [Act.put, List.setIfInBounds_toArray, List.set_cons_zero, List.set_cons_succ]
      refine take_op 14 26 ?v49 rfl rfl (by kernel_rfl) (fun _ _ _ h => h) (by rfl) hS (fun w' hS' => ?hv49) ?hh49
      case hv49 => (go_simp; (try with_reducible rfl); (try omega))
      simp only [Act.put, List.setIfInBounds_toArray, List.set_cons_zero, List.set_cons_succ]
      refine take_op 17 29 ?v50 rfl rfl (by kernel_rfl) (fun _ _ _ h => h) (by rfl) hS (fun w' hS' => ?hv50) ?hh50
      case hv50 => (go_simp; (try with_reducible rfl); (try omega))
      simp only [Act.put, List.setIfInBounds_toArray, List.set_cons_zero, List.set_cons_succ]
      refine take_op 18 30 ?v51 rfl rfl (by kernel_rfl) (fun _ _ _ h => h) (by rfl) hS (fun w' hS' => ?hv51) ?hh51
      case hv51 => (have d2 : w'.cell? ⟨g, 2, none⟩ = some (.string ks) := hS'.cell 2; go_simp; try with_reducible rfl)
      simp only [Act.put, List.setIfInBounds_toArray, List.set_cons_zero, List.set_cons_succ]
      refine take_op 20 32 ?v52 rfl rfl (by kernel_rfl) (fun _ _ _ h => h) (by rfl) hS (fun w' hS' => ?hv52) ?hh52
      case hv52 => (go_simp; (try with_reducible rfl); (try omega))
      simp only [Act.put, List.setIfInBounds_toArray, List.set_cons_zero, List.set_cons_succ]
      refine take_op 21 33 ?v53 rfl rfl (by kernel_rfl) (fun _ _ _ h => h) (by rfl) hS (fun w' hS' => ?hv53) ?hh53
      case hv53 => (have d3 : w'.cell? ⟨g, 3, none⟩ = some (.string bs) := hS'.cell 3; go_simp; try with_reducible rfl)
      simp only [Act.put, List.setIfInBounds_toArray, List.set_cons_zero, List.set_cons_succ]
      refine two_ops 2 9 rfl rfl (by kernel_rfl) (by rfl) (by rfl) (wp_call 14 37 #[.int .i64 (o : Int), .int .i64 8] (.string A) (fun W => Below Wd.heap.size Wd W) rfl (by go_simp) (HA.out Wd) (fun Wdc hb => ⟨hS.below hb, ?_⟩)) (wp_made 21 (.slice (some ⟨Wd.heap.size, 0, none⟩) 1 1) rfl (w' := Wd.alloc (.cells #[.int .u8 (F : Int)] 5)) (by go_simp; try rfl) ⟨hS.below ((Below.refl _ _).alloc (Nat.le_refl _) _), ?_⟩)
      · simp only [Act.put, List.setIfInBounds_toArray, List.set_cons_zero, List.set_cons_succ]
        have hS := hS.below hb
        clear hb
        refine two_ops 5 9 rfl rfl (by kernel_rfl) (by rfl) (by rfl) (wp_call 17 37 #[.int .i64 (t : Int), .int .i64 8] (.string B) (fun W => Below Wdc.heap.size Wdc W) rfl (by go_simp) (HB.out Wdc) (fun Wdcc hb => ⟨hS.below hb, ?_⟩)) (wp_made 21 (.slice (some ⟨Wdc.heap.size, 0, none⟩) 1 1) rfl (w' := Wdc.alloc (.cells #[.int .u8 (F : Int)] 5)) (by go_simp; try rfl) ⟨hS.below ((Below.refl _ _).alloc (Nat.le_refl _) _), ?_⟩)
        · simp only [Act.put, List.setIfInBounds_toArray, List.set_cons_zero, List.set_cons_succ]
          have hS := hS.below hb
          clear hb
          refine take_op 6 18 (.string (A ++ B)) rfl rfl (by kernel_rfl) (fun _ _ _ h => h) (by rfl) hS (fun w' hS' => ?hv54) ?hh54
          case hv54 => (go_simp; (try with_reducible rfl); (try omega))
          simp only [Act.put, List.setIfInBounds_toArray, List.set_cons_zero, List.set_cons_succ]
          refine two_ops 9 15 rfl rfl (by kernel_rfl) (by rfl) (by rfl) (wp_made 21 (.slice (some ⟨Wdcc.heap.size, 0, none⟩) 1 1) rfl (w' := Wdcc.alloc (.cells #[.int .u8 (F : Int)] 5)) (by go_simp; try rfl) ⟨hS.below ((Below.refl _ _).alloc (Nat.le_refl _) _), ?_⟩) (wp_call 27 37 #[.int .i64 (ks.size : Int), .int .i64 2] (.string D) (fun W => Below Wdcc.heap.size Wdcc W) rfl (by go_simp) (HD.out Wdcc) (fun Wdccc hb => ⟨hS.below hb, ?_⟩))
          · simp only [Act.put, List.setIfInBounds_toArray, List.set_cons_zero, List.set_cons_succ]
            have hx : Wdcc.heap.size < (Wdcc.alloc (.cells #[.int .u8 (F : Int)] 5)).heap.size := by simp
            have hS : RBox w g #[.int .i64 (o : Int), .int .i64 (t : Int), .string ks, .string bs, .int .i64 (q : Int), .bool gn] (Wdcc.alloc (.cells #[.int .u8 (F : Int)] 5)) ∧ (Wdcc.alloc (.cells #[.int .u8 (F : Int)] 5)).cell? ⟨Wdcc.heap.size, 0, none⟩ = some (.int .u8 (F : Int)) := ⟨hS.below ((Below.refl _ _).alloc (Nat.le_refl _) _), by rw [cell_of_row (Wdcc.alloc _) Wdcc.heap.size 0 _ _ (0, 0) (heap_alloc_new Wdcc _)]; rfl⟩
            have hcv := fun W h => conv_one (x := Wdcc.heap.size) F C hC W h
            generalize Wdcc.alloc _ = Wdccm at hx hS ⊢
            generalize Wdcc.heap.size = x at hx hS hcv ⊢
            refine held_stronger (S' := fun W => RBox w g #[.int .i64 (o : Int), .int .i64 (t : Int), .string ks, .string bs, .int .i64 (q : Int), .bool gn] W ∧ W.cell? ⟨x, 0, none⟩ = some (.int .u8 (F : Int))) (fun _ h => h.1) _ _ _ _ ?_
            have hcv := fun W (h : RBox w g #[.int .i64 (o : Int), .int .i64 (t : Int), .string ks, .string bs, .int .i64 (q : Int), .bool gn] W ∧ W.cell? ⟨x, 0, none⟩ = some (.int .u8 (F : Int))) => hcv W h.2
            refine take_op 10 22 (.string C) rfl rfl (by kernel_rfl) (fun _ _ _ h => h) (by rfl) hS (fun w' hS' => ?hv55) ?hh55
            case hv55 => (have hc := hcv w' hS'; go_simp; try with_reducible rfl)
            simp only [Act.put, List.setIfInBounds_toArray, List.set_cons_zero, List.set_cons_succ]
            refine take_op 11 23 (.string (A ++ B ++ C)) rfl rfl (by kernel_rfl) (fun _ _ _ h => h) (by rfl) hS (fun w' hS' => ?hv56) ?hh56
            case hv56 => (go_simp; (try with_reducible rfl); (try omega))
            simp only [Act.put, List.setIfInBounds_toArray, List.set_cons_zero, List.set_cons_succ]
            refine only_op 15 rfl (by kernel_rfl) (by rfl) (wp_call 27 37 #[.int .i64 (ks.size : Int), .int .i64 2] (.string D) (fun W => Below Wdccm.heap.size Wdccm W) rfl (by go_simp) (HD.out Wdccm) (fun Wdccmc hb => ⟨⟨hS.1.below hb, (hb.cell (p := ⟨x, 0, none⟩) hx).trans hS.2⟩, ?_⟩))
            simp only [Act.put, List.setIfInBounds_toArray, List.set_cons_zero, List.set_cons_succ]
            have hS : RBox w g #[.int .i64 (o : Int), .int .i64 (t : Int), .string ks, .string bs, .int .i64 (q : Int), .bool gn] Wdccmc ∧ Wdccmc.cell? ⟨x, 0, none⟩ = some (.int .u8 (F : Int)) := ⟨hS.1.below hb, (hb.cell (p := ⟨x, 0, none⟩) hx).trans hS.2⟩
            have hx := Nat.lt_of_lt_of_le hx hb.size
            clear hb
            refine take_op 16 28 (.string (A ++ B ++ C ++ D)) rfl rfl (by kernel_rfl) (fun _ _ _ h => h) (by rfl) hS (fun w' hS' => ?hv57) ?hh57
            case hv57 => (go_simp; (try with_reducible rfl); (try omega))
            simp only [Act.put, List.setIfInBounds_toArray, List.set_cons_zero, List.set_cons_succ]
            refine take_op 19 31 (.string (A ++ B ++ C ++ D ++ ks)) rfl rfl (by kernel_rfl) (fun _ _ _ h => h) (by rfl) hS (fun w' hS' => ?hv58) ?hh58
            case hv58 => (go_simp; (try with_reducible rfl); (try omega))
            simp only [Act.put, List.setIfInBounds_toArray, List.set_cons_zero, List.set_cons_succ]
            refine take_op 22 34 (.string (A ++ B ++ C ++ D ++ ks ++ bs)) rfl rfl (by kernel_rfl) (fun _ _ _ h => h) (by rfl) hS (fun w' hS' => ?hv59) ?hh59
            case hv59 => (go_simp; (try with_reducible rfl); (try omega))
            simp only [Act.put, List.setIfInBounds_toArray, List.set_cons_zero, List.set_cons_succ]
            refine take_op 23 4 (.string (A ++ B ++ C ++ D ++ ks ++ bs)) rfl rfl (by kernel_rfl) (fun _ _ _ h => h) (by rfl) hS (fun w' hS' => ?hv60) ?hh60
            case hv60 => (go_simp; (try with_reducible rfl); (try omega))
            simp only [Act.put, List.setIfInBounds_toArray, List.set_cons_zero, List.set_cons_succ]
            refine wpAnyH_done (by kernel_rfl) ?_ _
            go_wp2_with fail
            go_meet
            exact ⟨rfl, hS.1⟩
          · simp only [Act.put, List.setIfInBounds_toArray, List.set_cons_zero, List.set_cons_succ]
            have hS := hS.below hb
            clear hb
            refine only_op 9 rfl (by kernel_rfl) (by rfl) (wp_made 21 (.slice (some ⟨Wdccc.heap.size, 0, none⟩) 1 1) rfl (w' := Wdccc.alloc (.cells #[.int .u8 (F : Int)] 5)) (by go_simp; try rfl) ⟨hS.below ((Below.refl _ _).alloc (Nat.le_refl _) _), ?_⟩)
            simp only [Act.put, List.setIfInBounds_toArray, List.set_cons_zero, List.set_cons_succ]
            have hx : Wdccc.heap.size < (Wdccc.alloc (.cells #[.int .u8 (F : Int)] 5)).heap.size := by simp
            have hS : RBox w g #[.int .i64 (o : Int), .int .i64 (t : Int), .string ks, .string bs, .int .i64 (q : Int), .bool gn] (Wdccc.alloc (.cells #[.int .u8 (F : Int)] 5)) ∧ (Wdccc.alloc (.cells #[.int .u8 (F : Int)] 5)).cell? ⟨Wdccc.heap.size, 0, none⟩ = some (.int .u8 (F : Int)) := ⟨hS.below ((Below.refl _ _).alloc (Nat.le_refl _) _), by rw [cell_of_row (Wdccc.alloc _) Wdccc.heap.size 0 _ _ (0, 0) (heap_alloc_new Wdccc _)]; rfl⟩
            have hcv := fun W h => conv_one (x := Wdccc.heap.size) F C hC W h
            generalize Wdccc.alloc _ = Wdcccm at hx hS ⊢
            generalize Wdccc.heap.size = x at hx hS hcv ⊢
            refine held_stronger (S' := fun W => RBox w g #[.int .i64 (o : Int), .int .i64 (t : Int), .string ks, .string bs, .int .i64 (q : Int), .bool gn] W ∧ W.cell? ⟨x, 0, none⟩ = some (.int .u8 (F : Int))) (fun _ h => h.1) _ _ _ _ ?_
            have hcv := fun W (h : RBox w g #[.int .i64 (o : Int), .int .i64 (t : Int), .string ks, .string bs, .int .i64 (q : Int), .bool gn] W ∧ W.cell? ⟨x, 0, none⟩ = some (.int .u8 (F : Int))) => hcv W h.2
            refine take_op 10 22 (.string C) rfl rfl (by kernel_rfl) (fun _ _ _ h => h) (by rfl) hS (fun w' hS' => ?hv61) ?hh61
            case hv61 => (have hc := hcv w' hS'; go_simp; try with_reducible rfl)
            simp only [Act.put, List.setIfInBounds_toArray, List.set_cons_zero, List.set_cons_succ]
            refine take_op 11 23 (.string (A ++ B ++ C)) rfl rfl (by kernel_rfl) (fun _ _ _ h => h) (by rfl) hS (fun w' hS' => ?hv62) ?hh62
            case hv62 => (go_simp; (try with_reducible rfl); (try omega))
            simp only [Act.put, List.setIfInBounds_toArray, List.set_cons_zero, List.set_cons_succ]
            refine take_op 16 28 (.string (A ++ B ++ C ++ D)) rfl rfl (by kernel_rfl) (fun _ _ _ h => h) (by rfl) hS (fun w' hS' => ?hv63) ?hh63
            case hv63 => (go_simp; (try with_reducible rfl); (try omega))
            simp only [Act.put, List.setIfInBounds_toArray, List.set_cons_zero, List.set_cons_succ]
            refine take_op 19 31 (.string (A ++ B ++ C ++ D ++ ks)) rfl rfl (by kernel_rfl) (fun _ _ _ h => h) (by rfl) hS (fun w' hS' => ?hv64) ?hh64
            case hv64 => (go_simp; (try with_reducible rfl); (try omega))
            simp only [Act.put, List.setIfInBounds_toArray, List.set_cons_zero, List.set_cons_succ]
            refine take_op 22 34 (.string (A ++ B ++ C ++ D ++ ks ++ bs)) rfl rfl (by kernel_rfl) (fun _ _ _ h => h) (by rfl) hS (fun w' hS' => ?hv65) ?hh65
            case hv65 => (go_simp; (try with_reducible rfl); (try omega))
            simp only [Act.put, List.setIfInBounds_toArray, List.set_cons_zero, List.set_cons_succ]
            refine take_op 23 4 (.string (A ++ B ++ C ++ D ++ ks ++ bs)) rfl rfl (by kernel_rfl) (fun _ _ _ h => h) (by rfl) hS (fun w' hS' => ?hv66) ?hh66
            case hv66 => (go_simp; (try with_reducible rfl); (try omega))
            simp only [Act.put, List.setIfInBounds_toArray, List.set_cons_zero, List.set_cons_succ]
            refine wpAnyH_done (by kernel_rfl) ?_ _
            go_wp2_with fail
            go_meet
            exact ⟨rfl, hS.1⟩
        · simp only [Act.put, List.setIfInBounds_toArray, List.set_cons_zero, List.set_cons_succ]
          have hx : Wdc.heap.size < (Wdc.alloc (.cells #[.int .u8 (F : Int)] 5)).heap.size := by simp
          have hS : RBox w g #[.int .i64 (o : Int), .int .i64 (t : Int), .string ks, .string bs, .int .i64 (q : Int), .bool gn] (Wdc.alloc (.cells #[.int .u8 (F : Int)] 5)) ∧ (Wdc.alloc (.cells #[.int .u8 (F : Int)] 5)).cell? ⟨Wdc.heap.size, 0, none⟩ = some (.int .u8 (F : Int)) := ⟨hS.below ((Below.refl _ _).alloc (Nat.le_refl _) _), by rw [cell_of_row (Wdc.alloc _) Wdc.heap.size 0 _ _ (0, 0) (heap_alloc_new Wdc _)]; rfl⟩
          have hcv := fun W h => conv_one (x := Wdc.heap.size) F C hC W h
          generalize Wdc.alloc _ = Wdcm at hx hS ⊢
          generalize Wdc.heap.size = x at hx hS hcv ⊢
          refine held_stronger (S' := fun W => RBox w g #[.int .i64 (o : Int), .int .i64 (t : Int), .string ks, .string bs, .int .i64 (q : Int), .bool gn] W ∧ W.cell? ⟨x, 0, none⟩ = some (.int .u8 (F : Int))) (fun _ h => h.1) _ _ _ _ ?_
          have hcv := fun W (h : RBox w g #[.int .i64 (o : Int), .int .i64 (t : Int), .string ks, .string bs, .int .i64 (q : Int), .bool gn] W ∧ W.cell? ⟨x, 0, none⟩ = some (.int .u8 (F : Int))) => hcv W h.2
          refine take_op 10 22 (.string C) rfl rfl (by kernel_rfl) (fun _ _ _ h => h) (by rfl) hS (fun w' hS' => ?hv67) ?hh67
          case hv67 => (have hc := hcv w' hS'; go_simp; try with_reducible rfl)
          simp only [Act.put, List.setIfInBounds_toArray, List.set_cons_zero, List.set_cons_succ]
          refine only_op 5 rfl (by kernel_rfl) (by rfl) (wp_call 17 37 #[.int .i64 (t : Int), .int .i64 8] (.string B) (fun W => Below Wdcm.heap.size Wdcm W) rfl (by go_simp) (HB.out Wdcm) (fun Wdcmc hb => ⟨⟨hS.1.below hb, (hb.cell (p := ⟨x, 0, none⟩) hx).trans hS.2⟩, ?_⟩))
          simp only [Act.put, List.setIfInBounds_toArray, List.set_cons_zero, List.set_cons_succ]
          have hS : RBox w g #[.int .i64 (o : Int), .int .i64 (t : Int), .string ks, .string bs, .int .i64 (q : Int), .bool gn] Wdcmc ∧ Wdcmc.cell? ⟨x, 0, none⟩ = some (.int .u8 (F : Int)) := ⟨hS.1.below hb, (hb.cell (p := ⟨x, 0, none⟩) hx).trans hS.2⟩
          have hx := Nat.lt_of_lt_of_le hx hb.size
          clear hb
          refine take_op 6 18 (.string (A ++ B)) rfl rfl (by kernel_rfl) (fun _ _ _ h => h) (by rfl) hS (fun w' hS' => ?hv68) ?hh68
          case hv68 => (go_simp; (try with_reducible rfl); (try omega))
          simp only [Act.put, List.setIfInBounds_toArray, List.set_cons_zero, List.set_cons_succ]
          refine take_op 11 23 (.string (A ++ B ++ C)) rfl rfl (by kernel_rfl) (fun _ _ _ h => h) (by rfl) hS (fun w' hS' => ?hv69) ?hh69
          case hv69 => (go_simp; (try with_reducible rfl); (try omega))
          simp only [Act.put, List.setIfInBounds_toArray, List.set_cons_zero, List.set_cons_succ]
          refine only_op 15 rfl (by kernel_rfl) (by rfl) (wp_call 27 37 #[.int .i64 (ks.size : Int), .int .i64 2] (.string D) (fun W => Below Wdcmc.heap.size Wdcmc W) rfl (by go_simp) (HD.out Wdcmc) (fun Wdcmcc hb => ⟨⟨hS.1.below hb, (hb.cell (p := ⟨x, 0, none⟩) hx).trans hS.2⟩, ?_⟩))
          simp only [Act.put, List.setIfInBounds_toArray, List.set_cons_zero, List.set_cons_succ]
          have hS : RBox w g #[.int .i64 (o : Int), .int .i64 (t : Int), .string ks, .string bs, .int .i64 (q : Int), .bool gn] Wdcmcc ∧ Wdcmcc.cell? ⟨x, 0, none⟩ = some (.int .u8 (F : Int)) := ⟨hS.1.below hb, (hb.cell (p := ⟨x, 0, none⟩) hx).trans hS.2⟩
          have hx := Nat.lt_of_lt_of_le hx hb.size
          clear hb
          refine take_op 16 28 (.string (A ++ B ++ C ++ D)) rfl rfl (by kernel_rfl) (fun _ _ _ h => h) (by rfl) hS (fun w' hS' => ?hv70) ?hh70
          case hv70 => (go_simp; (try with_reducible rfl); (try omega))
          simp only [Act.put, List.setIfInBounds_toArray, List.set_cons_zero, List.set_cons_succ]
          refine take_op 19 31 (.string (A ++ B ++ C ++ D ++ ks)) rfl rfl (by kernel_rfl) (fun _ _ _ h => h) (by rfl) hS (fun w' hS' => ?hv71) ?hh71
          case hv71 => (go_simp; (try with_reducible rfl); (try omega))
          simp only [Act.put, List.setIfInBounds_toArray, List.set_cons_zero, List.set_cons_succ]
          refine take_op 22 34 (.string (A ++ B ++ C ++ D ++ ks ++ bs)) rfl rfl (by kernel_rfl) (fun _ _ _ h => h) (by rfl) hS (fun w' hS' => ?hv72) ?hh72
          case hv72 => (go_simp; (try with_reducible rfl); (try omega))
          simp only [Act.put, List.setIfInBounds_toArray, List.set_cons_zero, List.set_cons_succ]
          refine take_op 23 4 (.string (A ++ B ++ C ++ D ++ ks ++ bs)) rfl rfl (by kernel_rfl) (fun _ _ _ h => h) (by rfl) hS (fun w' hS' => ?hv73) ?hh73
          case hv73 => (go_simp; (try with_reducible rfl); (try omega))
          simp only [Act.put, List.setIfInBounds_toArray, List.set_cons_zero, List.set_cons_succ]
          refine wpAnyH_done (by kernel_rfl) ?_ _
          go_wp2_with fail
          go_meet
          exact ⟨rfl, hS.1⟩
      · simp only [Act.put, List.setIfInBounds_toArray, List.set_cons_zero, List.set_cons_succ]
        have hx : Wd.heap.size < (Wd.alloc (.cells #[.int .u8 (F : Int)] 5)).heap.size := by simp
        have hS : RBox w g #[.int .i64 (o : Int), .int .i64 (t : Int), .string ks, .string bs, .int .i64 (q : Int), .bool gn] (Wd.alloc (.cells #[.int .u8 (F : Int)] 5)) ∧ (Wd.alloc (.cells #[.int .u8 (F : Int)] 5)).cell? ⟨Wd.heap.size, 0, none⟩ = some (.int .u8 (F : Int)) := ⟨hS.below ((Below.refl _ _).alloc (Nat.le_refl _) _), by rw [cell_of_row (Wd.alloc _) Wd.heap.size 0 _ _ (0, 0) (heap_alloc_new Wd _)]; rfl⟩
        have hcv := fun W h => conv_one (x := Wd.heap.size) F C hC W h
        generalize Wd.alloc _ = Wdm at hx hS ⊢
        generalize Wd.heap.size = x at hx hS hcv ⊢
        refine held_stronger (S' := fun W => RBox w g #[.int .i64 (o : Int), .int .i64 (t : Int), .string ks, .string bs, .int .i64 (q : Int), .bool gn] W ∧ W.cell? ⟨x, 0, none⟩ = some (.int .u8 (F : Int))) (fun _ h => h.1) _ _ _ _ ?_
        have hcv := fun W (h : RBox w g #[.int .i64 (o : Int), .int .i64 (t : Int), .string ks, .string bs, .int .i64 (q : Int), .bool gn] W ∧ W.cell? ⟨x, 0, none⟩ = some (.int .u8 (F : Int))) => hcv W h.2
        refine take_op 10 22 (.string C) rfl rfl (by kernel_rfl) (fun _ _ _ h => h) (by rfl) hS (fun w' hS' => ?hv74) ?hh74
        case hv74 => (have hc := hcv w' hS'; go_simp; try with_reducible rfl)
        simp only [Act.put, List.setIfInBounds_toArray, List.set_cons_zero, List.set_cons_succ]
        refine only_op 2 rfl (by kernel_rfl) (by rfl) (wp_call 14 37 #[.int .i64 (o : Int), .int .i64 8] (.string A) (fun W => Below Wdm.heap.size Wdm W) rfl (by go_simp) (HA.out Wdm) (fun Wdmc hb => ⟨⟨hS.1.below hb, (hb.cell (p := ⟨x, 0, none⟩) hx).trans hS.2⟩, ?_⟩))
        simp only [Act.put, List.setIfInBounds_toArray, List.set_cons_zero, List.set_cons_succ]
        have hS : RBox w g #[.int .i64 (o : Int), .int .i64 (t : Int), .string ks, .string bs, .int .i64 (q : Int), .bool gn] Wdmc ∧ Wdmc.cell? ⟨x, 0, none⟩ = some (.int .u8 (F : Int)) := ⟨hS.1.below hb, (hb.cell (p := ⟨x, 0, none⟩) hx).trans hS.2⟩
        have hx := Nat.lt_of_lt_of_le hx hb.size
        clear hb
        refine only_op 5 rfl (by kernel_rfl) (by rfl) (wp_call 17 37 #[.int .i64 (t : Int), .int .i64 8] (.string B) (fun W => Below Wdmc.heap.size Wdmc W) rfl (by go_simp) (HB.out Wdmc) (fun Wdmcc hb => ⟨⟨hS.1.below hb, (hb.cell (p := ⟨x, 0, none⟩) hx).trans hS.2⟩, ?_⟩))
        simp only [Act.put, List.setIfInBounds_toArray, List.set_cons_zero, List.set_cons_succ]
        have hS : RBox w g #[.int .i64 (o : Int), .int .i64 (t : Int), .string ks, .string bs, .int .i64 (q : Int), .bool gn] Wdmcc ∧ Wdmcc.cell? ⟨x, 0, none⟩ = some (.int .u8 (F : Int)) := ⟨hS.1.below hb, (hb.cell (p := ⟨x, 0, none⟩) hx).trans hS.2⟩
        have hx := Nat.lt_of_lt_of_le hx hb.size
        clear hb
        refine take_op 6 18 (.string (A ++ B)) rfl rfl (by kernel_rfl) (fun _ _ _ h => h) (by rfl) hS (fun w' hS' => ?hv75) ?hh75
        case hv75 => (go_simp; (try with_reducible rfl); (try omega))
        simp only [Act.put, List.setIfInBounds_toArray, List.set_cons_zero, List.set_cons_succ]
        refine take_op 11 23 (.string (A ++ B ++ C)) rfl rfl (by kernel_rfl) (fun _ _ _ h => h) (by rfl) hS (fun w' hS' => ?hv76) ?hh76
        case hv76 => (go_simp; (try with_reducible rfl); (try omega))
        simp only [Act.put, List.setIfInBounds_toArray, List.set_cons_zero, List.set_cons_succ]
        refine only_op 15 rfl (by kernel_rfl) (by rfl) (wp_call 27 37 #[.int .i64 (ks.size : Int), .int .i64 2] (.string D) (fun W => Below Wdmcc.heap.size Wdmcc W) rfl (by go_simp) (HD.out Wdmcc) (fun Wdmccc hb => ⟨⟨hS.1.below hb, (hb.cell (p := ⟨x, 0, none⟩) hx).trans hS.2⟩, ?_⟩))
        simp only [Act.put, List.setIfInBounds_toArray, List.set_cons_zero, List.set_cons_succ]
        have hS : RBox w g #[.int .i64 (o : Int), .int .i64 (t : Int), .string ks, .string bs, .int .i64 (q : Int), .bool gn] Wdmccc ∧ Wdmccc.cell? ⟨x, 0, none⟩ = some (.int .u8 (F : Int)) := ⟨hS.1.below hb, (hb.cell (p := ⟨x, 0, none⟩) hx).trans hS.2⟩
        have hx := Nat.lt_of_lt_of_le hx hb.size
        clear hb
        refine take_op 16 28 (.string (A ++ B ++ C ++ D)) rfl rfl (by kernel_rfl) (fun _ _ _ h => h) (by rfl) hS (fun w' hS' => ?hv77) ?hh77
        case hv77 => (go_simp; (try with_reducible rfl); (try omega))
        simp only [Act.put, List.setIfInBounds_toArray, List.set_cons_zero, List.set_cons_succ]
        refine take_op 19 31 (.string (A ++ B ++ C ++ D ++ ks)) rfl rfl (by kernel_rfl) (fun _ _ _ h => h) (by rfl) hS (fun w' hS' => ?hv78) ?hh78
        case hv78 => (go_simp; (try with_reducible rfl); (try omega))
        simp only [Act.put, List.setIfInBounds_toArray, List.set_cons_zero, List.set_cons_succ]
        refine take_op 22 34 (.string (A ++ B ++ C ++ D ++ ks ++ bs)) rfl rfl (by kernel_rfl) (fun _ _ _ h => h) (by rfl) hS (fun w' hS' => ?hv79) ?hh79
        case hv79 => (go_simp; (try with_reducible rfl); (try omega))
        simp only [Act.put, List.setIfInBounds_toArray, List.set_cons_zero, List.set_cons_succ]
        refine take_op 23 4 (.string (A ++ B ++ C ++ D ++ ks ++ bs)) rfl rfl (by kernel_rfl) (fun _ _ _ h => h) (by rfl) hS (fun w' hS' => ?hv80) ?hh80
        case hv80 => (go_simp; (try with_reducible rfl); (try omega))
        simp only [Act.put, List.setIfInBounds_toArray, List.set_cons_zero, List.set_cons_succ]
        refine wpAnyH_done (by kernel_rfl) ?_ _
        go_wp2_with fail
        go_meet
        exact ⟨rfl, hS.1⟩
    case rest =>
      obtain ⟨rfl, hbx⟩ := hcut
      have R1 := Lib.hid hbx
      clear hbx R0 HA HB HD
      obtain ⟨Y, hY⟩ : ∃ Y, A ++ B ++ C ++ D ++ ks ++ bs = Y := ⟨_, rfl⟩
      rw [hY] at HH HN hYz ⊢
      have HY := Lib.hid hY
      clear hY
      clear n1 n2 n3 n4 n5 n6
      go_wp2_with fail
      refine (HH.out _).mono ?_
      rintro e w2 ⟨rfl, hb2⟩
      have R2 := Lib.hid (R1.out.below hb2)
      clear hb2 R1 HH
      go_wp2_with fail
      refine (HN.out _).mono ?_
      rintro e w3 ⟨rfl, rfl⟩
      go_wp2_with fail
      refine (HZ.out _).mono ?_
      rintro e w3 ⟨rfl, hb3⟩
      have R3 := Lib.hid (R2.out.below hb3)
      clear hb3 R2 HZ HN
      go_wp2_with fail
      go_ret
      exact ⟨by rw [HY.out]; rfl, R3.out.out.2⟩
end Go.Proofs.YthhpmhibkbndhaaDoor
/- The document's own answer: the bytes of a record that may be. -/
namespace Go.Proofs.YthhpmhibkbndhaaDoor
open Go.RowKit Go.Lib Vbi Rcd Crc

theorem RBytes_is (r : Rc) (S : ByteArray) (w : World) (h : mayB r = true) (hS : str (recL r) = S) :
    Calls Tryd.prog 20 #[ragg r] w fun e w' => e = .returned (.string S) ∧ Below w.heap.size w w' := by
  have hf := flag_lt h
  have hbl := body_len r
  obtain ⟨h1, h2, h3, h4, h5, h6, h7, h8, h9⟩ := (may_iff _).1 h
  have hY : str (fx 8 r.o.toNat) ++ str (fx 8 r.t.toNat) ++ strOfNums [((flagN r : Nat) : Int)] ++ str (fx 2 (str r.k).size) ++ str r.k ++ str r.b = str (bodyL r) := by
    rw [byte_str _ (by omega), str_size, str_add, str_add, str_add, str_add, str_add]
    unfold bodyL
    congr 1
  have hYs : (str (bodyL r)).size = (bodyL r).length := str_size _
  obtain ⟨N, hN⟩ : ∃ N, sumN 0 (fx 2 (bodyL r).length ++ bodyL r) = N := ⟨_, rfl⟩
  have hR : str (fx 2 (bodyL r).length) ++ str (fx 4 N) ++ str (bodyL r) = S := by
    rw [str_add, str_add, ← hS]
    unfold recL sealL
    rw [hN, List.append_assoc]
  have key := RBytes_parts r.o.toNat r.t.toNat (str r.k) (str r.b) r.q.toNat (flagN r) r.g _ _ _ _ (str (fx 2 (bodyL r).length)) (str (fx 4 N)) N w (by omega) rfl (by omega) (by omega) (by rw [str_size]; exact h5) (by rw [str_size]; exact h6) rfl rfl rfl rfl
    (by rw [hY, hYs]) (by rw [hY, ByteArray.data_append, Array.toList_append, str_data, str_data]; exact hN) rfl
  rw [hY, hR] at key
  have e1 : ((r.o.toNat : Nat) : Int) = r.o := by omega
  have e2 : ((r.t.toNat : Nat) : Int) = r.t := by omega
  have e3 : ((r.q.toNat : Nat) : Int) = r.q := by omega
  rw [e1, e2, e3] at key
  exact key

end Go.Proofs.YthhpmhibkbndhaaDoor
/- The document's own answer: a segment held against itself. -/
namespace Go.Proofs.YthhpmhibkbndhaaDoor
open Go.RowKit Go.Lib Rcd

set_option maxRecDepth 100000 in
set_option maxHeartbeats 4000000 in
/-- fairwayref0.EqSeg, of the same segment. -/
theorem EqSeg_same (b : Int) (l : List Rc) (A A' : Option Addr) (c c' B B' : Nat) (w : World) (hm : l.length ≤ 9223372036854775807) (hB : B ≤ w.heap.size) (hB' : B' ≤ w.heap.size) (h : RecsAt w B A l) (h' : RecsAt w B' A' l) :
    Calls Tryd.prog 16 #[.agg #[.int .i64 b, .slice A l.length c], .agg #[.int .i64 b, .slice A' l.length c']] w fun e w' => e = .returned (.bool true) ∧ Below w.heap.size w w' := by
  have hD := Duo.new w 24 24 (sarr b A l.length c) (sarr b A' l.length c')
  have HC := Lib.hid (fun W (hb : Below w.heap.size w W) => EqRecs_same l A A' c c' B B' W hm (h.below (hb.mono hB)) (h'.below (hb.mono hB')))
  obtain ⟨p, hp⟩ : ∃ p, w.heap.size = p := ⟨_, rfl⟩
  obtain ⟨W0, hW⟩ : ∃ W0, (w.alloc (.cells (sarr b A l.length c) 24)).alloc (.cells (sarr b A' l.length c') 24) = W0 := ⟨_, rfl⟩
  rw [hW, hp] at hD
  unfold sarr at hD hW
  have D0 := Lib.hid hD
  have HW := Lib.hid hW
  have HP := Lib.hid hp
  clear hD hW hp h h'
  go_enter Tryd.func16, Tryd.ntmps16
  go_upto_region 1 with fail
  rw [HW.out, HP.out]
  clear HW HP
  have d0 : W0.cell? ⟨p, 0, none⟩ = some (.int .i64 b) := D0.out.cell1 0
  have d1 : W0.cell? ⟨p, 1, none⟩ = some (.slice A l.length c) := D0.out.cell1 1
  have e0 : W0.cell? ⟨p + 1, 0, none⟩ = some (.int .i64 b) := D0.out.cell2 0
  have e1 : W0.cell? ⟨p + 1, 1, none⟩ = some (.slice A' l.length c') := D0.out.cell2 1
  go_wp2_with fail
  refine (HC.out _ D0.out.bel).mono ?_
  rintro e w1 ⟨rfl, hb1⟩
  have D1 := Lib.hid (D0.out.below hb1)
  clear D0 hb1 HC d0 d1 e0 e1
  go_wp2_with fail
  go_ret
  exact ⟨rfl, D1.out.bel⟩
end Go.Proofs.YthhpmhibkbndhaaDoor
/- What the form's reach says of an argument's parts: how long its slices and texts are; a slice's value; a list of numbers. -/
namespace Go.Proofs.YthhpmhibkbndhaaDoor
open Go.ChangeShapes Go.WideShapes Go.ChangeAt Go.RowKit

theorem cell_in {w : World} {a : Addr} {v : Value} (h : w.cell? a = some v) : a.block < w.heap.size := by
  rcases Nat.lt_or_ge a.block w.heap.size with hlt | hge
  · exact hlt
  · unfold World.cell? at h
    rw [Array.getElem?_eq_none hge] at h
    cases h
section
variable {H : Type} {enc : TypeId × Value → H} {W : World} {base : Nat} {spare : Nat → Bool} {held : Bool}
/-- All that is read is within the form's reach. -/
def Near (t : TypeId) (d : DataW H) : Prop := ∀ n ∈ d.weights Tryd.prog t, n ≤ reachBytes
theorem near_field {t e : TypeId} {fs : Array Field} {ys : List (DataW H × List MemPlace)} {j : Nat} {f : Field} {y : DataW H × List MemPlace} (hu : Tryd.prog.underlying t = some (.struct fs)) (h : Near t (.agg (ys.map (·.1)))) (hf : fs[j]? = some f) (he : f.type = e) (hy : ys[j]? = some y) : Near e y.1 := by
  subst he
  intro n hn
  refine h n ?_
  rw [DataW.weights, hu]
  refine DataW.weights_mem_each (j := j) ?_ ?_ n hn
  · rw [List.getElem?_map, Array.getElem?_toList, hf]; rfl
  · rw [List.getElem?_map, hy]; rfl
theorem near_string {t : TypeId} {s : ByteArray} (h : Near t (DataW.lit (H := H) (.string s.data.toList))) : s.data.toList.length ≤ 140737488351232 :=
  h s.data.toList.length (by rw [DataW.weights]; exact List.mem_singleton.2 rfl)
theorem near_len {t e : TypeId} {fuel : Nat} {A : Option Addr} {n c k : Nat} {y : DataW H × List MemPlace} (hu : Tryd.prog.underlying t = some (.slice e)) (hk : Tryd.prog.bytesOf e = k) (hw : Near t y.1) (h : DataW.trod enc Tryd.prog W base spare held fuel t [.slice A n c] = some y) : n * k ≤ 140737488351232 ∧ n ≤ c := by
  rcases Go.Deep.open_slice hu h with ⟨hcs, _⟩ | ⟨a, len, cap, m, k', D, Pl, hcs, _, hlc, _, _, hx, _⟩
  · simp at hcs
    rw [hcs.2.1]
    omega
  · simp at hcs
    obtain ⟨_, rfl, rfl⟩ := hcs
    rw [hx] at hw
    have h1 := hw _ (by rw [DataW.weights, hu]; exact List.mem_cons_self)
    rw [List.length_map, List.length_range, hk] at h1
    exact ⟨Nat.le_trans (Nat.mul_le_mul_right k (Nat.le_add_right _ _)) h1, hlc⟩
theorem slice_form {t e : TypeId} {fuel : Nat} {v : Value} {y : DataW H × List MemPlace} (hu : Tryd.prog.underlying t = some (.slice e)) (h : DataW.trod enc Tryd.prog W base spare held fuel t [v] = some y) : ∃ A n c, v = .slice A n c := by
  rcases Go.Deep.open_slice hu h with ⟨hcs, _⟩ | ⟨a, len, cap, m, k, D, Pl, hcs, _⟩
  · simp at hcs
    exact ⟨none, 0, 0, hcs⟩
  · simp at hcs
    exact ⟨_, len, cap, hcs⟩
theorem bytes_int : Tryd.prog.bytesOf 3 = 8 := by kernel_rfl
theorem cells_int1 : Tryd.prog.cellsOf 3 = 1 := by kernel_rfl
/-- A list of numbers. -/
theorem nums_of {fuel : Nat} {A : Option Addr} {n c : Nat} {y : DataW H × List MemPlace} (hw : Near 25 y.1) (h : DataW.trod enc Tryd.prog W base spare held fuel 25 [.slice A n c] = some y) :
    ∃ ps : List Int, ps.length = n ∧ Nums W W.heap.size .i64 A ps ∧ n ≤ 140737488351232 := by
  have hl8 := (near_len Tryd.underlying25 bytes_int hw h).1
  rcases open_ints Tryd.underlying25 Tryd.underlying3 cells_int1 h with ⟨e1, _⟩ | ⟨p, len, cap, zs, e1, _, hl, hm, hz, _, hzc, hwz⟩
  · simp at e1
    obtain ⟨rfl, rfl, rfl⟩ := e1
    exact ⟨[], rfl, Nums.none_, by omega⟩
  · simp at e1
    obtain ⟨rfl, rfl, rfl⟩ := e1
    have hzl : n ≤ zs.length := by rw [hz]; split <;> omega
    have htl : (zs.take n).length = n := by rw [List.length_take]; omega
    refine ⟨zs.take n, htl, ?_, by omega⟩
    by_cases h0 : n = 0
    · subst h0; exact .inl (by simp)
    · refine .inr ⟨p, rfl, ?_, fun j hj => ?_⟩
      · have := cell_in (hzc 0 (by omega))
        rwa [add_block] at this
      · rw [htl] at hj
        rw [hzc j (by omega)]
        simp [hj]
end
end Go.Proofs.YthhpmhibkbndhaaDoor
/- What a list of records is in memory, out of the reading of an argument. -/
namespace Go.Proofs.YthhpmhibkbndhaaDoor
open Go.ChangeShapes Go.WideShapes Go.ChangeAt Go.RowKit Rcd

theorem ownKnob_none : ownKnob Tryd.prog.godebug = none := by kernel_rfl
theorem laidOut_true : laidOutB Tryd.prog = true := by kernel_rfl
theorem cells_string : Tryd.prog.cellsOf 9 = 1 := by kernel_rfl
theorem cells_int : Tryd.prog.cellsOf 3 = 1 := by kernel_rfl
theorem cells_bool : Tryd.prog.cellsOf 4 = 1 := by kernel_rfl
theorem cells_recs : Tryd.prog.cellsOf 22 = 1 := by kernel_rfl
theorem cells_rec : Tryd.prog.cellsOf 42 = 6 := by kernel_rfl
theorem add_off {b off : Nat} (k : Nat) : ((⟨b, off, none⟩ : Addr).add k) = ⟨b, off + k, none⟩ := by
  unfold Addr.add; split
  · next h => subst h; rfl
  · rfl

section
variable {H : Type} {enc : TypeId × Value → H} {W : World} {base : Nat} {spare : Nat → Bool} {held : Bool}
theorem one_rec {fuel : Nat} {a : Addr} {cs : List Value} {y : DataW H × List MemPlace} (hc : W.cells? base a 6 = some cs) (h : DataW.trod enc Tryd.prog W base spare held fuel 42 cs = some y) :
    ∃ r, RAt W a.block a.off r ∧ a.spot = none := by
  obtain ⟨_, hlen, hcell⟩ := World.cells?_some hc
  match cs, hlen with
  | [v0, v1, v2, v3, v4, v5], _ =>
    have g0 := hcell 0 (by omega)
    have g1 := hcell 1 (by omega)
    have g2 := hcell 2 (by omega)
    have g3 := hcell 3 (by omega)
    have g4 := hcell 4 (by omega)
    have g5 := hcell 5 (by omega)
    change W.cell? (a.add 0) = some v0 at g0
    change W.cell? (a.add 1) = some v1 at g1
    change W.cell? (a.add 2) = some v2 at g2
    change W.cell? (a.add 3) = some v3 at g3
    change W.cell? (a.add 4) = some v4 at g4
    change W.cell? (a.add 5) = some v5 at g5
    obtain ⟨ys, n, _, _, _, hyl, hf⟩ := DataW.trod_struct Tryd.underlying42 h
    have hyl' : ys.length = 6 := by simpa using hyl
    have f0 := hf 0 _ rfl
    have f1 := hf 1 _ rfl
    have f2 := hf 2 _ rfl
    have f3 := hf 3 _ rfl
    have f4 := hf 4 _ rfl
    have f5 := hf 5 _ rfl
    rw [List.getElem?_eq_getElem (by omega)] at f0 f1 f2 f3 f4 f5
    change DataW.trod enc Tryd.prog W base spare held n 3 (List.take (Tryd.prog.cellsOf 3) [v0, v1, v2, v3, v4, v5]) = _ at f0
    change DataW.trod enc Tryd.prog W base spare held n 3 (List.take (Tryd.prog.cellsOf 3) [v1, v2, v3, v4, v5]) = _ at f1
    change DataW.trod enc Tryd.prog W base spare held n 9 (List.take (Tryd.prog.cellsOf 9) [v2, v3, v4, v5]) = _ at f2
    change DataW.trod enc Tryd.prog W base spare held n 9 (List.take (Tryd.prog.cellsOf 9) [v3, v4, v5]) = _ at f3
    change DataW.trod enc Tryd.prog W base spare held n 3 (List.take (Tryd.prog.cellsOf 3) [v4, v5]) = _ at f4
    change DataW.trod enc Tryd.prog W base spare held n 4 (List.take (Tryd.prog.cellsOf 4) [v5]) = _ at f5
    rw [cells_int] at f0 f1 f4
    rw [cells_string] at f2 f3
    rw [cells_bool] at f5
    obtain ⟨o, e0, _, _⟩ := DataW.trod_int Tryd.underlying3 f0
    obtain ⟨t, e1, _, _⟩ := DataW.trod_int Tryd.underlying3 f1
    obtain ⟨k, e2, _, _⟩ := DataW.trod_string Tryd.underlying9 f2
    obtain ⟨b, e3, _, _⟩ := DataW.trod_string Tryd.underlying9 f3
    obtain ⟨q, e4, _, _⟩ := DataW.trod_int Tryd.underlying3 f4
    obtain ⟨g, e5, _⟩ := DataW.trod_bool Tryd.underlying4 f5
    have hsp : a.spot = none := by
      have := World.cell?_spot g0
      simpa [Addr.add] using this
    obtain ⟨bl, off, spot⟩ := a
    obtain rfl : spot = none := hsp
    rw [add_off] at g0 g1 g2 g3 g4 g5
    simp at e0 e1 e2 e3 e4 e5
    subst e0 e1 e2 e3 e4 e5
    refine ⟨⟨o, t, k.data.toList, b.data.toList, q, g⟩, ⟨g0, g1, ?_, ?_, g4, g5⟩, rfl⟩
    · show _ = some (Value.string (str k.data.toList))
      rw [data_str]; exact g2
    · show _ = some (Value.string (str b.data.toList))
      rw [data_str]; exact g3

/-- A slice of records. -/
theorem recs_of_trod {fuel : Nat} {v : Value} {y : DataW H × List MemPlace} (h : DataW.trod enc Tryd.prog W base spare held fuel 22 [v] = some y) :
    ∃ A l c, v = .slice A (List.length l) c ∧ RecsAt W W.heap.size A l ∧ l.length ≤ 9223372036854775807 := by
  rcases Go.Deep.open_slice Tryd.underlying22 h with ⟨hcs, _⟩ | ⟨a, len, cap, m, k, D, Pl, hcs, _, hl, hcm, hm, hx, hi⟩
  · simp at hcs
    subst hcs
    exact ⟨none, [], 0, rfl, .inl rfl, by simp⟩
  · simp at hcs
    subst hcs
    have hml : len ≤ m := by rw [hm]; split <;> omega
    rw [cells_rec] at hi
    have key : ∀ i, i < len → ∃ r, RAt W (a.add (i * 6)).block (a.add (i * 6)).off r ∧ (a.add (i * 6)).spot = none := fun i hin => by
      obtain ⟨cs, hc, ht⟩ := hi i (by omega)
      exact one_rec hc ht
    have hcm' : cap ≤ 9223372036854775807 := by unfold maxLen at hcm; omega
    by_cases h0 : len = 0
    · subst h0
      exact ⟨some a, [], cap, rfl, .inl rfl, by simp⟩
    · have hsp : a.spot = none := by
        obtain ⟨_, _, h⟩ := key 0 (by omega)
        simpa [Addr.add] using h
      obtain ⟨b, off, spot⟩ := a
      obtain rfl : spot = none := hsp
      have key2 : ∀ i, ∃ r : Rc, i < len → RAt W b (off + i * 6) r := fun i => by
        by_cases hin : i < len
        · obtain ⟨r, hr, _⟩ := key i hin
          rw [add_off] at hr
          exact ⟨r, fun _ => hr⟩
        · exact ⟨zero, fun h => absurd h hin⟩
      obtain ⟨f, hf⟩ := Classical.axiomOfChoice key2
      refine ⟨some ⟨b, off, none⟩, (List.range len).map f, cap, by simp, .inr ⟨b, off, rfl, ?_, fun j hj => ?_⟩, by simp; omega⟩
      · exact cell_lt (hf 0 (by omega)).c0
      · have hj' : j < len := by simpa using hj
        rw [List.getElem_map, List.getElem_range]
        exact hf j hj'

end
end Go.Proofs.YthhpmhibkbndhaaDoor
/- What a script (a segment, records, numbers, bytes) is in memory, out of the reading of an argument. -/
namespace Go.Proofs.YthhpmhibkbndhaaDoor
open Go.ChangeShapes Go.WideShapes Go.ChangeAt Go.RowKit Rcd

theorem cells_script : Tryd.prog.cellsOf 27 = 5 := by kernel_rfl
theorem cells_seg : Tryd.prog.cellsOf 24 = 2 := by kernel_rfl
theorem cells_ints : Tryd.prog.cellsOf 25 = 1 := by kernel_rfl
theorem bytes_rec : Tryd.prog.bytesOf 42 = 64 := by kernel_rfl
/-- A script in memory. -/
structure ScAt (W : World) (rs L : List Rc) (ns : List Int) (A B D : Option Addr) (c : Nat) : Prop where
  hA : RecsAt W W.heap.size A rs
  cap : rs.length ≤ c
  lA : rs.length * 64 ≤ 140737488351232
  hB : RecsAt W W.heap.size B L
  lB : L.length * 64 ≤ 140737488351232
  hD : Nums W W.heap.size .i64 D ns
  lD : ns.length ≤ 140737488351232
section
variable {H : Type} {enc : TypeId × Value → H} {W : World} {base : Nat} {held : Bool}
set_option maxRecDepth 100000 in
theorem script_all {b0 : Nat} {v : Value} {d : DataW H} {p : List MemPlace} (hv : Value.okWide Tryd.prog W .any b0 27 v) (hw : Near 27 d) (h : DataW.Trod enc Tryd.prog W base (fun _ => true) held 27 v d p) :
    ∃ b rs L ns A B D c cl cn s, v = .agg #[.int .i64 b, .slice A rs.length c, .slice B (List.length L) cl, .slice D (List.length ns) cn, .string s] ∧ ScAt W rs L ns A B D c := by
  obtain ⟨fuel, hf⟩ := h
  obtain ⟨⟨cs⟩, rfl, hsz⟩ := okWide_struct Tryd.underlying27 hv
  rw [cells_script] at hsz
  match cs, hsz with
  | [v0, v1, v2, v3, v4], _ =>
    change DataW.trod enc Tryd.prog W base (fun _ => true) held fuel 27 [v0, v1, v2, v3, v4] = _ at hf
    obtain ⟨ys, n, _, hy, _, hyl, hff⟩ := DataW.trod_struct Tryd.underlying27 hf
    have hd := congrArg Prod.fst hy
    simp only [] at hd
    rw [hd] at hw
    have hyl' : ys.length = 4 := by simpa using hyl
    have f0 := hff 0 _ rfl
    have f1 := hff 1 _ rfl
    have f2 := hff 2 _ rfl
    have f3 := hff 3 _ rfl
    rw [List.getElem?_eq_getElem (by omega)] at f0 f1 f2 f3
    change DataW.trod enc Tryd.prog W base (fun _ => true) held n 24 (List.take (Tryd.prog.cellsOf 24) [v0, v1, v2, v3, v4]) = _ at f0
    change DataW.trod enc Tryd.prog W base (fun _ => true) held n 22 (List.take (Tryd.prog.cellsOf 22) [v2, v3, v4]) = _ at f1
    change DataW.trod enc Tryd.prog W base (fun _ => true) held n 25 (List.take (Tryd.prog.cellsOf 25) [v3, v4]) = _ at f2
    change DataW.trod enc Tryd.prog W base (fun _ => true) held n 9 (List.take (Tryd.prog.cellsOf 9) [v4]) = _ at f3
    rw [cells_seg] at f0
    rw [cells_recs] at f1
    rw [cells_ints] at f2
    rw [cells_string] at f3
    have w0 := near_field Tryd.underlying27 hw (j := 0) rfl rfl (List.getElem?_eq_getElem (by omega))
    have w1 := near_field Tryd.underlying27 hw (j := 1) rfl rfl (List.getElem?_eq_getElem (by omega))
    have w2 := near_field Tryd.underlying27 hw (j := 2) rfl rfl (List.getElem?_eq_getElem (by omega))
    change DataW.trod enc Tryd.prog W base (fun _ => true) held n 24 [v0, v1] = _ at f0
    obtain ⟨zs, m, _, hz, _, hzl, hzz⟩ := DataW.trod_struct Tryd.underlying24 f0
    have hzd := congrArg Prod.fst hz
    simp only [] at hzd
    rw [hzd] at w0
    have hzl' : zs.length = 2 := by simpa using hzl
    have g0 := hzz 0 _ rfl
    have g1 := hzz 1 _ rfl
    rw [List.getElem?_eq_getElem (by omega)] at g0 g1
    change DataW.trod enc Tryd.prog W base (fun _ => true) held m 3 (List.take (Tryd.prog.cellsOf 3) [v0, v1]) = _ at g0
    change DataW.trod enc Tryd.prog W base (fun _ => true) held m 22 (List.take (Tryd.prog.cellsOf 22) [v1]) = _ at g1
    rw [cells_int] at g0
    rw [cells_recs] at g1
    have w01 := near_field Tryd.underlying24 w0 (j := 1) rfl rfl (List.getElem?_eq_getElem (by omega))
    obtain ⟨b, e0, _, _⟩ := DataW.trod_int Tryd.underlying3 g0
    simp at e0
    subst e0
    obtain ⟨A, rs, c, rfl, hA, _⟩ := recs_of_trod (v := v1) g1
    obtain ⟨lA, cap⟩ := near_len Tryd.underlying22 bytes_rec w01 g1
    obtain ⟨B, L, cl, rfl, hB, _⟩ := recs_of_trod (v := v2) f1
    obtain ⟨lB, _⟩ := near_len Tryd.underlying22 bytes_rec w1 f1
    obtain ⟨D, k, cn, rfl⟩ := slice_form (v := v3) Tryd.underlying25 f2
    obtain ⟨ns, rfl, hD, lD⟩ := nums_of w2 f2
    obtain ⟨s, e4, _, _⟩ := DataW.trod_string Tryd.underlying9 f3
    simp at e4
    subst e4
    exact ⟨b, rs, L, ns, A, B, D, c, cl, cn, s, rfl, ⟨hA, cap, lA, hB, lB, hD, lD⟩⟩
end
end Go.Proofs.YthhpmhibkbndhaaDoor
/- The table of package sum: what the row's condition on it gives, and that start-up meets the condition. -/
namespace Go.Proofs.YthhpmhibkbndhaaDoor
open Go.ChangeShapes Go.WideShapes Go.ChangeAt Go.RowKit Crc

def theLaid : List (String × DataW Unit) := [("fairway/sum.steps", Rows.laid_fairway_sum_steps)]
theorem gSteps : Tryd.prog.globalNamed "fairway/sum.steps" = some 0 := by kernel_rfl
theorem tSteps : (Tryd.prog.globals[0]?).map (·.type) = some 115 := by kernel_rfl
theorem cells_u32' : Tryd.prog.cellsOf 75 = 1 := by kernel_rfl

/-- Start-up's own heap meets the condition. -/
theorem door_met (os : Os) (args : Array Value) : laidMetH Tryd.prog theLaid ((World.doorLaid Tryd.prog 400 os).forCall (fun _ _ => 0) ⟨#[], args, []⟩).memory :=
  laidMetH_of_parts3 (fuel := 8) (laidMet_of_run' 8 (by kernel_rfl) (by kernel_rfl)) (by kernel_rfl) (by kernel_rfl)

theorem lits_at {xs : List (DataW Unit × List MemPlace)} (h : xs.map (·.1) = tab.map fun n : Nat => DataW.lit (.int .u32 (n : Int))) {j : Nat} {y : DataW Unit × List MemPlace} (hj : j < 16) (hy : xs[j]? = some y) : y.1 = .lit (.int .u32 ((tab.getD j 0 : Nat) : Int)) := by
  have h1 : (xs.map (·.1))[j]? = some y.1 := by rw [List.getElem?_map, hy]; rfl
  have hl : j < tab.length := hj
  rw [h, List.getElem?_map, List.getElem?_eq_getElem hl] at h1
  rw [List.getD_eq_getElem?_getD, List.getElem?_eq_getElem hl]
  exact (Option.some.inj h1).symm

/-- What the condition gives: the table's cells. -/
theorem tab_of_laid {W : World} (h : laidMetH Tryd.prog theLaid W) : Tab W := by
  rw [MakeChecks.laidMetH_plain _ _ _ (by kernel_rfl)] at h
  obtain ⟨ps, ⟨g0, t0, cs0, f0, p0, q0, hg0, ht0, hv0, hd0, _⟩, _, _⟩ := h
  obtain rfl := Option.some.inj (gSteps.symm.trans hg0)
  obtain rfl := Option.some.inj (tSteps.symm.trans ht0)
  obtain ⟨xs, m, rfl, hx, hlen, hn, hel⟩ := DataW.trod_array Tryd.underlying115 hd0
  simp only [Prod.mk.injEq] at hx
  have hxs : xs.map (·.1) = tab.map fun n : Nat => DataW.lit (.int .u32 (n : Int)) := by
    have := hx.1.symm
    injection this with this
  intro j hj
  have h0 := hel j hj
  rw [cells_u32'] at h0
  obtain ⟨y, hy⟩ : ∃ y, xs[j]? = some y := ⟨_, List.getElem?_eq_getElem (by omega)⟩
  rw [hy] at h0
  obtain ⟨k, e1, e2, _⟩ := DataW.trod_int Tryd.underlying75 h0
  have hk := lits_at hxs hj hy
  have hcell := World.var?_cell hg0 hv0 j
  rw [e2] at hk
  rw [hcell]
  have e3 : cs0[j]? = (cs0.toList.drop (j * 1))[0]? := by rw [List.getElem?_drop]; simp
  have e4 : ((cs0.toList.drop (j * 1)).take 1)[0]? = (cs0.toList.drop (j * 1))[0]? := by rw [List.getElem?_take]; simp
  rw [e3, ← e4, e1]
  simp at hk
  simp
  exact hk
end Go.Proofs.YthhpmhibkbndhaaDoor
/- Package seg: the bytes of a segment's records. -/
namespace Go.Proofs.YthhpmhibkbndhaaDoor
open Go.RowKit Go.Lib Vbi Rcd Crc

theorem all_next_str {rs : List Rc} {k : Nat} (h : k < rs.length) : str (allL (rs.take (k + 1))) = str (allL (rs.take k)) ++ str (recL rs[k]) := by
  rw [List.take_succ_eq_append_getElem h, all_snoc, str_add]
/-- Where the writing stands: the segment in a box, a builder; all that was there ahead of the call. -/
@[irreducible] def TxB (w : World) (p b : Nat) (cs : Array Value) (s : ByteArray) (W : World) : Prop := Blk W p cs ∧ Built b b s W ∧ Below w.heap.size w W ∧ w.heap.size ≤ p ∧ p < b ∧ b < W.heap.size
section
variable {w W W' : World} {p b : Nat} {cs : Array Value} {s : ByteArray}
theorem TxB.mk (h : Blk W p cs ∧ Built b b s W ∧ Below w.heap.size w W ∧ w.heap.size ≤ p ∧ p < b ∧ b < W.heap.size) : TxB w p b cs s W := by unfold TxB; exact h
theorem TxB.out (h : TxB w p b cs s W) : Blk W p cs ∧ Built b b s W ∧ Below w.heap.size w W ∧ w.heap.size ≤ p ∧ p < b ∧ b < W.heap.size := by unfold TxB at h; exact h
theorem TxB.below (h : TxB w p b cs s W) (hb : Below W.heap.size W W') : TxB w p b cs s W' := by
  obtain ⟨h1, h2, h3, h4, h5, h6⟩ := h.out
  exact .mk ⟨h1.below hb, built_below h2 hb, h3.trans (hb.mono h3.size), h4, h5, Nat.lt_of_lt_of_le h6 hb.size⟩
theorem TxB.wrote {t : ByteArray} (h : TxB w p b cs s W) (h2' : Built b b t W') (hb : Below b W W') : TxB w p b cs t W' := by
  obtain ⟨h1, h2, h3, h4, h5, h6⟩ := h.out
  obtain ⟨T, h1⟩ := h1
  exact .mk ⟨⟨T, (hb.block p h5).trans h1⟩, h2', h3.trans (hb.mono (by omega)), h4, h5, Nat.lt_of_lt_of_le h6 hb.size⟩
theorem TxB.start (h : RBox w p cs W) (hp : w.heap.size ≤ p) : TxB w p W.heap.size cs ⟨#[]⟩ (W.alloc (.cells #[.pointer none, .slice none 0 0] 61)) := by
  obtain ⟨h1, h2⟩ := h.out
  exact .mk ⟨h1.alloc _, built_new W, h2.alloc h2.size _, hp, h1.lt, by simp⟩
end

set_option maxRecDepth 100000 in
set_option maxHeartbeats 8000000 in
/-- seg.Text. -/
theorem SegText_is (b : Int) (rs : List Rc) (N : Nat) (A : Option Addr) (c B : Nat) (S : ByteArray) (E : Int) (w : World) (hN : rs.length = N) (hm : N ≤ 9223372036854775807) (hcap : N ≤ c) (hB : B ≤ w.heap.size) (h : RecsAt w B A rs) (ht : Tab w) (hE : segE b rs = E)
    (hS : (E = 0 ∧ str (allL rs) = S) ∨ (¬ E = 0 ∧ S = ⟨#[]⟩)) :
    Calls Tryd.prog 11 #[.agg #[.int .i64 b, .slice A N c]] w fun e w' => e = .returned (.tuple #[.string S, .int .i64 E]) ∧ Below w.heap.size w w' := by
  have R0 := Lib.hid (RBox.new w 24 (sarr b A N c))
  have HC := Lib.hid (fun W (hb : Below w.heap.size w W) => SegCheck_is b rs N A c B E W hN hm hcap (Nat.le_trans hB hb.size) (h.below (hb.mono hB)) hE)
  obtain ⟨p, hp⟩ : ∃ p, w.heap.size = p := ⟨_, rfl⟩
  obtain ⟨W0, hW⟩ : ∃ W0, w.alloc (.cells (sarr b A N c) 24) = W0 := ⟨_, rfl⟩
  rw [hW, hp] at R0
  unfold sarr at R0 hW
  have HW := Lib.hid hW
  have HP := Lib.hid hp
  have H := Lib.hid (h.mono hB)
  have T := Lib.hid ht
  have HNN := Lib.hid hN
  clear hW hp h hN hB ht
  rcases hS with ⟨rfl, hS⟩ | ⟨h0, rfl⟩
  · have hseg := segE_zero hE
    have HS := Lib.hid hseg
    have HZ := Lib.hid (seg_size hseg)
    have hle := seg_len hseg
    rw [HNN.out] at hle
    have HSS := Lib.hid hS
    clear hE hseg hS
    go_enter Tryd.func11, Tryd.ntmps11
    go_upto_region 1 with fail
    rw [HW.out, HP.out]
    clear HW
    have hld := R0.out.loadS rfl
    go_wp2_with (refine wpList_load_any (by rfl) 24 (.tmp 1) rfl p 0 rfl _ hld ?_; simp only [Act.put])
    refine (HC.out _ R0.out.out.2).mono ?_
    rintro e w1 ⟨rfl, hb1⟩
    have R1 := Lib.hid (R0.out.below hb1)
    clear R0 hb1 hld HC
    have hT0 := TxB.start R1.out (Nat.le_of_eq HP.out)
    obtain ⟨q, hq⟩ : ∃ q, w1.heap.size = q := ⟨_, rfl⟩
    obtain ⟨W2, hW2⟩ : ∃ W2, w1.alloc (.cells #[.pointer none, .slice none 0 0] 61) = W2 := ⟨_, rfl⟩
    rw [hq, hW2] at hT0
    have T0 := Lib.hid hT0
    have HW2 := Lib.hid hW2
    have HQ := Lib.hid hq
    clear hT0 hW2 hq R1
    go_upto_region 5 with fail
    rw [HW2.out, HQ.out]
    clear HW2 HQ
    have d1 : W2.cell? ⟨p, 1, none⟩ = some (.slice A N c) := T0.out.out.1.cell 1
    go_wp2_with fail
    clear d1
    go_loopw [18] (fun i wr => ∃ (k : Nat) (s : ByteArray), k ≤ N ∧ str (allL (rs.take k)) = s ∧ i = .int .i64 (k : Int) ∧ TxB w p q #[.int .i64 b, .slice A N c] s wr) (fun i _ => N - (RowKit.intOf i).toNat)
    case atStart => exact ⟨0, ⟨#[]⟩, Nat.zero_le _, rfl, rfl, T0.out⟩
    case round =>
      obtain ⟨k, s, hk, ha, rfl, hbx⟩ := hrel
      have HA := Lib.hid ha
      have R := Lib.hid hbx
      clear hbx T0 ha
      have hbel := R.out.out.2.2.1
      by_cases hlt : k < N
      · have hlr : k < rs.length := by rw [HNN.out]; exact hlt
        obtain ⟨b0, o0, rfl, hb0, hc⟩ := (H.out.below hbel).some_ (by omega)
        have hr := hc k hlr
        have hmay := seg_may HS.out _ (List.getElem_mem hlr)
        obtain ⟨z, hz⟩ : ∃ z, str (recL rs[k]) = z := ⟨_, rfl⟩
        have HRS := Lib.hid (fun W (hb : Below w.heap.size w W) => Bytes_good rs[k] z W hmay (T.out.below hb) hz)
        have HA2 : Hid (str (allL (rs.take (k + 1))) = s ++ z) := by show _ = _; rw [all_next_str hlr, HA.out, hz]
        have HSUM : Hid (s.size + z.size ≤ 420000) := by
          show _ ≤ _
          have : (s ++ z).size ≤ 420000 := by
            rw [← HA2.out, str_size]
            exact Nat.le_trans (all_take_le _ _) HZ.out
          rwa [ByteArray.size_append] at this
        clear HA hc hmay hz
        unfold ragg at HRS
        generalize rs[k] = r at hr HRS
        obtain ⟨o, t, key, bod, q1, g⟩ := r
        obtain ⟨c0, c1, c2, c3, c4, c5⟩ := hr
        dsimp only at c0 c1 c2 c3 c4 c5 HRS
        generalize str key = ks at c2 HRS
        generalize str bod = bs at c3 HRS
        have e1 : (k : Int) < (N : Int) := by omega
        obtain ⟨g9, W4, hg9, hW4, hbn, hbx, hbl⟩ := box_new hbel (rarr o t ks bs q1 g)
        have HBN := Lib.hid hbn
        have HBX := Lib.hid hbx
        have R5 := Lib.hid (R.out.below hbl)
        unfold zcells at hW4
        have HW4 := Lib.hid hW4
        clear hbn hbx hbl hW4 hlr R hbel
        unfold rarr at HBX HRS R5
        go_upto_region 8 with (rw [HW4.out]; refine wpList_store_whole rfl 42 (.tmp 7) (.tmp 21) rfl g9 _ rfl rfl zcells HBN.out info_rec rfl (by simp [Value.oneCell']) ?_; simp only [Act.put])
        clear HW4 HBN c0 c1 c2 c3 c4 c5 hg9
        generalize World.setRow _ _ _ = w5 at HBX R5 ⊢
        have hld := HBX.out.load rfl
        go_wp2_with (refine wpList_load_any (by rfl) 42 (.tmp 7) rfl g9 0 rfl _ hld ?_; simp only [Act.put])
        refine (HRS.out _ HBX.out.out.2).mono ?_
        rintro e w6 ⟨rfl, hb6⟩
        have R6 := Lib.hid (R5.out.below hb6)
        have HWS := Lib.hid (WriteString_is q q s z w6 R6.out.out.2.1 (by have := HSUM.out; omega) (Nat.le_of_lt R6.out.out.2.2.2.2.2))
        clear HBX R5 hb6 hld HRS
        go_wp2_with fail
        refine HWS.out.mono ?_
        rintro e w7 ⟨⟨v7, rfl⟩, hbu, hb7, _⟩
        have R7 := Lib.hid (R6.out.wrote hbu hb7)
        clear hbu hb7 R6 HWS
        go_wp2_with fail
        go_roundw
        case rel => exact ⟨k + 1, s ++ z, hlt, HA2.out, by go_num, R7.out⟩
        case measure => simp [RowKit.intOf]; omega
      · obtain rfl : k = N := by omega
        obtain rfl : s = S := by
          rw [← HA.out, ← HSS.out, List.take_of_length_le (by rw [HNN.out]; exact Nat.le_refl _)]
        have HST := Lib.hid (String_is q q s wr R.out.out.2.1 (Nat.le_of_lt R.out.out.2.2.2.2.2))
        clear hbel
        go_wp2_with fail
        refine HST.out.mono ?_
        rintro e w7 ⟨rfl, hb7⟩
        have HB := Lib.hid (hb7.mono (Nat.le_of_lt (Nat.lt_of_le_of_lt R.out.out.2.2.2.1 R.out.out.2.2.2.2.1)))
        have HX := Lib.hid (R.out.out.2.2.1.trans HB.out)
        clear hb7 HB R HST
        go_wp2_with fail
        go_ret2
        exact ⟨rfl, HX.out⟩
  · have h0b : (E == 0) = false := by rw [beq_eq_false_iff_ne]; exact h0
    have h0c : (E != 0) = true := by rw [bne_iff_ne]; exact h0
    go_enter Tryd.func11, Tryd.ntmps11
    go_upto_region 1 with fail
    rw [HW.out, HP.out]
    clear HW
    have hld := R0.out.loadS rfl
    go_wp2_with (refine wpList_load_any (by rfl) 24 (.tmp 1) rfl p 0 rfl _ hld ?_; simp only [Act.put])
    refine (HC.out _ R0.out.out.2).mono ?_
    rintro e w1 ⟨rfl, hb1⟩
    have R1 := Lib.hid (R0.out.below hb1)
    clear R0 hb1 hld HC
    go_wp2_with fail
    go_ret2
    exact ⟨rfl, R1.out.out.2⟩
end Go.Proofs.YthhpmhibkbndhaaDoor
/- The first few of a slice of records; a segment within a greater variable, read whole. -/
namespace Go.Proofs.YthhpmhibkbndhaaDoor
open Go.RowKit Go.Lib Rcd

theorem load_seg_at {W : World} {g o : Nat} {b : Int} {v : Value} (c0 : W.cell? ⟨g, o, none⟩ = some (.int .i64 b)) (c1 : W.cell? ⟨g, o + 1, none⟩ = some v) (h1 : v.oneCell' = true := by rfl) :
    (loadVar 24 ⟨g, o, none⟩).run Tryd.prog W = .ok (.agg #[.int .i64 b, v]) W :=
  run_loadVar_mid W g o 24 [.int .i64 b, v] _ (fun j v hv => by
    match j, hv with
    | 0, hv => rw [← hv]; exact c0
    | 1, hv => rw [← hv]; exact c1) Tryd.underlying24 rfl info_seg
theorem slice_front (A : Option Addr) (n c m : Nat) (w : World) (h : m ≤ c) :
    (Instr.sliceAt 22 (.slice A n c) none (some (.int .i64 (m : Int))) none).run Tryd.prog w = .ok (.slice A m c) w := by
  have h1 : (m : Int) ≤ (c : Int) := by omega
  have hm : ∀ a : Addr, a.add 0 = a := fun a => by obtain ⟨b, o, s⟩ := a; unfold Addr.add; split <;> simp_all
  cases A with
  | none =>
    go_simp
  | some a =>
    go_simp
    try simp [hm]
end Go.Proofs.YthhpmhibkbndhaaDoor
