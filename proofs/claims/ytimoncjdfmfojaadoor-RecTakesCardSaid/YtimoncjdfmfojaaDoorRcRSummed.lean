/- The document's own answer: bytes with the right sum put into them. -/
import Derived.Test.YtimoncjdfmfojaaDoorRcRScan
namespace Go.Proofs.YtimoncjdfmfojaaDoor
open Go.RowKit Go.Lib Vbi Rcd Crc

theorem sum_zero_args (b : ByteArray) (N : Nat) (W : World) (h : ∀ W, Calls Tryd.prog 26 #[.int .u32 ((0 : Nat) : Int), .string b] W fun e w' => e = .returned (.int .u32 (N : Int)) ∧ W = w') :
    Calls Tryd.prog 26 #[.int .u32 0, .string b] W fun e w' => e = .returned (.int .u32 (N : Int)) ∧ W = w' := h W
set_option maxRecDepth 100000 in
set_option maxHeartbeats 8000000 in
/-- fairwayref10.Summed: bytes no longer than they were. -/
theorem Summed_is (s : ByteArray) (hm : s.size ≤ 1000000) : ∃ T : ByteArray, T.size ≤ s.size ∧ ∀ w : World,
    Calls Tryd.prog 15 #[.string s] w fun e w' => e = .returned (.string T) ∧ Below w.heap.size w w' := by
  by_cases c1 : s.size < 6
  · refine ⟨s, Nat.le_refl _, fun w => ?_⟩
    have hd : decide ((s.size : Int) < 6) = true := by rw [decide_eq_true_eq]; omega
    go_enter Tryd.func15, Tryd.ntmps15
    go_wp2_with fail
    go_ret
    exact ⟨rfl, Below.refl _ _⟩
  · obtain ⟨n, hn⟩ : ∃ n, fixVal (s.data.toList.take 2) = n := ⟨_, rfl⟩
    have hn16 : n < 65536 := by rw [← hn]; exact fixVal_two _
    obtain ⟨m, hm1, hm2⟩ : ∃ m : Nat, min (n : Int) ((s.size : Int) - 6) = (m : Int) ∧ 6 + m ≤ s.size := by
      refine ⟨min n (s.size - 6), ?_, ?_⟩
      · rcases Nat.le_total n (s.size - 6) with h | h
        · rw [Nat.min_eq_left h, Int.min_eq_left (by omega)]
        · rw [Nat.min_eq_right h, Int.min_eq_right (by omega)]; omega
      · have := Nat.min_le_right n (s.size - 6); omega
    obtain ⟨N, hN⟩ : ∃ N, sumN 0 (s.extract 0 2 ++ s.extract 6 (6 + m)).data.toList = N := ⟨_, rfl⟩
    have hN32 : N < 4294967296 := by rw [← hN]; exact sum_lt _ _
    obtain ⟨Z, hZ⟩ : ∃ Z, str (fx 4 N) = Z := ⟨_, rfl⟩
    have hZz : Z.size = 4 := by rw [← hZ, str_size, fx_len]
    have z1 : (s.extract 0 2).size = 2 := by rw [ByteArray.size_extract]; omega
    have z2 : (s.extract 6 (6 + m)).size = m := by rw [ByteArray.size_extract]; omega
    have z3 : (s.extract 6 s.size).size = s.size - 6 := by rw [ByteArray.size_extract]; omega
    refine ⟨s.extract 0 2 ++ Z ++ s.extract 6 s.size, by rw [ByteArray.size_append, ByteArray.size_append]; omega, fun w => ?_⟩
    have HT2 := Lib.hid (fun W => RTake_good 2 s n W (by omega) (by omega) (by omega) hn)
    have HS := Lib.hid (fun W => sum_zero_args _ N W (fun W => RSum_is 0 (s.extract 0 2 ++ s.extract 6 (6 + m)) N W (by omega) (by rw [ByteArray.size_append]; omega) hN))
    have HZ := Lib.hid (fun W => show Calls Tryd.prog 25 #[.int .i64 (N : Int), .int .i64 4] W fun e w' => e = .returned (.string Z) ∧ Below W.heap.size W w' from RFixed_is 4 N Z W (by omega) (by omega) hZ)
    have hd : decide ((s.size : Int) < 6) = false := by rw [decide_eq_false_iff_not]; omega
    have h2I : (2 : Int) ≤ (s.size : Int) := by omega
    have h6I : 6 + (m : Int) ≤ (s.size : Int) := by omega
    have h60 : (6 : Int) ≤ 6 + (m : Int) := by omega
    have h61 : (0 : Int) ≤ 6 + (m : Int) := by omega
    have h6s : (6 : Int) ≤ (s.size : Int) := by omega
    have hk2 : (6 + (m : Int)).toNat = 6 + m := by omega
    have hkw : IntKind.i64.wrap (6 + (m : Int)) = 6 + (m : Int) := IntWalk.i64_in _ (by omega)
    have hNw : IntKind.i64.wrap (N : Int) = (N : Int) := IntWalk.i64_in _ (by omega)
    have n1 : ¬ 9223372036854775807 < (s.extract 0 2).size + (s.extract 6 (6 + m)).size := by omega
    have n2 : ¬ 9223372036854775807 < (s.extract 0 2).size + Z.size := by omega
    have n3 : ¬ 9223372036854775807 < (s.extract 0 2).size + Z.size + (s.extract 6 s.size).size := by omega
    clear hn hN hZ
    go_enter Tryd.func15, Tryd.ntmps15
    go_wp2_with fail
    refine (HT2.out _).mono ?_
    rintro e w1 ⟨rfl, rfl⟩
    go_upto_region 5 with fail
    have hS0 : Below w.heap.size w w.drew := below_drewN (Below.refl _ _) 1
    refine wp_region_held_drew (S := fun W => Below w.heap.size w W) (by kernel_rfl) hS0 (fun hS => ?_)
    clear hS0
    generalize w.drew = Wd at hS ⊢
    refine take_op 0 19 ?v0 rfl rfl (by kernel_rfl) (fun _ _ _ h => h) (by rfl) hS (fun w' hS' => ?hv0) ?hh0
    case hv0 => (go_simp; (try with_reducible rfl); (try omega))
    simp only [Act.put, List.setIfInBounds_toArray, List.set_cons_zero, List.set_cons_succ]
    refine take_op 1 20 (.string (s.extract 0 2)) rfl rfl (by kernel_rfl) (fun _ _ _ h => h) (by rfl) hS (fun w' hS' => ?hv1) ?hh1
    case hv1 => (go_simp; (try with_reducible rfl); (try omega))
    simp only [Act.put, List.setIfInBounds_toArray, List.set_cons_zero, List.set_cons_succ]
    refine take_op 2 21 ?v2 rfl rfl (by kernel_rfl) (fun _ _ _ h => h) (by rfl) hS (fun w' hS' => ?hv2) ?hh2
    case hv2 => (go_simp; (try with_reducible rfl); (try omega))
    simp only [Act.put, List.setIfInBounds_toArray, List.set_cons_zero, List.set_cons_succ]
    refine take_op 3 22 (.string (s.extract 0 2)) rfl rfl (by kernel_rfl) (fun _ _ _ h => h) (by rfl) hS (fun w' hS' => ?hv3) ?hh3
    case hv3 => (go_simp; (try with_reducible rfl); (try omega))
    simp only [Act.put, List.setIfInBounds_toArray, List.set_cons_zero, List.set_cons_succ]
    refine take_op 4 23 ?v4 rfl rfl (by kernel_rfl) (fun _ _ _ h => h) (by rfl) hS (fun w' hS' => ?hv4) ?hh4
    case hv4 => (go_simp; (try with_reducible rfl); (try omega))
    simp only [Act.put, List.setIfInBounds_toArray, List.set_cons_zero, List.set_cons_succ]
    refine take_op 5 24 ?v5 rfl rfl (by kernel_rfl) (fun _ _ _ h => h) (by rfl) hS (fun w' hS' => ?hv5) ?hh5
    case hv5 => (go_simp; (try with_reducible rfl); (try omega))
    simp only [Act.put, List.setIfInBounds_toArray, List.set_cons_zero, List.set_cons_succ]
    refine take_op 6 25 (.int .i64 (6 + (m : Int))) rfl rfl (by kernel_rfl) (fun _ _ _ h => h) (by rfl) hS (fun w' hS' => ?hv6) ?hh6
    case hv6 => (go_simp; (try with_reducible rfl); (try omega))
    simp only [Act.put, List.setIfInBounds_toArray, List.set_cons_zero, List.set_cons_succ]
    refine take_op 7 26 (.string (s.extract 6 (6 + m))) rfl rfl (by kernel_rfl) (fun _ _ _ h => h) (by rfl) hS (fun w' hS' => ?hv7) ?hh7
    case hv7 => (go_simp; (try with_reducible rfl); (try omega))
    simp only [Act.put, List.setIfInBounds_toArray, List.set_cons_zero, List.set_cons_succ]
    refine take_op 8 27 (.string (s.extract 0 2 ++ s.extract 6 (6 + m))) rfl rfl (by kernel_rfl) (fun _ _ _ h => h) (by rfl) hS (fun w' hS' => ?hv8) ?hh8
    case hv8 => (go_simp; (try with_reducible rfl); (try omega))
    simp only [Act.put, List.setIfInBounds_toArray, List.set_cons_zero, List.set_cons_succ]
    refine take_op 13 32 ?v13 rfl rfl (by kernel_rfl) (fun _ _ _ h => h) (by rfl) hS (fun w' hS' => ?hv13) ?hh13
    case hv13 => (go_simp; (try with_reducible rfl); (try omega))
    simp only [Act.put, List.setIfInBounds_toArray, List.set_cons_zero, List.set_cons_succ]
    refine take_op 14 33 (.string (s.extract 6 s.size)) rfl rfl (by kernel_rfl) (fun _ _ _ h => h) (by rfl) hS (fun w' hS' => ?hv14) ?hh14
    case hv14 => (go_simp; (try with_reducible rfl); (try omega))
    simp only [Act.put, List.setIfInBounds_toArray, List.set_cons_zero, List.set_cons_succ]
    refine only_op 9 rfl (by kernel_rfl) (by rfl) (wp_call 28 26 #[.int .u32 0, .string (s.extract 0 2 ++ s.extract 6 (6 + m))] (.int .u32 (N : Int)) (fun W => Wd = W) rfl (by go_simp) (HS.out Wd) (fun w1 hw1 => ⟨hw1 ▸ hS, ?_⟩))
    subst hw1
    simp only [Act.put, List.setIfInBounds_toArray, List.set_cons_zero, List.set_cons_succ]
    refine take_op 10 29 (.int .i64 (N : Int)) rfl rfl (by kernel_rfl) (fun _ _ _ h => h) (by rfl) hS (fun w' hS' => ?hv10) ?hh10
    case hv10 => (go_simp; (try with_reducible rfl); (try omega))
    simp only [Act.put, List.setIfInBounds_toArray, List.set_cons_zero, List.set_cons_succ]
    refine only_op 11 rfl (by kernel_rfl) (by rfl) (wp_call 30 25 #[.int .i64 (N : Int), .int .i64 4] (.string Z) (fun W => Below Wd.heap.size Wd W) rfl (by go_simp) (HZ.out Wd) (fun w2 hb2 => ⟨hS.trans (hb2.mono hS.size), ?_⟩))
    simp only [Act.put, List.setIfInBounds_toArray, List.set_cons_zero, List.set_cons_succ]
    have hS := hS.trans (hb2.mono hS.size)
    clear hb2
    refine take_op 12 31 (.string (s.extract 0 2 ++ Z)) rfl rfl (by kernel_rfl) (fun _ _ _ h => h) (by rfl) hS (fun w' hS' => ?hv12) ?hh12
    case hv12 => (go_simp; (try with_reducible rfl); (try omega))
    simp only [Act.put, List.setIfInBounds_toArray, List.set_cons_zero, List.set_cons_succ]
    refine take_op 15 34 (.string (s.extract 0 2 ++ Z ++ s.extract 6 s.size)) rfl rfl (by kernel_rfl) (fun _ _ _ h => h) (by rfl) hS (fun w' hS' => ?hv15) ?hh15
    case hv15 => (go_simp; (try with_reducible rfl); (try omega))
    simp only [Act.put, List.setIfInBounds_toArray, List.set_cons_zero, List.set_cons_succ]
    refine take_op 16 2 ?v16 rfl rfl (by kernel_rfl) (fun _ _ _ h => h) (by rfl) hS (fun w' hS' => ?hv16) ?hh16
    case hv16 => (go_simp; (try with_reducible rfl); (try omega))
    simp only [Act.put, List.setIfInBounds_toArray, List.set_cons_zero, List.set_cons_succ]
    refine wpAnyH_done (by kernel_rfl) ?_ _
    go_wp2_with fail
    go_ret
    exact ⟨rfl, hS⟩
end Go.Proofs.YtimoncjdfmfojaaDoor
