/- Package pack: the packet that bytes begin with. -/
import Derived.Test.YtdbbcfohjkgdcaaGreatM00
import Derived.Test.YtdbbcfohjkgdcaaGreatM18
set_option maxRecDepth 100000
set_option maxHeartbeats 64000000
namespace Go.Proofs.YtdbbcfohjkgdcaaGreat
open Go.RowKit Go.Lib Prp Pkt Vbi
def GivesPk (R : Pk × Int × Int) (w : World) (r : Ending) (w' : World) : Prop :=
 ∃ a, r = .returned (.tuple #[.agg (pkArr R.1 a), .int .i64 R.2.1, .int .i64 R.2.2]) ∧ PkAt w' w'.heap.size R.1 a ∧ PkCap R.1 a ∧ Below w.heap.size w w'
def GivesPkN (R : Pk × Int × Int) (w : World) (r : Ending) (w' : World) : Prop :=
 ∃ a, r = .returned (.tuple #[.agg (pkArr R.1 a), .int .i64 R.2.1, .int .i64 R.2.2]) ∧ PkAt w' w'.heap.size R.1 a ∧ PkCap R.1 a ∧ PkNew w.heap.size a ∧ Below w.heap.size w w'
theorem GivesPkN.pk {R : Pk × Int × Int} {w : World} {r : Ending} {w' : World} (h : GivesPkN R w r w') : GivesPk R w r w' := by
 obtain ⟨a, h1, h2, h3, _, h5⟩ := h
 exact ⟨a, h1, h2, h3, h5⟩
def OutAt (w : World) (k0 : Nat) (W : World) : Prop := ∃ cs, Box W k0 cs ∧ cs.size = 25 ∧ Below w.heap.size w W ∧ w.heap.size ≤ k0
theorem OutAt.drew {w W : World} {k0 : Nat} (h : OutAt w k0 W) : OutAt w k0 (W.drewN 1) := by
 obtain ⟨cs, h1, h2, h3, h4⟩ := h
 exact ⟨cs, h1.drewN 1, h2, below_drewN h3 1, h4⟩
theorem OutAt.below {w W W' : World} {k0 : Nat} (h : OutAt w k0 W) (hb : Below W.heap.size W W') : OutAt w k0 W' := by
 obtain ⟨cs, h1, h2, h3, h4⟩ := h
 exact ⟨cs, h1.below hb, h2, h3.trans (hb.mono (by have := h1.lt; omega)), h4⟩
theorem OutAt.row {w W : World} {k0 : Nat} {ds : Array Value} (h : OutAt w k0 W) (hd : ds.size = 25) : OutAt w k0 (W.setRow k0 ds) := by
 obtain ⟨cs, h1, h2, h3, h4⟩ := h
 exact ⟨ds, h1.row ds, hd, (Bar.row k0 W ds).below h3 h4 (by have := h1.lt; omega), h4⟩
theorem PTakeN_is (s : ByteArray) (w : World) (hs : s.size ≤ 268435456) :
  Calls Tryz.prog 46 #[.string s] w (GivesPkN (takeS s) w) := by
 have hb0 := Box.new w 30 (pkArr (zp 0) za)
 have ha := (Below.refl w.heap.size w).alloc (Nat.le_refl _) (.cells (pkArr (zp 0) za) 30)
 obtain ⟨W1, hW⟩ : ∃ W1, w.alloc (.cells (pkArr (zp 0) za) 30) = W1 := ⟨_, rfl⟩
 rw [hW] at hb0 ha
 simp only [pkArr, zp, za, zw, List.length_nil] at hW
 have HW := Lib.hid hW
 have HK0 := Lib.hid hb0
 have HA := Lib.hid ha
 clear hW hb0 ha
 have hkl := HK0.out.lt
 have HBR : Hid (Below w.heap.size w (W1.setRow w.heap.size (pkArr (zp 0) za))) := Lib.hid ((Bar.row w.heap.size W1 (pkArr (zp 0) za)).below HA.out (Nat.le_refl _) (by omega))
 rcases takeS_cases s with ⟨hz, e⟩ | ⟨hz, E, ht, hE, e⟩ | ⟨hz, m, q, ht, hq, hm, hw, hb⟩
 ·rw [e]
  obtain rfl : s = ByteArray.empty := ByteArray.size_eq_zero_iff.1 hz
  clear hz e
  go_enter Tryz.func46, Tryz.ntmps46
  go_upto_region 1 with fail
  rw [HW.out]
  obtain ⟨k0, hk0⟩ : ∃ k, w.heap.size = k := ⟨_, rfl⟩
  rw [hk0] at HK0 ⊢
  have HBR : Hid (Below w.heap.size w (W1.setRow k0 (pkArr (zp 0) za))) := by rw [← hk0]; exact HBR
  clear hk0 HW
  go_wp2_with (first | (refine wpList_build_none rfl rfl ?_) | (refine wpList_store_whole rfl 30 (.tmp 2) (.tmp 9) rfl k0 (pkArr (zp 0) za) rfl rfl (pkArr (zp 0) za) HK0.out info_pk rfl (one_pk _ _) ?_; simp only [Act.put]))
  refine bodyPost_ret (results_pk3 Tryz.results46 rfl (HK0.out.row (pkArr (zp 0) za)) rfl rfl) rfl ⟨za, rfl, PkAt.zero _ _ 0, PkCap.zero' _ ⟨rfl, rfl, rfl, rfl⟩, .zero _, HBR.out⟩
 ·rw [e]
  have HT := Lib.hid (fun W => TakeNum_z (s.extract 1 s.size) 0 0 E W (by rw [ByteArray.size_extract]; omega) ht)
  obtain ⟨hne, hne2⟩ := size_facts hz
  have hEb := ne_true hE
  have hl1 : (1 : Int) ≤ (s.size : Int) := by omega
  clear e ht
  go_enter Tryz.func46, Tryz.ntmps46
  go_upto_region 1 with fail
  rw [HW.out]
  obtain ⟨k0, hk0⟩ : ∃ k, w.heap.size = k := ⟨_, rfl⟩
  rw [hk0] at HK0 ⊢
  have HBR : Hid (Below w.heap.size w (W1.setRow k0 (pkArr (zp 0) za))) := by rw [← hk0]; exact HBR
  clear hk0 HW
  go_wp2_with (first | (refine wpList_build_none rfl rfl ?_) | (refine wpList_store_whole rfl 30 (.tmp 2) (.tmp 19) rfl k0 (pkArr (zp 0) za) rfl rfl (pkArr (zp 0) za) HK0.out info_pk rfl (one_pk _ _) ?_; simp only [Act.put]) | (go_at_call 81; refine (HT.out _).mono ?_; rintro r wt ⟨rfl, rfl⟩))
  refine bodyPost_ret (results_pk3 Tryz.results46 rfl (HK0.out.row (pkArr (zp 0) za)) rfl rfl) rfl ⟨za, rfl, PkAt.zero _ _ 0, PkCap.zero' _ ⟨rfl, rfl, rfl, rfl⟩, .zero _, HBR.out⟩
 have HT := Lib.hid (fun W => TakeNum_z (s.extract 1 s.size) (m : Int) (q : Int) 0 W (by rw [ByteArray.size_extract]; omega) ht)
 obtain ⟨hne, hne2⟩ := size_facts hz
 have hl1 : (1 : Int) ≤ (s.size : Int) := by omega
 rcases hb with ⟨h8, e⟩ | ⟨h8, hl, e⟩ | ⟨h8, hl, p, st, hbd, e⟩
 ·rw [e]
  have h8I : (8192 : Int) < 1 + (q : Int) + (m : Int) := by omega
  clear e ht hw h8
  go_enter Tryz.func46, Tryz.ntmps46
  go_upto_region 1 with fail
  rw [HW.out]
  obtain ⟨k0, hk0⟩ : ∃ k, w.heap.size = k := ⟨_, rfl⟩
  rw [hk0] at HK0 ⊢
  have HBR : Hid (Below w.heap.size w (W1.setRow k0 (pkArr (zp 0) za))) := by rw [← hk0]; exact HBR
  clear hk0 HW
  go_wp2_with (first | (refine wpList_build_none rfl rfl ?_) | (refine wpList_store_whole rfl 30 (.tmp 2) (.tmp 27) rfl k0 (pkArr (zp 0) za) rfl rfl (pkArr (zp 0) za) HK0.out info_pk rfl (one_pk _ _) ?_; simp only [Act.put]) | (go_at_call 81; refine (HT.out _).mono ?_; rintro r wt ⟨rfl, rfl⟩))
  refine bodyPost_ret (results_pk3 Tryz.results46 rfl (HK0.out.row (pkArr (zp 0) za)) rfl rfl) rfl ⟨za, rfl, PkAt.zero _ _ 0, PkCap.zero' _ ⟨rfl, rfl, rfl, rfl⟩, .zero _, HBR.out⟩
 ·rw [e]
  have h8I : ¬ (8192 : Int) < 1 + (q : Int) + (m : Int) := by omega
  have hlI : (s.size : Int) < 1 + (q : Int) + (m : Int) := by omega
  clear e ht hw h8 hl
  go_enter Tryz.func46, Tryz.ntmps46
  go_upto_region 1 with fail
  rw [HW.out]
  obtain ⟨k0, hk0⟩ : ∃ k, w.heap.size = k := ⟨_, rfl⟩
  rw [hk0] at HK0 ⊢
  have HBR : Hid (Below w.heap.size w (W1.setRow k0 (pkArr (zp 0) za))) := by rw [← hk0]; exact HBR
  clear hk0 HW
  go_wp2_with (first | (refine wpList_build_none rfl rfl ?_) | (refine wpList_store_whole rfl 30 (.tmp 2) (.tmp 34) rfl k0 (pkArr (zp 0) za) rfl rfl (pkArr (zp 0) za) HK0.out info_pk rfl (one_pk _ _) ?_; simp only [Act.put]) | (go_at_call 81; refine (HT.out _).mono ?_; rintro r wt ⟨rfl, rfl⟩))
  refine bodyPost_ret (results_pk3 Tryz.results46 rfl (HK0.out.row (pkArr (zp 0) za)) rfl rfl) rfl ⟨za, rfl, PkAt.zero _ _ 0, PkCap.zero' _ ⟨rfl, rfl, rfl, rfl⟩, .zero _, HBR.out⟩
 ·rw [e]
  have hid := id_at (s := s) (by omega)
  have hb0 := s[0].toNat_lt
  have HT2 := Lib.hid (fun W => packAll_is (idOf s) (s.extract (1 + q) (1 + q + m)) W (by rw [hid]; omega) (by rw [hid]; omega) (by rw [ByteArray.size_extract]; omega))
  rw [hid, ← hid, hbd] at HT2
  rw [hid] at HT2
  have hsl : 0 < s.size := by omega
  have h8I : ¬ (8192 : Int) < 1 + (q : Int) + (m : Int) := by omega
  have hlI : ¬ (s.size : Int) < 1 + (q : Int) + (m : Int) := by omega
  have hp1 : 0 ≤ 1 + (q : Int) := by omega
  have hp2 : 1 + (q : Int) ≤ 1 + (q : Int) + (m : Int) := by omega
  have hp3 : 1 + (q : Int) + (m : Int) ≤ (s.size : Int) := by omega
  have ht1 : (1 + (q : Int)).toNat = 1 + q := by omega
  have ht2 : (1 + (q : Int) + (m : Int)).toNat = 1 + q + m := by omega
  have hwr : IntKind.i64.wrap (1 + (q : Int) + (m : Int)) = 1 + (q : Int) + (m : Int) := IntWalk.i64_in _ (by omega)
  have hq0 : 0 ≤ (q : Int) := by omega
  have hm0 : 0 ≤ (m : Int) := by omega
  obtain ⟨b, hb⟩ : ∃ b, s[0] = b := ⟨_, rfl⟩
  rw [hb] at HT2 hb0
  have hwb : IntKind.i64.wrap (b.toNat : Int) = (b.toNat : Int) := IntWalk.i64_in _ (by omega)
  obtain ⟨E, hEE⟩ : ∃ E, st.err = E := ⟨_, rfl⟩
  have hnn : ((1 + q + m : Nat) : Int) = 1 + (q : Int) + (m : Int) := by omega
  rw [endS_eq, hEE, hnn]
  obtain ⟨R, hR⟩ : ∃ R, (if st.isBad = false then (p, 1 + (q : Int) + (m : Int), (0 : Int)) else (zp 0, 0, E)) = R := ⟨_, rfl⟩
  rw [hR]
  have HRR := Lib.hid hR
  have HE := Lib.hid hEE
  clear e ht hw h8 hl hid hR hEE hbd hnn
  go_enter Tryz.func46, Tryz.ntmps46
  go_upto_region 1 with fail
  rw [HW.out]
  obtain ⟨k0, hk0⟩ : ∃ k, w.heap.size = k := ⟨_, rfl⟩
  have HKK := Lib.hid hk0
  rw [hk0] at HK0 ⊢
  clear hk0 HW
  go_upto_region 11 with (go_at_call 81; refine (HT.out _).mono ?_; rintro r wt ⟨rfl, rfl⟩)
  have HO := Lib.hid (show OutAt w k0 W1 from ⟨_, HK0.out, rfl, HA.out, by have := HKK.out; omega⟩)
  clear HT
  refine wp_region_held_drew (S := OutAt w k0) (by kernel_rfl) HO.out.drew (fun hHeld => ?_)
  generalize World.drew _ = Wd at hHeld ⊢
  have hkd : k0 < Wd.heap.size := hHeld.choose_spec.1.lt
  refine take_op 0 36 ?v0 rfl rfl (by kernel_rfl) (fun _ _ _ h => h) (by rfl) hHeld (fun w' hS' => ?hv0) ?hh0
  case hv0 => (go_simp; try with_reducible rfl)
  simp only [Act.put, List.setIfInBounds_toArray, List.set_cons_zero, List.set_cons_succ]
  refine take_op 1 37 ?v1 rfl rfl (by kernel_rfl) (fun _ _ _ h => h) (by rfl) hHeld (fun w' hS' => ?hv1) ?hh1
  case hv1 => (go_simp; try with_reducible rfl)
  simp only [Act.put, List.setIfInBounds_toArray, List.set_cons_zero, List.set_cons_succ]
  refine take_op 2 38 ?v2 rfl rfl (by kernel_rfl) (fun _ _ _ h => h) (by rfl) hHeld (fun w' hS' => ?hv2) ?hh2
  case hv2 => (go_simp; try with_reducible rfl)
  simp only [Act.put, List.setIfInBounds_toArray, List.set_cons_zero, List.set_cons_succ]
  refine take_op 3 39 ?v3 rfl rfl (by kernel_rfl) (fun _ _ _ h => h) (by rfl) hHeld (fun w' hS' => ?hv3) ?hh3
  case hv3 => (go_simp; try with_reducible rfl)
  simp only [Act.put, List.setIfInBounds_toArray, List.set_cons_zero, List.set_cons_succ]
  refine take_op 4 40 ?v4 rfl rfl (by kernel_rfl) (fun _ _ _ h => h) (by rfl) hHeld (fun w' hS' => ?hv4) ?hh4
  case hv4 => (go_simp; try with_reducible rfl)
  simp only [Act.put, List.setIfInBounds_toArray, List.set_cons_zero, List.set_cons_succ]
  refine take_op 5 41 ?v5 rfl rfl (by kernel_rfl) (fun _ _ _ h => h) (by rfl) hHeld (fun w' hS' => ?hv5) ?hh5
  case hv5 => (go_simp; try with_reducible rfl)
  simp only [Act.put, List.setIfInBounds_toArray, List.set_cons_zero, List.set_cons_succ]
  refine take_op 6 42 ?v6 rfl rfl (by kernel_rfl) (fun _ _ _ h => h) (by rfl) hHeld (fun w' hS' => ?hv6) ?hh6
  case hv6 => (go_simp; try with_reducible rfl)
  simp only [Act.put, List.setIfInBounds_toArray, List.set_cons_zero, List.set_cons_succ]
  refine take_op 7 43 ?v7 rfl rfl (by kernel_rfl) (fun _ _ _ h => h) (by rfl) hHeld (fun w' hS' => ?hv7) ?hh7
  case hv7 => (go_simp; try with_reducible rfl)
  simp only [Act.put, List.setIfInBounds_toArray, List.set_cons_zero, List.set_cons_succ]
  refine take_op 8 44 ?v8 rfl rfl (by kernel_rfl) (fun _ _ _ h => h) (by rfl) hHeld (fun w' hS' => ?hv8) ?hh8
  case hv8 => (go_simp; try with_reducible rfl)
  simp only [Act.put, List.setIfInBounds_toArray, List.set_cons_zero, List.set_cons_succ]
  refine only_op 9 rfl (by kernel_rfl) (by rfl) (wp_call_ex 45 82 #[.int .i64 (b.toNat : Int), .string (s.extract (1 + q) (1 + q + m))] _ rfl (by go_simp) (HT2.out Wd) ?_)
  rintro r w3 ⟨p', a, rfl, q1, q2, qn, q3, q4, q5⟩
  have q5' : st.isBad = false → p' = p := q5
  have hE3 : st.err = E := HE.out
  rw [show (p, st).2.err = E from hE3]
  refine ⟨_, rfl, hHeld.below q3, ?_⟩
  have hHeld := hHeld.below q3
  simp only [Act.put, List.setIfInBounds_toArray, List.set_cons_zero, List.set_cons_succ]
  refine take_op 10 35 ?v10c rfl rfl (by kernel_rfl) (fun _ _ _ h => h) (by rfl) hHeld (fun w' hS' => ?hv10c) ?hh10c
  case hv10c => (go_simp; try with_reducible rfl)
  simp only [Act.put, List.setIfInBounds_toArray, List.set_cons_zero, List.set_cons_succ]
  refine take_op 11 46 ?v11c rfl rfl (by kernel_rfl) (fun _ _ _ h => h) (by rfl) hHeld (fun w' hS' => ?hv11c) ?hh11c
  case hv11c => (go_simp; try with_reducible rfl)
  simp only [Act.put, List.setIfInBounds_toArray, List.set_cons_zero, List.set_cons_succ]
  refine take_op 12 47 ?v12c rfl rfl (by kernel_rfl) (fun _ _ _ h => h) (by rfl) hHeld (fun w' hS' => ?hv12c) ?hh12c
  case hv12c => (go_simp; try with_reducible rfl)
  simp only [Act.put, List.setIfInBounds_toArray, List.set_cons_zero, List.set_cons_succ]
  obtain ⟨cs, hcs⟩ := hHeld
  obtain ⟨T, hT⟩ := hcs.1
  have hHeld2 : OutAt w k0 (w3.setRow k0 (pkArr p' a)) := OutAt.row ⟨cs, hcs⟩ rfl
  refine only_op 13 rfl (by kernel_rfl) (by rfl) (wp_store_row 30 (.tmp 2) (.tmp 46) rfl k0 (pkArr p' a) rfl rfl T cs hT info_pk hcs.2.1 (one_pk _ _) ⟨hHeld2, ?_⟩)
  simp only [Act.put]
  refine take_op 14 4 ?v14 rfl rfl (by kernel_rfl) (fun _ _ _ h => h) (by rfl) hHeld2 (fun w' hS' => ?hv14) ?hh14
  case hv14 => (go_simp; try with_reducible rfl)
  simp only [Act.put, List.setIfInBounds_toArray]
  refine wpAnyH_done (by kernel_rfl) ?_ _
  have HK3 : Hid (Box (w3.setRow k0 (pkArr p' a)) k0 (pkArr p' a)) := Lib.hid (hcs.1.row _)
  have HB3 := Lib.hid hHeld2.choose_spec.2.2.1
  have HOFF : Hid (PkOff k0 a ∧ PkAt (w3.setRow k0 (pkArr p' a)) (w3.setRow k0 (pkArr p' a)).heap.size p' a) := by
   have ho : PkOff k0 a := qn.off hkd
   exact ⟨ho, pk_bar q1 ho (Bar.row k0 w3 _)⟩
  have Q2 := Lib.hid q2
  have QN := Lib.hid (qn.mono (B' := w.heap.size) (by have := HKK.out; omega))
  have Q4 := Lib.hid q4
  have Q5 := Lib.hid q5'
  clear hcs hT hHeld2 q1 q2 qn q3 q4 q5 q5' hE3 HT2 HO
  by_cases hbad : st.isBad = false
  ·have hE0 : E = 0 := by rw [← HE.out]; exact err_ok hbad
   subst hE0
   have HRE : Hid (R = (p, 1 + (q : Int) + (m : Int), 0)) := by show _ = _; rw [← HRR.out, if_pos hbad]
   obtain rfl := Q5.out hbad
   clear hbad HE HRR Q5 Q4
   have hld := load_bx HK3.out
   go_wp2_with (first | (refine wpList_load_any (by rfl) 30 (.tmp 2) rfl k0 0 rfl _ hld ?_) | (refine wpList_store_whole rfl 30 (.tmp 2) (.tmp 52) rfl k0 (pkArr p' a) rfl rfl (pkArr p' a) HK3.out info_pk rfl (one_pk _ _) ?_; simp only [Act.put]))
   have hrow := Bar.row k0 (w3.setRow k0 (pkArr p' a)) (pkArr p' a)
   refine bodyPost_ret (results_pk3 Tryz.results46 rfl (HK3.out.row (pkArr p' a)) rfl rfl) rfl ⟨a, by rw [HRE.out]; rfl, by rw [HRE.out]; exact pk_bar HOFF.out.2 HOFF.out.1 hrow, by rw [HRE.out]; exact Q2.out, QN.out, hrow.below HB3.out (by have := HKK.out; omega) (by have := HK3.out.lt; have := HKK.out; omega)⟩
  ·have hbt : st.isBad = true := by cases h : st.isBad with
    | true => rfl
    | false => exact absurd h hbad
   have hE0 : E ≠ 0 := by rw [← HE.out]; exact err_bad Q4.out hbt
   have hEb := ne_true hE0
   have HRE : Hid (R = (zp 0, 0, E)) := by show _ = _; rw [← HRR.out, if_neg hbad]
   clear hbad hbt HE HRR Q5 Q4
   go_wp2_with (first | (refine wpList_build_none rfl rfl ?_) | (refine wpList_store_whole rfl 30 (.tmp 2) (.tmp 50) rfl k0 (pkArr (zp 0) za) rfl rfl (pkArr p' a) HK3.out info_pk rfl (one_pk _ _) ?_; simp only [Act.put]))
   have hrow := Bar.row k0 (w3.setRow k0 (pkArr p' a)) (pkArr (zp 0) za)
   refine bodyPost_ret (results_pk3 Tryz.results46 rfl (HK3.out.row (pkArr (zp 0) za)) rfl rfl) rfl ⟨za, by rw [HRE.out]; rfl, by rw [HRE.out]; exact PkAt.zero _ _ 0, by rw [HRE.out]; exact PkCap.zero' _ ⟨rfl, rfl, rfl, rfl⟩, .zero _, hrow.below HB3.out (by have := HKK.out; omega) (by have := HK3.out.lt; have := HKK.out; omega)⟩
theorem PTake_is (s : ByteArray) (w : World) (hs : s.size ≤ 268435456) :
  Calls Tryz.prog 46 #[.string s] w (GivesPk (takeS s) w) := (PTakeN_is s w hs).mono fun _ _ h => h.pk
end Go.Proofs.YtdbbcfohjkgdcaaGreat
