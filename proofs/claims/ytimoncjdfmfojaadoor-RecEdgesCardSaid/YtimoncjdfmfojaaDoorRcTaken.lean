/- Package rec: a record taken. -/
import Derived.Test.YtimoncjdfmfojaaDoorRcFirst
namespace Go.Proofs.YtimoncjdfmfojaaDoor
open Go.RowKit Go.Lib Vbi Rcd Crc

theorem as_whole (v : Value) (w : World) : (Instr.typeAssert (.iface 65 v) 20 65 true).run Tryd.prog w = .ok (.tuple #[v, .bool true]) w := by kernel_rfl
theorem not_whole (v : Value) (w : World) : (Instr.typeAssert (.iface 31 v) 20 65 true).run Tryd.prog w = .ok (.tuple #[.agg (warr 0 0 ⟨#[]⟩ ⟨#[]⟩ 0 false 0), .bool false]) w := by kernel_rfl
theorem as_errno (v : Value) (w : World) : (Instr.typeAssert (.iface 31 v) 20 31 false).run Tryd.prog w = .ok v w := by kernel_rfl
theorem info_whole : (Tryd.prog.info? 65).map (·.size) = some 7 := by kernel_rfl
theorem one_whole (o t : Int) (k b : ByteArray) (q : Int) (g : Bool) (n : Int) : (warr o t k b q g n).all (·.oneCell') = true := by simp [warr, Value.oneCell']
/-- The record within a whole one, read. -/
theorem load_whole {W : World} {g : Nat} {o t : Int} {k b : ByteArray} {q : Int} {h : Bool} {n : Int} (hb : Blk W g (warr o t k b q h n)) : (loadVar 28 ⟨g, 0, none⟩).run Tryd.prog W = .ok (.agg (rarr o t k b q h)) W :=
  run_loadVar_mid W g 0 28 (rarr o t k b q h).toList _ (fun j v hv => by
    rw [Nat.zero_add, hb.cell j]
    match j, hv with
    | 0, hv => exact hv
    | 1, hv => exact hv
    | 2, hv => exact hv
    | 3, hv => exact hv
    | 4, hv => exact hv
    | 5, hv => exact hv) Tryd.underlying28 rfl (by rw [info_rec]; rfl)

set_option maxRecDepth 100000 in
set_option maxHeartbeats 4000000 in
theorem Take_bad (s : ByteArray) (E : Int) (w : World)
    (h : ∀ W, Below w.heap.size w W → Calls Tryd.prog 34 #[.string s] W fun e w' => e = .returned (.iface 31 (.int .i64 E)) ∧ Below W.heap.size W w') :
    Calls Tryd.prog 16 #[.string s] w fun e w' => e = .returned (.tuple #[.agg zcells, .int .i64 0, .int .i64 E]) ∧ Below w.heap.size w w' := by
  have hnw := not_whole
  have hae := as_errno
  unfold warr at hnw
  have R0 := Lib.hid (RBox.new w 28 zcells)
  have H := Lib.hid h
  obtain ⟨W0, hW⟩ : ∃ W0, w.alloc (.cells zcells 28) = W0 := ⟨_, rfl⟩
  rw [hW] at R0
  unfold zcells at hW
  have HW := Lib.hid hW
  clear hW h
  go_enter Tryd.func16, Tryd.ntmps16
  go_upto_region 1 with fail
  rw [HW.out]
  clear HW
  obtain ⟨p, hp⟩ : ∃ p, w.heap.size = p := ⟨_, rfl⟩
  have hpw : w.heap.size ≤ p := Nat.le_of_eq hp
  rw [hp] at R0
  rw [hp]
  clear hp
  go_wp2_with fail
  refine (H.out _ R0.out.out.2).mono ?_
  rintro e w1 ⟨rfl, hb1⟩
  have R1 := Lib.hid (R0.out.below hb1)
  clear R0 hb1 H
  have hbn := Blk.new w1 65 (warr 0 0 ⟨#[]⟩ ⟨#[]⟩ 0 false 0)
  have hbl : Below w1.heap.size w1 (w1.alloc (.cells (warr 0 0 ⟨#[]⟩ ⟨#[]⟩ 0 false 0) 65)) := (Below.refl _ _).alloc (Nat.le_refl _) _
  obtain ⟨g9, hg9⟩ : ∃ k, w1.heap.size = k := ⟨_, rfl⟩
  have hpg : p < g9 := by rw [← hg9]; exact R1.out.out.1.lt
  obtain ⟨W4, hW4⟩ : ∃ W, w1.alloc (.cells (warr 0 0 ⟨#[]⟩ ⟨#[]⟩ 0 false 0) 65) = W := ⟨_, rfl⟩
  rw [hW4] at hbl hbn
  rw [hg9] at hbn
  have R4 := R1.out.below hbl
  have HBN := Lib.hid hbn
  have HR5 := Lib.hid (RBox.mk (blk_row_far R4.out.1 (by omega) (warr 0 0 ⟨#[]⟩ ⟨#[]⟩ 0 false 0)) (below_row R4.out.2 (by omega) (warr 0 0 ⟨#[]⟩ ⟨#[]⟩ 0 false 0)) : RBox w p zcells (W4.setRow g9 (warr 0 0 ⟨#[]⟩ ⟨#[]⟩ 0 false 0)))
  unfold warr at hW4
  have HW4 := Lib.hid hW4
  clear hbn hbl hW4 R1 R4
  unfold warr at HBN HR5
  go_upto_region 4 with (rw [HW4.out]; refine wpList_store_whole rfl 65 (.tmp 6) (.tmp 13) rfl g9 _ rfl rfl _ HBN.out info_whole rfl (by simp [Value.oneCell']) ?_; simp only [Act.put])
  clear hg9 HW4 HBN
  generalize World.setRow _ _ _ = w5 at HR5 ⊢
  have R5 := Lib.hid (HR5.out.drewN 1)
  have R6 := Lib.hid (show Blk ((w5.drewN 1).setRow p zcells) p zcells ∧ Below w.heap.size w ((w5.drewN 1).setRow p zcells) from ⟨R5.out.out.1.row _, below_row R5.out.out.2 hpw _⟩)
  clear HR5
  refine wp_region_held_drew (S := fun _ => True) (by kernel_rfl) trivial (fun hS => ?_)
  change wpAnyH _ _ _ _ _ _ _ _ (w5.drewN 1)
  generalize w5.drewN 1 = Wd at R5 R6 ⊢
  refine take_op 0 17 (.agg zcells) rfl rfl (by kernel_rfl) (fun _ _ _ h => h) (by rfl) trivial (fun w' hS' => ?hv0) ?hh0
  case hv0 => (unfold zcells; go_simp; try with_reducible rfl)
  simp only [Act.put, List.setIfInBounds_toArray, List.set_cons_zero, List.set_cons_succ]
  refine take_op 1 18 ?v1 rfl rfl (by kernel_rfl) (fun _ _ _ h => h) (by rfl) trivial (fun w' hS' => ?hv1) ?hh1
  case hv1 => (go_simp; try with_reducible rfl)
  simp only [Act.put, List.setIfInBounds_toArray, List.set_cons_zero, List.set_cons_succ]
  refine take_op 2 19 ?v2 rfl rfl (by kernel_rfl) (fun _ _ _ h => h) (by rfl) trivial (fun w' hS' => ?hv2) ?hh2
  case hv2 => (go_simp; try with_reducible rfl)
  simp only [Act.put, List.setIfInBounds_toArray, List.set_cons_zero, List.set_cons_succ]
  obtain ⟨T, hpT⟩ := R5.out.out.1
  refine only_op 3 rfl (by kernel_rfl) (by rfl) (wp_store_row 28 (.tmp 2) (.tmp 17) rfl p zcells rfl rfl T _ hpT info_rec rfl one_zero ⟨trivial, ?_⟩)
  simp only [Act.put]
  refine take_op 4 3 ?v4 rfl rfl (by kernel_rfl) (fun _ _ _ h => h) (by rfl) trivial (fun w' hS' => ?hv4) ?hh4
  case hv4 => (go_simp; try with_reducible rfl)
  simp only [Act.put, List.setIfInBounds_toArray, List.set_cons_zero, List.set_cons_succ]
  refine take_op 5 4 ?v5 rfl rfl (by kernel_rfl) (fun _ _ _ h => h) (by rfl) trivial (fun w' hS' => ?hv5) ?hh5
  case hv5 => (go_simp; try with_reducible rfl)
  simp only [Act.put, List.setIfInBounds_toArray, List.set_cons_zero, List.set_cons_succ]
  refine wpAnyH_done (by kernel_rfl) ?_ _
  clear hpT R5 hS
  go_wp2_with fail
  refine bodyPost_ret (results_rec3 Tryd.results16 rfl R6.out.1 rfl rfl rfl) rfl ⟨rfl, R6.out.2⟩

set_option maxRecDepth 100000 in
set_option maxHeartbeats 4000000 in
theorem Take_good (s : ByteArray) (o t : Int) (k b : ByteArray) (q : Int) (gn : Bool) (n : Int) (w : World)
    (h : ∀ W, Below w.heap.size w W → Calls Tryd.prog 34 #[.string s] W fun e w' => e = .returned (.iface 65 (.agg (warr o t k b q gn n))) ∧ Below W.heap.size W w') :
    Calls Tryd.prog 16 #[.string s] w fun e w' => e = .returned (.tuple #[.agg (rarr o t k b q gn), .int .i64 n, .int .i64 0]) ∧ Below w.heap.size w w' := by
  have haw := as_whole (.agg (warr o t k b q gn n))
  unfold warr at haw
  have R0 := Lib.hid (RBox.new w 28 zcells)
  unfold warr at h
  have H := Lib.hid h
  obtain ⟨W0, hW⟩ : ∃ W0, w.alloc (.cells zcells 28) = W0 := ⟨_, rfl⟩
  rw [hW] at R0
  unfold zcells at hW
  have HW := Lib.hid hW
  clear hW h
  go_enter Tryd.func16, Tryd.ntmps16
  go_upto_region 1 with fail
  rw [HW.out]
  clear HW
  obtain ⟨p, hp⟩ : ∃ p, w.heap.size = p := ⟨_, rfl⟩
  have hpw : w.heap.size ≤ p := Nat.le_of_eq hp
  rw [hp] at R0
  rw [hp]
  clear hp
  go_wp2_with fail
  refine (H.out _ R0.out.out.2).mono ?_
  rintro e w1 ⟨rfl, hb1⟩
  have R1 := Lib.hid (R0.out.below hb1)
  clear R0 hb1 H
  have hbn := Blk.new w1 65 (warr 0 0 ⟨#[]⟩ ⟨#[]⟩ 0 false 0)
  have hbl : Below w1.heap.size w1 (w1.alloc (.cells (warr 0 0 ⟨#[]⟩ ⟨#[]⟩ 0 false 0) 65)) := (Below.refl _ _).alloc (Nat.le_refl _) _
  obtain ⟨g9, hg9⟩ : ∃ k, w1.heap.size = k := ⟨_, rfl⟩
  have hpg : p < g9 := by rw [← hg9]; exact R1.out.out.1.lt
  obtain ⟨W4, hW4⟩ : ∃ W, w1.alloc (.cells (warr 0 0 ⟨#[]⟩ ⟨#[]⟩ 0 false 0) 65) = W := ⟨_, rfl⟩
  rw [hW4] at hbl hbn
  rw [hg9] at hbn
  have R4 := R1.out.below hbl
  have HBN := Lib.hid hbn
  have HR5 := Lib.hid (RBox.mk (blk_row_far R4.out.1 (by omega) (warr o t k b q gn n)) (below_row R4.out.2 (by omega) (warr o t k b q gn n)) : RBox w p zcells (W4.setRow g9 (warr o t k b q gn n)))
  have HG5 := Lib.hid (hbn.row (warr o t k b q gn n))
  unfold warr at hW4
  have HW4 := Lib.hid hW4
  clear hbn hbl hW4 R1 R4
  unfold warr at HBN HR5 HG5
  go_upto_region 5 with (rw [HW4.out]; refine wpList_store_whole rfl 65 (.tmp 6) (.tmp 13) rfl g9 _ rfl rfl _ HBN.out info_whole rfl (by simp [Value.oneCell']) ?_; simp only [Act.put])
  clear hg9 HW4 HBN
  generalize World.setRow _ _ _ = w5 at HR5 HG5 ⊢
  have R5 := Lib.hid (HR5.out.drewN 1)
  have hG : Blk (w5.drewN 1) g9 (warr o t k b q gn n) := HG5.out
  have R6 := Lib.hid (show Blk ((w5.drewN 1).setRow p (rarr o t k b q gn)) p (rarr o t k b q gn) ∧ Below w.heap.size w ((w5.drewN 1).setRow p (rarr o t k b q gn)) from ⟨R5.out.out.1.row _, below_row R5.out.out.2 hpw _⟩)
  have hG6 : Blk ((w5.drewN 1).setRow p (rarr o t k b q gn)) g9 (warr o t k b q gn n) := blk_row_far hG (by omega) _
  clear HR5 HG5
  refine wp_region_held_drew (S := fun W => Blk W g9 (warr o t k b q gn n)) (by kernel_rfl) hG (fun hS => ?_)
  change wpAnyH _ _ _ _ _ _ _ _ (w5.drewN 1)
  generalize w5.drewN 1 = Wd at R5 R6 hG hG6 ⊢
  refine take_op 0 20 ?v0 rfl rfl (by kernel_rfl) (fun _ _ _ h => h) (by rfl) hG (fun w' hS' => ?hv0) ?hh0
  case hv0 => (go_simp; try with_reducible rfl)
  simp only [Act.put, List.setIfInBounds_toArray, List.set_cons_zero, List.set_cons_succ]
  refine take_load 1 21 28 (.tmp 20) g9 0 (.agg (rarr o t k b q gn)) rfl rfl (by kernel_rfl) (fun _ _ _ h => h) (by rfl) hG rfl rfl (fun w' hS' => load_whole hS') ?_
  simp only [Act.put, List.setIfInBounds_toArray, List.set_cons_zero, List.set_cons_succ]
  refine take_op 2 22 ?v2 rfl rfl (by kernel_rfl) (fun _ _ _ h => h) (by rfl) hG (fun w' hS' => ?hv2) ?hh2
  case hv2 => (go_simp; try with_reducible rfl)
  simp only [Act.put, List.setIfInBounds_toArray, List.set_cons_zero, List.set_cons_succ]
  refine take_op 3 23 ?v3 rfl rfl (by kernel_rfl) (fun _ _ _ h => h) (by rfl) hG (fun w' hS' => ?hv3) ?hh3
  case hv3 => (have d6 : w'.cell? ⟨g9, 6, none⟩ = some (.int .i64 n) := hS'.cell 6; go_simp; try with_reducible rfl)
  simp only [Act.put, List.setIfInBounds_toArray, List.set_cons_zero, List.set_cons_succ]
  obtain ⟨T, hpT⟩ := R5.out.out.1
  refine only_op 4 rfl (by kernel_rfl) (by rfl) (wp_store_row 28 (.tmp 2) (.tmp 21) rfl p (rarr o t k b q gn) rfl rfl T _ hpT info_rec rfl (one_arr _ _ _ _ _ _) ⟨hG6, ?_⟩)
  simp only [Act.put]
  refine take_op 5 3 ?v5 rfl rfl (by kernel_rfl) (fun _ _ _ h => h) (by rfl) hG6 (fun w' hS' => ?hv5) ?hh5
  case hv5 => (go_simp; try with_reducible rfl)
  simp only [Act.put, List.setIfInBounds_toArray, List.set_cons_zero, List.set_cons_succ]
  refine take_op 6 4 ?v6 rfl rfl (by kernel_rfl) (fun _ _ _ h => h) (by rfl) hG6 (fun w' hS' => ?hv6) ?hh6
  case hv6 => (go_simp; try with_reducible rfl)
  simp only [Act.put, List.setIfInBounds_toArray, List.set_cons_zero, List.set_cons_succ]
  refine wpAnyH_done (by kernel_rfl) ?_ _
  clear hpT R5 hS hG hG6
  go_wp2_with fail
  refine bodyPost_ret (results_rec3 Tryd.results16 rfl R6.out.1 rfl rfl rfl) rfl ⟨rfl, R6.out.2⟩

/-- rec.Take. -/
theorem Take_is (s : ByteArray) (R : Rc) (n : Nat) (E : Int) (w : World) (hm : s.size ≤ 1000000) (ht : Tab w) (h : takeR s.data.toList = (R, n, E)) :
    Calls Tryd.prog 16 #[.string s] w fun e w' => e = .returned (.tuple #[ragg R, .int .i64 (n : Int), .int .i64 E]) ∧ Below w.heap.size w w' := by
  by_cases h0 : E = 0
  · subst h0
    exact Take_good s R.o R.t (str R.k) (str R.b) R.q R.g n w (fun W hb => first_is s _ W hm (ht.below hb) (by rw [h, firstV_ok]))
  · have hz : R = zero ∧ n = 0 := by
      rcases take_err s.data.toList with e | e | e
      · rw [h] at e; exact absurd e h0
      · rw [h] at e; injection e with e1 e2; injection e2 with e2 e3; exact ⟨e1, e2⟩
      · rw [h] at e; injection e with e1 e2; injection e2 with e2 e3; exact ⟨e1, e2⟩
    obtain ⟨rfl, rfl⟩ := hz
    exact Take_bad s E w (fun W hb => first_is s _ W hm (ht.below hb) (by rw [h, firstV_bad _ _ _ h0]))
end Go.Proofs.YtimoncjdfmfojaaDoor
