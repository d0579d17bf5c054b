/- RecEdges: a record as long as may be is one; longer ones are none; each size is that of its parts. -/
import Derived.Test.YtimoncjdfmfojaaDoorRcTurn
import Derived.Test.YtimoncjdfmfojaaDoorInMore
import Derived.Laws.MakeOwn
import Derived.Deep.CutRange
namespace Go.Proofs.YtimoncjdfmfojaaDoor
open Go.RowKit Go.Lib Vbi Rcd Crc

/-- So many zeros. -/
def Kz : List UInt8 := List.replicate 1024 0
theorem kz_len : Kz.length = 1024 := List.length_replicate
theorem made_zeros (w : World) : ∃ cs : Array Value, (Instr.makeSlice 50 (.int .i64 1024) (.int .i64 1024)).run Tryd.prog w = .ok (.slice (some ⟨w.heap.size, 0, none⟩) 1024 1024) (w.alloc (.cells cs 5)) ∧ BytesAt (w.alloc (.cells cs 5)) w.heap.size Kz := by
  obtain ⟨i0, hi, hz0, hz1, hz2⟩ := info_parts info_byte
  have h := run_makeSlice (P := Tryd.prog) w 50 5 i0 (.int .u8 0) Tryd.underlying50 hi hz0 .i64 .i64 1024 1024 (by omega) (by omega) (by rw [hz1]; decide) (by rw [hz2]; decide) (by omega)
  rw [hz1] at h
  refine ⟨_, h, by simp, fun j hj => ?_⟩
  rw [kz_len] at hj
  have hb := Blk.new w 5 (madeCells (Value.int IntKind.u8 0).cells ((1024 : Int).toNat * 1))
  refine ⟨?_, hb.frozen j⟩
  have hd : Kz.getD j 0 = 0 := by
    unfold Kz
    rw [List.getD_eq_getElem?_getD, List.getElem?_replicate]
    rw [if_pos hj]; rfl
  rw [hd, hb.cell j]
  unfold madeCells
  rw [Array.getElem?_map, Array.getElem?_range]
  have h1 : j < (1024 : Int).toNat * 1 := by simpa using hj
  rw [if_pos h1]
  simp [Value.cells]
  rw [Nat.mod_one]
  rfl

theorem made_is (w : World) : ∃ W', (Instr.makeSlice 50 (.int .i64 1024) (.int .i64 1024)).run Tryd.prog w = .ok (.slice (some ⟨w.heap.size, 0, none⟩) 1024 1024) W' ∧ BytesAt W' w.heap.size Kz ∧ Below w.heap.size w W' := by
  obtain ⟨cs, h1, h2⟩ := made_zeros w
  exact ⟨_, h1, h2, (Below.refl _ _).alloc (Nat.le_refl _) _⟩
/-- What was there ahead of the call, and rows of zeros. -/
@[irreducible] def Sx (w : World) (xs : List Nat) (W : World) : Prop := Below w.heap.size w W ∧ ∀ x ∈ xs, BytesAt W x Kz
section
variable {w W W' : World} {x : Nat} {xs : List Nat}
theorem Sx.mk (h : Below w.heap.size w W ∧ ∀ x ∈ xs, BytesAt W x Kz) : Sx w xs W := by unfold Sx; exact h
theorem Sx.out (h : Sx w xs W) : Below w.heap.size w W ∧ ∀ x ∈ xs, BytesAt W x Kz := by unfold Sx at h; exact h
theorem Sx.below (h : Sx w xs W) (hb : Below W.heap.size W W') : Sx w xs W' := .mk ⟨h.out.1.trans (hb.mono h.out.1.size), fun x hx => (h.out.2 x hx).below hb⟩
theorem Sx.cons (h : Sx w xs W) (hx : BytesAt W x Kz) : Sx w (x :: xs) W := .mk ⟨h.out.1, fun y hy => by
  rcases List.mem_cons.1 hy with rfl | hy
  · exact hx
  · exact h.out.2 y hy⟩
theorem Sx.tail (h : Sx w (x :: xs) W) : Sx w xs W := .mk ⟨h.out.1, fun y hy => h.out.2 y (List.mem_cons_of_mem _ hy)⟩
theorem Sx.head (h : Sx w (x :: xs) W) (hl : Kz.length = 1024) : (convert 50 9 (.slice (some ⟨x, 0, none⟩) 1024 1024)).run Tryd.prog W = .ok (.string (str Kz)) W := (h.out.2 x (List.mem_cons_self ..)).conv hl
theorem Sx.row {g : Nat} (h : Sx w xs W) (hg : w.heap.size ≤ g) (hn : ∀ x ∈ xs, x ≠ g) (ds : Array Value) : Sx w xs (W.setRow g ds) := by
  refine .mk ⟨below_row h.out.1 hg ds, fun x hx => ?_⟩
  have hb := h.out.2 x hx
  have e := setRow_other W g x ds (hn x hx)
  refine ⟨by simpa using hb.1, fun j hj => ⟨(World.cell?_of_block (a := ⟨x, j, none⟩) e).trans (hb.2 j hj).1, (World.frozen?_of_block (a := ⟨x, j, none⟩) e).trans (hb.2 j hj).2⟩⟩
end
theorem three_ops {P : Program} {ops : Array Oper} {Q : Exit → Act → World → Prop} {S : World → Prop} {fuel : Nat} {listed : Array Bool} {a : Act} {w : World} (i j k : Nat) {oi oj ok : Oper} (hi : ops[i]? = some oi) (hj : ops[j]? = some oj) (hk : ops[k]? = some ok) (hr : Region.ready .any ops listed = [i, j, k])
    (hwi : Region.wanted oi (yielded ops a.tmps) = true) (hwj : Region.wanted oj (yielded ops a.tmps) = true) (hwk : Region.wanted ok (yielded ops a.tmps) = true)
    (h1 : Oper.wp P oi a w (fun a' w' => S w' ∧ wpAnyH P .any ops Q S fuel (listed.setIfInBounds i true) a' w') Q)
    (h2 : Oper.wp P oj a w (fun a' w' => S w' ∧ wpAnyH P .any ops Q S fuel (listed.setIfInBounds j true) a' w') Q)
    (h3 : Oper.wp P ok a w (fun a' w' => S w' ∧ wpAnyH P .any ops Q S fuel (listed.setIfInBounds k true) a' w') Q) : wpAnyH P .any ops Q S (fuel + 1) listed a w := by
  refine wpAnyH_all (rs := [i, j, k]) hr (by simp) fun m hm => ?_
  rcases List.mem_cons.1 hm with rfl | hm
  · exact wpOp_step hi (fun K' hK => by
      rw [if_pos hwi]
      exact Oper.wp_mono (fun a' w' h' => hK a' w' h') h1)
  rcases List.mem_cons.1 hm with rfl | hm
  · exact wpOp_step hj (fun K' hK => by
      rw [if_pos hwj]
      exact Oper.wp_mono (fun a' w' h' => hK a' w' h') h2)
  · rw [List.mem_singleton] at hm
    subst hm
    exact wpOp_step hk (fun K' hK => by
      rw [if_pos hwk]
      exact Oper.wp_mono (fun a' w' h' => hK a' w' h') h3)

section
variable {w0 W : World} {g g' : Nat} {cs : Array Value}
theorem RBox.put (h : RBox w0 g cs W) (hg : w0.heap.size ≤ g) (i : Nat) (v : Value) : RBox w0 g (cs.setIfInBounds i v) (W.setCell ⟨g, i, none⟩ v) := .mk (h.out.1.put i v) (h.out.2.setCell (p := ⟨g, i, none⟩) hg v)
theorem RBox.far (h : RBox w0 g cs W) (hn : g ≠ g') (hg : w0.heap.size ≤ g') (i : Nat) (v : Value) : RBox w0 g cs (W.setCell ⟨g', i, none⟩ v) := .mk (h.out.1.far (p := ⟨g', i, none⟩) hn v) (h.out.2.setCell (p := ⟨g', i, none⟩) hg v)
end
theorem str_nil : str [] = (⟨#[]⟩ : ByteArray) := rfl
theorem may_not {o t q : Int} {K B : List UInt8} {g : Bool} (h : ¬ (o ≤ 1099511627775 ∧ t ≤ 1099511627776 ∧ K.length ≤ 1024 ∧ B.length ≤ 1024 ∧ q ≤ 2 ∧ (B = [] ∨ g = false))) : mayB ⟨o, t, K, B, q, g⟩ = false := by
  cases hm : mayB ⟨o, t, K, B, q, g⟩ with
  | false => rfl
  | true =>
    obtain ⟨_, h1, _, h2, h3, h4, _, h5, h6⟩ := (may_iff _).1 hm
    exact absurd ⟨h1, h2, h3, h4, h5, h6⟩ h
theorem may_yes {o t q : Int} {K B : List UInt8} {g : Bool} (h0 : 0 ≤ o ∧ 0 ≤ t ∧ 0 ≤ q) (h : o ≤ 1099511627775 ∧ t ≤ 1099511627776 ∧ K.length ≤ 1024 ∧ B.length ≤ 1024 ∧ q ≤ 2 ∧ (B = [] ∨ g = false)) : mayB ⟨o, t, K, B, q, g⟩ = true :=
  (may_iff _).2 ⟨h0.1, h.1, h0.2.1, h.2.1, h.2.2.1, h.2.2.2.1, h0.2.2, h.2.2.2.2.1, h.2.2.2.2.2⟩
section
variable {o t q : Int} {K B : List UInt8} {g : Bool} {ks bs S : ByteArray}
theorem Bytes_no (w : World) (ht : Tab w) (hm : mayB ⟨o, t, K, B, q, g⟩ = false) (hk : str K = ks) (hb : str B = bs) :
    Calls Tryd.prog 10 #[.agg #[.int .i64 o, .int .i64 t, .string ks, .string bs, .int .i64 q, .bool g]] w fun e w' => e = .returned (.tuple #[.string ⟨#[]⟩, .int .i64 1]) ∧ Below w.heap.size w w' := by
  subst hk hb
  exact Bytes_is ⟨o, t, K, B, q, g⟩ ⟨#[]⟩ 1 w ht (by unfold bytesE; rw [hm]; rfl) (by unfold mayE; rw [hm]; rfl)
theorem Bytes_yes (w : World) (ht : Tab w) (hm : mayB ⟨o, t, K, B, q, g⟩ = true) (hk : str K = ks) (hb : str B = bs) (hS : str (recL ⟨o, t, K, B, q, g⟩) = S) :
    Calls Tryd.prog 10 #[.agg #[.int .i64 o, .int .i64 t, .string ks, .string bs, .int .i64 q, .bool g]] w fun e w' => e = .returned (.tuple #[.string S, .int .i64 0]) ∧ Below w.heap.size w w' := by
  subst hk hb
  exact Bytes_good ⟨o, t, K, B, q, g⟩ S w hm ht hS
theorem Take_yes (w : World) (ht : Tab w) (hm : mayB ⟨o, t, K, B, q, g⟩ = true) (hk : str K = ks) (hb : str B = bs) (hS : str (recL ⟨o, t, K, B, q, g⟩) = S) :
    Calls Tryd.prog 16 #[.string S] w fun e w' => e = .returned (.tuple #[.agg #[.int .i64 o, .int .i64 t, .string ks, .string bs, .int .i64 q, .bool g], .int .i64 (S.size : Int), .int .i64 0]) ∧ Below w.heap.size w w' := by
  have hz : S.size ≤ 1000000 := by
    have := rec_long hm
    rw [← hS, str_size]; omega
  have htk : takeR S.data.toList = (⟨o, t, K, B, q, g⟩, S.size, 0) := by
    have := take_rec [] hm
    rw [List.append_nil] at this
    rw [← hS, str_data, this, str_size]
  subst hk hb
  exact Take_is S ⟨o, t, K, B, q, g⟩ S.size 0 w hz ht htk
theorem RRec_yes (w : World) (hm : mayB ⟨o, t, K, B, q, g⟩ = true) (hk : str K = ks) (hb : str B = bs) :
    Calls Tryd.prog 8 #[.agg #[.int .i64 o, .int .i64 t, .string ks, .string bs, .int .i64 q, .bool g]] w fun e w' => e = .returned (.bool true) ∧ Below w.heap.size w w' := by
  subst hk hb
  exact RRec_is ⟨o, t, K, B, q, g⟩ true w hm
theorem size_yes (hk : str K = ks) (hb : str B = bs) (hS : str (recL ⟨o, t, K, B, q, g⟩) = S) : S.size = 25 + ks.size + bs.size := by
  rw [← hS, ← hk, ← hb, str_size, str_size, str_size, rec_len]
end

set_option maxRecDepth 100000 in
set_option maxHeartbeats 16000000 in
theorem RecEdges_any (A : Option Addr) (n c : Nat) (w : World) (ht : Tab w) :
    Calls Tryd.prog 6 #[.slice A n c] w fun e w' => e = .returned (.bool true) ∧ Below w.heap.size w w' := by
  have T := Lib.hid ht
  clear ht
  obtain ⟨kz, hkz⟩ : ∃ k, str Kz = k := ⟨_, rfl⟩
  have HK := Lib.hid hkz
  have hkzs : kz.size = 1024 := by rw [← hkz, str_size, kz_len]
  clear hkz
  go_enter Tryd.func6, Tryd.ntmps6
  go_upto_region 1 with fail
  go_cut [3] from 12 to 16 (fun s3 wx => ∃ g3, s3 = .pointer (some ⟨g3, 0, none⟩) ∧ RBox w g3 (rarr 1099511627775 1099511627776 kz kz 2 false) wx ∧ w.heap.size ≤ g3)
  case first =>
    have hS0 : Sx w [] w.drew := .mk ⟨below_drewN (Below.refl _ _) 1, fun x hx => by cases hx⟩
    have hsz0 : w.heap.size ≤ w.drew.heap.size := Nat.le_refl _
    refine wp_region_held_drew (S := Sx w []) (by kernel_rfl) hS0 (fun hS => ?_)
    clear hS0
    have hlt : ∀ x ∈ ([] : List Nat), x < w.drew.heap.size := fun x hx => by cases hx
    generalize w.drew = V at hS hlt hsz0 ⊢
    have hsz := hsz0
    clear hsz0 T hkzs
    obtain ⟨Vm, hmk1, hby1, hbm1⟩ := made_is V
    obtain ⟨Va, hWa1⟩ : ∃ W, V.alloc (.cells #[.int .i64 0, .int .i64 0, .string ⟨#[]⟩, .string ⟨#[]⟩, .int .i64 0, .bool false] 28) = W := ⟨_, rfl⟩
    have hba1 : Below V.heap.size V Va := by rw [← hWa1]; exact (Below.refl _ _).alloc (Nat.le_refl _) _
    have hna1 : Blk Va V.heap.size zcells := by rw [← hWa1]; exact Blk.new _ _ _
    refine three_ops 0 2 5 rfl rfl rfl (by kernel_rfl) (by rfl) (by rfl) (by rfl) (wp_made 12 (.slice (some ⟨V.heap.size, 0, none⟩) 1024 1024) rfl (w' := Vm) (by have hmk := hmk1; go_simp; try rfl) ⟨?_, ?_⟩) (wp_made 14 (.slice (some ⟨V.heap.size, 0, none⟩) 1024 1024) rfl (w' := Vm) (by have hmk := hmk1; go_simp; try rfl) ⟨?_, ?_⟩) (wp_made 3 (.pointer (some ⟨V.heap.size, 0, none⟩)) rfl (w' := Va) (by rw [← hWa1]; go_simp; try rfl) ⟨?_, ?_⟩)
    · exact hS.below hbm1
    · simp only [Act.put, List.setIfInBounds_toArray, List.set_cons_zero, List.set_cons_succ]
      obtain ⟨x1_0, hx1⟩ : ∃ x, V.heap.size = x := ⟨_, rfl⟩
      have hS : Sx w [x1_0] Vm := .cons (hS.below hbm1) (by rw [← hx1]; exact hby1)
      rw [hx1]
      have hlt : ∀ x ∈ [x1_0], x < Vm.heap.size := fun x hx => by
        rcases List.mem_cons.1 hx with rfl | hx
        · rw [← hx1]; exact hby1.1
        · have h1 := hlt x hx; have h2 := hbm1.size; omega
      have hsz : w.heap.size ≤ Vm.heap.size := Nat.le_trans hsz hbm1.size
      clear hmk1 hba1 hna1 hWa1
      refine held_stronger (S' := Sx w [x1_0]) (fun _ h => h.tail) _ _ _ _ ?_
      refine take_op 1 13 (.string kz) rfl rfl (by kernel_rfl) (fun _ _ _ h => h) (by rfl) hS (fun w' hS' => by have hcv := hS'.head kz_len; rw [HK.out] at hcv; go_simp; try with_reducible rfl) ?_
      simp only [Act.put, List.setIfInBounds_toArray, List.set_cons_zero, List.set_cons_succ]
      obtain ⟨Vmm, hmk2, hby2, hbm2⟩ := made_is Vm
      obtain ⟨Vma, hWa2⟩ : ∃ W, Vm.alloc (.cells #[.int .i64 0, .int .i64 0, .string ⟨#[]⟩, .string ⟨#[]⟩, .int .i64 0, .bool false] 28) = W := ⟨_, rfl⟩
      have hba2 : Below Vm.heap.size Vm Vma := by rw [← hWa2]; exact (Below.refl _ _).alloc (Nat.le_refl _) _
      have hna2 : Blk Vma Vm.heap.size zcells := by rw [← hWa2]; exact Blk.new _ _ _
      refine two_ops 2 5 rfl rfl (by kernel_rfl) (by rfl) (by rfl) (wp_made 14 (.slice (some ⟨Vm.heap.size, 0, none⟩) 1024 1024) rfl (w' := Vmm) (by have hmk := hmk2; go_simp; try rfl) ⟨?_, ?_⟩) (wp_made 3 (.pointer (some ⟨Vm.heap.size, 0, none⟩)) rfl (w' := Vma) (by rw [← hWa2]; go_simp; try rfl) ⟨?_, ?_⟩)
      · exact hS.below hbm2
      · simp only [Act.put, List.setIfInBounds_toArray, List.set_cons_zero, List.set_cons_succ]
        obtain ⟨x2_2, hx2⟩ : ∃ x, Vm.heap.size = x := ⟨_, rfl⟩
        have hS : Sx w [x2_2, x1_0] Vmm := .cons (hS.below hbm2) (by rw [← hx2]; exact hby2)
        rw [hx2]
        have hlt : ∀ x ∈ [x2_2, x1_0], x < Vmm.heap.size := fun x hx => by
          rcases List.mem_cons.1 hx with rfl | hx
          · rw [← hx2]; exact hby2.1
          · have h1 := hlt x hx; have h2 := hbm2.size; omega
        have hsz : w.heap.size ≤ Vmm.heap.size := Nat.le_trans hsz hbm2.size
        clear hmk2 hba2 hna2 hWa2
        refine held_stronger (S' := Sx w [x2_2, x1_0]) (fun _ h => h.tail) _ _ _ _ ?_
        refine take_op 3 15 (.string kz) rfl rfl (by kernel_rfl) (fun _ _ _ h => h) (by rfl) hS (fun w' hS' => by have hcv := hS'.head kz_len; rw [HK.out] at hcv; go_simp; try with_reducible rfl) ?_
        simp only [Act.put, List.setIfInBounds_toArray, List.set_cons_zero, List.set_cons_succ]
        refine take_op 4 16 (.agg (rarr 1099511627775 1099511627776 kz kz 2 false)) rfl rfl (by kernel_rfl) (fun _ _ _ h => h) (by rfl) hS (fun w' hS' => by unfold rarr; go_simp; try with_reducible rfl) ?_
        simp only [Act.put, List.setIfInBounds_toArray, List.set_cons_zero, List.set_cons_succ]
        obtain ⟨Vmmm, hmk3, hby3, hbm3⟩ := made_is Vmm
        obtain ⟨Vmma, hWa3⟩ : ∃ W, Vmm.alloc (.cells #[.int .i64 0, .int .i64 0, .string ⟨#[]⟩, .string ⟨#[]⟩, .int .i64 0, .bool false] 28) = W := ⟨_, rfl⟩
        have hba3 : Below Vmm.heap.size Vmm Vmma := by rw [← hWa3]; exact (Below.refl _ _).alloc (Nat.le_refl _) _
        have hna3 : Blk Vmma Vmm.heap.size zcells := by rw [← hWa3]; exact Blk.new _ _ _
        refine only_op 5 rfl (by kernel_rfl) (by rfl) (wp_made 3 (.pointer (some ⟨Vmm.heap.size, 0, none⟩)) rfl (w' := Vmma) (by rw [← hWa3]; go_simp; try rfl) ⟨?_, ?_⟩)
        · exact hS.below hba3
        · simp only [Act.put, List.setIfInBounds_toArray, List.set_cons_zero, List.set_cons_succ]
          have hS := hS.below hba3
          obtain ⟨g3, hg3e⟩ : ∃ g, Vmm.heap.size = g := ⟨_, rfl⟩
          have hg3 : Blk Vmma g3 zcells := by rw [← hg3e]; exact hna3
          have hg3w : w.heap.size ≤ g3 := by rw [← hg3e]; exact hsz
          have hsz : w.heap.size ≤ Vmma.heap.size := Nat.le_trans hsz hba3.size
          rw [hg3e]
          have hnx : ∀ x ∈ [x2_2, x1_0], x ≠ g3 := fun x hx => by have h1 := hlt x hx; omega
          have hlt : ∀ x ∈ ([x2_2, x1_0] : List Nat), x < Vmma.heap.size := fun x hx => by have h1 := hlt x hx; have h2 := hba3.size; omega
          clear hmk3 hby3 hbm3 hna3
          obtain ⟨TT, hpT⟩ := hg3
          have hg3 : Blk Vmma g3 zcells := ⟨TT, hpT⟩
          have hbr := below_row hS.out.1 hg3w (rarr 1099511627775 1099511627776 kz kz 2 false)
          refine only_op 6 rfl (by kernel_rfl) (by rfl) (wp_store_row 28 (.tmp 3) (.tmp 16) rfl g3 (rarr 1099511627775 1099511627776 kz kz 2 false) rfl rfl TT _ hpT info_rec rfl (one_arr _ _ _ _ _ _) ⟨hS.row hg3w hnx _, ?_⟩)
          simp only [Act.put]
          refine wpAnyH_done (by kernel_rfl) ?_ _
          go_wp2_with fail
          go_meet
          exact ⟨g3, rfl, .mk (hg3.row _) hbr, hg3w⟩
      · exact hS.below hba2
      · simp only [Act.put, List.setIfInBounds_toArray, List.set_cons_zero, List.set_cons_succ]
        have hS := hS.below hba2
        obtain ⟨g3, hg3e⟩ : ∃ g, Vm.heap.size = g := ⟨_, rfl⟩
        have hg3 : Blk Vma g3 zcells := by rw [← hg3e]; exact hna2
        have hg3w : w.heap.size ≤ g3 := by rw [← hg3e]; exact hsz
        have hsz : w.heap.size ≤ Vma.heap.size := Nat.le_trans hsz hba2.size
        rw [hg3e]
        have hnx : ∀ x ∈ [x1_0], x ≠ g3 := fun x hx => by have h1 := hlt x hx; omega
        have hlt : ∀ x ∈ ([x1_0] : List Nat), x < Vma.heap.size := fun x hx => by have h1 := hlt x hx; have h2 := hba2.size; omega
        clear hmk2 hby2 hbm2 hna2
        obtain ⟨Vmam, hmk4, hby4, hbm4⟩ := made_is Vma
        obtain ⟨Vmaa, hWa4⟩ : ∃ W, Vma.alloc (.cells #[.int .i64 0, .int .i64 0, .string ⟨#[]⟩, .string ⟨#[]⟩, .int .i64 0, .bool false] 28) = W := ⟨_, rfl⟩
        have hba4 : Below Vma.heap.size Vma Vmaa := by rw [← hWa4]; exact (Below.refl _ _).alloc (Nat.le_refl _) _
        have hna4 : Blk Vmaa Vma.heap.size zcells := by rw [← hWa4]; exact Blk.new _ _ _
        refine only_op 2 rfl (by kernel_rfl) (by rfl) (wp_made 14 (.slice (some ⟨Vma.heap.size, 0, none⟩) 1024 1024) rfl (w' := Vmam) (by have hmk := hmk4; go_simp; try rfl) ⟨?_, ?_⟩)
        · exact hS.below hbm4
        · simp only [Act.put, List.setIfInBounds_toArray, List.set_cons_zero, List.set_cons_succ]
          obtain ⟨x4_2, hx4⟩ : ∃ x, Vma.heap.size = x := ⟨_, rfl⟩
          have hS : Sx w [x4_2, x1_0] Vmam := .cons (hS.below hbm4) (by rw [← hx4]; exact hby4)
          rw [hx4]
          have hnx : ∀ x ∈ [x4_2, x1_0], x ≠ g3 := fun x hx => by
            rcases List.mem_cons.1 hx with rfl | hx
            · have h1 := hg3.lt; omega
            · exact hnx x hx
          have hg3 := hg3.below hbm4
          have hlt : ∀ x ∈ [x4_2, x1_0], x < Vmam.heap.size := fun x hx => by
            rcases List.mem_cons.1 hx with rfl | hx
            · rw [← hx4]; exact hby4.1
            · have h1 := hlt x hx; have h2 := hbm4.size; omega
          have hsz : w.heap.size ≤ Vmam.heap.size := Nat.le_trans hsz hbm4.size
          clear hmk4 hba4 hna4 hWa4
          refine held_stronger (S' := Sx w [x4_2, x1_0]) (fun _ h => h.tail) _ _ _ _ ?_
          refine take_op 3 15 (.string kz) rfl rfl (by kernel_rfl) (fun _ _ _ h => h) (by rfl) hS (fun w' hS' => by have hcv := hS'.head kz_len; rw [HK.out] at hcv; go_simp; try with_reducible rfl) ?_
          simp only [Act.put, List.setIfInBounds_toArray, List.set_cons_zero, List.set_cons_succ]
          refine take_op 4 16 (.agg (rarr 1099511627775 1099511627776 kz kz 2 false)) rfl rfl (by kernel_rfl) (fun _ _ _ h => h) (by rfl) hS (fun w' hS' => by unfold rarr; go_simp; try with_reducible rfl) ?_
          simp only [Act.put, List.setIfInBounds_toArray, List.set_cons_zero, List.set_cons_succ]
          obtain ⟨TT, hpT⟩ := hg3
          have hg3 : Blk Vmam g3 zcells := ⟨TT, hpT⟩
          have hbr := below_row hS.out.1 hg3w (rarr 1099511627775 1099511627776 kz kz 2 false)
          refine only_op 6 rfl (by kernel_rfl) (by rfl) (wp_store_row 28 (.tmp 3) (.tmp 16) rfl g3 (rarr 1099511627775 1099511627776 kz kz 2 false) rfl rfl TT _ hpT info_rec rfl (one_arr _ _ _ _ _ _) ⟨hS.row hg3w hnx _, ?_⟩)
          simp only [Act.put]
          refine wpAnyH_done (by kernel_rfl) ?_ _
          go_wp2_with fail
          go_meet
          exact ⟨g3, rfl, .mk (hg3.row _) hbr, hg3w⟩
    · exact hS.below hbm1
    · simp only [Act.put, List.setIfInBounds_toArray, List.set_cons_zero, List.set_cons_succ]
      obtain ⟨x1_2, hx1⟩ : ∃ x, V.heap.size = x := ⟨_, rfl⟩
      have hS : Sx w [x1_2] Vm := .cons (hS.below hbm1) (by rw [← hx1]; exact hby1)
      rw [hx1]
      have hlt : ∀ x ∈ [x1_2], x < Vm.heap.size := fun x hx => by
        rcases List.mem_cons.1 hx with rfl | hx
        · rw [← hx1]; exact hby1.1
        · have h1 := hlt x hx; have h2 := hbm1.size; omega
      have hsz : w.heap.size ≤ Vm.heap.size := Nat.le_trans hsz hbm1.size
      clear hmk1 hba1 hna1 hWa1
      refine held_stronger (S' := Sx w [x1_2]) (fun _ h => h.tail) _ _ _ _ ?_
      refine take_op 3 15 (.string kz) rfl rfl (by kernel_rfl) (fun _ _ _ h => h) (by rfl) hS (fun w' hS' => by have hcv := hS'.head kz_len; rw [HK.out] at hcv; go_simp; try with_reducible rfl) ?_
      simp only [Act.put, List.setIfInBounds_toArray, List.set_cons_zero, List.set_cons_succ]
      obtain ⟨Vmm, hmk5, hby5, hbm5⟩ := made_is Vm
      obtain ⟨Vma, hWa5⟩ : ∃ W, Vm.alloc (.cells #[.int .i64 0, .int .i64 0, .string ⟨#[]⟩, .string ⟨#[]⟩, .int .i64 0, .bool false] 28) = W := ⟨_, rfl⟩
      have hba5 : Below Vm.heap.size Vm Vma := by rw [← hWa5]; exact (Below.refl _ _).alloc (Nat.le_refl _) _
      have hna5 : Blk Vma Vm.heap.size zcells := by rw [← hWa5]; exact Blk.new _ _ _
      refine two_ops 0 5 rfl rfl (by kernel_rfl) (by rfl) (by rfl) (wp_made 12 (.slice (some ⟨Vm.heap.size, 0, none⟩) 1024 1024) rfl (w' := Vmm) (by have hmk := hmk5; go_simp; try rfl) ⟨?_, ?_⟩) (wp_made 3 (.pointer (some ⟨Vm.heap.size, 0, none⟩)) rfl (w' := Vma) (by rw [← hWa5]; go_simp; try rfl) ⟨?_, ?_⟩)
      · exact hS.below hbm5
      · simp only [Act.put, List.setIfInBounds_toArray, List.set_cons_zero, List.set_cons_succ]
        obtain ⟨x5_0, hx5⟩ : ∃ x, Vm.heap.size = x := ⟨_, rfl⟩
        have hS : Sx w [x5_0, x1_2] Vmm := .cons (hS.below hbm5) (by rw [← hx5]; exact hby5)
        rw [hx5]
        have hlt : ∀ x ∈ [x5_0, x1_2], x < Vmm.heap.size := fun x hx => by
          rcases List.mem_cons.1 hx with rfl | hx
          · rw [← hx5]; exact hby5.1
          · have h1 := hlt x hx; have h2 := hbm5.size; omega
        have hsz : w.heap.size ≤ Vmm.heap.size := Nat.le_trans hsz hbm5.size
        clear hmk5 hba5 hna5 hWa5
        refine held_stronger (S' := Sx w [x5_0, x1_2]) (fun _ h => h.tail) _ _ _ _ ?_
        refine take_op 1 13 (.string kz) rfl rfl (by kernel_rfl) (fun _ _ _ h => h) (by rfl) hS (fun w' hS' => by have hcv := hS'.head kz_len; rw [HK.out] at hcv; go_simp; try with_reducible rfl) ?_
        simp only [Act.put, List.setIfInBounds_toArray, List.set_cons_zero, List.set_cons_succ]
        refine take_op 4 16 (.agg (rarr 1099511627775 1099511627776 kz kz 2 false)) rfl rfl (by kernel_rfl) (fun _ _ _ h => h) (by rfl) hS (fun w' hS' => by unfold rarr; go_simp; try with_reducible rfl) ?_
        simp only [Act.put, List.setIfInBounds_toArray, List.set_cons_zero, List.set_cons_succ]
        obtain ⟨Vmmm, hmk6, hby6, hbm6⟩ := made_is Vmm
        obtain ⟨Vmma, hWa6⟩ : ∃ W, Vmm.alloc (.cells #[.int .i64 0, .int .i64 0, .string ⟨#[]⟩, .string ⟨#[]⟩, .int .i64 0, .bool false] 28) = W := ⟨_, rfl⟩
        have hba6 : Below Vmm.heap.size Vmm Vmma := by rw [← hWa6]; exact (Below.refl _ _).alloc (Nat.le_refl _) _
        have hna6 : Blk Vmma Vmm.heap.size zcells := by rw [← hWa6]; exact Blk.new _ _ _
        refine only_op 5 rfl (by kernel_rfl) (by rfl) (wp_made 3 (.pointer (some ⟨Vmm.heap.size, 0, none⟩)) rfl (w' := Vmma) (by rw [← hWa6]; go_simp; try rfl) ⟨?_, ?_⟩)
        · exact hS.below hba6
        · simp only [Act.put, List.setIfInBounds_toArray, List.set_cons_zero, List.set_cons_succ]
          have hS := hS.below hba6
          obtain ⟨g3, hg3e⟩ : ∃ g, Vmm.heap.size = g := ⟨_, rfl⟩
          have hg3 : Blk Vmma g3 zcells := by rw [← hg3e]; exact hna6
          have hg3w : w.heap.size ≤ g3 := by rw [← hg3e]; exact hsz
          have hsz : w.heap.size ≤ Vmma.heap.size := Nat.le_trans hsz hba6.size
          rw [hg3e]
          have hnx : ∀ x ∈ [x5_0, x1_2], x ≠ g3 := fun x hx => by have h1 := hlt x hx; omega
          have hlt : ∀ x ∈ ([x5_0, x1_2] : List Nat), x < Vmma.heap.size := fun x hx => by have h1 := hlt x hx; have h2 := hba6.size; omega
          clear hmk6 hby6 hbm6 hna6
          obtain ⟨TT, hpT⟩ := hg3
          have hg3 : Blk Vmma g3 zcells := ⟨TT, hpT⟩
          have hbr := below_row hS.out.1 hg3w (rarr 1099511627775 1099511627776 kz kz 2 false)
          refine only_op 6 rfl (by kernel_rfl) (by rfl) (wp_store_row 28 (.tmp 3) (.tmp 16) rfl g3 (rarr 1099511627775 1099511627776 kz kz 2 false) rfl rfl TT _ hpT info_rec rfl (one_arr _ _ _ _ _ _) ⟨hS.row hg3w hnx _, ?_⟩)
          simp only [Act.put]
          refine wpAnyH_done (by kernel_rfl) ?_ _
          go_wp2_with fail
          go_meet
          exact ⟨g3, rfl, .mk (hg3.row _) hbr, hg3w⟩
      · exact hS.below hba5
      · simp only [Act.put, List.setIfInBounds_toArray, List.set_cons_zero, List.set_cons_succ]
        have hS := hS.below hba5
        obtain ⟨g3, hg3e⟩ : ∃ g, Vm.heap.size = g := ⟨_, rfl⟩
        have hg3 : Blk Vma g3 zcells := by rw [← hg3e]; exact hna5
        have hg3w : w.heap.size ≤ g3 := by rw [← hg3e]; exact hsz
        have hsz : w.heap.size ≤ Vma.heap.size := Nat.le_trans hsz hba5.size
        rw [hg3e]
        have hnx : ∀ x ∈ [x1_2], x ≠ g3 := fun x hx => by have h1 := hlt x hx; omega
        have hlt : ∀ x ∈ ([x1_2] : List Nat), x < Vma.heap.size := fun x hx => by have h1 := hlt x hx; have h2 := hba5.size; omega
        clear hmk5 hby5 hbm5 hna5
        obtain ⟨Vmam, hmk7, hby7, hbm7⟩ := made_is Vma
        obtain ⟨Vmaa, hWa7⟩ : ∃ W, Vma.alloc (.cells #[.int .i64 0, .int .i64 0, .string ⟨#[]⟩, .string ⟨#[]⟩, .int .i64 0, .bool false] 28) = W := ⟨_, rfl⟩
        have hba7 : Below Vma.heap.size Vma Vmaa := by rw [← hWa7]; exact (Below.refl _ _).alloc (Nat.le_refl _) _
        have hna7 : Blk Vmaa Vma.heap.size zcells := by rw [← hWa7]; exact Blk.new _ _ _
        refine only_op 0 rfl (by kernel_rfl) (by rfl) (wp_made 12 (.slice (some ⟨Vma.heap.size, 0, none⟩) 1024 1024) rfl (w' := Vmam) (by have hmk := hmk7; go_simp; try rfl) ⟨?_, ?_⟩)
        · exact hS.below hbm7
        · simp only [Act.put, List.setIfInBounds_toArray, List.set_cons_zero, List.set_cons_succ]
          obtain ⟨x7_0, hx7⟩ : ∃ x, Vma.heap.size = x := ⟨_, rfl⟩
          have hS : Sx w [x7_0, x1_2] Vmam := .cons (hS.below hbm7) (by rw [← hx7]; exact hby7)
          rw [hx7]
          have hnx : ∀ x ∈ [x7_0, x1_2], x ≠ g3 := fun x hx => by
            rcases List.mem_cons.1 hx with rfl | hx
            · have h1 := hg3.lt; omega
            · exact hnx x hx
          have hg3 := hg3.below hbm7
          have hlt : ∀ x ∈ [x7_0, x1_2], x < Vmam.heap.size := fun x hx => by
            rcases List.mem_cons.1 hx with rfl | hx
            · rw [← hx7]; exact hby7.1
            · have h1 := hlt x hx; have h2 := hbm7.size; omega
          have hsz : w.heap.size ≤ Vmam.heap.size := Nat.le_trans hsz hbm7.size
          clear hmk7 hba7 hna7 hWa7
          refine held_stronger (S' := Sx w [x7_0, x1_2]) (fun _ h => h.tail) _ _ _ _ ?_
          refine take_op 1 13 (.string kz) rfl rfl (by kernel_rfl) (fun _ _ _ h => h) (by rfl) hS (fun w' hS' => by have hcv := hS'.head kz_len; rw [HK.out] at hcv; go_simp; try with_reducible rfl) ?_
          simp only [Act.put, List.setIfInBounds_toArray, List.set_cons_zero, List.set_cons_succ]
          refine take_op 4 16 (.agg (rarr 1099511627775 1099511627776 kz kz 2 false)) rfl rfl (by kernel_rfl) (fun _ _ _ h => h) (by rfl) hS (fun w' hS' => by unfold rarr; go_simp; try with_reducible rfl) ?_
          simp only [Act.put, List.setIfInBounds_toArray, List.set_cons_zero, List.set_cons_succ]
          obtain ⟨TT, hpT⟩ := hg3
          have hg3 : Blk Vmam g3 zcells := ⟨TT, hpT⟩
          have hbr := below_row hS.out.1 hg3w (rarr 1099511627775 1099511627776 kz kz 2 false)
          refine only_op 6 rfl (by kernel_rfl) (by rfl) (wp_store_row 28 (.tmp 3) (.tmp 16) rfl g3 (rarr 1099511627775 1099511627776 kz kz 2 false) rfl rfl TT _ hpT info_rec rfl (one_arr _ _ _ _ _ _) ⟨hS.row hg3w hnx _, ?_⟩)
          simp only [Act.put]
          refine wpAnyH_done (by kernel_rfl) ?_ _
          go_wp2_with fail
          go_meet
          exact ⟨g3, rfl, .mk (hg3.row _) hbr, hg3w⟩
    · exact hS.below hba1
    · simp only [Act.put, List.setIfInBounds_toArray, List.set_cons_zero, List.set_cons_succ]
      have hS := hS.below hba1
      obtain ⟨g3, hg3e⟩ : ∃ g, V.heap.size = g := ⟨_, rfl⟩
      have hg3 : Blk Va g3 zcells := by rw [← hg3e]; exact hna1
      have hg3w : w.heap.size ≤ g3 := by rw [← hg3e]; exact hsz
      have hsz : w.heap.size ≤ Va.heap.size := Nat.le_trans hsz hba1.size
      rw [hg3e]
      have hnx : ∀ x ∈ ([] : List Nat), x ≠ g3 := fun x hx => by cases hx
      have hlt : ∀ x ∈ ([] : List Nat), x < Va.heap.size := fun x hx => by have h1 := hlt x hx; have h2 := hba1.size; omega
      clear hmk1 hby1 hbm1 hna1
      obtain ⟨Vam, hmk8, hby8, hbm8⟩ := made_is Va
      obtain ⟨Vaa, hWa8⟩ : ∃ W, Va.alloc (.cells #[.int .i64 0, .int .i64 0, .string ⟨#[]⟩, .string ⟨#[]⟩, .int .i64 0, .bool false] 28) = W := ⟨_, rfl⟩
      have hba8 : Below Va.heap.size Va Vaa := by rw [← hWa8]; exact (Below.refl _ _).alloc (Nat.le_refl _) _
      have hna8 : Blk Vaa Va.heap.size zcells := by rw [← hWa8]; exact Blk.new _ _ _
      refine two_ops 0 2 rfl rfl (by kernel_rfl) (by rfl) (by rfl) (wp_made 12 (.slice (some ⟨Va.heap.size, 0, none⟩) 1024 1024) rfl (w' := Vam) (by have hmk := hmk8; go_simp; try rfl) ⟨?_, ?_⟩) (wp_made 14 (.slice (some ⟨Va.heap.size, 0, none⟩) 1024 1024) rfl (w' := Vam) (by have hmk := hmk8; go_simp; try rfl) ⟨?_, ?_⟩)
      · exact hS.below hbm8
      · simp only [Act.put, List.setIfInBounds_toArray, List.set_cons_zero, List.set_cons_succ]
        obtain ⟨x8_0, hx8⟩ : ∃ x, Va.heap.size = x := ⟨_, rfl⟩
        have hS : Sx w [x8_0] Vam := .cons (hS.below hbm8) (by rw [← hx8]; exact hby8)
        rw [hx8]
        have hnx : ∀ x ∈ [x8_0], x ≠ g3 := fun x hx => by
          rcases List.mem_cons.1 hx with rfl | hx
          · have h1 := hg3.lt; omega
          · exact hnx x hx
        have hg3 := hg3.below hbm8
        have hlt : ∀ x ∈ [x8_0], x < Vam.heap.size := fun x hx => by
          rcases List.mem_cons.1 hx with rfl | hx
          · rw [← hx8]; exact hby8.1
          · have h1 := hlt x hx; have h2 := hbm8.size; omega
        have hsz : w.heap.size ≤ Vam.heap.size := Nat.le_trans hsz hbm8.size
        clear hmk8 hba8 hna8 hWa8
        refine held_stronger (S' := Sx w [x8_0]) (fun _ h => h.tail) _ _ _ _ ?_
        refine take_op 1 13 (.string kz) rfl rfl (by kernel_rfl) (fun _ _ _ h => h) (by rfl) hS (fun w' hS' => by have hcv := hS'.head kz_len; rw [HK.out] at hcv; go_simp; try with_reducible rfl) ?_
        simp only [Act.put, List.setIfInBounds_toArray, List.set_cons_zero, List.set_cons_succ]
        obtain ⟨Vamm, hmk9, hby9, hbm9⟩ := made_is Vam
        obtain ⟨Vama, hWa9⟩ : ∃ W, Vam.alloc (.cells #[.int .i64 0, .int .i64 0, .string ⟨#[]⟩, .string ⟨#[]⟩, .int .i64 0, .bool false] 28) = W := ⟨_, rfl⟩
        have hba9 : Below Vam.heap.size Vam Vama := by rw [← hWa9]; exact (Below.refl _ _).alloc (Nat.le_refl _) _
        have hna9 : Blk Vama Vam.heap.size zcells := by rw [← hWa9]; exact Blk.new _ _ _
        refine only_op 2 rfl (by kernel_rfl) (by rfl) (wp_made 14 (.slice (some ⟨Vam.heap.size, 0, none⟩) 1024 1024) rfl (w' := Vamm) (by have hmk := hmk9; go_simp; try rfl) ⟨?_, ?_⟩)
        · exact hS.below hbm9
        · simp only [Act.put, List.setIfInBounds_toArray, List.set_cons_zero, List.set_cons_succ]
          obtain ⟨x9_2, hx9⟩ : ∃ x, Vam.heap.size = x := ⟨_, rfl⟩
          have hS : Sx w [x9_2, x8_0] Vamm := .cons (hS.below hbm9) (by rw [← hx9]; exact hby9)
          rw [hx9]
          have hnx : ∀ x ∈ [x9_2, x8_0], x ≠ g3 := fun x hx => by
            rcases List.mem_cons.1 hx with rfl | hx
            · have h1 := hg3.lt; omega
            · exact hnx x hx
          have hg3 := hg3.below hbm9
          have hlt : ∀ x ∈ [x9_2, x8_0], x < Vamm.heap.size := fun x hx => by
            rcases List.mem_cons.1 hx with rfl | hx
            · rw [← hx9]; exact hby9.1
            · have h1 := hlt x hx; have h2 := hbm9.size; omega
          have hsz : w.heap.size ≤ Vamm.heap.size := Nat.le_trans hsz hbm9.size
          clear hmk9 hba9 hna9 hWa9
          refine held_stronger (S' := Sx w [x9_2, x8_0]) (fun _ h => h.tail) _ _ _ _ ?_
          refine take_op 3 15 (.string kz) rfl rfl (by kernel_rfl) (fun _ _ _ h => h) (by rfl) hS (fun w' hS' => by have hcv := hS'.head kz_len; rw [HK.out] at hcv; go_simp; try with_reducible rfl) ?_
          simp only [Act.put, List.setIfInBounds_toArray, List.set_cons_zero, List.set_cons_succ]
          refine take_op 4 16 (.agg (rarr 1099511627775 1099511627776 kz kz 2 false)) rfl rfl (by kernel_rfl) (fun _ _ _ h => h) (by rfl) hS (fun w' hS' => by unfold rarr; go_simp; try with_reducible rfl) ?_
          simp only [Act.put, List.setIfInBounds_toArray, List.set_cons_zero, List.set_cons_succ]
          obtain ⟨TT, hpT⟩ := hg3
          have hg3 : Blk Vamm g3 zcells := ⟨TT, hpT⟩
          have hbr := below_row hS.out.1 hg3w (rarr 1099511627775 1099511627776 kz kz 2 false)
          refine only_op 6 rfl (by kernel_rfl) (by rfl) (wp_store_row 28 (.tmp 3) (.tmp 16) rfl g3 (rarr 1099511627775 1099511627776 kz kz 2 false) rfl rfl TT _ hpT info_rec rfl (one_arr _ _ _ _ _ _) ⟨hS.row hg3w hnx _, ?_⟩)
          simp only [Act.put]
          refine wpAnyH_done (by kernel_rfl) ?_ _
          go_wp2_with fail
          go_meet
          exact ⟨g3, rfl, .mk (hg3.row _) hbr, hg3w⟩
      · exact hS.below hbm8
      · simp only [Act.put, List.setIfInBounds_toArray, List.set_cons_zero, List.set_cons_succ]
        obtain ⟨x8_2, hx8⟩ : ∃ x, Va.heap.size = x := ⟨_, rfl⟩
        have hS : Sx w [x8_2] Vam := .cons (hS.below hbm8) (by rw [← hx8]; exact hby8)
        rw [hx8]
        have hnx : ∀ x ∈ [x8_2], x ≠ g3 := fun x hx => by
          rcases List.mem_cons.1 hx with rfl | hx
          · have h1 := hg3.lt; omega
          · exact hnx x hx
        have hg3 := hg3.below hbm8
        have hlt : ∀ x ∈ [x8_2], x < Vam.heap.size := fun x hx => by
          rcases List.mem_cons.1 hx with rfl | hx
          · rw [← hx8]; exact hby8.1
          · have h1 := hlt x hx; have h2 := hbm8.size; omega
        have hsz : w.heap.size ≤ Vam.heap.size := Nat.le_trans hsz hbm8.size
        clear hmk8 hba8 hna8 hWa8
        refine held_stronger (S' := Sx w [x8_2]) (fun _ h => h.tail) _ _ _ _ ?_
        refine take_op 3 15 (.string kz) rfl rfl (by kernel_rfl) (fun _ _ _ h => h) (by rfl) hS (fun w' hS' => by have hcv := hS'.head kz_len; rw [HK.out] at hcv; go_simp; try with_reducible rfl) ?_
        simp only [Act.put, List.setIfInBounds_toArray, List.set_cons_zero, List.set_cons_succ]
        obtain ⟨Vamm, hmk10, hby10, hbm10⟩ := made_is Vam
        obtain ⟨Vama, hWa10⟩ : ∃ W, Vam.alloc (.cells #[.int .i64 0, .int .i64 0, .string ⟨#[]⟩, .string ⟨#[]⟩, .int .i64 0, .bool false] 28) = W := ⟨_, rfl⟩
        have hba10 : Below Vam.heap.size Vam Vama := by rw [← hWa10]; exact (Below.refl _ _).alloc (Nat.le_refl _) _
        have hna10 : Blk Vama Vam.heap.size zcells := by rw [← hWa10]; exact Blk.new _ _ _
        refine only_op 0 rfl (by kernel_rfl) (by rfl) (wp_made 12 (.slice (some ⟨Vam.heap.size, 0, none⟩) 1024 1024) rfl (w' := Vamm) (by have hmk := hmk10; go_simp; try rfl) ⟨?_, ?_⟩)
        · exact hS.below hbm10
        · simp only [Act.put, List.setIfInBounds_toArray, List.set_cons_zero, List.set_cons_succ]
          obtain ⟨x10_0, hx10⟩ : ∃ x, Vam.heap.size = x := ⟨_, rfl⟩
          have hS : Sx w [x10_0, x8_2] Vamm := .cons (hS.below hbm10) (by rw [← hx10]; exact hby10)
          rw [hx10]
          have hnx : ∀ x ∈ [x10_0, x8_2], x ≠ g3 := fun x hx => by
            rcases List.mem_cons.1 hx with rfl | hx
            · have h1 := hg3.lt; omega
            · exact hnx x hx
          have hg3 := hg3.below hbm10
          have hlt : ∀ x ∈ [x10_0, x8_2], x < Vamm.heap.size := fun x hx => by
            rcases List.mem_cons.1 hx with rfl | hx
            · rw [← hx10]; exact hby10.1
            · have h1 := hlt x hx; have h2 := hbm10.size; omega
          have hsz : w.heap.size ≤ Vamm.heap.size := Nat.le_trans hsz hbm10.size
          clear hmk10 hba10 hna10 hWa10
          refine held_stronger (S' := Sx w [x10_0, x8_2]) (fun _ h => h.tail) _ _ _ _ ?_
          refine take_op 1 13 (.string kz) rfl rfl (by kernel_rfl) (fun _ _ _ h => h) (by rfl) hS (fun w' hS' => by have hcv := hS'.head kz_len; rw [HK.out] at hcv; go_simp; try with_reducible rfl) ?_
          simp only [Act.put, List.setIfInBounds_toArray, List.set_cons_zero, List.set_cons_succ]
          refine take_op 4 16 (.agg (rarr 1099511627775 1099511627776 kz kz 2 false)) rfl rfl (by kernel_rfl) (fun _ _ _ h => h) (by rfl) hS (fun w' hS' => by unfold rarr; go_simp; try with_reducible rfl) ?_
          simp only [Act.put, List.setIfInBounds_toArray, List.set_cons_zero, List.set_cons_succ]
          obtain ⟨TT, hpT⟩ := hg3
          have hg3 : Blk Vamm g3 zcells := ⟨TT, hpT⟩
          have hbr := below_row hS.out.1 hg3w (rarr 1099511627775 1099511627776 kz kz 2 false)
          refine only_op 6 rfl (by kernel_rfl) (by rfl) (wp_store_row 28 (.tmp 3) (.tmp 16) rfl g3 (rarr 1099511627775 1099511627776 kz kz 2 false) rfl rfl TT _ hpT info_rec rfl (one_arr _ _ _ _ _ _) ⟨hS.row hg3w hnx _, ?_⟩)
          simp only [Act.put]
          refine wpAnyH_done (by kernel_rfl) ?_ _
          go_wp2_with fail
          go_meet
          exact ⟨g3, rfl, .mk (hg3.row _) hbr, hg3w⟩
  case rest =>
    obtain ⟨g3, rfl, hR, hg3⟩ := hcut
    unfold rarr at hR
    have R0 := Lib.hid hR
    have hn0 : (0 : Int) ≤ (n : Int) := Int.natCast_nonneg n
    have hnil := str_nil
    have hKX : str (Kz ++ [120]) = kz ++ ⟨#[120]⟩ := by rw [← str_add, HK.out]; rfl
    obtain ⟨kx, hkx⟩ : ∃ k, kz ++ (⟨#[120]⟩ : ByteArray) = k := ⟨_, rfl⟩
    have HKX : Hid (str (Kz ++ [120]) = kx) := Lib.hid (hKX.trans hkx)
    have HKQ := Lib.hid hkx
    clear hR hKX hkx
    go_wp2_with fail
    go_loopw [4] (fun i wr => ∃ k : Nat, k ≤ 8 ∧ i = .int .i64 (k : Int) ∧ RBox w g3 #[.int .i64 1099511627775, .int .i64 1099511627776, .string kz, .string kz, .int .i64 2, .bool false] wr) (fun i _ => 8 - (RowKit.intOf i).toNat)
    case atStart => exact ⟨0, by omega, rfl, R0.out⟩
    case round =>
      obtain ⟨k, hk8, rfl, hR⟩ := hrel
      have R1 := Lib.hid hR
      clear hR R0
      obtain ⟨g5, W4, hg5, hW4, hbn, hbx, hb1⟩ := box_new R1.out.out.2 #[.int .i64 1099511627775, .int .i64 1099511627776, .string kz, .string kz, .int .i64 2, .bool false]
      have hld := R1.out.load rfl
      have HBN := Lib.hid hbn
      have hg35 : g3 ≠ g5 := by have := R1.out.out.1.lt; omega
      have hg5w : w.heap.size ≤ g5 := by have := R1.out.out.2.size; omega
      have R3 := Lib.hid (R1.out.below hb1)
      have R5 := Lib.hid hbx
      unfold zcells at hW4
      have HW4 := Lib.hid hW4
      clear hbn hbx hb1 hW4
      rcases (by omega : k = 8 ∨ k = 0 ∨ k = 1 ∨ k = 2 ∨ k = 3 ∨ k = 4 ∨ k = 5 ∨ k = 6 ∨ k = 7) with rfl | rfl | rfl | rfl | rfl | rfl | rfl | rfl | rfl
      · have TW := Lib.hid (T.out.below R1.out.out.2)
        clear R3 R5 HW4 HBN hg35 hg5w hld hg5
        go_wp2_with (go_at_call 14; refine (wakes_any _ TW.out).mono ?_; rintro e w1 ⟨rfl, hb1⟩)
        all_goals (go_ret; exact ⟨rfl, R1.out.out.2.trans (hb1.mono R1.out.out.2.size)⟩)
      · clear R1 hk8
        have hm : mayB ⟨1099511627775, 1099511627776, Kz, Kz, 2, false⟩ = true := may_yes ⟨by decide, by decide, by decide⟩ ⟨by decide, by decide, (Nat.le_of_eq kz_len), (Nat.le_of_eq kz_len), by decide, .inr rfl⟩
        obtain ⟨S, hS⟩ : ∃ S, str (recL ⟨1099511627775, 1099511627776, Kz, Kz, 2, false⟩) = S := ⟨_, rfl⟩
        have hSz := size_yes HK.out HK.out hS
        have HBY := Lib.hid (fun W (hb : Below w.heap.size w W) => Bytes_yes W (T.out.below hb) hm HK.out HK.out hS)
        have HTK := Lib.hid (fun W (hb : Below w.heap.size w W) => Take_yes W (T.out.below hb) hm HK.out HK.out hS)
        have HRC := Lib.hid (fun W => RRec_yes W hm HK.out HK.out)
        have hS1 : S.size = 2073 := by rw [hSz, hkzs]
        clear hm hS hSz
        go_upto_region 6 with (first | (refine wpList_load_any (by rfl) 28 (.tmp 3) rfl g3 0 rfl _ hld ?_; simp only [Act.put]) | (rw [HW4.out]; refine wpList_store_whole rfl 28 (.tmp 5) (.tmp 21) rfl g5 _ rfl rfl zcells HBN.out info_rec rfl (by simp [Value.oneCell']) ?_; simp only [Act.put]))
        clear HW4 HBN hg5 hld
        generalize World.setRow _ _ _ = w5 at R3 R5 ⊢
        have hl5 := R5.out.load rfl
        go_wp2_with (refine wpList_load_any (by rfl) 28 (.tmp 5) rfl g5 0 rfl _ hl5 ?_; simp only [Act.put])
        refine (HBY.out _ R5.out.out.2).mono ?_
        rintro e w7 ⟨rfl, hb7⟩
        replace R3 := Lib.hid (R3.out.below hb7)
        replace R5 := Lib.hid (R5.out.below hb7)
        clear hb7 hl5 HBY
        go_wp2_with (go_at_call 12; refine (num_is _ _).mono ?_; rintro e w' ⟨rfl, rfl⟩)
        refine (HTK.out _ R5.out.out.2).mono ?_
        rintro e w8 ⟨rfl, hb8⟩
        replace R3 := Lib.hid (R3.out.below hb8)
        replace R5 := Lib.hid (R5.out.below hb8)
        obtain ⟨g9, W9, hg9, hW9, hbn, hbx, hb9⟩ := box_new R5.out.out.2 #[.int .i64 1099511627775, .int .i64 1099511627776, .string kz, .string kz, .int .i64 2, .bool false]
        replace R3 := Lib.hid (R3.out.below hb9)
        replace R5 := Lib.hid (R5.out.below hb9)
        have HBN := Lib.hid hbn
        have R9 := Lib.hid hbx
        unfold zcells at hW9
        have HW9 := Lib.hid hW9
        clear hb8 HTK hbn hbx hb9 hW9
        go_upto_region 27 with (rw [HW9.out]; refine wpList_store_whole rfl 28 (.tmp 9) (.tmp 71) rfl g9 _ rfl rfl zcells HBN.out info_rec rfl (by simp [Value.oneCell']) ?_; simp only [Act.put])
        clear HW9 HBN hg9
        generalize World.setRow _ _ _ = w9 at R3 R5 R9 ⊢
        have d2 : w9.cell? ⟨g5, 2, none⟩ = some (.string kz) := R5.out.cell 2
        have d3 : w9.cell? ⟨g5, 3, none⟩ = some (.string kz) := R5.out.cell 3
        have hl5 := R5.out.load rfl
        have hl9 := R9.out.load rfl
        have hne := neq_rec 1099511627775 1099511627776 kz kz 2 false
        unfold rarr at hne
        go_wp2_with (first | (go_at_call 12; refine (num_is _ _).mono ?_; rintro e w' ⟨rfl, rfl⟩) | (refine wpList_load_any (by rfl) 28 (.tmp 9) rfl g9 0 rfl _ hl9 ?_; simp only [Act.put]) | (refine wpList_load_any (by rfl) 28 (.tmp 5) rfl g5 0 rfl _ hl5 ?_; simp only [Act.put]))
        refine (HRC.out _).mono ?_
        rintro e w10 ⟨rfl, hb10⟩
        replace R3 := Lib.hid (R3.out.below hb10)
        clear hb10 hl5 hl9 d2 d3 hne R5 R9 HRC
        go_wp2_with fail
        go_roundw
        case rel => exact ⟨1, by omega, by first | rfl | go_num, R3.out⟩
        case measure => first | (simp [RowKit.intOf]; done) | (simp [RowKit.intOf]; omega) | decide
      · clear R1 hk8
        have hm : mayB ⟨1099511627776, 1099511627776, Kz, Kz, 2, false⟩ = false := may_not (fun h => by have := h.1; omega)
        have HBY := Lib.hid (fun W (hb : Below w.heap.size w W) => Bytes_no W (T.out.below hb) hm HK.out HK.out)
        clear hm
        go_upto_region 6 with (first | (refine wpList_load_any (by rfl) 28 (.tmp 3) rfl g3 0 rfl _ hld ?_; simp only [Act.put]) | (rw [HW4.out]; refine wpList_store_whole rfl 28 (.tmp 5) (.tmp 21) rfl g5 _ rfl rfl zcells HBN.out info_rec rfl (by simp [Value.oneCell']) ?_; simp only [Act.put]))
        clear HW4 HBN hg5 hld
        generalize World.setRow _ _ _ = w5 at R3 R5 ⊢
        have z0 : w5.cell? ⟨g5, 0, none⟩ = some (.int .i64 1099511627775) := R5.out.cell 0
        have z1 : w5.frozen? ⟨g5, 0, none⟩ = false := R5.out.out.1.frozen 0
        replace R3 := Lib.hid (R3.out.far hg35 hg5w 0 (.int .i64 1099511627776))
        replace R5 := Lib.hid (R5.out.put hg5w 0 (.int .i64 1099511627776))
        simp only [List.setIfInBounds_toArray, List.set_cons_zero, List.set_cons_succ] at R5
        go_upto_region 21 with fail
        clear z0 z1
        generalize w5.setCell _ _ = w6 at R3 R5 ⊢
        have hl5 := R5.out.load rfl
        go_wp2_with (refine wpList_load_any (by rfl) 28 (.tmp 5) rfl g5 0 rfl _ hl5 ?_; simp only [Act.put])
        refine (HBY.out _ R5.out.out.2).mono ?_
        rintro e w7 ⟨rfl, hb7⟩
        replace R3 := Lib.hid (R3.out.below hb7)
        replace R5 := Lib.hid (R5.out.below hb7)
        clear hb7 hl5 HBY
        go_wp2_with (go_at_call 12; refine (num_is _ _).mono ?_; rintro e w' ⟨rfl, rfl⟩)
        go_roundw
        case rel => exact ⟨2, by omega, by first | rfl | go_num, R3.out⟩
        case measure => first | (simp [RowKit.intOf]; done) | (simp [RowKit.intOf]; omega) | decide
      · clear R1 hk8
        have hm : mayB ⟨1099511627775, 1099511627777, Kz, Kz, 2, false⟩ = false := may_not (fun h => by have := h.2.1; omega)
        have HBY := Lib.hid (fun W (hb : Below w.heap.size w W) => Bytes_no W (T.out.below hb) hm HK.out HK.out)
        clear hm
        go_upto_region 6 with (first | (refine wpList_load_any (by rfl) 28 (.tmp 3) rfl g3 0 rfl _ hld ?_; simp only [Act.put]) | (rw [HW4.out]; refine wpList_store_whole rfl 28 (.tmp 5) (.tmp 21) rfl g5 _ rfl rfl zcells HBN.out info_rec rfl (by simp [Value.oneCell']) ?_; simp only [Act.put]))
        clear HW4 HBN hg5 hld
        generalize World.setRow _ _ _ = w5 at R3 R5 ⊢
        have z0 : w5.cell? ⟨g5, 1, none⟩ = some (.int .i64 1099511627776) := R5.out.cell 1
        have z1 : w5.frozen? ⟨g5, 1, none⟩ = false := R5.out.out.1.frozen 1
        replace R3 := Lib.hid (R3.out.far hg35 hg5w 1 (.int .i64 1099511627777))
        replace R5 := Lib.hid (R5.out.put hg5w 1 (.int .i64 1099511627777))
        simp only [List.setIfInBounds_toArray, List.set_cons_zero, List.set_cons_succ] at R5
        go_upto_region 21 with fail
        clear z0 z1
        generalize w5.setCell _ _ = w6 at R3 R5 ⊢
        have hl5 := R5.out.load rfl
        go_wp2_with (refine wpList_load_any (by rfl) 28 (.tmp 5) rfl g5 0 rfl _ hl5 ?_; simp only [Act.put])
        refine (HBY.out _ R5.out.out.2).mono ?_
        rintro e w7 ⟨rfl, hb7⟩
        replace R3 := Lib.hid (R3.out.below hb7)
        replace R5 := Lib.hid (R5.out.below hb7)
        clear hb7 hl5 HBY
        go_wp2_with (go_at_call 12; refine (num_is _ _).mono ?_; rintro e w' ⟨rfl, rfl⟩)
        go_roundw
        case rel => exact ⟨3, by omega, by first | rfl | go_num, R3.out⟩
        case measure => first | (simp [RowKit.intOf]; done) | (simp [RowKit.intOf]; omega) | decide
      · clear R1 hk8
        have hm : mayB ⟨1099511627775, 1099511627776, (Kz ++ [120]), Kz, 2, false⟩ = false := may_not (fun h => by have := h.2.2.1; rw [List.length_append, kz_len] at this; exact absurd this (by decide))
        have HBY := Lib.hid (fun W (hb : Below w.heap.size w W) => Bytes_no W (T.out.below hb) hm HKX.out HK.out)
        clear hm
        go_upto_region 6 with (first | (refine wpList_load_any (by rfl) 28 (.tmp 3) rfl g3 0 rfl _ hld ?_; simp only [Act.put]) | (rw [HW4.out]; refine wpList_store_whole rfl 28 (.tmp 5) (.tmp 21) rfl g5 _ rfl rfl zcells HBN.out info_rec rfl (by simp [Value.oneCell']) ?_; simp only [Act.put]))
        clear HW4 HBN hg5 hld
        generalize World.setRow _ _ _ = w5 at R3 R5 ⊢
        have z0 : w5.cell? ⟨g5, 2, none⟩ = some (.string kz) := R5.out.cell 2
        have z1 : w5.frozen? ⟨g5, 2, none⟩ = false := R5.out.out.1.frozen 2
        replace R3 := Lib.hid (R3.out.far hg35 hg5w 2 (.string kx))
        replace R5 := Lib.hid (R5.out.put hg5w 2 (.string kx))
        simp only [List.setIfInBounds_toArray, List.set_cons_zero, List.set_cons_succ] at R5
        go_upto_region 21 with fail
        rw [HKQ.out]
        clear z0 z1
        generalize w5.setCell _ _ = w6 at R3 R5 ⊢
        have hl5 := R5.out.load rfl
        go_wp2_with (refine wpList_load_any (by rfl) 28 (.tmp 5) rfl g5 0 rfl _ hl5 ?_; simp only [Act.put])
        refine (HBY.out _ R5.out.out.2).mono ?_
        rintro e w7 ⟨rfl, hb7⟩
        replace R3 := Lib.hid (R3.out.below hb7)
        replace R5 := Lib.hid (R5.out.below hb7)
        clear hb7 hl5 HBY
        go_wp2_with (go_at_call 12; refine (num_is _ _).mono ?_; rintro e w' ⟨rfl, rfl⟩)
        go_roundw
        case rel => exact ⟨4, by omega, by first | rfl | go_num, R3.out⟩
        case measure => first | (simp [RowKit.intOf]; done) | (simp [RowKit.intOf]; omega) | decide
      · clear R1 hk8
        have hm : mayB ⟨1099511627775, 1099511627776, Kz, (Kz ++ [120]), 2, false⟩ = false := may_not (fun h => by have := h.2.2.2.1; rw [List.length_append, kz_len] at this; exact absurd this (by decide))
        have HBY := Lib.hid (fun W (hb : Below w.heap.size w W) => Bytes_no W (T.out.below hb) hm HK.out HKX.out)
        clear hm
        go_upto_region 6 with (first | (refine wpList_load_any (by rfl) 28 (.tmp 3) rfl g3 0 rfl _ hld ?_; simp only [Act.put]) | (rw [HW4.out]; refine wpList_store_whole rfl 28 (.tmp 5) (.tmp 21) rfl g5 _ rfl rfl zcells HBN.out info_rec rfl (by simp [Value.oneCell']) ?_; simp only [Act.put]))
        clear HW4 HBN hg5 hld
        generalize World.setRow _ _ _ = w5 at R3 R5 ⊢
        have z0 : w5.cell? ⟨g5, 3, none⟩ = some (.string kz) := R5.out.cell 3
        have z1 : w5.frozen? ⟨g5, 3, none⟩ = false := R5.out.out.1.frozen 3
        replace R3 := Lib.hid (R3.out.far hg35 hg5w 3 (.string kx))
        replace R5 := Lib.hid (R5.out.put hg5w 3 (.string kx))
        simp only [List.setIfInBounds_toArray, List.set_cons_zero, List.set_cons_succ] at R5
        go_upto_region 21 with fail
        rw [HKQ.out]
        clear z0 z1
        generalize w5.setCell _ _ = w6 at R3 R5 ⊢
        have hl5 := R5.out.load rfl
        go_wp2_with (refine wpList_load_any (by rfl) 28 (.tmp 5) rfl g5 0 rfl _ hl5 ?_; simp only [Act.put])
        refine (HBY.out _ R5.out.out.2).mono ?_
        rintro e w7 ⟨rfl, hb7⟩
        replace R3 := Lib.hid (R3.out.below hb7)
        replace R5 := Lib.hid (R5.out.below hb7)
        clear hb7 hl5 HBY
        go_wp2_with (go_at_call 12; refine (num_is _ _).mono ?_; rintro e w' ⟨rfl, rfl⟩)
        go_roundw
        case rel => exact ⟨5, by omega, by first | rfl | go_num, R3.out⟩
        case measure => first | (simp [RowKit.intOf]; done) | (simp [RowKit.intOf]; omega) | decide
      · clear R1 hk8
        have hm : mayB ⟨1099511627775, 1099511627776, Kz, Kz, 3, false⟩ = false := may_not (fun h => by have := h.2.2.2.2.1; omega)
        have HBY := Lib.hid (fun W (hb : Below w.heap.size w W) => Bytes_no W (T.out.below hb) hm HK.out HK.out)
        clear hm
        go_upto_region 6 with (first | (refine wpList_load_any (by rfl) 28 (.tmp 3) rfl g3 0 rfl _ hld ?_; simp only [Act.put]) | (rw [HW4.out]; refine wpList_store_whole rfl 28 (.tmp 5) (.tmp 21) rfl g5 _ rfl rfl zcells HBN.out info_rec rfl (by simp [Value.oneCell']) ?_; simp only [Act.put]))
        clear HW4 HBN hg5 hld
        generalize World.setRow _ _ _ = w5 at R3 R5 ⊢
        have z0 : w5.cell? ⟨g5, 4, none⟩ = some (.int .i64 2) := R5.out.cell 4
        have z1 : w5.frozen? ⟨g5, 4, none⟩ = false := R5.out.out.1.frozen 4
        replace R3 := Lib.hid (R3.out.far hg35 hg5w 4 (.int .i64 3))
        replace R5 := Lib.hid (R5.out.put hg5w 4 (.int .i64 3))
        simp only [List.setIfInBounds_toArray, List.set_cons_zero, List.set_cons_succ] at R5
        go_upto_region 21 with fail
        clear z0 z1
        generalize w5.setCell _ _ = w6 at R3 R5 ⊢
        have hl5 := R5.out.load rfl
        go_wp2_with (refine wpList_load_any (by rfl) 28 (.tmp 5) rfl g5 0 rfl _ hl5 ?_; simp only [Act.put])
        refine (HBY.out _ R5.out.out.2).mono ?_
        rintro e w7 ⟨rfl, hb7⟩
        replace R3 := Lib.hid (R3.out.below hb7)
        replace R5 := Lib.hid (R5.out.below hb7)
        clear hb7 hl5 HBY
        go_wp2_with (go_at_call 12; refine (num_is _ _).mono ?_; rintro e w' ⟨rfl, rfl⟩)
        go_roundw
        case rel => exact ⟨6, by omega, by first | rfl | go_num, R3.out⟩
        case measure => first | (simp [RowKit.intOf]; done) | (simp [RowKit.intOf]; omega) | decide
      · clear R1 hk8
        have hm : mayB ⟨1099511627775, 1099511627776, Kz, Kz, 2, true⟩ = false := may_not (fun h => by
            rcases h.2.2.2.2.2 with h | h
            · have := kz_len; rw [h] at this; cases this
            · cases h)
        have HBY := Lib.hid (fun W (hb : Below w.heap.size w W) => Bytes_no W (T.out.below hb) hm HK.out HK.out)
        clear hm
        go_upto_region 6 with (first | (refine wpList_load_any (by rfl) 28 (.tmp 3) rfl g3 0 rfl _ hld ?_; simp only [Act.put]) | (rw [HW4.out]; refine wpList_store_whole rfl 28 (.tmp 5) (.tmp 21) rfl g5 _ rfl rfl zcells HBN.out info_rec rfl (by simp [Value.oneCell']) ?_; simp only [Act.put]))
        clear HW4 HBN hg5 hld
        generalize World.setRow _ _ _ = w5 at R3 R5 ⊢
        have z0 : w5.cell? ⟨g5, 5, none⟩ = some (.bool false) := R5.out.cell 5
        have z1 : w5.frozen? ⟨g5, 5, none⟩ = false := R5.out.out.1.frozen 5
        replace R3 := Lib.hid (R3.out.far hg35 hg5w 5 (.bool true))
        replace R5 := Lib.hid (R5.out.put hg5w 5 (.bool true))
        simp only [List.setIfInBounds_toArray, List.set_cons_zero, List.set_cons_succ] at R5
        go_upto_region 21 with fail
        clear z0 z1
        generalize w5.setCell _ _ = w6 at R3 R5 ⊢
        have hl5 := R5.out.load rfl
        go_wp2_with (refine wpList_load_any (by rfl) 28 (.tmp 5) rfl g5 0 rfl _ hl5 ?_; simp only [Act.put])
        refine (HBY.out _ R5.out.out.2).mono ?_
        rintro e w7 ⟨rfl, hb7⟩
        replace R3 := Lib.hid (R3.out.below hb7)
        replace R5 := Lib.hid (R5.out.below hb7)
        clear hb7 hl5 HBY
        go_wp2_with (go_at_call 12; refine (num_is _ _).mono ?_; rintro e w' ⟨rfl, rfl⟩)
        go_roundw
        case rel => exact ⟨7, by omega, by first | rfl | go_num, R3.out⟩
        case measure => first | (simp [RowKit.intOf]; done) | (simp [RowKit.intOf]; omega) | decide
      · clear R1 hk8
        have hm : mayB ⟨1099511627775, 1099511627776, Kz, [], 2, true⟩ = true := may_yes ⟨by decide, by decide, by decide⟩ ⟨by decide, by decide, (Nat.le_of_eq kz_len), Nat.zero_le _, by decide, .inl rfl⟩
        obtain ⟨S, hS⟩ : ∃ S, str (recL ⟨1099511627775, 1099511627776, Kz, [], 2, true⟩) = S := ⟨_, rfl⟩
        have hSz := size_yes HK.out hnil hS
        have HBY := Lib.hid (fun W (hb : Below w.heap.size w W) => Bytes_yes W (T.out.below hb) hm HK.out hnil hS)
        have HTK := Lib.hid (fun W (hb : Below w.heap.size w W) => Take_yes W (T.out.below hb) hm HK.out hnil hS)
        have HRC := Lib.hid (fun W => RRec_yes W hm HK.out hnil)
        have hS1 : S.size = 1049 := by rw [hSz, hkzs]; rfl
        clear hm hS hSz
        go_upto_region 6 with (first | (refine wpList_load_any (by rfl) 28 (.tmp 3) rfl g3 0 rfl _ hld ?_; simp only [Act.put]) | (rw [HW4.out]; refine wpList_store_whole rfl 28 (.tmp 5) (.tmp 21) rfl g5 _ rfl rfl zcells HBN.out info_rec rfl (by simp [Value.oneCell']) ?_; simp only [Act.put]))
        clear HW4 HBN hg5 hld
        generalize World.setRow _ _ _ = w5 at R3 R5 ⊢
        have z0 : w5.cell? ⟨g5, 5, none⟩ = some (.bool false) := R5.out.cell 5
        have z1 : w5.frozen? ⟨g5, 5, none⟩ = false := R5.out.out.1.frozen 5
        replace R3 := Lib.hid (R3.out.far hg35 hg5w 5 (.bool true))
        replace R5 := Lib.hid (R5.out.put hg5w 5 (.bool true))
        simp only [List.setIfInBounds_toArray, List.set_cons_zero, List.set_cons_succ] at R5
        have z2 : (w5.setCell ⟨g5, 5, none⟩ (.bool true)).cell? ⟨g5, 3, none⟩ = some (.string kz) := R5.out.cell 3
        have z3 : (w5.setCell ⟨g5, 5, none⟩ (.bool true)).frozen? ⟨g5, 3, none⟩ = false := R5.out.out.1.frozen 3
        replace R3 := Lib.hid (R3.out.far hg35 hg5w 3 (.string ⟨#[]⟩))
        replace R5 := Lib.hid (R5.out.put hg5w 3 (.string ⟨#[]⟩))
        simp only [List.setIfInBounds_toArray, List.set_cons_zero, List.set_cons_succ] at R5
        go_upto_region 21 with fail
        clear z0 z1 z2 z3
        generalize World.setCell (w5.setCell _ _) _ _ = w6 at R3 R5 ⊢
        have hl5 := R5.out.load rfl
        go_wp2_with (refine wpList_load_any (by rfl) 28 (.tmp 5) rfl g5 0 rfl _ hl5 ?_; simp only [Act.put])
        refine (HBY.out _ R5.out.out.2).mono ?_
        rintro e w7 ⟨rfl, hb7⟩
        replace R3 := Lib.hid (R3.out.below hb7)
        replace R5 := Lib.hid (R5.out.below hb7)
        clear hb7 hl5 HBY
        go_wp2_with (go_at_call 12; refine (num_is _ _).mono ?_; rintro e w' ⟨rfl, rfl⟩)
        refine (HTK.out _ R5.out.out.2).mono ?_
        rintro e w8 ⟨rfl, hb8⟩
        replace R3 := Lib.hid (R3.out.below hb8)
        replace R5 := Lib.hid (R5.out.below hb8)
        obtain ⟨g9, W9, hg9, hW9, hbn, hbx, hb9⟩ := box_new R5.out.out.2 #[.int .i64 1099511627775, .int .i64 1099511627776, .string kz, .string ⟨#[]⟩, .int .i64 2, .bool true]
        replace R3 := Lib.hid (R3.out.below hb9)
        replace R5 := Lib.hid (R5.out.below hb9)
        have HBN := Lib.hid hbn
        have R9 := Lib.hid hbx
        unfold zcells at hW9
        have HW9 := Lib.hid hW9
        clear hb8 HTK hbn hbx hb9 hW9
        go_upto_region 27 with (rw [HW9.out]; refine wpList_store_whole rfl 28 (.tmp 9) (.tmp 71) rfl g9 _ rfl rfl zcells HBN.out info_rec rfl (by simp [Value.oneCell']) ?_; simp only [Act.put])
        clear HW9 HBN hg9
        generalize World.setRow _ _ _ = w9 at R3 R5 R9 ⊢
        have d2 : w9.cell? ⟨g5, 2, none⟩ = some (.string kz) := R5.out.cell 2
        have d3 : w9.cell? ⟨g5, 3, none⟩ = some (.string ⟨#[]⟩) := R5.out.cell 3
        have hl5 := R5.out.load rfl
        have hl9 := R9.out.load rfl
        have hne := neq_rec 1099511627775 1099511627776 kz ⟨#[]⟩ 2 true
        unfold rarr at hne
        go_wp2_with (first | (go_at_call 12; refine (num_is _ _).mono ?_; rintro e w' ⟨rfl, rfl⟩) | (refine wpList_load_any (by rfl) 28 (.tmp 9) rfl g9 0 rfl _ hl9 ?_; simp only [Act.put]) | (refine wpList_load_any (by rfl) 28 (.tmp 5) rfl g5 0 rfl _ hl5 ?_; simp only [Act.put]))
        refine (HRC.out _).mono ?_
        rintro e w10 ⟨rfl, hb10⟩
        replace R3 := Lib.hid (R3.out.below hb10)
        clear hb10 hl5 hl9 d2 d3 hne R5 R9 HRC
        go_wp2_with fail
        go_roundw
        case rel => exact ⟨8, by omega, by first | rfl | go_num, R3.out⟩
        case measure => first | (simp [RowKit.intOf]; done) | (simp [RowKit.intOf]; omega) | decide
end Go.Proofs.YtimoncjdfmfojaaDoor
