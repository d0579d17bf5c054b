/- The sixth layer's statements: is a script too much; a bound; a framer made; an error's number. -/
import Derived.Test.YtiancngpknnkaaaFrameAsk
import Derived.Test.YtiancngpknnkaaaFrameLive
namespace Go.Proofs.Ytiancngpknnkaaa
open Go.RowKit Go.Lib Prp Pkt Vbi

/-- What the weight of strings is, counted till it is great. -/
def wtGo : Nat → List ByteArray → Nat
  | n, [] => n
  | n, x :: t => if n < 1048576 then wtGo (n + x.size) t else n
theorem wt_ge : ∀ (l : List ByteArray) (n : Nat), n ≤ wtGo n l
  | [], n => Nat.le_refl _
  | x :: t, n => by
    unfold wtGo
    split
    · exact Nat.le_trans (Nat.le_add_right _ _) (wt_ge t _)
    · exact Nat.le_refl _
theorem wt_mem : ∀ (l : List ByteArray) (n : Nat), wtGo n l ≤ 20000 → ∀ x ∈ l, x.size ≤ 20000
  | [], n, _, x, h => by cases h
  | y :: t, n, hw, x, h => by
    unfold wtGo at hw
    split at hw
    · rcases List.mem_cons.1 h with rfl | h
      · have := wt_ge t (n + x.size); omega
      · exact wt_mem t _ hw x h
    · omega
theorem wt_le : ∀ (l : List ByteArray) (n : Nat), n ≤ 140737489400000 → (∀ x ∈ l, x.size ≤ 140737488351232) → wtGo n l ≤ 140737489400000
  | [], n, h, _ => h
  | y :: t, n, h, hs => by
    unfold wtGo
    split
    · have := hs y (List.mem_cons_self)
      exact wt_le t _ (by omega) (fun x hx => hs x (List.mem_cons_of_mem _ hx))
    · exact h
set_option maxRecDepth 100000 in
set_option maxHeartbeats 4000000 in
theorem TextWeight_is (l : List ByteArray) (A : Option Addr) (c N : Nat) (w : World) (h : StrsAt w w.heap.size A l) (hs : ∀ x ∈ l, x.size ≤ 140737488351232) (hn : l.length ≤ 8796093022208) (hN : wtGo l.length l = N) :
    Calls Try.prog 12 #[.slice A l.length c] w fun e w' => e = .returned (.int .i64 (N : Int)) ∧ w = w' := by
  have H := Lib.hid h
  have HS := Lib.hid hs
  have HN := Lib.hid hN
  clear h hs hN
  go_enter Try.func12, Try.ntmps12
  go_wp2_with fail
  go_loopw [3, 4] (fun m i wr => ∃ k n : Nat, k ≤ l.length ∧ i = .int .i64 (k : Int) ∧ m = .int .i64 (n : Int) ∧ wtGo n (l.drop k) = N ∧ n ≤ 281474976710656 ∧ wr = w) (fun _ i _ => l.length - (RowKit.intOf i).toNat)
  case atStart => exact ⟨0, l.length, Nat.zero_le _, rfl, rfl, HN.out, by omega, rfl⟩
  case round =>
    obtain ⟨k, n, hk, rfl, rfl, hnn, hnb, rfl⟩ := hrel
    have HNN := Lib.hid hnn
    clear hnn
    by_cases hlt : k < l.length
    · have hdr : l.drop k = l[k] :: l.drop (k + 1) := by rw [List.drop_eq_getElem_cons hlt]
      by_cases hsm : n < 1048576
      · obtain ⟨b, o, rfl, hbb, hcell⟩ := H.out.some_ (by omega)
        have hc := hcell k hlt
        have hx := HS.out l[k] (List.getElem_mem hlt)
        obtain ⟨x, hxx⟩ : ∃ x, l[k] = x := ⟨_, rfl⟩
        rw [hxx] at hc hx hdr
        have HST : Hid (wtGo (n + x.size) (l.drop (k + 1)) = N) := by
          have := HNN.out
          rw [hdr] at this
          unfold wtGo at this
          rw [if_pos hsm] at this
          exact this
        have hkI : (k : Int) < (l.length : Int) := by omega
        have hsI : (n : Int) < 1048576 := by omega
        have hwr : IntKind.i64.wrap ((n : Int) + (x.size : Int)) = (n : Int) + (x.size : Int) := IntWalk.i64_in _ (by omega)
        clear hcell hdr hxx
        go_wp2_with fail
        go_roundw
        case rel => exact ⟨k + 1, n + x.size, by omega, by go_num, by simp, HST.out, by omega, (by first | rfl | trivial)⟩
        case measure => simp [RowKit.intOf]; omega
      · have hkI : (k : Int) < (l.length : Int) := by omega
        have hd : decide ((n : Int) < 1048576) = false := decide_eq_false (by omega)
        have HE : Hid (n = N) := by
          have := HNN.out
          rw [hdr] at this
          unfold wtGo at this
          rw [if_neg hsm] at this
          exact this
        clear hdr
        go_wp2_with fail
        go_ret
        exact ⟨by rw [HE.out]; rfl, (by first | rfl | trivial)⟩
    · obtain rfl : k = l.length := by omega
      have HE : Hid (n = N) := by
        have := HNN.out
        rw [List.drop_length] at this
        exact this
      go_wp2_with fail
      go_ret
      exact ⟨by rw [HE.out]; rfl, (by first | rfl | trivial)⟩
/-- A script's cells. -/
def scArr (rest : ByteArray) (max : Int) (dead : Bool) (A : Option Addr) (l : List ByteArray) (c : Nat) : Array Value := #[.string rest, .int .i64 max, .bool dead, .slice A l.length c]
set_option maxRecDepth 100000 in
set_option maxHeartbeats 4000000 in
theorem Heavy6_is (rest : ByteArray) (max : Int) (dead : Bool) (A : Option Addr) (l : List ByteArray) (c : Nat) (w : World) (h : StrsAt w w.heap.size A l) (hf : ScFit rest max l c) :
    Calls Try.prog 5 #[.agg (scArr rest max dead A l c)] w fun e w' => ∃ b : Bool, e = .returned (.bool b) ∧ (b = false → rest.size ≤ 20000 ∧ ∀ x ∈ l, x.size ≤ 20000) ∧ Below w.heap.size w w' := by
  have hb0 := Box.new w 26 (scArr rest max dead A l c)
  have ha := (Below.refl w.heap.size w).alloc (Nat.le_refl _) (.cells (scArr rest max dead A l c) 26)
  obtain ⟨W1, hW⟩ : ∃ W1, w.alloc (.cells (scArr rest max dead A l c) 26) = W1 := ⟨_, rfl⟩
  rw [hW] at hb0 ha
  obtain ⟨N, hN⟩ : ∃ N, wtGo l.length l = N := ⟨_, rfl⟩
  have hN1 : N ≤ 140737489400000 := by rw [← hN]; exact wt_le l _ (by have := hf.len; omega) hf.strs
  have HT := Lib.hid (fun (W : World) (hh : StrsAt W W.heap.size A l) => TextWeight_is l A c N W hh hf.strs hf.len hN)
  have HM : Hid (N ≤ 20000 → ∀ x ∈ l, x.size ≤ 20000) := Lib.hid (fun hh => wt_mem l l.length (by rw [hN]; exact hh))
  have HSA := Lib.hid ((h.below ha).mono ha.size)
  have HA := Lib.hid ha
  obtain ⟨g, hg⟩ : ∃ g, w.heap.size = g := ⟨_, rfl⟩
  rw [hg] at hb0
  have HG := Lib.hid hg
  have HB0 := Lib.hid hb0
  have hrs := hf.rest
  unfold scArr at hW ⊢
  have HW := Lib.hid hW
  have c0 : W1.cell? ⟨g, 0, none⟩ = some (.string rest) := hb0.cell 0
  have c3 : W1.cell? ⟨g, 3, none⟩ = some (.slice A l.length c) := hb0.cell 3
  clear hW hb0 ha hg h hf hN
  go_enter Try.func5, Try.ntmps5
  go_upto_region 1 with fail
  rw [HW.out, HG.out]
  generalize Value.agg _ = v0
  have hwr : IntKind.i64.wrap ((rest.size : Int) + (N : Int)) = (rest.size : Int) + (N : Int) := IntWalk.i64_in _ (by omega)
  have hS0 : Box (World.drew W1) g (scArr rest max dead A l c) ∧ StrsAt (World.drew W1) (World.drew W1).heap.size A l ∧ Below w.heap.size w (World.drew W1) := by
    have hb := below_drewN (Below.refl W1.heap.size W1) 1
    exact ⟨HB0.out.below hb, (HSA.out.below hb).mono hb.size, HA.out.trans (hb.mono HA.out.size)⟩
  clear c0 c3 HSA HA HB0
  refine wp_region_held_drew (S := fun W => Box W g (scArr rest max dead A l c) ∧ StrsAt W W.heap.size A l ∧ Below w.heap.size w W) (by kernel_rfl) hS0 (fun hS => ?_)
  clear hS0
  generalize World.drew W1 = Wd at hS ⊢
  refine take_op 0 3 ?v0 rfl rfl (by kernel_rfl) (fun _ _ _ h => h) (by rfl) hS (fun w' hS' => ?hv0) ?hh0
  case hv0 => (go_simp; try with_reducible rfl)
  simp only [Act.put, List.setIfInBounds_toArray, List.set_cons_zero, List.set_cons_succ]
  refine take_op 1 4 ?v1 rfl rfl (by kernel_rfl) (fun _ _ _ h => h) (by rfl) hS (fun w' hS' => ?hv1) ?hh1
  case hv1 => (go_simp; try with_reducible rfl)
  simp only [Act.put, List.setIfInBounds_toArray, List.set_cons_zero, List.set_cons_succ]
  refine take_op 2 5 ?v2 rfl rfl (by kernel_rfl) (fun _ _ _ h => h) (by rfl) hS (fun w' hS' => ?hv2) ?hh2
  case hv2 => (have k : w'.cell? ⟨g, 0, none⟩ = some (.string rest) := hS'.1.cell 0; go_simp; try with_reducible rfl)
  simp only [Act.put, List.setIfInBounds_toArray, List.set_cons_zero, List.set_cons_succ]
  refine take_op 3 6 ?v3 rfl rfl (by kernel_rfl) (fun _ _ _ h => h) (by rfl) hS (fun w' hS' => ?hv3) ?hh3
  case hv3 => (go_simp; try with_reducible rfl)
  simp only [Act.put, List.setIfInBounds_toArray, List.set_cons_zero, List.set_cons_succ]
  refine take_op 4 7 ?v4 rfl rfl (by kernel_rfl) (fun _ _ _ h => h) (by rfl) hS (fun w' hS' => ?hv4) ?hh4
  case hv4 => (go_simp; try with_reducible rfl)
  simp only [Act.put, List.setIfInBounds_toArray, List.set_cons_zero, List.set_cons_succ]
  refine take_op 5 8 ?v5 rfl rfl (by kernel_rfl) (fun _ _ _ h => h) (by rfl) hS (fun w' hS' => ?hv5) ?hh5
  case hv5 => (have k : w'.cell? ⟨g, 3, none⟩ = some (.slice A l.length c) := hS'.1.cell 3; go_simp; try with_reducible rfl)
  simp only [Act.put, List.setIfInBounds_toArray, List.set_cons_zero, List.set_cons_succ]
  refine only_op 6 rfl (by kernel_rfl) (by rfl) (wp_call_ex 9 12 #[.slice A l.length c] _ rfl (by go_simp) (HT.out Wd hS.2.1) ?_)
  rintro r w3 ⟨rfl, rfl⟩
  refine ⟨_, rfl, hS, ?_⟩
  simp only [Act.put, List.setIfInBounds_toArray, List.set_cons_zero, List.set_cons_succ]
  refine take_op 7 10 ?v7 rfl rfl (by kernel_rfl) (fun _ _ _ h => h) (by rfl) hS (fun w' hS' => ?hv7) ?hh7
  case hv7 => (go_simp; try with_reducible rfl)
  simp only [Act.put, List.setIfInBounds_toArray, List.set_cons_zero, List.set_cons_succ]
  refine take_op 8 11 ?v8 rfl rfl (by kernel_rfl) (fun _ _ _ h => h) (by rfl) hS (fun w' hS' => ?hv8) ?hh8
  case hv8 => (go_simp; try with_reducible rfl)
  simp only [Act.put, List.setIfInBounds_toArray, List.set_cons_zero, List.set_cons_succ]
  refine take_op 9 2 ?v9 rfl rfl (by kernel_rfl) (fun _ _ _ h => h) (by rfl) hS (fun w' hS' => ?hv9) ?hh9
  case hv9 => (go_simp; try with_reducible rfl)
  simp only [Act.put, List.setIfInBounds_toArray, List.set_cons_zero, List.set_cons_succ]
  refine wpAnyH_done (by kernel_rfl) ?_ _
  have HX := Lib.hid hS.2.2
  clear hS
  go_wp2_with fail
  go_ret
  refine ⟨_, rfl, fun hh => ?_, HX.out⟩
  have hle := of_decide_eq_false hh
  have hN2 : N ≤ 20000 := by omega
  exact ⟨by omega, HM.out hN2⟩
end Go.Proofs.Ytiancngpknnkaaa
