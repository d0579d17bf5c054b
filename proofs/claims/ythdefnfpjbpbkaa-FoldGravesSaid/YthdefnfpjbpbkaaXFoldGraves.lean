/- For every list of asks: a tombstone stays so long, and is gone then; what it buried does not come back. No condition. -/
import Derived.Deep.RegionHeld3
import Derived.Deep.CutRange
import Derived.SizedLaws
import Derived.Test.YthdefnfpjbpbkaaX13
/- Plain facts for FoldGraves: a tombstone stays so long, and is gone then. -/
namespace Go.Proofs.Ythdefnfpjbpbkaa.Kpd
open Go.RowKit Go.Lib Rcd

def grA : Rc := ⟨0, 0, [107], [97], 1, false⟩
def grD : Rc := ⟨1, 100, [107], [], 1, true⟩
def grX : Rc := ⟨2, 100, [120], [121], 1, false⟩
def grl : List Sp := [⟨0, [grA, grD]⟩, ⟨2, [grX]⟩]
def grr : Ru := ⟨1, 0, 0, true, 10⟩
theorem gr_ask {now : Int} (h0 : 0 ≤ now) (h1 : now ≤ 1099511627776) : askB grl grr now = true := by
  unfold askB
  rw [show rowB grl = true by decide, show ruB grr = true by decide, decide_eq_true (And.intro h0 h1)]; rfl
theorem gr_shut {now : Int} {b : Bool} (hb : decide ((100 : Int) + 10 < now) = b) : shutF 10 now (recsOf grl) [⟨0, [grA, grD]⟩] = if b then [] else [⟨0, [grD]⟩] := by
  have h1 : goesF 10 now (recsOf grl) grA = true := by
    unfold goesF
    rw [Bool.or_eq_true]
    exact .inr (by decide)
  have h2 : goesF 10 now (recsOf grl) grD = b := by
    unfold goesF
    rw [show (!grD.k.isEmpty && (recsOf grl).any (fun y => y.k == grD.k && decide (grD.o < y.o))) = false by decide, Bool.or_false]
    show (true && decide ((100 : Int) + 10 < now)) = b
    rw [Bool.true_and, hb]
  have h3 : List.filter (fun x => !goesF 10 now (recsOf grl) x) [grA, grD] = if b then [] else [grD] := by
    rw [List.filter_cons, List.filter_cons, h1, h2]
    cases b <;> rfl
  unfold shutF keptF
  rw [List.map_cons, List.map_nil]
  show List.filter _ [Sp.mk 0 (List.filter (fun x => !goesF 10 now (recsOf grl) x) [grA, grD])] = _
  rw [h3]
  cases b <;> rfl
theorem gr_stay {now : Int} (h0 : 0 ≤ now) (h1 : now ≤ 110) : FoldIs grl grr now [⟨0, [grD]⟩, ⟨2, [grX]⟩] 0 := by
  refine .inr ⟨rfl, gr_ask h0 (by omega), [⟨0, [grA, grD]⟩], ⟨2, [grX]⟩, rfl, ?_⟩
  have h := gr_shut (now := now) (b := false) (decide_eq_false (by omega))
  show _ = shutF 10 now (recsOf grl) [⟨0, [grA, grD]⟩] ++ [⟨2, [grX]⟩]
  rw [h]; rfl
theorem gr_gone {now : Int} (h0 : 110 < now) (h1 : now ≤ 1099511627776) : FoldIs grl grr now [⟨2, [grX]⟩] 0 := by
  refine .inr ⟨rfl, gr_ask (by omega) h1, [⟨0, [grA, grD]⟩], ⟨2, [grX]⟩, rfl, ?_⟩
  have h := gr_shut (now := now) (b := true) (decide_eq_true (by omega))
  show _ = shutF 10 now (recsOf grl) [⟨0, [grA, grD]⟩] ++ [⟨2, [grX]⟩]
  rw [h]; rfl
theorem gr_last1 : LastIs [⟨0, [grD]⟩, ⟨2, [grX]⟩] [grX] 0 := .inr ⟨rfl, by decide, by rfl⟩
theorem gr_last2 : LastIs [⟨2, [grX]⟩] [grX] 0 := .inr ⟨rfl, by decide, by rfl⟩
def grc1 : Array Value := #[.int .i64 0, .int .i64 0, .string ⟨#[107]⟩, .string ⟨#[97]⟩, .int .i64 1, .bool false, .int .i64 1, .int .i64 100, .string ⟨#[107]⟩, .string ⟨#[]⟩, .int .i64 1, .bool true]
def grc2 : Array Value := #[.int .i64 2, .int .i64 100, .string ⟨#[120]⟩, .string ⟨#[121]⟩, .int .i64 1, .bool false]
def grc3 (g h : Nat) : Array Value := #[.int .i64 0, .slice (some ⟨g, 0, none⟩) 2 2, .int .i64 2, .slice (some ⟨h, 0, none⟩) 1 1]
theorem gr_at {W : World} {g1 g2 g3 : Nat} (k1 : Blk W g1 grc1) (k2 : Blk W g2 grc2) (k3 : Blk W g3 (grc3 g1 g2)) : SegsAt W W.heap.size (some ⟨g3, 0, none⟩) grl := by
  refine .inr ⟨g3, 0, rfl, k3.lt, fun j hj => ?_⟩
  match j, hj with
  | 0, _ =>
    refine ⟨some ⟨g1, 0, none⟩, 2, k3.cell 0, k3.cell 1, .inr ⟨g1, 0, rfl, k1.lt, fun i hi => ?_⟩, Nat.le_refl _, Nat.le_of_ble_eq_true rfl⟩
    match i, hi with
    | 0, _ => exact ⟨k1.cell 0, k1.cell 1, k1.cell 2, k1.cell 3, k1.cell 4, k1.cell 5⟩
    | 1, _ => exact ⟨k1.cell 6, k1.cell 7, k1.cell 8, k1.cell 9, k1.cell 10, k1.cell 11⟩
  | 1, _ =>
    refine ⟨some ⟨g2, 0, none⟩, 1, k3.cell 2, k3.cell 3, .inr ⟨g2, 0, rfl, k2.lt, fun i hi => ?_⟩, Nat.le_refl _, Nat.le_of_ble_eq_true rfl⟩
    match i, hi with
    | 0, _ => exact ⟨k2.cell 0, k2.cell 1, k2.cell 2, k2.cell 3, k2.cell 4, k2.cell 5⟩
end Go.Proofs.Ythdefnfpjbpbkaa.Kpd
/- FoldGraves, by its walk: a tombstone stays so long. -/
namespace Go.Proofs.Ythdefnfpjbpbkaa.Kpd
open Go.RowKit Go.Lib Rcd

set_option maxRecDepth 100000 in
set_option maxHeartbeats 2000000 in
theorem FoldGraves_any (A : Option Addr) (n c : Nat) (w : World) (hn : n ≤ 9223372036854775807) : Calls Try.prog 5 #[.slice A n c] w fun e w' => e = .returned (.bool true) ∧ Below w.heap.size w w' := by
  have HR1 := Lib.hid (R_is 1 100 ⟨#[107]⟩ ⟨#[]⟩ w)
  have HRA := Lib.hid (fun W => R_is 0 0 ⟨#[107]⟩ ⟨#[97]⟩ W)
  have HRX := Lib.hid (fun W => R_is 2 100 ⟨#[120]⟩ ⟨#[121]⟩ W)
  unfold rarr at HR1 HRA HRX
  go_enter Try.func5, Try.ntmps5
  go_wp2_with fail
  refine HR1.out.mono ?_
  rintro e w1 ⟨rfl, hb1⟩
  have B1 := Lib.hid hb1
  clear hb1 HR1
  go_upto_region 3 with fail
  obtain ⟨g9, hg9⟩ : ∃ g9, w1.heap.size = g9 := ⟨_, rfl⟩
  rw [hg9]
  go_cut [4] from 11 (fun s4 wx => ∃ g, s4 = .slice (some ⟨g, 0, none⟩) 2 2 ∧ SegsAt wx wx.heap.size (some ⟨g, 0, none⟩) grl ∧ Below w.heap.size w wx)
  case first =>
    have hbd := below_drewN (Below.refl (w1.alloc (.cells #[.int .i64 1, .int .i64 100, .string ⟨#[107]⟩, .string ⟨#[]⟩, .int .i64 1, .bool true] 46)).heap.size (w1.alloc (.cells #[.int .i64 1, .int .i64 100, .string ⟨#[107]⟩, .string ⟨#[]⟩, .int .i64 1, .bool true] 46))) 1
    have hblk : Blk (w1.alloc (.cells #[.int .i64 1, .int .i64 100, .string ⟨#[107]⟩, .string ⟨#[]⟩, .int .i64 1, .bool true] 46)) g9 #[.int .i64 1, .int .i64 100, .string ⟨#[107]⟩, .string ⟨#[]⟩, .int .i64 1, .bool true] := by rw [← hg9]; exact Blk.new _ _ _
    have hb := bel_step (B1.out.alloc B1.out.size (.cells #[.int .i64 1, .int .i64 100, .string ⟨#[107]⟩, .string ⟨#[]⟩, .int .i64 1, .bool true] 46)) hbd
    refine wp_region_held_drew (S := fun W => Blk W g9 #[.int .i64 1, .int .i64 100, .string ⟨#[107]⟩, .string ⟨#[]⟩, .int .i64 1, .bool true]) (by kernel_rfl) (hblk.drewN 1) (fun hS => ?_)
    change Below w.heap.size w (w1.alloc (.cells #[.int .i64 1, .int .i64 100, .string ⟨#[107]⟩, .string ⟨#[]⟩, .int .i64 1, .bool true] 46)).drew at hb
    clear hbd hblk
    generalize (w1.alloc _).drew = Wd at hS hb ⊢
    refine take_load 1 14 46 (.tmp 3) g9 0 (.agg #[.int .i64 1, .int .i64 100, .string ⟨#[107]⟩, .string ⟨#[]⟩, .int .i64 1, .bool true]) rfl rfl (by kernel_rfl) (fun _ _ _ h => h) (by rfl) hS rfl rfl (fun w' hS' => load_blk hS' rfl) ?_
    simp only [Act.put, List.setIfInBounds_toArray, List.set_cons_zero, List.set_cons_succ]
    refine only_op 0 rfl (by kernel_rfl) (by rfl) (wp_call_ex 13 21 #[.int .i64 0, .int .i64 0, .string ⟨#[107]⟩, .string ⟨#[97]⟩] _ rfl (by go_simp) (HRA.out Wd) (fun e W1 hR => ?_))
    obtain ⟨rfl, hq⟩ := hR
    refine ⟨_, rfl, hS.below hq, ?_⟩
    simp only [Act.put, List.setIfInBounds_toArray, List.set_cons_zero, List.set_cons_succ]
    have hS := hS.below hq
    have hb := bel_step hb hq
    clear hq
    refine two_ops 2 4 rfl rfl (by kernel_rfl) (by rfl) (by rfl) (wp_made 15 (.slice (some ⟨W1.heap.size, 0, none⟩) 2 2) rfl (w' := W1.alloc (.cells #[.int .i64 0, .int .i64 0, .string ⟨#[107]⟩, .string ⟨#[97]⟩, .int .i64 1, .bool false, .int .i64 1, .int .i64 100, .string ⟨#[107]⟩, .string ⟨#[]⟩, .int .i64 1, .bool true] 46)) (by go_simp; try rfl) ⟨hS.alloc _, ?_⟩) (wp_call_ex 17 21 #[.int .i64 2, .int .i64 100, .string ⟨#[120]⟩, .string ⟨#[121]⟩] _ rfl (by go_simp) (HRX.out W1) (fun e W2 hR => ?_))
    · simp only [Act.put, List.setIfInBounds_toArray, List.set_cons_zero, List.set_cons_succ]
      have k1 : Blk (W1.alloc (.cells #[.int .i64 0, .int .i64 0, .string ⟨#[107]⟩, .string ⟨#[97]⟩, .int .i64 1, .bool false, .int .i64 1, .int .i64 100, .string ⟨#[107]⟩, .string ⟨#[]⟩, .int .i64 1, .bool true] 46)) W1.heap.size #[.int .i64 0, .int .i64 0, .string ⟨#[107]⟩, .string ⟨#[97]⟩, .int .i64 1, .bool false, .int .i64 1, .int .i64 100, .string ⟨#[107]⟩, .string ⟨#[]⟩, .int .i64 1, .bool true] := Blk.new W1 46 #[.int .i64 0, .int .i64 0, .string ⟨#[107]⟩, .string ⟨#[97]⟩, .int .i64 1, .bool false, .int .i64 1, .int .i64 100, .string ⟨#[107]⟩, .string ⟨#[]⟩, .int .i64 1, .bool true]
      have hb' := hb.alloc hb.size (.cells #[.int .i64 0, .int .i64 0, .string ⟨#[107]⟩, .string ⟨#[97]⟩, .int .i64 1, .bool false, .int .i64 1, .int .i64 100, .string ⟨#[107]⟩, .string ⟨#[]⟩, .int .i64 1, .bool true] 46)
      have hS := hS.alloc (.cells #[.int .i64 0, .int .i64 0, .string ⟨#[107]⟩, .string ⟨#[97]⟩, .int .i64 1, .bool false, .int .i64 1, .int .i64 100, .string ⟨#[107]⟩, .string ⟨#[]⟩, .int .i64 1, .bool true] 46)
      obtain ⟨g1, hg1⟩ : ∃ g1, W1.heap.size = g1 := ⟨_, rfl⟩
      rw [hg1] at k1 ⊢
      clear hg1 hb
      generalize W1.alloc _ = W2 at k1 hb' hS  ⊢
      have hb := hb'
      clear hb'
      refine take_op 3 16 (.agg #[.int .i64 0, .slice (some ⟨g1, 0, none⟩) 2 2]) rfl rfl (by kernel_rfl) (fun _ _ _ h => h) (by rfl) hS (fun w' hS' => ?hv1) ?hh1
      case hv1 => (go_simp; try with_reducible rfl)
      simp only [Act.put, List.setIfInBounds_toArray, List.set_cons_zero, List.set_cons_succ]
      refine only_op 4 rfl (by kernel_rfl) (by rfl) (wp_call_ex 17 21 #[.int .i64 2, .int .i64 100, .string ⟨#[120]⟩, .string ⟨#[121]⟩] _ rfl (by go_simp) (HRX.out W2) (fun e W3 hR => ?_))
      obtain ⟨rfl, hq⟩ := hR
      refine ⟨_, rfl, hS.below hq, ?_⟩
      simp only [Act.put, List.setIfInBounds_toArray, List.set_cons_zero, List.set_cons_succ]
      have hS := hS.below hq
      have hb := bel_step hb hq
      have k1 := k1.below hq
      clear hq
      refine only_op 5 rfl (by kernel_rfl) (by rfl) (wp_made 18 (.slice (some ⟨W3.heap.size, 0, none⟩) 1 1) rfl (w' := W3.alloc (.cells #[.int .i64 2, .int .i64 100, .string ⟨#[120]⟩, .string ⟨#[121]⟩, .int .i64 1, .bool false] 46)) (by go_simp; try rfl) ⟨hS.alloc _, ?_⟩)
      simp only [Act.put, List.setIfInBounds_toArray, List.set_cons_zero, List.set_cons_succ]
      have k2 : Blk (W3.alloc (.cells #[.int .i64 2, .int .i64 100, .string ⟨#[120]⟩, .string ⟨#[121]⟩, .int .i64 1, .bool false] 46)) W3.heap.size #[.int .i64 2, .int .i64 100, .string ⟨#[120]⟩, .string ⟨#[121]⟩, .int .i64 1, .bool false] := Blk.new W3 46 #[.int .i64 2, .int .i64 100, .string ⟨#[120]⟩, .string ⟨#[121]⟩, .int .i64 1, .bool false]
      have hb' := hb.alloc hb.size (.cells #[.int .i64 2, .int .i64 100, .string ⟨#[120]⟩, .string ⟨#[121]⟩, .int .i64 1, .bool false] 46)
      have hS := hS.alloc (.cells #[.int .i64 2, .int .i64 100, .string ⟨#[120]⟩, .string ⟨#[121]⟩, .int .i64 1, .bool false] 46)
      have k1 := k1.alloc (.cells #[.int .i64 2, .int .i64 100, .string ⟨#[120]⟩, .string ⟨#[121]⟩, .int .i64 1, .bool false] 46)
      obtain ⟨g2, hg2⟩ : ∃ g2, W3.heap.size = g2 := ⟨_, rfl⟩
      rw [hg2] at k2 ⊢
      clear hg2 hb
      generalize W3.alloc _ = W4 at k2 hb' hS k1 ⊢
      have hb := hb'
      clear hb'
      refine take_op 6 19 (.agg #[.int .i64 2, .slice (some ⟨g2, 0, none⟩) 1 1]) rfl rfl (by kernel_rfl) (fun _ _ _ h => h) (by rfl) hS (fun w' hS' => ?hv2) ?hh2
      case hv2 => (go_simp; try with_reducible rfl)
      simp only [Act.put, List.setIfInBounds_toArray, List.set_cons_zero, List.set_cons_succ]
      refine only_op 7 rfl (by kernel_rfl) (by rfl) (wp_made 20 (.slice (some ⟨W4.heap.size, 0, none⟩) 2 2) rfl (w' := W4.alloc (.cells #[.int .i64 0, .slice (some ⟨g1, 0, none⟩) 2 2, .int .i64 2, .slice (some ⟨g2, 0, none⟩) 1 1] 49)) (by go_simp; try rfl) ⟨hS.alloc _, ?_⟩)
      simp only [Act.put, List.setIfInBounds_toArray, List.set_cons_zero, List.set_cons_succ]
      have k3 : Blk (W4.alloc (.cells #[.int .i64 0, .slice (some ⟨g1, 0, none⟩) 2 2, .int .i64 2, .slice (some ⟨g2, 0, none⟩) 1 1] 49)) W4.heap.size #[.int .i64 0, .slice (some ⟨g1, 0, none⟩) 2 2, .int .i64 2, .slice (some ⟨g2, 0, none⟩) 1 1] := Blk.new W4 49 #[.int .i64 0, .slice (some ⟨g1, 0, none⟩) 2 2, .int .i64 2, .slice (some ⟨g2, 0, none⟩) 1 1]
      have hb' := hb.alloc hb.size (.cells #[.int .i64 0, .slice (some ⟨g1, 0, none⟩) 2 2, .int .i64 2, .slice (some ⟨g2, 0, none⟩) 1 1] 49)
      have hS := hS.alloc (.cells #[.int .i64 0, .slice (some ⟨g1, 0, none⟩) 2 2, .int .i64 2, .slice (some ⟨g2, 0, none⟩) 1 1] 49)
      have k1 := k1.alloc (.cells #[.int .i64 0, .slice (some ⟨g1, 0, none⟩) 2 2, .int .i64 2, .slice (some ⟨g2, 0, none⟩) 1 1] 49)
      have k2 := k2.alloc (.cells #[.int .i64 0, .slice (some ⟨g1, 0, none⟩) 2 2, .int .i64 2, .slice (some ⟨g2, 0, none⟩) 1 1] 49)
      obtain ⟨g3, hg3⟩ : ∃ g3, W4.heap.size = g3 := ⟨_, rfl⟩
      rw [hg3] at k3 ⊢
      clear hg3 hb
      generalize W4.alloc _ = Wz at k3 hb' hS k1 k2 ⊢
      have hb := hb'
      clear hb'
      refine take_op 8 4 (.slice (some ⟨g3, 0, none⟩) 2 2) rfl rfl (by kernel_rfl) (fun _ _ _ h => h) (by rfl) hS (fun w' hS' => ?hv3) ?hh3
      case hv3 => (go_simp; try with_reducible rfl)
      simp only [Act.put, List.setIfInBounds_toArray, List.set_cons_zero, List.set_cons_succ]
      refine wpAnyH_done (by kernel_rfl) ?_ _
      have ha := gr_at k1 k2 k3
      clear k1 k2 k3 hS
      go_wp2_with fail
      go_meet
      exact ⟨g3, rfl, ha, hb⟩
    · obtain ⟨rfl, hq⟩ := hR
      refine ⟨_, rfl, hS.below hq, ?_⟩
      simp only [Act.put, List.setIfInBounds_toArray, List.set_cons_zero, List.set_cons_succ]
      have hS := hS.below hq
      have hb := bel_step hb hq
      clear hq
      refine two_ops 2 5 rfl rfl (by kernel_rfl) (by rfl) (by rfl) (wp_made 15 (.slice (some ⟨W2.heap.size, 0, none⟩) 2 2) rfl (w' := W2.alloc (.cells #[.int .i64 0, .int .i64 0, .string ⟨#[107]⟩, .string ⟨#[97]⟩, .int .i64 1, .bool false, .int .i64 1, .int .i64 100, .string ⟨#[107]⟩, .string ⟨#[]⟩, .int .i64 1, .bool true] 46)) (by go_simp; try rfl) ⟨hS.alloc _, ?_⟩) (wp_made 18 (.slice (some ⟨W2.heap.size, 0, none⟩) 1 1) rfl (w' := W2.alloc (.cells #[.int .i64 2, .int .i64 100, .string ⟨#[120]⟩, .string ⟨#[121]⟩, .int .i64 1, .bool false] 46)) (by go_simp; try rfl) ⟨hS.alloc _, ?_⟩)
      · simp only [Act.put, List.setIfInBounds_toArray, List.set_cons_zero, List.set_cons_succ]
        have k1 : Blk (W2.alloc (.cells #[.int .i64 0, .int .i64 0, .string ⟨#[107]⟩, .string ⟨#[97]⟩, .int .i64 1, .bool false, .int .i64 1, .int .i64 100, .string ⟨#[107]⟩, .string ⟨#[]⟩, .int .i64 1, .bool true] 46)) W2.heap.size #[.int .i64 0, .int .i64 0, .string ⟨#[107]⟩, .string ⟨#[97]⟩, .int .i64 1, .bool false, .int .i64 1, .int .i64 100, .string ⟨#[107]⟩, .string ⟨#[]⟩, .int .i64 1, .bool true] := Blk.new W2 46 #[.int .i64 0, .int .i64 0, .string ⟨#[107]⟩, .string ⟨#[97]⟩, .int .i64 1, .bool false, .int .i64 1, .int .i64 100, .string ⟨#[107]⟩, .string ⟨#[]⟩, .int .i64 1, .bool true]
        have hb' := hb.alloc hb.size (.cells #[.int .i64 0, .int .i64 0, .string ⟨#[107]⟩, .string ⟨#[97]⟩, .int .i64 1, .bool false, .int .i64 1, .int .i64 100, .string ⟨#[107]⟩, .string ⟨#[]⟩, .int .i64 1, .bool true] 46)
        have hS := hS.alloc (.cells #[.int .i64 0, .int .i64 0, .string ⟨#[107]⟩, .string ⟨#[97]⟩, .int .i64 1, .bool false, .int .i64 1, .int .i64 100, .string ⟨#[107]⟩, .string ⟨#[]⟩, .int .i64 1, .bool true] 46)
        obtain ⟨g1, hg1⟩ : ∃ g1, W2.heap.size = g1 := ⟨_, rfl⟩
        rw [hg1] at k1 ⊢
        clear hg1 hb
        generalize W2.alloc _ = W3 at k1 hb' hS  ⊢
        have hb := hb'
        clear hb'
        refine take_op 3 16 (.agg #[.int .i64 0, .slice (some ⟨g1, 0, none⟩) 2 2]) rfl rfl (by kernel_rfl) (fun _ _ _ h => h) (by rfl) hS (fun w' hS' => ?hv4) ?hh4
        case hv4 => (go_simp; try with_reducible rfl)
        simp only [Act.put, List.setIfInBounds_toArray, List.set_cons_zero, List.set_cons_succ]
        refine only_op 5 rfl (by kernel_rfl) (by rfl) (wp_made 18 (.slice (some ⟨W3.heap.size, 0, none⟩) 1 1) rfl (w' := W3.alloc (.cells #[.int .i64 2, .int .i64 100, .string ⟨#[120]⟩, .string ⟨#[121]⟩, .int .i64 1, .bool false] 46)) (by go_simp; try rfl) ⟨hS.alloc _, ?_⟩)
        simp only [Act.put, List.setIfInBounds_toArray, List.set_cons_zero, List.set_cons_succ]
        have k2 : Blk (W3.alloc (.cells #[.int .i64 2, .int .i64 100, .string ⟨#[120]⟩, .string ⟨#[121]⟩, .int .i64 1, .bool false] 46)) W3.heap.size #[.int .i64 2, .int .i64 100, .string ⟨#[120]⟩, .string ⟨#[121]⟩, .int .i64 1, .bool false] := Blk.new W3 46 #[.int .i64 2, .int .i64 100, .string ⟨#[120]⟩, .string ⟨#[121]⟩, .int .i64 1, .bool false]
        have hb' := hb.alloc hb.size (.cells #[.int .i64 2, .int .i64 100, .string ⟨#[120]⟩, .string ⟨#[121]⟩, .int .i64 1, .bool false] 46)
        have hS := hS.alloc (.cells #[.int .i64 2, .int .i64 100, .string ⟨#[120]⟩, .string ⟨#[121]⟩, .int .i64 1, .bool false] 46)
        have k1 := k1.alloc (.cells #[.int .i64 2, .int .i64 100, .string ⟨#[120]⟩, .string ⟨#[121]⟩, .int .i64 1, .bool false] 46)
        obtain ⟨g2, hg2⟩ : ∃ g2, W3.heap.size = g2 := ⟨_, rfl⟩
        rw [hg2] at k2 ⊢
        clear hg2 hb
        generalize W3.alloc _ = W4 at k2 hb' hS k1 ⊢
        have hb := hb'
        clear hb'
        refine take_op 6 19 (.agg #[.int .i64 2, .slice (some ⟨g2, 0, none⟩) 1 1]) rfl rfl (by kernel_rfl) (fun _ _ _ h => h) (by rfl) hS (fun w' hS' => ?hv5) ?hh5
        case hv5 => (go_simp; try with_reducible rfl)
        simp only [Act.put, List.setIfInBounds_toArray, List.set_cons_zero, List.set_cons_succ]
        refine only_op 7 rfl (by kernel_rfl) (by rfl) (wp_made 20 (.slice (some ⟨W4.heap.size, 0, none⟩) 2 2) rfl (w' := W4.alloc (.cells #[.int .i64 0, .slice (some ⟨g1, 0, none⟩) 2 2, .int .i64 2, .slice (some ⟨g2, 0, none⟩) 1 1] 49)) (by go_simp; try rfl) ⟨hS.alloc _, ?_⟩)
        simp only [Act.put, List.setIfInBounds_toArray, List.set_cons_zero, List.set_cons_succ]
        have k3 : Blk (W4.alloc (.cells #[.int .i64 0, .slice (some ⟨g1, 0, none⟩) 2 2, .int .i64 2, .slice (some ⟨g2, 0, none⟩) 1 1] 49)) W4.heap.size #[.int .i64 0, .slice (some ⟨g1, 0, none⟩) 2 2, .int .i64 2, .slice (some ⟨g2, 0, none⟩) 1 1] := Blk.new W4 49 #[.int .i64 0, .slice (some ⟨g1, 0, none⟩) 2 2, .int .i64 2, .slice (some ⟨g2, 0, none⟩) 1 1]
        have hb' := hb.alloc hb.size (.cells #[.int .i64 0, .slice (some ⟨g1, 0, none⟩) 2 2, .int .i64 2, .slice (some ⟨g2, 0, none⟩) 1 1] 49)
        have hS := hS.alloc (.cells #[.int .i64 0, .slice (some ⟨g1, 0, none⟩) 2 2, .int .i64 2, .slice (some ⟨g2, 0, none⟩) 1 1] 49)
        have k1 := k1.alloc (.cells #[.int .i64 0, .slice (some ⟨g1, 0, none⟩) 2 2, .int .i64 2, .slice (some ⟨g2, 0, none⟩) 1 1] 49)
        have k2 := k2.alloc (.cells #[.int .i64 0, .slice (some ⟨g1, 0, none⟩) 2 2, .int .i64 2, .slice (some ⟨g2, 0, none⟩) 1 1] 49)
        obtain ⟨g3, hg3⟩ : ∃ g3, W4.heap.size = g3 := ⟨_, rfl⟩
        rw [hg3] at k3 ⊢
        clear hg3 hb
        generalize W4.alloc _ = Wz at k3 hb' hS k1 k2 ⊢
        have hb := hb'
        clear hb'
        refine take_op 8 4 (.slice (some ⟨g3, 0, none⟩) 2 2) rfl rfl (by kernel_rfl) (fun _ _ _ h => h) (by rfl) hS (fun w' hS' => ?hv6) ?hh6
        case hv6 => (go_simp; try with_reducible rfl)
        simp only [Act.put, List.setIfInBounds_toArray, List.set_cons_zero, List.set_cons_succ]
        refine wpAnyH_done (by kernel_rfl) ?_ _
        have ha := gr_at k1 k2 k3
        clear k1 k2 k3 hS
        go_wp2_with fail
        go_meet
        exact ⟨g3, rfl, ha, hb⟩
      · simp only [Act.put, List.setIfInBounds_toArray, List.set_cons_zero, List.set_cons_succ]
        have k2 : Blk (W2.alloc (.cells #[.int .i64 2, .int .i64 100, .string ⟨#[120]⟩, .string ⟨#[121]⟩, .int .i64 1, .bool false] 46)) W2.heap.size #[.int .i64 2, .int .i64 100, .string ⟨#[120]⟩, .string ⟨#[121]⟩, .int .i64 1, .bool false] := Blk.new W2 46 #[.int .i64 2, .int .i64 100, .string ⟨#[120]⟩, .string ⟨#[121]⟩, .int .i64 1, .bool false]
        have hb' := hb.alloc hb.size (.cells #[.int .i64 2, .int .i64 100, .string ⟨#[120]⟩, .string ⟨#[121]⟩, .int .i64 1, .bool false] 46)
        have hS := hS.alloc (.cells #[.int .i64 2, .int .i64 100, .string ⟨#[120]⟩, .string ⟨#[121]⟩, .int .i64 1, .bool false] 46)
        obtain ⟨g2, hg2⟩ : ∃ g2, W2.heap.size = g2 := ⟨_, rfl⟩
        rw [hg2] at k2 ⊢
        clear hg2 hb
        generalize W2.alloc _ = W3 at k2 hb' hS  ⊢
        have hb := hb'
        clear hb'
        refine take_op 6 19 (.agg #[.int .i64 2, .slice (some ⟨g2, 0, none⟩) 1 1]) rfl rfl (by kernel_rfl) (fun _ _ _ h => h) (by rfl) hS (fun w' hS' => ?hv7) ?hh7
        case hv7 => (go_simp; try with_reducible rfl)
        simp only [Act.put, List.setIfInBounds_toArray, List.set_cons_zero, List.set_cons_succ]
        refine only_op 2 rfl (by kernel_rfl) (by rfl) (wp_made 15 (.slice (some ⟨W3.heap.size, 0, none⟩) 2 2) rfl (w' := W3.alloc (.cells #[.int .i64 0, .int .i64 0, .string ⟨#[107]⟩, .string ⟨#[97]⟩, .int .i64 1, .bool false, .int .i64 1, .int .i64 100, .string ⟨#[107]⟩, .string ⟨#[]⟩, .int .i64 1, .bool true] 46)) (by go_simp; try rfl) ⟨hS.alloc _, ?_⟩)
        simp only [Act.put, List.setIfInBounds_toArray, List.set_cons_zero, List.set_cons_succ]
        have k1 : Blk (W3.alloc (.cells #[.int .i64 0, .int .i64 0, .string ⟨#[107]⟩, .string ⟨#[97]⟩, .int .i64 1, .bool false, .int .i64 1, .int .i64 100, .string ⟨#[107]⟩, .string ⟨#[]⟩, .int .i64 1, .bool true] 46)) W3.heap.size #[.int .i64 0, .int .i64 0, .string ⟨#[107]⟩, .string ⟨#[97]⟩, .int .i64 1, .bool false, .int .i64 1, .int .i64 100, .string ⟨#[107]⟩, .string ⟨#[]⟩, .int .i64 1, .bool true] := Blk.new W3 46 #[.int .i64 0, .int .i64 0, .string ⟨#[107]⟩, .string ⟨#[97]⟩, .int .i64 1, .bool false, .int .i64 1, .int .i64 100, .string ⟨#[107]⟩, .string ⟨#[]⟩, .int .i64 1, .bool true]
        have hb' := hb.alloc hb.size (.cells #[.int .i64 0, .int .i64 0, .string ⟨#[107]⟩, .string ⟨#[97]⟩, .int .i64 1, .bool false, .int .i64 1, .int .i64 100, .string ⟨#[107]⟩, .string ⟨#[]⟩, .int .i64 1, .bool true] 46)
        have hS := hS.alloc (.cells #[.int .i64 0, .int .i64 0, .string ⟨#[107]⟩, .string ⟨#[97]⟩, .int .i64 1, .bool false, .int .i64 1, .int .i64 100, .string ⟨#[107]⟩, .string ⟨#[]⟩, .int .i64 1, .bool true] 46)
        have k2 := k2.alloc (.cells #[.int .i64 0, .int .i64 0, .string ⟨#[107]⟩, .string ⟨#[97]⟩, .int .i64 1, .bool false, .int .i64 1, .int .i64 100, .string ⟨#[107]⟩, .string ⟨#[]⟩, .int .i64 1, .bool true] 46)
        obtain ⟨g1, hg1⟩ : ∃ g1, W3.heap.size = g1 := ⟨_, rfl⟩
        rw [hg1] at k1 ⊢
        clear hg1 hb
        generalize W3.alloc _ = W4 at k1 hb' hS k2 ⊢
        have hb := hb'
        clear hb'
        refine take_op 3 16 (.agg #[.int .i64 0, .slice (some ⟨g1, 0, none⟩) 2 2]) rfl rfl (by kernel_rfl) (fun _ _ _ h => h) (by rfl) hS (fun w' hS' => ?hv8) ?hh8
        case hv8 => (go_simp; try with_reducible rfl)
        simp only [Act.put, List.setIfInBounds_toArray, List.set_cons_zero, List.set_cons_succ]
        refine only_op 7 rfl (by kernel_rfl) (by rfl) (wp_made 20 (.slice (some ⟨W4.heap.size, 0, none⟩) 2 2) rfl (w' := W4.alloc (.cells #[.int .i64 0, .slice (some ⟨g1, 0, none⟩) 2 2, .int .i64 2, .slice (some ⟨g2, 0, none⟩) 1 1] 49)) (by go_simp; try rfl) ⟨hS.alloc _, ?_⟩)
        simp only [Act.put, List.setIfInBounds_toArray, List.set_cons_zero, List.set_cons_succ]
        have k3 : Blk (W4.alloc (.cells #[.int .i64 0, .slice (some ⟨g1, 0, none⟩) 2 2, .int .i64 2, .slice (some ⟨g2, 0, none⟩) 1 1] 49)) W4.heap.size #[.int .i64 0, .slice (some ⟨g1, 0, none⟩) 2 2, .int .i64 2, .slice (some ⟨g2, 0, none⟩) 1 1] := Blk.new W4 49 #[.int .i64 0, .slice (some ⟨g1, 0, none⟩) 2 2, .int .i64 2, .slice (some ⟨g2, 0, none⟩) 1 1]
        have hb' := hb.alloc hb.size (.cells #[.int .i64 0, .slice (some ⟨g1, 0, none⟩) 2 2, .int .i64 2, .slice (some ⟨g2, 0, none⟩) 1 1] 49)
        have hS := hS.alloc (.cells #[.int .i64 0, .slice (some ⟨g1, 0, none⟩) 2 2, .int .i64 2, .slice (some ⟨g2, 0, none⟩) 1 1] 49)
        have k1 := k1.alloc (.cells #[.int .i64 0, .slice (some ⟨g1, 0, none⟩) 2 2, .int .i64 2, .slice (some ⟨g2, 0, none⟩) 1 1] 49)
        have k2 := k2.alloc (.cells #[.int .i64 0, .slice (some ⟨g1, 0, none⟩) 2 2, .int .i64 2, .slice (some ⟨g2, 0, none⟩) 1 1] 49)
        obtain ⟨g3, hg3⟩ : ∃ g3, W4.heap.size = g3 := ⟨_, rfl⟩
        rw [hg3] at k3 ⊢
        clear hg3 hb
        generalize W4.alloc _ = Wz at k3 hb' hS k1 k2 ⊢
        have hb := hb'
        clear hb'
        refine take_op 8 4 (.slice (some ⟨g3, 0, none⟩) 2 2) rfl rfl (by kernel_rfl) (fun _ _ _ h => h) (by rfl) hS (fun w' hS' => ?hv9) ?hh9
        case hv9 => (go_simp; try with_reducible rfl)
        simp only [Act.put, List.setIfInBounds_toArray, List.set_cons_zero, List.set_cons_succ]
        refine wpAnyH_done (by kernel_rfl) ?_ _
        have ha := gr_at k1 k2 k3
        clear k1 k2 k3 hS
        go_wp2_with fail
        go_meet
        exact ⟨g3, rfl, ha, hb⟩
  case rest =>
    obtain ⟨g, rfl, hat, hb2⟩ := hcut
    obtain ⟨V, hV⟩ : ∃ V, V = wc := ⟨_, rfl⟩
    rw [← hV] at hat hb2 ⊢
    clear hV
    have HAT := Lib.hid hat
    have BV := Lib.hid hb2
    clear hat hb2 HRA HRX B1
    go_wp2_with fail
    go_loopw [5] (fun i wr => ∃ t : Nat, 95 ≤ t ∧ t ≤ 125 ∧ i = .int .i64 (t : Int) ∧ Below V.heap.size V wr) (fun i _ => 125 - (RowKit.intOf i).toNat)
    case atStart => exact ⟨95, by omega, by omega, rfl, Below.refl _ _⟩
    case round =>
      obtain ⟨t, ht0, ht1, rfl, hbl⟩ := hrel
      have HB := Lib.hid hbl
      clear hbl
      by_cases hlt : t < 125
      · have e1 : (t : Int) < 125 := by omega
        by_cases h110 : 110 < t
        · have HFO := Lib.hid (fun W (hb : Below V.heap.size V W) => Fold_is grl [⟨2, [grX]⟩] grr (t : Int) 2 1 (some ⟨g, 0, none⟩) 2 V.heap.size 0 W rfl (by omega) (Nat.le_refl _) hb.size (HAT.out.below hb) rfl (gr_gone (by omega) (by omega)))
          have HLA := Lib.hid (fun W A1 c1 (hcap : 1 ≤ c1) (h : SegsAt W W.heap.size A1 [⟨2, [grX]⟩]) => Lasts_is [⟨2, [grX]⟩] [grX] 1 1 A1 c1 W.heap.size 0 W rfl (by omega) hcap (Nat.le_refl _) h rfl gr_last2)
          unfold ruagg grr at HFO
          dsimp only at HFO
          have e2 : (110 : Int) < (t : Int) := by omega
          go_wp2_with fail
          refine (HFO.out wr HB.out).mono ?_
          rintro e w3 ⟨A1, c1, xs, rfl, ho, hb3⟩
          have hcap := row_cap (show w3.ownsRow _ 49 2 (.slice A1 1 c1) 1 (xflat xs) from ho.row)
          have HSA := Lib.hid (SegsAt.of_own ho)
          have B3 := Lib.hid (bel_step HB.out hb3)
          have HL2 := Lib.hid (HLA.out w3 A1 c1 hcap HSA.out)
          clear ho hb3 hcap HFO HLA
          go_wp2_with fail
          refine HL2.out.mono ?_
          rintro e w4 ⟨A2, c2, rfl, ho4, hb4⟩
          have hrx : RecsAt w4 w4.heap.size A2 [grX] := RecsAt.of_own ho4
          have B4 := Lib.hid (bel_step B3.out hb4)
          have hsx := HSA.out.below hb4
          clear ho4 hb4 HSA HL2 B3
          obtain ⟨b2, o2, rfl, _, hr⟩ := hrx.some_ (by decide)
          have x2 : w4.cell? ⟨b2, o2 + 2, none⟩ = some (.string ⟨#[120]⟩) := (hr 0 (by decide)).c2
          clear hr hrx
          clear hsx
          go_wp2_with (go_at_call 12; refine (fnum_is _ _).mono ?_; rintro e w' ⟨rfl, rfl⟩)
          go_roundw
          case rel => exact ⟨t + 1, by omega, by omega, by go_num, B4.out⟩
          case measure => simp [RowKit.intOf]; omega
        · have HFO := Lib.hid (fun W (hb : Below V.heap.size V W) => Fold_is grl [⟨0, [grD]⟩, ⟨2, [grX]⟩] grr (t : Int) 2 2 (some ⟨g, 0, none⟩) 2 V.heap.size 0 W rfl (by omega) (Nat.le_refl _) hb.size (HAT.out.below hb) rfl (gr_stay (by omega) (by omega)))
          have HLA := Lib.hid (fun W A1 c1 (hcap : 2 ≤ c1) (h : SegsAt W W.heap.size A1 [⟨0, [grD]⟩, ⟨2, [grX]⟩]) => Lasts_is [⟨0, [grD]⟩, ⟨2, [grX]⟩] [grX] 2 1 A1 c1 W.heap.size 0 W rfl (by omega) hcap (Nat.le_refl _) h rfl gr_last1)
          unfold ruagg grr at HFO
          dsimp only at HFO
          have e2 : ¬ (110 : Int) < (t : Int) := by omega
          go_wp2_with fail
          refine (HFO.out wr HB.out).mono ?_
          rintro e w3 ⟨A1, c1, xs, rfl, ho, hb3⟩
          have hcap := row_cap (show w3.ownsRow _ 49 2 (.slice A1 2 c1) 2 (xflat xs) from ho.row)
          have HSA := Lib.hid (SegsAt.of_own ho)
          have B3 := Lib.hid (bel_step HB.out hb3)
          have HL2 := Lib.hid (HLA.out w3 A1 c1 hcap HSA.out)
          clear ho hb3 hcap HFO HLA
          go_wp2_with fail
          refine HL2.out.mono ?_
          rintro e w4 ⟨A2, c2, rfl, ho4, hb4⟩
          have hrx : RecsAt w4 w4.heap.size A2 [grX] := RecsAt.of_own ho4
          have B4 := Lib.hid (bel_step B3.out hb4)
          have hsx := HSA.out.below hb4
          clear ho4 hb4 HSA HL2 B3
          obtain ⟨b2, o2, rfl, _, hr⟩ := hrx.some_ (by decide)
          have x2 : w4.cell? ⟨b2, o2 + 2, none⟩ = some (.string ⟨#[120]⟩) := (hr 0 (by decide)).c2
          clear hr hrx
          obtain ⟨b3, o3, rfl, _, hc3⟩ := hsx.some_ (by decide)
          obtain ⟨A4, c4, hsg⟩ := hc3 0 (by decide)
          obtain ⟨_, s1, hA4, _, _⟩ := hsg
          obtain ⟨b4, o4, rfl, _, hr4⟩ := hA4.some_ (by decide)
          have y1 : w4.cell? ⟨b3, o3 + 1, none⟩ = some (.slice (some ⟨b4, o4, none⟩) 1 c4) := s1
          have y5 : w4.cell? ⟨b4, o4 + 5, none⟩ = some (.bool true) := (hr4 0 (by decide)).c5
          clear hc3 s1 hA4 hr4
          clear hsx
          go_wp2_with (go_at_call 12; refine (fnum_is _ _).mono ?_; rintro e w' ⟨rfl, rfl⟩)
          go_roundw
          case rel => exact ⟨t + 1, by omega, by omega, by go_num, B4.out⟩
          case measure => simp [RowKit.intOf]; omega
      · have e1 : ¬ (t : Int) < 125 := by omega
        have BE := Lib.hid (bel_step BV.out HB.out)
        have e3 : (0 : Int) ≤ (n : Int) := by omega
        clear HAT HB BV
        go_wp2_with (go_at_call 19; refine (fwakes_any _).mono ?_; rintro e w9 ⟨rfl, hb9⟩)
        go_ret
        exact ⟨rfl, bel_step BE.out hb9⟩
end Go.Proofs.Ythdefnfpjbpbkaa.Kpd
/- For every list of asks: a tombstone stays so long, and is gone then; what it buried does not come back. No condition. -/
namespace Go.Proofs.Ythdefnfpjbpbkaa.foldGraves
open Go.ChangeShapes Go.WideShapes Go.ChangeAt Go.RowKit Kpd

set_option maxRecDepth 100000 in
theorem lifted (os : Os) (started : os.Started) (H : Type) (enc : TypeId × Value → H) :
    ReturnsInHanded {} Try.checked os 5 .any (Rows.foldGravesSpec.pre6 enc Try.prog Try.f5 Rows.foldGravesRow.domain false) (Rows.foldGravesSpec.post enc Try.prog Try.f5 false true false false) := by
  refine returnsInHanded_of_change_sized (C := Try.checked) ownKnob_none started (by kernel_rfl) Try.func5
    (ChangeSpec.witness6 (enc := enc) (C := Try.checked) false ⟨#[], #[.slice none 0 0], []⟩ 8 (by kernel_rfl) (by kernel_rfl) (by kernel_rfl) (by kernel_rfl)) ?_
  intro W base args ds gs before hval0 hW _ hsz0 _
  have hval : ∀ (j : Nat) t v, Try.f5.params[j]? = some t → args[j]? = some v → Value.okWide Try.prog W .any base t v := hval0
  have hW' := hW
  obtain ⟨p, q, hA0, hV, rfl, _, _⟩ := hW
  have hA : DataW.TrodAll enc Try.prog W 0 (fun _ => true) true Try.f5.params.toList args.toList ds p := hA0
  rw [Try.params5] at hA hval
  obtain ⟨v0, d0, rfl, rfl, h0⟩ := trodAll_one hA
  obtain ⟨rfl, rfl⟩ := trodVars_none hV
  obtain ⟨a0, n0, c0, rfl⟩ := okWide_slice Try.underlying22 (hval 0 22 v0 rfl rfl)
  have lt0 : ∀ x ∈ p, x.block < W.heap.size := by obtain ⟨m, hm⟩ := h0; exact DataW.trod_lt m _ _ _ hm
  have near : Near 22 d0 := fun n hn => by
    have := List.all_eq_true.1 hsz0 n (DataW.weights_mem_each (j := 0) (t := 22) (d := d0) (by rw [Try.params5]; rfl) rfl n hn)
    simpa using this
  have hn0 : n0 ≤ 9223372036854775807 := by
    obtain ⟨fuel, hf⟩ := h0
    have := (near_len (k := 72) (y := (d0, p)) Try.underlying22 (by kernel_rfl) near hf).1
    omega
  clear hA0 hval0
  refine (FoldGraves_any a0 n0 c0 W hn0).mono fun e W' ⟨he, bel⟩ => ?_
  subst he
  exact ⟨_, rfl, _, _, _, [], _, [], hW', trodAll_mk1 (shut_bool Try.underlying4 _), trodAll_mk1 (Below.trod laidOut_true (by kernel_rfl) (of_decide_eq_true (by kernel_rfl)) h0 bel lt0), rfl, bel.frame _, fun h => by cases h⟩

theorem over : Rows.foldGravesRow.holds Try.pinned (OpenSpec.ofChange Rows.foldGravesSpec) :=
  OpenClaim.holds_of_wide 5 Try.f5 rfl rfl rfl rfl rfl rfl rfl ⟨rfl, rfl, rfl, rfl, rfl⟩ rfl rfl rfl rfl rfl (by kernel_rfl) Try.func5 (by kernel_rfl)
    (of_decide_eq_true (by kernel_rfl)) (by unfold Func.isWrapper; rw [if_neg (of_decide_eq_false (by kernel_rfl))]; exact ⟨rfl, rfl⟩)
    (fun os started H enc _ => lifted os started H enc)

theorem proved : Rows.FoldGravesSaid := over
#print axioms proved
end Go.Proofs.Ythdefnfpjbpbkaa.foldGraves
