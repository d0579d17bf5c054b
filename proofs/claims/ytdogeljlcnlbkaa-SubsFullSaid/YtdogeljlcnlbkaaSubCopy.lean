/- Package subs: a copy of a subscription. -/
import Derived.Test.YtdogeljlcnlbkaaSubLeaf
import Derived.Test.YtdogeljlcnlbkaaSubWhole
namespace Go.Proofs.Ytdogeljlcnlbkaa.Sbs
open Go.RowKit Go.Lib Txt Nam

set_option maxRecDepth 100000 in
set_option maxHeartbeats 1000000 in
theorem CloneNone_is (w : World) : Calls Try.prog 28 #[.slice none 0 0] w fun e w' => e = .returned (.slice none 0 0) ∧ w = w' := by
  have q : ∀ w, (binOp .eql 31 (.slice none 0 0) (.slice none 0 0)).run Try.prog w = .ok (.bool true) w := fun w => by kernel_rfl
  go_enter Try.func28, Try.ntmps28
  go_wp2
  go_ret
  exact ⟨rfl, rfl⟩

/-- Two blocks of the call's own: what is copied, what is told. -/
@[irreducible] def Duo (w : World) (g h : Nat) (cs ds : Array Value) (W : World) : Prop := Blk W g cs ∧ Blk W h ds ∧ Below w.heap.size w W ∧ w.heap.size ≤ g ∧ g < h
section
variable {w W W' : World} {g h : Nat} {cs ds : Array Value}
theorem Duo.mk (k : Blk W g cs ∧ Blk W h ds ∧ Below w.heap.size w W ∧ w.heap.size ≤ g ∧ g < h) : Duo w g h cs ds W := by unfold Duo; exact k
theorem Duo.out (k : Duo w g h cs ds W) : Blk W g cs ∧ Blk W h ds ∧ Below w.heap.size w W ∧ w.heap.size ≤ g ∧ g < h := by unfold Duo at k; exact k
theorem Duo.below (k : Duo w g h cs ds W) (hb : Below W.heap.size W W') : Duo w g h cs ds W' := by
  obtain ⟨h1, h2, h3, h4, h5⟩ := k.out
  exact .mk ⟨h1.below hb, h2.below hb, h3.trans (hb.mono h3.size), h4, h5⟩
theorem Duo.put (k : Duo w g h cs ds W) (i : Nat) (v : Value) (hs : cs.setIfInBounds i v = cs) : Duo w g h cs ds (W.setCell ⟨g, i, none⟩ v) := by
  obtain ⟨h1, h2, h3, h4, h5⟩ := k.out
  have hp := h1.put i v
  rw [hs] at hp
  exact .mk ⟨hp, h2.far (p := ⟨g, i, none⟩) (by show h ≠ g; omega) v, h3.setCell h4 v, h4, h5⟩
end
theorem duo_new (w : World) (s : Sb) : Duo w w.heap.size (w.heap.size + 1) (scells s).toArray zcells ((w.alloc (.cells (scells s).toArray 33)).alloc (.cells zcells 33)) := by
  have h1 := (Below.refl w.heap.size w).alloc (Nat.le_refl _) (.cells (scells s).toArray 33)
  refine .mk ⟨(Blk.new w _ _).alloc _, ?_, h1.alloc (by simp) _, Nat.le_refl _, Nat.lt_succ_self _⟩
  have := Blk.new (w.alloc (.cells (scells s).toArray 33)) 33 zcells
  simpa using this

set_option maxRecDepth 100000 in
set_option maxHeartbeats 4000000 in
/-- subs.copyOf. -/
theorem copyOf_is (s : Sb) (w : World) (hl : s.t.length ≤ 1000000) :
    Calls Try.prog 15 #[sagg s] w fun e w' => e = .returned (sagg s) ∧ Below w.heap.size w w' := by
  obtain ⟨t, q⟩ := s
  have D0 := Lib.hid (duo_new w ⟨t, q⟩)
  have HC := Lib.hid (fun W => Clone_same (str t) W (by rw [str_size]; exact Nat.le_trans hl (by omega)))
  have HE := Lib.hid (fun W => Clone_same ⟨#[]⟩ W (by decide))
  have HN := Lib.hid (fun W => CloneNone_is W)
  unfold scells zcells at D0
  unfold sagg
  dsimp only at D0 ⊢
  clear hl
  generalize str t = s at D0 HC ⊢
  go_enter Try.func15, Try.ntmps15
  go_upto_region 1 with fail
  obtain ⟨g, hg⟩ : ∃ g, w.heap.size = g := ⟨_, rfl⟩
  rw [hg] at D0 ⊢
  clear hg
  generalize World.alloc _ _ = W0 at D0 ⊢
  have d0 := D0.out.out.1.cell 0
  go_wp2_with fail
  refine (HC.out _).mono ?_
  rintro e w1 ⟨rfl, hb1⟩
  have D1 := Lib.hid (D0.out.below hb1)
  have D2 := Lib.hid (D1.out.put 0 (.string s) rfl)
  clear d0 D0 hb1 HC
  have c0 := D1.out.out.1.cell 0
  have f0 := D1.out.out.1.frozen 0
  go_upto_region 2 with fail
  clear D1 c0 f0
  generalize w1.setCell _ _ = W2 at D2 ⊢
  have d5 := D2.out.out.1.cell 5
  go_wp2_with fail
  refine (HE.out _).mono ?_
  rintro e w3 ⟨rfl, hb3⟩
  have D3 := Lib.hid (D2.out.below hb3)
  have D4 := Lib.hid (D3.out.put 5 (.string ⟨#[]⟩) rfl)
  clear d5 D2 hb3 HE
  have c5 := D3.out.out.1.cell 5
  have f5 := D3.out.out.1.frozen 5
  go_upto_region 3 with fail
  clear D3 c5 f5
  generalize w3.setCell _ _ = W4 at D4 ⊢
  have d8 := D4.out.out.1.cell 8
  have f8 := D4.out.out.1.frozen 8
  have D5 := Lib.hid (D4.out.put 8 (.slice none 0 0) rfl)
  go_wp2_with fail
  refine (HN.out _).mono ?_
  rintro e w4 ⟨rfl, rfl⟩
  go_upto_region 4 with fail
  clear D4 d8 f8 HN
  generalize W4.setCell _ _ = W5 at D5 ⊢
  have d8 := D5.out.out.1.cell 8
  go_wp2_with fail
  go_loopw [22] (fun i wr => i = .int .i64 0 ∧ wr = W5) (fun _ _ => 0)
  case atStart => exact ⟨rfl, rfl⟩
  case round =>
    obtain ⟨rfl, rfl⟩ := hrel
    have hld := load_blk D5.out.out.1 rfl
    have HX := Lib.hid (below_row (ds := (sarr s q)) D5.out.out.2.2.1 (show w.heap.size ≤ g + 1 from Nat.le_trans D5.out.out.2.2.2.1 (Nat.le_succ _)))
    have HB := Lib.hid D5.out.out.2.1
    have HR := Lib.hid (HB.out.row (sarr s q))
    clear d8 D5
    go_wp2_with (first | (refine wpList_load_any (by rfl) 33 (.tmp 1) rfl g 0 rfl _ hld ?_; simp only [Act.put]) | (refine wpList_store_whole rfl 33 (.tmp 2) (.tmp 36) rfl (g + 1) (sarr s q) rfl rfl _ HB.out info_sub rfl (one_arr s q) ?_; simp only [Act.put]))
    refine bodyPost_ret (v := Value.agg (sarr s q)) (results_sub Try.results15 rfl HR.out rfl) rfl ⟨rfl, HX.out⟩
end Go.Proofs.Ytdogeljlcnlbkaa.Sbs
