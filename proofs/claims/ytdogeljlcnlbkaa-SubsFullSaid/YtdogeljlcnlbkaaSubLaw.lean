/- What the eighth layer's statement is made of: a subscription, an error's number, what is asked last. -/
import Derived.Test.YtdogeljlcnlbkaaSubPlain
import Derived.Test.YtdogeljlcnlbkaaNameRShare
namespace Go.Proofs.Ytdogeljlcnlbkaa.Sbs
open Go.RowKit Go.Lib Txt Nam

set_option maxHeartbeats 1000000 in
theorem num_is (n : Int) (w : World) : Calls Try.prog 6 #[.int .i64 n] w fun e w' => e = .returned (.int .i64 n) ∧ w = w' := by
  go_enter Try.func6, Try.ntmps6
  go_wp2
  go_ret
  exact ⟨rfl, rfl⟩

set_option maxRecDepth 100000 in
set_option maxHeartbeats 2000000 in
/-- fairwaylaw8.S. -/
theorem S_is (s : Sb) (w : World) (hs : Fine s) :
    Calls Try.prog 5 #[.string (str s.t), .int .i64 s.q] w fun e w' => e = .returned (sagg s) ∧ Below w.heap.size w w' := by
  obtain ⟨t, q⟩ := s
  have HS := Lib.hid (fun W => show Calls Try.prog 17 #[.string (str t)] W fun e w' => e = .returned (.tuple #[.bool false, .string ⟨#[]⟩, .string (str t), .int .i64 0]) ∧ Below W.heap.size W w' from RShare_is (str t) ⟨false, [], t, 0⟩ W (by rw [str_size]; exact hs.len) (by rw [str_data]; exact hs.sh))
  have hb1 := (Below.refl w.heap.size w).alloc (Nat.le_refl _) (.cells zcells 33)
  have HB := Lib.hid (Blk.new w 33 zcells)
  have HX := Lib.hid hb1
  clear hb1 hs
  obtain ⟨W0, hW⟩ : ∃ W0, w.alloc (.cells zcells 33) = W0 := ⟨_, rfl⟩
  rw [hW] at HB HX
  unfold zcells at hW
  have HW := Lib.hid hW
  clear hW
  unfold sagg
  dsimp only
  generalize str t = st at HS ⊢
  go_enter Try.func5, Try.ntmps5
  go_upto_region 1 with fail
  rw [HW.out]
  obtain ⟨g, hg⟩ : ∃ g, w.heap.size = g := ⟨_, rfl⟩
  have HG := Lib.hid hg
  rw [hg] at HB ⊢
  clear hg HW
  go_wp2_with fail
  refine (HS.out _).mono ?_
  rintro e w1 ⟨rfl, hb1⟩
  have HX1 := Lib.hid (HX.out.trans (hb1.mono HX.out.size))
  have HB1 := Lib.hid (HB.out.below hb1)
  clear hb1 HX HB HS
  have HR := Lib.hid (HB1.out.row (sarr st q))
  have HX3 := Lib.hid (below_row (g := g) (ds := sarr st q) HX1.out (by have := HG.out; omega))
  go_wp2_with (refine wpList_store_whole rfl 33 (.tmp 4) (.tmp 20) rfl g (sarr st q) rfl rfl _ HB1.out info_sub rfl (one_arr st q) ?_; simp only [Act.put])
  refine bodyPost_ret (v := .agg (sarr st q)) (results_sub Try.results5 rfl HR.out rfl) rfl ⟨rfl, HX3.out⟩

def wk : Sb := ⟨[97, 47, 43], 1⟩
set_option maxRecDepth 100000 in
set_option maxHeartbeats 2000000 in
/-- What is asked last. -/
theorem wakes_is (w : World) : Calls Try.prog 10 #[] w fun e w' => e = .returned (.bool true) ∧ Below w.heap.size w w' := by
  have hf : Fine wk := fine_of (by decide +kernel)
  have HS := Lib.hid (fun W => show Calls Try.prog 5 #[.string ⟨#[97, 47, 43]⟩, .int .i64 1] W fun e w' => e = .returned (sagg wk) ∧ Below W.heap.size W w' from S_is wk W hf)
  have HP := Lib.hid (fun W => show Calls Try.prog 4 #[.slice none 0 0, sagg wk] W (GivesPut [wk] false W) from Put_new [] wk none 0 W .none_ (may_of (by decide +kernel)) hf (place_of (by decide +kernel)) (by decide))
  have HA := Lib.hid (fun A c W (h : SubsAt W W.heap.size A [wk]) => show Calls Try.prog 19 #[.slice A 1 c, .string ⟨#[97, 47, 98]⟩] W (GivesList [wk] W) from All_is [wk] A c [97, 47, 98] [wk] W h (may_of (by decide +kernel)) (by decide) (by decide +kernel) (by decide +kernel))
  clear hf
  generalize sagg wk = sg at HS HP
  go_enter Try.func10, Try.ntmps10
  go_wp2_with fail
  refine (HS.out _).mono ?_
  rintro e w1 ⟨rfl, hb1⟩
  have HX1 := Lib.hid hb1
  clear hb1 HS
  go_wp2_with fail
  refine (HP.out _).mono ?_
  rintro e w2 ⟨A2, c2, rfl, hown, hb2⟩
  have HX2 := Lib.hid (HX1.out.trans (hb2.mono HX1.out.size))
  have HS2 := Lib.hid (SubsAt.of_own hown)
  clear hb2 hown HX1 HP
  go_wp2_with fail
  refine (HA.out _ _ _ HS2.out).mono ?_
  rintro e w3 ⟨A3, c3, rfl, _, hb3⟩
  have HX3 := Lib.hid (HX2.out.trans (hb3.mono HX2.out.size))
  clear hb3 HX2 HA
  go_wp2_with (go_at_call 6; refine (num_is _ _).mono ?_; rintro e w' ⟨rfl, rfl⟩)
  go_ret
  exact ⟨rfl, HX3.out⟩
end Go.Proofs.Ytdogeljlcnlbkaa.Sbs
