/- The sixth layer's statements: one packet, in two parts. -/
import Derived.Test.YtiancngpknnkaaaFrameEq
import Derived.Test.YtiancngpknnkaaaF16
namespace Go.Proofs.Ytiancngpknnkaaa
open Go.RowKit Go.Lib Prp Pkt Vbi

theorem fpack_12 : packB (zp 12) = true ∧ strP (zp 12) = ⟨#[192, 0]⟩ := by
  have e : strP (zp 12) = ⟨#[192, 0]⟩ := by
    show (strOfNums [16 * 12 + 0] ++ strOfNums (numZ 0)) ++ ⟨#[]⟩ = _
    rw [numZ_last (by omega)]
    rfl
  refine ⟨?_, e⟩
  unfold packB
  rw [e]
  rfl
theorem ftake_12 : takeS ⟨#[192, 0]⟩ = (zp 12, 2, 0) := by
  have := take_back ⟨#[]⟩ fpack_12.1
  rw [add_empty, fpack_12.2] at this
  exact this
theorem feed_192 : feedS 100 ⟨#[192]⟩ = ([], ⟨#[192]⟩, 0) := by
  refine feedS_wait ?_
  have h : lenS ⟨#[192]⟩ = (0, 7) := by
    unfold lenS
    rw [if_neg (by decide)]
    rfl
  unfold stepS
  rw [h]
  rfl
theorem feed_1920 : feedS 100 ⟨#[192, 0]⟩ = ([zp 12], ⟨#[]⟩, 0) := by
  have h : lenS ⟨#[192, 0]⟩ = (2, 0) := by
    unfold lenS
    rw [if_neg (by decide)]
    rfl
  have hs : stepS 100 ⟨#[192, 0]⟩ = .one (zp 12) 2 := by
    unfold stepS
    rw [h]
    show (if (takeS (ByteArray.extract ⟨#[192, 0]⟩ 0 2)).2.2 = 0 then Step.one (takeS (ByteArray.extract ⟨#[192, 0]⟩ 0 2)).1 2 else Step.dead (takeS (ByteArray.extract ⟨#[192, 0]⟩ 0 2)).2.2) = _
    have e : ByteArray.extract ⟨#[192, 0]⟩ 0 2 = ⟨#[192, 0]⟩ := by rfl
    rw [e, ftake_12]
    rfl
  rw [feedS_one hs]
  have e : ByteArray.extract ⟨#[192, 0]⟩ 2 (ByteArray.size ⟨#[192, 0]⟩) = ⟨#[]⟩ := by rfl
  rw [e, feedS_wait (step_nil rfl)]
theorem may_new {max : Int} (h : 2 ≤ max ∧ max ≤ 8192) : mayF ⟨#[]⟩ max false = true := by
  unfold mayF
  rw [decide_eq_true h]
  show decide ((sizeS max ⟨#[]⟩).2 = 7) = true
  refine decide_eq_true ?_
  unfold sizeS
  rw [lenS_zero rfl]
  rfl
/-- A framer that waits may be. -/
theorem may_wait {max : Int} {r : ByteArray} (h : 2 ≤ max ∧ max ≤ 8192) (hw : stepS max r = .wait) : mayF r max false = true := by
  unfold mayF
  rw [decide_eq_true h]
  exact decide_eq_true (size_wait.2 hw)
theorem may_dead {max : Int} (h : 2 ≤ max ∧ max ≤ 8192) : mayF ⟨#[]⟩ max true = true := by
  unfold mayF
  rw [decide_eq_true h]
  rfl
/-- What Feed tells of what comes to a framer that lives. -/
theorem Feed_tells {rest : ByteArray} {max : Int} {s : ByteArray} {L : List Pk} {x : ByteArray} {e : Int} (h : 2 ≤ max ∧ max ≤ 8192) (hw : stepS max rest = .wait) (hR : feedS max (rest ++ s) = (L, x, e)) (hs : rest.size + s.size ≤ 268435456) (w : World) :
    Calls Try.prog 9 #[.agg (frArr rest max false), .string s] w fun r w' => ∃ A c, r = .returned (.tuple #[.agg (frArr x max (decide (e ≠ 0))), .slice A L.length c, .int .i64 e]) ∧ OwnPks w' w.heap.size (.slice A L.length c) L ∧ Below w.heap.size w w' :=
  Feed_live rest max s L x e _ w hs (may_wait h hw) hR rfl
theorem New_yes {n : Int} (h : 2 ≤ n ∧ n ≤ 8192) (w : World) : Calls Try.prog 7 #[.int .i64 n] w fun e w' => e = .returned (.tuple #[.agg (frArr ⟨#[]⟩ n false), .int .i64 0]) ∧ Below w.heap.size w w' :=
  New_is n true w (decide_eq_true h)
theorem New_no {n : Int} (h : ¬ (2 ≤ n ∧ n ≤ 8192)) (w : World) : Calls Try.prog 7 #[.int .i64 n] w fun e w' => e = .returned (.tuple #[.agg (frArr ⟨#[]⟩ 0 false), .int .i64 1]) ∧ Below w.heap.size w w' :=
  New_is n false w (decide_eq_false h)
set_option maxRecDepth 100000 in
set_option maxHeartbeats 16000000 in
theorem wakes6 (w : World) : Calls Try.prog 11 #[] w fun e w' => e = .returned (.bool true) ∧ Below w.heap.size w w' := by
  have hm : (2 : Int) ≤ 100 ∧ (100 : Int) ≤ 8192 := by decide
  have hw0 : stepS 100 ⟨#[]⟩ = .wait := step_nil rfl
  have hw1 : stepS 100 ⟨#[192]⟩ = .wait := by
    have := (feed_rest 100 ⟨#[192]⟩).1
    rw [feed_192] at this
    exact this rfl
  have HN := Lib.hid (fun W => New_yes hm W)
  have HF1 := Lib.hid (fun W => Feed_tells (rest := ⟨#[]⟩) (max := 100) (s := ⟨#[192]⟩) (L := []) (x := ⟨#[192]⟩) (e := 0) hm hw0 (by rw [Pkt.empty_add]; exact feed_192) (by decide) W)
  have HF2 := Lib.hid (fun W => Feed_tells (rest := ⟨#[192]⟩) (max := 100) (s := ⟨#[0]⟩) (L := [zp 12]) (x := ⟨#[]⟩) (e := 0) hm hw1 (show feedS 100 ⟨#[192, 0]⟩ = _ from feed_1920) (by decide) W)
  clear hm hw0 hw1
  go_enter Try.func11, Try.ntmps11
  go_wp2_with fail
  refine (HN.out _).mono ?_
  rintro r w1 ⟨rfl, q1⟩
  have HX1 := Lib.hid q1
  have hmb := new_below w1 (frArr ⟨#[]⟩ 0 false) (frArr ⟨#[]⟩ 100 false) 23
  have hmx := new_box w1 (frArr ⟨#[]⟩ 0 false) (frArr ⟨#[]⟩ 100 false) 23
  have hbn := Box.new w1 23 (frArr ⟨#[]⟩ 0 false)
  obtain ⟨W3, hW3⟩ : ∃ W3, w1.alloc (.cells (frArr ⟨#[]⟩ 0 false) 23) = W3 := ⟨_, rfl⟩
  rw [hW3] at hmb hmx hbn
  obtain ⟨g, hg⟩ : ∃ k, w1.heap.size = k := ⟨_, rfl⟩
  have HX3 := Lib.hid (q1.trans (hmb.mono q1.size))
  rw [hg] at HX3
  have HG := Lib.hid hg
  rw [hg] at hmx hbn
  have HMX := Lib.hid hmx
  have HBN := Lib.hid hbn
  unfold frArr at hW3
  have HW3 := Lib.hid hW3
  clear q1 hmb hmx hbn hW3 HN
  go_upto_region 2 with (rw [HW3.out]; refine wpList_store_whole rfl 23 (.tmp 1) (.tmp 9) rfl g (frArr ⟨#[]⟩ 100 false) rfl rfl (frArr ⟨#[]⟩ 0 false) HBN.out info_fr rfl (one_fr _ _ _) ?_; simp only [Act.put])
  clear hg HW3 HBN
  generalize World.setRow _ _ _ = w4 at HX3 HMX ⊢
  have hld := load_fr HMX.out
  go_wp2_with (refine wpList_load_any (by rfl) 23 (.tmp 1) rfl g 0 rfl _ hld ?_)
  refine (HF1.out _).mono ?_
  rintro r w5 ⟨A1, c1, rfl, q1, q2⟩
  have HB5 := Lib.hid (HMX.out.below q2)
  have HX5 := Lib.hid (HX3.out.trans (q2.mono HX3.out.size))
  have hbx5 := HB5.out.row (frArr ⟨#[192]⟩ 100 false)
  have hld5 := load_fr hbx5
  have hrow5 := Bar.row g w5 (frArr ⟨#[192]⟩ 100 false)
  clear q1 q2 hld HMX HX3 HF1
  go_upto_region 3 with (refine wpList_store_whole rfl 23 (.tmp 1) (.tmp 14) rfl g (frArr ⟨#[192]⟩ 100 false) rfl rfl (frArr ⟨#[]⟩ 100 false) HB5.out info_fr rfl (one_fr _ _ _) ?_; simp only [Act.put])
  have HX6 := Lib.hid (show Below w.heap.size w (w5.setRow g (frArr ⟨#[192]⟩ 100 false)) from hrow5.below HX5.out (by have := HG.out; have := HX1.out.size; omega) HX5.out.size)
  have HB6 := Lib.hid hbx5
  clear hbx5 hrow5 HB5 HX5
  generalize World.setRow _ _ _ = w6 at hld5 HX6 HB6 ⊢
  go_wp2_with (refine wpList_load_any (by rfl) 23 (.tmp 1) rfl g 0 rfl _ hld5 ?_)
  refine (HF2.out _).mono ?_
  rintro r w7 ⟨A2, c2, rfl, q1, q2⟩
  have HB7 := Lib.hid (HB6.out.below q2)
  have HX7 := Lib.hid (HX6.out.trans (q2.mono HX6.out.size))
  clear q1 q2 hld5 HB6 HX6 HF2
  go_upto_region 4 with (refine wpList_store_whole rfl 23 (.tmp 1) (.tmp 20) rfl g (frArr ⟨#[]⟩ 100 false) rfl rfl (frArr ⟨#[192]⟩ 100 false) HB7.out info_fr rfl (one_fr _ _ _) ?_; simp only [Act.put])
  have HX8 := Lib.hid (show Below w.heap.size w (w7.setRow g (frArr ⟨#[]⟩ 100 false)) from (Bar.row g w7 _).below HX7.out (by have := HG.out; have := HX1.out.size; omega) HX7.out.size)
  have hbx8 := HB7.out.row (frArr ⟨#[]⟩ 100 false)
  generalize World.setRow _ _ _ = w8 at hbx8 HX8 ⊢
  have c0 : w8.cell? ⟨g, 0, none⟩ = some (.string ⟨#[]⟩) := hbx8.cell 0
  clear hbx8 HB7 HX7
  go_wp2_with (go_at_call 8; refine (num6 _ _).mono ?_; rintro e w' ⟨rfl, rfl⟩)
  go_ret
  exact ⟨rfl, HX8.out⟩
end Go.Proofs.Ytiancngpknnkaaa
