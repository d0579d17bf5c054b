/- The sixth layer's statements: at each end one byte more is not told; behind an error nothing more is told. -/
import Derived.Test.YtiancngpknnkaaaFrameParts
import Derived.Test.YtiancngpknnkaaaFrameEdge
namespace Go.Proofs.Ytiancngpknnkaaa
open Go.RowKit Go.Lib Prp Pkt Vbi

theorem fr_info_byte : (Try.prog.info? 5).map (fun i => (i.zero, i.size, i.bytes)) = some (some (.int .u8 0), 1, 1) := by kernel_rfl
theorem fr_conv {w : World} {g : Nat} {zs : List Int} {c : Nat} (h : ∀ j, j < zs.length → w.cell? ⟨g, j, none⟩ = some (.int .u8 (zs.getD j 0))) : (convert 38 9 (.slice (some ⟨g, 0, none⟩) zs.length c)).run Try.prog w = .ok (.string (strOfNums zs)) w :=
  run_convert_bytes_arg w 38 5 Try.underlying38 Try.underlying5 g 0 zs.length c zs rfl (fun i hi => by rw [Nat.zero_add]; exact h i hi) 9 Try.underlying9
theorem neq_fr (x : ByteArray) (m : Int) (d : Bool) (w : World) : (binOp .neq 23 (.agg (frArr x m d)) (.agg (frArr x m d))).run Try.prog w = .ok (.bool false) w := by
  unfold frArr
  rw [run_neq_struct]
  go_simp
/-- So many noughts in a row, as a string. -/
theorem make_zeros (n : Nat) (hn : n ≤ 100) (w : World) : ∃ w1, (Instr.makeSlice 38 (.int .i64 (n : Int)) (.int .i64 (n : Int))).run Try.prog w = .ok (.slice (some ⟨w.heap.size, 0, none⟩) n n) w1 ∧
    (convert 38 9 (.slice (some ⟨w.heap.size, 0, none⟩) n n)).run Try.prog w1 = .ok (.string (zeros n)) w1 ∧ Below w.heap.size w w1 := by
  obtain ⟨i0, hi, hz0, hz1, hz2⟩ := info_parts fr_info_byte
  obtain ⟨w1, hr, ho, hg⟩ := run_makeSlice_full (P := Try.prog) w w.heap.size 38 5 i0 (.int .u8 0) 1 Try.underlying38 hi hz0 hz1 .i64 .i64 n (by omega) (by rw [hz2]; omega) (by unfold maxLen; omega) (Nat.le_refl _)
  refine ⟨w1, hr, ?_, ⟨hg.os, hg.tape, hg.output, hg.size, fun k hk => hg.block k hk (fun e => by cases e)⟩⟩
  have key := ho.cells (g := w.heap.size) rfl
  have hc := fr_conv (w := w1) (g := w.heap.size) (zs := List.replicate n 0) (c := n) (fun j hj => by
    rw [List.length_replicate] at hj
    have := key j (.int .u8 0) (by rw [show (Value.int .u8 0).cells = #[.int .u8 0] from rfl, toList_madeCells_one, List.getElem?_replicate, if_pos (by omega)])
    rw [add_new] at this
    rw [this, List.getD_eq_getElem?_getD, List.getElem?_replicate, if_pos hj]
    rfl)
  rw [List.length_replicate] at hc
  exact hc
set_option maxRecDepth 100000 in
set_option maxHeartbeats 32000000 in
theorem FrameEdges_any (rest : ByteArray) (max : Int) (dead : Bool) (A : Option Addr) (l : List ByteArray) (c : Nat) (w : World) (_ : StrsAt w w.heap.size A l) (_ : ScFit rest max l c) :
    Calls Try.prog 4 #[.agg (scArr rest max dead A l c)] w fun e w' => e = .returned (.bool true) ∧ Below w.heap.size w w' := by
  have hb0 := Box.new w 26 (scArr rest max dead A l c)
  have ha := (Below.refl w.heap.size w).alloc (Nat.le_refl _) (.cells (scArr rest max dead A l c) 26)
  obtain ⟨W1, hW⟩ : ∃ W1, w.alloc (.cells (scArr rest max dead A l c) 26) = W1 := ⟨_, rfl⟩
  rw [hW] at hb0 ha
  have HA := Lib.hid ha
  obtain ⟨g, hg⟩ : ∃ g, w.heap.size = g := ⟨_, rfl⟩
  rw [hg] at hb0
  have HG := Lib.hid hg
  have HB0 := Lib.hid hb0
  unfold scArr at hW ⊢
  have HW := Lib.hid hW
  clear hW hb0 ha hg
  go_enter Try.func4, Try.ntmps4
  go_upto_region 1 with fail
  rw [HW.out, HG.out]
  generalize Value.agg _ = v0
  clear HW
  go_wp2_with fail
  go_loopw [3] (fun i wr => ∃ n : Nat, i = .int .i64 (n : Int) ∧ 2 ≤ n ∧ n ≤ 40 ∧ Below W1.heap.size W1 wr) (fun i _ => 40 - (RowKit.intOf i).toNat)
  case atStart => exact ⟨2, rfl, Nat.le_refl _, by omega, Below.refl _ _⟩
  case round =>
    obtain ⟨n, rfl, hn2, hn40, hbl⟩ := hrel
    by_cases hlt : n < 40
    · obtain ⟨w2, hmk, hcv, hb2⟩ := make_zeros n (by omega) wr
      have HBL := Lib.hid (hbl.trans (hb2.mono hbl.size))
      have hnI : (n : Int) < 40 := by omega
      have hwb : IntKind.u8.wrap (4 + (n : Int)) = 4 + (n : Int) := by
        have e : IntKind.u8.wrap (4 + (n : Int)) = (4 + (n : Int)) % (256 : Int) := rfl
        rw [e]
        omega
      have hw64 : IntKind.i64.wrap (4 + (n : Int)) = 4 + (n : Int) := IntWalk.i64_in _ (by omega)
      have hcv2 : (convert 38 9 (.slice (some ⟨w2.heap.size, 0, none⟩) 1 1)).run Try.prog (w2.alloc (.cells #[.int .u8 (4 + (n : Int))] 5)) = .ok (.string (strOfNums [4 + (n : Int)])) (w2.alloc (.cells #[.int .u8 (4 + (n : Int))] 5)) :=
        fr_conv (zs := [4 + (n : Int)]) (fun j hj => by
          obtain rfl : j = 0 := by simpa using hj
          rw [cell_of_row (w2.alloc _) w2.heap.size 0 _ _ (0, 0) (heap_alloc_new w2 _)]
          rfl)
      have hs1 : (strOfNums [4 + (n : Int)]).size = 1 := by rw [strOfNums_size]; rfl
      have hs2 := zeros_size n
      have HB3 := Lib.hid (HBL.out.trans (((Below.refl w2.heap.size w2).alloc (Nat.le_refl _) (.cells #[.int .u8 (4 + (n : Int))] 5)).mono HBL.out.size))
      clear hbl hb2
      go_upto_region 6 with fail
      obtain ⟨S, hS⟩ : ∃ S, ((((⟨#[48]⟩ : ByteArray) ++ strOfNums [4 + (n : Int)]) ++ ⟨#[0, 1, 97, 0]⟩) ++ zeros n) = S := ⟨_, rfl⟩
      rw [hS]
      have hSE : S = edgeS n := by
        rw [← hS]
        unfold edgeS
        rw [show ((4 + n : Nat) : Int) = 4 + (n : Int) by omega]
      have hSP : strP (edgeP n) = S := by rw [hSE]; exact edge_str n (by omega)
      have hSZ : S.size = 6 + n := by rw [hSE]; exact edge_size n
      have hpk := edge_pack n (by omega)
      have hf1 : feedS (S.size : Int) S = ([edgeP n], ⟨#[]⟩, 0) := by
        have := feed_whole (max := (S.size : Int)) hpk (by rw [hSP]; omega)
        rwa [hSP] at this
      have hf2 : feedS ((S.size : Int) - 1) S = ([], ⟨#[]⟩, 2) := by
        have := feed_over (max := (S.size : Int) - 1) hpk (by rw [hSP]; omega)
        rwa [hSP] at this
      have hm1 : 2 ≤ (S.size : Int) ∧ (S.size : Int) ≤ 8192 := by omega
      have hm2 : 2 ≤ (S.size : Int) - 1 ∧ (S.size : Int) - 1 ≤ 8192 := by omega
      have hws : IntKind.i64.wrap ((S.size : Int) - 1) = (S.size : Int) - 1 := IntWalk.i64_in _ (by omega)
      have HN1 := Lib.hid (fun W => New_yes hm1 W)
      have HN2 := Lib.hid (fun W => New_yes hm2 W)
      have HF1 : Hid (∀ W : World, Calls Try.prog 9 #[.agg (frArr ⟨#[]⟩ (S.size : Int) false), .string S] W fun q w' => ∃ A c, q = .returned (.tuple #[.agg (frArr ⟨#[]⟩ (S.size : Int) false), .slice A 1 c, .int .i64 0]) ∧ OwnPks w' W.heap.size (.slice A 1 c) [edgeP n] ∧ Below W.heap.size W w') :=
        fun W => Feed_tells (L := [edgeP n]) (x := ⟨#[]⟩) (e := 0) hm1 (step_nil rfl) (by rw [Pkt.empty_add]; exact hf1) (by show 0 + S.size ≤ _; omega) W
      have HF2 : Hid (∀ W : World, Calls Try.prog 9 #[.agg (frArr ⟨#[]⟩ ((S.size : Int) - 1) false), .string S] W fun q w' => ∃ A c, q = .returned (.tuple #[.agg (frArr ⟨#[]⟩ ((S.size : Int) - 1) true), .slice A 0 c, .int .i64 2]) ∧ OwnPks w' W.heap.size (.slice A 0 c) [] ∧ Below W.heap.size W w') :=
        fun W => Feed_tells (L := []) (x := ⟨#[]⟩) (e := 2) hm2 (step_nil rfl) (by rw [Pkt.empty_add]; exact hf2) (by show 0 + S.size ≤ _; omega) W
      have HF3 : Hid (∀ W : World, Calls Try.prog 9 #[.agg (frArr ⟨#[]⟩ ((S.size : Int) - 1) true), .string ⟨#[192, 0]⟩] W fun q w' => ∃ A c, q = .returned (.tuple #[.agg (frArr ⟨#[]⟩ ((S.size : Int) - 1) true), .slice A 0 c, .int .i64 0]) ∧ OwnPks w' W.heap.size (.slice A 0 c) [] ∧ Below W.heap.size W w') :=
        fun W => Feed_dead ⟨#[]⟩ ((S.size : Int) - 1) ⟨#[192, 0]⟩ W (Nat.zero_le _) (may_dead hm2)
      obtain ⟨mx1, hx1⟩ : ∃ m, (S.size : Int) = m := ⟨_, rfl⟩
      obtain ⟨mx2, hx2⟩ : ∃ m, mx1 - 1 = m := ⟨_, rfl⟩
      have hws2 : wrap64 mx2 = mx2 := by rw [← hx2, ← hx1]; unfold wrap64; omega
      rw [hx1] at HN1 HN2 HF1 HF2 HF3
      rw [hx2] at HN2 HF2 HF3
      have HSZ := Lib.hid hx1
      have HLT := Lib.hid hlt
      clear hS hSE hSP hSZ hpk hf1 hf2 hm1 hm2 hws hmk hcv hcv2 hs1 hs2 hwb hw64 HBL
      generalize w2.alloc _ = w3 at HB3 ⊢
      go_wp2_with fail
      refine (HN1.out _).mono ?_
      rintro r1 w4 ⟨rfl, q1⟩
      have hmb := new_below w4 (frArr ⟨#[]⟩ 0 false) (frArr ⟨#[]⟩ mx1 false) 23
      have hmx := new_box w4 (frArr ⟨#[]⟩ 0 false) (frArr ⟨#[]⟩ mx1 false) 23
      have hbn := Box.new w4 23 (frArr ⟨#[]⟩ 0 false)
      obtain ⟨Wx, hW⟩ : ∃ W, w4.alloc (.cells (frArr ⟨#[]⟩ 0 false) 23) = W := ⟨_, rfl⟩
      rw [hW] at hmb hmx hbn
      obtain ⟨k6, hk6⟩ : ∃ k, w4.heap.size = k := ⟨_, rfl⟩
      have HX5 := Lib.hid ((HB3.out.trans (q1.mono HB3.out.size)).trans (hmb.mono (Nat.le_trans HB3.out.size q1.size)))
      have HK6 : Hid (W1.heap.size ≤ k6) := by show W1.heap.size ≤ k6; have := HB3.out.size; have := q1.size; omega
      rw [hk6] at hmx hbn HX5
      have HM6 := Lib.hid hmx
      have HBN := Lib.hid hbn
      unfold frArr at hW
      have HW := Lib.hid hW
      clear q1 hmb hmx hbn hW HB3 HN1
      go_upto_region 7 with (rw [HW.out]; refine wpList_store_whole rfl 23 (.tmp 6) (.tmp 41) rfl k6 (frArr ⟨#[]⟩ mx1 false) rfl rfl (frArr ⟨#[]⟩ 0 false) HBN.out info_fr rfl (one_fr _ _ _) ?_; simp only [Act.put])
      clear hk6 HW HBN
      generalize World.setRow _ _ _ = w5 at HX5 HM6 ⊢
      go_wp2_with fail
      refine (HN2.out _).mono ?_
      rintro r2 w6 ⟨rfl, q1⟩
      have hmb := new_below w6 (frArr ⟨#[]⟩ 0 false) (frArr ⟨#[]⟩ mx2 false) 23
      have hmx := new_box w6 (frArr ⟨#[]⟩ 0 false) (frArr ⟨#[]⟩ mx2 false) 23
      have hbn := Box.new w6 23 (frArr ⟨#[]⟩ 0 false)
      obtain ⟨Wx, hW⟩ : ∃ W, w6.alloc (.cells (frArr ⟨#[]⟩ 0 false) 23) = W := ⟨_, rfl⟩
      rw [hW] at hmb hmx hbn
      obtain ⟨k8, hk8⟩ : ∃ k, w6.heap.size = k := ⟨_, rfl⟩
      have HX7 := Lib.hid ((HX5.out.trans (q1.mono HX5.out.size)).trans (hmb.mono (Nat.le_trans HX5.out.size q1.size)))
      have h6b := HM6.out.below q1
      have HK8 : Hid (k6 < k8) := by show k6 < k8; have := h6b.lt; omega
      have HM6b := Lib.hid (h6b.below hmb)
      rw [hk8] at hmx hbn HX7 HM6b
      have HM8 := Lib.hid hmx
      have HBN := Lib.hid hbn
      unfold frArr at hW
      have HW := Lib.hid hW
      clear q1 hmb hmx hbn hW HX5 HN2 h6b HM6
      go_upto_region 8 with (rw [HW.out]; refine wpList_store_whole rfl 23 (.tmp 8) (.tmp 48) rfl k8 (frArr ⟨#[]⟩ mx2 false) rfl rfl (frArr ⟨#[]⟩ 0 false) HBN.out info_fr rfl (one_fr _ _ _) ?_; simp only [Act.put])
      clear hk8 HW HBN
      generalize World.setRow _ _ _ = w7 at HX7 HM6b HM8 ⊢
      have hld := load_fr HM6b.out
      go_wp2_with (refine wpList_load_any (by rfl) 23 (.tmp 6) rfl k6 0 rfl _ hld ?_)
      refine (HF1.out _).mono ?_
      rintro r3 w8 ⟨A1, c1, rfl, o1, q1⟩
      have HKL := Lib.hid HM8.out.lt
      have hrow := Bar.row k6 w8 (frArr ⟨#[]⟩ mx1 false)
      have h6 := HM6b.out.below q1
      have hk6l := HM6b.out.lt
      have HB6 := Lib.hid h6
      have HM6 := Lib.hid (h6.row (frArr ⟨#[]⟩ mx1 false))
      have HM8b := Lib.hid (hrow.box (HM8.out.below q1) (by have := HK8.out; omega))
      have HO9 := Lib.hid (o1.bar hrow hk6l)
      have HX9 := Lib.hid (hrow.below (HX7.out.trans (q1.mono HX7.out.size)) HK6.out (Nat.le_trans HX7.out.size q1.size))
      clear o1 q1 hrow h6 hk6l hld HF1 HX7 HM6b HM8
      go_upto_region 9 with (refine wpList_store_whole rfl 23 (.tmp 6) (.tmp 54) rfl k6 (frArr ⟨#[]⟩ mx1 false) rfl rfl (frArr ⟨#[]⟩ mx1 false) HB6.out info_fr rfl (one_fr _ _ _) ?_; simp only [Act.put])
      clear HB6
      generalize World.setRow _ _ _ = w9 at HM6 HM8b HO9 HX9 ⊢
      have hld := load_fr HM8b.out
      go_wp2_with (refine wpList_load_any (by rfl) 23 (.tmp 8) rfl k8 0 rfl _ hld ?_)
      refine (HF2.out _).mono ?_
      rintro r4 w10 ⟨A2, c2, rfl, _, q1⟩
      have hrow := Bar.row k8 w10 (frArr ⟨#[]⟩ mx2 true)
      have h8 := HM8b.out.below q1
      have HB8 := Lib.hid h8
      have HM8 := Lib.hid (h8.row (frArr ⟨#[]⟩ mx2 true))
      have HM6b := Lib.hid (hrow.box (HM6.out.below q1) (by have := HK8.out; omega))
      have HX11 := Lib.hid (hrow.below (HX9.out.trans (q1.mono HX9.out.size)) (by have := HK6.out; have := HK8.out; omega) (Nat.le_trans HX9.out.size q1.size))
      have HOB := Lib.hid (OwnPks.at (l := [edgeP n]) (HO9.out.below q1))
      obtain ⟨ads, hat⟩ := HOB.out
      obtain ⟨gl, o, rfl, hgl, hrows⟩ := hat.some_ (by show 0 < 1; omega)
      have hl0 : 0 < ads.length := by rw [hat.len]; show 0 < 1; omega
      have hc6 := (hrows 0 (by show 0 < 1; omega) hl0).1 6 (.string (zeros n)) rfl
      have hne8 : gl ≠ k8 := by have := (HO9.out.lt gl rfl).1; have := HKL.out; omega
      have HC6 := Lib.hid ((World.cell?_of_block (a := ⟨gl, o + 0 * 25 + 6, none⟩) (hrow.block gl hgl hne8)).trans hc6)
      clear q1 hrow h8 hld HF2 HX9 HM8b HM6 HO9 HOB hat hgl hrows hl0 hc6 hne8
      go_upto_region 10 with (refine wpList_store_whole rfl 23 (.tmp 8) (.tmp 61) rfl k8 (frArr ⟨#[]⟩ mx2 true) rfl rfl (frArr ⟨#[]⟩ mx2 false) HB8.out info_fr rfl (one_fr _ _ _) ?_; simp only [Act.put])
      clear HB8
      generalize World.setRow _ _ _ = w11 at HM8 HM6b HX11 HC6 ⊢
      have hld := load_fr HM8.out
      go_wp2_with (refine wpList_load_any (by rfl) 23 (.tmp 8) rfl k8 0 rfl _ hld ?_)
      refine (HF3.out _).mono ?_
      rintro r5 w12 ⟨A3, c3, rfl, _, q1⟩
      have hmb := new_below w12 (frArr ⟨#[]⟩ 0 false) (frArr ⟨#[]⟩ mx2 true) 23
      have hmx := new_box w12 (frArr ⟨#[]⟩ 0 false) (frArr ⟨#[]⟩ mx2 true) 23
      have hbn := Box.new w12 23 (frArr ⟨#[]⟩ 0 false)
      obtain ⟨Wx, hW⟩ : ∃ W, w12.alloc (.cells (frArr ⟨#[]⟩ 0 false) 23) = W := ⟨_, rfl⟩
      rw [hW] at hmb hmx hbn
      obtain ⟨k14, hk14⟩ : ∃ k, w12.heap.size = k := ⟨_, rfl⟩
      have HX13 := Lib.hid ((HX11.out.trans (q1.mono HX11.out.size)).trans (hmb.mono (Nat.le_trans HX11.out.size q1.size)))
      have h6b := (HM6b.out.below q1).below hmb
      have h8b := (HM8.out.below q1).below hmb
      have hcl : gl < w11.heap.size := cell_lt HC6.out
      have c6 : ((Wx.setRow w12.heap.size (frArr ⟨#[]⟩ mx2 true))).cell? ⟨gl, o + 6, none⟩ = some (.string (zeros n)) := by
        have h1 := HC6.out
        rw [Nat.zero_mul, Nat.add_zero] at h1
        exact (hmb.cell (p := ⟨gl, o + 6, none⟩) (by show gl < w12.heap.size; have := q1.size; omega)).trans ((q1.cell (p := ⟨gl, o + 6, none⟩) hcl).trans h1)
      rw [hk14] at hmx hbn HX13 h6b h8b c6
      have HM14 := Lib.hid hmx
      have HM6c := Lib.hid h6b
      have HM8c := Lib.hid h8b
      have HCC := Lib.hid c6
      have HBN := Lib.hid hbn
      unfold frArr at hW
      have HW := Lib.hid hW
      clear q1 hmb hmx hbn hW HX11 HF3 h6b h8b HM6b HM8 HC6 hcl c6 hld
      go_upto_region 11 with (rw [HW.out]; refine wpList_store_whole rfl 23 (.tmp 14) (.tmp 67) rfl k14 (frArr ⟨#[]⟩ mx2 true) rfl rfl (frArr ⟨#[]⟩ 0 false) HBN.out info_fr rfl (one_fr _ _ _) ?_; simp only [Act.put])
      clear hk14 HW HBN
      generalize World.setRow _ _ _ = w13 at HX13 HM14 HM6c HM8c HCC ⊢
      have c6 := HCC.out
      have d0 : w13.cell? ⟨k6, 0, none⟩ = some (.string ⟨#[]⟩) := HM6c.out.cell 0
      have d2 : w13.cell? ⟨k8, 2, none⟩ = some (.bool true) := HM8c.out.cell 2
      have hld8 := load_fr HM8c.out
      have hld14 := load_fr HM14.out
      have hneq := neq_fr ⟨#[]⟩ mx2 true
      go_wp2_with (first | (go_at_call 8; refine (num6 _ _).mono ?_; rintro e'' w' ⟨rfl, rfl⟩) | (refine wpList_load_any (by rfl) 23 (.tmp 14) rfl k14 0 rfl _ hld14 ?_) | (refine wpList_load_any (by rfl) 23 (.tmp 8) rfl k8 0 rfl _ hld8 ?_))
      go_roundw
      case rel => exact ⟨n + 1, by go_num, by omega, by have := HLT.out; omega, HX13.out⟩
      case measure => have := HLT.out; simp [RowKit.intOf]; omega
    · obtain rfl : n = 40 := by omega
      have HN1 := Lib.hid (fun W => New_no (n := 1) (by decide) W)
      have HN2 := Lib.hid (fun W => New_no (n := 8193) (by decide) W)
      have HBL := Lib.hid hbl
      clear hbl
      go_wp2_with fail
      refine (HN1.out _).mono ?_
      rintro r1 w4 ⟨rfl, q1⟩
      have HX4 := Lib.hid (HBL.out.trans (q1.mono HBL.out.size))
      clear q1 HBL HN1
      have hmb := new_below w4 (frArr ⟨#[]⟩ 0 false) (frArr ⟨#[]⟩ 0 false) 23
      have hbn := Box.new w4 23 (frArr ⟨#[]⟩ 0 false)
      obtain ⟨Wx, hW⟩ : ∃ W, w4.alloc (.cells (frArr ⟨#[]⟩ 0 false) 23) = W := ⟨_, rfl⟩
      rw [hW] at hmb hbn
      obtain ⟨k6, hk6⟩ : ∃ k, w4.heap.size = k := ⟨_, rfl⟩
      have HX5 := Lib.hid (HX4.out.trans (hmb.mono HX4.out.size))
      rw [hk6] at hbn HX5
      have HBN := Lib.hid hbn
      unfold frArr at hW
      have HW := Lib.hid hW
      clear hmb hbn hW HX4
      go_upto_region 14 with (rw [HW.out]; refine wpList_store_whole rfl 23 (.tmp 17) (.tmp 133) rfl k6 (frArr ⟨#[]⟩ 0 false) rfl rfl (frArr ⟨#[]⟩ 0 false) HBN.out info_fr rfl (one_fr _ _ _) ?_; simp only [Act.put])
      clear hk6 HW HBN
      generalize World.setRow _ _ _ = w5 at HX5 ⊢
      go_wp2_with fail
      refine (HN2.out _).mono ?_
      rintro r2 w6 ⟨rfl, q1⟩
      have hmb := new_below w6 (frArr ⟨#[]⟩ 0 false) (frArr ⟨#[]⟩ 0 false) 23
      have hbn := Box.new w6 23 (frArr ⟨#[]⟩ 0 false)
      obtain ⟨Wx, hW⟩ : ∃ W, w6.alloc (.cells (frArr ⟨#[]⟩ 0 false) 23) = W := ⟨_, rfl⟩
      rw [hW] at hmb hbn
      obtain ⟨k8, hk8⟩ : ∃ k, w6.heap.size = k := ⟨_, rfl⟩
      have HX7 := Lib.hid ((HX5.out.trans (q1.mono HX5.out.size)).trans (hmb.mono (Nat.le_trans HX5.out.size q1.size)))
      rw [hk8] at hbn HX7
      have HBN := Lib.hid hbn
      unfold frArr at hW
      have HW := Lib.hid hW
      clear q1 hmb hbn hW HX5 HN2
      go_upto_region 15 with (rw [HW.out]; refine wpList_store_whole rfl 23 (.tmp 19) (.tmp 137) rfl k8 (frArr ⟨#[]⟩ 0 false) rfl rfl (frArr ⟨#[]⟩ 0 false) HBN.out info_fr rfl (one_fr _ _ _) ?_; simp only [Act.put])
      clear hk8 HW HBN
      generalize World.setRow _ _ _ = w7 at HX7 ⊢
      have hb := HB0.out.below HX7.out
      have d3 : w7.cell? ⟨g, 3, none⟩ = some (.slice A l.length c) := hb.cell 3
      have HXX := Lib.hid (HA.out.trans (HX7.out.mono HA.out.size))
      clear hb HX7
      have hll : (0 : Int) ≤ (l.length : Int) := by omega
      go_wp2_with (first | (go_at_call 8; refine (num6 _ _).mono ?_; rintro e'' w' ⟨rfl, rfl⟩) | (go_at_call 11; refine (wakes6 _).mono ?_; rintro q2 w2' ⟨rfl, qb⟩))
      go_ret
      exact ⟨rfl, HXX.out.trans (qb.mono HXX.out.size)⟩
end Go.Proofs.Ytiancngpknnkaaa
