/- The document's own answer: which record bytes begin with. -/
import Derived.Test.YtimoncjdfmfojaaDoorRcRBytes
import Derived.Test.YtimoncjdfmfojaaDoorRcPlainDoc
import Derived.Test.YtimoncjdfmfojaaDoorRcTaken
namespace Go.Proofs.YtimoncjdfmfojaaDoor
open Go.RowKit Go.Lib Vbi Rcd Crc

/-- The result's cell as it began, the zero record, and all that was there ahead of the call. -/
@[irreducible] def TW (w : World) (p : Nat) (W : World) : Prop := Blk W p zcells ∧ Blk W (p + 1) zcells ∧ Below w.heap.size w W ∧ w.heap.size ≤ p
section
variable {w W W' : World} {p : Nat}
theorem TW.mk (h : Blk W p zcells ∧ Blk W (p + 1) zcells ∧ Below w.heap.size w W ∧ w.heap.size ≤ p) : TW w p W := by unfold TW; exact h
theorem TW.out (h : TW w p W) : Blk W p zcells ∧ Blk W (p + 1) zcells ∧ Below w.heap.size w W ∧ w.heap.size ≤ p := by unfold TW at h; exact h
theorem TW.below (h : TW w p W) (hb : Below W.heap.size W W') : TW w p W' := by
  obtain ⟨h1, h2, h3, h4⟩ := h.out
  exact .mk ⟨h1.below hb, h2.below hb, h3.trans (hb.mono h3.size), h4⟩
theorem TW.start (w : World) : TW w w.heap.size (((w.alloc (.cells zcells 28)).alloc (.cells zcells 28)).setRow (w.heap.size + 1) zcells) := by
  have e0 := Blk.new w 28 zcells
  have z0 : (w.alloc (.cells zcells 28)).heap.size = w.heap.size + 1 := by simp
  have x0 : Below w.heap.size w (w.alloc (.cells zcells 28)) := (Below.refl _ _).alloc (Nat.le_refl _) _
  generalize w.alloc (.cells zcells 28) = w1 at e0 z0 x0 ⊢
  have e1 := Blk.new w1 28 zcells
  have e0' := e0.alloc (.cells zcells 28)
  have x1 : Below w.heap.size w (w1.alloc (.cells zcells 28)) := x0.alloc (by omega) _
  rw [z0] at e1
  exact .mk ⟨blk_row_far e0' (by omega) _, e1.row _, below_row x1 (by omega) _, Nat.le_refl _⟩
theorem TW.load (h : TW w p W) : (loadVar 28 ⟨p + 1, 0, none⟩).run Tryd.prog W = .ok (.agg zcells) W := load_blk h.out.2.1 rfl
theorem TW.done (h : TW w p W) (ds : Array Value) : Blk (W.setRow p ds) p ds ∧ Below w.heap.size w (W.setRow p ds) := ⟨h.out.1.row ds, below_row h.out.2.2.1 h.out.2.2.2 ds⟩
end
/-- The same, and the record so far. -/
@[irreducible] def TV (w : World) (p g : Nat) (cs : Array Value) (W : World) : Prop := TW w p W ∧ Blk W g cs ∧ p + 1 < g
section
variable {w W W' : World} {p g : Nat} {cs : Array Value}
theorem TV.mk (h : TW w p W ∧ Blk W g cs ∧ p + 1 < g) : TV w p g cs W := by unfold TV; exact h
theorem TV.out (h : TV w p g cs W) : TW w p W ∧ Blk W g cs ∧ p + 1 < g := by unfold TV at h; exact h
theorem TV.below (h : TV w p g cs W) (hb : Below W.heap.size W W') : TV w p g cs W' := .mk ⟨h.out.1.below hb, h.out.2.1.below hb, h.out.2.2⟩
theorem TV.put (h : TV w p g cs W) (i : Nat) (v : Value) : TV w p g (cs.setIfInBounds i v) (W.setCell ⟨g, i, none⟩ v) := by
  obtain ⟨h1, h2, h3⟩ := h.out
  obtain ⟨k1, k2, k3, k4⟩ := h1.out
  exact .mk ⟨.mk ⟨k1.far (by simp; omega) v, k2.far (by simp; omega) v, k3.setCell (p := ⟨g, i, none⟩) (show _ ≤ g by omega) v, k4⟩, h2.put i v, h3⟩
theorem TV.load (h : TV w p g cs W) (h6 : cs.size = 6) : (loadVar 28 ⟨g, 0, none⟩).run Tryd.prog W = .ok (.agg cs) W := load_blk h.out.2.1 h6
theorem TV.start (h : TW w p W) : TV w p W.heap.size zcells ((W.alloc (.cells zcells 28)).setRow W.heap.size zcells) := by
  have hb := Blk.new W 28 zcells
  have x0 : Below W.heap.size W (W.alloc (.cells zcells 28)) := (Below.refl _ _).alloc (Nat.le_refl _) _
  have x1 := below_row x0 (Nat.le_refl _) zcells
  exact .mk ⟨h.below x1, hb.row _, h.out.2.1.lt⟩
end
theorem u32_of (F : Nat) (h : F < 4294967296) : IntKind.u32.wrap (F : Int) = (F : Int) := by
  unfold IntKind.wrap
  simp [IntKind.bits, IntKind.signed]
  omega

set_option maxRecDepth 100000 in
set_option maxHeartbeats 16000000 in
/-- fairwayref10.Take. -/
theorem RTake_is (s : ByteArray) (R : Rc) (n0 : Nat) (E : Int) (w : World) (hm : s.size ≤ 1000000) (h : takeR s.data.toList = (R, n0, E)) :
    Calls Tryd.prog 17 #[.string s] w fun e w' => e = .returned (.tuple #[ragg R, .int .i64 (n0 : Int), .int .i64 E]) ∧ Below w.heap.size w w' := by
  have hl := size_list s
  obtain ⟨n, hn⟩ : ∃ n, fixVal (s.data.toList.take 2) = n := ⟨_, rfl⟩
  obtain ⟨F, hF⟩ : ∃ F, fixVal ((s.data.toList.drop 2).take 4) = F := ⟨_, rfl⟩
  obtain ⟨N, hN⟩ : ∃ N, sumN 0 (s.data.toList.take 2 ++ (s.data.toList.drop 6).take n) = N := ⟨_, rfl⟩
  have hn16 : n < 65536 := by rw [← hn]; exact fixVal_two _
  have hF32 : F < 4294967296 := by rw [← hF]; exact fixVal_lt _ 4 (by rw [List.length_take]; omega)
  have hN32 : N < 4294967296 := by rw [← hN]; exact sum_lt _ _
  have HU := u32_of F hF32
  have W := Lib.hid (take_ways s.data.toList n F N hn hF hN)
  have HH := Lib.hid h
  have hbd : (s.extract 6 (6 + n)).data.toList = (s.data.toList.drop 6).take n := ext_mid s 6 n
  have R0 := Lib.hid (TW.start w)
  obtain ⟨W0, hW⟩ : ∃ W0, (w.alloc (.cells zcells 28)).alloc (.cells zcells 28) = W0 := ⟨_, rfl⟩
  have hbn : Blk W0 (w.heap.size + 1) zcells := by
    rw [← hW]
    have := Blk.new (w.alloc (.cells zcells 28)) 28 zcells
    rwa [show (w.alloc (.cells zcells 28)).heap.size = w.heap.size + 1 by simp] at this
  rw [hW] at R0
  have HBN := Lib.hid hbn
  unfold zcells at hW
  have HW := Lib.hid hW
  clear hW hbn h
  go_enter Tryd.func17, Tryd.ntmps17
  go_upto_region 2 with (rw [HW.out]; refine wpList_store_whole rfl 28 (.tmp 5) (.tmp 15) rfl (w.heap.size + 1) zcells rfl rfl zcells HBN.out info_rec rfl one_zero ?_; simp only [Act.put])
  clear HW HBN
  generalize World.setRow _ _ _ = w1 at R0 ⊢
  obtain ⟨p, hp⟩ : ∃ p, w.heap.size = p := ⟨_, rfl⟩
  rw [hp] at R0
  rw [hp]
  clear hp
  have hld := R0.out.load
  have HD := Lib.hid (R0.out.done zcells)
  have HP := Lib.hid R0.out.out.1
  by_cases c1 : s.size < 6
  · have hd1 : decide ((s.size : Int) < 6) = true := by rw [decide_eq_true_eq]; omega
    obtain ⟨rfl, rfl, rfl⟩ : zero = R ∧ 0 = n0 ∧ 7 = E := by
      rcases W.out with ⟨_, e⟩ | ⟨x, _⟩ | ⟨x, _⟩ | ⟨x, _⟩ | ⟨x, _⟩
      · have := e.symm.trans HH.out; injection this with e1 e2; injection e2 with e2 e3; exact ⟨e1, e2, e3⟩
      all_goals omega
    clear W HH hn hF hN hbd hl
    go_wp2_with (first | (refine wpList_load_any (by rfl) 28 (.tmp 5) rfl (p + 1) 0 rfl _ hld ?_; simp only [Act.put]) | (refine wpList_store_whole rfl 28 (.tmp 2) (.tmp 19) rfl p zcells rfl rfl zcells HP.out info_rec rfl one_zero ?_; simp only [Act.put]))
    refine bodyPost_ret (results_rec3 Tryd.results17 rfl HD.out.1 rfl rfl rfl) rfl ⟨rfl, HD.out.2⟩
  have HT2 := Lib.hid (fun W => RTake_good 2 s n W (by omega) (by omega) (by omega) hn)
  have hd1 : decide ((s.size : Int) < 6) = false := by rw [decide_eq_false_iff_not]; omega
  by_cases c2 : s.size < 6 + n
  · have hd2 : decide ((s.size : Int) - 6 < (n : Int)) = true := by rw [decide_eq_true_eq]; omega
    obtain ⟨rfl, rfl, rfl⟩ : zero = R ∧ 0 = n0 ∧ 7 = E := by
      rcases W.out with ⟨x, _⟩ | ⟨_, _, e⟩ | ⟨_, x, _⟩ | ⟨_, x, _⟩ | ⟨_, x, _⟩
      · omega
      · have := e.symm.trans HH.out; injection this with e1 e2; injection e2 with e2 e3; exact ⟨e1, e2, e3⟩
      all_goals omega
    clear W HH hn hF hN hbd hl
    go_wp2_with fail
    refine (HT2.out _).mono ?_
    rintro e w2 ⟨rfl, rfl⟩
    go_wp2_with (first | (refine wpList_load_any (by rfl) 28 (.tmp 5) rfl (p + 1) 0 rfl _ hld ?_; simp only [Act.put]) | (refine wpList_store_whole rfl 28 (.tmp 2) (.tmp 30) rfl p zcells rfl rfl zcells HP.out info_rec rfl one_zero ?_; simp only [Act.put]))
    refine bodyPost_ret (results_rec3 Tryd.results17 rfl HD.out.1 rfl rfl rfl) rfl ⟨rfl, HD.out.2⟩
  have hd2 : decide ((s.size : Int) - 6 < (n : Int)) = false := by rw [decide_eq_false_iff_not]; omega
  have HT4 := Lib.hid (fun W => RTake_good 4 (s.extract 2 s.size) F W (by omega) (by rw [ByteArray.size_extract]; omega) (by rw [ByteArray.size_extract]; omega) (by rw [ext_drop s 2 (by omega)]; exact hF))
  have HS := Lib.hid (fun W => RSum_is 0 (s.extract 0 2 ++ s.extract 6 (6 + n)) N W (by omega) (by rw [ByteArray.size_append, ByteArray.size_extract, ByteArray.size_extract]; omega) (by rw [ByteArray.data_append, Array.toList_append, ext_take, ext_mid]; exact hN))
  have h2I : (2 : Int) ≤ (s.size : Int) := by omega
  have h6I : 6 + (n : Int) ≤ (s.size : Int) := by omega
  have h60 : (6 : Int) ≤ 6 + (n : Int) := by omega
  go_wp2_with fail
  refine (HT2.out _).mono ?_
  rintro e w2 ⟨rfl, rfl⟩
  go_wp2_with fail
  refine (HT4.out _).mono ?_
  rintro e w2 ⟨rfl, rfl⟩
  go_wp2_with fail
  refine (HS.out _).mono ?_
  rintro e w2 ⟨rfl, rfl⟩
  have hBz : (s.extract 6 (6 + n)).size = n := by rw [ByteArray.size_extract]; omega
  have hbad : F = N → ¬ (parse (s.extract 6 (6 + n)).data.toList).2 = 0 → zero = R ∧ 0 = n0 ∧ 8 = E := by
    intro e1 e2
    rw [hbd] at e2
    rcases W.out with ⟨x, _⟩ | ⟨_, x, _⟩ | ⟨_, _, x, _⟩ | ⟨_, _, _, _, e⟩ | ⟨_, _, _, x, _⟩
    · omega
    · omega
    · exact absurd e1 x
    · have := e.symm.trans HH.out; injection this with e1 e2; injection e2 with e2 e3; exact ⟨e1, e2, e3⟩
    · exact absurd x e2
  have hgood : F = N → ∀ r, parse (s.extract 6 (6 + n)).data.toList = (r, 0) → r = R ∧ 6 + n = n0 ∧ 0 = E := by
    intro e1 r e2
    rw [hbd] at e2
    rcases W.out with ⟨x, _⟩ | ⟨_, x, _⟩ | ⟨_, _, x, _⟩ | ⟨_, _, _, x, _⟩ | ⟨_, _, _, _, e⟩
    · omega
    · omega
    · exact absurd e1 x
    · rw [e2] at x; exact absurd rfl x
    · have := e.symm.trans HH.out; rw [e2] at this; injection this with e1 e2; injection e2 with e2 e3; exact ⟨e1, e2, e3⟩
  by_cases c3 : F = N
  · subst c3
    have hne : ((F : Int) != (F : Int)) = false := by simp
    have HBAD := Lib.hid (hbad rfl)
    have HGOOD := Lib.hid (hgood rfl)
    have HBZ := Lib.hid hBz
    clear hbad hgood W HH hn hF hN hbd hl HT2 HT4 HS hBz
    generalize s.extract 6 (6 + n) = B at HBAD HGOOD HBZ ⊢
    by_cases c4 : n < 19
    · have hd3 : decide ((n : Int) < 19) = true := by rw [decide_eq_true_eq]; omega
      obtain ⟨rfl, rfl, rfl⟩ := HBAD.out (parse_short (by rw [size_list, HBZ.out]; exact c4))
      clear HBAD HGOOD
      go_wp2_with (first | (refine wpList_load_any (by rfl) 28 (.tmp 5) rfl (p + 1) 0 rfl _ hld ?_; simp only [Act.put]) | (refine wpList_store_whole rfl 28 (.tmp 2) (.tmp 53) rfl p zcells rfl rfl zcells HP.out info_rec rfl one_zero ?_; simp only [Act.put]))
      refine bodyPost_ret (results_rec3 Tryd.results17 rfl HD.out.1 rfl rfl rfl) rfl ⟨rfl, HD.out.2⟩
    have hd3 : decide ((n : Int) < 19) = false := by rw [decide_eq_false_iff_not]; omega
    clear HD HP hld
    have V0 := Lib.hid (TV.start R0.out)
    have hbn := Blk.new w1 28 zcells
    obtain ⟨W4, hW4⟩ : ∃ W, w1.alloc (.cells zcells 28) = W := ⟨_, rfl⟩
    obtain ⟨g, hg⟩ : ∃ g, w1.heap.size = g := ⟨_, rfl⟩
    rw [hW4, hg] at V0 hbn
    have HBN := Lib.hid hbn
    unfold zcells at hW4
    have HW4 := Lib.hid hW4
    clear hbn hW4 R0
    go_upto_region 12 with (rw [HW4.out]; refine wpList_store_whole rfl 28 (.tmp 11) (.tmp 54) rfl g zcells rfl rfl zcells HBN.out info_rec rfl one_zero ?_; simp only [Act.put])
    clear HW4 HBN hg
    generalize World.setRow _ _ _ = w5 at V0 ⊢
    have hB19 : 19 ≤ B.size := by have := HBZ.out; omega
    have hBm : B.size ≤ 100000 := by have := HBZ.out; omega
    obtain ⟨O, hO⟩ : ∃ O, lng B.data.toList = O := ⟨_, rfl⟩
    obtain ⟨T, hT⟩ : ∃ T, lng (B.data.toList.drop 8) = T := ⟨_, rfl⟩
    obtain ⟨key, hkey⟩ : ∃ k, fixVal ((B.data.toList.drop 17).take 2) = k := ⟨_, rfl⟩
    have hkey16 : key < 65536 := by rw [← hkey]; exact fixVal_two _
    have h8I : (8 : Int) ≤ (B.size : Int) := by omega
    have h17I : (17 : Int) ≤ (B.size : Int) := by omega
    have h16I : (16 : Int) < (B.size : Int) := by omega
    have h16 : 16 < B.size := by omega
    have HO := Lib.hid (fun W => RTake8_is B O W (by omega) (by omega) hO)
    have HT := Lib.hid (fun W => RTake8_is (B.extract 8 B.size) T W (by rw [ByteArray.size_extract]; omega) (by rw [ByteArray.size_extract]; omega) (by rw [ext_drop B 8 (by omega)]; exact hT))
    have HK := Lib.hid (fun W => RTake_good 2 (B.extract 17 B.size) key W (by omega) (by rw [ByteArray.size_extract]; omega) (by rw [ByteArray.size_extract]; omega) (by rw [ext_drop B 17 (by omega)]; exact hkey))
    have hfd := data_at B 16 h16
    have hf256 : (B[16]'h16).toNat < 256 := (B[16]'h16).toNat_lt
    have HPL := Lib.hid (parse_long (B := B.data.toList) (by rw [size_list]; exact hB19) hfd hkey)
    have HO2 := Lib.hid hO.symm
    have HT2' := Lib.hid hT.symm
    clear hfd hkey hO hT
    have d0 : w5.cell? ⟨g, 0, none⟩ = some (.int .i64 0) := V0.out.out.2.1.cell 0
    have f0 := V0.out.out.2.1.frozen 0
    go_wp2_with fail
    refine (HO.out _).mono ?_
    rintro e w6 ⟨rfl, rfl⟩
    have V1 := Lib.hid (V0.out.put 0 (.int .i64 O))
    go_upto_region 13 with fail
    clear d0 f0 V0 HO
    generalize World.setCell _ _ _ = w6 at V1 ⊢
    have d1 : w6.cell? ⟨g, 1, none⟩ = some (.int .i64 0) := V1.out.out.2.1.cell 1
    have f1 := V1.out.out.2.1.frozen 1
    go_wp2_with fail
    refine (HT.out _).mono ?_
    rintro e w7 ⟨rfl, rfl⟩
    have V2 := Lib.hid (V1.out.put 1 (.int .i64 T))
    go_upto_region 14 with fail
    clear d1 f1 V1 HT
    generalize World.setCell _ _ _ = w7 at V2 ⊢
    go_wp2_with fail
    refine (HK.out _).mono ?_
    rintro e w8 ⟨rfl, rfl⟩
    clear HK
    generalize B[16]'h16 = f at HPL hf256 ⊢
    generalize f.toNat = m at HPL hf256 ⊢
    by_cases c7 : 7 < m
    · obtain ⟨rfl, rfl, rfl⟩ := HBAD.out (HPL.out.1 c7)
      have hd4 : decide ((7 : Int) < (m : Int)) = true := by rw [decide_eq_true_eq]; omega
      have hd5 : decide (7 < m) = true := by rw [decide_eq_true_eq]; omega
      have hld := V2.out.out.1.load
      have HD := Lib.hid (V2.out.out.1.done zcells)
      have HP := Lib.hid V2.out.out.1.out.1
      clear HBAD HGOOD HPL V2
      go_wp2_with (first | (refine wpList_load_any (by rfl) 28 (.tmp 5) rfl (p + 1) 0 rfl _ hld ?_; simp only [Act.put]) | (refine wpList_store_whole rfl 28 (.tmp 2) (.tmp 85) rfl p zcells rfl rfl zcells HP.out info_rec rfl one_zero ?_; simp only [Act.put]))
      refine bodyPost_ret (results_rec3 Tryd.results17 rfl HD.out.1 rfl rfl rfl) rfl ⟨rfl, HD.out.2⟩
    have hd4 : decide ((7 : Int) < (m : Int)) = false := by rw [decide_eq_false_iff_not]; omega
    have hd5 : decide (7 < m) = false := by rw [decide_eq_false_iff_not]; omega
    by_cases c8 : n - 19 < key
    · obtain ⟨rfl, rfl, rfl⟩ := HBAD.out (HPL.out.2.1 (by rw [size_list, HBZ.out]; exact c8))
      have hd6 : decide ((n : Int) - 19 < (key : Int)) = true := by rw [decide_eq_true_eq]; omega
      have hld := V2.out.out.1.load
      have HD := Lib.hid (V2.out.out.1.done zcells)
      have HP := Lib.hid V2.out.out.1.out.1
      clear HBAD HGOOD HPL V2
      go_wp2_with (first | (refine wpList_load_any (by rfl) 28 (.tmp 5) rfl (p + 1) 0 rfl _ hld ?_; simp only [Act.put]) | (refine wpList_store_whole rfl 28 (.tmp 2) (.tmp 85) rfl p zcells rfl rfl zcells HP.out info_rec rfl one_zero ?_; simp only [Act.put]))
      refine bodyPost_ret (results_rec3 Tryd.results17 rfl HD.out.1 rfl rfl rfl) rfl ⟨rfl, HD.out.2⟩
    have hd6 : decide ((n : Int) - 19 < (key : Int)) = false := by rw [decide_eq_false_iff_not]; omega
    have d4 : w7.cell? ⟨g, 4, none⟩ = some (.int .i64 0) := V2.out.out.2.1.cell 4
    have f4 := V2.out.out.2.1.frozen 4
    have d5 : w7.cell? ⟨g, 5, none⟩ = some (.bool false) := V2.out.out.2.1.cell 5
    have f5 := V2.out.out.2.1.frozen 5
    have V3 := Lib.hid ((V2.out.put 4 (.int .i64 ((m : Int) % 4))).put 5 (.bool (decide ((4 : Int) ≤ (m : Int)))))
    go_upto_region 19 with fail
    simp only [List.setIfInBounds_toArray, List.set_cons_zero, List.set_cons_succ, zcells] at V3
    clear d4 f4 d5 f5 V2
    generalize World.setCell (World.setCell _ _ _) _ _ = w8 at V3 ⊢
    have V4 := Lib.hid (V3.out.below (below_drewN (Below.refl _ _) 1))
    clear V3
    refine wp_region_held_drew (S := fun _ => True) (by kernel_rfl) trivial (fun hS => ?_)
    change wpAnyH _ _ _ _ _ _ _ _ (w8.drewN 1)
    generalize w8.drewN 1 = Wd at V4 ⊢
    have hkI : 19 + (key : Int) ≤ (B.size : Int) := by have := HBZ.out; omega
    have hk0 : (19 : Int) ≤ 19 + (key : Int) := by omega
    have hk1 : (0 : Int) ≤ 19 + (key : Int) := by omega
    have hk2 : (19 + (key : Int)).toNat = 19 + key := by omega
    have hkw : IntKind.i64.wrap (19 + (key : Int)) = 19 + (key : Int) := IntWalk.i64_in _ (by omega)
    refine take_op 0 92 ?v0 rfl rfl (by kernel_rfl) (fun _ _ _ h => h) (by rfl) trivial (fun w' hS' => ?hv0) ?hh0
    case hv0 => (go_simp; (try with_reducible rfl); (try omega))
    simp only [Act.put, List.setIfInBounds_toArray, List.set_cons_zero, List.set_cons_succ]
    refine take_op 1 93 ?v1 rfl rfl (by kernel_rfl) (fun _ _ _ h => h) (by rfl) trivial (fun w' hS' => ?hv1) ?hh1
    case hv1 => (go_simp; (try with_reducible rfl); (try omega))
    simp only [Act.put, List.setIfInBounds_toArray, List.set_cons_zero, List.set_cons_succ]
    refine take_op 2 94 ?v2 rfl rfl (by kernel_rfl) (fun _ _ _ h => h) (by rfl) trivial (fun w' hS' => ?hv2) ?hh2
    case hv2 => (go_simp; (try with_reducible rfl); (try omega))
    simp only [Act.put, List.setIfInBounds_toArray, List.set_cons_zero, List.set_cons_succ]
    refine take_op 3 95 (.string (B.extract 19 (19 + key))) rfl rfl (by kernel_rfl) (fun _ _ _ h => h) (by rfl) trivial (fun w' hS' => ?hv3) ?hh3
    case hv3 => (go_simp; (try with_reducible rfl); (try omega))
    simp only [Act.put, List.setIfInBounds_toArray, List.set_cons_zero, List.set_cons_succ]
    refine take_op 4 96 ?v4 rfl rfl (by kernel_rfl) (fun _ _ _ h => h) (by rfl) trivial (fun w' hS' => ?hv4) ?hh4
    case hv4 => (go_simp; (try with_reducible rfl); (try omega))
    simp only [Act.put, List.setIfInBounds_toArray, List.set_cons_zero, List.set_cons_succ]
    refine take_op 5 97 ?v5 rfl rfl (by kernel_rfl) (fun _ _ _ h => h) (by rfl) trivial (fun w' hS' => ?hv5) ?hh5
    case hv5 => (go_simp; (try with_reducible rfl); (try omega))
    simp only [Act.put, List.setIfInBounds_toArray, List.set_cons_zero, List.set_cons_succ]
    refine take_op 6 98 ?v6 rfl rfl (by kernel_rfl) (fun _ _ _ h => h) (by rfl) trivial (fun w' hS' => ?hv6) ?hh6
    case hv6 => (go_simp; (try with_reducible rfl); (try omega))
    simp only [Act.put, List.setIfInBounds_toArray, List.set_cons_zero, List.set_cons_succ]
    refine take_op 7 99 (.string (B.extract (19 + key) B.size)) rfl rfl (by kernel_rfl) (fun _ _ _ h => h) (by rfl) trivial (fun w' hS' => ?hv7) ?hh7
    case hv7 => (go_simp; (try with_reducible rfl); (try omega))
    simp only [Act.put, List.setIfInBounds_toArray, List.set_cons_zero, List.set_cons_succ]
    refine take_op 8 100 ?v8 rfl rfl (by kernel_rfl) (fun _ _ _ h => h) (by rfl) trivial (fun w' hS' => ?hv8) ?hh8
    case hv8 => (go_simp; (try with_reducible rfl); (try omega))
    simp only [Act.put, List.setIfInBounds_toArray, List.set_cons_zero, List.set_cons_succ]
    have d2 : Wd.cell? ⟨g, 2, none⟩ = some (.string ⟨#[]⟩) := V4.out.out.2.1.cell 2
    have f2 := V4.out.out.2.1.frozen 2
    have V5 := Lib.hid (V4.out.put 2 (.string (B.extract 19 (19 + key))))
    refine only_op 9 rfl (by kernel_rfl) (by rfl) (wp_store_none 9 (.tmp 100) (.tmp 95) rfl rfl _ _ rfl rfl (by go_simp; try rfl) ⟨trivial, ?_⟩)
    clear d2 f2 V4
    generalize World.setCell _ _ _ = wy at V5 ⊢
    refine take_op 10 101 ?v10 rfl rfl (by kernel_rfl) (fun _ _ _ h => h) (by rfl) trivial (fun w' hS' => ?hv10) ?hh10
    case hv10 => (go_simp; (try with_reducible rfl); (try omega))
    simp only [Act.put, List.setIfInBounds_toArray, List.set_cons_zero, List.set_cons_succ]
    have d3 : wy.cell? ⟨g, 3, none⟩ = some (.string ⟨#[]⟩) := V5.out.out.2.1.cell 3
    have f3 := V5.out.out.2.1.frozen 3
    have V6 := Lib.hid (V5.out.put 3 (.string (B.extract (19 + key) B.size)))
    refine only_op 11 rfl (by kernel_rfl) (by rfl) (wp_store_none 9 (.tmp 101) (.tmp 99) rfl rfl _ _ rfl rfl (by go_simp; try rfl) ⟨trivial, ?_⟩)
    clear d3 f3 V5
    generalize World.setCell _ _ _ = wz at V6 ⊢
    refine wpAnyH_done (by kernel_rfl) ?_ _
    simp only [List.setIfInBounds_toArray, List.set_cons_zero, List.set_cons_succ] at V6
    have V6 : Hid (TV w p g (rarr O T (B.extract 19 (19 + key)) (B.extract (19 + key) B.size) ((m : Int) % 4) (decide ((4 : Int) ≤ (m : Int)))) wz) := V6
    obtain ⟨X, hX⟩ : ∃ X, mayB ⟨O, T, (B.extract 19 (19 + key)).data.toList, (B.extract (19 + key) B.size).data.toList, (m : Int) % 4, decide ((4 : Int) ≤ (m : Int))⟩ = X := ⟨_, rfl⟩
    have HREC := Lib.hid (fun W => RRec_parts O T (B.extract 19 (19 + key)) (B.extract (19 + key) B.size) ((m : Int) % 4) (decide ((4 : Int) ≤ (m : Int))) X W hX)
    have hdoc : (⟨O, T, (B.extract 19 (19 + key)).data.toList, (B.extract (19 + key) B.size).data.toList, (m : Int) % 4, decide ((4 : Int) ≤ (m : Int))⟩ : Rc) = docR B.data.toList m key := by
      unfold docR
      rw [HO2.out, HT2'.out, ext_mid, ext_drop B (19 + key) (by have := HBZ.out; omega)]
      congr 1
      exact decide_eq_decide.2 (by omega)
    rw [hdoc] at hX
    have hPX := HPL.out.2.2 (by omega) (by rw [size_list, HBZ.out]; omega)
    have hld := V6.out.load rfl
    generalize B.extract 19 (19 + key) = ks at V6 HREC hdoc hld ⊢
    generalize B.extract (19 + key) B.size = bs at V6 HREC hdoc hld ⊢
    cases X with
    | false =>
      obtain ⟨rfl, rfl, rfl⟩ := HBAD.out (hPX.1 hX)
      clear HBAD HGOOD HPL hPX hX hdoc
      unfold rarr at hld HREC
      go_wp2_with (refine wpList_load_any (by rfl) 28 (.tmp 11) rfl g 0 rfl _ hld ?_; simp only [Act.put])
      refine (HREC.out _).mono ?_
      rintro e w9 ⟨rfl, hb9⟩
      have V7 := Lib.hid (V6.out.below hb9)
      clear hb9 V6 HREC hld
      have hld := V7.out.out.1.load
      have HD := Lib.hid (V7.out.out.1.done zcells)
      have HP := Lib.hid V7.out.out.1.out.1
      clear V7
      go_wp2_with (first | (refine wpList_load_any (by rfl) 28 (.tmp 5) rfl (p + 1) 0 rfl _ hld ?_; simp only [Act.put]) | (refine wpList_store_whole rfl 28 (.tmp 2) (.tmp 105) rfl p zcells rfl rfl zcells HP.out info_rec rfl one_zero ?_; simp only [Act.put]))
      refine bodyPost_ret (results_rec3 Tryd.results17 rfl HD.out.1 rfl rfl rfl) rfl ⟨rfl, HD.out.2⟩
    | true =>
      obtain ⟨hR, hn0, hE0⟩ := HGOOD.out _ (hPX.2 hX)
      have hRR : Value.agg (rarr O T ks bs ((m : Int) % 4) (decide ((4 : Int) ≤ (m : Int)))) = ragg R := by
        rw [← hR, ← hdoc]
        unfold ragg
        rw [data_str, data_str]
      have HRR := Lib.hid hRR
      have HN0 : Hid (6 + (n : Int) = (n0 : Int)) := by show _ = _; omega
      have HE0 := Lib.hid hE0
      clear HBAD HGOOD HPL hPX hX hdoc hR hn0 hE0 hRR
      unfold rarr at hld HREC
      go_wp2_with (refine wpList_load_any (by rfl) 28 (.tmp 11) rfl g 0 rfl _ hld ?_; simp only [Act.put])
      refine (HREC.out _).mono ?_
      rintro e w9 ⟨rfl, hb9⟩
      have V7 := Lib.hid (V6.out.below hb9)
      clear hb9 V6 HREC hld
      have hld := V7.out.load rfl
      have HD := Lib.hid (V7.out.out.1.done (rarr O T ks bs ((m : Int) % 4) (decide ((4 : Int) ≤ (m : Int)))))
      have HP := Lib.hid V7.out.out.1.out.1
      clear V7
      go_wp2_with (first | (refine wpList_load_any (by rfl) 28 (.tmp 11) rfl g 0 rfl _ hld ?_; simp only [Act.put]) | (refine wpList_store_whole rfl 28 (.tmp 2) (.tmp 106) rfl p (rarr O T ks bs ((m : Int) % 4) (decide ((4 : Int) ≤ (m : Int)))) rfl rfl zcells HP.out info_rec rfl (one_arr _ _ _ _ _ _) ?_; simp only [Act.put]))
      refine bodyPost_ret (results_rec3 Tryd.results17 rfl HD.out.1 rfl rfl rfl) rfl ⟨?_, HD.out.2⟩
      rw [← HRR.out, ← HN0.out, ← HE0.out]
      rfl
  · have hne : ((F : Int) != (N : Int)) = true := by rw [bne_iff_ne]; omega
    have hne2 : ¬ (F : Int) = (N : Int) := by omega
    obtain ⟨rfl, rfl, rfl⟩ : zero = R ∧ 0 = n0 ∧ 8 = E := by
      rcases W.out with ⟨x, _⟩ | ⟨_, x, _⟩ | ⟨_, _, _, e⟩ | ⟨_, _, x, _⟩ | ⟨_, _, x, _⟩
      · omega
      · omega
      · have := e.symm.trans HH.out; injection this with e1 e2; injection e2 with e2 e3; exact ⟨e1, e2, e3⟩
      · exact absurd x c3
      · exact absurd x c3
    clear W HH hn hF hN hbd hl HT2 HT4 HS hbad hgood hBz
    go_wp2_with (first | (refine wpList_load_any (by rfl) 28 (.tmp 5) rfl (p + 1) 0 rfl _ hld ?_; simp only [Act.put]) | (refine wpList_store_whole rfl 28 (.tmp 2) (.tmp 53) rfl p zcells rfl rfl zcells HP.out info_rec rfl one_zero ?_; simp only [Act.put]))
    refine bodyPost_ret (results_rec3 Tryd.results17 rfl HD.out.1 rfl rfl rfl) rfl ⟨rfl, HD.out.2⟩
end Go.Proofs.YtimoncjdfmfojaaDoor
