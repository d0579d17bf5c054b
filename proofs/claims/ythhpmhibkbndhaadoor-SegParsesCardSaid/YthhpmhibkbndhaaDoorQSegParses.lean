/- For every script: package seg and the document's own answer tell the same segment that any bytes begin with, from any base on, and how many bytes it has. The table of sums is tied to the program's text. No condition. -/
import Derived.Deep.CutRange
import Derived.Test.YthhpmhibkbndhaaDoorCards
import Derived.SevenTiedAt
import Derived.Test.YthhpmhibkbndhaaDoorQ05
/- What the document's own answer reads out of a body, plainly. No run of a program is in this file. -/
namespace Go.Proofs.YthhpmhibkbndhaaDoor.Rcd
open Go.Lib Vbi Crc

/-- The record that a body of nineteen bytes or more tells, if it tells one. -/
def docR (B : List UInt8) (f key : Nat) : Rc := ⟨lng B, lng (B.drop 8), (B.drop 19).take key, B.drop (19 + key), ((f % 4 : Nat) : Int), decide (4 ≤ f)⟩
theorem parse_short {B : List UInt8} (h : B.length < 19) : ¬ (parse B).2 = 0 := by
  unfold parse p0
  by_cases c1 : B.length < 8
  · rw [if_pos c1]; decide
  · rw [if_neg c1]
    unfold p1
    by_cases c2 : (B.drop 8).length < 8
    · rw [if_pos c2]; decide
    · rw [if_neg c2]
      rw [List.length_drop] at c2
      rcases hd : (B.drop 8).drop 8 with _ | ⟨f, t⟩
      · show ¬ (7 : Int) = 0
        decide
      · have hl := congrArg List.length hd
        rw [List.length_drop, List.length_drop, List.length_cons] at hl
        rw [p2_cons]
        unfold p3
        rw [if_pos (by omega)]
        decide
theorem flags_low : ∀ f, f < 8 → f - 4 * (f / 4 % 2) = f % 4 ∧ decide (f / 4 % 2 = 1) = decide (4 ≤ f) := by decide
theorem parse_long {B : List UInt8} {f : UInt8} {key : Nat} (h : 19 ≤ B.length) (hf : B.drop 16 = f :: B.drop 17) (hk : fixVal ((B.drop 17).take 2) = key) :
    (7 < f.toNat → ¬ (parse B).2 = 0) ∧ (B.length - 19 < key → ¬ (parse B).2 = 0) ∧ (f.toNat ≤ 7 → key ≤ B.length - 19 → (mayB (docR B f.toNat key) = false → ¬ (parse B).2 = 0) ∧ (mayB (docR B f.toNat key) = true → parse B = (docR B f.toNat key, 0))) := by
  have hp : parse B = p3 (flagged { ({ zero with o := lng B } : Rc) with t := lng (B.drop 8) } f.toNat) (B.drop 17) := by
    unfold parse p0
    rw [if_neg (by omega)]
    unfold p1
    rw [if_neg (by rw [List.length_drop]; omega), List.drop_drop]
    show p2 _ (B.drop 16) = _
    rw [hf, p2_cons]
  have hl : (B.drop 17).length = B.length - 17 := List.length_drop
  unfold p3 at hp
  rw [hk, hl, if_neg (by omega)] at hp
  by_cases c1 : 1024 < key
  · rw [if_pos c1] at hp
    have hne : ¬ (parse B).2 = 0 := by rw [hp]; decide
    refine ⟨fun _ => hne, fun _ => hne, fun _ hk2 => ⟨fun _ => hne, fun hm => ?_⟩⟩
    have := (may_iff _).1 hm
    have h5 := this.2.2.2.2.1
    unfold docR at h5
    rw [List.length_take, List.length_drop] at h5
    omega
  · rw [if_neg c1] at hp
    by_cases c2 : B.length - 17 < 2 + key
    · rw [if_pos c2] at hp
      have hne : ¬ (parse B).2 = 0 := by rw [hp]; decide
      exact ⟨fun _ => hne, fun _ => hne, fun _ hk2 => by omega⟩
    · rw [if_neg c2, List.drop_drop, List.drop_drop, show 17 + (2 + key) = 19 + key by omega] at hp
      unfold p4 at hp
      refine ⟨fun h7 => ?_, fun hk2 => by omega, fun h7 _ => ?_⟩
      · rw [hp]
        show ¬ (if mayB _ then (0 : Int) else 1) = 0
        rw [if_neg ?_]
        · decide
        · intro hm
          have := ((may_iff _).1 hm).2.2.2.2.2.2.2.1
          unfold flagged at this
          simp only at this
          omega
      · obtain ⟨e1, e2⟩ := flags_low f.toNat (by omega)
        have hr : ({ ({ flagged { ({ zero with o := lng B } : Rc) with t := lng (B.drop 8) } f.toNat with k := (B.drop (17 + 2)).take key } : Rc) with b := B.drop (19 + key) } : Rc) = docR B f.toNat key := by
          unfold flagged docR
          simp only [e1, e2]
        rw [hr] at hp
        refine ⟨fun hm => ?_, fun hm => ?_⟩
        · rw [hp, hm]
          show ¬ (1 : Int) = 0
          decide
        · rw [hp, hm]; rfl
end Go.Proofs.YthhpmhibkbndhaaDoor.Rcd
/- The document's own answer: which record bytes begin with. -/
namespace Go.Proofs.YthhpmhibkbndhaaDoor
open Go.RowKit Go.Lib Vbi Rcd Crc

/-- The result's cell as it began, the zero record, and all that was there ahead of the call. -/
@[irreducible] def TW (w : World) (p : Nat) (W : World) : Prop := Blk W p zcells ∧ Blk W (p + 1) zcells ∧ Below w.heap.size w W ∧ w.heap.size ≤ p
section
variable {w W W' : World} {p : Nat}
theorem TW.mk (h : Blk W p zcells ∧ Blk W (p + 1) zcells ∧ Below w.heap.size w W ∧ w.heap.size ≤ p) : TW w p W := by unfold TW; exact h
theorem TW.out (h : TW w p W) : Blk W p zcells ∧ Blk W (p + 1) zcells ∧ Below w.heap.size w W ∧ w.heap.size ≤ p := by unfold TW at h; exact h
theorem TW.below (h : TW w p W) (hb : Below W.heap.size W W') : TW w p W' := by
  obtain ⟨h1, h2, h3, h4⟩ := h.out
  exact .mk ⟨h1.below hb, h2.below hb, h3.trans (hb.mono h3.size), h4⟩
theorem TW.start (w : World) : TW w w.heap.size (((w.alloc (.cells zcells 42)).alloc (.cells zcells 42)).setRow (w.heap.size + 1) zcells) := by
  have e0 := Blk.new w 42 zcells
  have z0 : (w.alloc (.cells zcells 42)).heap.size = w.heap.size + 1 := by simp
  have x0 : Below w.heap.size w (w.alloc (.cells zcells 42)) := (Below.refl _ _).alloc (Nat.le_refl _) _
  generalize w.alloc (.cells zcells 42) = w1 at e0 z0 x0 ⊢
  have e1 := Blk.new w1 42 zcells
  have e0' := e0.alloc (.cells zcells 42)
  have x1 : Below w.heap.size w (w1.alloc (.cells zcells 42)) := x0.alloc (by omega) _
  rw [z0] at e1
  exact .mk ⟨blk_row_far e0' (by omega) _, e1.row _, below_row x1 (by omega) _, Nat.le_refl _⟩
theorem TW.load (h : TW w p W) : (loadVar 42 ⟨p + 1, 0, none⟩).run Tryd.prog W = .ok (.agg zcells) W := load_blk h.out.2.1 rfl
theorem TW.done (h : TW w p W) (ds : Array Value) : Blk (W.setRow p ds) p ds ∧ Below w.heap.size w (W.setRow p ds) := ⟨h.out.1.row ds, below_row h.out.2.2.1 h.out.2.2.2 ds⟩
end
/-- The same, and the record so far. -/
@[irreducible] def TV (w : World) (p g : Nat) (cs : Array Value) (W : World) : Prop := TW w p W ∧ Blk W g cs ∧ p + 1 < g
section
variable {w W W' : World} {p g : Nat} {cs : Array Value}
theorem TV.mk (h : TW w p W ∧ Blk W g cs ∧ p + 1 < g) : TV w p g cs W := by unfold TV; exact h
theorem TV.out (h : TV w p g cs W) : TW w p W ∧ Blk W g cs ∧ p + 1 < g := by unfold TV at h; exact h
theorem TV.below (h : TV w p g cs W) (hb : Below W.heap.size W W') : TV w p g cs W' := .mk ⟨h.out.1.below hb, h.out.2.1.below hb, h.out.2.2⟩
theorem TV.put (h : TV w p g cs W) (i : Nat) (v : Value) : TV w p g (cs.setIfInBounds i v) (W.setCell ⟨g, i, none⟩ v) := by
  obtain ⟨h1, h2, h3⟩ := h.out
  obtain ⟨k1, k2, k3, k4⟩ := h1.out
  exact .mk ⟨.mk ⟨k1.far (by simp; omega) v, k2.far (by simp; omega) v, k3.setCell (p := ⟨g, i, none⟩) (show _ ≤ g by omega) v, k4⟩, h2.put i v, h3⟩
theorem TV.load (h : TV w p g cs W) (h6 : cs.size = 6) : (loadVar 42 ⟨g, 0, none⟩).run Tryd.prog W = .ok (.agg cs) W := load_blk h.out.2.1 h6
theorem TV.start (h : TW w p W) : TV w p W.heap.size zcells ((W.alloc (.cells zcells 42)).setRow W.heap.size zcells) := by
  have hb := Blk.new W 42 zcells
  have x0 : Below W.heap.size W (W.alloc (.cells zcells 42)) := (Below.refl _ _).alloc (Nat.le_refl _) _
  have x1 := below_row x0 (Nat.le_refl _) zcells
  exact .mk ⟨h.below x1, hb.row _, h.out.2.1.lt⟩
end
theorem u32_of (F : Nat) (h : F < 4294967296) : IntKind.u32.wrap (F : Int) = (F : Int) := by
  unfold IntKind.wrap
  simp [IntKind.bits, IntKind.signed]
  omega

set_option maxRecDepth 100000 in
set_option maxHeartbeats 16000000 in
/-- fairwayref10.Take. -/
theorem RTake_is (s : ByteArray) (R : Rc) (n0 : Nat) (E : Int) (w : World) (hm : s.size ≤ 1000000) (h : takeR s.data.toList = (R, n0, E)) :
    Calls Tryd.prog 52 #[.string s] w fun e w' => e = .returned (.tuple #[ragg R, .int .i64 (n0 : Int), .int .i64 E]) ∧ Below w.heap.size w w' := by
  have hl := size_list s
  obtain ⟨n, hn⟩ : ∃ n, fixVal (s.data.toList.take 2) = n := ⟨_, rfl⟩
  obtain ⟨F, hF⟩ : ∃ F, fixVal ((s.data.toList.drop 2).take 4) = F := ⟨_, rfl⟩
  obtain ⟨N, hN⟩ : ∃ N, sumN 0 (s.data.toList.take 2 ++ (s.data.toList.drop 6).take n) = N := ⟨_, rfl⟩
  have hn16 : n < 65536 := by rw [← hn]; exact fixVal_two _
  have hF32 : F < 4294967296 := by rw [← hF]; exact fixVal_lt _ 4 (by rw [List.length_take]; omega)
  have hN32 : N < 4294967296 := by rw [← hN]; exact sum_lt _ _
  have HU := u32_of F hF32
  have W := Lib.hid (take_ways s.data.toList n F N hn hF hN)
  have HH := Lib.hid h
  have hbd : (s.extract 6 (6 + n)).data.toList = (s.data.toList.drop 6).take n := ext_mid s 6 n
  have R0 := Lib.hid (TW.start w)
  obtain ⟨W0, hW⟩ : ∃ W0, (w.alloc (.cells zcells 42)).alloc (.cells zcells 42) = W0 := ⟨_, rfl⟩
  have hbn : Blk W0 (w.heap.size + 1) zcells := by
    rw [← hW]
    have := Blk.new (w.alloc (.cells zcells 42)) 42 zcells
    rwa [show (w.alloc (.cells zcells 42)).heap.size = w.heap.size + 1 by simp] at this
  rw [hW] at R0
  have HBN := Lib.hid hbn
  unfold zcells at hW
  have HW := Lib.hid hW
  clear hW hbn h
  go_enter Tryd.func52, Tryd.ntmps52
  go_upto_region 2 with (rw [HW.out]; refine wpList_store_whole rfl 42 (.tmp 5) (.tmp 15) rfl (w.heap.size + 1) zcells rfl rfl zcells HBN.out info_rec rfl one_zero ?_; simp only [Act.put])
  clear HW HBN
  generalize World.setRow _ _ _ = w1 at R0 ⊢
  obtain ⟨p, hp⟩ : ∃ p, w.heap.size = p := ⟨_, rfl⟩
  rw [hp] at R0
  rw [hp]
  clear hp
  have hld := R0.out.load
  have HD := Lib.hid (R0.out.done zcells)
  have HP := Lib.hid R0.out.out.1
  by_cases c1 : s.size < 6
  · have hd1 : decide ((s.size : Int) < 6) = true := by rw [decide_eq_true_eq]; omega
    obtain ⟨rfl, rfl, rfl⟩ : zero = R ∧ 0 = n0 ∧ 7 = E := by
      rcases W.out with ⟨_, e⟩ | ⟨x, _⟩ | ⟨x, _⟩ | ⟨x, _⟩ | ⟨x, _⟩
      · have := e.symm.trans HH.out; injection this with e1 e2; injection e2 with e2 e3; exact ⟨e1, e2, e3⟩
      all_goals omega
    clear W HH hn hF hN hbd hl
    go_wp2_with (first | (refine wpList_load_any (by rfl) 42 (.tmp 5) rfl (p + 1) 0 rfl _ hld ?_; simp only [Act.put]) | (refine wpList_store_whole rfl 42 (.tmp 2) (.tmp 19) rfl p zcells rfl rfl zcells HP.out info_rec rfl one_zero ?_; simp only [Act.put]))
    refine bodyPost_ret (results_rec3 Tryd.results52 rfl HD.out.1 rfl rfl rfl) rfl ⟨rfl, HD.out.2⟩
  have HT2 := Lib.hid (fun W => RTake_good 2 s n W (by omega) (by omega) (by omega) hn)
  have hd1 : decide ((s.size : Int) < 6) = false := by rw [decide_eq_false_iff_not]; omega
  by_cases c2 : s.size < 6 + n
  · have hd2 : decide ((s.size : Int) - 6 < (n : Int)) = true := by rw [decide_eq_true_eq]; omega
    obtain ⟨rfl, rfl, rfl⟩ : zero = R ∧ 0 = n0 ∧ 7 = E := by
      rcases W.out with ⟨x, _⟩ | ⟨_, _, e⟩ | ⟨_, x, _⟩ | ⟨_, x, _⟩ | ⟨_, x, _⟩
      · omega
      · have := e.symm.trans HH.out; injection this with e1 e2; injection e2 with e2 e3; exact ⟨e1, e2, e3⟩
      all_goals omega
    clear W HH hn hF hN hbd hl
    go_wp2_with fail
    refine (HT2.out _).mono ?_
    rintro e w2 ⟨rfl, rfl⟩
    go_wp2_with (first | (refine wpList_load_any (by rfl) 42 (.tmp 5) rfl (p + 1) 0 rfl _ hld ?_; simp only [Act.put]) | (refine wpList_store_whole rfl 42 (.tmp 2) (.tmp 30) rfl p zcells rfl rfl zcells HP.out info_rec rfl one_zero ?_; simp only [Act.put]))
    refine bodyPost_ret (results_rec3 Tryd.results52 rfl HD.out.1 rfl rfl rfl) rfl ⟨rfl, HD.out.2⟩
  have hd2 : decide ((s.size : Int) - 6 < (n : Int)) = false := by rw [decide_eq_false_iff_not]; omega
  have HT4 := Lib.hid (fun W => RTake_good 4 (s.extract 2 s.size) F W (by omega) (by rw [ByteArray.size_extract]; omega) (by rw [ByteArray.size_extract]; omega) (by rw [ext_drop s 2 (by omega)]; exact hF))
  have HS := Lib.hid (fun W => RSum_is 0 (s.extract 0 2 ++ s.extract 6 (6 + n)) N W (by omega) (by rw [ByteArray.size_append, ByteArray.size_extract, ByteArray.size_extract]; omega) (by rw [ByteArray.data_append, Array.toList_append, ext_take, ext_mid]; exact hN))
  have h2I : (2 : Int) ≤ (s.size : Int) := by omega
  have h6I : 6 + (n : Int) ≤ (s.size : Int) := by omega
  have h60 : (6 : Int) ≤ 6 + (n : Int) := by omega
  go_wp2_with fail
  refine (HT2.out _).mono ?_
  rintro e w2 ⟨rfl, rfl⟩
  go_wp2_with fail
  refine (HT4.out _).mono ?_
  rintro e w2 ⟨rfl, rfl⟩
  go_wp2_with fail
  refine (HS.out _).mono ?_
  rintro e w2 ⟨rfl, rfl⟩
  have hBz : (s.extract 6 (6 + n)).size = n := by rw [ByteArray.size_extract]; omega
  have hbad : F = N → ¬ (parse (s.extract 6 (6 + n)).data.toList).2 = 0 → zero = R ∧ 0 = n0 ∧ 8 = E := by
    intro e1 e2
    rw [hbd] at e2
    rcases W.out with ⟨x, _⟩ | ⟨_, x, _⟩ | ⟨_, _, x, _⟩ | ⟨_, _, _, _, e⟩ | ⟨_, _, _, x, _⟩
    · omega
    · omega
    · exact absurd e1 x
    · have := e.symm.trans HH.out; injection this with e1 e2; injection e2 with e2 e3; exact ⟨e1, e2, e3⟩
    · exact absurd x e2
  have hgood : F = N → ∀ r, parse (s.extract 6 (6 + n)).data.toList = (r, 0) → r = R ∧ 6 + n = n0 ∧ 0 = E := by
    intro e1 r e2
    rw [hbd] at e2
    rcases W.out with ⟨x, _⟩ | ⟨_, x, _⟩ | ⟨_, _, x, _⟩ | ⟨_, _, _, x, _⟩ | ⟨_, _, _, _, e⟩
    · omega
    · omega
    · exact absurd e1 x
    · rw [e2] at x; exact absurd rfl x
    · have := e.symm.trans HH.out; rw [e2] at this; injection this with e1 e2; injection e2 with e2 e3; exact ⟨e1, e2, e3⟩
  by_cases c3 : F = N
  · subst c3
    have hne : ((F : Int) != (F : Int)) = false := by simp
    have HBAD := Lib.hid (hbad rfl)
    have HGOOD := Lib.hid (hgood rfl)
    have HBZ := Lib.hid hBz
    clear hbad hgood W HH hn hF hN hbd hl HT2 HT4 HS hBz
    generalize s.extract 6 (6 + n) = B at HBAD HGOOD HBZ ⊢
    by_cases c4 : n < 19
    · have hd3 : decide ((n : Int) < 19) = true := by rw [decide_eq_true_eq]; omega
      obtain ⟨rfl, rfl, rfl⟩ := HBAD.out (parse_short (by rw [size_list, HBZ.out]; exact c4))
      clear HBAD HGOOD
      go_wp2_with (first | (refine wpList_load_any (by rfl) 42 (.tmp 5) rfl (p + 1) 0 rfl _ hld ?_; simp only [Act.put]) | (refine wpList_store_whole rfl 42 (.tmp 2) (.tmp 53) rfl p zcells rfl rfl zcells HP.out info_rec rfl one_zero ?_; simp only [Act.put]))
      refine bodyPost_ret (results_rec3 Tryd.results52 rfl HD.out.1 rfl rfl rfl) rfl ⟨rfl, HD.out.2⟩
    have hd3 : decide ((n : Int) < 19) = false := by rw [decide_eq_false_iff_not]; omega
    clear HD HP hld
    have V0 := Lib.hid (TV.start R0.out)
    have hbn := Blk.new w1 42 zcells
    obtain ⟨W4, hW4⟩ : ∃ W, w1.alloc (.cells zcells 42) = W := ⟨_, rfl⟩
    obtain ⟨g, hg⟩ : ∃ g, w1.heap.size = g := ⟨_, rfl⟩
    rw [hW4, hg] at V0 hbn
    have HBN := Lib.hid hbn
    unfold zcells at hW4
    have HW4 := Lib.hid hW4
    clear hbn hW4 R0
    go_upto_region 12 with (rw [HW4.out]; refine wpList_store_whole rfl 42 (.tmp 11) (.tmp 54) rfl g zcells rfl rfl zcells HBN.out info_rec rfl one_zero ?_; simp only [Act.put])
    clear HW4 HBN hg
    generalize World.setRow _ _ _ = w5 at V0 ⊢
    have hB19 : 19 ≤ B.size := by have := HBZ.out; omega
    have hBm : B.size ≤ 100000 := by have := HBZ.out; omega
    obtain ⟨O, hO⟩ : ∃ O, lng B.data.toList = O := ⟨_, rfl⟩
    obtain ⟨T, hT⟩ : ∃ T, lng (B.data.toList.drop 8) = T := ⟨_, rfl⟩
    obtain ⟨key, hkey⟩ : ∃ k, fixVal ((B.data.toList.drop 17).take 2) = k := ⟨_, rfl⟩
    have hkey16 : key < 65536 := by rw [← hkey]; exact fixVal_two _
    have h8I : (8 : Int) ≤ (B.size : Int) := by omega
    have h17I : (17 : Int) ≤ (B.size : Int) := by omega
    have h16I : (16 : Int) < (B.size : Int) := by omega
    have h16 : 16 < B.size := by omega
    have HO := Lib.hid (fun W => RTake8_is B O W (by omega) (by omega) hO)
    have HT := Lib.hid (fun W => RTake8_is (B.extract 8 B.size) T W (by rw [ByteArray.size_extract]; omega) (by rw [ByteArray.size_extract]; omega) (by rw [ext_drop B 8 (by omega)]; exact hT))
    have HK := Lib.hid (fun W => RTake_good 2 (B.extract 17 B.size) key W (by omega) (by rw [ByteArray.size_extract]; omega) (by rw [ByteArray.size_extract]; omega) (by rw [ext_drop B 17 (by omega)]; exact hkey))
    have hfd := data_at B 16 h16
    have hf256 : (B[16]'h16).toNat < 256 := (B[16]'h16).toNat_lt
    have HPL := Lib.hid (parse_long (B := B.data.toList) (by rw [size_list]; exact hB19) hfd hkey)
    have HO2 := Lib.hid hO.symm
    have HT2' := Lib.hid hT.symm
    clear hfd hkey hO hT
    have d0 : w5.cell? ⟨g, 0, none⟩ = some (.int .i64 0) := V0.out.out.2.1.cell 0
    have f0 := V0.out.out.2.1.frozen 0
    go_wp2_with fail
    refine (HO.out _).mono ?_
    rintro e w6 ⟨rfl, rfl⟩
    have V1 := Lib.hid (V0.out.put 0 (.int .i64 O))
    go_upto_region 13 with fail
    clear d0 f0 V0 HO
    generalize World.setCell _ _ _ = w6 at V1 ⊢
    have d1 : w6.cell? ⟨g, 1, none⟩ = some (.int .i64 0) := V1.out.out.2.1.cell 1
    have f1 := V1.out.out.2.1.frozen 1
    go_wp2_with fail
    refine (HT.out _).mono ?_
    rintro e w7 ⟨rfl, rfl⟩
    have V2 := Lib.hid (V1.out.put 1 (.int .i64 T))
    go_upto_region 14 with fail
    clear d1 f1 V1 HT
    generalize World.setCell _ _ _ = w7 at V2 ⊢
    go_wp2_with fail
    refine (HK.out _).mono ?_
    rintro e w8 ⟨rfl, rfl⟩
    clear HK
    generalize B[16]'h16 = f at HPL hf256 ⊢
    generalize f.toNat = m at HPL hf256 ⊢
    by_cases c7 : 7 < m
    · obtain ⟨rfl, rfl, rfl⟩ := HBAD.out (HPL.out.1 c7)
      have hd4 : decide ((7 : Int) < (m : Int)) = true := by rw [decide_eq_true_eq]; omega
      have hd5 : decide (7 < m) = true := by rw [decide_eq_true_eq]; omega
      have hld := V2.out.out.1.load
      have HD := Lib.hid (V2.out.out.1.done zcells)
      have HP := Lib.hid V2.out.out.1.out.1
      clear HBAD HGOOD HPL V2
      go_wp2_with (first | (refine wpList_load_any (by rfl) 42 (.tmp 5) rfl (p + 1) 0 rfl _ hld ?_; simp only [Act.put]) | (refine wpList_store_whole rfl 42 (.tmp 2) (.tmp 85) rfl p zcells rfl rfl zcells HP.out info_rec rfl one_zero ?_; simp only [Act.put]))
      refine bodyPost_ret (results_rec3 Tryd.results52 rfl HD.out.1 rfl rfl rfl) rfl ⟨rfl, HD.out.2⟩
    have hd4 : decide ((7 : Int) < (m : Int)) = false := by rw [decide_eq_false_iff_not]; omega
    have hd5 : decide (7 < m) = false := by rw [decide_eq_false_iff_not]; omega
    by_cases c8 : n - 19 < key
    · obtain ⟨rfl, rfl, rfl⟩ := HBAD.out (HPL.out.2.1 (by rw [size_list, HBZ.out]; exact c8))
      have hd6 : decide ((n : Int) - 19 < (key : Int)) = true := by rw [decide_eq_true_eq]; omega
      have hld := V2.out.out.1.load
      have HD := Lib.hid (V2.out.out.1.done zcells)
      have HP := Lib.hid V2.out.out.1.out.1
      clear HBAD HGOOD HPL V2
      go_wp2_with (first | (refine wpList_load_any (by rfl) 42 (.tmp 5) rfl (p + 1) 0 rfl _ hld ?_; simp only [Act.put]) | (refine wpList_store_whole rfl 42 (.tmp 2) (.tmp 85) rfl p zcells rfl rfl zcells HP.out info_rec rfl one_zero ?_; simp only [Act.put]))
      refine bodyPost_ret (results_rec3 Tryd.results52 rfl HD.out.1 rfl rfl rfl) rfl ⟨rfl, HD.out.2⟩
    have hd6 : decide ((n : Int) - 19 < (key : Int)) = false := by rw [decide_eq_false_iff_not]; omega
    have d4 : w7.cell? ⟨g, 4, none⟩ = some (.int .i64 0) := V2.out.out.2.1.cell 4
    have f4 := V2.out.out.2.1.frozen 4
    have d5 : w7.cell? ⟨g, 5, none⟩ = some (.bool false) := V2.out.out.2.1.cell 5
    have f5 := V2.out.out.2.1.frozen 5
    have V3 := Lib.hid ((V2.out.put 4 (.int .i64 ((m : Int) % 4))).put 5 (.bool (decide ((4 : Int) ≤ (m : Int)))))
    go_upto_region 19 with fail
    simp only [List.setIfInBounds_toArray, List.set_cons_zero, List.set_cons_succ, zcells] at V3
    clear d4 f4 d5 f5 V2
    generalize World.setCell (World.setCell _ _ _) _ _ = w8 at V3 ⊢
    have V4 := Lib.hid (V3.out.below (below_drewN (Below.refl _ _) 1))
    clear V3
    refine wp_region_held_drew (S := fun _ => True) (by kernel_rfl) trivial (fun hS => ?_)
    change wpAnyH _ _ _ _ _ _ _ _ (w8.drewN 1)
    generalize w8.drewN 1 = Wd at V4 ⊢
    have hkI : 19 + (key : Int) ≤ (B.size : Int) := by have := HBZ.out; omega
    have hk0 : (19 : Int) ≤ 19 + (key : Int) := by omega
    have hk1 : (0 : Int) ≤ 19 + (key : Int) := by omega
    have hk2 : (19 + (key : Int)).toNat = 19 + key := by omega
    have hkw : IntKind.i64.wrap (19 + (key : Int)) = 19 + (key : Int) := IntWalk.i64_in _ (by omega)
    refine take_op 0 92 ?v0 rfl rfl (by kernel_rfl) (fun _ _ _ h => h) (by rfl) trivial (fun w' hS' => ?hv0) ?hh0
    case hv0 => (go_simp; (try with_reducible rfl); (try omega))
    simp only [Act.put, List.setIfInBounds_toArray, List.set_cons_zero, List.set_cons_succ]
    refine take_op 1 93 ?v1 rfl rfl (by kernel_rfl) (fun _ _ _ h => h) (by rfl) trivial (fun w' hS' => ?hv1) ?hh1
    case hv1 => (go_simp; (try with_reducible rfl); (try omega))
    simp only [Act.put, List.setIfInBounds_toArray, List.set_cons_zero, List.set_cons_succ]
    refine take_op 2 94 ?v2 rfl rfl (by kernel_rfl) (fun _ _ _ h => h) (by rfl) trivial (fun w' hS' => ?hv2) ?hh2
    case hv2 => (go_simp; (try with_reducible rfl); (try omega))
    simp only [Act.put, List.setIfInBounds_toArray, List.set_cons_zero, List.set_cons_succ]
    refine take_op 3 95 (.string (B.extract 19 (19 + key))) rfl rfl (by kernel_rfl) (fun _ _ _ h => h) (by rfl) trivial (fun w' hS' => ?hv3) ?hh3
    case hv3 => (go_simp; (try with_reducible rfl); (try omega))
    simp only [Act.put, List.setIfInBounds_toArray, List.set_cons_zero, List.set_cons_succ]
    refine take_op 4 96 ?v4 rfl rfl (by kernel_rfl) (fun _ _ _ h => h) (by rfl) trivial (fun w' hS' => ?hv4) ?hh4
    case hv4 => (go_simp; (try with_reducible rfl); (try omega))
    simp only [Act.put, List.setIfInBounds_toArray, List.set_cons_zero, List.set_cons_succ]
    refine take_op 5 97 ?v5 rfl rfl (by kernel_rfl) (fun _ _ _ h => h) (by rfl) trivial (fun w' hS' => ?hv5) ?hh5
    case hv5 => (go_simp; (try with_reducible rfl); (try omega))
    simp only [Act.put, List.setIfInBounds_toArray, List.set_cons_zero, List.set_cons_succ]
    refine take_op 6 98 ?v6 rfl rfl (by kernel_rfl) (fun _ _ _ h => h) (by rfl) trivial (fun w' hS' => ?hv6) ?hh6
    case hv6 => (go_simp; (try with_reducible rfl); (try omega))
    simp only [Act.put, List.setIfInBounds_toArray, List.set_cons_zero, List.set_cons_succ]
    refine take_op 7 99 (.string (B.extract (19 + key) B.size)) rfl rfl (by kernel_rfl) (fun _ _ _ h => h) (by rfl) trivial (fun w' hS' => ?hv7) ?hh7
    case hv7 => (go_simp; (try with_reducible rfl); (try omega))
    simp only [Act.put, List.setIfInBounds_toArray, List.set_cons_zero, List.set_cons_succ]
    refine take_op 8 100 ?v8 rfl rfl (by kernel_rfl) (fun _ _ _ h => h) (by rfl) trivial (fun w' hS' => ?hv8) ?hh8
    case hv8 => (go_simp; (try with_reducible rfl); (try omega))
    simp only [Act.put, List.setIfInBounds_toArray, List.set_cons_zero, List.set_cons_succ]
    have d2 : Wd.cell? ⟨g, 2, none⟩ = some (.string ⟨#[]⟩) := V4.out.out.2.1.cell 2
    have f2 := V4.out.out.2.1.frozen 2
    have V5 := Lib.hid (V4.out.put 2 (.string (B.extract 19 (19 + key))))
    refine only_op 9 rfl (by kernel_rfl) (by rfl) (wp_store_none 9 (.tmp 100) (.tmp 95) rfl rfl _ _ rfl rfl (by go_simp; try rfl) ⟨trivial, ?_⟩)
    clear d2 f2 V4
    generalize World.setCell _ _ _ = wy at V5 ⊢
    refine take_op 10 101 ?v10 rfl rfl (by kernel_rfl) (fun _ _ _ h => h) (by rfl) trivial (fun w' hS' => ?hv10) ?hh10
    case hv10 => (go_simp; (try with_reducible rfl); (try omega))
    simp only [Act.put, List.setIfInBounds_toArray, List.set_cons_zero, List.set_cons_succ]
    have d3 : wy.cell? ⟨g, 3, none⟩ = some (.string ⟨#[]⟩) := V5.out.out.2.1.cell 3
    have f3 := V5.out.out.2.1.frozen 3
    have V6 := Lib.hid (V5.out.put 3 (.string (B.extract (19 + key) B.size)))
    refine only_op 11 rfl (by kernel_rfl) (by rfl) (wp_store_none 9 (.tmp 101) (.tmp 99) rfl rfl _ _ rfl rfl (by go_simp; try rfl) ⟨trivial, ?_⟩)
    clear d3 f3 V5
    generalize World.setCell _ _ _ = wz at V6 ⊢
    refine wpAnyH_done (by kernel_rfl) ?_ _
    simp only [List.setIfInBounds_toArray, List.set_cons_zero, List.set_cons_succ] at V6
    have V6 : Hid (TV w p g (rarr O T (B.extract 19 (19 + key)) (B.extract (19 + key) B.size) ((m : Int) % 4) (decide ((4 : Int) ≤ (m : Int)))) wz) := V6
    obtain ⟨X, hX⟩ : ∃ X, mayB ⟨O, T, (B.extract 19 (19 + key)).data.toList, (B.extract (19 + key) B.size).data.toList, (m : Int) % 4, decide ((4 : Int) ≤ (m : Int))⟩ = X := ⟨_, rfl⟩
    have HREC := Lib.hid (fun W => RRec_parts O T (B.extract 19 (19 + key)) (B.extract (19 + key) B.size) ((m : Int) % 4) (decide ((4 : Int) ≤ (m : Int))) X W hX)
    have hdoc : (⟨O, T, (B.extract 19 (19 + key)).data.toList, (B.extract (19 + key) B.size).data.toList, (m : Int) % 4, decide ((4 : Int) ≤ (m : Int))⟩ : Rc) = docR B.data.toList m key := by
      unfold docR
      rw [HO2.out, HT2'.out, ext_mid, ext_drop B (19 + key) (by have := HBZ.out; omega)]
      congr 1
      exact decide_eq_decide.2 (by omega)
    rw [hdoc] at hX
    have hPX := HPL.out.2.2 (by omega) (by rw [size_list, HBZ.out]; omega)
    have hld := V6.out.load rfl
    generalize B.extract 19 (19 + key) = ks at V6 HREC hdoc hld ⊢
    generalize B.extract (19 + key) B.size = bs at V6 HREC hdoc hld ⊢
    cases X with
    | false =>
      obtain ⟨rfl, rfl, rfl⟩ := HBAD.out (hPX.1 hX)
      clear HBAD HGOOD HPL hPX hX hdoc
      unfold rarr at hld HREC
      go_wp2_with (refine wpList_load_any (by rfl) 42 (.tmp 11) rfl g 0 rfl _ hld ?_; simp only [Act.put])
      refine (HREC.out _).mono ?_
      rintro e w9 ⟨rfl, hb9⟩
      have V7 := Lib.hid (V6.out.below hb9)
      clear hb9 V6 HREC hld
      have hld := V7.out.out.1.load
      have HD := Lib.hid (V7.out.out.1.done zcells)
      have HP := Lib.hid V7.out.out.1.out.1
      clear V7
      go_wp2_with (first | (refine wpList_load_any (by rfl) 42 (.tmp 5) rfl (p + 1) 0 rfl _ hld ?_; simp only [Act.put]) | (refine wpList_store_whole rfl 42 (.tmp 2) (.tmp 105) rfl p zcells rfl rfl zcells HP.out info_rec rfl one_zero ?_; simp only [Act.put]))
      refine bodyPost_ret (results_rec3 Tryd.results52 rfl HD.out.1 rfl rfl rfl) rfl ⟨rfl, HD.out.2⟩
    | true =>
      obtain ⟨hR, hn0, hE0⟩ := HGOOD.out _ (hPX.2 hX)
      have hRR : Value.agg (rarr O T ks bs ((m : Int) % 4) (decide ((4 : Int) ≤ (m : Int)))) = ragg R := by
        rw [← hR, ← hdoc]
        unfold ragg
        rw [data_str, data_str]
      have HRR := Lib.hid hRR
      have HN0 : Hid (6 + (n : Int) = (n0 : Int)) := by show _ = _; omega
      have HE0 := Lib.hid hE0
      clear HBAD HGOOD HPL hPX hX hdoc hR hn0 hE0 hRR
      unfold rarr at hld HREC
      go_wp2_with (refine wpList_load_any (by rfl) 42 (.tmp 11) rfl g 0 rfl _ hld ?_; simp only [Act.put])
      refine (HREC.out _).mono ?_
      rintro e w9 ⟨rfl, hb9⟩
      have V7 := Lib.hid (V6.out.below hb9)
      clear hb9 V6 HREC hld
      have hld := V7.out.load rfl
      have HD := Lib.hid (V7.out.out.1.done (rarr O T ks bs ((m : Int) % 4) (decide ((4 : Int) ≤ (m : Int)))))
      have HP := Lib.hid V7.out.out.1.out.1
      clear V7
      go_wp2_with (first | (refine wpList_load_any (by rfl) 42 (.tmp 11) rfl g 0 rfl _ hld ?_; simp only [Act.put]) | (refine wpList_store_whole rfl 42 (.tmp 2) (.tmp 106) rfl p (rarr O T ks bs ((m : Int) % 4) (decide ((4 : Int) ≤ (m : Int)))) rfl rfl zcells HP.out info_rec rfl (one_arr _ _ _ _ _ _) ?_; simp only [Act.put]))
      refine bodyPost_ret (results_rec3 Tryd.results52 rfl HD.out.1 rfl rfl rfl) rfl ⟨?_, HD.out.2⟩
      rw [← HRR.out, ← HN0.out, ← HE0.out]
      rfl
  · have hne : ((F : Int) != (N : Int)) = true := by rw [bne_iff_ne]; omega
    have hne2 : ¬ (F : Int) = (N : Int) := by omega
    obtain ⟨rfl, rfl, rfl⟩ : zero = R ∧ 0 = n0 ∧ 8 = E := by
      rcases W.out with ⟨x, _⟩ | ⟨_, x, _⟩ | ⟨_, _, _, e⟩ | ⟨_, _, x, _⟩ | ⟨_, _, x, _⟩
      · omega
      · omega
      · have := e.symm.trans HH.out; injection this with e1 e2; injection e2 with e2 e3; exact ⟨e1, e2, e3⟩
      · exact absurd x c3
      · exact absurd x c3
    clear W HH hn hF hN hbd hl HT2 HT4 HS hbad hgood hBz
    go_wp2_with (first | (refine wpList_load_any (by rfl) 42 (.tmp 5) rfl (p + 1) 0 rfl _ hld ?_; simp only [Act.put]) | (refine wpList_store_whole rfl 42 (.tmp 2) (.tmp 53) rfl p zcells rfl rfl zcells HP.out info_rec rfl one_zero ?_; simp only [Act.put]))
    refine bodyPost_ret (results_rec3 Tryd.results52 rfl HD.out.1 rfl rfl rfl) rfl ⟨rfl, HD.out.2⟩
end Go.Proofs.YthhpmhibkbndhaaDoor
/- Records that a reader hands back. -/
namespace Go.Proofs.YthhpmhibkbndhaaDoor
open Go.RowKit Go.Lib Vbi Rcd Crc

/-- Records in a row of the call's own, how many bytes they have, whether that is all. -/
def GivesScan (L : List Rc) (at_ : Nat) (all : Bool) (w : World) (e : Ending) (w' : World) : Prop :=
  ∃ A c, e = .returned (.tuple #[.slice A L.length c, .int .i64 (at_ : Int), .bool all]) ∧ w'.ownsRow w.heap.size 42 6 (.slice A L.length c) L.length (flat L) ∧ Below w.heap.size w w'

end Go.Proofs.YthhpmhibkbndhaaDoor
/- The document's own answer: records one behind the other; bytes with the right sum put into them. -/
namespace Go.Proofs.YthhpmhibkbndhaaDoor
open Go.RowKit Go.Lib Vbi Rcd Crc

set_option maxRecDepth 100000 in
set_option maxHeartbeats 8000000 in
/-- fairwayref10.Scan. -/
theorem RScan_is (s : ByteArray) (L : List Rc) (at_ : Nat) (all : Bool) (w : World) (hm : s.size ≤ 1000000) (h : scan s.data.toList = (L, at_, all)) :
    Calls Tryd.prog 40 #[.string s] w (GivesScan L at_ all w) := by
  obtain ⟨i0, hi, hz0, hz1, hz2⟩ := info_parts info_more
  have HF := Lib.hid (fun (k : Nat) r n E W (hV : takeR (s.extract k s.size).data.toList = (r, n, E)) => RTake_is (s.extract k s.size) r n E W (by rw [ByteArray.size_extract]; omega) hV)
  have H := Lib.hid h
  have hl := size_list s
  have HL := Lib.hid hl
  clear h hl
  go_enter Tryd.func40, Tryd.ntmps40
  go_wp2_with fail
  go_loopw [5, 6] (fun v kv wr => ∃ (k : Nat) (rs : List Rc) (A : Option Addr) (c : Nat), v = .slice A rs.length c ∧ kv = .int .i64 (k : Int) ∧ k ≤ s.size ∧ rs.length ≤ k ∧ wr.ownsRow w.heap.size 42 6 (.slice A rs.length c) rs.length (flat rs) ∧ Below w.heap.size w wr ∧
    (rs ++ (scan (s.data.toList.drop k)).1, k + (scan (s.data.toList.drop k)).2.1, (scan (s.data.toList.drop k)).2.2) = (L, at_, all)) (fun _ kv _ => s.size - (RowKit.intOf kv).toNat)
  case atStart => exact ⟨0, [], none, 0, rfl, rfl, Nat.zero_le _, Nat.le_refl _, World.ownsRow_nil _ _ _ _, Below.refl _ _, by rw [List.drop_zero, H.out]; simp⟩
  case round =>
    obtain ⟨k, rs, A, c, rfl, rfl, hk, hrk, hown, hbw, hrel⟩ := hrel
    have HR := Lib.hid hrel
    have HO := Lib.hid hown
    have HB := Lib.hid hbw
    clear hrel hown hbw
    by_cases hlt : k < s.size
    · have hltI : (k : Int) ≤ (s.size : Int) := by omega
      have hltI2 : (k : Int) < (s.size : Int) := by omega
      obtain ⟨r, n, E, hT⟩ : ∃ r n E, takeR (s.data.toList.drop k) = (r, n, E) := ⟨_, _, _, rfl⟩
      have hex := ext_drop s k (by omega)
      have HF1 := Lib.hid (HF.out k r n E wr (by rw [hex, hT]))
      unfold ragg at HF1
      have hgen : ∀ (o t : Int) (ks bs : ByteArray) (q : Int) (g : Bool) (w1 : World), Below wr.heap.size wr w1 → ∃ g9 W4, w1.heap.size = g9 ∧ w1.alloc (.cells zcells 42) = W4 ∧ Blk W4 g9 zcells ∧ Below w.heap.size w (W4.setRow g9 (rarr o t ks bs q g)) ∧ (W4.setRow g9 (rarr o t ks bs q g)).ownsRow w.heap.size 42 6 (.slice A rs.length c) rs.length (flat rs) ∧ Blk (W4.setRow g9 (rarr o t ks bs q g)) g9 (rarr o t ks bs q g) ∧ (∀ j, (Value.slice A rs.length c).ownBlock = some j → j < g9) := by
        intro o t ks bs q g w1 hb1
        have HB1 := HB.out.trans (hb1.mono HB.out.size)
        have HO1 := own_below HO.out hb1
        have hbn := Blk.new w1 42 zcells
        have hbl : Below w1.heap.size w1 (w1.alloc (.cells zcells 42)) := (Below.refl _ _).alloc (Nat.le_refl _) _
        have hb5 := below_row hbl (Nat.le_refl _) (rarr o t ks bs q g)
        exact ⟨_, _, rfl, rfl, hbn, HB1.trans (hb5.mono HB1.size), own_below HO1 hb5, hbn.row _, fun j hj => (HO1.lt j hj).2⟩
      have HGEN := Lib.hid hgen
      by_cases h0 : E = 0
      · subst h0
        have hsz := take_size (l := s.data.toList.drop k) (by rw [hT])
        rw [hT, List.length_drop, HL.out] at hsz
        dsimp only at hsz
        have hsc := scan_next hT rfl
        rw [List.drop_drop] at hsc
        have HR2 : Hid (((rs ++ [r]) ++ (scan (s.data.toList.drop (k + n))).1, (k + n) + (scan (s.data.toList.drop (k + n))).2.1, (scan (s.data.toList.drop (k + n))).2.2) = (L, at_, all)) := by
          show _ = _
          rw [← HR.out, hsc]
          simp [Nat.add_assoc]
        obtain ⟨o, t, key, bod, q, g⟩ := r
        dsimp only at HF1
        have hfc : rcells ⟨o, t, key, bod, q, g⟩ = [.int .i64 o, .int .i64 t, .string (str key), .string (str bod), .int .i64 q, .bool g] := rfl
        have HS : Hid (flat (rs ++ [⟨o, t, key, bod, q, g⟩]) = flat rs ++ rcells ⟨o, t, key, bod, q, g⟩) := flat_snoc _ _
        rw [hfc] at HS
        have hon : ∀ u ∈ rcells ⟨o, t, key, bod, q, g⟩, u.oneCell' = true := one_cells _
        rw [hfc] at hon
        have HON := Lib.hid hon
        clear hT hsc hex hfc hon HR hgen
        generalize str key = ks at HF1 HS HON
        generalize str bod = bs at HF1 HS HON
        unfold rarr at HF1
        go_wp2_with fail
        refine HF1.out.mono ?_
        rintro e w1 ⟨rfl, hb1⟩
        obtain ⟨g9, W4, hg9, hW4, hbn, hb5, ho5, hG5, hlt9⟩ := HGEN.out o t ks bs q g w1 hb1
        have HB5 := Lib.hid hb5
        have HO5 := Lib.hid ho5
        have HG5 := Lib.hid hG5
        have HBN := Lib.hid hbn
        have HLT := Lib.hid hlt9
        unfold zcells at hW4
        have HW4 := Lib.hid hW4
        clear hb1 hbn hb5 ho5 hG5 hlt9 hW4 HF1 HGEN HO HB
        unfold rarr at HB5 HO5 HG5
        go_upto_region 7 with (rw [HW4.out]; refine wpList_store_whole rfl 42 (.tmp 7) (.tmp 19) rfl g9 _ rfl rfl _ HBN.out info_rec rfl (by simp [Value.oneCell']) ?_; simp only [Act.put])
        clear HW4 HBN hg9
        generalize World.setRow _ _ _ = w5 at HB5 HO5 HG5 ⊢
        have hld := load_blk HG5.out rfl
        have hgl := HG5.out.lt
        have hsz5 := HB5.out.size
        go_wp2_with (first | (refine wpList_load_any (by rfl) 42 (.tmp 7) rfl g9 0 rfl _ hld ?_; simp only [Act.put]) | (at_builtin; refine wpList_append_own _ rfl _ _ 22 rfl w.heap.size 42 i0 (.agg zcells) 6 64 Tryd.underlying22 hi hz0 hz1 hz2 rfl (by decide) _ _ _ rfl (HO5.out.alloc _) ⟨w5.heap.size, 0, none⟩ 1 1 [.int .i64 o, .int .i64 t, .string ks, .string bs, .int .i64 q, .bool g] rfl rfl ?c1 ?c2 ?c3 ?c4 ?c5 ?_))
        case c1 => exact fun j u h => cells_new w5 _ [.int .i64 o, .int .i64 t, .string ks, .string bs, .int .i64 q, .bool g] j u h
        case c2 => exact HON.out
        case c3 => unfold maxLen; omega
        case c4 => omega
        case c5 => simp; omega
        intro v' w3 hown' hgrow _
        have hnx := HB5.out.trans (below_alloc_grown hsz5 HO5.out hgrow)
        have hown2 : w3.ownsRow w.heap.size 42 6 v' (rs ++ [(⟨o, t, key, bod, q, g⟩ : Rc)]).length (flat (rs ++ [⟨o, t, key, bod, q, g⟩])) := by
          rw [HS.out, List.length_append]; exact hown'
        obtain ⟨A', c', rfl⟩ := own_slice hown2
        have HO6 := Lib.hid hown2
        have HB6 := Lib.hid hnx
        clear hown' hgrow hnx hown2 HS HON HLT hld HG5 HO5 HB5
        have hknI : (k : Int) + (n : Int) ≤ 1000000 := by omega
        go_wp2_with fail
        go_roundw
        case rel => exact ⟨k + n, rs ++ [⟨o, t, key, bod, q, g⟩], A', c', rfl, by rw [show ((k : Int) + (n : Int)) = ((k + n : Nat) : Int) by omega], by omega, by rw [List.length_append]; show _ + 1 ≤ _; omega, HO6.out, HB6.out, HR2.out⟩
        case measure => simp [RowKit.intOf]; omega
      · have hsc := scan_stop (l := s.data.toList.drop k) (by rw [List.length_drop, HL.out]; omega) (by rw [hT]; exact h0)
        have hres : rs = L ∧ k = at_ ∧ false = all := by
          have := HR.out
          rw [hsc] at this
          simp only [List.append_nil, Nat.add_zero] at this
          injection this with e1 e2
          injection e2 with e2 e3
          exact ⟨e1, e2, e3⟩
        obtain ⟨rfl, rfl, rfl⟩ := hres
        have hE : (E != 0) = true := by rw [bne_iff_ne]; exact h0
        obtain ⟨o, t, key, bod, q, g⟩ := r
        dsimp only at HF1
        clear hT hsc hex HR hgen
        generalize str key = ks at HF1
        generalize str bod = bs at HF1
        unfold rarr at HF1
        go_wp2_with fail
        refine HF1.out.mono ?_
        rintro e w1 ⟨rfl, hb1⟩
        obtain ⟨g9, W4, hg9, hW4, hbn, hb5, ho5, hG5, hlt9⟩ := HGEN.out o t ks bs q g w1 hb1
        have HB5 := Lib.hid hb5
        have HO5 := Lib.hid ho5
        have HBN := Lib.hid hbn
        unfold zcells at hW4
        have HW4 := Lib.hid hW4
        clear hb1 hbn hb5 ho5 hG5 hlt9 hW4 HF1 HGEN HO HB
        unfold rarr at HB5 HO5
        go_upto_region 6 with (rw [HW4.out]; refine wpList_store_whole rfl 42 (.tmp 7) (.tmp 19) rfl g9 _ rfl rfl _ HBN.out info_rec rfl (by simp [Value.oneCell']) ?_; simp only [Act.put])
        clear HW4 HBN hg9
        generalize World.setRow _ _ _ = w5 at HB5 HO5 ⊢
        go_wp2_with fail
        go_ret3
        exact ⟨A, c, rfl, HO5.out, HB5.out⟩
    · obtain rfl : k = s.size := by omega
      have hres : rs = L ∧ s.size = at_ ∧ true = all := by
        have := HR.out
        rw [List.drop_of_length_le (by rw [HL.out]; exact Nat.le_refl _), scan_nil] at this
        simp only [List.append_nil, Nat.add_zero] at this
        injection this with e1 e2
        injection e2 with e2 e3
        exact ⟨e1, e2, e3⟩
      obtain ⟨rfl, rfl, rfl⟩ := hres
      clear HR
      go_wp2_with fail
      go_ret3
      exact ⟨A, c, rfl, HO.out, HB.out⟩
end Go.Proofs.YthhpmhibkbndhaaDoor
/- The document's own answer: the segment that bytes begin with. -/
namespace Go.Proofs.YthhpmhibkbndhaaDoor
open Go.RowKit Go.Lib Vbi Rcd Crc

/-- The segment so far in its box, its records in a row of the call's own; all that was there ahead. -/
@[irreducible] def RP (w : World) (q : Nat) (b : Int) (rs : List Rc) (A : Option Addr) (c : Nat) (W : World) : Prop := SBlk W q #[.int .i64 b, .slice A rs.length c] ∧ W.ownsRow w.heap.size 42 6 (.slice A rs.length c) rs.length (flat rs) ∧ Below w.heap.size w W ∧ w.heap.size ≤ q
section
variable {w W W' : World} {q : Nat} {b : Int} {rs : List Rc} {A : Option Addr} {c : Nat}
theorem RP.mk (h : SBlk W q #[.int .i64 b, .slice A rs.length c] ∧ W.ownsRow w.heap.size 42 6 (.slice A rs.length c) rs.length (flat rs) ∧ Below w.heap.size w W ∧ w.heap.size ≤ q) : RP w q b rs A c W := by unfold RP; exact h
theorem RP.out (h : RP w q b rs A c W) : SBlk W q #[.int .i64 b, .slice A rs.length c] ∧ W.ownsRow w.heap.size 42 6 (.slice A rs.length c) rs.length (flat rs) ∧ Below w.heap.size w W ∧ w.heap.size ≤ q := by unfold RP at h; exact h
theorem RP.below (h : RP w q b rs A c W) (hb : Below W.heap.size W W') : RP w q b rs A c W' := by
  obtain ⟨h1, h2, h3, h4⟩ := h.out
  exact .mk ⟨h1.below hb, own_below h2 hb, h3.trans (hb.mono h3.size), h4⟩
theorem RP.drewN (h : RP w q b rs A c W) (n : Nat) : RP w q b rs A c (W.drewN n) := h.below (below_drewN (Below.refl _ _) n)
theorem RP.bel (h : RP w q b rs A c W) : Below w.heap.size w W := h.out.2.2.1
theorem RP.recs (h : RP w q b rs A c W) : RecsAt W W.heap.size A rs := .of_own h.out.2.1
theorem RP.load (h : RP w q b rs A c W) : (loadVar 24 ⟨q, 0, none⟩).run Tryd.prog W = .ok (.agg #[.int .i64 b, .slice A rs.length c]) W := load_seg h.out.1.blk rfl
theorem RP.start (w : World) (b : Int) : RP w w.heap.size b [] none 0 ((w.alloc (.cells #[.int .i64 0, .slice none 0 0] 24)).setRow w.heap.size #[.int .i64 b, .slice none 0 0]) :=
  .mk ⟨(SBlk.new w _).row _, World.ownsRow_nil _ _ _ _, below_row ((Below.refl w.heap.size w).alloc (Nat.le_refl _) _) (Nat.le_refl _) _, Nat.le_refl _⟩
end
/-- The same, and one with one more record in another box. -/
@[irreducible] def RX (w : World) (q z : Nat) (b : Int) (rs L : List Rc) (A : Option Addr) (c : Nat) (A' : Option Addr) (c' : Nat) (W : World) : Prop := RP w q b rs A c W ∧ SBlk W z #[.int .i64 b, .slice A' L.length c'] ∧ W.ownsRow w.heap.size 42 6 (.slice A' L.length c') L.length (flat L) ∧ L.length ≤ c'
section
variable {w W W' : World} {q z : Nat} {b : Int} {rs L : List Rc} {A A' : Option Addr} {c c' : Nat}
theorem RX.mk (h : RP w q b rs A c W ∧ SBlk W z #[.int .i64 b, .slice A' L.length c'] ∧ W.ownsRow w.heap.size 42 6 (.slice A' L.length c') L.length (flat L) ∧ L.length ≤ c') : RX w q z b rs L A c A' c' W := by unfold RX; exact h
theorem RX.out (h : RX w q z b rs L A c A' c' W) : RP w q b rs A c W ∧ SBlk W z #[.int .i64 b, .slice A' L.length c'] ∧ W.ownsRow w.heap.size 42 6 (.slice A' L.length c') L.length (flat L) ∧ L.length ≤ c' := by unfold RX at h; exact h
theorem RX.below (h : RX w q z b rs L A c A' c' W) (hb : Below W.heap.size W W') : RX w q z b rs L A c A' c' W' := by
  obtain ⟨h1, h2, h3, h4⟩ := h.out
  exact .mk ⟨h1.below hb, h2.below hb, own_below h3 hb, h4⟩
theorem RX.taken (h : RX w q z b rs L A c A' c' W) : RP w q b L A' c' (W.setRow q #[.int .i64 b, .slice A' L.length c']) := by
  obtain ⟨h1, h2, h3, h4⟩ := h.out
  obtain ⟨k1, k2, k3, k4⟩ := h1.out
  exact .mk ⟨k1.row _, own_seg_row k1 h3 _, below_row k3 k4 _, k4⟩
end

set_option maxRecDepth 100000 in
set_option maxHeartbeats 16000000 in
/-- fairwayref10.Parse, of a base that may be. -/
theorem RParse_is (b : Int) (s : ByteArray) (L : List Rc) (n9 : Nat) (w : World) (hb : baseB b = true) (hm : s.size ≤ 1000000) (hL : parseS b s.data.toList = L) (hn : (allL L).length = n9) :
    Calls Tryd.prog 23 #[.int .i64 b, .string s] w fun e w' => ∃ A c, e = .returned (.tuple #[.agg #[.int .i64 b, .slice A L.length c], .int .i64 (n9 : Int)]) ∧ w'.ownsRow w.heap.size 42 6 (.slice A L.length c) L.length (flat L) ∧ Below w.heap.size w w' := by
  obtain ⟨L0, at0, all0, hsc⟩ : ∃ L0 a0 al, scan s.data.toList = (L0, a0, al) := ⟨_, _, _, rfl⟩
  have HSC := Lib.hid (fun W => RScan_is s L0 at0 all0 W hm hsc)
  unfold parseS at hL
  rw [hsc] at hL
  have HL := Lib.hid hL
  have HN := Lib.hid hn
  have HB := Lib.hid (show segB b [] = true by rw [seg_nil]; exact hb)
  have R0 := Lib.hid (RBox.new w 24 #[.int .i64 0, .slice none 0 0])
  obtain ⟨p, hp⟩ : ∃ p, w.heap.size = p := ⟨_, rfl⟩
  obtain ⟨W0, hW⟩ : ∃ W0, w.alloc (.cells #[.int .i64 0, .slice none 0 0] 24) = W0 := ⟨_, rfl⟩
  rw [hW, hp] at R0
  have HW := Lib.hid hW
  have HP := Lib.hid hp
  clear hW hp hb hm hL hn hsc
  go_enter Tryd.func23, Tryd.ntmps23
  go_upto_region 1 with fail
  rw [HW.out, HP.out]
  clear HW
  go_wp2_with fail
  refine (HSC.out _).mono ?_
  rintro e w1 ⟨AL, cL, rfl, hown, hb1⟩
  have R1 := Lib.hid (R0.out.below hb1)
  have hRL := RecsAt.of_own hown
  have hLlen : L0.length ≤ 9223372036854775807 ∧ ∀ k : Nat, k < L0.length → (k : Int) < (L0.length : Int) := ⟨by have := own_cap hown; exact own_len hown, fun k hk => by omega⟩
  have HRL := Lib.hid hRL
  have HLL := Lib.hid hLlen
  clear R0 hb1 hown hRL hLlen HSC
  have P2 := Lib.hid (RP.start w1 b)
  have hbn := Blk.new w1 24 #[.int .i64 0, .slice none 0 0]
  obtain ⟨q, hq⟩ : ∃ q, w1.heap.size = q := ⟨_, rfl⟩
  obtain ⟨W4, hW4⟩ : ∃ W4, w1.alloc (.cells #[.int .i64 0, .slice none 0 0] 24) = W4 := ⟨_, rfl⟩
  rw [hW4, hq] at P2 hbn
  have HBN := Lib.hid hbn
  have HW4 := Lib.hid hW4
  have HQ := Lib.hid hq
  clear hW4 hq hbn
  go_upto_region 3 with (rw [HW4.out, HQ.out]; refine wpList_store_whole rfl 24 (.tmp 9) (.tmp 20) rfl q _ rfl rfl _ HBN.out info_seg rfl (by simp [Value.oneCell']) ?_; simp only [Act.put])
  clear HW4 HBN HQ
  generalize World.setRow _ _ _ = w5 at P2 ⊢
  go_wp2_with fail
  go_loopw [10, 11] (fun v i wr => ∃ (k a : Nat) (rs : List Rc) (A : Option Addr) (c : Nat), v = .int .i64 (a : Int) ∧ i = .int .i64 (k : Int) ∧ k ≤ L0.length ∧ (allL rs).length = a ∧ segB b rs = true ∧ goP b rs (L0.drop k) = L ∧ RP w1 q b rs A c wr) (fun _ i _ => L0.length - (RowKit.intOf i).toNat)
  case atStart => exact ⟨0, 0, [], none, 0, rfl, rfl, Nat.zero_le _, rfl, HB.out, by rw [List.drop_zero]; exact HL.out, P2.out⟩
  case round =>
    obtain ⟨k, a, rs, A, c, rfl, rfl, hk, ha, hseg, hgo, hP⟩ := hrel
    have HA := Lib.hid ha
    have HSG := Lib.hid hseg
    have HGO := Lib.hid hgo
    have P := Lib.hid hP
    have hr200 := seg_len hseg
    have ha420 := seg_size hseg
    rw [ha] at ha420
    clear ha hseg hgo hP P2 HB HL
    by_cases hlt : k < L0.length
    · have e1 := HLL.out.2 k hlt
      have hdr : L0.drop k = L0[k] :: L0.drop (k + 1) := (List.drop_eq_getElem_cons hlt)
      obtain ⟨b0, o0, rfl, hb0, hc⟩ := HRL.out.some_ (by omega)
      have hr := hc k hlt
      obtain ⟨X, hX⟩ : ∃ X, followB b rs L0[k] = X := ⟨_, rfl⟩
      have HX2 := Lib.hid (show segB b (rs ++ [L0[k]]) = X by rw [seg_snoc, HSG.out, Bool.true_and]; exact hX)
      have HYES : Hid (X = true → goP b (rs ++ [L0[k]]) (L0.drop (k + 1)) = L ∧ mayB L0[k] = true) := by
        show _ → _
        intro hx
        have := HGO.out
        rw [hdr, goP_yes (hX.trans hx)] at this
        exact ⟨this, (follow_iff.1 (hX.trans hx)).2.1⟩
      have HNO : Hid (X = false → rs = L) := by
        show _ → _
        intro hx
        have := HGO.out
        rw [hdr, goP_no (hX.trans hx)] at this
        exact this
      obtain ⟨zz, hzz⟩ : ∃ zz, str (recL L0[k]) = zz := ⟨_, rfl⟩
      have HBY := Lib.hid (fun W (h : mayB L0[k] = true) => RBytes_is L0[k] zz W h hzz)
      have HZ := Lib.hid (show (allL (rs ++ [L0[k]])).length = a + zz.size by rw [all_snoc, List.length_append, HA.out, ← hzz, str_size])
      have HWI := Lib.hid (fun W (h : RP w1 q b rs A c W) => RWith_is b rs L0[k] A c W.heap.size W (by omega) (Nat.le_refl _) h.recs)
      have HA9 := Lib.hid HA.out
      clear HGO HA hc hX hzz hdr
      unfold ragg at HBY HWI
      generalize L0[k] = r at hr HX2 HYES HNO HBY HZ HWI
      obtain ⟨o, t, key, bod, qq, g⟩ := r
      obtain ⟨c0, c1, c2, c3, c4, c5⟩ := hr
      obtain ⟨M, hM⟩ : ∃ M, rs ++ [(⟨o, t, key, bod, qq, g⟩ : Rc)] = M := ⟨_, rfl⟩
      rw [hM] at HX2 HYES HZ HWI
      clear hM
      dsimp only at c0 c1 c2 c3 c4 c5 HBY HWI
      generalize str key = ks at c2 HBY HWI
      generalize str bod = bs at c3 HBY HWI
      unfold rarr at HBY HWI
      generalize mayB _ = mm at HYES HBY
      have hml : Hid (X = true → M.length ≤ 200 ∧ a + zz.size ≤ 420000) := by
        show _ → _
        intro hx
        have hs := HX2.out.trans hx
        exact ⟨seg_len hs, by rw [← HZ.out]; exact seg_size hs⟩
      have HC := Lib.hid (And.intro c0 (And.intro c1 (And.intro c2 (And.intro c3 (And.intro c4 c5)))))
      clear c0 c1 c2 c3 c4 c5
      go_upto_region 7 with fail
      go_cut [12] from 27 to 33 (fun s12 wx => ∃ z A' c', s12 = .pointer (some ⟨z, 0, none⟩) ∧ RX w1 q z b rs M A c A' c' wx)
      case first =>
        have hS0 := P.out.drewN 1
        clear P
        refine wp_region_held_drew (S := fun W => RP w1 q b rs A c W) (by kernel_rfl) hS0 (fun hP => ?_)
        clear hS0
        generalize wr.drew = Wd at hP ⊢
        refine take_load 0 27 24 (.tmp 9) q 0 (.agg #[.int .i64 b, .slice A rs.length c]) rfl rfl (by kernel_rfl) (fun _ _ _ h => h) (by rfl) hP rfl rfl (fun w' hS' => RP.load hS') ?hh1
        simp only [Act.put, List.setIfInBounds_toArray, List.set_cons_zero, List.set_cons_succ]
        refine take_op 1 28 ?v2 rfl rfl (by kernel_rfl) (fun _ _ _ h => h) (by rfl) hP (fun w' hS' => ?hv3) ?hh4
        case hv3 => (go_simp; (try with_reducible rfl); (try omega))
        simp only [Act.put, List.setIfInBounds_toArray, List.set_cons_zero, List.set_cons_succ]
        refine take_op 2 29 ?v5 rfl rfl (by kernel_rfl) (fun _ _ _ h => h) (by rfl) hP (fun w' hS' => ?hv6) ?hh7
        case hv6 => (go_simp; (try with_reducible rfl); (try omega))
        simp only [Act.put, List.setIfInBounds_toArray, List.set_cons_zero, List.set_cons_succ]
        refine take_op 3 30 (.pointer (some ⟨b0, o0 + k * 6, none⟩)) rfl rfl (by kernel_rfl) (fun _ _ _ h => h) (by rfl) hP (fun w' hS' => ?hv8) ?hh9
        case hv8 => (go_simp; (try with_reducible rfl); (try omega))
        simp only [Act.put, List.setIfInBounds_toArray, List.set_cons_zero, List.set_cons_succ]
        refine take_load 4 31 42 (.tmp 30) b0 (o0 + k * 6) (.agg #[.int .i64 o, .int .i64 t, .string ks, .string bs, .int .i64 qq, .bool g]) rfl rfl (by kernel_rfl) (fun _ _ _ h => h) (by rfl) hP rfl rfl (fun w' hS' => load_parts ((RP.bel hS').cell (p := ⟨b0, o0 + k * 6, none⟩) hb0 |>.trans HC.out.1) ((RP.bel hS').cell (p := ⟨b0, o0 + k * 6 + 1, none⟩) hb0 |>.trans HC.out.2.1) ((RP.bel hS').cell (p := ⟨b0, o0 + k * 6 + 2, none⟩) hb0 |>.trans HC.out.2.2.1) ((RP.bel hS').cell (p := ⟨b0, o0 + k * 6 + 3, none⟩) hb0 |>.trans HC.out.2.2.2.1) ((RP.bel hS').cell (p := ⟨b0, o0 + k * 6 + 4, none⟩) hb0 |>.trans HC.out.2.2.2.2.1) ((RP.bel hS').cell (p := ⟨b0, o0 + k * 6 + 5, none⟩) hb0 |>.trans HC.out.2.2.2.2.2)) ?hh10
        simp only [Act.put, List.setIfInBounds_toArray, List.set_cons_zero, List.set_cons_succ]
        refine two_ops 5 6 rfl rfl (by kernel_rfl) (by rfl) (by rfl) (wp_call_ex 32 15 #[.agg #[.int .i64 b, .slice A rs.length c], .agg #[.int .i64 o, .int .i64 t, .string ks, .string bs, .int .i64 qq, .bool g]] _ rfl (by go_simp) (HWI.out Wd hP) ?_) (wp_made 12 (.pointer (some ⟨Wd.heap.size, 0, none⟩)) rfl (w' := Wd.alloc (.cells #[.int .i64 0, .slice none 0 0] 24)) (by go_simp; try rfl) ⟨hP.below ((Below.refl _ _).alloc (Nat.le_refl _) _), ?_⟩)
        · rintro e Wa ⟨A', c', rfl, hO0, hb2⟩
          refine ⟨_, rfl, hP.below hb2, ?_⟩
          simp only [Act.put, List.setIfInBounds_toArray, List.set_cons_zero, List.set_cons_succ]
          have hO := own_mono hO0 hP.bel.size
          have hP := hP.below hb2
          clear hb2 hO0
          refine only_op 6 rfl (by kernel_rfl) (by rfl) (wp_made 12 (.pointer (some ⟨Wa.heap.size, 0, none⟩)) rfl (w' := Wa.alloc (.cells #[.int .i64 0, .slice none 0 0] 24)) (by go_simp; try rfl) ⟨hP.below ((Below.refl _ _).alloc (Nat.le_refl _) _), ?_⟩)
          simp only [Act.put, List.setIfInBounds_toArray, List.set_cons_zero, List.set_cons_succ]
          have hQ := SBlk.new Wa #[.int .i64 0, .slice none 0 0]
          have hbl := (Below.refl Wa.heap.size Wa).alloc (Nat.le_refl _) (.cells #[.int .i64 0, .slice none 0 0] 24)
          have hO := own_below hO hbl
          have hqz : q < Wa.heap.size := hP.out.1.lt
          have hP := hP.below hbl
          generalize Wa.alloc _ = Wb at hQ hP hO ⊢
          generalize Wa.heap.size = z at hQ hqz ⊢
          clear hbl
          have hzz := hP.out.2.2.2
          have hX9 : RX w1 q z b rs M A c A' c' (Wb.setRow z #[.int .i64 b, .slice A' M.length c']) := by
            obtain ⟨k1, k2, k3, k4⟩ := hP.out
            exact .mk ⟨.mk ⟨(setRow_other Wb z q _ (by omega)).trans k1, own_seg_row hQ k2 _, below_row k3 (by omega) _, k4⟩, hQ.row _, own_seg_row hQ hO _, own_cap hO⟩
          refine only_op 7 rfl (by kernel_rfl) (by rfl) (wp_store_row 24 (.tmp 12) (.tmp 32) rfl z #[.int .i64 b, .slice A' M.length c'] rfl rfl _ _ hQ info_seg rfl (by simp [Value.oneCell']) ⟨hX9.out.1, ?_⟩)
          (try simp only [put_none])
          refine wpAnyH_done (by kernel_rfl) ?_ _
          go_wp2_with fail
          go_meet
          exact ⟨_, _, _, rfl, hX9⟩
        · simp only [Act.put, List.setIfInBounds_toArray, List.set_cons_zero, List.set_cons_succ]
          have hQ := SBlk.new Wd #[.int .i64 0, .slice none 0 0]
          have hbl := (Below.refl Wd.heap.size Wd).alloc (Nat.le_refl _) (.cells #[.int .i64 0, .slice none 0 0] 24)
          have hqz : q < Wd.heap.size := hP.out.1.lt
          have hP := hP.below hbl
          generalize Wd.alloc _ = Wb at hQ hP ⊢
          generalize Wd.heap.size = z at hQ hqz ⊢
          clear hbl
          refine only_op 5 rfl (by kernel_rfl) (by rfl) (wp_call_ex 32 15 #[.agg #[.int .i64 b, .slice A rs.length c], .agg #[.int .i64 o, .int .i64 t, .string ks, .string bs, .int .i64 qq, .bool g]] _ rfl (by go_simp) (HWI.out Wb hP) ?_)
          rintro e Wc ⟨A', c', rfl, hO0, hb2⟩
          refine ⟨_, rfl, hP.below hb2, ?_⟩
          simp only [Act.put, List.setIfInBounds_toArray, List.set_cons_zero, List.set_cons_succ]
          have hO := own_mono hO0 hP.bel.size
          have hP := hP.below hb2
          have hQ := hQ.below hb2
          clear hb2 hO0
          have hzz := hP.out.2.2.2
          have hX9 : RX w1 q z b rs M A c A' c' (Wc.setRow z #[.int .i64 b, .slice A' M.length c']) := by
            obtain ⟨k1, k2, k3, k4⟩ := hP.out
            exact .mk ⟨.mk ⟨(setRow_other Wc z q _ (by omega)).trans k1, own_seg_row hQ k2 _, below_row k3 (by omega) _, k4⟩, hQ.row _, own_seg_row hQ hO _, own_cap hO⟩
          refine only_op 7 rfl (by kernel_rfl) (by rfl) (wp_store_row 24 (.tmp 12) (.tmp 32) rfl z #[.int .i64 b, .slice A' M.length c'] rfl rfl _ _ hQ info_seg rfl (by simp [Value.oneCell']) ⟨hX9.out.1, ?_⟩)
          (try simp only [put_none])
          refine wpAnyH_done (by kernel_rfl) ?_ _
          go_wp2_with fail
          go_meet
          exact ⟨_, _, _, rfl, hX9⟩
      case rest =>
        obtain ⟨z, A', c', rfl, hx⟩ := hcut
        have X1 := Lib.hid hx
        have HSEG := Lib.hid (fun W (h : RX w1 q z b rs M A c A' c' W) => RSeg_is b M M.length A' c' W.heap.size X W rfl (own_len h.out.2.2.1) (Nat.le_refl _) (.of_own h.out.2.2.1) HX2.out)
        clear hx P HWI
        have hld := load_seg X1.out.out.2.1.blk rfl
        go_wp2_with (refine wpList_load_any (by rfl) 24 (.tmp 12) rfl z 0 rfl _ hld ?_; simp only [Act.put])
        refine (HSEG.out _ X1.out).mono ?_
        rintro e w6 ⟨rfl, hb6⟩
        have X6 := Lib.hid (X1.out.below hb6)
        clear X1 hb6 hld HSEG
        cases X with
        | false =>
          obtain rfl := HNO.out rfl
          obtain rfl : a = n9 := by rw [← HN.out]; exact HA9.out.symm
          have hld := X6.out.out.1.load
          have R6 := Lib.hid (R1.out.below X6.out.out.1.bel)
          have HB := Lib.hid R6.out.out.1
          have R7 := Lib.hid (R6.out.row (Nat.le_of_eq HP.out) #[.int .i64 b, .slice A rs.length c])
          have O7 := Lib.hid (own_mono (own_row X6.out.out.1.out.2.1 p R1.out.out.1.lt #[.int .i64 b, .slice A rs.length c]) R1.out.out.2.size)
          clear R6 X6
          go_wp2_with (first | (refine wpList_load_any (by rfl) 24 (.tmp 9) rfl q 0 rfl _ hld ?_; simp only [Act.put]) | (refine wpList_store_whole rfl 24 (.tmp 4) (.tmp 36) rfl p _ rfl rfl _ HB.out info_seg rfl (by simp [Value.oneCell']) ?_; simp only [Act.put]))
          refine bodyPost_ret (results_cell2 Tryd.results23 rfl (load_seg R7.out.out.1 rfl) rfl) rfl ⟨A, c, rfl, O7.out, R7.out.out.2⟩
        | true =>
          obtain ⟨hgo2, hmay⟩ := HYES.out rfl
          obtain ⟨hM200, hz420⟩ := hml.out rfl
          have HG2 := Lib.hid hgo2
          have HBY1 := Lib.hid (fun W => HBY.out W hmay)
          clear hgo2 hmay HBY HYES
          have hld := load_seg X6.out.out.2.1.blk rfl
          have HB := Lib.hid X6.out.out.1.out.1.blk
          have P7 := Lib.hid X6.out.taken
          clear X6
          go_upto_region 11 with (first | (refine wpList_load_any (by rfl) 24 (.tmp 12) rfl z 0 rfl _ hld ?_; simp only [Act.put]) | (refine wpList_store_whole rfl 24 (.tmp 9) (.tmp 38) rfl q _ rfl rfl _ HB.out info_seg rfl (by simp [Value.oneCell']) ?_; simp only [Act.put]))
          clear HB hld
          generalize World.setRow _ _ _ = w7 at P7 ⊢
          have hcl := fun i => P7.out.bel.cell (p := ⟨b0, i, none⟩) hb0
          have c0 := (hcl _).trans HC.out.1
          have c1 := (hcl _).trans HC.out.2.1
          have c2 := (hcl _).trans HC.out.2.2.1
          have c3 := (hcl _).trans HC.out.2.2.2.1
          have c4 := (hcl _).trans HC.out.2.2.2.2.1
          have c5 := (hcl _).trans HC.out.2.2.2.2.2
          clear hcl
          go_wp2_with fail
          refine (HBY1.out _).mono ?_
          rintro e w8 ⟨rfl, hb8⟩
          have P8 := Lib.hid (P7.out.below hb8)
          have hsum : (a : Int) + (zz.size : Int) ≤ 420000 := by omega
          have hll := HLL.out.1
          clear P7 hb8 HBY1 c0 c1 c2 c3 c4 c5
          go_wp2_with fail
          go_roundw
          case rel => exact ⟨k + 1, a + zz.size, M, A', c', by go_num, by go_num, hlt, HZ.out, HX2.out, HG2.out, P8.out⟩
          case measure => simp [RowKit.intOf]; omega
    · obtain rfl : k = L0.length := by omega
      obtain rfl : rs = L := by
        have := HGO.out
        rwa [List.drop_length, goP_nil] at this
      obtain rfl : a = n9 := by rw [← HA.out, ← HN.out]
      have hld := P.out.load
      have R6 := Lib.hid (R1.out.below P.out.bel)
      have HB := Lib.hid R6.out.out.1
      have R7 := Lib.hid (R6.out.row (Nat.le_of_eq HP.out) #[.int .i64 b, .slice A rs.length c])
      have O7 := Lib.hid (own_mono (own_row P.out.out.2.1 p R1.out.out.1.lt #[.int .i64 b, .slice A rs.length c]) R1.out.out.2.size)
      clear R6 P HGO
      go_wp2_with (first | (refine wpList_load_any (by rfl) 24 (.tmp 9) rfl q 0 rfl _ hld ?_; simp only [Act.put]) | (refine wpList_store_whole rfl 24 (.tmp 4) (.tmp 47) rfl p _ rfl rfl _ HB.out info_seg rfl (by simp [Value.oneCell']) ?_; simp only [Act.put]))
      refine bodyPost_ret (results_cell2 Tryd.results23 rfl (load_seg R7.out.out.1 rfl) rfl) rfl ⟨A, c, rfl, O7.out, R7.out.out.2⟩
end Go.Proofs.YthhpmhibkbndhaaDoor
/- A row of numbers of the call's own. -/
namespace Go.Proofs.YthhpmhibkbndhaaDoor
open Go.RowKit Go.Lib

theorem info_int1 : (Tryd.prog.info? 3).map (fun i => (i.zero, i.size, i.bytes)) = some (some (.int .i64 0), 1, 8) := by kernel_rfl
/-- Where the row is, and its cells. -/
theorem int_row {w : World} {B e n c : Nat} {A : Option Addr} {zs : List Int} (h : w.ownsRow B e 1 (.slice A n c) n (zs.map (Value.int .i64))) (hn : 0 < n) : ∃ g, A = some ⟨g, 0, none⟩ ∧ g < w.heap.size ∧ ∀ j (z : Int), zs[j]? = some z → w.cell? ⟨g, j, none⟩ = some (.int .i64 z) := by
  rcases h.2 with ⟨_, h0⟩ | ⟨g, cap, cur, hv, hg, hgg, _⟩
  · omega
  · injection hv with h1
    subst h1
    refine ⟨g, rfl, (Array.getElem?_eq_some_iff.1 hgg).1, fun j z hz => ?_⟩
    have := h.cells (g := g) rfl j (.int .i64 z) (by rw [List.getElem?_map, hz]; rfl)
    rwa [add_new] at this
/-- A literal row of four. -/
theorem lit_row (w : World) (e : TypeId) (a b c d : Int) : (w.alloc (.cells #[.int .i64 a, .int .i64 b, .int .i64 c, .int .i64 d] e)).ownsRow w.heap.size e 1 (.slice (some ⟨w.heap.size, 0, none⟩) 4 4) 4 ([a, b, c, d].map (Value.int .i64)) :=
  ⟨rfl, .inr ⟨_, 4, _, rfl, Nat.le_refl _, heap_alloc_new w _, Nat.le_refl _, by unfold maxLen; decide, rfl, rfl⟩⟩
end Go.Proofs.YthhpmhibkbndhaaDoor
/- SegParses: whatever bytes there are, from any base on, package seg and the document's own answer tell the same segment, and how many bytes it has. -/
namespace Go.Proofs.YthhpmhibkbndhaaDoor
open Go.RowKit Go.Lib Vbi Rcd Crc

set_option maxRecDepth 100000 in
set_option maxHeartbeats 16000000 in
theorem SegParses_any (b : Int) (rs L : List Rc) (ns : List Int) (A B D : Option Addr) (c cl cn : Nat) (s : ByteArray) (w : World) (hl1 : rs.length ≤ 9223372036854775807) (hl2 : L.length ≤ 9223372036854775807) (hl3 : ns.length ≤ 9223372036854775807) (hA : RecsAt w w.heap.size A rs) (hB : RecsAt w w.heap.size B L) (hD : Nums w w.heap.size .i64 D ns) (ht : Tab w) :
    Calls Tryd.prog 4 #[.agg #[.int .i64 b, .slice A rs.length c, .slice B L.length cl, .slice D ns.length cn, .string s]] w fun e w' => e = .returned (.bool true) ∧ Below w.heap.size w w' := by
  obtain ⟨k0, hk, hk0, hk1, hk2⟩ := info_parts info_int1
  have HV := Lib.hid (fun W (hb : Below w.heap.size w W) => Heavy_is b rs L A B D c cl ns.length cn s W hl1 hl2 (hA.on hb) (hB.on hb))
  have HL := Lib.hid hB
  have HD := Lib.hid hD
  have T := Lib.hid ht
  have R0 := Lib.hid (RBox.new w 27 (scarr b A rs.length c B L.length cl D ns.length cn s))
  obtain ⟨p, hp⟩ : ∃ p, w.heap.size = p := ⟨_, rfl⟩
  obtain ⟨W0, hW⟩ : ∃ W0, w.alloc (.cells (scarr b A rs.length c B L.length cl D ns.length cn s) 27) = W0 := ⟨_, rfl⟩
  rw [hW, hp] at R0
  unfold scarr at R0 hW
  have HW := Lib.hid hW
  have HP := Lib.hid hp
  clear hW hp hA hB hD ht
  go_enter Tryd.func4, Tryd.ntmps4
  go_upto_region 1 with fail
  rw [HW.out, HP.out]
  clear HW
  have hld := load_script R0.out.out.1 rfl
  go_wp2_with (refine wpList_load_any (by rfl) 27 (.tmp 1) rfl p 0 rfl _ hld ?_; simp only [Act.put])
  refine (HV.out _ R0.out.out.2).mono ?_
  rintro e w1 ⟨v, rfl, hvs, hb1⟩
  have R1 := Lib.hid (R0.out.below hb1)
  clear R0 hb1 hld HV
  cases v with
  | true =>
    clear hvs
    go_wp2_with fail
    go_ret
    exact ⟨rfl, R1.out.out.2⟩
  | false =>
    have hs8 := hvs rfl
    clear hvs
    have d4 : w1.cell? ⟨p, 4, none⟩ = some (.string s) := R1.out.cell 4
    go_wp2_with fail
    clear d4
    go_loopw [3, 4] (fun x i wr => ∃ (k : Nat) (s' : ByteArray), k ≤ 6 ∧ k ≤ L.length ∧ x = .string s' ∧ i = .int .i64 (k : Int) ∧ s'.size ≤ 8000 + k * 2100 ∧ RBox w p #[.int .i64 b, .slice A rs.length c, .slice B L.length cl, .slice D ns.length cn, .string s] wr) (fun _ i _ => 6 - (RowKit.intOf i).toNat)
    case atStart => exact ⟨0, s, by omega, Nat.zero_le _, rfl, rfl, by omega, R1.out⟩
    case round =>
      obtain ⟨k, s', hk6, hkl, rfl, rfl, hsz, hbx⟩ := hrel
      have R := Lib.hid hbx
      clear hbx R1
      have d2 : wr.cell? ⟨p, 2, none⟩ = some (.slice B L.length cl) := R.out.cell 2
      by_cases hgo : k < L.length ∧ k < 6
      · obtain ⟨h1, h2⟩ := hgo
        obtain ⟨b0, o0, rfl, hb0, hc⟩ := (HL.out.below R.out.out.2).some_ (by omega)
        have hr := hc k h1
        obtain ⟨X, hX⟩ : ∃ X, mayB L[k] = X := ⟨_, rfl⟩
        obtain ⟨z, hz⟩ : ∃ z, str (recL L[k]) = z := ⟨_, rfl⟩
        have HRR := Lib.hid (fun W => RRec_is L[k] X W hX)
        have HBY := Lib.hid (fun W (h : X = true) => RBytes_is L[k] z W (hX.trans h) hz)
        have hz2 : X = true → z.size ≤ 2100 := by
          intro hx
          obtain ⟨_, _, _, _, h5, h6, _⟩ := (may_iff _).1 (hX.trans hx)
          rw [← hz, str_size, rec_len]
          omega
        clear hc hX hz
        unfold ragg at HRR HBY
        generalize L[k] = r at hr HRR HBY
        obtain ⟨o, t, key, bod, q, g⟩ := r
        obtain ⟨c0, c1, c2, c3, c4, c5⟩ := hr
        dsimp only at c0 c1 c2 c3 c4 c5 HRR HBY
        generalize str key = ks at c2 HRR HBY
        generalize str bod = bs at c3 HRR HBY
        unfold rarr at HRR HBY
        have e1 : (k : Int) < (L.length : Int) := by omega
        have e2 : (k : Int) < 6 := by omega
        have HC := Lib.hid (And.intro c0 (And.intro c1 (And.intro c2 (And.intro c3 (And.intro c4 c5)))))
        have hbr : b0 < wr.heap.size := Nat.lt_of_lt_of_le hb0 R.out.out.2.size
        go_wp2_with fail
        refine (HRR.out _).mono ?_
        rintro e w2 ⟨rfl, hb2⟩
        have R2 := Lib.hid (R.out.below hb2)
        have hcl := fun i => hb2.cell (p := ⟨b0, i, none⟩) hbr
        have HC2 := Lib.hid (And.intro ((hcl _).trans HC.out.1) (And.intro ((hcl _).trans HC.out.2.1) (And.intro ((hcl _).trans HC.out.2.2.1) (And.intro ((hcl _).trans HC.out.2.2.2.1) (And.intro ((hcl _).trans HC.out.2.2.2.2.1) ((hcl _).trans HC.out.2.2.2.2.2))))))
        clear R hb2 hcl d2 c0 c1 c2 c3 c4 c5 HC HRR
        cases X with
        | false =>
          go_wp2_with fail
          go_roundw
          case rel => exact ⟨k + 1, s', h2, h1, rfl, by go_num, by omega, R2.out⟩
          case measure => simp [RowKit.intOf]; omega
        | true =>
          have hz3 := hz2 rfl
          have HBY1 := Lib.hid (fun W => HBY.out W rfl)
          have d2 : w2.cell? ⟨p, 2, none⟩ = some (.slice (some ⟨b0, o0, none⟩) L.length cl) := R2.out.cell 2
          obtain ⟨c0, c1, c2, c3, c4, c5⟩ := HC2.out
          clear HC2 HBY hz2
          have e3 : ¬ 9223372036854775807 < z.size + s'.size := by omega
          go_wp2_with fail
          refine (HBY1.out _).mono ?_
          rintro e w3 ⟨rfl, hb3⟩
          have R3 := Lib.hid (R2.out.below hb3)
          clear R2 hb3 d2 c0 c1 c2 c3 c4 c5 HBY1
          go_wp2_with fail
          go_roundw
          case rel => exact ⟨k + 1, z ++ s', h2, h1, rfl, by go_num, by rw [ByteArray.size_append]; omega, R3.out⟩
          case measure => simp [RowKit.intOf]; omega
      · have hs6 : s'.size ≤ 1000000 := by omega
        clear hsz
        have d0 : wr.cell? ⟨p, 0, none⟩ = some (.int .i64 b) := R.out.cell 0
        obtain ⟨W2, hW2⟩ : ∃ W2, wr.alloc (.cells #[.int .i64 0, .int .i64 b, .int .i64 (-1), .int .i64 1099511627777] 3) = W2 := ⟨_, rfl⟩
        obtain ⟨h, hh⟩ : ∃ h, wr.heap.size = h := ⟨_, rfl⟩
        have hlr := lit_row wr 3 0 b (-1) 1099511627777
        have hbl := (Below.refl wr.heap.size wr).alloc (Nat.le_refl _) (.cells #[.int .i64 0, .int .i64 b, .int .i64 (-1), .int .i64 1099511627777] 3)
        rw [hW2] at hlr hbl
        have hlr2 := own_mono hlr (show p + 1 ≤ wr.heap.size from R.out.out.1.lt)
        rw [hh] at hlr2
        have R2 := Lib.hid (R.out.below hbl)
        have O2 := Lib.hid hlr2
        have HW2 := Lib.hid hW2
        have HH := Lib.hid hh
        clear hlr hlr2 hbl hW2 hh R
        go_upto_region 10 with fail
        all_goals
          rw [HW2.out, HH.out]
          clear HW2 HH d0 d2
          go_wp2_with fail
          go_loopw [5, 6] (fun x i wr => ∃ (k : Nat) (zs : List Int) (A' : Option Addr) (c' : Nat), k ≤ 4 ∧ k ≤ ns.length ∧ zs.length = 4 + k ∧ x = .slice A' zs.length c' ∧ i = .int .i64 (k : Int) ∧ wr.ownsRow (p + 1) 3 1 (.slice A' zs.length c') zs.length (zs.map (Value.int .i64)) ∧ RBox w p #[.int .i64 b, .slice A rs.length c, .slice B L.length cl, .slice D ns.length cn, .string s] wr) (fun _ i _ => 4 - (RowKit.intOf i).toNat)
          case atStart => exact ⟨0, [0, b, -1, 1099511627777], some ⟨h, 0, none⟩, 4, by omega, Nat.zero_le _, rfl, rfl, rfl, O2.out, R2.out⟩
          case round =>
            obtain ⟨j, zs, A', c', hj4, hjn, hzl, rfl, rfl, hown, hbx⟩ := hrel
            have R := Lib.hid hbx
            have O := Lib.hid hown
            have HZL := Lib.hid hzl
            clear hbx hown R2 O2 hzl
            have d3 : wr.cell? ⟨p, 3, none⟩ = some (.slice D ns.length cn) := R.out.cell 3
            by_cases hgo : j < ns.length ∧ j < 4
            · obtain ⟨h1, h2⟩ := hgo
              obtain ⟨ad, rfl, hab, hc⟩ := (HD.out.below R.out.out.2).some_ (by omega)
              have c0 := hc j h1
              obtain ⟨z, hz⟩ : ∃ z, ns.getD j 0 = z := ⟨_, rfl⟩
              rw [hz] at c0
              have e1 : (j : Int) < (ns.length : Int) := by omega
              have e2 : (j : Int) < 4 := by omega
              clear hc hz
              have hsz6 : p + 1 ≤ wr.heap.size := R.out.out.1.lt
              have hz8 : zs.length ≤ 8 := by rw [HZL.out]; omega
              go_wp2_with (at_builtin; refine wpList_append_own _ rfl _ _ 25 rfl (p + 1) 3 k0 (.int .i64 0) 1 8 Tryd.underlying25 hk hk0 hk1 hk2 rfl (by decide) _ _ _ rfl (O.out.alloc _) ⟨wr.heap.size, 0, none⟩ 1 1 [.int .i64 z] rfl rfl ?e1 ?e2 ?e3 ?e4 ?e5 ?_)
              case e1 => exact fun jj u hu => cells_new wr _ [.int .i64 z] jj u hu
              case e2 => first | (simp [Value.oneCell']; done) | (intro uu huu; simp at huu; subst huu; rfl)
              case e3 => unfold maxLen; omega
              case e4 => omega
              case e5 => first | omega | (simp; omega)
              intro v2 w5 hown2 hgrow2 _
              have hb5 := below_alloc_grown hsz6 O.out hgrow2
              have hnew : w5.ownsRow (p + 1) 3 1 v2 (zs ++ [z]).length ((zs ++ [z]).map (Value.int .i64)) := by
                rw [List.length_append, List.map_append]; exact hown2
              obtain ⟨A2, c2, rfl⟩ := own_form hnew
              have ON := Lib.hid hnew
              have RN := Lib.hid (RBox.mk (blk_grown R.out.out.1 O.out (Nat.lt_succ_self _) hgrow2) (R.out.out.2.trans (hb5.mono (by rw [HP.out]; exact Nat.le_succ _))))
              have hzl2 : Hid ((zs ++ [z]).length = 4 + (j + 1)) := by show _ = _; rw [List.length_append, HZL.out]; rfl
              clear hown2 hgrow2 hb5 hnew R O HZL d3 c0
              go_wp2_with fail
              go_roundw
              case rel => exact ⟨j + 1, zs ++ [z], A2, c2, h2, h1, hzl2.out, rfl, by go_num, ON.out, RN.out⟩
              case measure => simp [RowKit.intOf]; omega
            · have hz4 : 0 < zs.length := by rw [HZL.out]; omega
              have hz8 : zs.length ≤ 8 := by rw [HZL.out]; omega
              obtain ⟨g, rfl, hgl, hcell⟩ := int_row O.out hz4
              have HCE := Lib.hid hcell
              have HX := Lib.hid R.out.out.2
              clear hcell HZL R O
              obtain ⟨wo, hwo⟩ : ∃ V, V = wr := ⟨_, rfl⟩
              subst hwo
              have hz9 : zs.length ≤ 9223372036854775807 := by omega
              go_wp2_with fail
              all_goals
                clear d3
                go_loopw [7] (fun i wr => ∃ k : Nat, k ≤ zs.length ∧ i = .int .i64 (k : Int) ∧ Below wo.heap.size wo wr) (fun i _ => zs.length - (RowKit.intOf i).toNat)
                case atStart => exact ⟨0, Nat.zero_le _, rfl, Below.refl _ _⟩
                case round =>
                  obtain ⟨q, hq, rfl, hbel⟩ := hrel
                  have HB := Lib.hid hbel
                  clear hbel
                  by_cases hlt : q < zs.length
                  · have c0 := (HB.out.cell (p := ⟨g, q, none⟩) hgl).trans (HCE.out q zs[q] (List.getElem?_eq_getElem hlt))
                    have hcq := HCE.out q zs[q] (List.getElem?_eq_getElem hlt)
                    generalize zs[q] = z at c0 hcq
                    have HCQ := Lib.hid (fun W (hb : Below wo.heap.size wo W) => (hb.cell (p := ⟨g, q, none⟩) hgl).trans hcq)
                    clear hcq
                    have e1 : (q : Int) < (zs.length : Int) := by omega
                    have T1 := Lib.hid (T.out.below HX.out)
                    cases hbz : baseB z with
                    | false =>
                      have HPA := Lib.hid (fun W => SegParse_no z s' W hbz)
                      have HNU := Lib.hid (fun W => RNum_is z 1099511627776 false W hbz)
                      have HEQ := Lib.hid (fun W => EqSeg_same 0 [] none none 0 0 0 0 W (Nat.zero_le _) (Nat.zero_le _) (Nat.zero_le _) (.none_) (.none_))
                      clear hbz
                      go_wp2_with fail
                      refine (HPA.out _).mono ?_
                      rintro e w2 ⟨rfl, hb2⟩
                      have HB2 := Lib.hid (HB.out.trans (hb2.mono HB.out.size))
                      clear hb2 HB HPA c0
                      obtain ⟨g8, W4, hg8, hW4, hbn, _, hbx, hbl⟩ := seg_box HB2.out #[.int .i64 0, .slice none 0 0]
                      have HBN := Lib.hid hbn
                      have R8 := Lib.hid hbx
                      have hg8' : wo.heap.size ≤ g8 := by rw [← hg8]; exact HB2.out.size
                      unfold szero at hW4
                      have HW4 := Lib.hid hW4
                      clear hbn hbx hW4 hbl HB2
                      go_upto_region 18 with (rw [HW4.out]; refine wpList_store_whole rfl 24 (.tmp 8) (.tmp 79) rfl g8 #[.int .i64 0, .slice none 0 0] rfl rfl szero HBN.out info_seg rfl (by simp [Value.oneCell']) ?_; simp only [Act.put])
                      clear HW4 HBN hg8
                      generalize World.setRow _ _ _ = w5 at R8 ⊢
                      have D9 := Lib.hid ((Duo.more R8.out hg8' 24 szero).row2 #[.int .i64 0, .slice none 0 0])
                      have hbn := Blk.new w5 24 szero
                      obtain ⟨g9, hg9⟩ : ∃ g9, w5.heap.size = g9 := ⟨_, rfl⟩
                      obtain ⟨W9, hW9⟩ : ∃ W9, w5.alloc (.cells szero 24) = W9 := ⟨_, rfl⟩
                      rw [hg9, hW9] at D9 hbn
                      have HBN := Lib.hid hbn
                      unfold szero at hW9
                      have HW9 := Lib.hid hW9
                      clear hbn hW9 R8
                      go_upto_region 19 with (rw [HW9.out]; refine wpList_store_whole rfl 24 (.tmp 12) (.tmp 82) rfl g9 #[.int .i64 0, .slice none 0 0] rfl rfl szero HBN.out info_seg rfl (by simp [Value.oneCell']) ?_; simp only [Act.put])
                      clear HW9 HBN hg9
                      generalize World.setRow _ _ _ = w9 at D9 ⊢
                      have c0 := HCQ.out _ D9.out.bel
                      have hld8 := D9.out.box1.loadS rfl
                      have hld9 := D9.out.box2.loadS rfl
                      go_wp2_with (first | (refine wpList_load_any (by rfl) 24 (.tmp 8) rfl g8 0 rfl _ hld8 ?_; simp only [Act.put]) | (refine wpList_load_any (by rfl) 24 (.tmp 12) rfl g9 0 rfl _ hld9 ?_; simp only [Act.put]) | (go_at_call 22; refine (HNU.out _).mono ?_; rintro e w' ⟨rfl, rfl⟩) | (go_at_call 12; refine (num_is _ _).mono ?_; rintro e w' ⟨rfl, rfl⟩))
                      refine (HEQ.out _).mono ?_
                      rintro e w10 ⟨rfl, hb10⟩
                      have D10 := Lib.hid (D9.out.below hb10)
                      clear D9 hb10 hld8 hld9 c0 HEQ HNU
                      go_wp2_with fail
                      go_roundw
                      case rel => exact ⟨q + 1, hlt, by go_num, D10.out.bel⟩
                      case measure => simp [RowKit.intOf]; omega
                    | true =>
                      obtain ⟨PL, hPL⟩ : ∃ PL, parseS z s'.data.toList = PL := ⟨_, rfl⟩
                      obtain ⟨n9, hn9⟩ : ∃ n9, (allL PL).length = n9 := ⟨_, rfl⟩
                      have hpl : PL.length ≤ 200 := by rw [← hPL]; exact seg_len (parse_seg _ hbz)
                      have HPA := Lib.hid (fun W (hb : Below wo.heap.size wo W) => SegParse_yes z s' PL n9 W hbz hs6 (T1.out.below hb) hPL hn9)
                      have HDP := Lib.hid (fun W => RParse_is z s' PL n9 W hbz hs6 hPL hn9)
                      have HNU := Lib.hid (fun W => RNum_is z 1099511627776 true W hbz)
                      clear hbz hPL hn9
                      go_wp2_with fail
                      refine (HPA.out _ HB.out).mono ?_
                      rintro e w2 ⟨A1, c1, rfl, hown1, hb2⟩
                      have HB2 := Lib.hid (HB.out.trans (hb2.mono HB.out.size))
                      clear hb2 HB HPA c0
                      obtain ⟨g8, W4, hg8, hW4, hbn, _, hbx, hbl⟩ := seg_box HB2.out #[.int .i64 z, .slice A1 PL.length c1]
                      have hA5 := (RecsAt.of_own hown1).below hbl
                      rw [hg8] at hA5
                      have HA5 := Lib.hid hA5
                      have HBN := Lib.hid hbn
                      have R8 := Lib.hid hbx
                      have hg8' : wo.heap.size ≤ g8 := by rw [← hg8]; exact HB2.out.size
                      unfold szero at hW4
                      have HW4 := Lib.hid hW4
                      clear hbn hbx hW4 hbl HB2 hA5 hown1
                      go_upto_region 18 with (rw [HW4.out]; refine wpList_store_whole rfl 24 (.tmp 8) (.tmp 79) rfl g8 #[.int .i64 z, .slice A1 PL.length c1] rfl rfl szero HBN.out info_seg rfl (by simp [Value.oneCell']) ?_; simp only [Act.put])
                      clear HW4 HBN hg8
                      generalize World.setRow _ _ _ = w5 at R8 HA5 ⊢
                      have hlt8 := R8.out.out.1.lt
                      have hQ9 := (SBlk.new w5 szero).row #[.int .i64 0, .slice none 0 0]
                      have hb9 := below_row ((Below.refl w5.heap.size w5).alloc (Nat.le_refl _) (.cells szero 24)) (Nat.le_refl _) #[.int .i64 0, .slice none 0 0]
                      have HA9 := Lib.hid (HA5.out.below (hb9.mono (Nat.le_of_lt hlt8)))
                      have D9 := Lib.hid ((Duo.more R8.out hg8' 24 szero).row2 #[.int .i64 0, .slice none 0 0])
                      have hbn := Blk.new w5 24 szero
                      obtain ⟨g9, hg9⟩ : ∃ g9, w5.heap.size = g9 := ⟨_, rfl⟩
                      obtain ⟨W9, hW9⟩ : ∃ W9, w5.alloc (.cells szero 24) = W9 := ⟨_, rfl⟩
                      rw [hg9, hW9] at D9 hbn hQ9 HA9
                      have Q9 := Lib.hid hQ9
                      have HBN := Lib.hid hbn
                      unfold szero at hW9
                      have HW9 := Lib.hid hW9
                      clear hbn hW9 R8 hQ9 hb9 HA5
                      go_upto_region 19 with (rw [HW9.out]; refine wpList_store_whole rfl 24 (.tmp 12) (.tmp 82) rfl g9 #[.int .i64 0, .slice none 0 0] rfl rfl szero HBN.out info_seg rfl (by simp [Value.oneCell']) ?_; simp only [Act.put])
                      clear HW9 HBN hg9
                      generalize World.setRow _ _ _ = w9 at D9 Q9 HA9 ⊢
                      have c0 := HCQ.out _ D9.out.bel
                      go_wp2_with (go_at_call 22; refine (HNU.out _).mono ?_; rintro e w' ⟨rfl, rfl⟩)
                      refine (HDP.out _).mono ?_
                      rintro e w10 ⟨A2, c2, rfl, hown2, hb10⟩
                      have D10 := Lib.hid (D9.out.below hb10)
                      have Q10 := Lib.hid (Q9.out.below hb10)
                      have HA10 := Lib.hid (HA9.out.below (hb10.mono (Nat.le_of_lt D9.out.out.1.lt)))
                      have HB10 := Lib.hid D10.out.out.2.1
                      have D11 := Lib.hid (D10.out.row2 #[.int .i64 z, .slice A2 PL.length c2])
                      have O11 := Lib.hid (RecsAt.of_own (own_seg_row Q10.out hown2 #[.int .i64 z, .slice A2 PL.length c2]))
                      have HA11 := Lib.hid (HA10.out.row (Nat.le_of_lt D10.out.out.2.2.2.2) #[.int .i64 z, .slice A2 PL.length c2])
                      clear D9 Q9 HA9 hb10 D10 Q10 HA10 hown2 HDP HNU c0
                      go_upto_region 22 with (refine wpList_store_whole rfl 24 (.tmp 12) (.tmp 95) rfl g9 #[.int .i64 z, .slice A2 PL.length c2] rfl rfl _ HB10.out info_seg rfl (by simp [Value.oneCell']) ?_; simp only [Act.put])
                      clear HB10
                      generalize World.setRow _ _ _ = w11 at D11 O11 HA11 ⊢
                      have HEQ := Lib.hid (EqSeg_same z PL A1 A2 c1 c2 g8 w11.heap.size w11 (by omega) (Nat.le_of_lt D11.out.out.1.lt) (Nat.le_refl _) HA11.out O11.out)
                      have hld8 := D11.out.box1.loadS rfl
                      have hld9 := D11.out.box2.loadS rfl
                      clear O11 HA11
                      go_wp2_with (first | (refine wpList_load_any (by rfl) 24 (.tmp 8) rfl g8 0 rfl _ hld8 ?_; simp only [Act.put]) | (refine wpList_load_any (by rfl) 24 (.tmp 12) rfl g9 0 rfl _ hld9 ?_; simp only [Act.put]) | (go_at_call 12; refine (num_is _ _).mono ?_; rintro e w' ⟨rfl, rfl⟩))
                      refine HEQ.out.mono ?_
                      rintro e w12 ⟨rfl, hb12⟩
                      have D12 := Lib.hid (D11.out.below hb12)
                      clear D11 hb12 hld8 hld9 HEQ
                      go_wp2_with fail
                      go_roundw
                      case rel => exact ⟨q + 1, hlt, by go_num, D12.out.bel⟩
                      case measure => simp [RowKit.intOf]; omega
                  · have HWK := Lib.hid (fun W => wakes_any W)
                    go_wp2_with (go_at_call 18; refine (HWK.out _).mono ?_; rintro e w9 ⟨rfl, hb9⟩)
                    go_ret
                    exact ⟨rfl, HX.out.trans ((HB.out.trans (hb9.mono HB.out.size)).mono HX.out.size)⟩
end Go.Proofs.YthhpmhibkbndhaaDoor
/- For every script: package seg and the document's own answer tell the same segment that any bytes begin with, from any base on, and how many bytes it has. The table of sums is tied to the program's text. No condition. -/
namespace Go.Proofs.YthhpmhibkbndhaaDoor.segParses
open Go.ChangeShapes Go.WideShapes Go.ChangeAt Go.RowKit

set_option maxRecDepth 100000 in
theorem lifted (os : Os) (started : os.Started) (H : Type) (enc : TypeId × Value → H) :
    ReturnsInHanded {} Tryd.checked os 4 .any (fun w args => (Rows.segParsesSpec.pre enc Tryd.prog Tryd.f4 Rows.segParsesRow.domain false w args ∧ laidMetH Tryd.prog theLaid w) ∧ sizedMet enc Tryd.prog Tryd.f4 (OpenSpec.ofChange Rows.segParsesSpec) false w args) (Rows.segParsesSpec.post enc Tryd.prog Tryd.f4 false true false false) := by
  refine returnsInHanded_of_change_and (C := Tryd.checked) (X := fun w _ => laidMetH Tryd.prog theLaid w) (fun _ _ _ hh h => h.of_heap hh) ownKnob_none started (by kernel_rfl) Tryd.func4
    (ChangeSpec.witness_shaped (enc := enc) (C := Tryd.checked) (os := os) (X := fun w _ => laidMetH Tryd.prog theLaid w) false (World.doorLaid Tryd.prog 400 os) #[.agg #[.int .i64 0, .slice none 0 0, .slice none 0 0, .slice none 0 0, .string ⟨#[]⟩]] 8 rfl (World.shaped_of_RefB (by kernel_rfl) (by kernel_rfl)) (by kernel_rfl) (by kernel_rfl) (by kernel_rfl) (door_met os _)) ?_
  intro W base args ds gs before hval0 hW _ hsz0 hL _
  have hval : ∀ (j : Nat) t v, Tryd.f4.params[j]? = some t → args[j]? = some v → Value.okWide Tryd.prog W .any base t v := hval0
  have hW' := hW
  obtain ⟨p, q, hA0, hV, rfl, _, _⟩ := hW
  have hA : DataW.TrodAll enc Tryd.prog W 0 (fun _ => true) true Tryd.f4.params.toList args.toList ds p := hA0
  rw [Tryd.params4] at hA hval
  obtain ⟨v0, d0, rfl, rfl, h0⟩ := trodAll_one hA
  obtain ⟨rfl, rfl⟩ := trodVars_none hV
  have lt0 : ∀ x ∈ p, x.block < W.heap.size := by obtain ⟨m, hm⟩ := h0; exact DataW.trod_lt m _ _ _ hm
  have near : Near 27 d0 := fun n hn => by
    have := List.all_eq_true.1 hsz0 n (DataW.weights_mem_each (j := 0) (t := 27) (d := d0) (by rw [Tryd.params4]; rfl) rfl n hn)
    simpa using this
  obtain ⟨b, rs, L, ns, A, B, D, c, cl, cn, s, rfl, hs⟩ := script_all (hval 0 27 v0 rfl rfl) near h0
  clear hA0 hval0
  refine (SegParses_any b rs L ns A B D c cl cn s W (by have := hs.lA; omega) (by have := hs.lB; omega) (by have := hs.lD; omega) hs.hA hs.hB hs.hD (tab_of_laid hL)).mono fun e W' ⟨he, bel⟩ => ?_
  subst he
  exact ⟨_, rfl, _, _, _, [], _, [], hW', trodAll_mk1 (shut_bool Tryd.underlying4 _), trodAll_mk1 (Below.trod laidOut_true (by kernel_rfl) (of_decide_eq_true (by kernel_rfl)) h0 bel lt0), rfl, bel.frame _, fun h => by cases h⟩

theorem over : Rows.segParsesRow.holds Tryd.pinned (OpenSpec.ofChange Rows.segParsesSpec) :=
  OpenClaim.holds_of_wide 4 Tryd.f4 rfl rfl rfl rfl rfl rfl rfl ⟨rfl, rfl, rfl, rfl, rfl⟩ rfl rfl rfl rfl rfl (by kernel_rfl) Tryd.func4 (by kernel_rfl)
    (of_decide_eq_true (by kernel_rfl)) (by unfold Func.isWrapper; rw [if_neg (of_decide_eq_false (by kernel_rfl))]; exact ⟨rfl, rfl⟩)
    (fun os started H enc _ => lifted os started H enc)

theorem proved : Rows.SegParsesCardSaid :=
  Claim7.holds_tied_plain_at .later [] [.data] true _ true
    over (fun _ h => by cases h) (by kernel_rfl) (fun _ h => by cases h) segParses_row_tie rfl ⟨rfl, rfl⟩ (by kernel_rfl) rfl
    (fun f fn hf hfn => by
      obtain rfl : f = 4 := Option.some.inj ((show Tryd.prog.funcNamed "fairway/fairwaylaw11.SegParses" = some 4 by kernel_rfl).symm.trans hf) |>.symm
      obtain rfl : fn = Tryd.f4 := (Option.some.inj (Tryd.func4.symm.trans hfn)).symm
      exact ⟨by kernel_rfl, fun j t ht => by
        rw [Tryd.params4] at ht
        have hm : t ∈ [27] := by simpa using Array.mem_of_getElem? ht
        have hall : ([27].all fun u => !Tryd.prog.wantsStandIn u) = true := by kernel_rfl
        exact (show Tryd.prog.wantsStandIn t = false by simpa using List.all_eq_true.1 hall t hm)⟩)
    (by kernel_rfl)
#print axioms proved
end Go.Proofs.YthhpmhibkbndhaaDoor.segParses
