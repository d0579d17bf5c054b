/- For every script: whatever is added, one behind the other, package seg tells the segment that the document's own answer tells, its size and its bytes, or refuses it. The table of sums is tied to the program's text. No condition. -/
import Derived.Deep.CutRange
import Derived.Test.YthhpmhibkbndhaaDoorCards
import Derived.SevenTiedAt
import Derived.Test.YthhpmhibkbndhaaDoorQ05
/- Package seg: how many bytes the records of a segment have. -/
namespace Go.Proofs.YthhpmhibkbndhaaDoor
open Go.RowKit Go.Lib Rcd

theorem RecSize_good (r : Rc) (n : Nat) (w : World) (h : mayB r = true) (hn : (recL r).length = n) :
    Calls Tryd.prog 27 #[ragg r] w fun e w' => e = .returned (.tuple #[.int .i64 (n : Int), .int .i64 0]) ∧ Below w.heap.size w w' := by
  obtain ⟨_, _, _, _, h5, h6, _⟩ := (may_iff _).1 h
  subst hn
  have hE : mayE r = 0 := by unfold mayE; rw [h]; rfl
  exact Size_parts r.o r.t (str r.k) (str r.b) r.q r.g (recL r).length 0 w (by rw [str_data, str_data]; exact hE) (.inl ⟨rfl, by rw [str_size]; exact h5, by rw [str_size]; exact h6, by rw [str_size, str_size, rec_len]⟩)

set_option maxRecDepth 100000 in
set_option maxHeartbeats 8000000 in
/-- seg.Size. -/
theorem SegSize_is (b : Int) (rs : List Rc) (N : Nat) (A : Option Addr) (c B : Nat) (n : Nat) (E : Int) (w : World) (hN : rs.length = N) (hm : N ≤ 9223372036854775807) (hcap : N ≤ c) (hB : B ≤ w.heap.size) (h : RecsAt w B A rs) (hE : segE b rs = E)
    (hn : (E = 0 ∧ (allL rs).length = n) ∨ (¬ E = 0 ∧ n = 0)) :
    Calls Tryd.prog 10 #[.agg #[.int .i64 b, .slice A N c]] w fun e w' => e = .returned (.tuple #[.int .i64 (n : Int), .int .i64 E]) ∧ Below w.heap.size w w' := by
  have R0 := Lib.hid (RBox.new w 24 (sarr b A N c))
  have HC := Lib.hid (fun W (hb : Below w.heap.size w W) => SegCheck_is b rs N A c B E W hN hm hcap (Nat.le_trans hB hb.size) (h.below (hb.mono hB)) hE)
  obtain ⟨p, hp⟩ : ∃ p, w.heap.size = p := ⟨_, rfl⟩
  obtain ⟨W0, hW⟩ : ∃ W0, w.alloc (.cells (sarr b A N c) 24) = W0 := ⟨_, rfl⟩
  rw [hW, hp] at R0
  unfold sarr at R0 hW
  have HW := Lib.hid hW
  have HP := Lib.hid hp
  have H := Lib.hid (h.mono hB)
  have HNN := Lib.hid hN
  clear hW hp h hN hB
  rcases hn with ⟨rfl, hn⟩ | ⟨h0, rfl⟩
  · have hseg := segE_zero hE
    have HS := Lib.hid hseg
    have HZ := Lib.hid (seg_size hseg)
    have hle := seg_len hseg
    rw [HNN.out] at hle
    have HN := Lib.hid hn
    clear hE hseg hn
    go_enter Tryd.func10, Tryd.ntmps10
    go_upto_region 1 with fail
    rw [HW.out, HP.out]
    clear HW
    have hld := R0.out.loadS rfl
    go_wp2_with (refine wpList_load_any (by rfl) 24 (.tmp 1) rfl p 0 rfl _ hld ?_; simp only [Act.put])
    refine (HC.out _ R0.out.out.2).mono ?_
    rintro e w1 ⟨rfl, hb1⟩
    have R1 := Lib.hid (R0.out.below hb1)
    clear R0 hb1 hld HC
    have d1 : w1.cell? ⟨p, 1, none⟩ = some (.slice A N c) := R1.out.cell 1
    go_wp2_with fail
    clear d1
    go_loopw [5, 18] (fun v i wr => ∃ k a : Nat, k ≤ N ∧ (allL (rs.take k)).length = a ∧ v = .int .i64 (a : Int) ∧ i = .int .i64 (k : Int) ∧ RBox w p #[.int .i64 b, .slice A N c] wr) (fun _ i _ => N - (RowKit.intOf i).toNat)
    case atStart => exact ⟨0, 0, Nat.zero_le _, rfl, rfl, rfl, R1.out⟩
    case round =>
      obtain ⟨k, a, hk, ha, rfl, rfl, hbx⟩ := hrel
      have HA := Lib.hid ha
      have R := Lib.hid hbx
      clear hbx R1 ha
      by_cases hlt : k < N
      · have hlr : k < rs.length := by rw [HNN.out]; exact hlt
        obtain ⟨b0, o0, rfl, hb0, hc⟩ := (H.out.below R.out.out.2).some_ (by omega)
        have hr := hc k hlr
        have hmay := seg_may HS.out _ (List.getElem_mem hlr)
        obtain ⟨z, hz⟩ : ∃ z, (recL rs[k]).length = z := ⟨_, rfl⟩
        have HRS := Lib.hid (fun W => RecSize_good rs[k] z W hmay hz)
        have HA2 : Hid ((allL (rs.take (k + 1))).length = a + z) := by show _ = _; rw [all_next hlr, HA.out, hz]
        have hsum : a + z ≤ 420000 := by
          rw [← HA2.out]
          exact Nat.le_trans (all_take_le _ _) HZ.out
        clear HA hc hmay hz
        unfold ragg at HRS
        generalize rs[k] = r at hr HRS
        obtain ⟨o, t, key, bod, q, g⟩ := r
        obtain ⟨c0, c1, c2, c3, c4, c5⟩ := hr
        dsimp only at c0 c1 c2 c3 c4 c5 HRS
        generalize str key = ks at c2 HRS
        generalize str bod = bs at c3 HRS
        have e1 : (k : Int) < (N : Int) := by omega
        have hpw : w.heap.size ≤ p := Nat.le_of_eq HP.out
        have hD := Duo.more R.out hpw 42 zcells
        obtain ⟨g9, hg9⟩ : ∃ g9, wr.heap.size = g9 := ⟨_, rfl⟩
        obtain ⟨W4, hW4⟩ : ∃ W4, wr.alloc (.cells zcells 42) = W4 := ⟨_, rfl⟩
        rw [hg9, hW4] at hD
        have HBN := Lib.hid hD.out.2.1
        have D5 := Lib.hid (hD.row2 (rarr o t ks bs q g))
        unfold zcells at hW4
        have HW4 := Lib.hid hW4
        clear hD hW4 hlr R
        unfold rarr at D5 HRS
        go_upto_region 8 with (rw [HW4.out]; refine wpList_store_whole rfl 42 (.tmp 7) (.tmp 21) rfl g9 _ rfl rfl zcells HBN.out info_rec rfl (by simp [Value.oneCell']) ?_; simp only [Act.put])
        clear HW4 HBN c0 c1 c2 c3 c4 c5 hg9
        generalize World.setRow _ _ _ = w5 at D5 ⊢
        have hld := D5.out.box2.load rfl
        go_wp2_with (refine wpList_load_any (by rfl) 42 (.tmp 7) rfl g9 0 rfl _ hld ?_; simp only [Act.put])
        refine (HRS.out _).mono ?_
        rintro e w6 ⟨rfl, hb6⟩
        have R6 := Lib.hid (D5.out.box1.below hb6)
        clear D5 hb6 hld HRS
        have e2 : (a : Int) + (z : Int) ≤ 420000 := by omega
        go_wp2_with fail
        go_roundw
        case rel => exact ⟨k + 1, a + z, hlt, HA2.out, by go_num, by go_num, R6.out⟩
        case measure => simp [RowKit.intOf]; omega
      · obtain rfl : k = N := by omega
        obtain rfl : a = n := by
          rw [← HA.out, ← HN.out, List.take_of_length_le (by rw [HNN.out]; exact Nat.le_refl _)]
        go_wp2_with fail
        go_ret2
        exact ⟨rfl, R.out.out.2⟩
  · have h0b : (E == 0) = false := by rw [beq_eq_false_iff_ne]; exact h0
    have h0c : (E != 0) = true := by rw [bne_iff_ne]; exact h0
    rw [show ((0 : Nat) : Int) = 0 from rfl]
    go_enter Tryd.func10, Tryd.ntmps10
    go_upto_region 1 with fail
    rw [HW.out, HP.out]
    clear HW
    have hld := R0.out.loadS rfl
    go_wp2_with (refine wpList_load_any (by rfl) 24 (.tmp 1) rfl p 0 rfl _ hld ?_; simp only [Act.put])
    refine (HC.out _ R0.out.out.2).mono ?_
    rintro e w1 ⟨rfl, hb1⟩
    have R1 := Lib.hid (R0.out.below hb1)
    clear R0 hb1 hld HC
    go_wp2_with fail
    go_ret2
    exact ⟨rfl, R1.out.out.2⟩
end Go.Proofs.YthhpmhibkbndhaaDoor
/- The document's own answer: the bytes of a segment's records. -/
namespace Go.Proofs.YthhpmhibkbndhaaDoor
open Go.RowKit Go.Lib Vbi Rcd Crc

set_option maxRecDepth 100000 in
set_option maxHeartbeats 8000000 in
/-- fairwayref10.Text, of what may be. -/
theorem RText_is (b : Int) (rs : List Rc) (N : Nat) (A : Option Addr) (c B : Nat) (S : ByteArray) (w : World) (hN : rs.length = N) (hB : B ≤ w.heap.size) (h : RecsAt w B A rs) (hs : segB b rs = true) (hS : str (allL rs) = S) :
    Calls Tryd.prog 9 #[.agg #[.int .i64 b, .slice A N c]] w fun e w' => e = .returned (.string S) ∧ Below w.heap.size w w' := by
  have R0 := Lib.hid (RBox.new w 24 (sarr b A N c))
  obtain ⟨p, hp⟩ : ∃ p, w.heap.size = p := ⟨_, rfl⟩
  obtain ⟨W0, hW⟩ : ∃ W0, w.alloc (.cells (sarr b A N c) 24) = W0 := ⟨_, rfl⟩
  rw [hW, hp] at R0
  unfold sarr at R0 hW
  have HW := Lib.hid hW
  have HP := Lib.hid hp
  have H := Lib.hid (h.mono hB)
  have HS := Lib.hid hs
  have HZ := Lib.hid (seg_size hs)
  have hle := seg_len hs
  have HNN := Lib.hid hN
  rw [HNN.out] at hle
  have HSS := Lib.hid hS
  clear hW hp h hN hB hs hS
  go_enter Tryd.func9, Tryd.ntmps9
  go_upto_region 1 with fail
  rw [HW.out, HP.out]
  clear HW
  go_wp2_with fail
  go_loopw [3, 4] (fun v i wr => ∃ (k : Nat) (s : ByteArray), k ≤ N ∧ str (allL (rs.take k)) = s ∧ v = .string s ∧ i = .int .i64 (k : Int) ∧ RBox w p #[.int .i64 b, .slice A N c] wr) (fun _ i _ => N - (RowKit.intOf i).toNat)
  case atStart => exact ⟨0, ⟨#[]⟩, Nat.zero_le _, rfl, rfl, rfl, R0.out⟩
  case round =>
    obtain ⟨k, s, hk, ha, rfl, rfl, hbx⟩ := hrel
    have HA := Lib.hid ha
    have R := Lib.hid hbx
    clear hbx R0 ha
    have d1 : wr.cell? ⟨p, 1, none⟩ = some (.slice A N c) := R.out.cell 1
    by_cases hlt : k < N
    · have hlr : k < rs.length := by rw [HNN.out]; exact hlt
      obtain ⟨b0, o0, rfl, hb0, hc⟩ := (H.out.below R.out.out.2).some_ (by omega)
      have hr := hc k hlr
      have hmay := seg_may HS.out _ (List.getElem_mem hlr)
      obtain ⟨z, hz⟩ : ∃ z, str (recL rs[k]) = z := ⟨_, rfl⟩
      have HRS := Lib.hid (fun W => RBytes_is rs[k] z W hmay hz)
      have HA2 : Hid (str (allL (rs.take (k + 1))) = s ++ z) := by show _ = _; rw [all_next_str hlr, HA.out, hz]
      have hsum : s.size + z.size ≤ 420000 := by
        have : (s ++ z).size ≤ 420000 := by
          rw [← HA2.out, str_size]
          exact Nat.le_trans (all_take_le _ _) HZ.out
        rwa [ByteArray.size_append] at this
      clear HA hc hmay hz
      unfold ragg at HRS
      generalize rs[k] = r at hr HRS
      obtain ⟨o, t, key, bod, q, g⟩ := r
      obtain ⟨c0, c1, c2, c3, c4, c5⟩ := hr
      dsimp only at c0 c1 c2 c3 c4 c5 HRS
      generalize str key = ks at c2 HRS
      generalize str bod = bs at c3 HRS
      unfold rarr at HRS
      have e1 : (k : Int) < (N : Int) := by omega
      have e2 : ¬ 9223372036854775807 < s.size + z.size := by omega
      clear hlr
      go_wp2_with fail
      refine (HRS.out _).mono ?_
      rintro e w6 ⟨rfl, hb6⟩
      have R6 := Lib.hid (R.out.below hb6)
      clear R hb6 HRS d1 c0 c1 c2 c3 c4 c5
      go_wp2_with fail
      go_roundw
      case rel => exact ⟨k + 1, s ++ z, hlt, HA2.out, rfl, by go_num, R6.out⟩
      case measure => simp [RowKit.intOf]; omega
    · obtain rfl : k = N := by omega
      obtain rfl : s = S := by
        rw [← HA.out, ← HSS.out, List.take_of_length_le (by rw [HNN.out]; exact Nat.le_refl _)]
      go_wp2_with fail
      go_ret
      exact ⟨rfl, R.out.out.2⟩
end Go.Proofs.YthhpmhibkbndhaaDoor
/- Records of the call's own written over. -/
namespace Go.Proofs.YthhpmhibkbndhaaDoor
open Go.RowKit Go.Lib Rcd

theorem own_cells {w : World} {B e n g c : Nat} {xs : List Value} (h : w.ownsRow B e 6 (.slice (some ⟨g, 0, none⟩) n c) n xs) {j : Nat} (hj : j < n * 6) : ∃ v, w.cell? ⟨g, j, none⟩ = some v := by
  refine ⟨xs[j]'(by rw [h.1]; exact hj), ?_⟩
  rw [h.cellAt j hj]
  exact List.getElem?_eq_getElem _
theorem own_addr {w : World} {B e n c : Nat} {A : Option Addr} {xs : List Value} (h : w.ownsRow B e 6 (.slice A n c) n xs) (hn : 0 < n) : ∃ g, A = some ⟨g, 0, none⟩ ∧ B ≤ g := by
  rcases h.2 with ⟨_, h0⟩ | ⟨g, cap, cur, hv, hg, _⟩
  · omega
  · injection hv with h1
    exact ⟨g, h1, hg⟩
theorem own_put {w : World} {B e n g c : Nat} {xs : List Value} (h : w.ownsRow B e 6 (.slice (some ⟨g, 0, none⟩) n c) n xs) (j : Nat) (a : Value) :
    (∃ ys, (w.setCell ⟨g, j, none⟩ a).ownsRow B e 6 (.slice (some ⟨g, 0, none⟩) n c) n ys) ∧ Below B w (w.setCell ⟨g, j, none⟩ a) := by
  have hg : B ≤ g := by
    rcases h.2 with ⟨hv, _⟩ | ⟨g', cap, cur, hv, hg, _⟩
    · cases hv
    · injection hv with h1
      injection h1 with h1
      injection h1 with h1
      omega
  exact ⟨⟨_, (h.stored j a).1⟩, (Below.refl B w).setCell (p := ⟨g, j, none⟩) hg _⟩
theorem own_six {w : World} {B e n g c : Nat} {xs : List Value} (h : w.ownsRow B e 6 (.slice (some ⟨g, 0, none⟩) n c) n xs) (j0 j1 j2 j3 j4 j5 : Nat) (a0 a1 a2 a3 a4 a5 : Value) :
    (∃ ys, ((((((w.setCell ⟨g, j0, none⟩ a0).setCell ⟨g, j1, none⟩ a1).setCell ⟨g, j2, none⟩ a2).setCell ⟨g, j3, none⟩ a3).setCell ⟨g, j4, none⟩ a4).setCell ⟨g, j5, none⟩ a5).ownsRow B e 6 (.slice (some ⟨g, 0, none⟩) n c) n ys) ∧
    Below B w ((((((w.setCell ⟨g, j0, none⟩ a0).setCell ⟨g, j1, none⟩ a1).setCell ⟨g, j2, none⟩ a2).setCell ⟨g, j3, none⟩ a3).setCell ⟨g, j4, none⟩ a4).setCell ⟨g, j5, none⟩ a5) := by
  obtain ⟨⟨y0, k0⟩, b0⟩ := own_put h j0 a0
  obtain ⟨⟨y1, k1⟩, b1⟩ := own_put k0 j1 a1
  obtain ⟨⟨y2, k2⟩, b2⟩ := own_put k1 j2 a2
  obtain ⟨⟨y3, k3⟩, b3⟩ := own_put k2 j3 a3
  obtain ⟨⟨y4, k4⟩, b4⟩ := own_put k3 j4 a4
  obtain ⟨⟨y5, k5⟩, b5⟩ := own_put k4 j5 a5
  exact ⟨⟨y5, k5⟩, ((((b0.trans b1).trans b2).trans b3).trans b4).trans b5⟩

set_option maxRecDepth 100000 in
set_option maxHeartbeats 4000000 in
/-- fairwaylaw0.Recs. -/
theorem Spoil_is (B n c : Nat) (A : Option Addr) (xs : List Value) (w : World) (hB : B ≤ w.heap.size) (hn : n ≤ 1000000) (h : w.ownsRow B 42 6 (.slice A n c) n xs) :
    Calls Tryd.prog 17 #[.slice A n c] w fun e w' => (∃ v, e = .returned v) ∧ Below B w w' := by
  obtain ⟨i0, hi, hz0, hz1, hz2⟩ := info_parts info_more
  have H := Lib.hid h
  clear h
  go_enter Tryd.func17, Tryd.ntmps17
  go_wp2_with fail
  go_loopw [2] (fun i wr => ∃ (k : Nat) (ys : List Value), k ≤ n ∧ i = .int .i64 (k : Int) ∧ wr.ownsRow B 42 6 (.slice A n c) n ys ∧ Below B w wr) (fun i _ => n - (RowKit.intOf i).toNat)
  case atStart => exact ⟨0, xs, Nat.zero_le _, rfl, H.out, Below.refl _ _⟩
  case round =>
    obtain ⟨k, ys, hk, rfl, hown, hb⟩ := hrel
    have hBr : B ≤ wr.heap.size := Nat.le_trans hB hb.size
    by_cases hlt : k < n
    · obtain ⟨g, rfl, hg⟩ := own_addr hown (by omega)
      obtain ⟨v0, c0⟩ := own_cells hown (j := k * 6) (by omega)
      obtain ⟨v1, c1⟩ := own_cells hown (j := k * 6 + 1) (by omega)
      obtain ⟨v2, c2⟩ := own_cells hown (j := k * 6 + 2) (by omega)
      obtain ⟨v3, c3⟩ := own_cells hown (j := k * 6 + 3) (by omega)
      obtain ⟨v4, c4⟩ := own_cells hown (j := k * 6 + 4) (by omega)
      obtain ⟨v5, c5⟩ := own_cells hown (j := k * 6 + 5) (by omega)
      have f0 := hown.frozenAt (k * 6)
      have f1 := hown.frozenAt (k * 6 + 1)
      have f2 := hown.frozenAt (k * 6 + 2)
      have f3 := hown.frozenAt (k * 6 + 3)
      have f4 := hown.frozenAt (k * 6 + 4)
      have f5 := hown.frozenAt (k * 6 + 5)
      have H4 := Lib.hid (own_six hown (k * 6) (k * 6 + 1) (k * 6 + 2) (k * 6 + 3) (k * 6 + 4) (k * 6 + 5) (.int .i64 (-9)) (.int .i64 0) (.string ⟨#[]⟩) (.string ⟨#[]⟩) (.int .i64 0) (.bool false))
      have HB := Lib.hid hb
      have hkI : (k : Int) < (n : Int) := by omega
      clear hown hb H
      go_wp2_with fail
      go_roundw
      case rel =>
        obtain ⟨⟨zs, hz⟩, hbb⟩ := H4.out
        exact ⟨k + 1, zs, hlt, by go_num, hz, HB.out.trans hbb⟩
      case measure => simp [RowKit.intOf]; omega
    · obtain rfl : k = n := by omega
      have HO := Lib.hid hown
      have HB := Lib.hid hb
      clear hown hb H
      go_wp2_with (at_builtin; refine wpList_append_own _ rfl _ _ 22 rfl B 42 i0 (.agg zcells) 6 64 Tryd.underlying22 hi hz0 hz1 hz2 rfl (by decide) _ _ _ rfl (HO.out.alloc _) ⟨wr.heap.size, 0, none⟩ 1 1 [.int .i64 0, .int .i64 0, .string ⟨#[]⟩, .string ⟨#[]⟩, .int .i64 0, .bool false] rfl rfl ?c1 ?c2 ?c3 ?c4 ?c5 ?_)
      case c1 => exact fun jj uu h => cells_new wr _ [.int .i64 0, .int .i64 0, .string ⟨#[]⟩, .string ⟨#[]⟩, .int .i64 0, .bool false] jj uu h
      case c2 => exact one_cells zero
      case c3 => unfold maxLen; omega
      case c4 => first | omega | (simp; omega)
      case c5 => simp; omega
      intro v' w1 hown' hgrow _
      have hnx := HB.out.trans (below_alloc_grown hBr HO.out hgrow)
      have HN := Lib.hid hnx
      clear hown' hgrow hnx
      go_wp2_with fail
      exact bodyPost_end (v := .tuple #[]) (by simp [results, Tryd.results17]) rfl ⟨⟨_, rfl⟩, HN.out⟩

end Go.Proofs.YthhpmhibkbndhaaDoor
/- Records of the call's own written over: nothing else is. -/
namespace Go.Proofs.YthhpmhibkbndhaaDoor
open Go.RowKit Go.Lib Rcd

theorem grown_trans {w w1 w2 : World} {row : Option Nat} (h1 : w.grownBy w1 row) (h2 : w1.grownBy w2 row) : w.grownBy w2 row :=
  ⟨h2.os.trans h1.os, h2.tape.trans h1.tape, h2.output.trans h1.output, Nat.le_trans h1.size h2.size, fun k hk hne => (h2.block k (Nat.lt_of_lt_of_le hk h1.size) hne).trans (h1.block k hk hne)⟩
theorem grown_cell (W : World) (g j : Nat) (v : Value) : W.grownBy (W.setCell ⟨g, j, none⟩ v) (some g) :=
  ⟨rfl, rfl, rfl, by simp, fun k _ hne => Below.heap_setCell W ⟨g, j, none⟩ v k (fun e => hne (by rw [e]))⟩
theorem six_grown (w : World) (g j0 j1 j2 j3 j4 j5 : Nat) (a0 a1 a2 a3 a4 a5 : Value) : w.grownBy ((((((w.setCell ⟨g, j0, none⟩ a0).setCell ⟨g, j1, none⟩ a1).setCell ⟨g, j2, none⟩ a2).setCell ⟨g, j3, none⟩ a3).setCell ⟨g, j4, none⟩ a4).setCell ⟨g, j5, none⟩ a5) (some g) :=
  grown_trans (grown_trans (grown_trans (grown_trans (grown_trans (grown_cell w g j0 a0) (grown_cell _ g j1 a1)) (grown_cell _ g j2 a2)) (grown_cell _ g j3 a3)) (grown_cell _ g j4 a4)) (grown_cell _ g j5 a5)

set_option maxRecDepth 100000 in
set_option maxHeartbeats 4000000 in
/-- fairwaylaw0.Recs: nothing but the row is written. -/
theorem SpoilG_is (B n c : Nat) (A : Option Addr) (xs : List Value) (w : World) (hB : B ≤ w.heap.size) (hn : n ≤ 1000000) (h : w.ownsRow B 42 6 (.slice A n c) n xs) :
    Calls Tryd.prog 17 #[.slice A n c] w fun e w' => (∃ v, e = .returned v) ∧ w.grownBy w' (Value.slice A n c).ownBlock := by
  obtain ⟨i0, hi, hz0, hz1, hz2⟩ := info_parts info_more
  have H := Lib.hid h
  clear h
  go_enter Tryd.func17, Tryd.ntmps17
  go_wp2_with fail
  go_loopw [2] (fun i wr => ∃ (k : Nat) (ys : List Value), k ≤ n ∧ i = .int .i64 (k : Int) ∧ wr.ownsRow B 42 6 (.slice A n c) n ys ∧ w.grownBy wr (Value.slice A n c).ownBlock) (fun i _ => n - (RowKit.intOf i).toNat)
  case atStart => exact ⟨0, xs, Nat.zero_le _, rfl, H.out, World.grownBy.refl _ _⟩
  case round =>
    obtain ⟨k, ys, hk, rfl, hown, hb⟩ := hrel
    have hBr : B ≤ wr.heap.size := Nat.le_trans hB hb.size
    by_cases hlt : k < n
    · obtain ⟨g, rfl, hg⟩ := own_addr hown (by omega)
      obtain ⟨v0, c0⟩ := own_cells hown (j := k * 6) (by omega)
      obtain ⟨v1, c1⟩ := own_cells hown (j := k * 6 + 1) (by omega)
      obtain ⟨v2, c2⟩ := own_cells hown (j := k * 6 + 2) (by omega)
      obtain ⟨v3, c3⟩ := own_cells hown (j := k * 6 + 3) (by omega)
      obtain ⟨v4, c4⟩ := own_cells hown (j := k * 6 + 4) (by omega)
      obtain ⟨v5, c5⟩ := own_cells hown (j := k * 6 + 5) (by omega)
      have f0 := hown.frozenAt (k * 6)
      have f1 := hown.frozenAt (k * 6 + 1)
      have f2 := hown.frozenAt (k * 6 + 2)
      have f3 := hown.frozenAt (k * 6 + 3)
      have f4 := hown.frozenAt (k * 6 + 4)
      have f5 := hown.frozenAt (k * 6 + 5)
      have H4 := Lib.hid (own_six hown (k * 6) (k * 6 + 1) (k * 6 + 2) (k * 6 + 3) (k * 6 + 4) (k * 6 + 5) (.int .i64 (-9)) (.int .i64 0) (.string ⟨#[]⟩) (.string ⟨#[]⟩) (.int .i64 0) (.bool false))
      have HB := Lib.hid hb
      have hkI : (k : Int) < (n : Int) := by omega
      clear hown hb H
      go_wp2_with fail
      go_roundw
      case rel =>
        obtain ⟨⟨zs, hz⟩, _⟩ := H4.out
        exact ⟨k + 1, zs, hlt, by go_num, hz, grown_trans HB.out (six_grown wr g _ _ _ _ _ _ _ _ _ _ _ _)⟩
      case measure => simp [RowKit.intOf]; omega
    · obtain rfl : k = n := by omega
      have HO := Lib.hid hown
      have HB := Lib.hid hb
      clear hown hb H
      go_wp2_with (at_builtin; refine wpList_append_own _ rfl _ _ 22 rfl B 42 i0 (.agg zcells) 6 64 Tryd.underlying22 hi hz0 hz1 hz2 rfl (by decide) _ _ _ rfl (HO.out.alloc _) ⟨wr.heap.size, 0, none⟩ 1 1 [.int .i64 0, .int .i64 0, .string ⟨#[]⟩, .string ⟨#[]⟩, .int .i64 0, .bool false] rfl rfl ?c1 ?c2 ?c3 ?c4 ?c5 ?_)
      case c1 => exact fun jj uu h => cells_new wr _ [.int .i64 0, .int .i64 0, .string ⟨#[]⟩, .string ⟨#[]⟩, .int .i64 0, .bool false] jj uu h
      case c2 => exact one_cells zero
      case c3 => unfold maxLen; omega
      case c4 => first | omega | (simp; omega)
      case c5 => simp; omega
      intro v' w1 hown' hgrow _
      have hnx := grown_trans HB.out (grown_trans (World.grownBy_alloc wr _ _) hgrow)
      have HN := Lib.hid hnx
      clear hown' hgrow hnx
      go_wp2_with fail
      exact bodyPost_end (v := .tuple #[]) (by simp [results, Tryd.results17]) rfl ⟨⟨_, rfl⟩, HN.out⟩

end Go.Proofs.YthhpmhibkbndhaaDoor
/- SegAdds: whatever is added, one behind the other, package seg and the document's own answer tell the same segment, its size and its bytes, or refuse it. -/
namespace Go.Proofs.YthhpmhibkbndhaaDoor
open Go.RowKit Go.Lib Vbi Rcd Crc

/-- The script in its box; the segment so far in another, its records in memory; all that was there ahead of the call. -/
@[irreducible] def AX (w : World) (p q : Nat) (cs : Array Value) (b : Int) (X : List Rc) (Ax : Option Addr) (cx : Nat) (W : World) : Prop := Blk W p cs ∧ SBlk W q #[.int .i64 b, .slice Ax X.length cx] ∧ RecsAt W W.heap.size Ax X ∧ Below w.heap.size w W ∧ w.heap.size ≤ p ∧ p < q
section
variable {w W W' : World} {p q : Nat} {cs : Array Value} {b : Int} {X : List Rc} {Ax : Option Addr} {cx : Nat}
theorem AX.mk (h : Blk W p cs ∧ SBlk W q #[.int .i64 b, .slice Ax X.length cx] ∧ RecsAt W W.heap.size Ax X ∧ Below w.heap.size w W ∧ w.heap.size ≤ p ∧ p < q) : AX w p q cs b X Ax cx W := by unfold AX; exact h
theorem AX.out (h : AX w p q cs b X Ax cx W) : Blk W p cs ∧ SBlk W q #[.int .i64 b, .slice Ax X.length cx] ∧ RecsAt W W.heap.size Ax X ∧ Below w.heap.size w W ∧ w.heap.size ≤ p ∧ p < q := by unfold AX at h; exact h
theorem AX.below (h : AX w p q cs b X Ax cx W) (hb : Below W.heap.size W W') : AX w p q cs b X Ax cx W' := by
  obtain ⟨h1, h2, h3, h4, h5, h6⟩ := h.out
  exact .mk ⟨h1.below hb, h2.below hb, h3.on hb, h4.trans (hb.mono h4.size), h5, h6⟩
theorem AX.bel (h : AX w p q cs b X Ax cx W) : Below w.heap.size w W := h.out.2.2.2.1
theorem AX.loadX (h : AX w p q cs b X Ax cx W) : (loadVar 24 ⟨q, 0, none⟩).run Tryd.prog W = .ok (.agg #[.int .i64 b, .slice Ax X.length cx]) W := load_seg h.out.2.1.blk rfl
end
/-- What was copied and what was told, each in its box, behind the round's start. -/
@[irreducible] def YX (w : World) (z y u : Nat) (b : Int) (X : List Rc) (Ai : Option Addr) (ci : Nat) (b' : Int) (Y : List Rc) (Ay : Option Addr) (cy : Nat) (W : World) : Prop :=
  Blk W z #[.int .i64 b, .slice Ai X.length ci] ∧ RecsAt W z Ai X ∧ SBlk W y #[.int .i64 b', .slice Ay Y.length cy] ∧ W.ownsRow (z + 1) 42 6 (.slice Ay Y.length cy) Y.length (flat Y) ∧ ((∀ g, (Value.slice Ay Y.length cy).ownBlock = some g → g < u) ∧ u ≤ W.heap.size) ∧ Below w.heap.size w W ∧ w.heap.size ≤ z ∧ z < y
section
variable {w W W' : World} {z y u : Nat} {b : Int} {X : List Rc} {Ai : Option Addr} {ci : Nat} {b' : Int} {Y : List Rc} {Ay : Option Addr} {cy : Nat}
theorem YX.mk (h : Blk W z #[.int .i64 b, .slice Ai X.length ci] ∧ RecsAt W z Ai X ∧ SBlk W y #[.int .i64 b', .slice Ay Y.length cy] ∧ W.ownsRow (z + 1) 42 6 (.slice Ay Y.length cy) Y.length (flat Y) ∧ ((∀ g, (Value.slice Ay Y.length cy).ownBlock = some g → g < u) ∧ u ≤ W.heap.size) ∧ Below w.heap.size w W ∧ w.heap.size ≤ z ∧ z < y) : YX w z y u b X Ai ci b' Y Ay cy W := by unfold YX; exact h
theorem YX.out (h : YX w z y u b X Ai ci b' Y Ay cy W) : Blk W z #[.int .i64 b, .slice Ai X.length ci] ∧ RecsAt W z Ai X ∧ SBlk W y #[.int .i64 b', .slice Ay Y.length cy] ∧ W.ownsRow (z + 1) 42 6 (.slice Ay Y.length cy) Y.length (flat Y) ∧ ((∀ g, (Value.slice Ay Y.length cy).ownBlock = some g → g < u) ∧ u ≤ W.heap.size) ∧ Below w.heap.size w W ∧ w.heap.size ≤ z ∧ z < y := by unfold YX at h; exact h
theorem YX.below (h : YX w z y u b X Ai ci b' Y Ay cy W) (hb : Below W.heap.size W W') : YX w z y u b X Ai ci b' Y Ay cy W' := by
  obtain ⟨h1, h2, h3, h4, h5, h6, h7, h8⟩ := h.out
  exact .mk ⟨h1.below hb, h2.below (hb.mono (Nat.le_of_lt h1.lt)), h3.below hb, own_below h4 hb, ⟨h5.1, Nat.le_trans h5.2 hb.size⟩, h6.trans (hb.mono h6.size), h7, h8⟩
theorem YX.drewN (h : YX w z y u b X Ai ci b' Y Ay cy W) (k : Nat) : YX w z y u b X Ai ci b' Y Ay cy (W.drewN k) := h.below (below_drewN (Below.refl _ _) k)
theorem YX.bel (h : YX w z y u b X Ai ci b' Y Ay cy W) : Below w.heap.size w W := h.out.2.2.2.2.2.1
theorem YX.row (h : YX w z y u b X Ai ci b' Y Ay cy W) {v : Nat} {cs : Array Value} (k : SBlk W v cs) (hu : y < v) (ds : Array Value) : YX w z y u b X Ai ci b' Y Ay cy (W.setRow v ds) := by
  obtain ⟨h1, h2, h3, h4, h5, h6, h7, h8⟩ := h.out
  exact .mk ⟨setRow_blk h1 (by omega) _, h2.row (by omega) _, (setRow_other W v y ds (by omega)).trans h3, own_seg_row k h4 _, ⟨h5.1, by simpa using h5.2⟩, below_row h6 (by omega) _, h7, h8⟩
/-- What was told is written over. -/
theorem YX.spoilt (h : YX w z y u b X Ai ci b' Y Ay cy W) (hg : W.grownBy W' (Value.slice Ay Y.length cy).ownBlock) : Blk W' z #[.int .i64 b, .slice Ai X.length ci] ∧ RecsAt W' z Ai X ∧ Below w.heap.size w W' := by
  obtain ⟨h1, h2, h3, h4, h5, h6, h7, h8⟩ := h.out
  have hb : Below (z + 1) W W' := below_grown h1.lt h4 hg
  obtain ⟨T, h1⟩ := h1
  exact ⟨⟨T, (hb.block z (Nat.lt_succ_self _)).trans h1⟩, h2.below (hb.mono (Nat.le_succ _)), h6.trans (hb.mono (by omega))⟩
end
theorem own_later {w w' : World} {B y n c : Nat} {A : Option Addr} {xs : List Value} {Ay : Option Addr} {m cy : Nat} (h : w.ownsRow B 42 6 (.slice A n c) n xs) (hy : ∀ g, (Value.slice Ay m cy).ownBlock = some g → g < y) (hB : y ≤ B) (hg : w.grownBy w' (Value.slice Ay m cy).ownBlock) : w'.ownsRow B 42 6 (.slice A n c) n xs := by
  refine h.kept hg ?_
  cases he : (Value.slice A n c).ownBlock with
  | none => exact .inl rfl
  | some g =>
    right
    intro e
    have h1 := (h.lt g he).1
    have h2 := hy g e.symm
    omega

/-- The same, and the document's own next one in its box. -/
@[irreducible] def NW (w : World) (z y u nx : Nat) (b : Int) (X : List Rc) (Ai : Option Addr) (ci : Nat) (b' : Int) (Y : List Rc) (Ay : Option Addr) (cy : Nat) (ds : Array Value) (W : World) : Prop := YX w z y u b X Ai ci b' Y Ay cy W ∧ SBlk W nx ds ∧ y < nx ∧ u ≤ nx
section
variable {w W W' : World} {z y u nx : Nat} {b : Int} {X : List Rc} {Ai : Option Addr} {ci : Nat} {b' : Int} {Y : List Rc} {Ay : Option Addr} {cy : Nat} {ds : Array Value}
theorem NW.mk (h : YX w z y u b X Ai ci b' Y Ay cy W ∧ SBlk W nx ds ∧ y < nx ∧ u ≤ nx) : NW w z y u nx b X Ai ci b' Y Ay cy ds W := by unfold NW; exact h
theorem NW.out (h : NW w z y u nx b X Ai ci b' Y Ay cy ds W) : YX w z y u b X Ai ci b' Y Ay cy W ∧ SBlk W nx ds ∧ y < nx ∧ u ≤ nx := by unfold NW at h; exact h
theorem NW.below (h : NW w z y u nx b X Ai ci b' Y Ay cy ds W) (hb : Below W.heap.size W W') : NW w z y u nx b X Ai ci b' Y Ay cy ds W' := by
  obtain ⟨h1, h2, h3, h4⟩ := h.out
  exact .mk ⟨h1.below hb, h2.below hb, h3, h4⟩
theorem NW.drewN (h : NW w z y u nx b X Ai ci b' Y Ay cy ds W) (k : Nat) : NW w z y u nx b X Ai ci b' Y Ay cy ds (W.drewN k) := h.below (below_drewN (Below.refl _ _) k)
theorem NW.bel (h : NW w z y u nx b X Ai ci b' Y Ay cy ds W) : Below w.heap.size w W := h.out.1.bel
theorem NW.row (h : NW w z y u nx b X Ai ci b' Y Ay cy ds W) (es : Array Value) : NW w z y u nx b X Ai ci b' Y Ay cy es (W.setRow nx es) := by
  obtain ⟨h1, h2, h3, h4⟩ := h.out
  exact .mk ⟨h1.row h2 h3 es, h2.row es, h3, h4⟩
end
/-- The same, its records in a row of the call's own. -/
@[irreducible] def PX (w : World) (z y u nx : Nat) (b : Int) (X : List Rc) (Ai : Option Addr) (ci : Nat) (b' : Int) (Y : List Rc) (Ay : Option Addr) (cy : Nat) (An : Option Addr) (cn : Nat) (W : World) : Prop := NW w z y u nx b X Ai ci b' Y Ay cy #[.int .i64 b', .slice An Y.length cn] W ∧ W.ownsRow u 42 6 (.slice An Y.length cn) Y.length (flat Y)
section
variable {w W W' : World} {z y u nx : Nat} {b : Int} {X : List Rc} {Ai : Option Addr} {ci : Nat} {b' : Int} {Y : List Rc} {Ay : Option Addr} {cy : Nat} {An : Option Addr} {cn : Nat}
theorem PX.mk (h : NW w z y u nx b X Ai ci b' Y Ay cy #[.int .i64 b', .slice An Y.length cn] W ∧ W.ownsRow u 42 6 (.slice An Y.length cn) Y.length (flat Y)) : PX w z y u nx b X Ai ci b' Y Ay cy An cn W := by unfold PX; exact h
theorem PX.out (h : PX w z y u nx b X Ai ci b' Y Ay cy An cn W) : NW w z y u nx b X Ai ci b' Y Ay cy #[.int .i64 b', .slice An Y.length cn] W ∧ W.ownsRow u 42 6 (.slice An Y.length cn) Y.length (flat Y) := by unfold PX at h; exact h
theorem PX.below (h : PX w z y u nx b X Ai ci b' Y Ay cy An cn W) (hb : Below W.heap.size W W') : PX w z y u nx b X Ai ci b' Y Ay cy An cn W' := .mk ⟨h.out.1.below hb, own_below h.out.2 hb⟩
theorem PX.bel (h : PX w z y u nx b X Ai ci b' Y Ay cy An cn W) : Below w.heap.size w W := h.out.1.bel
end
/-- What is left when what was told is written over. -/
@[irreducible] def QX (w : World) (z u nx : Nat) (b : Int) (X : List Rc) (Ai : Option Addr) (ci : Nat) (b' : Int) (Y : List Rc) (An : Option Addr) (cn : Nat) (W : World) : Prop := Blk W z #[.int .i64 b, .slice Ai X.length ci] ∧ RecsAt W z Ai X ∧ SBlk W nx #[.int .i64 b', .slice An Y.length cn] ∧ W.ownsRow u 42 6 (.slice An Y.length cn) Y.length (flat Y) ∧ Below w.heap.size w W
section
variable {w W W' : World} {z y u nx : Nat} {b : Int} {X : List Rc} {Ai : Option Addr} {ci : Nat} {b' : Int} {Y : List Rc} {Ay : Option Addr} {cy : Nat} {An : Option Addr} {cn : Nat}
theorem QX.out (h : QX w z u nx b X Ai ci b' Y An cn W) : Blk W z #[.int .i64 b, .slice Ai X.length ci] ∧ RecsAt W z Ai X ∧ SBlk W nx #[.int .i64 b', .slice An Y.length cn] ∧ W.ownsRow u 42 6 (.slice An Y.length cn) Y.length (flat Y) ∧ Below w.heap.size w W := by unfold QX at h; exact h
theorem QX.below (h : QX w z u nx b X Ai ci b' Y An cn W) (hb : Below W.heap.size W W') : QX w z u nx b X Ai ci b' Y An cn W' := by
  obtain ⟨h1, h2, h3, h4, h5⟩ := h.out
  unfold QX
  exact ⟨h1.below hb, h2.below (hb.mono (Nat.le_of_lt h1.lt)), h3.below hb, own_below h4 hb, h5.trans (hb.mono h5.size)⟩
theorem PX.spoilt (h : PX w z y u nx b X Ai ci b' Y Ay cy An cn W) (hg : W.grownBy W' (Value.slice Ay Y.length cy).ownBlock) : QX w z u nx b X Ai ci b' Y An cn W' := by
  obtain ⟨h1, h2, h3, h4⟩ := h.out.1.out
  have h5 := h.out.2
  obtain ⟨k1, k2, k3⟩ := h1.spoilt hg
  unfold QX
  exact ⟨k1, k2, h2.grown h1.out.2.2.2.1 hg, own_later h5 h1.out.2.2.2.2.1.1 (Nat.le_refl _) hg, k3⟩
end

set_option maxRecDepth 100000 in
set_option maxHeartbeats 64000000 in
theorem SegAdds_any (b : Int) (rs L : List Rc) (A B : Option Addr) (D : Option Addr) (c cl kn cn : Nat) (x : ByteArray) (w : World) (hl1 : rs.length * 64 ≤ 140737488351232) (hl2 : L.length ≤ 9223372036854775807) (hcap : rs.length ≤ c) (hA : RecsAt w w.heap.size A rs) (hB : RecsAt w w.heap.size B L) (ht : Tab w) :
    Calls Tryd.prog 3 #[.agg #[.int .i64 b, .slice A rs.length c, .slice B L.length cl, .slice D kn cn, .string x]] w fun e w' => e = .returned (.bool true) ∧ Below w.heap.size w w' := by
  have HV := Lib.hid (fun W (hb : Below w.heap.size w W) => Heavy_is b rs L A B D c cl kn cn x W (by omega) hl2 (hA.on hb) (hB.on hb))
  have HCP := Lib.hid (fun W (hb : Below w.heap.size w W) => RCopySeg_is b rs A c w.heap.size W hl1 hb.size (hA.below hb))
  have HBL := Lib.hid hB
  have T := Lib.hid ht
  have HWK := Lib.hid (fun W => wakes_any W)
  have R0 := Lib.hid (RBox.new w 27 #[.int .i64 b, .slice A rs.length c, .slice B L.length cl, .slice D kn cn, .string x])
  obtain ⟨p, hp⟩ : ∃ p, w.heap.size = p := ⟨_, rfl⟩
  obtain ⟨W0, hW⟩ : ∃ W0, w.alloc (.cells #[.int .i64 b, .slice A rs.length c, .slice B L.length cl, .slice D kn cn, .string x] 27) = W0 := ⟨_, rfl⟩
  rw [hW, hp] at R0
  have HW := Lib.hid hW
  have HP := Lib.hid hp
  clear hW hp hA hB ht
  go_enter Tryd.func3, Tryd.ntmps3
  go_upto_region 1 with fail
  rw [HW.out, HP.out]
  clear HW
  have hld := load_script R0.out.out.1 rfl
  go_wp2_with (refine wpList_load_any (by rfl) 27 (.tmp 1) rfl p 0 rfl _ hld ?_; simp only [Act.put])
  refine (HV.out _ R0.out.out.2).mono ?_
  rintro e w1 ⟨v, rfl, _, hb1⟩
  have R1 := Lib.hid (R0.out.below hb1)
  clear R0 hb1 hld HV
  cases v with
  | true =>
    go_wp2_with fail
    go_ret
    exact ⟨rfl, R1.out.out.2⟩
  | false =>
    have hld := load_seg_at (b := b) (v := .slice A rs.length c) (R1.out.cell 0) (R1.out.cell 1)
    go_wp2_with (refine wpList_load_any (by rfl) 24 (.tmp 18) rfl p 0 rfl _ hld ?_; simp only [Act.put])
    refine (HCP.out _ R1.out.out.2).mono ?_
    rintro e w2 ⟨A1, c1, rfl, hown1, hb2⟩
    have R2 := Lib.hid (R1.out.below hb2)
    obtain ⟨q, W3, hq, hW3, hbn, hqs, hbx, hbl⟩ := seg_box R2.out.out.2 #[.int .i64 b, .slice A1 rs.length c1]
    have hpq : p < q := by rw [← hq]; exact R2.out.out.1.lt
    have hAX : AX w p q #[.int .i64 b, .slice A rs.length c, .slice B L.length cl, .slice D kn cn, .string x] b rs A1 c1 (W3.setRow q #[.int .i64 b, .slice A1 rs.length c1]) :=
      .mk ⟨R2.out.out.1.below hbl, hqs, (RecsAt.of_own hown1).on hbl, hbx.out.2, Nat.le_of_eq HP.out, hpq⟩
    have hcap1 := own_cap hown1
    have AX0 := Lib.hid hAX
    have HBN := Lib.hid hbn
    unfold szero at hW3
    have HW3 := Lib.hid hW3
    clear hbn hbx hbl hW3 hqs hAX hown1 hb2 R1 R2 hld HCP
    go_upto_region 4 with (rw [HW3.out]; refine wpList_store_whole rfl 24 (.tmp 3) (.tmp 20) rfl q #[.int .i64 b, .slice A1 rs.length c1] rfl rfl szero HBN.out info_seg rfl (by simp [Value.oneCell']) ?_; simp only [Act.put])
    clear HW3 HBN hq
    generalize World.setRow _ _ _ = w4 at AX0 ⊢
    go_wp2_with fail
    go_loopw [4] (fun i wr => ∃ (k : Nat) (X : List Rc) (Ax : Option Addr) (cx : Nat), k ≤ 10 ∧ k ≤ L.length ∧ i = .int .i64 (k : Int) ∧ X.length * 64 ≤ 140737488351232 ∧ X.length ≤ cx ∧ AX w p q #[.int .i64 b, .slice A rs.length c, .slice B L.length cl, .slice D kn cn, .string x] b X Ax cx wr) (fun i _ => 10 - (RowKit.intOf i).toNat)
    case atStart => exact ⟨0, rs, A1, c1, by omega, Nat.zero_le _, rfl, hl1, hcap1, AX0.out⟩
    case round =>
      obtain ⟨k, X, Ax, cx, hk10, hkl, rfl, hx64, hxc, hax⟩ := hrel
      have R := Lib.hid hax
      clear hax AX0 hcap1
      have d2 : wr.cell? ⟨p, 2, none⟩ = some (.slice B L.length cl) := R.out.out.1.cell 2
      by_cases hgo : k < L.length ∧ k < 10
      · obtain ⟨h1, h2⟩ := hgo
        obtain ⟨b0, o0, rfl, hb0, hc⟩ := HBL.out.some_ (by omega)
        have hr := hc k h1
        have e1 : (k : Int) < (L.length : Int) := by omega
        have e2 : (k : Int) < 10 := by omega
        have hways : (segB b X = true ∧ segB b (X ++ [L[k]]) = true) ∨ (segB b X = true ∧ segB b (X ++ [L[k]]) = false) ∨ (segB b X = false ∧ segB b (X ++ [L[k]]) = false) := by
          cases hs : segB b X with
          | true =>
            cases hs2 : segB b (X ++ [L[k]]) with
            | true => exact .inl ⟨rfl, rfl⟩
            | false => exact .inr (.inl ⟨rfl, rfl⟩)
          | false => exact .inr (.inr ⟨rfl, by rw [seg_snoc, hs]; rfl⟩)
        have hx63 : X.length ≤ 9223372036854775807 := by omega
        obtain ⟨Y, hY⟩ : ∃ Y, X ++ [L[k]] = Y := ⟨_, rfl⟩
        rw [hY] at hways
        have hyl : Y.length = X.length + 1 := by rw [← hY, List.length_append]; rfl
        have hy63 : Y.length ≤ 9223372036854775807 := by omega
        have HYL := Lib.hid hyl
        clear hyl
        clear hc
        rcases hways with ⟨hM, hY2⟩ | ⟨hM, hY2⟩ | ⟨hM, hY2⟩
        · have HSEG := Lib.hid (fun W (h : AX w p q #[.int .i64 b, .slice A rs.length c, .slice (some ⟨b0, o0, none⟩) L.length cl, .slice D kn cn, .string x] b X Ax cx W) => RSeg_is b X X.length Ax cx W.heap.size true W rfl hx63 (Nat.le_refl _) h.out.2.2.1 hM)
          obtain ⟨S, hS⟩ : ∃ S, str (allL X) = S := ⟨_, rfl⟩
          have hsz : (allL X).length = S.size := by rw [← hS, str_size]
          have hr200 := seg_len hM
          have HRT := Lib.hid (fun W (h : AX w p q #[.int .i64 b, .slice A rs.length c, .slice (some ⟨b0, o0, none⟩) L.length cl, .slice D kn cn, .string x] b X Ax cx W) => RText_is b X X.length Ax cx W.heap.size S W rfl (Nat.le_refl _) h.out.2.2.1 hM hS)
          have HSZ := Lib.hid (fun W (h : AX w p q #[.int .i64 b, .slice A rs.length c, .slice (some ⟨b0, o0, none⟩) L.length cl, .slice D kn cn, .string x] b X Ax cx W) => SegSize_is b X X.length Ax cx W.heap.size S.size 0 W rfl hx63 hxc (Nat.le_refl _) h.out.2.2.1 (segE_yes hM) (.inl ⟨rfl, hsz⟩))
          have HTX := Lib.hid (fun W (h : AX w p q #[.int .i64 b, .slice A rs.length c, .slice (some ⟨b0, o0, none⟩) L.length cl, .slice D kn cn, .string x] b X Ax cx W) => SegText_is b X X.length Ax cx W.heap.size S 0 W rfl hx63 hxc (Nat.le_refl _) h.out.2.2.1 (T.out.below h.bel) (segE_yes hM) (.inl ⟨rfl, hS⟩))
          have HCK := Lib.hid (fun W (h : AX w p q #[.int .i64 b, .slice A rs.length c, .slice (some ⟨b0, o0, none⟩) L.length cl, .slice D kn cn, .string x] b X Ax cx W) => SegCheck_is b X X.length Ax cx W.heap.size 0 W rfl hx63 hxc (Nat.le_refl _) h.out.2.2.1 (segE_yes hM))
          have HWI := Lib.hid (fun W (h : AX w p q #[.int .i64 b, .slice A rs.length c, .slice (some ⟨b0, o0, none⟩) L.length cl, .slice D kn cn, .string x] b X Ax cx W) => show Calls Tryd.prog 15 #[.agg #[.int .i64 b, .slice Ax X.length cx], ragg L[k]] W (GivesAt b Y W) from by
            have := RWith_is b X L[k] Ax cx W.heap.size W (by omega) (Nat.le_refl _) h.out.2.2.1
            rw [hY] at this
            exact this)
          have HSG2 := Lib.hid (fun W A' c' (h : RecsAt W W.heap.size A' Y) => RSeg_is b Y Y.length A' c' W.heap.size true W rfl hy63 (Nat.le_refl _) h hY2)
          clear hsz hS
          have HCX := Lib.hid (fun W (h : AX w p q #[.int .i64 b, .slice A rs.length c, .slice (some ⟨b0, o0, none⟩) L.length cl, .slice D kn cn, .string x] b X Ax cx W) => RCopySeg_is b X Ax cx W.heap.size W hx64 (Nat.le_refl _) h.out.2.2.1)
          have HAD := Lib.hid (fun Ai ci B' W (hc : X.length ≤ ci) (hB : B' ≤ W.heap.size) (h : RecsAt W B' Ai X) => show Calls Tryd.prog 14 #[.agg #[.int .i64 b, .slice Ai X.length ci], ragg L[k]] W (fun e w' => ∃ A' c', e = .returned (.tuple #[.agg #[.int .i64 b, .slice A' Y.length c'], .int .i64 0]) ∧ w'.ownsRow W.heap.size 42 6 (.slice A' Y.length c') Y.length (flat Y) ∧ Below W.heap.size W w') from by
            have := SegAdd_yes b X L[k] Ai ci B' W hc hB h (by rw [hY]; exact hY2)
            rw [hY] at this
            exact this)
          have HC200 := Lib.hid (seg_len hY2)
          clear hY hM hY2
          unfold ragg at HAD HWI
          generalize L[k] = r at hr HAD HWI
          obtain ⟨o, t, key, bod, qq, g⟩ := r
          obtain ⟨c0, c1, c2, c3, c4, c5⟩ := hr
          dsimp only at c0 c1 c2 c3 c4 c5 HAD HWI
          generalize str key = ks at c2 HAD HWI
          generalize str bod = bs at c3 HAD HWI
          unfold rarr at HAD HWI
          have HC := Lib.hid (And.intro c0 (And.intro c1 (And.intro c2 (And.intro c3 (And.intro c4 c5)))))
          clear c0 c1 c2 c3 c4 c5
          have hld := R.out.loadX
          go_upto_region 8 with (refine wpList_load_any (by rfl) 24 (.tmp 3) rfl q 0 rfl _ hld ?_; simp only [Act.put])
          refine (HSEG.out _ R.out).mono ?_
          rintro e w5 ⟨rfl, hb5⟩
          have R5 := Lib.hid (R.out.below hb5)
          clear R hb5 hld HSEG d2
          have hld := R5.out.loadX
          go_wp2_with (refine wpList_load_any (by rfl) 24 (.tmp 3) rfl q 0 rfl _ hld ?_; simp only [Act.put])
          refine (HRT.out _ R5.out).mono ?_
          rintro e w6 ⟨rfl, hb5⟩
          have R6 := Lib.hid (R5.out.below hb5)
          clear R5 hb5 hld HRT
          have hld := R6.out.loadX
          go_wp2_with (refine wpList_load_any (by rfl) 24 (.tmp 3) rfl q 0 rfl _ hld ?_; simp only [Act.put])
          refine (HSZ.out _ R6.out).mono ?_
          rintro e w7 ⟨rfl, hb5⟩
          have R7 := Lib.hid (R6.out.below hb5)
          clear R6 hb5 hld HSZ
          have hld := R7.out.loadX
          go_wp2_with (refine wpList_load_any (by rfl) 24 (.tmp 3) rfl q 0 rfl _ hld ?_; simp only [Act.put])
          refine (HTX.out _ R7.out).mono ?_
          rintro e w8 ⟨rfl, hb5⟩
          have R8 := Lib.hid (R7.out.below hb5)
          clear R7 hb5 hld HTX
          have hld := R8.out.loadX
          go_wp2_with (refine wpList_load_any (by rfl) 24 (.tmp 3) rfl q 0 rfl _ hld ?_; simp only [Act.put])
          refine (HCK.out _ R8.out).mono ?_
          rintro e w9 ⟨rfl, hb5⟩
          have R9 := Lib.hid (R8.out.below hb5)
          clear R8 hb5 hld HCK
          have hld := R9.out.loadX
          go_upto_region 15 with (go_at_call 12; refine (num_is _ _).mono ?_; rintro e w' ⟨rfl, rfl⟩)
          go_wp2_with (refine wpList_load_any (by rfl) 24 (.tmp 3) rfl q 0 rfl _ hld ?_; simp only [Act.put])
          refine (HCX.out _ R9.out).mono ?_
          rintro e w10 ⟨Ai, ci, rfl, hown, hb5⟩
          have R10 := Lib.hid (R9.out.below hb5)
          have hci := own_cap hown
          clear R9 hld hb5
          obtain ⟨V, hV⟩ : ∃ V, V = w10 := ⟨_, rfl⟩
          subst hV
          obtain ⟨z, W11, hz, hW11, hbn, hzs, hbx, hbl⟩ := seg_box (Below.refl V.heap.size V) #[.int .i64 b, .slice Ai X.length ci]
          have hrz := (RecsAt.of_own hown).below hbl
          rw [hz] at hrz
          have HZR := Lib.hid hrz
          have HZ := Lib.hid hz
          have B12 := Lib.hid hbx
          have HBN := Lib.hid hbn
          unfold szero at hW11
          have HW11 := Lib.hid hW11
          clear hbn hbx hbl hW11 hzs hown hrz hz HCX
          go_upto_region 16 with (rw [HW11.out, HZ.out]; refine wpList_store_whole rfl 24 (.tmp 12) (.tmp 76) rfl z #[.int .i64 b, .slice Ai X.length ci] rfl rfl szero HBN.out info_seg rfl (by simp [Value.oneCell']) ?_; simp only [Act.put])
          clear HW11 HBN
          generalize World.setRow _ _ _ = w12 at B12 HZR ⊢
          have hbr : b0 < V.heap.size := Nat.lt_of_lt_of_le hb0 R10.out.bel.size
          have HC := Lib.hid (And.intro ((R10.out.bel.cell (p := ⟨b0, _, none⟩) hb0).trans HC.out.1) (And.intro ((R10.out.bel.cell (p := ⟨b0, _, none⟩) hb0).trans HC.out.2.1) (And.intro ((R10.out.bel.cell (p := ⟨b0, _, none⟩) hb0).trans HC.out.2.2.1) (And.intro ((R10.out.bel.cell (p := ⟨b0, _, none⟩) hb0).trans HC.out.2.2.2.1) (And.intro ((R10.out.bel.cell (p := ⟨b0, _, none⟩) hb0).trans HC.out.2.2.2.2.1) ((R10.out.bel.cell (p := ⟨b0, _, none⟩) hb0).trans HC.out.2.2.2.2.2))))))
          have hpV : p < V.heap.size := R10.out.out.1.lt
          have hd2 : V.cell? ⟨p, 2, none⟩ = some (.slice (some ⟨b0, o0, none⟩) L.length cl) := R10.out.out.1.cell 2
          have HD2 := Lib.hid hd2
          have hVz : V.heap.size ≤ z := Nat.le_of_eq HZ.out
          clear hd2
          go_cut [13, 14] from 77 to 86 (fun s13 s14 wx => ∃ z13 u Ay cy, s13 = .pointer (some ⟨z13, 0, none⟩) ∧ s14 = .int .i64 0 ∧ YX V z z13 u b X Ai ci b Y Ay cy wx)
          case first =>
            have hS0 := B12.out.drewN 1
            have hZ0 : RecsAt w12.drew z Ai X := HZR.out.drewN 1
            clear B12 HZR
            refine wp_region_held_drew (S := fun W => RBox V z #[.int .i64 b, .slice Ai X.length ci] W) (by kernel_rfl) hS0 (fun hS => ?_)
            clear hS0
            generalize w12.drew = Wd at hS hZ0 ⊢
            refine take_load 0 78 24 (.tmp 12) z 0 (.agg #[.int .i64 b, .slice Ai X.length ci]) rfl rfl (by kernel_rfl) (fun _ _ _ h => h) (by rfl) hS rfl rfl (fun w' hS' => RBox.loadS hS' rfl) ?hh1
            simp only [Act.put, List.setIfInBounds_toArray, List.set_cons_zero, List.set_cons_succ]
            refine take_op 1 79 ?v2 rfl rfl (by kernel_rfl) (fun _ _ _ h => h) (by rfl) hS (fun w' hS' => ?hv3) ?hh4
            case hv3 => (go_simp; (try with_reducible rfl); (try omega))
            simp only [Act.put, List.setIfInBounds_toArray, List.set_cons_zero, List.set_cons_succ]
            refine take_op 2 80 (.slice (some ⟨b0, o0, none⟩) L.length cl) rfl rfl (by kernel_rfl) (fun _ _ _ h => h) (by rfl) hS (fun w' hS' => ?hv5) ?hh6
            case hv5 => (have d2 : w'.cell? ⟨p, 2, none⟩ = some (.slice (some ⟨b0, o0, none⟩) L.length cl) := (hS'.out.2.cell (p := ⟨p, 2, none⟩) hpV).trans HD2.out; go_simp; (try with_reducible rfl); (try omega))
            simp only [Act.put, List.setIfInBounds_toArray, List.set_cons_zero, List.set_cons_succ]
            refine take_op 3 81 ?v7 rfl rfl (by kernel_rfl) (fun _ _ _ h => h) (by rfl) hS (fun w' hS' => ?hv8) ?hh9
            case hv8 => (go_simp; (try with_reducible rfl); (try omega))
            simp only [Act.put, List.setIfInBounds_toArray, List.set_cons_zero, List.set_cons_succ]
            refine take_op 4 82 (.pointer (some ⟨b0, o0 + k * 6, none⟩)) rfl rfl (by kernel_rfl) (fun _ _ _ h => h) (by rfl) hS (fun w' hS' => ?hv10) ?hh11
            case hv10 => (go_simp; (try with_reducible rfl); (try omega))
            simp only [Act.put, List.setIfInBounds_toArray, List.set_cons_zero, List.set_cons_succ]
            refine take_load 5 83 42 (.tmp 82) b0 (o0 + k * 6) (.agg #[.int .i64 o, .int .i64 t, .string ks, .string bs, .int .i64 qq, .bool g]) rfl rfl (by kernel_rfl) (fun _ _ _ h => h) (by rfl) hS rfl rfl (fun w' hS' => load_parts ((hS'.out.2.cell (p := ⟨b0, o0 + k * 6, none⟩) hbr).trans HC.out.1) ((hS'.out.2.cell (p := ⟨b0, o0 + k * 6 + 1, none⟩) hbr).trans HC.out.2.1) ((hS'.out.2.cell (p := ⟨b0, o0 + k * 6 + 2, none⟩) hbr).trans HC.out.2.2.1) ((hS'.out.2.cell (p := ⟨b0, o0 + k * 6 + 3, none⟩) hbr).trans HC.out.2.2.2.1) ((hS'.out.2.cell (p := ⟨b0, o0 + k * 6 + 4, none⟩) hbr).trans HC.out.2.2.2.2.1) ((hS'.out.2.cell (p := ⟨b0, o0 + k * 6 + 5, none⟩) hbr).trans HC.out.2.2.2.2.2)) ?hh12
            simp only [Act.put, List.setIfInBounds_toArray, List.set_cons_zero, List.set_cons_succ]
            refine two_ops 6 10 rfl rfl (by kernel_rfl) (by rfl) (by rfl) (wp_call_ex 84 14 #[.agg #[.int .i64 b, .slice Ai X.length ci], .agg #[.int .i64 o, .int .i64 t, .string ks, .string bs, .int .i64 qq, .bool g]] _ rfl (by go_simp) (HAD.out Ai ci z Wd hci (Nat.le_of_lt hS.out.1.lt) hZ0) ?_) (wp_made 13 (.pointer (some ⟨Wd.heap.size, 0, none⟩)) rfl (w' := Wd.alloc (.cells #[.int .i64 0, .slice none 0 0] 24)) (by go_simp; try rfl) ⟨hS.below ((Below.refl _ _).alloc (Nat.le_refl _) _), ?_⟩)
            · skip
              rintro e Wa ⟨Ay, cy, rfl, hO0, hb3⟩
              refine ⟨_, rfl, hS.below hb3, ?_⟩
              simp only [Act.put, List.setIfInBounds_toArray, List.set_cons_zero, List.set_cons_succ]
              have hO := own_mono hO0 (show z + 1 ≤ Wd.heap.size from hS.out.1.lt)
              have hZ0 := hZ0.below (hb3.mono (Nat.le_of_lt hS.out.1.lt))
              have hS := hS.below hb3
              refine take_op 7 77 ?v13 rfl rfl (by kernel_rfl) (fun _ _ _ h => h) (by rfl) hS (fun w' hS' => ?hv14) ?hh15
              case hv14 => (go_simp; (try with_reducible rfl); (try omega))
              simp only [Act.put, List.setIfInBounds_toArray, List.set_cons_zero, List.set_cons_succ]
              refine take_op 8 85 (.agg #[.int .i64 b, .slice Ay Y.length cy]) rfl rfl (by kernel_rfl) (fun _ _ _ h => h) (by rfl) hS (fun w' hS' => ?hv16) ?hh17
              case hv16 => (go_simp; (try with_reducible rfl); (try omega))
              simp only [Act.put, List.setIfInBounds_toArray, List.set_cons_zero, List.set_cons_succ]
              refine take_op 9 86 (.int .i64 0) rfl rfl (by kernel_rfl) (fun _ _ _ h => h) (by rfl) hS (fun w' hS' => ?hv18) ?hh19
              case hv18 => (go_simp; (try with_reducible rfl); (try omega))
              simp only [Act.put, List.setIfInBounds_toArray, List.set_cons_zero, List.set_cons_succ]
              refine only_op 10 rfl (by kernel_rfl) (by rfl) (wp_made 13 (.pointer (some ⟨Wa.heap.size, 0, none⟩)) rfl (w' := Wa.alloc (.cells #[.int .i64 0, .slice none 0 0] 24)) (by go_simp; try rfl) ⟨hS.below ((Below.refl _ _).alloc (Nat.le_refl _) _), ?_⟩)
              simp only [Act.put, List.setIfInBounds_toArray, List.set_cons_zero, List.set_cons_succ]
              have hQ := SBlk.new Wa #[.int .i64 0, .slice none 0 0]
              have hbl := (Below.refl Wa.heap.size Wa).alloc (Nat.le_refl _) (.cells #[.int .i64 0, .slice none 0 0] 24)
              have hOy := fun g hg => (hO.lt g hg).2
              have hO := own_below hO hbl
              have hzy : z < Wa.heap.size := hS.out.1.lt
              have hZ0 := hZ0.below (hbl.mono (Nat.le_of_lt hzy))
              have hS := hS.below hbl
              obtain ⟨Wb, hWb⟩ : ∃ Wb, Wa.alloc (.cells #[.int .i64 0, .slice none 0 0] 24) = Wb := ⟨_, rfl⟩
              rw [hWb] at hQ hS hO hZ0 ⊢
              have hOu : Wa.heap.size ≤ Wb.heap.size := by rw [← hWb]; simp
              clear hWb
              obtain ⟨u, hu⟩ : ∃ u, Wa.heap.size = u := ⟨_, rfl⟩
              rw [hu] at hOy hOu
              clear hu
              generalize Wa.heap.size = y at hQ hzy ⊢
              clear hbl
              have hx9 : YX V z y u b X Ai ci b Y Ay cy (Wb.setRow y #[.int .i64 b, .slice Ay Y.length cy]) := by
                refine .mk ⟨setRow_blk hS.out.1 (by omega) _, hZ0.row (by omega) _, hQ.row _, own_seg_row hQ hO _, ⟨hOy, by simpa using hOu⟩, below_row hS.out.2 (by omega) _, hVz, hzy⟩
              have hS9 : RBox V z #[.int .i64 b, .slice Ai X.length ci] (Wb.setRow y #[.int .i64 b, .slice Ay Y.length cy]) := .mk hx9.out.1 hx9.bel
              refine only_op 11 rfl (by kernel_rfl) (by rfl) (wp_store_row 24 (.tmp 13) (.tmp 85) rfl y #[.int .i64 b, .slice Ay Y.length cy] rfl rfl _ _ hQ info_seg rfl (by simp [Value.oneCell']) ⟨hS9, ?_⟩)
              (try simp only [put_none])
              refine take_op 12 14 (.int .i64 0) rfl rfl (by kernel_rfl) (fun _ _ _ h => h) (by rfl) hS9 (fun w' hS' => ?hv20) ?hh21
              case hv20 => (go_simp; (try with_reducible rfl); (try omega))
              simp only [Act.put, List.setIfInBounds_toArray, List.set_cons_zero, List.set_cons_succ]
              refine wpAnyH_done (by kernel_rfl) ?_ _
              go_wp2_with fail
              go_meet
              exact ⟨_, u, _, _, rfl, rfl, hx9⟩
            · simp only [Act.put, List.setIfInBounds_toArray, List.set_cons_zero, List.set_cons_succ]
              have hQ := SBlk.new Wd #[.int .i64 0, .slice none 0 0]
              have hbl := (Below.refl Wd.heap.size Wd).alloc (Nat.le_refl _) (.cells #[.int .i64 0, .slice none 0 0] 24)
              have hzy : z < Wd.heap.size := hS.out.1.lt
              have hZ0 := hZ0.below (hbl.mono (Nat.le_of_lt hzy))
              have hS := hS.below hbl
              generalize Wd.alloc _ = Wb at hQ hS hZ0 ⊢
              generalize Wd.heap.size = y at hQ hzy ⊢
              clear hbl
              refine only_op 6 rfl (by kernel_rfl) (by rfl) (wp_call_ex 84 14 #[.agg #[.int .i64 b, .slice Ai X.length ci], .agg #[.int .i64 o, .int .i64 t, .string ks, .string bs, .int .i64 qq, .bool g]] _ rfl (by go_simp) (HAD.out Ai ci z Wb hci (Nat.le_of_lt hS.out.1.lt) hZ0) ?_)
              rintro e Wc ⟨Ay, cy, rfl, hO0, hb3⟩
              refine ⟨_, rfl, hS.below hb3, ?_⟩
              simp only [Act.put, List.setIfInBounds_toArray, List.set_cons_zero, List.set_cons_succ]
              have hO := own_mono hO0 (show z + 1 ≤ Wb.heap.size from hS.out.1.lt)
              have hZ0 := hZ0.below (hb3.mono (Nat.le_of_lt hS.out.1.lt))
              have hS := hS.below hb3
              have hQ := hQ.below hb3
              have hOy := fun g hg => (hO.lt g hg).2
              have hOu : Wc.heap.size ≤ Wc.heap.size := Nat.le_refl _
              refine take_op 7 77 ?v22 rfl rfl (by kernel_rfl) (fun _ _ _ h => h) (by rfl) hS (fun w' hS' => ?hv23) ?hh24
              case hv23 => (go_simp; (try with_reducible rfl); (try omega))
              simp only [Act.put, List.setIfInBounds_toArray, List.set_cons_zero, List.set_cons_succ]
              refine take_op 8 85 (.agg #[.int .i64 b, .slice Ay Y.length cy]) rfl rfl (by kernel_rfl) (fun _ _ _ h => h) (by rfl) hS (fun w' hS' => ?hv25) ?hh26
              case hv25 => (go_simp; (try with_reducible rfl); (try omega))
              simp only [Act.put, List.setIfInBounds_toArray, List.set_cons_zero, List.set_cons_succ]
              refine take_op 9 86 (.int .i64 0) rfl rfl (by kernel_rfl) (fun _ _ _ h => h) (by rfl) hS (fun w' hS' => ?hv27) ?hh28
              case hv27 => (go_simp; (try with_reducible rfl); (try omega))
              simp only [Act.put, List.setIfInBounds_toArray, List.set_cons_zero, List.set_cons_succ]
              obtain ⟨u, hu⟩ : ∃ u, Wc.heap.size = u := ⟨_, rfl⟩
              have hOu : u ≤ Wc.heap.size := Nat.le_of_eq hu.symm
              rw [hu] at hOy
              have hx9 : YX V z y u b X Ai ci b Y Ay cy (Wc.setRow y #[.int .i64 b, .slice Ay Y.length cy]) := by
                refine .mk ⟨setRow_blk hS.out.1 (by omega) _, hZ0.row (by omega) _, hQ.row _, own_seg_row hQ hO _, ⟨hOy, by simpa using hOu⟩, below_row hS.out.2 (by omega) _, hVz, hzy⟩
              have hS9 : RBox V z #[.int .i64 b, .slice Ai X.length ci] (Wc.setRow y #[.int .i64 b, .slice Ay Y.length cy]) := .mk hx9.out.1 hx9.bel
              refine only_op 11 rfl (by kernel_rfl) (by rfl) (wp_store_row 24 (.tmp 13) (.tmp 85) rfl y #[.int .i64 b, .slice Ay Y.length cy] rfl rfl _ _ hQ info_seg rfl (by simp [Value.oneCell']) ⟨hS9, ?_⟩)
              (try simp only [put_none])
              refine take_op 12 14 (.int .i64 0) rfl rfl (by kernel_rfl) (fun _ _ _ h => h) (by rfl) hS9 (fun w' hS' => ?hv29) ?hh30
              case hv29 => (go_simp; (try with_reducible rfl); (try omega))
              simp only [Act.put, List.setIfInBounds_toArray, List.set_cons_zero, List.set_cons_succ]
              refine wpAnyH_done (by kernel_rfl) ?_ _
              go_wp2_with fail
              go_meet
              exact ⟨_, u, _, _, rfl, rfl, hx9⟩
          case rest =>
            obtain ⟨y, u, Ay, cy, rfl, rfl, hx⟩ := hcut
            have Y1 := Lib.hid hx
            clear hx B12 HZR HAD
            obtain ⟨nx, W17, hn, hW17, hbn, hns, _, hbl⟩ := seg_box Y1.out.bel #[.int .i64 0, .slice none 0 0]
            have hyn : y < nx := by rw [← hn]; exact Y1.out.out.2.2.1.lt
            have hun : u ≤ nx := by rw [← hn]; exact Y1.out.out.2.2.2.2.1.2
            have hN2 : NW V z y u nx b X Ai ci b Y Ay cy #[.int .i64 0, .slice none 0 0] (W17.setRow nx #[.int .i64 0, .slice none 0 0]) := .mk ⟨Y1.out.below hbl, hns, hyn, hun⟩
            have N2 := Lib.hid hN2
            have HBN := Lib.hid hbn
            unfold szero at hW17
            have HW17 := Lib.hid hW17
            have HN := Lib.hid hn
            clear hbn hbl hW17 hns hN2 hn Y1
            go_upto_region 18 with (rw [HW17.out, HN.out]; refine wpList_store_whole rfl 24 (.tmp 15) (.tmp 87) rfl nx #[.int .i64 0, .slice none 0 0] rfl rfl szero HBN.out info_seg rfl (by simp [Value.oneCell']) ?_; simp only [Act.put])
            clear HW17 HBN HN
            generalize World.setRow _ _ _ = w17 at N2 ⊢
            go_cut [98] from 88 to 98 (fun s98 wx => s98 = .bool true ∧ NW V z y u nx b X Ai ci b Y Ay cy #[.int .i64 0, .slice none 0 0] wx)
            case first =>
              have hS0 := N2.out.drewN 1
              clear N2
              refine wp_region_held_drew (S := fun W => NW V z y u nx b X Ai ci b Y Ay cy #[.int .i64 0, .slice none 0 0] W) (by kernel_rfl) hS0 (fun hS => ?_)
              clear hS0
              generalize w17.drew = Wd at hS ⊢
              refine take_op 0 88 (.bool true) rfl rfl (by kernel_rfl) (fun _ _ _ h => h) (by rfl) hS (fun w' hS' => ?hv31) ?hh32
              case hv31 => (go_simp; (try with_reducible rfl); (try omega))
              simp only [Act.put, List.setIfInBounds_toArray, List.set_cons_zero, List.set_cons_succ]
              refine take_op 1 89 (.bool true) rfl rfl (by kernel_rfl) (fun _ _ _ h => h) (by rfl) hS (fun w' hS' => ?hv33) ?hh34
              case hv33 => (go_simp; (try with_reducible rfl); (try omega))
              simp only [Act.put, List.setIfInBounds_toArray, List.set_cons_zero, List.set_cons_succ]
              refine take_load 2 90 24 (.tmp 3) q 0 (.agg #[.int .i64 b, .slice Ax X.length cx]) rfl rfl (by kernel_rfl) (fun _ _ _ h => h) (by rfl) hS rfl rfl (fun w' hS' => (R10.out.below (NW.bel hS')).loadX) ?hh35
              simp only [Act.put, List.setIfInBounds_toArray, List.set_cons_zero, List.set_cons_succ]
              refine take_op 3 91 ?v36 rfl rfl (by kernel_rfl) (fun _ _ _ h => h) (by rfl) hS (fun w' hS' => ?hv37) ?hh38
              case hv37 => (go_simp; (try with_reducible rfl); (try omega))
              simp only [Act.put, List.setIfInBounds_toArray, List.set_cons_zero, List.set_cons_succ]
              refine take_op 4 92 (.slice (some ⟨b0, o0, none⟩) L.length cl) rfl rfl (by kernel_rfl) (fun _ _ _ h => h) (by rfl) hS (fun w' hS' => ?hv39) ?hh40
              case hv39 => (have d2 : w'.cell? ⟨p, 2, none⟩ = some (.slice (some ⟨b0, o0, none⟩) L.length cl) := ((NW.bel hS').cell (p := ⟨p, 2, none⟩) hpV).trans HD2.out; go_simp; (try with_reducible rfl); (try omega))
              simp only [Act.put, List.setIfInBounds_toArray, List.set_cons_zero, List.set_cons_succ]
              refine take_op 5 93 ?v41 rfl rfl (by kernel_rfl) (fun _ _ _ h => h) (by rfl) hS (fun w' hS' => ?hv42) ?hh43
              case hv42 => (go_simp; (try with_reducible rfl); (try omega))
              simp only [Act.put, List.setIfInBounds_toArray, List.set_cons_zero, List.set_cons_succ]
              refine take_op 6 94 (.pointer (some ⟨b0, o0 + k * 6, none⟩)) rfl rfl (by kernel_rfl) (fun _ _ _ h => h) (by rfl) hS (fun w' hS' => ?hv44) ?hh45
              case hv44 => (go_simp; (try with_reducible rfl); (try omega))
              simp only [Act.put, List.setIfInBounds_toArray, List.set_cons_zero, List.set_cons_succ]
              refine take_load 7 95 42 (.tmp 94) b0 (o0 + k * 6) (.agg #[.int .i64 o, .int .i64 t, .string ks, .string bs, .int .i64 qq, .bool g]) rfl rfl (by kernel_rfl) (fun _ _ _ h => h) (by rfl) hS rfl rfl (fun w' hS' => load_parts (((NW.bel hS').cell (p := ⟨b0, o0 + k * 6, none⟩) hbr).trans HC.out.1) (((NW.bel hS').cell (p := ⟨b0, o0 + k * 6 + 1, none⟩) hbr).trans HC.out.2.1) (((NW.bel hS').cell (p := ⟨b0, o0 + k * 6 + 2, none⟩) hbr).trans HC.out.2.2.1) (((NW.bel hS').cell (p := ⟨b0, o0 + k * 6 + 3, none⟩) hbr).trans HC.out.2.2.2.1) (((NW.bel hS').cell (p := ⟨b0, o0 + k * 6 + 4, none⟩) hbr).trans HC.out.2.2.2.2.1) (((NW.bel hS').cell (p := ⟨b0, o0 + k * 6 + 5, none⟩) hbr).trans HC.out.2.2.2.2.2)) ?hh46
              simp only [Act.put, List.setIfInBounds_toArray, List.set_cons_zero, List.set_cons_succ]
              refine only_op 8 rfl (by kernel_rfl) (by rfl) (wp_call_ex 96 15 #[.agg #[.int .i64 b, .slice Ax X.length cx], .agg #[.int .i64 o, .int .i64 t, .string ks, .string bs, .int .i64 qq, .bool g]] _ rfl (by go_simp) (HWI.out Wd (R10.out.below hS.bel)) ?_)
              rintro e Wa ⟨A9, c9, rfl, hO, hb3⟩
              refine ⟨_, rfl, hS.below hb3, ?_⟩
              simp only [Act.put, List.setIfInBounds_toArray, List.set_cons_zero, List.set_cons_succ]
              have hS := hS.below hb3
              refine only_op 9 rfl (by kernel_rfl) (by rfl) (wp_call 97 8 #[.agg #[.int .i64 b, .slice A9 Y.length c9]] (.bool true) (fun W => Below Wa.heap.size Wa W) rfl (by go_simp) (HSG2.out Wa A9 c9 (.of_own hO)) (fun Wb hb4 => ⟨hS.below hb4, ?_⟩))
              simp only [Act.put, List.setIfInBounds_toArray, List.set_cons_zero, List.set_cons_succ]
              have hS := hS.below hb4
              refine take_op 10 98 (.bool true) rfl rfl (by kernel_rfl) (fun _ _ _ h => h) (by rfl) hS (fun w' hS' => ?hv47) ?hh48
              case hv47 => (go_simp; (try with_reducible rfl); (try omega))
              simp only [Act.put, List.setIfInBounds_toArray, List.set_cons_zero, List.set_cons_succ]
              refine wpAnyH_done (by kernel_rfl) ?_ _
              go_wp2_with fail
              go_meet
              exact ⟨rfl, hS⟩
            case rest =>
              obtain ⟨rfl, hx⟩ := hcut
              have N3 := Lib.hid hx
              clear hx N2
              go_upto_region 19 with fail
              go_cut [6] from 99 to 105 (fun s6 wx => ∃ An cn9, s6 = .int .i64 0 ∧ PX V z y u nx b X Ai ci b Y Ay cy An cn9 wx)
              case first =>
                have hS0 := N3.out.drewN 1
                clear N3
                refine wp_region_held_drew (S := fun W => ∃ ds, NW V z y u nx b X Ai ci b Y Ay cy ds W) (by kernel_rfl) ⟨_, hS0⟩ (fun hS1 => ?_)
                have hS : NW V z y u nx b X Ai ci b Y Ay cy #[.int .i64 0, .slice none 0 0] wc.drew := hS0
                clear hS0 hS1
                generalize wc.drew = Wd at hS ⊢
                refine take_load 0 99 24 (.tmp 3) q 0 (.agg #[.int .i64 b, .slice Ax X.length cx]) rfl rfl (by kernel_rfl) (fun _ _ _ h => h) (by rfl) ⟨_, hS⟩ rfl rfl (fun w' hS' => by obtain ⟨ds, hS'⟩ := hS'; exact (R10.out.below (NW.bel hS')).loadX) ?hh49
                simp only [Act.put, List.setIfInBounds_toArray, List.set_cons_zero, List.set_cons_succ]
                refine take_op 1 100 ?v50 rfl rfl (by kernel_rfl) (fun _ _ _ h => h) (by rfl) ⟨_, hS⟩ (fun w' hS' => ?hv51) ?hh52
                case hv51 => (go_simp; (try with_reducible rfl); (try omega))
                simp only [Act.put, List.setIfInBounds_toArray, List.set_cons_zero, List.set_cons_succ]
                refine take_op 2 101 (.slice (some ⟨b0, o0, none⟩) L.length cl) rfl rfl (by kernel_rfl) (fun _ _ _ h => h) (by rfl) ⟨_, hS⟩ (fun w' hS' => ?hv53) ?hh54
                case hv53 => (obtain ⟨ds, hS'⟩ := hS'; have d2 : w'.cell? ⟨p, 2, none⟩ = some (.slice (some ⟨b0, o0, none⟩) L.length cl) := ((NW.bel hS').cell (p := ⟨p, 2, none⟩) hpV).trans HD2.out; go_simp; (try with_reducible rfl); (try omega))
                simp only [Act.put, List.setIfInBounds_toArray, List.set_cons_zero, List.set_cons_succ]
                refine take_op 3 102 ?v55 rfl rfl (by kernel_rfl) (fun _ _ _ h => h) (by rfl) ⟨_, hS⟩ (fun w' hS' => ?hv56) ?hh57
                case hv56 => (go_simp; (try with_reducible rfl); (try omega))
                simp only [Act.put, List.setIfInBounds_toArray, List.set_cons_zero, List.set_cons_succ]
                refine take_op 4 103 (.pointer (some ⟨b0, o0 + k * 6, none⟩)) rfl rfl (by kernel_rfl) (fun _ _ _ h => h) (by rfl) ⟨_, hS⟩ (fun w' hS' => ?hv58) ?hh59
                case hv58 => (go_simp; (try with_reducible rfl); (try omega))
                simp only [Act.put, List.setIfInBounds_toArray, List.set_cons_zero, List.set_cons_succ]
                refine take_load 5 104 42 (.tmp 103) b0 (o0 + k * 6) (.agg #[.int .i64 o, .int .i64 t, .string ks, .string bs, .int .i64 qq, .bool g]) rfl rfl (by kernel_rfl) (fun _ _ _ h => h) (by rfl) ⟨_, hS⟩ rfl rfl (fun w' hS' => by obtain ⟨ds, hS'⟩ := hS'; exact load_parts (((NW.bel hS').cell (p := ⟨b0, o0 + k * 6, none⟩) hbr).trans HC.out.1) (((NW.bel hS').cell (p := ⟨b0, o0 + k * 6 + 1, none⟩) hbr).trans HC.out.2.1) (((NW.bel hS').cell (p := ⟨b0, o0 + k * 6 + 2, none⟩) hbr).trans HC.out.2.2.1) (((NW.bel hS').cell (p := ⟨b0, o0 + k * 6 + 3, none⟩) hbr).trans HC.out.2.2.2.1) (((NW.bel hS').cell (p := ⟨b0, o0 + k * 6 + 4, none⟩) hbr).trans HC.out.2.2.2.2.1) (((NW.bel hS').cell (p := ⟨b0, o0 + k * 6 + 5, none⟩) hbr).trans HC.out.2.2.2.2.2)) ?hh60
                simp only [Act.put, List.setIfInBounds_toArray, List.set_cons_zero, List.set_cons_succ]
                refine only_op 6 rfl (by kernel_rfl) (by rfl) (wp_call_ex 105 15 #[.agg #[.int .i64 b, .slice Ax X.length cx], .agg #[.int .i64 o, .int .i64 t, .string ks, .string bs, .int .i64 qq, .bool g]] _ rfl (by go_simp) (HWI.out Wd (R10.out.below hS.bel)) ?_)
                rintro e Wa ⟨An, cn9, rfl, hO0, hb3⟩
                refine ⟨_, rfl, ⟨_, hS.below hb3⟩, ?_⟩
                simp only [Act.put, List.setIfInBounds_toArray, List.set_cons_zero, List.set_cons_succ]
                have hO := own_mono hO0 (Nat.le_trans hS.out.2.2.2 (Nat.le_of_lt hS.out.2.1.lt))
                have hS := hS.below hb3
                refine take_op 7 6 (.int .i64 0) rfl rfl (by kernel_rfl) (fun _ _ _ h => h) (by rfl) ⟨_, hS⟩ (fun w' hS' => ?hv61) ?hh62
                case hv61 => (go_simp; (try with_reducible rfl); (try omega))
                simp only [Act.put, List.setIfInBounds_toArray, List.set_cons_zero, List.set_cons_succ]
                have hS9 := hS.row #[.int .i64 b, .slice An Y.length cn9]
                have hO9 := own_seg_row hS.out.2.1 hO #[.int .i64 b, .slice An Y.length cn9]
                refine only_op 8 rfl (by kernel_rfl) (by rfl) (wp_store_row 24 (.tmp 15) (.tmp 105) rfl nx #[.int .i64 b, .slice An Y.length cn9] rfl rfl _ _ hS.out.2.1 info_seg rfl (by simp [Value.oneCell']) ⟨⟨_, hS9⟩, ?_⟩)
                (try simp only [put_none])
                refine wpAnyH_done (by kernel_rfl) ?_ _
                go_wp2_with fail
                go_meet
                exact ⟨_, _, rfl, .mk ⟨hS9, hO9⟩⟩
              case rest =>
                obtain ⟨An, cn9, rfl, hx⟩ := hcut
                have P1 := Lib.hid hx
                clear hx N3
                have hy200 : Hid (Y.length ≤ 200) := HC200
                have HEQ1 := Lib.hid (fun W (h : PX V z y u nx b X Ai ci b Y Ay cy An cn9 W) => EqSeg_same b Y Ay An cy cn9 W.heap.size W.heap.size W (Nat.le_trans hy200.out (by decide)) (Nat.le_refl _) (Nat.le_refl _) (.of_own h.out.1.out.1.out.2.2.2.1) (.of_own h.out.2))
                have HEQ2 := Lib.hid (fun W (h1 : RecsAt W z Ai X) (hz : z ≤ W.heap.size) (h2 : Below V.heap.size V W) => EqSeg_same b X Ai Ax ci cx z W.heap.size W hx63 hz (Nat.le_refl _) h1 (R10.out.below h2).out.2.2.1)
                have hld1 := load_seg P1.out.out.1.out.1.out.2.2.1.blk rfl
                have hld2 := load_seg P1.out.out.1.out.2.1.blk rfl
                go_wp2_with (first | (refine wpList_load_any (by rfl) 24 (.tmp 13) rfl y 0 rfl _ hld1 ?_; simp only [Act.put]) | (refine wpList_load_any (by rfl) 24 (.tmp 15) rfl nx 0 rfl _ hld2 ?_; simp only [Act.put]) | (go_at_call 12; refine (num_is _ _).mono ?_; rintro e w' ⟨rfl, rfl⟩))
                refine (HEQ1.out _ P1.out).mono ?_
                rintro e w21 ⟨rfl, hb21⟩
                have P2 := Lib.hid (P1.out.below hb21)
                clear P1 hb21 hld1 hld2 HEQ1
                have hld1 := load_seg P2.out.out.1.out.1.out.1 rfl
                have hld2 := (R10.out.below P2.out.bel).loadX
                go_wp2_with (first | (refine wpList_load_any (by rfl) 24 (.tmp 12) rfl z 0 rfl _ hld1 ?_; simp only [Act.put]) | (refine wpList_load_any (by rfl) 24 (.tmp 3) rfl q 0 rfl _ hld2 ?_; simp only [Act.put]))
                refine (HEQ2.out _ P2.out.out.1.out.1.out.2.1 (Nat.le_of_lt P2.out.out.1.out.1.out.1.lt) P2.out.bel).mono ?_
                rintro e w22 ⟨rfl, hb22⟩
                have P3 := Lib.hid (P2.out.below hb22)
                clear P2 hb22 hld1 hld2
                have d1 : w22.cell? ⟨y, 1, none⟩ = some (.slice Ay Y.length cy) := P3.out.out.1.out.1.out.2.2.1.blk.cell 1
                have HSP := Lib.hid (SpoilG_is (z + 1) _ cy Ay _ w22 P3.out.out.1.out.1.out.1.lt (Nat.le_trans hy200.out (by decide)) P3.out.out.1.out.1.out.2.2.2.1)
                go_wp2_with fail
                refine HSP.out.mono ?_
                rintro e w23 ⟨⟨v9, rfl⟩, hgrow⟩
                have Q1 := Lib.hid (P3.out.spoilt hgrow)
                clear P3 hgrow HSP d1
                have hld1 := load_seg Q1.out.out.1 rfl
                have hld2 := (R10.out.below Q1.out.out.2.2.2.2).loadX
                go_wp2_with (first | (refine wpList_load_any (by rfl) 24 (.tmp 12) rfl z 0 rfl _ hld1 ?_; simp only [Act.put]) | (refine wpList_load_any (by rfl) 24 (.tmp 3) rfl q 0 rfl _ hld2 ?_; simp only [Act.put]))
                refine (HEQ2.out _ Q1.out.out.2.1 (Nat.le_of_lt Q1.out.out.1.lt) Q1.out.out.2.2.2.2).mono ?_
                rintro e w24 ⟨rfl, hb24⟩
                have Q2 := Lib.hid (Q1.out.below hb24)
                clear Q1 hb24 hld1 hld2 HEQ2
                have hld2 := load_seg Q2.out.out.2.2.1.blk rfl
                have HCN := Lib.hid (RCopySeg_is b Y An cn9 w24.heap.size w24 (by have := HC200.out; omega) (Nat.le_refl _) (.of_own Q2.out.out.2.2.2.1))
                go_wp2_with (refine wpList_load_any (by rfl) 24 (.tmp 15) rfl nx 0 rfl _ hld2 ?_; simp only [Act.put])
                refine HCN.out.mono ?_
                rintro e w25 ⟨A9, c9, rfl, hO9, hb25⟩
                have X9 := Lib.hid ((R10.out.below Q2.out.out.2.2.2.2).below hb25)
                have hcap9 := own_cap hO9
                have hAX9 : AX w p q #[.int .i64 b, .slice A rs.length c, .slice (some ⟨b0, o0, none⟩) L.length cl, .slice D kn cn, .string x] b Y A9 c9 (w25.setRow q #[.int .i64 b, .slice A9 Y.length c9]) := by
                  obtain ⟨h1, h2, h3, h4, h5, h6⟩ := X9.out.out
                  exact .mk ⟨setRow_blk h1 (by omega) _, h2.row _, .of_own (own_seg_row h2 hO9 _), below_row h4 (by omega) _, h5, h6⟩
                have AX9 := Lib.hid hAX9
                have HB9 := Lib.hid X9.out.out.2.1.blk
                have hy64 : Y.length * 64 ≤ 140737488351232 := by have := HC200.out; omega
                clear hAX9 X9 hO9 hb25 Q2 HCN hld2 R10
                go_wp2_with (refine wpList_store_whole rfl 24 (.tmp 3) (.tmp 132) rfl q #[.int .i64 b, .slice A9 Y.length c9] rfl rfl _ HB9.out info_seg rfl (by simp [Value.oneCell']) ?_; simp only [Act.put])
                go_roundw
                case rel => exact ⟨k + 1, Y, A9, c9, h2, h1, by go_num, hy64, hcap9, AX9.out⟩
                case measure => simp [RowKit.intOf]; omega
        · have HSEG := Lib.hid (fun W (h : AX w p q #[.int .i64 b, .slice A rs.length c, .slice (some ⟨b0, o0, none⟩) L.length cl, .slice D kn cn, .string x] b X Ax cx W) => RSeg_is b X X.length Ax cx W.heap.size true W rfl hx63 (Nat.le_refl _) h.out.2.2.1 hM)
          obtain ⟨S, hS⟩ : ∃ S, str (allL X) = S := ⟨_, rfl⟩
          have hsz : (allL X).length = S.size := by rw [← hS, str_size]
          have hr200 := seg_len hM
          have HRT := Lib.hid (fun W (h : AX w p q #[.int .i64 b, .slice A rs.length c, .slice (some ⟨b0, o0, none⟩) L.length cl, .slice D kn cn, .string x] b X Ax cx W) => RText_is b X X.length Ax cx W.heap.size S W rfl (Nat.le_refl _) h.out.2.2.1 hM hS)
          have HSZ := Lib.hid (fun W (h : AX w p q #[.int .i64 b, .slice A rs.length c, .slice (some ⟨b0, o0, none⟩) L.length cl, .slice D kn cn, .string x] b X Ax cx W) => SegSize_is b X X.length Ax cx W.heap.size S.size 0 W rfl hx63 hxc (Nat.le_refl _) h.out.2.2.1 (segE_yes hM) (.inl ⟨rfl, hsz⟩))
          have HTX := Lib.hid (fun W (h : AX w p q #[.int .i64 b, .slice A rs.length c, .slice (some ⟨b0, o0, none⟩) L.length cl, .slice D kn cn, .string x] b X Ax cx W) => SegText_is b X X.length Ax cx W.heap.size S 0 W rfl hx63 hxc (Nat.le_refl _) h.out.2.2.1 (T.out.below h.bel) (segE_yes hM) (.inl ⟨rfl, hS⟩))
          have HCK := Lib.hid (fun W (h : AX w p q #[.int .i64 b, .slice A rs.length c, .slice (some ⟨b0, o0, none⟩) L.length cl, .slice D kn cn, .string x] b X Ax cx W) => SegCheck_is b X X.length Ax cx W.heap.size 0 W rfl hx63 hxc (Nat.le_refl _) h.out.2.2.1 (segE_yes hM))
          have HWI := Lib.hid (fun W (h : AX w p q #[.int .i64 b, .slice A rs.length c, .slice (some ⟨b0, o0, none⟩) L.length cl, .slice D kn cn, .string x] b X Ax cx W) => show Calls Tryd.prog 15 #[.agg #[.int .i64 b, .slice Ax X.length cx], ragg L[k]] W (GivesAt b Y W) from by
            have := RWith_is b X L[k] Ax cx W.heap.size W (by omega) (Nat.le_refl _) h.out.2.2.1
            rw [hY] at this
            exact this)
          have HSG2 := Lib.hid (fun W A' c' (h : RecsAt W W.heap.size A' Y) => RSeg_is b Y Y.length A' c' W.heap.size false W rfl hy63 (Nat.le_refl _) h hY2)
          clear hsz hS
          have HCX := Lib.hid (fun W (h : AX w p q #[.int .i64 b, .slice A rs.length c, .slice (some ⟨b0, o0, none⟩) L.length cl, .slice D kn cn, .string x] b X Ax cx W) => RCopySeg_is b X Ax cx W.heap.size W hx64 (Nat.le_refl _) h.out.2.2.1)
          have HAD := Lib.hid (fun Ai ci B' W (hc : X.length ≤ ci) (hB : B' ≤ W.heap.size) (h : RecsAt W B' Ai X) => SegAdd_no b X L[k] X.length Ai ci B' W rfl hx63 hc hB h (by rw [hY]; exact hY2))
          clear hY hM hY2
          unfold ragg at HAD HWI
          generalize L[k] = r at hr HAD HWI
          obtain ⟨o, t, key, bod, qq, g⟩ := r
          obtain ⟨c0, c1, c2, c3, c4, c5⟩ := hr
          dsimp only at c0 c1 c2 c3 c4 c5 HAD HWI
          generalize str key = ks at c2 HAD HWI
          generalize str bod = bs at c3 HAD HWI
          unfold rarr at HAD HWI
          have HC := Lib.hid (And.intro c0 (And.intro c1 (And.intro c2 (And.intro c3 (And.intro c4 c5)))))
          clear c0 c1 c2 c3 c4 c5
          have hld := R.out.loadX
          go_upto_region 8 with (refine wpList_load_any (by rfl) 24 (.tmp 3) rfl q 0 rfl _ hld ?_; simp only [Act.put])
          refine (HSEG.out _ R.out).mono ?_
          rintro e w5 ⟨rfl, hb5⟩
          have R5 := Lib.hid (R.out.below hb5)
          clear R hb5 hld HSEG d2
          have hld := R5.out.loadX
          go_wp2_with (refine wpList_load_any (by rfl) 24 (.tmp 3) rfl q 0 rfl _ hld ?_; simp only [Act.put])
          refine (HRT.out _ R5.out).mono ?_
          rintro e w6 ⟨rfl, hb5⟩
          have R6 := Lib.hid (R5.out.below hb5)
          clear R5 hb5 hld HRT
          have hld := R6.out.loadX
          go_wp2_with (refine wpList_load_any (by rfl) 24 (.tmp 3) rfl q 0 rfl _ hld ?_; simp only [Act.put])
          refine (HSZ.out _ R6.out).mono ?_
          rintro e w7 ⟨rfl, hb5⟩
          have R7 := Lib.hid (R6.out.below hb5)
          clear R6 hb5 hld HSZ
          have hld := R7.out.loadX
          go_wp2_with (refine wpList_load_any (by rfl) 24 (.tmp 3) rfl q 0 rfl _ hld ?_; simp only [Act.put])
          refine (HTX.out _ R7.out).mono ?_
          rintro e w8 ⟨rfl, hb5⟩
          have R8 := Lib.hid (R7.out.below hb5)
          clear R7 hb5 hld HTX
          have hld := R8.out.loadX
          go_wp2_with (refine wpList_load_any (by rfl) 24 (.tmp 3) rfl q 0 rfl _ hld ?_; simp only [Act.put])
          refine (HCK.out _ R8.out).mono ?_
          rintro e w9 ⟨rfl, hb5⟩
          have R9 := Lib.hid (R8.out.below hb5)
          clear R8 hb5 hld HCK
          have hld := R9.out.loadX
          go_upto_region 15 with (go_at_call 12; refine (num_is _ _).mono ?_; rintro e w' ⟨rfl, rfl⟩)
          go_wp2_with (refine wpList_load_any (by rfl) 24 (.tmp 3) rfl q 0 rfl _ hld ?_; simp only [Act.put])
          refine (HCX.out _ R9.out).mono ?_
          rintro e w10 ⟨Ai, ci, rfl, hown, hb5⟩
          have R10 := Lib.hid (R9.out.below hb5)
          have hci := own_cap hown
          clear R9 hld hb5
          obtain ⟨V, hV⟩ : ∃ V, V = w10 := ⟨_, rfl⟩
          subst hV
          obtain ⟨z, W11, hz, hW11, hbn, hzs, hbx, hbl⟩ := seg_box (Below.refl V.heap.size V) #[.int .i64 b, .slice Ai X.length ci]
          have hrz := (RecsAt.of_own hown).below hbl
          rw [hz] at hrz
          have HZR := Lib.hid hrz
          have HZ := Lib.hid hz
          have B12 := Lib.hid hbx
          have HBN := Lib.hid hbn
          unfold szero at hW11
          have HW11 := Lib.hid hW11
          clear hbn hbx hbl hW11 hzs hown hrz hz HCX
          go_upto_region 16 with (rw [HW11.out, HZ.out]; refine wpList_store_whole rfl 24 (.tmp 12) (.tmp 76) rfl z #[.int .i64 b, .slice Ai X.length ci] rfl rfl szero HBN.out info_seg rfl (by simp [Value.oneCell']) ?_; simp only [Act.put])
          clear HW11 HBN
          generalize World.setRow _ _ _ = w12 at B12 HZR ⊢
          have hbr : b0 < V.heap.size := Nat.lt_of_lt_of_le hb0 R10.out.bel.size
          have HC := Lib.hid (And.intro ((R10.out.bel.cell (p := ⟨b0, _, none⟩) hb0).trans HC.out.1) (And.intro ((R10.out.bel.cell (p := ⟨b0, _, none⟩) hb0).trans HC.out.2.1) (And.intro ((R10.out.bel.cell (p := ⟨b0, _, none⟩) hb0).trans HC.out.2.2.1) (And.intro ((R10.out.bel.cell (p := ⟨b0, _, none⟩) hb0).trans HC.out.2.2.2.1) (And.intro ((R10.out.bel.cell (p := ⟨b0, _, none⟩) hb0).trans HC.out.2.2.2.2.1) ((R10.out.bel.cell (p := ⟨b0, _, none⟩) hb0).trans HC.out.2.2.2.2.2))))))
          have hpV : p < V.heap.size := R10.out.out.1.lt
          have hd2 : V.cell? ⟨p, 2, none⟩ = some (.slice (some ⟨b0, o0, none⟩) L.length cl) := R10.out.out.1.cell 2
          have HD2 := Lib.hid hd2
          have hVz : V.heap.size ≤ z := Nat.le_of_eq HZ.out
          clear hd2
          go_cut [13, 14] from 77 to 86 (fun s13 s14 wx => ∃ z13 u Ay cy, s13 = .pointer (some ⟨z13, 0, none⟩) ∧ s14 = .int .i64 1 ∧ YX V z z13 u b X Ai ci 0 ([] : List Rc) Ay cy wx)
          case first =>
            have hS0 := B12.out.drewN 1
            have hZ0 : RecsAt w12.drew z Ai X := HZR.out.drewN 1
            clear B12 HZR
            refine wp_region_held_drew (S := fun W => RBox V z #[.int .i64 b, .slice Ai X.length ci] W) (by kernel_rfl) hS0 (fun hS => ?_)
            clear hS0
            generalize w12.drew = Wd at hS hZ0 ⊢
            refine take_load 0 78 24 (.tmp 12) z 0 (.agg #[.int .i64 b, .slice Ai X.length ci]) rfl rfl (by kernel_rfl) (fun _ _ _ h => h) (by rfl) hS rfl rfl (fun w' hS' => RBox.loadS hS' rfl) ?hh63
            simp only [Act.put, List.setIfInBounds_toArray, List.set_cons_zero, List.set_cons_succ]
            refine take_op 1 79 ?v64 rfl rfl (by kernel_rfl) (fun _ _ _ h => h) (by rfl) hS (fun w' hS' => ?hv65) ?hh66
            case hv65 => (go_simp; (try with_reducible rfl); (try omega))
            simp only [Act.put, List.setIfInBounds_toArray, List.set_cons_zero, List.set_cons_succ]
            refine take_op 2 80 (.slice (some ⟨b0, o0, none⟩) L.length cl) rfl rfl (by kernel_rfl) (fun _ _ _ h => h) (by rfl) hS (fun w' hS' => ?hv67) ?hh68
            case hv67 => (have d2 : w'.cell? ⟨p, 2, none⟩ = some (.slice (some ⟨b0, o0, none⟩) L.length cl) := (hS'.out.2.cell (p := ⟨p, 2, none⟩) hpV).trans HD2.out; go_simp; (try with_reducible rfl); (try omega))
            simp only [Act.put, List.setIfInBounds_toArray, List.set_cons_zero, List.set_cons_succ]
            refine take_op 3 81 ?v69 rfl rfl (by kernel_rfl) (fun _ _ _ h => h) (by rfl) hS (fun w' hS' => ?hv70) ?hh71
            case hv70 => (go_simp; (try with_reducible rfl); (try omega))
            simp only [Act.put, List.setIfInBounds_toArray, List.set_cons_zero, List.set_cons_succ]
            refine take_op 4 82 (.pointer (some ⟨b0, o0 + k * 6, none⟩)) rfl rfl (by kernel_rfl) (fun _ _ _ h => h) (by rfl) hS (fun w' hS' => ?hv72) ?hh73
            case hv72 => (go_simp; (try with_reducible rfl); (try omega))
            simp only [Act.put, List.setIfInBounds_toArray, List.set_cons_zero, List.set_cons_succ]
            refine take_load 5 83 42 (.tmp 82) b0 (o0 + k * 6) (.agg #[.int .i64 o, .int .i64 t, .string ks, .string bs, .int .i64 qq, .bool g]) rfl rfl (by kernel_rfl) (fun _ _ _ h => h) (by rfl) hS rfl rfl (fun w' hS' => load_parts ((hS'.out.2.cell (p := ⟨b0, o0 + k * 6, none⟩) hbr).trans HC.out.1) ((hS'.out.2.cell (p := ⟨b0, o0 + k * 6 + 1, none⟩) hbr).trans HC.out.2.1) ((hS'.out.2.cell (p := ⟨b0, o0 + k * 6 + 2, none⟩) hbr).trans HC.out.2.2.1) ((hS'.out.2.cell (p := ⟨b0, o0 + k * 6 + 3, none⟩) hbr).trans HC.out.2.2.2.1) ((hS'.out.2.cell (p := ⟨b0, o0 + k * 6 + 4, none⟩) hbr).trans HC.out.2.2.2.2.1) ((hS'.out.2.cell (p := ⟨b0, o0 + k * 6 + 5, none⟩) hbr).trans HC.out.2.2.2.2.2)) ?hh74
            simp only [Act.put, List.setIfInBounds_toArray, List.set_cons_zero, List.set_cons_succ]
            refine two_ops 6 10 rfl rfl (by kernel_rfl) (by rfl) (by rfl) (wp_call_ex 84 14 #[.agg #[.int .i64 b, .slice Ai X.length ci], .agg #[.int .i64 o, .int .i64 t, .string ks, .string bs, .int .i64 qq, .bool g]] _ rfl (by go_simp) (HAD.out Ai ci z Wd hci (Nat.le_of_lt hS.out.1.lt) hZ0) ?_) (wp_made 13 (.pointer (some ⟨Wd.heap.size, 0, none⟩)) rfl (w' := Wd.alloc (.cells #[.int .i64 0, .slice none 0 0] 24)) (by go_simp; try rfl) ⟨hS.below ((Below.refl _ _).alloc (Nat.le_refl _) _), ?_⟩)
            · skip
              rintro e Wa ⟨rfl, hb3⟩
              refine ⟨_, rfl, hS.below hb3, ?_⟩
              simp only [Act.put, List.setIfInBounds_toArray, List.set_cons_zero, List.set_cons_succ]
              have hO : Wa.ownsRow (z + 1) 42 6 (.slice none ([] : List Rc).length 0) ([] : List Rc).length (flat []) := World.ownsRow_nil _ _ _ _
              have hZ0 := hZ0.below (hb3.mono (Nat.le_of_lt hS.out.1.lt))
              have hS := hS.below hb3
              refine take_op 7 77 ?v75 rfl rfl (by kernel_rfl) (fun _ _ _ h => h) (by rfl) hS (fun w' hS' => ?hv76) ?hh77
              case hv76 => (go_simp; (try with_reducible rfl); (try omega))
              simp only [Act.put, List.setIfInBounds_toArray, List.set_cons_zero, List.set_cons_succ]
              refine take_op 8 85 (.agg #[.int .i64 0, .slice none 0 0]) rfl rfl (by kernel_rfl) (fun _ _ _ h => h) (by rfl) hS (fun w' hS' => ?hv78) ?hh79
              case hv78 => (go_simp; (try with_reducible rfl); (try omega))
              simp only [Act.put, List.setIfInBounds_toArray, List.set_cons_zero, List.set_cons_succ]
              refine take_op 9 86 (.int .i64 1) rfl rfl (by kernel_rfl) (fun _ _ _ h => h) (by rfl) hS (fun w' hS' => ?hv80) ?hh81
              case hv80 => (go_simp; (try with_reducible rfl); (try omega))
              simp only [Act.put, List.setIfInBounds_toArray, List.set_cons_zero, List.set_cons_succ]
              refine only_op 10 rfl (by kernel_rfl) (by rfl) (wp_made 13 (.pointer (some ⟨Wa.heap.size, 0, none⟩)) rfl (w' := Wa.alloc (.cells #[.int .i64 0, .slice none 0 0] 24)) (by go_simp; try rfl) ⟨hS.below ((Below.refl _ _).alloc (Nat.le_refl _) _), ?_⟩)
              simp only [Act.put, List.setIfInBounds_toArray, List.set_cons_zero, List.set_cons_succ]
              have hQ := SBlk.new Wa #[.int .i64 0, .slice none 0 0]
              have hbl := (Below.refl Wa.heap.size Wa).alloc (Nat.le_refl _) (.cells #[.int .i64 0, .slice none 0 0] 24)
              have hOy : ∀ g, (Value.slice none ([] : List Rc).length 0).ownBlock = some g → g < Wa.heap.size := fun g hg => by cases hg
              have hO := own_below hO hbl
              have hzy : z < Wa.heap.size := hS.out.1.lt
              have hZ0 := hZ0.below (hbl.mono (Nat.le_of_lt hzy))
              have hS := hS.below hbl
              obtain ⟨Wb, hWb⟩ : ∃ Wb, Wa.alloc (.cells #[.int .i64 0, .slice none 0 0] 24) = Wb := ⟨_, rfl⟩
              rw [hWb] at hQ hS hO hZ0 ⊢
              have hOu : Wa.heap.size ≤ Wb.heap.size := by rw [← hWb]; simp
              clear hWb
              obtain ⟨u, hu⟩ : ∃ u, Wa.heap.size = u := ⟨_, rfl⟩
              rw [hu] at hOy hOu
              clear hu
              generalize Wa.heap.size = y at hQ hzy ⊢
              clear hbl
              have hx9 : YX V z y u b X Ai ci 0 ([] : List Rc) none 0 (Wb.setRow y #[.int .i64 0, .slice none 0 0]) := by
                refine .mk ⟨setRow_blk hS.out.1 (by omega) _, hZ0.row (by omega) _, hQ.row _, own_seg_row hQ hO _, ⟨hOy, by simpa using hOu⟩, below_row hS.out.2 (by omega) _, hVz, hzy⟩
              have hS9 : RBox V z #[.int .i64 b, .slice Ai X.length ci] (Wb.setRow y #[.int .i64 0, .slice none 0 0]) := .mk hx9.out.1 hx9.bel
              refine only_op 11 rfl (by kernel_rfl) (by rfl) (wp_store_row 24 (.tmp 13) (.tmp 85) rfl y #[.int .i64 0, .slice none 0 0] rfl rfl _ _ hQ info_seg rfl (by simp [Value.oneCell']) ⟨hS9, ?_⟩)
              (try simp only [put_none])
              refine take_op 12 14 (.int .i64 1) rfl rfl (by kernel_rfl) (fun _ _ _ h => h) (by rfl) hS9 (fun w' hS' => ?hv82) ?hh83
              case hv82 => (go_simp; (try with_reducible rfl); (try omega))
              simp only [Act.put, List.setIfInBounds_toArray, List.set_cons_zero, List.set_cons_succ]
              refine wpAnyH_done (by kernel_rfl) ?_ _
              go_wp2_with fail
              go_meet
              exact ⟨_, u, _, _, rfl, rfl, hx9⟩
            · simp only [Act.put, List.setIfInBounds_toArray, List.set_cons_zero, List.set_cons_succ]
              have hQ := SBlk.new Wd #[.int .i64 0, .slice none 0 0]
              have hbl := (Below.refl Wd.heap.size Wd).alloc (Nat.le_refl _) (.cells #[.int .i64 0, .slice none 0 0] 24)
              have hzy : z < Wd.heap.size := hS.out.1.lt
              have hZ0 := hZ0.below (hbl.mono (Nat.le_of_lt hzy))
              have hS := hS.below hbl
              generalize Wd.alloc _ = Wb at hQ hS hZ0 ⊢
              generalize Wd.heap.size = y at hQ hzy ⊢
              clear hbl
              refine only_op 6 rfl (by kernel_rfl) (by rfl) (wp_call_ex 84 14 #[.agg #[.int .i64 b, .slice Ai X.length ci], .agg #[.int .i64 o, .int .i64 t, .string ks, .string bs, .int .i64 qq, .bool g]] _ rfl (by go_simp) (HAD.out Ai ci z Wb hci (Nat.le_of_lt hS.out.1.lt) hZ0) ?_)
              rintro e Wc ⟨rfl, hb3⟩
              refine ⟨_, rfl, hS.below hb3, ?_⟩
              simp only [Act.put, List.setIfInBounds_toArray, List.set_cons_zero, List.set_cons_succ]
              have hO : Wc.ownsRow (z + 1) 42 6 (.slice none ([] : List Rc).length 0) ([] : List Rc).length (flat []) := World.ownsRow_nil _ _ _ _
              have hZ0 := hZ0.below (hb3.mono (Nat.le_of_lt hS.out.1.lt))
              have hS := hS.below hb3
              have hQ := hQ.below hb3
              have hOy : ∀ g, (Value.slice none ([] : List Rc).length 0).ownBlock = some g → g < Wc.heap.size := fun g hg => by cases hg
              have hOu : Wc.heap.size ≤ Wc.heap.size := Nat.le_refl _
              refine take_op 7 77 ?v84 rfl rfl (by kernel_rfl) (fun _ _ _ h => h) (by rfl) hS (fun w' hS' => ?hv85) ?hh86
              case hv85 => (go_simp; (try with_reducible rfl); (try omega))
              simp only [Act.put, List.setIfInBounds_toArray, List.set_cons_zero, List.set_cons_succ]
              refine take_op 8 85 (.agg #[.int .i64 0, .slice none 0 0]) rfl rfl (by kernel_rfl) (fun _ _ _ h => h) (by rfl) hS (fun w' hS' => ?hv87) ?hh88
              case hv87 => (go_simp; (try with_reducible rfl); (try omega))
              simp only [Act.put, List.setIfInBounds_toArray, List.set_cons_zero, List.set_cons_succ]
              refine take_op 9 86 (.int .i64 1) rfl rfl (by kernel_rfl) (fun _ _ _ h => h) (by rfl) hS (fun w' hS' => ?hv89) ?hh90
              case hv89 => (go_simp; (try with_reducible rfl); (try omega))
              simp only [Act.put, List.setIfInBounds_toArray, List.set_cons_zero, List.set_cons_succ]
              obtain ⟨u, hu⟩ : ∃ u, Wc.heap.size = u := ⟨_, rfl⟩
              have hOu : u ≤ Wc.heap.size := Nat.le_of_eq hu.symm
              rw [hu] at hOy
              have hx9 : YX V z y u b X Ai ci 0 ([] : List Rc) none 0 (Wc.setRow y #[.int .i64 0, .slice none 0 0]) := by
                refine .mk ⟨setRow_blk hS.out.1 (by omega) _, hZ0.row (by omega) _, hQ.row _, own_seg_row hQ hO _, ⟨hOy, by simpa using hOu⟩, below_row hS.out.2 (by omega) _, hVz, hzy⟩
              have hS9 : RBox V z #[.int .i64 b, .slice Ai X.length ci] (Wc.setRow y #[.int .i64 0, .slice none 0 0]) := .mk hx9.out.1 hx9.bel
              refine only_op 11 rfl (by kernel_rfl) (by rfl) (wp_store_row 24 (.tmp 13) (.tmp 85) rfl y #[.int .i64 0, .slice none 0 0] rfl rfl _ _ hQ info_seg rfl (by simp [Value.oneCell']) ⟨hS9, ?_⟩)
              (try simp only [put_none])
              refine take_op 12 14 (.int .i64 1) rfl rfl (by kernel_rfl) (fun _ _ _ h => h) (by rfl) hS9 (fun w' hS' => ?hv91) ?hh92
              case hv91 => (go_simp; (try with_reducible rfl); (try omega))
              simp only [Act.put, List.setIfInBounds_toArray, List.set_cons_zero, List.set_cons_succ]
              refine wpAnyH_done (by kernel_rfl) ?_ _
              go_wp2_with fail
              go_meet
              exact ⟨_, u, _, _, rfl, rfl, hx9⟩
          case rest =>
            obtain ⟨y, u, Ay, cy, rfl, rfl, hx⟩ := hcut
            have Y1 := Lib.hid hx
            clear hx B12 HZR HAD
            obtain ⟨nx, W17, hn, hW17, hbn, hns, _, hbl⟩ := seg_box Y1.out.bel #[.int .i64 0, .slice none 0 0]
            have hyn : y < nx := by rw [← hn]; exact Y1.out.out.2.2.1.lt
            have hun : u ≤ nx := by rw [← hn]; exact Y1.out.out.2.2.2.2.1.2
            have hN2 : NW V z y u nx b X Ai ci 0 ([] : List Rc) Ay cy #[.int .i64 0, .slice none 0 0] (W17.setRow nx #[.int .i64 0, .slice none 0 0]) := .mk ⟨Y1.out.below hbl, hns, hyn, hun⟩
            have N2 := Lib.hid hN2
            have HBN := Lib.hid hbn
            unfold szero at hW17
            have HW17 := Lib.hid hW17
            have HN := Lib.hid hn
            clear hbn hbl hW17 hns hN2 hn Y1
            go_upto_region 18 with (rw [HW17.out, HN.out]; refine wpList_store_whole rfl 24 (.tmp 15) (.tmp 87) rfl nx #[.int .i64 0, .slice none 0 0] rfl rfl szero HBN.out info_seg rfl (by simp [Value.oneCell']) ?_; simp only [Act.put])
            clear HW17 HBN HN
            generalize World.setRow _ _ _ = w17 at N2 ⊢
            go_cut [98] from 88 to 98 (fun s98 wx => s98 = .bool false ∧ NW V z y u nx b X Ai ci 0 ([] : List Rc) Ay cy #[.int .i64 0, .slice none 0 0] wx)
            case first =>
              have hS0 := N2.out.drewN 1
              clear N2
              refine wp_region_held_drew (S := fun W => NW V z y u nx b X Ai ci 0 ([] : List Rc) Ay cy #[.int .i64 0, .slice none 0 0] W) (by kernel_rfl) hS0 (fun hS => ?_)
              clear hS0
              generalize w17.drew = Wd at hS ⊢
              refine take_op 0 88 (.bool true) rfl rfl (by kernel_rfl) (fun _ _ _ h => h) (by rfl) hS (fun w' hS' => ?hv93) ?hh94
              case hv93 => (go_simp; (try with_reducible rfl); (try omega))
              simp only [Act.put, List.setIfInBounds_toArray, List.set_cons_zero, List.set_cons_succ]
              refine take_op 1 89 (.bool true) rfl rfl (by kernel_rfl) (fun _ _ _ h => h) (by rfl) hS (fun w' hS' => ?hv95) ?hh96
              case hv95 => (go_simp; (try with_reducible rfl); (try omega))
              simp only [Act.put, List.setIfInBounds_toArray, List.set_cons_zero, List.set_cons_succ]
              refine take_load 2 90 24 (.tmp 3) q 0 (.agg #[.int .i64 b, .slice Ax X.length cx]) rfl rfl (by kernel_rfl) (fun _ _ _ h => h) (by rfl) hS rfl rfl (fun w' hS' => (R10.out.below (NW.bel hS')).loadX) ?hh97
              simp only [Act.put, List.setIfInBounds_toArray, List.set_cons_zero, List.set_cons_succ]
              refine take_op 3 91 ?v98 rfl rfl (by kernel_rfl) (fun _ _ _ h => h) (by rfl) hS (fun w' hS' => ?hv99) ?hh100
              case hv99 => (go_simp; (try with_reducible rfl); (try omega))
              simp only [Act.put, List.setIfInBounds_toArray, List.set_cons_zero, List.set_cons_succ]
              refine take_op 4 92 (.slice (some ⟨b0, o0, none⟩) L.length cl) rfl rfl (by kernel_rfl) (fun _ _ _ h => h) (by rfl) hS (fun w' hS' => ?hv101) ?hh102
              case hv101 => (have d2 : w'.cell? ⟨p, 2, none⟩ = some (.slice (some ⟨b0, o0, none⟩) L.length cl) := ((NW.bel hS').cell (p := ⟨p, 2, none⟩) hpV).trans HD2.out; go_simp; (try with_reducible rfl); (try omega))
              simp only [Act.put, List.setIfInBounds_toArray, List.set_cons_zero, List.set_cons_succ]
              refine take_op 5 93 ?v103 rfl rfl (by kernel_rfl) (fun _ _ _ h => h) (by rfl) hS (fun w' hS' => ?hv104) ?hh105
              case hv104 => (go_simp; (try with_reducible rfl); (try omega))
              simp only [Act.put, List.setIfInBounds_toArray, List.set_cons_zero, List.set_cons_succ]
              refine take_op 6 94 (.pointer (some ⟨b0, o0 + k * 6, none⟩)) rfl rfl (by kernel_rfl) (fun _ _ _ h => h) (by rfl) hS (fun w' hS' => ?hv106) ?hh107
              case hv106 => (go_simp; (try with_reducible rfl); (try omega))
              simp only [Act.put, List.setIfInBounds_toArray, List.set_cons_zero, List.set_cons_succ]
              refine take_load 7 95 42 (.tmp 94) b0 (o0 + k * 6) (.agg #[.int .i64 o, .int .i64 t, .string ks, .string bs, .int .i64 qq, .bool g]) rfl rfl (by kernel_rfl) (fun _ _ _ h => h) (by rfl) hS rfl rfl (fun w' hS' => load_parts (((NW.bel hS').cell (p := ⟨b0, o0 + k * 6, none⟩) hbr).trans HC.out.1) (((NW.bel hS').cell (p := ⟨b0, o0 + k * 6 + 1, none⟩) hbr).trans HC.out.2.1) (((NW.bel hS').cell (p := ⟨b0, o0 + k * 6 + 2, none⟩) hbr).trans HC.out.2.2.1) (((NW.bel hS').cell (p := ⟨b0, o0 + k * 6 + 3, none⟩) hbr).trans HC.out.2.2.2.1) (((NW.bel hS').cell (p := ⟨b0, o0 + k * 6 + 4, none⟩) hbr).trans HC.out.2.2.2.2.1) (((NW.bel hS').cell (p := ⟨b0, o0 + k * 6 + 5, none⟩) hbr).trans HC.out.2.2.2.2.2)) ?hh108
              simp only [Act.put, List.setIfInBounds_toArray, List.set_cons_zero, List.set_cons_succ]
              refine only_op 8 rfl (by kernel_rfl) (by rfl) (wp_call_ex 96 15 #[.agg #[.int .i64 b, .slice Ax X.length cx], .agg #[.int .i64 o, .int .i64 t, .string ks, .string bs, .int .i64 qq, .bool g]] _ rfl (by go_simp) (HWI.out Wd (R10.out.below hS.bel)) ?_)
              rintro e Wa ⟨A9, c9, rfl, hO, hb3⟩
              refine ⟨_, rfl, hS.below hb3, ?_⟩
              simp only [Act.put, List.setIfInBounds_toArray, List.set_cons_zero, List.set_cons_succ]
              have hS := hS.below hb3
              refine only_op 9 rfl (by kernel_rfl) (by rfl) (wp_call 97 8 #[.agg #[.int .i64 b, .slice A9 Y.length c9]] (.bool false) (fun W => Below Wa.heap.size Wa W) rfl (by go_simp) (HSG2.out Wa A9 c9 (.of_own hO)) (fun Wb hb4 => ⟨hS.below hb4, ?_⟩))
              simp only [Act.put, List.setIfInBounds_toArray, List.set_cons_zero, List.set_cons_succ]
              have hS := hS.below hb4
              refine take_op 10 98 (.bool false) rfl rfl (by kernel_rfl) (fun _ _ _ h => h) (by rfl) hS (fun w' hS' => ?hv109) ?hh110
              case hv109 => (go_simp; (try with_reducible rfl); (try omega))
              simp only [Act.put, List.setIfInBounds_toArray, List.set_cons_zero, List.set_cons_succ]
              refine wpAnyH_done (by kernel_rfl) ?_ _
              go_wp2_with fail
              go_meet
              exact ⟨rfl, hS⟩
            case rest =>
              obtain ⟨rfl, hx⟩ := hcut
              have N3 := Lib.hid hx
              clear hx N2
              obtain ⟨An, hAn⟩ : ∃ An : Option Addr, An = none := ⟨_, rfl⟩
              have P1 : Hid (PX V z y u nx b X Ai ci 0 ([] : List Rc) Ay cy none 0 _) := Lib.hid (PX.mk ⟨N3.out, World.ownsRow_nil _ _ _ _⟩)
              clear N3 hAn
              have hy200 : Hid (([] : List Rc).length ≤ 200) := Lib.hid (Nat.zero_le _)
              have HEQ1 := Lib.hid (fun W (h : PX V z y u nx b X Ai ci 0 ([] : List Rc) Ay cy none 0 W) => EqSeg_same 0 ([] : List Rc) Ay none cy 0 W.heap.size W.heap.size W (Nat.le_trans hy200.out (by decide)) (Nat.le_refl _) (Nat.le_refl _) (.of_own h.out.1.out.1.out.2.2.2.1) (.of_own h.out.2))
              have HEQ2 := Lib.hid (fun W (h1 : RecsAt W z Ai X) (hz : z ≤ W.heap.size) (h2 : Below V.heap.size V W) => EqSeg_same b X Ai Ax ci cx z W.heap.size W hx63 hz (Nat.le_refl _) h1 (R10.out.below h2).out.2.2.1)
              have hld1 := load_seg P1.out.out.1.out.1.out.2.2.1.blk rfl
              have hld2 := load_seg P1.out.out.1.out.2.1.blk rfl
              go_wp2_with (first | (refine wpList_load_any (by rfl) 24 (.tmp 13) rfl y 0 rfl _ hld1 ?_; simp only [Act.put]) | (refine wpList_load_any (by rfl) 24 (.tmp 15) rfl nx 0 rfl _ hld2 ?_; simp only [Act.put]) | (go_at_call 12; refine (num_is _ _).mono ?_; rintro e w' ⟨rfl, rfl⟩))
              refine (HEQ1.out _ P1.out).mono ?_
              rintro e w21 ⟨rfl, hb21⟩
              have P2 := Lib.hid (P1.out.below hb21)
              clear P1 hb21 hld1 hld2 HEQ1
              have hld1 := load_seg P2.out.out.1.out.1.out.1 rfl
              have hld2 := (R10.out.below P2.out.bel).loadX
              go_wp2_with (first | (refine wpList_load_any (by rfl) 24 (.tmp 12) rfl z 0 rfl _ hld1 ?_; simp only [Act.put]) | (refine wpList_load_any (by rfl) 24 (.tmp 3) rfl q 0 rfl _ hld2 ?_; simp only [Act.put]))
              refine (HEQ2.out _ P2.out.out.1.out.1.out.2.1 (Nat.le_of_lt P2.out.out.1.out.1.out.1.lt) P2.out.bel).mono ?_
              rintro e w22 ⟨rfl, hb22⟩
              have P3 := Lib.hid (P2.out.below hb22)
              clear P2 hb22 hld1 hld2
              have d1 : w22.cell? ⟨y, 1, none⟩ = some (.slice Ay ([] : List Rc).length cy) := P3.out.out.1.out.1.out.2.2.1.blk.cell 1
              have HSP := Lib.hid (SpoilG_is (z + 1) _ cy Ay _ w22 P3.out.out.1.out.1.out.1.lt (Nat.le_trans hy200.out (by decide)) P3.out.out.1.out.1.out.2.2.2.1)
              go_wp2_with fail
              refine HSP.out.mono ?_
              rintro e w23 ⟨⟨v9, rfl⟩, hgrow⟩
              have Q1 := Lib.hid (P3.out.spoilt hgrow)
              clear P3 hgrow HSP d1
              have hld1 := load_seg Q1.out.out.1 rfl
              have hld2 := (R10.out.below Q1.out.out.2.2.2.2).loadX
              go_wp2_with (first | (refine wpList_load_any (by rfl) 24 (.tmp 12) rfl z 0 rfl _ hld1 ?_; simp only [Act.put]) | (refine wpList_load_any (by rfl) 24 (.tmp 3) rfl q 0 rfl _ hld2 ?_; simp only [Act.put]))
              refine (HEQ2.out _ Q1.out.out.2.1 (Nat.le_of_lt Q1.out.out.1.lt) Q1.out.out.2.2.2.2).mono ?_
              rintro e w24 ⟨rfl, hb24⟩
              have Q2 := Lib.hid (Q1.out.below hb24)
              clear Q1 hb24 hld1 hld2 HEQ2
              have AX9 := Lib.hid (R10.out.below Q2.out.out.2.2.2.2)
              clear Q2 R10
              go_wp2_with fail
              go_roundw
              case rel => exact ⟨k + 1, X, Ax, cx, h2, h1, by go_num, hx64, hxc, AX9.out⟩
              case measure => simp [RowKit.intOf]; omega
        · have HSEG := Lib.hid (fun W (h : AX w p q #[.int .i64 b, .slice A rs.length c, .slice (some ⟨b0, o0, none⟩) L.length cl, .slice D kn cn, .string x] b X Ax cx W) => RSeg_is b X X.length Ax cx W.heap.size false W rfl hx63 (Nat.le_refl _) h.out.2.2.1 hM)
          have hME : segE b X = 1 := segE_no (by rw [hM]; decide)
          have HSZ := Lib.hid (fun W (h : AX w p q #[.int .i64 b, .slice A rs.length c, .slice (some ⟨b0, o0, none⟩) L.length cl, .slice D kn cn, .string x] b X Ax cx W) => SegSize_is b X X.length Ax cx W.heap.size 0 1 W rfl hx63 hxc (Nat.le_refl _) h.out.2.2.1 hME (.inr ⟨by decide, rfl⟩))
          have HTX := Lib.hid (fun W (h : AX w p q #[.int .i64 b, .slice A rs.length c, .slice (some ⟨b0, o0, none⟩) L.length cl, .slice D kn cn, .string x] b X Ax cx W) => SegText_is b X X.length Ax cx W.heap.size ⟨#[]⟩ 1 W rfl hx63 hxc (Nat.le_refl _) h.out.2.2.1 (T.out.below h.bel) hME (.inr ⟨by decide, rfl⟩))
          have HCK := Lib.hid (fun W (h : AX w p q #[.int .i64 b, .slice A rs.length c, .slice (some ⟨b0, o0, none⟩) L.length cl, .slice D kn cn, .string x] b X Ax cx W) => SegCheck_is b X X.length Ax cx W.heap.size 1 W rfl hx63 hxc (Nat.le_refl _) h.out.2.2.1 hME)
          clear hME
          have HCX := Lib.hid (fun W (h : AX w p q #[.int .i64 b, .slice A rs.length c, .slice (some ⟨b0, o0, none⟩) L.length cl, .slice D kn cn, .string x] b X Ax cx W) => RCopySeg_is b X Ax cx W.heap.size W hx64 (Nat.le_refl _) h.out.2.2.1)
          have HAD := Lib.hid (fun Ai ci B' W (hc : X.length ≤ ci) (hB : B' ≤ W.heap.size) (h : RecsAt W B' Ai X) => SegAdd_no b X L[k] X.length Ai ci B' W rfl hx63 hc hB h (by rw [hY]; exact hY2))
          clear hY hM hY2
          unfold ragg at HAD
          generalize L[k] = r at hr HAD
          obtain ⟨o, t, key, bod, qq, g⟩ := r
          obtain ⟨c0, c1, c2, c3, c4, c5⟩ := hr
          dsimp only at c0 c1 c2 c3 c4 c5 HAD
          generalize str key = ks at c2 HAD
          generalize str bod = bs at c3 HAD
          unfold rarr at HAD
          have HC := Lib.hid (And.intro c0 (And.intro c1 (And.intro c2 (And.intro c3 (And.intro c4 c5)))))
          clear c0 c1 c2 c3 c4 c5
          have hld := R.out.loadX
          go_upto_region 8 with (refine wpList_load_any (by rfl) 24 (.tmp 3) rfl q 0 rfl _ hld ?_; simp only [Act.put])
          refine (HSEG.out _ R.out).mono ?_
          rintro e w5 ⟨rfl, hb5⟩
          have R5 := Lib.hid (R.out.below hb5)
          clear R hb5 hld HSEG d2
          have hld := R5.out.loadX
          go_wp2_with (refine wpList_load_any (by rfl) 24 (.tmp 3) rfl q 0 rfl _ hld ?_; simp only [Act.put])
          refine (HSZ.out _ R5.out).mono ?_
          rintro e w7 ⟨rfl, hb5⟩
          have R7 := Lib.hid (R5.out.below hb5)
          clear R5 hb5 hld HSZ
          have hld := R7.out.loadX
          go_wp2_with (refine wpList_load_any (by rfl) 24 (.tmp 3) rfl q 0 rfl _ hld ?_; simp only [Act.put])
          refine (HTX.out _ R7.out).mono ?_
          rintro e w8 ⟨rfl, hb5⟩
          have R8 := Lib.hid (R7.out.below hb5)
          clear R7 hb5 hld HTX
          have hld := R8.out.loadX
          go_wp2_with (refine wpList_load_any (by rfl) 24 (.tmp 3) rfl q 0 rfl _ hld ?_; simp only [Act.put])
          refine (HCK.out _ R8.out).mono ?_
          rintro e w9 ⟨rfl, hb5⟩
          have R9 := Lib.hid (R8.out.below hb5)
          clear R8 hb5 hld HCK
          have hld := R9.out.loadX
          go_upto_region 15 with (go_at_call 12; refine (num_is _ _).mono ?_; rintro e w' ⟨rfl, rfl⟩)
          go_wp2_with (refine wpList_load_any (by rfl) 24 (.tmp 3) rfl q 0 rfl _ hld ?_; simp only [Act.put])
          refine (HCX.out _ R9.out).mono ?_
          rintro e w10 ⟨Ai, ci, rfl, hown, hb5⟩
          have R10 := Lib.hid (R9.out.below hb5)
          have hci := own_cap hown
          clear R9 hld hb5
          obtain ⟨V, hV⟩ : ∃ V, V = w10 := ⟨_, rfl⟩
          subst hV
          obtain ⟨z, W11, hz, hW11, hbn, hzs, hbx, hbl⟩ := seg_box (Below.refl V.heap.size V) #[.int .i64 b, .slice Ai X.length ci]
          have hrz := (RecsAt.of_own hown).below hbl
          rw [hz] at hrz
          have HZR := Lib.hid hrz
          have HZ := Lib.hid hz
          have B12 := Lib.hid hbx
          have HBN := Lib.hid hbn
          unfold szero at hW11
          have HW11 := Lib.hid hW11
          clear hbn hbx hbl hW11 hzs hown hrz hz HCX
          go_upto_region 16 with (rw [HW11.out, HZ.out]; refine wpList_store_whole rfl 24 (.tmp 12) (.tmp 76) rfl z #[.int .i64 b, .slice Ai X.length ci] rfl rfl szero HBN.out info_seg rfl (by simp [Value.oneCell']) ?_; simp only [Act.put])
          clear HW11 HBN
          generalize World.setRow _ _ _ = w12 at B12 HZR ⊢
          have hbr : b0 < V.heap.size := Nat.lt_of_lt_of_le hb0 R10.out.bel.size
          have HC := Lib.hid (And.intro ((R10.out.bel.cell (p := ⟨b0, _, none⟩) hb0).trans HC.out.1) (And.intro ((R10.out.bel.cell (p := ⟨b0, _, none⟩) hb0).trans HC.out.2.1) (And.intro ((R10.out.bel.cell (p := ⟨b0, _, none⟩) hb0).trans HC.out.2.2.1) (And.intro ((R10.out.bel.cell (p := ⟨b0, _, none⟩) hb0).trans HC.out.2.2.2.1) (And.intro ((R10.out.bel.cell (p := ⟨b0, _, none⟩) hb0).trans HC.out.2.2.2.2.1) ((R10.out.bel.cell (p := ⟨b0, _, none⟩) hb0).trans HC.out.2.2.2.2.2))))))
          have hpV : p < V.heap.size := R10.out.out.1.lt
          have hd2 : V.cell? ⟨p, 2, none⟩ = some (.slice (some ⟨b0, o0, none⟩) L.length cl) := R10.out.out.1.cell 2
          have HD2 := Lib.hid hd2
          have hVz : V.heap.size ≤ z := Nat.le_of_eq HZ.out
          clear hd2
          go_cut [13, 14] from 77 to 86 (fun s13 s14 wx => ∃ z13 u Ay cy, s13 = .pointer (some ⟨z13, 0, none⟩) ∧ s14 = .int .i64 1 ∧ YX V z z13 u b X Ai ci 0 ([] : List Rc) Ay cy wx)
          case first =>
            have hS0 := B12.out.drewN 1
            have hZ0 : RecsAt w12.drew z Ai X := HZR.out.drewN 1
            clear B12 HZR
            refine wp_region_held_drew (S := fun W => RBox V z #[.int .i64 b, .slice Ai X.length ci] W) (by kernel_rfl) hS0 (fun hS => ?_)
            clear hS0
            generalize w12.drew = Wd at hS hZ0 ⊢
            refine take_load 0 78 24 (.tmp 12) z 0 (.agg #[.int .i64 b, .slice Ai X.length ci]) rfl rfl (by kernel_rfl) (fun _ _ _ h => h) (by rfl) hS rfl rfl (fun w' hS' => RBox.loadS hS' rfl) ?hh111
            simp only [Act.put, List.setIfInBounds_toArray, List.set_cons_zero, List.set_cons_succ]
            refine take_op 1 79 ?v112 rfl rfl (by kernel_rfl) (fun _ _ _ h => h) (by rfl) hS (fun w' hS' => ?hv113) ?hh114
            case hv113 => (go_simp; (try with_reducible rfl); (try omega))
            simp only [Act.put, List.setIfInBounds_toArray, List.set_cons_zero, List.set_cons_succ]
            refine take_op 2 80 (.slice (some ⟨b0, o0, none⟩) L.length cl) rfl rfl (by kernel_rfl) (fun _ _ _ h => h) (by rfl) hS (fun w' hS' => ?hv115) ?hh116
            case hv115 => (have d2 : w'.cell? ⟨p, 2, none⟩ = some (.slice (some ⟨b0, o0, none⟩) L.length cl) := (hS'.out.2.cell (p := ⟨p, 2, none⟩) hpV).trans HD2.out; go_simp; (try with_reducible rfl); (try omega))
            simp only [Act.put, List.setIfInBounds_toArray, List.set_cons_zero, List.set_cons_succ]
            refine take_op 3 81 ?v117 rfl rfl (by kernel_rfl) (fun _ _ _ h => h) (by rfl) hS (fun w' hS' => ?hv118) ?hh119
            case hv118 => (go_simp; (try with_reducible rfl); (try omega))
            simp only [Act.put, List.setIfInBounds_toArray, List.set_cons_zero, List.set_cons_succ]
            refine take_op 4 82 (.pointer (some ⟨b0, o0 + k * 6, none⟩)) rfl rfl (by kernel_rfl) (fun _ _ _ h => h) (by rfl) hS (fun w' hS' => ?hv120) ?hh121
            case hv120 => (go_simp; (try with_reducible rfl); (try omega))
            simp only [Act.put, List.setIfInBounds_toArray, List.set_cons_zero, List.set_cons_succ]
            refine take_load 5 83 42 (.tmp 82) b0 (o0 + k * 6) (.agg #[.int .i64 o, .int .i64 t, .string ks, .string bs, .int .i64 qq, .bool g]) rfl rfl (by kernel_rfl) (fun _ _ _ h => h) (by rfl) hS rfl rfl (fun w' hS' => load_parts ((hS'.out.2.cell (p := ⟨b0, o0 + k * 6, none⟩) hbr).trans HC.out.1) ((hS'.out.2.cell (p := ⟨b0, o0 + k * 6 + 1, none⟩) hbr).trans HC.out.2.1) ((hS'.out.2.cell (p := ⟨b0, o0 + k * 6 + 2, none⟩) hbr).trans HC.out.2.2.1) ((hS'.out.2.cell (p := ⟨b0, o0 + k * 6 + 3, none⟩) hbr).trans HC.out.2.2.2.1) ((hS'.out.2.cell (p := ⟨b0, o0 + k * 6 + 4, none⟩) hbr).trans HC.out.2.2.2.2.1) ((hS'.out.2.cell (p := ⟨b0, o0 + k * 6 + 5, none⟩) hbr).trans HC.out.2.2.2.2.2)) ?hh122
            simp only [Act.put, List.setIfInBounds_toArray, List.set_cons_zero, List.set_cons_succ]
            refine two_ops 6 10 rfl rfl (by kernel_rfl) (by rfl) (by rfl) (wp_call_ex 84 14 #[.agg #[.int .i64 b, .slice Ai X.length ci], .agg #[.int .i64 o, .int .i64 t, .string ks, .string bs, .int .i64 qq, .bool g]] _ rfl (by go_simp) (HAD.out Ai ci z Wd hci (Nat.le_of_lt hS.out.1.lt) hZ0) ?_) (wp_made 13 (.pointer (some ⟨Wd.heap.size, 0, none⟩)) rfl (w' := Wd.alloc (.cells #[.int .i64 0, .slice none 0 0] 24)) (by go_simp; try rfl) ⟨hS.below ((Below.refl _ _).alloc (Nat.le_refl _) _), ?_⟩)
            · skip
              rintro e Wa ⟨rfl, hb3⟩
              refine ⟨_, rfl, hS.below hb3, ?_⟩
              simp only [Act.put, List.setIfInBounds_toArray, List.set_cons_zero, List.set_cons_succ]
              have hO : Wa.ownsRow (z + 1) 42 6 (.slice none ([] : List Rc).length 0) ([] : List Rc).length (flat []) := World.ownsRow_nil _ _ _ _
              have hZ0 := hZ0.below (hb3.mono (Nat.le_of_lt hS.out.1.lt))
              have hS := hS.below hb3
              refine take_op 7 77 ?v123 rfl rfl (by kernel_rfl) (fun _ _ _ h => h) (by rfl) hS (fun w' hS' => ?hv124) ?hh125
              case hv124 => (go_simp; (try with_reducible rfl); (try omega))
              simp only [Act.put, List.setIfInBounds_toArray, List.set_cons_zero, List.set_cons_succ]
              refine take_op 8 85 (.agg #[.int .i64 0, .slice none 0 0]) rfl rfl (by kernel_rfl) (fun _ _ _ h => h) (by rfl) hS (fun w' hS' => ?hv126) ?hh127
              case hv126 => (go_simp; (try with_reducible rfl); (try omega))
              simp only [Act.put, List.setIfInBounds_toArray, List.set_cons_zero, List.set_cons_succ]
              refine take_op 9 86 (.int .i64 1) rfl rfl (by kernel_rfl) (fun _ _ _ h => h) (by rfl) hS (fun w' hS' => ?hv128) ?hh129
              case hv128 => (go_simp; (try with_reducible rfl); (try omega))
              simp only [Act.put, List.setIfInBounds_toArray, List.set_cons_zero, List.set_cons_succ]
              refine only_op 10 rfl (by kernel_rfl) (by rfl) (wp_made 13 (.pointer (some ⟨Wa.heap.size, 0, none⟩)) rfl (w' := Wa.alloc (.cells #[.int .i64 0, .slice none 0 0] 24)) (by go_simp; try rfl) ⟨hS.below ((Below.refl _ _).alloc (Nat.le_refl _) _), ?_⟩)
              simp only [Act.put, List.setIfInBounds_toArray, List.set_cons_zero, List.set_cons_succ]
              have hQ := SBlk.new Wa #[.int .i64 0, .slice none 0 0]
              have hbl := (Below.refl Wa.heap.size Wa).alloc (Nat.le_refl _) (.cells #[.int .i64 0, .slice none 0 0] 24)
              have hOy : ∀ g, (Value.slice none ([] : List Rc).length 0).ownBlock = some g → g < Wa.heap.size := fun g hg => by cases hg
              have hO := own_below hO hbl
              have hzy : z < Wa.heap.size := hS.out.1.lt
              have hZ0 := hZ0.below (hbl.mono (Nat.le_of_lt hzy))
              have hS := hS.below hbl
              obtain ⟨Wb, hWb⟩ : ∃ Wb, Wa.alloc (.cells #[.int .i64 0, .slice none 0 0] 24) = Wb := ⟨_, rfl⟩
              rw [hWb] at hQ hS hO hZ0 ⊢
              have hOu : Wa.heap.size ≤ Wb.heap.size := by rw [← hWb]; simp
              clear hWb
              obtain ⟨u, hu⟩ : ∃ u, Wa.heap.size = u := ⟨_, rfl⟩
              rw [hu] at hOy hOu
              clear hu
              generalize Wa.heap.size = y at hQ hzy ⊢
              clear hbl
              have hx9 : YX V z y u b X Ai ci 0 ([] : List Rc) none 0 (Wb.setRow y #[.int .i64 0, .slice none 0 0]) := by
                refine .mk ⟨setRow_blk hS.out.1 (by omega) _, hZ0.row (by omega) _, hQ.row _, own_seg_row hQ hO _, ⟨hOy, by simpa using hOu⟩, below_row hS.out.2 (by omega) _, hVz, hzy⟩
              have hS9 : RBox V z #[.int .i64 b, .slice Ai X.length ci] (Wb.setRow y #[.int .i64 0, .slice none 0 0]) := .mk hx9.out.1 hx9.bel
              refine only_op 11 rfl (by kernel_rfl) (by rfl) (wp_store_row 24 (.tmp 13) (.tmp 85) rfl y #[.int .i64 0, .slice none 0 0] rfl rfl _ _ hQ info_seg rfl (by simp [Value.oneCell']) ⟨hS9, ?_⟩)
              (try simp only [put_none])
              refine take_op 12 14 (.int .i64 1) rfl rfl (by kernel_rfl) (fun _ _ _ h => h) (by rfl) hS9 (fun w' hS' => ?hv130) ?hh131
              case hv130 => (go_simp; (try with_reducible rfl); (try omega))
              simp only [Act.put, List.setIfInBounds_toArray, List.set_cons_zero, List.set_cons_succ]
              refine wpAnyH_done (by kernel_rfl) ?_ _
              go_wp2_with fail
              go_meet
              exact ⟨_, u, _, _, rfl, rfl, hx9⟩
            · simp only [Act.put, List.setIfInBounds_toArray, List.set_cons_zero, List.set_cons_succ]
              have hQ := SBlk.new Wd #[.int .i64 0, .slice none 0 0]
              have hbl := (Below.refl Wd.heap.size Wd).alloc (Nat.le_refl _) (.cells #[.int .i64 0, .slice none 0 0] 24)
              have hzy : z < Wd.heap.size := hS.out.1.lt
              have hZ0 := hZ0.below (hbl.mono (Nat.le_of_lt hzy))
              have hS := hS.below hbl
              generalize Wd.alloc _ = Wb at hQ hS hZ0 ⊢
              generalize Wd.heap.size = y at hQ hzy ⊢
              clear hbl
              refine only_op 6 rfl (by kernel_rfl) (by rfl) (wp_call_ex 84 14 #[.agg #[.int .i64 b, .slice Ai X.length ci], .agg #[.int .i64 o, .int .i64 t, .string ks, .string bs, .int .i64 qq, .bool g]] _ rfl (by go_simp) (HAD.out Ai ci z Wb hci (Nat.le_of_lt hS.out.1.lt) hZ0) ?_)
              rintro e Wc ⟨rfl, hb3⟩
              refine ⟨_, rfl, hS.below hb3, ?_⟩
              simp only [Act.put, List.setIfInBounds_toArray, List.set_cons_zero, List.set_cons_succ]
              have hO : Wc.ownsRow (z + 1) 42 6 (.slice none ([] : List Rc).length 0) ([] : List Rc).length (flat []) := World.ownsRow_nil _ _ _ _
              have hZ0 := hZ0.below (hb3.mono (Nat.le_of_lt hS.out.1.lt))
              have hS := hS.below hb3
              have hQ := hQ.below hb3
              have hOy : ∀ g, (Value.slice none ([] : List Rc).length 0).ownBlock = some g → g < Wc.heap.size := fun g hg => by cases hg
              have hOu : Wc.heap.size ≤ Wc.heap.size := Nat.le_refl _
              refine take_op 7 77 ?v132 rfl rfl (by kernel_rfl) (fun _ _ _ h => h) (by rfl) hS (fun w' hS' => ?hv133) ?hh134
              case hv133 => (go_simp; (try with_reducible rfl); (try omega))
              simp only [Act.put, List.setIfInBounds_toArray, List.set_cons_zero, List.set_cons_succ]
              refine take_op 8 85 (.agg #[.int .i64 0, .slice none 0 0]) rfl rfl (by kernel_rfl) (fun _ _ _ h => h) (by rfl) hS (fun w' hS' => ?hv135) ?hh136
              case hv135 => (go_simp; (try with_reducible rfl); (try omega))
              simp only [Act.put, List.setIfInBounds_toArray, List.set_cons_zero, List.set_cons_succ]
              refine take_op 9 86 (.int .i64 1) rfl rfl (by kernel_rfl) (fun _ _ _ h => h) (by rfl) hS (fun w' hS' => ?hv137) ?hh138
              case hv137 => (go_simp; (try with_reducible rfl); (try omega))
              simp only [Act.put, List.setIfInBounds_toArray, List.set_cons_zero, List.set_cons_succ]
              obtain ⟨u, hu⟩ : ∃ u, Wc.heap.size = u := ⟨_, rfl⟩
              have hOu : u ≤ Wc.heap.size := Nat.le_of_eq hu.symm
              rw [hu] at hOy
              have hx9 : YX V z y u b X Ai ci 0 ([] : List Rc) none 0 (Wc.setRow y #[.int .i64 0, .slice none 0 0]) := by
                refine .mk ⟨setRow_blk hS.out.1 (by omega) _, hZ0.row (by omega) _, hQ.row _, own_seg_row hQ hO _, ⟨hOy, by simpa using hOu⟩, below_row hS.out.2 (by omega) _, hVz, hzy⟩
              have hS9 : RBox V z #[.int .i64 b, .slice Ai X.length ci] (Wc.setRow y #[.int .i64 0, .slice none 0 0]) := .mk hx9.out.1 hx9.bel
              refine only_op 11 rfl (by kernel_rfl) (by rfl) (wp_store_row 24 (.tmp 13) (.tmp 85) rfl y #[.int .i64 0, .slice none 0 0] rfl rfl _ _ hQ info_seg rfl (by simp [Value.oneCell']) ⟨hS9, ?_⟩)
              (try simp only [put_none])
              refine take_op 12 14 (.int .i64 1) rfl rfl (by kernel_rfl) (fun _ _ _ h => h) (by rfl) hS9 (fun w' hS' => ?hv139) ?hh140
              case hv139 => (go_simp; (try with_reducible rfl); (try omega))
              simp only [Act.put, List.setIfInBounds_toArray, List.set_cons_zero, List.set_cons_succ]
              refine wpAnyH_done (by kernel_rfl) ?_ _
              go_wp2_with fail
              go_meet
              exact ⟨_, u, _, _, rfl, rfl, hx9⟩
          case rest =>
            obtain ⟨y, u, Ay, cy, rfl, rfl, hx⟩ := hcut
            have Y1 := Lib.hid hx
            clear hx B12 HZR HAD
            obtain ⟨nx, W17, hn, hW17, hbn, hns, _, hbl⟩ := seg_box Y1.out.bel #[.int .i64 0, .slice none 0 0]
            have hyn : y < nx := by rw [← hn]; exact Y1.out.out.2.2.1.lt
            have hun : u ≤ nx := by rw [← hn]; exact Y1.out.out.2.2.2.2.1.2
            have hN2 : NW V z y u nx b X Ai ci 0 ([] : List Rc) Ay cy #[.int .i64 0, .slice none 0 0] (W17.setRow nx #[.int .i64 0, .slice none 0 0]) := .mk ⟨Y1.out.below hbl, hns, hyn, hun⟩
            have N2 := Lib.hid hN2
            have HBN := Lib.hid hbn
            unfold szero at hW17
            have HW17 := Lib.hid hW17
            have HN := Lib.hid hn
            clear hbn hbl hW17 hns hN2 hn Y1
            go_upto_region 18 with (rw [HW17.out, HN.out]; refine wpList_store_whole rfl 24 (.tmp 15) (.tmp 87) rfl nx #[.int .i64 0, .slice none 0 0] rfl rfl szero HBN.out info_seg rfl (by simp [Value.oneCell']) ?_; simp only [Act.put])
            clear HW17 HBN HN
            generalize World.setRow _ _ _ = w17 at N2 ⊢
            have st0 := N2.out
            clear N2
            haveI : Nonempty (In (NW V z y u nx b X Ai ci 0 ([] : List Rc) Ay cy #[.int .i64 0, .slice none 0 0])) := ⟨⟨_, st0⟩⟩
            refine region_in (S := NW V z y u nx b X Ai ci 0 ([] : List Rc) Ay cy #[.int .i64 0, .slice none 0 0]) (by kernel_rfl) (by kernel_rfl) (st0.drewN 1) ?_
            repeat (go_big_quiet_step (fail))
            refine wpQuiet_nil ?_
            rintro _ ⟨⟨w18, st7⟩, rfl⟩
            have N3 := Lib.hid st7
            clear this st0 st7
            obtain ⟨An, hAn⟩ : ∃ An : Option Addr, An = none := ⟨_, rfl⟩
            have P1 : Hid (PX V z y u nx b X Ai ci 0 ([] : List Rc) Ay cy none 0 _) := Lib.hid (PX.mk ⟨N3.out, World.ownsRow_nil _ _ _ _⟩)
            clear N3 hAn
            have hy200 : Hid (([] : List Rc).length ≤ 200) := Lib.hid (Nat.zero_le _)
            have HEQ1 := Lib.hid (fun W (h : PX V z y u nx b X Ai ci 0 ([] : List Rc) Ay cy none 0 W) => EqSeg_same 0 ([] : List Rc) Ay none cy 0 W.heap.size W.heap.size W (Nat.le_trans hy200.out (by decide)) (Nat.le_refl _) (Nat.le_refl _) (.of_own h.out.1.out.1.out.2.2.2.1) (.of_own h.out.2))
            have HEQ2 := Lib.hid (fun W (h1 : RecsAt W z Ai X) (hz : z ≤ W.heap.size) (h2 : Below V.heap.size V W) => EqSeg_same b X Ai Ax ci cx z W.heap.size W hx63 hz (Nat.le_refl _) h1 (R10.out.below h2).out.2.2.1)
            have hld1 := load_seg P1.out.out.1.out.1.out.2.2.1.blk rfl
            have hld2 := load_seg P1.out.out.1.out.2.1.blk rfl
            go_wp2_with (first | (refine wpList_load_any (by rfl) 24 (.tmp 13) rfl y 0 rfl _ hld1 ?_; simp only [Act.put]) | (refine wpList_load_any (by rfl) 24 (.tmp 15) rfl nx 0 rfl _ hld2 ?_; simp only [Act.put]) | (go_at_call 12; refine (num_is _ _).mono ?_; rintro e w' ⟨rfl, rfl⟩))
            refine (HEQ1.out _ P1.out).mono ?_
            rintro e w21 ⟨rfl, hb21⟩
            have P2 := Lib.hid (P1.out.below hb21)
            clear P1 hb21 hld1 hld2 HEQ1
            have hld1 := load_seg P2.out.out.1.out.1.out.1 rfl
            have hld2 := (R10.out.below P2.out.bel).loadX
            go_wp2_with (first | (refine wpList_load_any (by rfl) 24 (.tmp 12) rfl z 0 rfl _ hld1 ?_; simp only [Act.put]) | (refine wpList_load_any (by rfl) 24 (.tmp 3) rfl q 0 rfl _ hld2 ?_; simp only [Act.put]))
            refine (HEQ2.out _ P2.out.out.1.out.1.out.2.1 (Nat.le_of_lt P2.out.out.1.out.1.out.1.lt) P2.out.bel).mono ?_
            rintro e w22 ⟨rfl, hb22⟩
            have P3 := Lib.hid (P2.out.below hb22)
            clear P2 hb22 hld1 hld2
            have d1 : w22.cell? ⟨y, 1, none⟩ = some (.slice Ay ([] : List Rc).length cy) := P3.out.out.1.out.1.out.2.2.1.blk.cell 1
            have HSP := Lib.hid (SpoilG_is (z + 1) _ cy Ay _ w22 P3.out.out.1.out.1.out.1.lt (Nat.le_trans hy200.out (by decide)) P3.out.out.1.out.1.out.2.2.2.1)
            go_wp2_with fail
            refine HSP.out.mono ?_
            rintro e w23 ⟨⟨v9, rfl⟩, hgrow⟩
            have Q1 := Lib.hid (P3.out.spoilt hgrow)
            clear P3 hgrow HSP d1
            have hld1 := load_seg Q1.out.out.1 rfl
            have hld2 := (R10.out.below Q1.out.out.2.2.2.2).loadX
            go_wp2_with (first | (refine wpList_load_any (by rfl) 24 (.tmp 12) rfl z 0 rfl _ hld1 ?_; simp only [Act.put]) | (refine wpList_load_any (by rfl) 24 (.tmp 3) rfl q 0 rfl _ hld2 ?_; simp only [Act.put]))
            refine (HEQ2.out _ Q1.out.out.2.1 (Nat.le_of_lt Q1.out.out.1.lt) Q1.out.out.2.2.2.2).mono ?_
            rintro e w24 ⟨rfl, hb24⟩
            have Q2 := Lib.hid (Q1.out.below hb24)
            clear Q1 hb24 hld1 hld2 HEQ2
            have AX9 := Lib.hid (R10.out.below Q2.out.out.2.2.2.2)
            clear Q2 R10
            go_wp2_with fail
            go_roundw
            case rel => exact ⟨k + 1, X, Ax, cx, h2, h1, by go_num, hx64, hxc, AX9.out⟩
            case measure => simp [RowKit.intOf]; omega
      · go_wp2_with (go_at_call 18; refine (HWK.out _).mono ?_; rintro e w9 ⟨rfl, hb9⟩)
        all_goals (go_ret; exact ⟨rfl, R.out.bel.trans (hb9.mono R.out.bel.size)⟩)
end Go.Proofs.YthhpmhibkbndhaaDoor
/- For every script: whatever is added, one behind the other, package seg tells the segment that the document's own answer tells, its size and its bytes, or refuses it. The table of sums is tied to the program's text. No condition. -/
namespace Go.Proofs.YthhpmhibkbndhaaDoor.segAdds
open Go.ChangeShapes Go.WideShapes Go.ChangeAt Go.RowKit

set_option maxRecDepth 100000 in
theorem lifted (os : Os) (started : os.Started) (H : Type) (enc : TypeId × Value → H) :
    ReturnsInHanded {} Tryd.checked os 3 .any (fun w args => (Rows.segAddsSpec.pre enc Tryd.prog Tryd.f3 Rows.segAddsRow.domain false w args ∧ laidMetH Tryd.prog theLaid w) ∧ sizedMet enc Tryd.prog Tryd.f3 (OpenSpec.ofChange Rows.segAddsSpec) false w args) (Rows.segAddsSpec.post enc Tryd.prog Tryd.f3 false true false false) := by
  refine returnsInHanded_of_change_and (C := Tryd.checked) (X := fun w _ => laidMetH Tryd.prog theLaid w) (fun _ _ _ hh h => h.of_heap hh) ownKnob_none started (by kernel_rfl) Tryd.func3
    (ChangeSpec.witness_shaped (enc := enc) (C := Tryd.checked) (os := os) (X := fun w _ => laidMetH Tryd.prog theLaid w) false (World.doorLaid Tryd.prog 400 os) #[.agg #[.int .i64 0, .slice none 0 0, .slice none 0 0, .slice none 0 0, .string ⟨#[]⟩]] 8 rfl (World.shaped_of_RefB (by kernel_rfl) (by kernel_rfl)) (by kernel_rfl) (by kernel_rfl) (by kernel_rfl) (door_met os _)) ?_
  intro W base args ds gs before hval0 hW _ hsz0 hL _
  have hval : ∀ (j : Nat) t v, Tryd.f3.params[j]? = some t → args[j]? = some v → Value.okWide Tryd.prog W .any base t v := hval0
  have hW' := hW
  obtain ⟨p, q, hA0, hV, rfl, _, _⟩ := hW
  have hA : DataW.TrodAll enc Tryd.prog W 0 (fun _ => true) true Tryd.f3.params.toList args.toList ds p := hA0
  rw [Tryd.params3] at hA hval
  obtain ⟨v0, d0, rfl, rfl, h0⟩ := trodAll_one hA
  obtain ⟨rfl, rfl⟩ := trodVars_none hV
  have lt0 : ∀ x ∈ p, x.block < W.heap.size := by obtain ⟨m, hm⟩ := h0; exact DataW.trod_lt m _ _ _ hm
  have near : Near 27 d0 := fun n hn => by
    have := List.all_eq_true.1 hsz0 n (DataW.weights_mem_each (j := 0) (t := 27) (d := d0) (by rw [Tryd.params3]; rfl) rfl n hn)
    simpa using this
  obtain ⟨b, rs, L, ns, A, B, D, c, cl, cn, s, rfl, hs⟩ := script_all (hval 0 27 v0 rfl rfl) near h0
  clear hA0 hval0
  refine (SegAdds_any b rs L A B D c cl ns.length cn s W hs.lA (by have := hs.lB; omega) hs.cap hs.hA hs.hB (tab_of_laid hL)).mono fun e W' ⟨he, bel⟩ => ?_
  subst he
  exact ⟨_, rfl, _, _, _, [], _, [], hW', trodAll_mk1 (shut_bool Tryd.underlying4 _), trodAll_mk1 (Below.trod laidOut_true (by kernel_rfl) (of_decide_eq_true (by kernel_rfl)) h0 bel lt0), rfl, bel.frame _, fun h => by cases h⟩

theorem over : Rows.segAddsRow.holds Tryd.pinned (OpenSpec.ofChange Rows.segAddsSpec) :=
  OpenClaim.holds_of_wide 3 Tryd.f3 rfl rfl rfl rfl rfl rfl rfl ⟨rfl, rfl, rfl, rfl, rfl⟩ rfl rfl rfl rfl rfl (by kernel_rfl) Tryd.func3 (by kernel_rfl)
    (of_decide_eq_true (by kernel_rfl)) (by unfold Func.isWrapper; rw [if_neg (of_decide_eq_false (by kernel_rfl))]; exact ⟨rfl, rfl⟩)
    (fun os started H enc _ => lifted os started H enc)

theorem proved : Rows.SegAddsCardSaid :=
  Claim7.holds_tied_plain_at .later [] [.data] true _ true
    over (fun _ h => by cases h) (by kernel_rfl) (fun _ h => by cases h) segAdds_row_tie rfl ⟨rfl, rfl⟩ (by kernel_rfl) rfl
    (fun f fn hf hfn => by
      obtain rfl : f = 3 := Option.some.inj ((show Tryd.prog.funcNamed "fairway/fairwaylaw11.SegAdds" = some 3 by kernel_rfl).symm.trans hf) |>.symm
      obtain rfl : fn = Tryd.f3 := (Option.some.inj (Tryd.func3.symm.trans hfn)).symm
      exact ⟨by kernel_rfl, fun j t ht => by
        rw [Tryd.params3] at ht
        have hm : t ∈ [27] := by simpa using Array.mem_of_getElem? ht
        have hall : ([27].all fun u => !Tryd.prog.wantsStandIn u) = true := by kernel_rfl
        exact (show Tryd.prog.wantsStandIn t = false by simpa using List.all_eq_true.1 hall t hm)⟩)
    (by kernel_rfl)
#print axioms proved
end Go.Proofs.YthhpmhibkbndhaaDoor.segAdds
