/- Texts of the proof, part 11: SgRCopy, KpRCopy, RcSpoil, SgSpoil, KpSpoil, KpRound. -/
import Derived.Test.YtgadgmcabjnjjaaW10
/- The document's own answer: copies of records, of a segment. -/
namespace Go.Proofs.Ytgadgmcabjnjjaa
open Go.RowKit Go.Lib Rcd

set_option maxRecDepth 100000 in
set_option maxHeartbeats 4000000 in
/-- fairwayref0.CopyRecs. -/
theorem RCopyRecs_is (l : List Rc) (A : Option Addr) (c B : Nat) (w : World) (hm : l.length * 64 ≤ 140737488351232) (hB : B ≤ w.heap.size) (h : RecsAt w B A l) :
    Calls Try.prog 40 #[.slice A l.length c] w fun e w' => ∃ A' c', e = .returned (.slice A' l.length c') ∧ w'.ownsRow w.heap.size 51 6 (.slice A' l.length c') l.length (flat l) ∧ Below w.heap.size w w' := by
  obtain ⟨i0, hi, hz0, hz1, hz2⟩ := info_parts info_more
  have H := Lib.hid (h.mono hB)
  clear h
  go_enter Try.func40, Try.ntmps40
  go_wp2_with fail
  go_loopw [3, 4] (fun m i wr => ∃ k : Nat, k ≤ l.length ∧ i = .int .i64 (k : Int) ∧ wr.ownsRow w.heap.size 51 6 m k (flat (l.take k)) ∧ Below w.heap.size w wr) (fun _ i _ => l.length - (RowKit.intOf i).toNat)
  case atStart => exact ⟨0, Nat.zero_le _, rfl, World.ownsRow_nil _ _ _ _, Below.refl _ _⟩
  case round =>
    obtain ⟨k, hk, rfl, hown, hnx⟩ := hrel
    by_cases hlt : k < l.length
    · obtain ⟨b0, o0, rfl, _, hc⟩ := (H.out.below hnx).some_ (by omega)
      obtain ⟨d0, d1, d2, d3, d4, d5⟩ := hc k hlt
      have HS := Lib.hid (takeR_snoc hlt)
      clear hc
      obtain ⟨s, hs⟩ : ∃ s, l[k] = s := ⟨_, rfl⟩
      rw [hs] at d0 d1 d2 d3 d4 d5 HS
      have HO := Lib.hid hown
      have HN := Lib.hid hnx
      have hkI : (k : Int) < (l.length : Int) := by omega
      obtain ⟨o, t, key, bod, q, g⟩ := s
      have hfc : rcells ⟨o, t, key, bod, q, g⟩ = [.int .i64 o, .int .i64 t, .string (str key), .string (str bod), .int .i64 q, .bool g] := rfl
      have hon : ∀ u ∈ rcells ⟨o, t, key, bod, q, g⟩, u.oneCell' = true := one_cells _
      rw [hfc] at HS hon
      have HON := Lib.hid hon
      dsimp only at d0 d1 d2 d3 d4 d5
      clear hs hown hnx hfc hon
      generalize str key = ks at HS HON d2
      generalize str bod = bs at HS HON d3
      have hs6 := HN.out.size
      go_wp2_with (at_builtin; refine wpList_append_own _ rfl _ _ 46 rfl w.heap.size 51 i0 (.agg zcells) 6 64 Try.underlying46 hi hz0 hz1 hz2 rfl (by decide) _ _ _ rfl (HO.out.alloc _) ⟨wr.heap.size, 0, none⟩ 1 1 [.int .i64 o, .int .i64 t, .string ks, .string bs, .int .i64 q, .bool g] rfl rfl ?c1 ?c2 ?c3 ?c4 ?c5 ?_)
      case c1 => exact fun j u h => cells_new wr _ [.int .i64 o, .int .i64 t, .string ks, .string bs, .int .i64 q, .bool g] j u h
      case c2 => exact HON.out
      case c3 => unfold maxLen; omega
      case c4 => first | omega | (simp; omega)
      case c5 => first | omega | (simp; omega)
      intro v' w7 hown' hgrow _
      have HN' := Lib.hid (HN.out.trans (below_alloc_grown hs6 HO.out hgrow))
      have HO' : Hid (w7.ownsRow w.heap.size 51 6 v' (k + 1) (flat (l.take (k + 1)))) := by show World.ownsRow _ _ _ _ _ _ _; rw [HS.out]; exact hown'
      clear hown' hgrow HO HN HS HON
      go_wp2_with fail
      go_roundw
      case rel => exact ⟨k + 1, hlt, by go_num, HO'.out, HN'.out⟩
      case measure => simp [RowKit.intOf]; omega
    · obtain rfl : k = l.length := by omega
      rw [List.take_length] at hown
      obtain ⟨A', c', hv⟩ := own_slice hown
      have HO := Lib.hid hown
      have HN := Lib.hid hnx
      clear hown hnx
      subst hv
      go_wp2_with fail
      go_ret
      exact ⟨A', c', rfl, HO.out, HN.out⟩

set_option maxRecDepth 100000 in
set_option maxHeartbeats 4000000 in
/-- fairwayref0.CopySeg. -/
theorem RCopySeg_is (b : Int) (l : List Rc) (A : Option Addr) (c B : Nat) (w : World) (hm : l.length * 64 ≤ 140737488351232) (hB : B ≤ w.heap.size) (h : RecsAt w B A l) :
    Calls Try.prog 26 #[.agg #[.int .i64 b, .slice A l.length c]] w (GivesAt b l w) := by
  have hD := Duo.new w 48 48 (sarr b A l.length c) szero
  have HC := Lib.hid (fun W (hb : Below w.heap.size w W) => RCopyRecs_is l A c B W hm (Nat.le_trans hB hb.size) (h.below (hb.mono hB)))
  obtain ⟨p, hp⟩ : ∃ p, w.heap.size = p := ⟨_, rfl⟩
  obtain ⟨W0, hW⟩ : ∃ W0, (w.alloc (.cells (sarr b A l.length c) 48)).alloc (.cells szero 48) = W0 := ⟨_, rfl⟩
  rw [hW, hp] at hD
  unfold sarr at hD hW
  unfold szero at hW
  have D0 := Lib.hid hD
  have hq := SBlk.new W0 szero
  have hDn := hD.below ((Below.refl _ _).alloc (Nat.le_refl _) (.cells szero 48))
  obtain ⟨q, hqz⟩ : ∃ q, W0.heap.size = q := ⟨_, rfl⟩
  obtain ⟨W4, hW4⟩ : ∃ W4, W0.alloc (.cells szero 48) = W4 := ⟨_, rfl⟩
  rw [hW4] at hq hDn
  rw [hqz] at hq
  have hpq : p + 1 < q := by rw [← hqz]; exact hD.out.2.1.lt
  have hD5 : Duo w p (p + 1) #[.int .i64 b, .slice A l.length c] szero (W4.setRow q #[.int .i64 b, .slice A l.length c]) := by
    obtain ⟨h1, h2, h3, h4, h5⟩ := hDn.out
    exact .mk ⟨setRow_blk h1 (by omega) _, setRow_blk h2 (by omega) _, below_row h3 (by omega) _, h4, h5⟩
  have D5 := Lib.hid hD5
  have HBN := Lib.hid hq.blk
  have Q5 := Lib.hid (hq.row #[.int .i64 b, .slice A l.length c])
  unfold szero at hW4
  have HW := Lib.hid hW
  have HP := Lib.hid hp
  have HW4 := Lib.hid hW4
  have HQ := Lib.hid hqz
  clear hW hp h hW4 hqz hq hD hDn hD5
  go_enter Try.func26, Try.ntmps26
  go_upto_region 1 with fail
  rw [HW.out, HP.out]
  clear HW
  have hld := D0.out.box1.loadS rfl
  go_upto_region 2 with (first | (refine wpList_load_any (by rfl) 48 (.tmp 1) rfl p 0 rfl _ hld ?_; simp only [Act.put]) | (rw [HW4.out, HQ.out]; refine wpList_store_whole rfl 48 (.tmp 3) (.tmp 4) rfl q _ rfl rfl szero HBN.out info_seg rfl (by simp [Value.oneCell']) ?_; simp only [Act.put]))
  clear HW4 HBN HQ D0 hld
  generalize World.setRow _ _ _ = w5 at D5 Q5 ⊢
  have d1 : w5.cell? ⟨p, 1, none⟩ = some (.slice A l.length c) := D5.out.cell1 1
  go_wp2_with fail
  refine (HC.out _ D5.out.bel).mono ?_
  rintro e w6 ⟨A', c', rfl, hown, hb6⟩
  have D6 := Lib.hid (D5.out.below hb6)
  have Q6 := Lib.hid (Q5.out.below hb6)
  have hown6 := own_mono hown (show q + 1 ≤ w5.heap.size from Q5.out.lt)
  have e1 : w6.cell? ⟨q, 1, none⟩ = some (.slice A l.length c) := Q6.out.blk.cell 1
  have f1 := Q6.out.blk.frozen 1
  have hQ7 : SBlk (w6.setCell ⟨q, 1, none⟩ (.slice A' l.length c')) q #[.int .i64 b, .slice A' l.length c'] := Q6.out.put 1 _
  have hO7 := own_far hown6 ⟨q, 1, none⟩ (Nat.lt_succ_self _) (.slice A' l.length c')
  have hD7 : Duo w p (p + 1) #[.int .i64 b, .slice A l.length c] szero (w6.setCell ⟨q, 1, none⟩ (.slice A' l.length c')) := by
    obtain ⟨h1, h2, h3, h4, h5⟩ := D6.out.out
    exact .mk ⟨h1.far (p := ⟨q, 1, none⟩) (by show p ≠ q; omega) _, h2.far (p := ⟨q, 1, none⟩) (by show p + 1 ≠ q; omega) _, h3.setCell (p := ⟨q, 1, none⟩) (by show _ ≤ q; omega) _, h4, h5⟩
  have Q7 := Lib.hid hQ7
  have O7 := Lib.hid hO7
  have D7 := Lib.hid hD7
  clear hown hown6 hb6 D5 Q5 D6 Q6 d1 HC hQ7 hO7 hD7
  go_upto_region 3 with fail
  clear e1 f1
  generalize w6.setCell _ _ = w7 at Q7 O7 D7 ⊢
  have hld := load_seg Q7.out.blk rfl
  have HB := Lib.hid D7.out.out.2.1
  have D8 := Lib.hid (D7.out.row2 #[.int .i64 b, .slice A' l.length c'])
  have hx : (w7.setRow (p + 1) #[.int .i64 b, .slice A' l.length c']).ownsRow w.heap.size 51 6 (.slice A' l.length c') l.length (flat l) := own_mono (own_row O7.out (p + 1) (by omega) _) (by have := D7.out.out.2.2.2.1; omega)
  have O8 := Lib.hid hx
  clear hx D7 O7
  go_wp2_with (first | (refine wpList_load_any (by rfl) 48 (.tmp 3) rfl q 0 rfl _ hld ?_; simp only [Act.put]) | (refine wpList_store_whole rfl 48 (.tmp 2) (.tmp 9) rfl (p + 1) _ rfl rfl _ HB.out info_seg rfl (by simp [Value.oneCell']) ?_; simp only [Act.put]))
  refine bodyPost_ret (results_cell Try.results26 rfl (load_seg D8.out.out.2.1 rfl)) rfl ⟨A', c', rfl, O8.out, D8.out.bel⟩
end Go.Proofs.Ytgadgmcabjnjjaa
/- The document's own answer: copies of segments. -/
namespace Go.Proofs.Ytgadgmcabjnjjaa.Kpd
open Go.RowKit Go.Lib Rcd

set_option maxRecDepth 100000 in
set_option maxHeartbeats 8000000 in
/-- fairwayref0.CopySegs. -/
theorem RCopySegs_is (K : List Sp) (L : Nat) (A : Option Addr) (c B : Nat) (w : World) (hL : K.length = L) (hm : L ≤ 1000000) (hB : B ≤ w.heap.size) (h : SegsAt w B A K) :
    Calls Try.prog 8 #[.slice A L c] w fun e w' => ∃ A' c' xs, e = .returned (.slice A' L c') ∧ OwnS w' w.heap.size (.slice A' L c') K xs ∧ Below w.heap.size w w' := by
  obtain ⟨i0, hi, hz0, hz1, hz2⟩ := info_parts info_smore
  have H := Lib.hid (h.mono hB)
  have HLL := Lib.hid hL
  clear h hL hB
  go_enter Try.func8, Try.ntmps8
  go_wp2_with fail
  go_loopw [3, 4] (fun v i wr => ∃ (k : Nat) (xs : List Sx), k ≤ L ∧ i = .int .i64 (k : Int) ∧ OwnS wr w.heap.size v (K.take k) xs ∧ Below w.heap.size w wr) (fun _ i _ => L - (RowKit.intOf i).toNat)
  case atStart => exact ⟨0, [], Nat.zero_le _, rfl, .nil _ _, Below.refl _ _⟩
  case round =>
    obtain ⟨k, xs, hk, rfl, hown, hbl⟩ := hrel
    have HOW := Lib.hid hown
    have HB := Lib.hid hbl
    clear hown hbl
    by_cases hlt : k < L
    · have hlr : k < K.length := by rw [HLL.out]; exact hlt
      obtain ⟨b0, o0, rfl, hb0, hc⟩ := (H.out.below HB.out).some_ (by omega)
      obtain ⟨A1, c1, hsg⟩ := hc k hlr
      have hsn := takeS_snoc hlr
      have hkl : (K.take k).length = k := by rw [List.length_take]; omega
      clear hc
      generalize K[k] = s at hsg hsn
      obtain ⟨sb, srs⟩ := s
      obtain ⟨s0, s1, hA, hcp, hlim⟩ := hsg
      dsimp only at s0 s1 hA hcp hlim hsn
      have hcs := RCopySeg_is sb srs A1 c1 w.heap.size wr hlim HB.out.size hA
      obtain ⟨M, hM⟩ : ∃ M, srs.length = M := ⟨_, rfl⟩
      unfold GivesAt at hcs
      rw [hM] at hcs
      have HCP := Lib.hid hcs
      have HSN := Lib.hid hsn
      have HLIM := Lib.hid hlim
      have HM := Lib.hid hM
      have HKL := Lib.hid hkl
      rw [hM] at s1
      have hld := load_seg_at s0 s1
      clear hM hA hcp hlim hlr hsn hkl hcs
      have e1 : (k : Int) < (L : Int) := by omega
      go_wp2_with (refine wpList_load_any (by rfl) 48 (.tmp 14) rfl b0 (o0 + k * 2) rfl _ hld ?_; simp only [Act.put])
      refine HCP.out.mono ?_
      rintro e w6 ⟨A3, c3, rfl, hr6, hb6⟩
      have hB5 : w.heap.size ≤ wr.heap.size := HB.out.size
      have O5 := Lib.hid HOW.out
      have B6 := Lib.hid (bel_step HB.out hb6)
      have HR6 := Lib.hid hr6
      have HB6 := Lib.hid hb6
      have HRW := Lib.hid (own_below O5.out.row hb6)
      rw [HKL.out] at HRW
      have hs6 := B6.out.size
      clear hb6 hr6 hld HCP HOW HB s0 s1
      go_wp2_with (at_builtin; refine wpList_append_own _ rfl _ _ 23 rfl w.heap.size 48 i0 (.agg #[.int .i64 0, .slice none 0 0]) 2 32 Try.underlying23 hi hz0 hz1 hz2 rfl (by decide) _ _ _ rfl (HRW.out.alloc _) ⟨w6.heap.size, 0, none⟩ 1 1 [.int .i64 sb, .slice A3 M c3] rfl rfl ?c1 ?c2 ?c3 ?c4 ?c5 ?_)
      case c1 => exact fun j u h => cells_new w6 _ [.int .i64 sb, .slice A3 M c3] j u h
      case c2 => exact fun u hu => by simp at hu; rcases hu with rfl | rfl <;> rfl
      case c3 => unfold maxLen; omega
      case c4 => first | omega | (simp; omega)
      case c5 => first | omega | (simp; omega)
      intro v' w7 hown' hgrow _
      have hB7 := Lib.hid (B6.out.trans (below_alloc_grown hs6 HRW.out hgrow))
      have hO7 : OwnS w7 w.heap.size v' (K.take (k + 1)) (xs ++ [⟨⟨sb, srs⟩, A3, c3⟩]) := by
        rw [HSN.out]
        refine OwnS.snoc O5.out hB5 HB6.out (by rw [HM.out]; exact HR6.out) HLIM.out hgrow ?_
        rw [HKL.out, HM.out]
        exact hown'
      have O7 := Lib.hid hO7
      clear hO7 hown' hgrow O5 B6 HR6 HB6 HRW
      go_wp2_with fail
      go_roundw
      case rel => exact ⟨k + 1, _, hlt, by go_num, O7.out, hB7.out⟩
      case measure => simp [RowKit.intOf]; omega
    · obtain rfl : k = L := by omega
      rw [List.take_of_length_le (by rw [HLL.out]; exact Nat.le_refl _)] at HOW
      obtain ⟨A', c', hv⟩ := row_slice HOW.out.row
      rw [HLL.out] at hv
      subst hv
      go_wp2_with fail
      go_ret
      exact ⟨A', c', xs, rfl, HOW.out, HB.out⟩
end Go.Proofs.Ytgadgmcabjnjjaa.Kpd
/- Records of the call's own written over. -/
namespace Go.Proofs.Ytgadgmcabjnjjaa
open Go.RowKit Go.Lib Rcd

theorem own_cells {w : World} {B e n g c : Nat} {xs : List Value} (h : w.ownsRow B e 6 (.slice (some ⟨g, 0, none⟩) n c) n xs) {j : Nat} (hj : j < n * 6) : ∃ v, w.cell? ⟨g, j, none⟩ = some v := by
  refine ⟨xs[j]'(by rw [h.1]; exact hj), ?_⟩
  rw [h.cellAt j hj]
  exact List.getElem?_eq_getElem _
theorem own_addr {w : World} {B e n c : Nat} {A : Option Addr} {xs : List Value} (h : w.ownsRow B e 6 (.slice A n c) n xs) (hn : 0 < n) : ∃ g, A = some ⟨g, 0, none⟩ ∧ B ≤ g := by
  rcases h.2 with ⟨_, h0⟩ | ⟨g, cap, cur, hv, hg, _⟩
  · omega
  · injection hv with h1
    exact ⟨g, h1, hg⟩
theorem own_put {w : World} {B e n g c : Nat} {xs : List Value} (h : w.ownsRow B e 6 (.slice (some ⟨g, 0, none⟩) n c) n xs) (j : Nat) (a : Value) :
    (∃ ys, (w.setCell ⟨g, j, none⟩ a).ownsRow B e 6 (.slice (some ⟨g, 0, none⟩) n c) n ys) ∧ Below B w (w.setCell ⟨g, j, none⟩ a) := by
  have hg : B ≤ g := by
    rcases h.2 with ⟨hv, _⟩ | ⟨g', cap, cur, hv, hg, _⟩
    · cases hv
    · injection hv with h1
      injection h1 with h1
      injection h1 with h1
      omega
  exact ⟨⟨_, (h.stored j a).1⟩, (Below.refl B w).setCell (p := ⟨g, j, none⟩) hg _⟩
theorem own_six {w : World} {B e n g c : Nat} {xs : List Value} (h : w.ownsRow B e 6 (.slice (some ⟨g, 0, none⟩) n c) n xs) (j0 j1 j2 j3 j4 j5 : Nat) (a0 a1 a2 a3 a4 a5 : Value) :
    (∃ ys, ((((((w.setCell ⟨g, j0, none⟩ a0).setCell ⟨g, j1, none⟩ a1).setCell ⟨g, j2, none⟩ a2).setCell ⟨g, j3, none⟩ a3).setCell ⟨g, j4, none⟩ a4).setCell ⟨g, j5, none⟩ a5).ownsRow B e 6 (.slice (some ⟨g, 0, none⟩) n c) n ys) ∧
    Below B w ((((((w.setCell ⟨g, j0, none⟩ a0).setCell ⟨g, j1, none⟩ a1).setCell ⟨g, j2, none⟩ a2).setCell ⟨g, j3, none⟩ a3).setCell ⟨g, j4, none⟩ a4).setCell ⟨g, j5, none⟩ a5) := by
  obtain ⟨⟨y0, k0⟩, b0⟩ := own_put h j0 a0
  obtain ⟨⟨y1, k1⟩, b1⟩ := own_put k0 j1 a1
  obtain ⟨⟨y2, k2⟩, b2⟩ := own_put k1 j2 a2
  obtain ⟨⟨y3, k3⟩, b3⟩ := own_put k2 j3 a3
  obtain ⟨⟨y4, k4⟩, b4⟩ := own_put k3 j4 a4
  obtain ⟨⟨y5, k5⟩, b5⟩ := own_put k4 j5 a5
  exact ⟨⟨y5, k5⟩, ((((b0.trans b1).trans b2).trans b3).trans b4).trans b5⟩

set_option maxRecDepth 100000 in
set_option maxHeartbeats 4000000 in
/-- fairwaylaw0.Recs. -/
theorem Spoil_is (B n c : Nat) (A : Option Addr) (xs : List Value) (w : World) (hB : B ≤ w.heap.size) (hn : n ≤ 1000000) (h : w.ownsRow B 51 6 (.slice A n c) n xs) :
    Calls Try.prog 35 #[.slice A n c] w fun e w' => (∃ v, e = .returned v) ∧ Below B w w' := by
  obtain ⟨i0, hi, hz0, hz1, hz2⟩ := info_parts info_more
  have H := Lib.hid h
  clear h
  go_enter Try.func35, Try.ntmps35
  go_wp2_with fail
  go_loopw [2] (fun i wr => ∃ (k : Nat) (ys : List Value), k ≤ n ∧ i = .int .i64 (k : Int) ∧ wr.ownsRow B 51 6 (.slice A n c) n ys ∧ Below B w wr) (fun i _ => n - (RowKit.intOf i).toNat)
  case atStart => exact ⟨0, xs, Nat.zero_le _, rfl, H.out, Below.refl _ _⟩
  case round =>
    obtain ⟨k, ys, hk, rfl, hown, hb⟩ := hrel
    have hBr : B ≤ wr.heap.size := Nat.le_trans hB hb.size
    by_cases hlt : k < n
    · obtain ⟨g, rfl, hg⟩ := own_addr hown (by omega)
      obtain ⟨v0, c0⟩ := own_cells hown (j := k * 6) (by omega)
      obtain ⟨v1, c1⟩ := own_cells hown (j := k * 6 + 1) (by omega)
      obtain ⟨v2, c2⟩ := own_cells hown (j := k * 6 + 2) (by omega)
      obtain ⟨v3, c3⟩ := own_cells hown (j := k * 6 + 3) (by omega)
      obtain ⟨v4, c4⟩ := own_cells hown (j := k * 6 + 4) (by omega)
      obtain ⟨v5, c5⟩ := own_cells hown (j := k * 6 + 5) (by omega)
      have f0 := hown.frozenAt (k * 6)
      have f1 := hown.frozenAt (k * 6 + 1)
      have f2 := hown.frozenAt (k * 6 + 2)
      have f3 := hown.frozenAt (k * 6 + 3)
      have f4 := hown.frozenAt (k * 6 + 4)
      have f5 := hown.frozenAt (k * 6 + 5)
      have H4 := Lib.hid (own_six hown (k * 6) (k * 6 + 1) (k * 6 + 2) (k * 6 + 3) (k * 6 + 4) (k * 6 + 5) (.int .i64 (-9)) (.int .i64 0) (.string ⟨#[]⟩) (.string ⟨#[]⟩) (.int .i64 0) (.bool false))
      have HB := Lib.hid hb
      have hkI : (k : Int) < (n : Int) := by omega
      clear hown hb H
      go_wp2_with fail
      go_roundw
      case rel =>
        obtain ⟨⟨zs, hz⟩, hbb⟩ := H4.out
        exact ⟨k + 1, zs, hlt, by go_num, hz, HB.out.trans hbb⟩
      case measure => simp [RowKit.intOf]; omega
    · obtain rfl : k = n := by omega
      have HO := Lib.hid hown
      have HB := Lib.hid hb
      clear hown hb H
      go_wp2_with (at_builtin; refine wpList_append_own _ rfl _ _ 46 rfl B 51 i0 (.agg zcells) 6 64 Try.underlying46 hi hz0 hz1 hz2 rfl (by decide) _ _ _ rfl (HO.out.alloc _) ⟨wr.heap.size, 0, none⟩ 1 1 [.int .i64 0, .int .i64 0, .string ⟨#[]⟩, .string ⟨#[]⟩, .int .i64 0, .bool false] rfl rfl ?c1 ?c2 ?c3 ?c4 ?c5 ?_)
      case c1 => exact fun jj uu h => cells_new wr _ [.int .i64 0, .int .i64 0, .string ⟨#[]⟩, .string ⟨#[]⟩, .int .i64 0, .bool false] jj uu h
      case c2 => exact one_cells zero
      case c3 => unfold maxLen; omega
      case c4 => first | omega | (simp; omega)
      case c5 => simp; omega
      intro v' w1 hown' hgrow _
      have hnx := HB.out.trans (below_alloc_grown hBr HO.out hgrow)
      have HN := Lib.hid hnx
      clear hown' hgrow hnx
      go_wp2_with fail
      exact bodyPost_end (v := .tuple #[]) (by simp [results, Try.results35]) rfl ⟨⟨_, rfl⟩, HN.out⟩

end Go.Proofs.Ytgadgmcabjnjjaa
/- Records of the call's own written over: nothing else is. -/
namespace Go.Proofs.Ytgadgmcabjnjjaa
open Go.RowKit Go.Lib Rcd

theorem grown_trans {w w1 w2 : World} {row : Option Nat} (h1 : w.grownBy w1 row) (h2 : w1.grownBy w2 row) : w.grownBy w2 row :=
  ⟨h2.os.trans h1.os, h2.tape.trans h1.tape, h2.output.trans h1.output, Nat.le_trans h1.size h2.size, fun k hk hne => (h2.block k (Nat.lt_of_lt_of_le hk h1.size) hne).trans (h1.block k hk hne)⟩
theorem grown_cell (W : World) (g j : Nat) (v : Value) : W.grownBy (W.setCell ⟨g, j, none⟩ v) (some g) :=
  ⟨rfl, rfl, rfl, by simp, fun k _ hne => Below.heap_setCell W ⟨g, j, none⟩ v k (fun e => hne (by rw [e]))⟩
theorem six_grown (w : World) (g j0 j1 j2 j3 j4 j5 : Nat) (a0 a1 a2 a3 a4 a5 : Value) : w.grownBy ((((((w.setCell ⟨g, j0, none⟩ a0).setCell ⟨g, j1, none⟩ a1).setCell ⟨g, j2, none⟩ a2).setCell ⟨g, j3, none⟩ a3).setCell ⟨g, j4, none⟩ a4).setCell ⟨g, j5, none⟩ a5) (some g) :=
  grown_trans (grown_trans (grown_trans (grown_trans (grown_trans (grown_cell w g j0 a0) (grown_cell _ g j1 a1)) (grown_cell _ g j2 a2)) (grown_cell _ g j3 a3)) (grown_cell _ g j4 a4)) (grown_cell _ g j5 a5)

set_option maxRecDepth 100000 in
set_option maxHeartbeats 4000000 in
/-- fairwaylaw0.Recs: nothing but the row is written. -/
theorem SpoilG_is (B n c : Nat) (A : Option Addr) (xs : List Value) (w : World) (hB : B ≤ w.heap.size) (hn : n ≤ 1000000) (h : w.ownsRow B 51 6 (.slice A n c) n xs) :
    Calls Try.prog 35 #[.slice A n c] w fun e w' => (∃ v, e = .returned v) ∧ w.grownBy w' (Value.slice A n c).ownBlock := by
  obtain ⟨i0, hi, hz0, hz1, hz2⟩ := info_parts info_more
  have H := Lib.hid h
  clear h
  go_enter Try.func35, Try.ntmps35
  go_wp2_with fail
  go_loopw [2] (fun i wr => ∃ (k : Nat) (ys : List Value), k ≤ n ∧ i = .int .i64 (k : Int) ∧ wr.ownsRow B 51 6 (.slice A n c) n ys ∧ w.grownBy wr (Value.slice A n c).ownBlock) (fun i _ => n - (RowKit.intOf i).toNat)
  case atStart => exact ⟨0, xs, Nat.zero_le _, rfl, H.out, World.grownBy.refl _ _⟩
  case round =>
    obtain ⟨k, ys, hk, rfl, hown, hb⟩ := hrel
    have hBr : B ≤ wr.heap.size := Nat.le_trans hB hb.size
    by_cases hlt : k < n
    · obtain ⟨g, rfl, hg⟩ := own_addr hown (by omega)
      obtain ⟨v0, c0⟩ := own_cells hown (j := k * 6) (by omega)
      obtain ⟨v1, c1⟩ := own_cells hown (j := k * 6 + 1) (by omega)
      obtain ⟨v2, c2⟩ := own_cells hown (j := k * 6 + 2) (by omega)
      obtain ⟨v3, c3⟩ := own_cells hown (j := k * 6 + 3) (by omega)
      obtain ⟨v4, c4⟩ := own_cells hown (j := k * 6 + 4) (by omega)
      obtain ⟨v5, c5⟩ := own_cells hown (j := k * 6 + 5) (by omega)
      have f0 := hown.frozenAt (k * 6)
      have f1 := hown.frozenAt (k * 6 + 1)
      have f2 := hown.frozenAt (k * 6 + 2)
      have f3 := hown.frozenAt (k * 6 + 3)
      have f4 := hown.frozenAt (k * 6 + 4)
      have f5 := hown.frozenAt (k * 6 + 5)
      have H4 := Lib.hid (own_six hown (k * 6) (k * 6 + 1) (k * 6 + 2) (k * 6 + 3) (k * 6 + 4) (k * 6 + 5) (.int .i64 (-9)) (.int .i64 0) (.string ⟨#[]⟩) (.string ⟨#[]⟩) (.int .i64 0) (.bool false))
      have HB := Lib.hid hb
      have hkI : (k : Int) < (n : Int) := by omega
      clear hown hb H
      go_wp2_with fail
      go_roundw
      case rel =>
        obtain ⟨⟨zs, hz⟩, _⟩ := H4.out
        exact ⟨k + 1, zs, hlt, by go_num, hz, grown_trans HB.out (six_grown wr g _ _ _ _ _ _ _ _ _ _ _ _)⟩
      case measure => simp [RowKit.intOf]; omega
    · obtain rfl : k = n := by omega
      have HO := Lib.hid hown
      have HB := Lib.hid hb
      clear hown hb H
      go_wp2_with (at_builtin; refine wpList_append_own _ rfl _ _ 46 rfl B 51 i0 (.agg zcells) 6 64 Try.underlying46 hi hz0 hz1 hz2 rfl (by decide) _ _ _ rfl (HO.out.alloc _) ⟨wr.heap.size, 0, none⟩ 1 1 [.int .i64 0, .int .i64 0, .string ⟨#[]⟩, .string ⟨#[]⟩, .int .i64 0, .bool false] rfl rfl ?c1 ?c2 ?c3 ?c4 ?c5 ?_)
      case c1 => exact fun jj uu h => cells_new wr _ [.int .i64 0, .int .i64 0, .string ⟨#[]⟩, .string ⟨#[]⟩, .int .i64 0, .bool false] jj uu h
      case c2 => exact one_cells zero
      case c3 => unfold maxLen; omega
      case c4 => first | omega | (simp; omega)
      case c5 => simp; omega
      intro v' w1 hown' hgrow _
      have hnx := grown_trans HB.out (grown_trans (World.grownBy_alloc wr _ _) hgrow)
      have HN := Lib.hid hnx
      clear hown' hgrow hnx
      go_wp2_with fail
      exact bodyPost_end (v := .tuple #[]) (by simp [results, Try.results35]) rfl ⟨⟨_, rfl⟩, HN.out⟩

end Go.Proofs.Ytgadgmcabjnjjaa
/- Segments of the call's own written over: nothing that was there before them is. -/
namespace Go.Proofs.Ytgadgmcabjnjjaa.Kpd
open Go.RowKit Go.Lib Rcd

/-- From the k-th on the segments stand as they did. -/
structure Rest (w : World) (B : Nat) (v : Value) (N : Nat) (xs : List Sx) (k : Nat) : Prop where
  row : ∃ ys, w.ownsRow B 48 2 v N ys ∧ ∀ j (hj : j < xs.length), k ≤ j → ys[j * 2 + 1]? = some xs[j].v
  own : ∀ j (hj : j < xs.length), k ≤ j → w.ownsRow B 51 6 xs[j].v xs[j].s.rs.length (flat xs[j].s.rs)
theorem rest_start {w : World} {B : Nat} {v : Value} {N : Nat} {l : List Sp} {xs : List Sx} (h : OwnS w B v l xs) (hN : l.length = N) : Rest w B v N xs 0 := by
  subst hN
  refine ⟨⟨_, h.row, fun j hj _ => ?_⟩, fun j hj _ => (h.own _ (List.getElem_mem hj)).1⟩
  rw [xflat_at xs j 1 hj (by omega)]
  rfl
theorem rest_next {w w1 : World} {B g c : Nat} {N k : Nat} {xs : List Sx} {a0 a1 : Value} (h : Rest w B (.slice (some ⟨g, 0, none⟩) N c) N xs k) (hk : k < xs.length) (hoff : ∀ i j (hi : i < xs.length) (hj : j < xs.length), i ≠ j → Apart xs[i] xs[j]) (hg : w.grownBy w1 xs[k].v.ownBlock) :
    Rest ((w1.setCell ⟨g, k * 2, none⟩ a0).setCell ⟨g, k * 2 + 1, none⟩ a1) B (.slice (some ⟨g, 0, none⟩) N c) N xs (k + 1) := by
  obtain ⟨⟨ys, hrow, hys⟩, hown⟩ := h
  have hne : 48 ≠ 51 := fun e => seg_not_rec e.symm
  have hrow1 := rows_apart hrow (hown k hk (Nat.le_refl _)) hne hg
  have hst1 := hrow1.stored (k * 2) a0
  have hst2 := hst1.1.stored (k * 2 + 1) a1
  refine ⟨⟨_, hst2.1, fun j hj hkj => ?_⟩, fun j hj hkj => ?_⟩
  · rw [List.getElem?_set_ne (by omega), List.getElem?_set_ne (by omega)]
    exact hys j hj (by omega)
  · have h1 := (hown j hj (by omega)).kept hg (by
      cases hb : xs[j].v.ownBlock with
      | none => exact .inl rfl
      | some q => exact .inr (fun e => hoff j k hj hk (by omega) q hb e.symm))
    have h2 := rows_apart h1 hrow1 seg_not_rec hst1.2
    exact rows_apart h2 hst1.1 seg_not_rec hst2.2

set_option maxRecDepth 100000 in
set_option maxHeartbeats 4000000 in
/-- fairwaylaw0.Segs. -/
theorem SpoilS_is (l : List Sp) (xs : List Sx) (B N c : Nat) (A : Option Addr) (w : World) (hB : B ≤ w.heap.size) (hN : l.length = N) (hm : N ≤ 1000000) (hs : ∀ s ∈ l, s.rs.length ≤ 1000000) (h : OwnS w B (.slice A N c) l xs) :
    Calls Try.prog 19 #[.slice A N c] w fun e w' => (∃ v, e = .returned v) ∧ Below B w w' := by
  have HR0 := Lib.hid (rest_start h hN)
  have HOF := Lib.hid h.off
  have HXL : Hid (xs.length = N) := h.len.trans hN
  have HSX : Hid (∀ j (hj : j < xs.length), xs[j].s.rs.length ≤ 1000000) := by
    show ∀ j _, _
    intro j hj
    refine hs _ ?_
    rw [← h.map]
    exact List.mem_map.2 ⟨xs[j], List.getElem_mem hj, rfl⟩
  clear h hN hs
  go_enter Try.func19, Try.ntmps19
  go_wp2_with fail
  go_loopw [2] (fun i wr => ∃ k : Nat, k ≤ N ∧ i = .int .i64 (k : Int) ∧ Rest wr B (.slice A N c) N xs k ∧ Below B w wr) (fun i _ => N - (RowKit.intOf i).toNat)
  case atStart => exact ⟨0, Nat.zero_le _, rfl, HR0.out, Below.refl _ _⟩
  case round =>
    obtain ⟨k, hk, rfl, hrest, hb⟩ := hrel
    have HR := Lib.hid hrest
    have HB := Lib.hid hb
    clear HR0
    by_cases hlt : k < N
    · have hkx : k < xs.length := by rw [HXL.out]; exact hlt
      have hBr : B ≤ wr.heap.size := Nat.le_trans hB hb.size
      obtain ⟨ys, hrow, hys⟩ := hrest.row
      have hgx : ∃ g, A = some ⟨g, 0, none⟩ ∧ B ≤ g := by
        rcases hrow.2 with ⟨_, h0⟩ | ⟨g, cap, cur, hv, hg, _⟩
        · omega
        · injection hv with h1
          exact ⟨g, h1, hg⟩
      obtain ⟨g, rfl, hgB⟩ := hgx
      have hy1 := hys k hkx (Nat.le_refl _)
      have hown := hrest.own k hkx (Nat.le_refl _)
      have HNX := Lib.hid (fun w1 a0 a1 (hg : wr.grownBy w1 xs[k].v.ownBlock) => rest_next (a0 := a0) (a1 := a1) HR.out hkx HOF.out hg)
      have hsx := HSX.out k hkx
      have d1 : wr.cell? ⟨g, k * 2 + 1, none⟩ = some xs[k].v := (hrow.cellAt (k * 2 + 1) (by omega)).trans hy1
      unfold Sx.v at d1 hown HNX
      obtain ⟨M, hM⟩ : ∃ M, xs[k].s.rs.length = M := ⟨_, rfl⟩
      rw [hM] at d1 hown HNX hsx
      generalize xs[k].A = A1 at d1 hown HNX
      generalize xs[k].c = c1 at d1 hown HNX
      have HSP := Lib.hid (SpoilG_is B M c1 A1 _ wr hBr hsx hown)
      have HRW := Lib.hid (fun w1 (hg : wr.grownBy w1 (Value.slice A1 M c1).ownBlock) => rows_apart hrow hown (fun e => seg_not_rec e.symm) hg)
      have HBG := Lib.hid (fun w1 (hg : wr.grownBy w1 (Value.slice A1 M c1).ownBlock) => HB.out.trans (below_grown hBr hown hg))
      have hkI : (k : Int) < (N : Int) := by omega
      clear hrow hys hy1 hown hsx hM HR HB hrest hb hkx
      go_wp2_with fail
      refine HSP.out.mono ?_
      rintro e w1 ⟨⟨v0, rfl⟩, hg⟩
      have hrw1 := HRW.out w1 hg
      have hcell : ∀ j, j < N * 2 → ∃ u, w1.cell? ⟨g, j, none⟩ = some u := fun j hj => by
        refine ⟨ys[j]'(by rw [hrw1.1]; exact hj), ?_⟩
        rw [hrw1.cellAt j hj]
        exact List.getElem?_eq_getElem _
      obtain ⟨u0, c0⟩ := hcell (k * 2) (by omega)
      obtain ⟨u1, c1'⟩ := hcell (k * 2 + 1) (by omega)
      have f0 := hrw1.frozenAt (k * 2)
      have f1 := hrw1.frozenAt (k * 2 + 1)
      have HN2 := Lib.hid (HNX.out w1 (.int .i64 (-9)) (.slice none 0 0) hg)
      have HB2 : Hid (Below B w ((w1.setCell ⟨g, k * 2, none⟩ (.int .i64 (-9))).setCell ⟨g, k * 2 + 1, none⟩ (.slice none 0 0))) := ((HBG.out w1 hg).setCell (p := ⟨g, k * 2, none⟩) hgB _).setCell (p := ⟨g, k * 2 + 1, none⟩) hgB _
      clear hcell hrw1 hg HNX HBG HRW HSP d1
      go_wp2_with fail
      go_roundw
      case rel => exact ⟨k + 1, hlt, by go_num, HN2.out, HB2.out⟩
      case measure => simp [RowKit.intOf]; omega
    · obtain rfl : k = N := by omega
      clear hrest hb
      go_wp2_with fail
      exact bodyPost_end (v := .tuple #[]) (by simp [results, Try.results19]) rfl ⟨⟨_, rfl⟩, HB.out⟩
end Go.Proofs.Ytgadgmcabjnjjaa.Kpd
/- Words for a round of the thirteenth layer's laws: an ask's box; what stands while the segments that are left stand too. -/
namespace Go.Proofs.Ytgadgmcabjnjjaa.Kpd
open Go.RowKit Go.Lib Rcd

theorem info_ask : (Try.prog.info? 27).map (·.size) = some 7 := by kernel_rfl
def azero : Array Value := #[.slice none 0 0, .int .i64 0, .int .i64 0, .int .i64 0, .bool false, .int .i64 0, .int .i64 0]
theorem load_ask {W : World} {g : Nat} {cs : Array Value} (h : Blk W g cs) (h9 : cs.size = 7) : (loadVar 27 ⟨g, 0, none⟩).run Try.prog W = .ok (.agg cs) W :=
  run_loadVar_mid W g 0 27 cs.toList _ (fun j v hv => by rw [Nat.zero_add, h.cell j]; rw [← hv]; simp) Try.underlying27 rfl (by rw [info_ask]; simp [h9])
theorem load_ask_at {W : World} {B b o : Nat} {l : List Sp} {r : Ru} {now : Int} {A : Option Addr} {c : Nat} (h : AskAt W B b o l r now A c) :
    (loadVar 27 ⟨b, o, none⟩).run Try.prog W = .ok (.agg (aarr A l.length c r now)) W :=
  run_loadVar_mid W b o 27 [.slice A l.length c, .int .i64 r.sb, .int .i64 r.by_, .int .i64 r.ag, .bool r.co, .int .i64 r.gr, .int .i64 now] _ (fun j v hv => by
    match j, hv with
    | 0, hv => rw [← hv]; exact h.c0
    | 1, hv => rw [← hv]; exact h.c1
    | 2, hv => rw [← hv]; exact h.c2
    | 3, hv => rw [← hv]; exact h.c3
    | 4, hv => rw [← hv]; exact h.c4
    | 5, hv => rw [← hv]; exact h.c5
    | 6, hv => rw [← hv]; exact h.c6) Try.underlying27 rfl info_ask
/-- What was there at w8 stands, and the segments that are left too. -/
@[irreducible] def St (w8 : World) (v : Value) (K : List Sp) (xs : List Sx) (W : World) : Prop := Below w8.heap.size w8 W ∧ OwnS W w8.heap.size v K xs
section
variable {w8 W W' : World} {v : Value} {K : List Sp} {xs : List Sx}
theorem St.mk (h : Below w8.heap.size w8 W ∧ OwnS W w8.heap.size v K xs) : St w8 v K xs W := by unfold St; exact h
theorem St.out (h : St w8 v K xs W) : Below w8.heap.size w8 W ∧ OwnS W w8.heap.size v K xs := by unfold St at h; exact h
theorem St.below (h : St w8 v K xs W) (hb : Below W.heap.size W W') : St w8 v K xs W' := .mk ⟨bel_step h.out.1 hb, h.out.2.below hb⟩
theorem St.drewN (h : St w8 v K xs W) (n : Nat) : St w8 v K xs (W.drewN n) := h.below (below_drewN (Below.refl _ _) n)
theorem St.bel (h : St w8 v K xs W) : Below w8.heap.size w8 W := h.out.1
end
end Go.Proofs.Ytgadgmcabjnjjaa.Kpd
