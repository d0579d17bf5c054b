/- Texts of the proof, part 10: KpCopy, KpKeep, KpRRules, KpMay, SgTextNext, SgRText, KpRSize, KpROld. -/
import Derived.Test.YtgadgmcabjnjjaaW09
/- Package keep: a segment that shares nothing with another. -/
namespace Go.Proofs.Ytgadgmcabjnjjaa.Kpd
open Go.RowKit Go.Lib Rcd

theorem Tro.put3 {w W : World} {p : Nat} {cs ds es : Array Value} (k : Tro w p cs ds es W) (i : Nat) (v : Value) : Tro w p cs ds (es.setIfInBounds i v) (W.setCell ⟨p + 1 + 1, i, none⟩ v) := by
  obtain ⟨h1, h2, h3, h4, h5⟩ := k.out
  exact .mk ⟨h1.far (p := ⟨p + 1 + 1, i, none⟩) (by show p ≠ p + 1 + 1; omega) v, h2.far (p := ⟨p + 1 + 1, i, none⟩) (by show p + 1 ≠ p + 1 + 1; omega) v, h3.put i v, h4.setCell (p := ⟨p + 1 + 1, i, none⟩) (by show _ ≤ p + 1 + 1; omega) v, h5⟩
theorem Tro.row2 {w W : World} {p : Nat} {cs ds es : Array Value} (k : Tro w p cs ds es W) (xs : Array Value) : Tro w p cs xs es (W.setRow (p + 1) xs) := by
  obtain ⟨h1, h2, h3, h4, h5⟩ := k.out
  exact .mk ⟨setRow_blk h1 (by omega) xs, h2.row xs, setRow_blk h3 (by omega) xs, below_row h4 (by omega) xs, h5⟩
theorem Tro.grown {w W W' : World} {p B e size n : Nat} {cs ds es : Array Value} {v : Value} {xs : List Value} {o : Obj} (k : Tro w p cs ds es W) (hown : W.ownsRow B e size v n xs) (hB : p + 1 + 1 < B) (hBW : B ≤ W.heap.size) (hgrow : (W.alloc o).grownBy W' v.ownBlock) : Tro w p cs ds es W' := by
  obtain ⟨h1, h2, h3, h4, h5⟩ := k.out
  exact .mk ⟨blk_grown h1 hown (by omega) hgrow, blk_grown h2 hown (by omega) hgrow, blk_grown h3 hown hB hgrow, h4.trans ((below_alloc_grown hBW hown hgrow).mono (by omega)), h5⟩
theorem kbox_put {w W : World} {g : Nat} {cs : Array Value} (k : RBox w g cs W) (hg : w.heap.size ≤ g) (i : Nat) (v : Value) : RBox w g (cs.setIfInBounds i v) (W.setCell ⟨g, i, none⟩ v) :=
  .mk (k.out.1.put i v) (k.out.2.setCell (p := ⟨g, i, none⟩) hg v)

set_option maxRecDepth 100000 in
set_option maxHeartbeats 8000000 in
/-- keep.copyOf. -/
theorem kCopy_is (b : Int) (rs : List Rc) (N : Nat) (A : Option Addr) (c B : Nat) (w : World) (hN : rs.length = N) (hm : N ≤ 1000000) (hs : ∀ r ∈ rs, Short r) (hB : B ≤ w.heap.size) (h : RecsAt w B A rs) :
    Calls Try.prog 28 #[.agg #[.int .i64 b, .slice A N c]] w fun e w' => ∃ A' c', e = .returned (.agg #[.int .i64 b, .slice A' N c']) ∧ w'.ownsRow w.heap.size 51 6 (.slice A' N c') N (flat rs) ∧ Below w.heap.size w w' := by
  obtain ⟨i0, hi, hz0, hz1, hz2⟩ := info_parts info_more
  have hT := Tro.new w 48 48 48 (sarr b A N c) szero szero
  have hD := Duo.new w 48 48 (sarr b A N c) szero
  have H := Lib.hid (h.mono hB)
  have HN := Lib.hid hN
  have HS := Lib.hid hs
  obtain ⟨p, hp⟩ : ∃ p, w.heap.size = p := ⟨_, rfl⟩
  have hsz : ((w.alloc (.cells (sarr b A N c) 48)).alloc (.cells szero 48)).heap.size = p + 1 + 1 := by rw [← hp]; simp
  obtain ⟨W1, hW⟩ : ∃ W1, (w.alloc (.cells (sarr b A N c) 48)).alloc (.cells szero 48) = W1 := ⟨_, rfl⟩
  rw [hW] at hT hD hsz
  obtain ⟨W4, hW4⟩ : ∃ W4, W1.alloc (.cells szero 48) = W4 := ⟨_, rfl⟩
  rw [hW4, hp] at hT
  rw [hp] at hD
  unfold sarr szero at hT hD hW
  unfold szero at hW4
  have D0 := Lib.hid hD
  have T0 := Lib.hid (hT.row3 #[.int .i64 b, .slice none 0 0])
  have HBN := Lib.hid hT.out.2.2.1
  have HW := Lib.hid hW
  have HW4 := Lib.hid hW4
  have HP := Lib.hid hp
  have HSZ := Lib.hid hsz
  have HPW : Hid (w.heap.size ≤ p + 1 + 1 + 1) := by show _ ≤ _; omega
  clear hT hD hW hW4 hp hsz h hN hB hs
  go_enter Try.func28, Try.ntmps28
  go_upto_region 1 with fail
  rw [HW.out, HP.out]
  clear HW
  have d0 : W1.cell? ⟨p, 0, none⟩ = some (.int .i64 b) := D0.out.cell1 0
  go_upto_region 2 with (rw [HW4.out, HSZ.out]; refine wpList_store_whole rfl 48 (.tmp 3) (.tmp 8) rfl (p + 1 + 1) _ rfl rfl _ HBN.out info_seg rfl (by simp [Value.oneCell']) ?_; simp only [Act.put])
  clear HW4 HBN HSZ d0 D0
  generalize World.setRow _ _ _ = w5 at T0 ⊢
  have d1 : w5.cell? ⟨p, 1, none⟩ = some (.slice A N c) := T0.out.cell1 1
  go_wp2_with fail
  clear d1
  go_loopw [12] (fun i wr => ∃ (k : Nat) (v : Value), k ≤ N ∧ i = .int .i64 (k : Int) ∧ Tro w p #[.int .i64 b, .slice A N c] #[.int .i64 0, .slice none 0 0] #[.int .i64 b, v] wr ∧ wr.ownsRow (p + 1 + 1 + 1) 51 6 v k (flat (rs.take k))) (fun i _ => N - (RowKit.intOf i).toNat)
  case atStart => exact ⟨0, _, Nat.zero_le _, rfl, T0.out, World.ownsRow_nil _ _ _ _⟩
  case round =>
    obtain ⟨k, v, hk, rfl, htr, hown⟩ := hrel
    have T := Lib.hid htr
    have HO := Lib.hid hown
    have HLT : Hid (p + 1 + 1 + 1 ≤ wr.heap.size) := htr.out.2.2.1.lt
    clear htr hown T0
    by_cases hlt : k < N
    · have hlr : k < rs.length := by rw [HN.out]; exact hlt
      obtain ⟨b0, o0, rfl, hb0, hc⟩ := (H.out.below T.out.bel).some_ (by omega)
      obtain ⟨c0, c1, c2, c3, c4, c5⟩ := hc k hlr
      have hsn := takeR_snoc hlr
      have hsh := HS.out _ (List.getElem_mem hlr)
      clear hc
      generalize rs[k] = s at c0 c1 c2 c3 c4 c5 hsn hsh
      obtain ⟨o, t, key, bod, q, g⟩ := s
      dsimp only at c0 c1 c2 c3 c4 c5
      have hfc : rcells ⟨o, t, key, bod, q, g⟩ = [.int .i64 o, .int .i64 t, .string (str key), .string (str bod), .int .i64 q, .bool g] := rfl
      have hon : ∀ u ∈ rcells ⟨o, t, key, bod, q, g⟩, u.oneCell' = true := one_cells _
      rw [hfc] at hsn hon
      have HC := Lib.hid (fun W => CloneS_is (str key) W (by rw [str_size]; exact Nat.le_trans hsh.1 (by omega)))
      have HE := Lib.hid (fun W => CloneS_is (str bod) W (by rw [str_size]; exact Nat.le_trans hsh.2 (by omega)))
      generalize str key = ks at c2 hsn hon HC
      generalize str bod = bs at c3 hsn hon HE
      have HSN := Lib.hid hsn
      have HON := Lib.hid hon
      have hkI : (k : Int) < (N : Int) := by omega
      clear hsn hon hfc hsh hlr
      obtain ⟨g9, W4, hg9, hW4, hbn, hbx, hbw⟩ := box_new (Below.refl wr.heap.size wr) (rarr o t ks bs q g)
      have HBN := Lib.hid hbn
      have HX := Lib.hid hbx
      have HG : Hid (wr.heap.size ≤ g9) := Nat.le_of_eq hg9
      unfold zcells at hW4
      unfold rarr at HX
      have HW4 := Lib.hid hW4
      clear hbn hbx hbw hW4
      go_upto_region 5 with (rw [HW4.out]; refine wpList_store_whole rfl 51 (.tmp 5) (.tmp 15) rfl g9 _ rfl rfl zcells HBN.out info_rec rfl (by simp [Value.oneCell']) ?_; simp only [Act.put])
      clear HW4 HBN c0 c1 c2 c3 c4 c5 hg9
      generalize World.setRow _ _ _ = w6 at HX ⊢
      have hX := HX.out.drewN 1
      change RBox wr g9 #[.int .i64 o, .int .i64 t, .string ks, .string bs, .int .i64 q, .bool g] w6.drew at hX
      have e2 : w6.drew.cell? ⟨g9, 2, none⟩ = some (.string ks) := hX.cell 2
      have e3 : w6.drew.cell? ⟨g9, 3, none⟩ = some (.string bs) := hX.cell 3
      refine wp_region_held_drew (S := fun W => W.cell? ⟨g9, 2, none⟩ = some (.string ks) ∧ W.cell? ⟨g9, 3, none⟩ = some (.string bs)) (by kernel_rfl) ⟨e2, e3⟩ (fun hS => ?_)
      clear HX e2 e3
      generalize w6.drew = w7 at hX hS ⊢
      refine take_op 0 16 (.pointer (some ⟨g9, 2, none⟩)) rfl rfl (by kernel_rfl) (fun _ _ _ h => h) (by rfl) hS (fun w' hS' => ?hv1) ?hh1
      case hv1 => (obtain ⟨s1, s2⟩ := hS'; go_simp; (try with_reducible rfl); (try omega))
      simp only [Act.put, List.setIfInBounds_toArray, List.set_cons_zero, List.set_cons_succ]
      refine take_op 1 17 (.string ks) rfl rfl (by kernel_rfl) (fun _ _ _ h => h) (by rfl) hS (fun w' hS' => ?hv2) ?hh2
      case hv2 => (obtain ⟨s1, s2⟩ := hS'; go_simp; (try with_reducible rfl); (try omega))
      simp only [Act.put, List.setIfInBounds_toArray, List.set_cons_zero, List.set_cons_succ]
      refine take_op 3 19 (.pointer (some ⟨g9, 3, none⟩)) rfl rfl (by kernel_rfl) (fun _ _ _ h => h) (by rfl) hS (fun w' hS' => ?hv3) ?hh3
      case hv3 => (obtain ⟨s1, s2⟩ := hS'; go_simp; (try with_reducible rfl); (try omega))
      simp only [Act.put, List.setIfInBounds_toArray, List.set_cons_zero, List.set_cons_succ]
      refine take_op 4 20 (.string bs) rfl rfl (by kernel_rfl) (fun _ _ _ h => h) (by rfl) hS (fun w' hS' => ?hv4) ?hh4
      case hv4 => (obtain ⟨s1, s2⟩ := hS'; go_simp; (try with_reducible rfl); (try omega))
      simp only [Act.put, List.setIfInBounds_toArray, List.set_cons_zero, List.set_cons_succ]
      refine only_op 2 rfl (by kernel_rfl) (by rfl) (wp_call 18 44 #[.string ks] (.string ks) (fun W => Below w7.heap.size w7 W) rfl (by go_simp) (HC.out w7) (fun Wa hb => ?_))
      have hX2 := hX.below hb
      have hS2 : (fun W => W.cell? ⟨g9, 2, none⟩ = some (.string ks) ∧ W.cell? ⟨g9, 3, none⟩ = some (.string bs)) Wa := ⟨hX2.cell 2, hX2.cell 3⟩
      refine ⟨hS2, ?_⟩
      simp only [Act.put, List.setIfInBounds_toArray, List.set_cons_zero, List.set_cons_succ]
      clear hX hS hb
      refine take_op 6 22 (.pointer (some ⟨g9, 2, none⟩)) rfl rfl (by kernel_rfl) (fun _ _ _ h => h) (by rfl) hS2 (fun w' hS' => ?hv5) ?hh5
      case hv5 => (obtain ⟨s1, s2⟩ := hS'; go_simp; (try with_reducible rfl); (try omega))
      simp only [Act.put, List.setIfInBounds_toArray, List.set_cons_zero, List.set_cons_succ]
      refine only_op 5 rfl (by kernel_rfl) (by rfl) (wp_call 21 44 #[.string bs] (.string bs) (fun W => Below Wa.heap.size Wa W) rfl (by go_simp) (HE.out Wa) (fun Wb hb => ?_))
      have hX3 := hX2.below hb
      have hS3 : (fun W => W.cell? ⟨g9, 2, none⟩ = some (.string ks) ∧ W.cell? ⟨g9, 3, none⟩ = some (.string bs)) Wb := ⟨hX3.cell 2, hX3.cell 3⟩
      refine ⟨hS3, ?_⟩
      simp only [Act.put, List.setIfInBounds_toArray, List.set_cons_zero, List.set_cons_succ]
      have f2 := hX3.out.1.frozen 2
      have s2 := hS3.1
      have hX4 : RBox wr g9 #[.int .i64 o, .int .i64 t, .string ks, .string bs, .int .i64 q, .bool g] (Wb.setCell ⟨g9, 2, none⟩ (.string ks)) := kbox_put hX3 HG.out 2 (.string ks)
      have hS4 : (fun W => W.cell? ⟨g9, 2, none⟩ = some (.string ks) ∧ W.cell? ⟨g9, 3, none⟩ = some (.string bs)) (Wb.setCell ⟨g9, 2, none⟩ (.string ks)) := ⟨hX4.cell 2, hX4.cell 3⟩
      refine only_op 7 rfl (by kernel_rfl) (by rfl) (wp_store_none 9 (.tmp 22) (.tmp 18) rfl rfl _ _ rfl rfl (w' := Wb.setCell ⟨g9, 2, none⟩ (.string ks)) (by go_simp) ⟨hS4, ?_⟩)
      clear hX2 hS2 hb hX3 hS3 f2 s2
      generalize Wb.setCell _ _ = Wc at hX4 hS4 ⊢
      refine take_op 8 23 (.pointer (some ⟨g9, 3, none⟩)) rfl rfl (by kernel_rfl) (fun _ _ _ h => h) (by rfl) hS4 (fun w' hS' => ?hv6) ?hh6
      case hv6 => (obtain ⟨s1, s2⟩ := hS'; go_simp; (try with_reducible rfl); (try omega))
      simp only [Act.put, List.setIfInBounds_toArray, List.set_cons_zero, List.set_cons_succ]
      have f3 := hX4.out.1.frozen 3
      have s3 := hS4.2
      have hX5 : RBox wr g9 #[.int .i64 o, .int .i64 t, .string ks, .string bs, .int .i64 q, .bool g] (Wc.setCell ⟨g9, 3, none⟩ (.string bs)) := kbox_put hX4 HG.out 3 (.string bs)
      have hS5 : (fun W => W.cell? ⟨g9, 2, none⟩ = some (.string ks) ∧ W.cell? ⟨g9, 3, none⟩ = some (.string bs)) (Wc.setCell ⟨g9, 3, none⟩ (.string bs)) := ⟨hX5.cell 2, hX5.cell 3⟩
      refine only_op 9 rfl (by kernel_rfl) (by rfl) (wp_store_none 9 (.tmp 23) (.tmp 21) rfl rfl _ _ rfl rfl (w' := Wc.setCell ⟨g9, 3, none⟩ (.string bs)) (by go_simp) ⟨hS5, ?_⟩)
      clear hX4 hS4 f3 s3
      refine wpAnyH_done (by kernel_rfl) ?_ _
      clear hS5
      generalize Wc.setCell _ _ = Wd at hX5 ⊢
      have T6 := Lib.hid (T.out.below hX5.out.2)
      have O6 := Lib.hid (own_below HO.out hX5.out.2)
      have X6 := Lib.hid hX5
      have hl6 : p + 1 + 1 + 1 ≤ Wd.heap.size := Nat.le_trans HLT.out hX5.out.2.size
      clear hX5 T HO HC HE
      have hld := X6.out.load rfl
      have d1 : Wd.cell? ⟨p + 1 + 1, 1, none⟩ = some v := T6.out.out.2.2.1.cell 1
      have hv1 := own_one O6.out
      go_wp2_with (first | (refine wpList_load_any (by rfl) 51 (.tmp 5) rfl g9 0 rfl _ hld ?_; simp only [Act.put]) | (at_builtin; refine wpList_append_own _ rfl _ _ 46 rfl (p + 1 + 1 + 1) 51 i0 (.agg zcells) 6 64 Try.underlying46 hi hz0 hz1 hz2 rfl (by decide) _ _ _ rfl (O6.out.alloc _) ⟨Wd.heap.size, 0, none⟩ 1 1 [.int .i64 o, .int .i64 t, .string ks, .string bs, .int .i64 q, .bool g] rfl rfl ?c1 ?c2 ?c3 ?c4 ?c5 ?_))
      case c1 => exact fun j u h => cells_new Wd _ [.int .i64 o, .int .i64 t, .string ks, .string bs, .int .i64 q, .bool g] j u h
      case c2 => exact HON.out
      case c3 => unfold maxLen; omega
      case c4 => first | omega | (simp; omega)
      case c5 => first | omega | (simp; omega)
      intro v' w8 hown' hgrow _
      have T8 := Lib.hid (T6.out.grown O6.out (Nat.lt_succ_self _) hl6 hgrow)
      have O8 : Hid (w8.ownsRow (p + 1 + 1 + 1) 51 6 v' (k + 1) (flat (rs.take (k + 1)))) := by show World.ownsRow _ _ _ _ _ _ _; rw [HSN.out]; exact hown'
      clear hown' hgrow T6 O6 X6 hld d1 hv1 HSN HON
      have d1 : w8.cell? ⟨p + 1 + 1, 1, none⟩ = some v := T8.out.out.2.2.1.cell 1
      have f1 := T8.out.out.2.2.1.frozen 1
      have hv2 := own_one O8.out
      have T9 : Hid (Tro w p #[.int .i64 b, .slice (some ⟨b0, o0, none⟩) N c] #[.int .i64 0, .slice none 0 0] #[.int .i64 b, v'] (w8.setCell ⟨p + 1 + 1, 1, none⟩ v')) := T8.out.put3 1 v'
      have O9 := Lib.hid (own_far O8.out ⟨p + 1 + 1, 1, none⟩ (Nat.lt_succ_self _) v')
      obtain ⟨A9, cc9, hv9⟩ := row_slice O8.out
      subst hv9
      clear T8 O8 hv2
      go_wp2_with fail
      clear d1 f1
      go_roundw
      case rel => exact ⟨k + 1, _, hlt, by go_num, T9.out, O9.out⟩
      case measure => simp [RowKit.intOf]; omega
    · obtain rfl : k = N := by omega
      rw [List.take_of_length_le (by rw [HN.out]; exact Nat.le_refl _)] at HO
      obtain ⟨A', c', rfl⟩ := row_slice HO.out
      have hld := load_seg T.out.out.2.2.1 rfl
      have HB := Lib.hid T.out.out.2.1
      have T8 := Lib.hid (T.out.row2 #[.int .i64 b, .slice A' k c'])
      have O8 := Lib.hid (own_mono (own_row HO.out (p + 1) (by omega) #[.int .i64 b, .slice A' k c']) HPW.out)
      clear T HO
      go_wp2_with (first | (refine wpList_load_any (by rfl) 48 (.tmp 3) rfl (p + 1 + 1) 0 rfl _ hld ?_; simp only [Act.put]) | (refine wpList_store_whole rfl 48 (.tmp 2) (.tmp 31) rfl (p + 1) _ rfl rfl _ HB.out info_seg rfl (by simp [Value.oneCell']) ?_; simp only [Act.put]))
      refine bodyPost_ret (results_cell Try.results28 rfl (load_seg T8.out.out.2.1 rfl)) rfl ⟨A', c', rfl, O8.out, T8.out.bel⟩
end Go.Proofs.Ytgadgmcabjnjjaa.Kpd
/- Package keep: the segments that are left. -/
namespace Go.Proofs.Ytgadgmcabjnjjaa.Kpd
open Go.RowKit Go.Lib Rcd

theorem row_short {l : List Sp} (h : rowB l = true) : ∀ s ∈ l, s.rs.length ≤ 200 ∧ ∀ r ∈ s.rs, Short r := by
  intro s hs
  have h1 := row_segs h s hs
  exact ⟨seg_len h1, fun r hr => short_of (seg_may h1 r hr)⟩
/-- What is left, and the error. -/
def LeftIs (l : List Sp) (r : Ru) (now : Int) (K : List Sp) (E : Int) : Prop := (E = 1 ∧ K = [] ∧ askB l r now = false) ∨ (E = 0 ∧ askB l r now = true ∧ ∃ m, OldIs r now l m ∧ K = l.drop m)
theorem left_ex (l : List Sp) (r : Ru) (now : Int) : ∃ K E, LeftIs l r now K E := by
  cases h : askB l r now with
  | false => exact ⟨_, _, .inl ⟨rfl, rfl, h⟩⟩
  | true =>
    obtain ⟨m, hm⟩ := old_ex r now l
    exact ⟨_, _, .inr ⟨rfl, h, m, hm, rfl⟩⟩

set_option maxRecDepth 100000 in
set_option maxHeartbeats 8000000 in
/-- keep.Keep. -/
theorem Keep_is (l K : List Sp) (r : Ru) (now : Int) (N L : Nat) (A : Option Addr) (c B : Nat) (E : Int) (w : World) (hN : l.length = N) (hm : N ≤ 9223372036854775807) (hcap : N ≤ c) (hB : B ≤ w.heap.size) (h : SegsAt w B A l) (hL : K.length = L) (hK : LeftIs l r now K E) :
    Calls Try.prog 10 #[.slice A N c, ruagg r, .int .i64 now] w fun e w' => ∃ A' c' xs, e = .returned (.tuple #[.slice A' L c', .int .i64 E]) ∧ OwnS w' w.heap.size (.slice A' L c') K xs ∧ Below w.heap.size w w' := by
  have R0 := Lib.hid (RBox.new w 25 (ruarr r.sb r.by_ r.ag r.co r.gr))
  have HO := Lib.hid (fun m E W (hb : Below w.heap.size w W) (hT : OldT l r now m E) => Old_is l r now N A c B m E W hN hm hcap (Nat.le_trans hB hb.size) (h.below (hb.mono hB)) hT)
  unfold ruagg at HO ⊢
  obtain ⟨p, hp⟩ : ∃ p, w.heap.size = p := ⟨_, rfl⟩
  obtain ⟨W0, hW⟩ : ∃ W0, w.alloc (.cells (ruarr r.sb r.by_ r.ag r.co r.gr) 25) = W0 := ⟨_, rfl⟩
  rw [hW, hp] at R0
  have H := Lib.hid (h.mono hB)
  have HW := Lib.hid hW
  have HP := Lib.hid hp
  have HLL := Lib.hid hL
  clear hW hp h hB
  rcases hK with ⟨rfl, rfl, h1⟩ | ⟨rfl, h1, m, h4, hKm⟩
  · obtain rfl : L = 0 := hL.symm
    have HC := Lib.hid (fun W hb => HO.out 0 1 W hb (.no h1))
    clear HO h1 H hm hcap
    rw [show ((0 : Nat) : Int) = 0 from rfl] at HC
    unfold ruarr at R0 HW HC ⊢
    go_enter Try.func10, Try.ntmps10
    go_upto_region 1 with fail
    rw [HW.out, HP.out]
    clear HW
    have hld := load_ru R0.out.out.1 rfl
    go_wp2_with (refine wpList_load_any (by rfl) 25 (.tmp 4) rfl p 0 rfl _ hld ?_; simp only [Act.put])
    refine (HC.out _ R0.out.out.2).mono ?_
    rintro e w1 ⟨rfl, hb1⟩
    have R1 := Lib.hid (R0.out.below hb1)
    clear R0 hb1 HC hld
    go_wp2_with fail
    go_ret2
    exact ⟨none, 0, [], rfl, .nil _ _, R1.out.out.2⟩
  · obtain ⟨i0, hi, hz0, hz1, hz2⟩ := info_parts info_smore
    have HC := Lib.hid (fun W hb => HO.out m 0 W hb (.yes m h1 h4))
    have hrow := (ask_parts h1).1
    have hlen := (row_iff.1 hrow).1
    rw [hN] at hlen
    have hml := h4.le
    rw [hN] at hml
    have HSH := Lib.hid (row_short hrow)
    obtain ⟨b1, o1, rfl, _, _⟩ := H.out.some_ (by omega)
    obtain ⟨A2, hrest, hdrop⟩ := segs_rest (some ⟨b1, o1, none⟩) N c m (.inr ⟨_, _, rfl⟩) (by omega) hcap
    have HKAT := Lib.hid (fun W (hb : Below w.heap.size w W) => (show SegsAt W w.heap.size A2 K by rw [hKm]; exact hdrop W _ l hN (H.out.below hb)))
    have HSK : Hid (∀ s ∈ K, s.rs.length ≤ 200 ∧ ∀ r ∈ s.rs, Short r) := by
      show ∀ s ∈ K, _
      intro s hs
      rw [hKm] at hs
      exact HSH.out s (List.drop_subset _ _ hs)
    have hLm : N - m = L := by rw [← hL, hKm, List.length_drop, hN]
    rw [hLm] at hrest
    have hLb : L ≤ 201 := by omega
    have hmN : (m : Int) ≤ (N : Int) := by omega
    have hrest2 := hrest
    clear hrest hdrop HO h1 hrow h4 hKm H HSH hL hlen hml hN hm hLm
    unfold ruarr at R0 HW HC ⊢
    go_enter Try.func10, Try.ntmps10
    go_upto_region 1 with fail
    rw [HW.out, HP.out]
    clear HW
    have hld := load_ru R0.out.out.1 rfl
    go_wp2_with (refine wpList_load_any (by rfl) 25 (.tmp 4) rfl p 0 rfl _ hld ?_; simp only [Act.put])
    refine (HC.out _ R0.out.out.2).mono ?_
    rintro e w1 ⟨rfl, hb1⟩
    have R1 := Lib.hid (R0.out.below hb1)
    clear R0 hb1 HC hld
    go_wp2_with fail
    go_loopw [10, 27] (fun v i wr => ∃ (k : Nat) (xs : List Sx), k ≤ L ∧ i = .int .i64 (k : Int) ∧ OwnS wr w.heap.size v (K.take k) xs ∧ Below w.heap.size w wr) (fun _ i _ => L - (RowKit.intOf i).toNat)
    case atStart => exact ⟨0, [], Nat.zero_le _, rfl, .nil _ _, R1.out.out.2⟩
    case round =>
      obtain ⟨k, xs, hk, rfl, hown, hbl⟩ := hrel
      have HOW := Lib.hid hown
      have HB := Lib.hid hbl
      clear hown hbl R1 hrest2 hmN
      by_cases hlt : k < L
      · have hlr : k < K.length := by rw [HLL.out]; exact hlt
        obtain ⟨b0, o0, rfl, hb0, hc⟩ := (HKAT.out _ HB.out).some_ (by omega)
        obtain ⟨A1, c1, hsg⟩ := hc k hlr
        have hsh := HSK.out _ (List.getElem_mem hlr)
        have hsn := takeS_snoc hlr
        have hkl : (K.take k).length = k := by rw [List.length_take]; omega
        clear hc
        generalize K[k] = s at hsg hsh hsn
        obtain ⟨sb, srs⟩ := s
        obtain ⟨s0, s1, hA, hcp, hlim⟩ := hsg
        dsimp only at s0 s1 hA hcp hlim hsh hsn
        obtain ⟨M, hM⟩ : ∃ M, srs.length = M := ⟨_, rfl⟩
        have hM200 : M ≤ 200 := by rw [← hM]; exact hsh.1
        have HCP := Lib.hid (fun W (hb : Below wr.heap.size wr W) => kCopy_is sb srs M A1 c1 w.heap.size W hM (by omega) hsh.2 (Nat.le_trans HB.out.size hb.size) (hA.below (hb.mono HB.out.size)))
        have HSN := Lib.hid hsn
        have HLIM := Lib.hid hlim
        have HM := Lib.hid hM
        have HKL := Lib.hid hkl
        rw [hM] at s1
        have hld := load_seg_at s0 s1
        obtain ⟨g9, W4, hg9, hW4, hbn, hbx, hbw⟩ := any_box HB.out 48 szero (sarr sb A1 M c1)
        have HBN := Lib.hid hbn
        have HBX := Lib.hid hbx
        have HBW := Lib.hid hbw
        unfold szero at hW4
        unfold sarr at HBX HBW
        have HW4 := Lib.hid hW4
        clear hbn hbx hbw hW4 hM hA hcp hlim hlr hsh hsn hkl hM200
        have e1 : (k : Int) < (L : Int) := by omega
        go_upto_region 8 with (first | (refine wpList_load_any (by rfl) 48 (.tmp 29) rfl b0 (o0 + k * 2) rfl _ hld ?_; simp only [Act.put]) | (rw [HW4.out]; refine wpList_store_whole rfl 48 (.tmp 12) (.tmp 30) rfl g9 _ rfl rfl szero HBN.out info_seg rfl (by simp [Value.oneCell']) ?_; simp only [Act.put]))
        clear HW4 HBN s0 s1 hg9 hld
        generalize World.setRow _ _ _ = w5 at HBX HBW ⊢
        have hld := HBX.out.loadS rfl
        go_wp2_with (refine wpList_load_any (by rfl) 48 (.tmp 12) rfl g9 0 rfl _ hld ?_; simp only [Act.put])
        refine (HCP.out _ HBW.out).mono ?_
        rintro e w6 ⟨A3, c3, rfl, hr6, hb6⟩
        have O5 := Lib.hid (HOW.out.below HBW.out)
        have hB5 : w.heap.size ≤ w5.heap.size := HBX.out.out.2.size
        have B6 := Lib.hid (bel_step HBX.out.out.2 hb6)
        have HR6 := Lib.hid hr6
        have HB6 := Lib.hid hb6
        have HRW := Lib.hid (own_below O5.out.row hb6)
        rw [HKL.out] at HRW
        have hs6 := B6.out.size
        clear HBX HBW hb6 hr6 hld HCP HOW HB
        go_wp2_with (at_builtin; refine wpList_append_own _ rfl _ _ 23 rfl w.heap.size 48 i0 (.agg #[.int .i64 0, .slice none 0 0]) 2 32 Try.underlying23 hi hz0 hz1 hz2 rfl (by decide) _ _ _ rfl (HRW.out.alloc _) ⟨w6.heap.size, 0, none⟩ 1 1 [.int .i64 sb, .slice A3 M c3] rfl rfl ?c1 ?c2 ?c3 ?c4 ?c5 ?_)
        case c1 => exact fun j u h => cells_new w6 _ [.int .i64 sb, .slice A3 M c3] j u h
        case c2 => exact fun u hu => by simp at hu; rcases hu with rfl | rfl <;> rfl
        case c3 => unfold maxLen; omega
        case c4 => first | omega | (simp; omega)
        case c5 => first | omega | (simp; omega)
        intro v' w7 hown' hgrow _
        have hB7 := Lib.hid (B6.out.trans (below_alloc_grown hs6 HRW.out hgrow))
        have hO7 : OwnS w7 w.heap.size v' (K.take (k + 1)) (xs ++ [⟨⟨sb, srs⟩, A3, c3⟩]) := by
          rw [HSN.out]
          refine OwnS.snoc O5.out hB5 HB6.out (by rw [HM.out]; exact HR6.out) HLIM.out hgrow ?_
          rw [HKL.out, HM.out]
          exact hown'
        have O7 := Lib.hid hO7
        clear hO7 hown' hgrow O5 B6 HR6 HB6 HRW
        go_wp2_with fail
        go_roundw
        case rel => exact ⟨k + 1, _, hlt, by go_num, O7.out, hB7.out⟩
        case measure => simp [RowKit.intOf]; omega
      · obtain rfl : k = L := by omega
        rw [List.take_of_length_le (by rw [HLL.out]; exact Nat.le_refl _)] at HOW
        obtain ⟨A', c', hv⟩ := row_slice HOW.out.row
        rw [HLL.out] at hv
        subst hv
        go_wp2_with fail
        go_ret2
        exact ⟨A', c', xs, rfl, HOW.out, HB.out⟩
end Go.Proofs.Ytgadgmcabjnjjaa.Kpd
/- The document's own answer: whether rules may be. -/
namespace Go.Proofs.Ytgadgmcabjnjjaa.Kpd
open Go.RowKit Go.Lib Rcd

set_option maxRecDepth 100000 in
set_option maxHeartbeats 8000000 in
/-- fairwayref13.Rules. -/
theorem RRules_is (r : Ru) (X : Bool) (w : World) (hX : ruB r = X) :
    Calls Try.prog 17 #[ruagg r] w fun e w' => e = .returned (.bool X) ∧ Below w.heap.size w w' := by
  unfold ruagg
  obtain ⟨sb, by_, ag, co, gr⟩ := r
  unfold ruB at hX
  dsimp only at hX ⊢
  have R0 := Lib.hid (RBox.new w 25 (ruarr sb by_ ag co gr))
  obtain ⟨p, hp⟩ : ∃ p, w.heap.size = p := ⟨_, rfl⟩
  obtain ⟨W0, hW⟩ : ∃ W0, w.alloc (.cells (ruarr sb by_ ag co gr) 25) = W0 := ⟨_, rfl⟩
  rw [hW, hp] at R0
  unfold ruarr at R0 hW ⊢
  have HW := Lib.hid hW
  have HP := Lib.hid hp
  have HX := Lib.hid hX
  obtain ⟨G, hG⟩ : ∃ G, decide (0 ≤ gr ∧ gr ≤ 1073741824) = G := ⟨_, rfl⟩
  have HG := Lib.hid hG
  clear hW hp hX hG
  have d0 : W0.cell? ⟨p, 0, none⟩ = some (.int .i64 sb) := R0.out.cell 0
  have d1 : W0.cell? ⟨p, 1, none⟩ = some (.int .i64 by_) := R0.out.cell 1
  have d2 : W0.cell? ⟨p, 2, none⟩ = some (.int .i64 ag) := R0.out.cell 2
  have d4 : W0.cell? ⟨p, 4, none⟩ = some (.int .i64 gr) := R0.out.cell 4
  have HF : Hid (¬ ((1 ≤ sb ∧ sb ≤ 32768) ∧ (-1 ≤ by_ ∧ by_ ≤ 1073741824) ∧ (-1 ≤ ag ∧ ag ≤ 1073741824)) → X = false) := by
    show _ → _
    intro h
    rw [← HX.out]
    exact decide_eq_false fun h2 => h ⟨h2.1, h2.2.1, h2.2.2.1⟩
  have HT : Hid (((1 ≤ sb ∧ sb ≤ 32768) ∧ (-1 ≤ by_ ∧ by_ ≤ 1073741824) ∧ (-1 ≤ ag ∧ ag ≤ 1073741824)) → X = G) := by
    show _ → _
    intro h
    rw [← HX.out, ← HG.out]
    by_cases c4 : 0 ≤ gr ∧ gr ≤ 1073741824
    · rw [decide_eq_true c4, decide_eq_true ⟨h.1, h.2.1, h.2.2, c4⟩]
    · rw [decide_eq_false c4, decide_eq_false (fun h => c4 h.2.2.2)]
  by_cases c1 : 1 ≤ sb
  · by_cases c2 : sb ≤ 32768
    · by_cases c3 : -1 ≤ by_
      · by_cases c4 : by_ ≤ 1073741824
        · by_cases c5 : -1 ≤ ag
          · by_cases c6 : ag ≤ 1073741824
            · obtain rfl : X = G := HT.out (by omega)
              go_enter Try.func17, Try.ntmps17
              go_upto_region 1 with fail
              rw [HW.out, HP.out]
              go_wp2_with (go_at_call 29; refine (RNum_is _ _ _ _ HG.out).mono ?_; rintro e w' ⟨rfl, rfl⟩)
              go_ret
              exact ⟨rfl, R0.out.out.2⟩
            · obtain rfl : X = false := HF.out (by omega)
              go_enter Try.func17, Try.ntmps17
              go_upto_region 1 with fail
              rw [HW.out, HP.out]
              go_wp2_with fail
              go_ret
              exact ⟨rfl, R0.out.out.2⟩
          · obtain rfl : X = false := HF.out (by omega)
            go_enter Try.func17, Try.ntmps17
            go_upto_region 1 with fail
            rw [HW.out, HP.out]
            go_wp2_with fail
            go_ret
            exact ⟨rfl, R0.out.out.2⟩
        · obtain rfl : X = false := HF.out (by omega)
          go_enter Try.func17, Try.ntmps17
          go_upto_region 1 with fail
          rw [HW.out, HP.out]
          go_wp2_with fail
          go_ret
          exact ⟨rfl, R0.out.out.2⟩
      · obtain rfl : X = false := HF.out (by omega)
        go_enter Try.func17, Try.ntmps17
        go_upto_region 1 with fail
        rw [HW.out, HP.out]
        go_wp2_with fail
        go_ret
        exact ⟨rfl, R0.out.out.2⟩
    · obtain rfl : X = false := HF.out (by omega)
      go_enter Try.func17, Try.ntmps17
      go_upto_region 1 with fail
      rw [HW.out, HP.out]
      go_wp2_with fail
      go_ret
      exact ⟨rfl, R0.out.out.2⟩
  · obtain rfl : X = false := HF.out (by omega)
    go_enter Try.func17, Try.ntmps17
    go_upto_region 1 with fail
    rw [HW.out, HP.out]
    go_wp2_with fail
    go_ret
    exact ⟨rfl, R0.out.out.2⟩
end Go.Proofs.Ytgadgmcabjnjjaa.Kpd
/- The thirteenth layer's May: may it be asked how many go? -/
namespace Go.Proofs.Ytgadgmcabjnjjaa.Kpd
open Go.RowKit Go.Lib Rcd

theorem load_ru_at {W : World} {g o : Nat} {sb by_ ag gr : Int} {co : Bool} (c0 : W.cell? ⟨g, o, none⟩ = some (.int .i64 sb)) (c1 : W.cell? ⟨g, o + 1, none⟩ = some (.int .i64 by_)) (c2 : W.cell? ⟨g, o + 2, none⟩ = some (.int .i64 ag)) (c3 : W.cell? ⟨g, o + 3, none⟩ = some (.bool co)) (c4 : W.cell? ⟨g, o + 4, none⟩ = some (.int .i64 gr)) :
    (loadVar 25 ⟨g, o, none⟩).run Try.prog W = .ok (.agg #[.int .i64 sb, .int .i64 by_, .int .i64 ag, .bool co, .int .i64 gr]) W :=
  run_loadVar_mid W g o 25 [.int .i64 sb, .int .i64 by_, .int .i64 ag, .bool co, .int .i64 gr] _ (fun j v hv => by
    match j, hv with
    | 0, hv => rw [← hv]; exact c0
    | 1, hv => rw [← hv]; exact c1
    | 2, hv => rw [← hv]; exact c2
    | 3, hv => rw [← hv]; exact c3
    | 4, hv => rw [← hv]; exact c4) Try.underlying25 rfl info_ru
/-- The rules within an ask's box. -/
theorem RBox.loadRu {w0 W : World} {g : Nat} {A : Option Addr} {N c : Nat} {sb by_ ag gr now : Int} {co : Bool} (k : RBox w0 g #[.slice A N c, .int .i64 sb, .int .i64 by_, .int .i64 ag, .bool co, .int .i64 gr, .int .i64 now] W) :
    (loadVar 25 ⟨g, 1, none⟩).run Try.prog W = .ok (.agg #[.int .i64 sb, .int .i64 by_, .int .i64 ag, .bool co, .int .i64 gr]) W :=
  load_ru_at (k.cell 1) (k.cell 2) (k.cell 3) (k.cell 4) (k.cell 5)

set_option maxRecDepth 100000 in
set_option maxHeartbeats 4000000 in
/-- fairwaylaw13.May. -/
theorem May_is (l : List Sp) (r : Ru) (now : Int) (N : Nat) (A : Option Addr) (c B : Nat) (X : Bool) (w : World) (hN : l.length = N) (hm : N ≤ 9223372036854775807) (hcap : N ≤ c) (hbig : (recsOf l).length ≤ 1000000) (hB : B ≤ w.heap.size) (h : SegsAt w B A l) (hX : askB l r now = X) :
    Calls Try.prog 11 #[.agg (aarr A N c r now)] w fun e w' => e = .returned (.bool X) ∧ Below w.heap.size w w' := by
  obtain ⟨X1, hX1⟩ : ∃ X1, rowB l = X1 := ⟨_, rfl⟩
  obtain ⟨X2, hX2⟩ : ∃ X2, ruB r = X2 := ⟨_, rfl⟩
  obtain ⟨X3, hX3⟩ : ∃ X3, decide (0 ≤ now ∧ now ≤ 1099511627776) = X3 := ⟨_, rfl⟩
  unfold askB at hX
  rw [hX1, hX2, hX3] at hX
  have HC1 := Lib.hid (fun W (hb : Below w.heap.size w W) => RRow_is l N A c B X1 W hN hm hcap hbig (Nat.le_trans hB hb.size) (h.below (hb.mono hB)) hX1)
  have HC2 := Lib.hid (fun W => RRules_is r X2 W hX2)
  have HC3 := Lib.hid (fun W => RNum_is now 1099511627776 X3 W hX3)
  unfold aarr
  unfold ruagg ruarr at HC2
  obtain ⟨sb, by_, ag, co, gr⟩ := r
  dsimp only at HC2 ⊢
  have R0 := Lib.hid (RBox.new w 27 #[.slice A N c, .int .i64 sb, .int .i64 by_, .int .i64 ag, .bool co, .int .i64 gr, .int .i64 now])
  obtain ⟨p, hp⟩ : ∃ p, w.heap.size = p := ⟨_, rfl⟩
  obtain ⟨W0, hW⟩ : ∃ W0, w.alloc (.cells #[.slice A N c, .int .i64 sb, .int .i64 by_, .int .i64 ag, .bool co, .int .i64 gr, .int .i64 now] 27) = W0 := ⟨_, rfl⟩
  rw [hW, hp] at R0
  have HW := Lib.hid hW
  have HP := Lib.hid hp
  clear hW hp h hN hX1 hX2 hX3 hB hm hcap hbig
  go_enter Try.func11, Try.ntmps11
  go_upto_region 1 with fail
  rw [HW.out, HP.out]
  clear HW HP
  have d0 : W0.cell? ⟨p, 0, none⟩ = some (.slice A N c) := R0.out.cell 0
  go_wp2_with fail
  refine (HC1.out _ R0.out.out.2).mono ?_
  rintro e w1 ⟨rfl, hb1⟩
  have R1 := Lib.hid (R0.out.below hb1)
  clear R0 hb1 HC1 d0
  cases X1 with
  | false =>
    obtain rfl : false = X := hX
    go_wp2_with fail
    go_ret
    exact ⟨rfl, R1.out.out.2⟩
  | true =>
    have hld := RBox.loadRu R1.out
    go_wp2_with (refine wpList_load_any (by rfl) 25 (.tmp 7) rfl p 1 rfl _ hld ?_; simp only [Act.put])
    refine (HC2.out _).mono ?_
    rintro e w2 ⟨rfl, hb2⟩
    have R2 := Lib.hid (R1.out.below hb2)
    clear R1 hb2 hld HC2
    cases X2 with
    | false =>
      obtain rfl : false = X := hX
      go_wp2_with fail
      go_ret
      exact ⟨rfl, R2.out.out.2⟩
    | true =>
      obtain rfl : X3 = X := hX
      have d6 : w2.cell? ⟨p, 6, none⟩ = some (.int .i64 now) := R2.out.cell 6
      go_wp2_with (go_at_call 29; refine (HC3.out _).mono ?_; rintro e w' ⟨rfl, rfl⟩)
      go_ret
      exact ⟨rfl, R2.out.out.2⟩
end Go.Proofs.Ytgadgmcabjnjjaa.Kpd
/- The bytes of records: one more. -/
namespace Go.Proofs.Ytgadgmcabjnjjaa
open Go.RowKit Go.Lib Vbi Rcd Crc

theorem all_next_str {rs : List Rc} {k : Nat} (h : k < rs.length) : str (allL (rs.take (k + 1))) = str (allL (rs.take k)) ++ str (recL rs[k]) := by
  rw [List.take_succ_eq_append_getElem h, all_snoc, str_add]
end Go.Proofs.Ytgadgmcabjnjjaa
/- The document's own answer: the bytes of a segment's records. -/
namespace Go.Proofs.Ytgadgmcabjnjjaa
open Go.RowKit Go.Lib Vbi Rcd Crc

set_option maxRecDepth 100000 in
set_option maxHeartbeats 8000000 in
/-- fairwayref10.Text, of what may be. -/
theorem RText_is (b : Int) (rs : List Rc) (N : Nat) (A : Option Addr) (c B : Nat) (S : ByteArray) (w : World) (hN : rs.length = N) (hB : B ≤ w.heap.size) (h : RecsAt w B A rs) (hs : segB b rs = true) (hS : str (allL rs) = S) :
    Calls Try.prog 45 #[.agg #[.int .i64 b, .slice A N c]] w fun e w' => e = .returned (.string S) ∧ Below w.heap.size w w' := by
  have R0 := Lib.hid (RBox.new w 48 (sarr b A N c))
  obtain ⟨p, hp⟩ : ∃ p, w.heap.size = p := ⟨_, rfl⟩
  obtain ⟨W0, hW⟩ : ∃ W0, w.alloc (.cells (sarr b A N c) 48) = W0 := ⟨_, rfl⟩
  rw [hW, hp] at R0
  unfold sarr at R0 hW
  have HW := Lib.hid hW
  have HP := Lib.hid hp
  have H := Lib.hid (h.mono hB)
  have HS := Lib.hid hs
  have HZ := Lib.hid (seg_size hs)
  have hle := seg_len hs
  have HNN := Lib.hid hN
  rw [HNN.out] at hle
  have HSS := Lib.hid hS
  clear hW hp h hN hB hs hS
  go_enter Try.func45, Try.ntmps45
  go_upto_region 1 with fail
  rw [HW.out, HP.out]
  clear HW
  go_wp2_with fail
  go_loopw [3, 4] (fun v i wr => ∃ (k : Nat) (s : ByteArray), k ≤ N ∧ str (allL (rs.take k)) = s ∧ v = .string s ∧ i = .int .i64 (k : Int) ∧ RBox w p #[.int .i64 b, .slice A N c] wr) (fun _ i _ => N - (RowKit.intOf i).toNat)
  case atStart => exact ⟨0, ⟨#[]⟩, Nat.zero_le _, rfl, rfl, rfl, R0.out⟩
  case round =>
    obtain ⟨k, s, hk, ha, rfl, rfl, hbx⟩ := hrel
    have HA := Lib.hid ha
    have R := Lib.hid hbx
    clear hbx R0 ha
    have d1 : wr.cell? ⟨p, 1, none⟩ = some (.slice A N c) := R.out.cell 1
    by_cases hlt : k < N
    · have hlr : k < rs.length := by rw [HNN.out]; exact hlt
      obtain ⟨b0, o0, rfl, hb0, hc⟩ := (H.out.below R.out.out.2).some_ (by omega)
      have hr := hc k hlr
      have hmay := seg_may HS.out _ (List.getElem_mem hlr)
      obtain ⟨z, hz⟩ : ∃ z, str (recL rs[k]) = z := ⟨_, rfl⟩
      have HRS := Lib.hid (fun W => RBytes_is rs[k] z W hmay hz)
      have HA2 : Hid (str (allL (rs.take (k + 1))) = s ++ z) := by show _ = _; rw [all_next_str hlr, HA.out, hz]
      have hsum : s.size + z.size ≤ 420000 := by
        have : (s ++ z).size ≤ 420000 := by
          rw [← HA2.out, str_size]
          exact Nat.le_trans (all_take_le _ _) HZ.out
        rwa [ByteArray.size_append] at this
      clear HA hc hmay hz
      unfold ragg at HRS
      generalize rs[k] = r at hr HRS
      obtain ⟨o, t, key, bod, q, g⟩ := r
      obtain ⟨c0, c1, c2, c3, c4, c5⟩ := hr
      dsimp only at c0 c1 c2 c3 c4 c5 HRS
      generalize str key = ks at c2 HRS
      generalize str bod = bs at c3 HRS
      unfold rarr at HRS
      have e1 : (k : Int) < (N : Int) := by omega
      have e2 : ¬ 9223372036854775807 < s.size + z.size := by omega
      clear hlr
      go_wp2_with fail
      refine (HRS.out _).mono ?_
      rintro e w6 ⟨rfl, hb6⟩
      have R6 := Lib.hid (R.out.below hb6)
      clear R hb6 HRS d1 c0 c1 c2 c3 c4 c5
      go_wp2_with fail
      go_roundw
      case rel => exact ⟨k + 1, s ++ z, hlt, HA2.out, rfl, by go_num, R6.out⟩
      case measure => simp [RowKit.intOf]; omega
    · obtain rfl : k = N := by omega
      obtain rfl : s = S := by
        rw [← HA.out, ← HSS.out, List.take_of_length_le (by rw [HNN.out]; exact Nat.le_refl _)]
      go_wp2_with fail
      go_ret
      exact ⟨rfl, R.out.out.2⟩
end Go.Proofs.Ytgadgmcabjnjjaa
/- The document's own answer: how many bytes segments have. -/
namespace Go.Proofs.Ytgadgmcabjnjjaa.Kpd
open Go.RowKit Go.Lib Rcd

set_option maxRecDepth 100000 in
set_option maxHeartbeats 8000000 in
/-- fairwayref13.size, of segments that may be. -/
theorem RSize_is (l : List Sp) (N : Nat) (A : Option Addr) (c B n : Nat) (w : World) (hN : l.length = N) (hm : N ≤ 1000000) (hB : B ≤ w.heap.size) (h : SegsAt w B A l) (hs : ∀ s ∈ l, segB s.b s.rs = true) (hn : sizeL l = n) :
    Calls Try.prog 30 #[.slice A N c] w fun e w' => e = .returned (.int .i64 (n : Int)) ∧ Below w.heap.size w w' := by
  have H := Lib.hid (h.mono hB)
  have HS := Lib.hid hs
  have HN := Lib.hid hN
  have HZ := Lib.hid hn
  have HL := Lib.hid (show sizeL l ≤ 420000000000 from by have := size_le hs; omega)
  clear h hs hN hn hB
  go_enter Try.func30, Try.ntmps30
  go_wp2_with fail
  go_loopw [3, 4] (fun v i wr => ∃ k a : Nat, k ≤ N ∧ sizeL (l.take k) = a ∧ v = .int .i64 (a : Int) ∧ i = .int .i64 (k : Int) ∧ Below w.heap.size w wr) (fun _ i _ => N - (RowKit.intOf i).toNat)
  case atStart => exact ⟨0, 0, Nat.zero_le _, rfl, rfl, rfl, Below.refl _ _⟩
  case round =>
    obtain ⟨k, a, hk, ha, rfl, rfl, hbl⟩ := hrel
    have HA := Lib.hid ha
    have HB := Lib.hid hbl
    clear hbl ha
    by_cases hlt : k < N
    · have hlr : k < l.length := by rw [HN.out]; exact hlt
      obtain ⟨b0, o0, rfl, hb0, hc⟩ := (H.out.below HB.out).some_ (by omega)
      obtain ⟨A1, c1, hsg⟩ := hc k hlr
      obtain ⟨z, hz⟩ : ∃ z, (allL l[k].rs).length = z := ⟨_, rfl⟩
      have hseg := HS.out _ (List.getElem_mem hlr)
      have HA2 : Hid (sizeL (l.take (k + 1)) = a + z) := by show _ = _; rw [size_next hlr, HA.out, hz]
      have hsum : a + z ≤ 420000000000 := by
        rw [← HA2.out]
        exact Nat.le_trans (size_take_le _ _) HL.out
      clear HA hc
      generalize l[k] = s at hsg hz hseg
      obtain ⟨sb, rs⟩ := s
      obtain ⟨s0, s1, hA, hcap, hlim⟩ := hsg
      dsimp only at s0 s1 hA hcap hlim hz hseg
      obtain ⟨M, hM⟩ : ∃ M, rs.length = M := ⟨_, rfl⟩
      rw [hM] at s1 hcap hlim
      obtain ⟨Z, hZ⟩ : ∃ Z, str (allL rs) = Z := ⟨_, rfl⟩
      have hZs : Z.size = z := by rw [← hZ, str_size]; exact hz
      have HSZ := Lib.hid (RText_is sb rs M A1 c1 w.heap.size Z wr hM HB.out.size hA hseg hZ)
      have hld := load_seg_at s0 s1
      clear hseg hz hM hA hcap hZ hlr
      have e1 : (k : Int) < (N : Int) := by omega
      go_wp2_with (refine wpList_load_any (by rfl) 48 (.tmp 14) rfl b0 (o0 + k * 2) rfl _ hld ?_; simp only [Act.put])
      refine HSZ.out.mono ?_
      rintro e w6 ⟨rfl, hb6⟩
      have HB6 := Lib.hid (bel_step HB.out hb6)
      clear hb6 hld HSZ HB s0 s1
      subst hZs
      have e2 : (a : Int) + (Z.size : Int) ≤ 420000000000 := by omega
      go_wp2_with fail
      go_roundw
      case rel => exact ⟨k + 1, a + Z.size, hlt, HA2.out, by go_num, by go_num, HB6.out⟩
      case measure => simp [RowKit.intOf]; omega
    · obtain rfl : k = N := by omega
      obtain rfl : a = n := by
        rw [← HA.out, ← HZ.out, List.take_of_length_le (by rw [HN.out]; exact Nat.le_refl _)]
      go_wp2_with fail
      go_ret
      exact ⟨rfl, HB.out⟩
end Go.Proofs.Ytgadgmcabjnjjaa.Kpd
/- The document's own answer: how many of the first segments go. -/
namespace Go.Proofs.Ytgadgmcabjnjjaa.Kpd
open Go.RowKit Go.Lib Rcd

set_option maxRecDepth 100000 in
set_option maxHeartbeats 16000000 in
/-- fairwayref13.Old, of what may be. -/
theorem ROld_is (l : List Sp) (r : Ru) (now : Int) (N : Nat) (A : Option Addr) (c B m : Nat) (w : World) (hN : l.length = N) (hcap : N ≤ c) (hB : B ≤ w.heap.size) (h : SegsAt w B A l) (h1 : rowB l = true) (h2 : ruB r = true) (h4 : OldIs r now l m) :
    Calls Try.prog 12 #[.slice A N c, ruagg r, .int .i64 now] w fun e w' => e = .returned (.int .i64 (m : Int)) ∧ Below w.heap.size w w' := by
  have hrl := (row_iff.1 h1).1
  rw [hN] at hrl
  obtain ⟨hrl1, hrl2⟩ := hrl
  obtain ⟨n, hn⟩ : ∃ n, N = n + 1 := ⟨N - 1, by omega⟩
  have hru := ru_yes h2
  have HH := Lib.hid (h.mono hB)
  have HN := Lib.hid hN
  have HSG := Lib.hid (row_segs h1)
  have HO := Lib.hid h4
  have HCL := Lib.hid (show closed l = l.take n by unfold closed; rw [hN, hn]; rfl)
  have HNL := Lib.hid (show l.length - 1 = n by rw [hN]; omega)
  have HMX := Lib.hid (show sizeL (closed l) ≤ 84420000 from by
    have := size_take_le l (l.length - 1)
    have h5 := size_le HSG.out
    rw [HN.out] at h5
    unfold closed at *
    omega)
  have HNN := Lib.hid hn
  have HCAP := Lib.hid hcap
  have hnb : n ≤ 200 := by omega
  have e5 : (N : Int) - 1 = (n : Int) := by omega
  obtain ⟨b1, o1, rfl, hb1, hc⟩ := HH.out.some_ (by omega)
  have HC := Lib.hid hc
  unfold ruagg
  obtain ⟨sb, by_, ag, co, gr⟩ := r
  dsimp only at hru ⊢
  have HRU := Lib.hid hru
  have R0 := Lib.hid (RBox.new w 25 (ruarr sb by_ ag co gr))
  obtain ⟨p, hp⟩ : ∃ p, w.heap.size = p := ⟨_, rfl⟩
  obtain ⟨W0, hW⟩ : ∃ W0, w.alloc (.cells (ruarr sb by_ ag co gr) 25) = W0 := ⟨_, rfl⟩
  rw [hW, hp] at R0
  unfold ruarr at R0 hW ⊢
  have HW := Lib.hid hW
  have HP := Lib.hid hp
  clear h hN hcap h1 h2 h4 hrl1 hrl2 hru hn hc hW hp hB
  go_enter Try.func12, Try.ntmps12
  go_upto_region 1 with fail
  rw [HW.out, HP.out]
  clear HW HP
  go_wp2_with fail
  go_loopw [7] (fun i wr => ∃ k : Nat, k ≤ n ∧ i = .int .i64 (k : Int) ∧ RBox w p #[.int .i64 sb, .int .i64 by_, .int .i64 ag, .bool co, .int .i64 gr] wr ∧ GoTo ⟨sb, by_, ag, co, gr⟩ now l k) (fun i _ => n - (RowKit.intOf i).toNat)
  case atStart => exact ⟨0, Nat.zero_le _, rfl, R0.out, fun j hj => absurd hj (Nat.not_lt_zero _)⟩
  case round =>
    obtain ⟨k, hk, rfl, hbx, hgo⟩ := hrel
    have HG := Lib.hid hgo
    have R := Lib.hid hbx
    clear hbx hgo R0
    by_cases hlt : k < n
    · have hkN : k < N := by rw [HNN.out]; omega
      have hlr : k < l.length := by rw [HN.out]; exact hkN
      obtain ⟨A1, c1, hsg⟩ := HC.out k hlr
      have hseg := HSG.out _ (List.getElem_mem hlr)
      obtain ⟨z, hz⟩ : ∃ z, sizeL ((closed l).drop k) = z := ⟨_, rfl⟩
      obtain ⟨Ol, hOl⟩ : ∃ Ol, oldB ⟨sb, by_, ag, co, gr⟩ now l[k].rs = Ol := ⟨_, rfl⟩
      obtain ⟨Mu, hMu⟩ : ∃ Mu, muchB ⟨sb, by_, ag, co, gr⟩ z = Mu := ⟨_, rfl⟩
      have HGK : Hid (goesB ⟨sb, by_, ag, co, gr⟩ now l k = (Mu || Ol)) := by
        show _ = _
        unfold goesB
        rw [hz, hMu, List.getD_eq_getElem?_getD, List.getElem?_eq_getElem hlr, Option.getD_some, hOl]
      have HGO : Hid ((Mu || Ol) = true → GoTo ⟨sb, by_, ag, co, gr⟩ now l (k + 1)) := by
        show _ → _
        intro hg j hj
        by_cases c : j < k
        · exact HG.out j c
        · obtain rfl : j = k := by omega
          exact HGK.out.trans hg
      have HST : Hid ((Mu || Ol) = false → m = k) := by
        show _ → _
        intro hg
        exact old_one HO.out ⟨by rw [HNL.out]; omega, HG.out, fun _ => HGK.out.trans hg⟩
      obtain ⟨A2, hmid, hmat⟩ := segs_mid (some ⟨b1, o1, none⟩) N c k n (.inr ⟨_, _, rfl⟩) hlt (by rw [HNN.out]; omega) HCAP.out
      have HZI : Hid ((z : Int) ≤ 84420000) := by
        show _ ≤ _
        have : z ≤ 84420000 := by rw [← hz]; exact Nat.le_trans (size_drop_le _ _) HMX.out
        omega
      have HSZ := Lib.hid (fun W (hb : Below w.heap.size w W) => RSize_is ((l.take n).drop k) (n - k) A2 (c - k) w.heap.size z W (by rw [List.length_drop, List.length_take, HN.out, HNN.out]; omega) (by omega) hb.size (hmat W _ l HN.out (HH.out.below hb)) (fun s hs => HSG.out s (List.take_subset _ _ (List.drop_subset _ _ hs))) (by rw [← HCL.out]; exact hz))
      have hkI : (k : Int) < (N : Int) := by omega
      have hkn : (k : Int) < (n : Int) := by omega
      clear HG HGK hmat hz
      generalize l[k] = s at hsg hseg hOl
      obtain ⟨ssb, srs⟩ := s
      obtain ⟨s0, s1, hA, _, hlim⟩ := hsg
      dsimp only at s0 s1 hA hlim hseg hOl
      obtain ⟨M, hM⟩ : ∃ M, srs.length = M := ⟨_, rfl⟩
      have HM := Lib.hid hM
      have HSE := Lib.hid hseg
      have hM2 : M ≤ 200 := by rw [← hM]; exact seg_len hseg
      rw [hM] at s1
      have HA := Lib.hid (fun W (hb : Below w.heap.size w W) => hA.below hb)
      have HOL := Lib.hid hOl
      unfold muchB at hMu
      dsimp only at hMu
      have HMU := Lib.hid hMu
      have t1 := (R.out.out.2.cell (p := ⟨b1, o1 + k * 2 + 1, none⟩) hb1).trans s1
      clear hA hlim hM hseg hlr hkN s0 s1 hOl hMu
      go_upto_region 5 with fail
      clear t1
      have st0 := R.out
      haveI : Nonempty (In (RBox w p #[.int .i64 sb, .int .i64 by_, .int .i64 ag, .bool co, .int .i64 gr])) := ⟨⟨_, st0⟩⟩
      have k1 := fun u : In (RBox w p #[.int .i64 sb, .int .i64 by_, .int .i64 ag, .bool co, .int .i64 gr]) => (show u.w.cell? ⟨p, 1, none⟩ = some (.int .i64 by_) from u.h.cell 1)
      clear R
      by_cases h5 : 0 ≤ by_
      · have f1 : decide (0 ≤ by_) = true := decide_eq_true h5
        have HMV : Hid (decide (by_ < (z : Int)) = Mu) := by
          show _ = _
          rw [← HMU.out, f1, Bool.true_and]
        have hmv := HMV.out
        have hzi := HZI.out
        refine region_in (S := RBox w p #[.int .i64 sb, .int .i64 by_, .int .i64 ag, .bool co, .int .i64 gr]) (by kernel_rfl) (by kernel_rfl) (st0.drewN 1) ?_
        repeat (go_big_quiet_step (first | (go_at_call 30; exact in_call ((HSZ.out _ (RBox.out (In.h _)).2).mono fun _ _ h => ⟨h.1, RBox.below (In.h _) h.2⟩))))
        refine wpQuiet_nil ?_
        rintro w7 ⟨⟨x7, st7⟩, rfl⟩
        have R7 := Lib.hid st7
        clear this st0 st7 k1 HSZ hmid hmv HMV HMU f1 hzi HZI
        have d2 : w7.cell? ⟨p, 2, none⟩ = some (.int .i64 ag) := R7.out.cell 2
        have HA7 := Lib.hid (HA.out _ R7.out.out.2)
        clear HA
        by_cases h6 : 0 ≤ ag
        · have f2 : decide (0 ≤ ag) = true := decide_eq_true h6
          cases M with
          | zero =>
            obtain rfl : Ol = true := by
              rw [← HOL.out, List.eq_nil_of_length_eq_zero HM.out]
              unfold oldB
              rw [decide_eq_true h6]; rfl
            have HDD := Lib.hid (HGO.out (by rw [Bool.or_true]))
            clear HGO HST HOL HM HA7 HSE
            go_upto_region 6 with fail
            go_quiet (fail)
            go_wp2_with fail
            go_roundw
            case rel => exact ⟨k + 1, hlt, by go_num, R7.out.drewN _, HDD.out⟩
            case measure => simp [RowKit.intOf]; omega
          | succ q =>
            obtain ⟨M, hMq⟩ : ∃ M, q + 1 = M := ⟨_, rfl⟩
            have hml := HM.out
            rw [hMq] at hml hM2 ⊢
            obtain ⟨b2, o2, rfl, _, hc2⟩ := HA7.out.some_ (by omega)
            have y1 := (hc2 q (by omega)).c1
            have hmem := List.getElem_mem (show q < srs.length by omega)
            have hmay := (may_iff _).1 (seg_may HSE.out _ hmem)
            have hol : oldB ⟨sb, by_, ag, co, gr⟩ now srs = decide ((srs[q]'(by omega)).t + ag < now) := by
              unfold oldB
              rw [decide_eq_true h6, last_all (rs := srs) (n := q) (by omega)]; rfl
            rw [HOL.out] at hol
            have y3 := hmay.2.2.1
            have y4 := hmay.2.2.2.1
            clear hmem hc2 HOL hmay
            generalize (srs[q]'(by omega)).t = aT at y1 y3 y4 hol
            have g2 : ag ≤ 1073741824 := HRU.out.2.2.1.2
            have w2 : IntKind.i64.wrap (aT + ag) = aT + ag := IntWalk.i64_in _ ⟨by omega, by omega⟩
            have f3 : ((M : Int) == 0) = false := by rw [beq_eq_false_iff_ne]; omega
            have f4 : (M == 0) = false := by rw [beq_eq_false_iff_ne]; omega
            have f5 : (M : Int) - 1 = (q : Int) := by omega
            have f6 : (q : Int) < (M : Int) := by omega
            have w1 : IntKind.i64.wrap ((M : Int) - 1) = (q : Int) := by rw [f5]; exact IntWalk.i64_in _ ⟨by omega, by omega⟩
            have f7 := hol.symm
            clear hol hml hMq HM HSE HA7 y3 y4 g2
            go_upto_region 6 with fail
            go_quiet (fail)
            clear f2 f3 f4 f5 f6 f7 w1 w2 y1 d2
            cases Ol with
            | true =>
              have HDD := Lib.hid (HGO.out (by rw [Bool.or_true]))
              clear HGO HST
              go_wp2_with fail
              go_roundw
              case rel => exact ⟨k + 1, hlt, by go_num, R7.out.drewN _, HDD.out⟩
              case measure => simp [RowKit.intOf]; omega
            | false =>
              cases Mu with
              | true =>
                have HDD := Lib.hid (HGO.out rfl)
                clear HGO HST
                go_wp2_with fail
                go_roundw
                case rel => exact ⟨k + 1, hlt, by go_num, R7.out.drewN _, HDD.out⟩
                case measure => simp [RowKit.intOf]; omega
              | false =>
                obtain rfl : m = k := HST.out rfl
                go_wp2_with fail
                go_ret
                exact ⟨rfl, (R7.out.drewN _).out.2⟩
        · have f2 : decide (0 ≤ ag) = false := decide_eq_false h6
          obtain rfl : Ol = false := by
            rw [← HOL.out]
            unfold oldB
            rw [f2]; rfl
          clear HOL HM HA7 HSE
          go_upto_region 6 with fail
          go_quiet (fail)
          clear f2 d2
          cases Mu with
          | true =>
            have HDD := Lib.hid (HGO.out rfl)
            clear HGO HST
            go_wp2_with fail
            go_roundw
            case rel => exact ⟨k + 1, hlt, by go_num, R7.out.drewN _, HDD.out⟩
            case measure => simp [RowKit.intOf]; omega
          | false =>
            obtain rfl : m = k := HST.out rfl
            go_wp2_with fail
            go_ret
            exact ⟨rfl, (R7.out.drewN _).out.2⟩
      · have f1 : decide (0 ≤ by_) = false := decide_eq_false h5
        obtain rfl : Mu = false := by rw [← HMU.out, f1, Bool.false_and]
        refine region_in (S := RBox w p #[.int .i64 sb, .int .i64 by_, .int .i64 ag, .bool co, .int .i64 gr]) (by kernel_rfl) (by kernel_rfl) (st0.drewN 1) ?_
        repeat (go_big_quiet_step (fail))
        refine wpQuiet_nil ?_
        rintro w7 ⟨⟨x7, st7⟩, rfl⟩
        have R7 := Lib.hid st7
        clear this st0 st7 k1 HSZ hmid HMU f1 HZI
        obtain ⟨Mu, hMu⟩ : ∃ Mu, false = Mu := ⟨_, rfl⟩
        rw [hMu] at HGO HST ⊢
        clear hMu
        have d2 : w7.cell? ⟨p, 2, none⟩ = some (.int .i64 ag) := R7.out.cell 2
        have HA7 := Lib.hid (HA.out _ R7.out.out.2)
        clear HA
        by_cases h6 : 0 ≤ ag
        · have f2 : decide (0 ≤ ag) = true := decide_eq_true h6
          cases M with
          | zero =>
            obtain rfl : Ol = true := by
              rw [← HOL.out, List.eq_nil_of_length_eq_zero HM.out]
              unfold oldB
              rw [decide_eq_true h6]; rfl
            have HDD := Lib.hid (HGO.out (by rw [Bool.or_true]))
            clear HGO HST HOL HM HA7 HSE
            go_upto_region 6 with fail
            go_quiet (fail)
            go_wp2_with fail
            go_roundw
            case rel => exact ⟨k + 1, hlt, by go_num, R7.out.drewN _, HDD.out⟩
            case measure => simp [RowKit.intOf]; omega
          | succ q =>
            obtain ⟨M, hMq⟩ : ∃ M, q + 1 = M := ⟨_, rfl⟩
            have hml := HM.out
            rw [hMq] at hml hM2 ⊢
            obtain ⟨b2, o2, rfl, _, hc2⟩ := HA7.out.some_ (by omega)
            have y1 := (hc2 q (by omega)).c1
            have hmem := List.getElem_mem (show q < srs.length by omega)
            have hmay := (may_iff _).1 (seg_may HSE.out _ hmem)
            have hol : oldB ⟨sb, by_, ag, co, gr⟩ now srs = decide ((srs[q]'(by omega)).t + ag < now) := by
              unfold oldB
              rw [decide_eq_true h6, last_all (rs := srs) (n := q) (by omega)]; rfl
            rw [HOL.out] at hol
            have y3 := hmay.2.2.1
            have y4 := hmay.2.2.2.1
            clear hmem hc2 HOL hmay
            generalize (srs[q]'(by omega)).t = aT at y1 y3 y4 hol
            have g2 : ag ≤ 1073741824 := HRU.out.2.2.1.2
            have w2 : IntKind.i64.wrap (aT + ag) = aT + ag := IntWalk.i64_in _ ⟨by omega, by omega⟩
            have f3 : ((M : Int) == 0) = false := by rw [beq_eq_false_iff_ne]; omega
            have f4 : (M == 0) = false := by rw [beq_eq_false_iff_ne]; omega
            have f5 : (M : Int) - 1 = (q : Int) := by omega
            have f6 : (q : Int) < (M : Int) := by omega
            have w1 : IntKind.i64.wrap ((M : Int) - 1) = (q : Int) := by rw [f5]; exact IntWalk.i64_in _ ⟨by omega, by omega⟩
            have f7 := hol.symm
            clear hol hml hMq HM HSE HA7 y3 y4 g2
            go_upto_region 6 with fail
            go_quiet (fail)
            clear f2 f3 f4 f5 f6 f7 w1 w2 y1 d2
            cases Ol with
            | true =>
              have HDD := Lib.hid (HGO.out (by rw [Bool.or_true]))
              clear HGO HST
              go_wp2_with fail
              go_roundw
              case rel => exact ⟨k + 1, hlt, by go_num, R7.out.drewN _, HDD.out⟩
              case measure => simp [RowKit.intOf]; omega
            | false =>
              cases Mu with
              | true =>
                have HDD := Lib.hid (HGO.out rfl)
                clear HGO HST
                go_wp2_with fail
                go_roundw
                case rel => exact ⟨k + 1, hlt, by go_num, R7.out.drewN _, HDD.out⟩
                case measure => simp [RowKit.intOf]; omega
              | false =>
                obtain rfl : m = k := HST.out rfl
                go_wp2_with fail
                go_ret
                exact ⟨rfl, (R7.out.drewN _).out.2⟩
        · have f2 : decide (0 ≤ ag) = false := decide_eq_false h6
          obtain rfl : Ol = false := by
            rw [← HOL.out]
            unfold oldB
            rw [f2]; rfl
          clear HOL HM HA7 HSE
          go_upto_region 6 with fail
          go_quiet (fail)
          clear f2 d2
          cases Mu with
          | true =>
            have HDD := Lib.hid (HGO.out rfl)
            clear HGO HST
            go_wp2_with fail
            go_roundw
            case rel => exact ⟨k + 1, hlt, by go_num, R7.out.drewN _, HDD.out⟩
            case measure => simp [RowKit.intOf]; omega
          | false =>
            obtain rfl : m = k := HST.out rfl
            go_wp2_with fail
            go_ret
            exact ⟨rfl, (R7.out.drewN _).out.2⟩
    · obtain rfl : k = n := by omega
      obtain rfl : m = k := old_one HO.out ⟨by rw [HNL.out]; exact Nat.le_refl _, HG.out, fun h => absurd h (by rw [HNL.out]; omega)⟩
      go_wp2_with fail
      go_ret
      exact ⟨rfl, R.out.out.2⟩
end Go.Proofs.Ytgadgmcabjnjjaa.Kpd
