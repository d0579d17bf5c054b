/- Package rec: records one behind the other. -/
import Derived.Test.YtimoncjdfmfojaaDoorRcTaken
namespace Go.Proofs.YtimoncjdfmfojaaDoor
open Go.RowKit Go.Lib Vbi Rcd Crc

/-- Records in a row of the call's own, how many bytes they have, whether that is all. -/
def GivesScan (L : List Rc) (at_ : Nat) (all : Bool) (w : World) (e : Ending) (w' : World) : Prop :=
  ∃ A c, e = .returned (.tuple #[.slice A L.length c, .int .i64 (at_ : Int), .bool all]) ∧ w'.ownsRow w.heap.size 28 6 (.slice A L.length c) L.length (flat L) ∧ Below w.heap.size w w'

set_option maxRecDepth 100000 in
set_option maxHeartbeats 4000000 in
/-- rec.Scan. -/
theorem Scan_is (s : ByteArray) (L : List Rc) (at_ : Nat) (all : Bool) (w : World) (hm : s.size ≤ 1000000) (ht : Tab w) (h : scan s.data.toList = (L, at_, all)) :
    Calls Tryd.prog 18 #[.string s] w (GivesScan L at_ all w) := by
  obtain ⟨i0, hi, hz0, hz1, hz2⟩ := info_parts info_more
  have haw := as_whole
  have hnw := not_whole
  unfold warr at hnw
  have HF := Lib.hid (fun (k : Nat) V W (hb : Below w.heap.size w W) (hV : firstV (takeR (s.extract k s.size).data.toList) = V) => first_is (s.extract k s.size) V W (by rw [ByteArray.size_extract]; omega) (ht.below hb) hV)
  have H := Lib.hid h
  have hl := size_list s
  have HL := Lib.hid hl
  clear h ht hl
  go_enter Tryd.func18, Tryd.ntmps18
  go_wp2_with fail
  go_loopw [2, 3] (fun v kv wr => ∃ (k : Nat) (rs : List Rc) (A : Option Addr) (c : Nat), v = .slice A rs.length c ∧ kv = .int .i64 (k : Int) ∧ k ≤ s.size ∧ rs.length ≤ k ∧ wr.ownsRow w.heap.size 28 6 (.slice A rs.length c) rs.length (flat rs) ∧ Below w.heap.size w wr ∧
    (rs ++ (scan (s.data.toList.drop k)).1, k + (scan (s.data.toList.drop k)).2.1, (scan (s.data.toList.drop k)).2.2) = (L, at_, all)) (fun _ kv _ => s.size - (RowKit.intOf kv).toNat)
  case atStart => exact ⟨0, [], none, 0, rfl, rfl, Nat.zero_le _, Nat.le_refl _, World.ownsRow_nil _ _ _ _, Below.refl _ _, by rw [List.drop_zero, H.out]; simp⟩
  case round =>
    obtain ⟨k, rs, A, c, rfl, rfl, hk, hrk, hown, hbw, hrel⟩ := hrel
    have HR := Lib.hid hrel
    have HO := Lib.hid hown
    have HB := Lib.hid hbw
    clear hrel hown hbw
    by_cases hlt : k < s.size
    · have hltI : (k : Int) ≤ (s.size : Int) := by omega
      obtain ⟨r, n, E, hT⟩ : ∃ r n E, takeR (s.data.toList.drop k) = (r, n, E) := ⟨_, _, _, rfl⟩
      have hex := ext_drop s k (by omega)
      by_cases h0 : E = 0
      · subst h0
        have hsz := take_size (l := s.data.toList.drop k) (by rw [hT])
        rw [hT, List.length_drop, HL.out] at hsz
        dsimp only at hsz
        have hsc := scan_next hT rfl
        rw [List.drop_drop] at hsc
        have HR2 : Hid (((rs ++ [r]) ++ (scan (s.data.toList.drop (k + n))).1, (k + n) + (scan (s.data.toList.drop (k + n))).2.1, (scan (s.data.toList.drop (k + n))).2.2) = (L, at_, all)) := by
          show _ = _
          rw [← HR.out, hsc]
          simp [Nat.add_assoc]
        have HF1 := Lib.hid (HF.out k _ wr HB.out (by rw [hex, hT, firstV_ok]))
        obtain ⟨o, t, key, bod, q, g⟩ := r
        dsimp only at HF1
        have hfc : rcells ⟨o, t, key, bod, q, g⟩ = [.int .i64 o, .int .i64 t, .string (str key), .string (str bod), .int .i64 q, .bool g] := rfl
        have HS : Hid (flat (rs ++ [⟨o, t, key, bod, q, g⟩]) = flat rs ++ rcells ⟨o, t, key, bod, q, g⟩) := flat_snoc _ _
        rw [hfc] at HS
        have hon : ∀ u ∈ rcells ⟨o, t, key, bod, q, g⟩, u.oneCell' = true := one_cells _
        rw [hfc] at hon
        have HON := Lib.hid hon
        clear hT hsc hex hfc hon HR
        generalize str key = ks at HF1 HS HON
        generalize str bod = bs at HF1 HS HON
        have haw1 := haw (.agg (warr o t ks bs q g (n : Int)))
        unfold warr at haw1
        unfold warr at HF1
        clear haw hnw
        go_wp2_with fail
        refine HF1.out.mono ?_
        rintro e w1 ⟨rfl, hb1⟩
        have HB1 := Lib.hid (HB.out.trans (hb1.mono HB.out.size))
        have HO1 := Lib.hid (own_below HO.out hb1)
        clear hb1 HF1 HO HB
        have hbn := Blk.new w1 65 (warr 0 0 ⟨#[]⟩ ⟨#[]⟩ 0 false 0)
        have hbl : Below w1.heap.size w1 (w1.alloc (.cells (warr 0 0 ⟨#[]⟩ ⟨#[]⟩ 0 false 0) 65)) := (Below.refl _ _).alloc (Nat.le_refl _) _
        obtain ⟨W4, hW4⟩ : ∃ W, w1.alloc (.cells (warr 0 0 ⟨#[]⟩ ⟨#[]⟩ 0 false 0) 65) = W := ⟨_, rfl⟩
        rw [hW4] at hbl hbn
        have hb5 := below_row hbl (Nat.le_refl _) (warr o t ks bs q g (n : Int))
        obtain ⟨g9, hg9⟩ : ∃ k, w1.heap.size = k := ⟨_, rfl⟩
        rw [hg9] at hbn
        have HB5 := Lib.hid (HB1.out.trans (hb5.mono HB1.out.size))
        have HO5 := Lib.hid (own_below HO1.out hb5)
        rw [hg9] at HB5 HO5
        have HG5 := Lib.hid (hbn.row (warr o t ks bs q g (n : Int)))
        have HBN := Lib.hid hbn
        have HLT : Hid (∀ j, (Value.slice A rs.length c).ownBlock = some j → j < g9) := by
          show ∀ j, _ → _
          intro j hj
          rw [← hg9]
          exact (HO1.out.lt j hj).2
        unfold warr at hW4
        have HW4 := Lib.hid hW4
        clear hbn hbl hW4 hb5 HB1 HO1
        unfold warr at HBN HB5 HO5
        go_upto_region 5 with (rw [HW4.out]; refine wpList_store_whole rfl 65 (.tmp 5) (.tmp 17) rfl g9 _ rfl rfl _ HBN.out info_whole rfl (by simp [Value.oneCell']) ?_; simp only [Act.put])
        clear HW4 HBN hg9
        have HG5b := HG5
        unfold warr at HG5b
        generalize World.setRow _ _ _ = w5 at HB5 HO5 HG5b ⊢
        have hld := load_whole (show Blk w5 g9 (warr o t ks bs q g (n : Int)) from HG5b.out)
        unfold rarr at hld
        have hgl := HG5b.out.lt
        have hsz5 := HB5.out.size
        clear HG5
        go_wp2_with (first | (refine wpList_load_any (by rfl) 28 (.tmp 24) rfl g9 0 rfl _ hld ?_; simp only [Act.put]) | (at_builtin; refine wpList_append_own _ rfl _ _ 24 rfl w.heap.size 28 i0 (.agg zcells) 6 64 Tryd.underlying24 hi hz0 hz1 hz2 rfl (by decide) _ _ _ rfl (HO5.out.alloc _) ⟨w5.heap.size, 0, none⟩ 1 1 [.int .i64 o, .int .i64 t, .string ks, .string bs, .int .i64 q, .bool g] rfl rfl ?c1 ?c2 ?c3 ?c4 ?c5 ?_))
        case c1 => exact fun j u h => cells_new w5 _ [.int .i64 o, .int .i64 t, .string ks, .string bs, .int .i64 q, .bool g] j u h
        case c2 => exact HON.out
        case c3 => unfold maxLen; omega
        case c4 => omega
        case c5 => simp; omega
        intro v' w3 hown' hgrow _
        have hnx := HB5.out.trans (below_alloc_grown hsz5 HO5.out hgrow)
        have hown2 : w3.ownsRow w.heap.size 28 6 v' (rs ++ [(⟨o, t, key, bod, q, g⟩ : Rc)]).length (flat (rs ++ [⟨o, t, key, bod, q, g⟩])) := by
          rw [HS.out, List.length_append]; exact hown'
        have h9 : w3.heap[g9]? = w5.heap[g9]? := by
          rw [hgrow.block g9 (by simp; omega) (fun e => by have := HLT.out g9 e.symm; omega)]
          exact Lib.alloc_old w5 _ _ hgl
        have hc6 : w3.cell? ⟨g9, 6, none⟩ = some (.int .i64 (n : Int)) := (World.cell?_of_block (a := ⟨g9, 6, none⟩) h9).trans (HG5b.out.cell 6)
        obtain ⟨A', c', rfl⟩ := own_slice hown2
        have HO6 := Lib.hid hown2
        have HB6 := Lib.hid hnx
        clear hown' hgrow hnx hown2 h9 HS HON HLT hld HG5b HO5 HB5
        have hknI : (k : Int) + (n : Int) ≤ 1000000 := by omega
        go_wp2_with fail
        go_roundw
        case rel => exact ⟨k + n, rs ++ [⟨o, t, key, bod, q, g⟩], A', c', rfl, by rw [show ((k : Int) + (n : Int)) = ((k + n : Nat) : Int) by omega], by omega, by rw [List.length_append]; show _ + 1 ≤ _; omega, HO6.out, HB6.out, HR2.out⟩
        case measure => simp [RowKit.intOf]; omega
      · have hsc := scan_stop (l := s.data.toList.drop k) (by rw [List.length_drop, HL.out]; omega) (by rw [hT]; exact h0)
        have hres : rs = L ∧ k = at_ ∧ false = all := by
          have := HR.out
          rw [hsc] at this
          simp only [List.append_nil, Nat.add_zero] at this
          injection this with e1 e2
          injection e2 with e2 e3
          exact ⟨e1, e2, e3⟩
        obtain ⟨rfl, rfl, rfl⟩ := hres
        have HF1 := Lib.hid (HF.out k _ wr HB.out (by rw [hex, hT, firstV_bad _ _ _ h0]))
        clear hT hsc hex HR haw
        go_wp2_with fail
        refine HF1.out.mono ?_
        rintro e w1 ⟨rfl, hb1⟩
        have HB1 := Lib.hid (HB.out.trans (hb1.mono HB.out.size))
        have HO1 := Lib.hid (own_below HO.out hb1)
        clear hb1 HF1 HO HB
        have hbn := Blk.new w1 65 (warr 0 0 ⟨#[]⟩ ⟨#[]⟩ 0 false 0)
        have hbl : Below w1.heap.size w1 (w1.alloc (.cells (warr 0 0 ⟨#[]⟩ ⟨#[]⟩ 0 false 0) 65)) := (Below.refl _ _).alloc (Nat.le_refl _) _
        obtain ⟨W4, hW4⟩ : ∃ W, w1.alloc (.cells (warr 0 0 ⟨#[]⟩ ⟨#[]⟩ 0 false 0) 65) = W := ⟨_, rfl⟩
        rw [hW4] at hbl hbn
        have hb5 := below_row hbl (Nat.le_refl _) (warr 0 0 ⟨#[]⟩ ⟨#[]⟩ 0 false 0)
        obtain ⟨g9, hg9⟩ : ∃ k, w1.heap.size = k := ⟨_, rfl⟩
        rw [hg9] at hbn
        have HB5 := Lib.hid (HB1.out.trans (hb5.mono HB1.out.size))
        have HO5 := Lib.hid (own_below HO1.out hb5)
        rw [hg9] at HB5 HO5
        have HBN := Lib.hid hbn
        unfold warr at hW4
        have HW4 := Lib.hid hW4
        clear hbn hbl hW4 hb5 HB1 HO1
        unfold warr at HBN HB5 HO5
        go_upto_region 3 with (rw [HW4.out]; refine wpList_store_whole rfl 65 (.tmp 5) (.tmp 17) rfl g9 _ rfl rfl _ HBN.out info_whole rfl (by simp [Value.oneCell']) ?_; simp only [Act.put])
        clear HW4 HBN hg9
        generalize World.setRow _ _ _ = w5 at HB5 HO5 ⊢
        go_wp2_with fail
        go_ret3
        exact ⟨A, c, rfl, HO5.out, HB5.out⟩
    · obtain rfl : k = s.size := by omega
      have hres : rs = L ∧ s.size = at_ ∧ true = all := by
        have := HR.out
        rw [List.drop_of_length_le (by rw [HL.out]; exact Nat.le_refl _), scan_nil] at this
        simp only [List.append_nil, Nat.add_zero] at this
        injection this with e1 e2
        injection e2 with e2 e3
        exact ⟨e1, e2, e3⟩
      obtain ⟨rfl, rfl, rfl⟩ := hres
      clear HR haw hnw
      go_wp2_with fail
      go_ret3
      exact ⟨A, c, rfl, HO.out, HB.out⟩
end Go.Proofs.YtimoncjdfmfojaaDoor
