/- What each statement of the tenth layer asks first and last: whether an ask is heavy; whether there and back is the same. -/
import Derived.Test.YtimoncjdfmfojaaDoorRcLeaf
import Derived.Test.YtimoncjdfmfojaaDoorRcAsks
import Derived.Test.YtimoncjdfmfojaaDoorRcRLeaf
import Derived.Test.YtimoncjdfmfojaaDoorRcTaken
import Derived.Test.YtimoncjdfmfojaaDoorRcBytes
namespace Go.Proofs.YtimoncjdfmfojaaDoor
open Go.RowKit Go.Lib Vbi Rcd Crc

set_option maxRecDepth 100000 in
set_option maxHeartbeats 4000000 in
/-- heavy: an ask that is not has few bytes. -/
theorem heavy_is (P : Option Addr) (l : List Rc) (c : Nat) (s : ByteArray) (w : World) (hm : l.length ≤ 9223372036854775807) (h : RecsAt w w.heap.size P l) :
    Calls Tryd.prog 7 #[.agg #[.slice P l.length c, .string s]] w fun e w' => ∃ b, e = .returned (.bool b) ∧ (b = false → s.size ≤ 8000) ∧ Below w.heap.size w w' := by
  have HW := Lib.hid (fun (W : World) (h : RecsAt W w.heap.size P l) => Weight_is l P c w.heap.size W hm h)
  have H := Lib.hid h
  clear h
  go_enter Tryd.func7, Tryd.ntmps7
  go_wp2_with fail
  refine (HW.out _ (H.out.alloc (Nat.le_refl _) _)).mono ?_
  rintro e w1 ⟨⟨z, rfl⟩, hb⟩
  have hb0 := Blk.new w 26 #[.slice P l.length c, .string s]
  have hx0 := (Below.refl w.heap.size w).alloc (Nat.le_refl _) (.cells #[.slice P l.length c, .string s] 26)
  have hb1 := hb0.below hb
  have HX := Lib.hid (hx0.trans (hb.mono hx0.size))
  have d1 : w1.cell? ⟨w.heap.size, 1, none⟩ = some (.string s) := hb1.cell 1
  clear hb0 hx0 hb1 hb HW H
  by_cases hbig : 8000 < z
  · have hd : decide (8000 < z) = true := decide_eq_true hbig
    go_wp2_with fail
    go_ret
    exact ⟨true, rfl, (fun e => by cases e), HX.out⟩
  · have hd : decide (8000 < z) = false := decide_eq_false hbig
    go_wp2_with fail
    go_ret
    refine ⟨_, rfl, fun e => ?_, HX.out⟩
    have hs := of_decide_eq_false e
    omega

/-- A new block, and a record put into it. -/
theorem box_new {w w1 : World} (hb : Below w.heap.size w w1) (cs : Array Value) : ∃ g W4, w1.heap.size = g ∧ w1.alloc (.cells zcells 28) = W4 ∧ Blk W4 g zcells ∧ RBox w g cs (W4.setRow g cs) ∧ Below w1.heap.size w1 (W4.setRow g cs) := by
  have hbn := Blk.new w1 28 zcells
  have hbl : Below w.heap.size w (w1.alloc (.cells zcells 28)) := hb.alloc hb.size _
  exact ⟨_, _, rfl, rfl, hbn, .mk (hbn.row cs) (below_row hbl hb.size cs), below_row ((Below.refl _ _).alloc (Nat.le_refl _) _) (Nat.le_refl _) cs⟩

/-- A record that may be, and one that may not. -/
theorem rec_ways (r : Rc) : ∃ (X : Bool) (S : ByteArray) (E : Int), mayB r = X ∧ bytesE r = S ∧ mayE r = E ∧ (∀ w, Calls Tryd.prog 11 #[ragg r] w fun e w' => e = .returned (.tuple #[.int .i64 (S.size : Int), .int .i64 E]) ∧ Below w.heap.size w w') ∧
    ((X = true ∧ E = 0 ∧ str (recL r) = S) ∨ (X = false ∧ E = 1 ∧ S = ⟨#[]⟩)) := by
  cases hm : mayB r with
  | true =>
    have hE : mayE r = 0 := by unfold mayE; rw [hm]; rfl
    have hb : bytesE r = str (recL r) := by unfold bytesE; rw [hm]; rfl
    obtain ⟨_, _, _, _, h5, h6, _⟩ := (may_iff _).1 hm
    refine ⟨true, str (recL r), 0, rfl, hb, hE, fun w => ?_, .inl ⟨rfl, rfl, rfl⟩⟩
    refine Size_parts r.o r.t (str r.k) (str r.b) r.q r.g (str (recL r)).size 0 w (by rw [str_data, str_data]; exact hE) (.inl ⟨rfl, by rw [str_size]; exact h5, by rw [str_size]; exact h6, ?_⟩)
    rw [str_size, str_size, str_size, rec_len]
  | false =>
    have hE : mayE r = 1 := by unfold mayE; rw [hm]; rfl
    have hb : bytesE r = ⟨#[]⟩ := by unfold bytesE; rw [hm]; rfl
    refine ⟨false, ⟨#[]⟩, 1, rfl, hb, hE, fun w => ?_, .inr ⟨rfl, rfl, rfl⟩⟩
    exact Size_parts r.o r.t (str r.k) (str r.b) r.q r.g 0 1 w (by rw [str_data, str_data]; exact hE) (.inr ⟨by decide, rfl⟩)

def aRc : Rc := ⟨1, 2, [107], [98], 1, false⟩
theorem aRc_may : mayB aRc = true := by decide
set_option maxRecDepth 100000 in
set_option maxHeartbeats 8000000 in
/-- wakes: yes. -/
theorem wakes_any (w : World) (ht : Tab w) : Calls Tryd.prog 14 #[] w fun e w' => e = .returned (.bool true) ∧ Below w.heap.size w w' := by
  have HR := Lib.hid (fun W => R_is 1 2 ⟨#[107]⟩ ⟨#[98]⟩ W)
  obtain ⟨S, hS⟩ : ∃ S, str (recL aRc) = S := ⟨_, rfl⟩
  have hSz : S.size = 27 := by rw [← hS, str_size, rec_len]; rfl
  have hSd : S.data.toList = recL aRc := by rw [← hS, str_data]
  have HB := Lib.hid (fun W (h : Below w.heap.size w W) => Bytes_good aRc S W aRc_may (ht.below h) hS)
  have htk : takeR S.data.toList = (aRc, S.size, 0) := by
    have := take_rec [] aRc_may
    rw [List.append_nil, ← hSd, size_list] at this
    exact this
  have HT := Lib.hid (fun W (h : Below w.heap.size w W) => Take_is S aRc S.size 0 W (by omega) (ht.below h) htk)
  have hra : ragg aRc = .agg #[.int .i64 1, .int .i64 2, .string ⟨#[107]⟩, .string ⟨#[98]⟩, .int .i64 1, .bool false] := rfl
  rw [hra] at HB HT
  unfold rarr at HR
  clear hS hSd htk hra ht
  go_enter Tryd.func14, Tryd.ntmps14
  go_wp2_with fail
  refine (HR.out _).mono ?_
  rintro e w1 ⟨rfl, hb1⟩
  go_wp2_with fail
  refine (HB.out _ hb1).mono ?_
  rintro e w2 ⟨rfl, hb2⟩
  have HX2 := Lib.hid (hb1.trans (hb2.mono hb1.size))
  clear hb1 hb2
  go_wp2_with fail
  refine (HT.out _ HX2.out).mono ?_
  rintro e w3 ⟨rfl, hb3⟩
  have HX3 := Lib.hid (HX2.out.trans (hb3.mono HX2.out.size))
  clear hb3 HX2 HB HT
  have hbn := Blk.new w3 28 zcells
  have hbl := HX3.out.alloc HX3.out.size (.cells zcells 28)
  obtain ⟨W4, hW4⟩ : ∃ W, w3.alloc (.cells zcells 28) = W := ⟨_, rfl⟩
  obtain ⟨g, hg⟩ : ∃ g, w3.heap.size = g := ⟨_, rfl⟩
  have hgw : w.heap.size ≤ g := by rw [← hg]; exact HX3.out.size
  rw [hW4, hg] at hbn
  rw [hW4] at hbl
  have HBN := Lib.hid hbn
  have HBL := Lib.hid (below_row hbl hgw #[.int .i64 1, .int .i64 2, .string ⟨#[107]⟩, .string ⟨#[98]⟩, .int .i64 1, .bool false])
  have HBR := Lib.hid (hbn.row #[.int .i64 1, .int .i64 2, .string ⟨#[107]⟩, .string ⟨#[98]⟩, .int .i64 1, .bool false])
  unfold zcells at hW4
  have HW4 := Lib.hid hW4
  clear hbn hbl hW4 HX3
  go_upto_region 3 with (rw [HW4.out]; refine wpList_store_whole rfl 28 (.tmp 3) (.tmp 14) rfl g _ rfl rfl zcells HBN.out info_rec rfl (by simp [Value.oneCell']) ?_; simp only [Act.put])
  clear hg HW4 HBN
  generalize World.setRow _ _ _ = w5 at HBL HBR ⊢
  have st0 : RBox w g #[.int .i64 1, .int .i64 2, .string ⟨#[107]⟩, .string ⟨#[98]⟩, .int .i64 1, .bool false] w5 := .mk HBR.out HBL.out
  have heq := eql_rec 1 2 ⟨#[107]⟩ ⟨#[98]⟩ 1 false
  unfold rarr at heq
  clear HBL HBR
  haveI : Nonempty (In (RBox w g #[.int .i64 1, .int .i64 2, .string ⟨#[107]⟩, .string ⟨#[98]⟩, .int .i64 1, .bool false])) := ⟨⟨_, st0⟩⟩
  have k0 := fun u : In (RBox w g #[.int .i64 1, .int .i64 2, .string ⟨#[107]⟩, .string ⟨#[98]⟩, .int .i64 1, .bool false]) => (show u.w.cell? ⟨g, 0, none⟩ = some (.int .i64 1) from u.h.cell 0)
  have k1 := fun u : In (RBox w g #[.int .i64 1, .int .i64 2, .string ⟨#[107]⟩, .string ⟨#[98]⟩, .int .i64 1, .bool false]) => (show u.w.cell? ⟨g, 1, none⟩ = some (.int .i64 2) from u.h.cell 1)
  have k2 := fun u : In (RBox w g #[.int .i64 1, .int .i64 2, .string ⟨#[107]⟩, .string ⟨#[98]⟩, .int .i64 1, .bool false]) => (show u.w.cell? ⟨g, 2, none⟩ = some (.string ⟨#[107]⟩) from u.h.cell 2)
  have k3 := fun u : In (RBox w g #[.int .i64 1, .int .i64 2, .string ⟨#[107]⟩, .string ⟨#[98]⟩, .int .i64 1, .bool false]) => (show u.w.cell? ⟨g, 3, none⟩ = some (.string ⟨#[98]⟩) from u.h.cell 3)
  have k4 := fun u : In (RBox w g #[.int .i64 1, .int .i64 2, .string ⟨#[107]⟩, .string ⟨#[98]⟩, .int .i64 1, .bool false]) => (show u.w.cell? ⟨g, 4, none⟩ = some (.int .i64 1) from u.h.cell 4)
  have k5 := fun u : In (RBox w g #[.int .i64 1, .int .i64 2, .string ⟨#[107]⟩, .string ⟨#[98]⟩, .int .i64 1, .bool false]) => (show u.w.cell? ⟨g, 5, none⟩ = some (.bool false) from u.h.cell 5)
  refine region_in (S := RBox w g #[.int .i64 1, .int .i64 2, .string ⟨#[107]⟩, .string ⟨#[98]⟩, .int .i64 1, .bool false]) (by kernel_rfl) (by kernel_rfl) (st0.drewN 1) ?_
  repeat (go_big_quiet_step (first | (go_at_call 12; exact in_call ((num_is _ _).mono fun _ _ h => ⟨h.1, h.2 ▸ In.h _⟩)) | (go_at_call 32; exact in_call ((HR.out _).mono fun _ _ h => ⟨h.1, RBox.below (In.h _) h.2⟩))))
  refine wpQuiet_nil ?_
  rintro _ ⟨⟨w7, st7⟩, rfl⟩
  have HX := Lib.hid st7.out.2
  clear this st0 st7 k0 k1 k2 k3 k4 k5 HR heq
  go_wp2
  go_ret
  exact ⟨rfl, HX.out⟩
end Go.Proofs.YtimoncjdfmfojaaDoor
