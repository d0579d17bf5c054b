/- Package prop: the bytes of properties at a place. -/
import Derived.Test.YtdbbcfohjkgdcaaGreatL00
import Derived.Test.YtdbbcfohjkgdcaaGreatL41
set_option maxRecDepth 100000
set_option maxHeartbeats 64000000
namespace Go.Proofs.YtdbbcfohjkgdcaaGreat
open Go.ChangeShapes Go.WideShapes Go.ChangeAt Go.RowKit Prp
theorem cells_props : Tryz.prog.cellsOf 26 = 1 := by kernel_rfl
theorem cells_prop : Tryz.prog.cellsOf 99 = 4 := by kernel_rfl
section
variable {H : Type} {enc : TypeId × Value → H} {W : World} {base : Nat} {spare : Nat → Bool} {held : Bool}
theorem one_prop {fuel : Nat} {a : Addr} {cs : List Value} {y : DataW H × List MemPlace} (hc : W.cells? base a 4 = some cs) (hw : Near 99 y.1) (h : DataW.trod enc Tryz.prog W base spare held fuel 99 cs = some y) :
  ∃ p, PAt W a.block a.off p ∧ Fit p ∧ a.spot = none := by
 obtain ⟨_, hlen, hcell⟩ := World.cells?_some hc
 match cs, hlen with
 | [v0, v1, v2, v3], _ =>
  have g0 := hcell 0 (by omega)
  have g1 := hcell 1 (by omega)
  have g2 := hcell 2 (by omega)
  have g3 := hcell 3 (by omega)
  change W.cell? (a.add 0) = some v0 at g0
  change W.cell? (a.add 1) = some v1 at g1
  change W.cell? (a.add 2) = some v2 at g2
  change W.cell? (a.add 3) = some v3 at g3
  obtain ⟨ys, n, _, hy, _, hyl, hf⟩ := DataW.trod_struct Tryz.underlying99 h
  subst hy
  have hyl' : ys.length = 4 := by simpa using hyl
  have f0 := hf 0 _ rfl
  have f1 := hf 1 _ rfl
  have f2 := hf 2 _ rfl
  have f3 := hf 3 _ rfl
  rw [List.getElem?_eq_getElem (by omega)] at f0 f1 f2 f3
  change DataW.trod enc Tryz.prog W base spare held n 3 (List.take (Tryz.prog.cellsOf 3) [v0, v1, v2, v3]) = _ at f0
  change DataW.trod enc Tryz.prog W base spare held n 3 (List.take (Tryz.prog.cellsOf 3) [v1, v2, v3]) = _ at f1
  change DataW.trod enc Tryz.prog W base spare held n 9 (List.take (Tryz.prog.cellsOf 9) [v2, v3]) = _ at f2
  change DataW.trod enc Tryz.prog W base spare held n 9 (List.take (Tryz.prog.cellsOf 9) [v3]) = _ at f3
  rw [cells_int] at f0 f1
  rw [cells_string] at f2 f3
  obtain ⟨i, e0, _, wi⟩ := DataW.trod_int Tryz.underlying3 f0
  obtain ⟨x, e1, _, wx⟩ := DataW.trod_int Tryz.underlying3 f1
  have w2 := near_field Tryz.underlying99 hw (j := 2) rfl rfl (List.getElem?_eq_getElem (by omega))
  have w3 := near_field Tryz.underlying99 hw (j := 3) rfl rfl (List.getElem?_eq_getElem (by omega))
  obtain ⟨s, e2, x2, ws⟩ := DataW.trod_string Tryz.underlying9 f2
  obtain ⟨v, e3, x3, wv⟩ := DataW.trod_string Tryz.underlying9 f3
  rw [x2] at w2
  rw [x3] at w3
  have ws := near_string w2
  have wv := near_string w3
  have hsp : a.spot = none := by
   have := World.cell?_spot g0
   simpa [Addr.add] using this
  obtain ⟨b, off, spot⟩ := a
  obtain rfl : spot = none := hsp
  rw [add_off] at g0 g1 g2 g3
  simp at e0 e1 e2 e3
  subst e0 e1 e2 e3
  have ri := int_range wi
  have rx := int_range wx
  exact ⟨⟨i, x, s, v⟩, ⟨g0, g1, g2, g3⟩, ⟨ri.1, ri.2, rx.1, rx.2, ws, wv⟩, rfl⟩
theorem props_of_trod {fuel : Nat} {v : Value} {y : DataW H × List MemPlace} (hw : Near 26 y.1) (h : DataW.trod enc Tryz.prog W base spare held fuel 26 [v] = some y) :
  ∃ A l c, v = .slice A (List.length l) c ∧ PropsAt W W.heap.size A l ∧ (∀ p ∈ l, Fit p) ∧ l.length ≤ c ∧ l.length ≤ 9223372036854775807 := by
 rcases Go.Deep.open_slice Tryz.underlying26 h with ⟨hcs, _⟩ | ⟨a, len, cap, m, k, D, Pl, hcs, _, hl, hcm, hm, hx, hi⟩
 ·simp at hcs
  subst hcs
  exact ⟨none, [], 0, rfl, .inl rfl, by simp, by simp, by simp⟩
 ·simp at hcs
  subst hcs
  have hml : len ≤ m := by rw [hm]; split <;> omega
  rw [cells_prop] at hi
  have key : ∀ i, i < len → ∃ p, PAt W (a.add (i * 4)).block (a.add (i * 4)).off p ∧ Fit p ∧ (a.add (i * 4)).spot = none := fun i hin => by
   obtain ⟨cs, hc, ht⟩ := hi i (by omega)
   refine one_prop hc ?_ ht
   rw [hx] at hw
   exact near_elem Tryz.underlying26 hw (List.mem_map.2 ⟨i, List.mem_range.2 hin, rfl⟩)
  have hcm' : cap ≤ 9223372036854775807 := by unfold maxLen at hcm; omega
  by_cases h0 : len = 0
  ·subst h0
   exact ⟨some a, [], cap, rfl, .inl rfl, by simp, by simp, by simp⟩
  ·have hsp : a.spot = none := by
    obtain ⟨_, _, _, h⟩ := key 0 (by omega)
    simpa [Addr.add] using h
   obtain ⟨b, off, spot⟩ := a
   obtain rfl : spot = none := hsp
   have key2 : ∀ i, ∃ p : P, i < len → PAt W b (off + i * 4) p ∧ Fit p := fun i => by
    by_cases hin : i < len
    ·obtain ⟨p, hp, hfp, _⟩ := key i hin
     rw [add_off] at hp
     exact ⟨p, fun _ => ⟨hp, hfp⟩⟩
    ·exact ⟨⟨0, 0, ⟨#[]⟩, ⟨#[]⟩⟩, fun h => absurd h hin⟩
   obtain ⟨f, hf⟩ := Classical.axiomOfChoice key2
   refine ⟨some ⟨b, off, none⟩, (List.range len).map f, cap, by simp, .inr ⟨b, off, rfl, ?_, fun j hj => ?_⟩, fun p hp => ?_, by simpa using hl, by simp; omega⟩
   ·exact cell_lt (hf 0 (by omega)).1.c0
   ·have hj' : j < len := by simpa using hj
    rw [List.getElem_map, List.getElem_range]
    exact (hf j hj').1
   ·rw [List.mem_map] at hp
    obtain ⟨j, hj, rfl⟩ := hp
    exact (hf j (by simpa using hj)).2
end
open Go.RowKit Go.Lib Prp
theorem Place_is (x : Int) (b : Bool) (w : World) (h : placeB x = b) :
  Calls Tryz.prog 71 #[.int .i64 x] w fun e w' => e = .returned (.bool b) ∧ w = w' := by
 have HB := Lib.hid h
 clear h
 unfold placeB at HB
 by_cases h0 : 0 ≤ x
 ·go_enter Tryz.func71, Tryz.ntmps71
  go_wp2
  go_ret
  exact ⟨ret_bool (eq_dec' HB.out (by simp; omega)), rfl⟩
 ·go_enter Tryz.func71, Tryz.ntmps71
  go_wp2
  go_ret
  exact ⟨ret_bool (dec_false' HB.out (by omega)), rfl⟩
open Go.RowKit Go.Lib Prp
theorem to_i (v : Value) (w : World) : (Instr.typeAssert (.iface 3 v) 20 3 false).run Tryz.prog w = .ok v w := by kernel_rfl
theorem to_s (v : Value) (w : World) : (Instr.typeAssert (.iface 9 v) 20 9 false).run Tryz.prog w = .ok v w := by kernel_rfl
theorem valueOf_num (k id n : Int) (s v : ByteArray) (w : World) (h : k ≠ 5 ∧ k ≠ 6 ∧ k ≠ 7) :
  Calls Tryz.prog 140 #[.int .i64 k, .agg #[.int .i64 id, .int .i64 n, .string s, .string v]] w fun e w' => e = .returned (.iface 3 (.int .i64 n)) ∧ Below w.heap.size w w' := by
 obtain ⟨h5, h6, h7⟩ := h
 replace h5 := ne_false h5
 replace h6 := ne_false h6
 replace h7 := ne_false h7
 go_enter Tryz.func140, Tryz.ntmps140
 go_wp2
 go_ret
 exact ⟨rfl, (Below.refl _ _).alloc (Nat.le_refl _) _⟩
theorem valueOf_str (k id n : Int) (s v : ByteArray) (w : World) (h : k = 5 ∨ k = 6) :
  Calls Tryz.prog 140 #[.int .i64 k, .agg #[.int .i64 id, .int .i64 n, .string s, .string v]] w fun e w' => e = .returned (.iface 9 (.string s)) ∧ Below w.heap.size w w' := by
 rcases h with rfl | rfl <;>
 ·go_enter Tryz.func140, Tryz.ntmps140
  go_wp2
  go_ret
  exact ⟨rfl, (Below.refl _ _).alloc (Nat.le_refl _) _⟩
theorem valueOf_two (id n : Int) (s v : ByteArray) (w : World) :
  Calls Tryz.prog 140 #[.int .i64 7, .agg #[.int .i64 id, .int .i64 n, .string s, .string v]] w fun e w' => e = .returned (.iface 195 (.agg #[.string s, .string v])) ∧ Below w.heap.size w w' := by
 go_enter Tryz.func140, Tryz.ntmps140
 go_wp2
 go_ret
 exact ⟨rfl, (Below.refl _ _).alloc (Nat.le_refl _) _⟩
open Go.RowKit Go.Lib Prp Vbi
def Wrong (w : World) (e : Ending) (w' : World) : Prop := ∃ (S : ByteArray) (E : Int), e = .returned (.tuple #[.string S, .int .i64 E]) ∧ E ≠ 0 ∧ Below w.heap.size w w'
theorem Text_yes (s A : ByteArray) (w : World) (hm : s.size ≤ 9223372036854775807) (h : textB s = true) (hA : strOfNums (fixZ 2 s.size) ++ s = A) :
  Calls Tryz.prog 92 #[.string s] w fun e w' => e = .returned (.tuple #[.string A, .int .i64 0]) ∧ Below w.heap.size w w' := by
 unfold textB at h
 have h0 := of_decide_eq_true h
 refine Text_is s A 0 w hm ?_ h0
 rcases lo_cases true s with ⟨_, _, e⟩ | ⟨e, _⟩
 ·exact e.trans hA
 ·exact absurd h0 e
theorem Text_no (s : ByteArray) (w : World) (hm : s.size ≤ 9223372036854775807) (h : textB s = false) :
  Calls Tryz.prog 92 #[.string s] w fun e w' => ∃ E : Int, e = .returned (.tuple #[.string ⟨#[]⟩, .int .i64 E]) ∧ E ≠ 0 ∧ Below w.heap.size w w' := by
 unfold textB at h
 have h0 := of_decide_eq_false h
 rcases lo_cases true s with ⟨e, _, _⟩ | ⟨_, e⟩
 ·exact absurd e h0
 ·exact (Text_is s _ _ w hm e rfl).mono fun _ _ ⟨h1, h2⟩ => ⟨_, h1, h0, h2⟩
theorem putPair_good (s v S : ByteArray) (w : World) (h1 : textB s = true) (h2 : textB v = true)
  (hS : (strOfNums (fixZ 2 s.size) ++ s) ++ (strOfNums (fixZ 2 v.size) ++ v) = S) :
  Calls Tryz.prog 161 #[.agg #[.string s, .string v]] w fun e w' => e = .returned (.tuple #[.string S, .int .i64 0]) ∧ Below w.heap.size w w' := by
 have z1 := text_size h1
 have z2 := text_size h2
 obtain ⟨A, hA⟩ : ∃ A, strOfNums (fixZ 2 s.size) ++ s = A := ⟨_, rfl⟩
 obtain ⟨B, hB⟩ : ∃ B, strOfNums (fixZ 2 v.size) ++ v = B := ⟨_, rfl⟩
 have HA := Lib.hid (fun W => Text_yes s A W (by omega) h1 hA)
 have HB := Lib.hid (fun W => Text_yes v B W (by omega) h2 hB)
 have hAz : A.size ≤ 1026 := by rw [← hA, size_2]; omega
 have hBz : B.size ≤ 1026 := by rw [← hB, size_2]; omega
 rw [hA, hB] at hS
 have HS := Lib.hid hS
 clear h1 h2 hA hB hS
 go_enter Tryz.func161, Tryz.ntmps161
 go_wp2_with fail
 refine (HA.out _).mono ?_
 rintro e w1 ⟨rfl, hb1⟩
 have q1 : w1.cell? ⟨w.heap.size, 1, none⟩ = some (.string v) := ((Box.new w _ _).below hb1).cell 1
 have HX1 := Lib.hid (((Below.refl w.heap.size w).alloc (Nat.le_refl _) (.cells #[.string s, .string v] 195)).trans (hb1.mono (by simp)))
 clear hb1 HA
 go_wp2_with fail
 refine (HB.out _).mono ?_
 rintro e w2 ⟨rfl, hb2⟩
 have HX2 := Lib.hid (HX1.out.trans (hb2.mono HX1.out.size))
 clear hb2 HB q1
 go_wp2_with fail
 go_ret2
 exact ⟨by rw [← HS.out]; rfl, HX2.out⟩
theorem putPair_bad (s v : ByteArray) (w : World) (hs : s.size ≤ 9223372036854775807) (hv : v.size ≤ 9223372036854775807) (h : (textB s && textB v) = false) :
  Calls Tryz.prog 161 #[.agg #[.string s, .string v]] w (Wrong w) := by
 cases h1 : textB s with
 | false =>
  have HA := Lib.hid (fun W => Text_no s W hs h1)
  clear h h1
  go_enter Tryz.func161, Tryz.ntmps161
  go_wp2_with fail
  refine (HA.out _).mono ?_
  rintro e w1 ⟨E, rfl, hE, hb1⟩
  have HX1 := Lib.hid (((Below.refl w.heap.size w).alloc (Nat.le_refl _) (.cells #[.string s, .string v] 195)).trans (hb1.mono (by simp)))
  have hb := ne_true hE
  have HE := Lib.hid hE
  clear hb1 HA hE
  go_wp2_with fail
  go_ret2
  exact ⟨_, E, rfl, HE.out, HX1.out⟩
 | true =>
  have h2 : textB v = false := by rw [h1, Bool.true_and] at h; exact h
  have z1 := text_size h1
  obtain ⟨A, hA⟩ : ∃ A, strOfNums (fixZ 2 s.size) ++ s = A := ⟨_, rfl⟩
  have HA := Lib.hid (fun W => Text_yes s A W hs h1 hA)
  have HB := Lib.hid (fun W => Text_no v W hv h2)
  clear h h1 h2 hA
  go_enter Tryz.func161, Tryz.ntmps161
  go_wp2_with fail
  refine (HA.out _).mono ?_
  rintro e w1 ⟨rfl, hb1⟩
  have q1 : w1.cell? ⟨w.heap.size, 1, none⟩ = some (.string v) := ((Box.new w _ _).below hb1).cell 1
  have HX1 := Lib.hid (((Below.refl w.heap.size w).alloc (Nat.le_refl _) (.cells #[.string s, .string v] 195)).trans (hb1.mono (by simp)))
  clear hb1 HA
  go_wp2_with fail
  refine (HB.out _).mono ?_
  rintro e w2 ⟨E, rfl, hE, hb2⟩
  have HX2 := Lib.hid (HX1.out.trans (hb2.mono HX1.out.size))
  have hb := ne_true hE
  have HE := Lib.hid hE
  clear hb2 HB q1 hE
  go_wp2_with fail
  go_ret2
  exact ⟨_, E, rfl, HE.out, HX2.out⟩
theorem conv_byte (z : Int) (w : World) : (convert 68 9 (.slice (some ⟨w.heap.size, 0, none⟩) 1 1)).run Tryz.prog (w.alloc (.cells #[.int .u8 z] 5)) = .ok (.string (strOfNums [z])) (w.alloc (.cells #[.int .u8 z] 5)) := by
 have hown : (w.alloc (.cells #[.int .u8 z] 5)).ownsRow w.heap.size 5 1 (.slice (some ⟨w.heap.size, 0, none⟩) 1 1) ([z] : List Int).length (([z] : List Int).map (Value.int .u8)) :=
  ⟨rfl, .inr ⟨w.heap.size, 1, #[.int .u8 z], rfl, Nat.le_refl _, heap_alloc_new w _, Nat.le_refl _, by unfold maxLen; omega, rfl, rfl⟩⟩
 exact conv_bytes hown
theorem put_1 (n : Int) (S : ByteArray) (w : World) (h : n = 0 ∨ n = 1) (hS : strOfNums [n] = S) :
  Calls Tryz.prog 141 #[.int .i64 1, .iface 3 (.int .i64 n)] w fun e w' => e = .returned (.tuple #[.string S, .int .i64 0]) ∧ Below w.heap.size w w' := by
 have HS := Lib.hid hS
 clear hS
 have a1 := to_i
 have hcv := conv_byte
 rcases h with rfl | rfl <;>
 ·go_enter Tryz.func141, Tryz.ntmps141
  go_wp2
  go_ret2
  exact ⟨by rw [← HS.out]; rfl, (Below.refl _ _).alloc (Nat.le_refl _) _⟩
theorem put_2 (n : Int) (S : ByteArray) (E : Int) (w : World) (h1 : n ≤ 9223372036854775807) (hS : fixStr 2 n = S) (hE : fixErr 2 n = E) :
  Calls Tryz.prog 141 #[.int .i64 2, .iface 3 (.int .i64 n)] w fun e w' => e = .returned (.tuple #[.string S, .int .i64 E]) ∧ Below w.heap.size w w' := by
 have H := Lib.hid (fun W => Two_is n S E W h1 hS hE)
 clear hS hE
 have a1 := to_i
 go_enter Tryz.func141, Tryz.ntmps141
 go_wp2_with fail
 refine (H.out _).mono ?_
 rintro e w1 ⟨rfl, hb1⟩
 have HX := Lib.hid hb1
 clear hb1
 go_wp2_with fail
 go_ret2
 exact ⟨rfl, HX.out⟩
theorem put_3 (n : Int) (S : ByteArray) (E : Int) (w : World) (h1 : n ≤ 9223372036854775807) (hS : fixStr 4 n = S) (hE : fixErr 4 n = E) :
  Calls Tryz.prog 141 #[.int .i64 3, .iface 3 (.int .i64 n)] w fun e w' => e = .returned (.tuple #[.string S, .int .i64 E]) ∧ Below w.heap.size w w' := by
 have H := Lib.hid (fun W => Four_is n S E W h1 hS hE)
 clear hS hE
 have a1 := to_i
 go_enter Tryz.func141, Tryz.ntmps141
 go_wp2_with fail
 refine (H.out _).mono ?_
 rintro e w1 ⟨rfl, hb1⟩
 have HX := Lib.hid hb1
 clear hb1
 go_wp2_with fail
 go_ret2
 exact ⟨rfl, HX.out⟩
theorem put_4 (n : Int) (S : ByteArray) (E : Int) (w : World) (hS : numStr n = S) (hE : numErr n = E) :
  Calls Tryz.prog 141 #[.int .i64 4, .iface 3 (.int .i64 n)] w fun e w' => e = .returned (.tuple #[.string S, .int .i64 E]) ∧ Below w.heap.size w w' := by
 have H := Lib.hid (fun W => Num_is n S E W hS hE)
 clear hS hE
 have a1 := to_i
 go_enter Tryz.func141, Tryz.ntmps141
 go_wp2_with fail
 refine (H.out _).mono ?_
 rintro e w1 ⟨rfl, hb1⟩
 have HX := Lib.hid hb1
 clear hb1
 go_wp2_with fail
 go_ret2
 exact ⟨rfl, HX.out⟩
theorem put_5 (s S : ByteArray) (E : Int) (w : World) (h1 : s.size ≤ 9223372036854775807) (hS : loStr true s = S) (hE : loErr true s = E) :
  Calls Tryz.prog 141 #[.int .i64 5, .iface 9 (.string s)] w fun e w' => e = .returned (.tuple #[.string S, .int .i64 E]) ∧ Below w.heap.size w w' := by
 have H := Lib.hid (fun W => Text_is s S E W h1 hS hE)
 clear hS hE
 have a1 := to_s
 go_enter Tryz.func141, Tryz.ntmps141
 go_wp2_with fail
 refine (H.out _).mono ?_
 rintro e w1 ⟨rfl, hb1⟩
 have HX := Lib.hid hb1
 clear hb1
 go_wp2_with fail
 go_ret2
 exact ⟨rfl, HX.out⟩
theorem put_6 (s S : ByteArray) (E : Int) (w : World) (hS : binStr s = S) (hE : binErr s = E) :
  Calls Tryz.prog 141 #[.int .i64 6, .iface 9 (.string s)] w fun e w' => e = .returned (.tuple #[.string S, .int .i64 E]) ∧ Below w.heap.size w w' := by
 have H := Lib.hid (fun W => Bin_is s S E W hS hE)
 clear hS hE
 have a1 := to_s
 go_enter Tryz.func141, Tryz.ntmps141
 go_wp2_with fail
 refine (H.out _).mono ?_
 rintro e w1 ⟨rfl, hb1⟩
 have HX := Lib.hid hb1
 clear hb1
 go_wp2_with fail
 go_ret2
 exact ⟨rfl, HX.out⟩
theorem put_7 (s v S : ByteArray) (w : World) (h1 : textB s = true) (h2 : textB v = true) (hS : (strOfNums (fixZ 2 s.size) ++ s) ++ (strOfNums (fixZ 2 v.size) ++ v) = S) :
  Calls Tryz.prog 141 #[.int .i64 7, .iface 195 (.agg #[.string s, .string v])] w fun e w' => e = .returned (.tuple #[.string S, .int .i64 0]) ∧ Below w.heap.size w w' := by
 have H := Lib.hid (fun W => putPair_good s v S W h1 h2 hS)
 clear hS h1 h2
 have a1 := to_p
 go_enter Tryz.func141, Tryz.ntmps141
 go_wp2_with fail
 refine (H.out _).mono ?_
 rintro e w1 ⟨rfl, hb1⟩
 have HX := Lib.hid hb1
 clear hb1
 go_wp2_with fail
 go_ret2
 exact ⟨rfl, HX.out⟩
theorem put_7bad (s v : ByteArray) (w : World) (hs : s.size ≤ 9223372036854775807) (hv : v.size ≤ 9223372036854775807) (h : (textB s && textB v) = false) :
  Calls Tryz.prog 141 #[.int .i64 7, .iface 195 (.agg #[.string s, .string v])] w (Wrong w) := by
 have H := Lib.hid (fun W => putPair_bad s v W hs hv h)
 clear hs hv h
 have a1 := to_p
 go_enter Tryz.func141, Tryz.ntmps141
 go_wp2_with fail
 refine (H.out _).mono ?_
 rintro e w1 ⟨T, E, rfl, hE, hb1⟩
 have HX := Lib.hid hb1
 have HE := Lib.hid hE
 clear hb1 hE
 go_wp2_with fail
 go_ret2
 exact ⟨T, E, rfl, HE.out, HX.out⟩
open Go.RowKit Go.Lib Prp Vbi
theorem valueOf_is (k id n : Int) (s v : ByteArray) (X : Value) (w : World) (hX : anyOf k ⟨id, n, s, v⟩ = X) :
  Calls Tryz.prog 140 #[.int .i64 k, .agg #[.int .i64 id, .int .i64 n, .string s, .string v]] w fun e w' => e = .returned X ∧ Below w.heap.size w w' := by
 subst hX
 unfold anyOf
 by_cases h5 : k = 5 ∨ k = 6
 ·rw [if_pos h5]; exact valueOf_str k id n s v w h5
 ·rw [if_neg h5]
  by_cases h7 : k = 7
  ·subst h7; rw [if_pos rfl]; exact valueOf_two id n s v w
  ·rw [if_neg h7]; exact valueOf_num k id n s v w (by omega)
theorem fix_yes {wd : Nat} {x : Int} (h0 : 0 ≤ x) (h1 : x < 256 ^ wd) : fixErr wd x = 0 ∧ fixStr wd x = strOfNums (fixZ wd x.toNat) := by
 rcases fix_cases wd x with ⟨_, _, e1, e2⟩ | ⟨_, _, _⟩
 ·exact ⟨e1, e2⟩
 ·omega
theorem fix_no {wd : Nat} {x : Int} (h : ¬ (0 ≤ x ∧ x < 256 ^ wd)) : fixErr wd x = 2 := by
 rcases fix_cases wd x with ⟨_, _, _, _⟩ | ⟨_, e1, e2⟩
 ·omega
 ·exact e1
theorem put_yes (k id n : Int) (s v S : ByteArray) (X : Value) (w : World) (hk0 : 0 ≤ k) (hk7 : k ≤ 7) (hk : k ≠ 0) (hn : n ≤ 9223372036854775807) (hs : s.size ≤ 9223372036854775807) (hX : anyOf k ⟨id, n, s, v⟩ = X) (hp : putB k n s v = true) (hS : valStr k ⟨id, n, s, v⟩ = S) :
  Calls Tryz.prog 141 #[.int .i64 k, X] w fun e w' => e = .returned (.tuple #[.string S, .int .i64 0]) ∧ Below w.heap.size w w' := by
 subst hX
 rcases kind_seven hk0 hk7 hk with rfl | rfl | rfl | rfl | rfl | rfl | rfl
 ·exact put_1 n S w (of_decide_eq_true hp) hS
 ·have h := of_decide_eq_true hp
  exact put_2 n S 0 w hn ((fix_yes h.1 h.2).2.trans hS) (fix_yes h.1 h.2).1
 ·have h := of_decide_eq_true hp
  exact put_3 n S 0 w hn ((fix_yes h.1 h.2).2.trans hS) (fix_yes h.1 h.2).1
 ·have h := of_decide_eq_true hp
  rcases numErr_cases n with ⟨_, _, e1, e2⟩ | ⟨_, _, _⟩
  ·exact put_4 n S 0 w (e2.trans hS) e1
  ·omega
 ·have h : textB s = true := hp
  unfold textB at h
  have h := of_decide_eq_true h
  refine put_5 s S 0 w hs ?_ h
  rcases lo_cases true s with ⟨_, _, e⟩ | ⟨e, _⟩
  ·exact e.trans hS
  ·exact absurd h e
 ·have h : binB s = true := hp
  unfold binB at h
  have h := of_decide_eq_true h
  refine put_6 s S 0 w ?_ ?_
  ·unfold binStr; rw [if_neg (by omega)]; exact hS
  ·unfold binErr; rw [if_neg (by omega)]
 ·have h : (textB s && textB v) = true := hp
  rw [Bool.and_eq_true] at h
  exact put_7 s v S w h.1 h.2 hS
theorem put_no (k id n : Int) (s v : ByteArray) (X : Value) (w : World) (hk0 : 0 ≤ k) (hk7 : k ≤ 7) (hk : k ≠ 0) (hk1 : k = 1 → n = 0 ∨ n = 1) (hn : n ≤ 9223372036854775807) (hs : s.size ≤ 9223372036854775807) (hv : v.size ≤ 9223372036854775807) (hX : anyOf k ⟨id, n, s, v⟩ = X) (hp : putB k n s v = false) :
  Calls Tryz.prog 141 #[.int .i64 k, X] w (Wrong w) := by
 subst hX
 rcases kind_seven hk0 hk7 hk with rfl | rfl | rfl | rfl | rfl | rfl | rfl
 ·exact absurd (hk1 rfl) (of_decide_eq_false hp)
 ·exact (put_2 n _ _ w hn rfl (fix_no (of_decide_eq_false hp))).mono fun _ _ ⟨h1, h2⟩ => ⟨_, 2, h1, by decide, h2⟩
 ·exact (put_3 n _ _ w hn rfl (fix_no (of_decide_eq_false hp))).mono fun _ _ ⟨h1, h2⟩ => ⟨_, 2, h1, by decide, h2⟩
 ·have h := of_decide_eq_false hp
  rcases numErr_cases n with ⟨_, _, _, _⟩ | ⟨_, e1, e2⟩
  ·omega
  ·exact (put_4 n _ _ w rfl e1).mono fun _ _ ⟨h1, h2⟩ => ⟨_, 2, h1, by decide, h2⟩
 ·have h : textB s = false := hp
  unfold textB at h
  have h := of_decide_eq_false h
  exact (put_5 s _ _ w hs rfl rfl).mono fun _ _ ⟨h1, h2⟩ => ⟨_, _, h1, h, h2⟩
 ·have h : binB s = false := hp
  unfold binB at h
  have h := of_decide_eq_false h
  refine (put_6 s _ 2 w rfl ?_).mono fun _ _ ⟨h1, h2⟩ => ⟨_, 2, h1, by decide, h2⟩
  unfold binErr; rw [if_pos (by omega)]
 ·exact put_7bad s v w hs hv hp
theorem putOne_wrong (k id n : Int) (s v : ByteArray) (w : World) (hk : kindZ id = k) (hk0 : k ≠ 0) (hk1 : k = 1 → n = 0 ∨ n = 1) (hn : n ≤ 9223372036854775807) (hs : s.size ≤ 9223372036854775807) (hv : v.size ≤ 9223372036854775807) (hp : putB k n s v = false) :
  Calls Tryz.prog 113 #[.agg #[.int .i64 id, .int .i64 n, .string s, .string v]] w fun e w' => e = .returned (.tuple #[.string ⟨#[]⟩, .int .i64 1]) ∧ Below w.heap.size w w' := by
 have hr := kind_range id
 rw [hk] at hr
 obtain ⟨X, hX⟩ : ∃ X, anyOf k ⟨id, n, s, v⟩ = X := ⟨_, rfl⟩
 have HK := Lib.hid (fun W => Kind_is id k _ W hk rfl)
 have HV := Lib.hid (fun W => valueOf_is k id n s v X W hX)
 have HP := Lib.hid (fun W => put_no k id n s v X W hr.1 hr.2 hk0 hk1 hn hs hv hX hp)
 clear hk hk0 hk1 hX hp hr
 go_enter Tryz.func113, Tryz.ntmps113
 go_wp2_with fail
 have HB := Lib.hid (Keep.new w 99 #[.int .i64 id, .int .i64 n, .string s, .string v])
 generalize w.alloc (.cells #[.int .i64 id, .int .i64 n, .string s, .string v] 99) = w0 at HB ⊢
 refine (HK.out _).mono ?_
 rintro e w' ⟨rfl, rfl⟩
 obtain ⟨c0, c1, c2, c3⟩ := HB.out.four
 go_wp2_with fail
 refine (HV.out _).mono ?_
 rintro e w1 ⟨rfl, hb1⟩
 have HB1 := Lib.hid (HB.out.below hb1)
 clear c0 c1 c2 c3 hb1 HB HV
 go_wp2_with fail
 refine (HP.out _).mono ?_
 rintro e w2 ⟨S, E, rfl, hE, hb2⟩
 have HB2 := Lib.hid (HB1.out.below hb2)
 have hE2 := ne_true hE
 clear hb2 HB1 HP hE
 go_wp2_with fail
 go_quiet (fail)
 go_wp2_with fail
 go_ret2
 exact ⟨rfl, below_drewN HB2.out.out.2 _⟩
open Go.RowKit Go.Lib Prp
def upTo (l : List P) (k : Nat) : Nat := l.length + ((l.take k).map fun p => p.s.size + p.v.size).sum
theorem upTo_zero (l : List P) : upTo l 0 = l.length := by unfold upTo; rw [List.take_zero]; rfl
theorem upTo_step {l : List P} {k : Nat} (hk : k < l.length) : upTo l (k + 1) = upTo l k + (l[k].s.size + l[k].v.size) := by
 unfold upTo
 rw [List.take_succ_eq_append_getElem hk, List.map_append, List.sum_append]
 simp
 omega
def Weighs (l : List P) (w : World) (e : Ending) (w' : World) : Prop := ∃ m : Nat, e = .returned (.int .i64 (m : Int)) ∧ (m ≤ 10000 → m = upTo l l.length) ∧ m ≤ 9223372036854775807 ∧ ∃ n, w' = w.drewN n
theorem PropsWeight_is (l : List P) (A : Option Addr) (c B : Nat) (w : World) (hm : l.length ≤ 9223372036854775807) (hfit : ∀ p ∈ l, Fit p) (h : PropsAt w B A l) :
  Calls Tryz.prog 56 #[.slice A l.length c] w (Weighs l w) := by
 have H := Lib.hid h
 have HF := Lib.hid hfit
 clear h hfit
 go_enter Tryz.func56, Tryz.ntmps56
 go_wp2_with fail
 go_loopw [3, 4] (fun m i wr => ∃ k n : Nat, k ≤ l.length ∧ i = .int .i64 (k : Int) ∧ m = .int .i64 ((upTo l k : Nat) : Int) ∧ upTo l k ≤ 9223372036854775807 ∧ wr = w.drewN n) (fun _ i _ => l.length - (RowKit.intOf i).toNat)
 case atStart => exact ⟨0, 0, Nat.zero_le _, rfl, by rw [upTo_zero], by rw [upTo_zero]; exact hm, rfl⟩
 case round =>
  obtain ⟨k, n, hk, rfl, rfl, hb, rfl⟩ := hrel
  by_cases hlt : k < l.length
  ·by_cases hgo : upTo l k < 1048576
   ·obtain ⟨b0, o, rfl, _, hc⟩ := H.out.some_ (by omega)
    obtain ⟨d0, d1, d2, d3⟩ := hc k hlt
    have hf := HF.out _ (List.getElem_mem hlt)
    have HU := Lib.hid (upTo_step hlt)
    have hs := hf.hs
    have hv := hf.hv
    clear hc d0 d1 hf
    obtain ⟨q, hq⟩ : ∃ q, l[k] = q := ⟨_, rfl⟩
    rw [hq] at d2 d3 hs hv HU
    clear hq
    obtain ⟨U, hU⟩ : ∃ U, upTo l k = U := ⟨_, rfl⟩
    rw [hU] at HU hgo hb ⊢
    clear hU
    have hkI : (k : Int) < (l.length : Int) := by omega
    have hgI : (U : Int) < 1048576 := by omega
    go_wp2
    go_quiet (fail)
    go_wp2
    go_roundw
    case rel => exact ⟨k + 1, _, hlt, by go_num, by rw [HU.out]; go_num, by rw [HU.out]; omega, rfl⟩
    case measure => simp [RowKit.intOf]; omega
   ·obtain ⟨U, hU⟩ : ∃ U, upTo l k = U := ⟨_, rfl⟩
    rw [hU] at hgo hb ⊢
    have hd : decide ((U : Int) < 1048576) = false := by simp; omega
    clear hU
    go_wp2
    go_ret
    exact ⟨U, rfl, fun e => by omega, hb, n, rfl⟩
  ·obtain rfl : k = l.length := by omega
   obtain ⟨U, hU⟩ : ∃ U, upTo l l.length = U := ⟨_, rfl⟩
   rw [hU] at hb ⊢
   have HU := Lib.hid hU
   clear hU
   go_wp2
   go_ret
   exact ⟨U, rfl, fun _ => HU.out.symm, hb, n, rfl⟩
open Go.RowKit Go.Lib Prp Vbi
theorem putOne_same (k id n : Int) (s v S : ByteArray) (w : World) (hk : kindZ id = k) (hk0 : k ≠ 0) (hn : n ≤ 9223372036854775807) (hs : s.size ≤ 9223372036854775807) (hp : putB k n s v = true)
  (hd : diffB (strip k ⟨id, n, s, v⟩) ⟨id, n, s, v⟩ = false) (hS : oneStr ⟨id, n, s, v⟩ = S) :
  Calls Tryz.prog 113 #[.agg #[.int .i64 id, .int .i64 n, .string s, .string v]] w fun e w' => e = .returned (.tuple #[.string S, .int .i64 0]) ∧ Below w.heap.size w w' := by
 have hr := kind_range id
 rw [hk] at hr
 obtain ⟨hi1, hi42⟩ := kind_id (id := id) (by rw [hk]; exact hk0)
 obtain ⟨X, hX⟩ : ∃ X, anyOf k ⟨id, n, s, v⟩ = X := ⟨_, rfl⟩
 obtain ⟨T, hT⟩ : ∃ T, valStr k ⟨id, n, s, v⟩ = T := ⟨_, rfl⟩
 obtain ⟨⟨i', n', s', v'⟩, hq⟩ : ∃ q, strip k ⟨id, n, s, v⟩ = q := ⟨_, rfl⟩
 have hz : T.size ≤ 2052 := by rw [← hT]; exact val_size hr.1 hr.2 hk0 hp
 have HK := Lib.hid (fun W => Kind_is id k _ W hk rfl)
 have HV := Lib.hid (fun W => valueOf_is k id n s v X W hX)
 have HP := Lib.hid (fun W => put_yes k id n s v T X W hr.1 hr.2 hk0 hn hs hX hp hT)
 have HO := Lib.hid (fun W => propOf_is k id n i' n' s v s' v' X W hX hq)
 have HS : Hid (strOfNums [id] ++ T = S) := by
  show _ = _
  rw [← hS, ← hT]
  unfold oneStr
  show _ = strOfNums [id] ++ valStr (kindZ id) _
  rw [hk]
 rw [hq] at hd
 have hne := neq_props i' n' id n s' v' s v
 rw [hd] at hne
 have HN := Lib.hid hne
 have hcv := conv_byte
 have hz1 : (strOfNums [id]).size ≤ 1 := by rw [strOfNums_size]; simp
 clear hk hk0 hX hp hr hT hq hd hS hne
 go_enter Tryz.func113, Tryz.ntmps113
 go_wp2_with fail
 have HB := Lib.hid (Keep.new w 99 #[.int .i64 id, .int .i64 n, .string s, .string v])
 obtain ⟨g, hg⟩ : ∃ g, w.heap.size = g := ⟨_, rfl⟩
 generalize w.alloc (.cells #[.int .i64 id, .int .i64 n, .string s, .string v] 99) = w0 at HB ⊢
 rw [hg] at HB ⊢
 have HG := Lib.hid hg
 clear hg
 refine (HK.out _).mono ?_
 rintro e w' ⟨rfl, rfl⟩
 obtain ⟨c0, c1, c2, c3⟩ := HB.out.four
 go_wp2_with fail
 refine (HV.out _).mono ?_
 rintro e w1 ⟨rfl, hb1⟩
 have HB1 := Lib.hid (HB.out.below hb1)
 clear c0 c1 c2 c3 hb1 HB HV
 go_wp2_with fail
 refine (HP.out _).mono ?_
 rintro e w2 ⟨rfl, hb2⟩
 have HB2 := HB1.out.below hb2
 clear hb2 HB1 HP
 obtain ⟨c0, c1, c2, c3⟩ := HB2.four
 have hne2 := HN.out
 go_wp2_with fail
 go_region_held3 (fun W => W.cell? ⟨g, 0, none⟩ = some (.int .i64 id) ∧ W.cell? ⟨g, 1, none⟩ = some (.int .i64 n) ∧ W.cell? ⟨g, 2, none⟩ = some (.string s) ∧ W.cell? ⟨g, 3, none⟩ = some (.string v) ∧ Keep w g #[.int .i64 id, .int .i64 n, .string s, .string v] W)
  (first | exact ⟨d0, d1, d2, d3, st⟩ | exact ⟨c0, c1, c2, c3, HB2.drewN 1⟩)
  (first | (go_at_call 142; (with_reducible refine (HO.out _).mono ?_); rintro e w3 ⟨rfl, hb3⟩; have st := (HB2.drewN 1).below hb3; obtain ⟨d0, d1, d2, d3⟩ := st.four))
 have HB3 := Lib.hid st.out.2
 clear hb3 st d1 d2 d3 c0 c1 c2 c3 HB2 hne2 HO HN
 go_wp2_with fail
 go_ret2
 exact ⟨by rw [← HS.out]; rfl, HB3.out.alloc HB3.out.size _⟩
theorem putOne_diff (k id n : Int) (s v : ByteArray) (w : World) (hk : kindZ id = k) (hk0 : k ≠ 0) (hn : n ≤ 9223372036854775807) (hs : s.size ≤ 9223372036854775807) (hp : putB k n s v = true)
  (hd : diffB (strip k ⟨id, n, s, v⟩) ⟨id, n, s, v⟩ = true) :
  Calls Tryz.prog 113 #[.agg #[.int .i64 id, .int .i64 n, .string s, .string v]] w fun e w' => e = .returned (.tuple #[.string ⟨#[]⟩, .int .i64 1]) ∧ Below w.heap.size w w' := by
 have hr := kind_range id
 rw [hk] at hr
 obtain ⟨X, hX⟩ : ∃ X, anyOf k ⟨id, n, s, v⟩ = X := ⟨_, rfl⟩
 obtain ⟨T, hT⟩ : ∃ T, valStr k ⟨id, n, s, v⟩ = T := ⟨_, rfl⟩
 obtain ⟨⟨i', n', s', v'⟩, hq⟩ : ∃ q, strip k ⟨id, n, s, v⟩ = q := ⟨_, rfl⟩
 have hz : T.size ≤ 2052 := by rw [← hT]; exact val_size hr.1 hr.2 hk0 hp
 have HK := Lib.hid (fun W => Kind_is id k _ W hk rfl)
 have HV := Lib.hid (fun W => valueOf_is k id n s v X W hX)
 have HP := Lib.hid (fun W => put_yes k id n s v T X W hr.1 hr.2 hk0 hn hs hX hp hT)
 have HO := Lib.hid (fun W => propOf_is k id n i' n' s v s' v' X W hX hq)
 rw [hq] at hd
 have hne := neq_props i' n' id n s' v' s v
 rw [hd] at hne
 have HN := Lib.hid hne
 clear hk hk0 hX hp hr hT hq hd hne
 go_enter Tryz.func113, Tryz.ntmps113
 go_wp2_with fail
 have HB := Lib.hid (Keep.new w 99 #[.int .i64 id, .int .i64 n, .string s, .string v])
 obtain ⟨g, hg⟩ : ∃ g, w.heap.size = g := ⟨_, rfl⟩
 generalize w.alloc (.cells #[.int .i64 id, .int .i64 n, .string s, .string v] 99) = w0 at HB ⊢
 rw [hg] at HB ⊢
 have HG := Lib.hid hg
 clear hg
 refine (HK.out _).mono ?_
 rintro e w' ⟨rfl, rfl⟩
 obtain ⟨c0, c1, c2, c3⟩ := HB.out.four
 go_wp2_with fail
 refine (HV.out _).mono ?_
 rintro e w1 ⟨rfl, hb1⟩
 have HB1 := Lib.hid (HB.out.below hb1)
 clear c0 c1 c2 c3 hb1 HB HV
 go_wp2_with fail
 refine (HP.out _).mono ?_
 rintro e w2 ⟨rfl, hb2⟩
 have HB2 := HB1.out.below hb2
 clear hb2 HB1 HP
 obtain ⟨c0, c1, c2, c3⟩ := HB2.four
 have hne2 := HN.out
 go_wp2_with fail
 go_region_held3 (fun W => W.cell? ⟨g, 0, none⟩ = some (.int .i64 id) ∧ W.cell? ⟨g, 1, none⟩ = some (.int .i64 n) ∧ W.cell? ⟨g, 2, none⟩ = some (.string s) ∧ W.cell? ⟨g, 3, none⟩ = some (.string v) ∧ Keep w g #[.int .i64 id, .int .i64 n, .string s, .string v] W)
  (first | exact ⟨d0, d1, d2, d3, st⟩ | exact ⟨c0, c1, c2, c3, HB2.drewN 1⟩)
  (first | (go_at_call 142; (with_reducible refine (HO.out _).mono ?_); rintro e w3 ⟨rfl, hb3⟩; have st := (HB2.drewN 1).below hb3; obtain ⟨d0, d1, d2, d3⟩ := st.four))
 have HB3 := Lib.hid st.out.2
 clear hb3 st d0 d1 d2 d3 c0 c1 c2 c3 HB2 hne2 HO HN
 go_wp2_with fail
 go_ret2
 exact ⟨rfl, HB3.out⟩
theorem putOne_yes (id n : Int) (s v S : ByteArray) (w : World) (hk0 : kindZ id ≠ 0) (hn : n ≤ 9223372036854775807) (hs : s.size ≤ 9223372036854775807) (hb : valB (kindZ id) ⟨id, n, s, v⟩ = true) (hS : oneStr ⟨id, n, s, v⟩ = S) :
  Calls Tryz.prog 113 #[.agg #[.int .i64 id, .int .i64 n, .string s, .string v]] w fun e w' => e = .returned (.tuple #[.string S, .int .i64 0]) ∧ Below w.heap.size w w' := by
 have hr := kind_range id
 rw [val_put _ id n s v hr.1 hr.2 hk0, Bool.and_eq_true, Bool.not_eq_true'] at hb
 exact putOne_same _ id n s v S w rfl hk0 hn hs hb.1 hb.2 hS
theorem putOne_no (id n : Int) (s v : ByteArray) (w : World) (hk0 : kindZ id ≠ 0) (hk1 : kindZ id = 1 → n = 0 ∨ n = 1) (hn : n ≤ 9223372036854775807) (hs : s.size ≤ 9223372036854775807) (hv : v.size ≤ 9223372036854775807) (hb : valB (kindZ id) ⟨id, n, s, v⟩ = false) :
  Calls Tryz.prog 113 #[.agg #[.int .i64 id, .int .i64 n, .string s, .string v]] w fun e w' => e = .returned (.tuple #[.string ⟨#[]⟩, .int .i64 1]) ∧ Below w.heap.size w w' := by
 have hr := kind_range id
 rw [val_put _ id n s v hr.1 hr.2 hk0] at hb
 cases hp : putB (kindZ id) n s v with
 | false => exact putOne_wrong _ id n s v w rfl hk0 hk1 hn hs hv hp
 | true =>
  rw [hp, Bool.true_and, Bool.not_eq_false'] at hb
  exact putOne_diff _ id n s v w rfl hk0 hn hs hp hb
open Go.RowKit Go.Lib
theorem builder_size : (Tryz.prog.info? 103).map (·.size) = some 2 := by kernel_rfl
theorem builder_lies : liesAt Tryz.prog Tryz.prog.depth 103 (2 / Tryz.prog.cellsOf 103) 0 103 1 = true := by kernel_rfl
theorem copyCheck_used (b : Nat) (w : World) (h0 : w.cell? ⟨b, 0, none⟩ = some (.pointer (some ⟨b, 0, none⟩))) :
  Calls Tryz.prog 95 #[.pointer (some ⟨b, 0, none⟩)] w fun e w' => e = .returned (.tuple #[]) ∧ w = w' := by
 obtain ⟨j, hj, _⟩ := Option.map_eq_some_iff.1 builder_size
 go_enter Tryz.func95, Tryz.ntmps95
 go_wp2
 rw [Lib.run_neq_ptr_same w _ Tryz.underlying101 hj]
 go_wp2
 go_end0
 exact ⟨rfl, rfl⟩
theorem copyCheck_fresh (b : Nat) (w : World) (h0 : w.cell? ⟨b, 0, none⟩ = some (.pointer none)) (hsh : w.shape? b = some (103, 2)) (hfz : w.frozen? ⟨b, 0, none⟩ = false) :
  Calls Tryz.prog 95 #[.pointer (some ⟨b, 0, none⟩)] w fun e w' => e = .returned (.tuple #[]) ∧ w' = w.setCell ⟨b, 0, none⟩ (.pointer (some ⟨b, 0, none⟩)) := by
 obtain ⟨j, hj, hjs⟩ := Option.map_eq_some_iff.1 builder_size
 go_enter Tryz.func95, Tryz.ntmps95
 go_wp2
 rw [Lib.run_to_unsafe w ⟨b, 0, none⟩ Tryz.underlying101 Tryz.underlying164 hj (by rw [hjs]; decide) hsh (Nat.zero_lt_succ 1)]
 simp only [Result.andThen]
 rw [Oper.upon_value]
 go_wp2
 rw [run_callFunc_extern Tryz.func115 (by kernel_rfl) (by kernel_rfl) (by kernel_rfl) (e := Extern.AbiNoEscape.same) (by kernel_rfl), Lib.run_noEscape]
 simp only [Result.andThen]
 rw [Oper.upon_value]
 go_wp2
 rw [Lib.run_from_unsafe w ⟨b, 0, none⟩ Tryz.underlying164 Tryz.underlying101 hj hsh builder_lies]
 simp only [Result.andThen]
 rw [Oper.upon_value]
 go_wp2
 go_end0
 exact ⟨rfl, rfl⟩
theorem copyCheck_is (B b : Nat) (xs : List Value) (w : World) (h : IsBuilder 103 5 B b xs w) :
  Calls Tryz.prog 95 #[.pointer (some ⟨b, 0, none⟩)] w fun e w' => e = .returned (.tuple #[]) ∧ BuilderAt 103 5 B b (.pointer (some ⟨b, 0, none⟩)) xs w' ∧ Below B w w' := by
 rcases h with h | h
 ·exact (copyCheck_fresh b w h.cell0 h.shape h.frozen0).mono fun _ _ ⟨he, hw⟩ => ⟨he, by rw [hw]; exact h.used _, by rw [hw]; exact (Below.refl B w).setCell (p := ⟨b, 0, none⟩) h.1 _⟩
 ·exact (copyCheck_used b w h.cell0).mono fun _ _ ⟨he, hw⟩ => ⟨he, by rw [← hw]; exact h, by rw [← hw]; exact Below.refl B w⟩
theorem own_any {w : World} {B e n : Nat} {v : Value} {xs : List Value} (h : w.ownsRow B e 1 v n xs) : ∃ a m c, v = .slice a m c := by
 rcases h.2 with ⟨hv, _⟩ | ⟨g, cap, cur, hv, _⟩
 ·exact ⟨_, _, _, hv⟩
 ·exact ⟨_, _, _, hv⟩
theorem WriteString_cells (B b : Nat) (xs : List Value) (s : ByteArray) (w : World) (h : IsBuilder 103 5 B b xs w) (hlen : xs.length + s.size ≤ 140737488355328) (hBw : B ≤ w.heap.size) :
  Calls Tryz.prog 64 #[.pointer (some ⟨b, 0, none⟩), .string s] w fun e w' => (∃ v, e = .returned v) ∧ BuilderAt 103 5 B b (.pointer (some ⟨b, 0, none⟩)) (xs ++ Lib.strCells s) w' ∧ Below B w w' := by
 obtain ⟨i0, hi, hz0, hz1, hz2⟩ := info_parts info_byte
 have HC := Lib.hid (fun W hW => copyCheck_is B b xs W hW)
 go_enter Tryz.func64, Tryz.ntmps64
 go_wp2_with fail
 refine (HC.out _ h).mono ?_
 rintro e w1 ⟨rfl, ⟨hB, v, hbk, hown, hne⟩, hb1⟩
 have c0 : w1.cell? ⟨b, 0, none⟩ = some (.pointer (some ⟨b, 0, none⟩)) := by rw [Lib.cell_of_heap hbk]; rfl
 have c1 : w1.cell? ⟨b, 1, none⟩ = some v := by rw [Lib.cell_of_heap hbk]; rfl
 have hBw1 : B ≤ w1.heap.size := Nat.le_trans hBw hb1.size
 go_wp2_with (at_builtin; refine Lib.wpList_append_own_string _ rfl _ _ 68 9 rfl B 5 i0 Tryz.underlying68 Tryz.underlying9 hi hz0 hz1 hz2 _ _ _ rfl hown s rfl ?x1 ?x2 hBw1 ?_)
 case x1 => unfold maxLen; omega
 case x2 => omega
 intro v' w2 hown' hgrow _
 have hlt : b < w1.heap.size := (Array.getElem?_eq_some_iff.1 hbk).1
 have hb2 : w2.heap[b]? = some (.cells #[.pointer (some ⟨b, 0, none⟩), v] 103 (0, 0)) := (hgrow.block b hlt (fun e => hne e.symm)).trans hbk
 have d0 : w2.cell? ⟨b, 0, none⟩ = some (.pointer (some ⟨b, 0, none⟩)) := by rw [Lib.cell_of_heap hb2]; rfl
 have d1 : w2.cell? ⟨b, 1, none⟩ = some v := by rw [Lib.cell_of_heap hb2]; rfl
 have f1 : w2.frozen? ⟨b, 1, none⟩ = false := Lib.frozen_of_heap hb2 1
 obtain ⟨a, m, c, rfl⟩ := own_any hown'
 go_wp2
 go_ret2
 refine ⟨⟨_, rfl⟩, ?_, ?_⟩
 ·exact Lib.BuilderAt.put hB hb2 (bs' := xs ++ Lib.strCells s) (by simpa [Lib.strCells_length] using hown') (by decide)
 ·exact (hb1.grown hgrow hBw1 (fun k hk => (hown.lt k hk).1)).setCell (p := ⟨b, 1, none⟩) hB _
theorem cells_add (s t : ByteArray) : Lib.byteCells (s ++ t).data.toList = Lib.byteCells s.data.toList ++ Lib.strCells t := by
 rw [ByteArray.data_append, Array.toList_append]
 simp [Lib.byteCells, Lib.strCells]
theorem WriteString_is (B b : Nat) (s t : ByteArray) (w : World) (h : Built B b s w) (hlen : s.size + t.size ≤ 140737488355328) (hBw : B ≤ w.heap.size) :
  Calls Tryz.prog 64 #[.pointer (some ⟨b, 0, none⟩), .string t] w fun e w' => (∃ v, e = .returned v) ∧ Built B b (s ++ t) w' ∧ Below B w w' := by
 refine (WriteString_cells B b _ t w h ?_ hBw).mono fun _ _ ⟨h1, h2, h3⟩ => ⟨h1, .inr ?_, h3⟩
 ·have : (Lib.byteCells s.data.toList).length = s.size := by rw [Lib.size_eq]; simp [Lib.byteCells]
  omega
 ·rw [cells_add]; exact h2
theorem built_new (w : World) : Built w.heap.size w.heap.size ⟨#[]⟩ (w.alloc (.cells #[.pointer none, .slice none 0 0] 103)) := Lib.fresh_isBuilder _ _ w
theorem Len_is (B b : Nat) (s : ByteArray) (w : World) (h : Built B b s w) :
  Calls Tryz.prog 114 #[.pointer (some ⟨b, 0, none⟩)] w fun e w' => e = .returned (.int .i64 (s.size : Int)) ∧ w = w' := by
 have : (Lib.byteCells s.data.toList).length = s.size := by rw [Lib.size_eq]; simp [Lib.byteCells]
 rw [← this]
 exact (Tryz.Builder_Len B b _ w h).mono fun _ _ ⟨h1, h2⟩ => ⟨h1, h2.symm⟩
theorem String_is (B b : Nat) (s : ByteArray) (w : World) (h : Built B b s w) (hBw : B ≤ w.heap.size) :
  Calls Tryz.prog 65 #[.pointer (some ⟨b, 0, none⟩)] w fun e w' => e = .returned (.string s) ∧ Below B w w' :=
 (Tryz.Builder_String_any B b s.data.toList w h hBw).mono fun _ _ ⟨h1, h2⟩ => ⟨by rw [h1], h2⟩
open Go.RowKit Go.Lib Prp Vbi
def bytesStr (place : Int) (l : List P) : ByteArray := if propsB place l = true then propStr l else ⟨#[]⟩
def bytesErr (place : Int) (l : List P) : Int := if propsB place l = true then 0 else 1
theorem bytes_yes {place : Int} {l : List P} (h : propsB place l = true) : bytesStr place l = propStr l ∧ bytesErr place l = 0 := by unfold bytesStr bytesErr; rw [if_pos h, if_pos h]; exact ⟨rfl, rfl⟩
theorem bytes_no {place : Int} {l : List P} (h : propsB place l = false) : bytesStr place l = ⟨#[]⟩ ∧ bytesErr place l = 1 := by
 have h' : ¬ propsB place l = true := by rw [h]; decide
 unfold bytesStr bytesErr; rw [if_neg h', if_neg h']; exact ⟨rfl, rfl⟩
theorem props_place {place : Int} {l : List P} (h : placeB place = false) : propsB place l = false := by unfold propsB; rw [h]; rfl
theorem props_many {place : Int} {l : List P} (h : 8 < l.length) : propsB place l = false := by unfold propsB; rw [decide_eq_false (by omega)]; simp
theorem props_few {place : Int} {l : List P} (h : placeB place = true) (h8 : l.length ≤ 8) : propsB place l = goodL place [] l := by unfold propsB; rw [h, decide_eq_true h8]; simp
theorem good_step {place : Int} {l : List P} {k : Nat} (hk : k < l.length) : goodL place (l.take k) (l.drop k) = (goodB place (l.take k) l[k] && goodL place (l.take (k + 1)) (l.drop (k + 1))) := by
 rw [List.drop_eq_getElem_cons hk, List.take_succ_eq_append_getElem hk]; rfl
theorem rest_step {l : List P} {k : Nat} (hk : k < l.length) : restStr (l.take (k + 1)) = restStr (l.take k) ++ oneStr l[k] := by
 rw [List.take_succ_eq_append_getElem hk, rest_snoc]
section
variable {w W W' : World} {A : Option Addr} {l : List P} {b g : Nat} {S T : ByteArray} {cs : Array Value}
theorem BSt.write (h : BSt w A l b S W) (h1 : Built w.heap.size b T W') (hb : Below w.heap.size W W') : BSt w A l b T W' := .mk h1 (h.out.2.1.below hb) (h.out.2.2.trans hb)
end
theorem mayFollow_take (place id n : Int) (s v : ByteArray) (l : List P) (k : Nat) (A : Option Addr) (c B : Nat) (b : Bool) (w : World) (hk : k ≤ l.length) (hm : l.length ≤ 9223372036854775807) (h : PropsAt w B A l) (hB : B ≤ w.heap.size) (hb : mayB place (l.take k) ⟨id, n, s, v⟩ = b) :
  Calls Tryz.prog 112 #[.int .i64 place, .slice A k c, .agg #[.int .i64 id, .int .i64 n, .string s, .string v]] w fun e w' => e = .returned (.bool b) ∧ Below w.heap.size w w' := by
 have := mayFollow_is place id n s v (l.take k) A c b w (by rw [List.length_take]; omega) ((h.mono hB).take k) hb
 rwa [List.length_take, Nat.min_eq_left hk] at this
theorem may_kind {place id n : Int} {s v : ByteArray} {a : List P} (h : mayB place a ⟨id, n, s, v⟩ = true) : kindZ id ≠ 0 ∧ (kindZ id = 1 → n = 0 ∨ n = 1) := by
 unfold mayB at h
 rw [Bool.and_eq_true, Bool.and_eq_true] at h
 refine ⟨stand_kind h.1, fun h1 => ?_⟩
 have h2 : haveB id n = true := h.2.1
 unfold haveB at h2
 by_cases hz : noZ id
 ·unfold noZ at hz
  rcases hz with rfl | rfl | rfl | rfl <;> cases h1
 ·rw [if_neg hz] at h2
  have := of_decide_eq_true h2
  omega
theorem Bytes_is (place : Int) (l : List P) (A : Option Addr) (c : Nat) (S : ByteArray) (E : Int) (w : World) (hm : l.length ≤ 9223372036854775807) (hcap : l.length ≤ c) (hfit : ∀ p ∈ l, Fit p) (h : PropsAt w w.heap.size A l)
  (hS : bytesStr place l = S) (hE : bytesErr place l = E) :
  Calls Tryz.prog 94 #[.int .i64 place, .slice A l.length c] w fun e w' => e = .returned (.tuple #[.string S, .int .i64 E]) ∧ Below w.heap.size w w' := by
 have H := Lib.hid h
 have HF := Lib.hid hfit
 clear h hfit
 obtain ⟨x, hx⟩ : ∃ x, placeB place = x := ⟨_, rfl⟩
 have HP := Lib.hid (fun W => isPlace_is place x W hx)
 cases x with
 | false =>
  obtain ⟨e1, e2⟩ := bytes_no (props_place (l := l) hx)
  obtain rfl : ⟨#[]⟩ = S := e1.symm.trans hS
  obtain rfl : 1 = E := e2.symm.trans hE
  clear hx hS hE e1 e2
  go_enter Tryz.func94, Tryz.ntmps94
  go_wp2_with (go_at_call 111; refine (HP.out _).mono ?_; rintro e w' ⟨rfl, rfl⟩)
  go_ret2
  exact ⟨rfl, Below.refl _ _⟩
 | true =>
 by_cases h8 : 8 < l.length
 ·obtain ⟨e1, e2⟩ := bytes_no (props_many (place := place) h8)
  obtain rfl : ⟨#[]⟩ = S := e1.symm.trans hS
  obtain rfl : 1 = E := e2.symm.trans hE
  clear hx hS hE e1 e2
  go_enter Tryz.func94, Tryz.ntmps94
  go_wp2_with (go_at_call 111; refine (HP.out _).mono ?_; rintro e w' ⟨rfl, rfl⟩)
  go_ret2
  exact ⟨rfl, Below.refl _ _⟩
 have HG := Lib.hid (props_few hx (show l.length ≤ 8 by omega))
 have hd8 : decide (8 < (l.length : Int)) = false := by simp; omega
 have hl8 : l.length ≤ 8 := by omega
 have HS := Lib.hid hS
 have HE := Lib.hid hE
 clear hx hS hE
 go_enter Tryz.func94, Tryz.ntmps94
 go_wp2_with (go_at_call 111; refine (HP.out _).mono ?_; rintro e w' ⟨rfl, rfl⟩)
 have HB := Lib.hid (BSt.mk (w := w) (A := A) (l := l) (built_new w) (H.out.alloc (Nat.le_refl _) _) ((Below.refl _ _).alloc (Nat.le_refl _) _))
 obtain ⟨b, hb⟩ : ∃ b, w.heap.size = b := ⟨_, rfl⟩
 have hBb : BSt w A l b ⟨#[]⟩ (w.alloc (.cells #[.pointer none, .slice none 0 0] 103)) := by rw [← hb]; exact HB.out
 rw [hb]
 have HB0 := Lib.hid hBb
 clear hb hBb HB
 go_loopw [23] (fun i wr => ∃ k : Nat, k ≤ l.length ∧ i = .int .i64 (k : Int) ∧ BSt w A l b (restStr (l.take k)) wr ∧ goodL place [] l = goodL place (l.take k) (l.drop k) ∧ (restStr (l.take k)).size ≤ 2053 * k) (fun i _ => l.length - (RowKit.intOf i).toNat)
 case atStart => exact ⟨0, Nat.zero_le _, rfl, HB0.out, rfl, by rw [List.take_zero]; decide⟩
 case round =>
  obtain ⟨k, hk, rfl, hst, hgood, hsz⟩ := hrel
  have HT := Lib.hid hst
  have HGD := Lib.hid hgood
  have hsz2 : (restStr (l.take k)).size ≤ 16424 := by omega
  have HZ := Lib.hid hsz
  clear hst hgood hsz HB0
  by_cases hlt : k < l.length
  ·have HR := Lib.hid (rest_step hlt)
   have HGS := Lib.hid (HGD.out.trans (good_step hlt))
   have hfp : Fit l[k] := HF.out _ (List.getElem_mem hlt)
   obtain ⟨b0, o, rfl, hb0, hc⟩ := H.out.some_ (by omega)
   obtain ⟨_, _, hAeq, _, hcw⟩ := HT.out.out.2.1.some_ (by omega)
   obtain ⟨rfl, rfl⟩ : b0 = _ ∧ o = _ := by injection hAeq with e; injection e with e1 e2; exact ⟨e1, e2⟩
   obtain ⟨d0, d1, d2, d3⟩ := hcw k hlt
   clear hc hcw hAeq
   obtain ⟨q, hq⟩ : ∃ q, l[k] = q := ⟨_, rfl⟩
   rw [hq] at d0 d1 d2 d3 hfp
   have hqq : l[k] = q := hq
   have HR2 : Hid (restStr (l.take (k + 1)) = restStr (l.take k) ++ oneStr q) := by rw [← hqq]; exact HR.out
   have HGS2 : Hid (goodL place [] l = (goodB place (l.take k) q && goodL place (l.take (k + 1)) (l.drop (k + 1)))) := by rw [← hqq]; exact HGS.out
   clear hq hqq HR HGS
   obtain ⟨id, n, s, v⟩ := q
   have hn1 := hfp.n1
   have hs1 := hfp.hs
   have hv1 := hfp.hv
   obtain ⟨T, hT⟩ : ∃ T, restStr (l.take k) = T := ⟨_, rfl⟩
   rw [hT] at HT hsz2 HR2 HZ
   clear hT
   have HBP := BStP.new (cs := #[.int .i64 id, .int .i64 n, .string s, .string v]) HT.out 99
   have hkI : (k : Int) < (l.length : Int) := by omega
   obtain ⟨y, hy⟩ : ∃ y, mayB place (l.take k) ⟨id, n, s, v⟩ = y := ⟨_, rfl⟩
   have HM := Lib.hid (fun (W : World) (g : Nat) (h : BStP w (some ⟨b0, o, none⟩) l b T g #[.int .i64 id, .int .i64 n, .string s, .string v] W) => mayFollow_take place id n s v l k (some ⟨b0, o, none⟩) c w.heap.size y W hk hm h.out.1.out.2.1 h.out.1.out.2.2.size hy)
   have HY := Lib.hid hy
   clear hy
   go_wp2_with fail
   obtain ⟨g, hg⟩ : ∃ g, wr.heap.size = g := ⟨_, rfl⟩
   rw [hg] at HBP ⊢
   clear hg
   generalize wr.alloc (.cells #[.int .i64 id, .int .i64 n, .string s, .string v] 99) = wa at HBP ⊢
   obtain ⟨e0, e1, e2, e3⟩ := HBP.four
   clear d0 d1 d2 d3
   have hk0 : (0 : Int) ≤ (k : Int) := by omega
   have hkc : (k : Int) ≤ (c : Int) := by omega
   go_region_held3 (fun W => W.cell? ⟨g, 0, none⟩ = some (.int .i64 id) ∧ W.cell? ⟨g, 1, none⟩ = some (.int .i64 n) ∧ W.cell? ⟨g, 2, none⟩ = some (.string s) ∧ W.cell? ⟨g, 3, none⟩ = some (.string v) ∧ BStP w (some ⟨b0, o, none⟩) l b T g #[.int .i64 id, .int .i64 n, .string s, .string v] W)
    (first | exact ⟨f0, f1, f2, f3, st⟩ | exact ⟨e0, e1, e2, e3, HBP.drewN 1⟩)
    (first | (go_at_call 112; (with_reducible refine (HM.out _ g ?_).mono ?_); (exact HBP.drewN 1); rintro e w1 ⟨rfl, hb1⟩; have st := (HBP.drewN 1).below hb1; obtain ⟨f0, f1, f2, f3⟩ := st.four))
   have HB1 := Lib.hid st
   clear e0 e1 e2 e3 HBP HM
   have NO : Hid (propsB place l = false → S = ⟨#[]⟩ ∧ E = 1) := fun hp => ⟨HS.out.symm.trans (bytes_no hp).1, HE.out.symm.trans (bytes_no hp).2⟩
   cases y with
   | false =>
    obtain ⟨hS', hE'⟩ := NO.out (HG.out.trans (HGS2.out.trans (by rw [good_may, HY.out]; rfl)))
    have HS' := Lib.hid hS'
    have HE' := Lib.hid hE'
    clear hS' hE'
    go_wp2_with fail
    go_ret2
    exact ⟨by rw [HS'.out, HE'.out]; rfl, HB1.out.out.1.out.2.2⟩
   | true =>
    obtain ⟨hkind, hone⟩ := may_kind HY.out
    cases hval : valB (kindZ id) ⟨id, n, s, v⟩ with
    | false =>
     obtain ⟨hS', hE'⟩ := NO.out (HG.out.trans (HGS2.out.trans (by rw [good_may, HY.out]; show ((true && valB (kindZ id) ⟨id, n, s, v⟩) && _) = false; rw [hval]; rfl)))
     have HS' := Lib.hid hS'
     have HE' := Lib.hid hE'
     have HO := Lib.hid (fun W => putOne_no id n s v W hkind hone hn1 (by omega) (by omega) hval)
     clear hS' hE' hkind hone hval
     go_wp2_with fail
     refine (HO.out _).mono ?_
     rintro e w2 ⟨rfl, hb2⟩
     have HB2 := Lib.hid (HB1.out.below hb2)
     clear hb1 hb2 st f0 f1 f2 f3 HO HB1
     go_wp2_with fail
     go_ret2
     exact ⟨by rw [HS'.out, HE'.out]; rfl, HB2.out.out.1.out.2.2⟩
    | true =>
     obtain ⟨U, hU⟩ : ∃ U, oneStr ⟨id, n, s, v⟩ = U := ⟨_, rfl⟩
     have hUz : U.size ≤ 2053 := by rw [← hU]; exact one_size id n s v hkind hval
     have HO := Lib.hid (fun W => putOne_yes id n s v U W hkind hn1 (by omega) hval hU)
     have HG3 := Lib.hid (HGS2.out.trans (by rw [good_may, HY.out]; show ((true && valB (kindZ id) ⟨id, n, s, v⟩) && _) = _; rw [hval]; rfl : _ = goodL place (l.take (k + 1)) (l.drop (k + 1))))
     have HR3 : Hid (restStr (l.take (k + 1)) = T ++ U) := by rw [← hU]; exact HR2.out
     clear hkind hone hval hU
     go_wp2_with fail
     refine (HO.out _).mono ?_
     rintro e w2 ⟨rfl, hb2⟩
     have HB2 := Lib.hid (HB1.out.below hb2)
     clear hb1 hb2 st f0 f1 f2 f3 HO HB1
     go_wp2_with (go_at_call 64; refine (WriteString_is w.heap.size b T U _ HB2.out.out.1.out.1 (by omega) HB2.out.out.1.out.2.2.size).mono ?_; rintro e w3 ⟨⟨z, rfl⟩, hbu, hb3⟩)
     have HB3 := Lib.hid (HB2.out.out.1.write hbu hb3)
     clear hbu hb3 HB2
     go_roundw
     case rel => exact ⟨k + 1, hlt, by go_num, by rw [HR3.out]; exact HB3.out, HG3.out, by rw [HR3.out, ByteArray.size_append]; have := HZ.out; omega⟩
     case measure => simp [RowKit.intOf]; omega
  ·obtain rfl : k = l.length := by omega
   have hgo : goodL place [] l = true := by have := HGD.out; rw [List.drop_length] at this; exact this
   have hp : propsB place l = true := HG.out.trans hgo
   have hst := HT.out
   rw [List.take_length] at hst hsz2
   have HT2 := Lib.hid hst
   obtain ⟨R, hR⟩ : ∃ R, restStr l = R := ⟨_, rfl⟩
   rw [hR] at HT2 hsz2
   obtain ⟨N, hN⟩ : ∃ N, strOfNums (numZ R.size) = N := ⟨_, rfl⟩
   have hNz : N.size ≤ 4 := by rw [← hN, strOfNums_size, numZ_len (by omega)]; exact (numLen_le _).2
   have HN := Lib.hid (fun W => Num_is (R.size : Int) N 0 W (by
    rcases numErr_cases (R.size : Int) with ⟨_, _, _, e⟩ | ⟨h0, _⟩
    ·rw [e, Int.toNat_natCast, hN]
    ·omega) (by
    rcases numErr_cases (R.size : Int) with ⟨_, _, e, _⟩ | ⟨h0, _⟩
    ·exact e
    ·omega))
   have HS' : Hid (S = N ++ R) := HS.out.symm.trans ((bytes_yes hp).1.trans (by unfold propStr; rw [hR, hN]))
   have HE' : Hid (E = 0) := HE.out.symm.trans (bytes_yes hp).2
   clear hgo hp hst hR hN HT HGD HZ
   go_wp2_with (go_at_call 114; refine (Len_is w.heap.size b R _ HT2.out.out.1).mono ?_; rintro e w' ⟨rfl, rfl⟩)
   refine (HN.out _).mono ?_
   rintro e w4 ⟨rfl, hb4⟩
   have HT3 := Lib.hid (HT2.out.below hb4)
   clear hb4 HT2 HN
   go_wp2_with (go_at_call 65; refine (String_is w.heap.size b R _ HT3.out.out.1 HT3.out.out.2.2.size).mono ?_; rintro e w5 ⟨rfl, hb5⟩)
   go_ret2
   exact ⟨by rw [HS'.out, HE'.out]; rfl, HT3.out.out.2.2.trans hb5⟩
end Go.Proofs.YtdbbcfohjkgdcaaGreat
