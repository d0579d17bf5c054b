/- The fifth layer's statements: where a round stands: a packet that was taken, beside the ask. -/
import Derived.Test.YtdbbcfohjkgdcaaGreatM00
import Derived.Test.YtdbbcfohjkgdcaaGreatM19
import Derived.Test.YtdbbcfohjkgdcaaGreatM22
import Derived.Test.YtdbbcfohjkgdcaaGreatM24
import Derived.Test.YtdbbcfohjkgdcaaGreatM25
set_option maxRecDepth 100000
set_option maxHeartbeats 64000000
namespace Go.Proofs.YtdbbcfohjkgdcaaGreat
open Go.ChangeShapes Go.WideShapes Go.ChangeAt Go.RowKit Prp Pkt
theorem cells_bool : Tryz.prog.cellsOf 4 = 1 := by kernel_rfl
theorem cells_ints : Tryz.prog.cellsOf 24 = 1 := by kernel_rfl
theorem cells_filters : Tryz.prog.cellsOf 25 = 1 := by kernel_rfl
theorem cells_filter : Tryz.prog.cellsOf 75 = 5 := by kernel_rfl
theorem cells_will : Tryz.prog.cellsOf 28 = 6 := by kernel_rfl
theorem cells_packet : Tryz.prog.cellsOf 30 = 25 := by kernel_rfl
section
variable {H : Type} {enc : TypeId × Value → H} {W : World} {base : Nat} {spare : Nat → Bool} {held : Bool}
theorem one_filter {fuel : Nat} {a : Addr} {cs : List Value} {y : DataW H × List MemPlace} (hc : W.cells? base a 5 = some cs) (hw : Near 75 y.1) (h : DataW.trod enc Tryz.prog W base spare held fuel 75 cs = some y) :
  ∃ p, FAt W a.block a.off p ∧ FFit p ∧ a.spot = none := by
 obtain ⟨_, hlen, hcell⟩ := World.cells?_some hc
 match cs, hlen with
 | [v0, v1, v2, v3, v4], _ =>
  have g0 := hcell 0 (by omega)
  have g1 := hcell 1 (by omega)
  have g2 := hcell 2 (by omega)
  have g3 := hcell 3 (by omega)
  have g4 := hcell 4 (by omega)
  change W.cell? (a.add 0) = some v0 at g0
  change W.cell? (a.add 1) = some v1 at g1
  change W.cell? (a.add 2) = some v2 at g2
  change W.cell? (a.add 3) = some v3 at g3
  change W.cell? (a.add 4) = some v4 at g4
  obtain ⟨ys, n, _, hy, _, hyl, hf⟩ := DataW.trod_struct Tryz.underlying75 h
  subst hy
  have hyl' : ys.length = 5 := by simpa using hyl
  have f0 := hf 0 _ rfl
  have f1 := hf 1 _ rfl
  have f2 := hf 2 _ rfl
  have f3 := hf 3 _ rfl
  have f4 := hf 4 _ rfl
  rw [List.getElem?_eq_getElem (by omega)] at f0 f1 f2 f3 f4
  change DataW.trod enc Tryz.prog W base spare held n 9 (List.take (Tryz.prog.cellsOf 9) [v0, v1, v2, v3, v4]) = _ at f0
  change DataW.trod enc Tryz.prog W base spare held n 3 (List.take (Tryz.prog.cellsOf 3) [v1, v2, v3, v4]) = _ at f1
  change DataW.trod enc Tryz.prog W base spare held n 4 (List.take (Tryz.prog.cellsOf 4) [v2, v3, v4]) = _ at f2
  change DataW.trod enc Tryz.prog W base spare held n 4 (List.take (Tryz.prog.cellsOf 4) [v3, v4]) = _ at f3
  change DataW.trod enc Tryz.prog W base spare held n 3 (List.take (Tryz.prog.cellsOf 3) [v4]) = _ at f4
  rw [cells_string] at f0
  rw [cells_int] at f1
  rw [cells_bool] at f2
  rw [cells_bool] at f3
  rw [cells_int] at f4
  obtain ⟨s, e0, x0, ws⟩ := DataW.trod_string Tryz.underlying9 f0
  obtain ⟨q, e1, _, wq⟩ := DataW.trod_int Tryz.underlying3 f1
  obtain ⟨nl, e2, _⟩ := DataW.trod_bool Tryz.underlying4 f2
  obtain ⟨ar, e3, _⟩ := DataW.trod_bool Tryz.underlying4 f3
  obtain ⟨h', e4, _, wh⟩ := DataW.trod_int Tryz.underlying3 f4
  have w0 := near_field Tryz.underlying75 hw (j := 0) rfl rfl (List.getElem?_eq_getElem (by omega))
  rw [x0] at w0
  have ws := near_string w0
  have hsp : a.spot = none := by
   have := World.cell?_spot g0
   simpa [Addr.add] using this
  obtain ⟨b, off, spot⟩ := a
  obtain rfl : spot = none := hsp
  rw [add_off] at g0 g1 g2 g3 g4
  simp at e0 e1 e2 e3 e4
  subst e0 e1 e2 e3 e4
  have rq := int_range wq
  have rh := int_range wh
  exact ⟨⟨s, q, nl, ar, h'⟩, ⟨g0, g1, g2, g3, g4⟩, ⟨rq.1, rq.2, rh.1, rh.2, ws⟩, rfl⟩
theorem filters_of_trod {fuel : Nat} {v : Value} {y : DataW H × List MemPlace} (hw : Near 25 y.1) (h : DataW.trod enc Tryz.prog W base spare held fuel 25 [v] = some y) :
  ∃ A l c, v = .slice A (List.length l) c ∧ FilsAt W W.heap.size A l ∧ (∀ p ∈ l, FFit p) ∧ l.length ≤ c ∧ l.length ≤ 9223372036854775807 := by
 rcases Go.Deep.open_slice Tryz.underlying25 h with ⟨hcs, _⟩ | ⟨a, len, cap, m, k, D, Pl, hcs, _, hl, hcm, hm, hx, hi⟩
 ·simp at hcs
  subst hcs
  exact ⟨none, [], 0, rfl, .inl rfl, by simp, by simp, by simp⟩
 ·simp at hcs
  subst hcs
  have hml : len ≤ m := by rw [hm]; split <;> omega
  rw [cells_filter] at hi
  have key : ∀ i, i < len → ∃ p, FAt W (a.add (i * 5)).block (a.add (i * 5)).off p ∧ FFit p ∧ (a.add (i * 5)).spot = none := fun i hin => by
   obtain ⟨cs, hc, ht⟩ := hi i (by omega)
   refine one_filter hc ?_ ht
   rw [hx] at hw
   exact near_elem Tryz.underlying25 hw (List.mem_map.2 ⟨i, List.mem_range.2 hin, rfl⟩)
  have hcm' : cap ≤ 9223372036854775807 := by unfold maxLen at hcm; omega
  by_cases h0 : len = 0
  ·subst h0
   exact ⟨some a, [], cap, rfl, .inl rfl, by simp, by simp, by simp⟩
  ·have hsp : a.spot = none := by
    obtain ⟨_, _, _, h⟩ := key 0 (by omega)
    simpa [Addr.add] using h
   obtain ⟨b, off, spot⟩ := a
   obtain rfl : spot = none := hsp
   have key2 : ∀ i, ∃ p : Fl, i < len → FAt W b (off + i * 5) p ∧ FFit p := fun i => by
    by_cases hin : i < len
    ·obtain ⟨p, hp, hfp, _⟩ := key i hin
     rw [add_off] at hp
     exact ⟨p, fun _ => ⟨hp, hfp⟩⟩
    ·exact ⟨⟨⟨#[]⟩, 0, false, false, 0⟩, fun h => absurd h hin⟩
   obtain ⟨f, hf⟩ := Classical.axiomOfChoice key2
   refine ⟨some ⟨b, off, none⟩, (List.range len).map f, cap, by simp, .inr ⟨b, off, rfl, ?_, fun j hj => ?_⟩, fun p hp => ?_, by simpa using hl, by simp; omega⟩
   ·exact cell_lt (hf 0 (by omega)).1.c0
   ·have hj' : j < len := by simpa using hj
    rw [List.getElem_map, List.getElem_range]
    exact (hf j hj').1
   ·rw [List.mem_map] at hp
    obtain ⟨j, hj, rfl⟩ := hp
    exact (hf j (by simpa using hj)).2
theorem ints_of_trod {fuel : Nat} {v : Value} {y : DataW H × List MemPlace} (h : DataW.trod enc Tryz.prog W base spare held fuel 24 [v] = some y) :
  ∃ A l c, v = .slice A (List.length l) c ∧ Nums W W.heap.size .i64 A l ∧ (∀ x ∈ l, -9223372036854775808 ≤ x ∧ x ≤ 9223372036854775807) ∧ l.length ≤ c ∧ l.length ≤ 9223372036854775807 := by
 rcases open_ints Tryz.underlying24 Tryz.underlying3 cells_int h with ⟨e1, _⟩ | ⟨p, len, cap, zs, e1, _, hl, hm, hz, _, hzc, hwz⟩
 ·simp at e1
  subst e1
  exact ⟨none, [], 0, rfl, Nums.none_, by simp, by simp, by simp⟩
 ·simp at e1
  subst e1
  have hzl : len ≤ zs.length := by rw [hz]; split <;> omega
  have htl : (zs.take len).length = len := by rw [List.length_take]; omega
  unfold maxLen at hm
  refine ⟨some p, zs.take len, cap, by rw [htl], ?_, fun r hr => int_range (hwz r (List.mem_of_mem_take hr)), by omega, by omega⟩
  by_cases h0 : len = 0
  ·subst h0; exact Nums.none_
  ·refine .inr ⟨p, rfl, ?_, fun j hj => ?_⟩
   ·have := cell_lt (hzc 0 (by omega))
    rwa [add_block] at this
   ·rw [htl] at hj
    rw [hzc j (by omega)]
    simp [hj]
theorem will_of_trod {fuel : Nat} {v0 v1 v2 v3 v4 v5 : Value} {y : DataW H × List MemPlace} (hw : Near 28 y.1) (h : DataW.trod enc Tryz.prog W base spare held fuel 28 [v0, v1, v2, v3, v4, v5] = some y) :
  ∃ x A c, [v0, v1, v2, v3, v4, v5] = (wlArr x A c).toList ∧ PropsAt W W.heap.size A x.ps ∧ (∀ p ∈ x.ps, Fit p) ∧ x.ps.length ≤ c ∧ x.ps.length ≤ 9223372036854775807 ∧ (-9223372036854775808 ≤ x.q ∧ x.q ≤ 9223372036854775807) ∧ x.t.size ≤ 140737488351232 ∧ x.b.size ≤ 140737488351232 := by
  obtain ⟨ys, n, _, hy, _, hyl, hf⟩ := DataW.trod_struct Tryz.underlying28 h
  subst hy
  have hyl' : ys.length = 6 := by simpa using hyl
  have f0 := hf 0 _ rfl
  have f1 := hf 1 _ rfl
  have f2 := hf 2 _ rfl
  have f3 := hf 3 _ rfl
  have f4 := hf 4 _ rfl
  have f5 := hf 5 _ rfl
  rw [List.getElem?_eq_getElem (by omega)] at f0 f1 f2 f3 f4 f5
  change DataW.trod enc Tryz.prog W base spare held n 4 (List.take (Tryz.prog.cellsOf 4) [v0, v1, v2, v3, v4, v5]) = _ at f0
  rw [cells_bool] at f0
  have f0 : DataW.trod enc Tryz.prog W base spare held n 4 [v0] = _ := f0
  obtain ⟨x0, e0, _⟩ := DataW.trod_bool Tryz.underlying4 f0
  try simp only [List.cons.injEq, and_true] at e0
  change DataW.trod enc Tryz.prog W base spare held n 3 (List.take (Tryz.prog.cellsOf 3) [v1, v2, v3, v4, v5]) = _ at f1
  rw [cells_int] at f1
  have f1 : DataW.trod enc Tryz.prog W base spare held n 3 [v1] = _ := f1
  obtain ⟨x1, e1, _, r1⟩ := DataW.trod_int Tryz.underlying3 f1
  have r1 := int_range r1
  try simp only [List.cons.injEq, and_true] at e1
  change DataW.trod enc Tryz.prog W base spare held n 4 (List.take (Tryz.prog.cellsOf 4) [v2, v3, v4, v5]) = _ at f2
  rw [cells_bool] at f2
  have f2 : DataW.trod enc Tryz.prog W base spare held n 4 [v2] = _ := f2
  obtain ⟨x2, e2, _⟩ := DataW.trod_bool Tryz.underlying4 f2
  try simp only [List.cons.injEq, and_true] at e2
  change DataW.trod enc Tryz.prog W base spare held n 9 (List.take (Tryz.prog.cellsOf 9) [v3, v4, v5]) = _ at f3
  rw [cells_string] at f3
  have f3 : DataW.trod enc Tryz.prog W base spare held n 9 [v3] = _ := f3
  obtain ⟨x3, e3, r3, _⟩ := DataW.trod_string Tryz.underlying9 f3
  have n3 := near_field Tryz.underlying28 hw (j := 3) rfl rfl (List.getElem?_eq_getElem (by omega))
  rw [r3] at n3
  have k3 := near_string n3
  try simp only [List.cons.injEq, and_true] at e3
  change DataW.trod enc Tryz.prog W base spare held n 9 (List.take (Tryz.prog.cellsOf 9) [v4, v5]) = _ at f4
  rw [cells_string] at f4
  have f4 : DataW.trod enc Tryz.prog W base spare held n 9 [v4] = _ := f4
  obtain ⟨x4, e4, r4, _⟩ := DataW.trod_string Tryz.underlying9 f4
  have n4 := near_field Tryz.underlying28 hw (j := 4) rfl rfl (List.getElem?_eq_getElem (by omega))
  rw [r4] at n4
  have k4 := near_string n4
  try simp only [List.cons.injEq, and_true] at e4
  change DataW.trod enc Tryz.prog W base spare held n 26 (List.take (Tryz.prog.cellsOf 26) [v5]) = _ at f5
  rw [cells_props] at f5
  have f5 : DataW.trod enc Tryz.prog W base spare held n 26 [v5] = _ := f5
  have n5 := near_field Tryz.underlying28 hw (j := 5) rfl rfl (List.getElem?_eq_getElem (by omega))
  obtain ⟨A5, x5, c5, e5, m5, t5, p5, l5⟩ := props_of_trod n5 f5
  try simp only [List.cons.injEq, and_true] at e5
  subst e0 e1 e2 e3 e4 e5
  exact ⟨⟨x0, x1, x2, x3, x4, x5⟩, A5, c5, rfl, m5, t5, p5, l5, r1, k3, k4⟩
theorem packet_of_trod {fuel : Nat} {v0 v1 v2 v3 v4 v5 v6 v7 v8 v9 v10 v11 v12 v13 v14 v15 v16 v17 v18 v19 v20 v21 v22 v23 v24 : Value} {y : DataW H × List MemPlace} (hw : Near 30 y.1) (h : DataW.trod enc Tryz.prog W base spare held fuel 30 [v0, v1, v2, v3, v4, v5, v6, v7, v8, v9, v10, v11, v12, v13, v14, v15, v16, v17, v18, v19, v20, v21, v22, v23, v24] = some y) :
  ∃ p a, [v0, v1, v2, v3, v4, v5, v6, v7, v8, v9, v10, v11, v12, v13, v14, v15, v16, v17, v18, v19, v20, v21, v22, v23, v24] = (pkArr p a).toList ∧ PkAt W W.heap.size p a ∧ PkFit p a := by
  obtain ⟨ys, n, _, hy, _, hyl, hf⟩ := DataW.trod_struct Tryz.underlying30 h
  subst hy
  have hyl' : ys.length = 20 := by simpa using hyl
  have f0 := hf 0 _ rfl
  have f1 := hf 1 _ rfl
  have f2 := hf 2 _ rfl
  have f3 := hf 3 _ rfl
  have f4 := hf 4 _ rfl
  have f5 := hf 5 _ rfl
  have f6 := hf 6 _ rfl
  have f7 := hf 7 _ rfl
  have f8 := hf 8 _ rfl
  have f9 := hf 9 _ rfl
  have f10 := hf 10 _ rfl
  have f11 := hf 11 _ rfl
  have f12 := hf 12 _ rfl
  have f13 := hf 13 _ rfl
  have f14 := hf 14 _ rfl
  have f15 := hf 15 _ rfl
  have f16 := hf 16 _ rfl
  have f17 := hf 17 _ rfl
  have f18 := hf 18 _ rfl
  have f19 := hf 19 _ rfl
  rw [List.getElem?_eq_getElem (by omega)] at f0 f1 f2 f3 f4 f5 f6 f7 f8 f9 f10 f11 f12 f13 f14 f15 f16 f17 f18 f19
  change DataW.trod enc Tryz.prog W base spare held n 3 (List.take (Tryz.prog.cellsOf 3) [v0, v1, v2, v3, v4, v5, v6, v7, v8, v9, v10, v11, v12, v13, v14, v15, v16, v17, v18, v19, v20, v21, v22, v23, v24]) = _ at f0
  rw [cells_int] at f0
  have f0 : DataW.trod enc Tryz.prog W base spare held n 3 [v0] = _ := f0
  obtain ⟨x0, e0, _, r0⟩ := DataW.trod_int Tryz.underlying3 f0
  have r0 := int_range r0
  try simp only [List.cons.injEq, and_true] at e0
  change DataW.trod enc Tryz.prog W base spare held n 4 (List.take (Tryz.prog.cellsOf 4) [v1, v2, v3, v4, v5, v6, v7, v8, v9, v10, v11, v12, v13, v14, v15, v16, v17, v18, v19, v20, v21, v22, v23, v24]) = _ at f1
  rw [cells_bool] at f1
  have f1 : DataW.trod enc Tryz.prog W base spare held n 4 [v1] = _ := f1
  obtain ⟨x1, e1, _⟩ := DataW.trod_bool Tryz.underlying4 f1
  try simp only [List.cons.injEq, and_true] at e1
  change DataW.trod enc Tryz.prog W base spare held n 3 (List.take (Tryz.prog.cellsOf 3) [v2, v3, v4, v5, v6, v7, v8, v9, v10, v11, v12, v13, v14, v15, v16, v17, v18, v19, v20, v21, v22, v23, v24]) = _ at f2
  rw [cells_int] at f2
  have f2 : DataW.trod enc Tryz.prog W base spare held n 3 [v2] = _ := f2
  obtain ⟨x2, e2, _, r2⟩ := DataW.trod_int Tryz.underlying3 f2
  have r2 := int_range r2
  try simp only [List.cons.injEq, and_true] at e2
  change DataW.trod enc Tryz.prog W base spare held n 4 (List.take (Tryz.prog.cellsOf 4) [v3, v4, v5, v6, v7, v8, v9, v10, v11, v12, v13, v14, v15, v16, v17, v18, v19, v20, v21, v22, v23, v24]) = _ at f3
  rw [cells_bool] at f3
  have f3 : DataW.trod enc Tryz.prog W base spare held n 4 [v3] = _ := f3
  obtain ⟨x3, e3, _⟩ := DataW.trod_bool Tryz.underlying4 f3
  try simp only [List.cons.injEq, and_true] at e3
  change DataW.trod enc Tryz.prog W base spare held n 3 (List.take (Tryz.prog.cellsOf 3) [v4, v5, v6, v7, v8, v9, v10, v11, v12, v13, v14, v15, v16, v17, v18, v19, v20, v21, v22, v23, v24]) = _ at f4
  rw [cells_int] at f4
  have f4 : DataW.trod enc Tryz.prog W base spare held n 3 [v4] = _ := f4
  obtain ⟨x4, e4, _, r4⟩ := DataW.trod_int Tryz.underlying3 f4
  have r4 := int_range r4
  try simp only [List.cons.injEq, and_true] at e4
  change DataW.trod enc Tryz.prog W base spare held n 9 (List.take (Tryz.prog.cellsOf 9) [v5, v6, v7, v8, v9, v10, v11, v12, v13, v14, v15, v16, v17, v18, v19, v20, v21, v22, v23, v24]) = _ at f5
  rw [cells_string] at f5
  have f5 : DataW.trod enc Tryz.prog W base spare held n 9 [v5] = _ := f5
  obtain ⟨x5, e5, r5, _⟩ := DataW.trod_string Tryz.underlying9 f5
  have n5 := near_field Tryz.underlying30 hw (j := 5) rfl rfl (List.getElem?_eq_getElem (by omega))
  rw [r5] at n5
  have k5 := near_string n5
  try simp only [List.cons.injEq, and_true] at e5
  change DataW.trod enc Tryz.prog W base spare held n 9 (List.take (Tryz.prog.cellsOf 9) [v6, v7, v8, v9, v10, v11, v12, v13, v14, v15, v16, v17, v18, v19, v20, v21, v22, v23, v24]) = _ at f6
  rw [cells_string] at f6
  have f6 : DataW.trod enc Tryz.prog W base spare held n 9 [v6] = _ := f6
  obtain ⟨x6, e6, r6, _⟩ := DataW.trod_string Tryz.underlying9 f6
  have n6 := near_field Tryz.underlying30 hw (j := 6) rfl rfl (List.getElem?_eq_getElem (by omega))
  rw [r6] at n6
  have k6 := near_string n6
  try simp only [List.cons.injEq, and_true] at e6
  change DataW.trod enc Tryz.prog W base spare held n 3 (List.take (Tryz.prog.cellsOf 3) [v7, v8, v9, v10, v11, v12, v13, v14, v15, v16, v17, v18, v19, v20, v21, v22, v23, v24]) = _ at f7
  rw [cells_int] at f7
  have f7 : DataW.trod enc Tryz.prog W base spare held n 3 [v7] = _ := f7
  obtain ⟨x7, e7, _, r7⟩ := DataW.trod_int Tryz.underlying3 f7
  have r7 := int_range r7
  try simp only [List.cons.injEq, and_true] at e7
  change DataW.trod enc Tryz.prog W base spare held n 4 (List.take (Tryz.prog.cellsOf 4) [v8, v9, v10, v11, v12, v13, v14, v15, v16, v17, v18, v19, v20, v21, v22, v23, v24]) = _ at f8
  rw [cells_bool] at f8
  have f8 : DataW.trod enc Tryz.prog W base spare held n 4 [v8] = _ := f8
  obtain ⟨x8, e8, _⟩ := DataW.trod_bool Tryz.underlying4 f8
  try simp only [List.cons.injEq, and_true] at e8
  change DataW.trod enc Tryz.prog W base spare held n 24 (List.take (Tryz.prog.cellsOf 24) [v9, v10, v11, v12, v13, v14, v15, v16, v17, v18, v19, v20, v21, v22, v23, v24]) = _ at f9
  rw [cells_ints] at f9
  have f9 : DataW.trod enc Tryz.prog W base spare held n 24 [v9] = _ := f9
  obtain ⟨A9, x9, c9, e9, m9, t9, p9, l9⟩ := ints_of_trod f9
  try simp only [List.cons.injEq, and_true] at e9
  change DataW.trod enc Tryz.prog W base spare held n 25 (List.take (Tryz.prog.cellsOf 25) [v10, v11, v12, v13, v14, v15, v16, v17, v18, v19, v20, v21, v22, v23, v24]) = _ at f10
  rw [cells_filters] at f10
  have f10 : DataW.trod enc Tryz.prog W base spare held n 25 [v10] = _ := f10
  have n10 := near_field Tryz.underlying30 hw (j := 10) rfl rfl (List.getElem?_eq_getElem (by omega))
  obtain ⟨A10, x10, c10, e10, m10, t10, p10, l10⟩ := filters_of_trod n10 f10
  try simp only [List.cons.injEq, and_true] at e10
  change DataW.trod enc Tryz.prog W base spare held n 9 (List.take (Tryz.prog.cellsOf 9) [v11, v12, v13, v14, v15, v16, v17, v18, v19, v20, v21, v22, v23, v24]) = _ at f11
  rw [cells_string] at f11
  have f11 : DataW.trod enc Tryz.prog W base spare held n 9 [v11] = _ := f11
  obtain ⟨x11, e11, r11, _⟩ := DataW.trod_string Tryz.underlying9 f11
  have n11 := near_field Tryz.underlying30 hw (j := 11) rfl rfl (List.getElem?_eq_getElem (by omega))
  rw [r11] at n11
  have k11 := near_string n11
  try simp only [List.cons.injEq, and_true] at e11
  change DataW.trod enc Tryz.prog W base spare held n 4 (List.take (Tryz.prog.cellsOf 4) [v12, v13, v14, v15, v16, v17, v18, v19, v20, v21, v22, v23, v24]) = _ at f12
  rw [cells_bool] at f12
  have f12 : DataW.trod enc Tryz.prog W base spare held n 4 [v12] = _ := f12
  obtain ⟨x12, e12, _⟩ := DataW.trod_bool Tryz.underlying4 f12
  try simp only [List.cons.injEq, and_true] at e12
  change DataW.trod enc Tryz.prog W base spare held n 3 (List.take (Tryz.prog.cellsOf 3) [v13, v14, v15, v16, v17, v18, v19, v20, v21, v22, v23, v24]) = _ at f13
  rw [cells_int] at f13
  have f13 : DataW.trod enc Tryz.prog W base spare held n 3 [v13] = _ := f13
  obtain ⟨x13, e13, _, r13⟩ := DataW.trod_int Tryz.underlying3 f13
  have r13 := int_range r13
  try simp only [List.cons.injEq, and_true] at e13
  change DataW.trod enc Tryz.prog W base spare held n 28 (List.take (Tryz.prog.cellsOf 28) [v14, v15, v16, v17, v18, v19, v20, v21, v22, v23, v24]) = _ at f14
  rw [cells_will] at f14
  have f14 : DataW.trod enc Tryz.prog W base spare held n 28 [v14, v15, v16, v17, v18, v19] = _ := f14
  have n14 := near_field Tryz.underlying30 hw (j := 14) rfl rfl (List.getElem?_eq_getElem (by omega))
  obtain ⟨x14, A14, c14, e14, m14, t14, p14, l14, q14, s14, z14⟩ := will_of_trod n14 f14
  change DataW.trod enc Tryz.prog W base spare held n 4 (List.take (Tryz.prog.cellsOf 4) [v20, v21, v22, v23, v24]) = _ at f15
  rw [cells_bool] at f15
  have f15 : DataW.trod enc Tryz.prog W base spare held n 4 [v20] = _ := f15
  obtain ⟨x15, e15, _⟩ := DataW.trod_bool Tryz.underlying4 f15
  try simp only [List.cons.injEq, and_true] at e15
  change DataW.trod enc Tryz.prog W base spare held n 9 (List.take (Tryz.prog.cellsOf 9) [v21, v22, v23, v24]) = _ at f16
  rw [cells_string] at f16
  have f16 : DataW.trod enc Tryz.prog W base spare held n 9 [v21] = _ := f16
  obtain ⟨x16, e16, r16, _⟩ := DataW.trod_string Tryz.underlying9 f16
  have n16 := near_field Tryz.underlying30 hw (j := 16) rfl rfl (List.getElem?_eq_getElem (by omega))
  rw [r16] at n16
  have k16 := near_string n16
  try simp only [List.cons.injEq, and_true] at e16
  change DataW.trod enc Tryz.prog W base spare held n 4 (List.take (Tryz.prog.cellsOf 4) [v22, v23, v24]) = _ at f17
  rw [cells_bool] at f17
  have f17 : DataW.trod enc Tryz.prog W base spare held n 4 [v22] = _ := f17
  obtain ⟨x17, e17, _⟩ := DataW.trod_bool Tryz.underlying4 f17
  try simp only [List.cons.injEq, and_true] at e17
  change DataW.trod enc Tryz.prog W base spare held n 9 (List.take (Tryz.prog.cellsOf 9) [v23, v24]) = _ at f18
  rw [cells_string] at f18
  have f18 : DataW.trod enc Tryz.prog W base spare held n 9 [v23] = _ := f18
  obtain ⟨x18, e18, r18, _⟩ := DataW.trod_string Tryz.underlying9 f18
  have n18 := near_field Tryz.underlying30 hw (j := 18) rfl rfl (List.getElem?_eq_getElem (by omega))
  rw [r18] at n18
  have k18 := near_string n18
  try simp only [List.cons.injEq, and_true] at e18
  change DataW.trod enc Tryz.prog W base spare held n 26 (List.take (Tryz.prog.cellsOf 26) [v24]) = _ at f19
  rw [cells_props] at f19
  have f19 : DataW.trod enc Tryz.prog W base spare held n 26 [v24] = _ := f19
  have n19 := near_field Tryz.underlying30 hw (j := 19) rfl rfl (List.getElem?_eq_getElem (by omega))
  obtain ⟨A19, x19, c19, e19, m19, t19, p19, l19⟩ := props_of_trod n19 f19
  try simp only [List.cons.injEq, and_true] at e19
  obtain ⟨hw0, hw1, hw2, hw3, hw4, hw5⟩ : v14 = .bool x14.has ∧ v15 = .int .i64 x14.q ∧ v16 = .bool x14.ret ∧ v17 = .string x14.t ∧ v18 = .string x14.b ∧ v19 = .slice A14 x14.ps.length c14 := by
   simpa [wlArr] using e14
  clear e14
  subst e0 e1 e2 e3 e4 e5 e6 e7 e8 e9 e10 e11 e12 e13 e15 e16 e17 e18 e19 hw0 hw1 hw2 hw3 hw4 hw5
  refine ⟨⟨x0, x1, x2, x3, x4, x5, x6, x7, x8, x9, x10, x11, x12, x13, x14, x15, x16, x17, x18, x19⟩, ⟨A9, c9, A10, c10, A14, c14, A19, c19⟩, rfl, ⟨m9, m10, m14, m19⟩, ?_⟩
  exact ⟨r0, r2, r4, r7, r13, q14, k5, k6, k11, s14, z14, k16, k18, t9, t10, t14, t19, ⟨l9, p9⟩, ⟨l10, p10⟩, ⟨l14, p14⟩, ⟨l19, p19⟩⟩
end
open Go.ChangeShapes Go.WideShapes Go.ChangeAt Go.RowKit Prp Pkt
theorem cells_ask : Tryz.prog.cellsOf 32 = 26 := by kernel_rfl
structure AskAt (w : World) (B b o : Nat) (p : Pk) (a : Ad) (s : ByteArray) : Prop where
 cells : ∀ j v, (pkArr p a)[j]? = some v → w.cell? ⟨b, o + j, none⟩ = some v
 cx : w.cell? ⟨b, o + 25, none⟩ = some (.string s)
 rows : PkAt w B p a
 fit : PkFit p a
 hs : s.size ≤ 140737488351232
 hb : b < B
theorem AskAt.below {w w' : World} {B b o : Nat} {p : Pk} {a : Ad} {s : ByteArray} (h : AskAt w B b o p a s) (hb : Below B w w') : AskAt w' B b o p a s :=
 ⟨fun j v hj => (hb.cell (p := ⟨b, o + j, none⟩) h.hb).trans (h.cells j v hj), (hb.cell (p := ⟨b, o + 25, none⟩) h.hb).trans h.cx, h.rows.below hb, h.fit, h.hs, h.hb⟩
section
variable {H : Type} {enc : TypeId × Value → H} {W : World} {base : Nat} {spare : Nat → Bool} {held : Bool}
theorem one_ask {fuel : Nat} {a : Addr} {cs : List Value} {y : DataW H × List MemPlace} (hc : W.cells? base a 26 = some cs) (hw : Near 32 y.1) (h : DataW.trod enc Tryz.prog W base spare held fuel 32 cs = some y) :
  ∃ p c s, AskAt W W.heap.size a.block a.off p c s ∧ a.spot = none := by
 obtain ⟨_, hlen, hcell⟩ := World.cells?_some hc
 match cs, hlen with
 | [v0, v1, v2, v3, v4, v5, v6, v7, v8, v9, v10, v11, v12, v13, v14, v15, v16, v17, v18, v19, v20, v21, v22, v23, v24, v25], _ =>
  have g0 : W.cell? (a.add 0) = some v0 := hcell 0 (by omega)
  have g25 : W.cell? (a.add 25) = some v25 := hcell 25 (by omega)
  have gj : ∀ j v, [v0, v1, v2, v3, v4, v5, v6, v7, v8, v9, v10, v11, v12, v13, v14, v15, v16, v17, v18, v19, v20, v21, v22, v23, v24][j]? = some v → W.cell? (a.add j) = some v := fun j v hj => by
   have hlt : j < 25 := by
    have := (List.getElem?_eq_some_iff.1 hj).1
    simpa using this
   rw [hcell j (by omega)]
   have e : [v0, v1, v2, v3, v4, v5, v6, v7, v8, v9, v10, v11, v12, v13, v14, v15, v16, v17, v18, v19, v20, v21, v22, v23, v24, v25][j]? = some v := by
    show ([v0, v1, v2, v3, v4, v5, v6, v7, v8, v9, v10, v11, v12, v13, v14, v15, v16, v17, v18, v19, v20, v21, v22, v23, v24] ++ [v25])[j]? = some v
    rw [List.getElem?_append_left (by simpa using hlt)]
    exact hj
   rw [← e]
  obtain ⟨ys, n, _, hy, _, hyl, hf⟩ := DataW.trod_struct Tryz.underlying32 h
  subst hy
  have hyl' : ys.length = 2 := by simpa using hyl
  have f0 := hf 0 _ rfl
  have f1 := hf 1 _ rfl
  rw [List.getElem?_eq_getElem (by omega)] at f0 f1
  change DataW.trod enc Tryz.prog W base spare held n 30 (List.take (Tryz.prog.cellsOf 30) [v0, v1, v2, v3, v4, v5, v6, v7, v8, v9, v10, v11, v12, v13, v14, v15, v16, v17, v18, v19, v20, v21, v22, v23, v24, v25]) = _ at f0
  change DataW.trod enc Tryz.prog W base spare held n 9 (List.take (Tryz.prog.cellsOf 9) [v25]) = _ at f1
  rw [cells_packet] at f0
  rw [cells_string] at f1
  have f0 : DataW.trod enc Tryz.prog W base spare held n 30 [v0, v1, v2, v3, v4, v5, v6, v7, v8, v9, v10, v11, v12, v13, v14, v15, v16, v17, v18, v19, v20, v21, v22, v23, v24] = _ := f0
  have w0 := near_field Tryz.underlying32 hw (j := 0) rfl rfl (List.getElem?_eq_getElem (by omega))
  have w1 := near_field Tryz.underlying32 hw (j := 1) rfl rfl (List.getElem?_eq_getElem (by omega))
  obtain ⟨s, e1, x1, _⟩ := DataW.trod_string Tryz.underlying9 f1
  rw [x1] at w1
  have hs := near_string w1
  obtain ⟨p, c, hp, hat, hfit⟩ := packet_of_trod w0 f0
  have hsp : a.spot = none := by
   have := World.cell?_spot g0
   simpa [Addr.add] using this
  obtain ⟨b, off, spot⟩ := a
  obtain rfl : spot = none := hsp
  rw [add_off] at g25
  simp at e1
  subst e1
  have hb : b < W.heap.size := cell_lt g0
  refine ⟨p, c, s, ⟨fun j v hj => ?_, g25, hat, hfit, hs, hb⟩, rfl⟩
  have := gj j v (by rw [hp, Array.getElem?_toList]; exact hj)
  rwa [add_off] at this
end
open Go.RowKit Go.Lib Prp Pkt
theorem PacketWeight_is (p : Pk) (a : Ad) (w : World) (hf : PkFit p a) (h : PkAt w w.heap.size p a) :
  Calls Tryz.prog 24 #[.agg (pkArr p a)] w fun e w' => (∃ n : Int, e = .returned (.int .i64 n)) ∧ Below w.heap.size w w' := by
 have HW1 := Lib.hid (fun (W : World) {g : Nat} (k : KP w g p a W) => PropsWeight_is p.ps a.pa a.pc w.heap.size W hf.pl1.1 hf.ps k.out.2.ps)
 have HW2 := Lib.hid (fun (W : World) {g : Nat} (k : KP w g p a W) => PropsWeight_is p.w.ps a.wa a.wc w.heap.size W hf.wl1.1 hf.ws k.out.2.ws)
 have hfl := hf.fl1.1
 have H := Lib.hid h
 clear h hf
 have HK0 := Keep.new w 30 (pkArr p a)
 obtain ⟨W1, hW⟩ : ∃ W1, w.alloc (.cells (pkArr p a) 30) = W1 := ⟨_, rfl⟩
 rw [hW] at HK0
 unfold pkArr at hW ⊢
 have HW := Lib.hid hW
 clear hW
 go_enter Tryz.func24, Tryz.ntmps24
 go_upto_region 1 with fail
 rw [HW.out]
 generalize Value.agg _ = v0
 obtain ⟨g, hg⟩ : ∃ g, w.heap.size = g := ⟨_, rfl⟩
 rw [hg] at HK0 ⊢
 have HK := Lib.hid (KP.new HK0 H.out)
 clear HW HK0 H
 have HG := Lib.hid hg
 clear hg
 have st0 := HK.out
 clear HK
 refine wp_region_held_drew (S := KP w g p a) (by kernel_rfl) (st0.drewN 1) (fun hHeld => ?_)
 generalize W1.drew = Wd at hHeld ⊢
 refine take_op 0 5 ?v0 rfl rfl (by kernel_rfl) (fun _ _ _ h => h) (by rfl) hHeld (fun w' hS' => ?hv0) ?hh0
 case hv0 => (go_simp; try with_reducible rfl)
 simp only [Act.put, List.setIfInBounds_toArray, List.set_cons_zero, List.set_cons_succ]
 refine take_op 1 6 ?v1 rfl rfl (by kernel_rfl) (fun _ _ _ h => h) (by rfl) hHeld (fun w' hS' => ?hv1) ?hh1
 case hv1 => (have k := hS'.k.f5; go_simp; try with_reducible rfl)
 simp only [Act.put, List.setIfInBounds_toArray, List.set_cons_zero, List.set_cons_succ]
 refine take_op 2 7 ?v2 rfl rfl (by kernel_rfl) (fun _ _ _ h => h) (by rfl) hHeld (fun w' hS' => ?hv2) ?hh2
 case hv2 => (go_simp; try with_reducible rfl)
 simp only [Act.put, List.setIfInBounds_toArray, List.set_cons_zero, List.set_cons_succ]
 refine take_op 3 8 ?v3 rfl rfl (by kernel_rfl) (fun _ _ _ h => h) (by rfl) hHeld (fun w' hS' => ?hv3) ?hh3
 case hv3 => (go_simp; try with_reducible rfl)
 simp only [Act.put, List.setIfInBounds_toArray, List.set_cons_zero, List.set_cons_succ]
 refine take_op 4 9 ?v4 rfl rfl (by kernel_rfl) (fun _ _ _ h => h) (by rfl) hHeld (fun w' hS' => ?hv4) ?hh4
 case hv4 => (go_simp; try with_reducible rfl)
 simp only [Act.put, List.setIfInBounds_toArray, List.set_cons_zero, List.set_cons_succ]
 refine take_op 5 10 ?v5 rfl rfl (by kernel_rfl) (fun _ _ _ h => h) (by rfl) hHeld (fun w' hS' => ?hv5) ?hh5
 case hv5 => (have k := hS'.k.f6; go_simp; try with_reducible rfl)
 simp only [Act.put, List.setIfInBounds_toArray, List.set_cons_zero, List.set_cons_succ]
 refine take_op 6 11 ?v6 rfl rfl (by kernel_rfl) (fun _ _ _ h => h) (by rfl) hHeld (fun w' hS' => ?hv6) ?hh6
 case hv6 => (go_simp; try with_reducible rfl)
 simp only [Act.put, List.setIfInBounds_toArray, List.set_cons_zero, List.set_cons_succ]
 refine take_op 7 12 ?v7 rfl rfl (by kernel_rfl) (fun _ _ _ h => h) (by rfl) hHeld (fun w' hS' => ?hv7) ?hh7
 case hv7 => (go_simp; try with_reducible rfl)
 simp only [Act.put, List.setIfInBounds_toArray, List.set_cons_zero, List.set_cons_succ]
 refine take_op 8 13 ?v8 rfl rfl (by kernel_rfl) (fun _ _ _ h => h) (by rfl) hHeld (fun w' hS' => ?hv8) ?hh8
 case hv8 => (go_simp; try with_reducible rfl)
 simp only [Act.put, List.setIfInBounds_toArray, List.set_cons_zero, List.set_cons_succ]
 refine take_op 9 14 ?v9 rfl rfl (by kernel_rfl) (fun _ _ _ h => h) (by rfl) hHeld (fun w' hS' => ?hv9) ?hh9
 case hv9 => (have k := hS'.k.f9; go_simp; try with_reducible rfl)
 simp only [Act.put, List.setIfInBounds_toArray, List.set_cons_zero, List.set_cons_succ]
 refine take_op 10 15 ?v10 rfl rfl (by kernel_rfl) (fun _ _ _ h => h) (by rfl) hHeld (fun w' hS' => ?hv10) ?hh10
 case hv10 => (go_simp; try with_reducible rfl)
 simp only [Act.put, List.setIfInBounds_toArray, List.set_cons_zero, List.set_cons_succ]
 refine take_op 11 16 ?v11 rfl rfl (by kernel_rfl) (fun _ _ _ h => h) (by rfl) hHeld (fun w' hS' => ?hv11) ?hh11
 case hv11 => (go_simp; try with_reducible rfl)
 simp only [Act.put, List.setIfInBounds_toArray, List.set_cons_zero, List.set_cons_succ]
 refine take_op 12 17 ?v12 rfl rfl (by kernel_rfl) (fun _ _ _ h => h) (by rfl) hHeld (fun w' hS' => ?hv12) ?hh12
 case hv12 => (go_simp; try with_reducible rfl)
 simp only [Act.put, List.setIfInBounds_toArray, List.set_cons_zero, List.set_cons_succ]
 refine take_op 13 18 ?v13 rfl rfl (by kernel_rfl) (fun _ _ _ h => h) (by rfl) hHeld (fun w' hS' => ?hv13) ?hh13
 case hv13 => (have k := hS'.k.f11; go_simp; try with_reducible rfl)
 simp only [Act.put, List.setIfInBounds_toArray, List.set_cons_zero, List.set_cons_succ]
 refine take_op 14 19 ?v14 rfl rfl (by kernel_rfl) (fun _ _ _ h => h) (by rfl) hHeld (fun w' hS' => ?hv14) ?hh14
 case hv14 => (go_simp; try with_reducible rfl)
 simp only [Act.put, List.setIfInBounds_toArray, List.set_cons_zero, List.set_cons_succ]
 refine take_op 15 20 ?v15 rfl rfl (by kernel_rfl) (fun _ _ _ h => h) (by rfl) hHeld (fun w' hS' => ?hv15) ?hh15
 case hv15 => (go_simp; try with_reducible rfl)
 simp only [Act.put, List.setIfInBounds_toArray, List.set_cons_zero, List.set_cons_succ]
 refine take_op 16 21 ?v16 rfl rfl (by kernel_rfl) (fun _ _ _ h => h) (by rfl) hHeld (fun w' hS' => ?hv16) ?hh16
 case hv16 => (go_simp; try with_reducible rfl)
 simp only [Act.put, List.setIfInBounds_toArray, List.set_cons_zero, List.set_cons_succ]
 refine take_op 17 22 ?v17 rfl rfl (by kernel_rfl) (fun _ _ _ h => h) (by rfl) hHeld (fun w' hS' => ?hv17) ?hh17
 case hv17 => (have k := hS'.k.f21; go_simp; try with_reducible rfl)
 simp only [Act.put, List.setIfInBounds_toArray, List.set_cons_zero, List.set_cons_succ]
 refine take_op 18 23 ?v18 rfl rfl (by kernel_rfl) (fun _ _ _ h => h) (by rfl) hHeld (fun w' hS' => ?hv18) ?hh18
 case hv18 => (go_simp; try with_reducible rfl)
 simp only [Act.put, List.setIfInBounds_toArray, List.set_cons_zero, List.set_cons_succ]
 refine take_op 19 24 ?v19 rfl rfl (by kernel_rfl) (fun _ _ _ h => h) (by rfl) hHeld (fun w' hS' => ?hv19) ?hh19
 case hv19 => (go_simp; try with_reducible rfl)
 simp only [Act.put, List.setIfInBounds_toArray, List.set_cons_zero, List.set_cons_succ]
 refine take_op 20 25 ?v20 rfl rfl (by kernel_rfl) (fun _ _ _ h => h) (by rfl) hHeld (fun w' hS' => ?hv20) ?hh20
 case hv20 => (go_simp; try with_reducible rfl)
 simp only [Act.put, List.setIfInBounds_toArray, List.set_cons_zero, List.set_cons_succ]
 refine take_op 21 26 ?v21 rfl rfl (by kernel_rfl) (fun _ _ _ h => h) (by rfl) hHeld (fun w' hS' => ?hv21) ?hh21
 case hv21 => (have k := hS'.k.f23; go_simp; try with_reducible rfl)
 simp only [Act.put, List.setIfInBounds_toArray, List.set_cons_zero, List.set_cons_succ]
 refine take_op 22 27 ?v22 rfl rfl (by kernel_rfl) (fun _ _ _ h => h) (by rfl) hHeld (fun w' hS' => ?hv22) ?hh22
 case hv22 => (go_simp; try with_reducible rfl)
 simp only [Act.put, List.setIfInBounds_toArray, List.set_cons_zero, List.set_cons_succ]
 refine take_op 23 28 ?v23 rfl rfl (by kernel_rfl) (fun _ _ _ h => h) (by rfl) hHeld (fun w' hS' => ?hv23) ?hh23
 case hv23 => (go_simp; try with_reducible rfl)
 simp only [Act.put, List.setIfInBounds_toArray, List.set_cons_zero, List.set_cons_succ]
 refine take_op 24 29 ?v24 rfl rfl (by kernel_rfl) (fun _ _ _ h => h) (by rfl) hHeld (fun w' hS' => ?hv24) ?hh24
 case hv24 => (go_simp; try with_reducible rfl)
 simp only [Act.put, List.setIfInBounds_toArray, List.set_cons_zero, List.set_cons_succ]
 refine take_op 25 30 ?v25 rfl rfl (by kernel_rfl) (fun _ _ _ h => h) (by rfl) hHeld (fun w' hS' => ?hv25) ?hh25
 case hv25 => (go_simp; try with_reducible rfl)
 simp only [Act.put, List.setIfInBounds_toArray, List.set_cons_zero, List.set_cons_succ]
 refine take_op 26 31 ?v26 rfl rfl (by kernel_rfl) (fun _ _ _ h => h) (by rfl) hHeld (fun w' hS' => ?hv26) ?hh26
 case hv26 => (have k := hS'.k.f17; go_simp; try with_reducible rfl)
 simp only [Act.put, List.setIfInBounds_toArray, List.set_cons_zero, List.set_cons_succ]
 refine take_op 27 32 ?v27 rfl rfl (by kernel_rfl) (fun _ _ _ h => h) (by rfl) hHeld (fun w' hS' => ?hv27) ?hh27
 case hv27 => (go_simp; try with_reducible rfl)
 simp only [Act.put, List.setIfInBounds_toArray, List.set_cons_zero, List.set_cons_succ]
 refine take_op 28 33 ?v28 rfl rfl (by kernel_rfl) (fun _ _ _ h => h) (by rfl) hHeld (fun w' hS' => ?hv28) ?hh28
 case hv28 => (go_simp; try with_reducible rfl)
 simp only [Act.put, List.setIfInBounds_toArray, List.set_cons_zero, List.set_cons_succ]
 refine take_op 29 34 ?v29 rfl rfl (by kernel_rfl) (fun _ _ _ h => h) (by rfl) hHeld (fun w' hS' => ?hv29) ?hh29
 case hv29 => (go_simp; try with_reducible rfl)
 simp only [Act.put, List.setIfInBounds_toArray, List.set_cons_zero, List.set_cons_succ]
 refine take_op 30 35 ?v30 rfl rfl (by kernel_rfl) (fun _ _ _ h => h) (by rfl) hHeld (fun w' hS' => ?hv30) ?hh30
 case hv30 => (go_simp; try with_reducible rfl)
 simp only [Act.put, List.setIfInBounds_toArray, List.set_cons_zero, List.set_cons_succ]
 refine take_op 31 36 ?v31 rfl rfl (by kernel_rfl) (fun _ _ _ h => h) (by rfl) hHeld (fun w' hS' => ?hv31) ?hh31
 case hv31 => (have k := hS'.k.f18; go_simp; try with_reducible rfl)
 simp only [Act.put, List.setIfInBounds_toArray, List.set_cons_zero, List.set_cons_succ]
 refine take_op 32 37 ?v32 rfl rfl (by kernel_rfl) (fun _ _ _ h => h) (by rfl) hHeld (fun w' hS' => ?hv32) ?hh32
 case hv32 => (go_simp; try with_reducible rfl)
 simp only [Act.put, List.setIfInBounds_toArray, List.set_cons_zero, List.set_cons_succ]
 refine take_op 33 38 ?v33 rfl rfl (by kernel_rfl) (fun _ _ _ h => h) (by rfl) hHeld (fun w' hS' => ?hv33) ?hh33
 case hv33 => (go_simp; try with_reducible rfl)
 simp only [Act.put, List.setIfInBounds_toArray, List.set_cons_zero, List.set_cons_succ]
 refine take_op 34 39 ?v34 rfl rfl (by kernel_rfl) (fun _ _ _ h => h) (by rfl) hHeld (fun w' hS' => ?hv34) ?hh34
 case hv34 => (go_simp; try with_reducible rfl)
 simp only [Act.put, List.setIfInBounds_toArray, List.set_cons_zero, List.set_cons_succ]
 refine take_op 35 40 ?v35 rfl rfl (by kernel_rfl) (fun _ _ _ h => h) (by rfl) hHeld (fun w' hS' => ?hv35) ?hh35
 case hv35 => (have k := hS'.k.f24; go_simp; try with_reducible rfl)
 simp only [Act.put, List.setIfInBounds_toArray, List.set_cons_zero, List.set_cons_succ]
 refine take_op 38 43 ?v38 rfl rfl (by kernel_rfl) (fun _ _ _ h => h) (by rfl) hHeld (fun w' hS' => ?hv38) ?hh38
 case hv38 => (go_simp; try with_reducible rfl)
 simp only [Act.put, List.setIfInBounds_toArray, List.set_cons_zero, List.set_cons_succ]
 refine take_op 39 44 ?v39 rfl rfl (by kernel_rfl) (fun _ _ _ h => h) (by rfl) hHeld (fun w' hS' => ?hv39) ?hh39
 case hv39 => (go_simp; try with_reducible rfl)
 simp only [Act.put, List.setIfInBounds_toArray, List.set_cons_zero, List.set_cons_succ]
 refine take_op 40 45 ?v40 rfl rfl (by kernel_rfl) (fun _ _ _ h => h) (by rfl) hHeld (fun w' hS' => ?hv40) ?hh40
 case hv40 => (have k := hS'.k.f19; go_simp; try with_reducible rfl)
 simp only [Act.put, List.setIfInBounds_toArray, List.set_cons_zero, List.set_cons_succ]
 refine only_op 36 rfl (by kernel_rfl) (by rfl) (wp_call_ex 41 56 #[.slice a.pa p.ps.length a.pc] _ rfl (by go_simp) (HW1.out _ hHeld) ?_)
 rintro e _ ⟨m41, rfl, _, _, n41, rfl⟩
 have hH1 := hHeld.below (below_drewN (Below.refl _ _) n41)
 refine ⟨_, rfl, hH1, ?_⟩
 simp only [Act.put, List.setIfInBounds_toArray, List.set_cons_zero, List.set_cons_succ]
 refine take_op 37 42 ?v37a rfl rfl (by kernel_rfl) (fun _ _ _ h => h) (by rfl) hH1 (fun w' hS' => ?hv37a) ?hh37a
 case hv37a => (go_simp; try with_reducible rfl)
 simp only [Act.put, List.setIfInBounds_toArray, List.set_cons_zero, List.set_cons_succ]
 refine only_op 41 rfl (by kernel_rfl) (by rfl) (wp_call_ex 46 56 #[.slice a.wa p.w.ps.length a.wc] _ rfl (by go_simp) (HW2.out _ hH1) ?_)
 rintro e _ ⟨m46, rfl, _, _, n46, rfl⟩
 have hH2 := hH1.below (below_drewN (Below.refl _ _) n46)
 refine ⟨_, rfl, hH2, ?_⟩
 simp only [Act.put, List.setIfInBounds_toArray, List.set_cons_zero, List.set_cons_succ]
 refine take_op 42 47 ?v42a rfl rfl (by kernel_rfl) (fun _ _ _ h => h) (by rfl) hH2 (fun w' hS' => ?hv42a) ?hh42a
 case hv42a => (go_simp; try with_reducible rfl)
 simp only [Act.put, List.setIfInBounds_toArray, List.set_cons_zero, List.set_cons_succ]
 refine take_op 43 3 ?v43a rfl rfl (by kernel_rfl) (fun _ _ _ h => h) (by rfl) hH2 (fun w' hS' => ?hv43a) ?hh43a
 case hv43a => (go_simp; try with_reducible rfl)
 simp only [Act.put, List.setIfInBounds_toArray, List.set_cons_zero, List.set_cons_succ]
 refine wpAnyH_done (by kernel_rfl) ?_ _
 have HK2 := Lib.hid hH2
 clear hHeld hH1 hH2
 generalize World.drewN (World.drewN _ _) _ = wz at HK2 ⊢
 generalize IntKind.wrap .i64 _ = N0
 go_wp2_with fail
 go_loopw [3, 4] (fun m i wr => ∃ (k : Nat) (N : Int), k ≤ p.fs.length ∧ i = .int .i64 (k : Int) ∧ m = .int .i64 N ∧ KP w g p a wr) (fun _ i _ => p.fs.length - (RowKit.intOf i).toNat)
 case atStart => exact ⟨0, N0, Nat.zero_le _, rfl, rfl, HK2.out⟩
 case round =>
  obtain ⟨k, N, hk, rfl, rfl, hkp⟩ := hrel
  have HK3 := Lib.hid hkp
  clear hkp HK2
  have c10 := HK3.out.k.f10
  by_cases hlt : k < p.fs.length
  ·have hkI : (k : Int) < (p.fs.length : Int) := by omega
   by_cases hgo : N < 1048576
   ·obtain ⟨b0, o, hfa, _, hc⟩ := HK3.out.out.2.fs.some_ (by omega)
    obtain ⟨d0, _, _, _, _⟩ := hc k hlt
    rw [hfa] at c10
    clear hfa hc
    go_wp2
    go_roundw
    case rel => exact ⟨k + 1, _, hlt, by go_num, rfl, HK3.out⟩
    case measure => simp [RowKit.intOf]; omega
   ·have hd : decide (N < 1048576) = false := decide_eq_false hgo
    go_wp2
    go_ret
    exact ⟨⟨_, rfl⟩, HK3.out.b⟩
  ·have hd : decide (k < p.fs.length) = false := decide_eq_false hlt
   have hd2 : decide ((k : Int) < (p.fs.length : Int)) = false := decide_eq_false (by omega)
   go_wp2
   go_ret
   exact ⟨⟨_, rfl⟩, HK3.out.b⟩
open Go.RowKit Go.Lib Prp Pkt Vbi
def askArr (p : Pk) (a : Ad) (s : ByteArray) : Array Value := #[.int .i64 p.kind, .bool p.dup, .int .i64 p.q, .bool p.ret, .int .i64 p.id, .string p.t, .string p.b, .int .i64 p.re, .bool p.pre, .slice a.ca p.cs.length a.cc, .slice a.fa p.fs.length a.fc, .string p.cl, .bool p.clean, .int .i64 p.keep, .bool p.w.has, .int .i64 p.w.q, .bool p.w.ret, .string p.w.t, .string p.w.b, .slice a.wa p.w.ps.length a.wc, .bool p.hu, .string p.u, .bool p.hp, .string p.pw, .slice a.pa p.ps.length a.pc, .string s]
theorem info_ask : (Tryz.prog.info? 32).map (·.size) = some 26 := by kernel_rfl
theorem load_ask {W : World} {B b o : Nat} {p : Pk} {a : Ad} {s : ByteArray} (h : AskAt W B b o p a s) : (loadVar 32 ⟨b, o, none⟩).run Tryz.prog W = .ok (.agg (askArr p a s)) W := by
 refine run_loadVar_mid W b o 32 (askArr p a s).toList _ (fun j v hv => ?_) Tryz.underlying32 rfl info_ask
 match j, hv with
 | 0, hv => exact h.cells 0 v hv
 | 1, hv => exact h.cells 1 v hv
 | 2, hv => exact h.cells 2 v hv
 | 3, hv => exact h.cells 3 v hv
 | 4, hv => exact h.cells 4 v hv
 | 5, hv => exact h.cells 5 v hv
 | 6, hv => exact h.cells 6 v hv
 | 7, hv => exact h.cells 7 v hv
 | 8, hv => exact h.cells 8 v hv
 | 9, hv => exact h.cells 9 v hv
 | 10, hv => exact h.cells 10 v hv
 | 11, hv => exact h.cells 11 v hv
 | 12, hv => exact h.cells 12 v hv
 | 13, hv => exact h.cells 13 v hv
 | 14, hv => exact h.cells 14 v hv
 | 15, hv => exact h.cells 15 v hv
 | 16, hv => exact h.cells 16 v hv
 | 17, hv => exact h.cells 17 v hv
 | 18, hv => exact h.cells 18 v hv
 | 19, hv => exact h.cells 19 v hv
 | 20, hv => exact h.cells 20 v hv
 | 21, hv => exact h.cells 21 v hv
 | 22, hv => exact h.cells 22 v hv
 | 23, hv => exact h.cells 23 v hv
 | 24, hv => exact h.cells 24 v hv
 | 25, hv => exact h.cx.trans hv
theorem load_mid {W : World} {B b o : Nat} {p : Pk} {a : Ad} {s : ByteArray} (h : AskAt W B b o p a s) : (loadVar 30 ⟨b, o, none⟩).run Tryz.prog W = .ok (.agg (pkArr p a)) W :=
 run_loadVar_mid W b o 30 (pkArr p a).toList _ (fun j v hv => h.cells j v (by rw [← hv]; simp)) Tryz.underlying30 rfl info_pk
theorem load_box_ask {W : World} {g : Nat} {p : Pk} {a : Ad} {s : ByteArray} (h : Box W g (askArr p a s)) : (loadVar 30 ⟨g, 0, none⟩).run Tryz.prog W = .ok (.agg (pkArr p a)) W := by
 refine run_loadVar_mid W g 0 30 (pkArr p a).toList _ (fun j v hv => ?_) Tryz.underlying30 rfl info_pk
 rw [Nat.zero_add, h.cell]
 match j, hv with
 | 0, hv => exact hv
 | 1, hv => exact hv
 | 2, hv => exact hv
 | 3, hv => exact hv
 | 4, hv => exact hv
 | 5, hv => exact hv
 | 6, hv => exact hv
 | 7, hv => exact hv
 | 8, hv => exact hv
 | 9, hv => exact hv
 | 10, hv => exact hv
 | 11, hv => exact hv
 | 12, hv => exact hv
 | 13, hv => exact hv
 | 14, hv => exact hv
 | 15, hv => exact hv
 | 16, hv => exact hv
 | 17, hv => exact hv
 | 18, hv => exact hv
 | 19, hv => exact hv
 | 20, hv => exact hv
 | 21, hv => exact hv
 | 22, hv => exact hv
 | 23, hv => exact hv
 | 24, hv => exact hv
def Heavy (s : ByteArray) (w : World) (e : Ending) (w' : World) : Prop := ∃ b : Bool, e = .returned (.bool b) ∧ (b = false → s.size ≤ 20000) ∧ Below w.heap.size w w'
theorem heavy_is (p : Pk) (a : Ad) (s : ByteArray) (w : World) (hf : PkFit p a) (h : PkAt w w.heap.size p a) :
  Calls Tryz.prog 6 #[.agg (askArr p a s)] w (Heavy s w) := by
 have hb0 := Box.new w 32 (askArr p a s)
 have ha := (Below.refl w.heap.size w).alloc (Nat.le_refl _) (.cells (askArr p a s) 32)
 obtain ⟨W1, hW⟩ : ∃ W1, w.alloc (.cells (askArr p a s) 32) = W1 := ⟨_, rfl⟩
 rw [hW] at hb0 ha
 have HC := Lib.hid (PacketWeight_is p a W1 hf ((h.below ha).mono ha.size))
 have HB := Lib.hid hb0
 have HA := Lib.hid ha
 unfold askArr at hW ⊢
 have HW := Lib.hid hW
 clear hW hb0 ha h hf
 go_enter Tryz.func6, Tryz.ntmps6
 go_upto_region 1 with fail
 rw [HW.out]
 generalize Value.agg _ = v0
 obtain ⟨g, hg⟩ : ∃ g, w.heap.size = g := ⟨_, rfl⟩
 have HG := Lib.hid hg
 rw [hg] at HB ⊢
 clear hg HW
 have hld := load_box_ask HB.out
 go_wp2_with (refine wpList_load_any (by rfl) 30 (.tmp 3) rfl g 0 rfl _ hld ?_)
 refine HC.out.mono ?_
 rintro e w2 ⟨⟨m, rfl⟩, hb2⟩
 have HX : Hid (Below w.heap.size w w2) := Lib.hid (HA.out.trans (hb2.mono HA.out.size))
 have c25 : w2.cell? ⟨g, 25, none⟩ = some (.string s) := (HB.out.below hb2).cell 25
 clear hb2 hld HC
 by_cases hm : (20000 : Int) < m
 ·have hd : decide ((20000 : Int) < m) = true := decide_eq_true hm
  go_wp2_with fail
  go_ret
  exact ⟨true, rfl, (fun e => by cases e), HX.out⟩
 ·have hd : decide ((20000 : Int) < m) = false := decide_eq_false hm
  by_cases hs : 20000 < s.size
  ·have hd2 : decide ((20000 : Int) < (s.size : Int)) = true := decide_eq_true (by omega)
   go_wp2_with fail
   go_ret
   exact ⟨true, rfl, (fun e => by cases e), HX.out⟩
  ·have hd2 : decide ((20000 : Int) < (s.size : Int)) = false := decide_eq_false (by omega)
   go_wp2_with fail
   go_ret
   exact ⟨false, rfl, fun _ => by omega, HX.out⟩
theorem num5 (n : Int) (w : World) :
  Calls Tryz.prog 11 #[.int .i64 n] w fun e w' => e = .returned (.int .i64 n) ∧ w = w' := by
 go_enter Tryz.func11, Tryz.ntmps11
 go_wp2
 go_ret
 exact ⟨rfl, rfl⟩
theorem PTake_eq {s : ByteArray} {p : Pk} {n e : Int} (ht : takeS s = (p, n, e)) (w : World) (hs : s.size ≤ 268435456) :
  Calls Tryz.prog 46 #[.string s] w fun r w' => ∃ a, r = .returned (.tuple #[.agg (pkArr p a), .int .i64 n, .int .i64 e]) ∧ PkAt w' w'.heap.size p a ∧ PkCap p a ∧ Below w.heap.size w w' := by
 have := PTake_is s w hs
 rw [ht] at this
 exact this
theorem made_below (w : World) (c0 cs : Array Value) (T : TypeId) : Below w.heap.size w ((w.alloc (.cells c0 T)).setRow w.heap.size cs) :=
 (Bar.row w.heap.size _ cs).below ((Below.refl w.heap.size w).alloc (Nat.le_refl _) _) (Nat.le_refl _) (by rw [World.size_alloc]; omega)
theorem made_box (w : World) (c0 cs : Array Value) (T : TypeId) : Box ((w.alloc (.cells c0 T)).setRow w.heap.size cs) w.heap.size cs := (Box.new w T c0).row cs
theorem eqP_self (p : Pk) : eqP p p = true := by simp [eqP, eqW]
theorem half_self (p : Pk) : HalfOf p p := ⟨.inl rfl, .inl rfl, .inl rfl, .inl rfl⟩
theorem EqPacket_self (p : Pk) (a a' : Ad) (w : World) (hf : PkLen p) (h : PkAt w w.heap.size p a) (h' : PkAt w w.heap.size p a') :
  Calls Tryz.prog 13 #[.agg (pkArr p a), .agg (pkArr p a')] w fun e w' => e = .returned (.bool true) ∧ Below w.heap.size w w' := by
 have := EqPacket_is p p a a' w hf (half_self p) h h'
 rw [eqP_self] at this
 exact this
theorem pack_12 : packB (zp 12) = true ∧ strP (zp 12) = ⟨#[192, 0]⟩ := by
 have e : strP (zp 12) = ⟨#[192, 0]⟩ := by
  show (strOfNums [16 * 12 + 0] ++ strOfNums (numZ 0)) ++ ⟨#[]⟩ = _
  rw [numZ_last (by omega)]
  rfl
 refine ⟨?_, e⟩
 unfold packB
 rw [e]
 rfl
theorem pack_13 : packB (zp 13) = true ∧ strP (zp 13) = ⟨#[208, 0]⟩ := by
 have e : strP (zp 13) = ⟨#[208, 0]⟩ := by
  show (strOfNums [16 * 13 + 0] ++ strOfNums (numZ 0)) ++ ⟨#[]⟩ = _
  rw [numZ_last (by omega)]
  rfl
 refine ⟨?_, e⟩
 unfold packB
 rw [e]
 rfl
theorem take_13 : takeS ⟨#[208, 0]⟩ = (zp 13, 2, 0) := by
 have := take_back ⟨#[]⟩ pack_13.1
 rw [add_empty, pack_13.2] at this
 exact this
theorem zfit (k : Int) (h : 0 ≤ k ∧ k ≤ 15) : PkFit (zp k) za := by
 have z : (-9223372036854775808 : Int) ≤ 0 ∧ (0 : Int) ≤ 9223372036854775807 := by decide
 exact ⟨⟨by show -9223372036854775808 ≤ k; omega, by show k ≤ 9223372036854775807; omega⟩, z, z, z, z, z, Nat.zero_le _, Nat.zero_le _, Nat.zero_le _, Nat.zero_le _, Nat.zero_le _, Nat.zero_le _, Nat.zero_le _, (by intro x hx; cases hx), (by intro x hx; cases hx), (by intro x hx; cases hx), (by intro x hx; cases hx), ⟨Nat.zero_le _, Nat.le_refl _⟩, ⟨Nat.zero_le _, Nat.le_refl _⟩, ⟨Nat.zero_le _, Nat.le_refl _⟩, ⟨Nat.zero_le _, Nat.le_refl _⟩⟩
theorem wakes_any (w : World) : Calls Tryz.prog 14 #[] w fun e w' => e = .returned (.bool true) ∧ Below w.heap.size w w' := by
 have HB := Lib.hid (PBytes_is (zp 12) za ⟨#[192, 0]⟩ 0 w (zfit 12 (by decide)) (PkAt.zero _ _ _) ((pack_yes pack_12.1).1.trans pack_12.2) (pack_yes pack_12.1).2)
 have HT := Lib.hid (fun W => PTake_eq take_13 W (by decide))
 go_enter Tryz.func14, Tryz.ntmps14
 go_wp2_with (refine wpList_build_kind rfl _ rfl 12 rfl ?_)
 refine HB.out.mono ?_
 rintro e w1 ⟨rfl, hb1⟩
 have HX1 := Lib.hid hb1
 clear hb1 HB
 go_wp2_with fail
 refine (HT.out w1).mono ?_
 rintro e w2 ⟨a2, rfl, q1, q2, q3⟩
 have hmb := made_below w2 (pkArr (zp 0) za) (pkArr (zp 13) a2) 30
 have hmx := made_box w2 (pkArr (zp 0) za) (pkArr (zp 13) a2) 30
 have hb3 := Box.new w2 30 (pkArr (zp 0) za)
 obtain ⟨W3, hW3⟩ : ∃ W3, w2.alloc (.cells (pkArr (zp 0) za) 30) = W3 := ⟨_, rfl⟩
 rw [hW3] at hmb hmx hb3
 simp only [pkArr, zp, za, zw, List.length_nil] at hW3
 have HW3 := Lib.hid hW3
 have HX2 := Lib.hid ((HX1.out.trans (q3.mono HX1.out.size)).trans (hmb.mono (Nat.le_trans HX1.out.size q3.size)))
 obtain ⟨k3, hk3⟩ : ∃ k, w2.heap.size = k := ⟨_, rfl⟩
 rw [hk3] at hmx hb3
 rw [hk3] at HX2
 have HMX := Lib.hid hmx
 have HB3 := Lib.hid hb3
 clear hmb hmx hb3 hW3 q1 q2 q3 HX1 HT
 go_upto_region 3 with (rw [HW3.out]; refine wpList_store_whole rfl 30 (.tmp 3) (.tmp 13) rfl k3 (pkArr (zp 13) a2) rfl rfl (pkArr (zp 0) za) HB3.out info_pk rfl (one_pk _ _) ?_; simp only [Act.put])
 clear hk3 HW3 HB3
 generalize World.setRow _ _ _ = w4 at HX2 HMX ⊢
 have c0 : w4.cell? ⟨k3, 0, none⟩ = some (.int .i64 13) := HMX.out.cell 0
 go_wp2_with (go_at_call 11; refine (num5 _ _).mono ?_; rintro e w' ⟨rfl, rfl⟩)
 go_ret
 exact ⟨rfl, HX2.out⟩
open Go.RowKit Go.Lib Prp Pkt
@[irreducible] def KS (w : World) (b o g8 : Nat) (p : Pk) (a : Ad) (s : ByteArray) (a4 : Ad) (W : World) : Prop :=
 Box W g8 (pkArr p a4) ∧ PkAt W W.heap.size p a4 ∧ AskAt W w.heap.size b o p a s ∧ Below w.heap.size w W
section
variable {w W W' : World} {b o g8 : Nat} {p : Pk} {a a4 : Ad} {s : ByteArray}
theorem KS.mk (h : Box W g8 (pkArr p a4) ∧ PkAt W W.heap.size p a4 ∧ AskAt W w.heap.size b o p a s ∧ Below w.heap.size w W) : KS w b o g8 p a s a4 W := by unfold KS; exact h
theorem KS.out (h : KS w b o g8 p a s a4 W) : Box W g8 (pkArr p a4) ∧ PkAt W W.heap.size p a4 ∧ AskAt W w.heap.size b o p a s ∧ Below w.heap.size w W := by unfold KS at h; exact h
theorem KS.below (h : KS w b o g8 p a s a4 W) (hb : Below W.heap.size W W') : KS w b o g8 p a s a4 W' := by
 obtain ⟨h1, h2, h3, h4⟩ := h.out
 exact .mk ⟨h1.below hb, (h2.below hb).mono hb.size, h3.below (hb.mono h4.size), h4.trans (hb.mono h4.size)⟩
theorem KS.drewN (h : KS w b o g8 p a s a4 W) (n : Nat) : KS w b o g8 p a s a4 (W.drewN n) := h.below (below_drewN (Below.refl _ _) n)
end
theorem andI {a b : Bool} (h1 : a = true) (h2 : b = true) : (a && b) = true := by rw [h1, h2]; rfl
end Go.Proofs.YtdbbcfohjkgdcaaGreat
