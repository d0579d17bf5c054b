/- Texts of the proof, part 3: SgHeavyOf, Near, RcArg, SgScript. -/
import Derived.Test.YtijpieaanlnibaaRows
import Derived.Test.YtijpieaanlnibaaChecked
import Derived.ProofKit
import Derived.Deep.Slices
import Derived.SizedLaws
import Derived.ChangeOld
import Derived.Below
import Derived.ChangeArms
import Derived.Test.YtijpieaanlnibaaQ02
/- Whether a script is heavy. -/
namespace Go.Proofs.Ytijpieaanlnibaa
open Go.RowKit Go.Lib Rcd

/-- A script's cells. -/
def scarr (b : Int) (A : Option Addr) (n c : Nat) (B : Option Addr) (m cl : Nat) (D : Option Addr) (k cn : Nat) (s : ByteArray) : Array Value := #[.int .i64 b, .slice A n c, .slice B m cl, .slice D k cn, .string s]
theorem info_script : (Try.prog.info? 27).map (·.size) = some 5 := by kernel_rfl
theorem load_script {W : World} {g : Nat} {cs : Array Value} (h : Blk W g cs) (h9 : cs.size = 5) : (loadVar 27 ⟨g, 0, none⟩).run Try.prog W = .ok (.agg cs) W :=
  run_loadVar_mid W g 0 27 cs.toList _ (fun j v hv => by rw [Nat.zero_add, h.cell j]; rw [← hv]; simp) Try.underlying27 rfl (by rw [info_script]; simp [h9])

set_option maxRecDepth 100000 in
set_option maxHeartbeats 8000000 in
/-- Heavy: a script that is not has few bytes. -/
theorem Heavy_is (b : Int) (rs L : List Rc) (A B D : Option Addr) (c cl k cn : Nat) (s : ByteArray) (w : World) (hm : rs.length ≤ 9223372036854775807) (hm2 : L.length ≤ 9223372036854775807) (hA : RecsAt w w.heap.size A rs) (hB : RecsAt w w.heap.size B L) :
    Calls Try.prog 6 #[.agg #[.int .i64 b, .slice A rs.length c, .slice B L.length cl, .slice D k cn, .string s]] w fun e w' => ∃ v, e = .returned (.bool v) ∧ (v = false → s.size ≤ 8000) ∧ Below w.heap.size w w' := by
  obtain ⟨Z1, hZ1⟩ : ∃ Z, weightZ rs = Z := ⟨_, rfl⟩
  obtain ⟨Z2, hZ2⟩ : ∃ Z, weightZ L = Z := ⟨_, rfl⟩
  have H1 := Lib.hid (fun W (hb : Below w.heap.size w W) => WeightZ_is rs A c w.heap.size Z1 W hm (hA.below hb) hZ1)
  have H2 := Lib.hid (fun W (hb : Below w.heap.size w W) => WeightZ_is L B cl w.heap.size Z2 W hm2 (hB.below hb) hZ2)
  have R0 := Lib.hid (RBox.new w 27 (scarr b A rs.length c B L.length cl D k cn s))
  obtain ⟨p, hp⟩ : ∃ p, w.heap.size = p := ⟨_, rfl⟩
  obtain ⟨W0, hW⟩ : ∃ W0, w.alloc (.cells (scarr b A rs.length c B L.length cl D k cn s) 27) = W0 := ⟨_, rfl⟩
  rw [hW, hp] at R0
  unfold scarr at R0 hW
  have HW := Lib.hid hW
  have HP := Lib.hid hp
  clear hW hp hZ1 hZ2 hA hB
  go_enter Try.func6, Try.ntmps6
  go_upto_region 1 with fail
  rw [HW.out, HP.out]
  clear HW HP
  obtain ⟨v0, hv0⟩ : ∃ v, v = decide (8000 < wrap64 (Z1 + Z2)) := ⟨_, rfl⟩
  obtain ⟨v1, hv1⟩ : ∃ v, v = decide (8000 < s.size) := ⟨_, rfl⟩
  have HV1 := Lib.hid hv1
  have f0 := hv0.symm
  have f1 := hv1.symm
  have f2 : decide ((8000 : Int) < (s.size : Int)) = v1 := by rw [hv1]; exact decide_eq_decide.2 (by omega)
  have st0 := R0.out
  clear hv0 hv1 R0
  haveI : Nonempty (In (RBox w p #[.int .i64 b, .slice A rs.length c, .slice B L.length cl, .slice D k cn, .string s])) := ⟨⟨_, st0⟩⟩
  have k1 := fun u : In (RBox w p #[.int .i64 b, .slice A rs.length c, .slice B L.length cl, .slice D k cn, .string s]) => (show u.w.cell? ⟨p, 1, none⟩ = some (.slice A rs.length c) from u.h.cell 1)
  have k2 := fun u : In (RBox w p #[.int .i64 b, .slice A rs.length c, .slice B L.length cl, .slice D k cn, .string s]) => (show u.w.cell? ⟨p, 2, none⟩ = some (.slice B L.length cl) from u.h.cell 2)
  have k3 := fun u : In (RBox w p #[.int .i64 b, .slice A rs.length c, .slice B L.length cl, .slice D k cn, .string s]) => (show u.w.cell? ⟨p, 3, none⟩ = some (.slice D k cn) from u.h.cell 3)
  have k4 := fun u : In (RBox w p #[.int .i64 b, .slice A rs.length c, .slice B L.length cl, .slice D k cn, .string s]) => (show u.w.cell? ⟨p, 4, none⟩ = some (.string s) from u.h.cell 4)
  cases v0 with
  | true =>
    refine region_in (S := RBox w p #[.int .i64 b, .slice A rs.length c, .slice B L.length cl, .slice D k cn, .string s]) (by kernel_rfl) (by kernel_rfl) (st0.drewN 1) ?_
    iterate 3 (go_big_quiet_step (fail))
    go_big_quiet_step ((go_at_call 21; exact in_call ((H1.out _ (RBox.out (In.h _)).2).mono fun _ _ h => ⟨h.1, RBox.below (In.h _) h.2⟩)))
    iterate 2 (go_big_quiet_step (fail))
    go_big_quiet_step ((go_at_call 21; exact in_call ((H2.out _ (RBox.out (In.h _)).2).mono fun _ _ h => ⟨h.1, RBox.below (In.h _) h.2⟩)))
    repeat (go_big_quiet_step (fail))
    refine wpQuiet_nil ?_
    rintro _ ⟨⟨w7, st7⟩, rfl⟩
    have S7 := Lib.hid st7
    clear this st0 st7 k1 k2 k3 k4 H1 H2
    go_wp2_with fail
    go_ret
    exact ⟨_, rfl, (fun e => by cases e), S7.out.out.2⟩
  | false =>
    cases v1 with
    | true =>
      refine region_in (S := RBox w p #[.int .i64 b, .slice A rs.length c, .slice B L.length cl, .slice D k cn, .string s]) (by kernel_rfl) (by kernel_rfl) (st0.drewN 1) ?_
      iterate 3 (go_big_quiet_step (fail))
      go_big_quiet_step ((go_at_call 21; exact in_call ((H1.out _ (RBox.out (In.h _)).2).mono fun _ _ h => ⟨h.1, RBox.below (In.h _) h.2⟩)))
      iterate 2 (go_big_quiet_step (fail))
      go_big_quiet_step ((go_at_call 21; exact in_call ((H2.out _ (RBox.out (In.h _)).2).mono fun _ _ h => ⟨h.1, RBox.below (In.h _) h.2⟩)))
      repeat (go_big_quiet_step (fail))
      refine wpQuiet_nil ?_
      rintro _ ⟨⟨w7, st7⟩, rfl⟩
      have S7 := Lib.hid st7
      clear this st0 st7 k1 k2 k3 k4 H1 H2
      go_wp2_with fail
      go_ret
      exact ⟨_, rfl, (fun e => by cases e), S7.out.out.2⟩
    | false =>
      have hs : s.size ≤ 8000 := by have := of_decide_eq_false HV1.out.symm; omega
      refine region_in (S := RBox w p #[.int .i64 b, .slice A rs.length c, .slice B L.length cl, .slice D k cn, .string s]) (by kernel_rfl) (by kernel_rfl) (st0.drewN 1) ?_
      iterate 3 (go_big_quiet_step (fail))
      go_big_quiet_step ((go_at_call 21; exact in_call ((H1.out _ (RBox.out (In.h _)).2).mono fun _ _ h => ⟨h.1, RBox.below (In.h _) h.2⟩)))
      iterate 2 (go_big_quiet_step (fail))
      go_big_quiet_step ((go_at_call 21; exact in_call ((H2.out _ (RBox.out (In.h _)).2).mono fun _ _ h => ⟨h.1, RBox.below (In.h _) h.2⟩)))
      repeat (go_big_quiet_step (fail))
      refine wpQuiet_nil ?_
      rintro _ ⟨⟨w7, st7⟩, rfl⟩
      have S7 := Lib.hid st7
      clear this st0 st7 k1 k2 k3 k4 H1 H2
      go_wp2_with fail
      go_ret
      exact ⟨_, rfl, (fun _ => hs), S7.out.out.2⟩
end Go.Proofs.Ytijpieaanlnibaa
/- What the form's reach says of an argument's parts: how long its slices and texts are; a slice's value; a list of numbers. -/
namespace Go.Proofs.Ytijpieaanlnibaa
open Go.ChangeShapes Go.WideShapes Go.ChangeAt Go.RowKit

theorem cell_in {w : World} {a : Addr} {v : Value} (h : w.cell? a = some v) : a.block < w.heap.size := by
  rcases Nat.lt_or_ge a.block w.heap.size with hlt | hge
  · exact hlt
  · unfold World.cell? at h
    rw [Array.getElem?_eq_none hge] at h
    cases h
section
variable {H : Type} {enc : TypeId × Value → H} {W : World} {base : Nat} {spare : Nat → Bool} {held : Bool}
/-- All that is read is within the form's reach. -/
def Near (t : TypeId) (d : DataW H) : Prop := ∀ n ∈ d.weights Try.prog t, n ≤ reachBytes
theorem near_field {t e : TypeId} {fs : Array Field} {ys : List (DataW H × List MemPlace)} {j : Nat} {f : Field} {y : DataW H × List MemPlace} (hu : Try.prog.underlying t = some (.struct fs)) (h : Near t (.agg (ys.map (·.1)))) (hf : fs[j]? = some f) (he : f.type = e) (hy : ys[j]? = some y) : Near e y.1 := by
  subst he
  intro n hn
  refine h n ?_
  rw [DataW.weights, hu]
  refine DataW.weights_mem_each (j := j) ?_ ?_ n hn
  · rw [List.getElem?_map, Array.getElem?_toList, hf]; rfl
  · rw [List.getElem?_map, hy]; rfl
theorem near_string {t : TypeId} {s : ByteArray} (h : Near t (DataW.lit (H := H) (.string s.data.toList))) : s.data.toList.length ≤ 140737488351232 :=
  h s.data.toList.length (by rw [DataW.weights]; exact List.mem_singleton.2 rfl)
theorem near_len {t e : TypeId} {fuel : Nat} {A : Option Addr} {n c k : Nat} {y : DataW H × List MemPlace} (hu : Try.prog.underlying t = some (.slice e)) (hk : Try.prog.bytesOf e = k) (hw : Near t y.1) (h : DataW.trod enc Try.prog W base spare held fuel t [.slice A n c] = some y) : n * k ≤ 140737488351232 ∧ n ≤ c := by
  rcases Go.Deep.open_slice hu h with ⟨hcs, _⟩ | ⟨a, len, cap, m, k', D, Pl, hcs, _, hlc, _, _, hx, _⟩
  · simp at hcs
    rw [hcs.2.1]
    omega
  · simp at hcs
    obtain ⟨_, rfl, rfl⟩ := hcs
    rw [hx] at hw
    have h1 := hw _ (by rw [DataW.weights, hu]; exact List.mem_cons_self)
    rw [List.length_map, List.length_range, hk] at h1
    exact ⟨Nat.le_trans (Nat.mul_le_mul_right k (Nat.le_add_right _ _)) h1, hlc⟩
theorem slice_form {t e : TypeId} {fuel : Nat} {v : Value} {y : DataW H × List MemPlace} (hu : Try.prog.underlying t = some (.slice e)) (h : DataW.trod enc Try.prog W base spare held fuel t [v] = some y) : ∃ A n c, v = .slice A n c := by
  rcases Go.Deep.open_slice hu h with ⟨hcs, _⟩ | ⟨a, len, cap, m, k, D, Pl, hcs, _⟩
  · simp at hcs
    exact ⟨none, 0, 0, hcs⟩
  · simp at hcs
    exact ⟨_, len, cap, hcs⟩
theorem bytes_int : Try.prog.bytesOf 3 = 8 := by kernel_rfl
theorem cells_int1 : Try.prog.cellsOf 3 = 1 := by kernel_rfl
/-- A list of numbers. -/
theorem nums_of {fuel : Nat} {A : Option Addr} {n c : Nat} {y : DataW H × List MemPlace} (hw : Near 25 y.1) (h : DataW.trod enc Try.prog W base spare held fuel 25 [.slice A n c] = some y) :
    ∃ ps : List Int, ps.length = n ∧ Nums W W.heap.size .i64 A ps ∧ n ≤ 140737488351232 := by
  have hl8 := (near_len Try.underlying25 bytes_int hw h).1
  rcases open_ints Try.underlying25 Try.underlying3 cells_int1 h with ⟨e1, _⟩ | ⟨p, len, cap, zs, e1, _, hl, hm, hz, _, hzc, hwz⟩
  · simp at e1
    obtain ⟨rfl, rfl, rfl⟩ := e1
    exact ⟨[], rfl, Nums.none_, by omega⟩
  · simp at e1
    obtain ⟨rfl, rfl, rfl⟩ := e1
    have hzl : n ≤ zs.length := by rw [hz]; split <;> omega
    have htl : (zs.take n).length = n := by rw [List.length_take]; omega
    refine ⟨zs.take n, htl, ?_, by omega⟩
    by_cases h0 : n = 0
    · subst h0; exact .inl (by simp)
    · refine .inr ⟨p, rfl, ?_, fun j hj => ?_⟩
      · have := cell_in (hzc 0 (by omega))
        rwa [add_block] at this
      · rw [htl] at hj
        rw [hzc j (by omega)]
        simp [hj]
end
end Go.Proofs.Ytijpieaanlnibaa
/- What a list of records is in memory, out of the reading of an argument. -/
namespace Go.Proofs.Ytijpieaanlnibaa
open Go.ChangeShapes Go.WideShapes Go.ChangeAt Go.RowKit Rcd

theorem ownKnob_none : ownKnob Try.prog.godebug = none := by kernel_rfl
theorem laidOut_true : laidOutB Try.prog = true := by kernel_rfl
theorem cells_string : Try.prog.cellsOf 9 = 1 := by kernel_rfl
theorem cells_int : Try.prog.cellsOf 3 = 1 := by kernel_rfl
theorem cells_bool : Try.prog.cellsOf 4 = 1 := by kernel_rfl
theorem cells_recs : Try.prog.cellsOf 22 = 1 := by kernel_rfl
theorem cells_rec : Try.prog.cellsOf 44 = 6 := by kernel_rfl
theorem add_off {b off : Nat} (k : Nat) : ((⟨b, off, none⟩ : Addr).add k) = ⟨b, off + k, none⟩ := by
  unfold Addr.add; split
  · next h => subst h; rfl
  · rfl

section
variable {H : Type} {enc : TypeId × Value → H} {W : World} {base : Nat} {spare : Nat → Bool} {held : Bool}
theorem one_rec {fuel : Nat} {a : Addr} {cs : List Value} {y : DataW H × List MemPlace} (hc : W.cells? base a 6 = some cs) (h : DataW.trod enc Try.prog W base spare held fuel 44 cs = some y) :
    ∃ r, RAt W a.block a.off r ∧ a.spot = none := by
  obtain ⟨_, hlen, hcell⟩ := World.cells?_some hc
  match cs, hlen with
  | [v0, v1, v2, v3, v4, v5], _ =>
    have g0 := hcell 0 (by omega)
    have g1 := hcell 1 (by omega)
    have g2 := hcell 2 (by omega)
    have g3 := hcell 3 (by omega)
    have g4 := hcell 4 (by omega)
    have g5 := hcell 5 (by omega)
    change W.cell? (a.add 0) = some v0 at g0
    change W.cell? (a.add 1) = some v1 at g1
    change W.cell? (a.add 2) = some v2 at g2
    change W.cell? (a.add 3) = some v3 at g3
    change W.cell? (a.add 4) = some v4 at g4
    change W.cell? (a.add 5) = some v5 at g5
    obtain ⟨ys, n, _, _, _, hyl, hf⟩ := DataW.trod_struct Try.underlying44 h
    have hyl' : ys.length = 6 := by simpa using hyl
    have f0 := hf 0 _ rfl
    have f1 := hf 1 _ rfl
    have f2 := hf 2 _ rfl
    have f3 := hf 3 _ rfl
    have f4 := hf 4 _ rfl
    have f5 := hf 5 _ rfl
    rw [List.getElem?_eq_getElem (by omega)] at f0 f1 f2 f3 f4 f5
    change DataW.trod enc Try.prog W base spare held n 3 (List.take (Try.prog.cellsOf 3) [v0, v1, v2, v3, v4, v5]) = _ at f0
    change DataW.trod enc Try.prog W base spare held n 3 (List.take (Try.prog.cellsOf 3) [v1, v2, v3, v4, v5]) = _ at f1
    change DataW.trod enc Try.prog W base spare held n 9 (List.take (Try.prog.cellsOf 9) [v2, v3, v4, v5]) = _ at f2
    change DataW.trod enc Try.prog W base spare held n 9 (List.take (Try.prog.cellsOf 9) [v3, v4, v5]) = _ at f3
    change DataW.trod enc Try.prog W base spare held n 3 (List.take (Try.prog.cellsOf 3) [v4, v5]) = _ at f4
    change DataW.trod enc Try.prog W base spare held n 4 (List.take (Try.prog.cellsOf 4) [v5]) = _ at f5
    rw [cells_int] at f0 f1 f4
    rw [cells_string] at f2 f3
    rw [cells_bool] at f5
    obtain ⟨o, e0, _, _⟩ := DataW.trod_int Try.underlying3 f0
    obtain ⟨t, e1, _, _⟩ := DataW.trod_int Try.underlying3 f1
    obtain ⟨k, e2, _, _⟩ := DataW.trod_string Try.underlying9 f2
    obtain ⟨b, e3, _, _⟩ := DataW.trod_string Try.underlying9 f3
    obtain ⟨q, e4, _, _⟩ := DataW.trod_int Try.underlying3 f4
    obtain ⟨g, e5, _⟩ := DataW.trod_bool Try.underlying4 f5
    have hsp : a.spot = none := by
      have := World.cell?_spot g0
      simpa [Addr.add] using this
    obtain ⟨bl, off, spot⟩ := a
    obtain rfl : spot = none := hsp
    rw [add_off] at g0 g1 g2 g3 g4 g5
    simp at e0 e1 e2 e3 e4 e5
    subst e0 e1 e2 e3 e4 e5
    refine ⟨⟨o, t, k.data.toList, b.data.toList, q, g⟩, ⟨g0, g1, ?_, ?_, g4, g5⟩, rfl⟩
    · show _ = some (Value.string (str k.data.toList))
      rw [data_str]; exact g2
    · show _ = some (Value.string (str b.data.toList))
      rw [data_str]; exact g3

/-- A slice of records. -/
theorem recs_of_trod {fuel : Nat} {v : Value} {y : DataW H × List MemPlace} (h : DataW.trod enc Try.prog W base spare held fuel 22 [v] = some y) :
    ∃ A l c, v = .slice A (List.length l) c ∧ RecsAt W W.heap.size A l ∧ l.length ≤ 9223372036854775807 := by
  rcases Go.Deep.open_slice Try.underlying22 h with ⟨hcs, _⟩ | ⟨a, len, cap, m, k, D, Pl, hcs, _, hl, hcm, hm, hx, hi⟩
  · simp at hcs
    subst hcs
    exact ⟨none, [], 0, rfl, .inl rfl, by simp⟩
  · simp at hcs
    subst hcs
    have hml : len ≤ m := by rw [hm]; split <;> omega
    rw [cells_rec] at hi
    have key : ∀ i, i < len → ∃ r, RAt W (a.add (i * 6)).block (a.add (i * 6)).off r ∧ (a.add (i * 6)).spot = none := fun i hin => by
      obtain ⟨cs, hc, ht⟩ := hi i (by omega)
      exact one_rec hc ht
    have hcm' : cap ≤ 9223372036854775807 := by unfold maxLen at hcm; omega
    by_cases h0 : len = 0
    · subst h0
      exact ⟨some a, [], cap, rfl, .inl rfl, by simp⟩
    · have hsp : a.spot = none := by
        obtain ⟨_, _, h⟩ := key 0 (by omega)
        simpa [Addr.add] using h
      obtain ⟨b, off, spot⟩ := a
      obtain rfl : spot = none := hsp
      have key2 : ∀ i, ∃ r : Rc, i < len → RAt W b (off + i * 6) r := fun i => by
        by_cases hin : i < len
        · obtain ⟨r, hr, _⟩ := key i hin
          rw [add_off] at hr
          exact ⟨r, fun _ => hr⟩
        · exact ⟨zero, fun h => absurd h hin⟩
      obtain ⟨f, hf⟩ := Classical.axiomOfChoice key2
      refine ⟨some ⟨b, off, none⟩, (List.range len).map f, cap, by simp, .inr ⟨b, off, rfl, ?_, fun j hj => ?_⟩, by simp; omega⟩
      · exact cell_lt (hf 0 (by omega)).c0
      · have hj' : j < len := by simpa using hj
        rw [List.getElem_map, List.getElem_range]
        exact hf j hj'

end
end Go.Proofs.Ytijpieaanlnibaa
/- What a script (a segment, records, numbers, bytes) is in memory, out of the reading of an argument. -/
namespace Go.Proofs.Ytijpieaanlnibaa
open Go.ChangeShapes Go.WideShapes Go.ChangeAt Go.RowKit Rcd

theorem cells_script : Try.prog.cellsOf 27 = 5 := by kernel_rfl
theorem cells_seg : Try.prog.cellsOf 24 = 2 := by kernel_rfl
theorem cells_ints : Try.prog.cellsOf 25 = 1 := by kernel_rfl
theorem bytes_rec : Try.prog.bytesOf 44 = 64 := by kernel_rfl
/-- A script in memory. -/
structure ScAt (W : World) (rs L : List Rc) (ns : List Int) (A B D : Option Addr) (c : Nat) : Prop where
  hA : RecsAt W W.heap.size A rs
  cap : rs.length ≤ c
  lA : rs.length * 64 ≤ 140737488351232
  hB : RecsAt W W.heap.size B L
  lB : L.length * 64 ≤ 140737488351232
  hD : Nums W W.heap.size .i64 D ns
  lD : ns.length ≤ 140737488351232
section
variable {H : Type} {enc : TypeId × Value → H} {W : World} {base : Nat} {held : Bool}
set_option maxRecDepth 100000 in
theorem script_all {b0 : Nat} {v : Value} {d : DataW H} {p : List MemPlace} (hv : Value.okWide Try.prog W .any b0 27 v) (hw : Near 27 d) (h : DataW.Trod enc Try.prog W base (fun _ => true) held 27 v d p) :
    ∃ b rs L ns A B D c cl cn s, v = .agg #[.int .i64 b, .slice A rs.length c, .slice B (List.length L) cl, .slice D (List.length ns) cn, .string s] ∧ ScAt W rs L ns A B D c := by
  obtain ⟨fuel, hf⟩ := h
  obtain ⟨⟨cs⟩, rfl, hsz⟩ := okWide_struct Try.underlying27 hv
  rw [cells_script] at hsz
  match cs, hsz with
  | [v0, v1, v2, v3, v4], _ =>
    change DataW.trod enc Try.prog W base (fun _ => true) held fuel 27 [v0, v1, v2, v3, v4] = _ at hf
    obtain ⟨ys, n, _, hy, _, hyl, hff⟩ := DataW.trod_struct Try.underlying27 hf
    have hd := congrArg Prod.fst hy
    simp only [] at hd
    rw [hd] at hw
    have hyl' : ys.length = 4 := by simpa using hyl
    have f0 := hff 0 _ rfl
    have f1 := hff 1 _ rfl
    have f2 := hff 2 _ rfl
    have f3 := hff 3 _ rfl
    rw [List.getElem?_eq_getElem (by omega)] at f0 f1 f2 f3
    change DataW.trod enc Try.prog W base (fun _ => true) held n 24 (List.take (Try.prog.cellsOf 24) [v0, v1, v2, v3, v4]) = _ at f0
    change DataW.trod enc Try.prog W base (fun _ => true) held n 22 (List.take (Try.prog.cellsOf 22) [v2, v3, v4]) = _ at f1
    change DataW.trod enc Try.prog W base (fun _ => true) held n 25 (List.take (Try.prog.cellsOf 25) [v3, v4]) = _ at f2
    change DataW.trod enc Try.prog W base (fun _ => true) held n 9 (List.take (Try.prog.cellsOf 9) [v4]) = _ at f3
    rw [cells_seg] at f0
    rw [cells_recs] at f1
    rw [cells_ints] at f2
    rw [cells_string] at f3
    have w0 := near_field Try.underlying27 hw (j := 0) rfl rfl (List.getElem?_eq_getElem (by omega))
    have w1 := near_field Try.underlying27 hw (j := 1) rfl rfl (List.getElem?_eq_getElem (by omega))
    have w2 := near_field Try.underlying27 hw (j := 2) rfl rfl (List.getElem?_eq_getElem (by omega))
    change DataW.trod enc Try.prog W base (fun _ => true) held n 24 [v0, v1] = _ at f0
    obtain ⟨zs, m, _, hz, _, hzl, hzz⟩ := DataW.trod_struct Try.underlying24 f0
    have hzd := congrArg Prod.fst hz
    simp only [] at hzd
    rw [hzd] at w0
    have hzl' : zs.length = 2 := by simpa using hzl
    have g0 := hzz 0 _ rfl
    have g1 := hzz 1 _ rfl
    rw [List.getElem?_eq_getElem (by omega)] at g0 g1
    change DataW.trod enc Try.prog W base (fun _ => true) held m 3 (List.take (Try.prog.cellsOf 3) [v0, v1]) = _ at g0
    change DataW.trod enc Try.prog W base (fun _ => true) held m 22 (List.take (Try.prog.cellsOf 22) [v1]) = _ at g1
    rw [cells_int] at g0
    rw [cells_recs] at g1
    have w01 := near_field Try.underlying24 w0 (j := 1) rfl rfl (List.getElem?_eq_getElem (by omega))
    obtain ⟨b, e0, _, _⟩ := DataW.trod_int Try.underlying3 g0
    simp at e0
    subst e0
    obtain ⟨A, rs, c, rfl, hA, _⟩ := recs_of_trod (v := v1) g1
    obtain ⟨lA, cap⟩ := near_len Try.underlying22 bytes_rec w01 g1
    obtain ⟨B, L, cl, rfl, hB, _⟩ := recs_of_trod (v := v2) f1
    obtain ⟨lB, _⟩ := near_len Try.underlying22 bytes_rec w1 f1
    obtain ⟨D, k, cn, rfl⟩ := slice_form (v := v3) Try.underlying25 f2
    obtain ⟨ns, rfl, hD, lD⟩ := nums_of w2 f2
    obtain ⟨s, e4, _, _⟩ := DataW.trod_string Try.underlying9 f3
    simp at e4
    subst e4
    exact ⟨b, rs, L, ns, A, B, D, c, cl, cn, s, rfl, ⟨hA, cap, lA, hB, lB, hD, lD⟩⟩
end
end Go.Proofs.Ytijpieaanlnibaa
