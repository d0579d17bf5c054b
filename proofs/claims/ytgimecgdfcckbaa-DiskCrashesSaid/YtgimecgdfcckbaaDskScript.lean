/- A script (names, texts, acts with their picks), out of the reading of an argument. -/
import Derived.Test.YtgimecgdfcckbaaDskAsk
import Derived.Test.YtgimecgdfcckbaaDskHeavy
namespace Go.Proofs.Ytgimecgdfcckbaa.Dsk
open Go.ChangeShapes Go.WideShapes Go.ChangeAt Go.RowKit

theorem cells_string : Try.prog.cellsOf 9 = 1 := by kernel_rfl
theorem cells_int : Try.prog.cellsOf 3 = 1 := by kernel_rfl
theorem cells_ints : Try.prog.cellsOf 35 = 1 := by kernel_rfl
theorem cells_act : Try.prog.cellsOf 60 = 6 := by kernel_rfl
theorem bytes_string : Try.prog.bytesOf 9 = 16 := by kernel_rfl
theorem bytes_int : Try.prog.bytesOf 3 = 8 := by kernel_rfl
theorem bytes_act : Try.prog.bytesOf 60 = 88 := by kernel_rfl
theorem cell_in {w : World} {a : Addr} {v : Value} (h : w.cell? a = some v) : a.block < w.heap.size := by
  rcases Nat.lt_or_ge a.block w.heap.size with hlt | hge
  · exact hlt
  · unfold World.cell? at h
    rw [Array.getElem?_eq_none hge] at h
    cases h
theorem add_to {b off : Nat} (k : Nat) : ((⟨b, off, none⟩ : Addr).add k) = ⟨b, off + k, none⟩ := by
  unfold Addr.add; split
  · next h => subst h; rfl
  · rfl
section
variable {H : Type} {enc : TypeId × Value → H} {W : World} {base : Nat} {spare : Nat → Bool} {held : Bool}
/-- All that is read is within the form's reach. -/
def Near (t : TypeId) (d : DataW H) : Prop := ∀ n ∈ d.weights Try.prog t, n ≤ reachBytes
theorem near_field {t e : TypeId} {fs : Array Field} {ys : List (DataW H × List MemPlace)} {j : Nat} {f : Field} {y : DataW H × List MemPlace} (hu : Try.prog.underlying t = some (.struct fs)) (h : Near t (.agg (ys.map (·.1)))) (hf : fs[j]? = some f) (he : f.type = e) (hy : ys[j]? = some y) : Near e y.1 := by
  subst he
  intro n hn
  refine h n ?_
  rw [DataW.weights, hu]
  refine DataW.weights_mem_each (j := j) ?_ ?_ n hn
  · rw [List.getElem?_map, Array.getElem?_toList, hf]; rfl
  · rw [List.getElem?_map, hy]; rfl
theorem near_all {e : TypeId} {ds : List (DataW H)} {d : DataW H} (hd : d ∈ ds) : ∀ n ∈ d.weights Try.prog e, n ∈ DataW.weightsAll Try.prog e ds := by
  induction ds with
  | nil => cases hd
  | cons x r ih =>
    intro n hn
    rw [DataW.weightsAll, List.mem_append]
    rcases List.mem_cons.1 hd with rfl | hd
    · exact .inl hn
    · exact .inr (ih hd n hn)
theorem near_elem {t e : TypeId} {elems rest : List (DataW H)} {d : DataW H} (hu : Try.prog.underlying t = some (.slice e)) (h : Near t (.slice elems rest)) (hd : d ∈ elems) : Near e d := by
  intro n hn
  refine h n ?_
  rw [DataW.weights, hu]
  exact List.mem_cons_of_mem _ (List.mem_append_left _ (near_all hd n hn))
theorem near_string {t : TypeId} {s : ByteArray} (h : Near t (DataW.lit (H := H) (.string s.data.toList))) : s.data.toList.length ≤ 140737488351232 :=
  h s.data.toList.length (by rw [DataW.weights]; exact List.mem_singleton.2 rfl)
theorem near_len {t e : TypeId} {fuel : Nat} {A : Option Addr} {n c k : Nat} {y : DataW H × List MemPlace} (hu : Try.prog.underlying t = some (.slice e)) (hk : Try.prog.bytesOf e = k) (hw : Near t y.1) (h : DataW.trod enc Try.prog W base spare held fuel t [.slice A n c] = some y) : n * k ≤ 140737488351232 := by
  rcases Go.Deep.open_slice hu h with ⟨hcs, _⟩ | ⟨a, len, cap, m, k', D, Pl, hcs, _, _, _, _, hx, _⟩
  · simp at hcs
    rw [hcs.2.1]
    omega
  · simp at hcs
    obtain ⟨_, rfl, _⟩ := hcs
    rw [hx] at hw
    have h1 := hw _ (by rw [DataW.weights, hu]; exact List.mem_cons_self)
    rw [List.length_map, List.length_range, hk] at h1
    exact Nat.le_trans (Nat.mul_le_mul_right k (Nat.le_add_right _ _)) h1
theorem choose_to {α : Type} (d : α) {n : Nat} {P : Nat → α → Prop} (h : ∀ i, i < n → ∃ x, P i x) : ∃ l : List α, l.length = n ∧ ∀ i (h : i < l.length), P i l[i] := by
  have h' : ∀ i, ∃ x, i < n → P i x := fun i => by
    by_cases hi : i < n
    · obtain ⟨x, hx⟩ := h i hi
      exact ⟨x, fun _ => hx⟩
    · exact ⟨d, fun hi' => absurd hi' hi⟩
  obtain ⟨f, hf⟩ := Classical.axiomOfChoice h'
  refine ⟨(List.range n).map f, by simp, fun i hi => ?_⟩
  rw [List.getElem_map, List.getElem_range]
  exact hf i (by simpa using hi)
/-- A list of texts. -/
theorem strs_of {fuel : Nat} {A : Option Addr} {n c : Nat} {y : DataW H × List MemPlace} (hw : Near 22 y.1) (h : DataW.trod enc Try.prog W base spare held fuel 22 [.slice A n c] = some y) :
    n ≤ c ∧ n ≤ 8796093022208 ∧ ∃ ls : List (List UInt8), ls.length = n ∧ Strs W W.heap.size A ls ∧ ∀ x ∈ ls, x.length ≤ 140737488351232 := by
  have hl16 := near_len Try.underlying22 bytes_string hw h
  rcases Go.Deep.open_slice1 Try.underlying22 cells_string h with ⟨hcs, _⟩ | ⟨a, len, cap, m, k, V, D, Pl, hcs, _, hlc, _, hm, hx, hi⟩
  · simp at hcs
    obtain ⟨rfl, rfl, rfl⟩ := hcs
    exact ⟨Nat.le_refl _, by omega, [], rfl, .none_, by simp⟩
  · simp at hcs
    obtain ⟨rfl, rfl, rfl⟩ := hcs
    have hle : n ≤ m := by rw [hm]; split <;> omega
    have key : ∀ i, i < n → ∃ l : List UInt8, W.cell? (a.add i) = some (.string (str l)) ∧ l.length ≤ 140737488351232 := fun i hin => by
      obtain ⟨h1, h2⟩ := hi i (by omega)
      obtain ⟨s, e0, x0, _⟩ := DataW.trod_string Try.underlying9 h2
      simp at e0
      rw [e0] at h1
      refine ⟨s.data.toList, by rw [data_str]; exact h1, ?_⟩
      rw [hx] at hw
      have := near_elem Try.underlying22 hw (List.mem_map.2 ⟨i, List.mem_range.2 hin, rfl⟩)
      have hd : D i = (D i, Pl i).1 := rfl
      rw [hd, x0] at this
      exact near_string this
    obtain ⟨ls, hl, hls⟩ := choose_to (α := List UInt8) [] key
    refine ⟨hlc, by omega, ls, hl, ?_, fun x hx => ?_⟩
    · by_cases h0 : n = 0
      · exact .inl (List.eq_nil_of_length_eq_zero (by omega))
      · refine .inr ⟨a, rfl, ?_, fun j hj => ?_⟩
        · have := cell_in (hls 0 (by omega)).1
          rwa [add_block] at this
        · rw [(hls j hj).1]
          simp [hj]
    · obtain ⟨j, hj, rfl⟩ := List.mem_iff_getElem.1 hx
      exact (hls j hj).2
/-- A list of numbers. -/
theorem nums_of {fuel : Nat} {A : Option Addr} {n c : Nat} {y : DataW H × List MemPlace} (hw : Near 35 y.1) (h : DataW.trod enc Try.prog W base spare held fuel 35 [.slice A n c] = some y) :
    ∃ ps : List Int, ps.length = n ∧ Nums W W.heap.size .i64 A ps ∧ n ≤ 140737488351232 := by
  have hl8 := near_len Try.underlying35 bytes_int hw h
  rcases open_ints Try.underlying35 Try.underlying3 cells_int h with ⟨e1, _⟩ | ⟨p, len, cap, zs, e1, _, hl, hm, hz, _, hzc, hwz⟩
  · simp at e1
    obtain ⟨rfl, rfl, rfl⟩ := e1
    exact ⟨[], rfl, Nums.none_, by omega⟩
  · simp at e1
    obtain ⟨rfl, rfl, rfl⟩ := e1
    have hzl : n ≤ zs.length := by rw [hz]; split <;> omega
    have htl : (zs.take n).length = n := by rw [List.length_take]; omega
    refine ⟨zs.take n, htl, ?_, by omega⟩
    by_cases h0 : n = 0
    · subst h0; exact .inl (by simp)
    · refine .inr ⟨p, rfl, ?_, fun j hj => ?_⟩
      · have := cell_in (hzc 0 (by omega))
        rwa [add_block] at this
      · rw [htl] at hj
        rw [hzc j (by omega)]
        simp [hj]
/-- One act. -/
theorem one_act {fuel : Nat} {a : Addr} {cs : List Value} {y : DataW H × List MemPlace} (hc : W.cells? base a 6 = some cs) (hw : Near 60 y.1) (h : DataW.trod enc Try.prog W base spare held fuel 60 cs = some y) :
    ∃ x : Ac, AcAt W W.heap.size a.block a.off x ∧ a.spot = none ∧ x.nm.length ≤ 140737488351232 ∧ x.to.length ≤ 140737488351232 ∧ x.s.length ≤ 140737488351232 ∧ x.ps.length ≤ 140737488351232 := by
  obtain ⟨_, hlen, hcell⟩ := World.cells?_some hc
  match cs, hlen with
  | [v0, v1, v2, v3, v4, v5], _ =>
    have g0 := hcell 0 (by omega)
    have g1 := hcell 1 (by omega)
    have g2 := hcell 2 (by omega)
    have g3 := hcell 3 (by omega)
    have g4 := hcell 4 (by omega)
    have g5 := hcell 5 (by omega)
    change W.cell? (a.add 0) = some v0 at g0
    change W.cell? (a.add 1) = some v1 at g1
    change W.cell? (a.add 2) = some v2 at g2
    change W.cell? (a.add 3) = some v3 at g3
    change W.cell? (a.add 4) = some v4 at g4
    change W.cell? (a.add 5) = some v5 at g5
    obtain ⟨ys, n, _, hy, _, hyl, hf⟩ := DataW.trod_struct Try.underlying60 h
    subst hy
    have hyl' : ys.length = 6 := by simpa using hyl
    have f0 := hf 0 _ rfl
    have f1 := hf 1 _ rfl
    have f2 := hf 2 _ rfl
    have f3 := hf 3 _ rfl
    have f4 := hf 4 _ rfl
    have f5 := hf 5 _ rfl
    clear hf
    rw [List.getElem?_eq_getElem (by omega)] at f0 f1 f2 f3 f4 f5
    change DataW.trod enc Try.prog W base spare held n 3 (List.take (Try.prog.cellsOf 3) [v0, v1, v2, v3, v4, v5]) = _ at f0
    change DataW.trod enc Try.prog W base spare held n 3 (List.take (Try.prog.cellsOf 3) [v1, v2, v3, v4, v5]) = _ at f1
    change DataW.trod enc Try.prog W base spare held n 9 (List.take (Try.prog.cellsOf 9) [v2, v3, v4, v5]) = _ at f2
    change DataW.trod enc Try.prog W base spare held n 9 (List.take (Try.prog.cellsOf 9) [v3, v4, v5]) = _ at f3
    change DataW.trod enc Try.prog W base spare held n 9 (List.take (Try.prog.cellsOf 9) [v4, v5]) = _ at f4
    change DataW.trod enc Try.prog W base spare held n 35 (List.take (Try.prog.cellsOf 35) [v5]) = _ at f5
    rw [cells_int] at f0 f1
    rw [cells_string] at f2 f3 f4
    rw [cells_ints] at f5
    have w2 := near_field Try.underlying60 hw (j := 2) rfl rfl (List.getElem?_eq_getElem (by omega))
    have w3 := near_field Try.underlying60 hw (j := 3) rfl rfl (List.getElem?_eq_getElem (by omega))
    have w4 := near_field Try.underlying60 hw (j := 4) rfl rfl (List.getElem?_eq_getElem (by omega))
    have w5 := near_field Try.underlying60 hw (j := 5) rfl rfl (List.getElem?_eq_getElem (by omega))
    obtain ⟨x0, e0, _, _⟩ := DataW.trod_int Try.underlying3 f0
    obtain ⟨x1, e1, _, _⟩ := DataW.trod_int Try.underlying3 f1
    obtain ⟨s2, e2, y2, _⟩ := DataW.trod_string Try.underlying9 f2
    obtain ⟨s3, e3, y3, _⟩ := DataW.trod_string Try.underlying9 f3
    obtain ⟨s4, e4, y4, _⟩ := DataW.trod_string Try.underlying9 f4
    rw [y2] at w2
    rw [y3] at w3
    rw [y4] at w4
    have b2 := near_string w2
    have b3 := near_string w3
    have b4 := near_string w4
    obtain ⟨P, k, pc, e5⟩ := slice_of_trod (v := v5) Try.underlying35 f5
    subst e5
    obtain ⟨ps, hk, hps, hkl⟩ := nums_of w5 f5
    have hsp : a.spot = none := by
      have := World.cell?_spot g0
      simpa [Addr.add] using this
    obtain ⟨b, off, spot⟩ := a
    obtain rfl : spot = none := hsp
    rw [add_to] at g0 g1 g2 g3 g4 g5
    simp at e0 e1 e2 e3 e4
    subst e0 e1 e2 e3 e4 hk
    refine ⟨⟨x0, x1, s2.data.toList, s3.data.toList, s4.data.toList, P, pc, ps⟩, ⟨cell_in g0, fun i hi => ?_, hps⟩, rfl, b2, b3, b4, hkl⟩
    unfold acells
    simp only [data_str]
    match i, hi with
    | 0, _ => exact g0
    | 1, _ => exact g1
    | 2, _ => exact g2
    | 3, _ => exact g3
    | 4, _ => exact g4
    | 5, _ => exact g5
/-- A list of acts. -/
theorem acts_of {fuel : Nat} {A : Option Addr} {n c : Nat} {y : DataW H × List MemPlace} (hw : Near 23 y.1) (h : DataW.trod enc Try.prog W base spare held fuel 23 [.slice A n c] = some y) :
    n ≤ 8796093022208 ∧ ∃ xs : List Ac, xs.length = n ∧ ActsAt W W.heap.size A xs ∧ ∀ x ∈ xs, x.nm.length ≤ 140737488351232 ∧ x.to.length ≤ 140737488351232 ∧ x.s.length ≤ 140737488351232 ∧ x.ps.length ≤ 140737488351232 := by
  have hl88 := near_len Try.underlying23 bytes_act hw h
  rcases Go.Deep.open_slice Try.underlying23 h with ⟨hcs, _⟩ | ⟨a, len, cap, m, k, D, Pl, hcs, _, hlc, _, hm, hx, hi⟩
  · simp at hcs
    obtain ⟨rfl, rfl, rfl⟩ := hcs
    exact ⟨by omega, [], rfl, .inl rfl, by simp⟩
  · simp at hcs
    obtain ⟨rfl, rfl, rfl⟩ := hcs
    have hle : n ≤ m := by rw [hm]; split <;> omega
    rw [cells_act] at hi
    have key : ∀ i, i < n → ∃ x : Ac, AcAt W W.heap.size (a.add (i * 6)).block (a.add (i * 6)).off x ∧ (a.add (i * 6)).spot = none ∧ x.nm.length ≤ 140737488351232 ∧ x.to.length ≤ 140737488351232 ∧ x.s.length ≤ 140737488351232 ∧ x.ps.length ≤ 140737488351232 := fun i hin => by
      obtain ⟨cs, hc, ht⟩ := hi i (by omega)
      refine one_act hc ?_ ht
      rw [hx] at hw
      exact near_elem Try.underlying23 hw (List.mem_map.2 ⟨i, List.mem_range.2 hin, rfl⟩)
    obtain ⟨xs, hl, hxs⟩ := choose_to (α := Ac) ⟨0, 0, [], [], [], none, 0, []⟩ key
    refine ⟨by omega, xs, hl, ?_, fun x hx => ?_⟩
    · by_cases h0 : n = 0
      · exact .inl (List.eq_nil_of_length_eq_zero (by omega))
      · have hsp : a.spot = none := by
          have := (hxs 0 (by omega)).2.1
          simpa [Addr.add] using this
        obtain ⟨b, off, spot⟩ := a
        obtain rfl : spot = none := hsp
        refine .inr ⟨b, off, rfl, fun j hj => ?_⟩
        have := (hxs j hj).1
        rw [add_to] at this
        exact this
    · obtain ⟨j, hj, rfl⟩ := List.mem_iff_getElem.1 hx
      exact (hxs j hj).2.2
end
/-- A script in memory. -/
structure ScriptAt (W : World) (ns ts : List (List UInt8)) (xs : List Ac) (A B L : Option Addr) (n c n' m : Nat) : Prop where
  hn : ns.length = n
  ht : ts.length = n'
  hm : xs.length = m
  hc : n ≤ c
  hA : Strs W W.heap.size A ns
  hB : Strs W W.heap.size B ts
  hL : ActsAt W W.heap.size L xs
  s1 : ∀ x ∈ ns, x.length ≤ 140737488351232
  s2 : ∀ x ∈ ts, x.length ≤ 140737488351232
  s3 : ∀ x ∈ xs, x.nm.length ≤ 140737488351232 ∧ x.to.length ≤ 140737488351232 ∧ x.s.length ≤ 140737488351232 ∧ x.ps.length ≤ 140737488351232
  l1 : n ≤ 8796093022208
  l2 : n' ≤ 8796093022208
  l3 : m ≤ 8796093022208
section
variable {H : Type} {enc : TypeId × Value → H} {W : World} {base : Nat} {held : Bool}
set_option maxRecDepth 100000 in
theorem script_all {b0 : Nat} {v : Value} {d : DataW H} {p : List MemPlace} (hv : Value.okWide Try.prog W .any b0 25 v) (hw : Near 25 d) (h : DataW.Trod enc Try.prog W base (fun _ => true) held 25 v d p) :
    ∃ ns ts xs A n c B n' c' L m cl, v = .agg #[.slice A n c, .slice B n' c', .slice L m cl] ∧ ScriptAt W ns ts xs A B L n c n' m := by
  obtain ⟨A, n, c, B, n', c', L, m, cl, rfl⟩ := script_of_trod hv h
  obtain ⟨fuel, hf⟩ := h
  change DataW.trod enc Try.prog W base (fun _ => true) held fuel 25 [.slice A n c, .slice B n' c', .slice L m cl] = _ at hf
  obtain ⟨ys, k, _, hy, _, hyl, hff⟩ := DataW.trod_struct Try.underlying25 hf
  have hd := congrArg Prod.fst hy
  simp only [] at hd
  rw [hd] at hw
  have hyl' : ys.length = 3 := by simpa using hyl
  have f0 := hff 0 _ rfl
  have f1 := hff 1 _ rfl
  have f2 := hff 2 _ rfl
  rw [List.getElem?_eq_getElem (by omega)] at f0 f1 f2
  change DataW.trod enc Try.prog W base (fun _ => true) held k 22 (List.take (Try.prog.cellsOf 22) [.slice A n c, .slice B n' c', .slice L m cl]) = _ at f0
  change DataW.trod enc Try.prog W base (fun _ => true) held k 22 (List.take (Try.prog.cellsOf 22) [.slice B n' c', .slice L m cl]) = _ at f1
  change DataW.trod enc Try.prog W base (fun _ => true) held k 23 (List.take (Try.prog.cellsOf 23) [.slice L m cl]) = _ at f2
  rw [cells_strings] at f0 f1
  rw [cells_acts] at f2
  have w0 := near_field Try.underlying25 hw (j := 0) rfl rfl (List.getElem?_eq_getElem (by omega))
  have w1 := near_field Try.underlying25 hw (j := 1) rfl rfl (List.getElem?_eq_getElem (by omega))
  have w2 := near_field Try.underlying25 hw (j := 2) rfl rfl (List.getElem?_eq_getElem (by omega))
  obtain ⟨hc, l1, ns, hn, hA, s1⟩ := strs_of w0 f0
  obtain ⟨_, l2, ts, ht, hB, s2⟩ := strs_of w1 f1
  obtain ⟨l3, xs, hm, hL, s3⟩ := acts_of w2 f2
  exact ⟨ns, ts, xs, A, n, c, B, n', c', L, m, cl, rfl, ⟨hn, ht, hm, hc, hA, hB, hL, s1, s2, s3, l1, l2, l3⟩⟩
end
end Go.Proofs.Ytgimecgdfcckbaa.Dsk
