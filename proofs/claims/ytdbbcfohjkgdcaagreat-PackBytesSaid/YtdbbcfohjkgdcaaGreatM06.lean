/- Package prop: the bytes of one property. -/
import Derived.Test.YtdbbcfohjkgdcaaGreatM00
import Derived.Test.YtdbbcfohjkgdcaaGreatM05
set_option maxRecDepth 100000
set_option maxHeartbeats 64000000
namespace Go.Proofs.YtdbbcfohjkgdcaaGreat
open Go.RowKit Go.Lib Prp
def Box (w : World) (g : Nat) (cs : Array Value) : Prop := ∃ T, w.heap[g]? = some (.cells cs T (0, 0))
section
variable {w w' : World} {g : Nat} {cs : Array Value}
theorem Box.new (w : World) (T : TypeId) (cs : Array Value) : Box (w.alloc (.cells cs T)) w.heap.size cs := ⟨T, heap_alloc_new w _⟩
theorem Box.lt (h : Box w g cs) : g < w.heap.size := by
 obtain ⟨T, h⟩ := h
 exact (Array.getElem?_eq_some_iff.1 h).1
theorem Box.cell (h : Box w g cs) (i : Nat) : w.cell? ⟨g, i, none⟩ = cs[i]? := by
 obtain ⟨T, h⟩ := h
 exact cell_of_row w g i cs T (0, 0) h
theorem Box.frozen (h : Box w g cs) (i : Nat) : w.frozen? ⟨g, i, none⟩ = false := by
 obtain ⟨T, h⟩ := h
 simp [World.frozen?, h]
theorem Box.below (h : Box w g cs) (hb : Below w.heap.size w w') : Box w' g cs := by
 have hl := h.lt
 obtain ⟨T, h⟩ := h
 exact ⟨T, (hb.block g hl).trans h⟩
theorem Box.drewN (h : Box w g cs) (n : Nat) : Box (w.drewN n) g cs := h
theorem Box.drew (h : Box w g cs) : Box w.drew g cs := h
theorem Box.alloc (h : Box w g cs) (o : Obj) : Box (w.alloc o) g cs := h.below ((Below.refl _ _).alloc (Nat.le_refl _) o)
theorem Box.put (h : Box w g cs) (i : Nat) (v : Value) : Box (w.setCell ⟨g, i, none⟩ v) g (cs.setIfInBounds i v) := by
 obtain ⟨T, h⟩ := h
 exact ⟨T, by simp [World.setCell, Array.getElem?_modify, h]⟩
theorem Box.far (h : Box w g cs) {p : Addr} (hp : g ≠ p.block) (v : Value) : Box (w.setCell p v) g cs := by
 obtain ⟨T, h⟩ := h
 exact ⟨T, (Below.heap_setCell w p v g hp).trans h⟩
end
def pcells (p : P) : List Value := [.int .i64 p.id, .int .i64 p.n, .string p.s, .string p.v]
structure Fit (p : P) : Prop where
 i0 : -9223372036854775808 ≤ p.id
 i1 : p.id ≤ 9223372036854775807
 n0 : -9223372036854775808 ≤ p.n
 n1 : p.n ≤ 9223372036854775807
 hs : p.s.size ≤ 140737488351232
 hv : p.v.size ≤ 140737488351232
structure PAt (w : World) (b o : Nat) (p : P) : Prop where
 c0 : w.cell? ⟨b, o, none⟩ = some (.int .i64 p.id)
 c1 : w.cell? ⟨b, o + 1, none⟩ = some (.int .i64 p.n)
 c2 : w.cell? ⟨b, o + 2, none⟩ = some (.string p.s)
 c3 : w.cell? ⟨b, o + 3, none⟩ = some (.string p.v)
def PropsAt (w : World) (B : Nat) (A : Option Addr) (l : List P) : Prop :=
 l = [] ∨ ∃ b o, A = some ⟨b, o, none⟩ ∧ b < B ∧ ∀ j (h : j < l.length), PAt w b (o + j * 4) l[j]
section
variable {w w' : World} {B B' : Nat} {A : Option Addr} {l : List P}
theorem PAt.keep {b o : Nat} {p : P} (h : PAt w b o p) (hk : ∀ i, w'.cell? ⟨b, i, none⟩ = w.cell? ⟨b, i, none⟩) : PAt w' b o p :=
 ⟨(hk _).trans h.c0, (hk _).trans h.c1, (hk _).trans h.c2, (hk _).trans h.c3⟩
theorem PropsAt.none_ : PropsAt w B A [] := .inl rfl
theorem PropsAt.some_ (h : PropsAt w B A l) (hl : 0 < l.length) : ∃ b o, A = some ⟨b, o, none⟩ ∧ b < B ∧ ∀ j (h : j < l.length), PAt w b (o + j * 4) l[j] := by
 rcases h with rfl | h
 ·simp at hl
 ·exact h
theorem PropsAt.keep (h : PropsAt w B A l) (hk : ∀ p : Addr, p.block < B → w'.cell? p = w.cell? p) : PropsAt w' B A l := by
 rcases h with h | ⟨b, o, h1, h2, h3⟩
 ·exact .inl h
 ·exact .inr ⟨b, o, h1, h2, fun j hj => (h3 j hj).keep fun i => hk ⟨b, i, none⟩ h2⟩
theorem PropsAt.mono (h : PropsAt w B A l) (hB : B ≤ B') : PropsAt w B' A l := by
 rcases h with h | ⟨b, o, h1, h2, h3⟩
 ·exact .inl h
 ·exact .inr ⟨b, o, h1, Nat.lt_of_lt_of_le h2 hB, h3⟩
theorem PropsAt.below (h : PropsAt w B A l) (hb : Below B w w') : PropsAt w' B A l := h.keep fun _ hp => hb.cell hp
theorem PropsAt.drewN (h : PropsAt w B A l) (n : Nat) : PropsAt (w.drewN n) B A l := h.keep fun _ _ => rfl
theorem PropsAt.alloc (h : PropsAt w B A l) (hB : B ≤ w.heap.size) (o : Obj) : PropsAt (w.alloc o) B A l := h.keep fun p hp => World.cell?_alloc_lt w o p (by omega)
theorem PropsAt.take (h : PropsAt w B A l) (k : Nat) : PropsAt w B A (l.take k) := by
 rcases h with rfl | ⟨b, o, h1, h2, h3⟩
 ·exact .inl (by simp)
 ·refine .inr ⟨b, o, h1, h2, fun j hj => ?_⟩
  have hl : j < l.length := by rw [List.length_take] at hj; omega
  rw [List.getElem_take]
  exact h3 j hl
end
def flat (l : List P) : List Value := l.flatMap pcells
theorem flat_snoc (l : List P) (p : P) : flat (l ++ [p]) = flat l ++ pcells p := by unfold flat; rw [List.flatMap_append]; simp
theorem flat_at (l : List P) (j i : Nat) (hj : j < l.length) (hi : i < 4) : (flat l)[j * 4 + i]? = (pcells l[j])[i]? := by
 induction l generalizing j with
 | nil => simp at hj
 | cons p t ih =>
  have e : flat (p :: t) = pcells p ++ flat t := by unfold flat; rw [List.flatMap_cons]
  rw [e]
  cases j with
  | zero =>
   rw [List.getElem?_append_left (by show _ < 4; omega)]
   simp
  | succ m =>
   rw [List.getElem?_append_right (by show 4 ≤ _; omega)]
   have : (m + 1) * 4 + i - (pcells p).length = m * 4 + i := by show _ - 4 = _; omega
   rw [this]
   exact ih m (by simpa using hj)
theorem PropsAt.of_own {w : World} {base e c : Nat} {A : Option Addr} {l : List P} (h : w.ownsRow base e 4 (.slice A l.length c) l.length (flat l)) : PropsAt w w.heap.size A l := by
 rcases h.2 with ⟨hv, hn⟩ | ⟨g, cap, cur, hv, _, hg, hle, _, hsz, htk⟩
 ·exact .inl (List.eq_nil_of_length_eq_zero hn)
 ·injection hv with hA _ _
  subst hA
  have key := h.cells (g := g) rfl
  refine .inr ⟨g, 0, rfl, (Array.getElem?_eq_some_iff.1 hg).1, fun j hj => ?_⟩
  have hz : ∀ i u, i < 4 → (pcells l[j])[i]? = some u → w.cell? ⟨g, 0 + j * 4 + i, none⟩ = some u := fun i u hi hu => by
   have := key (j * 4 + i) u (by rw [flat_at l j i hj hi]; exact hu)
   rw [add_new] at this
   rw [Nat.zero_add]
   exact this
  exact ⟨hz 0 _ (by omega) rfl, hz 1 _ (by omega) rfl, hz 2 _ (by omega) rfl, hz 3 _ (by omega) rfl⟩
theorem own_slice {w : World} {base e : Nat} {v : Value} {l : List P} (h : w.ownsRow base e 4 v l.length (flat l)) : ∃ A c, v = .slice A l.length c := by
 rcases h.2 with ⟨hv, hn⟩ | ⟨g, cap, cur, hv, _⟩
 ·exact ⟨none, 0, by rw [hv, hn]⟩
 ·exact ⟨_, cap, hv⟩
open Go.ChangeShapes Go.WideShapes Go.ChangeAt Go.RowKit Prp
theorem ownKnob_none : ownKnob Tryz.prog.godebug = none := by kernel_rfl
theorem laidOut_true : laidOutB Tryz.prog = true := by kernel_rfl
theorem cells_string : Tryz.prog.cellsOf 9 = 1 := by kernel_rfl
theorem cells_int : Tryz.prog.cellsOf 3 = 1 := by kernel_rfl
theorem cells_props : Tryz.prog.cellsOf 26 = 1 := by kernel_rfl
theorem cells_prop : Tryz.prog.cellsOf 99 = 4 := by kernel_rfl
theorem cell_lt {w : World} {a : Addr} {v : Value} (h : w.cell? a = some v) : a.block < w.heap.size := by
 rcases Nat.lt_or_ge a.block w.heap.size with hlt | hge
 ·exact hlt
 ·unfold World.cell? at h
  rw [Array.getElem?_eq_none hge] at h
  cases h
theorem add_off {b off : Nat} (k : Nat) : ((⟨b, off, none⟩ : Addr).add k) = ⟨b, off + k, none⟩ := by
 unfold Addr.add; split
 ·next h => subst h; rfl
 ·rfl
theorem int_range {x : Int} (h : (Lit.int .i64 x).wf = true) : -9223372036854775808 ≤ x ∧ x ≤ 9223372036854775807 := by
 have h1 : IntKind.i64.min = -9223372036854775808 := rfl
 have h2 : IntKind.i64.max = 9223372036854775807 := rfl
 simp only [Lit.wf, Bool.and_eq_true, decide_eq_true_eq] at h
 omega
section
variable {H : Type} {enc : TypeId × Value → H} {W : World} {base : Nat} {spare : Nat → Bool} {held : Bool}
def Near (t : TypeId) (d : DataW H) : Prop := ∀ n ∈ d.weights Tryz.prog t, n ≤ reachBytes
theorem near_field {t e : TypeId} {fs : Array Field} {ys : List (DataW H × List MemPlace)} {j : Nat} {f : Field} {y : DataW H × List MemPlace} (hu : Tryz.prog.underlying t = some (.struct fs)) (h : Near t (.agg (ys.map (·.1)))) (hf : fs[j]? = some f) (he : f.type = e) (hy : ys[j]? = some y) : Near e y.1 := by
 subst he
 intro n hn
 refine h n ?_
 rw [DataW.weights, hu]
 refine DataW.weights_mem_each (j := j) ?_ ?_ n hn
 ·rw [List.getElem?_map, Array.getElem?_toList, hf]; rfl
 ·rw [List.getElem?_map, hy]; rfl
theorem near_all {e : TypeId} {ds : List (DataW H)} {d : DataW H} (hd : d ∈ ds) : ∀ n ∈ d.weights Tryz.prog e, n ∈ DataW.weightsAll Tryz.prog e ds := by
 induction ds with
 | nil => cases hd
 | cons x r ih =>
  intro n hn
  rw [DataW.weightsAll, List.mem_append]
  rcases List.mem_cons.1 hd with rfl | hd
  ·exact .inl hn
  ·exact .inr (ih hd n hn)
theorem near_elem {t e : TypeId} {elems rest : List (DataW H)} {d : DataW H} (hu : Tryz.prog.underlying t = some (.slice e)) (h : Near t (.slice elems rest)) (hd : d ∈ elems) : Near e d := by
 intro n hn
 refine h n ?_
 rw [DataW.weights, hu]
 exact List.mem_cons_of_mem _ (List.mem_append_left _ (near_all hd n hn))
theorem near_string {t : TypeId} {s : ByteArray} (h : Near t (DataW.lit (H := H) (.string s.data.toList))) : s.size ≤ 140737488351232 := by
 have := h s.data.toList.length (by rw [DataW.weights]; exact List.mem_singleton.2 rfl)
 rw [Lib.size_eq]
 exact this
theorem one_prop {fuel : Nat} {a : Addr} {cs : List Value} {y : DataW H × List MemPlace} (hc : W.cells? base a 4 = some cs) (hw : Near 99 y.1) (h : DataW.trod enc Tryz.prog W base spare held fuel 99 cs = some y) :
  ∃ p, PAt W a.block a.off p ∧ Fit p ∧ a.spot = none := by
 obtain ⟨_, hlen, hcell⟩ := World.cells?_some hc
 match cs, hlen with
 | [v0, v1, v2, v3], _ =>
  have g0 := hcell 0 (by omega)
  have g1 := hcell 1 (by omega)
  have g2 := hcell 2 (by omega)
  have g3 := hcell 3 (by omega)
  change W.cell? (a.add 0) = some v0 at g0
  change W.cell? (a.add 1) = some v1 at g1
  change W.cell? (a.add 2) = some v2 at g2
  change W.cell? (a.add 3) = some v3 at g3
  obtain ⟨ys, n, _, hy, _, hyl, hf⟩ := DataW.trod_struct Tryz.underlying99 h
  subst hy
  have hyl' : ys.length = 4 := by simpa using hyl
  have f0 := hf 0 _ rfl
  have f1 := hf 1 _ rfl
  have f2 := hf 2 _ rfl
  have f3 := hf 3 _ rfl
  rw [List.getElem?_eq_getElem (by omega)] at f0 f1 f2 f3
  change DataW.trod enc Tryz.prog W base spare held n 3 (List.take (Tryz.prog.cellsOf 3) [v0, v1, v2, v3]) = _ at f0
  change DataW.trod enc Tryz.prog W base spare held n 3 (List.take (Tryz.prog.cellsOf 3) [v1, v2, v3]) = _ at f1
  change DataW.trod enc Tryz.prog W base spare held n 9 (List.take (Tryz.prog.cellsOf 9) [v2, v3]) = _ at f2
  change DataW.trod enc Tryz.prog W base spare held n 9 (List.take (Tryz.prog.cellsOf 9) [v3]) = _ at f3
  rw [cells_int] at f0 f1
  rw [cells_string] at f2 f3
  obtain ⟨i, e0, _, wi⟩ := DataW.trod_int Tryz.underlying3 f0
  obtain ⟨x, e1, _, wx⟩ := DataW.trod_int Tryz.underlying3 f1
  have w2 := near_field Tryz.underlying99 hw (j := 2) rfl rfl (List.getElem?_eq_getElem (by omega))
  have w3 := near_field Tryz.underlying99 hw (j := 3) rfl rfl (List.getElem?_eq_getElem (by omega))
  obtain ⟨s, e2, x2, ws⟩ := DataW.trod_string Tryz.underlying9 f2
  obtain ⟨v, e3, x3, wv⟩ := DataW.trod_string Tryz.underlying9 f3
  rw [x2] at w2
  rw [x3] at w3
  have ws := near_string w2
  have wv := near_string w3
  have hsp : a.spot = none := by
   have := World.cell?_spot g0
   simpa [Addr.add] using this
  obtain ⟨b, off, spot⟩ := a
  obtain rfl : spot = none := hsp
  rw [add_off] at g0 g1 g2 g3
  simp at e0 e1 e2 e3
  subst e0 e1 e2 e3
  have ri := int_range wi
  have rx := int_range wx
  exact ⟨⟨i, x, s, v⟩, ⟨g0, g1, g2, g3⟩, ⟨ri.1, ri.2, rx.1, rx.2, ws, wv⟩, rfl⟩
theorem props_of_trod {fuel : Nat} {v : Value} {y : DataW H × List MemPlace} (hw : Near 26 y.1) (h : DataW.trod enc Tryz.prog W base spare held fuel 26 [v] = some y) :
  ∃ A l c, v = .slice A (List.length l) c ∧ PropsAt W W.heap.size A l ∧ (∀ p ∈ l, Fit p) ∧ l.length ≤ c ∧ l.length ≤ 9223372036854775807 := by
 rcases Go.Deep.open_slice Tryz.underlying26 h with ⟨hcs, _⟩ | ⟨a, len, cap, m, k, D, Pl, hcs, _, hl, hcm, hm, hx, hi⟩
 ·simp at hcs
  subst hcs
  exact ⟨none, [], 0, rfl, .inl rfl, by simp, by simp, by simp⟩
 ·simp at hcs
  subst hcs
  have hml : len ≤ m := by rw [hm]; split <;> omega
  rw [cells_prop] at hi
  have key : ∀ i, i < len → ∃ p, PAt W (a.add (i * 4)).block (a.add (i * 4)).off p ∧ Fit p ∧ (a.add (i * 4)).spot = none := fun i hin => by
   obtain ⟨cs, hc, ht⟩ := hi i (by omega)
   refine one_prop hc ?_ ht
   rw [hx] at hw
   exact near_elem Tryz.underlying26 hw (List.mem_map.2 ⟨i, List.mem_range.2 hin, rfl⟩)
  have hcm' : cap ≤ 9223372036854775807 := by unfold maxLen at hcm; omega
  by_cases h0 : len = 0
  ·subst h0
   exact ⟨some a, [], cap, rfl, .inl rfl, by simp, by simp, by simp⟩
  ·have hsp : a.spot = none := by
    obtain ⟨_, _, _, h⟩ := key 0 (by omega)
    simpa [Addr.add] using h
   obtain ⟨b, off, spot⟩ := a
   obtain rfl : spot = none := hsp
   have key2 : ∀ i, ∃ p : P, i < len → PAt W b (off + i * 4) p ∧ Fit p := fun i => by
    by_cases hin : i < len
    ·obtain ⟨p, hp, hfp, _⟩ := key i hin
     rw [add_off] at hp
     exact ⟨p, fun _ => ⟨hp, hfp⟩⟩
    ·exact ⟨⟨0, 0, ⟨#[]⟩, ⟨#[]⟩⟩, fun h => absurd h hin⟩
   obtain ⟨f, hf⟩ := Classical.axiomOfChoice key2
   refine ⟨some ⟨b, off, none⟩, (List.range len).map f, cap, by simp, .inr ⟨b, off, rfl, ?_, fun j hj => ?_⟩, fun p hp => ?_, by simpa using hl, by simp; omega⟩
   ·exact cell_lt (hf 0 (by omega)).1.c0
   ·have hj' : j < len := by simpa using hj
    rw [List.getElem_map, List.getElem_range]
    exact (hf j hj').1
   ·rw [List.mem_map] at hp
    obtain ⟨j, hj, rfl⟩ := hp
    exact (hf j (by simpa using hj)).2
end
open Go.RowKit Go.Lib Prp
theorem ne_false {a b : Int} (h : a ≠ b) : (a == b) = false := by rw [beq_eq_false_iff_ne]; exact h
theorem Kind_is (id K E : Int) (w : World) (hK : kindZ id = K) (hE : kindErr id = E) :
  Calls Tryz.prog 139 #[.int .i64 id] w fun e w' => e = .returned (.tuple #[.int .i64 K, .int .i64 E]) ∧ w = w' := by
 rcases kind_cases id with c | c | c | c | c | c | c | c
 ·rcases c with rfl | rfl | rfl | rfl | rfl | rfl | rfl | rfl <;>
  ·obtain rfl : 1 = K := hK
   obtain rfl : 0 = E := hE
   go_enter Tryz.func139, Tryz.ntmps139
   go_wp2
   go_ret2
   exact ⟨rfl, rfl⟩
 ·rcases c with rfl | rfl | rfl | rfl <;>
  ·obtain rfl : 2 = K := hK
   obtain rfl : 0 = E := hE
   go_enter Tryz.func139, Tryz.ntmps139
   go_wp2
   go_ret2
   exact ⟨rfl, rfl⟩
 ·rcases c with rfl | rfl | rfl | rfl <;>
  ·obtain rfl : 3 = K := hK
   obtain rfl : 0 = E := hE
   go_enter Tryz.func139, Tryz.ntmps139
   go_wp2
   go_ret2
   exact ⟨rfl, rfl⟩
 ·obtain rfl := c
  obtain rfl : 4 = K := hK
  obtain rfl : 0 = E := hE
  go_enter Tryz.func139, Tryz.ntmps139
  go_wp2
  go_ret2
  exact ⟨rfl, rfl⟩
 ·rcases c with rfl | rfl | rfl | rfl | rfl | rfl | rfl <;>
  ·obtain rfl : 5 = K := hK
   obtain rfl : 0 = E := hE
   go_enter Tryz.func139, Tryz.ntmps139
   go_wp2
   go_ret2
   exact ⟨rfl, rfl⟩
 ·rcases c with rfl | rfl <;>
  ·obtain rfl : 6 = K := hK
   obtain rfl : 0 = E := hE
   go_enter Tryz.func139, Tryz.ntmps139
   go_wp2
   go_ret2
   exact ⟨rfl, rfl⟩
 ·obtain rfl := c
  obtain rfl : 7 = K := hK
  obtain rfl : 0 = E := hE
  go_enter Tryz.func139, Tryz.ntmps139
  go_wp2
  go_ret2
  exact ⟨rfl, rfl⟩
 ·obtain rfl : 0 = K := (kind_none c).symm.trans hK
  obtain rfl : 3 = E := by rw [← hE]; unfold kindErr; rw [if_pos (kind_none c)]
  clear hK hE
  obtain ⟨⟨a1, a2, a3, a4, a5, a6, a7, a8⟩, ⟨b1, b2, b3, b4⟩, ⟨c1, c2, c3, c4⟩, d1, ⟨e1, e2, e3, e4, e5, e6, e7⟩, ⟨f1, f2⟩, g1⟩ := c
  replace a1 := ne_false a1
  replace a2 := ne_false a2
  replace a3 := ne_false a3
  replace a4 := ne_false a4
  replace a5 := ne_false a5
  replace a6 := ne_false a6
  replace a7 := ne_false a7
  replace a8 := ne_false a8
  replace b1 := ne_false b1
  replace b2 := ne_false b2
  replace b3 := ne_false b3
  replace b4 := ne_false b4
  replace c1 := ne_false c1
  replace c2 := ne_false c2
  replace c3 := ne_false c3
  replace c4 := ne_false c4
  replace d1 := ne_false d1
  replace e1 := ne_false e1
  replace e2 := ne_false e2
  replace e3 := ne_false e3
  replace e4 := ne_false e4
  replace e5 := ne_false e5
  replace e6 := ne_false e6
  replace e7 := ne_false e7
  replace f1 := ne_false f1
  replace f2 := ne_false f2
  replace g1 := ne_false g1
  go_enter Tryz.func139, Tryz.ntmps139
  go_wp2
  go_ret2
  exact ⟨rfl, rfl⟩
open Go.RowKit Go.Lib Prp
theorem RKind_is (id K : Int) (w : World) (hK : kindZ id = K) :
  Calls Tryz.prog 98 #[.int .i64 id] w fun e w' => e = .returned (.int .i64 K) ∧ w = w' := by
 rcases kind_cases id with c | c | c | c | c | c | c | c
 ·rcases c with rfl | rfl | rfl | rfl | rfl | rfl | rfl | rfl <;>
  ·obtain rfl : 1 = K := hK
   go_enter Tryz.func98, Tryz.ntmps98
   go_wp2
   go_ret
   exact ⟨rfl, rfl⟩
 ·rcases c with rfl | rfl | rfl | rfl <;>
  ·obtain rfl : 2 = K := hK
   go_enter Tryz.func98, Tryz.ntmps98
   go_wp2
   go_ret
   exact ⟨rfl, rfl⟩
 ·rcases c with rfl | rfl | rfl | rfl <;>
  ·obtain rfl : 3 = K := hK
   go_enter Tryz.func98, Tryz.ntmps98
   go_wp2
   go_ret
   exact ⟨rfl, rfl⟩
 ·obtain rfl := c
  obtain rfl : 4 = K := hK
  go_enter Tryz.func98, Tryz.ntmps98
  go_wp2
  go_ret
  exact ⟨rfl, rfl⟩
 ·rcases c with rfl | rfl | rfl | rfl | rfl | rfl | rfl <;>
  ·obtain rfl : 5 = K := hK
   go_enter Tryz.func98, Tryz.ntmps98
   go_wp2
   go_ret
   exact ⟨rfl, rfl⟩
 ·rcases c with rfl | rfl <;>
  ·obtain rfl : 6 = K := hK
   go_enter Tryz.func98, Tryz.ntmps98
   go_wp2
   go_ret
   exact ⟨rfl, rfl⟩
 ·obtain rfl := c
  obtain rfl : 7 = K := hK
  go_enter Tryz.func98, Tryz.ntmps98
  go_wp2
  go_ret
  exact ⟨rfl, rfl⟩
 ·obtain rfl : 0 = K := (kind_none c).symm.trans hK
  clear hK
  obtain ⟨⟨a1, a2, a3, a4, a5, a6, a7, a8⟩, ⟨b1, b2, b3, b4⟩, ⟨c1, c2, c3, c4⟩, d1, ⟨e1, e2, e3, e4, e5, e6, e7⟩, ⟨f1, f2⟩, g1⟩ := c
  replace a1 := ne_false a1
  replace a2 := ne_false a2
  replace a3 := ne_false a3
  replace a4 := ne_false a4
  replace a5 := ne_false a5
  replace a6 := ne_false a6
  replace a7 := ne_false a7
  replace a8 := ne_false a8
  replace b1 := ne_false b1
  replace b2 := ne_false b2
  replace b3 := ne_false b3
  replace b4 := ne_false b4
  replace c1 := ne_false c1
  replace c2 := ne_false c2
  replace c3 := ne_false c3
  replace c4 := ne_false c4
  replace d1 := ne_false d1
  replace e1 := ne_false e1
  replace e2 := ne_false e2
  replace e3 := ne_false e3
  replace e4 := ne_false e4
  replace e5 := ne_false e5
  replace e6 := ne_false e6
  replace e7 := ne_false e7
  replace f1 := ne_false f1
  replace f2 := ne_false f2
  replace g1 := ne_false g1
  go_enter Tryz.func98, Tryz.ntmps98
  go_wp2
  go_ret
  exact ⟨rfl, rfl⟩
theorem dec_true' {p : Prop} [Decidable p] {b : Bool} (h : decide p = b) (hp : p) : true = b := by rw [← h]; exact (decide_eq_true hp).symm
theorem dec_false' {p : Prop} [Decidable p] {b : Bool} (h : decide p = b) (hp : ¬ p) : false = b := by rw [← h]; exact (decide_eq_false hp).symm
theorem eq_dec' {p : Prop} [Decidable p] {a b : Bool} (h : decide p = b) (hp : a = true ↔ p) : a = b := by rw [← h, Bool.eq_iff_iff, hp]; simp
theorem isPlace_is (x : Int) (b : Bool) (w : World) (h : placeB x = b) :
  Calls Tryz.prog 111 #[.int .i64 x] w fun e w' => e = .returned (.bool b) ∧ w = w' := by
 have HB := Lib.hid h
 clear h
 unfold placeB at HB
 by_cases h0 : 0 ≤ x
 ·go_enter Tryz.func111, Tryz.ntmps111
  go_wp2
  go_ret
  exact ⟨ret_bool (eq_dec' HB.out (by simp; omega)), rfl⟩
 ·go_enter Tryz.func111, Tryz.ntmps111
  go_wp2
  go_ret
  exact ⟨ret_bool (dec_false' HB.out (by omega)), rfl⟩
theorem Place_is (x : Int) (b : Bool) (w : World) (h : placeB x = b) :
  Calls Tryz.prog 71 #[.int .i64 x] w fun e w' => e = .returned (.bool b) ∧ w = w' := by
 have HB := Lib.hid h
 clear h
 unfold placeB at HB
 by_cases h0 : 0 ≤ x
 ·go_enter Tryz.func71, Tryz.ntmps71
  go_wp2
  go_ret
  exact ⟨ret_bool (eq_dec' HB.out (by simp; omega)), rfl⟩
 ·go_enter Tryz.func71, Tryz.ntmps71
  go_wp2
  go_ret
  exact ⟨ret_bool (dec_false' HB.out (by omega)), rfl⟩
theorem mayRepeat_is (x id : Int) (b : Bool) (w : World) (h : repB x id = b) :
  Calls Tryz.prog 138 #[.int .i64 x, .int .i64 id] w fun e w' => e = .returned (.bool b) ∧ w = w' := by
 have HB := Lib.hid h
 clear h
 unfold repB at HB
 by_cases h38 : id = 38
 ·subst h38
  go_enter Tryz.func138, Tryz.ntmps138
  go_wp2
  go_ret
  exact ⟨ret_bool (dec_true' HB.out (by simp)), rfl⟩
 ·have b38 := ne_false h38
  by_cases h11 : id = 11
  ·subst h11
   by_cases h3 : x = 3
   ·subst h3
    go_enter Tryz.func138, Tryz.ntmps138
    go_wp2
    go_ret
    exact ⟨ret_bool (dec_true' HB.out (by simp)), rfl⟩
   ·have b3 := ne_false h3
    go_enter Tryz.func138, Tryz.ntmps138
    go_wp2
    go_ret
    exact ⟨ret_bool (dec_false' HB.out (by omega)), rfl⟩
  ·have b11 := ne_false h11
   go_enter Tryz.func138, Tryz.ntmps138
   go_wp2
   go_ret
   exact ⟨ret_bool (dec_false' HB.out (by omega)), rfl⟩
theorem zNum_is (n m : Int) (b : Bool) (w : World) (h : decide (0 ≤ n ∧ n ≤ m) = b) :
  Calls Tryz.prog 34 #[.int .i64 n, .int .i64 m] w fun e w' => e = .returned (.bool b) ∧ w = w' := by
 have HB := Lib.hid h
 clear h
 by_cases h0 : 0 ≤ n
 ·go_enter Tryz.func34, Tryz.ntmps34
  go_wp2
  go_ret
  exact ⟨ret_bool (eq_dec' HB.out (by simp; omega)), rfl⟩
 ·go_enter Tryz.func34, Tryz.ntmps34
  go_wp2
  go_ret
  exact ⟨ret_bool (dec_false' HB.out (by omega)), rfl⟩
theorem have_split (id : Int) : (id = 11 ∨ id = 33 ∨ id = 35 ∨ id = 39) ∨ (id ≠ 11 ∧ id ≠ 33 ∧ id ≠ 35 ∧ id ≠ 39) := by omega
theorem have_no {id n : Int} (c : noZ id) : haveB id n = decide (n ≠ 0) := if_pos c
theorem have_yes {id n : Int} (c : ¬ noZ id) : haveB id n = decide (kindZ id ≠ 1 ∨ n = 0 ∨ n = 1) := if_neg c
theorem mayHave_is (id n : Int) (b : Bool) (w : World) (h : haveB id n = b) :
  Calls Tryz.prog 137 #[.int .i64 id, .int .i64 n] w fun e w' => e = .returned (.bool b) ∧ w = w' := by
 rcases have_split id with c | ⟨h1, h2, h3, h4⟩
 ·have HB := Lib.hid ((have_no c).symm.trans h)
  clear h
  rcases c with rfl | rfl | rfl | rfl <;>
  ·go_enter Tryz.func137, Tryz.ntmps137
   go_wp2
   go_ret
   exact ⟨ret_bool (eq_dec' HB.out (by simp)), rfl⟩
 ·have HB := Lib.hid ((have_yes (show ¬ noZ id by unfold noZ; omega)).symm.trans h)
  clear h
  have b1 := ne_false h1
  have b2 := ne_false h2
  have b3 := ne_false h3
  have b4 := ne_false h4
  obtain ⟨K, hK⟩ : ∃ K, kindZ id = K := ⟨_, rfl⟩
  have HK := Lib.hid (fun W => Kind_is id K _ W hK rfl)
  have hb2 := HB.out
  rw [hK] at hb2
  have HC := Lib.hid hb2
  clear hK hb2 HB
  by_cases hk : K = 1
  ·subst hk
   by_cases hn : n = 0
   ·subst hn
    go_enter Tryz.func137, Tryz.ntmps137
    go_wp2_with (go_at_call 139; refine (HK.out _).mono ?_; rintro e w' ⟨rfl, rfl⟩)
    go_ret
    exact ⟨ret_bool (dec_true' HC.out (by simp)), rfl⟩
   ·have bn := ne_false hn
    go_enter Tryz.func137, Tryz.ntmps137
    go_wp2_with (go_at_call 139; refine (HK.out _).mono ?_; rintro e w' ⟨rfl, rfl⟩)
    go_ret
    exact ⟨ret_bool (eq_dec' HC.out (by simp; omega)), rfl⟩
  ·have bk : (K != 1) = true := by rw [bne_iff_ne]; exact hk
   go_enter Tryz.func137, Tryz.ntmps137
   go_wp2_with (go_at_call 139; refine (HK.out _).mono ?_; rintro e w' ⟨rfl, rfl⟩)
   go_ret
   exact ⟨ret_bool (dec_true' HC.out (.inl hk)), rfl⟩
open Go.RowKit Go.Lib Prp
theorem as_ii (v : Value) (w : World) : (Instr.typeAssert (.iface 3 v) 20 3 true).run Tryz.prog w = .ok (.tuple #[v, .bool true]) w := by kernel_rfl
theorem as_si (v : Value) (w : World) : (Instr.typeAssert (.iface 9 v) 20 3 true).run Tryz.prog w = .ok (.tuple #[.int .i64 0, .bool false]) w := by kernel_rfl
theorem as_ss (v : Value) (w : World) : (Instr.typeAssert (.iface 9 v) 20 9 true).run Tryz.prog w = .ok (.tuple #[v, .bool true]) w := by kernel_rfl
theorem as_pi (v : Value) (w : World) : (Instr.typeAssert (.iface 195 v) 20 3 true).run Tryz.prog w = .ok (.tuple #[.int .i64 0, .bool false]) w := by kernel_rfl
theorem as_ps (v : Value) (w : World) : (Instr.typeAssert (.iface 195 v) 20 9 true).run Tryz.prog w = .ok (.tuple #[.string ByteArray.empty, .bool false]) w := by kernel_rfl
theorem to_i (v : Value) (w : World) : (Instr.typeAssert (.iface 3 v) 20 3 false).run Tryz.prog w = .ok v w := by kernel_rfl
theorem to_s (v : Value) (w : World) : (Instr.typeAssert (.iface 9 v) 20 9 false).run Tryz.prog w = .ok v w := by kernel_rfl
theorem to_p (v : Value) (w : World) : (Instr.typeAssert (.iface 195 v) 20 195 false).run Tryz.prog w = .ok v w := by kernel_rfl
theorem valueOf_num (k id n : Int) (s v : ByteArray) (w : World) (h : k ≠ 5 ∧ k ≠ 6 ∧ k ≠ 7) :
  Calls Tryz.prog 140 #[.int .i64 k, .agg #[.int .i64 id, .int .i64 n, .string s, .string v]] w fun e w' => e = .returned (.iface 3 (.int .i64 n)) ∧ Below w.heap.size w w' := by
 obtain ⟨h5, h6, h7⟩ := h
 replace h5 := ne_false h5
 replace h6 := ne_false h6
 replace h7 := ne_false h7
 go_enter Tryz.func140, Tryz.ntmps140
 go_wp2
 go_ret
 exact ⟨rfl, (Below.refl _ _).alloc (Nat.le_refl _) _⟩
theorem valueOf_str (k id n : Int) (s v : ByteArray) (w : World) (h : k = 5 ∨ k = 6) :
  Calls Tryz.prog 140 #[.int .i64 k, .agg #[.int .i64 id, .int .i64 n, .string s, .string v]] w fun e w' => e = .returned (.iface 9 (.string s)) ∧ Below w.heap.size w w' := by
 rcases h with rfl | rfl <;>
 ·go_enter Tryz.func140, Tryz.ntmps140
  go_wp2
  go_ret
  exact ⟨rfl, (Below.refl _ _).alloc (Nat.le_refl _) _⟩
theorem valueOf_two (id n : Int) (s v : ByteArray) (w : World) :
  Calls Tryz.prog 140 #[.int .i64 7, .agg #[.int .i64 id, .int .i64 n, .string s, .string v]] w fun e w' => e = .returned (.iface 195 (.agg #[.string s, .string v])) ∧ Below w.heap.size w w' := by
 go_enter Tryz.func140, Tryz.ntmps140
 go_wp2
 go_ret
 exact ⟨rfl, (Below.refl _ _).alloc (Nat.le_refl _) _⟩
theorem propOf_num (id n : Int) (w : World) :
  Calls Tryz.prog 142 #[.int .i64 id, .iface 3 (.int .i64 n)] w fun e w' => e = .returned (.agg #[.int .i64 id, .int .i64 n, .string ⟨#[]⟩, .string ⟨#[]⟩]) ∧ Below w.heap.size w w' := by
 have as_ii0 := as_ii
 go_enter Tryz.func142, Tryz.ntmps142
 go_wp2
 refine bodyPost_ret (v := .agg #[.int .i64 id, .int .i64 n, .string ⟨#[]⟩, .string ⟨#[]⟩]) (by simp [results, Tryz.results142, go_sem]) rfl ⟨rfl, ?_⟩
 exact (Below.refl _ _).alloc (Nat.le_refl _) _
theorem propOf_str (id : Int) (s : ByteArray) (w : World) :
  Calls Tryz.prog 142 #[.int .i64 id, .iface 9 (.string s)] w fun e w' => e = .returned (.agg #[.int .i64 id, .int .i64 0, .string s, .string ⟨#[]⟩]) ∧ Below w.heap.size w w' := by
 have as_si0 := as_si
 have as_ss0 := as_ss
 go_enter Tryz.func142, Tryz.ntmps142
 go_wp2
 refine bodyPost_ret (v := .agg #[.int .i64 id, .int .i64 0, .string s, .string ⟨#[]⟩]) (by simp [results, Tryz.results142, go_sem]) rfl ⟨rfl, ?_⟩
 exact (Below.refl _ _).alloc (Nat.le_refl _) _
theorem propOf_two (id : Int) (s v : ByteArray) (w : World) :
  Calls Tryz.prog 142 #[.int .i64 id, .iface 195 (.agg #[.string s, .string v])] w fun e w' => e = .returned (.agg #[.int .i64 id, .int .i64 0, .string s, .string v]) ∧ Below w.heap.size w w' := by
 have as_pi0 := as_pi
 have as_ps0 := as_ps
 have to_p0 := to_p
 go_enter Tryz.func142, Tryz.ntmps142
 go_wp2
 refine bodyPost_ret (v := .agg #[.int .i64 id, .int .i64 0, .string s, .string v]) (by simp [results, Tryz.results142, go_sem]) rfl ⟨rfl, ?_⟩
 exact ((Below.refl _ _).alloc (Nat.le_refl _) _).alloc (by simp) _
open Go.RowKit Go.Lib Prp Vbi
def putB (k n : Int) (s v : ByteArray) : Bool :=
 if k = 1 then decide (n = 0 ∨ n = 1) else if k = 2 then decide (0 ≤ n ∧ n < 65536) else if k = 3 then decide (0 ≤ n ∧ n < 4294967296) else if k = 4 then decide (0 ≤ n ∧ n < 268435456)
 else if k = 5 then textB s else if k = 6 then binB s else textB s && textB v
def Wrong (w : World) (e : Ending) (w' : World) : Prop := ∃ (S : ByteArray) (E : Int), e = .returned (.tuple #[.string S, .int .i64 E]) ∧ E ≠ 0 ∧ Below w.heap.size w w'
theorem ne_true {a b : Int} (h : a ≠ b) : (a != b) = true := by rw [bne_iff_ne]; exact h
theorem Text_yes (s A : ByteArray) (w : World) (hm : s.size ≤ 9223372036854775807) (h : textB s = true) (hA : strOfNums (fixZ 2 s.size) ++ s = A) :
  Calls Tryz.prog 92 #[.string s] w fun e w' => e = .returned (.tuple #[.string A, .int .i64 0]) ∧ Below w.heap.size w w' := by
 unfold textB at h
 have h0 := of_decide_eq_true h
 refine Text_is s A 0 w hm ?_ h0
 rcases lo_cases true s with ⟨_, _, e⟩ | ⟨e, _⟩
 ·exact e.trans hA
 ·exact absurd h0 e
theorem Text_no (s : ByteArray) (w : World) (hm : s.size ≤ 9223372036854775807) (h : textB s = false) :
  Calls Tryz.prog 92 #[.string s] w fun e w' => ∃ E : Int, e = .returned (.tuple #[.string ⟨#[]⟩, .int .i64 E]) ∧ E ≠ 0 ∧ Below w.heap.size w w' := by
 unfold textB at h
 have h0 := of_decide_eq_false h
 rcases lo_cases true s with ⟨e, _, _⟩ | ⟨_, e⟩
 ·exact absurd e h0
 ·exact (Text_is s _ _ w hm e rfl).mono fun _ _ ⟨h1, h2⟩ => ⟨_, h1, h0, h2⟩
theorem text_size {s : ByteArray} (h : textB s = true) : s.size ≤ 1024 := by
 unfold textB at h
 exact loErr_zero (of_decide_eq_true h)
theorem size_2 (s : ByteArray) : (strOfNums (fixZ 2 s.size) ++ s).size = 2 + s.size := by rw [ByteArray.size_append, fix2_size]
theorem putPair_good (s v S : ByteArray) (w : World) (h1 : textB s = true) (h2 : textB v = true)
  (hS : (strOfNums (fixZ 2 s.size) ++ s) ++ (strOfNums (fixZ 2 v.size) ++ v) = S) :
  Calls Tryz.prog 161 #[.agg #[.string s, .string v]] w fun e w' => e = .returned (.tuple #[.string S, .int .i64 0]) ∧ Below w.heap.size w w' := by
 have z1 := text_size h1
 have z2 := text_size h2
 obtain ⟨A, hA⟩ : ∃ A, strOfNums (fixZ 2 s.size) ++ s = A := ⟨_, rfl⟩
 obtain ⟨B, hB⟩ : ∃ B, strOfNums (fixZ 2 v.size) ++ v = B := ⟨_, rfl⟩
 have HA := Lib.hid (fun W => Text_yes s A W (by omega) h1 hA)
 have HB := Lib.hid (fun W => Text_yes v B W (by omega) h2 hB)
 have hAz : A.size ≤ 1026 := by rw [← hA, size_2]; omega
 have hBz : B.size ≤ 1026 := by rw [← hB, size_2]; omega
 rw [hA, hB] at hS
 have HS := Lib.hid hS
 clear h1 h2 hA hB hS
 go_enter Tryz.func161, Tryz.ntmps161
 go_wp2_with fail
 refine (HA.out _).mono ?_
 rintro e w1 ⟨rfl, hb1⟩
 have q1 : w1.cell? ⟨w.heap.size, 1, none⟩ = some (.string v) := ((Box.new w _ _).below hb1).cell 1
 have HX1 := Lib.hid (((Below.refl w.heap.size w).alloc (Nat.le_refl _) (.cells #[.string s, .string v] 195)).trans (hb1.mono (by simp)))
 clear hb1 HA
 go_wp2_with fail
 refine (HB.out _).mono ?_
 rintro e w2 ⟨rfl, hb2⟩
 have HX2 := Lib.hid (HX1.out.trans (hb2.mono HX1.out.size))
 clear hb2 HB q1
 go_wp2_with fail
 go_ret2
 exact ⟨by rw [← HS.out]; rfl, HX2.out⟩
theorem putPair_bad (s v : ByteArray) (w : World) (hs : s.size ≤ 9223372036854775807) (hv : v.size ≤ 9223372036854775807) (h : (textB s && textB v) = false) :
  Calls Tryz.prog 161 #[.agg #[.string s, .string v]] w (Wrong w) := by
 cases h1 : textB s with
 | false =>
  have HA := Lib.hid (fun W => Text_no s W hs h1)
  clear h h1
  go_enter Tryz.func161, Tryz.ntmps161
  go_wp2_with fail
  refine (HA.out _).mono ?_
  rintro e w1 ⟨E, rfl, hE, hb1⟩
  have HX1 := Lib.hid (((Below.refl w.heap.size w).alloc (Nat.le_refl _) (.cells #[.string s, .string v] 195)).trans (hb1.mono (by simp)))
  have hb := ne_true hE
  have HE := Lib.hid hE
  clear hb1 HA hE
  go_wp2_with fail
  go_ret2
  exact ⟨_, E, rfl, HE.out, HX1.out⟩
 | true =>
  have h2 : textB v = false := by rw [h1, Bool.true_and] at h; exact h
  have z1 := text_size h1
  obtain ⟨A, hA⟩ : ∃ A, strOfNums (fixZ 2 s.size) ++ s = A := ⟨_, rfl⟩
  have HA := Lib.hid (fun W => Text_yes s A W hs h1 hA)
  have HB := Lib.hid (fun W => Text_no v W hv h2)
  clear h h1 h2 hA
  go_enter Tryz.func161, Tryz.ntmps161
  go_wp2_with fail
  refine (HA.out _).mono ?_
  rintro e w1 ⟨rfl, hb1⟩
  have q1 : w1.cell? ⟨w.heap.size, 1, none⟩ = some (.string v) := ((Box.new w _ _).below hb1).cell 1
  have HX1 := Lib.hid (((Below.refl w.heap.size w).alloc (Nat.le_refl _) (.cells #[.string s, .string v] 195)).trans (hb1.mono (by simp)))
  clear hb1 HA
  go_wp2_with fail
  refine (HB.out _).mono ?_
  rintro e w2 ⟨E, rfl, hE, hb2⟩
  have HX2 := Lib.hid (HX1.out.trans (hb2.mono HX1.out.size))
  have hb := ne_true hE
  have HE := Lib.hid hE
  clear hb2 HB q1 hE
  go_wp2_with fail
  go_ret2
  exact ⟨_, E, rfl, HE.out, HX2.out⟩
theorem conv_byte (z : Int) (w : World) : (convert 68 9 (.slice (some ⟨w.heap.size, 0, none⟩) 1 1)).run Tryz.prog (w.alloc (.cells #[.int .u8 z] 5)) = .ok (.string (strOfNums [z])) (w.alloc (.cells #[.int .u8 z] 5)) := by
 have hown : (w.alloc (.cells #[.int .u8 z] 5)).ownsRow w.heap.size 5 1 (.slice (some ⟨w.heap.size, 0, none⟩) 1 1) ([z] : List Int).length (([z] : List Int).map (Value.int .u8)) :=
  ⟨rfl, .inr ⟨w.heap.size, 1, #[.int .u8 z], rfl, Nat.le_refl _, heap_alloc_new w _, Nat.le_refl _, by unfold maxLen; omega, rfl, rfl⟩⟩
 exact conv_bytes hown
theorem put_1 (n : Int) (S : ByteArray) (w : World) (h : n = 0 ∨ n = 1) (hS : strOfNums [n] = S) :
  Calls Tryz.prog 141 #[.int .i64 1, .iface 3 (.int .i64 n)] w fun e w' => e = .returned (.tuple #[.string S, .int .i64 0]) ∧ Below w.heap.size w w' := by
 have HS := Lib.hid hS
 clear hS
 have a1 := to_i
 have hcv := conv_byte
 rcases h with rfl | rfl <;>
 ·go_enter Tryz.func141, Tryz.ntmps141
  go_wp2
  go_ret2
  exact ⟨by rw [← HS.out]; rfl, (Below.refl _ _).alloc (Nat.le_refl _) _⟩
theorem put_2 (n : Int) (S : ByteArray) (E : Int) (w : World) (h1 : n ≤ 9223372036854775807) (hS : fixStr 2 n = S) (hE : fixErr 2 n = E) :
  Calls Tryz.prog 141 #[.int .i64 2, .iface 3 (.int .i64 n)] w fun e w' => e = .returned (.tuple #[.string S, .int .i64 E]) ∧ Below w.heap.size w w' := by
 have H := Lib.hid (fun W => Two_is n S E W h1 hS hE)
 clear hS hE
 have a1 := to_i
 go_enter Tryz.func141, Tryz.ntmps141
 go_wp2_with fail
 refine (H.out _).mono ?_
 rintro e w1 ⟨rfl, hb1⟩
 have HX := Lib.hid hb1
 clear hb1
 go_wp2_with fail
 go_ret2
 exact ⟨rfl, HX.out⟩
theorem put_3 (n : Int) (S : ByteArray) (E : Int) (w : World) (h1 : n ≤ 9223372036854775807) (hS : fixStr 4 n = S) (hE : fixErr 4 n = E) :
  Calls Tryz.prog 141 #[.int .i64 3, .iface 3 (.int .i64 n)] w fun e w' => e = .returned (.tuple #[.string S, .int .i64 E]) ∧ Below w.heap.size w w' := by
 have H := Lib.hid (fun W => Four_is n S E W h1 hS hE)
 clear hS hE
 have a1 := to_i
 go_enter Tryz.func141, Tryz.ntmps141
 go_wp2_with fail
 refine (H.out _).mono ?_
 rintro e w1 ⟨rfl, hb1⟩
 have HX := Lib.hid hb1
 clear hb1
 go_wp2_with fail
 go_ret2
 exact ⟨rfl, HX.out⟩
theorem put_4 (n : Int) (S : ByteArray) (E : Int) (w : World) (hS : numStr n = S) (hE : numErr n = E) :
  Calls Tryz.prog 141 #[.int .i64 4, .iface 3 (.int .i64 n)] w fun e w' => e = .returned (.tuple #[.string S, .int .i64 E]) ∧ Below w.heap.size w w' := by
 have H := Lib.hid (fun W => Num_is n S E W hS hE)
 clear hS hE
 have a1 := to_i
 go_enter Tryz.func141, Tryz.ntmps141
 go_wp2_with fail
 refine (H.out _).mono ?_
 rintro e w1 ⟨rfl, hb1⟩
 have HX := Lib.hid hb1
 clear hb1
 go_wp2_with fail
 go_ret2
 exact ⟨rfl, HX.out⟩
theorem put_5 (s S : ByteArray) (E : Int) (w : World) (h1 : s.size ≤ 9223372036854775807) (hS : loStr true s = S) (hE : loErr true s = E) :
  Calls Tryz.prog 141 #[.int .i64 5, .iface 9 (.string s)] w fun e w' => e = .returned (.tuple #[.string S, .int .i64 E]) ∧ Below w.heap.size w w' := by
 have H := Lib.hid (fun W => Text_is s S E W h1 hS hE)
 clear hS hE
 have a1 := to_s
 go_enter Tryz.func141, Tryz.ntmps141
 go_wp2_with fail
 refine (H.out _).mono ?_
 rintro e w1 ⟨rfl, hb1⟩
 have HX := Lib.hid hb1
 clear hb1
 go_wp2_with fail
 go_ret2
 exact ⟨rfl, HX.out⟩
theorem put_6 (s S : ByteArray) (E : Int) (w : World) (hS : binStr s = S) (hE : binErr s = E) :
  Calls Tryz.prog 141 #[.int .i64 6, .iface 9 (.string s)] w fun e w' => e = .returned (.tuple #[.string S, .int .i64 E]) ∧ Below w.heap.size w w' := by
 have H := Lib.hid (fun W => Bin_is s S E W hS hE)
 clear hS hE
 have a1 := to_s
 go_enter Tryz.func141, Tryz.ntmps141
 go_wp2_with fail
 refine (H.out _).mono ?_
 rintro e w1 ⟨rfl, hb1⟩
 have HX := Lib.hid hb1
 clear hb1
 go_wp2_with fail
 go_ret2
 exact ⟨rfl, HX.out⟩
theorem put_7 (s v S : ByteArray) (w : World) (h1 : textB s = true) (h2 : textB v = true) (hS : (strOfNums (fixZ 2 s.size) ++ s) ++ (strOfNums (fixZ 2 v.size) ++ v) = S) :
  Calls Tryz.prog 141 #[.int .i64 7, .iface 195 (.agg #[.string s, .string v])] w fun e w' => e = .returned (.tuple #[.string S, .int .i64 0]) ∧ Below w.heap.size w w' := by
 have H := Lib.hid (fun W => putPair_good s v S W h1 h2 hS)
 clear hS h1 h2
 have a1 := to_p
 go_enter Tryz.func141, Tryz.ntmps141
 go_wp2_with fail
 refine (H.out _).mono ?_
 rintro e w1 ⟨rfl, hb1⟩
 have HX := Lib.hid hb1
 clear hb1
 go_wp2_with fail
 go_ret2
 exact ⟨rfl, HX.out⟩
theorem put_7bad (s v : ByteArray) (w : World) (hs : s.size ≤ 9223372036854775807) (hv : v.size ≤ 9223372036854775807) (h : (textB s && textB v) = false) :
  Calls Tryz.prog 141 #[.int .i64 7, .iface 195 (.agg #[.string s, .string v])] w (Wrong w) := by
 have H := Lib.hid (fun W => putPair_bad s v W hs hv h)
 clear hs hv h
 have a1 := to_p
 go_enter Tryz.func141, Tryz.ntmps141
 go_wp2_with fail
 refine (H.out _).mono ?_
 rintro e w1 ⟨T, E, rfl, hE, hb1⟩
 have HX := Lib.hid hb1
 have HE := Lib.hid hE
 clear hb1 hE
 go_wp2_with fail
 go_ret2
 exact ⟨T, E, rfl, HE.out, HX.out⟩
open Go.RowKit Go.Lib Prp
theorem toList_eq_iff (a b : ByteArray) : a.toList = b.toList ↔ a = b := by
 constructor
 ·intro h
  rw [ByteArray.toList_eq, ByteArray.toList_eq] at h
  exact ByteArray.ext (Array.toList_inj.1 (by simpa using h))
 ·rintro rfl; rfl
def diffB (a b : P) : Bool := decide (¬ (a.id = b.id ∧ a.n = b.n ∧ a.s = b.s ∧ a.v = b.v))
theorem diff_self (a : P) : diffB a a = false := by unfold diffB; simp
theorem neq_props (i n i' n' : Int) (s v s' v' : ByteArray) (w : World) :
  (binOp .neq 99 (.agg #[.int .i64 i, .int .i64 n, .string s, .string v]) (.agg #[.int .i64 i', .int .i64 n', .string s', .string v'])).run Tryz.prog w = .ok (.bool (diffB ⟨i, n, s, v⟩ ⟨i', n', s', v'⟩)) w := by
 rw [run_neq_struct]
 unfold diffB
 by_cases h1 : i = i' <;> by_cases h2 : n = n' <;> by_cases h3 : s = s' <;> by_cases h4 : v = v' <;> (try go_simp)
 all_goals simp [h3, h4, toList_eq_iff]
theorem EqProps_same (l : List P) (A A' : Option Addr) (c c' B B' : Nat) (w : World) (hm : l.length ≤ 9223372036854775807) (h : PropsAt w B A l) (h' : PropsAt w B' A' l) :
  Calls Tryz.prog 45 #[.slice A l.length c, .slice A' l.length c'] w fun e w' => e = .returned (.bool true) ∧ ∃ n, w' = w.drewN n := by
 have H := Lib.hid h
 have H' := Lib.hid h'
 clear h h'
 go_enter Tryz.func45, Tryz.ntmps45
 go_wp2_with fail
 go_loopw [5] (fun i wr => ∃ k n : Nat, k ≤ l.length ∧ i = .int .i64 (k : Int) ∧ wr = w.drewN n) (fun i _ => l.length - (RowKit.intOf i).toNat)
 case atStart => exact ⟨0, 0, Nat.zero_le _, rfl, rfl⟩
 case round =>
  obtain ⟨k, n, hk, rfl, rfl⟩ := hrel
  by_cases hlt : k < l.length
  ·obtain ⟨b, o, rfl, _, hc⟩ := H.out.some_ (by omega)
   obtain ⟨b', o', rfl, _, hc'⟩ := H'.out.some_ (by omega)
   have h1 := hc k hlt
   have h2 := hc' k hlt
   clear hc hc' H H'
   obtain ⟨i, x, s, v⟩ := l[k]
   obtain ⟨c0, c1, c2, c3⟩ := h1
   obtain ⟨d0, d1, d2, d3⟩ := h2
   have hkI : (k : Int) < (l.length : Int) := by omega
   have hne := neq_props i x i x s v s v
   rw [diff_self] at hne
   go_wp2
   go_quiet (fail)
   go_wp2
   go_roundw
   case rel => exact ⟨k + 1, _, hlt, by go_num, rfl⟩
   case measure => simp [RowKit.intOf]; omega
  ·go_wp2
   go_ret
   exact ⟨rfl, n, rfl⟩
open Go.RowKit Go.Lib Prp Vbi
@[irreducible] def Keep (w : World) (g : Nat) (cs : Array Value) (W : World) : Prop := Box W g cs ∧ Below w.heap.size w W
section
variable {w W W' : World} {g : Nat} {cs : Array Value}
theorem Keep.mk (h1 : Box W g cs) (h2 : Below w.heap.size w W) : Keep w g cs W := by unfold Keep; exact ⟨h1, h2⟩
theorem Keep.out (h : Keep w g cs W) : Box W g cs ∧ Below w.heap.size w W := by unfold Keep at h; exact h
theorem Keep.below (h : Keep w g cs W) (hb : Below W.heap.size W W') : Keep w g cs W' := .mk (h.out.1.below hb) (h.out.2.trans (hb.mono h.out.2.size))
theorem Keep.drewN (h : Keep w g cs W) (n : Nat) : Keep w g cs (W.drewN n) := h.below (below_drewN (Below.refl _ _) n)
theorem Keep.new (w : World) (T : TypeId) (cs : Array Value) : Keep w w.heap.size cs (w.alloc (.cells cs T)) := .mk (.new w T cs) ((Below.refl _ _).alloc (Nat.le_refl _) _)
theorem Keep.cell (h : Keep w g cs W) (i : Nat) : W.cell? ⟨g, i, none⟩ = cs[i]? := h.out.1.cell i
end
theorem Keep.four {w W : World} {g : Nat} {a b : Int} {s v : ByteArray} (h : Keep w g #[.int .i64 a, .int .i64 b, .string s, .string v] W) :
  W.cell? ⟨g, 0, none⟩ = some (.int .i64 a) ∧ W.cell? ⟨g, 1, none⟩ = some (.int .i64 b) ∧ W.cell? ⟨g, 2, none⟩ = some (.string s) ∧ W.cell? ⟨g, 3, none⟩ = some (.string v) :=
 ⟨h.cell 0, h.cell 1, h.cell 2, h.cell 3⟩
def anyOf (k : Int) (p : P) : Value :=
 if k = 5 ∨ k = 6 then .iface 9 (.string p.s) else if k = 7 then .iface 195 (.agg #[.string p.s, .string p.v]) else .iface 3 (.int .i64 p.n)
def strip (k : Int) (p : P) : P := if k = 5 ∨ k = 6 then ⟨p.id, 0, p.s, ⟨#[]⟩⟩ else if k = 7 then ⟨p.id, 0, p.s, p.v⟩ else ⟨p.id, p.n, ⟨#[]⟩, ⟨#[]⟩⟩
theorem kind_id {id : Int} (h : kindZ id ≠ 0) : 1 ≤ id ∧ id ≤ 42 := by
 rcases kind_cases id with c | c | c | c | c | c | c | c
 all_goals first | omega | exact absurd (kind_none c) h
theorem kind_seven {k : Int} (h0 : 0 ≤ k) (h7 : k ≤ 7) (h : k ≠ 0) : k = 1 ∨ k = 2 ∨ k = 3 ∨ k = 4 ∨ k = 5 ∨ k = 6 ∨ k = 7 := by omega
theorem valueOf_is (k id n : Int) (s v : ByteArray) (X : Value) (w : World) (hX : anyOf k ⟨id, n, s, v⟩ = X) :
  Calls Tryz.prog 140 #[.int .i64 k, .agg #[.int .i64 id, .int .i64 n, .string s, .string v]] w fun e w' => e = .returned X ∧ Below w.heap.size w w' := by
 subst hX
 unfold anyOf
 by_cases h5 : k = 5 ∨ k = 6
 ·rw [if_pos h5]; exact valueOf_str k id n s v w h5
 ·rw [if_neg h5]
  by_cases h7 : k = 7
  ·subst h7; rw [if_pos rfl]; exact valueOf_two id n s v w
  ·rw [if_neg h7]; exact valueOf_num k id n s v w (by omega)
theorem propOf_is (k id n i' n' : Int) (s v s' v' : ByteArray) (X : Value) (w : World) (hX : anyOf k ⟨id, n, s, v⟩ = X) (hq : strip k ⟨id, n, s, v⟩ = ⟨i', n', s', v'⟩) :
  Calls Tryz.prog 142 #[.int .i64 id, X] w fun e w' => e = .returned (.agg #[.int .i64 i', .int .i64 n', .string s', .string v']) ∧ Below w.heap.size w w' := by
 subst hX
 unfold anyOf
 unfold strip at hq
 by_cases h5 : k = 5 ∨ k = 6
 ·rw [if_pos h5]; rw [if_pos h5] at hq; cases hq; exact propOf_str id s w
 ·rw [if_neg h5]; rw [if_neg h5] at hq
  by_cases h7 : k = 7
  ·subst h7; rw [if_pos rfl]; rw [if_pos rfl] at hq; cases hq; exact propOf_two id s v w
  ·rw [if_neg h7]; rw [if_neg h7] at hq; cases hq; exact propOf_num id n w
theorem fix_yes {wd : Nat} {x : Int} (h0 : 0 ≤ x) (h1 : x < 256 ^ wd) : fixErr wd x = 0 ∧ fixStr wd x = strOfNums (fixZ wd x.toNat) := by
 rcases fix_cases wd x with ⟨_, _, e1, e2⟩ | ⟨_, _, _⟩
 ·exact ⟨e1, e2⟩
 ·omega
theorem fix_no {wd : Nat} {x : Int} (h : ¬ (0 ≤ x ∧ x < 256 ^ wd)) : fixErr wd x = 2 := by
 rcases fix_cases wd x with ⟨_, _, _, _⟩ | ⟨_, e1, e2⟩
 ·omega
 ·exact e1
theorem put_yes (k id n : Int) (s v S : ByteArray) (X : Value) (w : World) (hk0 : 0 ≤ k) (hk7 : k ≤ 7) (hk : k ≠ 0) (hn : n ≤ 9223372036854775807) (hs : s.size ≤ 9223372036854775807) (hX : anyOf k ⟨id, n, s, v⟩ = X) (hp : putB k n s v = true) (hS : valStr k ⟨id, n, s, v⟩ = S) :
  Calls Tryz.prog 141 #[.int .i64 k, X] w fun e w' => e = .returned (.tuple #[.string S, .int .i64 0]) ∧ Below w.heap.size w w' := by
 subst hX
 rcases kind_seven hk0 hk7 hk with rfl | rfl | rfl | rfl | rfl | rfl | rfl
 ·exact put_1 n S w (of_decide_eq_true hp) hS
 ·have h := of_decide_eq_true hp
  exact put_2 n S 0 w hn ((fix_yes h.1 h.2).2.trans hS) (fix_yes h.1 h.2).1
 ·have h := of_decide_eq_true hp
  exact put_3 n S 0 w hn ((fix_yes h.1 h.2).2.trans hS) (fix_yes h.1 h.2).1
 ·have h := of_decide_eq_true hp
  rcases numErr_cases n with ⟨_, _, e1, e2⟩ | ⟨_, _, _⟩
  ·exact put_4 n S 0 w (e2.trans hS) e1
  ·omega
 ·have h : textB s = true := hp
  unfold textB at h
  have h := of_decide_eq_true h
  refine put_5 s S 0 w hs ?_ h
  rcases lo_cases true s with ⟨_, _, e⟩ | ⟨e, _⟩
  ·exact e.trans hS
  ·exact absurd h e
 ·have h : binB s = true := hp
  unfold binB at h
  have h := of_decide_eq_true h
  refine put_6 s S 0 w ?_ ?_
  ·unfold binStr; rw [if_neg (by omega)]; exact hS
  ·unfold binErr; rw [if_neg (by omega)]
 ·have h : (textB s && textB v) = true := hp
  rw [Bool.and_eq_true] at h
  exact put_7 s v S w h.1 h.2 hS
theorem put_no (k id n : Int) (s v : ByteArray) (X : Value) (w : World) (hk0 : 0 ≤ k) (hk7 : k ≤ 7) (hk : k ≠ 0) (hk1 : k = 1 → n = 0 ∨ n = 1) (hn : n ≤ 9223372036854775807) (hs : s.size ≤ 9223372036854775807) (hv : v.size ≤ 9223372036854775807) (hX : anyOf k ⟨id, n, s, v⟩ = X) (hp : putB k n s v = false) :
  Calls Tryz.prog 141 #[.int .i64 k, X] w (Wrong w) := by
 subst hX
 rcases kind_seven hk0 hk7 hk with rfl | rfl | rfl | rfl | rfl | rfl | rfl
 ·exact absurd (hk1 rfl) (of_decide_eq_false hp)
 ·exact (put_2 n _ _ w hn rfl (fix_no (of_decide_eq_false hp))).mono fun _ _ ⟨h1, h2⟩ => ⟨_, 2, h1, by decide, h2⟩
 ·exact (put_3 n _ _ w hn rfl (fix_no (of_decide_eq_false hp))).mono fun _ _ ⟨h1, h2⟩ => ⟨_, 2, h1, by decide, h2⟩
 ·have h := of_decide_eq_false hp
  rcases numErr_cases n with ⟨_, _, _, _⟩ | ⟨_, e1, e2⟩
  ·omega
  ·exact (put_4 n _ _ w rfl e1).mono fun _ _ ⟨h1, h2⟩ => ⟨_, 2, h1, by decide, h2⟩
 ·have h : textB s = false := hp
  unfold textB at h
  have h := of_decide_eq_false h
  exact (put_5 s _ _ w hs rfl rfl).mono fun _ _ ⟨h1, h2⟩ => ⟨_, _, h1, h, h2⟩
 ·have h : binB s = false := hp
  unfold binB at h
  have h := of_decide_eq_false h
  refine (put_6 s _ 2 w rfl ?_).mono fun _ _ ⟨h1, h2⟩ => ⟨_, 2, h1, by decide, h2⟩
  unfold binErr; rw [if_pos (by omega)]
 ·exact put_7bad s v w hs hv hp
theorem vp_num (A : Prop) [Decidable A] (id n : Int) (s v : ByteArray) : decide (A ∧ s = ⟨#[]⟩ ∧ v = ⟨#[]⟩) = (decide A && !diffB ⟨id, n, ⟨#[]⟩, ⟨#[]⟩⟩ ⟨id, n, s, v⟩) := by
 unfold diffB
 have e1 : ((⟨#[]⟩ : ByteArray) = s) = (s = ⟨#[]⟩) := propext eq_comm
 have e2 : ((⟨#[]⟩ : ByteArray) = v) = (v = ⟨#[]⟩) := propext eq_comm
 simp only [e1, e2]
 by_cases hA : A <;> by_cases hs : s = ⟨#[]⟩ <;> by_cases hv : v = ⟨#[]⟩ <;> simp [hA, hs, hv]
theorem vp_str (b : Bool) (id n : Int) (s v : ByteArray) : decide (n = 0 ∧ b = true ∧ v = ⟨#[]⟩) = (b && !diffB ⟨id, 0, s, ⟨#[]⟩⟩ ⟨id, n, s, v⟩) := by
 unfold diffB
 have e1 : ((0 : Int) = n) = (n = 0) := propext eq_comm
 have e2 : ((⟨#[]⟩ : ByteArray) = v) = (v = ⟨#[]⟩) := propext eq_comm
 simp only [e1, e2]
 cases b <;> by_cases hn : n = 0 <;> by_cases hv : v = ⟨#[]⟩ <;> simp [hn, hv]
theorem vp_two (b c : Bool) (id n : Int) (s v : ByteArray) : decide (n = 0 ∧ b = true ∧ c = true) = ((b && c) && !diffB ⟨id, 0, s, v⟩ ⟨id, n, s, v⟩) := by
 unfold diffB
 have e1 : ((0 : Int) = n) = (n = 0) := propext eq_comm
 simp only [e1]
 cases b <;> cases c <;> by_cases hn : n = 0 <;> simp [hn]
theorem val_put (k id n : Int) (s v : ByteArray) (hk0 : 0 ≤ k) (hk7 : k ≤ 7) (hk : k ≠ 0) : valB k ⟨id, n, s, v⟩ = (putB k n s v && !diffB (strip k ⟨id, n, s, v⟩) ⟨id, n, s, v⟩) := by
 rcases kind_seven hk0 hk7 hk with rfl | rfl | rfl | rfl | rfl | rfl | rfl
 ·exact vp_num _ id n s v
 ·exact vp_num _ id n s v
 ·exact vp_num _ id n s v
 ·exact vp_num _ id n s v
 ·exact vp_str (textB s) id n s v
 ·exact vp_str (binB s) id n s v
 ·exact vp_two (textB s) (textB v) id n s v
theorem val_size {k id n : Int} {s v : ByteArray} (hk0 : 0 ≤ k) (hk7 : k ≤ 7) (hk : k ≠ 0) (h : putB k n s v = true) : (valStr k ⟨id, n, s, v⟩).size ≤ 2052 := by
 rcases kind_seven hk0 hk7 hk with rfl | rfl | rfl | rfl | rfl | rfl | rfl
 ·show (strOfNums [n]).size ≤ _; rw [strOfNums_size]; simp
 ·show (strOfNums (fixZ 2 n.toNat)).size ≤ _; rw [strOfNums_size, fixZ_len]; omega
 ·show (strOfNums (fixZ 4 n.toNat)).size ≤ _; rw [strOfNums_size, fixZ_len]; omega
 ·show (strOfNums (numZ n.toNat)).size ≤ _
  have h := of_decide_eq_true h
  rw [strOfNums_size, numZ_len (by omega)]
  have := numLen_le n.toNat
  omega
 ·show (strOfNums (fixZ 2 s.size) ++ s).size ≤ _
  have h : textB s = true := h
  rw [size_2]; have := text_size h; omega
 ·show (strOfNums (fixZ 2 s.size) ++ s).size ≤ _
  have h : binB s = true := h
  unfold binB at h
  have h := of_decide_eq_true h
  rw [size_2]; omega
 ·show ((strOfNums (fixZ 2 s.size) ++ s) ++ (strOfNums (fixZ 2 v.size) ++ v)).size ≤ _
  have h : (textB s && textB v) = true := h
  rw [Bool.and_eq_true] at h
  rw [ByteArray.size_append, size_2, size_2]
  have := text_size h.1
  have := text_size h.2
  omega
theorem putOne_wrong (k id n : Int) (s v : ByteArray) (w : World) (hk : kindZ id = k) (hk0 : k ≠ 0) (hk1 : k = 1 → n = 0 ∨ n = 1) (hn : n ≤ 9223372036854775807) (hs : s.size ≤ 9223372036854775807) (hv : v.size ≤ 9223372036854775807) (hp : putB k n s v = false) :
  Calls Tryz.prog 113 #[.agg #[.int .i64 id, .int .i64 n, .string s, .string v]] w fun e w' => e = .returned (.tuple #[.string ⟨#[]⟩, .int .i64 1]) ∧ Below w.heap.size w w' := by
 have hr := kind_range id
 rw [hk] at hr
 obtain ⟨X, hX⟩ : ∃ X, anyOf k ⟨id, n, s, v⟩ = X := ⟨_, rfl⟩
 have HK := Lib.hid (fun W => Kind_is id k _ W hk rfl)
 have HV := Lib.hid (fun W => valueOf_is k id n s v X W hX)
 have HP := Lib.hid (fun W => put_no k id n s v X W hr.1 hr.2 hk0 hk1 hn hs hv hX hp)
 clear hk hk0 hk1 hX hp hr
 go_enter Tryz.func113, Tryz.ntmps113
 go_wp2_with fail
 have HB := Lib.hid (Keep.new w 99 #[.int .i64 id, .int .i64 n, .string s, .string v])
 generalize w.alloc (.cells #[.int .i64 id, .int .i64 n, .string s, .string v] 99) = w0 at HB ⊢
 refine (HK.out _).mono ?_
 rintro e w' ⟨rfl, rfl⟩
 obtain ⟨c0, c1, c2, c3⟩ := HB.out.four
 go_wp2_with fail
 refine (HV.out _).mono ?_
 rintro e w1 ⟨rfl, hb1⟩
 have HB1 := Lib.hid (HB.out.below hb1)
 clear c0 c1 c2 c3 hb1 HB HV
 go_wp2_with fail
 refine (HP.out _).mono ?_
 rintro e w2 ⟨S, E, rfl, hE, hb2⟩
 have HB2 := Lib.hid (HB1.out.below hb2)
 have hE2 := ne_true hE
 clear hb2 HB1 HP hE
 go_wp2_with fail
 go_quiet (fail)
 go_wp2_with fail
 go_ret2
 exact ⟨rfl, below_drewN HB2.out.out.2 _⟩
end Go.Proofs.YtdbbcfohjkgdcaaGreat
