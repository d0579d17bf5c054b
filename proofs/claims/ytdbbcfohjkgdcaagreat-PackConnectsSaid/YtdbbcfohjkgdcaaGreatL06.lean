/- Package prop: a value is taken, by its kind. -/
import Derived.Test.YtdbbcfohjkgdcaaGreatL00
import Derived.Test.YtdbbcfohjkgdcaaGreatL05
set_option maxRecDepth 100000
set_option maxHeartbeats 64000000
namespace Go.Proofs.YtdbbcfohjkgdcaaGreat
open Go.RowKit Go.Lib Prp
def Box (w : World) (g : Nat) (cs : Array Value) : Prop := ∃ T, w.heap[g]? = some (.cells cs T (0, 0))
section
variable {w w' : World} {g : Nat} {cs : Array Value}
theorem Box.new (w : World) (T : TypeId) (cs : Array Value) : Box (w.alloc (.cells cs T)) w.heap.size cs := ⟨T, heap_alloc_new w _⟩
theorem Box.lt (h : Box w g cs) : g < w.heap.size := by
 obtain ⟨T, h⟩ := h
 exact (Array.getElem?_eq_some_iff.1 h).1
theorem Box.cell (h : Box w g cs) (i : Nat) : w.cell? ⟨g, i, none⟩ = cs[i]? := by
 obtain ⟨T, h⟩ := h
 exact cell_of_row w g i cs T (0, 0) h
theorem Box.frozen (h : Box w g cs) (i : Nat) : w.frozen? ⟨g, i, none⟩ = false := by
 obtain ⟨T, h⟩ := h
 simp [World.frozen?, h]
theorem Box.below (h : Box w g cs) (hb : Below w.heap.size w w') : Box w' g cs := by
 have hl := h.lt
 obtain ⟨T, h⟩ := h
 exact ⟨T, (hb.block g hl).trans h⟩
theorem Box.drewN (h : Box w g cs) (n : Nat) : Box (w.drewN n) g cs := h
theorem Box.drew (h : Box w g cs) : Box w.drew g cs := h
theorem Box.alloc (h : Box w g cs) (o : Obj) : Box (w.alloc o) g cs := h.below ((Below.refl _ _).alloc (Nat.le_refl _) o)
theorem Box.put (h : Box w g cs) (i : Nat) (v : Value) : Box (w.setCell ⟨g, i, none⟩ v) g (cs.setIfInBounds i v) := by
 obtain ⟨T, h⟩ := h
 exact ⟨T, by simp [World.setCell, Array.getElem?_modify, h]⟩
theorem Box.far (h : Box w g cs) {p : Addr} (hp : g ≠ p.block) (v : Value) : Box (w.setCell p v) g cs := by
 obtain ⟨T, h⟩ := h
 exact ⟨T, (Below.heap_setCell w p v g hp).trans h⟩
end
def pcells (p : P) : List Value := [.int .i64 p.id, .int .i64 p.n, .string p.s, .string p.v]
structure Fit (p : P) : Prop where
 i0 : -9223372036854775808 ≤ p.id
 i1 : p.id ≤ 9223372036854775807
 n0 : -9223372036854775808 ≤ p.n
 n1 : p.n ≤ 9223372036854775807
 hs : p.s.size ≤ 140737488351232
 hv : p.v.size ≤ 140737488351232
structure PAt (w : World) (b o : Nat) (p : P) : Prop where
 c0 : w.cell? ⟨b, o, none⟩ = some (.int .i64 p.id)
 c1 : w.cell? ⟨b, o + 1, none⟩ = some (.int .i64 p.n)
 c2 : w.cell? ⟨b, o + 2, none⟩ = some (.string p.s)
 c3 : w.cell? ⟨b, o + 3, none⟩ = some (.string p.v)
def PropsAt (w : World) (B : Nat) (A : Option Addr) (l : List P) : Prop :=
 l = [] ∨ ∃ b o, A = some ⟨b, o, none⟩ ∧ b < B ∧ ∀ j (h : j < l.length), PAt w b (o + j * 4) l[j]
section
variable {w w' : World} {B B' : Nat} {A : Option Addr} {l : List P}
theorem PAt.keep {b o : Nat} {p : P} (h : PAt w b o p) (hk : ∀ i, w'.cell? ⟨b, i, none⟩ = w.cell? ⟨b, i, none⟩) : PAt w' b o p :=
 ⟨(hk _).trans h.c0, (hk _).trans h.c1, (hk _).trans h.c2, (hk _).trans h.c3⟩
theorem PropsAt.none_ : PropsAt w B A [] := .inl rfl
theorem PropsAt.some_ (h : PropsAt w B A l) (hl : 0 < l.length) : ∃ b o, A = some ⟨b, o, none⟩ ∧ b < B ∧ ∀ j (h : j < l.length), PAt w b (o + j * 4) l[j] := by
 rcases h with rfl | h
 ·simp at hl
 ·exact h
theorem PropsAt.keep (h : PropsAt w B A l) (hk : ∀ p : Addr, p.block < B → w'.cell? p = w.cell? p) : PropsAt w' B A l := by
 rcases h with h | ⟨b, o, h1, h2, h3⟩
 ·exact .inl h
 ·exact .inr ⟨b, o, h1, h2, fun j hj => (h3 j hj).keep fun i => hk ⟨b, i, none⟩ h2⟩
theorem PropsAt.mono (h : PropsAt w B A l) (hB : B ≤ B') : PropsAt w B' A l := by
 rcases h with h | ⟨b, o, h1, h2, h3⟩
 ·exact .inl h
 ·exact .inr ⟨b, o, h1, Nat.lt_of_lt_of_le h2 hB, h3⟩
theorem PropsAt.below (h : PropsAt w B A l) (hb : Below B w w') : PropsAt w' B A l := h.keep fun _ hp => hb.cell hp
theorem PropsAt.drewN (h : PropsAt w B A l) (n : Nat) : PropsAt (w.drewN n) B A l := h.keep fun _ _ => rfl
theorem PropsAt.alloc (h : PropsAt w B A l) (hB : B ≤ w.heap.size) (o : Obj) : PropsAt (w.alloc o) B A l := h.keep fun p hp => World.cell?_alloc_lt w o p (by omega)
theorem PropsAt.take (h : PropsAt w B A l) (k : Nat) : PropsAt w B A (l.take k) := by
 rcases h with rfl | ⟨b, o, h1, h2, h3⟩
 ·exact .inl (by simp)
 ·refine .inr ⟨b, o, h1, h2, fun j hj => ?_⟩
  have hl : j < l.length := by rw [List.length_take] at hj; omega
  rw [List.getElem_take]
  exact h3 j hl
end
def flat (l : List P) : List Value := l.flatMap pcells
theorem flat_snoc (l : List P) (p : P) : flat (l ++ [p]) = flat l ++ pcells p := by unfold flat; rw [List.flatMap_append]; simp
theorem flat_at (l : List P) (j i : Nat) (hj : j < l.length) (hi : i < 4) : (flat l)[j * 4 + i]? = (pcells l[j])[i]? := by
 induction l generalizing j with
 | nil => simp at hj
 | cons p t ih =>
  have e : flat (p :: t) = pcells p ++ flat t := by unfold flat; rw [List.flatMap_cons]
  rw [e]
  cases j with
  | zero =>
   rw [List.getElem?_append_left (by show _ < 4; omega)]
   simp
  | succ m =>
   rw [List.getElem?_append_right (by show 4 ≤ _; omega)]
   have : (m + 1) * 4 + i - (pcells p).length = m * 4 + i := by show _ - 4 = _; omega
   rw [this]
   exact ih m (by simpa using hj)
theorem PropsAt.of_own {w : World} {base e c : Nat} {A : Option Addr} {l : List P} (h : w.ownsRow base e 4 (.slice A l.length c) l.length (flat l)) : PropsAt w w.heap.size A l := by
 rcases h.2 with ⟨hv, hn⟩ | ⟨g, cap, cur, hv, _, hg, hle, _, hsz, htk⟩
 ·exact .inl (List.eq_nil_of_length_eq_zero hn)
 ·injection hv with hA _ _
  subst hA
  have key := h.cells (g := g) rfl
  refine .inr ⟨g, 0, rfl, (Array.getElem?_eq_some_iff.1 hg).1, fun j hj => ?_⟩
  have hz : ∀ i u, i < 4 → (pcells l[j])[i]? = some u → w.cell? ⟨g, 0 + j * 4 + i, none⟩ = some u := fun i u hi hu => by
   have := key (j * 4 + i) u (by rw [flat_at l j i hj hi]; exact hu)
   rw [add_new] at this
   rw [Nat.zero_add]
   exact this
  exact ⟨hz 0 _ (by omega) rfl, hz 1 _ (by omega) rfl, hz 2 _ (by omega) rfl, hz 3 _ (by omega) rfl⟩
theorem own_slice {w : World} {base e : Nat} {v : Value} {l : List P} (h : w.ownsRow base e 4 v l.length (flat l)) : ∃ A c, v = .slice A l.length c := by
 rcases h.2 with ⟨hv, hn⟩ | ⟨g, cap, cur, hv, _⟩
 ·exact ⟨none, 0, by rw [hv, hn]⟩
 ·exact ⟨_, cap, hv⟩
open Go.ChangeShapes Go.WideShapes Go.ChangeAt Go.RowKit Prp
theorem ownKnob_none : ownKnob Tryz.prog.godebug = none := by kernel_rfl
theorem laidOut_true : laidOutB Tryz.prog = true := by kernel_rfl
theorem cells_string : Tryz.prog.cellsOf 9 = 1 := by kernel_rfl
theorem cells_int : Tryz.prog.cellsOf 3 = 1 := by kernel_rfl
theorem cell_lt {w : World} {a : Addr} {v : Value} (h : w.cell? a = some v) : a.block < w.heap.size := by
 rcases Nat.lt_or_ge a.block w.heap.size with hlt | hge
 ·exact hlt
 ·unfold World.cell? at h
  rw [Array.getElem?_eq_none hge] at h
  cases h
theorem add_off {b off : Nat} (k : Nat) : ((⟨b, off, none⟩ : Addr).add k) = ⟨b, off + k, none⟩ := by
 unfold Addr.add; split
 ·next h => subst h; rfl
 ·rfl
theorem int_range {x : Int} (h : (Lit.int .i64 x).wf = true) : -9223372036854775808 ≤ x ∧ x ≤ 9223372036854775807 := by
 have h1 : IntKind.i64.min = -9223372036854775808 := rfl
 have h2 : IntKind.i64.max = 9223372036854775807 := rfl
 simp only [Lit.wf, Bool.and_eq_true, decide_eq_true_eq] at h
 omega
section
variable {H : Type} {enc : TypeId × Value → H} {W : World} {base : Nat} {spare : Nat → Bool} {held : Bool}
def Near (t : TypeId) (d : DataW H) : Prop := ∀ n ∈ d.weights Tryz.prog t, n ≤ reachBytes
theorem near_field {t e : TypeId} {fs : Array Field} {ys : List (DataW H × List MemPlace)} {j : Nat} {f : Field} {y : DataW H × List MemPlace} (hu : Tryz.prog.underlying t = some (.struct fs)) (h : Near t (.agg (ys.map (·.1)))) (hf : fs[j]? = some f) (he : f.type = e) (hy : ys[j]? = some y) : Near e y.1 := by
 subst he
 intro n hn
 refine h n ?_
 rw [DataW.weights, hu]
 refine DataW.weights_mem_each (j := j) ?_ ?_ n hn
 ·rw [List.getElem?_map, Array.getElem?_toList, hf]; rfl
 ·rw [List.getElem?_map, hy]; rfl
theorem near_all {e : TypeId} {ds : List (DataW H)} {d : DataW H} (hd : d ∈ ds) : ∀ n ∈ d.weights Tryz.prog e, n ∈ DataW.weightsAll Tryz.prog e ds := by
 induction ds with
 | nil => cases hd
 | cons x r ih =>
  intro n hn
  rw [DataW.weightsAll, List.mem_append]
  rcases List.mem_cons.1 hd with rfl | hd
  ·exact .inl hn
  ·exact .inr (ih hd n hn)
theorem near_elem {t e : TypeId} {elems rest : List (DataW H)} {d : DataW H} (hu : Tryz.prog.underlying t = some (.slice e)) (h : Near t (.slice elems rest)) (hd : d ∈ elems) : Near e d := by
 intro n hn
 refine h n ?_
 rw [DataW.weights, hu]
 exact List.mem_cons_of_mem _ (List.mem_append_left _ (near_all hd n hn))
theorem near_string {t : TypeId} {s : ByteArray} (h : Near t (DataW.lit (H := H) (.string s.data.toList))) : s.size ≤ 140737488351232 := by
 have := h s.data.toList.length (by rw [DataW.weights]; exact List.mem_singleton.2 rfl)
 rw [Lib.size_eq]
 exact this
end
open Go.RowKit Go.Lib Prp
theorem ne_false {a b : Int} (h : a ≠ b) : (a == b) = false := by rw [beq_eq_false_iff_ne]; exact h
theorem Kind_is (id K E : Int) (w : World) (hK : kindZ id = K) (hE : kindErr id = E) :
  Calls Tryz.prog 139 #[.int .i64 id] w fun e w' => e = .returned (.tuple #[.int .i64 K, .int .i64 E]) ∧ w = w' := by
 rcases kind_cases id with c | c | c | c | c | c | c | c
 ·rcases c with rfl | rfl | rfl | rfl | rfl | rfl | rfl | rfl <;>
  ·obtain rfl : 1 = K := hK
   obtain rfl : 0 = E := hE
   go_enter Tryz.func139, Tryz.ntmps139
   go_wp2
   go_ret2
   exact ⟨rfl, rfl⟩
 ·rcases c with rfl | rfl | rfl | rfl <;>
  ·obtain rfl : 2 = K := hK
   obtain rfl : 0 = E := hE
   go_enter Tryz.func139, Tryz.ntmps139
   go_wp2
   go_ret2
   exact ⟨rfl, rfl⟩
 ·rcases c with rfl | rfl | rfl | rfl <;>
  ·obtain rfl : 3 = K := hK
   obtain rfl : 0 = E := hE
   go_enter Tryz.func139, Tryz.ntmps139
   go_wp2
   go_ret2
   exact ⟨rfl, rfl⟩
 ·obtain rfl := c
  obtain rfl : 4 = K := hK
  obtain rfl : 0 = E := hE
  go_enter Tryz.func139, Tryz.ntmps139
  go_wp2
  go_ret2
  exact ⟨rfl, rfl⟩
 ·rcases c with rfl | rfl | rfl | rfl | rfl | rfl | rfl <;>
  ·obtain rfl : 5 = K := hK
   obtain rfl : 0 = E := hE
   go_enter Tryz.func139, Tryz.ntmps139
   go_wp2
   go_ret2
   exact ⟨rfl, rfl⟩
 ·rcases c with rfl | rfl <;>
  ·obtain rfl : 6 = K := hK
   obtain rfl : 0 = E := hE
   go_enter Tryz.func139, Tryz.ntmps139
   go_wp2
   go_ret2
   exact ⟨rfl, rfl⟩
 ·obtain rfl := c
  obtain rfl : 7 = K := hK
  obtain rfl : 0 = E := hE
  go_enter Tryz.func139, Tryz.ntmps139
  go_wp2
  go_ret2
  exact ⟨rfl, rfl⟩
 ·obtain rfl : 0 = K := (kind_none c).symm.trans hK
  obtain rfl : 3 = E := by rw [← hE]; unfold kindErr; rw [if_pos (kind_none c)]
  clear hK hE
  obtain ⟨⟨a1, a2, a3, a4, a5, a6, a7, a8⟩, ⟨b1, b2, b3, b4⟩, ⟨c1, c2, c3, c4⟩, d1, ⟨e1, e2, e3, e4, e5, e6, e7⟩, ⟨f1, f2⟩, g1⟩ := c
  replace a1 := ne_false a1
  replace a2 := ne_false a2
  replace a3 := ne_false a3
  replace a4 := ne_false a4
  replace a5 := ne_false a5
  replace a6 := ne_false a6
  replace a7 := ne_false a7
  replace a8 := ne_false a8
  replace b1 := ne_false b1
  replace b2 := ne_false b2
  replace b3 := ne_false b3
  replace b4 := ne_false b4
  replace c1 := ne_false c1
  replace c2 := ne_false c2
  replace c3 := ne_false c3
  replace c4 := ne_false c4
  replace d1 := ne_false d1
  replace e1 := ne_false e1
  replace e2 := ne_false e2
  replace e3 := ne_false e3
  replace e4 := ne_false e4
  replace e5 := ne_false e5
  replace e6 := ne_false e6
  replace e7 := ne_false e7
  replace f1 := ne_false f1
  replace f2 := ne_false f2
  replace g1 := ne_false g1
  go_enter Tryz.func139, Tryz.ntmps139
  go_wp2
  go_ret2
  exact ⟨rfl, rfl⟩
open Go.RowKit Go.Lib Prp
theorem RKind_is (id K : Int) (w : World) (hK : kindZ id = K) :
  Calls Tryz.prog 98 #[.int .i64 id] w fun e w' => e = .returned (.int .i64 K) ∧ w = w' := by
 rcases kind_cases id with c | c | c | c | c | c | c | c
 ·rcases c with rfl | rfl | rfl | rfl | rfl | rfl | rfl | rfl <;>
  ·obtain rfl : 1 = K := hK
   go_enter Tryz.func98, Tryz.ntmps98
   go_wp2
   go_ret
   exact ⟨rfl, rfl⟩
 ·rcases c with rfl | rfl | rfl | rfl <;>
  ·obtain rfl : 2 = K := hK
   go_enter Tryz.func98, Tryz.ntmps98
   go_wp2
   go_ret
   exact ⟨rfl, rfl⟩
 ·rcases c with rfl | rfl | rfl | rfl <;>
  ·obtain rfl : 3 = K := hK
   go_enter Tryz.func98, Tryz.ntmps98
   go_wp2
   go_ret
   exact ⟨rfl, rfl⟩
 ·obtain rfl := c
  obtain rfl : 4 = K := hK
  go_enter Tryz.func98, Tryz.ntmps98
  go_wp2
  go_ret
  exact ⟨rfl, rfl⟩
 ·rcases c with rfl | rfl | rfl | rfl | rfl | rfl | rfl <;>
  ·obtain rfl : 5 = K := hK
   go_enter Tryz.func98, Tryz.ntmps98
   go_wp2
   go_ret
   exact ⟨rfl, rfl⟩
 ·rcases c with rfl | rfl <;>
  ·obtain rfl : 6 = K := hK
   go_enter Tryz.func98, Tryz.ntmps98
   go_wp2
   go_ret
   exact ⟨rfl, rfl⟩
 ·obtain rfl := c
  obtain rfl : 7 = K := hK
  go_enter Tryz.func98, Tryz.ntmps98
  go_wp2
  go_ret
  exact ⟨rfl, rfl⟩
 ·obtain rfl : 0 = K := (kind_none c).symm.trans hK
  clear hK
  obtain ⟨⟨a1, a2, a3, a4, a5, a6, a7, a8⟩, ⟨b1, b2, b3, b4⟩, ⟨c1, c2, c3, c4⟩, d1, ⟨e1, e2, e3, e4, e5, e6, e7⟩, ⟨f1, f2⟩, g1⟩ := c
  replace a1 := ne_false a1
  replace a2 := ne_false a2
  replace a3 := ne_false a3
  replace a4 := ne_false a4
  replace a5 := ne_false a5
  replace a6 := ne_false a6
  replace a7 := ne_false a7
  replace a8 := ne_false a8
  replace b1 := ne_false b1
  replace b2 := ne_false b2
  replace b3 := ne_false b3
  replace b4 := ne_false b4
  replace c1 := ne_false c1
  replace c2 := ne_false c2
  replace c3 := ne_false c3
  replace c4 := ne_false c4
  replace d1 := ne_false d1
  replace e1 := ne_false e1
  replace e2 := ne_false e2
  replace e3 := ne_false e3
  replace e4 := ne_false e4
  replace e5 := ne_false e5
  replace e6 := ne_false e6
  replace e7 := ne_false e7
  replace f1 := ne_false f1
  replace f2 := ne_false f2
  replace g1 := ne_false g1
  go_enter Tryz.func98, Tryz.ntmps98
  go_wp2
  go_ret
  exact ⟨rfl, rfl⟩
theorem dec_true' {p : Prop} [Decidable p] {b : Bool} (h : decide p = b) (hp : p) : true = b := by rw [← h]; exact (decide_eq_true hp).symm
theorem dec_false' {p : Prop} [Decidable p] {b : Bool} (h : decide p = b) (hp : ¬ p) : false = b := by rw [← h]; exact (decide_eq_false hp).symm
theorem eq_dec' {p : Prop} [Decidable p] {a b : Bool} (h : decide p = b) (hp : a = true ↔ p) : a = b := by rw [← h, Bool.eq_iff_iff, hp]; simp
theorem isPlace_is (x : Int) (b : Bool) (w : World) (h : placeB x = b) :
  Calls Tryz.prog 111 #[.int .i64 x] w fun e w' => e = .returned (.bool b) ∧ w = w' := by
 have HB := Lib.hid h
 clear h
 unfold placeB at HB
 by_cases h0 : 0 ≤ x
 ·go_enter Tryz.func111, Tryz.ntmps111
  go_wp2
  go_ret
  exact ⟨ret_bool (eq_dec' HB.out (by simp; omega)), rfl⟩
 ·go_enter Tryz.func111, Tryz.ntmps111
  go_wp2
  go_ret
  exact ⟨ret_bool (dec_false' HB.out (by omega)), rfl⟩
theorem mayRepeat_is (x id : Int) (b : Bool) (w : World) (h : repB x id = b) :
  Calls Tryz.prog 138 #[.int .i64 x, .int .i64 id] w fun e w' => e = .returned (.bool b) ∧ w = w' := by
 have HB := Lib.hid h
 clear h
 unfold repB at HB
 by_cases h38 : id = 38
 ·subst h38
  go_enter Tryz.func138, Tryz.ntmps138
  go_wp2
  go_ret
  exact ⟨ret_bool (dec_true' HB.out (by simp)), rfl⟩
 ·have b38 := ne_false h38
  by_cases h11 : id = 11
  ·subst h11
   by_cases h3 : x = 3
   ·subst h3
    go_enter Tryz.func138, Tryz.ntmps138
    go_wp2
    go_ret
    exact ⟨ret_bool (dec_true' HB.out (by simp)), rfl⟩
   ·have b3 := ne_false h3
    go_enter Tryz.func138, Tryz.ntmps138
    go_wp2
    go_ret
    exact ⟨ret_bool (dec_false' HB.out (by omega)), rfl⟩
  ·have b11 := ne_false h11
   go_enter Tryz.func138, Tryz.ntmps138
   go_wp2
   go_ret
   exact ⟨ret_bool (dec_false' HB.out (by omega)), rfl⟩
theorem zNum_is (n m : Int) (b : Bool) (w : World) (h : decide (0 ≤ n ∧ n ≤ m) = b) :
  Calls Tryz.prog 34 #[.int .i64 n, .int .i64 m] w fun e w' => e = .returned (.bool b) ∧ w = w' := by
 have HB := Lib.hid h
 clear h
 by_cases h0 : 0 ≤ n
 ·go_enter Tryz.func34, Tryz.ntmps34
  go_wp2
  go_ret
  exact ⟨ret_bool (eq_dec' HB.out (by simp; omega)), rfl⟩
 ·go_enter Tryz.func34, Tryz.ntmps34
  go_wp2
  go_ret
  exact ⟨ret_bool (dec_false' HB.out (by omega)), rfl⟩
theorem have_split (id : Int) : (id = 11 ∨ id = 33 ∨ id = 35 ∨ id = 39) ∨ (id ≠ 11 ∧ id ≠ 33 ∧ id ≠ 35 ∧ id ≠ 39) := by omega
theorem have_no {id n : Int} (c : noZ id) : haveB id n = decide (n ≠ 0) := if_pos c
theorem have_yes {id n : Int} (c : ¬ noZ id) : haveB id n = decide (kindZ id ≠ 1 ∨ n = 0 ∨ n = 1) := if_neg c
theorem mayHave_is (id n : Int) (b : Bool) (w : World) (h : haveB id n = b) :
  Calls Tryz.prog 137 #[.int .i64 id, .int .i64 n] w fun e w' => e = .returned (.bool b) ∧ w = w' := by
 rcases have_split id with c | ⟨h1, h2, h3, h4⟩
 ·have HB := Lib.hid ((have_no c).symm.trans h)
  clear h
  rcases c with rfl | rfl | rfl | rfl <;>
  ·go_enter Tryz.func137, Tryz.ntmps137
   go_wp2
   go_ret
   exact ⟨ret_bool (eq_dec' HB.out (by simp)), rfl⟩
 ·have HB := Lib.hid ((have_yes (show ¬ noZ id by unfold noZ; omega)).symm.trans h)
  clear h
  have b1 := ne_false h1
  have b2 := ne_false h2
  have b3 := ne_false h3
  have b4 := ne_false h4
  obtain ⟨K, hK⟩ : ∃ K, kindZ id = K := ⟨_, rfl⟩
  have HK := Lib.hid (fun W => Kind_is id K _ W hK rfl)
  have hb2 := HB.out
  rw [hK] at hb2
  have HC := Lib.hid hb2
  clear hK hb2 HB
  by_cases hk : K = 1
  ·subst hk
   by_cases hn : n = 0
   ·subst hn
    go_enter Tryz.func137, Tryz.ntmps137
    go_wp2_with (go_at_call 139; refine (HK.out _).mono ?_; rintro e w' ⟨rfl, rfl⟩)
    go_ret
    exact ⟨ret_bool (dec_true' HC.out (by simp)), rfl⟩
   ·have bn := ne_false hn
    go_enter Tryz.func137, Tryz.ntmps137
    go_wp2_with (go_at_call 139; refine (HK.out _).mono ?_; rintro e w' ⟨rfl, rfl⟩)
    go_ret
    exact ⟨ret_bool (eq_dec' HC.out (by simp; omega)), rfl⟩
  ·have bk : (K != 1) = true := by rw [bne_iff_ne]; exact hk
   go_enter Tryz.func137, Tryz.ntmps137
   go_wp2_with (go_at_call 139; refine (HK.out _).mono ?_; rintro e w' ⟨rfl, rfl⟩)
   go_ret
   exact ⟨ret_bool (dec_true' HC.out (.inl hk)), rfl⟩
open Go.RowKit Go.Lib Prp
theorem as_ii (v : Value) (w : World) : (Instr.typeAssert (.iface 3 v) 20 3 true).run Tryz.prog w = .ok (.tuple #[v, .bool true]) w := by kernel_rfl
theorem as_si (v : Value) (w : World) : (Instr.typeAssert (.iface 9 v) 20 3 true).run Tryz.prog w = .ok (.tuple #[.int .i64 0, .bool false]) w := by kernel_rfl
theorem as_ss (v : Value) (w : World) : (Instr.typeAssert (.iface 9 v) 20 9 true).run Tryz.prog w = .ok (.tuple #[v, .bool true]) w := by kernel_rfl
theorem as_pi (v : Value) (w : World) : (Instr.typeAssert (.iface 195 v) 20 3 true).run Tryz.prog w = .ok (.tuple #[.int .i64 0, .bool false]) w := by kernel_rfl
theorem as_ps (v : Value) (w : World) : (Instr.typeAssert (.iface 195 v) 20 9 true).run Tryz.prog w = .ok (.tuple #[.string ByteArray.empty, .bool false]) w := by kernel_rfl
theorem to_p (v : Value) (w : World) : (Instr.typeAssert (.iface 195 v) 20 195 false).run Tryz.prog w = .ok v w := by kernel_rfl
theorem propOf_num (id n : Int) (w : World) :
  Calls Tryz.prog 142 #[.int .i64 id, .iface 3 (.int .i64 n)] w fun e w' => e = .returned (.agg #[.int .i64 id, .int .i64 n, .string ⟨#[]⟩, .string ⟨#[]⟩]) ∧ Below w.heap.size w w' := by
 have as_ii0 := as_ii
 go_enter Tryz.func142, Tryz.ntmps142
 go_wp2
 refine bodyPost_ret (v := .agg #[.int .i64 id, .int .i64 n, .string ⟨#[]⟩, .string ⟨#[]⟩]) (by simp [results, Tryz.results142, go_sem]) rfl ⟨rfl, ?_⟩
 exact (Below.refl _ _).alloc (Nat.le_refl _) _
theorem propOf_str (id : Int) (s : ByteArray) (w : World) :
  Calls Tryz.prog 142 #[.int .i64 id, .iface 9 (.string s)] w fun e w' => e = .returned (.agg #[.int .i64 id, .int .i64 0, .string s, .string ⟨#[]⟩]) ∧ Below w.heap.size w w' := by
 have as_si0 := as_si
 have as_ss0 := as_ss
 go_enter Tryz.func142, Tryz.ntmps142
 go_wp2
 refine bodyPost_ret (v := .agg #[.int .i64 id, .int .i64 0, .string s, .string ⟨#[]⟩]) (by simp [results, Tryz.results142, go_sem]) rfl ⟨rfl, ?_⟩
 exact (Below.refl _ _).alloc (Nat.le_refl _) _
theorem propOf_two (id : Int) (s v : ByteArray) (w : World) :
  Calls Tryz.prog 142 #[.int .i64 id, .iface 195 (.agg #[.string s, .string v])] w fun e w' => e = .returned (.agg #[.int .i64 id, .int .i64 0, .string s, .string v]) ∧ Below w.heap.size w w' := by
 have as_pi0 := as_pi
 have as_ps0 := as_ps
 have to_p0 := to_p
 go_enter Tryz.func142, Tryz.ntmps142
 go_wp2
 refine bodyPost_ret (v := .agg #[.int .i64 id, .int .i64 0, .string s, .string v]) (by simp [results, Tryz.results142, go_sem]) rfl ⟨rfl, ?_⟩
 exact ((Below.refl _ _).alloc (Nat.le_refl _) _).alloc (by simp) _
open Go.RowKit Go.Lib Prp Vbi
def putB (k n : Int) (s v : ByteArray) : Bool :=
 if k = 1 then decide (n = 0 ∨ n = 1) else if k = 2 then decide (0 ≤ n ∧ n < 65536) else if k = 3 then decide (0 ≤ n ∧ n < 4294967296) else if k = 4 then decide (0 ≤ n ∧ n < 268435456)
 else if k = 5 then textB s else if k = 6 then binB s else textB s && textB v
theorem ne_true {a b : Int} (h : a ≠ b) : (a != b) = true := by rw [bne_iff_ne]; exact h
theorem text_size {s : ByteArray} (h : textB s = true) : s.size ≤ 1024 := by
 unfold textB at h
 exact loErr_zero (of_decide_eq_true h)
theorem size_2 (s : ByteArray) : (strOfNums (fixZ 2 s.size) ++ s).size = 2 + s.size := by rw [ByteArray.size_append, fix2_size]
open Go.RowKit Go.Lib Prp
theorem toList_eq_iff (a b : ByteArray) : a.toList = b.toList ↔ a = b := by
 constructor
 ·intro h
  rw [ByteArray.toList_eq, ByteArray.toList_eq] at h
  exact ByteArray.ext (Array.toList_inj.1 (by simpa using h))
 ·rintro rfl; rfl
def diffB (a b : P) : Bool := decide (¬ (a.id = b.id ∧ a.n = b.n ∧ a.s = b.s ∧ a.v = b.v))
theorem diff_self (a : P) : diffB a a = false := by unfold diffB; simp
theorem neq_props (i n i' n' : Int) (s v s' v' : ByteArray) (w : World) :
  (binOp .neq 99 (.agg #[.int .i64 i, .int .i64 n, .string s, .string v]) (.agg #[.int .i64 i', .int .i64 n', .string s', .string v'])).run Tryz.prog w = .ok (.bool (diffB ⟨i, n, s, v⟩ ⟨i', n', s', v'⟩)) w := by
 rw [run_neq_struct]
 unfold diffB
 by_cases h1 : i = i' <;> by_cases h2 : n = n' <;> by_cases h3 : s = s' <;> by_cases h4 : v = v' <;> (try go_simp)
 all_goals simp [h3, h4, toList_eq_iff]
theorem EqProps_same (l : List P) (A A' : Option Addr) (c c' B B' : Nat) (w : World) (hm : l.length ≤ 9223372036854775807) (h : PropsAt w B A l) (h' : PropsAt w B' A' l) :
  Calls Tryz.prog 45 #[.slice A l.length c, .slice A' l.length c'] w fun e w' => e = .returned (.bool true) ∧ ∃ n, w' = w.drewN n := by
 have H := Lib.hid h
 have H' := Lib.hid h'
 clear h h'
 go_enter Tryz.func45, Tryz.ntmps45
 go_wp2_with fail
 go_loopw [5] (fun i wr => ∃ k n : Nat, k ≤ l.length ∧ i = .int .i64 (k : Int) ∧ wr = w.drewN n) (fun i _ => l.length - (RowKit.intOf i).toNat)
 case atStart => exact ⟨0, 0, Nat.zero_le _, rfl, rfl⟩
 case round =>
  obtain ⟨k, n, hk, rfl, rfl⟩ := hrel
  by_cases hlt : k < l.length
  ·obtain ⟨b, o, rfl, _, hc⟩ := H.out.some_ (by omega)
   obtain ⟨b', o', rfl, _, hc'⟩ := H'.out.some_ (by omega)
   have h1 := hc k hlt
   have h2 := hc' k hlt
   clear hc hc' H H'
   obtain ⟨i, x, s, v⟩ := l[k]
   obtain ⟨c0, c1, c2, c3⟩ := h1
   obtain ⟨d0, d1, d2, d3⟩ := h2
   have hkI : (k : Int) < (l.length : Int) := by omega
   have hne := neq_props i x i x s v s v
   rw [diff_self] at hne
   go_wp2
   go_quiet (fail)
   go_wp2
   go_roundw
   case rel => exact ⟨k + 1, _, hlt, by go_num, rfl⟩
   case measure => simp [RowKit.intOf]; omega
  ·go_wp2
   go_ret
   exact ⟨rfl, n, rfl⟩
open Go.RowKit Go.Lib Prp Vbi
@[irreducible] def Keep (w : World) (g : Nat) (cs : Array Value) (W : World) : Prop := Box W g cs ∧ Below w.heap.size w W
section
variable {w W W' : World} {g : Nat} {cs : Array Value}
theorem Keep.mk (h1 : Box W g cs) (h2 : Below w.heap.size w W) : Keep w g cs W := by unfold Keep; exact ⟨h1, h2⟩
theorem Keep.out (h : Keep w g cs W) : Box W g cs ∧ Below w.heap.size w W := by unfold Keep at h; exact h
theorem Keep.below (h : Keep w g cs W) (hb : Below W.heap.size W W') : Keep w g cs W' := .mk (h.out.1.below hb) (h.out.2.trans (hb.mono h.out.2.size))
theorem Keep.drewN (h : Keep w g cs W) (n : Nat) : Keep w g cs (W.drewN n) := h.below (below_drewN (Below.refl _ _) n)
theorem Keep.new (w : World) (T : TypeId) (cs : Array Value) : Keep w w.heap.size cs (w.alloc (.cells cs T)) := .mk (.new w T cs) ((Below.refl _ _).alloc (Nat.le_refl _) _)
theorem Keep.cell (h : Keep w g cs W) (i : Nat) : W.cell? ⟨g, i, none⟩ = cs[i]? := h.out.1.cell i
end
theorem Keep.four {w W : World} {g : Nat} {a b : Int} {s v : ByteArray} (h : Keep w g #[.int .i64 a, .int .i64 b, .string s, .string v] W) :
  W.cell? ⟨g, 0, none⟩ = some (.int .i64 a) ∧ W.cell? ⟨g, 1, none⟩ = some (.int .i64 b) ∧ W.cell? ⟨g, 2, none⟩ = some (.string s) ∧ W.cell? ⟨g, 3, none⟩ = some (.string v) :=
 ⟨h.cell 0, h.cell 1, h.cell 2, h.cell 3⟩
def anyOf (k : Int) (p : P) : Value :=
 if k = 5 ∨ k = 6 then .iface 9 (.string p.s) else if k = 7 then .iface 195 (.agg #[.string p.s, .string p.v]) else .iface 3 (.int .i64 p.n)
def strip (k : Int) (p : P) : P := if k = 5 ∨ k = 6 then ⟨p.id, 0, p.s, ⟨#[]⟩⟩ else if k = 7 then ⟨p.id, 0, p.s, p.v⟩ else ⟨p.id, p.n, ⟨#[]⟩, ⟨#[]⟩⟩
theorem kind_id {id : Int} (h : kindZ id ≠ 0) : 1 ≤ id ∧ id ≤ 42 := by
 rcases kind_cases id with c | c | c | c | c | c | c | c
 all_goals first | omega | exact absurd (kind_none c) h
theorem kind_seven {k : Int} (h0 : 0 ≤ k) (h7 : k ≤ 7) (h : k ≠ 0) : k = 1 ∨ k = 2 ∨ k = 3 ∨ k = 4 ∨ k = 5 ∨ k = 6 ∨ k = 7 := by omega
theorem propOf_is (k id n i' n' : Int) (s v s' v' : ByteArray) (X : Value) (w : World) (hX : anyOf k ⟨id, n, s, v⟩ = X) (hq : strip k ⟨id, n, s, v⟩ = ⟨i', n', s', v'⟩) :
  Calls Tryz.prog 142 #[.int .i64 id, X] w fun e w' => e = .returned (.agg #[.int .i64 i', .int .i64 n', .string s', .string v']) ∧ Below w.heap.size w w' := by
 subst hX
 unfold anyOf
 unfold strip at hq
 by_cases h5 : k = 5 ∨ k = 6
 ·rw [if_pos h5]; rw [if_pos h5] at hq; cases hq; exact propOf_str id s w
 ·rw [if_neg h5]; rw [if_neg h5] at hq
  by_cases h7 : k = 7
  ·subst h7; rw [if_pos rfl]; rw [if_pos rfl] at hq; cases hq; exact propOf_two id s v w
  ·rw [if_neg h7]; rw [if_neg h7] at hq; cases hq; exact propOf_num id n w
theorem vp_num (A : Prop) [Decidable A] (id n : Int) (s v : ByteArray) : decide (A ∧ s = ⟨#[]⟩ ∧ v = ⟨#[]⟩) = (decide A && !diffB ⟨id, n, ⟨#[]⟩, ⟨#[]⟩⟩ ⟨id, n, s, v⟩) := by
 unfold diffB
 have e1 : ((⟨#[]⟩ : ByteArray) = s) = (s = ⟨#[]⟩) := propext eq_comm
 have e2 : ((⟨#[]⟩ : ByteArray) = v) = (v = ⟨#[]⟩) := propext eq_comm
 simp only [e1, e2]
 by_cases hA : A <;> by_cases hs : s = ⟨#[]⟩ <;> by_cases hv : v = ⟨#[]⟩ <;> simp [hA, hs, hv]
theorem vp_str (b : Bool) (id n : Int) (s v : ByteArray) : decide (n = 0 ∧ b = true ∧ v = ⟨#[]⟩) = (b && !diffB ⟨id, 0, s, ⟨#[]⟩⟩ ⟨id, n, s, v⟩) := by
 unfold diffB
 have e1 : ((0 : Int) = n) = (n = 0) := propext eq_comm
 have e2 : ((⟨#[]⟩ : ByteArray) = v) = (v = ⟨#[]⟩) := propext eq_comm
 simp only [e1, e2]
 cases b <;> by_cases hn : n = 0 <;> by_cases hv : v = ⟨#[]⟩ <;> simp [hn, hv]
theorem vp_two (b c : Bool) (id n : Int) (s v : ByteArray) : decide (n = 0 ∧ b = true ∧ c = true) = ((b && c) && !diffB ⟨id, 0, s, v⟩ ⟨id, n, s, v⟩) := by
 unfold diffB
 have e1 : ((0 : Int) = n) = (n = 0) := propext eq_comm
 simp only [e1]
 cases b <;> cases c <;> by_cases hn : n = 0 <;> simp [hn]
theorem val_put (k id n : Int) (s v : ByteArray) (hk0 : 0 ≤ k) (hk7 : k ≤ 7) (hk : k ≠ 0) : valB k ⟨id, n, s, v⟩ = (putB k n s v && !diffB (strip k ⟨id, n, s, v⟩) ⟨id, n, s, v⟩) := by
 rcases kind_seven hk0 hk7 hk with rfl | rfl | rfl | rfl | rfl | rfl | rfl
 ·exact vp_num _ id n s v
 ·exact vp_num _ id n s v
 ·exact vp_num _ id n s v
 ·exact vp_num _ id n s v
 ·exact vp_str (textB s) id n s v
 ·exact vp_str (binB s) id n s v
 ·exact vp_two (textB s) (textB v) id n s v
theorem val_size {k id n : Int} {s v : ByteArray} (hk0 : 0 ≤ k) (hk7 : k ≤ 7) (hk : k ≠ 0) (h : putB k n s v = true) : (valStr k ⟨id, n, s, v⟩).size ≤ 2052 := by
 rcases kind_seven hk0 hk7 hk with rfl | rfl | rfl | rfl | rfl | rfl | rfl
 ·show (strOfNums [n]).size ≤ _; rw [strOfNums_size]; simp
 ·show (strOfNums (fixZ 2 n.toNat)).size ≤ _; rw [strOfNums_size, fixZ_len]; omega
 ·show (strOfNums (fixZ 4 n.toNat)).size ≤ _; rw [strOfNums_size, fixZ_len]; omega
 ·show (strOfNums (numZ n.toNat)).size ≤ _
  have h := of_decide_eq_true h
  rw [strOfNums_size, numZ_len (by omega)]
  have := numLen_le n.toNat
  omega
 ·show (strOfNums (fixZ 2 s.size) ++ s).size ≤ _
  have h : textB s = true := h
  rw [size_2]; have := text_size h; omega
 ·show (strOfNums (fixZ 2 s.size) ++ s).size ≤ _
  have h : binB s = true := h
  unfold binB at h
  have h := of_decide_eq_true h
  rw [size_2]; omega
 ·show ((strOfNums (fixZ 2 s.size) ++ s) ++ (strOfNums (fixZ 2 v.size) ++ v)).size ≤ _
  have h : (textB s && textB v) = true := h
  rw [Bool.and_eq_true] at h
  rw [ByteArray.size_append, size_2, size_2]
  have := text_size h.1
  have := text_size h.2
  omega
open Go.RowKit Go.Lib Prp
theorem info_prop : (Tryz.prog.info? 99).map (fun i => (i.zero, i.size, i.bytes)) = some (some (.agg #[.int .i64 0, .int .i64 0, .string ⟨#[]⟩, .string ⟨#[]⟩]), 4, 48) := by kernel_rfl
theorem cells_new (w : World) (T : TypeId) (cs : List Value) (j : Nat) (u : Value) (h : cs[j]? = some u) : (w.alloc (.cells cs.toArray T)).cell? ((⟨w.heap.size, 0, none⟩ : Addr).add j) = some u := by
 rw [add_new, cell_of_row (w.alloc _) w.heap.size j _ _ (0, 0) (heap_alloc_new w _)]
 simpa using h
theorem one_cells (p : P) : ∀ u ∈ pcells p, u.oneCell' = true := by
 intro u hu
 unfold pcells at hu
 simp at hu
 rcases hu with rfl | rfl | rfl | rfl <;> rfl
open Go.RowKit Go.Lib Prp Vbi
theorem TakeNum_z (s : ByteArray) (a b c : Int) (w : World) (hs : s.size ≤ 9223372036854775807) (h : tn s.data.toList = (a, b, c)) :
  Calls Tryz.prog 81 #[.string s] w fun e w' => e = .returned (.tuple #[.int .i64 a, .int .i64 b, .int .i64 c]) ∧ w = w' :=
 (TakeNum_ok s w hs).mono fun e w' h2 => by
  unfold TnOk at h2
  rw [h] at h2
  exact ⟨h2.1, h2.2.symm⟩
theorem TakeTwo_z (s : ByteArray) (a e : Int) (w : World) (hs : s.size ≤ 9223372036854775807) (h1 : tfVal 2 s.data.toList = a) (h2 : tfErr 2 s.data.toList = e) :
  Calls Tryz.prog 162 #[.string s] w fun x w' => x = .returned (.tuple #[.int .i64 a, .int .i64 e]) ∧ w = w' :=
 (TakeTwo_ok s w hs).mono fun _ _ h => by
  unfold TfOk at h
  rw [h1, h2] at h
  exact ⟨h.1, h.2.symm⟩
theorem TakeFour_z (s : ByteArray) (a e : Int) (w : World) (hs : s.size ≤ 9223372036854775807) (h1 : tfVal 4 s.data.toList = a) (h2 : tfErr 4 s.data.toList = e) :
  Calls Tryz.prog 170 #[.string s] w fun x w' => x = .returned (.tuple #[.int .i64 a, .int .i64 e]) ∧ w = w' :=
 (TakeFour_ok s w hs).mono fun _ _ h => by
  unfold TfOk at h
  rw [h1, h2] at h
  exact ⟨h.1, h.2.symm⟩
theorem fx_cases (wd : Nat) (s : ByteArray) : (s.size < wd ∧ tkFix wd s = tkBad 7 ∧ tfVal wd s.data.toList = 0 ∧ tfErr wd s.data.toList = 7) ∨
  (wd ≤ s.size ∧ tkFix wd s = ⟨(fixVal (s.data.toList.take wd) : Nat), ⟨#[]⟩, ⟨#[]⟩, (wd : Int), 0⟩ ∧ tfVal wd s.data.toList = (fixVal (s.data.toList.take wd) : Nat) ∧ tfErr wd s.data.toList = 0) := by
 unfold tkFix
 by_cases h : s.size < wd
 ·rw [if_pos h]
  have := tf_cut (wd := wd) (l := s.data.toList) (by rw [← Lib.size_eq]; exact h)
  exact .inl ⟨h, rfl, this.1, this.2⟩
 ·rw [if_neg h]
  have := tf_good (wd := wd) (l := s.data.toList) (by rw [← Lib.size_eq]; omega)
  exact .inr ⟨by omega, rfl, this.1, this.2⟩
def Took (k : Int) (t : Tk) (w : World) (e : Ending) (w' : World) : Prop :=
 ∃ (X : Value) (K : Int), e = .returned (.tuple #[X, .int .i64 K, .int .i64 t.e]) ∧ (t.e = 0 → X = anyOf k ⟨0, t.n, t.a, t.b⟩ ∧ K = t.k) ∧ Below w.heap.size w w'
theorem takeByte_is (s : ByteArray) (w : World) (hs : s.size ≤ 9223372036854775807) :
  Calls Tryz.prog 169 #[.string s] w fun e w' => e = .returned (.tuple #[.int .i64 (tkFix 1 s).n, .int .i64 (tkFix 1 s).k, .int .i64 (tkFix 1 s).e]) ∧ w = w' := by
 rcases fx_cases 1 s with ⟨h, e, _, _⟩ | ⟨h, e, _, _⟩
 ·rw [e]
  have h0 : s = ByteArray.empty := ByteArray.size_eq_zero_iff.1 (by omega)
  subst h0
  clear e h hs
  go_enter Tryz.func169, Tryz.ntmps169
  go_wp2
  go_ret3
  exact ⟨rfl, rfl⟩
 ·have hne : ¬ s = ByteArray.empty := fun e0 => by subst e0; simp at h
  have hne2 : ¬ s.toList = [] := fun e0 => hne (by rw [show (ByteArray.empty : ByteArray) = ⟨#[]⟩ from rfl]; exact (toList_eq_iff s ⟨#[]⟩).1 (by rw [e0, ByteArray.toList_eq]))
  have hne3 : s.toList.isEmpty = false := by cases hh : s.toList with
   | nil => exact absurd hh hne2
   | cons => rfl
  obtain ⟨b, hb⟩ : ∃ b, s[0] = b := ⟨_, rfl⟩
  have hv : fixVal (s.data.toList.take 1) = b.toNat := by
   have hd := data_at s 0 (by omega)
   rw [List.drop_zero] at hd
   rw [hd, List.take_succ_cons, List.take_zero, ← hb]
   show 0 * 256 + _ = _
   omega
  rw [e, hv]
  have hlt := b.toNat_lt
  clear e hv
  go_enter Tryz.func169, Tryz.ntmps169
  go_wp2
  go_ret3
  exact ⟨rfl, rfl⟩
theorem take_1 (s : ByteArray) (w : World) (hs : s.size ≤ 9223372036854775807) :
  Calls Tryz.prog 168 #[.int .i64 1, .string s] w (Took 1 (tkFix 1 s) w) := by
 have H0 := fun W => takeByte_is s W hs
 have hab : (tkFix 1 s).a = ⟨#[]⟩ ∧ (tkFix 1 s).b = ⟨#[]⟩ := by rcases fx_cases 1 s with ⟨_, e, _, _⟩ | ⟨_, e, _, _⟩ <;> rw [e] <;> exact ⟨rfl, rfl⟩
 obtain ⟨t, ht⟩ : ∃ t, tkFix 1 s = t := ⟨_, rfl⟩
 rw [ht] at H0 hab ⊢
 have H := Lib.hid H0
 clear H0 ht
 obtain ⟨n, a, b, k, e⟩ := t
 obtain ⟨rfl, rfl⟩ : a = _ ∧ b = _ := hab
 go_enter Tryz.func168, Tryz.ntmps168
 go_wp2_with fail
 refine (H.out _).mono ?_
 rintro e w1 ⟨rfl, rfl⟩
 go_wp2_with fail
 go_ret3
 exact ⟨_, _, rfl, (fun _ => ⟨rfl, rfl⟩), Below.refl _ _⟩
theorem take_2 (s : ByteArray) (w : World) (hs : s.size ≤ 9223372036854775807) :
  Calls Tryz.prog 168 #[.int .i64 2, .string s] w (Took 2 (tkFix 2 s) w) := by
 rcases fx_cases 2 s with ⟨_, e, h1, h2⟩ | ⟨_, e, h1, h2⟩
 ·rw [e]
  have H := Lib.hid (fun W => TakeTwo_z s 0 7 W hs h1 h2)
  clear e h1 h2
  go_enter Tryz.func168, Tryz.ntmps168
  go_wp2_with fail
  refine (H.out _).mono ?_
  rintro e w1 ⟨rfl, rfl⟩
  go_wp2_with fail
  go_ret3
  exact ⟨_, _, rfl, (fun e => by cases e), Below.refl _ _⟩
 ·rw [e]
  obtain ⟨m, hm⟩ : ∃ m, fixVal (s.data.toList.take 2) = m := ⟨_, rfl⟩
  rw [hm] at h1 ⊢
  have H := Lib.hid (fun W => TakeTwo_z s (m : Int) 0 W hs h1 h2)
  clear e h1 h2 hm
  go_enter Tryz.func168, Tryz.ntmps168
  go_wp2_with fail
  refine (H.out _).mono ?_
  rintro e w1 ⟨rfl, rfl⟩
  go_wp2_with fail
  go_ret3
  exact ⟨_, _, rfl, (fun _ => ⟨rfl, rfl⟩), Below.refl _ _⟩
theorem take_3 (s : ByteArray) (w : World) (hs : s.size ≤ 9223372036854775807) :
  Calls Tryz.prog 168 #[.int .i64 3, .string s] w (Took 3 (tkFix 4 s) w) := by
 rcases fx_cases 4 s with ⟨_, e, h1, h2⟩ | ⟨_, e, h1, h2⟩
 ·rw [e]
  have H := Lib.hid (fun W => TakeFour_z s 0 7 W hs h1 h2)
  clear e h1 h2
  go_enter Tryz.func168, Tryz.ntmps168
  go_wp2_with fail
  refine (H.out _).mono ?_
  rintro e w1 ⟨rfl, rfl⟩
  go_wp2_with fail
  go_ret3
  exact ⟨_, _, rfl, (fun e => by cases e), Below.refl _ _⟩
 ·rw [e]
  obtain ⟨m, hm⟩ : ∃ m, fixVal (s.data.toList.take 4) = m := ⟨_, rfl⟩
  rw [hm] at h1 ⊢
  have H := Lib.hid (fun W => TakeFour_z s (m : Int) 0 W hs h1 h2)
  clear e h1 h2 hm
  go_enter Tryz.func168, Tryz.ntmps168
  go_wp2_with fail
  refine (H.out _).mono ?_
  rintro e w1 ⟨rfl, rfl⟩
  go_wp2_with fail
  go_ret3
  exact ⟨_, _, rfl, (fun _ => ⟨rfl, rfl⟩), Below.refl _ _⟩
theorem take_4 (s : ByteArray) (w : World) (hs : s.size ≤ 9223372036854775807) :
  Calls Tryz.prog 168 #[.int .i64 4, .string s] w (Took 4 (tkNum s) w) := by
 obtain ⟨a, b, c, ht⟩ : ∃ a b c, tn s.data.toList = (a, b, c) := ⟨_, _, _, rfl⟩
 have e : tkNum s = ⟨a, ⟨#[]⟩, ⟨#[]⟩, b, c⟩ := by unfold tkNum; rw [ht]
 rw [e]
 have H := Lib.hid (fun W => TakeNum_z s a b c W hs ht)
 clear e ht
 go_enter Tryz.func168, Tryz.ntmps168
 go_wp2_with fail
 refine (H.out _).mono ?_
 rintro e w1 ⟨rfl, rfl⟩
 go_wp2_with fail
 go_ret3
 exact ⟨_, _, rfl, (fun _ => ⟨rfl, rfl⟩), Below.refl _ _⟩
theorem take_5 (s : ByteArray) (w : World) (hs : s.size ≤ 281474976710656) :
  Calls Tryz.prog 168 #[.int .i64 5, .string s] w (Took 5 (tkLong true s) w) := by
 obtain ⟨T, K, E, ht⟩ : ∃ T K E, tl true s = (T, K, E) := ⟨_, _, _, rfl⟩
 have e : tkLong true s = ⟨0, T, ⟨#[]⟩, K, E⟩ := by unfold tkLong; rw [ht]
 rw [e]
 have H := Lib.hid (fun W => TakeText_is s T K E W hs ht)
 clear e ht
 go_enter Tryz.func168, Tryz.ntmps168
 go_wp2_with fail
 refine (H.out _).mono ?_
 rintro e w1 ⟨rfl, hb1⟩
 have HX := Lib.hid hb1
 clear hb1
 go_wp2_with fail
 go_ret3
 exact ⟨_, _, rfl, (fun _ => ⟨rfl, rfl⟩), HX.out⟩
theorem take_6 (s : ByteArray) (w : World) (hs : s.size ≤ 281474976710656) :
  Calls Tryz.prog 168 #[.int .i64 6, .string s] w (Took 6 (tkLong false s) w) := by
 obtain ⟨T, K, E, ht⟩ : ∃ T K E, tl false s = (T, K, E) := ⟨_, _, _, rfl⟩
 have e : tkLong false s = ⟨0, T, ⟨#[]⟩, K, E⟩ := by unfold tkLong; rw [ht]
 rw [e]
 have H := Lib.hid (fun W => TakeBin_is s T K E W hs ((tl_false s).symm.trans ht))
 clear e ht
 go_enter Tryz.func168, Tryz.ntmps168
 go_wp2_with fail
 refine (H.out _).mono ?_
 rintro e w1 ⟨rfl, hb1⟩
 have HX := Lib.hid hb1
 clear hb1
 go_wp2_with fail
 go_ret3
 exact ⟨_, _, rfl, (fun _ => ⟨rfl, rfl⟩), HX.out⟩
def TookTwo (t : Tk) (w : World) (e : Ending) (w' : World) : Prop := e = .returned (.tuple #[.agg #[.string t.a, .string t.b], .int .i64 t.k, .int .i64 t.e]) ∧ Below w.heap.size w w'
theorem two_bad1 {s : ByteArray} (h : (tl true s).2.2 ≠ 0) : tkTwo s = tkBad (tl true s).2.2 := by unfold tkTwo; rw [if_pos h]
theorem two_bad2 {s : ByteArray} (h : (tl true s).2.2 = 0) (h2 : (tl true (s.extract (tl true s).2.1.toNat s.size)).2.2 ≠ 0) : tkTwo s = tkBad (tl true (s.extract (tl true s).2.1.toNat s.size)).2.2 := by
 unfold tkTwo; rw [if_neg (fun x => x h), if_pos h2]
theorem two_good {s : ByteArray} (h : (tl true s).2.2 = 0) (h2 : (tl true (s.extract (tl true s).2.1.toNat s.size)).2.2 = 0) :
  tkTwo s = ⟨0, (tl true s).1, (tl true (s.extract (tl true s).2.1.toNat s.size)).1, (tl true s).2.1 + (tl true (s.extract (tl true s).2.1.toNat s.size)).2.1, 0⟩ := by
 unfold tkTwo; rw [if_neg (fun x => x h), if_neg (fun x => x h2)]
theorem takePair_is (s : ByteArray) (w : World) (hs : s.size ≤ 281474976710656) :
  Calls Tryz.prog 171 #[.string s] w (TookTwo (tkTwo s) w) := by
 by_cases h : (tl true s).2.2 = 0
 ·obtain ⟨m, hm1, hm2, _⟩ := tl_took h
  obtain ⟨T, hT⟩ : ∃ T, (tl true s).1 = T := ⟨_, rfl⟩
  have h1 : tl true s = (T, ((2 + m : Nat) : Int), 0) := by rw [← hT, ← hm1, ← h]
  have HA := Lib.hid (fun W => TakeText_is s T ((2 + m : Nat) : Int) 0 W hs h1)
  obtain ⟨j, hj⟩ : ∃ j, 2 + m = j := ⟨_, rfl⟩
  rw [hj] at h1 hm2 HA
  obtain ⟨U, K, E, h2⟩ : ∃ U K E, tl true (s.extract j s.size) = (U, K, E) := ⟨_, _, _, rfl⟩
  have HB := Lib.hid (fun W => TakeText_is (s.extract j s.size) U K E W (by rw [ByteArray.size_extract]; omega) h2)
  by_cases hE : E = 0
  ·subst hE
   obtain ⟨m2, hk1, hk2, _⟩ := tl_took (t := true) (s := s.extract j s.size) (by rw [h2])
   rw [h2] at hk1
   have hk1 : K = ((2 + m2 : Nat) : Int) := hk1
   rw [ByteArray.size_extract] at hk2
   have e : tkTwo s = ⟨0, T, U, (j : Int) + K, 0⟩ := by
    rw [two_good h (by rw [h1, Int.toNat_natCast, h2]), h1, Int.toNat_natCast, h2]
   rw [e]
   clear e h h1 h2 hT hm1 hj
   subst hk1
   go_enter Tryz.func171, Tryz.ntmps171
   go_wp2_with fail
   refine (HA.out _).mono ?_
   rintro e w1 ⟨rfl, hb1⟩
   have HX1 := Lib.hid (Keep.mk ((Box.new w 195 #[.string ⟨#[]⟩, .string ⟨#[]⟩]).below hb1) (((Below.refl w.heap.size w).alloc (Nat.le_refl _) (.cells #[.string ⟨#[]⟩, .string ⟨#[]⟩] 195)).trans (hb1.mono (by simp))))
   clear hb1 HA
   go_wp2_with fail
   refine (HB.out _).mono ?_
   rintro e w2 ⟨rfl, hb2⟩
   have HX2 := Lib.hid (HX1.out.below hb2)
   clear hb2 HB HX1
   have q0 := HX2.out.cell 0
   have q1 := HX2.out.cell 1
   simp only [List.getElem?_toArray, List.getElem?_cons_zero, List.getElem?_cons_succ] at q0 q1
   have f0 := HX2.out.out.1.frozen 0
   have f1 := HX2.out.out.1.frozen 1
   have hsum : (j : Int) + (2 + (m2 : Int)) ≤ 9223372036854775807 := by omega
   go_wp2_with fail
   refine bodyPost_ret (v := .tuple #[.agg #[.string T, .string U], .int .i64 ((j : Int) + (2 + (m2 : Int))), .int .i64 0]) (by simp [results, Tryz.results171, go_sem, q0, q1]) rfl ⟨?_, ?_⟩
   ·simp
   ·exact (HX2.out.out.2.setCell (p := ⟨w.heap.size, 0, none⟩) (Nat.le_refl _) _).setCell (p := ⟨w.heap.size, 1, none⟩) (Nat.le_refl _) _
  ·have e : tkTwo s = tkBad E := by
    rw [two_bad2 h (by rw [h1, Int.toNat_natCast, h2]; exact hE), h1, Int.toNat_natCast, h2]
   rw [e]
   have hEb := ne_true hE
   clear e h h1 h2 hT hm1 hj hE
   go_enter Tryz.func171, Tryz.ntmps171
   go_wp2_with fail
   refine (HA.out _).mono ?_
   rintro e w1 ⟨rfl, hb1⟩
   have HX1 := Lib.hid (Keep.mk ((Box.new w 195 #[.string ⟨#[]⟩, .string ⟨#[]⟩]).below hb1) (((Below.refl w.heap.size w).alloc (Nat.le_refl _) (.cells #[.string ⟨#[]⟩, .string ⟨#[]⟩] 195)).trans (hb1.mono (by simp))))
   clear hb1 HA
   go_wp2_with fail
   refine (HB.out _).mono ?_
   rintro e w2 ⟨rfl, hb2⟩
   have HX2 := Lib.hid (HX1.out.below hb2)
   clear hb2 HB HX1
   have q0 := HX2.out.cell 0
   have q1 := HX2.out.cell 1
   simp only [List.getElem?_toArray, List.getElem?_cons_zero, List.getElem?_cons_succ] at q0 q1
   have f0 := HX2.out.out.1.frozen 0
   have f1 := HX2.out.out.1.frozen 1
   go_wp2_with fail
   refine bodyPost_ret (v := .tuple #[.agg #[.string ⟨#[]⟩, .string ⟨#[]⟩], .int .i64 0, .int .i64 E]) (by simp [results, Tryz.results171, go_sem, q0, q1]) rfl ⟨rfl, ?_⟩
   exact (HX2.out.out.2.setCell (p := ⟨w.heap.size, 0, none⟩) (Nat.le_refl _) _).setCell (p := ⟨w.heap.size, 1, none⟩) (Nat.le_refl _) _
 ·obtain ⟨T, K, E, h1⟩ : ∃ T K E, tl true s = (T, K, E) := ⟨_, _, _, rfl⟩
  have HA := Lib.hid (fun W => TakeText_is s T K E W hs h1)
  have hE : E ≠ 0 := by rw [h1] at h; exact h
  have e : tkTwo s = tkBad E := by rw [two_bad1 h, h1]
  rw [e]
  have hEb := ne_true hE
  clear e h h1 hE
  go_enter Tryz.func171, Tryz.ntmps171
  go_wp2_with fail
  refine (HA.out _).mono ?_
  rintro e w1 ⟨rfl, hb1⟩
  have HX2 := Lib.hid (Keep.mk ((Box.new w 195 #[.string ⟨#[]⟩, .string ⟨#[]⟩]).below hb1) (((Below.refl w.heap.size w).alloc (Nat.le_refl _) (.cells #[.string ⟨#[]⟩, .string ⟨#[]⟩] 195)).trans (hb1.mono (by simp))))
  clear hb1 HA
  have q0 := HX2.out.cell 0
  have q1 := HX2.out.cell 1
  simp only [List.getElem?_toArray, List.getElem?_cons_zero, List.getElem?_cons_succ] at q0 q1
  have f0 := HX2.out.out.1.frozen 0
  have f1 := HX2.out.out.1.frozen 1
  go_wp2_with fail
  refine bodyPost_ret (v := .tuple #[.agg #[.string ⟨#[]⟩, .string ⟨#[]⟩], .int .i64 0, .int .i64 E]) (by simp [results, Tryz.results171, go_sem, q0, q1]) rfl ⟨rfl, ?_⟩
  exact (HX2.out.out.2.setCell (p := ⟨w.heap.size, 0, none⟩) (Nat.le_refl _) _).setCell (p := ⟨w.heap.size, 1, none⟩) (Nat.le_refl _) _
theorem take_7 (s : ByteArray) (w : World) (hs : s.size ≤ 281474976710656) :
  Calls Tryz.prog 168 #[.int .i64 7, .string s] w (Took 7 (tkTwo s) w) := by
 have hn : (tkTwo s).n = 0 ∨ (tkTwo s).e ≠ 0 := by
  by_cases h : (tl true s).2.2 = 0
  ·by_cases h2 : (tl true (s.extract (tl true s).2.1.toNat s.size)).2.2 = 0
   ·rw [two_good h h2]; exact .inl rfl
   ·rw [two_bad2 h h2]; exact .inl rfl
  ·rw [two_bad1 h]; exact .inl rfl
 have H0 := fun W => takePair_is s W hs
 obtain ⟨t, ht⟩ : ∃ t, tkTwo s = t := ⟨_, rfl⟩
 rw [ht] at H0 hn ⊢
 have H := Lib.hid H0
 clear H0 ht
 obtain ⟨n, a, b, k, e⟩ := t
 go_enter Tryz.func168, Tryz.ntmps168
 go_wp2_with fail
 refine (H.out _).mono ?_
 rintro e w1 ⟨rfl, hb1⟩
 have HX := Lib.hid hb1
 clear hb1
 go_wp2_with fail
 go_ret3
 exact ⟨_, _, rfl, (fun _ => ⟨rfl, rfl⟩), HX.out⟩
theorem take_is (k : Int) (s : ByteArray) (w : World) (hk0 : 0 ≤ k) (hk7 : k ≤ 7) (hk : k ≠ 0) (hs : s.size ≤ 281474976710656) :
  Calls Tryz.prog 168 #[.int .i64 k, .string s] w (Took k (tk k s) w) := by
 rcases kind_seven hk0 hk7 hk with rfl | rfl | rfl | rfl | rfl | rfl | rfl
 ·exact take_1 s w (by omega)
 ·exact take_2 s w (by omega)
 ·exact take_3 s w (by omega)
 ·exact take_4 s w (by omega)
 ·exact take_5 s w hs
 ·exact take_6 s w hs
 ·exact take_7 s w hs
end Go.Proofs.YtdbbcfohjkgdcaaGreat
