/- Blocks of the call's own whose cells are known; lists of properties in memory. -/
import Derived.Test.YthjlbdplhhgcpaaMem
import Derived.Test.YthjlbdplhhgcpaaPropPlain
namespace Go.Proofs.Ythjlbdplhhgcpaa
open Go.RowKit Go.Lib Prp

/-- Block g holds just these cells, and may be written. -/
def Box (w : World) (g : Nat) (cs : Array Value) : Prop := ∃ T, w.heap[g]? = some (.cells cs T (0, 0))
section
variable {w w' : World} {g : Nat} {cs : Array Value}
theorem Box.new (w : World) (T : TypeId) (cs : Array Value) : Box (w.alloc (.cells cs T)) w.heap.size cs := ⟨T, heap_alloc_new w _⟩
theorem Box.lt (h : Box w g cs) : g < w.heap.size := by
  obtain ⟨T, h⟩ := h
  exact (Array.getElem?_eq_some_iff.1 h).1
theorem Box.cell (h : Box w g cs) (i : Nat) : w.cell? ⟨g, i, none⟩ = cs[i]? := by
  obtain ⟨T, h⟩ := h
  exact cell_of_row w g i cs T (0, 0) h
theorem Box.frozen (h : Box w g cs) (i : Nat) : w.frozen? ⟨g, i, none⟩ = false := by
  obtain ⟨T, h⟩ := h
  simp [World.frozen?, h]
theorem Box.below (h : Box w g cs) (hb : Below w.heap.size w w') : Box w' g cs := by
  have hl := h.lt
  obtain ⟨T, h⟩ := h
  exact ⟨T, (hb.block g hl).trans h⟩
theorem Box.drewN (h : Box w g cs) (n : Nat) : Box (w.drewN n) g cs := h
theorem Box.drew (h : Box w g cs) : Box w.drew g cs := h
theorem Box.alloc (h : Box w g cs) (o : Obj) : Box (w.alloc o) g cs := h.below ((Below.refl _ _).alloc (Nat.le_refl _) o)
theorem Box.put (h : Box w g cs) (i : Nat) (v : Value) : Box (w.setCell ⟨g, i, none⟩ v) g (cs.setIfInBounds i v) := by
  obtain ⟨T, h⟩ := h
  exact ⟨T, by simp [World.setCell, Array.getElem?_modify, h]⟩
theorem Box.far (h : Box w g cs) {p : Addr} (hp : g ≠ p.block) (v : Value) : Box (w.setCell p v) g cs := by
  obtain ⟨T, h⟩ := h
  exact ⟨T, (Below.heap_setCell w p v g hp).trans h⟩
end

/-- The cells of a property. -/
def pcells (p : P) : List Value := [.int .i64 p.id, .int .i64 p.n, .string p.s, .string p.v]
def pagg (p : P) : Value := .agg #[.int .i64 p.id, .int .i64 p.n, .string p.s, .string p.v]
/-- A property that an argument may be. -/
structure Fit (p : P) : Prop where
  i0 : -9223372036854775808 ≤ p.id
  i1 : p.id ≤ 9223372036854775807
  n0 : -9223372036854775808 ≤ p.n
  n1 : p.n ≤ 9223372036854775807
  hs : p.s.size ≤ 140737488351232
  hv : p.v.size ≤ 140737488351232
/-- One property in memory. -/
structure PAt (w : World) (b o : Nat) (p : P) : Prop where
  c0 : w.cell? ⟨b, o, none⟩ = some (.int .i64 p.id)
  c1 : w.cell? ⟨b, o + 1, none⟩ = some (.int .i64 p.n)
  c2 : w.cell? ⟨b, o + 2, none⟩ = some (.string p.s)
  c3 : w.cell? ⟨b, o + 3, none⟩ = some (.string p.v)
/-- The slice at A holds the properties l, in a block below B. -/
def PropsAt (w : World) (B : Nat) (A : Option Addr) (l : List P) : Prop :=
  l = [] ∨ ∃ b o, A = some ⟨b, o, none⟩ ∧ b < B ∧ ∀ j (h : j < l.length), PAt w b (o + j * 4) l[j]
section
variable {w w' : World} {B B' : Nat} {A : Option Addr} {l : List P}
theorem PAt.keep {b o : Nat} {p : P} (h : PAt w b o p) (hk : ∀ i, w'.cell? ⟨b, i, none⟩ = w.cell? ⟨b, i, none⟩) : PAt w' b o p :=
  ⟨(hk _).trans h.c0, (hk _).trans h.c1, (hk _).trans h.c2, (hk _).trans h.c3⟩
theorem PropsAt.none_ : PropsAt w B A [] := .inl rfl
theorem PropsAt.some_ (h : PropsAt w B A l) (hl : 0 < l.length) : ∃ b o, A = some ⟨b, o, none⟩ ∧ b < B ∧ ∀ j (h : j < l.length), PAt w b (o + j * 4) l[j] := by
  rcases h with rfl | h
  · simp at hl
  · exact h
theorem PropsAt.keep (h : PropsAt w B A l) (hk : ∀ p : Addr, p.block < B → w'.cell? p = w.cell? p) : PropsAt w' B A l := by
  rcases h with h | ⟨b, o, h1, h2, h3⟩
  · exact .inl h
  · exact .inr ⟨b, o, h1, h2, fun j hj => (h3 j hj).keep fun i => hk ⟨b, i, none⟩ h2⟩
theorem PropsAt.mono (h : PropsAt w B A l) (hB : B ≤ B') : PropsAt w B' A l := by
  rcases h with h | ⟨b, o, h1, h2, h3⟩
  · exact .inl h
  · exact .inr ⟨b, o, h1, Nat.lt_of_lt_of_le h2 hB, h3⟩
theorem PropsAt.below (h : PropsAt w B A l) (hb : Below B w w') : PropsAt w' B A l := h.keep fun _ hp => hb.cell hp
theorem PropsAt.drewN (h : PropsAt w B A l) (n : Nat) : PropsAt (w.drewN n) B A l := h.keep fun _ _ => rfl
theorem PropsAt.alloc (h : PropsAt w B A l) (hB : B ≤ w.heap.size) (o : Obj) : PropsAt (w.alloc o) B A l := h.keep fun p hp => World.cell?_alloc_lt w o p (by omega)
/-- The first few. -/
theorem PropsAt.take (h : PropsAt w B A l) (k : Nat) : PropsAt w B A (l.take k) := by
  rcases h with rfl | ⟨b, o, h1, h2, h3⟩
  · exact .inl (by simp)
  · refine .inr ⟨b, o, h1, h2, fun j hj => ?_⟩
    have hl : j < l.length := by rw [List.length_take] at hj; omega
    rw [List.getElem_take]
    exact h3 j hl
end
def flat (l : List P) : List Value := l.flatMap pcells
theorem flat_len (l : List P) : (flat l).length = l.length * 4 := by
  induction l with
  | nil => rfl
  | cons p t ih => unfold flat at ih ⊢; rw [List.flatMap_cons, List.length_append, ih]; show 4 + _ = (t.length + 1) * 4; omega
theorem flat_snoc (l : List P) (p : P) : flat (l ++ [p]) = flat l ++ pcells p := by unfold flat; rw [List.flatMap_append]; simp
theorem flat_at (l : List P) (j i : Nat) (hj : j < l.length) (hi : i < 4) : (flat l)[j * 4 + i]? = (pcells l[j])[i]? := by
  induction l generalizing j with
  | nil => simp at hj
  | cons p t ih =>
    have e : flat (p :: t) = pcells p ++ flat t := by unfold flat; rw [List.flatMap_cons]
    rw [e]
    cases j with
    | zero =>
      rw [List.getElem?_append_left (by show _ < 4; omega)]
      simp
    | succ m =>
      rw [List.getElem?_append_right (by show 4 ≤ _; omega)]
      have : (m + 1) * 4 + i - (pcells p).length = m * 4 + i := by show _ - 4 = _; omega
      rw [this]
      exact ih m (by simpa using hj)
/-- A row of properties of the call's own. -/
theorem PropsAt.of_own {w : World} {base e c : Nat} {A : Option Addr} {l : List P} (h : w.ownsRow base e 4 (.slice A l.length c) l.length (flat l)) : PropsAt w w.heap.size A l := by
  rcases h.2 with ⟨hv, hn⟩ | ⟨g, cap, cur, hv, _, hg, hle, _, hsz, htk⟩
  · exact .inl (List.eq_nil_of_length_eq_zero hn)
  · injection hv with hA _ _
    subst hA
    have key := h.cells (g := g) rfl
    refine .inr ⟨g, 0, rfl, (Array.getElem?_eq_some_iff.1 hg).1, fun j hj => ?_⟩
    have hz : ∀ i u, i < 4 → (pcells l[j])[i]? = some u → w.cell? ⟨g, 0 + j * 4 + i, none⟩ = some u := fun i u hi hu => by
      have := key (j * 4 + i) u (by rw [flat_at l j i hj hi]; exact hu)
      rw [add_new] at this
      rw [Nat.zero_add]
      exact this
    exact ⟨hz 0 _ (by omega) rfl, hz 1 _ (by omega) rfl, hz 2 _ (by omega) rfl, hz 3 _ (by omega) rfl⟩
theorem own_slice {w : World} {base e : Nat} {v : Value} {l : List P} (h : w.ownsRow base e 4 v l.length (flat l)) : ∃ A c, v = .slice A l.length c := by
  rcases h.2 with ⟨hv, hn⟩ | ⟨g, cap, cur, hv, _⟩
  · exact ⟨none, 0, by rw [hv, hn]⟩
  · exact ⟨_, cap, hv⟩
end Go.Proofs.Ythjlbdplhhgcpaa
