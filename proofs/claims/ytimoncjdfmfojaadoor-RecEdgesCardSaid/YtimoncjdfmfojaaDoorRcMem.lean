/- Records in memory; blocks of the call's own. -/
import Derived.Test.YtimoncjdfmfojaaDoorStrMem
import Derived.Test.YtimoncjdfmfojaaDoorInRegion
import Derived.Test.YtimoncjdfmfojaaDoorRcPlain
import Derived.Test.YtimoncjdfmfojaaDoorSay
namespace Go.Proofs.YtimoncjdfmfojaaDoor.Rcd
open Go.RowKit Go.Lib

/-- Block g holds just these cells, and may be written. -/
def Blk (w : World) (g : Nat) (cs : Array Value) : Prop := ∃ T, w.heap[g]? = some (.cells cs T (0, 0))
section
variable {w w' : World} {g : Nat} {cs : Array Value}
theorem Blk.new (w : World) (T : TypeId) (cs : Array Value) : Blk (w.alloc (.cells cs T)) w.heap.size cs := ⟨T, heap_alloc_new w _⟩
theorem Blk.lt (h : Blk w g cs) : g < w.heap.size := by
  obtain ⟨T, h⟩ := h
  exact (Array.getElem?_eq_some_iff.1 h).1
theorem Blk.cell (h : Blk w g cs) (i : Nat) : w.cell? ⟨g, i, none⟩ = cs[i]? := by
  obtain ⟨T, h⟩ := h
  exact cell_of_row w g i cs T (0, 0) h
theorem Blk.frozen (h : Blk w g cs) (i : Nat) : w.frozen? ⟨g, i, none⟩ = false := by
  obtain ⟨T, h⟩ := h
  simp [World.frozen?, h]
theorem Blk.below (h : Blk w g cs) (hb : Below w.heap.size w w') : Blk w' g cs := by
  have hl := h.lt
  obtain ⟨T, h⟩ := h
  exact ⟨T, (hb.block g hl).trans h⟩
theorem Blk.drewN (h : Blk w g cs) (n : Nat) : Blk (w.drewN n) g cs := h
theorem Blk.alloc (h : Blk w g cs) (o : Obj) : Blk (w.alloc o) g cs := h.below ((Below.refl _ _).alloc (Nat.le_refl _) o)
theorem Blk.put (h : Blk w g cs) (i : Nat) (v : Value) : Blk (w.setCell ⟨g, i, none⟩ v) g (cs.setIfInBounds i v) := by
  obtain ⟨T, h⟩ := h
  exact ⟨T, by simp [World.setCell, Array.getElem?_modify, h]⟩
end

/-- The cells of a record. -/
def rcells (r : Rc) : List Value := [.int .i64 r.o, .int .i64 r.t, .string (str r.k), .string (str r.b), .int .i64 r.q, .bool r.g]
/-- The same, of what each is. -/
def rarr (o t : Int) (k b : ByteArray) (q : Int) (g : Bool) : Array Value := #[.int .i64 o, .int .i64 t, .string k, .string b, .int .i64 q, .bool g]
def ragg (r : Rc) : Value := .agg (rarr r.o r.t (str r.k) (str r.b) r.q r.g)
theorem rcells_arr (r : Rc) : (rcells r).toArray = rarr r.o r.t (str r.k) (str r.b) r.q r.g := rfl
/-- One record in memory. -/
structure RAt (w : World) (b o : Nat) (s : Rc) : Prop where
  c0 : w.cell? ⟨b, o, none⟩ = some (.int .i64 s.o)
  c1 : w.cell? ⟨b, o + 1, none⟩ = some (.int .i64 s.t)
  c2 : w.cell? ⟨b, o + 2, none⟩ = some (.string (str s.k))
  c3 : w.cell? ⟨b, o + 3, none⟩ = some (.string (str s.b))
  c4 : w.cell? ⟨b, o + 4, none⟩ = some (.int .i64 s.q)
  c5 : w.cell? ⟨b, o + 5, none⟩ = some (.bool s.g)
/-- The slice at A holds the records l, in a block below B. -/
def RecsAt (w : World) (B : Nat) (A : Option Addr) (l : List Rc) : Prop :=
  l = [] ∨ ∃ b o, A = some ⟨b, o, none⟩ ∧ b < B ∧ ∀ j (h : j < l.length), RAt w b (o + j * 6) l[j]
section
variable {w w' : World} {B B' : Nat} {A : Option Addr} {l : List Rc}
theorem RAt.keep {b o : Nat} {s : Rc} (h : RAt w b o s) (hk : ∀ i, w'.cell? ⟨b, i, none⟩ = w.cell? ⟨b, i, none⟩) : RAt w' b o s :=
  ⟨(hk _).trans h.c0, (hk _).trans h.c1, (hk _).trans h.c2, (hk _).trans h.c3, (hk _).trans h.c4, (hk _).trans h.c5⟩
theorem RecsAt.none_ : RecsAt w B A [] := .inl rfl
theorem RecsAt.some_ (h : RecsAt w B A l) (hl : 0 < l.length) : ∃ b o, A = some ⟨b, o, none⟩ ∧ b < B ∧ ∀ j (h : j < l.length), RAt w b (o + j * 6) l[j] := by
  rcases h with rfl | h
  · simp at hl
  · exact h
theorem RecsAt.keep (h : RecsAt w B A l) (hk : ∀ p : Addr, p.block < B → w'.cell? p = w.cell? p) : RecsAt w' B A l := by
  rcases h with h | ⟨b, o, h1, h2, h3⟩
  · exact .inl h
  · exact .inr ⟨b, o, h1, h2, fun j hj => (h3 j hj).keep fun i => hk ⟨b, i, none⟩ h2⟩
theorem RecsAt.mono (h : RecsAt w B A l) (hB : B ≤ B') : RecsAt w B' A l := by
  rcases h with h | ⟨b, o, h1, h2, h3⟩
  · exact .inl h
  · exact .inr ⟨b, o, h1, Nat.lt_of_lt_of_le h2 hB, h3⟩
theorem RecsAt.below (h : RecsAt w B A l) (hb : Below B w w') : RecsAt w' B A l := h.keep fun _ hp => hb.cell hp
theorem RecsAt.on (h : RecsAt w w.heap.size A l) (hb : Below w.heap.size w w') : RecsAt w' w'.heap.size A l := (h.below hb).mono hb.size
theorem RecsAt.drewN (h : RecsAt w B A l) (n : Nat) : RecsAt (w.drewN n) B A l := h.keep fun _ _ => rfl
theorem RecsAt.alloc (h : RecsAt w B A l) (hB : B ≤ w.heap.size) (o : Obj) : RecsAt (w.alloc o) B A l := h.keep fun p hp => World.cell?_alloc_lt w o p (by omega)
end
def flat (l : List Rc) : List Value := l.flatMap rcells
theorem flat_cons (s : Rc) (l : List Rc) : flat (s :: l) = rcells s ++ flat l := by unfold flat; rw [List.flatMap_cons]
theorem flat_len (l : List Rc) : (flat l).length = l.length * 6 := by
  induction l with
  | nil => rfl
  | cons p t ih => rw [flat_cons, List.length_append, ih]; show 6 + _ = (t.length + 1) * 6; omega
theorem flat_snoc (l : List Rc) (p : Rc) : flat (l ++ [p]) = flat l ++ rcells p := by unfold flat; rw [List.flatMap_append]; simp
theorem flat_app (l m : List Rc) : flat (l ++ m) = flat l ++ flat m := by unfold flat; rw [List.flatMap_append]
theorem flat_at (l : List Rc) (j i : Nat) (hj : j < l.length) (hi : i < 6) : (flat l)[j * 6 + i]? = (rcells l[j])[i]? := by
  induction l generalizing j with
  | nil => simp at hj
  | cons p t ih =>
    rw [flat_cons]
    cases j with
    | zero =>
      rw [List.getElem?_append_left (by show _ < 6; omega)]
      simp
    | succ m =>
      rw [List.getElem?_append_right (by show 6 ≤ _; omega)]
      have : (m + 1) * 6 + i - (rcells p).length = m * 6 + i := by show _ - 6 = _; omega
      rw [this]
      exact ih m (by simpa using hj)
theorem one_cells (p : Rc) : ∀ u ∈ rcells p, u.oneCell' = true := by
  have h : (rcells p).all (fun u => u.oneCell') = true := rfl
  exact List.all_eq_true.1 h
theorem flat_one : ∀ (l : List Rc), ∀ u ∈ flat l, u.oneCell' = true
  | [], u, h => by simp [flat] at h
  | s :: l, u, h => by
    rw [flat_cons] at h
    rcases List.mem_append.1 h with h | h
    · exact one_cells s u h
    · exact flat_one l u h
/-- Cells that hold the records, one behind the other. -/
theorem RecsAt.of_cells {w : World} {B g : Nat} {l : List Rc} (hg : g < B) (key : ∀ j u, (flat l)[j]? = some u → w.cell? ⟨g, j, none⟩ = some u) : RecsAt w B (some ⟨g, 0, none⟩) l := by
  refine .inr ⟨g, 0, rfl, hg, fun j hj => ?_⟩
  have hz : ∀ i u, i < 6 → (rcells l[j])[i]? = some u → w.cell? ⟨g, 0 + j * 6 + i, none⟩ = some u := fun i u hi hu => by
    rw [Nat.zero_add]
    exact key (j * 6 + i) u (by rw [flat_at l j i hj hi]; exact hu)
  exact ⟨hz 0 _ (by omega) rfl, hz 1 _ (by omega) rfl, hz 2 _ (by omega) rfl, hz 3 _ (by omega) rfl, hz 4 _ (by omega) rfl, hz 5 _ (by omega) rfl⟩
/-- A row of records of the call's own. -/
theorem RecsAt.of_own {w : World} {base e c : Nat} {A : Option Addr} {l : List Rc} (h : w.ownsRow base e 6 (.slice A l.length c) l.length (flat l)) : RecsAt w w.heap.size A l := by
  rcases h.2 with ⟨hv, hn⟩ | ⟨g, cap, cur, hv, _, hg, hle, _, hsz, htk⟩
  · exact .inl (List.eq_nil_of_length_eq_zero hn)
  · injection hv with hA _ _
    subst hA
    have key := h.cells (g := g) rfl
    refine .of_cells (Array.getElem?_eq_some_iff.1 hg).1 fun j u hu => ?_
    have := key j u hu
    rwa [add_new] at this
theorem own_slice {w : World} {base e : Nat} {v : Value} {l : List Rc} (h : w.ownsRow base e 6 v l.length (flat l)) : ∃ A c, v = .slice A l.length c := by
  rcases h.2 with ⟨hv, hn⟩ | ⟨g, cap, cur, hv, _⟩
  · exact ⟨none, 0, by rw [hv, hn]⟩
  · exact ⟨_, cap, hv⟩
theorem own_cap {w : World} {B e c : Nat} {A : Option Addr} {l : List Rc} (h : w.ownsRow B e 6 (.slice A l.length c) l.length (flat l)) : l.length ≤ c := by
  rcases h.2 with ⟨hv, hn⟩ | ⟨g, cap, cur, hv, _, _, hle, _⟩
  · omega
  · injection hv with _ _ hc
    omega
theorem cells_new (w : World) (T : TypeId) (cs : List Value) (j : Nat) (u : Value) (h : cs[j]? = some u) : (w.alloc (.cells cs.toArray T)).cell? ((⟨w.heap.size, 0, none⟩ : Addr).add j) = some u := by
  rw [add_new, cell_of_row (w.alloc _) w.heap.size j _ _ (0, 0) (heap_alloc_new w _)]
  simpa using h
/-- Records in a row of the call's own. -/
def GivesRecs (l : List Rc) (w : World) (e : Ending) (w' : World) : Prop := ∃ A c, e = .returned (.slice A l.length c) ∧ w'.ownsRow w.heap.size 28 6 (.slice A l.length c) l.length (flat l) ∧ Below w.heap.size w w'
/-- The first few. -/
theorem RecsAt.take {w : World} {B : Nat} {A : Option Addr} {l : List Rc} (h : RecsAt w B A l) (k : Nat) : RecsAt w B A (l.take k) := by
  rcases h with rfl | ⟨b, o, h1, h2, h3⟩
  · exact .inl (by simp)
  · refine .inr ⟨b, o, h1, h2, fun j hj => ?_⟩
    have hl : j < l.length := by rw [List.length_take] at hj; omega
    rw [List.getElem_take]
    exact h3 j hl
end Go.Proofs.YtimoncjdfmfojaaDoor.Rcd
