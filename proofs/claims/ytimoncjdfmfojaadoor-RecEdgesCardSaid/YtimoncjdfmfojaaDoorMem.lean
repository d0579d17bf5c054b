/- Lists of numbers in memory: what came in, what was made by the call itself. -/
import Derived.WalkKit
import Derived.WalkSpells
import Derived.Lib.Hide
import Derived.Deep.QuietTactic
import Derived.BigQuiet
import Derived.Laws.OwnMore
import Derived.Deep.Draws
import Derived.OwnWalk
namespace Go.Proofs.YtimoncjdfmfojaaDoor
open Go.RowKit Go.Lib

/-- The slice at A holds the numbers xs of kind k, in a block below B. -/
def Nums (w : World) (B : Nat) (k : IntKind) (A : Option Addr) (xs : List Int) : Prop :=
  xs = [] ∨ ∃ a, A = some a ∧ a.block < B ∧ ∀ j, j < xs.length → w.cell? (a.add j) = some (.int k (xs.getD j 0))

theorem add_block (a : Addr) (n : Nat) : (a.add n).block = a.block := by unfold Addr.add; split <;> rfl

section
variable {w w' : World} {B B' : Nat} {k : IntKind} {A : Option Addr} {xs : List Int}
theorem Nums.none_ : Nums w B k A [] := .inl rfl
theorem Nums.some_ (h : Nums w B k A xs) (hx : 0 < xs.length) : ∃ a, A = some a ∧ a.block < B ∧ ∀ j, j < xs.length → w.cell? (a.add j) = some (.int k (xs.getD j 0)) := by
  rcases h with rfl | h
  · simp at hx
  · exact h
theorem Nums.keep (h : Nums w B k A xs) (hk : ∀ p : Addr, p.block < B → w'.cell? p = w.cell? p) : Nums w' B k A xs := by
  rcases h with h | ⟨a, h1, h2, h3⟩
  · exact .inl h
  · exact .inr ⟨a, h1, h2, fun j hj => by rw [hk _ (by rw [add_block]; exact h2)]; exact h3 j hj⟩
theorem Nums.mono (h : Nums w B k A xs) (hB : B ≤ B') : Nums w B' k A xs := by
  rcases h with h | ⟨a, h1, h2, h3⟩
  · exact .inl h
  · exact .inr ⟨a, h1, Nat.lt_of_lt_of_le h2 hB, h3⟩
theorem Nums.below (h : Nums w B k A xs) (hb : Below B w w') : Nums w' B k A xs := h.keep fun _ hp => hb.cell hp
theorem Nums.drewN (h : Nums w B k A xs) (n : Nat) : Nums (w.drewN n) B k A xs := h
theorem Nums.alloc (h : Nums w B k A xs) (hB : B ≤ w.heap.size) (o : Obj) : Nums (w.alloc o) B k A xs :=
  h.keep fun p hp => World.cell?_alloc_lt w o p (by omega)
theorem Nums.of_own {base : Nat} {e : TypeId} {c : Nat} (h : w.ownsRow base e 1 (.slice A xs.length c) xs.length (xs.map (Value.int k))) : Nums w w.heap.size k A xs := by
  rcases h.2 with ⟨hv, hn⟩ | ⟨g, cap, cur, hv, _, hg, hle, _, hsz, htk⟩
  · exact .inl (List.eq_nil_of_length_eq_zero hn)
  · injection hv with hA _ _
    subst hA
    refine .inr ⟨_, rfl, (Array.getElem?_eq_some_iff.1 hg).1, fun j hj => ?_⟩
    refine h.cells (g := g) rfl j _ ?_
    rw [List.getElem?_map, List.getElem?_eq_getElem hj, List.getD_eq_getElem?_getD, List.getElem?_eq_getElem hj]
    rfl
/-- What an owned row of numbers is as a value. -/
theorem own_form {base : Nat} {e : TypeId} {v : Value} (h : w.ownsRow base e 1 v xs.length (xs.map (Value.int k))) : ∃ A c, v = .slice A xs.length c := by
  rcases h.2 with ⟨hv, hn⟩ | ⟨g, cap, cur, hv, _⟩
  · exact ⟨none, 0, by rw [hv, hn]⟩
  · exact ⟨_, cap, hv⟩
end

/-- Draws turn nothing below. -/
theorem below_drewN {B : Nat} {a w : World} (h : Below B a w) (n : Nat) : Below B a (w.drewN n) := ⟨h.os, h.tape, h.output, h.size, h.block⟩

/-! ### memory of the call's own -/
/-- A new block, and then an append onto a row of the call's own: below B nothing has turned. -/
theorem below_alloc_grown {B e size n : Nat} {w w' : World} {v : Value} {xs : List Value} {o : Obj} (hB : B ≤ w.heap.size) (hown : w.ownsRow B e size v n xs) (hg : (w.alloc o).grownBy w' v.ownBlock) : Below B w w' := by
  refine ⟨hg.os, hg.tape, hg.output, ?_, fun k hk => ?_⟩
  · have := hg.size; simp at this; omega
  · rw [hg.block k (by simp; omega)]
    · exact Below.heap_alloc w o k (by omega)
    · intro hk2
      have := (hown.lt k hk2.symm).1
      omega
theorem own_snoc {w : World} {B e : Nat} {v : Value} {k : IntKind} {ys : List Int} {x : Int} (h : w.ownsRow B e 1 v (ys.length + 1) (ys.map (Value.int k) ++ [.int k x])) :
    w.ownsRow B e 1 v (ys ++ [x]).length ((ys ++ [x]).map (Value.int k)) := by simpa using h

/-- A slice that holds the numbers xs, in new memory. -/
def GivesNums (k : IntKind) (xs : List Int) (w : World) (e : Ending) (w' : World) : Prop := ∃ A c, e = .returned (.slice A xs.length c) ∧ Nums w' w'.heap.size k A xs ∧ Below w.heap.size w w'
theorem gives_of_own {w w' : World} {B e : Nat} {v : Value} {k : IntKind} {xs : List Int} (h : w'.ownsRow B e 1 v xs.length (xs.map (Value.int k))) (hb : Below w.heap.size w w') : GivesNums k xs w (.returned v) w' := by
  obtain ⟨A, c, rfl⟩ := own_form h
  exact ⟨A, c, rfl, Nums.of_own h, hb⟩

theorem add_new (g j : Nat) : (⟨g, 0, none⟩ : Addr).add j = ⟨g, j, none⟩ := by
  unfold Addr.add; split <;> simp_all
/-- A new block that begins with the numbers rs. -/
theorem new_cell (W : World) (cs : Array Value) (rs : List Int) {k : IntKind} {e : TypeId} (h : ∀ j, j < rs.length → cs[j]? = some (.int k (rs.getD j 0))) (j : Nat) (hj : j < rs.length) :
    (W.alloc (.cells cs e)).drew.cell? ((⟨W.heap.size, 0, none⟩ : Addr).add j) = some (.int k (rs.getD j 0)) := by
  rw [add_new]
  show (W.alloc (.cells cs e)).cell? ⟨W.heap.size, j, none⟩ = _
  rw [cell_of_row (W.alloc (.cells cs e)) W.heap.size j cs e (0, 0) (heap_alloc_new W _)]
  exact h j hj

/-- A literal slice of numbers. -/
theorem lit_nums (W : World) (cs : Array Value) (rs : List Int) (k : IntKind) (e : TypeId) (h : cs = (rs.map (Value.int k)).toArray) : Nums (W.alloc (.cells cs e)) (W.heap.size + 1) k (some ⟨W.heap.size, 0, none⟩) rs := by
  refine .inr ⟨_, rfl, by simp, fun j hj => ?_⟩
  refine new_cell W cs rs (fun j hj => ?_) j hj
  rw [h]
  simp [List.getElem?_eq_getElem hj]

theorem gives_lit (w : World) (cs : Array Value) (rs : List Int) (n : Nat) (k : IntKind) (e : TypeId) (h : cs = (rs.map (Value.int k)).toArray) (hn : n = rs.length) :
    GivesNums k rs w (.returned (.slice (some ⟨w.heap.size, 0, none⟩) n n)) (w.alloc (.cells cs e)) := by
  subst hn
  exact ⟨_, _, rfl, (lit_nums w cs rs k e h).mono (by simp), (Below.refl _ _).alloc (Nat.le_refl _) _⟩

theorem own_below {w w' : World} {B e size n : Nat} {v : Value} {xs : List Value} (h : w.ownsRow B e size v n xs) (hb : Below w.heap.size w w') : w'.ownsRow B e size v n xs :=
  h.kept (row := none) ⟨hb.os, hb.tape, hb.output, hb.size, fun k hk _ => hb.block k hk⟩ (Classical.em _)
theorem below_grown {B e size n : Nat} {w w' : World} {v : Value} {xs : List Value} (hB : B ≤ w.heap.size) (hown : w.ownsRow B e size v n xs) (hg : w.grownBy w' v.ownBlock) : Below B w w' := by
  refine ⟨hg.os, hg.tape, hg.output, hg.size, fun k hk => ?_⟩
  refine hg.block k (by omega) fun hk2 => ?_
  have := (hown.lt k hk2.symm).1
  omega

end Go.Proofs.YtimoncjdfmfojaaDoor
