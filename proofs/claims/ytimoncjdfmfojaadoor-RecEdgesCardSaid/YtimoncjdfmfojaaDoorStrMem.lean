/- Lists of texts in memory: what came in, what was made by the call itself. -/
import Derived.Test.YtimoncjdfmfojaaDoorMem
import Derived.WalkSmall
import Derived.Lib.Strings
namespace Go.Proofs.YtimoncjdfmfojaaDoor
open Go.RowKit Go.Lib

/-- Bytes, as a text. -/
def str (x : List UInt8) : ByteArray := ⟨x.toArray⟩
theorem str_data (x : List UInt8) : (str x).data.toList = x := by simp [str]
theorem data_str (s : ByteArray) : str s.data.toList = s := by simp [str]
theorem str_size (x : List UInt8) : (str x).size = x.length := by rw [Lib.size_eq, str_data]
theorem str_inj {x y : List UInt8} (h : str x = str y) : x = y := by rw [← str_data x, h, str_data]
theorem str_toList (x : List UInt8) : (str x).toList = x := by rw [ByteArray.toList_eq, str_data]
theorem toList_data_eq (s : ByteArray) : s.toList = s.data.toList := ByteArray.toList_eq s
def strs (ls : List (List UInt8)) : List Value := ls.map fun x => Value.string (str x)
theorem strs_len (ls : List (List UInt8)) : (strs ls).length = ls.length := by simp [strs]
theorem strs_snoc (ls : List (List UInt8)) (x : List UInt8) : strs (ls ++ [x]) = strs ls ++ [.string (str x)] := by simp [strs]

/-- The slice at A holds the texts ls, in a block below B. -/
def Strs (w : World) (B : Nat) (A : Option Addr) (ls : List (List UInt8)) : Prop :=
  ls = [] ∨ ∃ a, A = some a ∧ a.block < B ∧ ∀ j, j < ls.length → w.cell? (a.add j) = some (.string (str (ls.getD j [])))
section
variable {w w' : World} {B B' : Nat} {A : Option Addr} {ls : List (List UInt8)}
theorem Strs.none_ : Strs w B A [] := .inl rfl
theorem Strs.some_ (h : Strs w B A ls) (hx : 0 < ls.length) : ∃ a, A = some a ∧ a.block < B ∧ ∀ j, j < ls.length → w.cell? (a.add j) = some (.string (str (ls.getD j []))) := by
  rcases h with rfl | h
  · simp at hx
  · exact h
theorem Strs.keep (h : Strs w B A ls) (hk : ∀ p : Addr, p.block < B → w'.cell? p = w.cell? p) : Strs w' B A ls := by
  rcases h with h | ⟨a, h1, h2, h3⟩
  · exact .inl h
  · exact .inr ⟨a, h1, h2, fun j hj => by rw [hk _ (by rw [add_block]; exact h2)]; exact h3 j hj⟩
theorem Strs.mono (h : Strs w B A ls) (hB : B ≤ B') : Strs w B' A ls := by
  rcases h with h | ⟨a, h1, h2, h3⟩
  · exact .inl h
  · exact .inr ⟨a, h1, Nat.lt_of_lt_of_le h2 hB, h3⟩
theorem Strs.below (h : Strs w B A ls) (hb : Below B w w') : Strs w' B A ls := h.keep fun _ hp => hb.cell hp
theorem Strs.on (h : Strs w w.heap.size A ls) (hb : Below w.heap.size w w') : Strs w' w'.heap.size A ls := (h.below hb).mono hb.size
theorem Strs.drewN (h : Strs w B A ls) (n : Nat) : Strs (w.drewN n) B A ls := h.keep fun _ _ => rfl
theorem Strs.alloc (h : Strs w B A ls) (hB : B ≤ w.heap.size) (o : Obj) : Strs (w.alloc o) B A ls := h.keep fun p hp => World.cell?_alloc_lt w o p (by omega)
theorem Strs.of_own {base e c : Nat} (h : w.ownsRow base e 1 (.slice A ls.length c) ls.length (strs ls)) : Strs w w.heap.size A ls := by
  rcases h.2 with ⟨hv, hn⟩ | ⟨g, cap, cur, hv, _, hg, hle, _, hsz, htk⟩
  · exact .inl (List.eq_nil_of_length_eq_zero hn)
  · injection hv with hA _ _
    subst hA
    refine .inr ⟨_, rfl, (Array.getElem?_eq_some_iff.1 hg).1, fun j hj => ?_⟩
    refine h.cells (g := g) rfl j _ ?_
    unfold strs
    rw [List.getElem?_map, List.getElem?_eq_getElem hj, List.getD_eq_getElem?_getD, List.getElem?_eq_getElem hj]
    rfl
theorem own_strs {base e : Nat} {v : Value} (h : w.ownsRow base e 1 v ls.length (strs ls)) : ∃ A c, v = .slice A ls.length c := by
  rcases h.2 with ⟨hv, hn⟩ | ⟨g, cap, cur, hv, _⟩
  · exact ⟨none, 0, by rw [hv, hn]⟩
  · exact ⟨_, cap, hv⟩
theorem own_str_snoc {base e : Nat} {v : Value} {x : List UInt8} (h : w.ownsRow base e 1 v (ls.length + 1) (strs ls ++ [.string (str x)])) : w.ownsRow base e 1 v (ls ++ [x]).length (strs (ls ++ [x])) := by
  rw [strs_snoc, List.length_append]; exact h
end
/-- A literal slice of texts. -/
theorem lit_strs (W : World) (cs : Array Value) (ls : List (List UInt8)) (e : TypeId) (h : cs = (strs ls).toArray) : Strs (W.alloc (.cells cs e)) (W.heap.size + 1) (some ⟨W.heap.size, 0, none⟩) ls := by
  refine .inr ⟨_, rfl, by simp, fun j hj => ?_⟩
  rw [add_new, cell_of_row (W.alloc (.cells cs e)) W.heap.size j cs e (0, 0) (heap_alloc_new W _), h]
  simp [strs, List.getElem?_eq_getElem hj]
/-- A slice that holds the texts ls, in new memory that the call owns. -/
def GivesStrs (ls : List (List UInt8)) (w : World) (e : Ending) (w' : World) : Prop :=
  ∃ A c, e = .returned (.slice A ls.length c) ∧ w'.ownsRow w.heap.size 9 1 (.slice A ls.length c) ls.length (strs ls) ∧ Below w.heap.size w w'
theorem gives_strs {w w' : World} {B : Nat} {v : Value} {ls : List (List UInt8)} (h : w'.ownsRow B 9 1 v ls.length (strs ls)) (hB : w.heap.size ≤ B) (hb : Below w.heap.size w w') : GivesStrs ls w (.returned v) w' := by
  obtain ⟨A, c, rfl⟩ := own_strs h
  refine ⟨A, c, rfl, ⟨h.1, ?_⟩, hb⟩
  rcases h.2 with h2 | ⟨g, cap, cur, h1, h2, h3⟩
  · exact .inl h2
  · exact .inr ⟨g, cap, cur, h1, Nat.le_trans hB h2, h3⟩
end Go.Proofs.YtimoncjdfmfojaaDoor
