/- A disk in memory: its box, its map, a box and a row of bytes a file; what stays while something else is written. -/
import Derived.Test.YtgimecgdfcckbaaProg
import Derived.Test.YtgimecgdfcckbaaStrMem
import Derived.Test.YtgimecgdfcckbaaDskPlain
import Derived.Maps.OwnSet
import Derived.Maps.RangeWalk
import Derived.Lib.AppendStr
namespace Go.Proofs.Ytgimecgdfcckbaa.Dsk
open Go.RowKit Go.Lib Go.Maps

/-! ### blocks -/
/-- Block g holds just these cells, of type T, and may be written. -/
def Bk (w : World) (g : Nat) (T : TypeId) (cs : Array Value) : Prop := w.heap[g]? = some (.cells cs T (0, 0))
/-- Nothing has turned but blocks of X, and new ones. -/
structure Chg (X : Nat → Prop) (w w' : World) : Prop where
  os : w'.os = w.os
  tape : w'.tape = w.tape
  output : w'.output = w.output
  size : w.heap.size ≤ w'.heap.size
  block : ∀ k, k < w.heap.size → ¬ X k → w'.heap[k]? = w.heap[k]?
section
variable {w w' w'' : World} {g g' : Nat} {T T' : TypeId} {cs cs' : Array Value} {X Y : Nat → Prop} {row : Option Nat}
theorem Bk.new (w : World) (T : TypeId) (cs : Array Value) : Bk (w.alloc (.cells cs T)) w.heap.size T cs := heap_alloc_new w _
theorem Bk.lt (h : Bk w g T cs) : g < w.heap.size := (Array.getElem?_eq_some_iff.1 h).1
theorem Bk.cell (h : Bk w g T cs) (i : Nat) : w.cell? ⟨g, i, none⟩ = cs[i]? := cell_of_row w g i cs T (0, 0) h
theorem Bk.frozen (h : Bk w g T cs) (i : Nat) : w.frozen? ⟨g, i, none⟩ = false := by
  unfold Bk at h
  simp [World.frozen?, h]
theorem Bk.put (h : Bk w g T cs) (i : Nat) (v : Value) : Bk (w.setCell ⟨g, i, none⟩ v) g T (cs.setIfInBounds i v) := by
  unfold Bk at h ⊢
  simp [World.setCell, Array.getElem?_modify, h]
theorem Bk.grown (h : Bk w g T cs) (hg : w.grownBy w' row) (hr : some g ≠ row) : Bk w' g T cs := (hg.block g h.lt hr).trans h
theorem Bk.chg (h : Bk w g T cs) (hc : Chg X w w') (hx : ¬ X g) : Bk w' g T cs := (hc.block g h.lt hx).trans h
theorem Bk.below (h : Bk w g T cs) (hb : Below w.heap.size w w') : Bk w' g T cs := (hb.block g h.lt).trans h
theorem Bk.drewN (h : Bk w g T cs) (n : Nat) : Bk (w.drewN n) g T cs := h
theorem Bk.drew (h : Bk w g T cs) : Bk w.drew g T cs := h
theorem Bk.alloc (h : Bk w g T cs) (o : Obj) : Bk (w.alloc o) g T cs := h.grown (World.grownBy_alloc w o none) (by simp)
theorem Bk.ne (h : Bk w g T cs) (h' : Bk w g' T' cs') (hT : T ≠ T') : g ≠ g' := fun e => by
  subst e
  unfold Bk at h h'
  rw [h] at h'
  cases h'
  exact hT rfl
theorem Bk.ne_map (h : Bk w g T cs) {es : Array MapEntry} {c : Nat} (hm : w.heap[g']? = some (.map es c)) : g ≠ g' := fun e => by
  subst e
  unfold Bk at h
  rw [h] at hm
  cases hm
theorem Chg.refl (X : Nat → Prop) (w : World) : Chg X w w := ⟨rfl, rfl, rfl, Nat.le_refl _, fun _ _ _ => rfl⟩
theorem Chg.mono (h : Chg X w w') (hx : ∀ k, X k → Y k) : Chg Y w w' := ⟨h.os, h.tape, h.output, h.size, fun k hk hy => h.block k hk fun hX => hy (hx k hX)⟩
/-- Two steps; the second one may write what is new since the first one. -/
theorem Chg.trans (h : Chg X w w') (h' : Chg Y w' w'') (hx : ∀ k, Y k → X k ∨ w.heap.size ≤ k) : Chg X w w'' :=
  ⟨h'.os.trans h.os, h'.tape.trans h.tape, h'.output.trans h.output, Nat.le_trans h.size h'.size, fun k hk hX =>
    (h'.block k (Nat.lt_of_lt_of_le hk h.size) fun hY => (hx k hY).elim hX fun hge => by omega).trans (h.block k hk hX)⟩
theorem Chg.of_grown (h : w.grownBy w' row) (hx : ∀ k, row = some k → X k) : Chg X w w' :=
  ⟨h.os, h.tape, h.output, h.size, fun k hk hX => h.block k hk fun e => hX (hx k e.symm)⟩
theorem Chg.of_below (h : Below w.heap.size w w') : Chg X w w' := ⟨h.os, h.tape, h.output, h.size, fun k hk _ => h.block k hk⟩
theorem Chg.below {B : Nat} (h : Chg X w w') (hB : B ≤ w.heap.size) (hx : ∀ k, X k → B ≤ k) : Below B w w' :=
  ⟨h.os, h.tape, h.output, h.size, fun k hk => h.block k (by omega) fun hX => by have := hx k hX; omega⟩
theorem grown_of_below (h : Below w.heap.size w w') : w.grownBy w' none := ⟨h.os, h.tape, h.output, h.size, fun k hk _ => h.block k hk⟩
theorem grown_setCell (w : World) (g i : Nat) (v : Value) : w.grownBy (w.setCell ⟨g, i, none⟩ v) (some g) :=
  ⟨rfl, rfl, rfl, by simp [World.setCell], fun k _ hne => Below.heap_setCell w ⟨g, i, none⟩ v k (fun e => hne (by rw [e]))⟩
theorem grown_drew (h : w.grownBy w' row) : w.grownBy w'.drew row := ⟨h.os, h.tape, h.output, h.size, h.block⟩
theorem own_kept0 {base e size n : Nat} {v : Value} {xs : List Value} (h : w.ownsRow base e size v n xs) (hg : w.grownBy w' row) (hr : ∀ k, v.ownBlock = some k → row ≠ some k) : w'.ownsRow base e size v n xs :=
  h.kept hg (by
    cases hv : v.ownBlock with
    | none => exact .inl rfl
    | some k => exact .inr fun e => hr k hv e.symm)
end

/-! ### pointers as elements of a map -/
abbrev DW := DataW Unit
def ptrD (b : Nat) : DW := .lit (.int .i64 (b : Int))
def ptrR : Value → Option (DW × List MemPlace)
  | .pointer none => some (.nil, [])
  | .pointer (some ⟨b, 0, none⟩) => some (ptrD b, [])
  | _ => none
theorem ptrR_mk (b : Nat) : ptrR (.pointer (some ⟨b, 0, none⟩)) = some (ptrD b, []) := rfl
theorem ptrR_nil : ptrR (.pointer none) = some (.nil, []) := rfl
theorem ptrR_inv {v : Value} {y : DW × List MemPlace} (h : ptrR v = some y) : (v = .pointer none ∧ y = (.nil, [])) ∨ ∃ b, v = .pointer (some ⟨b, 0, none⟩) ∧ y = (ptrD b, []) := by
  unfold ptrR at h
  split at h
  · cases h; exact .inl ⟨rfl, rfl⟩
  · cases h; exact .inr ⟨_, rfl, rfl⟩
  · cases h
theorem ptrD_inj {a b : Nat} (h : ptrD a = ptrD b) : a = b := by
  unfold ptrD at h
  injection h with h
  injection h with _ h
  exact Int.ofNat.inj h
theorem ptr_is {v : Value} {b : Nat} {ps : List MemPlace} (h : ptrR v = some (ptrD b, ps)) : v = .pointer (some ⟨b, 0, none⟩) := by
  rcases ptrR_inv h with ⟨_, e⟩ | ⟨c, rfl, e⟩
  · injection e with e _; cases e
  · injection e with e _
    rw [ptrD_inj e]
theorem ptr_nil {v : Value} {ps : List MemPlace} (h : ptrR v = some ((.nil : DW), ps)) : v = .pointer none := by
  rcases ptrR_inv h with ⟨rfl, _⟩ | ⟨c, rfl, e⟩
  · rfl
  · injection e with e _; cases e

theorem keyed : Keyed Try.prog 9 := string_keyed Try.underlying9
theorem zero_ptr (w : World) : (zeroValue 49).run Try.prog w = .ok (.pointer none) w := by kernel_rfl
theorem key_str {x : List UInt8} (h : x.length ≤ maxLen) : keyOf Try.prog 9 (.string (str x)) = some (.string x) := by
  have h1 : (str x).size ≤ maxLen := by rw [str_size]; exact h
  have h2 : (str x).data.toList = x := str_data x
  simp [keyOf, mapKey, Try.underlying9, h1, h2]

/-! ### the files -/
/-- A file: its box at b, the slice of its bytes. -/
structure FileAt (w : World) (X : Nat → Prop) (b : Nat) (v : Value) (t : List UInt8) (s : Nat) : Prop where
  box : Bk w b 54 #[v, .int .i64 (s : Int)]
  inX : X b
  row : w.ownsRow 0 5 1 v t.length (strCells (str t))
  rowX : ∀ k, v.ownBlock = some k → X k
/-- The map. -/
structure MapIn (w : World) (m : Nat) (F : List Fl) (bx : List UInt8 → Nat) (D : DW) : Prop where
  own : w.ownsMap Try.prog 9 ptrR m 64 D
  has : ∀ x, Maps.has D (.string x) = true ↔ ∃ f ∈ F, f.n = x
  at_ : ∀ f ∈ F, ∀ z, D.atKey (.string f.n) z = ptrD (bx f.n)
def MapAt (w : World) (X : Nat → Prop) (mv : Value) (F : List Fl) (bx : List UInt8 → Nat) : Prop :=
  (mv = .map none ∧ F = []) ∨ ∃ m D, mv = .map (some m) ∧ X m ∧ MapIn w m F bx D
structure DkAt (w : World) (X : Nat → Prop) (d : Nat) (F : List Fl) (left : Int) (off : Bool) (mv : Value) (bx : List UInt8 → Nat) (vl : List UInt8 → Value) : Prop where
  good : GoodF F
  disk : Bk w d 48 #[mv, .int .i64 left, .bool off]
  inX : X d
  map : MapAt w X mv F bx
  file : ∀ f ∈ F, FileAt w X (bx f.n) (vl f.n) f.t f.s
  apart : ∀ f ∈ F, ∀ g ∈ F, f.n ≠ g.n → bx f.n ≠ bx g.n ∧ ∀ k, (vl f.n).ownBlock = some k → (vl g.n).ownBlock ≠ some k
  lt : ∀ k, X k → k < w.heap.size
/-- A disk at d, in blocks of X. -/
def Dk (w : World) (X : Nat → Prop) (d : Nat) (F : List Fl) (left : Int) (off : Bool) : Prop := ∃ mv bx vl, DkAt w X d F left off mv bx vl

section
variable {w w' : World} {X X' Y : Nat → Prop} {d b m : Nat} {v mv : Value} {t : List UInt8} {s : Nat} {F : List Fl} {left : Int} {off : Bool} {bx : List UInt8 → Nat} {vl : List UInt8 → Value} {row : Option Nat} {D : DW}
theorem FileAt.grown (h : FileAt w X b v t s) (hg : w.grownBy w' row) (h1 : some b ≠ row) (h2 : ∀ k, v.ownBlock = some k → row ≠ some k) : FileAt w' X b v t s :=
  ⟨h.box.grown hg h1, h.inX, own_kept0 h.row hg h2, h.rowX⟩
theorem FileAt.mono (h : FileAt w X b v t s) (hx : ∀ k, X k → X' k) : FileAt w X' b v t s := ⟨h.box, hx _ h.inX, h.row, fun k hk => hx k (h.rowX k hk)⟩
theorem MapIn.lt (h : MapIn w m F bx D) : m < w.heap.size := h.own.lt
theorem MapIn.grown (h : MapIn w m F bx D) (hg : w.grownBy w' row) (h1 : some m ≠ row) : MapIn w' m F bx D := ⟨h.own.kept hg h1, h.has, h.at_⟩
theorem MapAt.grown (h : MapAt w X mv F bx) (hg : w.grownBy w' row) (h1 : ∀ m, mv = .map (some m) → some m ≠ row) : MapAt w' X mv F bx := by
  rcases h with h | ⟨m, D, e, hm, hi⟩
  · exact .inl h
  · exact .inr ⟨m, D, e, hm, hi.grown hg (h1 m e)⟩
theorem MapAt.mono (h : MapAt w X mv F bx) (hx : ∀ k, X k → X' k) : MapAt w X' mv F bx := by
  rcases h with h | ⟨m, D, e, hm, hi⟩
  · exact .inl h
  · exact .inr ⟨m, D, e, hx m hm, hi⟩
theorem row_block {base e size n : Nat} {xs : List Value} {k : Nat} (h : w.ownsRow base e size v n xs) (hk : v.ownBlock = some k) : ∃ cs, Bk w k e cs := by
  rcases h.2 with ⟨rfl, _⟩ | ⟨g, cap, cur, rfl, _, hg, _⟩
  · cases hk
  · have : g = k := by simpa [Value.ownBlock] using hk
    subst this
    exact ⟨cur, hg⟩
/-- A map's block is no block of cells. -/
theorem map_ne {g : Nat} {T : TypeId} {cs : Array Value} (h : Bk w g T cs) (hm : w.ownsMap Try.prog 9 ptrR m 64 D) : g ≠ m := by
  obtain ⟨es, c, hb, _⟩ := hm
  exact h.ne_map hb
theorem MapAt.ne {g : Nat} {T : TypeId} {cs : Array Value} (h : MapAt w X mv F bx) (hb : Bk w g T cs) : ∀ m, mv = .map (some m) → some m ≠ some g := fun m e e' => by
  rcases h with ⟨h, _⟩ | ⟨m', D, e2, _, hi⟩
  · rw [h] at e; cases e
  · rw [e2] at e
    injection e with e
    injection e with e
    injection e' with e'
    subst e e'
    exact map_ne hb hi.own rfl
/-- Nothing of it has turned. -/
theorem DkAt.kept (h : DkAt w X d F left off mv bx vl) (hc : Chg Y w w') (hxy : ∀ k, X k → ¬ Y k) : DkAt w' X d F left off mv bx vl := by
  have hg : w.grownBy w' none ∨ True := .inr trivial
  clear hg
  have hrow : ∀ {base e size n : Nat} {u : Value} {xs : List Value}, w.ownsRow base e size u n xs → (∀ k, u.ownBlock = some k → X k) → w'.ownsRow base e size u n xs := fun {base e size n u xs} ho hx => by
    refine ⟨ho.1, ?_⟩
    rcases ho.2 with h2 | ⟨g, cap, cur, rfl, hb, hgg, rest⟩
    · exact .inl h2
    · exact .inr ⟨g, cap, cur, rfl, hb, (hc.block g (Array.getElem?_eq_some_iff.1 hgg).1 (hxy g (hx g rfl))).trans hgg, rest⟩
  refine ⟨h.good, h.disk.chg hc (hxy d h.inX), h.inX, ?_, fun f hf => ?_, h.apart, fun k hk => Nat.lt_of_lt_of_le (h.lt k hk) hc.size⟩
  · rcases h.map with h1 | ⟨m, D, e, hm, hi⟩
    · exact .inl h1
    · refine .inr ⟨m, D, e, hm, ⟨?_, hi.has, hi.at_⟩⟩
      obtain ⟨es, c, hb, r⟩ := hi.own
      exact ⟨es, c, (hc.block m (Array.getElem?_eq_some_iff.1 hb).1 (hxy m hm)).trans hb, r⟩
  · have hf := h.file f hf
    exact ⟨hf.box.chg hc (hxy _ hf.inX), hf.inX, hrow hf.row hf.rowX, hf.rowX⟩
theorem Dk.kept (h : Dk w X d F left off) (hc : Chg Y w w') (hxy : ∀ k, X k → ¬ Y k) : Dk w' X d F left off := by
  obtain ⟨mv, bx, vl, h⟩ := h
  exact ⟨mv, bx, vl, h.kept hc hxy⟩
theorem Dk.below (h : Dk w X d F left off) (hb : Below w.heap.size w w') : Dk w' X d F left off := h.kept (Chg.of_below (X := fun _ => False) hb) fun _ _ h => h
theorem DkAt.below (h : DkAt w X d F left off mv bx vl) (hb : Below w.heap.size w w') : DkAt w' X d F left off mv bx vl := h.kept (Chg.of_below (X := fun _ => False) hb) fun _ _ h => h
theorem Dk.good (h : Dk w X d F left off) : GoodF F := by
  obtain ⟨mv, bx, vl, h⟩ := h
  exact h.good
theorem Dk.inX (h : Dk w X d F left off) : X d := by
  obtain ⟨mv, bx, vl, h⟩ := h
  exact h.inX
theorem Dk.lt (h : Dk w X d F left off) : ∀ k, X k → k < w.heap.size := by
  obtain ⟨mv, bx, vl, h⟩ := h
  exact h.lt
theorem DkAt.mono (h : DkAt w X d F left off mv bx vl) (hx : ∀ k, X k → X' k) (hlt : ∀ k, X' k → k < w.heap.size) : DkAt w X' d F left off mv bx vl :=
  ⟨h.good, h.disk, hx d h.inX, h.map.mono hx, fun f hf => (h.file f hf).mono hx, h.apart, hlt⟩
/-- One of the disk's own two numbers written. -/
theorem DkAt.setLeft (h : DkAt w X d F left off mv bx vl) (l : Int) : DkAt (w.setCell ⟨d, 1, none⟩ (.int .i64 l)) X d F l off mv bx vl := by
  have hg := grown_setCell w d 1 (.int .i64 l)
  refine ⟨h.good, h.disk.put 1 _, h.inX, h.map.grown hg (h.map.ne h.disk), fun f hf => ?_, h.apart, fun k hk => by have := h.lt k hk; simpa [World.setCell] using this⟩
  have hf := h.file f hf
  refine hf.grown hg (fun e => ?_) fun k hk e => ?_
  · injection e with e; exact hf.box.ne h.disk (by decide) e
  · obtain ⟨cs, hb⟩ := row_block hf.row hk
    injection e with e; exact h.disk.ne hb (by decide) e
theorem DkAt.setOff (h : DkAt w X d F left off mv bx vl) (l : Bool) : DkAt (w.setCell ⟨d, 2, none⟩ (.bool l)) X d F left l mv bx vl := by
  have hg := grown_setCell w d 2 (.bool l)
  refine ⟨h.good, h.disk.put 2 _, h.inX, h.map.grown hg (h.map.ne h.disk), fun f hf => ?_, h.apart, fun k hk => by have := h.lt k hk; simpa [World.setCell] using this⟩
  have hf := h.file f hf
  refine hf.grown hg (fun e => ?_) fun k hk e => ?_
  · injection e with e; exact hf.box.ne h.disk (by decide) e
  · obtain ⟨cs, hb⟩ := row_block hf.row hk
    injection e with e; exact h.disk.ne hb (by decide) e
end
end Go.Proofs.Ytgimecgdfcckbaa.Dsk
