/- The document's own disk in memory: its box, a row of files; rows of three cells. -/
import Derived.Test.YtgimecgdfcckbaaDskAt
import Derived.StillTailTactics
import Derived.Deep.MidRow
import Derived.Sort.Walk0
namespace Go.Proofs.Ytgimecgdfcckbaa.Dsk
open Go.RowKit Go.Lib Go.Maps

/-! ### plain -/
theorem at_edit {F : List Fl} (hs : Sorted F) {i : Nat} (hi : i < F.length) (h : Fl → Fl) : edit F F[i].n h = F.set i (h F[i]) := by
  induction F generalizing i with
  | nil => simp at hi
  | cons a r ih =>
    obtain ⟨h1, h2⟩ := List.pairwise_cons.1 hs
    cases i with
    | zero =>
      rw [edit_cons]
      simp only [List.getElem_cons_zero, List.set_cons_zero]
      rw [if_pos trivial, edit_out (fun g hg => (lt_ne (h1 g hg)).symm)]
    | succ m =>
      have hm : m < r.length := by simpa using hi
      have hne : a.n ≠ r[m].n := lt_ne (h1 _ (List.getElem_mem hm))
      rw [edit_cons]
      simp only [List.getElem_cons_succ, List.set_cons_succ]
      rw [if_neg hne, ih h2 hm]
theorem at_rm {F : List Fl} (hs : Sorted F) {i : Nat} (hi : i < F.length) : rm F F[i].n = F.eraseIdx i := by
  induction F generalizing i with
  | nil => simp at hi
  | cons a r ih =>
    obtain ⟨h1, h2⟩ := List.pairwise_cons.1 hs
    cases i with
    | zero =>
      show List.filter _ (a :: r) = r
      rw [List.filter_cons, if_neg (by simp)]
      rw [List.filter_eq_self]
      intro g hg
      simpa using (lt_ne (h1 g hg)).symm
    | succ m =>
      have hm : m < r.length := by simpa using hi
      have hne : a.n ≠ r[m].n := lt_ne (h1 _ (List.getElem_mem hm))
      show List.filter _ (a :: r) = a :: r.eraseIdx m
      rw [List.filter_cons, if_pos (by simpa using hne)]
      congr 1
      exact ih h2 hm
/-- Where one more goes. -/
theorem put_at {F : List Fl} {f : Fl} {a : Nat} (ha : a ≤ F.length) (h1 : ∀ j (h : j < F.length), j < a → F[j].n < f.n) (h2 : ∀ h : a < F.length, ¬ F[a].n < f.n) : put F f = F.take a ++ f :: F.drop a := by
  induction F generalizing a with
  | nil =>
    obtain rfl : a = 0 := by simpa using ha
    rfl
  | cons b r ih =>
    cases a with
    | zero =>
      have := h2 (by simp)
      unfold put
      rw [if_neg (by simpa using this)]
      rfl
    | succ m =>
      have h0 := h1 0 (by simp) (by omega)
      unfold put
      rw [if_pos (by simpa using h0), ih (a := m) (by simpa using ha) (fun j h hj => by have := h1 (j + 1) (by simpa using h) (by omega); simpa using this) (fun h => by have := h2 (by simpa using h); simpa using this)]
      rfl
def rcells (f : Fl) : List Value := [.string (str f.n), .string (str f.t), .int .i64 (f.s : Int)]
def rflat (F : List Fl) : List Value := F.flatMap rcells
theorem rflat_cons (f : Fl) (F : List Fl) : rflat (f :: F) = rcells f ++ rflat F := by unfold rflat; rw [List.flatMap_cons]
theorem rflat_app (F G : List Fl) : rflat (F ++ G) = rflat F ++ rflat G := by unfold rflat; rw [List.flatMap_append]
theorem rflat_len (F : List Fl) : (rflat F).length = F.length * 3 := by
  induction F with
  | nil => rfl
  | cons p t ih => rw [rflat_cons, List.length_append, ih]; show 3 + _ = (t.length + 1) * 3; omega
theorem rflat_at (F : List Fl) (j i : Nat) (hj : j < F.length) (hi : i < 3) : (rflat F)[j * 3 + i]? = (rcells F[j])[i]? := by
  induction F generalizing j with
  | nil => simp at hj
  | cons p t ih =>
    rw [rflat_cons]
    cases j with
    | zero =>
      rw [List.getElem?_append_left (by show _ < 3; omega)]
      simp
    | succ m =>
      rw [List.getElem?_append_right (by show 3 ≤ _; omega)]
      have : (m + 1) * 3 + i - (rcells p).length = m * 3 + i := by show _ - 3 = _; omega
      rw [this]
      exact ih m (by simpa using hj)
theorem rflat_set (F : List Fl) (j i : Nat) (hj : j < F.length) (hi : i < 3) (v : Value) (f : Fl) (hf : (rcells F[j]).set i v = rcells f) : (rflat F).set (j * 3 + i) v = rflat (F.set j f) := by
  induction F generalizing j with
  | nil => simp at hj
  | cons p t ih =>
    rw [rflat_cons]
    cases j with
    | zero =>
      rw [List.set_append_left _ _ (by show _ < 3; omega), List.set_cons_zero, rflat_cons]
      congr 1
      simpa using hf
    | succ m =>
      rw [List.set_append_right _ _ (by show 3 ≤ _; omega), List.set_cons_succ, rflat_cons]
      have : (m + 1) * 3 + i - (rcells p).length = m * 3 + i := by show _ - 3 = _; omega
      rw [this, ih m (by simpa using hj) (by simpa using hf)]
theorem rflat_one (F : List Fl) : ∀ u ∈ rflat F, u.oneCell' = true := fun u hu => by
  obtain ⟨f, _, hf⟩ := List.mem_flatMap.1 hu
  have : (rcells f).all (fun u => u.oneCell') = true := rfl
  exact List.all_eq_true.1 this u hf
theorem less_is (a b : List UInt8) : Go.Op.bytesLess (str a).toList (str b).toList = decide (a < b) := by
  rw [str_toList, str_toList, Proofs.bytesLess_eq]

/-! ### memory -/
structure RkAt (w : World) (Y : Nat → Prop) (r : Nat) (F : List Fl) (A : Option Addr) (c : Nat) : Prop where
  box : Bk w r 86 #[.slice A F.length c, .int .i64 0, .bool false, .bool false]
  inY : Y r
  row : w.ownsRow 0 89 3 (.slice A F.length c) F.length (rflat F)
  rowY : ∀ a, A = some a → Y a.block
  lt : ∀ k, Y k → k < w.heap.size
def Rk (w : World) (Y : Nat → Prop) (r : Nat) (F : List Fl) : Prop := ∃ A c, RkAt w Y r F A c
section
variable {w w' : World} {X Y Y' : Nat → Prop} {r : Nat} {F : List Fl} {A : Option Addr} {c : Nat}
theorem RkAt.kept (h : RkAt w Y r F A c) (hc : Chg X w w') (hxy : ∀ k, Y k → ¬ X k) : RkAt w' Y r F A c := by
  refine ⟨h.box.chg hc (hxy r h.inY), h.inY, ⟨h.row.1, ?_⟩, h.rowY, fun k hk => Nat.lt_of_lt_of_le (h.lt k hk) hc.size⟩
  rcases h.row.2 with h2 | ⟨g, cap, cur, e, hb, hgg, rest⟩
  · exact .inl h2
  · have hA := h.rowY
    injection e with e1 e2 e3
    subst e1 e3
    exact .inr ⟨g, c, cur, rfl, hb, (hc.block g (Array.getElem?_eq_some_iff.1 hgg).1 (hxy g (hA _ rfl))).trans hgg, rest⟩
theorem Rk.kept (h : Rk w Y r F) (hc : Chg X w w') (hxy : ∀ k, Y k → ¬ X k) : Rk w' Y r F := by
  obtain ⟨A, c, h⟩ := h
  exact ⟨A, c, h.kept hc hxy⟩
theorem RkAt.below (h : RkAt w Y r F A c) (hb : Below w.heap.size w w') : RkAt w' Y r F A c := h.kept (Chg.of_below (X := fun _ => False) hb) fun _ _ h => h
theorem Rk.below (h : Rk w Y r F) (hb : Below w.heap.size w w') : Rk w' Y r F := h.kept (Chg.of_below (X := fun _ => False) hb) fun _ _ h => h
theorem Rk.lt (h : Rk w Y r F) : ∀ k, Y k → k < w.heap.size := by
  obtain ⟨A, c, h⟩ := h
  exact h.lt
theorem Rk.inY (h : Rk w Y r F) : Y r := by
  obtain ⟨A, c, h⟩ := h
  exact h.inY
/-- The files' cells. -/
theorem RkAt.addr (h : RkAt w Y r F A c) (hl : 0 < F.length) : ∃ g, A = some ⟨g, 0, none⟩ ∧ Y g ∧ g < w.heap.size ∧ g ≠ r ∧ ∀ j, w.frozen? ⟨g, j, none⟩ = false := by
  rcases h.row.2 with ⟨_, h0⟩ | ⟨g, cap, cur, hv, _, hg, _⟩
  · omega
  · injection hv with h1
    subst h1
    refine ⟨g, rfl, h.rowY _ rfl, (Array.getElem?_eq_some_iff.1 hg).1, fun e => ?_, fun j => h.row.frozenAt j⟩
    subst e
    have hb := h.box
    unfold Bk at hb
    rw [hg] at hb
    cases hb
theorem RkAt.at_ {g : Nat} (h : RkAt w Y r F (some ⟨g, 0, none⟩) c) {j : Nat} (hj : j < F.length) :
    w.cell? ⟨g, j * 3, none⟩ = some (.string (str F[j].n)) ∧ w.cell? ⟨g, j * 3 + 1, none⟩ = some (.string (str F[j].t)) ∧ w.cell? ⟨g, j * 3 + 2, none⟩ = some (.int .i64 (F[j].s : Int)) := by
  have k0 := rflat_at F j 0 hj (by omega)
  have k1 := rflat_at F j 1 hj (by omega)
  have k2 := rflat_at F j 2 hj (by omega)
  refine ⟨?_, ?_, ?_⟩
  · rw [h.row.cellAt _ (by omega)]; exact k0
  · rw [h.row.cellAt _ (by omega)]; exact k1
  · rw [h.row.cellAt _ (by omega)]; exact k2
/-- A cell of one file written. -/
theorem RkAt.set {g : Nat} (h : RkAt w Y r F (some ⟨g, 0, none⟩) c) {j i : Nat} (hj : j < F.length) (hi : i < 3) (v : Value) (f : Fl) (hf : (rcells F[j]).set i v = rcells f) : RkAt (w.setCell ⟨g, j * 3 + i, none⟩ v) Y r (F.set j f) (some ⟨g, 0, none⟩) c := by
  obtain ⟨g', e, hY, hgl, hgr, _⟩ := h.addr (by omega)
  injection e with e
  injection e with e
  subst e
  obtain ⟨h1, h2⟩ := h.row.stored (j * 3 + i) v
  rw [rflat_set F j i hj hi v f hf] at h1
  have hb := h.box.grown h2 (fun e => by injection e with e; exact hgr e.symm)
  refine ⟨by rw [List.length_set]; exact hb, h.inY, by rw [List.length_set]; exact h1, h.rowY, fun k hk => ?_⟩
  have := h.lt k hk
  have h3 := h2.size
  omega
end
/-- A disk of the document's behind a call that may have made memory. -/
def RThen (Y : Nat → Prop) (w w' : World) (r : Nat) (F : List Fl) : Prop := ∃ Y', Rk w' Y' r F ∧ Chg Y w w' ∧ ∀ k, Y' k → Y k ∨ w.heap.size ≤ k
theorem rthen_same {Y : Nat → Prop} {w w' : World} {r : Nat} {F : List Fl} (h : Rk w' Y r F) (hc : Chg Y w w') : RThen Y w w' r F := ⟨Y, h, hc, fun _ hk => .inl hk⟩
end Go.Proofs.Ytgimecgdfcckbaa.Dsk
