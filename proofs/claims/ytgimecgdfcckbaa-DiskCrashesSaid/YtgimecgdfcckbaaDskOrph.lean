/- A disk's files in memory, and one more that has no name yet; a file laid under a name; bytes behind a row, and where they lie. -/
import Derived.Test.YtgimecgdfcckbaaDskLay
namespace Go.Proofs.Ytgimecgdfcckbaa.Dsk
open Go.RowKit Go.Lib Go.Maps

/-! ### append of a text, and where the new row lies -/
theorem append_lies {P : Program} (w : World) (base : Nat) (t u ty e : TypeId) (i : TypeInfo) (ht : P.underlying t = some (.slice e)) (hu : P.underlying u = some .string) (hi : P.info? e = some i) (hz : i.zero = some (.int .u8 0))
    (hsize : i.size = 1) (hby : i.bytes = 1) (v : Value) (n : Nat) (xs : List Value) (hown : w.ownsRow base e 1 v n xs) (s : ByteArray) (h63 : n + s.size ≤ maxLen) (hbytes : n + s.size ≤ 140737488355328)
    {v' : Value} {w' : World} (hr : (Builtin.append_ #[t, u] ty #[v, .string s]).run P w = .ok v' w') : v'.ownBlock = v.ownBlock ∨ v'.ownBlock = some w.heap.size := by
  have hsmall : n + s.size ≤ 9223372036854775807 := by simp only [maxLen] at h63; omega
  have hxl : xs.length = n := by simpa using hown.1
  rcases hown.2 with ⟨rfl, rfl⟩ | ⟨g, cap, cur, rfl, hbg, hg, hnc, hcm, hcs, htake⟩
  · by_cases hm : s.size = 0
    · have hf := run_firstCells_string (P := P) w 1 s
      rw [hm] at hf
      have hn : strCells s = [] := List.eq_nil_of_length_eq_zero (by rw [strCells_length]; exact hm)
      have hr2 : (Builtin.append_ #[t, u] ty #[.slice none 0 0, .string s]).run P w = .ok (.slice none 0 0) w := by
        simp [Builtin.append_, run_underlying ht, run_underlying hu, sizeOf, typeInfo, hi, hsize, Builtin.lenOf, hm, hf]
      rw [hr] at hr2
      cases hr2
      exact .inl rfl
    · have hr2 := run_append_nil_string (P := P) w t u ty e i (.int .u8 0) ht hu hi hz s (by omega) (by omega) (by rw [hby]; omega)
      rw [hr] at hr2
      cases hr2
      exact .inr rfl
  · by_cases hroom : n + s.size ≤ cap
    · have hcs' : cur.size = cap := by simpa using hcs
      have hr2 := run_append_room_string (P := P) w t u ty e i ht hu hi hsize g n cap cur hg s hroom (by omega)
      rw [hr] at hr2
      cases hr2
      exact .inl rfl
    · have holds : ∀ j u, xs[j]? = some u → w.cell? ((⟨g, 0, none⟩ : Addr).add j) = some u := hown.cells (g := g) rfl
      have hr2 := run_append_grow_string (P := P) w t u ty e i (.int .u8 0) ht hu hi hz ⟨g, 0, none⟩ n cap xs (by rw [hsize]; simpa using hxl) holds s (by omega) (by omega) (by rw [hby]; exact growslice_fits (by omega) (by omega))
      rw [hr] at hr2
      cases hr2
      exact .inr rfl
/-- At the operation, for the walk. -/
theorem wpList_append_str {P : Program} {w : World} {ops : Array Oper} {rest : List Oper} {o : Oper} {a : Act} {Q : Exit → Act → World → Prop} (hgd : o.guard = none) (sl x : Operand) (t u : TypeId)
    (ho : o.op = .call { callee := .builtin .append, args := #[sl, x], argTypes := #[t, u] })
    (base : Nat) (e : TypeId) (i : TypeInfo) (ht : P.underlying t = some (.slice e)) (hu : P.underlying u = some .string) (hi : P.info? e = some i) (hz : i.zero = some (.int .u8 0))
    (hsize : i.size = 1) (hby : i.bytes = 1) (v : Value) (n : Nat) (xs : List Value) (hs : a.eval sl = v) (hown : w.ownsRow base e 1 v n xs) (s : ByteArray) (hx : a.eval x = .string s)
    (h63 : n + s.size ≤ maxLen) (hbytes : n + s.size ≤ 140737488355328) (hbase : base ≤ w.heap.size)
    (h : ∀ v' w', w'.ownsRow base e 1 v' (n + s.size) (xs ++ strCells s) → w.grownBy w' v.ownBlock → (v'.ownBlock = v.ownBlock ∨ v'.ownBlock = some w.heap.size) → wpList P ops Q rest (a.put o.dst v') w') : wpList P ops Q (o :: rest) a w := by
  refine wpList_plain hgd fun K hK => ?_
  obtain ⟨v', w', hr, h2, h3, _⟩ := run_append_own_string (P := P) w base t u o.type e i ht hu hi hz hsize hby v n xs hown s h63 hbytes hbase
  have h4 := append_lies w base t u o.type e i ht hu hi hz hsize hby v n xs hown s h63 hbytes hr
  unfold Oper.wp execOp
  simp only [ho, resolve, invoke, builtin, Sem.run_bind, Sem.run_pure, Result.andThen_ok, List.map_toArray, List.map_cons, List.map_nil, hs, hx, hr]
  exact hK _ _ (h v' w' h2 h3 h4)

/-! ### files, and one more -/
/-- Files, and one at b that has no name yet. -/
structure Orph (w : World) (X : Nat → Prop) (F : List Fl) (bx : List UInt8 → Nat) (vl : List UInt8 → Value) (b : Nat) (v : Value) (t : List UInt8) (s : Nat) : Prop where
  file : ∀ f ∈ F, FileAt w X (bx f.n) (vl f.n) f.t f.s
  apart : ∀ f ∈ F, ∀ g ∈ F, f.n ≠ g.n → bx f.n ≠ bx g.n ∧ ∀ k, (vl f.n).ownBlock = some k → (vl g.n).ownBlock ≠ some k
  me : FileAt w X b v t s
  far : ∀ f ∈ F, bx f.n ≠ b ∧ ∀ k, (vl f.n).ownBlock = some k → v.ownBlock ≠ some k
section
variable {w w' w3 : World} {X X' : Nat → Prop} {F G : List Fl} {bx : List UInt8 → Nat} {vl : List UInt8 → Value} {b d : Nat} {v v' mv mv' : Value} {t t' : List UInt8} {s s' : Nat} {l : Int} {off : Bool} {row : Option Nat}
theorem FileAt.lt (h : FileAt w X b v t s) : b < w.heap.size := h.box.lt
theorem FileAt.rowLt (h : FileAt w X b v t s) : ∀ k, v.ownBlock = some k → k < w.heap.size := fun k hk => by
  obtain ⟨cs, hb⟩ := row_block h.row hk
  exact hb.lt
theorem FileAt.cut (h : FileAt w X b v t s) : FileAt w (fun k => X k ∧ k < w.heap.size) b v t s := ⟨h.box, ⟨h.inX, h.lt⟩, h.row, fun k hk => ⟨h.rowX k hk, h.rowLt k hk⟩⟩
theorem FileAt.row_ne (h : FileAt w X b v t s) {g : Nat} {T : TypeId} {cs : Array Value} (hb : Bk w g T cs) (hT : T ≠ 5) : ∀ k, v.ownBlock = some k → k ≠ g := fun k hk => by
  obtain ⟨cs', hb'⟩ := row_block h.row hk
  exact hb'.ne hb (Ne.symm hT)
theorem Orph.below (h : Orph w X F bx vl b v t s) (hb : Below w.heap.size w w') : Orph w' X F bx vl b v t s :=
  ⟨fun f hf => (h.file f hf).grown (grown_of_below hb) (by simp) (fun _ _ => by simp), h.apart, h.me.grown (grown_of_below hb) (by simp) (fun _ _ => by simp), h.far⟩
theorem Orph.mono (h : Orph w X F bx vl b v t s) (hx : ∀ k, X k → X' k) : Orph w X' F bx vl b v t s := ⟨fun f hf => (h.file f hf).mono hx, h.apart, h.me.mono hx, h.far⟩
/-- The one file's row written and its box with it: the others stay. -/
theorem Orph.append (h : Orph w X F bx vl b v t s) (hg : w.grownBy w3 v.ownBlock) (ho : w3.ownsRow 0 5 1 v' t'.length (strCells (str t'))) (hl : v'.ownBlock = v.ownBlock ∨ v'.ownBlock = some w.heap.size) (hx : X w.heap.size) :
    Orph (w3.setCell ⟨b, 0, none⟩ v') X F bx vl b v' t' s := by
  have hme : Bk w3 b 54 #[v, .int .i64 (s : Int)] := h.me.box.grown hg (fun e => by
    obtain ⟨cs, hb⟩ := row_block h.me.row e.symm
    exact h.me.box.ne hb (by decide) rfl)
  have hg2 := grown_setCell w3 b 0 v'
  have hnew : ∀ k, v'.ownBlock = some k → v.ownBlock = some k ∨ k = w.heap.size := fun k hk => by
    rcases hl with e | e
    · left; rw [← e]; exact hk
    · right; rw [e] at hk; injection hk with hk; exact hk.symm
  refine ⟨fun f hf => ?_, h.apart, ⟨by simpa using hme.put 0 v', h.me.inX, ?_, fun k hk => ?_⟩, fun f hf => ⟨(h.far f hf).1, fun k hk e => ?_⟩⟩
  · have hfl := h.file f hf
    obtain ⟨h1, h2⟩ := h.far f hf
    refine (hfl.grown hg (fun e => ?_) (fun k hk e => h2 k hk e)).grown hg2 (fun e => ?_) (fun k hk e => ?_)
    · obtain ⟨cs, hb⟩ := row_block h.me.row e.symm
      exact hfl.box.ne hb (by decide) rfl
    · injection e with e; exact h1 e
    · injection e with e
      exact (hfl.row_ne h.me.box (by decide) k hk) e.symm
  · refine own_kept0 ho hg2 (fun k hk e => ?_)
    injection e with e
    subst e
    obtain ⟨cs, hb⟩ := row_block ho hk
    exact hme.ne hb (by decide) rfl
  · rcases hnew k hk with e | e
    · exact h.me.rowX k e
    · rw [e]; exact hx
  · rcases hnew k e with e2 | e2
    · exact (h.far f hf).2 k hk e2
    · have := (h.file f hf).rowLt k hk
      omega
/-- Behind lay a file is as it was. -/
theorem FileAt.laid {bx' : List UInt8 → Nat} (h : FileAt w X b v t s) (hL : Laid w w' d l off mv mv' bx' G) (hd : Bk w d 48 #[mv, .int .i64 l, .bool off]) (hm : MapAt w X mv F bx) : FileAt w' X b v t s := by
  have hcell : ∀ k T cs, Bk w k T cs → T ≠ 48 → w'.heap[k]? = w.heap[k]? := fun k T cs hk hT =>
    hL.block k hk.lt (hk.ne hd hT) (fun e => hm.ne hk k e rfl)
  refine ⟨(hcell b _ _ h.box (by decide)).trans h.box, h.inX, ⟨h.row.1, ?_⟩, h.rowX⟩
  rcases h.row.2 with h2 | ⟨g, cap, cur, rfl, hb, hgg, rest⟩
  · exact .inl h2
  · exact .inr ⟨g, cap, cur, rfl, hb, (hcell g 5 cur hgg (by decide)).trans hgg, rest⟩
end
/-- What lay leaves is a disk. -/
theorem dk_laid {w w' w0 : World} {X : Nat → Prop} {F0 F : List Fl} {bx bx0 bx' : List UInt8 → Nat} {vl vl' : List UInt8 → Value} {b d : Nat} {v mv mv' : Value} {n t : List UInt8} {s : Nat} {l : Int} {off : Bool}
    (ho : Orph w (fun k => X k ∨ w0.heap.size ≤ k) F bx vl b v t s) (hd : Bk w d 48 #[mv, .int .i64 l, .bool off]) (hX : X d) (hm : MapAt w (fun k => X k ∨ w0.heap.size ≤ k) mv F0 bx0)
    (hL : Laid w w' d l off mv mv' bx' (put F ⟨n, t, s⟩)) (hb : bx' n = b) (hbx : ∀ x, x ≠ n → bx' x = bx x) (hv : vl' n = v) (hvl : ∀ x, x ≠ n → vl' x = vl x) (hn : ∀ f ∈ F, f.n ≠ n) (hg : GoodF (put F ⟨n, t, s⟩)) (h0 : w0.heap.size ≤ w.heap.size) :
    DkAt w' (fun k => (X k ∨ w0.heap.size ≤ k) ∧ k < w'.heap.size) d (put F ⟨n, t, s⟩) l off mv' bx' vl' := by
  have key : ∀ f ∈ put F ⟨n, t, s⟩, FileAt w' (fun k => X k ∨ w0.heap.size ≤ k) (bx' f.n) (vl' f.n) f.t f.s := fun f hf => by
    rcases mem_put.1 hf with rfl | hf
    · rw [hb, hv]
      exact ho.me.laid hL hd hm
    · rw [hbx _ (hn f hf), hvl _ (hn f hf)]
      exact (ho.file f hf).laid hL hd hm
  refine ⟨hg, hL.disk, ⟨.inl hX, hL.disk.lt⟩, ?_, fun f hf => (key f hf).cut, fun f hf g hgm hne => ?_, fun k hk => hk.2⟩
  · obtain ⟨m, D, e, hwh, hi⟩ := hL.map
    refine .inr ⟨m, D, e, ⟨?_, hi.lt⟩, hi⟩
    rcases hwh with e2 | e2
    · rcases hm with ⟨e3, _⟩ | ⟨m', D', e3, hxm, _⟩
      · rw [e2, e] at e3; cases e3
      · rw [e2, e] at e3
        injection e3 with e3
        injection e3 with e3
        rw [e3]; exact hxm
    · exact .inr (Nat.le_trans h0 e2)
  · rcases mem_put.1 hf with rfl | hf
    · rcases mem_put.1 hgm with rfl | hgm
      · exact absurd rfl hne
      · obtain ⟨h1, h2⟩ := ho.far g hgm
        rw [hb, hv, hbx _ (hn g hgm), hvl _ (hn g hgm)]
        exact ⟨fun e => h1 e.symm, fun k hk e => h2 k e hk⟩
    · rcases mem_put.1 hgm with rfl | hgm
      · obtain ⟨h1, h2⟩ := ho.far f hf
        rw [hb, hv, hbx _ (hn f hf), hvl _ (hn f hf)]
        exact ⟨h1, fun k hk => h2 k hk⟩
      · rw [hbx _ (hn f hf), hvl _ (hn f hf), hbx _ (hn g hgm), hvl _ (hn g hgm)]
        exact ho.apart f hf g hgm hne
/-- Edited is: taken out, and put back otherwise. -/
theorem put_rm {F : List Fl} (hs : Sorted F) {f : Fl} (hf : f ∈ F) (t : List UInt8) (s : Nat) : put (rm F f.n) ⟨f.n, t, s⟩ = edit F f.n fun g => ⟨g.n, t, s⟩ := by
  induction F with
  | nil => cases hf
  | cons a r ih =>
    obtain ⟨h1, h2⟩ := List.pairwise_cons.1 hs
    rcases List.mem_cons.1 hf with e | hf'
    · subst e
      have hr : rm r f.n = r := by
        unfold rm
        rw [List.filter_eq_self]
        intro g hg
        simpa using (lt_ne (h1 g hg)).symm
      have e1 : rm (f :: r) f.n = r := by
        show List.filter _ (f :: r) = r
        rw [List.filter_cons, if_neg (by simp)]
        exact hr
      rw [e1, edit_cons, if_pos rfl, edit_out (fun g hg => (lt_ne (h1 g hg)).symm)]
      cases r with
      | nil => rfl
      | cons c q => unfold put; rw [if_neg (fun h => List.lt_irrefl _ (List.lt_trans (h1 c (by simp)) h))]
    · have hlt := h1 f hf'
      have e1 : rm (a :: r) f.n = a :: rm r f.n := by
        show List.filter _ (a :: r) = _
        rw [List.filter_cons, if_pos (by simpa using lt_ne hlt)]; rfl
      rw [e1, edit_cons, if_neg (lt_ne hlt)]
      unfold put
      rw [if_pos hlt, ih h2 hf']
theorem edit_congr {F : List Fl} {n : List UInt8} {h h' : Fl → Fl} (he : ∀ f ∈ F, f.n = n → h f = h' f) : edit F n h = edit F n h' := by
  unfold edit
  refine List.map_congr_left fun f hf => ?_
  split
  · exact he f hf (by assumption)
  · rfl
end Go.Proofs.Ytgimecgdfcckbaa.Dsk
