/- Rows of packets: in memory, of a call's own, appended. -/
import Derived.Test.YtiancngpknnkaaaF14
import Derived.Test.YtiancngpknnkaaaF18
namespace Go.Proofs.Ytiancngpknnkaaa
open Go.RowKit Go.Lib Prp Pkt

/-! ### the cells of packets -/
def flatK : List Pk → List Ad → List Value
  | p :: l, a :: ads => (pkArr p a).toList ++ flatK l ads
  | _, _ => []
theorem pk_len (p : Pk) (a : Ad) : (pkArr p a).toList.length = 25 := rfl
theorem flatK_len : ∀ (l : List Pk) (ads : List Ad), ads.length = l.length → (flatK l ads).length = l.length * 25
  | [], [], _ => rfl
  | p :: l, a :: ads, h => by
    show ((pkArr p a).toList ++ flatK l ads).length = (l.length + 1) * 25
    rw [List.length_append, pk_len, flatK_len l ads (by simpa using h)]
    omega
  | [], _ :: _, h => by simp at h
  | _ :: _, [], h => by simp at h
theorem flatK_app : ∀ (l : List Pk) (ads : List Ad) (m : List Pk) (bs : List Ad), ads.length = l.length → flatK (l ++ m) (ads ++ bs) = flatK l ads ++ flatK m bs
  | [], [], _, _, _ => rfl
  | p :: l, a :: ads, m, bs, h => by
    show (pkArr p a).toList ++ flatK (l ++ m) (ads ++ bs) = ((pkArr p a).toList ++ flatK l ads) ++ flatK m bs
    rw [flatK_app l ads m bs (by simpa using h), List.append_assoc]
  | [], _ :: _, _, _, h => by simp at h
  | _ :: _, [], _, _, h => by simp at h
theorem flatK_at : ∀ (l : List Pk) (ads : List Ad) (j i : Nat) (h1 : j < l.length) (h2 : j < ads.length), i < 25 → (flatK l ads)[j * 25 + i]? = (pkArr l[j] ads[j])[i]?
  | [], _, j, _, h, _, _ => by simp at h
  | _ :: _, [], j, _, _, h, _ => by simp at h
  | p :: l, a :: ads, 0, i, _, _, hi => by
    show ((pkArr p a).toList ++ flatK l ads)[0 * 25 + i]? = (pkArr p a)[i]?
    rw [Nat.zero_mul, Nat.zero_add, List.getElem?_append_left (by rw [pk_len]; exact hi), Array.getElem?_toList]
  | p :: l, a :: ads, j + 1, i, h1, h2, hi => by
    have k1 : j < l.length := by simpa using h1
    have k2 : j < ads.length := by simpa using h2
    show ((pkArr p a).toList ++ flatK l ads)[(j + 1) * 25 + i]? = (pkArr (l[j]'k1) (ads[j]'k2))[i]?
    rw [List.getElem?_append_right (by rw [pk_len]; omega), pk_len, show (j + 1) * 25 + i - 25 = j * 25 + i by omega]
    exact flatK_at l ads j i k1 k2 hi
theorem flatK_one : ∀ (l : List Pk) (ads : List Ad), ∀ u ∈ flatK l ads, u.oneCell' = true
  | [], _, u, h => by simp [flatK] at h
  | _ :: _, [], u, h => by simp [flatK] at h
  | p :: l, a :: ads, u, h => by
    rcases List.mem_append.1 (show u ∈ (pkArr p a).toList ++ flatK l ads from h) with h | h
    · have := one_pk p a
      rw [Array.all_eq_true'] at this
      exact this u (by simpa using h)
    · exact flatK_one l ads u h
/-! ### an append: where the row lies then -/
theorem run_append_where {P : Program} (w : World) (base : Nat) (t ty e : TypeId) (i : TypeInfo) (z : Value) (size bytes : Nat) (ht : P.underlying t = some (.slice e)) (hi : P.info? e = some i) (hz : i.zero = some z)
    (hsize : i.size = size) (hby : i.bytes = bytes) (hzs : z.cells.size = size) (hsz : 0 < size)
    (v : Value) (n : Nat) (xs : List Value) (hown : w.ownsRow base e size v n xs)
    (a : Addr) (m c : Nat) (news : List Value) (hl : news.length = m * size) (hnews : ∀ j u, news[j]? = some u → w.cell? (a.add j) = some u) (h1 : ∀ u ∈ news, u.oneCell' = true)
    (h63 : n + m ≤ maxLen) (hbytes : (n + m) * bytes ≤ 140737488355328) (hbase : base ≤ w.heap.size) :
    ∃ v' w', (Builtin.append_ #[t, t] ty #[v, .slice (some a) m c]).run P w = .ok v' w' ∧ w'.ownsRow base e size v' (n + m) (xs ++ news) ∧ w.grownBy w' v.ownBlock ∧ (v'.ownBlock = v.ownBlock ∨ ∀ k, v'.ownBlock = some k → w.heap.size ≤ k) := by
  obtain ⟨v', w', hr, h2, h3, _⟩ := run_append_own (P := P) w base t ty e i z size bytes ht hi hz hsize hby hzs hsz v n xs hown a m c news hl hnews h1 h63 hbytes hbase
  refine ⟨v', w', hr, h2, h3, ?_⟩
  rcases hown.2 with ⟨rfl, rfl⟩ | ⟨g, cap, cur, rfl, hbg, hg, hnc, hcm, hcs, htake⟩
  · right
    obtain ⟨v2, w2, hr2, k2, _, _⟩ := run_append_own (P := P) w w.heap.size t ty e i z size bytes ht hi hz hsize hby hzs hsz (.slice none 0 0) 0 xs ⟨hown.1, .inl ⟨rfl, rfl⟩⟩ a m c news hl hnews h1 h63 hbytes (Nat.le_refl _)
    rw [hr] at hr2
    injection hr2 with e1 e2
    subst e1
    exact fun k hk => (k2.lt k hk).1
  · subst hsize
    subst hby
    by_cases hroom : n + m ≤ cap
    · left
      have hfit : n * i.size + news.length ≤ cur.size := by rw [hl, hcs, ← Nat.add_mul]; exact Nat.mul_le_mul_right _ hroom
      have hr2 := run_append_room (P := P) w t ty e i ht hi g n cap cur hg a m c news hl hnews h1 hroom hfit
      rw [hr] at hr2
      injection hr2 with e1 e2
      rw [e1]
      rfl
    · right
      have hsmall : n + m ≤ 9223372036854775807 := by simp only [maxLen] at h63; omega
      have holds : ∀ j u, xs[j]? = some u → w.cell? ((⟨g, 0, none⟩ : Addr).add j) = some u := hown.cells (g := g) rfl
      have hr2 := run_append_grow (P := P) w t ty e i z ht hi hz ⟨g, 0, none⟩ n cap xs hown.1 holds a m c news hl hnews (by omega) (by omega) (growslice_fits (by omega) hbytes)
      rw [hr] at hr2
      injection hr2 with e1 e2
      rw [e1]
      intro k hk
      injection hk with hk
      rw [← hk]
      exact Nat.le_refl _
/-! ### rows of packets -/
/-- What a packet has in its slices lies in no cell of block g. -/
structure POff (g : Nat) (p : Pk) (a : Ad) : Prop where
  cs : p.cs = [] ∨ Off g a.ca
  fs : p.fs = [] ∨ Off g a.fa
  ws : p.w.ps = [] ∨ Off g a.wa
  ps : p.ps = [] ∨ Off g a.pa
section
variable {w w' : World} {g B : Nat} {p : Pk} {a : Ad}
theorem POff.of_new (h : PkNew B a) (hg : g < B) : POff g p a := ⟨.inr (h.ca.off hg), .inr (h.fa.off hg), .inr (h.wa.off hg), .inr (h.pa.off hg)⟩
theorem POff.of_at (h : PkAt w B p a) (hg : B ≤ g) : POff g p a := by
  refine ⟨?_, ?_, ?_, ?_⟩
  · rcases h.cs with h | ⟨x, h1, h2, _⟩
    · exact .inl h
    · exact .inr fun y hy => by rw [h1] at hy; injection hy with hy; rw [← hy]; omega
  · rcases h.fs with h | ⟨b, o, h1, h2, _⟩
    · exact .inl h
    · exact .inr fun y hy => by rw [h1] at hy; injection hy with hy; rw [← hy]; show b ≠ g; omega
  · rcases h.ws with h | ⟨b, o, h1, h2, _⟩
    · exact .inl h
    · exact .inr fun y hy => by rw [h1] at hy; injection hy with hy; rw [← hy]; show b ≠ g; omega
  · rcases h.ps with h | ⟨b, o, h1, h2, _⟩
    · exact .inl h
    · exact .inr fun y hy => by rw [h1] at hy; injection hy with hy; rw [← hy]; show b ≠ g; omega
theorem pk_bar2 (h : PkAt w w.heap.size p a) (ho : POff g p a) (hb : Bar g w w') : PkAt w' w'.heap.size p a := by
  refine PkAt.mono (B := w.heap.size) ⟨?_, ?_, ?_, ?_⟩ hb.size
  · rcases ho.cs with e | e
    · exact .inl e
    · exact nums_bar h.cs (Nat.le_refl _) e hb
  · rcases ho.fs with e | e
    · exact .inl e
    · exact fils_bar h.fs (Nat.le_refl _) e hb
  · rcases ho.ws with e | e
    · exact .inl e
    · exact props_bar h.ws (Nat.le_refl _) e hb
  · rcases ho.ps with e | e
    · exact .inl e
    · exact props_bar h.ps (Nat.le_refl _) e hb
end
/-- The packets' slices lie where they may be read, in memory that is new, in no cell of the row. -/
structure RowsAt (w : World) (base : Nat) (v : Value) (l : List Pk) (ads : List Ad) : Prop where
  len : ads.length = l.length
  rows : ∀ j (h1 : j < l.length) (h2 : j < ads.length), PkAt w w.heap.size l[j] ads[j] ∧ PkCap l[j] ads[j] ∧ PkNew base ads[j] ∧ ∀ g, v.ownBlock = some g → POff g l[j] ads[j]
/-- A row of packets of a call's own. -/
@[irreducible] def OwnPks (w : World) (base : Nat) (v : Value) (l : List Pk) : Prop :=
  ∃ ads : List Ad, w.ownsRow base 45 25 v l.length (flatK l ads) ∧ RowsAt w base v l ads
section
variable {w w' : World} {base B : Nat} {v : Value} {l m : List Pk}
theorem OwnPks.mk (h : ∃ ads : List Ad, w.ownsRow base 45 25 v l.length (flatK l ads) ∧ RowsAt w base v l ads) : OwnPks w base v l := by unfold OwnPks; exact h
theorem OwnPks.out (h : OwnPks w base v l) : ∃ ads : List Ad, w.ownsRow base 45 25 v l.length (flatK l ads) ∧ RowsAt w base v l ads := by unfold OwnPks at h; exact h
theorem OwnPks.nil (w : World) (base : Nat) : OwnPks w base (.slice none 0 0) [] := .mk ⟨[], World.ownsRow_nil _ _ _ _, rfl, fun j h => by simp at h⟩
theorem OwnPks.below (h : OwnPks w base v l) (hb : Below w.heap.size w w') : OwnPks w' base v l := by
  obtain ⟨ads, h1, h2⟩ := h.out
  exact .mk ⟨ads, own_below h1 hb, h2.len, fun j k1 k2 => ⟨((h2.rows j k1 k2).1.below hb).mono hb.size, (h2.rows j k1 k2).2⟩⟩
theorem OwnPks.alloc (h : OwnPks w base v l) (o : Obj) : OwnPks (w.alloc o) base v l := h.below ((Below.refl _ _).alloc (Nat.le_refl _) o)
theorem OwnPks.drewN (h : OwnPks w base v l) (n : Nat) : OwnPks (w.drewN n) base v l := h.below (below_drewN (Below.refl _ _) n)
theorem OwnPks.slice (h : OwnPks w base v l) : ∃ A c, v = .slice A l.length c ∧ l.length ≤ c := by
  obtain ⟨ads, h1, _⟩ := h.out
  rcases h1.2 with ⟨hv, hn⟩ | ⟨g, cap, cur, hv, _, _, hle, _⟩
  · exact ⟨none, 0, by rw [hv, hn], by omega⟩
  · exact ⟨_, cap, hv, hle⟩
/-- A call that turns one block alone that is older than the row. -/
theorem OwnPks.bar {g : Nat} (h : OwnPks w base v l) (hb : Bar g w w') (hg : g < base) : OwnPks w' base v l := by
  obtain ⟨ads, h1, h2⟩ := h.out
  exact .mk ⟨ads, own_bar h1 hb hg, h2.len, fun j k1 k2 => ⟨pk_bar2 (h2.rows j k1 k2).1 (.of_new (h2.rows j k1 k2).2.2.1 hg) hb, (h2.rows j k1 k2).2⟩⟩
/-- More packets behind those that there are. -/
theorem OwnPks.grown {ads bs : List Ad} {v' : Value} (h1 : RowsAt w base v l ads) (h2 : RowsAt w base v m bs) (ho : w'.ownsRow base 45 25 v' (l.length + m.length) (flatK l ads ++ flatK m bs)) (hg : w.grownBy w' v.ownBlock)
    (hw : v'.ownBlock = v.ownBlock ∨ ∀ k, v'.ownBlock = some k → w.heap.size ≤ k) : OwnPks w' base v' (l ++ m) := by
  have key : ∀ (p : Pk) (a : Ad), (PkAt w w.heap.size p a ∧ PkCap p a ∧ PkNew base a ∧ ∀ g, v.ownBlock = some g → POff g p a) → PkAt w' w'.heap.size p a ∧ PkCap p a ∧ PkNew base a ∧ ∀ g, v'.ownBlock = some g → POff g p a := fun p a hh => by
    obtain ⟨hp, hc, hn, hf⟩ := hh
    refine ⟨?_, hc, hn, fun g hgg => ?_⟩
    · cases hv : v.ownBlock with
      | none =>
        rw [hv] at hg
        have hb : Below w.heap.size w w' := ⟨hg.os, hg.tape, hg.output, hg.size, fun k hk => hg.block k hk (fun e => by cases e)⟩
        exact (hp.below hb).mono hb.size
      | some g =>
        rw [hv] at hg
        exact pk_bar2 hp (hf g hv) ⟨hg.os, hg.tape, hg.output, hg.size, fun k hk hn => hg.block k hk (fun e => hn (by injection e))⟩
    · rcases hw with hw | hw
      · exact hf g (by rw [← hw]; exact hgg)
      · exact .of_at hp (hw g hgg)
  refine .mk ⟨ads ++ bs, by rw [flatK_app l ads m bs h1.len, List.length_append]; exact ho, by rw [List.length_append, List.length_append, h1.len, h2.len], fun j k1 k2 => key _ _ ?_⟩
  by_cases hj : j < l.length
  · have hj2 : j < ads.length := by rw [h1.len]; exact hj
    rw [List.getElem_append_left hj, List.getElem_append_left hj2]
    exact h1.rows j hj hj2
  · rw [List.length_append] at k1 k2
    have hl := h1.len
    have e1 : (l ++ m)[j] = m[j - l.length] := List.getElem_append_right (by omega)
    have e2 : (ads ++ bs)[j] = bs[j - ads.length] := List.getElem_append_right (by omega)
    rw [e1, e2]
    have := h2.rows (j - l.length) (by omega) (by omega)
    simp only [hl]
    exact this
end
end Go.Proofs.Ytiancngpknnkaaa
