/- Texts of the proof, part 5: KpMem, FdMap, RcRMay, KpRules, InTake, InMore. -/
import Derived.Laws.OwnMore
import Derived.Maps.Ext
import Derived.Deep.RegionHeld3
import Derived.Test.YthdefnfpjbpbkaaX04
/- Segments in memory: slices of segments, and such as are the call's own. -/
namespace Go.Proofs.Ythdefnfpjbpbkaa.Kpd
open Go.RowKit Go.Lib Rcd

theorem bel_step {a w w' : World} (h : Below a.heap.size a w) (hb : Below w.heap.size w w') : Below a.heap.size a w' := h.trans (hb.mono h.size)
/-- A segment in memory, whose records stand below block B. -/
structure SegAt (w : World) (B b o : Nat) (s : Sp) (A : Option Addr) (c : Nat) : Prop where
  c0 : w.cell? ⟨b, o, none⟩ = some (.int .i64 s.b)
  c1 : w.cell? ⟨b, o + 1, none⟩ = some (.slice A s.rs.length c)
  hA : RecsAt w B A s.rs
  cap : s.rs.length ≤ c
  lim : s.rs.length * 64 ≤ 140737488351232
/-- The slice at A holds the segments l, in a block below B. -/
def SegsAt (w : World) (B : Nat) (A : Option Addr) (l : List Sp) : Prop :=
  l = [] ∨ ∃ b o, A = some ⟨b, o, none⟩ ∧ b < B ∧ ∀ j (h : j < l.length), ∃ A' c, SegAt w B b (o + j * 2) l[j] A' c
section
variable {w w' : World} {B B' : Nat} {A : Option Addr} {l : List Sp}
theorem SegAt.keep {b o c : Nat} {s : Sp} (h : SegAt w B b o s A c) (hb : b < B) (hk : ∀ p : Addr, p.block < B → w'.cell? p = w.cell? p) : SegAt w' B b o s A c :=
  ⟨(hk _ hb).trans h.c0, (hk _ hb).trans h.c1, h.hA.keep hk, h.cap, h.lim⟩
theorem SegsAt.none_ : SegsAt w B A [] := .inl rfl
theorem SegsAt.some_ (h : SegsAt w B A l) (hl : 0 < l.length) : ∃ b o, A = some ⟨b, o, none⟩ ∧ b < B ∧ ∀ j (h : j < l.length), ∃ A' c, SegAt w B b (o + j * 2) l[j] A' c := by
  rcases h with rfl | h
  · simp at hl
  · exact h
theorem SegsAt.keep (h : SegsAt w B A l) (hk : ∀ p : Addr, p.block < B → w'.cell? p = w.cell? p) : SegsAt w' B A l := by
  rcases h with h | ⟨b, o, h1, h2, h3⟩
  · exact .inl h
  · exact .inr ⟨b, o, h1, h2, fun j hj => by
      obtain ⟨A', c, hs⟩ := h3 j hj
      exact ⟨A', c, hs.keep h2 hk⟩⟩
theorem SegsAt.mono (h : SegsAt w B A l) (hB : B ≤ B') : SegsAt w B' A l := by
  rcases h with h | ⟨b, o, h1, h2, h3⟩
  · exact .inl h
  · exact .inr ⟨b, o, h1, Nat.lt_of_lt_of_le h2 hB, fun j hj => by
      obtain ⟨A', c, hs⟩ := h3 j hj
      exact ⟨A', c, ⟨hs.c0, hs.c1, hs.hA.mono hB, hs.cap, hs.lim⟩⟩⟩
theorem SegsAt.below (h : SegsAt w B A l) (hb : Below B w w') : SegsAt w' B A l := h.keep fun _ hp => hb.cell hp
theorem SegsAt.on (h : SegsAt w w.heap.size A l) (hb : Below w.heap.size w w') : SegsAt w' w'.heap.size A l := (h.below hb).mono hb.size
theorem SegsAt.drewN (h : SegsAt w B A l) (n : Nat) : SegsAt (w.drewN n) B A l := h.keep fun _ _ => rfl
theorem SegsAt.alloc (h : SegsAt w B A l) (hB : B ≤ w.heap.size) (o : Obj) : SegsAt (w.alloc o) B A l := h.keep fun p hp => World.cell?_alloc_lt w o p (by omega)
/-- The first few. -/
theorem SegsAt.take (h : SegsAt w B A l) (k : Nat) : SegsAt w B A (l.take k) := by
  rcases h with rfl | ⟨b, o, h1, h2, h3⟩
  · exact .inl (by simp)
  · refine .inr ⟨b, o, h1, h2, fun j hj => ?_⟩
    have hl : j < l.length := by rw [List.length_take] at hj; omega
    rw [List.getElem_take]
    exact h3 j hl
/-- The rest. -/
theorem SegsAt.drop {b o : Nat} (h : SegsAt w B (some ⟨b, o, none⟩) l) (k : Nat) : SegsAt w B (some ⟨b, o + k * 2, none⟩) (l.drop k) := by
  rcases h with rfl | ⟨b', o', h1, h2, h3⟩
  · exact .inl (by simp)
  · injection h1 with h1
    injection h1 with e1 e2
    subst e1 e2
    refine .inr ⟨_, _, rfl, h2, fun j hj => ?_⟩
    rw [List.length_drop] at hj
    obtain ⟨A', c, hs⟩ := h3 (k + j) (by omega)
    rw [List.getElem_drop]
    have e : b = b := rfl
    refine ⟨A', c, ?_⟩
    rw [show o + k * 2 + j * 2 = o + (k + j) * 2 by omega]
    exact hs
end

/-! ### segments of the call's own -/
/-- A segment and where its records stand. -/
structure Sx where
  s : Sp
  A : Option Addr
  c : Nat
def Sx.v (x : Sx) : Value := .slice x.A x.s.rs.length x.c
def xcells (x : Sx) : List Value := [.int .i64 x.s.b, .slice x.A x.s.rs.length x.c]
def xflat (l : List Sx) : List Value := l.flatMap xcells
theorem xflat_cons (s : Sx) (l : List Sx) : xflat (s :: l) = xcells s ++ xflat l := by unfold xflat; rw [List.flatMap_cons]
theorem xflat_len (l : List Sx) : (xflat l).length = l.length * 2 := by
  induction l with
  | nil => rfl
  | cons p t ih => rw [xflat_cons, List.length_append, ih]; show 2 + _ = (t.length + 1) * 2; omega
theorem xflat_snoc (l : List Sx) (p : Sx) : xflat (l ++ [p]) = xflat l ++ xcells p := by unfold xflat; rw [List.flatMap_append]; simp
theorem xflat_at (l : List Sx) (j i : Nat) (hj : j < l.length) (hi : i < 2) : (xflat l)[j * 2 + i]? = (xcells l[j])[i]? := by
  induction l generalizing j with
  | nil => simp at hj
  | cons p t ih =>
    rw [xflat_cons]
    cases j with
    | zero =>
      rw [List.getElem?_append_left (by show _ < 2; omega)]
      simp
    | succ m =>
      rw [List.getElem?_append_right (by show 2 ≤ _; omega)]
      have : (m + 1) * 2 + i - (xcells p).length = m * 2 + i := by show _ - 2 = _; omega
      rw [this]
      exact ih m (by simpa using hj)
theorem xone_cells (p : Sx) : ∀ u ∈ xcells p, u.oneCell' = true := by
  have h : (xcells p).all (fun u => u.oneCell') = true := rfl
  exact List.all_eq_true.1 h
theorem row_slice {w : World} {base e size n : Nat} {v : Value} {xs : List Value} (h : w.ownsRow base e size v n xs) : ∃ A c, v = .slice A n c := by
  rcases h.2 with ⟨hv, hn⟩ | ⟨g, cap, cur, hv, _⟩
  · exact ⟨none, 0, by rw [hv, hn]⟩
  · exact ⟨_, cap, hv⟩
theorem row_cap {w : World} {B e size n c : Nat} {A : Option Addr} {xs : List Value} (h : w.ownsRow B e size (.slice A n c) n xs) : n ≤ c := by
  rcases h.2 with ⟨hv, hn⟩ | ⟨g, cap, cur, hv, _, _, hle, _⟩
  · omega
  · injection hv with _ _ hc
    omega
theorem own_one {w : World} {B e size n : Nat} {v : Value} {xs : List Value} (h : w.ownsRow B e size v n xs) : v.oneCell' = true := by
  obtain ⟨A, c, rfl⟩ := row_slice h
  rfl
/-- Two rows of cells of other kinds stand in other blocks: one grows, the other stays. -/
theorem rows_apart {w w' : World} {B B' e e' sz sz' n n' : Nat} {v v' : Value} {xs xs' : List Value} (h : w.ownsRow B e sz v n xs) (h' : w.ownsRow B' e' sz' v' n' xs') (he : e ≠ e') (hg : w.grownBy w' v'.ownBlock) : w'.ownsRow B e sz v n xs := by
  refine h.kept hg ?_
  rcases h.2 with ⟨rfl, _⟩ | ⟨g, cap, cur, rfl, _, hgg, _⟩
  · exact .inl rfl
  · right
    rcases h'.2 with ⟨rfl, _⟩ | ⟨g', cap', cur', rfl, _, hgg', _⟩
    · simp [Value.ownBlock]
    · intro e1
      have e2 : g = g' := by simpa [Value.ownBlock] using e1
      subst e2
      rw [hgg] at hgg'
      injection hgg' with e3
      injection e3 with _ e4
      exact he e4
/-- Two rows of the call's own that are apart. -/
def Apart (x y : Sx) : Prop := ∀ g, x.v.ownBlock = some g → y.v.ownBlock ≠ some g
/-- Segments of the call's own: a row of them, and a row of records for each. -/
structure OwnS (w : World) (B : Nat) (v : Value) (l : List Sp) (xs : List Sx) : Prop where
  map : xs.map (·.s) = l
  row : w.ownsRow B 49 2 v l.length (xflat xs)
  own : ∀ x ∈ xs, w.ownsRow B 46 6 x.v x.s.rs.length (flat x.s.rs) ∧ x.s.rs.length * 64 ≤ 140737488351232
  off : ∀ i j (hi : i < xs.length) (hj : j < xs.length), i ≠ j → Apart xs[i] xs[j]
section
variable {w w' : World} {B B' : Nat} {v : Value} {l : List Sp} {xs : List Sx}
theorem OwnS.nil (w : World) (B : Nat) : OwnS w B (.slice none 0 0) [] [] := ⟨rfl, World.ownsRow_nil _ _ _ _, (fun x h => by cases h), (fun i j hi => by simp at hi)⟩
theorem OwnS.len (h : OwnS w B v l xs) : xs.length = l.length := by rw [← h.map, List.length_map]
theorem OwnS.below (h : OwnS w B v l xs) (hb : Below w.heap.size w w') : OwnS w' B v l xs :=
  ⟨h.map, own_below h.row hb, fun x hx => ⟨own_below (h.own x hx).1 hb, (h.own x hx).2⟩, h.off⟩
theorem OwnS.mono (h : OwnS w B' v l xs) (hB : B ≤ B') : OwnS w B v l xs :=
  ⟨h.map, own_mono h.row hB, fun x hx => ⟨own_mono (h.own x hx).1 hB, (h.own x hx).2⟩, h.off⟩
/-- One more, whose records were made later, when the row has grown. -/
theorem OwnS.snoc {w1 : World} {b : Int} {rs : List Rc} {A : Option Addr} {c : Nat} {v' : Value} {o : Obj} (h : OwnS w1 B v l xs) (hB : B ≤ w1.heap.size) (hb : Below w1.heap.size w1 w) (hr : w.ownsRow w1.heap.size 46 6 (.slice A rs.length c) rs.length (flat rs)) (hl : rs.length * 64 ≤ 140737488351232)
    (hgrow : (w.alloc o).grownBy w' v.ownBlock) (hrow : w'.ownsRow B 49 2 v' (l.length + 1) (xflat xs ++ [.int .i64 b, .slice A rs.length c])) :
    OwnS w' B v' (l ++ [⟨b, rs⟩]) (xs ++ [⟨⟨b, rs⟩, A, c⟩]) := by
  have hne : 46 ≠ 49 := seg_not_rec
  have ha : Below w.heap.size w (w.alloc o) := (Below.refl _ _).alloc (Nat.le_refl _) _
  have hrow0 := own_below (own_below h.row hb) ha
  refine ⟨by rw [List.map_append, h.map]; rfl, ?_, ?_, ?_⟩
  · rw [List.length_append, xflat_snoc]
    exact hrow
  · intro x hx
    rcases List.mem_append.1 hx with hx | hx
    · exact ⟨rows_apart (own_below (own_below (h.own x hx).1 hb) ha) hrow0 hne hgrow, (h.own x hx).2⟩
    · obtain rfl : x = ⟨⟨b, rs⟩, A, c⟩ := by simpa using hx
      exact ⟨rows_apart (own_below (own_mono hr hB) ha) hrow0 hne hgrow, hl⟩
  · have hold : ∀ i (hi : i < xs.length) g, xs[i].v.ownBlock = some g → g < w1.heap.size := fun i hi g hg => ((h.own xs[i] (List.getElem_mem hi)).1.lt g hg).2
    have hnew : ∀ g, (Value.slice A rs.length c).ownBlock = some g → w1.heap.size ≤ g := fun g hg => (hr.lt g hg).1
    intro i j hi hj hij
    rw [List.length_append, List.length_cons, List.length_nil] at hi hj
    intro g hgi hgj
    by_cases ci : i < xs.length
    · rw [List.getElem_append_left ci] at hgi
      by_cases cj : j < xs.length
      · rw [List.getElem_append_left cj] at hgj
        exact h.off i j ci cj hij g hgi hgj
      · rw [List.getElem_append_right (by omega)] at hgj
        have h1 := hold i ci g hgi
        have h2 := hnew g (by simpa [Sx.v] using hgj)
        omega
    · rw [List.getElem_append_right (by omega)] at hgi
      by_cases cj : j < xs.length
      · rw [List.getElem_append_left cj] at hgj
        have h1 := hold j cj g hgj
        have h2 := hnew g (by simpa [Sx.v] using hgi)
        omega
      · omega
theorem SegsAt.of_own {A : Option Addr} {c n : Nat} (h : OwnS w B (.slice A n c) l xs) : SegsAt w w.heap.size A l := by
  have hlen := h.len
  rcases h.row.2 with ⟨hv, hn⟩ | ⟨g, cap, cur, hv, _, hg, hle, _, hsz, htk⟩
  · exact .inl (List.eq_nil_of_length_eq_zero hn)
  · have hv' := hv
    injection hv with hA hn _
    subst hA
    subst hn
    have key := h.row.cells (g := g) rfl
    have hlt := (Array.getElem?_eq_some_iff.1 hg).1
    refine .inr ⟨g, 0, rfl, hlt, fun j hj => ?_⟩
    have hjx : j < xs.length := by omega
    have hx := h.own xs[j] (List.getElem_mem hjx)
    have hs : xs[j].s = l[j] := by
      have := h.map
      subst this
      rw [List.getElem_map]
    have hz : ∀ i u, i < 2 → (xcells xs[j])[i]? = some u → w.cell? ⟨g, 0 + j * 2 + i, none⟩ = some u := fun i u hi hu => by
      rw [Nat.zero_add]
      have := key (j * 2 + i) u (by rw [xflat_at xs j i hjx hi]; exact hu)
      rwa [add_new] at this
    refine ⟨xs[j].A, xs[j].c, ?_⟩
    rw [← hs]
    exact ⟨hz 0 _ (by omega) rfl, hz 1 _ (by omega) rfl, .of_own hx.1, row_cap hx.1, hx.2⟩
end
/-- Segments of the call's own, handed back. -/
def GivesSegs (l : List Sp) (w : World) (e : Ending) (w' : World) : Prop := ∃ A c xs, e = .returned (.slice A l.length c) ∧ OwnS w' w.heap.size (.slice A l.length c) l xs ∧ Below w.heap.size w w'
theorem info_smore : (Try.prog.info? 49).map (fun i => (i.zero, i.size, i.bytes)) = some (some (.agg #[.int .i64 0, .slice none 0 0]), 2, 32) := by kernel_rfl
theorem takeS_snoc {l : List Sp} {k : Nat} (h : k < l.length) : l.take (k + 1) = l.take k ++ [⟨l[k].b, l[k].rs⟩] := List.take_succ_eq_append_getElem h
/-- The first few of a slice of segments. -/
theorem segs_front (A : Option Addr) (n c m : Nat) (w : World) (h : m ≤ c) :
    (Instr.sliceAt 23 (.slice A n c) none (some (.int .i64 (m : Int))) none).run Try.prog w = .ok (.slice A m c) w := by
  have h1 : (m : Int) ≤ (c : Int) := by omega
  have hm : ∀ a : Addr, a.add 0 = a := fun a => by obtain ⟨b, o, s⟩ := a; unfold Addr.add; split <;> simp_all
  cases A with
  | none =>
    go_simp
  | some a =>
    go_simp
    try simp [hm]
/-- The rest of a slice of segments. -/
theorem segs_rest (A : Option Addr) (n c k : Nat) (hA : k = 0 ∨ ∃ b o, A = some ⟨b, o, none⟩) (h : k ≤ n) (hc : n ≤ c) :
    ∃ A', (∀ w, (Instr.sliceAt 23 (.slice A n c) (some (.int .i64 (k : Int))) none none).run Try.prog w = .ok (.slice A' (n - k) (c - k)) w) ∧ ∀ (W : World) (B : Nat) (l : List Sp), l.length = n → SegsAt W B A l → SegsAt W B A' (l.drop k) := by
  have h1 : (k : Int) ≤ (n : Int) := by omega
  have h2 : (n : Int) ≤ (c : Int) := by omega
  rcases hA with rfl | ⟨b, o, rfl⟩
  · refine ⟨A, fun w => ?_, fun W B rs _ h => by rwa [List.drop_zero]⟩
    cases A with
    | none =>
      go_simp
    | some a =>
      go_simp
  · by_cases c0 : c = k
    · subst c0
      refine ⟨some ⟨b, o, none⟩, fun w => ?_, fun W B rs hn _ => .inl (List.drop_of_length_le (by omega))⟩
      go_simp
    · by_cases k0 : k = 0
      · subst k0
        refine ⟨some ⟨b, o, none⟩, fun w => ?_, fun W B rs _ h => by rwa [List.drop_zero]⟩
        go_simp
        try simp [Addr.add]
      · refine ⟨some ⟨b, o + k * 2, none⟩, fun w => ?_, fun W B rs _ h => ?_⟩
        · have hk6 : ¬ k * 2 = 0 := by omega
          go_simp
          try simp [Addr.add, k0, c0, hk6]
        · exact h.drop k
/-- The middle of a slice of segments. -/
theorem segs_mid (A : Option Addr) (n c k m : Nat) (hA : k = 0 ∨ ∃ b o, A = some ⟨b, o, none⟩) (h : k < m) (hm : m ≤ n) (hc : n ≤ c) :
    ∃ A', (∀ w, (Instr.sliceAt 23 (.slice A n c) (some (.int .i64 (k : Int))) (some (.int .i64 (m : Int))) none).run Try.prog w = .ok (.slice A' (m - k) (c - k)) w) ∧ ∀ (W : World) (B : Nat) (l : List Sp), l.length = n → SegsAt W B A l → SegsAt W B A' ((l.take m).drop k) := by
  have h1 : (k : Int) ≤ (m : Int) := by omega
  have h2 : (m : Int) ≤ (c : Int) := by omega
  rcases hA with rfl | ⟨b, o, rfl⟩
  · refine ⟨A, fun w => ?_, fun W B rs _ h => by rw [List.drop_zero]; exact h.take m⟩
    have hz : ∀ a : Addr, a.add 0 = a := fun a => by obtain ⟨b, o, s⟩ := a; unfold Addr.add; split <;> simp_all
    cases A with
    | none =>
      go_simp
    | some a =>
      go_simp
      try simp [hz]
  · have c0 : ¬ c = k := by omega
    by_cases k0 : k = 0
    · subst k0
      refine ⟨some ⟨b, o, none⟩, fun w => ?_, fun W B rs _ h => by rw [List.drop_zero]; exact h.take m⟩
      go_simp
      try simp [Addr.add]
    · refine ⟨some ⟨b, o + k * 2, none⟩, fun w => ?_, fun W B rs _ h => ?_⟩
      · have hk6 : ¬ k * 2 = 0 := by omega
        go_simp
        try simp [Addr.add, k0, c0, hk6]
      · exact (h.take m).drop k
end Go.Proofs.Ythdefnfpjbpbkaa.Kpd
/- A map of the call's own: the last record of each key. -/
namespace Go.Proofs.Ythdefnfpjbpbkaa.Kpd
open Go.RowKit Go.Lib Go.Maps Go.ChangeMaps Go.MapKept Rcd

abbrev DV := DataW Value
/-- A record in a map reads as it is. -/
def recR (v : Value) : Option (DV × List MemPlace) := some (.held v, [])
theorem recR_is {v : Value} {d : Value} {ps : List MemPlace} (h : recR v = some (.held d, ps)) : v = d := by
  unfold recR at h
  injection h with h
  injection h with h _
  injection h
theorem skeyed : Keyed Try.prog 9 := string_keyed Try.underlying9
theorem zero_recv (w : World) : (zeroValue 46).run Try.prog w = .ok (ragg rzero) w := by kernel_rfl
theorem key_is {x : List UInt8} (h : x.length ≤ maxLen) : keyOf Try.prog 9 (.string (str x)) = some (.string x) := by
  have h1 : (str x).size ≤ maxLen := by rw [str_size]; exact h
  have h2 : (str x).data.toList = x := str_data x
  simp [keyOf, mapKey, Try.underlying9, h1, h2]
/-- The map. -/
structure MapIn (w : World) (m nn : Nat) (xs : List Rc) (D : DV) : Prop where
  own : w.ownsMap Try.prog 9 recR m nn D
  has : ∀ x, Maps.has D (.string x) = true ↔ (¬ x = [] ∧ (lastK xs x).isSome = true)
  at_ : ∀ k y, ¬ k = [] → lastK xs k = some y → ∀ z, D.atKey (.string k) z = .held (ragg y)
section
variable {w w' : World} {m nn : Nat} {xs : List Rc} {D : DV} {row : Option Nat}
theorem MapIn.made (w : World) : MapIn (w.alloc (.map #[] 0)) w.heap.size 0 [] (.map []) :=
  ⟨World.ownsMap_made w Try.prog 9 recR, fun x => by simp [Maps.has, lastK], fun k y _ h => by simp [lastK] at h⟩
theorem MapIn.skip (h : MapIn w m nn xs D) {x : Rc} (hx : x.k = []) : MapIn w m nn (xs ++ [x]) D := by
  have e : ∀ k, ¬ k = [] → lastK (xs ++ [x]) k = lastK xs k := fun k hk => by rw [lastK_snoc, if_neg (by rw [hx]; exact fun e => hk e.symm)]
  refine ⟨h.own, fun k => ?_, fun k y hk hy z => h.at_ k y hk (by rw [← e k hk]; exact hy) z⟩
  rw [h.has k]
  constructor <;> · rintro ⟨h1, h2⟩; exact ⟨h1, by first | rwa [e k h1] | rwa [e k h1] at h2⟩
theorem MapIn.put (h : MapIn w m nn xs D) {x : Rc} (hx : ¬ x.k = []) (ho : w'.ownsMap Try.prog 9 recR m (nn + 1) (D.put (.string x.k) (.held (ragg x)))) : MapIn w' m (nn + 1) (xs ++ [x]) (D.put (.string x.k) (.held (ragg x))) := by
  have hD := h.own.isMap
  have hk : WideAt.IsKeyLit (.string x.k) := trivial
  refine ⟨ho, fun k => ?_, fun k y hk0 hy z => ?_⟩
  · by_cases c : k = x.k
    · subst c
      rw [has_put_same hD hk, lastK_snoc, if_pos rfl]
      simp [hx]
    · rw [has_put_other (fun e => c (by injection e)), h.has k, lastK_snoc, if_neg (fun e => c e.symm)]
  · by_cases c : k = x.k
    · subst c
      rw [lastK_snoc, if_pos rfl] at hy
      injection hy with hy
      subst hy
      rw [atKey_put_same hD hk]
    · rw [lastK_snoc, if_neg (fun e => c e.symm)] at hy
      rw [atKey_put_other (fun e => c (by injection e))]
      exact h.at_ k y hk0 hy z
theorem MapIn.lt (h : MapIn w m nn xs D) : m < w.heap.size := h.own.lt
theorem MapIn.mono (h : MapIn w m nn xs D) {n' : Nat} (hn : nn ≤ n') : MapIn w m n' xs D := ⟨h.own.mono hn, h.has, h.at_⟩
theorem MapIn.kept (h : MapIn w m nn xs D) (hg : w.grownBy w' row) (hne : some m ≠ row) : MapIn w' m nn xs D := ⟨h.own.kept hg hne, h.has, h.at_⟩
theorem grown_bel (h : Below w.heap.size w w') : w.grownBy w' none := ⟨h.os, h.tape, h.output, h.size, fun k hk _ => h.block k hk⟩
theorem MapIn.below (h : MapIn w m nn xs D) (hb : Below w.heap.size w w') : MapIn w' m nn xs D := h.kept (grown_bel hb) (by simp)
theorem MapIn.size (h : MapIn w m nn xs D) : Maps.size D ≤ nn := by
  obtain ⟨es, c, _, _, hs, hD⟩ := h.own
  subst hD
  simpa [Maps.size, length_sorted] using hs
/-- What the map answers. -/
theorem MapIn.look (h : MapIn w m nn xs D) (k : List UInt8) (hk : k.length ≤ 140737488351232) : (Instr.lookup 65 (.map (some m)) (.string (str k)) false).run Try.prog w = .ok (ragg (lastZ xs k)) w := by
  have hkey := key_is (x := k) (by unfold maxLen; omega)
  obtain ⟨v, ps, hrun, hv⟩ := h.own.lookup skeyed Try.underlying65 (zero_recv w) (show recR (ragg rzero) = some (.held (ragg rzero), []) from rfl) hkey
  rw [hrun]
  by_cases c : ¬ k = [] ∧ (lastK xs k).isSome = true
  · obtain ⟨h0, h1⟩ := c
    obtain ⟨y, hy⟩ := Option.isSome_iff_exists.1 h1
    rw [h.at_ k y h0 hy] at hv
    rw [lastZ_of h0 hy, recR_is hv]
  · have hh : Maps.has D (.string k) = false := by
      rw [Bool.eq_false_iff]
      exact fun e => c ((h.has k).1 e)
    rw [atKey_of_not_has hh] at hv
    rw [recR_is hv]
    have : lastZ xs k = rzero := by
      unfold lastZ
      by_cases h0 : k = []
      · rw [if_pos h0]
      · rw [if_neg h0]
        cases e : lastK xs k with
        | none => rfl
        | some y => exact absurd ⟨h0, by rw [e]; rfl⟩ c
    rw [this]
/-- The map's keys: each once. -/
theorem MapIn.keys (h : MapIn w m nn xs D) : (strKeys D).Nodup ∧ ∀ k, k ∈ strKeys D ↔ (¬ k = [] ∧ (lastK xs k).isSome = true) := by
  obtain ⟨es, hD, hpw, _⟩ := h.own.entries skeyed
  obtain ⟨es', hD', hko⟩ := h.own.keysOf
  obtain rfl : es = es' := by rw [hD] at hD'; simpa using hD'
  have hkk : ∀ p ∈ es, ∃ x, p.1 = .string x := fun p hp => by obtain ⟨v, hv⟩ := hko p hp; obtain ⟨x, _, hx, _⟩ := Maps.keyOf_str Try.underlying9 hv; exact ⟨x, hx⟩
  have hnd : (strKeys D).Nodup := by
    rw [hD]
    show (es.map fun p => strOf p.1).Nodup
    refine List.pairwise_map.2 (hpw.imp_of_mem fun {p q} hp' hq' hne e => hne ?_)
    obtain ⟨a, ha⟩ := hkk p hp'
    obtain ⟨b, hb⟩ := hkk q hq'
    rw [ha, hb] at e ⊢
    exact congrArg _ e
  refine ⟨hnd, fun k => ?_⟩
  rw [← h.has k, hD, has_eq, List.any_eq_true]
  show k ∈ (es.map fun p => strOf p.1) ↔ _
  rw [List.mem_map]
  constructor
  · rintro ⟨p, hp', rfl⟩
    obtain ⟨a, ha⟩ := hkk p hp'
    exact ⟨p, hp', by rw [ha]; simp [Lit.sameKey, strOf]⟩
  · rintro ⟨p, hp', hs⟩
    obtain ⟨a, ha⟩ := hkk p hp'
    rw [ha] at hs
    exact ⟨p, hp', by rw [ha]; simpa [Lit.sameKey, strOf] using hs⟩
end
end Go.Proofs.Ythdefnfpjbpbkaa.Kpd
/- The document's own answer: whether a record may be. A plain record. -/
namespace Go.Proofs.Ythdefnfpjbpbkaa
open Go.RowKit Go.Lib Rcd

set_option maxRecDepth 100000 in
set_option maxHeartbeats 1000000 in
theorem RNum_is (n b : Int) (X : Bool) (w : World) (h : decide (0 ≤ n ∧ n ≤ b) = X) :
    Calls Try.prog 27 #[.int .i64 n, .int .i64 b] w fun e w' => e = .returned (.bool X) ∧ w = w' := by
  have HX := Lib.hid h
  clear h
  by_cases h1 : 0 ≤ n
  · by_cases h2 : n ≤ b
    · go_enter Try.func27, Try.ntmps27
      go_wp2
      go_ret
      exact ⟨ret_bool (by rw [← HX.out]; exact (decide_eq_true (by omega)).symm), rfl⟩
    · go_enter Try.func27, Try.ntmps27
      go_wp2
      go_ret
      exact ⟨ret_bool (by rw [← HX.out]; exact (decide_eq_false (by omega)).symm), rfl⟩
  · go_enter Try.func27, Try.ntmps27
    go_wp2
    go_ret
    exact ⟨ret_bool (by rw [← HX.out]; exact (decide_eq_false (by omega)).symm), rfl⟩

theorem may_of_e {r : Rc} {E : Int} (h : mayE r = E) : mayB r = decide (E = 0) := by
  unfold mayE at h
  cases hm : mayB r with
  | true => rw [hm] at h; exact (decide_eq_true h.symm).symm
  | false => rw [hm] at h; exact (decide_eq_false (by rw [← h]; decide)).symm
set_option maxRecDepth 100000 in
set_option maxHeartbeats 4000000 in
theorem RRec_parts (o t : Int) (k b : ByteArray) (q : Int) (g : Bool) (X : Bool) (w : World) (hX : mayB ⟨o, t, k.data.toList, b.data.toList, q, g⟩ = X) :
    Calls Try.prog 42 #[.agg (rarr o t k b q g)] w fun e w' => e = .returned (.bool X) ∧ Below w.heap.size w w' := by
  unfold rarr
  rcases may_ways o t k b q g with ⟨h1, h⟩ | ⟨h1, h2, h⟩ | ⟨h1, h2, h3, h⟩ | ⟨h1, h2, h3, h4, h⟩ | ⟨h1, h2, h3, h4, h5, h⟩ | ⟨h1, h2, h3, h4, h5, h6, h⟩ | ⟨h1, h2, h3, h4, h5, h6, h7, h⟩ | ⟨h1, h2, h3, h4, h5, h6, h7, h⟩
  · obtain rfl : X = false := by rw [← hX, may_of_e h]; rfl
    have Ho := Lib.hid h1
    clear h hX h1
    go_enter Try.func42, Try.ntmps42
    go_wp2_with (go_at_call 27; refine (RNum_is _ _ _ _ (by first | with_reducible exact Ho.out)).mono ?_; rintro e w' ⟨rfl, rfl⟩)
    go_ret
    exact ⟨rfl, (Below.refl _ _).alloc (Nat.le_refl _) _⟩
  · obtain rfl : X = false := by rw [← hX, may_of_e h]; rfl
    have Ho := Lib.hid h1
    have Ht := Lib.hid h2
    clear h hX h1 h2
    go_enter Try.func42, Try.ntmps42
    go_wp2_with (go_at_call 27; refine (RNum_is _ _ _ _ (by first | with_reducible exact Ho.out | with_reducible exact Ht.out)).mono ?_; rintro e w' ⟨rfl, rfl⟩)
    go_ret
    exact ⟨rfl, (Below.refl _ _).alloc (Nat.le_refl _) _⟩
  · obtain rfl : X = false := by rw [← hX, may_of_e h]; rfl
    have Ho := Lib.hid h1
    have Ht := Lib.hid h2
    clear h hX h1 h2
    go_enter Try.func42, Try.ntmps42
    go_wp2_with (go_at_call 27; refine (RNum_is _ _ _ _ (by first | with_reducible exact Ho.out | with_reducible exact Ht.out)).mono ?_; rintro e w' ⟨rfl, rfl⟩)
    go_ret
    exact ⟨rfl, (Below.refl _ _).alloc (Nat.le_refl _) _⟩
  · obtain rfl : X = false := by rw [← hX, may_of_e h]; rfl
    have Ho := Lib.hid h1
    have Ht := Lib.hid h2
    clear h hX h1 h2
    go_enter Try.func42, Try.ntmps42
    go_wp2_with (go_at_call 27; refine (RNum_is _ _ _ _ (by first | with_reducible exact Ho.out | with_reducible exact Ht.out)).mono ?_; rintro e w' ⟨rfl, rfl⟩)
    go_ret
    exact ⟨rfl, (Below.refl _ _).alloc (Nat.le_refl _) _⟩
  · obtain rfl : X = false := by rw [← hX, may_of_e h]; rfl
    have Ho := Lib.hid h1
    have Ht := Lib.hid h2
    have Hq := Lib.hid h5
    clear h hX h1 h2 h5
    go_enter Try.func42, Try.ntmps42
    go_wp2_with (go_at_call 27; refine (RNum_is _ _ _ _ (by first | with_reducible exact Ho.out | with_reducible exact Ht.out | with_reducible exact Hq.out)).mono ?_; rintro e w' ⟨rfl, rfl⟩)
    go_ret
    exact ⟨rfl, (Below.refl _ _).alloc (Nat.le_refl _) _⟩
  · obtain rfl : X = true := by rw [← hX, may_of_e h]; rfl
    have Ho := Lib.hid h1
    have Ht := Lib.hid h2
    have Hq := Lib.hid h5
    clear h hX h1 h2 h5
    subst h6
    cases g with
    | true =>
      go_enter Try.func42, Try.ntmps42
      go_wp2_with (go_at_call 27; refine (RNum_is _ _ _ _ (by first | with_reducible exact Ho.out | with_reducible exact Ht.out | with_reducible exact Hq.out)).mono ?_; rintro e w' ⟨rfl, rfl⟩)
      go_ret
      exact ⟨rfl, (Below.refl _ _).alloc (Nat.le_refl _) _⟩
    | false =>
      go_enter Try.func42, Try.ntmps42
      go_wp2_with (go_at_call 27; refine (RNum_is _ _ _ _ (by first | with_reducible exact Ho.out | with_reducible exact Ht.out | with_reducible exact Hq.out)).mono ?_; rintro e w' ⟨rfl, rfl⟩)
      go_ret
      exact ⟨rfl, (Below.refl _ _).alloc (Nat.le_refl _) _⟩
  · obtain rfl : X = true := by rw [← hX, may_of_e h]; rfl
    have Ho := Lib.hid h1
    have Ht := Lib.hid h2
    have Hq := Lib.hid h5
    clear h hX h1 h2 h5
    obtain ⟨hi1, hi2⟩ := ne_empty h6
    clear h6
    subst h7
    go_enter Try.func42, Try.ntmps42
    go_wp2_with (go_at_call 27; refine (RNum_is _ _ _ _ (by first | with_reducible exact Ho.out | with_reducible exact Ht.out | with_reducible exact Hq.out)).mono ?_; rintro e w' ⟨rfl, rfl⟩)
    go_ret
    exact ⟨rfl, (Below.refl _ _).alloc (Nat.le_refl _) _⟩
  · obtain rfl : X = false := by rw [← hX, may_of_e h]; rfl
    have Ho := Lib.hid h1
    have Ht := Lib.hid h2
    have Hq := Lib.hid h5
    clear h hX h1 h2 h5
    obtain ⟨hi1, hi2⟩ := ne_empty h6
    clear h6
    subst h7
    go_enter Try.func42, Try.ntmps42
    go_wp2_with (go_at_call 27; refine (RNum_is _ _ _ _ (by first | with_reducible exact Ho.out | with_reducible exact Ht.out | with_reducible exact Hq.out)).mono ?_; rintro e w' ⟨rfl, rfl⟩)
    go_ret
    exact ⟨rfl, (Below.refl _ _).alloc (Nat.le_refl _) _⟩
/-- fairwayref10.Rec. -/
theorem RRec_is (r : Rc) (X : Bool) (w : World) (hX : mayB r = X) :
    Calls Try.prog 42 #[ragg r] w fun e w' => e = .returned (.bool X) ∧ Below w.heap.size w w' :=
  RRec_parts r.o r.t (str r.k) (str r.b) r.q r.g X w (by rw [str_data, str_data]; exact hX)

set_option maxRecDepth 100000 in
set_option maxHeartbeats 1000000 in
theorem R_is (o t : Int) (k b : ByteArray) (w : World) : Calls Try.prog 21 #[.int .i64 o, .int .i64 t, .string k, .string b] w fun e w' => e = .returned (.agg (rarr o t k b 1 false)) ∧ Below w.heap.size w w' := by
  have hbn := Blk.new w 46 zcells
  have hbl : Below w.heap.size w (w.alloc (.cells zcells 46)) := (Below.refl _ _).alloc (Nat.le_refl _) _
  obtain ⟨W0, hW⟩ : ∃ W0, w.alloc (.cells zcells 46) = W0 := ⟨_, rfl⟩
  obtain ⟨p, hp⟩ : ∃ p, w.heap.size = p := ⟨_, rfl⟩
  rw [hW] at hbn hbl
  have HR := Lib.hid (show Blk (W0.setRow p (rarr o t k b 1 false)) p (rarr o t k b 1 false) ∧ Below w.heap.size w (W0.setRow p (rarr o t k b 1 false)) by rw [← hp]; exact ⟨hbn.row _, below_row hbl (Nat.le_refl _) _⟩)
  rw [hp] at hbn
  have HBN := Lib.hid hbn
  unfold zcells at hW
  have HW := Lib.hid hW
  clear hW hbn hbl
  unfold rarr at HR ⊢
  go_enter Try.func21, Try.ntmps21
  go_upto_region 1 with fail
  rw [HW.out]
  clear HW
  clear hp
  go_wp2_with (refine wpList_store_whole rfl 46 (.tmp 8) (.tmp 13) rfl p _ rfl rfl _ HBN.out info_rec rfl (by simp [Value.oneCell']) ?_; simp only [Act.put])
  refine bodyPost_ret (results_rec Try.results21 rfl HR.out.1 rfl) rfl ⟨rfl, HR.out.2⟩
end Go.Proofs.Ythdefnfpjbpbkaa
/- Package keep: whether rules may be; the document's own answer too. -/
namespace Go.Proofs.Ythdefnfpjbpbkaa.Kpd
open Go.RowKit Go.Lib Rcd

def ruarr (sb by_ ag : Int) (co : Bool) (gr : Int) : Array Value := #[.int .i64 sb, .int .i64 by_, .int .i64 ag, .bool co, .int .i64 gr]
def ruagg (r : Ru) : Value := .agg (ruarr r.sb r.by_ r.ag r.co r.gr)
def ruE (r : Ru) : Int := if ruB r then 0 else 1
theorem info_ru : (Try.prog.info? 25).map (·.size) = some 5 := by kernel_rfl
theorem load_ru {W : World} {g : Nat} {cs : Array Value} (h : Blk W g cs) (h9 : cs.size = 5) : (loadVar 25 ⟨g, 0, none⟩).run Try.prog W = .ok (.agg cs) W :=
  run_loadVar_mid W g 0 25 cs.toList _ (fun j v hv => by rw [Nat.zero_add, h.cell j]; rw [← hv]; simp) Try.underlying25 rfl (by rw [info_ru]; simp [h9])

set_option maxRecDepth 100000 in
set_option maxHeartbeats 1000000 in
theorem kWithin_is (n a b : Int) (X : Bool) (w : World) (h : decide (a ≤ n ∧ n ≤ b) = X) :
    Calls Try.prog 43 #[.int .i64 n, .int .i64 a, .int .i64 b] w fun e w' => e = .returned (.bool X) ∧ w = w' := by
  have HX := Lib.hid h
  clear h
  by_cases h1 : a ≤ n
  · by_cases h2 : n ≤ b
    · go_enter Try.func43, Try.ntmps43
      go_wp2
      go_ret
      exact ⟨ret_bool (by rw [← HX.out]; exact (decide_eq_true (by omega)).symm), rfl⟩
    · go_enter Try.func43, Try.ntmps43
      go_wp2
      go_ret
      exact ⟨ret_bool (by rw [← HX.out]; exact (decide_eq_false (by omega)).symm), rfl⟩
  · go_enter Try.func43, Try.ntmps43
    go_wp2
    go_ret
    exact ⟨ret_bool (by rw [← HX.out]; exact (decide_eq_false (by omega)).symm), rfl⟩

theorem ru_ways (r : Ru) :
    (decide (1 ≤ r.sb ∧ r.sb ≤ 32768) = false ∧ ruB r = false) ∨
    (decide (1 ≤ r.sb ∧ r.sb ≤ 32768) = true ∧ decide (-1 ≤ r.by_ ∧ r.by_ ≤ 1073741824) = false ∧ ruB r = false) ∨
    (decide (1 ≤ r.sb ∧ r.sb ≤ 32768) = true ∧ decide (-1 ≤ r.by_ ∧ r.by_ ≤ 1073741824) = true ∧ decide (-1 ≤ r.ag ∧ r.ag ≤ 1073741824) = false ∧ ruB r = false) ∨
    (decide (1 ≤ r.sb ∧ r.sb ≤ 32768) = true ∧ decide (-1 ≤ r.by_ ∧ r.by_ ≤ 1073741824) = true ∧ decide (-1 ≤ r.ag ∧ r.ag ≤ 1073741824) = true ∧ decide (0 ≤ r.gr ∧ r.gr ≤ 1073741824) = ruB r) := by
  unfold ruB
  by_cases c1 : 1 ≤ r.sb ∧ r.sb ≤ 32768
  · by_cases c2 : -1 ≤ r.by_ ∧ r.by_ ≤ 1073741824
    · by_cases c3 : -1 ≤ r.ag ∧ r.ag ≤ 1073741824
      · exact .inr (.inr (.inr ⟨decide_eq_true c1, decide_eq_true c2, decide_eq_true c3, by
          by_cases c4 : 0 ≤ r.gr ∧ r.gr ≤ 1073741824
          · rw [decide_eq_true c4, decide_eq_true ⟨c1, c2, c3, c4⟩]
          · rw [decide_eq_false c4, decide_eq_false (fun h => c4 h.2.2.2)]⟩))
      · exact .inr (.inr (.inl ⟨decide_eq_true c1, decide_eq_true c2, decide_eq_false c3, decide_eq_false fun h => c3 h.2.2.1⟩))
    · exact .inr (.inl ⟨decide_eq_true c1, decide_eq_false c2, decide_eq_false fun h => c2 h.2.1⟩)
  · exact .inl ⟨decide_eq_false c1, decide_eq_false fun h => c1 h.1⟩
theorem ru_yes {r : Ru} (h : ruB r = true) : (1 ≤ r.sb ∧ r.sb ≤ 32768) ∧ (-1 ≤ r.by_ ∧ r.by_ ≤ 1073741824) ∧ (-1 ≤ r.ag ∧ r.ag ≤ 1073741824) ∧ (0 ≤ r.gr ∧ r.gr ≤ 1073741824) := decide_eq_true_iff.1 h

set_option maxRecDepth 100000 in
set_option maxHeartbeats 4000000 in
/-- keep.Rules. -/
theorem Rules_is (r : Ru) (E : Int) (w : World) (hE : ruE r = E) :
    Calls Try.prog 33 #[ruagg r] w fun e w' => e = .returned (.int .i64 E) ∧ Below w.heap.size w w' := by
  have hway := ru_ways r
  unfold ruE at hE
  obtain ⟨X, hX⟩ : ∃ X, ruB r = X := ⟨_, rfl⟩
  rw [hX] at hway hE
  unfold ruagg
  obtain ⟨sb, by_, ag, co, gr⟩ := r
  dsimp only at hway ⊢
  have R0 := Lib.hid (RBox.new w 25 (ruarr sb by_ ag co gr))
  obtain ⟨p, hp⟩ : ∃ p, w.heap.size = p := ⟨_, rfl⟩
  obtain ⟨W0, hW⟩ : ∃ W0, w.alloc (.cells (ruarr sb by_ ag co gr) 25) = W0 := ⟨_, rfl⟩
  rw [hW, hp] at R0
  unfold ruarr at R0 hW ⊢
  have HW := Lib.hid hW
  have HP := Lib.hid hp
  clear hW hp hX
  have d0 : W0.cell? ⟨p, 0, none⟩ = some (.int .i64 sb) := R0.out.cell 0
  have d1 : W0.cell? ⟨p, 1, none⟩ = some (.int .i64 by_) := R0.out.cell 1
  have d2 : W0.cell? ⟨p, 2, none⟩ = some (.int .i64 ag) := R0.out.cell 2
  have d4 : W0.cell? ⟨p, 4, none⟩ = some (.int .i64 gr) := R0.out.cell 4
  rcases hway with ⟨h1, rfl⟩ | ⟨h1, h2, rfl⟩ | ⟨h1, h2, h3, rfl⟩ | ⟨h1, h2, h3, h4⟩
  · obtain rfl : 1 = E := hE
    have H1 := Lib.hid h1
    clear h1
    go_enter Try.func33, Try.ntmps33
    go_upto_region 1 with fail
    rw [HW.out, HP.out]
    clear HW HP
    go_wp2_with (go_at_call 43; refine (kWithin_is _ _ _ _ _ (by first | with_reducible exact H1.out)).mono ?_; rintro e w' ⟨rfl, rfl⟩)
    go_ret
    exact ⟨rfl, R0.out.out.2⟩
  · obtain rfl : 1 = E := hE
    have H1 := Lib.hid h1
    have H2 := Lib.hid h2
    clear h1 h2
    go_enter Try.func33, Try.ntmps33
    go_upto_region 1 with fail
    rw [HW.out, HP.out]
    clear HW HP
    go_wp2_with (go_at_call 43; refine (kWithin_is _ _ _ _ _ (by first | with_reducible exact H1.out | with_reducible exact H2.out)).mono ?_; rintro e w' ⟨rfl, rfl⟩)
    go_ret
    exact ⟨rfl, R0.out.out.2⟩
  · obtain rfl : 1 = E := hE
    have H1 := Lib.hid h1
    have H2 := Lib.hid h2
    have H3 := Lib.hid h3
    clear h1 h2 h3
    go_enter Try.func33, Try.ntmps33
    go_upto_region 1 with fail
    rw [HW.out, HP.out]
    clear HW HP
    go_wp2_with (go_at_call 43; refine (kWithin_is _ _ _ _ _ (by first | with_reducible exact H1.out | with_reducible exact H2.out | with_reducible exact H3.out)).mono ?_; rintro e w' ⟨rfl, rfl⟩)
    go_ret
    exact ⟨rfl, R0.out.out.2⟩
  · have H1 := Lib.hid h1
    have H2 := Lib.hid h2
    have H3 := Lib.hid h3
    have H4 := Lib.hid h4
    clear h1 h2 h3 h4
    cases X with
    | true =>
      obtain rfl : 0 = E := hE
      go_enter Try.func33, Try.ntmps33
      go_upto_region 1 with fail
      rw [HW.out, HP.out]
      clear HW HP
      go_wp2_with (go_at_call 43; refine (kWithin_is _ _ _ _ _ (by first | with_reducible exact H1.out | with_reducible exact H2.out | with_reducible exact H3.out | with_reducible exact H4.out)).mono ?_; rintro e w' ⟨rfl, rfl⟩)
      go_ret
      exact ⟨rfl, R0.out.out.2⟩
    | false =>
      obtain rfl : 1 = E := hE
      go_enter Try.func33, Try.ntmps33
      go_upto_region 1 with fail
      rw [HW.out, HP.out]
      clear HW HP
      go_wp2_with (go_at_call 43; refine (kWithin_is _ _ _ _ _ (by first | with_reducible exact H1.out | with_reducible exact H2.out | with_reducible exact H3.out | with_reducible exact H4.out)).mono ?_; rintro e w' ⟨rfl, rfl⟩)
      go_ret
      exact ⟨rfl, R0.out.out.2⟩
end Go.Proofs.Ythdefnfpjbpbkaa.Kpd
/- A region that draws its order, walked by hand under a word S that holds behind every operation: one operation at a time. No program. -/
namespace Go.Proofs.Ythdefnfpjbpbkaa
open Go.RowKit

section
variable {P : Program} {ops : Array Oper} {Q : Exit → Act → World → Prop} {S : World → Prop}
/-- May number i be taken first? -/
def takeB (ops : Array Oper) (listed : Array Bool) (i : Nat) : Bool := Region.noSelect ops && (Region.free .any ops listed i && (Region.ready .any ops listed).contains i)
/-- What yields one value in every world that meets S is taken first. -/
theorem take_op {fuel : Nat} {listed : Array Bool} {a : Act} {w : World} (i d : Nat) {oi : Oper} (v : Value) (hd : oi.dst = some d) (hi : ops[i]? = some oi) (hc : takeB ops listed i = true) (hQ : ∀ c a w, Q (.panic c) (a.put oi.dst v) w → Q (.panic c) a w)
    (hw : Region.wanted oi (yielded ops a.tmps) = true) (hS : S w) (hv : ∀ w, S w → (execOp a.eval oi).run P w = .ok (.value v) w)
    (h : wpAnyH P .any ops Q S fuel (listed.setIfInBounds i true) (a.put (some d) v) w) : wpAnyH P .any ops Q S (fuel + 1) listed a w := by
  rw [← hd] at h
  unfold takeB at hc
  simp only [Bool.and_eq_true] at hc
  exact wpAnyH_take hi hc.1 hc.2.1 hc.2.2 hQ (.inl ⟨hw, hv⟩) hS h
/-- A variable read whole is taken first. -/
theorem take_load {fuel : Nat} {listed : Array Bool} {a : Act} {w : World} (i d : Nat) {oi : Oper} (ty : TypeId) (x : Operand) (b off : Nat) (V : Value) (hd : oi.dst = some d) (hi : ops[i]? = some oi) (hc : takeB ops listed i = true) (hQ : ∀ c a w, Q (.panic c) (a.put oi.dst V) w → Q (.panic c) a w)
    (hw : Region.wanted oi (yielded ops a.tmps) = true) (hS : S w) (ho : oi.op = .load ty x) (hx : a.eval x = .pointer (some ⟨b, off, none⟩)) (hv : ∀ w, S w → (loadVar ty ⟨b, off, none⟩).run P w = .ok V w)
    (h : wpAnyH P .any ops Q S fuel (listed.setIfInBounds i true) (a.put (some d) V) w) : wpAnyH P .any ops Q S (fuel + 1) listed a w :=
  take_op i d V hd hi hc hQ hw hS (fun w' hS' => by
    unfold execOp
    simp only [ho, hx, Instr.loadAt, Instr.sureAddr, Sem.run_bind, Sem.run_pure, Result.andThen_ok, hv w' hS']) h
/-- The one operation that may come up. -/
theorem only_op {fuel : Nat} {listed : Array Bool} {a : Act} {w : World} (i : Nat) {oi : Oper} (hi : ops[i]? = some oi) (hr : Region.ready .any ops listed = [i]) (hw : Region.wanted oi (yielded ops a.tmps) = true)
    (h : Oper.wp P oi a w (fun a' w' => S w' ∧ wpAnyH P .any ops Q S fuel (listed.setIfInBounds i true) a' w') Q) : wpAnyH P .any ops Q S (fuel + 1) listed a w := by
  refine wpAnyH_all (rs := [i]) hr (by simp) fun j hj => ?_
  rw [List.mem_singleton] at hj
  subst hj
  exact wpOp_step hi (fun K' hK => by
    rw [if_pos hw]
    exact Oper.wp_mono (fun a' w' h' => hK a' w' h') h)
/-- The two operations that may come up. -/
theorem two_ops {fuel : Nat} {listed : Array Bool} {a : Act} {w : World} (i j : Nat) {oi oj : Oper} (hi : ops[i]? = some oi) (hj : ops[j]? = some oj) (hr : Region.ready .any ops listed = [i, j]) (hw : Region.wanted oi (yielded ops a.tmps) = true) (hw2 : Region.wanted oj (yielded ops a.tmps) = true)
    (h : Oper.wp P oi a w (fun a' w' => S w' ∧ wpAnyH P .any ops Q S fuel (listed.setIfInBounds i true) a' w') Q) (h2 : Oper.wp P oj a w (fun a' w' => S w' ∧ wpAnyH P .any ops Q S fuel (listed.setIfInBounds j true) a' w') Q) : wpAnyH P .any ops Q S (fuel + 1) listed a w := by
  refine wpAnyH_all (rs := [i, j]) hr (by simp) fun k hk => ?_
  rcases List.mem_cons.1 hk with rfl | hk
  · exact wpOp_step hi (fun K' hK => by
      rw [if_pos hw]
      exact Oper.wp_mono (fun a' w' h' => hK a' w' h') h)
  · rw [List.mem_singleton] at hk
    subst hk
    exact wpOp_step hj (fun K' hK => by
      rw [if_pos hw2]
      exact Oper.wp_mono (fun a' w' h' => hK a' w' h') h2)
/-- A call that comes up, whatever it hands back. -/
theorem wp_call_ex {o : Oper} {a : Act} {w : World} {K : Act → World → Prop} (d : Nat) (f : FuncId) (vs : Array Value) (R : Ending → World → Prop) (hd : o.dst = some d) (hx : (execOp a.eval o).run P w = .ok (.enter f vs) w)
    (hc : Calls P f vs w R) (h : ∀ e w', R e w' → ∃ v, e = .returned v ∧ K (a.put (some d) v) w') : Oper.wp P o a w K Q := by
  unfold Oper.wp
  rw [← hd] at h
  rw [hx]
  exact hc.mono fun e w' hR => by
    obtain ⟨v, rfl, hk⟩ := h e w' hR
    exact hk
/-- A call that comes up. -/
theorem wp_call {o : Oper} {a : Act} {w : World} {K : Act → World → Prop} (d : Nat) (f : FuncId) (vs : Array Value) (v : Value) (R : World → Prop) (hd : o.dst = some d) (hx : (execOp a.eval o).run P w = .ok (.enter f vs) w)
    (hc : Calls P f vs w fun e w' => e = .returned v ∧ R w') (h : ∀ w', R w' → K (a.put (some d) v) w') : Oper.wp P o a w K Q := by
  unfold Oper.wp
  rw [← hd] at h
  rw [hx]
  exact hc.mono fun e w' ⟨he, hR⟩ => by subst he; exact h w' hR
/-- A value that is made. -/
theorem wp_made {o : Oper} {a : Act} {w w' : World} {K : Act → World → Prop} (d : Nat) (v : Value) (hd : o.dst = some d) (hx : (execOp a.eval o).run P w = .ok (.value v) w') (h : K (a.put (some d) v) w') : Oper.wp P o a w K Q := by
  unfold Oper.wp
  rw [← hd] at h
  rw [hx]
  exact h
end
end Go.Proofs.Ythdefnfpjbpbkaa
/- A region walked by hand under a word S: behind an operation more may be known, and S be made stronger. No program. -/
namespace Go.Proofs.Ythdefnfpjbpbkaa
open Go.RowKit

theorem held_stronger {P : Program} {md : Region.Mode} {ops : Array Oper} {Q : Exit → Act → World → Prop} {S S' : World → Prop} (hS : ∀ w, S' w → S w) :
    ∀ (fuel : Nat) (listed : Array Bool) (a : Act) (w : World), wpAnyH P md ops Q S' fuel listed a w → wpAnyH P md ops Q S fuel listed a w
  | 0, _, _, _, h => h
  | fuel + 1, _, _, _, h => ⟨h.1, fun i hi => wpOp_mono (fun a' w' h' => ⟨hS _ h'.1, held_stronger hS fuel _ a' w' h'.2⟩) (h.2 i hi)⟩
theorem wp_store_one {P : Program} {o : Oper} {a : Act} {w w' : World} {K : Act → World → Prop} {Q : Exit → Act → World → Prop} (ty : TypeId) (x y : Operand) (ho : o.op = .store ty x y) (p V : Value)
    (hx : a.eval x = p) (hy : a.eval y = V) (hr : (Instr.storeAt ty p V).run P w = .ok () w') (h : K (a.put o.dst undef) w') : Oper.wp P o a w K Q := by
  unfold Oper.wp execOp
  simp only [ho, hx, hy, Sem.run_bind, Sem.run_pure, Result.andThen_ok, hr]
  exact h
theorem put_none (a : Act) (v : Value) : a.put none v = a := rfl
theorem wp_store_none {P : Program} {o : Oper} {a : Act} {w w' : World} {K : Act → World → Prop} {Q : Exit → Act → World → Prop} (ty : TypeId) (x y : Operand) (ho : o.op = .store ty x y) (hd : o.dst = none) (p V : Value)
    (hx : a.eval x = p) (hy : a.eval y = V) (hr : (Instr.storeAt ty p V).run P w = .ok () w') (h : K a w') : Oper.wp P o a w K Q := by
  refine wp_store_one ty x y ho p V hx hy hr ?_
  rw [hd]
  exact h
end Go.Proofs.Ythdefnfpjbpbkaa
