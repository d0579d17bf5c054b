/- Texts of the proof, part 4: KpMem, InTake, InMore, KpWith, RcRMay. -/
import Derived.Laws.OwnMore
import Derived.Deep.RegionHeld3
import Derived.Test.YtgadgmcabjnjjaaW03
/- Segments in memory: slices of segments, and such as are the call's own. -/
namespace Go.Proofs.Ytgadgmcabjnjjaa.Kpd
open Go.RowKit Go.Lib Rcd

theorem bel_step {a w w' : World} (h : Below a.heap.size a w) (hb : Below w.heap.size w w') : Below a.heap.size a w' := h.trans (hb.mono h.size)
/-- A segment in memory, whose records stand below block B. -/
structure SegAt (w : World) (B b o : Nat) (s : Sp) (A : Option Addr) (c : Nat) : Prop where
  c0 : w.cell? ⟨b, o, none⟩ = some (.int .i64 s.b)
  c1 : w.cell? ⟨b, o + 1, none⟩ = some (.slice A s.rs.length c)
  hA : RecsAt w B A s.rs
  cap : s.rs.length ≤ c
  lim : s.rs.length * 64 ≤ 140737488351232
/-- The slice at A holds the segments l, in a block below B. -/
def SegsAt (w : World) (B : Nat) (A : Option Addr) (l : List Sp) : Prop :=
  l = [] ∨ ∃ b o, A = some ⟨b, o, none⟩ ∧ b < B ∧ ∀ j (h : j < l.length), ∃ A' c, SegAt w B b (o + j * 2) l[j] A' c
section
variable {w w' : World} {B B' : Nat} {A : Option Addr} {l : List Sp}
theorem SegAt.keep {b o c : Nat} {s : Sp} (h : SegAt w B b o s A c) (hb : b < B) (hk : ∀ p : Addr, p.block < B → w'.cell? p = w.cell? p) : SegAt w' B b o s A c :=
  ⟨(hk _ hb).trans h.c0, (hk _ hb).trans h.c1, h.hA.keep hk, h.cap, h.lim⟩
theorem SegsAt.none_ : SegsAt w B A [] := .inl rfl
theorem SegsAt.some_ (h : SegsAt w B A l) (hl : 0 < l.length) : ∃ b o, A = some ⟨b, o, none⟩ ∧ b < B ∧ ∀ j (h : j < l.length), ∃ A' c, SegAt w B b (o + j * 2) l[j] A' c := by
  rcases h with rfl | h
  · simp at hl
  · exact h
theorem SegsAt.keep (h : SegsAt w B A l) (hk : ∀ p : Addr, p.block < B → w'.cell? p = w.cell? p) : SegsAt w' B A l := by
  rcases h with h | ⟨b, o, h1, h2, h3⟩
  · exact .inl h
  · exact .inr ⟨b, o, h1, h2, fun j hj => by
      obtain ⟨A', c, hs⟩ := h3 j hj
      exact ⟨A', c, hs.keep h2 hk⟩⟩
theorem SegsAt.mono (h : SegsAt w B A l) (hB : B ≤ B') : SegsAt w B' A l := by
  rcases h with h | ⟨b, o, h1, h2, h3⟩
  · exact .inl h
  · exact .inr ⟨b, o, h1, Nat.lt_of_lt_of_le h2 hB, fun j hj => by
      obtain ⟨A', c, hs⟩ := h3 j hj
      exact ⟨A', c, ⟨hs.c0, hs.c1, hs.hA.mono hB, hs.cap, hs.lim⟩⟩⟩
theorem SegsAt.below (h : SegsAt w B A l) (hb : Below B w w') : SegsAt w' B A l := h.keep fun _ hp => hb.cell hp
theorem SegsAt.on (h : SegsAt w w.heap.size A l) (hb : Below w.heap.size w w') : SegsAt w' w'.heap.size A l := (h.below hb).mono hb.size
theorem SegsAt.drewN (h : SegsAt w B A l) (n : Nat) : SegsAt (w.drewN n) B A l := h.keep fun _ _ => rfl
theorem SegsAt.alloc (h : SegsAt w B A l) (hB : B ≤ w.heap.size) (o : Obj) : SegsAt (w.alloc o) B A l := h.keep fun p hp => World.cell?_alloc_lt w o p (by omega)
/-- The first few. -/
theorem SegsAt.take (h : SegsAt w B A l) (k : Nat) : SegsAt w B A (l.take k) := by
  rcases h with rfl | ⟨b, o, h1, h2, h3⟩
  · exact .inl (by simp)
  · refine .inr ⟨b, o, h1, h2, fun j hj => ?_⟩
    have hl : j < l.length := by rw [List.length_take] at hj; omega
    rw [List.getElem_take]
    exact h3 j hl
/-- The rest. -/
theorem SegsAt.drop {b o : Nat} (h : SegsAt w B (some ⟨b, o, none⟩) l) (k : Nat) : SegsAt w B (some ⟨b, o + k * 2, none⟩) (l.drop k) := by
  rcases h with rfl | ⟨b', o', h1, h2, h3⟩
  · exact .inl (by simp)
  · injection h1 with h1
    injection h1 with e1 e2
    subst e1 e2
    refine .inr ⟨_, _, rfl, h2, fun j hj => ?_⟩
    rw [List.length_drop] at hj
    obtain ⟨A', c, hs⟩ := h3 (k + j) (by omega)
    rw [List.getElem_drop]
    have e : b = b := rfl
    refine ⟨A', c, ?_⟩
    rw [show o + k * 2 + j * 2 = o + (k + j) * 2 by omega]
    exact hs
end

/-! ### segments of the call's own -/
/-- A segment and where its records stand. -/
structure Sx where
  s : Sp
  A : Option Addr
  c : Nat
def Sx.v (x : Sx) : Value := .slice x.A x.s.rs.length x.c
def xcells (x : Sx) : List Value := [.int .i64 x.s.b, .slice x.A x.s.rs.length x.c]
def xflat (l : List Sx) : List Value := l.flatMap xcells
theorem xflat_cons (s : Sx) (l : List Sx) : xflat (s :: l) = xcells s ++ xflat l := by unfold xflat; rw [List.flatMap_cons]
theorem xflat_len (l : List Sx) : (xflat l).length = l.length * 2 := by
  induction l with
  | nil => rfl
  | cons p t ih => rw [xflat_cons, List.length_append, ih]; show 2 + _ = (t.length + 1) * 2; omega
theorem xflat_snoc (l : List Sx) (p : Sx) : xflat (l ++ [p]) = xflat l ++ xcells p := by unfold xflat; rw [List.flatMap_append]; simp
theorem xflat_at (l : List Sx) (j i : Nat) (hj : j < l.length) (hi : i < 2) : (xflat l)[j * 2 + i]? = (xcells l[j])[i]? := by
  induction l generalizing j with
  | nil => simp at hj
  | cons p t ih =>
    rw [xflat_cons]
    cases j with
    | zero =>
      rw [List.getElem?_append_left (by show _ < 2; omega)]
      simp
    | succ m =>
      rw [List.getElem?_append_right (by show 2 ≤ _; omega)]
      have : (m + 1) * 2 + i - (xcells p).length = m * 2 + i := by show _ - 2 = _; omega
      rw [this]
      exact ih m (by simpa using hj)
theorem xone_cells (p : Sx) : ∀ u ∈ xcells p, u.oneCell' = true := by
  have h : (xcells p).all (fun u => u.oneCell') = true := rfl
  exact List.all_eq_true.1 h
theorem row_slice {w : World} {base e size n : Nat} {v : Value} {xs : List Value} (h : w.ownsRow base e size v n xs) : ∃ A c, v = .slice A n c := by
  rcases h.2 with ⟨hv, hn⟩ | ⟨g, cap, cur, hv, _⟩
  · exact ⟨none, 0, by rw [hv, hn]⟩
  · exact ⟨_, cap, hv⟩
theorem row_cap {w : World} {B e size n c : Nat} {A : Option Addr} {xs : List Value} (h : w.ownsRow B e size (.slice A n c) n xs) : n ≤ c := by
  rcases h.2 with ⟨hv, hn⟩ | ⟨g, cap, cur, hv, _, _, hle, _⟩
  · omega
  · injection hv with _ _ hc
    omega
theorem own_one {w : World} {B e size n : Nat} {v : Value} {xs : List Value} (h : w.ownsRow B e size v n xs) : v.oneCell' = true := by
  obtain ⟨A, c, rfl⟩ := row_slice h
  rfl
/-- Two rows of cells of other kinds stand in other blocks: one grows, the other stays. -/
theorem rows_apart {w w' : World} {B B' e e' sz sz' n n' : Nat} {v v' : Value} {xs xs' : List Value} (h : w.ownsRow B e sz v n xs) (h' : w.ownsRow B' e' sz' v' n' xs') (he : e ≠ e') (hg : w.grownBy w' v'.ownBlock) : w'.ownsRow B e sz v n xs := by
  refine h.kept hg ?_
  rcases h.2 with ⟨rfl, _⟩ | ⟨g, cap, cur, rfl, _, hgg, _⟩
  · exact .inl rfl
  · right
    rcases h'.2 with ⟨rfl, _⟩ | ⟨g', cap', cur', rfl, _, hgg', _⟩
    · simp [Value.ownBlock]
    · intro e1
      have e2 : g = g' := by simpa [Value.ownBlock] using e1
      subst e2
      rw [hgg] at hgg'
      injection hgg' with e3
      injection e3 with _ e4
      exact he e4
/-- Two rows of the call's own that are apart. -/
def Apart (x y : Sx) : Prop := ∀ g, x.v.ownBlock = some g → y.v.ownBlock ≠ some g
/-- Segments of the call's own: a row of them, and a row of records for each. -/
structure OwnS (w : World) (B : Nat) (v : Value) (l : List Sp) (xs : List Sx) : Prop where
  map : xs.map (·.s) = l
  row : w.ownsRow B 48 2 v l.length (xflat xs)
  own : ∀ x ∈ xs, w.ownsRow B 51 6 x.v x.s.rs.length (flat x.s.rs) ∧ x.s.rs.length * 64 ≤ 140737488351232
  off : ∀ i j (hi : i < xs.length) (hj : j < xs.length), i ≠ j → Apart xs[i] xs[j]
section
variable {w w' : World} {B B' : Nat} {v : Value} {l : List Sp} {xs : List Sx}
theorem OwnS.nil (w : World) (B : Nat) : OwnS w B (.slice none 0 0) [] [] := ⟨rfl, World.ownsRow_nil _ _ _ _, (fun x h => by cases h), (fun i j hi => by simp at hi)⟩
theorem OwnS.len (h : OwnS w B v l xs) : xs.length = l.length := by rw [← h.map, List.length_map]
theorem OwnS.below (h : OwnS w B v l xs) (hb : Below w.heap.size w w') : OwnS w' B v l xs :=
  ⟨h.map, own_below h.row hb, fun x hx => ⟨own_below (h.own x hx).1 hb, (h.own x hx).2⟩, h.off⟩
theorem OwnS.mono (h : OwnS w B' v l xs) (hB : B ≤ B') : OwnS w B v l xs :=
  ⟨h.map, own_mono h.row hB, fun x hx => ⟨own_mono (h.own x hx).1 hB, (h.own x hx).2⟩, h.off⟩
/-- One more, whose records were made later, when the row has grown. -/
theorem OwnS.snoc {w1 : World} {b : Int} {rs : List Rc} {A : Option Addr} {c : Nat} {v' : Value} {o : Obj} (h : OwnS w1 B v l xs) (hB : B ≤ w1.heap.size) (hb : Below w1.heap.size w1 w) (hr : w.ownsRow w1.heap.size 51 6 (.slice A rs.length c) rs.length (flat rs)) (hl : rs.length * 64 ≤ 140737488351232)
    (hgrow : (w.alloc o).grownBy w' v.ownBlock) (hrow : w'.ownsRow B 48 2 v' (l.length + 1) (xflat xs ++ [.int .i64 b, .slice A rs.length c])) :
    OwnS w' B v' (l ++ [⟨b, rs⟩]) (xs ++ [⟨⟨b, rs⟩, A, c⟩]) := by
  have hne : 51 ≠ 48 := seg_not_rec
  have ha : Below w.heap.size w (w.alloc o) := (Below.refl _ _).alloc (Nat.le_refl _) _
  have hrow0 := own_below (own_below h.row hb) ha
  refine ⟨by rw [List.map_append, h.map]; rfl, ?_, ?_, ?_⟩
  · rw [List.length_append, xflat_snoc]
    exact hrow
  · intro x hx
    rcases List.mem_append.1 hx with hx | hx
    · exact ⟨rows_apart (own_below (own_below (h.own x hx).1 hb) ha) hrow0 hne hgrow, (h.own x hx).2⟩
    · obtain rfl : x = ⟨⟨b, rs⟩, A, c⟩ := by simpa using hx
      exact ⟨rows_apart (own_below (own_mono hr hB) ha) hrow0 hne hgrow, hl⟩
  · have hold : ∀ i (hi : i < xs.length) g, xs[i].v.ownBlock = some g → g < w1.heap.size := fun i hi g hg => ((h.own xs[i] (List.getElem_mem hi)).1.lt g hg).2
    have hnew : ∀ g, (Value.slice A rs.length c).ownBlock = some g → w1.heap.size ≤ g := fun g hg => (hr.lt g hg).1
    intro i j hi hj hij
    rw [List.length_append, List.length_cons, List.length_nil] at hi hj
    intro g hgi hgj
    by_cases ci : i < xs.length
    · rw [List.getElem_append_left ci] at hgi
      by_cases cj : j < xs.length
      · rw [List.getElem_append_left cj] at hgj
        exact h.off i j ci cj hij g hgi hgj
      · rw [List.getElem_append_right (by omega)] at hgj
        have h1 := hold i ci g hgi
        have h2 := hnew g (by simpa [Sx.v] using hgj)
        omega
    · rw [List.getElem_append_right (by omega)] at hgi
      by_cases cj : j < xs.length
      · rw [List.getElem_append_left cj] at hgj
        have h1 := hold j cj g hgj
        have h2 := hnew g (by simpa [Sx.v] using hgi)
        omega
      · omega
theorem SegsAt.of_own {A : Option Addr} {c n : Nat} (h : OwnS w B (.slice A n c) l xs) : SegsAt w w.heap.size A l := by
  have hlen := h.len
  rcases h.row.2 with ⟨hv, hn⟩ | ⟨g, cap, cur, hv, _, hg, hle, _, hsz, htk⟩
  · exact .inl (List.eq_nil_of_length_eq_zero hn)
  · have hv' := hv
    injection hv with hA hn _
    subst hA
    subst hn
    have key := h.row.cells (g := g) rfl
    have hlt := (Array.getElem?_eq_some_iff.1 hg).1
    refine .inr ⟨g, 0, rfl, hlt, fun j hj => ?_⟩
    have hjx : j < xs.length := by omega
    have hx := h.own xs[j] (List.getElem_mem hjx)
    have hs : xs[j].s = l[j] := by
      have := h.map
      subst this
      rw [List.getElem_map]
    have hz : ∀ i u, i < 2 → (xcells xs[j])[i]? = some u → w.cell? ⟨g, 0 + j * 2 + i, none⟩ = some u := fun i u hi hu => by
      rw [Nat.zero_add]
      have := key (j * 2 + i) u (by rw [xflat_at xs j i hjx hi]; exact hu)
      rwa [add_new] at this
    refine ⟨xs[j].A, xs[j].c, ?_⟩
    rw [← hs]
    exact ⟨hz 0 _ (by omega) rfl, hz 1 _ (by omega) rfl, .of_own hx.1, row_cap hx.1, hx.2⟩
end
/-- Segments of the call's own, handed back. -/
def GivesSegs (l : List Sp) (w : World) (e : Ending) (w' : World) : Prop := ∃ A c xs, e = .returned (.slice A l.length c) ∧ OwnS w' w.heap.size (.slice A l.length c) l xs ∧ Below w.heap.size w w'
theorem info_smore : (Try.prog.info? 48).map (fun i => (i.zero, i.size, i.bytes)) = some (some (.agg #[.int .i64 0, .slice none 0 0]), 2, 32) := by kernel_rfl
theorem takeS_snoc {l : List Sp} {k : Nat} (h : k < l.length) : l.take (k + 1) = l.take k ++ [⟨l[k].b, l[k].rs⟩] := List.take_succ_eq_append_getElem h
/-- The first few of a slice of segments. -/
theorem segs_front (A : Option Addr) (n c m : Nat) (w : World) (h : m ≤ c) :
    (Instr.sliceAt 23 (.slice A n c) none (some (.int .i64 (m : Int))) none).run Try.prog w = .ok (.slice A m c) w := by
  have h1 : (m : Int) ≤ (c : Int) := by omega
  have hm : ∀ a : Addr, a.add 0 = a := fun a => by obtain ⟨b, o, s⟩ := a; unfold Addr.add; split <;> simp_all
  cases A with
  | none =>
    go_simp
  | some a =>
    go_simp
    try simp [hm]
/-- The rest of a slice of segments. -/
theorem segs_rest (A : Option Addr) (n c k : Nat) (hA : k = 0 ∨ ∃ b o, A = some ⟨b, o, none⟩) (h : k ≤ n) (hc : n ≤ c) :
    ∃ A', (∀ w, (Instr.sliceAt 23 (.slice A n c) (some (.int .i64 (k : Int))) none none).run Try.prog w = .ok (.slice A' (n - k) (c - k)) w) ∧ ∀ (W : World) (B : Nat) (l : List Sp), l.length = n → SegsAt W B A l → SegsAt W B A' (l.drop k) := by
  have h1 : (k : Int) ≤ (n : Int) := by omega
  have h2 : (n : Int) ≤ (c : Int) := by omega
  rcases hA with rfl | ⟨b, o, rfl⟩
  · refine ⟨A, fun w => ?_, fun W B rs _ h => by rwa [List.drop_zero]⟩
    cases A with
    | none =>
      go_simp
    | some a =>
      go_simp
  · by_cases c0 : c = k
    · subst c0
      refine ⟨some ⟨b, o, none⟩, fun w => ?_, fun W B rs hn _ => .inl (List.drop_of_length_le (by omega))⟩
      go_simp
    · by_cases k0 : k = 0
      · subst k0
        refine ⟨some ⟨b, o, none⟩, fun w => ?_, fun W B rs _ h => by rwa [List.drop_zero]⟩
        go_simp
        try simp [Addr.add]
      · refine ⟨some ⟨b, o + k * 2, none⟩, fun w => ?_, fun W B rs _ h => ?_⟩
        · have hk6 : ¬ k * 2 = 0 := by omega
          go_simp
          try simp [Addr.add, k0, c0, hk6]
        · exact h.drop k
/-- The middle of a slice of segments. -/
theorem segs_mid (A : Option Addr) (n c k m : Nat) (hA : k = 0 ∨ ∃ b o, A = some ⟨b, o, none⟩) (h : k < m) (hm : m ≤ n) (hc : n ≤ c) :
    ∃ A', (∀ w, (Instr.sliceAt 23 (.slice A n c) (some (.int .i64 (k : Int))) (some (.int .i64 (m : Int))) none).run Try.prog w = .ok (.slice A' (m - k) (c - k)) w) ∧ ∀ (W : World) (B : Nat) (l : List Sp), l.length = n → SegsAt W B A l → SegsAt W B A' ((l.take m).drop k) := by
  have h1 : (k : Int) ≤ (m : Int) := by omega
  have h2 : (m : Int) ≤ (c : Int) := by omega
  rcases hA with rfl | ⟨b, o, rfl⟩
  · refine ⟨A, fun w => ?_, fun W B rs _ h => by rw [List.drop_zero]; exact h.take m⟩
    have hz : ∀ a : Addr, a.add 0 = a := fun a => by obtain ⟨b, o, s⟩ := a; unfold Addr.add; split <;> simp_all
    cases A with
    | none =>
      go_simp
    | some a =>
      go_simp
      try simp [hz]
  · have c0 : ¬ c = k := by omega
    by_cases k0 : k = 0
    · subst k0
      refine ⟨some ⟨b, o, none⟩, fun w => ?_, fun W B rs _ h => by rw [List.drop_zero]; exact h.take m⟩
      go_simp
      try simp [Addr.add]
    · refine ⟨some ⟨b, o + k * 2, none⟩, fun w => ?_, fun W B rs _ h => ?_⟩
      · have hk6 : ¬ k * 2 = 0 := by omega
        go_simp
        try simp [Addr.add, k0, c0, hk6]
      · exact (h.take m).drop k
end Go.Proofs.Ytgadgmcabjnjjaa.Kpd
/- A region that draws its order, walked by hand under a word S that holds behind every operation: one operation at a time. No program. -/
namespace Go.Proofs.Ytgadgmcabjnjjaa
open Go.RowKit

section
variable {P : Program} {ops : Array Oper} {Q : Exit → Act → World → Prop} {S : World → Prop}
/-- May number i be taken first? -/
def takeB (ops : Array Oper) (listed : Array Bool) (i : Nat) : Bool := Region.noSelect ops && (Region.free .any ops listed i && (Region.ready .any ops listed).contains i)
/-- What yields one value in every world that meets S is taken first. -/
theorem take_op {fuel : Nat} {listed : Array Bool} {a : Act} {w : World} (i d : Nat) {oi : Oper} (v : Value) (hd : oi.dst = some d) (hi : ops[i]? = some oi) (hc : takeB ops listed i = true) (hQ : ∀ c a w, Q (.panic c) (a.put oi.dst v) w → Q (.panic c) a w)
    (hw : Region.wanted oi (yielded ops a.tmps) = true) (hS : S w) (hv : ∀ w, S w → (execOp a.eval oi).run P w = .ok (.value v) w)
    (h : wpAnyH P .any ops Q S fuel (listed.setIfInBounds i true) (a.put (some d) v) w) : wpAnyH P .any ops Q S (fuel + 1) listed a w := by
  rw [← hd] at h
  unfold takeB at hc
  simp only [Bool.and_eq_true] at hc
  exact wpAnyH_take hi hc.1 hc.2.1 hc.2.2 hQ (.inl ⟨hw, hv⟩) hS h
/-- A variable read whole is taken first. -/
theorem take_load {fuel : Nat} {listed : Array Bool} {a : Act} {w : World} (i d : Nat) {oi : Oper} (ty : TypeId) (x : Operand) (b off : Nat) (V : Value) (hd : oi.dst = some d) (hi : ops[i]? = some oi) (hc : takeB ops listed i = true) (hQ : ∀ c a w, Q (.panic c) (a.put oi.dst V) w → Q (.panic c) a w)
    (hw : Region.wanted oi (yielded ops a.tmps) = true) (hS : S w) (ho : oi.op = .load ty x) (hx : a.eval x = .pointer (some ⟨b, off, none⟩)) (hv : ∀ w, S w → (loadVar ty ⟨b, off, none⟩).run P w = .ok V w)
    (h : wpAnyH P .any ops Q S fuel (listed.setIfInBounds i true) (a.put (some d) V) w) : wpAnyH P .any ops Q S (fuel + 1) listed a w :=
  take_op i d V hd hi hc hQ hw hS (fun w' hS' => by
    unfold execOp
    simp only [ho, hx, Instr.loadAt, Instr.sureAddr, Sem.run_bind, Sem.run_pure, Result.andThen_ok, hv w' hS']) h
/-- The one operation that may come up. -/
theorem only_op {fuel : Nat} {listed : Array Bool} {a : Act} {w : World} (i : Nat) {oi : Oper} (hi : ops[i]? = some oi) (hr : Region.ready .any ops listed = [i]) (hw : Region.wanted oi (yielded ops a.tmps) = true)
    (h : Oper.wp P oi a w (fun a' w' => S w' ∧ wpAnyH P .any ops Q S fuel (listed.setIfInBounds i true) a' w') Q) : wpAnyH P .any ops Q S (fuel + 1) listed a w := by
  refine wpAnyH_all (rs := [i]) hr (by simp) fun j hj => ?_
  rw [List.mem_singleton] at hj
  subst hj
  exact wpOp_step hi (fun K' hK => by
    rw [if_pos hw]
    exact Oper.wp_mono (fun a' w' h' => hK a' w' h') h)
/-- The two operations that may come up. -/
theorem two_ops {fuel : Nat} {listed : Array Bool} {a : Act} {w : World} (i j : Nat) {oi oj : Oper} (hi : ops[i]? = some oi) (hj : ops[j]? = some oj) (hr : Region.ready .any ops listed = [i, j]) (hw : Region.wanted oi (yielded ops a.tmps) = true) (hw2 : Region.wanted oj (yielded ops a.tmps) = true)
    (h : Oper.wp P oi a w (fun a' w' => S w' ∧ wpAnyH P .any ops Q S fuel (listed.setIfInBounds i true) a' w') Q) (h2 : Oper.wp P oj a w (fun a' w' => S w' ∧ wpAnyH P .any ops Q S fuel (listed.setIfInBounds j true) a' w') Q) : wpAnyH P .any ops Q S (fuel + 1) listed a w := by
  refine wpAnyH_all (rs := [i, j]) hr (by simp) fun k hk => ?_
  rcases List.mem_cons.1 hk with rfl | hk
  · exact wpOp_step hi (fun K' hK => by
      rw [if_pos hw]
      exact Oper.wp_mono (fun a' w' h' => hK a' w' h') h)
  · rw [List.mem_singleton] at hk
    subst hk
    exact wpOp_step hj (fun K' hK => by
      rw [if_pos hw2]
      exact Oper.wp_mono (fun a' w' h' => hK a' w' h') h2)
/-- A call that comes up, whatever it hands back. -/
theorem wp_call_ex {o : Oper} {a : Act} {w : World} {K : Act → World → Prop} (d : Nat) (f : FuncId) (vs : Array Value) (R : Ending → World → Prop) (hd : o.dst = some d) (hx : (execOp a.eval o).run P w = .ok (.enter f vs) w)
    (hc : Calls P f vs w R) (h : ∀ e w', R e w' → ∃ v, e = .returned v ∧ K (a.put (some d) v) w') : Oper.wp P o a w K Q := by
  unfold Oper.wp
  rw [← hd] at h
  rw [hx]
  exact hc.mono fun e w' hR => by
    obtain ⟨v, rfl, hk⟩ := h e w' hR
    exact hk
/-- A call that comes up. -/
theorem wp_call {o : Oper} {a : Act} {w : World} {K : Act → World → Prop} (d : Nat) (f : FuncId) (vs : Array Value) (v : Value) (R : World → Prop) (hd : o.dst = some d) (hx : (execOp a.eval o).run P w = .ok (.enter f vs) w)
    (hc : Calls P f vs w fun e w' => e = .returned v ∧ R w') (h : ∀ w', R w' → K (a.put (some d) v) w') : Oper.wp P o a w K Q := by
  unfold Oper.wp
  rw [← hd] at h
  rw [hx]
  exact hc.mono fun e w' ⟨he, hR⟩ => by subst he; exact h w' hR
/-- A value that is made. -/
theorem wp_made {o : Oper} {a : Act} {w w' : World} {K : Act → World → Prop} (d : Nat) (v : Value) (hd : o.dst = some d) (hx : (execOp a.eval o).run P w = .ok (.value v) w') (h : K (a.put (some d) v) w') : Oper.wp P o a w K Q := by
  unfold Oper.wp
  rw [← hd] at h
  rw [hx]
  exact h
end
end Go.Proofs.Ytgadgmcabjnjjaa
/- A region walked by hand under a word S: behind an operation more may be known, and S be made stronger. No program. -/
namespace Go.Proofs.Ytgadgmcabjnjjaa
open Go.RowKit

theorem held_stronger {P : Program} {md : Region.Mode} {ops : Array Oper} {Q : Exit → Act → World → Prop} {S S' : World → Prop} (hS : ∀ w, S' w → S w) :
    ∀ (fuel : Nat) (listed : Array Bool) (a : Act) (w : World), wpAnyH P md ops Q S' fuel listed a w → wpAnyH P md ops Q S fuel listed a w
  | 0, _, _, _, h => h
  | fuel + 1, _, _, _, h => ⟨h.1, fun i hi => wpOp_mono (fun a' w' h' => ⟨hS _ h'.1, held_stronger hS fuel _ a' w' h'.2⟩) (h.2 i hi)⟩
theorem wp_store_one {P : Program} {o : Oper} {a : Act} {w w' : World} {K : Act → World → Prop} {Q : Exit → Act → World → Prop} (ty : TypeId) (x y : Operand) (ho : o.op = .store ty x y) (p V : Value)
    (hx : a.eval x = p) (hy : a.eval y = V) (hr : (Instr.storeAt ty p V).run P w = .ok () w') (h : K (a.put o.dst undef) w') : Oper.wp P o a w K Q := by
  unfold Oper.wp execOp
  simp only [ho, hx, hy, Sem.run_bind, Sem.run_pure, Result.andThen_ok, hr]
  exact h
theorem put_none (a : Act) (v : Value) : a.put none v = a := rfl
theorem wp_store_none {P : Program} {o : Oper} {a : Act} {w w' : World} {K : Act → World → Prop} {Q : Exit → Act → World → Prop} (ty : TypeId) (x y : Operand) (ho : o.op = .store ty x y) (hd : o.dst = none) (p V : Value)
    (hx : a.eval x = p) (hy : a.eval y = V) (hr : (Instr.storeAt ty p V).run P w = .ok () w') (h : K a w') : Oper.wp P o a w K Q := by
  refine wp_store_one ty x y ho p V hx hy hr ?_
  rw [hd]
  exact h
end Go.Proofs.Ytgadgmcabjnjjaa
/- Package keep: the end of a row that is one segment longer. -/
namespace Go.Proofs.Ytgadgmcabjnjjaa.Kpd
open Go.RowKit Go.Lib Rcd

def earr (r b t : Int) : Array Value := #[.int .i64 r, .int .i64 b, .int .i64 t]
def eagg (e : En) : Value := .agg (earr e.r e.b e.t)
theorem info_end : (Try.prog.info? 61).map (·.size) = some 3 := by kernel_rfl
theorem load_end {W : World} {g : Nat} {cs : Array Value} (h : Blk W g cs) (h9 : cs.size = 3) : (loadVar 61 ⟨g, 0, none⟩).run Try.prog W = .ok (.agg cs) W :=
  run_loadVar_mid W g 0 61 cs.toList _ (fun j v hv => by rw [Nat.zero_add, h.cell j]; rw [← hv]; simp) Try.underlying61 rfl (by rw [info_end]; simp [h9])
theorem first_at {t : Int} {rs : List Rc} (h : 0 < rs.length) : firstB t rs = decide (t ≤ (rs[0]'h).t) := by
  cases rs with
  | nil => simp at h
  | cons x l => rfl
/-- What comes of a segment behind an end: the end that it leaves and whether it may stand there. -/
inductive WithIs (e : En) (s : Sp) : En → Bool → Prop
  | bad (h : segB s.b s.rs = false) : WithIs e s ⟨0, 0, 0⟩ false
  | low (h : segB s.b s.rs = true) (h2 : s.b < e.b) : WithIs e s ⟨0, 0, 0⟩ false
  | many (h : segB s.b s.rs = true) (h2 : e.b ≤ s.b) (h3 : 200 < e.r + (s.rs.length : Int)) : WithIs e s ⟨0, 0, 0⟩ false
  | none_ (h : segB s.b s.rs = true) (h2 : e.b ≤ s.b) (h3 : e.r + (s.rs.length : Int) ≤ 200) (h4 : s.rs = []) : WithIs e s ⟨e.r, s.b, e.t⟩ true
  | some_ (n : Nat) (h : segB s.b s.rs = true) (h2 : e.b ≤ s.b) (h3 : e.r + (s.rs.length : Int) ≤ 200) (h4 : n + 1 = s.rs.length) : WithIs e s ⟨e.r + (s.rs.length : Int), (s.rs[n]'(by omega)).o + 1, (s.rs[n]'(by omega)).t⟩ (decide (e.t ≤ (s.rs[0]'(by omega)).t))
theorem with_ex (e : En) (s : Sp) : ∃ e' X, WithIs e s e' X ∧ okB e s = X ∧ (X = true → e' = e.next s) := by
  cases h1 : segB s.b s.rs with
  | false => exact ⟨_, _, .bad h1, by unfold okB; rw [h1]; rfl, fun h => by cases h⟩
  | true =>
    by_cases h2 : e.b ≤ s.b
    · by_cases h3 : e.r + (s.rs.length : Int) ≤ 200
      · cases hl : s.rs.length with
        | zero =>
          have h4 := List.eq_nil_of_length_eq_zero hl
          refine ⟨_, _, .none_ h1 h2 h3 h4, ok_iff.2 ⟨h1, h2, h3, by rw [h4]; rfl⟩, fun _ => ?_⟩
          unfold En.next
          rw [h4]; rfl
        | succ n =>
          refine ⟨_, _, .some_ n h1 h2 h3 hl.symm, ?_, fun _ => ?_⟩
          · unfold okB
            rw [h1, decide_eq_true h2, decide_eq_true h3, first_at (by omega)]; rfl
          · unfold En.next
            rw [last_all (n := n) hl.symm]
      · exact ⟨_, _, .many h1 h2 (by omega), by unfold okB; rw [h1, decide_eq_true h2, decide_eq_false h3]; rfl, fun h => by cases h⟩
    · exact ⟨_, _, .low h1 (by omega), by unfold okB; rw [h1, decide_eq_false h2]; rfl, fun h => by cases h⟩
/-- Three boxes of the call's own, and all that was there. -/
@[irreducible] def Tro (w : World) (p : Nat) (cs ds es : Array Value) (W : World) : Prop := Blk W p cs ∧ Blk W (p + 1) ds ∧ Blk W (p + 1 + 1) es ∧ Below w.heap.size w W ∧ w.heap.size ≤ p
section
variable {w W W' : World} {p : Nat} {cs ds es : Array Value}
theorem Tro.mk (k : Blk W p cs ∧ Blk W (p + 1) ds ∧ Blk W (p + 1 + 1) es ∧ Below w.heap.size w W ∧ w.heap.size ≤ p) : Tro w p cs ds es W := by unfold Tro; exact k
theorem Tro.out (k : Tro w p cs ds es W) : Blk W p cs ∧ Blk W (p + 1) ds ∧ Blk W (p + 1 + 1) es ∧ Below w.heap.size w W ∧ w.heap.size ≤ p := by unfold Tro at k; exact k
theorem Tro.below (k : Tro w p cs ds es W) (hb : Below W.heap.size W W') : Tro w p cs ds es W' := by
  obtain ⟨h1, h2, h3, h4, h5⟩ := k.out
  exact .mk ⟨h1.below hb, h2.below hb, h3.below hb, h4.trans (hb.mono h4.size), h5⟩
theorem Tro.drewN (k : Tro w p cs ds es W) (n : Nat) : Tro w p cs ds es (W.drewN n) := k.below (below_drewN (Below.refl _ _) n)
theorem Tro.cell1 (k : Tro w p cs ds es W) (i : Nat) : W.cell? ⟨p, i, none⟩ = cs[i]? := k.out.1.cell i
theorem Tro.cell2 (k : Tro w p cs ds es W) (i : Nat) : W.cell? ⟨p + 1, i, none⟩ = ds[i]? := k.out.2.1.cell i
theorem Tro.bel (k : Tro w p cs ds es W) : Below w.heap.size w W := k.out.2.2.2.1
theorem Tro.row3 (k : Tro w p cs ds es W) (xs : Array Value) : Tro w p cs ds xs (W.setRow (p + 1 + 1) xs) := by
  obtain ⟨h1, h2, h3, h4, h5⟩ := k.out
  exact .mk ⟨setRow_blk h1 (by omega) xs, setRow_blk h2 (by omega) xs, h3.row xs, below_row h4 (by omega) xs, h5⟩
theorem Tro.new (w : World) (T T' T2 : TypeId) (cs ds es : Array Value) : Tro w w.heap.size cs ds es (((w.alloc (.cells cs T)).alloc (.cells ds T')).alloc (.cells es T2)) := by
  have h1 := Duo.new w T T' cs ds
  obtain ⟨k1, k2, k3, _, _⟩ := h1.out
  have h2 := Blk.new ((w.alloc (.cells cs T)).alloc (.cells ds T')) T2 es
  refine .mk ⟨k1.alloc _, k2.alloc _, by simpa using h2, k3.alloc k3.size _, Nat.le_refl _⟩
end

set_option maxRecDepth 100000 in
set_option maxHeartbeats 8000000 in
/-- end.with. -/
theorem with_is (e : En) (s : Sp) (N : Nat) (A : Option Addr) (c B : Nat) (e' : En) (X : Bool) (w : World) (hN : s.rs.length = N) (hm : N ≤ 9223372036854775807) (hcap : N ≤ c) (hr : 0 ≤ e.r ∧ e.r ≤ 1000000) (hB : B ≤ w.heap.size) (h : RecsAt w B A s.rs) (hX : WithIs e s e' X) :
    Calls Try.prog 32 #[eagg e, .agg #[.int .i64 s.b, .slice A N c]] w fun en w' => en = .returned (.tuple #[eagg e', .bool X]) ∧ Below w.heap.size w w' := by
  have hT := Tro.new w 61 48 61 (earr e.r e.b e.t) (sarr s.b A N c) (earr 0 0 0)
  have HC := Lib.hid (fun E W (hb : Below w.heap.size w W) (hE : segE s.b s.rs = E) => SegCheck_is s.b s.rs N A c B E W hN hm hcap (Nat.le_trans hB hb.size) (h.below (hb.mono hB)) hE)
  have H := Lib.hid (h.mono hB)
  unfold eagg
  obtain ⟨er, eb, et⟩ := e
  obtain ⟨sb, rs⟩ := s
  obtain ⟨er', eb', et'⟩ := e'
  dsimp only at hr hT HC H hN ⊢
  obtain ⟨r1, r2⟩ := hr
  obtain ⟨p, hp⟩ : ∃ p, w.heap.size = p := ⟨_, rfl⟩
  obtain ⟨W0, hW⟩ : ∃ W0, ((w.alloc (.cells (earr er eb et) 61)).alloc (.cells (sarr sb A N c) 48)).alloc (.cells (earr 0 0 0) 61) = W0 := ⟨_, rfl⟩
  rw [hW, hp] at hT
  unfold sarr earr at hT hW
  unfold earr
  have T0 := Lib.hid hT
  have HW := Lib.hid hW
  have HP := Lib.hid hp
  have HNN := Lib.hid hN
  clear hT hW hp h hN hB
  have n2 : (N : Int) < 9223372036854775808 := by omega
  have d1 : W0.cell? ⟨p + 1, 1, none⟩ = some (.slice A N c) := T0.out.cell2 1
  have hld := load_seg T0.out.out.2.1 rfl
  cases hX with
  | bad h1 =>
    have HC1 := Lib.hid (fun W hb => HC.out 1 W hb (segE_no (by dsimp only at h1; rw [h1]; decide)))
    clear HC h1 H
    go_enter Try.func32, Try.ntmps32
    go_upto_region 1 with fail
    rw [HW.out, HP.out]
    clear HW HP
    go_wp2_with (refine wpList_load_any (by rfl) 48 (.tmp 3) rfl (p + 1) 0 rfl _ hld ?_; simp only [Act.put])
    refine (HC1.out _ T0.out.bel).mono ?_
    rintro e w1 ⟨rfl, hb1⟩
    have T1 := Lib.hid (T0.out.below hb1)
    clear T0 hb1 d1 hld HC1
    have HB := Lib.hid T1.out.out.2.2.1
    have T2 := Lib.hid (T1.out.row3 #[.int .i64 0, .int .i64 0, .int .i64 0])
    clear T1
    go_wp2_with (refine wpList_store_whole rfl 61 (.tmp 4) (.tmp 28) rfl (p + 1 + 1) _ rfl rfl _ HB.out info_end rfl (by simp [Value.oneCell']) ?_; simp only [Act.put])
    refine bodyPost_ret (results_cell2 Try.results32 rfl (load_end T2.out.out.2.2.1 rfl) rfl) rfl ⟨rfl, T2.out.bel⟩
  | low h1 h2 =>
    have HC1 := Lib.hid (fun W hb => HC.out 0 W hb (segE_yes h1))
    clear HC h1 H
    dsimp only at h2
    go_enter Try.func32, Try.ntmps32
    go_upto_region 1 with fail
    rw [HW.out, HP.out]
    clear HW HP
    go_wp2_with (refine wpList_load_any (by rfl) 48 (.tmp 3) rfl (p + 1) 0 rfl _ hld ?_; simp only [Act.put])
    refine (HC1.out _ T0.out.bel).mono ?_
    rintro e w1 ⟨rfl, hb1⟩
    have T1 := Lib.hid (T0.out.below hb1)
    clear T0 hb1 d1 hld HC1
    have d0 : w1.cell? ⟨p + 1, 0, none⟩ = some (.int .i64 sb) := T1.out.cell2 0
    have d2 : w1.cell? ⟨p, 1, none⟩ = some (.int .i64 eb) := T1.out.cell1 1
    have HB := Lib.hid T1.out.out.2.2.1
    have T2 := Lib.hid (T1.out.row3 #[.int .i64 0, .int .i64 0, .int .i64 0])
    clear T1
    go_wp2_with (refine wpList_store_whole rfl 61 (.tmp 4) (.tmp 28) rfl (p + 1 + 1) _ rfl rfl _ HB.out info_end rfl (by simp [Value.oneCell']) ?_; simp only [Act.put])
    refine bodyPost_ret (results_cell2 Try.results32 rfl (load_end T2.out.out.2.2.1 rfl) rfl) rfl ⟨rfl, T2.out.bel⟩
  | many h1 h2 h3 =>
    have HC1 := Lib.hid (fun W hb => HC.out 0 W hb (segE_yes h1))
    dsimp only at h2 h3
    rw [HNN.out] at h3
    have hN2 := seg_len h1
    dsimp only at hN2
    rw [HNN.out] at hN2
    clear HC h1 H
    have e2 : ¬ sb < eb := by omega
    go_enter Try.func32, Try.ntmps32
    go_upto_region 1 with fail
    rw [HW.out, HP.out]
    clear HW HP
    go_wp2_with (refine wpList_load_any (by rfl) 48 (.tmp 3) rfl (p + 1) 0 rfl _ hld ?_; simp only [Act.put])
    refine (HC1.out _ T0.out.bel).mono ?_
    rintro e w1 ⟨rfl, hb1⟩
    have T1 := Lib.hid (T0.out.below hb1)
    clear T0 hb1 d1 hld HC1
    have d0 : w1.cell? ⟨p + 1, 0, none⟩ = some (.int .i64 sb) := T1.out.cell2 0
    have d2 : w1.cell? ⟨p, 1, none⟩ = some (.int .i64 eb) := T1.out.cell1 1
    have d3 : w1.cell? ⟨p, 0, none⟩ = some (.int .i64 er) := T1.out.cell1 0
    have HB := Lib.hid T1.out.out.2.2.1
    have T2 := Lib.hid (T1.out.row3 #[.int .i64 0, .int .i64 0, .int .i64 0])
    clear T1
    go_wp2_with (refine wpList_store_whole rfl 61 (.tmp 4) (.tmp 28) rfl (p + 1 + 1) _ rfl rfl _ HB.out info_end rfl (by simp [Value.oneCell']) ?_; simp only [Act.put])
    refine bodyPost_ret (results_cell2 Try.results32 rfl (load_end T2.out.out.2.2.1 rfl) rfl) rfl ⟨rfl, T2.out.bel⟩
  | none_ h1 h2 h3 h4 =>
    have HC1 := Lib.hid (fun W hb => HC.out 0 W hb (segE_yes h1))
    dsimp only at h2 h3 h4
    subst h4
    obtain rfl : N = 0 := by rw [← HNN.out]; rfl
    clear HC h1 H HNN
    simp only [List.length_nil, Int.natCast_zero, Int.add_zero] at h3
    have e2 : ¬ sb < eb := by omega
    go_enter Try.func32, Try.ntmps32
    go_upto_region 1 with fail
    rw [HW.out, HP.out]
    clear HW HP
    go_wp2_with (refine wpList_load_any (by rfl) 48 (.tmp 3) rfl (p + 1) 0 rfl _ hld ?_; simp only [Act.put])
    refine (HC1.out _ T0.out.bel).mono ?_
    rintro e w1 ⟨rfl, hb1⟩
    have T1 := Lib.hid (T0.out.below hb1)
    clear T0 hb1 d1 hld HC1
    have d0 : w1.cell? ⟨p + 1, 0, none⟩ = some (.int .i64 sb) := T1.out.cell2 0
    have d2 : w1.cell? ⟨p, 1, none⟩ = some (.int .i64 eb) := T1.out.cell1 1
    have d3 : w1.cell? ⟨p, 0, none⟩ = some (.int .i64 er) := T1.out.cell1 0
    have d4 : w1.cell? ⟨p, 2, none⟩ = some (.int .i64 et) := T1.out.cell1 2
    have HB := Lib.hid T1.out.out.2.2.1
    have T2 := Lib.hid (T1.out.row3 #[.int .i64 er, .int .i64 sb, .int .i64 et])
    clear T1
    go_wp2_with (refine wpList_store_whole rfl 61 (.tmp 4) (.tmp 37) rfl (p + 1 + 1) _ rfl rfl _ HB.out info_end rfl (by simp [Value.oneCell']) ?_; simp only [Act.put])
    refine bodyPost_ret (results_cell2 Try.results32 rfl (load_end T2.out.out.2.2.1 rfl) rfl) rfl ⟨rfl, T2.out.bel⟩
  | some_ n h1 h2 h3 h4 =>
    have HC1 := Lib.hid (fun W hb => HC.out 0 W hb (segE_yes h1))
    dsimp only at h1 h2 h3 h4
    have hN2 := seg_len h1
    rw [HNN.out] at h3 h4 hN2
    have hmay1 := seg_may h1 _ (List.getElem_mem (show n < rs.length by rw [HNN.out]; omega))
    clear HC h1
    obtain ⟨b0, o0, rfl, hb0, hc⟩ := H.out.some_ (by rw [HNN.out]; omega)
    have HR := Lib.hid (hc n (by rw [HNN.out]; omega))
    have HR0 := Lib.hid (hc 0 (by rw [HNN.out]; omega))
    clear hc H
    generalize hf : rs[0]'(by rw [HNN.out]; omega) = fr at HR0 ⊢
    generalize rs[n]'(by rw [HNN.out]; omega) = a at HR hmay1 ⊢
    clear hf
    obtain ⟨fo, ft, fk, fb, fq, fg⟩ := fr
    obtain ⟨xo, xt, xk, xb, xq, xg⟩ := a
    obtain ⟨m1, m2, m3, m4, _⟩ := (may_iff _).1 hmay1
    dsimp only at m1 m2 m3 m4 ⊢
    have hbp : b0 < p := by rw [← HP.out]; exact hb0
    have e2 : ¬ sb < eb := by omega
    have e3 : ((N : Int) == 0) = false := by rw [beq_eq_false_iff_ne]; omega
    have e4 : (N == 0) = false := by rw [beq_eq_false_iff_ne]; omega
    have e5 : (N : Int) - 1 = (n : Int) := by omega
    have e6 : (n : Int) < (N : Int) := by omega
    have E7 := Lib.hid (show (0 : Int) < (N : Int) ∧ 0 < N ∧ IntKind.i64.wrap (er + (N : Int)) = er + (N : Int) ∧ IntKind.i64.wrap (xo + 1) = xo + 1 from ⟨by omega, by omega, IntWalk.i64_in _ ⟨by omega, by omega⟩, IntWalk.i64_in _ ⟨by omega, by omega⟩⟩)
    clear hmay1 h4 hb0 m1 m2 m3 m4 hm n2 hN2 hcap
    go_enter Try.func32, Try.ntmps32
    go_upto_region 1 with fail
    rw [HW.out, HP.out]
    clear HW
    go_wp2_with (refine wpList_load_any (by rfl) 48 (.tmp 3) rfl (p + 1) 0 rfl _ hld ?_; simp only [Act.put])
    refine (HC1.out _ T0.out.bel).mono ?_
    rintro e w1 ⟨rfl, hb1⟩
    have T1 := Lib.hid (T0.out.below hb1)
    clear T0 hb1 d1 hld HC1
    have d0 : w1.cell? ⟨p + 1, 0, none⟩ = some (.int .i64 sb) := T1.out.cell2 0
    have d1 : w1.cell? ⟨p + 1, 1, none⟩ = some (.slice (some ⟨b0, o0, none⟩) N c) := T1.out.cell2 1
    have d2 : w1.cell? ⟨p, 1, none⟩ = some (.int .i64 eb) := T1.out.cell1 1
    have d3 : w1.cell? ⟨p, 0, none⟩ = some (.int .i64 er) := T1.out.cell1 0
    have d4 : w1.cell? ⟨p, 2, none⟩ = some (.int .i64 et) := T1.out.cell1 2
    obtain ⟨c0, c1, c2, c3, c4, c5⟩ := HR.out.keep (w' := w1) (fun i => T1.out.bel.cell (p := ⟨b0, i, none⟩) (by rw [HP.out]; exact hbp))
    dsimp only at c0 c1 c2 c3 c4 c5
    generalize str xk = kz at c2
    generalize str xb = bz at c3
    have T1_lt : p + 1 + 1 < w1.heap.size := T1.out.out.2.2.1.lt
    obtain ⟨g9, W4, hg9, hW4, hbn, hbx, hbl⟩ := box_new T1.out.bel (rarr xo xt kz bz xq xg)
    have T2 := Lib.hid (T1.out.below hbl)
    have HBN := Lib.hid hbn
    have HBX := Lib.hid hbx
    unfold zcells at hW4
    have HW4 := Lib.hid hW4
    clear hbn hbx hbl hW4 T1
    unfold rarr at HBX T2
    go_upto_region 7 with (rw [HW4.out]; refine wpList_store_whole rfl 51 (.tmp 7) (.tmp 43) rfl g9 _ rfl rfl zcells HBN.out info_rec rfl (by simp [Value.oneCell']) ?_; simp only [Act.put])
    have hg3 : p + 1 + 1 < g9 := by rw [← hg9]; have := HP.out; exact T1_lt
    clear HW4 HBN d0 d1 d2 d3 d4 c0 c1 c2 c3 c4 c5 hg9
    generalize World.setRow _ _ _ = w5 at HBX T2 ⊢
    have d1 : w5.cell? ⟨p + 1, 1, none⟩ = some (.slice (some ⟨b0, o0, none⟩) N c) := T2.out.cell2 1
    have d3 : w5.cell? ⟨p, 0, none⟩ = some (.int .i64 er) := T2.out.cell1 0
    have d4 : w5.cell? ⟨p, 2, none⟩ = some (.int .i64 et) := T2.out.cell1 2
    have f0 : w5.cell? ⟨g9, 0, none⟩ = some (.int .i64 xo) := HBX.out.cell 0
    have f1 : w5.cell? ⟨g9, 1, none⟩ = some (.int .i64 xt) := HBX.out.cell 1
    obtain ⟨_, k1, _, _, _, _⟩ := HR0.out.keep (w' := w5) (fun i => T2.out.bel.cell (p := ⟨b0, i, none⟩) (by rw [HP.out]; exact hbp))
    dsimp only at k1
    rw [Nat.zero_mul, Nat.add_zero] at k1
    have HD := Lib.hid (And.intro d1 (And.intro d3 (And.intro d4 (And.intro f0 (And.intro f1 k1)))))
    clear HBX HR HR0 d1 d3 d4 f0 f1 k1
    obtain ⟨e7, e8, w2, w3⟩ := E7.out
    have T3 := Lib.hid (T2.out.below (below_drewN (Below.refl w5.heap.size w5) 1))
    change Hid (Tro w p _ _ _ w5.drew) at T3
    clear E7 T2
    refine wp_region_held_drew (S := fun W => W.cell? ⟨p + 1, 1, none⟩ = some (.slice (some ⟨b0, o0, none⟩) N c) ∧ W.cell? ⟨p, 0, none⟩ = some (.int .i64 er) ∧ W.cell? ⟨p, 2, none⟩ = some (.int .i64 et) ∧ W.cell? ⟨g9, 0, none⟩ = some (.int .i64 xo) ∧ W.cell? ⟨g9, 1, none⟩ = some (.int .i64 xt) ∧ W.cell? ⟨b0, o0 + 1, none⟩ = some (.int .i64 ft)) (by kernel_rfl) HD.out (fun hS => ?_)
    clear HD
    generalize w5.drew = w6 at T3 hS ⊢
    refine take_op 0 44 (.pointer (some ⟨p, 0, none⟩)) rfl rfl (by kernel_rfl) (fun _ _ _ h => h) (by rfl) hS (fun w' hS' => ?hv0) ?hh0
    case hv0 => (obtain ⟨s1, s2, s3, s4, s5, s6⟩ := hS'; go_simp; (try with_reducible rfl); (try omega))
    simp only [Act.put, List.setIfInBounds_toArray, List.set_cons_zero, List.set_cons_succ]
    refine take_op 1 45 (.int .i64 er) rfl rfl (by kernel_rfl) (fun _ _ _ h => h) (by rfl) hS (fun w' hS' => ?hv1) ?hh1
    case hv1 => (obtain ⟨s1, s2, s3, s4, s5, s6⟩ := hS'; go_simp; (try with_reducible rfl); (try omega))
    simp only [Act.put, List.setIfInBounds_toArray, List.set_cons_zero, List.set_cons_succ]
    refine take_op 2 46 (.int .i64 (N : Int)) rfl rfl (by kernel_rfl) (fun _ _ _ h => h) (by rfl) hS (fun w' hS' => ?hv2) ?hh2
    case hv2 => (obtain ⟨s1, s2, s3, s4, s5, s6⟩ := hS'; go_simp; (try with_reducible rfl); (try omega))
    simp only [Act.put, List.setIfInBounds_toArray, List.set_cons_zero, List.set_cons_succ]
    refine take_op 3 47 (.int .i64 (er + (N : Int))) rfl rfl (by kernel_rfl) (fun _ _ _ h => h) (by rfl) hS (fun w' hS' => ?hv3) ?hh3
    case hv3 => (obtain ⟨s1, s2, s3, s4, s5, s6⟩ := hS'; go_simp; (try with_reducible rfl); (try omega))
    simp only [Act.put, List.setIfInBounds_toArray, List.set_cons_zero, List.set_cons_succ]
    refine take_op 4 48 (.pointer (some ⟨g9, 0, none⟩)) rfl rfl (by kernel_rfl) (fun _ _ _ h => h) (by rfl) hS (fun w' hS' => ?hv4) ?hh4
    case hv4 => (obtain ⟨s1, s2, s3, s4, s5, s6⟩ := hS'; go_simp; (try with_reducible rfl); (try omega))
    simp only [Act.put, List.setIfInBounds_toArray, List.set_cons_zero, List.set_cons_succ]
    refine take_op 5 49 (.int .i64 xo) rfl rfl (by kernel_rfl) (fun _ _ _ h => h) (by rfl) hS (fun w' hS' => ?hv5) ?hh5
    case hv5 => (obtain ⟨s1, s2, s3, s4, s5, s6⟩ := hS'; go_simp; (try with_reducible rfl); (try omega))
    simp only [Act.put, List.setIfInBounds_toArray, List.set_cons_zero, List.set_cons_succ]
    refine take_op 6 50 (.int .i64 (xo + 1)) rfl rfl (by kernel_rfl) (fun _ _ _ h => h) (by rfl) hS (fun w' hS' => ?hv6) ?hh6
    case hv6 => (obtain ⟨s1, s2, s3, s4, s5, s6⟩ := hS'; go_simp; (try with_reducible rfl); (try omega))
    simp only [Act.put, List.setIfInBounds_toArray, List.set_cons_zero, List.set_cons_succ]
    refine take_op 7 51 (.pointer (some ⟨g9, 1, none⟩)) rfl rfl (by kernel_rfl) (fun _ _ _ h => h) (by rfl) hS (fun w' hS' => ?hv7) ?hh7
    case hv7 => (obtain ⟨s1, s2, s3, s4, s5, s6⟩ := hS'; go_simp; (try with_reducible rfl); (try omega))
    simp only [Act.put, List.setIfInBounds_toArray, List.set_cons_zero, List.set_cons_succ]
    refine take_op 8 52 (.int .i64 xt) rfl rfl (by kernel_rfl) (fun _ _ _ h => h) (by rfl) hS (fun w' hS' => ?hv8) ?hh8
    case hv8 => (obtain ⟨s1, s2, s3, s4, s5, s6⟩ := hS'; go_simp; (try with_reducible rfl); (try omega))
    simp only [Act.put, List.setIfInBounds_toArray, List.set_cons_zero, List.set_cons_succ]
    refine take_op 9 53 (.agg #[.int .i64 (er + (N : Int)), .int .i64 (xo + 1), .int .i64 xt]) rfl rfl (by kernel_rfl) (fun _ _ _ h => h) (by rfl) hS (fun w' hS' => ?hv9) ?hh9
    case hv9 => (obtain ⟨s1, s2, s3, s4, s5, s6⟩ := hS'; go_simp; (try with_reducible rfl); (try omega))
    simp only [Act.put, List.setIfInBounds_toArray, List.set_cons_zero, List.set_cons_succ]
    refine take_op 10 54 (.pointer (some ⟨p + 1, 1, none⟩)) rfl rfl (by kernel_rfl) (fun _ _ _ h => h) (by rfl) hS (fun w' hS' => ?hv10) ?hh10
    case hv10 => (obtain ⟨s1, s2, s3, s4, s5, s6⟩ := hS'; go_simp; (try with_reducible rfl); (try omega))
    simp only [Act.put, List.setIfInBounds_toArray, List.set_cons_zero, List.set_cons_succ]
    refine take_op 11 55 (.slice (some ⟨b0, o0, none⟩) N c) rfl rfl (by kernel_rfl) (fun _ _ _ h => h) (by rfl) hS (fun w' hS' => ?hv11) ?hh11
    case hv11 => (obtain ⟨s1, s2, s3, s4, s5, s6⟩ := hS'; go_simp; (try with_reducible rfl); (try omega))
    simp only [Act.put, List.setIfInBounds_toArray, List.set_cons_zero, List.set_cons_succ]
    refine take_op 12 56 (.pointer (some ⟨b0, o0, none⟩)) rfl rfl (by kernel_rfl) (fun _ _ _ h => h) (by rfl) hS (fun w' hS' => ?hv12) ?hh12
    case hv12 => (obtain ⟨s1, s2, s3, s4, s5, s6⟩ := hS'; go_simp; (try with_reducible rfl); (try omega))
    simp only [Act.put, List.setIfInBounds_toArray, List.set_cons_zero, List.set_cons_succ]
    refine take_op 13 57 (.pointer (some ⟨b0, o0 + 1, none⟩)) rfl rfl (by kernel_rfl) (fun _ _ _ h => h) (by rfl) hS (fun w' hS' => ?hv13) ?hh13
    case hv13 => (obtain ⟨s1, s2, s3, s4, s5, s6⟩ := hS'; go_simp; (try with_reducible rfl); (try omega))
    simp only [Act.put, List.setIfInBounds_toArray, List.set_cons_zero, List.set_cons_succ]
    refine take_op 14 58 (.int .i64 ft) rfl rfl (by kernel_rfl) (fun _ _ _ h => h) (by rfl) hS (fun w' hS' => ?hv14) ?hh14
    case hv14 => (obtain ⟨s1, s2, s3, s4, s5, s6⟩ := hS'; go_simp; (try with_reducible rfl); (try omega))
    simp only [Act.put, List.setIfInBounds_toArray, List.set_cons_zero, List.set_cons_succ]
    refine take_op 15 59 (.pointer (some ⟨p, 2, none⟩)) rfl rfl (by kernel_rfl) (fun _ _ _ h => h) (by rfl) hS (fun w' hS' => ?hv15) ?hh15
    case hv15 => (obtain ⟨s1, s2, s3, s4, s5, s6⟩ := hS'; go_simp; (try with_reducible rfl); (try omega))
    simp only [Act.put, List.setIfInBounds_toArray, List.set_cons_zero, List.set_cons_succ]
    refine take_op 16 60 (.int .i64 et) rfl rfl (by kernel_rfl) (fun _ _ _ h => h) (by rfl) hS (fun w' hS' => ?hv16) ?hh16
    case hv16 => (obtain ⟨s1, s2, s3, s4, s5, s6⟩ := hS'; go_simp; (try with_reducible rfl); (try omega))
    simp only [Act.put, List.setIfInBounds_toArray, List.set_cons_zero, List.set_cons_succ]
    refine take_op 17 61 (.bool (decide (et ≤ ft))) rfl rfl (by kernel_rfl) (fun _ _ _ h => h) (by rfl) hS (fun w' hS' => ?hv17) ?hh17
    case hv17 => (obtain ⟨s1, s2, s3, s4, s5, s6⟩ := hS'; go_simp; (try with_reducible rfl); (try omega))
    simp only [Act.put, List.setIfInBounds_toArray, List.set_cons_zero, List.set_cons_succ]
    obtain ⟨Tz, hz⟩ := T3.out.out.2.2.1
    have T4 := Lib.hid (T3.out.row3 #[.int .i64 (er + (N : Int)), .int .i64 (xo + 1), .int .i64 xt])
    have hS2 : (fun W => W.cell? ⟨p + 1, 1, none⟩ = some (.slice (some ⟨b0, o0, none⟩) N c) ∧ W.cell? ⟨p, 0, none⟩ = some (.int .i64 er) ∧ W.cell? ⟨p, 2, none⟩ = some (.int .i64 et) ∧ W.cell? ⟨g9, 0, none⟩ = some (.int .i64 xo) ∧ W.cell? ⟨g9, 1, none⟩ = some (.int .i64 xt) ∧ W.cell? ⟨b0, o0 + 1, none⟩ = some (.int .i64 ft)) (w6.setRow (p + 1 + 1) #[.int .i64 (er + (N : Int)), .int .i64 (xo + 1), .int .i64 xt]) := by
      obtain ⟨s1, s2, s3, s4, s5, s6⟩ := hS
      have ho : ∀ q i, q ≠ p + 1 + 1 → (w6.setRow (p + 1 + 1) #[.int .i64 (er + (N : Int)), .int .i64 (xo + 1), .int .i64 xt]).cell? ⟨q, i, none⟩ = w6.cell? ⟨q, i, none⟩ := fun q i hq => World.cell?_of_block (setRow_other w6 (p + 1 + 1) q _ hq)
      exact ⟨(ho _ _ (by omega)).trans s1, (ho _ _ (by omega)).trans s2, (ho _ _ (by omega)).trans s3, (ho _ _ (by omega)).trans s4, (ho _ _ (by omega)).trans s5, (ho _ _ (by omega)).trans s6⟩
    refine only_op 18 rfl (by kernel_rfl) (by rfl) (wp_store_row 61 (.tmp 4) (.tmp 53) rfl (p + 1 + 1) #[.int .i64 (er + (N : Int)), .int .i64 (xo + 1), .int .i64 xt] rfl rfl Tz _ hz info_end rfl (by simp [Value.oneCell']) ⟨hS2, ?_⟩)
    (try simp only [put_none])
    refine take_op 19 5 (.bool (decide (et ≤ ft))) rfl rfl (by kernel_rfl) (fun _ _ _ h => h) (by rfl) hS2 (fun w' hS' => ?hv19) ?hh19
    case hv19 => (go_simp; try with_reducible rfl)
    simp only [Act.put, List.setIfInBounds_toArray]
    refine wpAnyH_done (by kernel_rfl) ?_ _
    clear hS hS2
    go_wp2_with fail
    rw [HNN.out]
    refine bodyPost_ret (results_cell2 Try.results32 rfl (load_end T4.out.out.2.2.1 rfl) rfl) rfl ⟨rfl, T4.out.bel⟩
end Go.Proofs.Ytgadgmcabjnjjaa.Kpd
/- The document's own answer: whether a record may be. A plain record. -/
namespace Go.Proofs.Ytgadgmcabjnjjaa
open Go.RowKit Go.Lib Rcd

set_option maxRecDepth 100000 in
set_option maxHeartbeats 1000000 in
theorem RNum_is (n b : Int) (X : Bool) (w : World) (h : decide (0 ≤ n ∧ n ≤ b) = X) :
    Calls Try.prog 29 #[.int .i64 n, .int .i64 b] w fun e w' => e = .returned (.bool X) ∧ w = w' := by
  have HX := Lib.hid h
  clear h
  by_cases h1 : 0 ≤ n
  · by_cases h2 : n ≤ b
    · go_enter Try.func29, Try.ntmps29
      go_wp2
      go_ret
      exact ⟨ret_bool (by rw [← HX.out]; exact (decide_eq_true (by omega)).symm), rfl⟩
    · go_enter Try.func29, Try.ntmps29
      go_wp2
      go_ret
      exact ⟨ret_bool (by rw [← HX.out]; exact (decide_eq_false (by omega)).symm), rfl⟩
  · go_enter Try.func29, Try.ntmps29
    go_wp2
    go_ret
    exact ⟨ret_bool (by rw [← HX.out]; exact (decide_eq_false (by omega)).symm), rfl⟩

theorem may_of_e {r : Rc} {E : Int} (h : mayE r = E) : mayB r = decide (E = 0) := by
  unfold mayE at h
  cases hm : mayB r with
  | true => rw [hm] at h; exact (decide_eq_true h.symm).symm
  | false => rw [hm] at h; exact (decide_eq_false (by rw [← h]; decide)).symm
set_option maxRecDepth 100000 in
set_option maxHeartbeats 4000000 in
theorem RRec_parts (o t : Int) (k b : ByteArray) (q : Int) (g : Bool) (X : Bool) (w : World) (hX : mayB ⟨o, t, k.data.toList, b.data.toList, q, g⟩ = X) :
    Calls Try.prog 22 #[.agg (rarr o t k b q g)] w fun e w' => e = .returned (.bool X) ∧ Below w.heap.size w w' := by
  unfold rarr
  rcases may_ways o t k b q g with ⟨h1, h⟩ | ⟨h1, h2, h⟩ | ⟨h1, h2, h3, h⟩ | ⟨h1, h2, h3, h4, h⟩ | ⟨h1, h2, h3, h4, h5, h⟩ | ⟨h1, h2, h3, h4, h5, h6, h⟩ | ⟨h1, h2, h3, h4, h5, h6, h7, h⟩ | ⟨h1, h2, h3, h4, h5, h6, h7, h⟩
  · obtain rfl : X = false := by rw [← hX, may_of_e h]; rfl
    have Ho := Lib.hid h1
    clear h hX h1
    go_enter Try.func22, Try.ntmps22
    go_wp2_with (go_at_call 29; refine (RNum_is _ _ _ _ (by first | with_reducible exact Ho.out)).mono ?_; rintro e w' ⟨rfl, rfl⟩)
    go_ret
    exact ⟨rfl, (Below.refl _ _).alloc (Nat.le_refl _) _⟩
  · obtain rfl : X = false := by rw [← hX, may_of_e h]; rfl
    have Ho := Lib.hid h1
    have Ht := Lib.hid h2
    clear h hX h1 h2
    go_enter Try.func22, Try.ntmps22
    go_wp2_with (go_at_call 29; refine (RNum_is _ _ _ _ (by first | with_reducible exact Ho.out | with_reducible exact Ht.out)).mono ?_; rintro e w' ⟨rfl, rfl⟩)
    go_ret
    exact ⟨rfl, (Below.refl _ _).alloc (Nat.le_refl _) _⟩
  · obtain rfl : X = false := by rw [← hX, may_of_e h]; rfl
    have Ho := Lib.hid h1
    have Ht := Lib.hid h2
    clear h hX h1 h2
    go_enter Try.func22, Try.ntmps22
    go_wp2_with (go_at_call 29; refine (RNum_is _ _ _ _ (by first | with_reducible exact Ho.out | with_reducible exact Ht.out)).mono ?_; rintro e w' ⟨rfl, rfl⟩)
    go_ret
    exact ⟨rfl, (Below.refl _ _).alloc (Nat.le_refl _) _⟩
  · obtain rfl : X = false := by rw [← hX, may_of_e h]; rfl
    have Ho := Lib.hid h1
    have Ht := Lib.hid h2
    clear h hX h1 h2
    go_enter Try.func22, Try.ntmps22
    go_wp2_with (go_at_call 29; refine (RNum_is _ _ _ _ (by first | with_reducible exact Ho.out | with_reducible exact Ht.out)).mono ?_; rintro e w' ⟨rfl, rfl⟩)
    go_ret
    exact ⟨rfl, (Below.refl _ _).alloc (Nat.le_refl _) _⟩
  · obtain rfl : X = false := by rw [← hX, may_of_e h]; rfl
    have Ho := Lib.hid h1
    have Ht := Lib.hid h2
    have Hq := Lib.hid h5
    clear h hX h1 h2 h5
    go_enter Try.func22, Try.ntmps22
    go_wp2_with (go_at_call 29; refine (RNum_is _ _ _ _ (by first | with_reducible exact Ho.out | with_reducible exact Ht.out | with_reducible exact Hq.out)).mono ?_; rintro e w' ⟨rfl, rfl⟩)
    go_ret
    exact ⟨rfl, (Below.refl _ _).alloc (Nat.le_refl _) _⟩
  · obtain rfl : X = true := by rw [← hX, may_of_e h]; rfl
    have Ho := Lib.hid h1
    have Ht := Lib.hid h2
    have Hq := Lib.hid h5
    clear h hX h1 h2 h5
    subst h6
    cases g with
    | true =>
      go_enter Try.func22, Try.ntmps22
      go_wp2_with (go_at_call 29; refine (RNum_is _ _ _ _ (by first | with_reducible exact Ho.out | with_reducible exact Ht.out | with_reducible exact Hq.out)).mono ?_; rintro e w' ⟨rfl, rfl⟩)
      go_ret
      exact ⟨rfl, (Below.refl _ _).alloc (Nat.le_refl _) _⟩
    | false =>
      go_enter Try.func22, Try.ntmps22
      go_wp2_with (go_at_call 29; refine (RNum_is _ _ _ _ (by first | with_reducible exact Ho.out | with_reducible exact Ht.out | with_reducible exact Hq.out)).mono ?_; rintro e w' ⟨rfl, rfl⟩)
      go_ret
      exact ⟨rfl, (Below.refl _ _).alloc (Nat.le_refl _) _⟩
  · obtain rfl : X = true := by rw [← hX, may_of_e h]; rfl
    have Ho := Lib.hid h1
    have Ht := Lib.hid h2
    have Hq := Lib.hid h5
    clear h hX h1 h2 h5
    obtain ⟨hi1, hi2⟩ := ne_empty h6
    clear h6
    subst h7
    go_enter Try.func22, Try.ntmps22
    go_wp2_with (go_at_call 29; refine (RNum_is _ _ _ _ (by first | with_reducible exact Ho.out | with_reducible exact Ht.out | with_reducible exact Hq.out)).mono ?_; rintro e w' ⟨rfl, rfl⟩)
    go_ret
    exact ⟨rfl, (Below.refl _ _).alloc (Nat.le_refl _) _⟩
  · obtain rfl : X = false := by rw [← hX, may_of_e h]; rfl
    have Ho := Lib.hid h1
    have Ht := Lib.hid h2
    have Hq := Lib.hid h5
    clear h hX h1 h2 h5
    obtain ⟨hi1, hi2⟩ := ne_empty h6
    clear h6
    subst h7
    go_enter Try.func22, Try.ntmps22
    go_wp2_with (go_at_call 29; refine (RNum_is _ _ _ _ (by first | with_reducible exact Ho.out | with_reducible exact Ht.out | with_reducible exact Hq.out)).mono ?_; rintro e w' ⟨rfl, rfl⟩)
    go_ret
    exact ⟨rfl, (Below.refl _ _).alloc (Nat.le_refl _) _⟩
/-- fairwayref10.Rec. -/
theorem RRec_is (r : Rc) (X : Bool) (w : World) (hX : mayB r = X) :
    Calls Try.prog 22 #[ragg r] w fun e w' => e = .returned (.bool X) ∧ Below w.heap.size w w' :=
  RRec_parts r.o r.t (str r.k) (str r.b) r.q r.g X w (by rw [str_data, str_data]; exact hX)

set_option maxRecDepth 100000 in
set_option maxHeartbeats 1000000 in
theorem R_is (o t : Int) (k b : ByteArray) (w : World) : Calls Try.prog 23 #[.int .i64 o, .int .i64 t, .string k, .string b] w fun e w' => e = .returned (.agg (rarr o t k b 1 false)) ∧ Below w.heap.size w w' := by
  have hbn := Blk.new w 51 zcells
  have hbl : Below w.heap.size w (w.alloc (.cells zcells 51)) := (Below.refl _ _).alloc (Nat.le_refl _) _
  obtain ⟨W0, hW⟩ : ∃ W0, w.alloc (.cells zcells 51) = W0 := ⟨_, rfl⟩
  obtain ⟨p, hp⟩ : ∃ p, w.heap.size = p := ⟨_, rfl⟩
  rw [hW] at hbn hbl
  have HR := Lib.hid (show Blk (W0.setRow p (rarr o t k b 1 false)) p (rarr o t k b 1 false) ∧ Below w.heap.size w (W0.setRow p (rarr o t k b 1 false)) by rw [← hp]; exact ⟨hbn.row _, below_row hbl (Nat.le_refl _) _⟩)
  rw [hp] at hbn
  have HBN := Lib.hid hbn
  unfold zcells at hW
  have HW := Lib.hid hW
  clear hW hbn hbl
  unfold rarr at HR ⊢
  go_enter Try.func23, Try.ntmps23
  go_upto_region 1 with fail
  rw [HW.out]
  clear HW
  clear hp
  go_wp2_with (refine wpList_store_whole rfl 51 (.tmp 8) (.tmp 13) rfl p _ rfl rfl _ HBN.out info_rec rfl (by simp [Value.oneCell']) ?_; simp only [Act.put])
  refine bodyPost_ret (results_rec Try.results23 rfl HR.out.1 rfl) rfl ⟨rfl, HR.out.2⟩
end Go.Proofs.Ytgadgmcabjnjjaa
