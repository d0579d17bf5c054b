/- A row of bytes of the call's own, one bit of it turned; two rows of the call's own, one of them grown; records one behind the other and where each ends. -/
import Derived.Test.YtimoncjdfmfojaaDoorRcWakes
import Derived.Test.YtimoncjdfmfojaaDoorRcScan
import Derived.Test.YtimoncjdfmfojaaDoorSumSum
import Derived.StillTailTactics
namespace Go.Proofs.YtimoncjdfmfojaaDoor
open Go.RowKit Go.Lib Vbi Rcd Crc

theorem BytesAt.below {W W' : World} {g : Nat} {l : List UInt8} (h : BytesAt W g l) (hb : Below W.heap.size W W') : BytesAt W' g l :=
  ⟨Nat.lt_of_lt_of_le h.1 hb.size, fun j hj => ⟨(hb.cell (p := ⟨g, j, none⟩) h.1).trans (h.2 j hj).1, (hb.frozen (p := ⟨g, j, none⟩) h.1).trans (h.2 j hj).2⟩⟩
theorem BytesAt.put {W : World} {g : Nat} {l : List UInt8} (h : BytesAt W g l) (a : Nat) (v : UInt8) : BytesAt (W.setCell ⟨g, a, none⟩ (.int .u8 ((v.toNat : Nat) : Int))) g (l.set a v) := by
  refine ⟨by simpa [World.setCell] using h.1, fun j hj => ?_⟩
  have hj' : j < l.length := by simpa using hj
  have h2 := h.2 j hj'
  refine ⟨?_, ?_⟩
  · by_cases hja : j = a
    · subst hja
      rw [World.cell?_setCell_same W _ _ h2.1, List.getD_eq_getElem?_getD, List.getElem?_set_self hj']
      rfl
    · rw [World.cell?_setCell_other W _ _ _ (by intro e; injection e with _ e _; exact hja e.symm), h2.1, List.getD_eq_getElem?_getD, List.getD_eq_getElem?_getD, List.getElem?_set_ne (Ne.symm hja)]
  · rw [World.frozen?_setCell]
    exact h2.2
/-- The row as a string. -/
theorem BytesAt.conv {W : World} {g n c : Nat} {l : List UInt8} (h : BytesAt W g l) (hn : l.length = n) :
    (convert 50 9 (.slice (some ⟨g, 0, none⟩) n c)).run Tryd.prog W = .ok (.string (str l)) W := by
  subst hn
  refine run_convert_bytes_back W 50 9 5 ⟨g, 0, none⟩ c l Tryd.underlying50 Tryd.underlying5 Tryd.underlying9 fun j hj => ?_
  rw [add_new, (h.2 j hj).1, List.getD_eq_getElem?_getD, List.getElem?_eq_getElem hj]
  rfl
theorem turn_byte (v : UInt8) (t : Nat) (ht : t < 8) : ∃ v' : UInt8, v'.toNat = v.toNat ^^^ 2 ^ t ∧ bits .xor .u8 ((v.toNat : Nat) : Int) (2 ^ t % 256) = ((v'.toNat : Nat) : Int) := by
  have h2 : 2 ^ t < 256 := Nat.lt_of_le_of_lt (Nat.pow_le_pow_right (n := 2) (by omega) (show t ≤ 7 by omega)) (by decide)
  have e1 : (v ^^^ UInt8.ofNat (2 ^ t)).toNat = v.toNat ^^^ 2 ^ t := by
    rw [UInt8.toNat_xor, UInt8.toNat_ofNat_of_lt' (by exact h2)]
  refine ⟨v ^^^ UInt8.ofNat (2 ^ t), e1, ?_⟩
  have e2 : ((2 : Int) ^ t % 256) = ((2 ^ t : Nat) : Int) := by
    have h3 : ((2 ^ t : Nat) : Int) = (2 : Int) ^ t := Int.natCast_pow 2 t
    rw [← h3]
    exact Int.emod_eq_of_lt (Int.natCast_nonneg _) (by omega)
  rw [e2, u8_xor_nat v.toNat (2 ^ t) (by have := v.toNat_lt; omega) h2, e1]
theorem Within_ex (n m : Int) (w : World) (h2 : 0 < m) (h3 : m ≤ 9223372036854775807) :
    Calls Tryd.prog 22 #[.int .i64 n, .int .i64 m] w fun e w' => ∃ K : Nat, e = .returned (.int .i64 (K : Int)) ∧ (K : Int) < m ∧ w = w' := by
  obtain ⟨K, hK, hm⟩ := within_nat n m h2
  exact (Within_is n m K w h2 h3 hK).mono fun _ _ h => ⟨K, h.1, hm, h.2⟩
/-- Two rows of cells of other kinds stand in other blocks: one grows, the other stays. -/
theorem own_apart {w w' : World} {B B' e e' sz sz' n n' : Nat} {v v' : Value} {xs xs' : List Value} (h : w.ownsRow B e sz v n xs) (h' : w.ownsRow B' e' sz' v' n' xs') (he : e ≠ e') (hg : w.grownBy w' v'.ownBlock) : w'.ownsRow B e sz v n xs := by
  refine h.kept hg ?_
  rcases h.2 with ⟨rfl, _⟩ | ⟨g, cap, cur, rfl, _, hgg, _⟩
  · exact .inl rfl
  · right
    rcases h'.2 with ⟨rfl, _⟩ | ⟨g', cap', cur', rfl, _, hgg', _⟩
    · simp [Value.ownBlock]
    · intro e1
      have e2 : g = g' := by simpa [Value.ownBlock] using e1
      subst e2
      rw [hgg] at hgg'
      injection hgg' with e3
      injection e3 with _ e4
      exact he e4
theorem info_int : (Tryd.prog.info? 3).map (fun i => (i.zero, i.size, i.bytes)) = some (some (.int .i64 0), 1, 8) := by kernel_rfl

/-- Where each of so many records ends. -/
def endsZ (rs : List Rc) : List Int := (List.range rs.length).map fun k => ((allL (rs.take (k + 1))).length : Int)
theorem ends_len (rs : List Rc) : (endsZ rs).length = rs.length := by simp [endsZ]
theorem ends_snoc (rs : List Rc) (r : Rc) : endsZ (rs ++ [r]) = endsZ rs ++ [((allL (rs ++ [r])).length : Int)] := by
  unfold endsZ
  rw [List.length_append, List.length_cons, List.length_nil, Nat.zero_add, List.range_succ, List.map_append]
  congr 1
  · apply List.map_congr_left
    intro k hk
    have hk' : k < rs.length := by simpa using hk
    rw [List.take_append_of_le_length (by omega)]
  · simp only [List.map_cons, List.map_nil]
    rw [List.take_of_length_le (by simp)]
theorem ends_at (rs : List Rc) (k : Nat) (h : k < rs.length) : (endsZ rs)[k]? = some ((allL (rs.take (k + 1))).length : Int) := by
  unfold endsZ
  rw [List.getElem?_map, List.getElem?_range h]; rfl
theorem rec_long {r : Rc} (h : mayB r = true) : (recL r).length ≤ 2100 := by
  obtain ⟨_, _, _, _, h5, h6, _⟩ := (may_iff r).1 h
  rw [rec_len]; omega
theorem all_mono (rs : List Rc) (a b : Nat) (h : a ≤ b) : (allL (rs.take a)).length ≤ (allL (rs.take b)).length := by
  have e : rs.take b = rs.take a ++ (rs.take b).drop a := by
    have := List.take_append_drop a (rs.take b)
    rw [List.take_take, Nat.min_eq_left h] at this
    exact this.symm
  rw [e]
  unfold allL
  rw [List.flatMap_append, List.length_append]
  omega
/-- What a cut of records one behind the other tells, and where those end that are whole. -/
theorem cut_facts (rs : List Rc) (hm : ∀ r ∈ rs, mayB r = true) (m : Nat) (hn : m ≤ (allL rs).length) : ∃ (L : List Rc) (EN : Nat) (all : Bool),
    scan ((allL rs).take m) = (L, EN, all) ∧ L = rs.take L.length ∧ L.length ≤ rs.length ∧ EN = (allL (rs.take L.length)).length ∧ decide (EN = m) = all ∧
    (∀ q, q < L.length → ∃ ev : Nat, (endsZ rs)[q]? = some (ev : Int) ∧ ev = (allL (rs.take (q + 1))).length ∧ ev ≤ m) ∧
    (L.length < rs.length → ∃ ev : Nat, (endsZ rs)[L.length]? = some (ev : Int) ∧ m < ev) := by
  have hw := whole_le rs m
  have hl : (rs.take (wholeN rs m)).length = wholeN rs m := by rw [List.length_take]; omega
  refine ⟨rs.take (wholeN rs m), _, _, scan_cut rs hm m hn, by rw [hl], by rw [hl]; exact hw, by rw [hl], rfl, fun q hq => ?_, fun h => ?_⟩
  · rw [hl] at hq
    refine ⟨_, ends_at rs q (by omega), rfl, ?_⟩
    exact Nat.le_trans (all_mono rs (q + 1) (wholeN rs m) (by omega)) (whole_end rs m)
  · rw [hl] at h ⊢
    exact ⟨_, ends_at rs _ h, whole_next rs m h⟩
/-- A row of numbers of the call's own: where it is, its cells. -/
theorem own_ints {w : World} {B e n c : Nat} {A : Option Addr} {zs : List Int} (h : w.ownsRow B e 1 (.slice A n c) n (zs.map (Value.int .i64))) (hn : 0 < n) : ∃ g, A = some ⟨g, 0, none⟩ ∧ g < w.heap.size ∧ ∀ j (z : Int), zs[j]? = some z → w.cell? ⟨g, j, none⟩ = some (.int .i64 z) := by
  rcases h.2 with ⟨_, h0⟩ | ⟨g, cap, cur, hv, hg, hgg, _⟩
  · omega
  · injection hv with h1
    subst h1
    refine ⟨g, rfl, (Array.getElem?_eq_some_iff.1 hgg).1, fun j z hz => ?_⟩
    have := h.cells (g := g) rfl j (.int .i64 z) (by rw [List.getElem?_map, hz]; rfl)
    rwa [add_new] at this
end Go.Proofs.YtimoncjdfmfojaaDoor
