/- Texts of the proof, part 8: KpAsk, RcRFixed, RcLongNum, RcRFix8, SumNum, SumRef. -/
import Derived.Test.YtgadgmcabjnjjaaProg
import Derived.Laws.BitsAllLaws
import Derived.Laws.IdiomStrings
import Derived.Test.YtgadgmcabjnjjaaW07
/- What a list of asks (segments, rules, a time) is in memory, out of the reading of an argument. -/
namespace Go.Proofs.Ytgadgmcabjnjjaa.Kpd
open Go.ChangeShapes Go.WideShapes Go.ChangeAt Go.RowKit Rcd

theorem cells_seg : Try.prog.cellsOf 48 = 2 := by kernel_rfl
theorem cells_segs : Try.prog.cellsOf 23 = 1 := by kernel_rfl
theorem cells_ru : Try.prog.cellsOf 25 = 5 := by kernel_rfl
theorem cells_ask : Try.prog.cellsOf 27 = 7 := by kernel_rfl
theorem bytes_rec : Try.prog.bytesOf 51 = 64 := by kernel_rfl
theorem bytes_seg : Try.prog.bytesOf 48 = 32 := by kernel_rfl
/-- One ask in memory. -/
structure AskAt (w : World) (B b o : Nat) (l : List Sp) (r : Ru) (now : Int) (A : Option Addr) (c : Nat) : Prop where
  c0 : w.cell? ⟨b, o, none⟩ = some (.slice A l.length c)
  c1 : w.cell? ⟨b, o + 1, none⟩ = some (.int .i64 r.sb)
  c2 : w.cell? ⟨b, o + 2, none⟩ = some (.int .i64 r.by_)
  c3 : w.cell? ⟨b, o + 3, none⟩ = some (.int .i64 r.ag)
  c4 : w.cell? ⟨b, o + 4, none⟩ = some (.bool r.co)
  c5 : w.cell? ⟨b, o + 5, none⟩ = some (.int .i64 r.gr)
  c6 : w.cell? ⟨b, o + 6, none⟩ = some (.int .i64 now)
  hA : SegsAt w B A l
  cap : l.length ≤ c
  len : l.length * 32 ≤ 140737488351232
  lim : ∀ s ∈ l, Lim s
  hb : b < B
theorem AskAt.below {w w' : World} {B b o : Nat} {l : List Sp} {r : Ru} {now : Int} {A : Option Addr} {c : Nat} (h : AskAt w B b o l r now A c) (hb : Below B w w') : AskAt w' B b o l r now A c :=
  ⟨(hb.cell (p := ⟨b, o, none⟩) h.hb).trans h.c0, (hb.cell (p := ⟨b, o + 1, none⟩) h.hb).trans h.c1, (hb.cell (p := ⟨b, o + 2, none⟩) h.hb).trans h.c2, (hb.cell (p := ⟨b, o + 3, none⟩) h.hb).trans h.c3, (hb.cell (p := ⟨b, o + 4, none⟩) h.hb).trans h.c4, (hb.cell (p := ⟨b, o + 5, none⟩) h.hb).trans h.c5, (hb.cell (p := ⟨b, o + 6, none⟩) h.hb).trans h.c6, h.hA.below hb, h.cap, h.len, h.lim, h.hb⟩
/-- All that is asked. -/
def Asks (w : World) (A : Option Addr) (n : Nat) : Prop :=
  n = 0 ∨ ∃ b off, A = some ⟨b, off, none⟩ ∧ ∀ i, i < n → ∃ l r now A' c', AskAt w w.heap.size b (off + i * 7) l r now A' c'

section
variable {H : Type} {enc : TypeId × Value → H} {W : World} {base : Nat} {spare : Nat → Bool} {held : Bool}
theorem near_all {e : TypeId} {ds : List (DataW H)} {d : DataW H} (hd : d ∈ ds) : ∀ n ∈ d.weights Try.prog e, n ∈ DataW.weightsAll Try.prog e ds := by
  induction ds with
  | nil => cases hd
  | cons x r ih =>
    intro n hn
    rw [DataW.weightsAll, List.mem_append]
    rcases List.mem_cons.1 hd with rfl | hd
    · exact .inl hn
    · exact .inr (ih hd n hn)
theorem near_elem {t e : TypeId} {elems rest : List (DataW H)} {d : DataW H} (hu : Try.prog.underlying t = some (.slice e)) (h : Near t (.slice elems rest)) (hd : d ∈ elems) : Near e d := by
  intro n hn
  refine h n ?_
  rw [DataW.weights, hu]
  exact List.mem_cons_of_mem _ (List.mem_append_left _ (near_all hd n hn))

theorem rec_near {fuel : Nat} {a : Addr} {cs : List Value} {y : DataW H × List MemPlace} (hc : W.cells? base a 6 = some cs) (hw : Near 51 y.1) (h : DataW.trod enc Try.prog W base spare held fuel 51 cs = some y) :
    ∃ r, RAt W a.block a.off r ∧ a.spot = none ∧ r.k.length ≤ 140737488351232 ∧ r.b.length ≤ 140737488351232 := by
  obtain ⟨_, hlen, hcell⟩ := World.cells?_some hc
  match cs, hlen with
  | [v0, v1, v2, v3, v4, v5], _ =>
    have g0 := hcell 0 (by omega)
    have g1 := hcell 1 (by omega)
    have g2 := hcell 2 (by omega)
    have g3 := hcell 3 (by omega)
    have g4 := hcell 4 (by omega)
    have g5 := hcell 5 (by omega)
    change W.cell? (a.add 0) = some v0 at g0
    change W.cell? (a.add 1) = some v1 at g1
    change W.cell? (a.add 2) = some v2 at g2
    change W.cell? (a.add 3) = some v3 at g3
    change W.cell? (a.add 4) = some v4 at g4
    change W.cell? (a.add 5) = some v5 at g5
    obtain ⟨ys, n, _, hy, _, hyl, hf⟩ := DataW.trod_struct Try.underlying51 h
    subst hy
    have hyl' : ys.length = 6 := by simpa using hyl
    have f0 := hf 0 _ rfl
    have f1 := hf 1 _ rfl
    have f2 := hf 2 _ rfl
    have f3 := hf 3 _ rfl
    have f4 := hf 4 _ rfl
    have f5 := hf 5 _ rfl
    rw [List.getElem?_eq_getElem (by omega)] at f0 f1 f2 f3 f4 f5
    change DataW.trod enc Try.prog W base spare held n 3 (List.take (Try.prog.cellsOf 3) [v0, v1, v2, v3, v4, v5]) = _ at f0
    change DataW.trod enc Try.prog W base spare held n 3 (List.take (Try.prog.cellsOf 3) [v1, v2, v3, v4, v5]) = _ at f1
    change DataW.trod enc Try.prog W base spare held n 9 (List.take (Try.prog.cellsOf 9) [v2, v3, v4, v5]) = _ at f2
    change DataW.trod enc Try.prog W base spare held n 9 (List.take (Try.prog.cellsOf 9) [v3, v4, v5]) = _ at f3
    change DataW.trod enc Try.prog W base spare held n 3 (List.take (Try.prog.cellsOf 3) [v4, v5]) = _ at f4
    change DataW.trod enc Try.prog W base spare held n 4 (List.take (Try.prog.cellsOf 4) [v5]) = _ at f5
    rw [cells_int] at f0 f1 f4
    rw [cells_string] at f2 f3
    rw [cells_bool] at f5
    have w2 := near_field Try.underlying51 hw (j := 2) rfl rfl (List.getElem?_eq_getElem (by omega))
    have w3 := near_field Try.underlying51 hw (j := 3) rfl rfl (List.getElem?_eq_getElem (by omega))
    obtain ⟨o, e0, _, _⟩ := DataW.trod_int Try.underlying3 f0
    obtain ⟨t, e1, _, _⟩ := DataW.trod_int Try.underlying3 f1
    obtain ⟨k, e2, x2, _⟩ := DataW.trod_string Try.underlying9 f2
    obtain ⟨b, e3, x3, _⟩ := DataW.trod_string Try.underlying9 f3
    obtain ⟨q, e4, _, _⟩ := DataW.trod_int Try.underlying3 f4
    obtain ⟨g, e5, _⟩ := DataW.trod_bool Try.underlying4 f5
    rw [x2] at w2
    rw [x3] at w3
    have s2 := near_string w2
    have s3 := near_string w3
    have hsp : a.spot = none := by
      have := World.cell?_spot g0
      simpa [Addr.add] using this
    obtain ⟨bl, off, spot⟩ := a
    obtain rfl : spot = none := hsp
    rw [add_off] at g0 g1 g2 g3 g4 g5
    simp at e0 e1 e2 e3 e4 e5
    subst e0 e1 e2 e3 e4 e5
    refine ⟨⟨o, t, k.data.toList, b.data.toList, q, g⟩, ⟨g0, g1, ?_, ?_, g4, g5⟩, rfl, s2, s3⟩
    · show _ = some (Value.string (str k.data.toList))
      rw [data_str]; exact g2
    · show _ = some (Value.string (str b.data.toList))
      rw [data_str]; exact g3

/-- A slice of records. -/
theorem recs_near {fuel : Nat} {v : Value} {y : DataW H × List MemPlace} (hw : Near 46 y.1) (h : DataW.trod enc Try.prog W base spare held fuel 46 [v] = some y) :
    ∃ A l c, v = .slice A (List.length l) c ∧ RecsAt W W.heap.size A l ∧ l.length ≤ c ∧ l.length * 64 ≤ 140737488351232 ∧ ∀ r ∈ l, r.k.length ≤ 140737488351232 ∧ r.b.length ≤ 140737488351232 := by
  rcases Go.Deep.open_slice Try.underlying46 h with ⟨hcs, _⟩ | ⟨a, len, cap, m, k, D, Pl, hcs, _, hl, hcm, hm, hx, hi⟩
  · simp at hcs
    subst hcs
    exact ⟨none, [], 0, rfl, .inl rfl, Nat.le_refl _, Nat.zero_le _, fun r hr => by cases hr⟩
  · simp at hcs
    subst hcs
    have hln := near_len Try.underlying46 bytes_rec hw h
    have hml : len ≤ m := by rw [hm]; split <;> omega
    have hd := congrArg Prod.fst hx
    simp only [] at hd
    rw [hd] at hw
    rw [cells_rec] at hi
    have key : ∀ i, i < len → ∃ r, RAt W (a.add (i * 6)).block (a.add (i * 6)).off r ∧ (a.add (i * 6)).spot = none ∧ r.k.length ≤ 140737488351232 ∧ r.b.length ≤ 140737488351232 := fun i hin => by
      obtain ⟨cs, hc, ht⟩ := hi i (by omega)
      exact rec_near hc (near_elem Try.underlying46 hw (List.mem_map.2 ⟨i, List.mem_range.2 (by omega), rfl⟩)) ht
    by_cases h0 : len = 0
    · subst h0
      exact ⟨some a, [], cap, rfl, .inl rfl, Nat.zero_le _, Nat.zero_le _, fun r hr => by cases hr⟩
    · have hsp : a.spot = none := by
        obtain ⟨_, _, h, _⟩ := key 0 (by omega)
        simpa [Addr.add] using h
      obtain ⟨b, off, spot⟩ := a
      obtain rfl : spot = none := hsp
      have key2 : ∀ i, ∃ r : Rc, i < len → RAt W b (off + i * 6) r ∧ r.k.length ≤ 140737488351232 ∧ r.b.length ≤ 140737488351232 := fun i => by
        by_cases hin : i < len
        · obtain ⟨r, hr, _, h3⟩ := key i hin
          rw [add_off] at hr
          exact ⟨r, fun _ => ⟨hr, h3⟩⟩
        · exact ⟨zero, fun h => absurd h hin⟩
      obtain ⟨f, hf⟩ := Classical.axiomOfChoice key2
      refine ⟨some ⟨b, off, none⟩, (List.range len).map f, cap, by simp, .inr ⟨b, off, rfl, ?_, fun j hj => ?_⟩, by simp; exact hln.2, by simpa using hln.1, fun r hr => ?_⟩
      · exact cell_lt (hf 0 (by omega)).1.c0
      · have hj' : j < len := by simpa using hj
        rw [List.getElem_map, List.getElem_range]
        exact (hf j hj').1
      · obtain ⟨i, hi2, rfl⟩ := List.mem_map.1 hr
        exact (hf i (List.mem_range.1 hi2)).2

theorem seg_near {fuel : Nat} {a : Addr} {cs : List Value} {y : DataW H × List MemPlace} (hc : W.cells? base a 2 = some cs) (hw : Near 48 y.1) (h : DataW.trod enc Try.prog W base spare held fuel 48 cs = some y) :
    ∃ s A c, SegAt W W.heap.size a.block a.off s A c ∧ a.spot = none ∧ Lim s := by
  obtain ⟨_, hlen, hcell⟩ := World.cells?_some hc
  match cs, hlen with
  | [v0, v1], _ =>
    have g0 := hcell 0 (by omega)
    have g1 := hcell 1 (by omega)
    change W.cell? (a.add 0) = some v0 at g0
    change W.cell? (a.add 1) = some v1 at g1
    obtain ⟨ys, n, _, hy, _, hyl, hf⟩ := DataW.trod_struct Try.underlying48 h
    subst hy
    have hyl' : ys.length = 2 := by simpa using hyl
    have f0 := hf 0 _ rfl
    have f1 := hf 1 _ rfl
    rw [List.getElem?_eq_getElem (by omega)] at f0 f1
    change DataW.trod enc Try.prog W base spare held n 3 (List.take (Try.prog.cellsOf 3) [v0, v1]) = _ at f0
    change DataW.trod enc Try.prog W base spare held n 46 (List.take (Try.prog.cellsOf 46) [v1]) = _ at f1
    rw [cells_int] at f0
    rw [cells_recs] at f1
    have w1 := near_field Try.underlying48 hw (j := 1) rfl rfl (List.getElem?_eq_getElem (by omega))
    obtain ⟨b, e0, _, _⟩ := DataW.trod_int Try.underlying3 f0
    obtain ⟨A, rs, c, rfl, hA, hcap, h64, hlim⟩ := recs_near (v := v1) w1 f1
    have hsp : a.spot = none := by
      have := World.cell?_spot g0
      simpa [Addr.add] using this
    obtain ⟨bl, off, spot⟩ := a
    obtain rfl : spot = none := hsp
    rw [add_off] at g0 g1
    simp at e0
    subst e0
    exact ⟨⟨b, rs⟩, A, c, ⟨g0, g1, hA, hcap, h64⟩, rfl, h64, hlim⟩

/-- A slice of segments. -/
theorem segs_near {fuel : Nat} {v : Value} {y : DataW H × List MemPlace} (hw : Near 23 y.1) (h : DataW.trod enc Try.prog W base spare held fuel 23 [v] = some y) :
    ∃ A l c, v = .slice A (List.length l) c ∧ SegsAt W W.heap.size A l ∧ l.length ≤ c ∧ l.length * 32 ≤ 140737488351232 ∧ ∀ s ∈ l, Lim s := by
  rcases Go.Deep.open_slice Try.underlying23 h with ⟨hcs, _⟩ | ⟨a, len, cap, m, k, D, Pl, hcs, _, hl, hcm, hm, hx, hi⟩
  · simp at hcs
    subst hcs
    exact ⟨none, [], 0, rfl, .inl rfl, Nat.le_refl _, Nat.zero_le _, fun r hr => by cases hr⟩
  · simp at hcs
    subst hcs
    have hln := near_len Try.underlying23 bytes_seg hw h
    have hml : len ≤ m := by rw [hm]; split <;> omega
    have hd := congrArg Prod.fst hx
    simp only [] at hd
    rw [hd] at hw
    rw [cells_seg] at hi
    have key : ∀ i, i < len → ∃ s A c, SegAt W W.heap.size (a.add (i * 2)).block (a.add (i * 2)).off s A c ∧ (a.add (i * 2)).spot = none ∧ Lim s := fun i hin => by
      obtain ⟨cs, hc, ht⟩ := hi i (by omega)
      exact seg_near hc (near_elem Try.underlying23 hw (List.mem_map.2 ⟨i, List.mem_range.2 (by omega), rfl⟩)) ht
    by_cases h0 : len = 0
    · subst h0
      exact ⟨some a, [], cap, rfl, .inl rfl, Nat.zero_le _, Nat.zero_le _, fun r hr => by cases hr⟩
    · have hsp : a.spot = none := by
        obtain ⟨_, _, _, _, h, _⟩ := key 0 (by omega)
        simpa [Addr.add] using h
      obtain ⟨b, off, spot⟩ := a
      obtain rfl : spot = none := hsp
      have key2 : ∀ i, ∃ s : Sp, i < len → (∃ A c, SegAt W W.heap.size b (off + i * 2) s A c) ∧ Lim s := fun i => by
        by_cases hin : i < len
        · obtain ⟨s, A, c, hr, _, h3⟩ := key i hin
          rw [add_off] at hr
          exact ⟨s, fun _ => ⟨⟨A, c, hr⟩, h3⟩⟩
        · exact ⟨spz, fun h => absurd h hin⟩
      obtain ⟨f, hf⟩ := Classical.axiomOfChoice key2
      refine ⟨some ⟨b, off, none⟩, (List.range len).map f, cap, by simp, .inr ⟨b, off, rfl, ?_, fun j hj => ?_⟩, by simp; exact hln.2, by simpa using hln.1, fun r hr => ?_⟩
      · obtain ⟨A, c, hs⟩ := (hf 0 (by omega)).1
        exact cell_lt hs.c0
      · have hj' : j < len := by simpa using hj
        rw [List.getElem_map, List.getElem_range]
        exact (hf j hj').1
      · obtain ⟨i, hi2, rfl⟩ := List.mem_map.1 hr
        exact (hf i (List.mem_range.1 hi2)).2

theorem ask_near {fuel : Nat} {a : Addr} {cs : List Value} {y : DataW H × List MemPlace} (hc : W.cells? base a 7 = some cs) (hw : Near 27 y.1) (h : DataW.trod enc Try.prog W base spare held fuel 27 cs = some y) :
    ∃ l r now A c, AskAt W W.heap.size a.block a.off l r now A c ∧ a.spot = none := by
  obtain ⟨_, hlen, hcell⟩ := World.cells?_some hc
  match cs, hlen with
  | [v0, v1, v2, v3, v4, v5, v6], _ =>
    have g0 := hcell 0 (by omega)
    have g1 := hcell 1 (by omega)
    have g2 := hcell 2 (by omega)
    have g3 := hcell 3 (by omega)
    have g4 := hcell 4 (by omega)
    have g5 := hcell 5 (by omega)
    have g6 := hcell 6 (by omega)
    change W.cell? (a.add 0) = some v0 at g0
    change W.cell? (a.add 1) = some v1 at g1
    change W.cell? (a.add 2) = some v2 at g2
    change W.cell? (a.add 3) = some v3 at g3
    change W.cell? (a.add 4) = some v4 at g4
    change W.cell? (a.add 5) = some v5 at g5
    change W.cell? (a.add 6) = some v6 at g6
    obtain ⟨ys, n, _, hy, _, hyl, hf⟩ := DataW.trod_struct Try.underlying27 h
    subst hy
    have hyl' : ys.length = 3 := by simpa using hyl
    have f0 := hf 0 _ rfl
    have f1 := hf 1 _ rfl
    have f2 := hf 2 _ rfl
    rw [List.getElem?_eq_getElem (by omega)] at f0 f1 f2
    change DataW.trod enc Try.prog W base spare held n 23 (List.take (Try.prog.cellsOf 23) [v0, v1, v2, v3, v4, v5, v6]) = _ at f0
    change DataW.trod enc Try.prog W base spare held n 25 (List.take (Try.prog.cellsOf 25) [v1, v2, v3, v4, v5, v6]) = _ at f1
    change DataW.trod enc Try.prog W base spare held n 3 (List.take (Try.prog.cellsOf 3) [v6]) = _ at f2
    rw [cells_segs] at f0
    rw [cells_ru] at f1
    rw [cells_int] at f2
    have w0 := near_field Try.underlying27 hw (j := 0) rfl rfl (List.getElem?_eq_getElem (by omega))
    change DataW.trod enc Try.prog W base spare held n 25 [v1, v2, v3, v4, v5] = _ at f1
    obtain ⟨zs, m, _, _, _, hzl, hzz⟩ := DataW.trod_struct Try.underlying25 f1
    have hzl' : zs.length = 5 := by simpa using hzl
    have z0 := hzz 0 _ rfl
    have z1 := hzz 1 _ rfl
    have z2 := hzz 2 _ rfl
    have z3 := hzz 3 _ rfl
    have z4 := hzz 4 _ rfl
    rw [List.getElem?_eq_getElem (by omega)] at z0 z1 z2 z3 z4
    change DataW.trod enc Try.prog W base spare held m 3 (List.take (Try.prog.cellsOf 3) [v1, v2, v3, v4, v5]) = _ at z0
    change DataW.trod enc Try.prog W base spare held m 3 (List.take (Try.prog.cellsOf 3) [v2, v3, v4, v5]) = _ at z1
    change DataW.trod enc Try.prog W base spare held m 3 (List.take (Try.prog.cellsOf 3) [v3, v4, v5]) = _ at z2
    change DataW.trod enc Try.prog W base spare held m 4 (List.take (Try.prog.cellsOf 4) [v4, v5]) = _ at z3
    change DataW.trod enc Try.prog W base spare held m 3 (List.take (Try.prog.cellsOf 3) [v5]) = _ at z4
    rw [cells_int] at z0 z1 z2 z4
    rw [cells_bool] at z3
    obtain ⟨x1, e1, _, _⟩ := DataW.trod_int Try.underlying3 z0
    obtain ⟨x2, e2, _, _⟩ := DataW.trod_int Try.underlying3 z1
    obtain ⟨x3, e3, _, _⟩ := DataW.trod_int Try.underlying3 z2
    obtain ⟨x4, e4, _⟩ := DataW.trod_bool Try.underlying4 z3
    obtain ⟨x5, e5, _, _⟩ := DataW.trod_int Try.underlying3 z4
    obtain ⟨x6, e6, _, _⟩ := DataW.trod_int Try.underlying3 f2
    obtain ⟨A, l, c, rfl, hA, hcap, h32, hlim⟩ := segs_near (v := v0) w0 f0
    have hsp : a.spot = none := by
      have := World.cell?_spot g0
      simpa [Addr.add] using this
    obtain ⟨bl, off, spot⟩ := a
    obtain rfl : spot = none := hsp
    rw [add_off] at g0 g1 g2 g3 g4 g5 g6
    simp at e1 e2 e3 e4 e5 e6
    subst e1 e2 e3 e4 e5 e6
    exact ⟨l, ⟨x1, x2, x3, x4, x5⟩, x6, A, c, ⟨g0, g1, g2, g3, g4, g5, g6, hA, hcap, h32, hlim, cell_lt g0⟩, rfl⟩

/-- The asks of an argument. -/
theorem asks_near {A : Option Addr} {n c : Nat} {d : DataW H} {p : List MemPlace} (hw : Near 22 d) (h : DataW.Trod enc Try.prog W base (fun _ => true) held 22 (.slice A n c) d p) : Asks W A n := by
  obtain ⟨fuel, hf⟩ := h
  rcases Go.Deep.open_slice Try.underlying22 hf with ⟨hcs, _⟩ | ⟨a, len, cap, m, k, D, Pl, hcs, _, hl, _, hm, hx, hi⟩
  · simp [Value.cells] at hcs
    exact .inl hcs.2.1
  · simp [Value.cells] at hcs
    obtain ⟨rfl, rfl, rfl⟩ := hcs
    simp at hm
    subst hm
    by_cases h0 : n = 0
    · exact .inl h0
    · right
      rw [cells_ask] at hi
      have hd := congrArg Prod.fst hx
      simp only [] at hd
      rw [hd] at hw
      have key : ∀ i, i < n → ∃ l r now A' c', AskAt W W.heap.size (a.add (i * 7)).block (a.add (i * 7)).off l r now A' c' ∧ (a.add (i * 7)).spot = none := fun i hin => by
        obtain ⟨cs, hc, ht⟩ := hi i (by omega)
        exact ask_near hc (near_elem Try.underlying22 hw (List.mem_map.2 ⟨i, List.mem_range.2 (by omega), rfl⟩)) ht
      have hsp : a.spot = none := by
        obtain ⟨_, _, _, _, _, _, h⟩ := key 0 (by omega)
        simpa [Addr.add] using h
      obtain ⟨b, off, spot⟩ := a
      obtain rfl : spot = none := hsp
      refine ⟨b, off, rfl, fun i hin => ?_⟩
      obtain ⟨l, r, now, A', c', h, _⟩ := key i hin
      rw [add_off] at h
      exact ⟨l, r, now, A', c', h⟩
end
end Go.Proofs.Ytgadgmcabjnjjaa.Kpd
/- The document's own answer: a number as a few bytes, the highest first. -/
namespace Go.Proofs.Ytgadgmcabjnjjaa
open Go.RowKit Go.Lib Vbi

set_option maxRecDepth 100000 in
set_option maxHeartbeats 2000000 in
theorem RFixed_ok (n wd : Nat) (w : World) (hn : n < 256 ^ wd) (hw : wd ≤ 4) :
    Calls Try.prog 37 #[.int .i64 (n : Int), .int .i64 (wd : Int)] w fun e w' => e = .returned (.string (strOfNums (fixZ wd n))) ∧ Below w.heap.size w w' := by
  obtain ⟨i0, hi, hz0, hz1, hz2⟩ := info_parts info_byte
  have hn32 : n < 4294967296 := by
    have : 256 ^ wd ≤ 256 ^ 4 := Nat.pow_le_pow_right (by decide) hw
    omega
  clear hn
  go_enter Try.func37, Try.ntmps37
  go_wp2_with fail
  go_loopw [5, 6] (fun v iv wr => ∃ (j : Int) (k : Nat) (zs : List Int), iv = .int .i64 j ∧ j = (k : Int) - 1 ∧ k ≤ wd ∧ fixZ wd n = zs ++ fixZ k n ∧ wr.ownsRow w.heap.size 5 1 v zs.length (zs.map (Value.int .u8)) ∧ Below w.heap.size w wr) (fun _ iv _ => (RowKit.intOf iv + 1).toNat)
  case atStart => exact ⟨_, wd, [], rfl, rfl, by omega, rfl, World.ownsRow_nil _ _ _ _, Below.refl _ _⟩
  case round =>
    obtain ⟨j, k, zs, rfl, hj, hk, hz, hown, hnx⟩ := hrel
    have h2 := hnx.size
    have hzl : zs.length ≤ 4 := by
      have := congrArg List.length hz
      rw [List.length_append, fixZ_len, fixZ_len] at this
      omega
    rcases (by omega : k = 0 ∨ k = 1 ∨ k = 2 ∨ k = 3 ∨ k = 4) with rfl | rfl | rfl | rfl | rfl
    · obtain rfl : j = -1 := by omega
      have hcv := conv_bytes hown
      have hzz : zs = fixZ wd n := by rw [hz]; show zs = zs ++ []; simp
      rw [hzz] at hcv
      clear hz hown hj hzz
      go_wp2_with fail
      go_ret
      exact ⟨rfl, hnx⟩
    · obtain rfl : j = 0 := by omega
      have HZ := Lib.hid (hz.trans (fixZ_step zs 0 n ((n : Int) % 256) (by omega)))
      clear hz hj
      go_wp2_with (at_builtin; refine wpList_append_own _ rfl _ _ 69 rfl w.heap.size 5 i0 (.int .u8 0) 1 1 Try.underlying69 hi hz0 hz1 hz2 rfl (by decide) _ _ _ rfl (hown.alloc _) ⟨wr.heap.size, 0, none⟩ 1 1 [.int .u8 ((n : Int) % 256)] rfl rfl ?c1 ?c2 ?c3 ?c4 ?c5 ?_)
      case c1 => exact cell_one_new _ _ _
      case c2 => intro u hu; simp at hu; subst hu; rfl
      case c3 => unfold maxLen; omega
      case c4 => omega
      case c5 => simp; omega
      intro v' w1 hown' hgrow _
      have hnx' := hnx.trans (below_alloc_grown h2 hown hgrow)
      have HO := Lib.hid (own_snoc hown')
      clear hown' hgrow hown
      go_wp2
      go_roundw
      case rel => exact ⟨-1, 0, _, rfl, rfl, by omega, HZ.out, HO.out, hnx'⟩
      case measure => simp [RowKit.intOf]
    · obtain rfl : j = 1 := by omega
      have HZ := Lib.hid (hz.trans (fixZ_step zs 1 n ((n : Int) / 256 % 256) (by omega)))
      clear hz hj
      go_wp2_with (at_builtin; refine wpList_append_own _ rfl _ _ 69 rfl w.heap.size 5 i0 (.int .u8 0) 1 1 Try.underlying69 hi hz0 hz1 hz2 rfl (by decide) _ _ _ rfl (hown.alloc _) ⟨wr.heap.size, 0, none⟩ 1 1 [.int .u8 ((n : Int) / 256 % 256)] rfl rfl ?c1 ?c2 ?c3 ?c4 ?c5 ?_)
      case c1 => exact cell_one_new _ _ _
      case c2 => intro u hu; simp at hu; subst hu; rfl
      case c3 => unfold maxLen; omega
      case c4 => omega
      case c5 => simp; omega
      intro v' w1 hown' hgrow _
      have hnx' := hnx.trans (below_alloc_grown h2 hown hgrow)
      have HO := Lib.hid (own_snoc hown')
      clear hown' hgrow hown
      go_wp2
      go_roundw
      case rel => exact ⟨0, 1, _, rfl, rfl, by omega, HZ.out, HO.out, hnx'⟩
      case measure => simp [RowKit.intOf]
    · obtain rfl : j = 2 := by omega
      have HZ := Lib.hid (hz.trans (fixZ_step zs 2 n ((n : Int) / 65536 % 256) (by omega)))
      clear hz hj
      go_wp2_with (at_builtin; refine wpList_append_own _ rfl _ _ 69 rfl w.heap.size 5 i0 (.int .u8 0) 1 1 Try.underlying69 hi hz0 hz1 hz2 rfl (by decide) _ _ _ rfl (hown.alloc _) ⟨wr.heap.size, 0, none⟩ 1 1 [.int .u8 ((n : Int) / 65536 % 256)] rfl rfl ?c1 ?c2 ?c3 ?c4 ?c5 ?_)
      case c1 => exact cell_one_new _ _ _
      case c2 => intro u hu; simp at hu; subst hu; rfl
      case c3 => unfold maxLen; omega
      case c4 => omega
      case c5 => simp; omega
      intro v' w1 hown' hgrow _
      have hnx' := hnx.trans (below_alloc_grown h2 hown hgrow)
      have HO := Lib.hid (own_snoc hown')
      clear hown' hgrow hown
      go_wp2
      go_roundw
      case rel => exact ⟨1, 2, _, rfl, rfl, by omega, HZ.out, HO.out, hnx'⟩
      case measure => simp [RowKit.intOf]
    · obtain rfl : j = 3 := by omega
      have HZ := Lib.hid (hz.trans (fixZ_step zs 3 n ((n : Int) / 16777216) (by omega)))
      clear hz hj
      go_wp2_with (at_builtin; refine wpList_append_own _ rfl _ _ 69 rfl w.heap.size 5 i0 (.int .u8 0) 1 1 Try.underlying69 hi hz0 hz1 hz2 rfl (by decide) _ _ _ rfl (hown.alloc _) ⟨wr.heap.size, 0, none⟩ 1 1 [.int .u8 ((n : Int) / 16777216)] rfl rfl ?c1 ?c2 ?c3 ?c4 ?c5 ?_)
      case c1 => exact cell_one_new _ _ _
      case c2 => intro u hu; simp at hu; subst hu; rfl
      case c3 => unfold maxLen; omega
      case c4 => omega
      case c5 => simp; omega
      intro v' w1 hown' hgrow _
      have hnx' := hnx.trans (below_alloc_grown h2 hown hgrow)
      have HO := Lib.hid (own_snoc hown')
      clear hown' hgrow hown
      go_wp2
      go_roundw
      case rel => exact ⟨2, 3, _, rfl, rfl, by omega, HZ.out, HO.out, hnx'⟩
      case measure => simp [RowKit.intOf]

end Go.Proofs.Ytgadgmcabjnjjaa
/- Eight bytes as two halves; bytes as texts. -/
namespace Go.Proofs.Ytgadgmcabjnjjaa
open Go.RowKit Go.Lib Vbi Rcd

theorem str_add (a b : List UInt8) : str a ++ str b = str (a ++ b) := by
  apply ByteArray.ext
  simp [str]
theorem str_nums (zs : List Int) : strOfNums zs = str (bytesOf zs) := by rw [← data_str (strOfNums zs), strOf_data]
theorem str_fx (w n : Nat) : strOfNums (fixZ w n) = str (fx w n) := str_nums _
theorem ofInt_mod (z : Int) : (BitVec.ofInt 64 z).toNat = (z % 18446744073709551616).toNat := by
  rw [BitVec.toNat_ofInt]; rfl
theorem wrap_mod (m : Nat) : IntKind.i64.wrap (((m % 18446744073709551616 : Nat)) : Int) = IntKind.i64.wrap (m : Int) := by
  unfold IntKind.wrap
  simp [IntKind.bits, IntKind.signed]
/-- The last byte of eight: whatever is above, it stands below. -/
theorem or_low (z : Int) (m c : Nat) (hz : z = IntKind.i64.wrap ((m * 256 : Nat) : Int)) (hm : m < 72057594037927936) (hc : c < 256) : bits .or .i64 z (c : Int) = IntKind.i64.wrap ((m * 256 + c : Nat) : Int) := by
  show IntKind.i64.wrap ((BitVec.ofInt 64 z ||| BitVec.ofInt 64 (c : Int)).toNat : Int) = _
  have e1 : (BitVec.ofInt 64 z).toNat = m * 256 := by
    rw [ofInt_mod, hz]
    unfold IntKind.wrap
    simp [IntKind.bits, IntKind.signed]
    omega
  have e2 : (BitVec.ofInt 64 (c : Int)).toNat = c := ofInt_i64 c (by omega)
  rw [BitVec.toNat_or, e1, e2]
  congr 2
  rw [Nat.mul_comm m 256, show (256 : Nat) = 2 ^ 8 from rfl, ← Nat.two_pow_add_eq_or_of_lt (by omega)]
/-- High and low. -/
theorem or_halves (z : Int) (h l : Nat) (hz : z = IntKind.i64.wrap ((h * 4294967296 : Nat) : Int)) (hh : h < 4294967296) (hl : l < 4294967296) : bits .or .i64 z (l : Int) = IntKind.i64.wrap ((h * 4294967296 + l : Nat) : Int) := by
  show IntKind.i64.wrap ((BitVec.ofInt 64 z ||| BitVec.ofInt 64 (l : Int)).toNat : Int) = _
  have e1 : (BitVec.ofInt 64 z).toNat = h * 4294967296 := by
    rw [ofInt_mod, hz]
    unfold IntKind.wrap
    simp [IntKind.bits, IntKind.signed]
    omega
  have e2 : (BitVec.ofInt 64 (l : Int)).toNat = l := ofInt_i64 l (by omega)
  rw [BitVec.toNat_or, e1, e2]
  congr 2
  rw [Nat.mul_comm h 4294967296, show (4294967296 : Nat) = 2 ^ 32 from rfl, ← Nat.two_pow_add_eq_or_of_lt (by omega)]
theorem wrap64_nat (h : Nat) : wrap64 ((h : Int) * 4294967296) = IntKind.i64.wrap ((h * 4294967296 : Nat) : Int) := by
  rw [show ((h : Int) * 4294967296) = ((h * 4294967296 : Nat) : Int) by omega, IntWalk.i64_left]
theorem wrap64_low (m : Nat) : wrap64 ((m : Int) * 256) = IntKind.i64.wrap ((m * 256 : Nat) : Int) := by
  rw [show ((m : Int) * 256) = ((m * 256 : Nat) : Int) by omega, IntWalk.i64_left]
theorem fixGo_app (a b : List UInt8) (n : Nat) : fixGo n (a ++ b) = fixGo (fixGo n a) b := List.foldl_append ..
theorem fixGo_shift (l : List UInt8) (n : Nat) : fixGo n l = n * 256 ^ l.length + fixVal l := by
  unfold fixVal
  induction l generalizing n with
  | nil => show n = n * 1 + 0; omega
  | cons b t ih =>
    rw [fixGo_cons, fixGo_cons, ih, ih (0 * 256 + b.toNat), List.length_cons, Nat.pow_succ, Nat.add_mul, Nat.add_mul, Nat.mul_assoc, Nat.mul_comm 256]
    omega
theorem eight_halves (l : List UInt8) (h : 8 ≤ l.length) : fixVal (l.take 8) = fixVal (l.take 4) * 4294967296 + fixVal ((l.drop 4).take 4) := by
  have e : l.take 8 = l.take 4 ++ (l.drop 4).take 4 := by rw [← List.take_add]
  have hl : ((l.drop 4).take 4).length = 4 := by rw [List.length_take, List.length_drop]; omega
  rw [e]
  unfold fixVal
  rw [fixGo_app, fixGo_shift, hl]
  rfl
theorem fx8_halves (n : Nat) (_ : n < 18446744073709551616) : fx 8 n = fx 4 (n / 4294967296) ++ fx 4 (n % 4294967296) := by
  simp only [fx_succ]
  have e : ∀ m, fx 0 m = [] := fun _ => rfl
  simp only [e, List.cons_append, List.nil_append, Nat.reducePow]
  congr 1
  · congr 1; omega
  congr 1
  · congr 1; omega
  congr 1
  · congr 1; omega
  congr 1
  · congr 1; omega
  congr 1
  · congr 1; omega
  congr 1
  · congr 1; omega
  congr 1
  · congr 1; omega
  congr 1
  · congr 1; omega

theorem byte_str (F : Nat) (_ : F < 256) : strOfNums [(F : Int)] = str [UInt8.ofNat F] := by rw [str_nums]; unfold bytesOf; rw [List.map_cons, List.map_nil, Int.toNat_natCast]
end Go.Proofs.Ytgadgmcabjnjjaa
/- The document's own answer: a number as eight bytes. -/
namespace Go.Proofs.Ytgadgmcabjnjjaa
open Go.RowKit Go.Lib Vbi Rcd

set_option maxRecDepth 100000 in
set_option maxHeartbeats 4000000 in
/-- The document's own answer: a number as eight bytes. -/
theorem RFixed8_is (n : Nat) (S : ByteArray) (w : World) (hn : n < 9223372036854775808) (hS : str (fx 8 n) = S) :
    Calls Try.prog 37 #[.int .i64 (n : Int), .int .i64 8] w fun e w' => e = .returned (.string S) ∧ Below w.heap.size w w' := by
  rw [← str_fx] at hS
  subst hS
  obtain ⟨i0, hi, hz0, hz1, hz2⟩ := info_parts info_byte
  go_enter Try.func37, Try.ntmps37
  go_wp2_with fail
  go_loopw [5, 6] (fun v iv wr => ∃ (j : Int) (k : Nat) (zs : List Int), iv = .int .i64 j ∧ j = (k : Int) - 1 ∧ k ≤ 8 ∧ fixZ 8 n = zs ++ fixZ k n ∧ wr.ownsRow w.heap.size 5 1 v zs.length (zs.map (Value.int .u8)) ∧ Below w.heap.size w wr) (fun _ iv _ => (RowKit.intOf iv + 1).toNat)
  case atStart => exact ⟨_, 8, [], rfl, rfl, by omega, rfl, World.ownsRow_nil _ _ _ _, Below.refl _ _⟩
  case round =>
    obtain ⟨j, k, zs, rfl, hj, hk, hz, hown, hnx⟩ := hrel
    have h2 := hnx.size
    have hzl : zs.length ≤ 8 := by
      have := congrArg List.length hz
      rw [List.length_append, fixZ_len, fixZ_len] at this
      omega
    by_cases hk0 : k = 0
    · subst hk0
      obtain rfl : j = -1 := by omega
      have hcv := conv_bytes hown
      have hzz : zs = fixZ 8 n := by rw [hz]; show zs = zs ++ []; simp
      rw [hzz] at hcv
      have HC := Lib.hid hcv
      clear hz hown hj hzz
      go_wp2_with fail
      go_ret
      exact ⟨rfl, hnx⟩
    · rcases (by omega : k = 1 ∨ k = 2 ∨ k = 3 ∨ k = 4 ∨ k = 5 ∨ k = 6 ∨ k = 7 ∨ k = 8) with rfl | rfl | rfl | rfl | rfl | rfl | rfl | rfl
      · obtain rfl : j = 0 := by omega
        have HZ := Lib.hid (hz.trans (fixZ_step zs 0 n ((n : Int) % 256) (by omega)))
        clear hz hj hk0
        go_wp2_with (at_builtin; refine wpList_append_own _ rfl _ _ 69 rfl w.heap.size 5 i0 (.int .u8 0) 1 1 Try.underlying69 hi hz0 hz1 hz2 rfl (by decide) _ _ _ rfl (hown.alloc _) ⟨wr.heap.size, 0, none⟩ 1 1 [.int .u8 ((n : Int) % 256)] rfl rfl ?c1 ?c2 ?c3 ?c4 ?c5 ?_)
        case c1 => exact cell_one_new _ _ _
        case c2 => intro u hu; simp at hu; subst hu; rfl
        case c3 => unfold maxLen; omega
        case c4 => omega
        case c5 => simp; omega
        intro v' w1 hown' hgrow _
        have hnx' := hnx.trans (below_alloc_grown h2 hown hgrow)
        have HO := Lib.hid (own_snoc hown')
        clear hown' hgrow hown
        go_wp2
        go_roundw
        case rel => exact ⟨-1, 0, _, rfl, rfl, by omega, HZ.out, HO.out, hnx'⟩
        case measure => simp [RowKit.intOf]
      · obtain rfl : j = 1 := by omega
        have HZ := Lib.hid (hz.trans (fixZ_step zs 1 n ((n : Int) / 256 % 256) (by omega)))
        clear hz hj hk0
        go_wp2_with (at_builtin; refine wpList_append_own _ rfl _ _ 69 rfl w.heap.size 5 i0 (.int .u8 0) 1 1 Try.underlying69 hi hz0 hz1 hz2 rfl (by decide) _ _ _ rfl (hown.alloc _) ⟨wr.heap.size, 0, none⟩ 1 1 [.int .u8 ((n : Int) / 256 % 256)] rfl rfl ?c1 ?c2 ?c3 ?c4 ?c5 ?_)
        case c1 => exact cell_one_new _ _ _
        case c2 => intro u hu; simp at hu; subst hu; rfl
        case c3 => unfold maxLen; omega
        case c4 => omega
        case c5 => simp; omega
        intro v' w1 hown' hgrow _
        have hnx' := hnx.trans (below_alloc_grown h2 hown hgrow)
        have HO := Lib.hid (own_snoc hown')
        clear hown' hgrow hown
        go_wp2
        go_roundw
        case rel => exact ⟨0, 1, _, rfl, rfl, by omega, HZ.out, HO.out, hnx'⟩
        case measure => simp [RowKit.intOf]
      · obtain rfl : j = 2 := by omega
        have HZ := Lib.hid (hz.trans (fixZ_step zs 2 n ((n : Int) / 65536 % 256) (by omega)))
        clear hz hj hk0
        go_wp2_with (at_builtin; refine wpList_append_own _ rfl _ _ 69 rfl w.heap.size 5 i0 (.int .u8 0) 1 1 Try.underlying69 hi hz0 hz1 hz2 rfl (by decide) _ _ _ rfl (hown.alloc _) ⟨wr.heap.size, 0, none⟩ 1 1 [.int .u8 ((n : Int) / 65536 % 256)] rfl rfl ?c1 ?c2 ?c3 ?c4 ?c5 ?_)
        case c1 => exact cell_one_new _ _ _
        case c2 => intro u hu; simp at hu; subst hu; rfl
        case c3 => unfold maxLen; omega
        case c4 => omega
        case c5 => simp; omega
        intro v' w1 hown' hgrow _
        have hnx' := hnx.trans (below_alloc_grown h2 hown hgrow)
        have HO := Lib.hid (own_snoc hown')
        clear hown' hgrow hown
        go_wp2
        go_roundw
        case rel => exact ⟨1, 2, _, rfl, rfl, by omega, HZ.out, HO.out, hnx'⟩
        case measure => simp [RowKit.intOf]
      · obtain rfl : j = 3 := by omega
        have HZ := Lib.hid (hz.trans (fixZ_step zs 3 n ((n : Int) / 16777216 % 256) (by omega)))
        clear hz hj hk0
        go_wp2_with (at_builtin; refine wpList_append_own _ rfl _ _ 69 rfl w.heap.size 5 i0 (.int .u8 0) 1 1 Try.underlying69 hi hz0 hz1 hz2 rfl (by decide) _ _ _ rfl (hown.alloc _) ⟨wr.heap.size, 0, none⟩ 1 1 [.int .u8 ((n : Int) / 16777216 % 256)] rfl rfl ?c1 ?c2 ?c3 ?c4 ?c5 ?_)
        case c1 => exact cell_one_new _ _ _
        case c2 => intro u hu; simp at hu; subst hu; rfl
        case c3 => unfold maxLen; omega
        case c4 => omega
        case c5 => simp; omega
        intro v' w1 hown' hgrow _
        have hnx' := hnx.trans (below_alloc_grown h2 hown hgrow)
        have HO := Lib.hid (own_snoc hown')
        clear hown' hgrow hown
        go_wp2
        go_roundw
        case rel => exact ⟨2, 3, _, rfl, rfl, by omega, HZ.out, HO.out, hnx'⟩
        case measure => simp [RowKit.intOf]
      · obtain rfl : j = 4 := by omega
        have HZ := Lib.hid (hz.trans (fixZ_step zs 4 n ((n : Int) / 4294967296 % 256) (by omega)))
        clear hz hj hk0
        go_wp2_with (at_builtin; refine wpList_append_own _ rfl _ _ 69 rfl w.heap.size 5 i0 (.int .u8 0) 1 1 Try.underlying69 hi hz0 hz1 hz2 rfl (by decide) _ _ _ rfl (hown.alloc _) ⟨wr.heap.size, 0, none⟩ 1 1 [.int .u8 ((n : Int) / 4294967296 % 256)] rfl rfl ?c1 ?c2 ?c3 ?c4 ?c5 ?_)
        case c1 => exact cell_one_new _ _ _
        case c2 => intro u hu; simp at hu; subst hu; rfl
        case c3 => unfold maxLen; omega
        case c4 => omega
        case c5 => simp; omega
        intro v' w1 hown' hgrow _
        have hnx' := hnx.trans (below_alloc_grown h2 hown hgrow)
        have HO := Lib.hid (own_snoc hown')
        clear hown' hgrow hown
        go_wp2
        go_roundw
        case rel => exact ⟨3, 4, _, rfl, rfl, by omega, HZ.out, HO.out, hnx'⟩
        case measure => simp [RowKit.intOf]
      · obtain rfl : j = 5 := by omega
        have HZ := Lib.hid (hz.trans (fixZ_step zs 5 n ((n : Int) / 1099511627776 % 256) (by omega)))
        clear hz hj hk0
        go_wp2_with (at_builtin; refine wpList_append_own _ rfl _ _ 69 rfl w.heap.size 5 i0 (.int .u8 0) 1 1 Try.underlying69 hi hz0 hz1 hz2 rfl (by decide) _ _ _ rfl (hown.alloc _) ⟨wr.heap.size, 0, none⟩ 1 1 [.int .u8 ((n : Int) / 1099511627776 % 256)] rfl rfl ?c1 ?c2 ?c3 ?c4 ?c5 ?_)
        case c1 => exact cell_one_new _ _ _
        case c2 => intro u hu; simp at hu; subst hu; rfl
        case c3 => unfold maxLen; omega
        case c4 => omega
        case c5 => simp; omega
        intro v' w1 hown' hgrow _
        have hnx' := hnx.trans (below_alloc_grown h2 hown hgrow)
        have HO := Lib.hid (own_snoc hown')
        clear hown' hgrow hown
        go_wp2
        go_roundw
        case rel => exact ⟨4, 5, _, rfl, rfl, by omega, HZ.out, HO.out, hnx'⟩
        case measure => simp [RowKit.intOf]
      · obtain rfl : j = 6 := by omega
        have HZ := Lib.hid (hz.trans (fixZ_step zs 6 n ((n : Int) / 281474976710656 % 256) (by omega)))
        clear hz hj hk0
        go_wp2_with (at_builtin; refine wpList_append_own _ rfl _ _ 69 rfl w.heap.size 5 i0 (.int .u8 0) 1 1 Try.underlying69 hi hz0 hz1 hz2 rfl (by decide) _ _ _ rfl (hown.alloc _) ⟨wr.heap.size, 0, none⟩ 1 1 [.int .u8 ((n : Int) / 281474976710656 % 256)] rfl rfl ?c1 ?c2 ?c3 ?c4 ?c5 ?_)
        case c1 => exact cell_one_new _ _ _
        case c2 => intro u hu; simp at hu; subst hu; rfl
        case c3 => unfold maxLen; omega
        case c4 => omega
        case c5 => simp; omega
        intro v' w1 hown' hgrow _
        have hnx' := hnx.trans (below_alloc_grown h2 hown hgrow)
        have HO := Lib.hid (own_snoc hown')
        clear hown' hgrow hown
        go_wp2
        go_roundw
        case rel => exact ⟨5, 6, _, rfl, rfl, by omega, HZ.out, HO.out, hnx'⟩
        case measure => simp [RowKit.intOf]
      · obtain rfl : j = 7 := by omega
        have HZ := Lib.hid (hz.trans (fixZ_step zs 7 n ((n : Int) / 72057594037927936) (by omega)))
        clear hz hj hk0
        go_wp2_with (at_builtin; refine wpList_append_own _ rfl _ _ 69 rfl w.heap.size 5 i0 (.int .u8 0) 1 1 Try.underlying69 hi hz0 hz1 hz2 rfl (by decide) _ _ _ rfl (hown.alloc _) ⟨wr.heap.size, 0, none⟩ 1 1 [.int .u8 ((n : Int) / 72057594037927936)] rfl rfl ?c1 ?c2 ?c3 ?c4 ?c5 ?_)
        case c1 => exact cell_one_new _ _ _
        case c2 => intro u hu; simp at hu; subst hu; rfl
        case c3 => unfold maxLen; omega
        case c4 => omega
        case c5 => simp; omega
        intro v' w1 hown' hgrow _
        have hnx' := hnx.trans (below_alloc_grown h2 hown hgrow)
        have HO := Lib.hid (own_snoc hown')
        clear hown' hgrow hown
        go_wp2
        go_roundw
        case rel => exact ⟨6, 7, _, rfl, rfl, by omega, HZ.out, HO.out, hnx'⟩
        case measure => simp [RowKit.intOf]
end Go.Proofs.Ytgadgmcabjnjjaa
/- Sums: what both texts count with. -/
namespace Go.Proofs.Ytgadgmcabjnjjaa
open Go.RowKit Go.Lib Crc

/-- The bytes of a string, in a row of the call's own. -/
def BytesAt (W : World) (g : Nat) (l : List UInt8) : Prop := g < W.heap.size ∧ ∀ j, j < l.length → W.cell? ⟨g, j, none⟩ = some (.int .u8 (((l.getD j 0).toNat : Nat) : Int)) ∧ W.frozen? ⟨g, j, none⟩ = false
theorem bytes_conv (b : ByteArray) (w : World) : ∃ c W1, (convert 9 69 (.string b)).run Try.prog w = .ok (.slice (some ⟨w.heap.size, 0, none⟩) b.size c) W1 ∧ BytesAt W1 w.heap.size b.data.toList ∧ Below w.heap.size w W1 := by
  refine ⟨_, _, run_bytes_of_string (P := Try.prog) w 9 69 5 b Try.underlying9 Try.underlying69 Try.underlying5, ⟨by simp, fun j hj => ⟨?_, ?_⟩⟩, ?_⟩
  · have hj' : j < b.data.size := by simpa using hj
    have h1 := bytesRow_at b (grownCap w b.size 0 5) j hj'
    refine (World.cell?_alloc_mark w.drew _ _ _ j).trans ?_
    rw [h1, List.getD_eq_getElem?_getD, List.getElem?_eq_getElem hj]
    simp
  · refine (World.frozen?_alloc_mark w.drew _ _ _ _ j).trans ?_
    have h2 : j < (bytesRow b (grownCap w b.size 0 5)).size := by
      have hj' : j < b.data.size := by simpa using hj
      have h3 : (bytesRow b (grownCap w b.size 0 5)).size = b.data.size + (grownCap w b.size 0 5 - b.size) := by unfold bytesRow; simp
      omega
    rw [decide_eq_false (by omega)]
    rfl
  · exact ((Below.refl _ _).drew).alloc (Nat.le_refl _) _

theorem not_nat (s : Nat) (hs : s < 4294967296) : 4294967295 ^^^ s = 4294967295 - s := by
  apply Nat.eq_of_testBit_eq
  intro i
  have h1 := Nat.testBit_two_pow_sub_succ (x := s) (n := 32) hs i
  rw [show 2 ^ 32 - (s + 1) = 4294967295 - s by omega] at h1
  rw [h1, Nat.testBit_xor, show (4294967295 : Nat) = 2 ^ 32 - 1 from rfl, Nat.testBit_two_pow_sub_one]
  by_cases hi : i < 32
  · simp [hi]
  · have : s.testBit i = false := Nat.testBit_lt_two_pow (Nat.lt_of_lt_of_le hs (Nat.pow_le_pow_right (n := 2) (i := 32) (by omega) (by omega)))
    simp [hi, this]
theorem not_u32 (s : Nat) (hs : s < 4294967296) : bits .xor .u32 IntKind.u32.max (s : Int) = ((4294967295 - s : Nat) : Int) := by
  have h := u32_xor_nat 4294967295 s (by omega) hs
  have e : IntKind.u32.max = ((4294967295 : Nat) : Int) := rfl
  rw [e, h]
  congr 1
  exact not_nat s hs
theorem xor_byte (s : Nat) (x : UInt8) (hs : s < 4294967296) : bits .xor .u32 (s : Int) ((x.toNat : Nat) : Int) = ((s ^^^ x.toNat : Nat) : Int) :=
  u32_xor_nat s x.toNat hs (by have := x.toNat_lt; omega)

theorem take_next (l : List UInt8) (k : Nat) (h : k < l.length) : l.take (k + 1) = l.take k ++ [l.getD k 0] := by
  rw [List.take_succ_eq_append_getElem h, List.getD_eq_getElem?_getD, List.getElem?_eq_getElem h]; rfl
theorem crc_next (s : Nat) (l : List UInt8) (k : Nat) (h : k < l.length) : stepN (stepN (crc s (l.take k) ^^^ (l.getD k 0).toNat)) = crc s (l.take (k + 1)) := by
  rw [take_next l k h, crc_snoc, step2_eq]

end Go.Proofs.Ytgadgmcabjnjjaa
/- The document's own answer: the sum of bytes, bit by bit. -/
namespace Go.Proofs.Ytgadgmcabjnjjaa
open Go.RowKit Go.Lib Crc

def Rk : Nat → Nat → Nat
  | 0, s => s
  | k + 1, s => Rk k (R s)
theorem low_bit (n : Nat) (hn : n < 4294967296) : bits .and .u32 (n : Int) 1 = ((n % 2 : Nat) : Int) := by
  have e := u32_and_nat n 1 hn (by omega)
  rw [nat_mask1] at e
  exact e
theorem xor_poly (n : Nat) (hn : n < 4294967296) (h : n % 2 = 1) : bits .xor .u32 ((n : Int) / 2) 2197175160 = ((R n : Nat) : Int) := by
  have e := u32_xor_nat (n / 2) 2197175160 (by omega) (by omega)
  have e2 : (((n / 2 : Nat)) : Int) = (n : Int) / 2 := by omega
  rw [e2] at e
  rw [R_odd h]
  exact e

set_option maxRecDepth 100000 in
set_option maxHeartbeats 2000000 in
theorem RSum_any (s : Nat) (b : ByteArray) (w : World) (hs : s < 4294967296) (hb : b.size ≤ 9223372036854775807) :
    Calls Try.prog 38 #[.int .u32 (s : Int), .string b] w fun e w' => e = .returned (.int .u32 ((sumN s b.data.toList : Nat) : Int)) ∧ w = w' := by
  have HN := not_u32 s hs
  have HZ : Hid (b.data.toList.length = b.size) := by show _ = _; rw [Array.length_toList]; rfl
  go_enter Try.func38, Try.ntmps38
  go_wp2_with fail
  clear HN
  go_loop [0, 5] (fun v i => ∃ k m : Nat, k ≤ b.size ∧ i = .int .i64 (k : Int) ∧ v = .int .u32 (m : Int) ∧ m < 4294967296 ∧ m = crc (4294967295 - s) (b.data.toList.take k)) (fun _ i => b.size - (RowKit.intOf i).toNat)
  case atStart => exact ⟨0, _, Nat.zero_le _, rfl, rfl, by omega, rfl⟩
  case round =>
    obtain ⟨k, m, hk, rfl, rfl, hm, hcrc⟩ := hrel
    by_cases hlt : k < b.size
    · have hkl : k < b.data.toList.length := by rw [HZ.out]; exact hlt
      have hne : ¬ b = ByteArray.empty := by intro h; rw [h] at hlt; exact absurd hlt (by simp)
      have hx256 : (b[k]'hlt).toNat < 256 := (b[k]'hlt).toNat_lt
      have HX := xor_byte m (b[k]'hlt) hm
      have h2 := byte_lt hm (b[k]'hlt)
      have hc := crc_next (4294967295 - s) b.data.toList k hkl
      rw [← hcrc, step2_eq] at hc
      have hx0 : b.data.toList.getD k 0 = b[k]'hlt := by rw [List.getD_eq_getElem?_getD, List.getElem?_eq_getElem hkl]; rfl
      rw [hx0] at hc
      have HC := Lib.hid hc
      clear hkl hc hx0 hcrc
      go_wp2_with fail
      clear HX
      go_loop [0, 6] (fun v i => ∃ j n : Nat, j ≤ 8 ∧ i = .int .i64 (j : Int) ∧ v = .int .u32 (n : Int) ∧ n < 4294967296 ∧ Rk (8 - j) n = R8 (m ^^^ (b[k]'hlt).toNat)) (fun _ i => 8 - (RowKit.intOf i).toNat)
      case atStart => exact ⟨0, _, by omega, rfl, rfl, h2, rfl⟩
      case round =>
        obtain ⟨j, n, hj, rfl, rfl, hn, hr⟩ := hrel
        by_cases hj8 : j < 8
        · have hr2 : Rk (8 - (j + 1)) (R n) = R8 (m ^^^ (b[k]'hlt).toNat) := by
            rw [← hr, show 8 - j = (8 - (j + 1)) + 1 by omega]; rfl
          have hR := R_lt hn
          by_cases ho : n % 2 = 1
          · have HP := xor_poly n hn ho
            have HQ := Lib.hid hr2
            have HR := Lib.hid hR
            have hd := low_bit n hn
            rw [ho] at hd
            clear hr hr2 hR ho
            go_wp2_with fail
            go_round
            case rel => exact ⟨j + 1, _, by omega, by go_num, rfl, HR.out, HQ.out⟩
            case measure => simp [RowKit.intOf]; omega
          · have hE : n / 2 = R n := (R_even ho).symm
            rw [← hE] at hr2 hR
            have HQ := Lib.hid hr2
            have HR := Lib.hid hR
            have hd := low_bit n hn
            rw [show n % 2 = 0 by omega] at hd
            clear hr hr2 hR ho hE
            go_wp2_with fail
            go_round
            case rel => exact ⟨j + 1, n / 2, by omega, by go_num, by go_num, HR.out, HQ.out⟩
            case measure => simp [RowKit.intOf]; omega
        · obtain rfl : j = 8 := by omega
          have hd : n = crc (4294967295 - s) (b.data.toList.take (k + 1)) := (show n = R8 (m ^^^ (b[k]'hlt).toNat) from hr).trans HC.out
          have HD := Lib.hid hd
          clear hd hr
          go_wp2_with fail
          go_round
          case rel => exact ⟨k + 1, n, hlt, by go_num, rfl, hn, HD.out⟩
          case measure => simp [RowKit.intOf]; omega
    · have he : m = crc (4294967295 - s) b.data.toList := by rw [hcrc, List.take_of_length_le (by rw [HZ.out]; omega)]
      have HN := not_u32 m hm
      have HE := Lib.hid he
      clear he hcrc
      go_wp2_with fail
      go_ret
      exact ⟨ret_int (by rw [HE.out]; rfl), rfl⟩
theorem RSum_is (s : Nat) (b : ByteArray) (N : Nat) (w : World) (hs : s < 4294967296) (hb : b.size ≤ 9223372036854775807) (hN : sumN s b.data.toList = N) :
    Calls Try.prog 38 #[.int .u32 (s : Int), .string b] w fun e w' => e = .returned (.int .u32 (N : Int)) ∧ w = w' := by
  rw [← hN]
  exact RSum_any s b w hs hb
end Go.Proofs.Ytgadgmcabjnjjaa
