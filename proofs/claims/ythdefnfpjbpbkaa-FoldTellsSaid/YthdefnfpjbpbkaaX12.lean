/- Texts of the proof, part 12: KpMay, NearBy, RcArg, KpAsk, KpBox, FdFold, FdIter, FdLastsP, FdLasts, FdNum. -/
import Derived.Test.YthdefnfpjbpbkaaRows
import Derived.Test.YthdefnfpjbpbkaaChecked
import Derived.ProofKit
import Derived.Deep.Slices
import Derived.SizedLaws
import Derived.ChangeOld
import Derived.Below
import Derived.ChangeArms
import Derived.BigQuiet
import Derived.Test.YthdefnfpjbpbkaaIterLay
import Derived.Test.YthdefnfpjbpbkaaX11
/- The thirteenth layer's May: may it be asked how many go? -/
namespace Go.Proofs.Ythdefnfpjbpbkaa.Kpd
open Go.RowKit Go.Lib Rcd

theorem load_ru_at {W : World} {g o : Nat} {sb by_ ag gr : Int} {co : Bool} (c0 : W.cell? ⟨g, o, none⟩ = some (.int .i64 sb)) (c1 : W.cell? ⟨g, o + 1, none⟩ = some (.int .i64 by_)) (c2 : W.cell? ⟨g, o + 2, none⟩ = some (.int .i64 ag)) (c3 : W.cell? ⟨g, o + 3, none⟩ = some (.bool co)) (c4 : W.cell? ⟨g, o + 4, none⟩ = some (.int .i64 gr)) :
    (loadVar 25 ⟨g, o, none⟩).run Try.prog W = .ok (.agg #[.int .i64 sb, .int .i64 by_, .int .i64 ag, .bool co, .int .i64 gr]) W :=
  run_loadVar_mid W g o 25 [.int .i64 sb, .int .i64 by_, .int .i64 ag, .bool co, .int .i64 gr] _ (fun j v hv => by
    match j, hv with
    | 0, hv => rw [← hv]; exact c0
    | 1, hv => rw [← hv]; exact c1
    | 2, hv => rw [← hv]; exact c2
    | 3, hv => rw [← hv]; exact c3
    | 4, hv => rw [← hv]; exact c4) Try.underlying25 rfl info_ru
/-- The rules within an ask's box. -/
theorem RBox.loadRu {w0 W : World} {g : Nat} {A : Option Addr} {N c : Nat} {sb by_ ag gr now : Int} {co : Bool} (k : RBox w0 g #[.slice A N c, .int .i64 sb, .int .i64 by_, .int .i64 ag, .bool co, .int .i64 gr, .int .i64 now] W) :
    (loadVar 25 ⟨g, 1, none⟩).run Try.prog W = .ok (.agg #[.int .i64 sb, .int .i64 by_, .int .i64 ag, .bool co, .int .i64 gr]) W :=
  load_ru_at (k.cell 1) (k.cell 2) (k.cell 3) (k.cell 4) (k.cell 5)

set_option maxRecDepth 100000 in
set_option maxHeartbeats 4000000 in
/-- fairwaylaw13.May. -/
theorem May_is (l : List Sp) (r : Ru) (now : Int) (N : Nat) (A : Option Addr) (c B : Nat) (X : Bool) (w : World) (hN : l.length = N) (hm : N ≤ 9223372036854775807) (hcap : N ≤ c) (hbig : (recsOf l).length ≤ 1000000) (hB : B ≤ w.heap.size) (h : SegsAt w B A l) (hX : askB l r now = X) :
    Calls Try.prog 10 #[.agg (aarr A N c r now)] w fun e w' => e = .returned (.bool X) ∧ Below w.heap.size w w' := by
  obtain ⟨X1, hX1⟩ : ∃ X1, rowB l = X1 := ⟨_, rfl⟩
  obtain ⟨X2, hX2⟩ : ∃ X2, ruB r = X2 := ⟨_, rfl⟩
  obtain ⟨X3, hX3⟩ : ∃ X3, decide (0 ≤ now ∧ now ≤ 1099511627776) = X3 := ⟨_, rfl⟩
  unfold askB at hX
  rw [hX1, hX2, hX3] at hX
  have HC1 := Lib.hid (fun W (hb : Below w.heap.size w W) => RRow_is l N A c B X1 W hN hm hcap hbig (Nat.le_trans hB hb.size) (h.below (hb.mono hB)) hX1)
  have HC2 := Lib.hid (fun W => RRules_is r X2 W hX2)
  have HC3 := Lib.hid (fun W => RNum_is now 1099511627776 X3 W hX3)
  unfold aarr
  unfold ruagg ruarr at HC2
  obtain ⟨sb, by_, ag, co, gr⟩ := r
  dsimp only at HC2 ⊢
  have R0 := Lib.hid (RBox.new w 27 #[.slice A N c, .int .i64 sb, .int .i64 by_, .int .i64 ag, .bool co, .int .i64 gr, .int .i64 now])
  obtain ⟨p, hp⟩ : ∃ p, w.heap.size = p := ⟨_, rfl⟩
  obtain ⟨W0, hW⟩ : ∃ W0, w.alloc (.cells #[.slice A N c, .int .i64 sb, .int .i64 by_, .int .i64 ag, .bool co, .int .i64 gr, .int .i64 now] 27) = W0 := ⟨_, rfl⟩
  rw [hW, hp] at R0
  have HW := Lib.hid hW
  have HP := Lib.hid hp
  clear hW hp h hN hX1 hX2 hX3 hB hm hcap hbig
  go_enter Try.func10, Try.ntmps10
  go_upto_region 1 with fail
  rw [HW.out, HP.out]
  clear HW HP
  have d0 : W0.cell? ⟨p, 0, none⟩ = some (.slice A N c) := R0.out.cell 0
  go_wp2_with fail
  refine (HC1.out _ R0.out.out.2).mono ?_
  rintro e w1 ⟨rfl, hb1⟩
  have R1 := Lib.hid (R0.out.below hb1)
  clear R0 hb1 HC1 d0
  cases X1 with
  | false =>
    obtain rfl : false = X := hX
    go_wp2_with fail
    go_ret
    exact ⟨rfl, R1.out.out.2⟩
  | true =>
    have hld := RBox.loadRu R1.out
    go_wp2_with (refine wpList_load_any (by rfl) 25 (.tmp 7) rfl p 1 rfl _ hld ?_; simp only [Act.put])
    refine (HC2.out _).mono ?_
    rintro e w2 ⟨rfl, hb2⟩
    have R2 := Lib.hid (R1.out.below hb2)
    clear R1 hb2 hld HC2
    cases X2 with
    | false =>
      obtain rfl : false = X := hX
      go_wp2_with fail
      go_ret
      exact ⟨rfl, R2.out.out.2⟩
    | true =>
      obtain rfl : X3 = X := hX
      have d6 : w2.cell? ⟨p, 6, none⟩ = some (.int .i64 now) := R2.out.cell 6
      go_wp2_with (go_at_call 27; refine (HC3.out _).mono ?_; rintro e w' ⟨rfl, rfl⟩)
      go_ret
      exact ⟨rfl, R2.out.out.2⟩
end Go.Proofs.Ythdefnfpjbpbkaa.Kpd
/- What the form's reach says of an argument's parts: how long its slices and texts are; a slice's value. -/
namespace Go.Proofs.Ythdefnfpjbpbkaa
open Go.ChangeShapes Go.WideShapes Go.ChangeAt Go.RowKit

theorem cell_in {w : World} {a : Addr} {v : Value} (h : w.cell? a = some v) : a.block < w.heap.size := by
  rcases Nat.lt_or_ge a.block w.heap.size with hlt | hge
  · exact hlt
  · unfold World.cell? at h
    rw [Array.getElem?_eq_none hge] at h
    cases h
section
variable {H : Type} {enc : TypeId × Value → H} {W : World} {base : Nat} {spare : Nat → Bool} {held : Bool}
/-- All that is read is within the form's reach. -/
def Near (t : TypeId) (d : DataW H) : Prop := ∀ n ∈ d.weights Try.prog t, n ≤ reachBytes
theorem near_field {t e : TypeId} {fs : Array Field} {ys : List (DataW H × List MemPlace)} {j : Nat} {f : Field} {y : DataW H × List MemPlace} (hu : Try.prog.underlying t = some (.struct fs)) (h : Near t (.agg (ys.map (·.1)))) (hf : fs[j]? = some f) (he : f.type = e) (hy : ys[j]? = some y) : Near e y.1 := by
  subst he
  intro n hn
  refine h n ?_
  rw [DataW.weights, hu]
  refine DataW.weights_mem_each (j := j) ?_ ?_ n hn
  · rw [List.getElem?_map, Array.getElem?_toList, hf]; rfl
  · rw [List.getElem?_map, hy]; rfl
theorem near_string {t : TypeId} {s : ByteArray} (h : Near t (DataW.lit (H := H) (.string s.data.toList))) : s.data.toList.length ≤ 140737488351232 :=
  h s.data.toList.length (by rw [DataW.weights]; exact List.mem_singleton.2 rfl)
theorem near_len {t e : TypeId} {fuel : Nat} {A : Option Addr} {n c k : Nat} {y : DataW H × List MemPlace} (hu : Try.prog.underlying t = some (.slice e)) (hk : Try.prog.bytesOf e = k) (hw : Near t y.1) (h : DataW.trod enc Try.prog W base spare held fuel t [.slice A n c] = some y) : n * k ≤ 140737488351232 ∧ n ≤ c := by
  rcases Go.Deep.open_slice hu h with ⟨hcs, _⟩ | ⟨a, len, cap, m, k', D, Pl, hcs, _, hlc, _, _, hx, _⟩
  · simp at hcs
    rw [hcs.2.1]
    omega
  · simp at hcs
    obtain ⟨_, rfl, rfl⟩ := hcs
    rw [hx] at hw
    have h1 := hw _ (by rw [DataW.weights, hu]; exact List.mem_cons_self)
    rw [List.length_map, List.length_range, hk] at h1
    exact ⟨Nat.le_trans (Nat.mul_le_mul_right k (Nat.le_add_right _ _)) h1, hlc⟩
theorem slice_form {t e : TypeId} {fuel : Nat} {v : Value} {y : DataW H × List MemPlace} (hu : Try.prog.underlying t = some (.slice e)) (h : DataW.trod enc Try.prog W base spare held fuel t [v] = some y) : ∃ A n c, v = .slice A n c := by
  rcases Go.Deep.open_slice hu h with ⟨hcs, _⟩ | ⟨a, len, cap, m, k, D, Pl, hcs, _⟩
  · simp at hcs
    exact ⟨none, 0, 0, hcs⟩
  · simp at hcs
    exact ⟨_, len, cap, hcs⟩
end
end Go.Proofs.Ythdefnfpjbpbkaa
/- What a list of records is in memory, out of the reading of an argument. -/
namespace Go.Proofs.Ythdefnfpjbpbkaa
open Go.ChangeShapes Go.WideShapes Go.ChangeAt Go.RowKit Rcd

theorem ownKnob_none : ownKnob Try.prog.godebug = none := by kernel_rfl
theorem laidOut_true : laidOutB Try.prog = true := by kernel_rfl
theorem cells_string : Try.prog.cellsOf 9 = 1 := by kernel_rfl
theorem cells_int : Try.prog.cellsOf 3 = 1 := by kernel_rfl
theorem cells_bool : Try.prog.cellsOf 4 = 1 := by kernel_rfl
theorem cells_recs : Try.prog.cellsOf 37 = 1 := by kernel_rfl
theorem cells_rec : Try.prog.cellsOf 46 = 6 := by kernel_rfl
theorem add_off {b off : Nat} (k : Nat) : ((⟨b, off, none⟩ : Addr).add k) = ⟨b, off + k, none⟩ := by
  unfold Addr.add; split
  · next h => subst h; rfl
  · rfl

section
variable {H : Type} {enc : TypeId × Value → H} {W : World} {base : Nat} {spare : Nat → Bool} {held : Bool}
theorem one_rec {fuel : Nat} {a : Addr} {cs : List Value} {y : DataW H × List MemPlace} (hc : W.cells? base a 6 = some cs) (h : DataW.trod enc Try.prog W base spare held fuel 46 cs = some y) :
    ∃ r, RAt W a.block a.off r ∧ a.spot = none := by
  obtain ⟨_, hlen, hcell⟩ := World.cells?_some hc
  match cs, hlen with
  | [v0, v1, v2, v3, v4, v5], _ =>
    have g0 := hcell 0 (by omega)
    have g1 := hcell 1 (by omega)
    have g2 := hcell 2 (by omega)
    have g3 := hcell 3 (by omega)
    have g4 := hcell 4 (by omega)
    have g5 := hcell 5 (by omega)
    change W.cell? (a.add 0) = some v0 at g0
    change W.cell? (a.add 1) = some v1 at g1
    change W.cell? (a.add 2) = some v2 at g2
    change W.cell? (a.add 3) = some v3 at g3
    change W.cell? (a.add 4) = some v4 at g4
    change W.cell? (a.add 5) = some v5 at g5
    obtain ⟨ys, n, _, _, _, hyl, hf⟩ := DataW.trod_struct Try.underlying46 h
    have hyl' : ys.length = 6 := by simpa using hyl
    have f0 := hf 0 _ rfl
    have f1 := hf 1 _ rfl
    have f2 := hf 2 _ rfl
    have f3 := hf 3 _ rfl
    have f4 := hf 4 _ rfl
    have f5 := hf 5 _ rfl
    rw [List.getElem?_eq_getElem (by omega)] at f0 f1 f2 f3 f4 f5
    change DataW.trod enc Try.prog W base spare held n 3 (List.take (Try.prog.cellsOf 3) [v0, v1, v2, v3, v4, v5]) = _ at f0
    change DataW.trod enc Try.prog W base spare held n 3 (List.take (Try.prog.cellsOf 3) [v1, v2, v3, v4, v5]) = _ at f1
    change DataW.trod enc Try.prog W base spare held n 9 (List.take (Try.prog.cellsOf 9) [v2, v3, v4, v5]) = _ at f2
    change DataW.trod enc Try.prog W base spare held n 9 (List.take (Try.prog.cellsOf 9) [v3, v4, v5]) = _ at f3
    change DataW.trod enc Try.prog W base spare held n 3 (List.take (Try.prog.cellsOf 3) [v4, v5]) = _ at f4
    change DataW.trod enc Try.prog W base spare held n 4 (List.take (Try.prog.cellsOf 4) [v5]) = _ at f5
    rw [cells_int] at f0 f1 f4
    rw [cells_string] at f2 f3
    rw [cells_bool] at f5
    obtain ⟨o, e0, _, _⟩ := DataW.trod_int Try.underlying3 f0
    obtain ⟨t, e1, _, _⟩ := DataW.trod_int Try.underlying3 f1
    obtain ⟨k, e2, _, _⟩ := DataW.trod_string Try.underlying9 f2
    obtain ⟨b, e3, _, _⟩ := DataW.trod_string Try.underlying9 f3
    obtain ⟨q, e4, _, _⟩ := DataW.trod_int Try.underlying3 f4
    obtain ⟨g, e5, _⟩ := DataW.trod_bool Try.underlying4 f5
    have hsp : a.spot = none := by
      have := World.cell?_spot g0
      simpa [Addr.add] using this
    obtain ⟨bl, off, spot⟩ := a
    obtain rfl : spot = none := hsp
    rw [add_off] at g0 g1 g2 g3 g4 g5
    simp at e0 e1 e2 e3 e4 e5
    subst e0 e1 e2 e3 e4 e5
    refine ⟨⟨o, t, k.data.toList, b.data.toList, q, g⟩, ⟨g0, g1, ?_, ?_, g4, g5⟩, rfl⟩
    · show _ = some (Value.string (str k.data.toList))
      rw [data_str]; exact g2
    · show _ = some (Value.string (str b.data.toList))
      rw [data_str]; exact g3

/-- A slice of records. -/
theorem recs_of_trod {fuel : Nat} {v : Value} {y : DataW H × List MemPlace} (h : DataW.trod enc Try.prog W base spare held fuel 37 [v] = some y) :
    ∃ A l c, v = .slice A (List.length l) c ∧ RecsAt W W.heap.size A l ∧ l.length ≤ 9223372036854775807 := by
  rcases Go.Deep.open_slice Try.underlying37 h with ⟨hcs, _⟩ | ⟨a, len, cap, m, k, D, Pl, hcs, _, hl, hcm, hm, hx, hi⟩
  · simp at hcs
    subst hcs
    exact ⟨none, [], 0, rfl, .inl rfl, by simp⟩
  · simp at hcs
    subst hcs
    have hml : len ≤ m := by rw [hm]; split <;> omega
    rw [cells_rec] at hi
    have key : ∀ i, i < len → ∃ r, RAt W (a.add (i * 6)).block (a.add (i * 6)).off r ∧ (a.add (i * 6)).spot = none := fun i hin => by
      obtain ⟨cs, hc, ht⟩ := hi i (by omega)
      exact one_rec hc ht
    have hcm' : cap ≤ 9223372036854775807 := by unfold maxLen at hcm; omega
    by_cases h0 : len = 0
    · subst h0
      exact ⟨some a, [], cap, rfl, .inl rfl, by simp⟩
    · have hsp : a.spot = none := by
        obtain ⟨_, _, h⟩ := key 0 (by omega)
        simpa [Addr.add] using h
      obtain ⟨b, off, spot⟩ := a
      obtain rfl : spot = none := hsp
      have key2 : ∀ i, ∃ r : Rc, i < len → RAt W b (off + i * 6) r := fun i => by
        by_cases hin : i < len
        · obtain ⟨r, hr, _⟩ := key i hin
          rw [add_off] at hr
          exact ⟨r, fun _ => hr⟩
        · exact ⟨zero, fun h => absurd h hin⟩
      obtain ⟨f, hf⟩ := Classical.axiomOfChoice key2
      refine ⟨some ⟨b, off, none⟩, (List.range len).map f, cap, by simp, .inr ⟨b, off, rfl, ?_, fun j hj => ?_⟩, by simp; omega⟩
      · exact cell_lt (hf 0 (by omega)).c0
      · have hj' : j < len := by simpa using hj
        rw [List.getElem_map, List.getElem_range]
        exact hf j hj'

end
end Go.Proofs.Ythdefnfpjbpbkaa
/- What a list of asks (segments, rules, a time) is in memory, out of the reading of an argument. -/
namespace Go.Proofs.Ythdefnfpjbpbkaa.Kpd
open Go.ChangeShapes Go.WideShapes Go.ChangeAt Go.RowKit Rcd

theorem cells_seg : Try.prog.cellsOf 49 = 2 := by kernel_rfl
theorem cells_segs : Try.prog.cellsOf 23 = 1 := by kernel_rfl
theorem cells_ru : Try.prog.cellsOf 25 = 5 := by kernel_rfl
theorem cells_ask : Try.prog.cellsOf 27 = 7 := by kernel_rfl
theorem bytes_rec : Try.prog.bytesOf 46 = 64 := by kernel_rfl
theorem bytes_seg : Try.prog.bytesOf 49 = 32 := by kernel_rfl
/-- One ask in memory. -/
structure AskAt (w : World) (B b o : Nat) (l : List Sp) (r : Ru) (now : Int) (A : Option Addr) (c : Nat) : Prop where
  c0 : w.cell? ⟨b, o, none⟩ = some (.slice A l.length c)
  c1 : w.cell? ⟨b, o + 1, none⟩ = some (.int .i64 r.sb)
  c2 : w.cell? ⟨b, o + 2, none⟩ = some (.int .i64 r.by_)
  c3 : w.cell? ⟨b, o + 3, none⟩ = some (.int .i64 r.ag)
  c4 : w.cell? ⟨b, o + 4, none⟩ = some (.bool r.co)
  c5 : w.cell? ⟨b, o + 5, none⟩ = some (.int .i64 r.gr)
  c6 : w.cell? ⟨b, o + 6, none⟩ = some (.int .i64 now)
  hA : SegsAt w B A l
  cap : l.length ≤ c
  len : l.length * 32 ≤ 140737488351232
  lim : ∀ s ∈ l, Lim s
  hb : b < B
theorem AskAt.below {w w' : World} {B b o : Nat} {l : List Sp} {r : Ru} {now : Int} {A : Option Addr} {c : Nat} (h : AskAt w B b o l r now A c) (hb : Below B w w') : AskAt w' B b o l r now A c :=
  ⟨(hb.cell (p := ⟨b, o, none⟩) h.hb).trans h.c0, (hb.cell (p := ⟨b, o + 1, none⟩) h.hb).trans h.c1, (hb.cell (p := ⟨b, o + 2, none⟩) h.hb).trans h.c2, (hb.cell (p := ⟨b, o + 3, none⟩) h.hb).trans h.c3, (hb.cell (p := ⟨b, o + 4, none⟩) h.hb).trans h.c4, (hb.cell (p := ⟨b, o + 5, none⟩) h.hb).trans h.c5, (hb.cell (p := ⟨b, o + 6, none⟩) h.hb).trans h.c6, h.hA.below hb, h.cap, h.len, h.lim, h.hb⟩
/-- All that is asked. -/
def Asks (w : World) (A : Option Addr) (n : Nat) : Prop :=
  n = 0 ∨ ∃ b off, A = some ⟨b, off, none⟩ ∧ ∀ i, i < n → ∃ l r now A' c', AskAt w w.heap.size b (off + i * 7) l r now A' c'

section
variable {H : Type} {enc : TypeId × Value → H} {W : World} {base : Nat} {spare : Nat → Bool} {held : Bool}
theorem near_all {e : TypeId} {ds : List (DataW H)} {d : DataW H} (hd : d ∈ ds) : ∀ n ∈ d.weights Try.prog e, n ∈ DataW.weightsAll Try.prog e ds := by
  induction ds with
  | nil => cases hd
  | cons x r ih =>
    intro n hn
    rw [DataW.weightsAll, List.mem_append]
    rcases List.mem_cons.1 hd with rfl | hd
    · exact .inl hn
    · exact .inr (ih hd n hn)
theorem near_elem {t e : TypeId} {elems rest : List (DataW H)} {d : DataW H} (hu : Try.prog.underlying t = some (.slice e)) (h : Near t (.slice elems rest)) (hd : d ∈ elems) : Near e d := by
  intro n hn
  refine h n ?_
  rw [DataW.weights, hu]
  exact List.mem_cons_of_mem _ (List.mem_append_left _ (near_all hd n hn))

theorem rec_near {fuel : Nat} {a : Addr} {cs : List Value} {y : DataW H × List MemPlace} (hc : W.cells? base a 6 = some cs) (hw : Near 46 y.1) (h : DataW.trod enc Try.prog W base spare held fuel 46 cs = some y) :
    ∃ r, RAt W a.block a.off r ∧ a.spot = none ∧ r.k.length ≤ 140737488351232 ∧ r.b.length ≤ 140737488351232 := by
  obtain ⟨_, hlen, hcell⟩ := World.cells?_some hc
  match cs, hlen with
  | [v0, v1, v2, v3, v4, v5], _ =>
    have g0 := hcell 0 (by omega)
    have g1 := hcell 1 (by omega)
    have g2 := hcell 2 (by omega)
    have g3 := hcell 3 (by omega)
    have g4 := hcell 4 (by omega)
    have g5 := hcell 5 (by omega)
    change W.cell? (a.add 0) = some v0 at g0
    change W.cell? (a.add 1) = some v1 at g1
    change W.cell? (a.add 2) = some v2 at g2
    change W.cell? (a.add 3) = some v3 at g3
    change W.cell? (a.add 4) = some v4 at g4
    change W.cell? (a.add 5) = some v5 at g5
    obtain ⟨ys, n, _, hy, _, hyl, hf⟩ := DataW.trod_struct Try.underlying46 h
    subst hy
    have hyl' : ys.length = 6 := by simpa using hyl
    have f0 := hf 0 _ rfl
    have f1 := hf 1 _ rfl
    have f2 := hf 2 _ rfl
    have f3 := hf 3 _ rfl
    have f4 := hf 4 _ rfl
    have f5 := hf 5 _ rfl
    rw [List.getElem?_eq_getElem (by omega)] at f0 f1 f2 f3 f4 f5
    change DataW.trod enc Try.prog W base spare held n 3 (List.take (Try.prog.cellsOf 3) [v0, v1, v2, v3, v4, v5]) = _ at f0
    change DataW.trod enc Try.prog W base spare held n 3 (List.take (Try.prog.cellsOf 3) [v1, v2, v3, v4, v5]) = _ at f1
    change DataW.trod enc Try.prog W base spare held n 9 (List.take (Try.prog.cellsOf 9) [v2, v3, v4, v5]) = _ at f2
    change DataW.trod enc Try.prog W base spare held n 9 (List.take (Try.prog.cellsOf 9) [v3, v4, v5]) = _ at f3
    change DataW.trod enc Try.prog W base spare held n 3 (List.take (Try.prog.cellsOf 3) [v4, v5]) = _ at f4
    change DataW.trod enc Try.prog W base spare held n 4 (List.take (Try.prog.cellsOf 4) [v5]) = _ at f5
    rw [cells_int] at f0 f1 f4
    rw [cells_string] at f2 f3
    rw [cells_bool] at f5
    have w2 := near_field Try.underlying46 hw (j := 2) rfl rfl (List.getElem?_eq_getElem (by omega))
    have w3 := near_field Try.underlying46 hw (j := 3) rfl rfl (List.getElem?_eq_getElem (by omega))
    obtain ⟨o, e0, _, _⟩ := DataW.trod_int Try.underlying3 f0
    obtain ⟨t, e1, _, _⟩ := DataW.trod_int Try.underlying3 f1
    obtain ⟨k, e2, x2, _⟩ := DataW.trod_string Try.underlying9 f2
    obtain ⟨b, e3, x3, _⟩ := DataW.trod_string Try.underlying9 f3
    obtain ⟨q, e4, _, _⟩ := DataW.trod_int Try.underlying3 f4
    obtain ⟨g, e5, _⟩ := DataW.trod_bool Try.underlying4 f5
    rw [x2] at w2
    rw [x3] at w3
    have s2 := near_string w2
    have s3 := near_string w3
    have hsp : a.spot = none := by
      have := World.cell?_spot g0
      simpa [Addr.add] using this
    obtain ⟨bl, off, spot⟩ := a
    obtain rfl : spot = none := hsp
    rw [add_off] at g0 g1 g2 g3 g4 g5
    simp at e0 e1 e2 e3 e4 e5
    subst e0 e1 e2 e3 e4 e5
    refine ⟨⟨o, t, k.data.toList, b.data.toList, q, g⟩, ⟨g0, g1, ?_, ?_, g4, g5⟩, rfl, s2, s3⟩
    · show _ = some (Value.string (str k.data.toList))
      rw [data_str]; exact g2
    · show _ = some (Value.string (str b.data.toList))
      rw [data_str]; exact g3

/-- A slice of records. -/
theorem recs_near {fuel : Nat} {v : Value} {y : DataW H × List MemPlace} (hw : Near 37 y.1) (h : DataW.trod enc Try.prog W base spare held fuel 37 [v] = some y) :
    ∃ A l c, v = .slice A (List.length l) c ∧ RecsAt W W.heap.size A l ∧ l.length ≤ c ∧ l.length * 64 ≤ 140737488351232 ∧ ∀ r ∈ l, r.k.length ≤ 140737488351232 ∧ r.b.length ≤ 140737488351232 := by
  rcases Go.Deep.open_slice Try.underlying37 h with ⟨hcs, _⟩ | ⟨a, len, cap, m, k, D, Pl, hcs, _, hl, hcm, hm, hx, hi⟩
  · simp at hcs
    subst hcs
    exact ⟨none, [], 0, rfl, .inl rfl, Nat.le_refl _, Nat.zero_le _, fun r hr => by cases hr⟩
  · simp at hcs
    subst hcs
    have hln := near_len Try.underlying37 bytes_rec hw h
    have hml : len ≤ m := by rw [hm]; split <;> omega
    have hd := congrArg Prod.fst hx
    simp only [] at hd
    rw [hd] at hw
    rw [cells_rec] at hi
    have key : ∀ i, i < len → ∃ r, RAt W (a.add (i * 6)).block (a.add (i * 6)).off r ∧ (a.add (i * 6)).spot = none ∧ r.k.length ≤ 140737488351232 ∧ r.b.length ≤ 140737488351232 := fun i hin => by
      obtain ⟨cs, hc, ht⟩ := hi i (by omega)
      exact rec_near hc (near_elem Try.underlying37 hw (List.mem_map.2 ⟨i, List.mem_range.2 (by omega), rfl⟩)) ht
    by_cases h0 : len = 0
    · subst h0
      exact ⟨some a, [], cap, rfl, .inl rfl, Nat.zero_le _, Nat.zero_le _, fun r hr => by cases hr⟩
    · have hsp : a.spot = none := by
        obtain ⟨_, _, h, _⟩ := key 0 (by omega)
        simpa [Addr.add] using h
      obtain ⟨b, off, spot⟩ := a
      obtain rfl : spot = none := hsp
      have key2 : ∀ i, ∃ r : Rc, i < len → RAt W b (off + i * 6) r ∧ r.k.length ≤ 140737488351232 ∧ r.b.length ≤ 140737488351232 := fun i => by
        by_cases hin : i < len
        · obtain ⟨r, hr, _, h3⟩ := key i hin
          rw [add_off] at hr
          exact ⟨r, fun _ => ⟨hr, h3⟩⟩
        · exact ⟨zero, fun h => absurd h hin⟩
      obtain ⟨f, hf⟩ := Classical.axiomOfChoice key2
      refine ⟨some ⟨b, off, none⟩, (List.range len).map f, cap, by simp, .inr ⟨b, off, rfl, ?_, fun j hj => ?_⟩, by simp; exact hln.2, by simpa using hln.1, fun r hr => ?_⟩
      · exact cell_lt (hf 0 (by omega)).1.c0
      · have hj' : j < len := by simpa using hj
        rw [List.getElem_map, List.getElem_range]
        exact (hf j hj').1
      · obtain ⟨i, hi2, rfl⟩ := List.mem_map.1 hr
        exact (hf i (List.mem_range.1 hi2)).2

theorem seg_near {fuel : Nat} {a : Addr} {cs : List Value} {y : DataW H × List MemPlace} (hc : W.cells? base a 2 = some cs) (hw : Near 49 y.1) (h : DataW.trod enc Try.prog W base spare held fuel 49 cs = some y) :
    ∃ s A c, SegAt W W.heap.size a.block a.off s A c ∧ a.spot = none ∧ Lim s := by
  obtain ⟨_, hlen, hcell⟩ := World.cells?_some hc
  match cs, hlen with
  | [v0, v1], _ =>
    have g0 := hcell 0 (by omega)
    have g1 := hcell 1 (by omega)
    change W.cell? (a.add 0) = some v0 at g0
    change W.cell? (a.add 1) = some v1 at g1
    obtain ⟨ys, n, _, hy, _, hyl, hf⟩ := DataW.trod_struct Try.underlying49 h
    subst hy
    have hyl' : ys.length = 2 := by simpa using hyl
    have f0 := hf 0 _ rfl
    have f1 := hf 1 _ rfl
    rw [List.getElem?_eq_getElem (by omega)] at f0 f1
    change DataW.trod enc Try.prog W base spare held n 3 (List.take (Try.prog.cellsOf 3) [v0, v1]) = _ at f0
    change DataW.trod enc Try.prog W base spare held n 37 (List.take (Try.prog.cellsOf 37) [v1]) = _ at f1
    rw [cells_int] at f0
    rw [cells_recs] at f1
    have w1 := near_field Try.underlying49 hw (j := 1) rfl rfl (List.getElem?_eq_getElem (by omega))
    obtain ⟨b, e0, _, _⟩ := DataW.trod_int Try.underlying3 f0
    obtain ⟨A, rs, c, rfl, hA, hcap, h64, hlim⟩ := recs_near (v := v1) w1 f1
    have hsp : a.spot = none := by
      have := World.cell?_spot g0
      simpa [Addr.add] using this
    obtain ⟨bl, off, spot⟩ := a
    obtain rfl : spot = none := hsp
    rw [add_off] at g0 g1
    simp at e0
    subst e0
    exact ⟨⟨b, rs⟩, A, c, ⟨g0, g1, hA, hcap, h64⟩, rfl, h64, hlim⟩

/-- A slice of segments. -/
theorem segs_near {fuel : Nat} {v : Value} {y : DataW H × List MemPlace} (hw : Near 23 y.1) (h : DataW.trod enc Try.prog W base spare held fuel 23 [v] = some y) :
    ∃ A l c, v = .slice A (List.length l) c ∧ SegsAt W W.heap.size A l ∧ l.length ≤ c ∧ l.length * 32 ≤ 140737488351232 ∧ ∀ s ∈ l, Lim s := by
  rcases Go.Deep.open_slice Try.underlying23 h with ⟨hcs, _⟩ | ⟨a, len, cap, m, k, D, Pl, hcs, _, hl, hcm, hm, hx, hi⟩
  · simp at hcs
    subst hcs
    exact ⟨none, [], 0, rfl, .inl rfl, Nat.le_refl _, Nat.zero_le _, fun r hr => by cases hr⟩
  · simp at hcs
    subst hcs
    have hln := near_len Try.underlying23 bytes_seg hw h
    have hml : len ≤ m := by rw [hm]; split <;> omega
    have hd := congrArg Prod.fst hx
    simp only [] at hd
    rw [hd] at hw
    rw [cells_seg] at hi
    have key : ∀ i, i < len → ∃ s A c, SegAt W W.heap.size (a.add (i * 2)).block (a.add (i * 2)).off s A c ∧ (a.add (i * 2)).spot = none ∧ Lim s := fun i hin => by
      obtain ⟨cs, hc, ht⟩ := hi i (by omega)
      exact seg_near hc (near_elem Try.underlying23 hw (List.mem_map.2 ⟨i, List.mem_range.2 (by omega), rfl⟩)) ht
    by_cases h0 : len = 0
    · subst h0
      exact ⟨some a, [], cap, rfl, .inl rfl, Nat.zero_le _, Nat.zero_le _, fun r hr => by cases hr⟩
    · have hsp : a.spot = none := by
        obtain ⟨_, _, _, _, h, _⟩ := key 0 (by omega)
        simpa [Addr.add] using h
      obtain ⟨b, off, spot⟩ := a
      obtain rfl : spot = none := hsp
      have key2 : ∀ i, ∃ s : Sp, i < len → (∃ A c, SegAt W W.heap.size b (off + i * 2) s A c) ∧ Lim s := fun i => by
        by_cases hin : i < len
        · obtain ⟨s, A, c, hr, _, h3⟩ := key i hin
          rw [add_off] at hr
          exact ⟨s, fun _ => ⟨⟨A, c, hr⟩, h3⟩⟩
        · exact ⟨spz, fun h => absurd h hin⟩
      obtain ⟨f, hf⟩ := Classical.axiomOfChoice key2
      refine ⟨some ⟨b, off, none⟩, (List.range len).map f, cap, by simp, .inr ⟨b, off, rfl, ?_, fun j hj => ?_⟩, by simp; exact hln.2, by simpa using hln.1, fun r hr => ?_⟩
      · obtain ⟨A, c, hs⟩ := (hf 0 (by omega)).1
        exact cell_lt hs.c0
      · have hj' : j < len := by simpa using hj
        rw [List.getElem_map, List.getElem_range]
        exact (hf j hj').1
      · obtain ⟨i, hi2, rfl⟩ := List.mem_map.1 hr
        exact (hf i (List.mem_range.1 hi2)).2

theorem ask_near {fuel : Nat} {a : Addr} {cs : List Value} {y : DataW H × List MemPlace} (hc : W.cells? base a 7 = some cs) (hw : Near 27 y.1) (h : DataW.trod enc Try.prog W base spare held fuel 27 cs = some y) :
    ∃ l r now A c, AskAt W W.heap.size a.block a.off l r now A c ∧ a.spot = none := by
  obtain ⟨_, hlen, hcell⟩ := World.cells?_some hc
  match cs, hlen with
  | [v0, v1, v2, v3, v4, v5, v6], _ =>
    have g0 := hcell 0 (by omega)
    have g1 := hcell 1 (by omega)
    have g2 := hcell 2 (by omega)
    have g3 := hcell 3 (by omega)
    have g4 := hcell 4 (by omega)
    have g5 := hcell 5 (by omega)
    have g6 := hcell 6 (by omega)
    change W.cell? (a.add 0) = some v0 at g0
    change W.cell? (a.add 1) = some v1 at g1
    change W.cell? (a.add 2) = some v2 at g2
    change W.cell? (a.add 3) = some v3 at g3
    change W.cell? (a.add 4) = some v4 at g4
    change W.cell? (a.add 5) = some v5 at g5
    change W.cell? (a.add 6) = some v6 at g6
    obtain ⟨ys, n, _, hy, _, hyl, hf⟩ := DataW.trod_struct Try.underlying27 h
    subst hy
    have hyl' : ys.length = 3 := by simpa using hyl
    have f0 := hf 0 _ rfl
    have f1 := hf 1 _ rfl
    have f2 := hf 2 _ rfl
    rw [List.getElem?_eq_getElem (by omega)] at f0 f1 f2
    change DataW.trod enc Try.prog W base spare held n 23 (List.take (Try.prog.cellsOf 23) [v0, v1, v2, v3, v4, v5, v6]) = _ at f0
    change DataW.trod enc Try.prog W base spare held n 25 (List.take (Try.prog.cellsOf 25) [v1, v2, v3, v4, v5, v6]) = _ at f1
    change DataW.trod enc Try.prog W base spare held n 3 (List.take (Try.prog.cellsOf 3) [v6]) = _ at f2
    rw [cells_segs] at f0
    rw [cells_ru] at f1
    rw [cells_int] at f2
    have w0 := near_field Try.underlying27 hw (j := 0) rfl rfl (List.getElem?_eq_getElem (by omega))
    change DataW.trod enc Try.prog W base spare held n 25 [v1, v2, v3, v4, v5] = _ at f1
    obtain ⟨zs, m, _, _, _, hzl, hzz⟩ := DataW.trod_struct Try.underlying25 f1
    have hzl' : zs.length = 5 := by simpa using hzl
    have z0 := hzz 0 _ rfl
    have z1 := hzz 1 _ rfl
    have z2 := hzz 2 _ rfl
    have z3 := hzz 3 _ rfl
    have z4 := hzz 4 _ rfl
    rw [List.getElem?_eq_getElem (by omega)] at z0 z1 z2 z3 z4
    change DataW.trod enc Try.prog W base spare held m 3 (List.take (Try.prog.cellsOf 3) [v1, v2, v3, v4, v5]) = _ at z0
    change DataW.trod enc Try.prog W base spare held m 3 (List.take (Try.prog.cellsOf 3) [v2, v3, v4, v5]) = _ at z1
    change DataW.trod enc Try.prog W base spare held m 3 (List.take (Try.prog.cellsOf 3) [v3, v4, v5]) = _ at z2
    change DataW.trod enc Try.prog W base spare held m 4 (List.take (Try.prog.cellsOf 4) [v4, v5]) = _ at z3
    change DataW.trod enc Try.prog W base spare held m 3 (List.take (Try.prog.cellsOf 3) [v5]) = _ at z4
    rw [cells_int] at z0 z1 z2 z4
    rw [cells_bool] at z3
    obtain ⟨x1, e1, _, _⟩ := DataW.trod_int Try.underlying3 z0
    obtain ⟨x2, e2, _, _⟩ := DataW.trod_int Try.underlying3 z1
    obtain ⟨x3, e3, _, _⟩ := DataW.trod_int Try.underlying3 z2
    obtain ⟨x4, e4, _⟩ := DataW.trod_bool Try.underlying4 z3
    obtain ⟨x5, e5, _, _⟩ := DataW.trod_int Try.underlying3 z4
    obtain ⟨x6, e6, _, _⟩ := DataW.trod_int Try.underlying3 f2
    obtain ⟨A, l, c, rfl, hA, hcap, h32, hlim⟩ := segs_near (v := v0) w0 f0
    have hsp : a.spot = none := by
      have := World.cell?_spot g0
      simpa [Addr.add] using this
    obtain ⟨bl, off, spot⟩ := a
    obtain rfl : spot = none := hsp
    rw [add_off] at g0 g1 g2 g3 g4 g5 g6
    simp at e1 e2 e3 e4 e5 e6
    subst e1 e2 e3 e4 e5 e6
    exact ⟨l, ⟨x1, x2, x3, x4, x5⟩, x6, A, c, ⟨g0, g1, g2, g3, g4, g5, g6, hA, hcap, h32, hlim, cell_lt g0⟩, rfl⟩

/-- The asks of an argument. -/
theorem asks_near {A : Option Addr} {n c : Nat} {d : DataW H} {p : List MemPlace} (hw : Near 22 d) (h : DataW.Trod enc Try.prog W base (fun _ => true) held 22 (.slice A n c) d p) : Asks W A n := by
  obtain ⟨fuel, hf⟩ := h
  rcases Go.Deep.open_slice Try.underlying22 hf with ⟨hcs, _⟩ | ⟨a, len, cap, m, k, D, Pl, hcs, _, hl, _, hm, hx, hi⟩
  · simp [Value.cells] at hcs
    exact .inl hcs.2.1
  · simp [Value.cells] at hcs
    obtain ⟨rfl, rfl, rfl⟩ := hcs
    simp at hm
    subst hm
    by_cases h0 : n = 0
    · exact .inl h0
    · right
      rw [cells_ask] at hi
      have hd := congrArg Prod.fst hx
      simp only [] at hd
      rw [hd] at hw
      have key : ∀ i, i < n → ∃ l r now A' c', AskAt W W.heap.size (a.add (i * 7)).block (a.add (i * 7)).off l r now A' c' ∧ (a.add (i * 7)).spot = none := fun i hin => by
        obtain ⟨cs, hc, ht⟩ := hi i (by omega)
        exact ask_near hc (near_elem Try.underlying22 hw (List.mem_map.2 ⟨i, List.mem_range.2 (by omega), rfl⟩)) ht
      have hsp : a.spot = none := by
        obtain ⟨_, _, _, _, _, _, h⟩ := key 0 (by omega)
        simpa [Addr.add] using h
      obtain ⟨b, off, spot⟩ := a
      obtain rfl : spot = none := hsp
      refine ⟨b, off, rfl, fun i hin => ?_⟩
      obtain ⟨l, r, now, A', c', h, _⟩ := key i hin
      rw [add_off] at h
      exact ⟨l, r, now, A', c', h⟩
end
end Go.Proofs.Ythdefnfpjbpbkaa.Kpd
/- Words for a round of the laws over asks of segments: an ask's box; what stands while other segments stand too. -/
namespace Go.Proofs.Ythdefnfpjbpbkaa.Kpd
open Go.RowKit Go.Lib Rcd

theorem info_ask : (Try.prog.info? 27).map (·.size) = some 7 := by kernel_rfl
def azero : Array Value := #[.slice none 0 0, .int .i64 0, .int .i64 0, .int .i64 0, .bool false, .int .i64 0, .int .i64 0]
theorem load_ask {W : World} {g : Nat} {cs : Array Value} (h : Blk W g cs) (h9 : cs.size = 7) : (loadVar 27 ⟨g, 0, none⟩).run Try.prog W = .ok (.agg cs) W :=
  run_loadVar_mid W g 0 27 cs.toList _ (fun j v hv => by rw [Nat.zero_add, h.cell j]; rw [← hv]; simp) Try.underlying27 rfl (by rw [info_ask]; simp [h9])
theorem load_ask_at {W : World} {B b o : Nat} {l : List Sp} {r : Ru} {now : Int} {A : Option Addr} {c : Nat} (h : AskAt W B b o l r now A c) :
    (loadVar 27 ⟨b, o, none⟩).run Try.prog W = .ok (.agg (aarr A l.length c r now)) W :=
  run_loadVar_mid W b o 27 [.slice A l.length c, .int .i64 r.sb, .int .i64 r.by_, .int .i64 r.ag, .bool r.co, .int .i64 r.gr, .int .i64 now] _ (fun j v hv => by
    match j, hv with
    | 0, hv => rw [← hv]; exact h.c0
    | 1, hv => rw [← hv]; exact h.c1
    | 2, hv => rw [← hv]; exact h.c2
    | 3, hv => rw [← hv]; exact h.c3
    | 4, hv => rw [← hv]; exact h.c4
    | 5, hv => rw [← hv]; exact h.c5
    | 6, hv => rw [← hv]; exact h.c6) Try.underlying27 rfl info_ask
/-- What was there at w8 stands, and the segments that are left too. -/
@[irreducible] def St (w8 : World) (v : Value) (K : List Sp) (xs : List Sx) (W : World) : Prop := Below w8.heap.size w8 W ∧ OwnS W w8.heap.size v K xs
section
variable {w8 W W' : World} {v : Value} {K : List Sp} {xs : List Sx}
theorem St.mk (h : Below w8.heap.size w8 W ∧ OwnS W w8.heap.size v K xs) : St w8 v K xs W := by unfold St; exact h
theorem St.out (h : St w8 v K xs W) : Below w8.heap.size w8 W ∧ OwnS W w8.heap.size v K xs := by unfold St at h; exact h
theorem St.below (h : St w8 v K xs W) (hb : Below W.heap.size W W') : St w8 v K xs W' := .mk ⟨bel_step h.out.1 hb, h.out.2.below hb⟩
theorem St.drewN (h : St w8 v K xs W) (n : Nat) : St w8 v K xs (W.drewN n) := h.below (below_drewN (Below.refl _ _) n)
theorem St.bel (h : St w8 v K xs W) : Below w8.heap.size w8 W := h.out.1
end
end Go.Proofs.Ythdefnfpjbpbkaa.Kpd
/- fold.Fold. -/
namespace Go.Proofs.Ythdefnfpjbpbkaa.Kpd
open Go.RowKit Go.Lib Rcd

theorem as_segs (v : Value) (w : World) : (Instr.typeAssert (.iface 23 v) 20 23 true).run Try.prog w = .ok (.tuple #[v, .bool true]) w := by kernel_rfl
theorem not_segs (v : Value) (w : World) : (Instr.typeAssert (.iface 30 v) 20 23 true).run Try.prog w = .ok (.tuple #[.slice none 0 0, .bool false]) w := by kernel_rfl
theorem as_fault2 (v : Value) (w : World) : (Instr.typeAssert (.iface 30 v) 20 30 false).run Try.prog w = .ok v w := by kernel_rfl

set_option maxRecDepth 100000 in
set_option maxHeartbeats 8000000 in
/-- fold.Fold. -/
theorem Fold_is (l K : List Sp) (r : Ru) (now : Int) (N L : Nat) (A : Option Addr) (c B : Nat) (E : Int) (w : World) (hN : l.length = N) (hm : N ≤ 9223372036854775807) (hcap : N ≤ c) (hB : B ≤ w.heap.size) (h : SegsAt w B A l) (hL : K.length = L) (hK : FoldIs l r now K E) :
    Calls Try.prog 9 #[.slice A N c, ruagg r, .int .i64 now] w fun e w' => ∃ A' c' xs, e = .returned (.tuple #[.slice A' L c', .int .i64 E]) ∧ OwnS w' w.heap.size (.slice A' L c') K xs ∧ Below w.heap.size w w' := by
  have HC := Lib.hid (fun W (hb : Below w.heap.size w W) => fold_call l K r now N L A c B E W hN hm hcap (Nat.le_trans hB hb.size) (h.below (hb.mono hB)) hL hK)
  have ha1 := as_segs
  have ha2 := not_segs
  have ha3 := as_fault2
  have R0 := Lib.hid (RBox.new w 25 (ruarr r.sb r.by_ r.ag r.co r.gr))
  unfold ruagg at HC ⊢
  obtain ⟨p, hp⟩ : ∃ p, w.heap.size = p := ⟨_, rfl⟩
  obtain ⟨W0, hW⟩ : ∃ W0, w.alloc (.cells (ruarr r.sb r.by_ r.ag r.co r.gr) 25) = W0 := ⟨_, rfl⟩
  rw [hW, hp] at R0
  unfold ruarr at R0 hW HC ⊢
  have HW := Lib.hid hW
  have HP := Lib.hid hp
  clear h hW hp hB hK hL hN hm hcap
  go_enter Try.func9, Try.ntmps9
  go_upto_region 1 with fail
  rw [HW.out, HP.out]
  clear HW HP
  have hld := load_ru R0.out.out.1 rfl
  go_wp2_with (refine wpList_load_any (by rfl) 25 (.tmp 4) rfl p 0 rfl _ hld ?_; simp only [Act.put])
  refine (HC.out _ R0.out.out.2).mono ?_
  rintro e w1 ⟨hv, hb1⟩
  have B1 := Lib.hid (bel_step R0.out.out.2 hb1)
  have S0 := Lib.hid R0.out.out.2.size
  clear hb1 HC hld R0
  rcases hv with ⟨rfl, rfl, rfl, rfl⟩ | ⟨rfl, A', c', xs, rfl, ho⟩
  · go_wp2_with fail
    go_quiet (fail)
    go_wp2_with fail
    go_ret2
    exact ⟨none, 0, [], rfl, .nil _ _, below_drewN B1.out _⟩
  · have HO := Lib.hid (ho.mono S0.out)
    clear ho
    go_wp2_with fail
    go_ret2
    exact ⟨A', c', xs, rfl, HO.out, B1.out⟩
end Go.Proofs.Ythdefnfpjbpbkaa.Kpd
/- The keys of the map, sorted, in a new slice. -/
namespace Go.Proofs.Ythdefnfpjbpbkaa.Kpd
open Go.RowKit Go.Maps Go.Sort Go.Shelf Rcd

abbrev keysI : FuncId := 48
/-- slices.Sort at this program, at the fence that asks nothing. -/
theorem sorts (m : Nat) : AnyZ.SortsIn Try.prog Try.sortedLay_ren Fence.wide m :=
  ⟨fun blk off cap ss W hH hblk hsz => callsIn_wide.2 (AnyM.slices_Sort_string Try.sortLay blk off cap ss W hH hblk hsz), fun p cap W => callsIn_wide.2 (AnyM.slices_Sort_string_none Try.sortLay p cap W)⟩
theorem keys_of (mb : Option Nat) (W : World) : Calls Try.prog 41 #[.map mb] W fun e w' =>
    e = .returned (.func (.func keysI) #[] #[.pointer (some ⟨W.heap.size, 0, none⟩)]) ∧ w' = W.alloc (.cells #[.map mb] 65) :=
  (callsIn_wide (n := 5)).1 (AnyZ.keys_in Try.keysLay Fence.wide 5 trivial rfl mb W)
set_option maxHeartbeats 1000000 in
theorem sorted_of {H : Type} (b nn : Nat) (D0 : DataW H) (R : Value → Option (DataW H × List MemPlace)) (w : World) (hown : w.ownsMap Try.prog 9 R b nn D0) (hmax : Maps.size D0 ≤ maxLen) (hbytes : Maps.size D0 * 16 ≤ 140737488355328) :
    Calls Try.prog 40 #[.func (.func keysI) #[] #[.pointer (some ⟨w.heap.size, 0, none⟩)]] (w.alloc (.cells #[.map (some b)] 65)) fun e w' => ∃ (v : Value) (ss : List (List UInt8)), e = .returned v ∧ ss.Perm (strKeys D0) ∧
      w'.ownsRow (w.alloc (.cells #[.map (some b)] 65)).heap.size 9 1 v ss.length ((ss.mergeSort (fun x y => decide (x ≤ y))).map encStr) ∧ Below (w.alloc (.cells #[.map (some b)] 65)).heap.size (w.alloc (.cells #[.map (some b)] 65)) w' := by
  have hbl := hown.lt
  have hseq : SeqGives Fence.wide 2 Try.prog keysI #[.pointer (some ⟨w.heap.size, 0, none⟩)] encStr (fun ss => ss.Perm (strKeys D0)) (Maps.size D0) (w.alloc (.cells #[.map (some b)] 65)) :=
    AnyZ.keys_gives (ρ := Try.keysLay_ren) { Try.keysLay with } Fence.wide _ trivial rfl (by omega) w.heap.size b nn D0 _ (by simp) (by simp) (by
      obtain ⟨es, clock, hb, Ft, hs, hD⟩ := hown
      exact ⟨es, clock, (Below.heap_alloc _ _ b hbl).trans hb, Ft, hs, hD⟩)
  refine ((callsIn_wide (n := 5)).1 (AnyZ.sorted_in Try.sortedLay Fence.wide 5 trivial trivial trivial trivial rfl (by omega) (sorts _) (enters_of Try.func47 (by kernel_rfl) rfl) keysI #[.pointer (some ⟨w.heap.size, 0, none⟩)] trivial (enters_of Try.func48 (by kernel_rfl) rfl) _ _ hmax hbytes _ hseq)).mono ?_
  rintro e w' ⟨v, ss, h1, h2, h3, _, h5⟩
  exact ⟨v, ss, h1, h2, h3, h5⟩
/-- Texts in cells. -/
def kcells (ks : List (List UInt8)) : List Value := ks.map encStr
theorem kcells_at {ks : List (List UInt8)} {j : Nat} (h : j < ks.length) : (kcells ks)[j]? = some (.string (str ks[j])) := by
  unfold kcells
  rw [List.getElem?_map, List.getElem?_eq_getElem h]; rfl
/-- The keys in order, each once. -/
def KeysOf2 (xs : List Rc) (ks : List (List UInt8)) : Prop := ks.Pairwise (· < ·) ∧ ∀ k, k ∈ ks ↔ ¬ k = [] ∧ (lastK xs k).isSome = true
set_option maxRecDepth 100000 in
set_option maxHeartbeats 2000000 in
/-- slices.Sorted of the map's keys. -/
theorem sorted_keys {w : World} {m nn : Nat} {xs : List Rc} {D : DV} (h : MapIn w m nn xs D) (hn : nn ≤ 1000000) :
    Calls Try.prog 40 #[.func (.func keysI) #[] #[.pointer (some ⟨w.heap.size, 0, none⟩)]] (w.alloc (.cells #[.map (some m)] 65)) fun e w' => ∃ (ks : List (List UInt8)) (A : Option Addr) (c : Nat), e = .returned (.slice A ks.length c) ∧ KeysOf2 xs ks ∧ ks.length ≤ nn ∧ w'.ownsRow w.heap.size 9 1 (.slice A ks.length c) ks.length (kcells ks) ∧ Below w.heap.size w w' := by
  have hal : Below w.heap.size w (w.alloc (.cells #[.map (some m)] 65)) := (Below.refl _ w).alloc (Nat.le_refl _) _
  have hsz : w.heap.size ≤ (w.alloc (.cells #[.map (some m)] 65)).heap.size := by simp
  have hs := h.size
  have hk := h.keys
  refine (sorted_of m nn D recR w h.own (by unfold maxLen; omega) (by omega)).mono ?_
  rintro e w' ⟨v, ss, rfl, hp, hrow, hb⟩
  have hnd : ss.Nodup := hp.nodup_iff.2 hk.1
  have hlen : (ss.mergeSort leB).length = ss.length := (List.mergeSort_perm ss leB).length_eq
  obtain ⟨A, c, rfl⟩ := row_slice hrow
  refine ⟨ss.mergeSort leB, A, c, by rw [hlen], ⟨sort_strict hnd, fun k => ?_⟩, ?_, ?_, hal.trans (hb.mono hsz)⟩
  · rw [(List.mergeSort_perm ss leB).mem_iff, hp.mem_iff]
    exact hk.2 k
  · rw [hlen, hp.length_eq]
    obtain ⟨es, hD, _⟩ := h.own.entries skeyed
    subst hD
    simpa [strKeys, Maps.size] using hs
  · rw [hlen]
    exact own_mono hrow hsz
end Go.Proofs.Ythdefnfpjbpbkaa.Kpd
/- Package fold: the last ones, by the map's keys in order. -/
namespace Go.Proofs.Ythdefnfpjbpbkaa.Kpd
open Go.RowKit Go.Lib Go.Maps Rcd

def outK (all : List Rc) (ks : List (List UInt8)) : List Rc := (ks.map (lastZ all)).filter (fun x => !x.g)
theorem outK_next {all : List Rc} {ks : List (List UInt8)} {j : Nat} (h : j < ks.length) : outK all (ks.take (j + 1)) = if (lastZ all ks[j]).g then outK all (ks.take j) else outK all (ks.take j) ++ [lastZ all ks[j]] := by
  unfold outK
  rw [List.take_succ_eq_append_getElem h, List.map_append, List.filter_append]
  show _ ++ List.filter _ [lastZ all ks[j]] = _
  rw [List.filter_cons]
  cases (lastZ all ks[j]).g <;> simp
theorem outK_len (all : List Rc) (ks : List (List UInt8)) : (outK all ks).length ≤ ks.length := by
  unfold outK
  exact Nat.le_trans (List.length_filter_le _ _) (by rw [List.length_map]; exact Nat.le_refl _)
/-- A map's block is no row's. -/
theorem map_off {w : World} {m nn : Nat} {xs : List Rc} {D : DV} {B e size n : Nat} {v : Value} {vs : List Value} (h : MapIn w m nn xs D) (hr : w.ownsRow B e size v n vs) : some m ≠ v.ownBlock := by
  intro e1
  rcases hr.2 with ⟨rfl, _⟩ | ⟨g, cap, cur, rfl, _, hg, _⟩
  · cases e1
  · have e2 : m = g := by simpa [Value.ownBlock] using e1
    subst e2
    obtain ⟨es, c, hb, _⟩ := h.own
    rw [hg] at hb
    cases hb
/-- What lasts answers. -/
def LastsV (L : Nat) (K : List Rc) (E : Int) (w : World) (e : Ending) (w' : World) : Prop :=
  ((E = 1 ∧ L = 0 ∧ K = [] ∧ e = .returned (.iface 30 (.int .i64 1))) ∨ (E = 0 ∧ ∃ A' c', e = .returned (.iface 37 (.slice A' L c')) ∧ w'.ownsRow w.heap.size 46 6 (.slice A' L c') L (flat K))) ∧ Below w.heap.size w w'

set_option maxRecDepth 100000 in
set_option maxHeartbeats 8000000 in
/-- fold.lasts. -/
theorem lasts_call (l : List Sp) (K : List Rc) (N L : Nat) (A : Option Addr) (c B : Nat) (E : Int) (w : World) (hN : l.length = N) (hm : N ≤ 9223372036854775807) (hcap : N ≤ c) (hB : B ≤ w.heap.size) (h : SegsAt w B A l) (hL : K.length = L) (hK : LastIs l K E) :
    Calls Try.prog 29 #[.slice A N c] w (LastsV L K E w) := by
  rcases hK with ⟨rfl, rfl, h1⟩ | ⟨rfl, h1, hKe⟩
  · obtain rfl : L = 0 := hL.symm
    have HC := Lib.hid (Copies_is l [] 0 N 0 A c B 1 w hN hm hcap hB h rfl (.inl ⟨rfl, rfl, by unfold cpB; rw [h1]; rfl⟩))
    clear h h1 hB hN hm hcap hL
    go_enter Try.func29, Try.ntmps29
    go_wp2_with fail
    refine HC.out.mono ?_
    rintro e w1 ⟨A', c', xs, rfl, _, hb1⟩
    have HB := Lib.hid hb1
    clear hb1 HC
    go_wp2_with fail
    go_ret
    exact ⟨.inl ⟨rfl, rfl, rfl, rfl⟩, HB.out⟩
  · have HC := Lib.hid (Copies_is l l 0 N N A c B 0 w hN hm hcap hB h hN (.inr ⟨rfl, by unfold cpB; rw [h1]; rfl, rfl⟩))
    have hrow := row_pairs.1 h1
    obtain ⟨i0, hi, hz0, hz1, hz2⟩ := info_parts info_more
    obtain ⟨all, hall⟩ : ∃ all, recsOf l = all := ⟨_, rfl⟩
    obtain ⟨M, hM⟩ : ∃ M, all.length = M := ⟨_, rfl⟩
    have hM200 : M ≤ 200 := by rw [← hM, ← hall]; exact hrow.1.2.2
    have hN201 : N ≤ 201 := by rw [← hN]; exact hrow.1.2.1
    have hkl : ∀ x ∈ recsOf l, x.k.length ≤ 1000000 := by
      intro x hx
      obtain ⟨s, hs, hxs⟩ := List.mem_flatMap.1 hx
      have := (may_iff x).1 (seg_may (hrow.2.1 s hs) x hxs)
      omega
    have HLO := Lib.hid (fun A1 c1 W xs (ho : OwnS W w.heap.size (.slice A1 N c1) l xs) => LastOf_is l N M A1 c1 W.heap.size W hN (by omega) (by rw [hall]; exact hM) (by omega) (Nat.le_refl _) (.of_own ho) hkl)
    have hpw := row_recs h1
    rw [hall] at hKe hpw HLO
    have HKK : Hid (∀ ks, KeysOf2 all ks → outK all ks = K) := by
      show ∀ ks, _
      intro ks hks
      rw [hKe]
      exact keys_lasts hpw hks.1 hks.2
    have HLL := Lib.hid hL
    have HKL : Hid (∀ ks, KeysOf2 all ks → ∀ x ∈ ks, x.length ≤ 1000000) := by
      show ∀ ks, _
      intro ks hks x hx
      obtain ⟨h0, h2⟩ := (hks.2 x).1 hx
      obtain ⟨y, hy⟩ := Option.isSome_iff_exists.1 h2
      obtain ⟨h3, h4⟩ := lastK_some hy
      rw [← h4]
      exact hkl y (by rw [hall]; exact h3)
    have HKY := Lib.hid (fun mb W => keys_of mb W)
    clear hrow hall hM hkl hKe hpw h h1 hB hN hm hcap hL
    go_enter Try.func29, Try.ntmps29
    go_wp2_with fail
    refine HC.out.mono ?_
    rintro e w1 ⟨A1, c1, xs, rfl, ho, hb1⟩
    have B1 := Lib.hid hb1
    have HL1 := Lib.hid (HLO.out A1 c1 w1 xs ho)
    clear hb1 HC ho HLO
    go_wp2_with fail
    refine HL1.out.mono ?_
    rintro e w2 ⟨m, D, rfl, hm1, hmap, hb2⟩
    have B2 := Lib.hid (bel_step B1.out hb2)
    have MP := Lib.hid hmap
    have HSO := Lib.hid (sorted_keys hmap (by omega))
    clear hmap hb2 B1 HL1
    go_wp2_with fail
    refine (HKY.out _ _).mono ?_
    rintro e w3 ⟨rfl, rfl⟩
    go_wp2_with fail
    refine HSO.out.mono ?_
    rintro e w4 ⟨ks, A3, c3, rfl, hks, hlen, hkr, hb4⟩
    obtain ⟨n, hn⟩ : ∃ n, ks.length = n := ⟨_, rfl⟩
    rw [hn] at hkr hlen ⊢
    have HN := Lib.hid hn
    have B4 := Lib.hid (bel_step B2.out hb4)
    have MP4 := Lib.hid (MP.out.below hb4)
    have KR := Lib.hid (own_mono hkr B2.out.size)
    have HKE := Lib.hid (HKK.out ks hks)
    have HKX := Lib.hid (HKL.out ks hks)
    clear hks hkr hb4 HSO HKY B2 MP HKK HKL hn
    go_wp2_with fail
    go_loopw [5, 25] (fun v i wr => ∃ (j cnt : Nat), j ≤ n ∧ i = .int .i64 (j : Int) ∧ (outK all (ks.take j)).length = cnt ∧ wr.ownsRow w.heap.size 46 6 v cnt (flat (outK all (ks.take j))) ∧ MapIn wr m M all D ∧ wr.ownsRow w.heap.size 9 1 (.slice A3 n c3) n (kcells ks) ∧ Below w.heap.size w wr) (fun _ i _ => n - (RowKit.intOf i).toNat)
    case atStart => exact ⟨0, 0, Nat.zero_le _, rfl, rfl, World.ownsRow_nil _ _ _ _, MP4.out, KR.out, B4.out⟩
    case round =>
      obtain ⟨j, cnt, hj, rfl, hcnt, hown, hmp, hkr, hbl⟩ := hrel
      have OW := Lib.hid hown
      have MP := Lib.hid hmp
      have KR2 := Lib.hid hkr
      have HB := Lib.hid hbl
      have HCN := Lib.hid hcnt
      clear hown hmp hkr hbl hcnt MP4 KR B4
      by_cases hlt : j < n
      · have hjr : j < ks.length := by rw [HN.out]; exact hlt
        have hnx := outK_next (all := all) hjr
        have hxl := HKX.out _ (List.getElem_mem hjr)
        have hlk := MP.out.look ks[j] (by omega)
        obtain ⟨g, hA3, _⟩ : ∃ g, A3 = some ⟨g, 0, none⟩ ∧ True := by
          rcases KR2.out.2 with ⟨_, h0⟩ | ⟨g, cap, cur, hv, _⟩
          · omega
          · injection hv with h1
            exact ⟨g, h1, trivial⟩
        subst hA3
        have c0 : wr.cell? ⟨g, j, none⟩ = some (.string (str ks[j])) := by rw [KR2.out.cellAt j (by omega)]; exact kcells_at hjr
        generalize lastZ all ks[j] = z at hnx hlk
        generalize str ks[j] = ksj at hlk c0
        obtain ⟨zo, zt, zk, zb, zq, zg⟩ := z
        unfold ragg at hlk
        dsimp only at hlk hnx
        obtain ⟨zks, hzk⟩ : ∃ s, str zk = s := ⟨_, rfl⟩
        obtain ⟨zbs, hzb⟩ : ∃ s, str zb = s := ⟨_, rfl⟩
        have hfc : rcells ⟨zo, zt, zk, zb, zq, zg⟩ = [.int .i64 zo, .int .i64 zt, .string zks, .string zbs, .int .i64 zq, .bool zg] := by rw [← hzk, ← hzb]; rfl
        rw [hzk, hzb] at hlk
        unfold rarr at hlk
        have HFC := Lib.hid hfc
        have HNX := Lib.hid hnx
        have e1 : (j : Int) < (n : Int) := by omega
        obtain ⟨b9, W8, hg8, hW8, hbn, hbx, hbw⟩ := any_box HB.out 46 zcells (rarr zo zt zks zbs zq zg)
        have HBN := Lib.hid hbn
        have X6 := Lib.hid hbx
        have MP6 := Lib.hid (MP.out.below hbw)
        have KR6 := Lib.hid (own_below KR2.out hbw)
        have OW6 := Lib.hid (own_below OW.out hbw)
        unfold zcells at hW8
        unfold rarr at X6 MP6 KR6 OW6
        have HW8 := Lib.hid hW8
        clear hbn hbx hbw hW8 hzk hzb hfc hnx hxl MP KR2 HB OW
        go_upto_region 10 with (rw [HW8.out]; refine wpList_store_whole rfl 46 (.tmp 9) (.tmp 31) rfl b9 _ rfl rfl zcells HBN.out info_rec rfl (by simp [Value.oneCell']) ?_; simp only [Act.put])
        clear HW8 HBN hg8 hjr hlk c0
        generalize World.setRow _ _ _ = w6 at X6 MP6 KR6 OW6 ⊢
        have x5 : w6.cell? ⟨b9, 5, none⟩ = some (.bool zg) := X6.out.cell 5
        cases zg with
        | true =>
          have hf := HNX.out
          have HF2 := Lib.hid (show outK all (ks.take (j + 1)) = outK all (ks.take j) from hf)
          clear hf HNX
          go_wp2_with fail
          go_roundw
          case rel => exact ⟨j + 1, cnt, hlt, by go_num, by rw [HF2.out]; exact HCN.out, by rw [HF2.out]; exact OW6.out, MP6.out, KR6.out, X6.out.out.2⟩
          case measure => simp [RowKit.intOf]; omega
        | false =>
          have hf := HNX.out
          have HF2 := Lib.hid (show outK all (ks.take (j + 1)) = outK all (ks.take j) ++ [⟨zo, zt, zk, zb, zq, false⟩] from hf)
          have hcq : cnt ≤ 200 := by
            rw [← HCN.out]
            refine Nat.le_trans (outK_len _ _) ?_
            rw [List.length_take]; omega
          have HON := Lib.hid (show ∀ z ∈ ([.int .i64 zo, .int .i64 zt, .string zks, .string zbs, .int .i64 zq, .bool false] : List Value), z.oneCell' = true by rw [← HFC.out]; exact one_cells _)
          clear hf HNX
          have hld := X6.out.load rfl
          have hl6 : w.heap.size ≤ w6.heap.size := X6.out.out.2.size
          go_wp2_with (first | (refine wpList_load_any (by rfl) 46 (.tmp 9) rfl b9 0 rfl _ hld ?_; simp only [Act.put]) | (at_builtin; refine wpList_append_own _ rfl _ _ 37 rfl w.heap.size 46 i0 (.agg zcells) 6 64 Try.underlying37 hi hz0 hz1 hz2 rfl (by decide) _ _ _ rfl (OW6.out.alloc _) ⟨w6.heap.size, 0, none⟩ 1 1 [.int .i64 zo, .int .i64 zt, .string zks, .string zbs, .int .i64 zq, .bool false] rfl rfl ?a1 ?a2 ?a3 ?a4 ?a5 ?_))
          case a1 => exact fun j u h => cells_new w6 _ [.int .i64 zo, .int .i64 zt, .string zks, .string zbs, .int .i64 zq, .bool false] j u h
          case a2 => exact HON.out
          case a3 => unfold maxLen; omega
          case a4 => first | omega | (simp; omega)
          case a5 => first | omega | (simp; omega)
          intro v' w8 hown' hgrow _
          have ha : Below w6.heap.size w6 (w6.alloc (.cells #[.int .i64 zo, .int .i64 zt, .string zks, .string zbs, .int .i64 zq, .bool false] 46)) := (Below.refl _ _).alloc (Nat.le_refl _) _
          have MP8 := Lib.hid ((MP6.out.below ha).kept hgrow (map_off MP6.out OW6.out))
          have KR8 := Lib.hid (rows_apart (own_below KR6.out ha) (own_below OW6.out ha) (by decide) hgrow)
          have B8 := Lib.hid (X6.out.out.2.trans (below_alloc_grown hl6 OW6.out hgrow))
          have O8 : Hid (w8.ownsRow w.heap.size 46 6 v' (cnt + 1) (flat (outK all (ks.take (j + 1))))) := by show World.ownsRow _ _ _ _ _ _ _; rw [HF2.out, flat_snoc, HFC.out]; exact hown'
          have HCN2 : Hid ((outK all (ks.take (j + 1))).length = cnt + 1) := by show _ = _; rw [HF2.out, List.length_append, HCN.out]; rfl
          clear hown' hgrow MP6 KR6 OW6 X6 hld x5 ha HON HCN HFC HF2
          go_wp2_with fail
          go_roundw
          case rel => exact ⟨j + 1, cnt + 1, hlt, by go_num, HCN2.out, O8.out, MP8.out, KR8.out, B8.out⟩
          case measure => simp [RowKit.intOf]; omega
      · have hjn : j = n := by omega
        have htk : ks.take j = ks := List.take_of_length_le (by rw [HN.out, hjn]; exact Nat.le_refl _)
        rw [htk, HKE.out] at OW HCN
        obtain ⟨A9, c9, hv9⟩ := row_slice OW.out
        have hcL : cnt = L := by rw [← HCN.out, HLL.out]
        subst hv9
        subst hcL
        clear htk hjn
        go_wp2_with fail
        go_ret
        exact ⟨.inr ⟨rfl, A9, c9, rfl, OW.out⟩, HB.out⟩
end Go.Proofs.Ythdefnfpjbpbkaa.Kpd
/- fold.Lasts. -/
namespace Go.Proofs.Ythdefnfpjbpbkaa.Kpd
open Go.RowKit Go.Lib Rcd

theorem as_recs (v : Value) (w : World) : (Instr.typeAssert (.iface 37 v) 20 37 true).run Try.prog w = .ok (.tuple #[v, .bool true]) w := by kernel_rfl
theorem not_recs (v : Value) (w : World) : (Instr.typeAssert (.iface 30 v) 20 37 true).run Try.prog w = .ok (.tuple #[.slice none 0 0, .bool false]) w := by kernel_rfl
theorem as_fault (v : Value) (w : World) : (Instr.typeAssert (.iface 30 v) 20 30 false).run Try.prog w = .ok v w := by kernel_rfl

set_option maxRecDepth 100000 in
set_option maxHeartbeats 8000000 in
/-- fold.Lasts. -/
theorem Lasts_is (l : List Sp) (K : List Rc) (N L : Nat) (A : Option Addr) (c B : Nat) (E : Int) (w : World) (hN : l.length = N) (hm : N ≤ 9223372036854775807) (hcap : N ≤ c) (hB : B ≤ w.heap.size) (h : SegsAt w B A l) (hL : K.length = L) (hK : LastIs l K E) :
    Calls Try.prog 15 #[.slice A N c] w fun e w' => ∃ A' c', e = .returned (.tuple #[.slice A' L c', .int .i64 E]) ∧ w'.ownsRow w.heap.size 46 6 (.slice A' L c') L (flat K) ∧ Below w.heap.size w w' := by
  have HC := Lib.hid (lasts_call l K N L A c B E w hN hm hcap hB h hL hK)
  have ha1 := as_recs
  have ha2 := not_recs
  have ha3 := as_fault
  clear hK h hL hB hN hm hcap
  go_enter Try.func15, Try.ntmps15
  go_wp2_with fail
  refine HC.out.mono ?_
  rintro e w1 ⟨hv, hb1⟩
  have B1 := Lib.hid hb1
  clear hb1 HC
  rcases hv with ⟨rfl, rfl, rfl, rfl⟩ | ⟨rfl, A', c', rfl, ho⟩
  · go_wp2_with fail
    go_quiet (fail)
    go_wp2_with fail
    go_ret2
    exact ⟨none, 0, rfl, World.ownsRow_nil _ _ _ _, below_drewN B1.out _⟩
  · have HO := Lib.hid ho
    clear ho
    go_wp2_with fail
    go_ret2
    exact ⟨A', c', rfl, HO.out, B1.out⟩
end Go.Proofs.Ythdefnfpjbpbkaa.Kpd
/- The fourteenth layer's num; records of other offsets are other records. -/
namespace Go.Proofs.Ythdefnfpjbpbkaa.Kpd
open Go.RowKit Go.Lib Rcd

set_option maxHeartbeats 1000000 in
theorem fnum_is (n : Int) (w : World) : Calls Try.prog 12 #[.int .i64 n] w fun e w' => e = .returned (.int .i64 n) ∧ w = w' := by
  go_enter Try.func12, Try.ntmps12
  go_wp2
  go_ret
  exact ⟨rfl, rfl⟩
theorem eql_rec_off (o o' t t' : Int) (k k' b b' : ByteArray) (q q' : Int) (g g' : Bool) (w : World) (h : ¬ o = o') : (binOp .eql 46 (.agg (rarr o t k b q g)) (.agg (rarr o' t' k' b' q' g'))).run Try.prog w = .ok (.bool false) w := by
  have h1 : (o == o') = false := beq_eq_false_iff_ne.2 h
  unfold rarr
  rw [run_eql_struct]
  go_simp
end Go.Proofs.Ythdefnfpjbpbkaa.Kpd
