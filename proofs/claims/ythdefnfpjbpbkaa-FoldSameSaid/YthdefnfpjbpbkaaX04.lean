/- Texts of the proof, part 4: RcMayBe, SgMem, SgFollow, SgCheck, RcEqual, SgTools, SgTri, SgBlk, SgBox, SgSlice. -/
import Derived.Deep.Cut
import Derived.Deep.QuietTactic
import Derived.BigQuiet
import Derived.IntWalk
import Derived.Test.YthdefnfpjbpbkaaX03
/- Package rec: whether a record may be. A block of the call's own whose cells are known. -/
namespace Go.Proofs.Ythdefnfpjbpbkaa
open Go.RowKit Go.Lib Rcd

set_option maxRecDepth 100000 in
set_option maxHeartbeats 1000000 in
theorem isWithin_is (n a b : Int) (X : Bool) (w : World) (h : decide (a ≤ n ∧ n ≤ b) = X) :
    Calls Try.prog 86 #[.int .i64 n, .int .i64 a, .int .i64 b] w fun e w' => e = .returned (.bool X) ∧ w = w' := by
  have HX := Lib.hid h
  clear h
  by_cases h1 : a ≤ n
  · by_cases h2 : n ≤ b
    · go_enter Try.func86, Try.ntmps86
      go_wp2
      go_ret
      exact ⟨ret_bool (by rw [← HX.out]; exact (decide_eq_true (by omega)).symm), rfl⟩
    · go_enter Try.func86, Try.ntmps86
      go_wp2
      go_ret
      exact ⟨ret_bool (by rw [← HX.out]; exact (decide_eq_false (by omega)).symm), rfl⟩
  · go_enter Try.func86, Try.ntmps86
    go_wp2
    go_ret
    exact ⟨ret_bool (by rw [← HX.out]; exact (decide_eq_false (by omega)).symm), rfl⟩

theorem ne_empty {b : ByteArray} (h : ¬ b = ⟨#[]⟩) : b.toList.isEmpty = false ∧ ¬ b.toList = [] := by
  have : ¬ b.toList = [] := fun e => h (by rw [← data_str b, ← toList_data_eq, e]; rfl)
  exact ⟨by rw [List.isEmpty_eq_false_iff]; exact this, this⟩
def mayE (r : Rc) : Int := if mayB r then 0 else 1
/-- Whether a record may be, test by test. -/
theorem may_ways (o t : Int) (k b : ByteArray) (q : Int) (g : Bool) :
    (decide (0 ≤ o ∧ o ≤ 1099511627775) = false ∧ mayE ⟨o, t, k.data.toList, b.data.toList, q, g⟩ = 1) ∨
    (decide (0 ≤ o ∧ o ≤ 1099511627775) = true ∧ decide (0 ≤ t ∧ t ≤ 1099511627776) = false ∧ mayE ⟨o, t, k.data.toList, b.data.toList, q, g⟩ = 1) ∨
    (decide (0 ≤ o ∧ o ≤ 1099511627775) = true ∧ decide (0 ≤ t ∧ t ≤ 1099511627776) = true ∧ decide ((k.size : Int) ≤ 1024) = false ∧ mayE ⟨o, t, k.data.toList, b.data.toList, q, g⟩ = 1) ∨
    (decide (0 ≤ o ∧ o ≤ 1099511627775) = true ∧ decide (0 ≤ t ∧ t ≤ 1099511627776) = true ∧ decide ((k.size : Int) ≤ 1024) = true ∧ decide ((b.size : Int) ≤ 1024) = false ∧ mayE ⟨o, t, k.data.toList, b.data.toList, q, g⟩ = 1) ∨
    (decide (0 ≤ o ∧ o ≤ 1099511627775) = true ∧ decide (0 ≤ t ∧ t ≤ 1099511627776) = true ∧ decide ((k.size : Int) ≤ 1024) = true ∧ decide ((b.size : Int) ≤ 1024) = true ∧ decide (0 ≤ q ∧ q ≤ 2) = false ∧ mayE ⟨o, t, k.data.toList, b.data.toList, q, g⟩ = 1) ∨
    (decide (0 ≤ o ∧ o ≤ 1099511627775) = true ∧ decide (0 ≤ t ∧ t ≤ 1099511627776) = true ∧ decide ((k.size : Int) ≤ 1024) = true ∧ decide ((b.size : Int) ≤ 1024) = true ∧ decide (0 ≤ q ∧ q ≤ 2) = true ∧ b = ⟨#[]⟩ ∧ mayE ⟨o, t, k.data.toList, b.data.toList, q, g⟩ = 0) ∨
    (decide (0 ≤ o ∧ o ≤ 1099511627775) = true ∧ decide (0 ≤ t ∧ t ≤ 1099511627776) = true ∧ decide ((k.size : Int) ≤ 1024) = true ∧ decide ((b.size : Int) ≤ 1024) = true ∧ decide (0 ≤ q ∧ q ≤ 2) = true ∧ ¬ b = ⟨#[]⟩ ∧ g = false ∧ mayE ⟨o, t, k.data.toList, b.data.toList, q, g⟩ = 0) ∨
    (decide (0 ≤ o ∧ o ≤ 1099511627775) = true ∧ decide (0 ≤ t ∧ t ≤ 1099511627776) = true ∧ decide ((k.size : Int) ≤ 1024) = true ∧ decide ((b.size : Int) ≤ 1024) = true ∧ decide (0 ≤ q ∧ q ≤ 2) = true ∧ ¬ b = ⟨#[]⟩ ∧ g = true ∧ mayE ⟨o, t, k.data.toList, b.data.toList, q, g⟩ = 1) := by
  have hk : k.data.toList.length = k.size := by rw [Array.length_toList]; rfl
  have hb : b.data.toList.length = b.size := by rw [Array.length_toList]; rfl
  have he : b.data.toList = [] ↔ b = ⟨#[]⟩ := ⟨fun h => by rw [← data_str b, h]; rfl, fun h => by rw [h]⟩
  have key : mayB ⟨o, t, k.data.toList, b.data.toList, q, g⟩ = decide ((0 ≤ o ∧ o ≤ 1099511627775) ∧ (0 ≤ t ∧ t ≤ 1099511627776) ∧ (k.size : Int) ≤ 1024 ∧ (b.size : Int) ≤ 1024 ∧ (0 ≤ q ∧ q ≤ 2) ∧ (b = ⟨#[]⟩ ∨ g = false)) := by
    rw [Bool.eq_iff_iff, may_iff, decide_eq_true_iff, ← he]
    simp only [hk, hb]
    constructor
    · rintro ⟨h1, h2, h3, h4, h5, h6, h7, h8, h9⟩
      exact ⟨⟨h1, h2⟩, ⟨h3, h4⟩, by omega, by omega, ⟨h7, h8⟩, h9⟩
    · rintro ⟨⟨h1, h2⟩, ⟨h3, h4⟩, h5, h6, ⟨h7, h8⟩, h9⟩
      exact ⟨h1, h2, h3, h4, by omega, by omega, h7, h8, h9⟩
  unfold mayE
  rw [key]
  clear key
  by_cases c1 : 0 ≤ o ∧ o ≤ 1099511627775
  · by_cases c2 : 0 ≤ t ∧ t ≤ 1099511627776
    · by_cases c3 : (k.size : Int) ≤ 1024
      · by_cases c4 : (b.size : Int) ≤ 1024
        · by_cases c5 : 0 ≤ q ∧ q ≤ 2
          · by_cases c6 : b = ⟨#[]⟩
            · exact .inr (.inr (.inr (.inr (.inr (.inl ⟨decide_eq_true c1, decide_eq_true c2, decide_eq_true c3, decide_eq_true c4, decide_eq_true c5, c6, by rw [decide_eq_true ⟨c1, c2, c3, c4, c5, .inl c6⟩]; rfl⟩)))))
            · cases g with
              | false => exact .inr (.inr (.inr (.inr (.inr (.inr (.inl ⟨decide_eq_true c1, decide_eq_true c2, decide_eq_true c3, decide_eq_true c4, decide_eq_true c5, c6, rfl, by rw [decide_eq_true ⟨c1, c2, c3, c4, c5, .inr rfl⟩]; rfl⟩))))))
              | true => exact .inr (.inr (.inr (.inr (.inr (.inr (.inr ⟨decide_eq_true c1, decide_eq_true c2, decide_eq_true c3, decide_eq_true c4, decide_eq_true c5, c6, rfl, by rw [decide_eq_false (by rintro ⟨_, _, _, _, _, h | h⟩; exact c6 h; cases h)]; rfl⟩))))))
          · exact .inr (.inr (.inr (.inr (.inl ⟨decide_eq_true c1, decide_eq_true c2, decide_eq_true c3, decide_eq_true c4, decide_eq_false c5, by rw [decide_eq_false (fun h => c5 h.2.2.2.2.1)]; rfl⟩))))
        · exact .inr (.inr (.inr (.inl ⟨decide_eq_true c1, decide_eq_true c2, decide_eq_true c3, decide_eq_false c4, by rw [decide_eq_false (fun h => c4 h.2.2.2.1)]; rfl⟩)))
      · exact .inr (.inr (.inl ⟨decide_eq_true c1, decide_eq_true c2, decide_eq_false c3, by rw [decide_eq_false (fun h => c3 h.2.2.1)]; rfl⟩))
    · exact .inr (.inl ⟨decide_eq_true c1, decide_eq_false c2, by rw [decide_eq_false (fun h => c2 h.2.1)]; rfl⟩)
  · exact .inl ⟨decide_eq_false c1, by rw [decide_eq_false (fun h => c1 h.1)]; rfl⟩

set_option maxRecDepth 100000 in
set_option maxHeartbeats 4000000 in
theorem Check_parts (o t : Int) (k b : ByteArray) (q : Int) (g : Bool) (E : Int) (w : World) (hE : mayE ⟨o, t, k.data.toList, b.data.toList, q, g⟩ = E) :
    Calls Try.prog 85 #[.agg (rarr o t k b q g)] w fun e w' => e = .returned (.int .i64 E) ∧ Below w.heap.size w w' := by
  unfold rarr
  rcases may_ways o t k b q g with ⟨h1, h⟩ | ⟨h1, h2, h⟩ | ⟨h1, h2, h3, h⟩ | ⟨h1, h2, h3, h4, h⟩ | ⟨h1, h2, h3, h4, h5, h⟩ | ⟨h1, h2, h3, h4, h5, h6, h⟩ | ⟨h1, h2, h3, h4, h5, h6, h7, h⟩ | ⟨h1, h2, h3, h4, h5, h6, h7, h⟩
  · obtain rfl : E = 1 := hE.symm.trans h
    have Ho := Lib.hid h1
    clear h hE h1
    go_enter Try.func85, Try.ntmps85
    go_wp2_with (go_at_call 86; refine (isWithin_is _ _ _ _ _ (by first | with_reducible exact Ho.out)).mono ?_; rintro e w' ⟨rfl, rfl⟩)
    go_ret
    exact ⟨rfl, (Below.refl _ _).alloc (Nat.le_refl _) _⟩
  · obtain rfl : E = 1 := hE.symm.trans h
    have Ho := Lib.hid h1
    have Ht := Lib.hid h2
    clear h hE h1 h2
    go_enter Try.func85, Try.ntmps85
    go_wp2_with (go_at_call 86; refine (isWithin_is _ _ _ _ _ (by first | with_reducible exact Ho.out | with_reducible exact Ht.out)).mono ?_; rintro e w' ⟨rfl, rfl⟩)
    go_ret
    exact ⟨rfl, (Below.refl _ _).alloc (Nat.le_refl _) _⟩
  · obtain rfl : E = 1 := hE.symm.trans h
    have Ho := Lib.hid h1
    have Ht := Lib.hid h2
    clear h hE h1 h2
    go_enter Try.func85, Try.ntmps85
    go_wp2_with (go_at_call 86; refine (isWithin_is _ _ _ _ _ (by first | with_reducible exact Ho.out | with_reducible exact Ht.out)).mono ?_; rintro e w' ⟨rfl, rfl⟩)
    go_ret
    exact ⟨rfl, (Below.refl _ _).alloc (Nat.le_refl _) _⟩
  · obtain rfl : E = 1 := hE.symm.trans h
    have Ho := Lib.hid h1
    have Ht := Lib.hid h2
    clear h hE h1 h2
    go_enter Try.func85, Try.ntmps85
    go_wp2_with (go_at_call 86; refine (isWithin_is _ _ _ _ _ (by first | with_reducible exact Ho.out | with_reducible exact Ht.out)).mono ?_; rintro e w' ⟨rfl, rfl⟩)
    go_ret
    exact ⟨rfl, (Below.refl _ _).alloc (Nat.le_refl _) _⟩
  · obtain rfl : E = 1 := hE.symm.trans h
    have Ho := Lib.hid h1
    have Ht := Lib.hid h2
    have Hq := Lib.hid h5
    clear h hE h1 h2 h5
    go_enter Try.func85, Try.ntmps85
    go_wp2_with (go_at_call 86; refine (isWithin_is _ _ _ _ _ (by first | with_reducible exact Ho.out | with_reducible exact Ht.out | with_reducible exact Hq.out)).mono ?_; rintro e w' ⟨rfl, rfl⟩)
    go_ret
    exact ⟨rfl, (Below.refl _ _).alloc (Nat.le_refl _) _⟩
  · obtain rfl : E = 0 := hE.symm.trans h
    have Ho := Lib.hid h1
    have Ht := Lib.hid h2
    have Hq := Lib.hid h5
    clear h hE h1 h2 h5
    subst h6
    go_enter Try.func85, Try.ntmps85
    go_wp2_with (go_at_call 86; refine (isWithin_is _ _ _ _ _ (by first | with_reducible exact Ho.out | with_reducible exact Ht.out | with_reducible exact Hq.out)).mono ?_; rintro e w' ⟨rfl, rfl⟩)
    go_ret
    exact ⟨rfl, (Below.refl _ _).alloc (Nat.le_refl _) _⟩
  · obtain rfl : E = 0 := hE.symm.trans h
    have Ho := Lib.hid h1
    have Ht := Lib.hid h2
    have Hq := Lib.hid h5
    clear h hE h1 h2 h5
    have hi := ne_empty h6
    obtain ⟨hi1, hi2⟩ := hi
    clear h6
    go_enter Try.func85, Try.ntmps85
    go_wp2_with (go_at_call 86; refine (isWithin_is _ _ _ _ _ (by first | with_reducible exact Ho.out | with_reducible exact Ht.out | with_reducible exact Hq.out)).mono ?_; rintro e w' ⟨rfl, rfl⟩)
    go_ret
    exact ⟨rfl, (Below.refl _ _).alloc (Nat.le_refl _) _⟩
  · obtain rfl : E = 1 := hE.symm.trans h
    have Ho := Lib.hid h1
    have Ht := Lib.hid h2
    have Hq := Lib.hid h5
    clear h hE h1 h2 h5
    have hi := ne_empty h6
    obtain ⟨hi1, hi2⟩ := hi
    clear h6
    go_enter Try.func85, Try.ntmps85
    go_wp2_with (go_at_call 86; refine (isWithin_is _ _ _ _ _ (by first | with_reducible exact Ho.out | with_reducible exact Ht.out | with_reducible exact Hq.out)).mono ?_; rintro e w' ⟨rfl, rfl⟩)
    go_ret
    exact ⟨rfl, (Below.refl _ _).alloc (Nat.le_refl _) _⟩
/-- rec.Check. -/
theorem Check_is (r : Rc) (E : Int) (w : World) (hE : mayE r = E) :
    Calls Try.prog 85 #[ragg r] w fun e w' => e = .returned (.int .i64 E) ∧ Below w.heap.size w w' :=
  Check_parts r.o r.t (str r.k) (str r.b) r.q r.g E w (by rw [str_data, str_data]; exact hE)

/-- A block of the call's own whose cells are known, and all that was there ahead of the call. -/
@[irreducible] def RBox (w0 : World) (g : Nat) (cs : Array Value) (W : World) : Prop := Blk W g cs ∧ Below w0.heap.size w0 W
section
variable {w0 W W' : World} {g : Nat} {cs : Array Value}
theorem RBox.mk (h1 : Blk W g cs) (h2 : Below w0.heap.size w0 W) : RBox w0 g cs W := by unfold RBox; exact ⟨h1, h2⟩
theorem RBox.out (h : RBox w0 g cs W) : Blk W g cs ∧ Below w0.heap.size w0 W := by unfold RBox at h; exact h
theorem RBox.new (w : World) (T : TypeId) (cs : Array Value) : RBox w w.heap.size cs (w.alloc (.cells cs T)) := .mk (Blk.new w T cs) ((Below.refl _ _).alloc (Nat.le_refl _) _)
theorem RBox.below (h : RBox w0 g cs W) (hb : Below W.heap.size W W') : RBox w0 g cs W' := .mk (h.out.1.below hb) (h.out.2.trans (hb.mono h.out.2.size))
theorem RBox.drewN (h : RBox w0 g cs W) (n : Nat) : RBox w0 g cs (W.drewN n) := h.below (below_drewN (Below.refl _ _) n)
theorem RBox.cell (h : RBox w0 g cs W) (i : Nat) : W.cell? ⟨g, i, none⟩ = cs[i]? := h.out.1.cell i
theorem RBox.load (h : RBox w0 g cs W) (h6 : cs.size = 6) : (loadVar 46 ⟨g, 0, none⟩).run Try.prog W = .ok (.agg cs) W := load_blk h.out.1 h6
end

theorem mayE_zero {r : Rc} (h : mayE r = 0) : mayB r = true := by
  unfold mayE at h
  cases hm : mayB r with
  | true => rfl
  | false => rw [hm] at h; cases h
/-- A new block, and a record put into it. -/
theorem box_new {w w1 : World} (hb : Below w.heap.size w w1) (cs : Array Value) : ∃ g W4, w1.heap.size = g ∧ w1.alloc (.cells zcells 46) = W4 ∧ Blk W4 g zcells ∧ RBox w g cs (W4.setRow g cs) ∧ Below w1.heap.size w1 (W4.setRow g cs) := by
  have hbn := Blk.new w1 46 zcells
  have hbl : Below w.heap.size w (w1.alloc (.cells zcells 46)) := hb.alloc hb.size _
  exact ⟨_, _, rfl, rfl, hbn, .mk (hbn.row cs) (below_row hbl hb.size cs), below_row ((Below.refl _ _).alloc (Nat.le_refl _) _) (Nat.le_refl _) cs⟩
end Go.Proofs.Ythdefnfpjbpbkaa
/- Segments in memory: blocks of the call's own, what is handed back. -/
namespace Go.Proofs.Ythdefnfpjbpbkaa
open Go.RowKit Go.Lib Rcd

/-- A segment's cells. -/
def sarr (b : Int) (A : Option Addr) (n c : Nat) : Array Value := #[.int .i64 b, .slice A n c]
def szero : Array Value := #[.int .i64 0, .slice none 0 0]
theorem info_seg : (Try.prog.info? 49).map (·.size) = some 2 := by kernel_rfl
theorem one_seg (b : Int) (A : Option Addr) (n c : Nat) : (sarr b A n c).all (·.oneCell') = true := by simp [sarr, Value.oneCell']
theorem load_seg {W : World} {g : Nat} {cs : Array Value} (h : Blk W g cs) (h9 : cs.size = 2) : (loadVar 49 ⟨g, 0, none⟩).run Try.prog W = .ok (.agg cs) W :=
  run_loadVar_mid W g 0 49 cs.toList _ (fun j v hv => by rw [Nat.zero_add, h.cell j]; rw [← hv]; simp) Try.underlying49 rfl (by rw [info_seg]; simp [h9])
theorem RBox.loadS {w0 W : World} {g : Nat} {cs : Array Value} (h : RBox w0 g cs W) (h9 : cs.size = 2) : (loadVar 49 ⟨g, 0, none⟩).run Try.prog W = .ok (.agg cs) W := load_seg h.out.1 h9

/-- A segment whose records are the call's own. -/
def GivesSeg (b : Int) (L : List Rc) (w : World) (e : Ending) (w' : World) : Prop :=
  ∃ A c, e = .returned (.agg #[.int .i64 b, .slice A L.length c]) ∧ w'.ownsRow w.heap.size 46 6 (.slice A L.length c) L.length (flat L) ∧ Below w.heap.size w w'

/-- Two blocks of the call's own, and all that was there ahead of the call. -/
@[irreducible] def Duo (w : World) (g h : Nat) (cs ds : Array Value) (W : World) : Prop := Blk W g cs ∧ Blk W h ds ∧ Below w.heap.size w W ∧ w.heap.size ≤ g ∧ g < h
section
variable {w W W' : World} {g h : Nat} {cs ds : Array Value}
theorem Duo.mk (k : Blk W g cs ∧ Blk W h ds ∧ Below w.heap.size w W ∧ w.heap.size ≤ g ∧ g < h) : Duo w g h cs ds W := by unfold Duo; exact k
theorem Duo.out (k : Duo w g h cs ds W) : Blk W g cs ∧ Blk W h ds ∧ Below w.heap.size w W ∧ w.heap.size ≤ g ∧ g < h := by unfold Duo at k; exact k
theorem Duo.below (k : Duo w g h cs ds W) (hb : Below W.heap.size W W') : Duo w g h cs ds W' := by
  obtain ⟨h1, h2, h3, h4, h5⟩ := k.out
  exact .mk ⟨h1.below hb, h2.below hb, h3.trans (hb.mono h3.size), h4, h5⟩
theorem Duo.drewN (k : Duo w g h cs ds W) (n : Nat) : Duo w g h cs ds (W.drewN n) := k.below (below_drewN (Below.refl _ _) n)
theorem Duo.cell1 (k : Duo w g h cs ds W) (i : Nat) : W.cell? ⟨g, i, none⟩ = cs[i]? := k.out.1.cell i
theorem Duo.cell2 (k : Duo w g h cs ds W) (i : Nat) : W.cell? ⟨h, i, none⟩ = ds[i]? := k.out.2.1.cell i
theorem Duo.bel (k : Duo w g h cs ds W) : Below w.heap.size w W := k.out.2.2.1
theorem Duo.put1 (k : Duo w g h cs ds W) (i : Nat) (v : Value) : Duo w g h (cs.setIfInBounds i v) ds (W.setCell ⟨g, i, none⟩ v) := by
  obtain ⟨h1, h2, h3, h4, h5⟩ := k.out
  exact .mk ⟨h1.put i v, h2.far (p := ⟨g, i, none⟩) (by show h ≠ g; omega) v, h3.setCell h4 v, h4, h5⟩
theorem Duo.put2 (k : Duo w g h cs ds W) (i : Nat) (v : Value) : Duo w g h cs (ds.setIfInBounds i v) (W.setCell ⟨h, i, none⟩ v) := by
  obtain ⟨h1, h2, h3, h4, h5⟩ := k.out
  exact .mk ⟨h1.far (p := ⟨h, i, none⟩) (by show g ≠ h; omega) v, h2.put i v, h3.setCell (p := ⟨h, i, none⟩) (show w.heap.size ≤ h by omega) v, h4, h5⟩
theorem setRow_blk {g' : Nat} (k : Blk W g' cs) (hp : g ≠ g') (xs : Array Value) : Blk (W.setRow g xs) g' cs := by
  obtain ⟨T, k⟩ := k
  exact ⟨T, (setRow_other W g g' xs (Ne.symm hp)).trans k⟩
theorem Duo.row1 (k : Duo w g h cs ds W) (xs : Array Value) : Duo w g h xs ds (W.setRow g xs) := by
  obtain ⟨h1, h2, h3, h4, h5⟩ := k.out
  exact .mk ⟨h1.row xs, setRow_blk h2 (by omega) xs, below_row h3 h4 xs, h4, h5⟩
theorem Duo.row2 (k : Duo w g h cs ds W) (xs : Array Value) : Duo w g h cs xs (W.setRow h xs) := by
  obtain ⟨h1, h2, h3, h4, h5⟩ := k.out
  exact .mk ⟨setRow_blk h1 (by omega) xs, h2.row xs, below_row h3 (by omega) xs, h4, h5⟩
theorem Duo.new (w : World) (T T' : TypeId) (cs ds : Array Value) : Duo w w.heap.size (w.heap.size + 1) cs ds ((w.alloc (.cells cs T)).alloc (.cells ds T')) := by
  have h1 := (Below.refl w.heap.size w).alloc (Nat.le_refl _) (.cells cs T)
  refine .mk ⟨(Blk.new w _ _).alloc _, ?_, h1.alloc (by simp) _, Nat.le_refl _, Nat.lt_succ_self _⟩
  have := Blk.new (w.alloc (.cells cs T)) T' ds
  simpa using this
/-- A box of the call's own, and one more. -/
theorem Duo.more (k : RBox w g cs W) (hg : w.heap.size ≤ g) (T : TypeId) (ds : Array Value) : Duo w g W.heap.size cs ds (W.alloc (.cells ds T)) := by
  obtain ⟨h1, h2⟩ := k.out
  exact .mk ⟨h1.alloc _, Blk.new W T ds, h2.alloc h2.size _, hg, h1.lt⟩
theorem Duo.box1 (k : Duo w g h cs ds W) : RBox w g cs W := .mk k.out.1 k.bel
theorem Duo.box2 (k : Duo w g h cs ds W) : RBox w h ds W := .mk k.out.2.1 k.bel
end
theorem RBox.row {w W : World} {g : Nat} {cs : Array Value} (k : RBox w g cs W) (hg : w.heap.size ≤ g) (xs : Array Value) : RBox w g xs (W.setRow g xs) := .mk (k.out.1.row xs) (below_row k.out.2 hg xs)

/-- What stands in the cell c is handed back. -/
theorem results_cell {fn : Func} {tmps : Array Value} {w : World} {c g : Nat} {T : TypeId} {V : Value} (hr : fn.results = #[.cell c T]) (h0 : tmps.getD c undef = .pointer (some ⟨g, 0, none⟩)) (hl : (loadVar T ⟨g, 0, none⟩).run Try.prog w = .ok V w) :
    (results fn tmps).run Try.prog w = .ok V w := by
  unfold results
  rw [hr]
  simp only [List.mapM_toArray, List.mapM_cons, List.mapM_nil, h0, asAddr, Sem.run_bind, Sem.run_pure, Result.andThen_ok, bind_assoc, pure_bind, map_bind, map_pure, hl]
  rfl
theorem results_cell2 {fn : Func} {tmps : Array Value} {w : World} {c i g : Nat} {T : TypeId} {V u : Value} (hr : fn.results = #[.cell c T, .tmp i]) (h0 : tmps.getD c undef = .pointer (some ⟨g, 0, none⟩)) (hl : (loadVar T ⟨g, 0, none⟩).run Try.prog w = .ok V w) (h1 : tmps.getD i undef = u) :
    (results fn tmps).run Try.prog w = .ok (.tuple #[V, u]) w := by
  unfold results
  rw [hr]
  simp only [List.mapM_toArray, List.mapM_cons, List.mapM_nil, h0, h1, asAddr, Sem.run_bind, Sem.run_pure, Result.andThen_ok, bind_assoc, pure_bind, map_bind, map_pure, hl]
  rfl
theorem results_cell3 {fn : Func} {tmps : Array Value} {w : World} {c i j g : Nat} {T : TypeId} {V u v : Value} (hr : fn.results = #[.cell c T, .tmp i, .tmp j]) (h0 : tmps.getD c undef = .pointer (some ⟨g, 0, none⟩)) (hl : (loadVar T ⟨g, 0, none⟩).run Try.prog w = .ok V w) (h1 : tmps.getD i undef = u) (h2 : tmps.getD j undef = v) :
    (results fn tmps).run Try.prog w = .ok (.tuple #[V, u, v]) w := by
  unfold results
  rw [hr]
  simp only [List.mapM_toArray, List.mapM_cons, List.mapM_nil, h0, h1, h2, asAddr, Sem.run_bind, Sem.run_pure, Result.andThen_ok, bind_assoc, pure_bind, map_bind, map_pure, hl]
  rfl
end Go.Proofs.Ythdefnfpjbpbkaa
/- Package seg: whether a base may be; whether a record may stand behind a segment's. -/
namespace Go.Proofs.Ythdefnfpjbpbkaa
open Go.RowKit Go.Lib Rcd

set_option maxRecDepth 100000 in
set_option maxHeartbeats 1000000 in
theorem isBase_is (n : Int) (X : Bool) (w : World) (h : baseB n = X) :
    Calls Try.prog 83 #[.int .i64 n] w fun e w' => e = .returned (.bool X) ∧ w = w' := by
  unfold baseB at h
  have HX := Lib.hid h
  clear h
  by_cases h1 : 0 ≤ n
  · by_cases h2 : n ≤ 1099511627776
    · go_enter Try.func83, Try.ntmps83
      go_wp2
      go_ret
      exact ⟨ret_bool (by rw [← HX.out]; exact (decide_eq_true (by omega)).symm), rfl⟩
    · go_enter Try.func83, Try.ntmps83
      go_wp2
      go_ret
      exact ⟨ret_bool (by rw [← HX.out]; exact (decide_eq_false (by omega)).symm), rfl⟩
  · go_enter Try.func83, Try.ntmps83
    go_wp2
    go_ret
    exact ⟨ret_bool (by rw [← HX.out]; exact (decide_eq_false (by omega)).symm), rfl⟩

/-- Whether a record may follow, test by test. -/
theorem follow_ways (b : Int) (rs : List Rc) (r : Rc) :
    (200 ≤ rs.length ∧ followB b rs r = false) ∨
    (rs.length < 200 ∧ mayE r = 1 ∧ followB b rs r = false) ∨
    (rs.length < 200 ∧ mayE r = 0 ∧ rs = [] ∧ followB b rs r = decide (b ≤ r.o)) ∨
    (rs.length < 200 ∧ mayE r = 0 ∧ ∃ (n : Nat) (hn : n + 1 = rs.length), followB b rs r = decide ((rs[n]'(by omega)).o < r.o ∧ (rs[n]'(by omega)).t ≤ r.t)) := by
  unfold followB mayE
  by_cases c1 : rs.length < 200
  · rw [decide_eq_true c1]
    cases hm : mayB r with
    | false => exact .inr (.inl ⟨c1, rfl, rfl⟩)
    | true =>
      rcases Nat.eq_zero_or_pos rs.length with c | c
      · have := List.eq_nil_of_length_eq_zero c
        subst this
        exact .inr (.inr (.inl ⟨c1, rfl, rfl, rfl⟩))
      · have hn : rs.length - 1 + 1 = rs.length := by omega
        refine .inr (.inr (.inr ⟨c1, rfl, rs.length - 1, hn, ?_⟩))
        rw [next_last (last_all hn)]
        rfl
  · exact .inl ⟨by omega, by rw [decide_eq_false c1]; rfl⟩

set_option maxRecDepth 100000 in
set_option maxHeartbeats 8000000 in
theorem follow_is (b : Int) (rs : List Rc) (r : Rc) (N : Nat) (A : Option Addr) (c B : Nat) (X : Bool) (w : World) (hN : rs.length = N) (hm : N ≤ 9223372036854775807) (hB : B ≤ w.heap.size) (h : RecsAt w B A rs) (hX : followB b rs r = X) :
    Calls Try.prog 84 #[.agg #[.int .i64 b, .slice A N c], ragg r] w fun e w' => e = .returned (.bool X) ∧ Below w.heap.size w w' := by
  have hD := Duo.new w 49 46 (sarr b A N c) (rarr r.o r.t (str r.k) (str r.b) r.q r.g)
  have hway := follow_ways b rs r
  have HC := Lib.hid (fun E W (hE : mayE r = E) => Check_is r E W hE)
  have H := Lib.hid h
  unfold ragg at HC ⊢
  obtain ⟨o, t, k, bd, q, g⟩ := r
  dsimp only at HC hD ⊢
  generalize str k = ks at HC hD ⊢
  generalize str bd = bs at HC hD ⊢
  obtain ⟨p, hp⟩ : ∃ p, w.heap.size = p := ⟨_, rfl⟩
  obtain ⟨W0, hW⟩ : ∃ W0, (w.alloc (.cells (sarr b A N c) 49)).alloc (.cells (rarr o t ks bs q g) 46) = W0 := ⟨_, rfl⟩
  rw [hW, hp] at hD
  unfold sarr rarr at hD hW
  unfold rarr at HC ⊢
  have D0 := Lib.hid hD
  have HW := Lib.hid hW
  have HP := Lib.hid hp
  clear hD hW hp h
  have n2 : (N : Int) < 9223372036854775808 := by omega
  rcases hway with ⟨h1, h2⟩ | ⟨h1, h2, h3⟩ | ⟨h1, h2, h3, h4⟩ | ⟨h1, h2, n, h3, h4⟩
  · obtain rfl : false = X := h2.symm.trans hX
    have e1 : decide (200 ≤ N) = true := decide_eq_true (by omega)
    have e2 : decide ((200 : Int) ≤ (N : Int)) = true := decide_eq_true (by omega)
    clear HC H h2 hX
    go_enter Try.func84, Try.ntmps84
    go_upto_region 1 with fail
    rw [HW.out, HP.out]
    clear HW HP
    have d1 : W0.cell? ⟨p, 1, none⟩ = some (.slice A N c) := D0.out.cell1 1
    go_wp2_with fail
    go_ret
    exact ⟨rfl, D0.out.bel⟩
  · obtain rfl : false = X := h3.symm.trans hX
    have e1 : decide (200 ≤ N) = false := decide_eq_false (by omega)
    have e2 : decide ((200 : Int) ≤ (N : Int)) = false := decide_eq_false (by omega)
    have HC1 := Lib.hid (fun W => HC.out 1 W h2)
    clear HC H h3 h2 hX
    go_enter Try.func84, Try.ntmps84
    go_upto_region 1 with fail
    rw [HW.out, HP.out]
    clear HW HP
    have d1 : W0.cell? ⟨p, 1, none⟩ = some (.slice A N c) := D0.out.cell1 1
    have hld := D0.out.box2.load rfl
    go_wp2_with (refine wpList_load_any (by rfl) 46 (.tmp 3) rfl (p + 1) 0 rfl _ hld ?_; simp only [Act.put])
    refine (HC1.out _).mono ?_
    rintro e w1 ⟨rfl, hb1⟩
    have D1 := Lib.hid (D0.out.below hb1)
    clear D0 hb1 d1 hld HC1
    go_wp2_with fail
    go_ret
    exact ⟨rfl, D1.out.bel⟩
  · subst h3
    obtain rfl : N = 0 := by rw [← hN]; rfl
    have HX := Lib.hid (h4.symm.trans hX)
    have HC1 := Lib.hid (fun W => HC.out 0 W h2)
    clear HC H h4 h2 hX
    go_enter Try.func84, Try.ntmps84
    go_upto_region 1 with fail
    rw [HW.out, HP.out]
    clear HW HP
    have d1 : W0.cell? ⟨p, 1, none⟩ = some (.slice A 0 c) := D0.out.cell1 1
    have hld := D0.out.box2.load rfl
    go_wp2_with (refine wpList_load_any (by rfl) 46 (.tmp 3) rfl (p + 1) 0 rfl _ hld ?_; simp only [Act.put])
    refine (HC1.out _).mono ?_
    rintro e w1 ⟨rfl, hb1⟩
    have D1 := Lib.hid (D0.out.below hb1)
    clear D0 hb1 d1 hld HC1
    have d0 : w1.cell? ⟨p, 0, none⟩ = some (.int .i64 b) := D1.out.cell1 0
    have d1 : w1.cell? ⟨p, 1, none⟩ = some (.slice A 0 c) := D1.out.cell1 1
    have d2 : w1.cell? ⟨p + 1, 0, none⟩ = some (.int .i64 o) := D1.out.cell2 0
    go_wp2_with fail
    go_ret
    exact ⟨ret_bool HX.out, D1.out.bel⟩
  · have hN1 : N = n + 1 := by omega
    have HX := Lib.hid (h4.symm.trans hX)
    obtain ⟨b0, o0, rfl, hb0, hc⟩ := H.out.some_ (by omega)
    have hr := hc n (by omega)
    have e1 : decide (200 ≤ N) = false := decide_eq_false (by omega)
    have e2 : decide ((200 : Int) ≤ (N : Int)) = false := decide_eq_false (by omega)
    have e3 : ((N : Int) == 0) = false := by rw [beq_eq_false_iff_ne]; omega
    have e4 : (N == 0) = false := by rw [beq_eq_false_iff_ne]; omega
    have e5 : (N : Int) - 1 = (n : Int) := by omega
    have e6 : (n : Int) < (N : Int) := by omega
    have HC1 := Lib.hid (fun W => HC.out 0 W h2)
    clear HC H h4 h2 hX hc
    generalize rs[n]'(by omega) = a at hr HX
    obtain ⟨xo, xt, xk, xb, xq, xg⟩ := a
    have HR := Lib.hid hr
    dsimp only at HX
    clear hr hN h3 h1 hN1
    go_enter Try.func84, Try.ntmps84
    go_upto_region 1 with fail
    rw [HW.out, HP.out]
    have hbp : b0 < p := by rw [← HP.out]; omega
    clear HW
    have d1 : W0.cell? ⟨p, 1, none⟩ = some (.slice (some ⟨b0, o0, none⟩) N c) := D0.out.cell1 1
    have hld := D0.out.box2.load rfl
    go_wp2_with (refine wpList_load_any (by rfl) 46 (.tmp 3) rfl (p + 1) 0 rfl _ hld ?_; simp only [Act.put])
    refine (HC1.out _).mono ?_
    rintro e w1 ⟨rfl, hb1⟩
    have D1 := Lib.hid (D0.out.below hb1)
    clear D0 hb1 d1 hld HC1
    have d1 : w1.cell? ⟨p, 1, none⟩ = some (.slice (some ⟨b0, o0, none⟩) N c) := D1.out.cell1 1
    obtain ⟨c0, c1, c2, c3, c4, c5⟩ := HR.out.keep (w' := w1) (fun i => D1.out.bel.cell (p := ⟨b0, i, none⟩) (by rw [HP.out]; exact hbp))
    dsimp only at c0 c1 c2 c3 c4 c5
    generalize str xk = kz at c2
    generalize str xb = bz at c3
    obtain ⟨g9, W4, hg9, hW4, hbn, hbx, hbl⟩ := box_new D1.out.bel (rarr xo xt kz bz xq xg)
    have hD2 := D1.out.below hbl
    have D2 := Lib.hid hD2
    have HBN := Lib.hid hbn
    have HBX := Lib.hid hbx
    unfold zcells at hW4
    have HW4 := Lib.hid hW4
    clear hbn hbx hbl hD2 hW4 D1 HP
    unfold rarr at HBX D2
    go_upto_region 6 with (rw [HW4.out]; refine wpList_store_whole rfl 46 (.tmp 5) (.tmp 31) rfl g9 _ rfl rfl zcells HBN.out info_rec rfl (by simp [Value.oneCell']) ?_; simp only [Act.put])
    clear HW4 HBN d1 c0 c1 c2 c3 c4 c5 hg9
    generalize World.setRow _ _ _ = w5 at HBX D2 ⊢
    have d0 : w5.cell? ⟨p + 1, 0, none⟩ = some (.int .i64 o) := D2.out.cell2 0
    have d1 : w5.cell? ⟨p + 1, 1, none⟩ = some (.int .i64 t) := D2.out.cell2 1
    have f0 : w5.cell? ⟨g9, 0, none⟩ = some (.int .i64 xo) := HBX.out.cell 0
    have f1 : w5.cell? ⟨g9, 1, none⟩ = some (.int .i64 xt) := HBX.out.cell 1
    by_cases c1 : xo < o
    · go_wp2_with fail
      go_ret
      exact ⟨ret_bool (by rw [← HX.out]; simp [c1]), D2.out.bel⟩
    · go_wp2_with fail
      go_ret
      exact ⟨ret_bool (by rw [← HX.out]; exact (decide_eq_false (fun h => absurd h.1 (by omega))).symm), D2.out.bel⟩
end Go.Proofs.Ythdefnfpjbpbkaa
/- Package seg: whether a segment may be. -/
namespace Go.Proofs.Ythdefnfpjbpbkaa
open Go.RowKit Go.Lib Rcd

def segE (b : Int) (rs : List Rc) : Int := if segB b rs then 0 else 1
theorem segE_no {b : Int} {rs : List Rc} (h : ¬ segB b rs = true) : segE b rs = 1 := by unfold segE; rw [if_neg h]
theorem segE_yes {b : Int} {rs : List Rc} (h : segB b rs = true) : segE b rs = 0 := by unfold segE; rw [if_pos h]
theorem segE_zero {b : Int} {rs : List Rc} (h : segE b rs = 0) : segB b rs = true := by
  unfold segE at h
  split at h
  · assumption
  · cases h

/-- So many of the first ones may stand where they do. -/
def Fol (b : Int) (rs : List Rc) (k : Nat) : Prop := ∀ j (h : j < rs.length), j < k → followB b (rs.take j) rs[j] = true

set_option maxRecDepth 100000 in
set_option maxHeartbeats 8000000 in
/-- seg.Check. -/
theorem SegCheck_is (b : Int) (rs : List Rc) (N : Nat) (A : Option Addr) (c B : Nat) (E : Int) (w : World) (hN : rs.length = N) (hm : N ≤ 9223372036854775807) (hcap : N ≤ c) (hB : B ≤ w.heap.size) (h : RecsAt w B A rs) (hE : segE b rs = E) :
    Calls Try.prog 81 #[.agg #[.int .i64 b, .slice A N c]] w fun e w' => e = .returned (.int .i64 E) ∧ Below w.heap.size w w' := by
  have R0 := Lib.hid (RBox.new w 49 (sarr b A N c))
  obtain ⟨p, hp⟩ : ∃ p, w.heap.size = p := ⟨_, rfl⟩
  obtain ⟨W0, hW⟩ : ∃ W0, w.alloc (.cells (sarr b A N c) 49) = W0 := ⟨_, rfl⟩
  rw [hW, hp] at R0
  unfold sarr at R0 hW
  have HW := Lib.hid hW
  have HP := Lib.hid hp
  have H := Lib.hid (h.mono hB)
  have HE := Lib.hid hE
  have HNN := Lib.hid hN
  clear hW hp h hE hN hB
  have n2 : (N : Int) < 9223372036854775808 := by omega
  by_cases hb : baseB b = true
  · have HBS := Lib.hid hb
    have HI := Lib.hid (fun W => isBase_is b true W hb)
    clear hb
    go_enter Try.func81, Try.ntmps81
    go_upto_region 1 with fail
    rw [HW.out, HP.out]
    clear HW
    have d0 : W0.cell? ⟨p, 0, none⟩ = some (.int .i64 b) := R0.out.cell 0
    have d1 : W0.cell? ⟨p, 1, none⟩ = some (.slice A N c) := R0.out.cell 1
    go_wp2_with (go_at_call 83; refine (HI.out _).mono ?_; rintro e w' ⟨rfl, rfl⟩)
    clear d0 d1
    go_loopw [12] (fun i wr => ∃ k : Nat, k ≤ N ∧ i = .int .i64 (k : Int) ∧ RBox w p #[.int .i64 b, .slice A N c] wr ∧ Fol b rs k) (fun i _ => N - (RowKit.intOf i).toNat)
    case atStart => exact ⟨0, Nat.zero_le _, rfl, R0.out, fun j _ h => absurd h (Nat.not_lt_zero _)⟩
    case round =>
      obtain ⟨k, hk, rfl, hbx, hfol⟩ := hrel
      have HF := Lib.hid hfol
      have R := Lib.hid hbx
      clear hbx hfol R0
      by_cases hlt : k < N
      · have hlr : k < rs.length := by rw [HNN.out]; exact hlt
        obtain ⟨b0, o0, rfl, hb0, hc⟩ := (H.out.below R.out.out.2).some_ (by omega)
        have hr := hc k hlr
        obtain ⟨X, hX⟩ : ∃ X, followB b (rs.take k) rs[k] = X := ⟨_, rfl⟩
        have HFW := Lib.hid (fun W (hb : Below w.heap.size w W) => follow_is b (rs.take k) rs[k] k (some ⟨b0, o0, none⟩) c w.heap.size X W (by rw [List.length_take]; omega) (by omega) hb.size ((H.out.below hb).take k) hX)
        have HX := Lib.hid hX
        clear hX hc
        have HFD : Hid (X = true → Fol b rs (k + 1)) := by
          show _ → _
          intro hx j h hj
          by_cases hjk : j < k
          · exact HF.out j h hjk
          · obtain rfl : j = k := by omega
            exact HX.out.trans hx
        have HNO : Hid (X = false → E = 1) := by
          show _ → _
          intro hx
          rw [← HE.out]
          refine segE_no fun hs => ?_
          have := (seg_iff.1 hs).2 k hlr
          rw [HX.out, hx] at this
          cases this
        clear HF HX
        unfold ragg at HFW
        generalize rs[k] = r at hr HFW
        obtain ⟨o, t, key, bod, q, g⟩ := r
        obtain ⟨c0, c1, c2, c3, c4, c5⟩ := hr
        dsimp only at c0 c1 c2 c3 c4 c5 HFW
        generalize str key = ks at c2 HFW
        generalize str bod = bs at c3 HFW
        have e1 : (k : Int) < (N : Int) := by omega
        have e2 : (k : Int) ≤ (c : Int) := by omega
        have e3 : k ≤ c := by omega
        have hpw : w.heap.size ≤ p := Nat.le_of_eq HP.out
        have hD := Duo.more R.out hpw 46 zcells
        obtain ⟨g9, hg9⟩ : ∃ g9, wr.heap.size = g9 := ⟨_, rfl⟩
        obtain ⟨W4, hW4⟩ : ∃ W4, wr.alloc (.cells zcells 46) = W4 := ⟨_, rfl⟩
        rw [hg9, hW4] at hD
        have HBN := Lib.hid hD.out.2.1
        have D5 := Lib.hid (hD.row2 (rarr o t ks bs q g))
        unfold zcells at hW4
        have HW4 := Lib.hid hW4
        clear hD hW4 hlr R
        unfold rarr at D5 HFW
        go_upto_region 6 with (rw [HW4.out]; refine wpList_store_whole rfl 46 (.tmp 4) (.tmp 16) rfl g9 _ rfl rfl zcells HBN.out info_rec rfl (by simp [Value.oneCell']) ?_; simp only [Act.put])
        clear HW4 HBN c0 c1 c2 c3 c4 c5 hg9
        generalize World.setRow _ _ _ = w5 at D5 ⊢
        have st0 := D5.out
        clear D5
        haveI : Nonempty (In (Duo w p g9 #[.int .i64 b, .slice (some ⟨b0, o0, none⟩) N c] #[.int .i64 o, .int .i64 t, .string ks, .string bs, .int .i64 q, .bool g])) := ⟨⟨_, st0⟩⟩
        have k0 := fun u : In (Duo w p g9 #[.int .i64 b, .slice (some ⟨b0, o0, none⟩) N c] #[.int .i64 o, .int .i64 t, .string ks, .string bs, .int .i64 q, .bool g]) => (show u.w.cell? ⟨p, 0, none⟩ = some (.int .i64 b) from u.h.cell1 0)
        have k1 := fun u : In (Duo w p g9 #[.int .i64 b, .slice (some ⟨b0, o0, none⟩) N c] #[.int .i64 o, .int .i64 t, .string ks, .string bs, .int .i64 q, .bool g]) => (show u.w.cell? ⟨p, 1, none⟩ = some (.slice (some ⟨b0, o0, none⟩) N c) from u.h.cell1 1)
        have kl := fun u : In (Duo w p g9 #[.int .i64 b, .slice (some ⟨b0, o0, none⟩) N c] #[.int .i64 o, .int .i64 t, .string ks, .string bs, .int .i64 q, .bool g]) => u.h.box2.load rfl
        refine region_in (S := Duo w p g9 #[.int .i64 b, .slice (some ⟨b0, o0, none⟩) N c] #[.int .i64 o, .int .i64 t, .string ks, .string bs, .int .i64 q, .bool g]) (by kernel_rfl) (by kernel_rfl) (st0.drewN 1) ?_
        iterate 7 (go_big_quiet_step (fail))
        go_big_quiet_want
        refine quiet_load_in 46 (.tmp 4) rfl g9 0 rfl _ kl ?_
        go_simp
        go_big_quiet_on
        repeat (go_big_quiet_step (first | (go_at_call 84; exact in_call ((HFW.out _ (Duo.bel (In.h _))).mono fun _ _ h => ⟨h.1, Duo.below (In.h _) h.2⟩))))
        refine wpQuiet_nil ?_
        rintro _ ⟨⟨w7, st7⟩, rfl⟩
        have S7 := Lib.hid st7
        clear this st0 st7 k0 k1 kl HFW
        cases X with
        | true =>
          simp only [Bool.not_true]; go_wp2_with fail
          go_roundw
          case rel => exact ⟨k + 1, hlt, by go_num, S7.out.box1, HFD.out rfl⟩
          case measure => simp [RowKit.intOf]; omega
        | false =>
          obtain rfl : E = 1 := HNO.out rfl
          simp only [Bool.not_false]; go_wp2_with fail
          go_ret
          exact ⟨rfl, S7.out.bel⟩
      · obtain rfl : k = N := by omega
        obtain rfl : E = 0 := by
          rw [← HE.out]
          refine segE_yes (seg_iff.2 ⟨HBS.out, fun j hj => HF.out j hj ?_⟩)
          rw [← HNN.out]; exact hj
        go_wp2_with fail
        go_ret
        exact ⟨rfl, R.out.out.2⟩
  · have hb' : baseB b = false := by simpa using hb
    have HI := Lib.hid (fun W => isBase_is b false W hb')
    obtain rfl : E = 1 := by rw [← HE.out]; exact segE_no fun hs => hb (seg_base hs)
    clear hb hb'
    go_enter Try.func81, Try.ntmps81
    go_upto_region 1 with fail
    rw [HW.out, HP.out]
    clear HW
    have d0 : W0.cell? ⟨p, 0, none⟩ = some (.int .i64 b) := R0.out.cell 0
    go_wp2_with (go_at_call 83; refine (HI.out _).mono ?_; rintro e w' ⟨rfl, rfl⟩)
    go_ret
    exact ⟨rfl, R0.out.out.2⟩
end Go.Proofs.Ythdefnfpjbpbkaa
/- A record held against itself. -/
namespace Go.Proofs.Ythdefnfpjbpbkaa
open Go.RowKit Go.Lib Rcd

theorem neq_rec (o t : Int) (k b : ByteArray) (q : Int) (g : Bool) (w : World) : (binOp .neq 46 (.agg (rarr o t k b q g)) (.agg (rarr o t k b q g))).run Try.prog w = .ok (.bool false) w := by
  unfold rarr
  rw [run_neq_struct]
  go_simp
theorem eql_rec (o t : Int) (k b : ByteArray) (q : Int) (g : Bool) (w : World) : (binOp .eql 46 (.agg (rarr o t k b q g)) (.agg (rarr o t k b q g))).run Try.prog w = .ok (.bool true) w := by
  unfold rarr
  rw [run_eql_struct]
  go_simp
end Go.Proofs.Ythdefnfpjbpbkaa
/- Records and segments of the call's own, while other memory is written. -/
namespace Go.Proofs.Ythdefnfpjbpbkaa
open Go.RowKit Go.Lib Rcd

theorem own_mono {w : World} {B B' e size n : Nat} {v : Value} {xs : List Value} (h : w.ownsRow B' e size v n xs) (hB : B ≤ B') : w.ownsRow B e size v n xs :=
  ⟨h.1, h.2.elim .inl (fun ⟨g, cap, cur, hv, hbg, rest⟩ => .inr ⟨g, cap, cur, hv, Nat.le_trans hB hbg, rest⟩)⟩
/-- A cell below the row is written. -/
theorem own_far {w : World} {B e size n : Nat} {v : Value} {xs : List Value} (h : w.ownsRow B e size v n xs) (p : Addr) (hp : p.block < B) (u : Value) : (w.setCell p u).ownsRow B e size v n xs :=
  ⟨h.1, h.2.elim .inl (fun ⟨g, cap, cur, hv, hbg, hg, rest⟩ => .inr ⟨g, cap, cur, hv, hbg, (Below.heap_setCell w p u g (by omega)).trans hg, rest⟩)⟩
theorem own_row {w : World} {B e size n : Nat} {v : Value} {xs : List Value} (h : w.ownsRow B e size v n xs) (p : Nat) (hp : p < B) (us : Array Value) : (w.setRow p us).ownsRow B e size v n xs :=
  ⟨h.1, h.2.elim .inl (fun ⟨g, cap, cur, hv, hbg, hg, rest⟩ => .inr ⟨g, cap, cur, hv, hbg, (setRow_other w p g us (by omega)).trans hg, rest⟩)⟩
/-- A block that is not the row's stays when the row grows. -/
theorem blk_grown {W W' : World} {B e size n g : Nat} {v : Value} {xs : List Value} {cs : Array Value} {o : Obj} (k : Blk W g cs) (hown : W.ownsRow B e size v n xs) (hg : g < B) (hgrow : (W.alloc o).grownBy W' v.ownBlock) : Blk W' g cs := by
  have hl := k.lt
  obtain ⟨T, k⟩ := k
  refine ⟨T, (hgrow.block g (by simp; omega) (fun e => ?_)).trans ((Lib.alloc_old W _ _ hl).trans k)⟩
  have := (hown.lt g e.symm).1
  omega
theorem recs_own {w : World} {B e c : Nat} {A : Option Addr} {l : List Rc} (h : w.ownsRow B e 6 (.slice A l.length c) l.length (flat l)) : RecsAt w w.heap.size A l := .of_own h
/-- A record read into the cells of a new block. -/
theorem all_next {rs : List Rc} {k : Nat} (h : k < rs.length) : (allL (rs.take (k + 1))).length = (allL (rs.take k)).length + (recL rs[k]).length := by
  rw [List.take_succ_eq_append_getElem h, all_snoc, List.length_append]
theorem seg_size {b : Int} {rs : List Rc} (h : segB b rs = true) : (allL rs).length ≤ 420000 := by
  have h1 := all_size (seg_may h)
  have h2 := seg_len h
  omega
end Go.Proofs.Ythdefnfpjbpbkaa
/- Three blocks of the call's own. -/
namespace Go.Proofs.Ythdefnfpjbpbkaa
open Go.RowKit Go.Lib Rcd

/-- Three blocks of the call's own, one behind the other. -/
@[irreducible] def Tri (w : World) (p : Nat) (cs ds es : Array Value) (W : World) : Prop := Blk W p cs ∧ Blk W (p + 1) ds ∧ Blk W (p + 2) es ∧ Below w.heap.size w W ∧ w.heap.size ≤ p
section
variable {w W W' : World} {p : Nat} {cs ds es : Array Value}
theorem Tri.mk (k : Blk W p cs ∧ Blk W (p + 1) ds ∧ Blk W (p + 2) es ∧ Below w.heap.size w W ∧ w.heap.size ≤ p) : Tri w p cs ds es W := by unfold Tri; exact k
theorem Tri.out (k : Tri w p cs ds es W) : Blk W p cs ∧ Blk W (p + 1) ds ∧ Blk W (p + 2) es ∧ Below w.heap.size w W ∧ w.heap.size ≤ p := by unfold Tri at k; exact k
theorem Tri.below (k : Tri w p cs ds es W) (hb : Below W.heap.size W W') : Tri w p cs ds es W' := by
  obtain ⟨h1, h2, h3, h4, h5⟩ := k.out
  exact .mk ⟨h1.below hb, h2.below hb, h3.below hb, h4.trans (hb.mono h4.size), h5⟩
theorem Tri.drewN (k : Tri w p cs ds es W) (n : Nat) : Tri w p cs ds es (W.drewN n) := k.below (below_drewN (Below.refl _ _) n)
theorem Tri.cell1 (k : Tri w p cs ds es W) (i : Nat) : W.cell? ⟨p, i, none⟩ = cs[i]? := k.out.1.cell i
theorem Tri.cell2 (k : Tri w p cs ds es W) (i : Nat) : W.cell? ⟨p + 1, i, none⟩ = ds[i]? := k.out.2.1.cell i
theorem Tri.bel (k : Tri w p cs ds es W) : Below w.heap.size w W := k.out.2.2.2.1
theorem Tri.lt (k : Tri w p cs ds es W) : p + 3 ≤ W.heap.size := k.out.2.2.1.lt
theorem Tri.new (w : World) (T T' T'' : TypeId) (cs ds es : Array Value) : Tri w w.heap.size cs ds es (((w.alloc (.cells cs T)).alloc (.cells ds T')).alloc (.cells es T'')) := by
  have h0 : (w.alloc (.cells cs T)).heap.size = w.heap.size + 1 := by simp
  have h1 := Blk.new (w.alloc (.cells cs T)) T' ds
  rw [h0] at h1
  have h2 := Blk.new ((w.alloc (.cells cs T)).alloc (.cells ds T')) T'' es
  have h3 : ((w.alloc (.cells cs T)).alloc (.cells ds T')).heap.size = w.heap.size + 2 := by simp
  rw [h3] at h2
  have b1 := (Below.refl w.heap.size w).alloc (Nat.le_refl _) (.cells cs T)
  exact .mk ⟨((Blk.new w T cs).alloc _).alloc _, h1.alloc _, h2, (b1.alloc b1.size _).alloc (b1.alloc b1.size _).size _, Nat.le_refl _⟩
theorem Tri.row3 (k : Tri w p cs ds es W) (xs : Array Value) : Tri w p cs ds xs (W.setRow (p + 2) xs) := by
  obtain ⟨h1, h2, h3, h4, h5⟩ := k.out
  exact .mk ⟨setRow_blk h1 (by omega) xs, setRow_blk h2 (by omega) xs, h3.row xs, below_row h4 (by omega) xs, h5⟩
theorem Tri.grown {B e size n : Nat} {v : Value} {vs : List Value} {W'' : World} (k : Tri w p cs ds es W) (hown : W.ownsRow B e size v n vs) (hB : p + 3 ≤ B) (hgrow : W.grownBy W'' v.ownBlock) : Tri w p cs ds es W'' := by
  obtain ⟨h1, h2, h3, h4, h5⟩ := k.out
  have key : ∀ g cs, g < p + 3 → Blk W g cs → Blk W'' g cs := fun g cs hg h => by
    have hl := h.lt
    obtain ⟨T, h⟩ := h
    refine ⟨T, (hgrow.block g hl (fun e => ?_)).trans h⟩
    have := (hown.lt g e.symm).1
    omega
  exact .mk ⟨key _ _ (by omega) h1, key _ _ (by omega) h2, key _ _ (by omega) h3, h4.trans (below_grown h4.size (own_mono hown (by omega)) hgrow), h5⟩
end

end Go.Proofs.Ythdefnfpjbpbkaa
/- A segment's block and rows of records of the call's own: each stays while the other is written or grows. -/
namespace Go.Proofs.Ythdefnfpjbpbkaa
open Go.RowKit Go.Lib Rcd

/-- Block q is a segment's, and holds just these cells. -/
def SBlk (W : World) (q : Nat) (cs : Array Value) : Prop := W.heap[q]? = some (.cells cs 49 (0, 0))
theorem seg_not_rec : 46 ≠ 49 := by decide
section
variable {W W' : World} {q : Nat} {cs : Array Value}
theorem SBlk.blk (h : SBlk W q cs) : Blk W q cs := ⟨_, h⟩
theorem SBlk.lt (h : SBlk W q cs) : q < W.heap.size := h.blk.lt
theorem SBlk.new (W : World) (cs : Array Value) : SBlk (W.alloc (.cells cs 49)) W.heap.size cs := heap_alloc_new W _
theorem SBlk.below (h : SBlk W q cs) (hb : Below W.heap.size W W') : SBlk W' q cs := (hb.block q h.lt).trans h
theorem SBlk.row (h : SBlk W q cs) (ds : Array Value) : SBlk (W.setRow q ds) q ds := setRow_heap W q cs ds _ _ h
theorem SBlk.put (h : SBlk W q cs) (i : Nat) (v : Value) : SBlk (W.setCell ⟨q, i, none⟩ v) q (cs.setIfInBounds i v) := by
  unfold SBlk at h ⊢
  simp [World.setCell, Array.getElem?_modify, h]
theorem SBlk.off {B n c : Nat} {A : Option Addr} {xs : List Value} (h : SBlk W q cs) (hown : W.ownsRow B 46 6 (.slice A n c) n xs) : ∀ g, (Value.slice A n c).ownBlock = some g → g ≠ q := by
  intro g hg e
  subst e
  rcases hown.2 with ⟨hv, _⟩ | ⟨g', cap, cur, hv, _, hgg, _⟩
  · rw [hv] at hg; simp [Value.ownBlock] at hg
  · rw [hv] at hg
    simp [Value.ownBlock] at hg
    subst hg
    unfold SBlk at h
    rw [h] at hgg
    injection hgg with e3
    injection e3 with _ e4
    exact seg_not_rec e4.symm
theorem SBlk.grown {B n c : Nat} {A : Option Addr} {xs : List Value} (h : SBlk W q cs) (hown : W.ownsRow B 46 6 (.slice A n c) n xs) (hgrow : W.grownBy W' (Value.slice A n c).ownBlock) : SBlk W' q cs :=
  (hgrow.block q h.lt (fun e => h.off hown q e.symm rfl)).trans h
theorem own_seg_put {B n c : Nat} {A : Option Addr} {xs : List Value} (h : SBlk W q cs) (hown : W.ownsRow B 46 6 (.slice A n c) n xs) (i : Nat) (u : Value) : (W.setCell ⟨q, i, none⟩ u).ownsRow B 46 6 (.slice A n c) n xs := by
  have hoff := h.off hown
  refine ⟨hown.1, hown.2.elim .inl (fun ⟨g, cap, cur, hv, hbg, hg, rest⟩ => .inr ⟨g, cap, cur, hv, hbg, (Below.heap_setCell W ⟨q, i, none⟩ u g ?_).trans hg, rest⟩)⟩
  exact hoff g (by rw [hv]; rfl)
theorem own_seg_row {B n c : Nat} {A : Option Addr} {xs : List Value} (h : SBlk W q cs) (hown : W.ownsRow B 46 6 (.slice A n c) n xs) (us : Array Value) : (W.setRow q us).ownsRow B 46 6 (.slice A n c) n xs := by
  have hoff := h.off hown
  refine ⟨hown.1, hown.2.elim .inl (fun ⟨g, cap, cur, hv, hbg, hg, rest⟩ => .inr ⟨g, cap, cur, hv, hbg, (setRow_other W q g us ?_).trans hg, rest⟩)⟩
  exact hoff g (by rw [hv]; rfl)
end
theorem own_len {w : World} {B c : Nat} {A : Option Addr} {l : List Rc} (h : w.ownsRow B 46 6 (.slice A l.length c) l.length (flat l)) : l.length ≤ 9223372036854775807 := by
  rcases h.2 with ⟨_, hn⟩ | ⟨g, cap, cur, hv, _, _, hle, hmx, _⟩
  · omega
  · unfold maxLen at *
    omega
/-- A segment whose records stand in memory, with room enough. -/
def GivesAt (b : Int) (L : List Rc) (w : World) (e : Ending) (w' : World) : Prop :=
  ∃ A c, e = .returned (.agg #[.int .i64 b, .slice A L.length c]) ∧ w'.ownsRow w.heap.size 46 6 (.slice A L.length c) L.length (flat L) ∧ Below w.heap.size w w'
end Go.Proofs.Ythdefnfpjbpbkaa
/- A new box, and a segment put into it. -/
namespace Go.Proofs.Ythdefnfpjbpbkaa
open Go.RowKit Go.Lib Rcd

theorem seg_box {w w1 : World} (hb : Below w.heap.size w w1) (cs : Array Value) : ∃ g W4, w1.heap.size = g ∧ w1.alloc (.cells szero 49) = W4 ∧ Blk W4 g szero ∧ SBlk (W4.setRow g cs) g cs ∧ RBox w g cs (W4.setRow g cs) ∧ Below w1.heap.size w1 (W4.setRow g cs) := by
  have hbn := SBlk.new w1 szero
  have hbl : Below w.heap.size w (w1.alloc (.cells szero 49)) := hb.alloc hb.size _
  exact ⟨_, _, rfl, rfl, hbn.blk, hbn.row cs, .mk (hbn.blk.row cs) (below_row hbl hb.size cs), below_row ((Below.refl _ _).alloc (Nat.le_refl _) _) (Nat.le_refl _) cs⟩
end Go.Proofs.Ythdefnfpjbpbkaa
/- The first few of a slice of records; a segment within a greater variable, read whole. -/
namespace Go.Proofs.Ythdefnfpjbpbkaa
open Go.RowKit Go.Lib Rcd

theorem load_seg_at {W : World} {g o : Nat} {b : Int} {v : Value} (c0 : W.cell? ⟨g, o, none⟩ = some (.int .i64 b)) (c1 : W.cell? ⟨g, o + 1, none⟩ = some v) (_ : v.oneCell' = true := by rfl) :
    (loadVar 49 ⟨g, o, none⟩).run Try.prog W = .ok (.agg #[.int .i64 b, v]) W :=
  run_loadVar_mid W g o 49 [.int .i64 b, v] _ (fun j v hv => by
    match j, hv with
    | 0, hv => rw [← hv]; exact c0
    | 1, hv => rw [← hv]; exact c1) Try.underlying49 rfl info_seg
theorem slice_front (A : Option Addr) (n c m : Nat) (w : World) (h : m ≤ c) :
    (Instr.sliceAt 37 (.slice A n c) none (some (.int .i64 (m : Int))) none).run Try.prog w = .ok (.slice A m c) w := by
  have h1 : (m : Int) ≤ (c : Int) := by omega
  have hm : ∀ a : Addr, a.add 0 = a := fun a => by obtain ⟨b, o, s⟩ := a; unfold Addr.add; split <;> simp_all
  cases A with
  | none =>
    go_simp
  | some a =>
    go_simp
    try simp [hm]
end Go.Proofs.Ythdefnfpjbpbkaa
