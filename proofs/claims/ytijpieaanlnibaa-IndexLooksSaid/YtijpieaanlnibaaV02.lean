/- Texts of the proof, part 2: RcMayBe, SgMem, SgFollow, SgCheck, RcEqual, SgTools, SgTri, IxMem, IxPlace, SgCopyOf, InTake, InMore, SgTold, SgFindBy, IxLookPlain, IxSame, IxCopy, RcSize, SgRecSize, IxMarks. -/
import Derived.Deep.Cut
import Derived.Deep.QuietTactic
import Derived.BigQuiet
import Derived.IntWalk
import Derived.Test.YtijpieaanlnibaaShelf
import Derived.Deep.RegionHeld3
import Derived.Test.YtijpieaanlnibaaV01
/- Package rec: whether a record may be. A block of the call's own whose cells are known. -/
namespace Go.Proofs.Ytijpieaanlnibaa
open Go.RowKit Go.Lib Rcd

set_option maxRecDepth 100000 in
set_option maxHeartbeats 1000000 in
theorem isWithin_is (n a b : Int) (X : Bool) (w : World) (h : decide (a ≤ n ∧ n ≤ b) = X) :
    Calls Try.prog 42 #[.int .i64 n, .int .i64 a, .int .i64 b] w fun e w' => e = .returned (.bool X) ∧ w = w' := by
  have HX := Lib.hid h
  clear h
  by_cases h1 : a ≤ n
  · by_cases h2 : n ≤ b
    · go_enter Try.func42, Try.ntmps42
      go_wp2
      go_ret
      exact ⟨ret_bool (by rw [← HX.out]; exact (decide_eq_true (by omega)).symm), rfl⟩
    · go_enter Try.func42, Try.ntmps42
      go_wp2
      go_ret
      exact ⟨ret_bool (by rw [← HX.out]; exact (decide_eq_false (by omega)).symm), rfl⟩
  · go_enter Try.func42, Try.ntmps42
    go_wp2
    go_ret
    exact ⟨ret_bool (by rw [← HX.out]; exact (decide_eq_false (by omega)).symm), rfl⟩

theorem ne_empty {b : ByteArray} (h : ¬ b = ⟨#[]⟩) : b.toList.isEmpty = false ∧ ¬ b.toList = [] := by
  have : ¬ b.toList = [] := fun e => h (by rw [← data_str b, ← toList_data_eq, e]; rfl)
  exact ⟨by rw [List.isEmpty_eq_false_iff]; exact this, this⟩
def mayE (r : Rc) : Int := if mayB r then 0 else 1
/-- Whether a record may be, test by test. -/
theorem may_ways (o t : Int) (k b : ByteArray) (q : Int) (g : Bool) :
    (decide (0 ≤ o ∧ o ≤ 1099511627775) = false ∧ mayE ⟨o, t, k.data.toList, b.data.toList, q, g⟩ = 1) ∨
    (decide (0 ≤ o ∧ o ≤ 1099511627775) = true ∧ decide (0 ≤ t ∧ t ≤ 1099511627776) = false ∧ mayE ⟨o, t, k.data.toList, b.data.toList, q, g⟩ = 1) ∨
    (decide (0 ≤ o ∧ o ≤ 1099511627775) = true ∧ decide (0 ≤ t ∧ t ≤ 1099511627776) = true ∧ decide ((k.size : Int) ≤ 1024) = false ∧ mayE ⟨o, t, k.data.toList, b.data.toList, q, g⟩ = 1) ∨
    (decide (0 ≤ o ∧ o ≤ 1099511627775) = true ∧ decide (0 ≤ t ∧ t ≤ 1099511627776) = true ∧ decide ((k.size : Int) ≤ 1024) = true ∧ decide ((b.size : Int) ≤ 1024) = false ∧ mayE ⟨o, t, k.data.toList, b.data.toList, q, g⟩ = 1) ∨
    (decide (0 ≤ o ∧ o ≤ 1099511627775) = true ∧ decide (0 ≤ t ∧ t ≤ 1099511627776) = true ∧ decide ((k.size : Int) ≤ 1024) = true ∧ decide ((b.size : Int) ≤ 1024) = true ∧ decide (0 ≤ q ∧ q ≤ 2) = false ∧ mayE ⟨o, t, k.data.toList, b.data.toList, q, g⟩ = 1) ∨
    (decide (0 ≤ o ∧ o ≤ 1099511627775) = true ∧ decide (0 ≤ t ∧ t ≤ 1099511627776) = true ∧ decide ((k.size : Int) ≤ 1024) = true ∧ decide ((b.size : Int) ≤ 1024) = true ∧ decide (0 ≤ q ∧ q ≤ 2) = true ∧ b = ⟨#[]⟩ ∧ mayE ⟨o, t, k.data.toList, b.data.toList, q, g⟩ = 0) ∨
    (decide (0 ≤ o ∧ o ≤ 1099511627775) = true ∧ decide (0 ≤ t ∧ t ≤ 1099511627776) = true ∧ decide ((k.size : Int) ≤ 1024) = true ∧ decide ((b.size : Int) ≤ 1024) = true ∧ decide (0 ≤ q ∧ q ≤ 2) = true ∧ ¬ b = ⟨#[]⟩ ∧ g = false ∧ mayE ⟨o, t, k.data.toList, b.data.toList, q, g⟩ = 0) ∨
    (decide (0 ≤ o ∧ o ≤ 1099511627775) = true ∧ decide (0 ≤ t ∧ t ≤ 1099511627776) = true ∧ decide ((k.size : Int) ≤ 1024) = true ∧ decide ((b.size : Int) ≤ 1024) = true ∧ decide (0 ≤ q ∧ q ≤ 2) = true ∧ ¬ b = ⟨#[]⟩ ∧ g = true ∧ mayE ⟨o, t, k.data.toList, b.data.toList, q, g⟩ = 1) := by
  have hk : k.data.toList.length = k.size := by rw [Array.length_toList]; rfl
  have hb : b.data.toList.length = b.size := by rw [Array.length_toList]; rfl
  have he : b.data.toList = [] ↔ b = ⟨#[]⟩ := ⟨fun h => by rw [← data_str b, h]; rfl, fun h => by rw [h]⟩
  have key : mayB ⟨o, t, k.data.toList, b.data.toList, q, g⟩ = decide ((0 ≤ o ∧ o ≤ 1099511627775) ∧ (0 ≤ t ∧ t ≤ 1099511627776) ∧ (k.size : Int) ≤ 1024 ∧ (b.size : Int) ≤ 1024 ∧ (0 ≤ q ∧ q ≤ 2) ∧ (b = ⟨#[]⟩ ∨ g = false)) := by
    rw [Bool.eq_iff_iff, may_iff, decide_eq_true_iff, ← he]
    simp only [hk, hb]
    constructor
    · rintro ⟨h1, h2, h3, h4, h5, h6, h7, h8, h9⟩
      exact ⟨⟨h1, h2⟩, ⟨h3, h4⟩, by omega, by omega, ⟨h7, h8⟩, h9⟩
    · rintro ⟨⟨h1, h2⟩, ⟨h3, h4⟩, h5, h6, ⟨h7, h8⟩, h9⟩
      exact ⟨h1, h2, h3, h4, by omega, by omega, h7, h8, h9⟩
  unfold mayE
  rw [key]
  clear key
  by_cases c1 : 0 ≤ o ∧ o ≤ 1099511627775
  · by_cases c2 : 0 ≤ t ∧ t ≤ 1099511627776
    · by_cases c3 : (k.size : Int) ≤ 1024
      · by_cases c4 : (b.size : Int) ≤ 1024
        · by_cases c5 : 0 ≤ q ∧ q ≤ 2
          · by_cases c6 : b = ⟨#[]⟩
            · exact .inr (.inr (.inr (.inr (.inr (.inl ⟨decide_eq_true c1, decide_eq_true c2, decide_eq_true c3, decide_eq_true c4, decide_eq_true c5, c6, by rw [decide_eq_true ⟨c1, c2, c3, c4, c5, .inl c6⟩]; rfl⟩)))))
            · cases g with
              | false => exact .inr (.inr (.inr (.inr (.inr (.inr (.inl ⟨decide_eq_true c1, decide_eq_true c2, decide_eq_true c3, decide_eq_true c4, decide_eq_true c5, c6, rfl, by rw [decide_eq_true ⟨c1, c2, c3, c4, c5, .inr rfl⟩]; rfl⟩))))))
              | true => exact .inr (.inr (.inr (.inr (.inr (.inr (.inr ⟨decide_eq_true c1, decide_eq_true c2, decide_eq_true c3, decide_eq_true c4, decide_eq_true c5, c6, rfl, by rw [decide_eq_false (by rintro ⟨_, _, _, _, _, h | h⟩; exact c6 h; cases h)]; rfl⟩))))))
          · exact .inr (.inr (.inr (.inr (.inl ⟨decide_eq_true c1, decide_eq_true c2, decide_eq_true c3, decide_eq_true c4, decide_eq_false c5, by rw [decide_eq_false (fun h => c5 h.2.2.2.2.1)]; rfl⟩))))
        · exact .inr (.inr (.inr (.inl ⟨decide_eq_true c1, decide_eq_true c2, decide_eq_true c3, decide_eq_false c4, by rw [decide_eq_false (fun h => c4 h.2.2.2.1)]; rfl⟩)))
      · exact .inr (.inr (.inl ⟨decide_eq_true c1, decide_eq_true c2, decide_eq_false c3, by rw [decide_eq_false (fun h => c3 h.2.2.1)]; rfl⟩))
    · exact .inr (.inl ⟨decide_eq_true c1, decide_eq_false c2, by rw [decide_eq_false (fun h => c2 h.2.1)]; rfl⟩)
  · exact .inl ⟨decide_eq_false c1, by rw [decide_eq_false (fun h => c1 h.1)]; rfl⟩

set_option maxRecDepth 100000 in
set_option maxHeartbeats 4000000 in
theorem Check_parts (o t : Int) (k b : ByteArray) (q : Int) (g : Bool) (E : Int) (w : World) (hE : mayE ⟨o, t, k.data.toList, b.data.toList, q, g⟩ = E) :
    Calls Try.prog 34 #[.agg (rarr o t k b q g)] w fun e w' => e = .returned (.int .i64 E) ∧ Below w.heap.size w w' := by
  unfold rarr
  rcases may_ways o t k b q g with ⟨h1, h⟩ | ⟨h1, h2, h⟩ | ⟨h1, h2, h3, h⟩ | ⟨h1, h2, h3, h4, h⟩ | ⟨h1, h2, h3, h4, h5, h⟩ | ⟨h1, h2, h3, h4, h5, h6, h⟩ | ⟨h1, h2, h3, h4, h5, h6, h7, h⟩ | ⟨h1, h2, h3, h4, h5, h6, h7, h⟩
  · obtain rfl : E = 1 := hE.symm.trans h
    have Ho := Lib.hid h1
    clear h hE h1
    go_enter Try.func34, Try.ntmps34
    go_wp2_with (go_at_call 42; refine (isWithin_is _ _ _ _ _ (by first | with_reducible exact Ho.out)).mono ?_; rintro e w' ⟨rfl, rfl⟩)
    go_ret
    exact ⟨rfl, (Below.refl _ _).alloc (Nat.le_refl _) _⟩
  · obtain rfl : E = 1 := hE.symm.trans h
    have Ho := Lib.hid h1
    have Ht := Lib.hid h2
    clear h hE h1 h2
    go_enter Try.func34, Try.ntmps34
    go_wp2_with (go_at_call 42; refine (isWithin_is _ _ _ _ _ (by first | with_reducible exact Ho.out | with_reducible exact Ht.out)).mono ?_; rintro e w' ⟨rfl, rfl⟩)
    go_ret
    exact ⟨rfl, (Below.refl _ _).alloc (Nat.le_refl _) _⟩
  · obtain rfl : E = 1 := hE.symm.trans h
    have Ho := Lib.hid h1
    have Ht := Lib.hid h2
    clear h hE h1 h2
    go_enter Try.func34, Try.ntmps34
    go_wp2_with (go_at_call 42; refine (isWithin_is _ _ _ _ _ (by first | with_reducible exact Ho.out | with_reducible exact Ht.out)).mono ?_; rintro e w' ⟨rfl, rfl⟩)
    go_ret
    exact ⟨rfl, (Below.refl _ _).alloc (Nat.le_refl _) _⟩
  · obtain rfl : E = 1 := hE.symm.trans h
    have Ho := Lib.hid h1
    have Ht := Lib.hid h2
    clear h hE h1 h2
    go_enter Try.func34, Try.ntmps34
    go_wp2_with (go_at_call 42; refine (isWithin_is _ _ _ _ _ (by first | with_reducible exact Ho.out | with_reducible exact Ht.out)).mono ?_; rintro e w' ⟨rfl, rfl⟩)
    go_ret
    exact ⟨rfl, (Below.refl _ _).alloc (Nat.le_refl _) _⟩
  · obtain rfl : E = 1 := hE.symm.trans h
    have Ho := Lib.hid h1
    have Ht := Lib.hid h2
    have Hq := Lib.hid h5
    clear h hE h1 h2 h5
    go_enter Try.func34, Try.ntmps34
    go_wp2_with (go_at_call 42; refine (isWithin_is _ _ _ _ _ (by first | with_reducible exact Ho.out | with_reducible exact Ht.out | with_reducible exact Hq.out)).mono ?_; rintro e w' ⟨rfl, rfl⟩)
    go_ret
    exact ⟨rfl, (Below.refl _ _).alloc (Nat.le_refl _) _⟩
  · obtain rfl : E = 0 := hE.symm.trans h
    have Ho := Lib.hid h1
    have Ht := Lib.hid h2
    have Hq := Lib.hid h5
    clear h hE h1 h2 h5
    subst h6
    go_enter Try.func34, Try.ntmps34
    go_wp2_with (go_at_call 42; refine (isWithin_is _ _ _ _ _ (by first | with_reducible exact Ho.out | with_reducible exact Ht.out | with_reducible exact Hq.out)).mono ?_; rintro e w' ⟨rfl, rfl⟩)
    go_ret
    exact ⟨rfl, (Below.refl _ _).alloc (Nat.le_refl _) _⟩
  · obtain rfl : E = 0 := hE.symm.trans h
    have Ho := Lib.hid h1
    have Ht := Lib.hid h2
    have Hq := Lib.hid h5
    clear h hE h1 h2 h5
    have hi := ne_empty h6
    obtain ⟨hi1, hi2⟩ := hi
    clear h6
    go_enter Try.func34, Try.ntmps34
    go_wp2_with (go_at_call 42; refine (isWithin_is _ _ _ _ _ (by first | with_reducible exact Ho.out | with_reducible exact Ht.out | with_reducible exact Hq.out)).mono ?_; rintro e w' ⟨rfl, rfl⟩)
    go_ret
    exact ⟨rfl, (Below.refl _ _).alloc (Nat.le_refl _) _⟩
  · obtain rfl : E = 1 := hE.symm.trans h
    have Ho := Lib.hid h1
    have Ht := Lib.hid h2
    have Hq := Lib.hid h5
    clear h hE h1 h2 h5
    have hi := ne_empty h6
    obtain ⟨hi1, hi2⟩ := hi
    clear h6
    go_enter Try.func34, Try.ntmps34
    go_wp2_with (go_at_call 42; refine (isWithin_is _ _ _ _ _ (by first | with_reducible exact Ho.out | with_reducible exact Ht.out | with_reducible exact Hq.out)).mono ?_; rintro e w' ⟨rfl, rfl⟩)
    go_ret
    exact ⟨rfl, (Below.refl _ _).alloc (Nat.le_refl _) _⟩
/-- rec.Check. -/
theorem Check_is (r : Rc) (E : Int) (w : World) (hE : mayE r = E) :
    Calls Try.prog 34 #[ragg r] w fun e w' => e = .returned (.int .i64 E) ∧ Below w.heap.size w w' :=
  Check_parts r.o r.t (str r.k) (str r.b) r.q r.g E w (by rw [str_data, str_data]; exact hE)

/-- A block of the call's own whose cells are known, and all that was there ahead of the call. -/
@[irreducible] def RBox (w0 : World) (g : Nat) (cs : Array Value) (W : World) : Prop := Blk W g cs ∧ Below w0.heap.size w0 W
section
variable {w0 W W' : World} {g : Nat} {cs : Array Value}
theorem RBox.mk (h1 : Blk W g cs) (h2 : Below w0.heap.size w0 W) : RBox w0 g cs W := by unfold RBox; exact ⟨h1, h2⟩
theorem RBox.out (h : RBox w0 g cs W) : Blk W g cs ∧ Below w0.heap.size w0 W := by unfold RBox at h; exact h
theorem RBox.new (w : World) (T : TypeId) (cs : Array Value) : RBox w w.heap.size cs (w.alloc (.cells cs T)) := .mk (Blk.new w T cs) ((Below.refl _ _).alloc (Nat.le_refl _) _)
theorem RBox.below (h : RBox w0 g cs W) (hb : Below W.heap.size W W') : RBox w0 g cs W' := .mk (h.out.1.below hb) (h.out.2.trans (hb.mono h.out.2.size))
theorem RBox.drewN (h : RBox w0 g cs W) (n : Nat) : RBox w0 g cs (W.drewN n) := h.below (below_drewN (Below.refl _ _) n)
theorem RBox.cell (h : RBox w0 g cs W) (i : Nat) : W.cell? ⟨g, i, none⟩ = cs[i]? := h.out.1.cell i
theorem RBox.load (h : RBox w0 g cs W) (h6 : cs.size = 6) : (loadVar 44 ⟨g, 0, none⟩).run Try.prog W = .ok (.agg cs) W := load_blk h.out.1 h6
end

theorem mayE_zero {r : Rc} (h : mayE r = 0) : mayB r = true := by
  unfold mayE at h
  cases hm : mayB r with
  | true => rfl
  | false => rw [hm] at h; cases h
/-- A new block, and a record put into it. -/
theorem box_new {w w1 : World} (hb : Below w.heap.size w w1) (cs : Array Value) : ∃ g W4, w1.heap.size = g ∧ w1.alloc (.cells zcells 44) = W4 ∧ Blk W4 g zcells ∧ RBox w g cs (W4.setRow g cs) ∧ Below w1.heap.size w1 (W4.setRow g cs) := by
  have hbn := Blk.new w1 44 zcells
  have hbl : Below w.heap.size w (w1.alloc (.cells zcells 44)) := hb.alloc hb.size _
  exact ⟨_, _, rfl, rfl, hbn, .mk (hbn.row cs) (below_row hbl hb.size cs), below_row ((Below.refl _ _).alloc (Nat.le_refl _) _) (Nat.le_refl _) cs⟩
end Go.Proofs.Ytijpieaanlnibaa
/- Segments in memory: blocks of the call's own, what is handed back. -/
namespace Go.Proofs.Ytijpieaanlnibaa
open Go.RowKit Go.Lib Rcd

/-- A segment's cells. -/
def sarr (b : Int) (A : Option Addr) (n c : Nat) : Array Value := #[.int .i64 b, .slice A n c]
def szero : Array Value := #[.int .i64 0, .slice none 0 0]
theorem info_seg : (Try.prog.info? 24).map (·.size) = some 2 := by kernel_rfl
theorem one_seg (b : Int) (A : Option Addr) (n c : Nat) : (sarr b A n c).all (·.oneCell') = true := by simp [sarr, Value.oneCell']
theorem load_seg {W : World} {g : Nat} {cs : Array Value} (h : Blk W g cs) (h9 : cs.size = 2) : (loadVar 24 ⟨g, 0, none⟩).run Try.prog W = .ok (.agg cs) W :=
  run_loadVar_mid W g 0 24 cs.toList _ (fun j v hv => by rw [Nat.zero_add, h.cell j]; rw [← hv]; simp) Try.underlying24 rfl (by rw [info_seg]; simp [h9])
theorem RBox.loadS {w0 W : World} {g : Nat} {cs : Array Value} (h : RBox w0 g cs W) (h9 : cs.size = 2) : (loadVar 24 ⟨g, 0, none⟩).run Try.prog W = .ok (.agg cs) W := load_seg h.out.1 h9

/-- A segment whose records are the call's own. -/
def GivesSeg (b : Int) (L : List Rc) (w : World) (e : Ending) (w' : World) : Prop :=
  ∃ A c, e = .returned (.agg #[.int .i64 b, .slice A L.length c]) ∧ w'.ownsRow w.heap.size 44 6 (.slice A L.length c) L.length (flat L) ∧ Below w.heap.size w w'

/-- Two blocks of the call's own, and all that was there ahead of the call. -/
@[irreducible] def Duo (w : World) (g h : Nat) (cs ds : Array Value) (W : World) : Prop := Blk W g cs ∧ Blk W h ds ∧ Below w.heap.size w W ∧ w.heap.size ≤ g ∧ g < h
section
variable {w W W' : World} {g h : Nat} {cs ds : Array Value}
theorem Duo.mk (k : Blk W g cs ∧ Blk W h ds ∧ Below w.heap.size w W ∧ w.heap.size ≤ g ∧ g < h) : Duo w g h cs ds W := by unfold Duo; exact k
theorem Duo.out (k : Duo w g h cs ds W) : Blk W g cs ∧ Blk W h ds ∧ Below w.heap.size w W ∧ w.heap.size ≤ g ∧ g < h := by unfold Duo at k; exact k
theorem Duo.below (k : Duo w g h cs ds W) (hb : Below W.heap.size W W') : Duo w g h cs ds W' := by
  obtain ⟨h1, h2, h3, h4, h5⟩ := k.out
  exact .mk ⟨h1.below hb, h2.below hb, h3.trans (hb.mono h3.size), h4, h5⟩
theorem Duo.drewN (k : Duo w g h cs ds W) (n : Nat) : Duo w g h cs ds (W.drewN n) := k.below (below_drewN (Below.refl _ _) n)
theorem Duo.cell1 (k : Duo w g h cs ds W) (i : Nat) : W.cell? ⟨g, i, none⟩ = cs[i]? := k.out.1.cell i
theorem Duo.cell2 (k : Duo w g h cs ds W) (i : Nat) : W.cell? ⟨h, i, none⟩ = ds[i]? := k.out.2.1.cell i
theorem Duo.bel (k : Duo w g h cs ds W) : Below w.heap.size w W := k.out.2.2.1
theorem Duo.put1 (k : Duo w g h cs ds W) (i : Nat) (v : Value) : Duo w g h (cs.setIfInBounds i v) ds (W.setCell ⟨g, i, none⟩ v) := by
  obtain ⟨h1, h2, h3, h4, h5⟩ := k.out
  exact .mk ⟨h1.put i v, h2.far (p := ⟨g, i, none⟩) (by show h ≠ g; omega) v, h3.setCell h4 v, h4, h5⟩
theorem Duo.put2 (k : Duo w g h cs ds W) (i : Nat) (v : Value) : Duo w g h cs (ds.setIfInBounds i v) (W.setCell ⟨h, i, none⟩ v) := by
  obtain ⟨h1, h2, h3, h4, h5⟩ := k.out
  exact .mk ⟨h1.far (p := ⟨h, i, none⟩) (by show g ≠ h; omega) v, h2.put i v, h3.setCell (p := ⟨h, i, none⟩) (show w.heap.size ≤ h by omega) v, h4, h5⟩
theorem setRow_blk {g' : Nat} (k : Blk W g' cs) (hp : g ≠ g') (xs : Array Value) : Blk (W.setRow g xs) g' cs := by
  obtain ⟨T, k⟩ := k
  exact ⟨T, (setRow_other W g g' xs (Ne.symm hp)).trans k⟩
theorem Duo.row1 (k : Duo w g h cs ds W) (xs : Array Value) : Duo w g h xs ds (W.setRow g xs) := by
  obtain ⟨h1, h2, h3, h4, h5⟩ := k.out
  exact .mk ⟨h1.row xs, setRow_blk h2 (by omega) xs, below_row h3 h4 xs, h4, h5⟩
theorem Duo.row2 (k : Duo w g h cs ds W) (xs : Array Value) : Duo w g h cs xs (W.setRow h xs) := by
  obtain ⟨h1, h2, h3, h4, h5⟩ := k.out
  exact .mk ⟨setRow_blk h1 (by omega) xs, h2.row xs, below_row h3 (by omega) xs, h4, h5⟩
theorem Duo.new (w : World) (T T' : TypeId) (cs ds : Array Value) : Duo w w.heap.size (w.heap.size + 1) cs ds ((w.alloc (.cells cs T)).alloc (.cells ds T')) := by
  have h1 := (Below.refl w.heap.size w).alloc (Nat.le_refl _) (.cells cs T)
  refine .mk ⟨(Blk.new w _ _).alloc _, ?_, h1.alloc (by simp) _, Nat.le_refl _, Nat.lt_succ_self _⟩
  have := Blk.new (w.alloc (.cells cs T)) T' ds
  simpa using this
/-- A box of the call's own, and one more. -/
theorem Duo.more (k : RBox w g cs W) (hg : w.heap.size ≤ g) (T : TypeId) (ds : Array Value) : Duo w g W.heap.size cs ds (W.alloc (.cells ds T)) := by
  obtain ⟨h1, h2⟩ := k.out
  exact .mk ⟨h1.alloc _, Blk.new W T ds, h2.alloc h2.size _, hg, h1.lt⟩
theorem Duo.box1 (k : Duo w g h cs ds W) : RBox w g cs W := .mk k.out.1 k.bel
theorem Duo.box2 (k : Duo w g h cs ds W) : RBox w h ds W := .mk k.out.2.1 k.bel
end
theorem RBox.row {w W : World} {g : Nat} {cs : Array Value} (k : RBox w g cs W) (hg : w.heap.size ≤ g) (xs : Array Value) : RBox w g xs (W.setRow g xs) := .mk (k.out.1.row xs) (below_row k.out.2 hg xs)

/-- What stands in the cell c is handed back. -/
theorem results_cell {fn : Func} {tmps : Array Value} {w : World} {c g : Nat} {T : TypeId} {V : Value} (hr : fn.results = #[.cell c T]) (h0 : tmps.getD c undef = .pointer (some ⟨g, 0, none⟩)) (hl : (loadVar T ⟨g, 0, none⟩).run Try.prog w = .ok V w) :
    (results fn tmps).run Try.prog w = .ok V w := by
  unfold results
  rw [hr]
  simp only [List.mapM_toArray, List.mapM_cons, List.mapM_nil, h0, asAddr, Sem.run_bind, Sem.run_pure, Result.andThen_ok, bind_assoc, pure_bind, map_bind, map_pure, hl]
  rfl
theorem results_cell2 {fn : Func} {tmps : Array Value} {w : World} {c i g : Nat} {T : TypeId} {V u : Value} (hr : fn.results = #[.cell c T, .tmp i]) (h0 : tmps.getD c undef = .pointer (some ⟨g, 0, none⟩)) (hl : (loadVar T ⟨g, 0, none⟩).run Try.prog w = .ok V w) (h1 : tmps.getD i undef = u) :
    (results fn tmps).run Try.prog w = .ok (.tuple #[V, u]) w := by
  unfold results
  rw [hr]
  simp only [List.mapM_toArray, List.mapM_cons, List.mapM_nil, h0, h1, asAddr, Sem.run_bind, Sem.run_pure, Result.andThen_ok, bind_assoc, pure_bind, map_bind, map_pure, hl]
  rfl
theorem results_cell3 {fn : Func} {tmps : Array Value} {w : World} {c i j g : Nat} {T : TypeId} {V u v : Value} (hr : fn.results = #[.cell c T, .tmp i, .tmp j]) (h0 : tmps.getD c undef = .pointer (some ⟨g, 0, none⟩)) (hl : (loadVar T ⟨g, 0, none⟩).run Try.prog w = .ok V w) (h1 : tmps.getD i undef = u) (h2 : tmps.getD j undef = v) :
    (results fn tmps).run Try.prog w = .ok (.tuple #[V, u, v]) w := by
  unfold results
  rw [hr]
  simp only [List.mapM_toArray, List.mapM_cons, List.mapM_nil, h0, h1, h2, asAddr, Sem.run_bind, Sem.run_pure, Result.andThen_ok, bind_assoc, pure_bind, map_bind, map_pure, hl]
  rfl
end Go.Proofs.Ytijpieaanlnibaa
/- Package seg: whether a base may be; whether a record may stand behind a segment's. -/
namespace Go.Proofs.Ytijpieaanlnibaa
open Go.RowKit Go.Lib Rcd

set_option maxRecDepth 100000 in
set_option maxHeartbeats 1000000 in
theorem isBase_is (n : Int) (X : Bool) (w : World) (h : baseB n = X) :
    Calls Try.prog 32 #[.int .i64 n] w fun e w' => e = .returned (.bool X) ∧ w = w' := by
  unfold baseB at h
  have HX := Lib.hid h
  clear h
  by_cases h1 : 0 ≤ n
  · by_cases h2 : n ≤ 1099511627776
    · go_enter Try.func32, Try.ntmps32
      go_wp2
      go_ret
      exact ⟨ret_bool (by rw [← HX.out]; exact (decide_eq_true (by omega)).symm), rfl⟩
    · go_enter Try.func32, Try.ntmps32
      go_wp2
      go_ret
      exact ⟨ret_bool (by rw [← HX.out]; exact (decide_eq_false (by omega)).symm), rfl⟩
  · go_enter Try.func32, Try.ntmps32
    go_wp2
    go_ret
    exact ⟨ret_bool (by rw [← HX.out]; exact (decide_eq_false (by omega)).symm), rfl⟩

/-- Whether a record may follow, test by test. -/
theorem follow_ways (b : Int) (rs : List Rc) (r : Rc) :
    (200 ≤ rs.length ∧ followB b rs r = false) ∨
    (rs.length < 200 ∧ mayE r = 1 ∧ followB b rs r = false) ∨
    (rs.length < 200 ∧ mayE r = 0 ∧ rs = [] ∧ followB b rs r = decide (b ≤ r.o)) ∨
    (rs.length < 200 ∧ mayE r = 0 ∧ ∃ (n : Nat) (hn : n + 1 = rs.length), followB b rs r = decide ((rs[n]'(by omega)).o < r.o ∧ (rs[n]'(by omega)).t ≤ r.t)) := by
  unfold followB mayE
  by_cases c1 : rs.length < 200
  · rw [decide_eq_true c1]
    cases hm : mayB r with
    | false => exact .inr (.inl ⟨c1, rfl, rfl⟩)
    | true =>
      rcases Nat.eq_zero_or_pos rs.length with c | c
      · have := List.eq_nil_of_length_eq_zero c
        subst this
        exact .inr (.inr (.inl ⟨c1, rfl, rfl, rfl⟩))
      · have hn : rs.length - 1 + 1 = rs.length := by omega
        refine .inr (.inr (.inr ⟨c1, rfl, rs.length - 1, hn, ?_⟩))
        rw [next_last (last_all hn)]
        rfl
  · exact .inl ⟨by omega, by rw [decide_eq_false c1]; rfl⟩

set_option maxRecDepth 100000 in
set_option maxHeartbeats 8000000 in
theorem follow_is (b : Int) (rs : List Rc) (r : Rc) (N : Nat) (A : Option Addr) (c B : Nat) (X : Bool) (w : World) (hN : rs.length = N) (hm : N ≤ 9223372036854775807) (hB : B ≤ w.heap.size) (h : RecsAt w B A rs) (hX : followB b rs r = X) :
    Calls Try.prog 33 #[.agg #[.int .i64 b, .slice A N c], ragg r] w fun e w' => e = .returned (.bool X) ∧ Below w.heap.size w w' := by
  have hD := Duo.new w 24 44 (sarr b A N c) (rarr r.o r.t (str r.k) (str r.b) r.q r.g)
  have hway := follow_ways b rs r
  have HC := Lib.hid (fun E W (hE : mayE r = E) => Check_is r E W hE)
  have H := Lib.hid h
  unfold ragg at HC ⊢
  obtain ⟨o, t, k, bd, q, g⟩ := r
  dsimp only at HC hD ⊢
  generalize str k = ks at HC hD ⊢
  generalize str bd = bs at HC hD ⊢
  obtain ⟨p, hp⟩ : ∃ p, w.heap.size = p := ⟨_, rfl⟩
  obtain ⟨W0, hW⟩ : ∃ W0, (w.alloc (.cells (sarr b A N c) 24)).alloc (.cells (rarr o t ks bs q g) 44) = W0 := ⟨_, rfl⟩
  rw [hW, hp] at hD
  unfold sarr rarr at hD hW
  unfold rarr at HC ⊢
  have D0 := Lib.hid hD
  have HW := Lib.hid hW
  have HP := Lib.hid hp
  clear hD hW hp h
  have n2 : (N : Int) < 9223372036854775808 := by omega
  rcases hway with ⟨h1, h2⟩ | ⟨h1, h2, h3⟩ | ⟨h1, h2, h3, h4⟩ | ⟨h1, h2, n, h3, h4⟩
  · obtain rfl : false = X := h2.symm.trans hX
    have e1 : decide (200 ≤ N) = true := decide_eq_true (by omega)
    have e2 : decide ((200 : Int) ≤ (N : Int)) = true := decide_eq_true (by omega)
    clear HC H h2 hX
    go_enter Try.func33, Try.ntmps33
    go_upto_region 1 with fail
    rw [HW.out, HP.out]
    clear HW HP
    have d1 : W0.cell? ⟨p, 1, none⟩ = some (.slice A N c) := D0.out.cell1 1
    go_wp2_with fail
    go_ret
    exact ⟨rfl, D0.out.bel⟩
  · obtain rfl : false = X := h3.symm.trans hX
    have e1 : decide (200 ≤ N) = false := decide_eq_false (by omega)
    have e2 : decide ((200 : Int) ≤ (N : Int)) = false := decide_eq_false (by omega)
    have HC1 := Lib.hid (fun W => HC.out 1 W h2)
    clear HC H h3 h2 hX
    go_enter Try.func33, Try.ntmps33
    go_upto_region 1 with fail
    rw [HW.out, HP.out]
    clear HW HP
    have d1 : W0.cell? ⟨p, 1, none⟩ = some (.slice A N c) := D0.out.cell1 1
    have hld := D0.out.box2.load rfl
    go_wp2_with (refine wpList_load_any (by rfl) 44 (.tmp 3) rfl (p + 1) 0 rfl _ hld ?_; simp only [Act.put])
    refine (HC1.out _).mono ?_
    rintro e w1 ⟨rfl, hb1⟩
    have D1 := Lib.hid (D0.out.below hb1)
    clear D0 hb1 d1 hld HC1
    go_wp2_with fail
    go_ret
    exact ⟨rfl, D1.out.bel⟩
  · subst h3
    obtain rfl : N = 0 := by rw [← hN]; rfl
    have HX := Lib.hid (h4.symm.trans hX)
    have HC1 := Lib.hid (fun W => HC.out 0 W h2)
    clear HC H h4 h2 hX
    go_enter Try.func33, Try.ntmps33
    go_upto_region 1 with fail
    rw [HW.out, HP.out]
    clear HW HP
    have d1 : W0.cell? ⟨p, 1, none⟩ = some (.slice A 0 c) := D0.out.cell1 1
    have hld := D0.out.box2.load rfl
    go_wp2_with (refine wpList_load_any (by rfl) 44 (.tmp 3) rfl (p + 1) 0 rfl _ hld ?_; simp only [Act.put])
    refine (HC1.out _).mono ?_
    rintro e w1 ⟨rfl, hb1⟩
    have D1 := Lib.hid (D0.out.below hb1)
    clear D0 hb1 d1 hld HC1
    have d0 : w1.cell? ⟨p, 0, none⟩ = some (.int .i64 b) := D1.out.cell1 0
    have d1 : w1.cell? ⟨p, 1, none⟩ = some (.slice A 0 c) := D1.out.cell1 1
    have d2 : w1.cell? ⟨p + 1, 0, none⟩ = some (.int .i64 o) := D1.out.cell2 0
    go_wp2_with fail
    go_ret
    exact ⟨ret_bool HX.out, D1.out.bel⟩
  · have hN1 : N = n + 1 := by omega
    have HX := Lib.hid (h4.symm.trans hX)
    obtain ⟨b0, o0, rfl, hb0, hc⟩ := H.out.some_ (by omega)
    have hr := hc n (by omega)
    have e1 : decide (200 ≤ N) = false := decide_eq_false (by omega)
    have e2 : decide ((200 : Int) ≤ (N : Int)) = false := decide_eq_false (by omega)
    have e3 : ((N : Int) == 0) = false := by rw [beq_eq_false_iff_ne]; omega
    have e4 : (N == 0) = false := by rw [beq_eq_false_iff_ne]; omega
    have e5 : (N : Int) - 1 = (n : Int) := by omega
    have e6 : (n : Int) < (N : Int) := by omega
    have HC1 := Lib.hid (fun W => HC.out 0 W h2)
    clear HC H h4 h2 hX hc
    generalize rs[n]'(by omega) = a at hr HX
    obtain ⟨xo, xt, xk, xb, xq, xg⟩ := a
    have HR := Lib.hid hr
    dsimp only at HX
    clear hr hN h3 h1 hN1
    go_enter Try.func33, Try.ntmps33
    go_upto_region 1 with fail
    rw [HW.out, HP.out]
    have hbp : b0 < p := by rw [← HP.out]; omega
    clear HW
    have d1 : W0.cell? ⟨p, 1, none⟩ = some (.slice (some ⟨b0, o0, none⟩) N c) := D0.out.cell1 1
    have hld := D0.out.box2.load rfl
    go_wp2_with (refine wpList_load_any (by rfl) 44 (.tmp 3) rfl (p + 1) 0 rfl _ hld ?_; simp only [Act.put])
    refine (HC1.out _).mono ?_
    rintro e w1 ⟨rfl, hb1⟩
    have D1 := Lib.hid (D0.out.below hb1)
    clear D0 hb1 d1 hld HC1
    have d1 : w1.cell? ⟨p, 1, none⟩ = some (.slice (some ⟨b0, o0, none⟩) N c) := D1.out.cell1 1
    obtain ⟨c0, c1, c2, c3, c4, c5⟩ := HR.out.keep (w' := w1) (fun i => D1.out.bel.cell (p := ⟨b0, i, none⟩) (by rw [HP.out]; exact hbp))
    dsimp only at c0 c1 c2 c3 c4 c5
    generalize str xk = kz at c2
    generalize str xb = bz at c3
    obtain ⟨g9, W4, hg9, hW4, hbn, hbx, hbl⟩ := box_new D1.out.bel (rarr xo xt kz bz xq xg)
    have hD2 := D1.out.below hbl
    have D2 := Lib.hid hD2
    have HBN := Lib.hid hbn
    have HBX := Lib.hid hbx
    unfold zcells at hW4
    have HW4 := Lib.hid hW4
    clear hbn hbx hbl hD2 hW4 D1 HP
    unfold rarr at HBX D2
    go_upto_region 6 with (rw [HW4.out]; refine wpList_store_whole rfl 44 (.tmp 5) (.tmp 31) rfl g9 _ rfl rfl zcells HBN.out info_rec rfl (by simp [Value.oneCell']) ?_; simp only [Act.put])
    clear HW4 HBN d1 c0 c1 c2 c3 c4 c5 hg9
    generalize World.setRow _ _ _ = w5 at HBX D2 ⊢
    have d0 : w5.cell? ⟨p + 1, 0, none⟩ = some (.int .i64 o) := D2.out.cell2 0
    have d1 : w5.cell? ⟨p + 1, 1, none⟩ = some (.int .i64 t) := D2.out.cell2 1
    have f0 : w5.cell? ⟨g9, 0, none⟩ = some (.int .i64 xo) := HBX.out.cell 0
    have f1 : w5.cell? ⟨g9, 1, none⟩ = some (.int .i64 xt) := HBX.out.cell 1
    by_cases c1 : xo < o
    · go_wp2_with fail
      go_ret
      exact ⟨ret_bool (by rw [← HX.out]; simp [c1]), D2.out.bel⟩
    · go_wp2_with fail
      go_ret
      exact ⟨ret_bool (by rw [← HX.out]; exact (decide_eq_false (fun h => absurd h.1 (by omega))).symm), D2.out.bel⟩
end Go.Proofs.Ytijpieaanlnibaa
/- Package seg: whether a segment may be. -/
namespace Go.Proofs.Ytijpieaanlnibaa
open Go.RowKit Go.Lib Rcd

def segE (b : Int) (rs : List Rc) : Int := if segB b rs then 0 else 1
theorem segE_no {b : Int} {rs : List Rc} (h : ¬ segB b rs = true) : segE b rs = 1 := by unfold segE; rw [if_neg h]
theorem segE_yes {b : Int} {rs : List Rc} (h : segB b rs = true) : segE b rs = 0 := by unfold segE; rw [if_pos h]
theorem segE_zero {b : Int} {rs : List Rc} (h : segE b rs = 0) : segB b rs = true := by
  unfold segE at h
  split at h
  · assumption
  · cases h

/-- So many of the first ones may stand where they do. -/
def Fol (b : Int) (rs : List Rc) (k : Nat) : Prop := ∀ j (h : j < rs.length), j < k → followB b (rs.take j) rs[j] = true

set_option maxRecDepth 100000 in
set_option maxHeartbeats 8000000 in
/-- seg.Check. -/
theorem SegCheck_is (b : Int) (rs : List Rc) (N : Nat) (A : Option Addr) (c B : Nat) (E : Int) (w : World) (hN : rs.length = N) (hm : N ≤ 9223372036854775807) (hcap : N ≤ c) (hB : B ≤ w.heap.size) (h : RecsAt w B A rs) (hE : segE b rs = E) :
    Calls Try.prog 22 #[.agg #[.int .i64 b, .slice A N c]] w fun e w' => e = .returned (.int .i64 E) ∧ Below w.heap.size w w' := by
  have R0 := Lib.hid (RBox.new w 24 (sarr b A N c))
  obtain ⟨p, hp⟩ : ∃ p, w.heap.size = p := ⟨_, rfl⟩
  obtain ⟨W0, hW⟩ : ∃ W0, w.alloc (.cells (sarr b A N c) 24) = W0 := ⟨_, rfl⟩
  rw [hW, hp] at R0
  unfold sarr at R0 hW
  have HW := Lib.hid hW
  have HP := Lib.hid hp
  have H := Lib.hid (h.mono hB)
  have HE := Lib.hid hE
  have HNN := Lib.hid hN
  clear hW hp h hE hN hB
  have n2 : (N : Int) < 9223372036854775808 := by omega
  by_cases hb : baseB b = true
  · have HBS := Lib.hid hb
    have HI := Lib.hid (fun W => isBase_is b true W hb)
    clear hb
    go_enter Try.func22, Try.ntmps22
    go_upto_region 1 with fail
    rw [HW.out, HP.out]
    clear HW
    have d0 : W0.cell? ⟨p, 0, none⟩ = some (.int .i64 b) := R0.out.cell 0
    have d1 : W0.cell? ⟨p, 1, none⟩ = some (.slice A N c) := R0.out.cell 1
    go_wp2_with (go_at_call 32; refine (HI.out _).mono ?_; rintro e w' ⟨rfl, rfl⟩)
    clear d0 d1
    go_loopw [12] (fun i wr => ∃ k : Nat, k ≤ N ∧ i = .int .i64 (k : Int) ∧ RBox w p #[.int .i64 b, .slice A N c] wr ∧ Fol b rs k) (fun i _ => N - (RowKit.intOf i).toNat)
    case atStart => exact ⟨0, Nat.zero_le _, rfl, R0.out, fun j _ h => absurd h (Nat.not_lt_zero _)⟩
    case round =>
      obtain ⟨k, hk, rfl, hbx, hfol⟩ := hrel
      have HF := Lib.hid hfol
      have R := Lib.hid hbx
      clear hbx hfol R0
      by_cases hlt : k < N
      · have hlr : k < rs.length := by rw [HNN.out]; exact hlt
        obtain ⟨b0, o0, rfl, hb0, hc⟩ := (H.out.below R.out.out.2).some_ (by omega)
        have hr := hc k hlr
        obtain ⟨X, hX⟩ : ∃ X, followB b (rs.take k) rs[k] = X := ⟨_, rfl⟩
        have HFW := Lib.hid (fun W (hb : Below w.heap.size w W) => follow_is b (rs.take k) rs[k] k (some ⟨b0, o0, none⟩) c w.heap.size X W (by rw [List.length_take]; omega) (by omega) hb.size ((H.out.below hb).take k) hX)
        have HX := Lib.hid hX
        clear hX hc
        have HFD : Hid (X = true → Fol b rs (k + 1)) := by
          show _ → _
          intro hx j h hj
          by_cases hjk : j < k
          · exact HF.out j h hjk
          · obtain rfl : j = k := by omega
            exact HX.out.trans hx
        have HNO : Hid (X = false → E = 1) := by
          show _ → _
          intro hx
          rw [← HE.out]
          refine segE_no fun hs => ?_
          have := (seg_iff.1 hs).2 k hlr
          rw [HX.out, hx] at this
          cases this
        clear HF HX
        unfold ragg at HFW
        generalize rs[k] = r at hr HFW
        obtain ⟨o, t, key, bod, q, g⟩ := r
        obtain ⟨c0, c1, c2, c3, c4, c5⟩ := hr
        dsimp only at c0 c1 c2 c3 c4 c5 HFW
        generalize str key = ks at c2 HFW
        generalize str bod = bs at c3 HFW
        have e1 : (k : Int) < (N : Int) := by omega
        have e2 : (k : Int) ≤ (c : Int) := by omega
        have e3 : k ≤ c := by omega
        have hpw : w.heap.size ≤ p := Nat.le_of_eq HP.out
        have hD := Duo.more R.out hpw 44 zcells
        obtain ⟨g9, hg9⟩ : ∃ g9, wr.heap.size = g9 := ⟨_, rfl⟩
        obtain ⟨W4, hW4⟩ : ∃ W4, wr.alloc (.cells zcells 44) = W4 := ⟨_, rfl⟩
        rw [hg9, hW4] at hD
        have HBN := Lib.hid hD.out.2.1
        have D5 := Lib.hid (hD.row2 (rarr o t ks bs q g))
        unfold zcells at hW4
        have HW4 := Lib.hid hW4
        clear hD hW4 hlr R
        unfold rarr at D5 HFW
        go_upto_region 6 with (rw [HW4.out]; refine wpList_store_whole rfl 44 (.tmp 4) (.tmp 16) rfl g9 _ rfl rfl zcells HBN.out info_rec rfl (by simp [Value.oneCell']) ?_; simp only [Act.put])
        clear HW4 HBN c0 c1 c2 c3 c4 c5 hg9
        generalize World.setRow _ _ _ = w5 at D5 ⊢
        have st0 := D5.out
        clear D5
        haveI : Nonempty (In (Duo w p g9 #[.int .i64 b, .slice (some ⟨b0, o0, none⟩) N c] #[.int .i64 o, .int .i64 t, .string ks, .string bs, .int .i64 q, .bool g])) := ⟨⟨_, st0⟩⟩
        have k0 := fun u : In (Duo w p g9 #[.int .i64 b, .slice (some ⟨b0, o0, none⟩) N c] #[.int .i64 o, .int .i64 t, .string ks, .string bs, .int .i64 q, .bool g]) => (show u.w.cell? ⟨p, 0, none⟩ = some (.int .i64 b) from u.h.cell1 0)
        have k1 := fun u : In (Duo w p g9 #[.int .i64 b, .slice (some ⟨b0, o0, none⟩) N c] #[.int .i64 o, .int .i64 t, .string ks, .string bs, .int .i64 q, .bool g]) => (show u.w.cell? ⟨p, 1, none⟩ = some (.slice (some ⟨b0, o0, none⟩) N c) from u.h.cell1 1)
        have kl := fun u : In (Duo w p g9 #[.int .i64 b, .slice (some ⟨b0, o0, none⟩) N c] #[.int .i64 o, .int .i64 t, .string ks, .string bs, .int .i64 q, .bool g]) => u.h.box2.load rfl
        refine region_in (S := Duo w p g9 #[.int .i64 b, .slice (some ⟨b0, o0, none⟩) N c] #[.int .i64 o, .int .i64 t, .string ks, .string bs, .int .i64 q, .bool g]) (by kernel_rfl) (by kernel_rfl) (st0.drewN 1) ?_
        iterate 7 (go_big_quiet_step (fail))
        go_big_quiet_want
        refine quiet_load_in 44 (.tmp 4) rfl g9 0 rfl _ kl ?_
        go_simp
        go_big_quiet_on
        repeat (go_big_quiet_step (first | (go_at_call 33; exact in_call ((HFW.out _ (Duo.bel (In.h _))).mono fun _ _ h => ⟨h.1, Duo.below (In.h _) h.2⟩))))
        refine wpQuiet_nil ?_
        rintro _ ⟨⟨w7, st7⟩, rfl⟩
        have S7 := Lib.hid st7
        clear this st0 st7 k0 k1 kl HFW
        cases X with
        | true =>
          simp only [Bool.not_true, Bool.not_false]; go_wp2_with fail
          go_roundw
          case rel => exact ⟨k + 1, hlt, by go_num, S7.out.box1, HFD.out rfl⟩
          case measure => simp [RowKit.intOf]; omega
        | false =>
          obtain rfl : E = 1 := HNO.out rfl
          simp only [Bool.not_true, Bool.not_false]; go_wp2_with fail
          go_ret
          exact ⟨rfl, S7.out.bel⟩
      · obtain rfl : k = N := by omega
        obtain rfl : E = 0 := by
          rw [← HE.out]
          refine segE_yes (seg_iff.2 ⟨HBS.out, fun j hj => HF.out j hj ?_⟩)
          rw [← HNN.out]; exact hj
        go_wp2_with fail
        go_ret
        exact ⟨rfl, R.out.out.2⟩
  · have hb' : baseB b = false := by simpa using hb
    have HI := Lib.hid (fun W => isBase_is b false W hb')
    obtain rfl : E = 1 := by rw [← HE.out]; exact segE_no fun hs => hb (seg_base hs)
    clear hb hb'
    go_enter Try.func22, Try.ntmps22
    go_upto_region 1 with fail
    rw [HW.out, HP.out]
    clear HW
    have d0 : W0.cell? ⟨p, 0, none⟩ = some (.int .i64 b) := R0.out.cell 0
    go_wp2_with (go_at_call 32; refine (HI.out _).mono ?_; rintro e w' ⟨rfl, rfl⟩)
    go_ret
    exact ⟨rfl, R0.out.out.2⟩
end Go.Proofs.Ytijpieaanlnibaa
/- A record held against itself. -/
namespace Go.Proofs.Ytijpieaanlnibaa
open Go.RowKit Go.Lib Rcd

theorem neq_rec (o t : Int) (k b : ByteArray) (q : Int) (g : Bool) (w : World) : (binOp .neq 44 (.agg (rarr o t k b q g)) (.agg (rarr o t k b q g))).run Try.prog w = .ok (.bool false) w := by
  unfold rarr
  rw [run_neq_struct]
  go_simp
theorem eql_rec (o t : Int) (k b : ByteArray) (q : Int) (g : Bool) (w : World) : (binOp .eql 44 (.agg (rarr o t k b q g)) (.agg (rarr o t k b q g))).run Try.prog w = .ok (.bool true) w := by
  unfold rarr
  rw [run_eql_struct]
  go_simp
end Go.Proofs.Ytijpieaanlnibaa
/- Records and segments of the call's own, while other memory is written. -/
namespace Go.Proofs.Ytijpieaanlnibaa
open Go.RowKit Go.Lib Rcd

theorem own_mono {w : World} {B B' e size n : Nat} {v : Value} {xs : List Value} (h : w.ownsRow B' e size v n xs) (hB : B ≤ B') : w.ownsRow B e size v n xs :=
  ⟨h.1, h.2.elim .inl (fun ⟨g, cap, cur, hv, hbg, rest⟩ => .inr ⟨g, cap, cur, hv, Nat.le_trans hB hbg, rest⟩)⟩
/-- A cell below the row is written. -/
theorem own_far {w : World} {B e size n : Nat} {v : Value} {xs : List Value} (h : w.ownsRow B e size v n xs) (p : Addr) (hp : p.block < B) (u : Value) : (w.setCell p u).ownsRow B e size v n xs :=
  ⟨h.1, h.2.elim .inl (fun ⟨g, cap, cur, hv, hbg, hg, rest⟩ => .inr ⟨g, cap, cur, hv, hbg, (Below.heap_setCell w p u g (by omega)).trans hg, rest⟩)⟩
theorem own_row {w : World} {B e size n : Nat} {v : Value} {xs : List Value} (h : w.ownsRow B e size v n xs) (p : Nat) (hp : p < B) (us : Array Value) : (w.setRow p us).ownsRow B e size v n xs :=
  ⟨h.1, h.2.elim .inl (fun ⟨g, cap, cur, hv, hbg, hg, rest⟩ => .inr ⟨g, cap, cur, hv, hbg, (setRow_other w p g us (by omega)).trans hg, rest⟩)⟩
/-- A block that is not the row's stays when the row grows. -/
theorem blk_grown {W W' : World} {B e size n g : Nat} {v : Value} {xs : List Value} {cs : Array Value} {o : Obj} (k : Blk W g cs) (hown : W.ownsRow B e size v n xs) (hg : g < B) (hgrow : (W.alloc o).grownBy W' v.ownBlock) : Blk W' g cs := by
  have hl := k.lt
  obtain ⟨T, k⟩ := k
  refine ⟨T, (hgrow.block g (by simp; omega) (fun e => ?_)).trans ((Lib.alloc_old W _ _ hl).trans k)⟩
  have := (hown.lt g e.symm).1
  omega
theorem recs_own {w : World} {B e c : Nat} {A : Option Addr} {l : List Rc} (h : w.ownsRow B e 6 (.slice A l.length c) l.length (flat l)) : RecsAt w w.heap.size A l := .of_own h
/-- A record read into the cells of a new block. -/
theorem all_next {rs : List Rc} {k : Nat} (h : k < rs.length) : (allL (rs.take (k + 1))).length = (allL (rs.take k)).length + (recL rs[k]).length := by
  rw [List.take_succ_eq_append_getElem h, all_snoc, List.length_append]
theorem seg_size {b : Int} {rs : List Rc} (h : segB b rs = true) : (allL rs).length ≤ 420000 := by
  have h1 := all_size (seg_may h)
  have h2 := seg_len h
  omega
end Go.Proofs.Ytijpieaanlnibaa
/- Three blocks of the call's own. -/
namespace Go.Proofs.Ytijpieaanlnibaa
open Go.RowKit Go.Lib Rcd

/-- Three blocks of the call's own, one behind the other. -/
@[irreducible] def Tri (w : World) (p : Nat) (cs ds es : Array Value) (W : World) : Prop := Blk W p cs ∧ Blk W (p + 1) ds ∧ Blk W (p + 2) es ∧ Below w.heap.size w W ∧ w.heap.size ≤ p
section
variable {w W W' : World} {p : Nat} {cs ds es : Array Value}
theorem Tri.mk (k : Blk W p cs ∧ Blk W (p + 1) ds ∧ Blk W (p + 2) es ∧ Below w.heap.size w W ∧ w.heap.size ≤ p) : Tri w p cs ds es W := by unfold Tri; exact k
theorem Tri.out (k : Tri w p cs ds es W) : Blk W p cs ∧ Blk W (p + 1) ds ∧ Blk W (p + 2) es ∧ Below w.heap.size w W ∧ w.heap.size ≤ p := by unfold Tri at k; exact k
theorem Tri.below (k : Tri w p cs ds es W) (hb : Below W.heap.size W W') : Tri w p cs ds es W' := by
  obtain ⟨h1, h2, h3, h4, h5⟩ := k.out
  exact .mk ⟨h1.below hb, h2.below hb, h3.below hb, h4.trans (hb.mono h4.size), h5⟩
theorem Tri.drewN (k : Tri w p cs ds es W) (n : Nat) : Tri w p cs ds es (W.drewN n) := k.below (below_drewN (Below.refl _ _) n)
theorem Tri.cell1 (k : Tri w p cs ds es W) (i : Nat) : W.cell? ⟨p, i, none⟩ = cs[i]? := k.out.1.cell i
theorem Tri.cell2 (k : Tri w p cs ds es W) (i : Nat) : W.cell? ⟨p + 1, i, none⟩ = ds[i]? := k.out.2.1.cell i
theorem Tri.bel (k : Tri w p cs ds es W) : Below w.heap.size w W := k.out.2.2.2.1
theorem Tri.lt (k : Tri w p cs ds es W) : p + 3 ≤ W.heap.size := k.out.2.2.1.lt
theorem Tri.new (w : World) (T T' T'' : TypeId) (cs ds es : Array Value) : Tri w w.heap.size cs ds es (((w.alloc (.cells cs T)).alloc (.cells ds T')).alloc (.cells es T'')) := by
  have h0 : (w.alloc (.cells cs T)).heap.size = w.heap.size + 1 := by simp
  have h1 := Blk.new (w.alloc (.cells cs T)) T' ds
  rw [h0] at h1
  have h2 := Blk.new ((w.alloc (.cells cs T)).alloc (.cells ds T')) T'' es
  have h3 : ((w.alloc (.cells cs T)).alloc (.cells ds T')).heap.size = w.heap.size + 2 := by simp
  rw [h3] at h2
  have b1 := (Below.refl w.heap.size w).alloc (Nat.le_refl _) (.cells cs T)
  exact .mk ⟨((Blk.new w T cs).alloc _).alloc _, h1.alloc _, h2, (b1.alloc b1.size _).alloc (b1.alloc b1.size _).size _, Nat.le_refl _⟩
theorem Tri.row3 (k : Tri w p cs ds es W) (xs : Array Value) : Tri w p cs ds xs (W.setRow (p + 2) xs) := by
  obtain ⟨h1, h2, h3, h4, h5⟩ := k.out
  exact .mk ⟨setRow_blk h1 (by omega) xs, setRow_blk h2 (by omega) xs, h3.row xs, below_row h4 (by omega) xs, h5⟩
theorem Tri.grown {B e size n : Nat} {v : Value} {vs : List Value} {W'' : World} (k : Tri w p cs ds es W) (hown : W.ownsRow B e size v n vs) (hB : p + 3 ≤ B) (hgrow : W.grownBy W'' v.ownBlock) : Tri w p cs ds es W'' := by
  obtain ⟨h1, h2, h3, h4, h5⟩ := k.out
  have key : ∀ g cs, g < p + 3 → Blk W g cs → Blk W'' g cs := fun g cs hg h => by
    have hl := h.lt
    obtain ⟨T, h⟩ := h
    refine ⟨T, (hgrow.block g hl (fun e => ?_)).trans h⟩
    have := (hown.lt g e.symm).1
    omega
  exact .mk ⟨key _ _ (by omega) h1, key _ _ (by omega) h2, key _ _ (by omega) h3, h4.trans (below_grown h4.size (own_mono hown (by omega)) hgrow), h5⟩
end

end Go.Proofs.Ytijpieaanlnibaa
/- Marks in memory. -/
namespace Go.Proofs.Ytijpieaanlnibaa.Mkd
open Go.RowKit Go.Lib Rcd

theorem Below.step {a w w' : World} (h : Below a.heap.size a w) (hb : Below w.heap.size w w') : Below a.heap.size a w' := h.trans (hb.mono h.size)
/-- The cells of a mark. -/
def mcells (m : Mk) : List Value := [.int .i64 m.o, .int .i64 m.a]
def marr (o a : Int) : Array Value := #[.int .i64 o, .int .i64 a]
def magg (m : Mk) : Value := .agg (marr m.o m.a)
def mzarr : Array Value := #[.int .i64 0, .int .i64 0]
/-- One mark in memory. -/
structure MAt (w : World) (b o : Nat) (s : Mk) : Prop where
  c0 : w.cell? ⟨b, o, none⟩ = some (.int .i64 s.o)
  c1 : w.cell? ⟨b, o + 1, none⟩ = some (.int .i64 s.a)
/-- The slice at A holds the marks l, in a block below B. -/
def MarksAt (w : World) (B : Nat) (A : Option Addr) (l : List Mk) : Prop :=
  l = [] ∨ ∃ b o, A = some ⟨b, o, none⟩ ∧ b < B ∧ ∀ j (h : j < l.length), MAt w b (o + j * 2) l[j]
section
variable {w w' : World} {B B' : Nat} {A : Option Addr} {l : List Mk}
theorem MAt.keep {b o : Nat} {s : Mk} (h : MAt w b o s) (hk : ∀ i, w'.cell? ⟨b, i, none⟩ = w.cell? ⟨b, i, none⟩) : MAt w' b o s :=
  ⟨(hk _).trans h.c0, (hk _).trans h.c1⟩
theorem MarksAt.none_ : MarksAt w B A [] := .inl rfl
theorem MarksAt.some_ (h : MarksAt w B A l) (hl : 0 < l.length) : ∃ b o, A = some ⟨b, o, none⟩ ∧ b < B ∧ ∀ j (h : j < l.length), MAt w b (o + j * 2) l[j] := by
  rcases h with rfl | h
  · simp at hl
  · exact h
theorem MarksAt.keep (h : MarksAt w B A l) (hk : ∀ p : Addr, p.block < B → w'.cell? p = w.cell? p) : MarksAt w' B A l := by
  rcases h with h | ⟨b, o, h1, h2, h3⟩
  · exact .inl h
  · exact .inr ⟨b, o, h1, h2, fun j hj => (h3 j hj).keep fun i => hk ⟨b, i, none⟩ h2⟩
theorem MarksAt.mono (h : MarksAt w B A l) (hB : B ≤ B') : MarksAt w B' A l := by
  rcases h with h | ⟨b, o, h1, h2, h3⟩
  · exact .inl h
  · exact .inr ⟨b, o, h1, Nat.lt_of_lt_of_le h2 hB, h3⟩
theorem MarksAt.below (h : MarksAt w B A l) (hb : Below B w w') : MarksAt w' B A l := h.keep fun _ hp => hb.cell hp
theorem MarksAt.on (h : MarksAt w w.heap.size A l) (hb : Below w.heap.size w w') : MarksAt w' w'.heap.size A l := (h.below hb).mono hb.size
theorem MarksAt.drewN (h : MarksAt w B A l) (n : Nat) : MarksAt (w.drewN n) B A l := h.keep fun _ _ => rfl
theorem MarksAt.alloc (h : MarksAt w B A l) (hB : B ≤ w.heap.size) (o : Obj) : MarksAt (w.alloc o) B A l := h.keep fun p hp => World.cell?_alloc_lt w o p (by omega)
theorem MarksAt.take (h : MarksAt w B A l) (k : Nat) : MarksAt w B A (l.take k) := by
  rcases h with rfl | ⟨b, o, h1, h2, h3⟩
  · exact .inl (by simp)
  · refine .inr ⟨b, o, h1, h2, fun j hj => ?_⟩
    have hl : j < l.length := by rw [List.length_take] at hj; omega
    rw [List.getElem_take]
    exact h3 j hl
theorem MarksAt.row (h : MarksAt w B A l) {g : Nat} (hg : B ≤ g) (ds : Array Value) : MarksAt (w.setRow g ds) B A l :=
  h.keep fun p hp => World.cell?_of_block (setRow_other w g p.block ds (by omega))
end
def mflat (l : List Mk) : List Value := l.flatMap mcells
theorem mflat_cons (s : Mk) (l : List Mk) : mflat (s :: l) = mcells s ++ mflat l := by unfold mflat; rw [List.flatMap_cons]
theorem mflat_len (l : List Mk) : (mflat l).length = l.length * 2 := by
  induction l with
  | nil => rfl
  | cons p t ih => rw [mflat_cons, List.length_append, ih]; show 2 + _ = (t.length + 1) * 2; omega
theorem mflat_snoc (l : List Mk) (p : Mk) : mflat (l ++ [p]) = mflat l ++ mcells p := by unfold mflat; rw [List.flatMap_append]; simp
theorem mflat_at (l : List Mk) (j i : Nat) (hj : j < l.length) (hi : i < 2) : (mflat l)[j * 2 + i]? = (mcells l[j])[i]? := by
  induction l generalizing j with
  | nil => simp at hj
  | cons p t ih =>
    rw [mflat_cons]
    cases j with
    | zero =>
      rw [List.getElem?_append_left (by show _ < 2; omega)]
      simp
    | succ m =>
      rw [List.getElem?_append_right (by show 2 ≤ _; omega)]
      have : (m + 1) * 2 + i - (mcells p).length = m * 2 + i := by show _ - 2 = _; omega
      rw [this]
      exact ih m (by simpa using hj)
theorem mone_cells (p : Mk) : ∀ u ∈ mcells p, u.oneCell' = true := by
  have h : (mcells p).all (fun u => u.oneCell') = true := rfl
  exact List.all_eq_true.1 h
theorem mflat_one : ∀ (l : List Mk), ∀ u ∈ mflat l, u.oneCell' = true
  | [], u, h => by simp [mflat] at h
  | s :: l, u, h => by
    rw [mflat_cons] at h
    rcases List.mem_append.1 h with h | h
    · exact mone_cells s u h
    · exact mflat_one l u h
theorem MarksAt.of_cells {w : World} {B g : Nat} {l : List Mk} (hg : g < B) (key : ∀ j u, (mflat l)[j]? = some u → w.cell? ⟨g, j, none⟩ = some u) : MarksAt w B (some ⟨g, 0, none⟩) l := by
  refine .inr ⟨g, 0, rfl, hg, fun j hj => ?_⟩
  have hz : ∀ i u, i < 2 → (mcells l[j])[i]? = some u → w.cell? ⟨g, 0 + j * 2 + i, none⟩ = some u := fun i u hi hu => by
    rw [Nat.zero_add]
    exact key (j * 2 + i) u (by rw [mflat_at l j i hj hi]; exact hu)
  exact ⟨hz 0 _ (by omega) rfl, hz 1 _ (by omega) rfl⟩
/-- A row of marks of the call's own. -/
theorem MarksAt.of_own {w : World} {base e c : Nat} {A : Option Addr} {l : List Mk} (h : w.ownsRow base e 2 (.slice A l.length c) l.length (mflat l)) : MarksAt w w.heap.size A l := by
  rcases h.2 with ⟨hv, hn⟩ | ⟨g, cap, cur, hv, _, hg, hle, _, hsz, htk⟩
  · exact .inl (List.eq_nil_of_length_eq_zero hn)
  · injection hv with hA _ _
    subst hA
    have key := h.cells (g := g) rfl
    refine .of_cells (Array.getElem?_eq_some_iff.1 hg).1 fun j u hu => ?_
    have := key j u hu
    rwa [add_new] at this
theorem MarksAt.of_ownN {w : World} {base e c n : Nat} {A : Option Addr} {l : List Mk} (hn : l.length = n) (h : w.ownsRow base e 2 (.slice A n c) n (mflat l)) : MarksAt w w.heap.size A l := by
  subst hn
  exact .of_own h
theorem mown_slice {w : World} {base e : Nat} {v : Value} {l : List Mk} (h : w.ownsRow base e 2 v l.length (mflat l)) : ∃ A c, v = .slice A l.length c := by
  rcases h.2 with ⟨hv, hn⟩ | ⟨g, cap, cur, hv, _⟩
  · exact ⟨none, 0, by rw [hv, hn]⟩
  · exact ⟨_, cap, hv⟩
theorem row_slice {w : World} {base e size n : Nat} {v : Value} {xs : List Value} (h : w.ownsRow base e size v n xs) : ∃ A c, v = .slice A n c := by
  rcases h.2 with ⟨hv, hn⟩ | ⟨g, cap, cur, hv, _⟩
  · exact ⟨none, 0, by rw [hv, hn]⟩
  · exact ⟨_, cap, hv⟩
theorem row_cap {w : World} {B e size n c : Nat} {A : Option Addr} {xs : List Value} (h : w.ownsRow B e size (.slice A n c) n xs) : n ≤ c := by
  rcases h.2 with ⟨hv, hn⟩ | ⟨g, cap, cur, hv, _, _, hle, _⟩
  · omega
  · injection hv with _ _ hc
    omega
/-- A block that is not the row's stays when the row grows. -/
theorem blk_grown_ne {W W' : World} {g : Nat} {v : Value} {cs : Array Value} {o : Obj} (k : Blk W g cs) (hne : ¬ some g = v.ownBlock) (hgrow : (W.alloc o).grownBy W' v.ownBlock) : Blk W' g cs := by
  have hl := k.lt
  obtain ⟨T, k⟩ := k
  exact ⟨T, (hgrow.block g (by simp; omega) (fun e => hne (by first | exact e | exact e.symm))).trans ((Lib.alloc_old W _ _ hl).trans k)⟩
theorem mown_cap {w : World} {B e c : Nat} {A : Option Addr} {l : List Mk} (h : w.ownsRow B e 2 (.slice A l.length c) l.length (mflat l)) : l.length ≤ c := by
  rcases h.2 with ⟨hv, hn⟩ | ⟨g, cap, cur, hv, _, _, hle, _⟩
  · omega
  · injection hv with _ _ hc
    omega
/-- Marks in a row of the call's own. -/
def GivesMarks (l : List Mk) (w : World) (e : Ending) (w' : World) : Prop := ∃ A c, e = .returned (.slice A l.length c) ∧ w'.ownsRow w.heap.size 42 2 (.slice A l.length c) l.length (mflat l) ∧ Below w.heap.size w w'
theorem info_mmore : (Try.prog.info? 42).map (fun i => (i.zero, i.size, i.bytes)) = some (some (.agg #[.int .i64 0, .int .i64 0]), 2, 16) := by kernel_rfl
theorem info_mark : (Try.prog.info? 42).map (·.size) = some 2 := by kernel_rfl
section
variable {W : World} {g : Nat} {cs : Array Value}
theorem load_mblk (h : Blk W g cs) (h9 : cs.size = 2) : (loadVar 42 ⟨g, 0, none⟩).run Try.prog W = .ok (.agg cs) W :=
  run_loadVar_mid W g 0 42 cs.toList _ (fun j v hv => by rw [Nat.zero_add, h.cell j]; rw [← hv]; simp) Try.underlying42 rfl (by rw [info_mark]; simp [h9])
theorem load_mat {o : Nat} {s : Mk} (h : MAt W g o s) : (loadVar 42 ⟨g, o, none⟩).run Try.prog W = .ok (magg s) W :=
  run_loadVar_mid W g o 42 (mcells s) _ (fun j v hv => by
    match j, hv with
    | 0, hv => rw [← hv]; exact h.c0
    | 1, hv => rw [← hv]; exact h.c1) Try.underlying42 rfl info_mark
end
end Go.Proofs.Ytijpieaanlnibaa.Mkd
/- Package index: where the last mark stands that is not above an offset. -/
namespace Go.Proofs.Ytijpieaanlnibaa.Mkd
open Go.RowKit Go.Lib Rcd

/-- From a place on all marks are above n, ahead of it none is. -/
def Above (n : Int) (l : List Mk) (a : Nat) : Prop := a ≤ l.length ∧ (∀ i (h : i < l.length), i < a → l[i].o ≤ n) ∧ (∀ i (h : i < l.length), a ≤ i → n < l[i].o)
/-- The place of the last one not above n, or the first. -/
def placeN (a : Nat) : Nat := a - 1
theorem risen_lt {l : List Mk} (h : Risen l) (i j : Nat) (hij : i < j) (hj : j < l.length) : (l[i]'(by omega)).o < l[j].o := by
  induction j with
  | zero => omega
  | succ j ih =>
    have h1 := h (j + 1) hj (by omega)
    unfold riseB at h1
    have h2 := (of_decide_eq_true h1).1
    simp only [Nat.add_sub_cancel] at h2
    by_cases c : i = j
    · subst c; exact h2
    · have := ih (by omega) (by omega)
      omega
theorem above_of (n : Int) {l : List Mk} (h : Risen l) : ∃ a, Above n l a := by
  have key : ∀ k, k ≤ l.length → (∃ a, a ≤ k ∧ (∀ i (h : i < l.length), i < a → l[i].o ≤ n) ∧ (∀ i (h : i < l.length), a ≤ i → i < k → n < l[i].o)) := by
    intro k
    induction k with
    | zero => intro _; exact ⟨0, Nat.le_refl _, fun i _ h => absurd h (by omega), fun i _ _ h => absurd h (by omega)⟩
    | succ k ih =>
      intro hk
      obtain ⟨a, h1, h2, h3⟩ := ih (by omega)
      by_cases c : l[k].o ≤ n
      · refine ⟨k + 1, Nat.le_refl _, fun i hi hik => ?_, fun i _ h4 h5 => absurd h5 (by omega)⟩
        by_cases e : i = k
        · subst e; exact c
        · have := risen_lt h i k (by omega) (by omega)
          omega
      · refine ⟨a, by omega, h2, fun i hi hai hik => ?_⟩
        by_cases e : i = k
        · subst e; omega
        · exact h3 i hi hai (by omega)
  obtain ⟨a, h1, h2, h3⟩ := key l.length (Nat.le_refl _)
  exact ⟨a, h1, h2, fun i hi hai => h3 i hi hai hi⟩
/-- The page's way of saying it: the same place. -/
theorem above_from {n : Int} {l : List Mk} {a : Nat} (h : Above n l a) (h0 : 0 < l.length) : fromZ l n = ((placeN a : Nat) : Int) := by
  obtain ⟨h1, h2, h3⟩ := h
  obtain ⟨m, e1, e2, e3, e4⟩ := lastF_spec l n l.length h0
  have hgd : ∀ j (hj : j < l.length), (l.getD j mzero) = l[j] := fun j hj => by rw [List.getD_eq_getElem?_getD, List.getElem?_eq_getElem hj, Option.getD_some]
  unfold fromZ
  rw [e1]
  unfold placeN
  congr 1
  rcases Nat.lt_or_ge m (a - 1) with c | c
  · have := e4 (a - 1) c (by omega)
    rw [hgd (a - 1) (by omega)] at this
    have := h2 (a - 1) (by omega) (by omega)
    omega
  · rcases e3 with rfl | e3
    · omega
    · rw [hgd m e2] at e3
      rcases Nat.lt_or_ge m a with d | d
      · omega
      · have := h3 m e2 d
        omega

set_option maxRecDepth 100000 in
set_option maxHeartbeats 4000000 in
/-- Is a mark above n? -/
theorem isAbove_is (n : Int) (l : List Mk) (N : Nat) (A : Option Addr) (c B g k : Nat) (X : Bool) (w : World) (hN : l.length = N) (hm : N ≤ 9223372036854775807) (h : MarksAt w B A l) (hg : w.cell? ⟨g, 0, none⟩ = some (.slice A N c)) (hg2 : w.cell? ⟨g + 1, 0, none⟩ = some (.int .i64 n)) (hk : k < l.length) (hX : decide (n < l[k].o) = X) :
    Calls Try.prog 38 #[.int .i64 (k : Int), .pointer (some ⟨g, 0, none⟩), .pointer (some ⟨g + 1, 0, none⟩)] w fun e w' => e = .returned (.bool X) ∧ Below w.heap.size w w' := by
  obtain ⟨b, o, rfl, _, hc⟩ := h.some_ (by omega)
  have h1 := hc k hk
  have hkI : (k : Int) < (N : Int) := by omega
  clear hc h
  generalize l[k] = x at h1 hX
  obtain ⟨xo, xa⟩ := x
  obtain ⟨c0, c1⟩ := h1
  dsimp only at c0 c1 hX
  have HX := Lib.hid hX
  clear hX hk hN
  go_enter Try.func38, Try.ntmps38
  go_wp2_with fail
  go_quiet (fail)
  go_wp2_with fail
  go_ret
  exact ⟨ret_bool HX.out, below_drewN (Below.refl _ _) _⟩
end Go.Proofs.Ytijpieaanlnibaa.Mkd
/- Package seg: a record of a segment's own. -/
namespace Go.Proofs.Ytijpieaanlnibaa
open Go.RowKit Go.Lib Rcd

set_option maxHeartbeats 1000000 in
theorem CloneS_is (s : ByteArray) (w : World) (h : s.size ≤ 281474976710656) :
    Calls Try.prog 47 #[.string s] w fun e w' => e = .returned (.string s) ∧ Below w.heap.size w w' := by
  have HC := Lib.hid (fun W => Try.stringslite_Clone s W h)
  go_enter Try.func47, Try.ntmps47
  go_wp2_with fail
  refine (HC.out _).mono ?_
  rintro e w1 ⟨rfl, hb⟩
  go_wp2_with fail
  go_ret
  exact ⟨rfl, hb⟩

/-- A record that is no longer than one may be. -/
def Short (r : Rc) : Prop := r.k.length ≤ 1000000 ∧ r.b.length ≤ 1000000
theorem short_of {r : Rc} (h : mayB r = true) : Short r := by
  obtain ⟨_, _, _, _, h5, h6, _⟩ := (may_iff r).1 h
  exact ⟨by omega, by omega⟩

set_option maxRecDepth 100000 in
set_option maxHeartbeats 4000000 in
/-- seg.copyOf. -/
theorem copyOf_is (r : Rc) (w : World) (hl : Short r) :
    Calls Try.prog 46 #[ragg r] w fun e w' => e = .returned (ragg r) ∧ Below w.heap.size w w' := by
  obtain ⟨o, t, k, bd, q, g⟩ := r
  have hD := Duo.new w 44 44 (rarr o t (str k) (str bd) q g) zcells
  have HC := Lib.hid (fun W => CloneS_is (str k) W (by rw [str_size]; exact Nat.le_trans hl.1 (by omega)))
  have HE := Lib.hid (fun W => CloneS_is (str bd) W (by rw [str_size]; exact Nat.le_trans hl.2 (by omega)))
  unfold ragg
  dsimp only
  clear hl
  generalize str k = ks at HC hD ⊢
  generalize str bd = bs at HE hD ⊢
  obtain ⟨p, hp⟩ : ∃ p, w.heap.size = p := ⟨_, rfl⟩
  obtain ⟨W0, hW⟩ : ∃ W0, (w.alloc (.cells (rarr o t ks bs q g) 44)).alloc (.cells zcells 44) = W0 := ⟨_, rfl⟩
  rw [hW, hp] at hD
  unfold rarr at hD hW ⊢
  have D0 := Lib.hid hD
  unfold zcells at hW
  have HW := Lib.hid hW
  have HP := Lib.hid hp
  clear hD hW hp
  go_enter Try.func46, Try.ntmps46
  go_upto_region 1 with fail
  rw [HW.out, HP.out]
  clear HW HP
  have d2 : W0.cell? ⟨p, 2, none⟩ = some (.string ks) := D0.out.cell1 2
  go_wp2_with fail
  refine (HC.out _).mono ?_
  rintro e w1 ⟨rfl, hb1⟩
  have D1 := Lib.hid (D0.out.below hb1)
  have D2 : Hid (Duo w p (p + 1) #[.int .i64 o, .int .i64 t, .string ks, .string bs, .int .i64 q, .bool g] zcells (w1.setCell ⟨p, 2, none⟩ (.string ks))) := D1.out.put1 2 (.string ks)
  clear d2 D0 hb1 HC
  have c2 : w1.cell? ⟨p, 2, none⟩ = some (.string ks) := D1.out.cell1 2
  have f2 := D1.out.out.1.frozen 2
  go_upto_region 2 with fail
  clear D1 c2 f2
  generalize w1.setCell _ _ = W2 at D2 ⊢
  have d3 : W2.cell? ⟨p, 3, none⟩ = some (.string bs) := D2.out.cell1 3
  go_wp2_with fail
  refine (HE.out _).mono ?_
  rintro e w3 ⟨rfl, hb3⟩
  have D3 := Lib.hid (D2.out.below hb3)
  have D4 : Hid (Duo w p (p + 1) #[.int .i64 o, .int .i64 t, .string ks, .string bs, .int .i64 q, .bool g] zcells (w3.setCell ⟨p, 3, none⟩ (.string bs))) := D3.out.put1 3 (.string bs)
  clear d3 D2 hb3 HE
  have c3 : w3.cell? ⟨p, 3, none⟩ = some (.string bs) := D3.out.cell1 3
  have f3 := D3.out.out.1.frozen 3
  go_upto_region 3 with fail
  clear D3 c3 f3
  generalize w3.setCell _ _ = W4 at D4 ⊢
  have hld := D4.out.box1.load rfl
  have D5 := Lib.hid (D4.out.row2 #[.int .i64 o, .int .i64 t, .string ks, .string bs, .int .i64 q, .bool g])
  have HB := Lib.hid D4.out.out.2.1
  clear D4
  go_wp2_with (first | (refine wpList_load_any (by rfl) 44 (.tmp 1) rfl p 0 rfl _ hld ?_; simp only [Act.put]) | (refine wpList_store_whole rfl 44 (.tmp 2) (.tmp 11) rfl (p + 1) _ rfl rfl _ HB.out info_rec rfl (by simp [Value.oneCell']) ?_; simp only [Act.put]))
  refine bodyPost_ret (results_cell Try.results46 rfl (D5.out.box2.load rfl)) rfl ⟨rfl, D5.out.bel⟩

end Go.Proofs.Ytijpieaanlnibaa
/- A region that draws its order, walked by hand under a word S that holds behind every operation: one operation at a time. No program. -/
namespace Go.Proofs.Ytijpieaanlnibaa
open Go.RowKit

section
variable {P : Program} {ops : Array Oper} {Q : Exit → Act → World → Prop} {S : World → Prop}
/-- May number i be taken first? -/
def takeB (ops : Array Oper) (listed : Array Bool) (i : Nat) : Bool := Region.noSelect ops && (Region.free .any ops listed i && (Region.ready .any ops listed).contains i)
/-- What yields one value in every world that meets S is taken first. -/
theorem take_op {fuel : Nat} {listed : Array Bool} {a : Act} {w : World} (i d : Nat) {oi : Oper} (v : Value) (hd : oi.dst = some d) (hi : ops[i]? = some oi) (hc : takeB ops listed i = true) (hQ : ∀ c a w, Q (.panic c) (a.put oi.dst v) w → Q (.panic c) a w)
    (hw : Region.wanted oi (yielded ops a.tmps) = true) (hS : S w) (hv : ∀ w, S w → (execOp a.eval oi).run P w = .ok (.value v) w)
    (h : wpAnyH P .any ops Q S fuel (listed.setIfInBounds i true) (a.put (some d) v) w) : wpAnyH P .any ops Q S (fuel + 1) listed a w := by
  rw [← hd] at h
  unfold takeB at hc
  simp only [Bool.and_eq_true] at hc
  exact wpAnyH_take hi hc.1 hc.2.1 hc.2.2 hQ (.inl ⟨hw, hv⟩) hS h
/-- A variable read whole is taken first. -/
theorem take_load {fuel : Nat} {listed : Array Bool} {a : Act} {w : World} (i d : Nat) {oi : Oper} (ty : TypeId) (x : Operand) (b off : Nat) (V : Value) (hd : oi.dst = some d) (hi : ops[i]? = some oi) (hc : takeB ops listed i = true) (hQ : ∀ c a w, Q (.panic c) (a.put oi.dst V) w → Q (.panic c) a w)
    (hw : Region.wanted oi (yielded ops a.tmps) = true) (hS : S w) (ho : oi.op = .load ty x) (hx : a.eval x = .pointer (some ⟨b, off, none⟩)) (hv : ∀ w, S w → (loadVar ty ⟨b, off, none⟩).run P w = .ok V w)
    (h : wpAnyH P .any ops Q S fuel (listed.setIfInBounds i true) (a.put (some d) V) w) : wpAnyH P .any ops Q S (fuel + 1) listed a w :=
  take_op i d V hd hi hc hQ hw hS (fun w' hS' => by
    unfold execOp
    simp only [ho, hx, Instr.loadAt, Instr.sureAddr, Sem.run_bind, Sem.run_pure, Result.andThen_ok, hv w' hS']) h
/-- The one operation that may come up. -/
theorem only_op {fuel : Nat} {listed : Array Bool} {a : Act} {w : World} (i : Nat) {oi : Oper} (hi : ops[i]? = some oi) (hr : Region.ready .any ops listed = [i]) (hw : Region.wanted oi (yielded ops a.tmps) = true)
    (h : Oper.wp P oi a w (fun a' w' => S w' ∧ wpAnyH P .any ops Q S fuel (listed.setIfInBounds i true) a' w') Q) : wpAnyH P .any ops Q S (fuel + 1) listed a w := by
  refine wpAnyH_all (rs := [i]) hr (by simp) fun j hj => ?_
  rw [List.mem_singleton] at hj
  subst hj
  exact wpOp_step hi (fun K' hK => by
    rw [if_pos hw]
    exact Oper.wp_mono (fun a' w' h' => hK a' w' h') h)
/-- The two operations that may come up. -/
theorem two_ops {fuel : Nat} {listed : Array Bool} {a : Act} {w : World} (i j : Nat) {oi oj : Oper} (hi : ops[i]? = some oi) (hj : ops[j]? = some oj) (hr : Region.ready .any ops listed = [i, j]) (hw : Region.wanted oi (yielded ops a.tmps) = true) (hw2 : Region.wanted oj (yielded ops a.tmps) = true)
    (h : Oper.wp P oi a w (fun a' w' => S w' ∧ wpAnyH P .any ops Q S fuel (listed.setIfInBounds i true) a' w') Q) (h2 : Oper.wp P oj a w (fun a' w' => S w' ∧ wpAnyH P .any ops Q S fuel (listed.setIfInBounds j true) a' w') Q) : wpAnyH P .any ops Q S (fuel + 1) listed a w := by
  refine wpAnyH_all (rs := [i, j]) hr (by simp) fun k hk => ?_
  rcases List.mem_cons.1 hk with rfl | hk
  · exact wpOp_step hi (fun K' hK => by
      rw [if_pos hw]
      exact Oper.wp_mono (fun a' w' h' => hK a' w' h') h)
  · rw [List.mem_singleton] at hk
    subst hk
    exact wpOp_step hj (fun K' hK => by
      rw [if_pos hw2]
      exact Oper.wp_mono (fun a' w' h' => hK a' w' h') h2)
/-- A call that comes up, whatever it hands back. -/
theorem wp_call_ex {o : Oper} {a : Act} {w : World} {K : Act → World → Prop} (d : Nat) (f : FuncId) (vs : Array Value) (R : Ending → World → Prop) (hd : o.dst = some d) (hx : (execOp a.eval o).run P w = .ok (.enter f vs) w)
    (hc : Calls P f vs w R) (h : ∀ e w', R e w' → ∃ v, e = .returned v ∧ K (a.put (some d) v) w') : Oper.wp P o a w K Q := by
  unfold Oper.wp
  rw [← hd] at h
  rw [hx]
  exact hc.mono fun e w' hR => by
    obtain ⟨v, rfl, hk⟩ := h e w' hR
    exact hk
/-- A call that comes up. -/
theorem wp_call {o : Oper} {a : Act} {w : World} {K : Act → World → Prop} (d : Nat) (f : FuncId) (vs : Array Value) (v : Value) (R : World → Prop) (hd : o.dst = some d) (hx : (execOp a.eval o).run P w = .ok (.enter f vs) w)
    (hc : Calls P f vs w fun e w' => e = .returned v ∧ R w') (h : ∀ w', R w' → K (a.put (some d) v) w') : Oper.wp P o a w K Q := by
  unfold Oper.wp
  rw [← hd] at h
  rw [hx]
  exact hc.mono fun e w' ⟨he, hR⟩ => by subst he; exact h w' hR
/-- A value that is made. -/
theorem wp_made {o : Oper} {a : Act} {w w' : World} {K : Act → World → Prop} (d : Nat) (v : Value) (hd : o.dst = some d) (hx : (execOp a.eval o).run P w = .ok (.value v) w') (h : K (a.put (some d) v) w') : Oper.wp P o a w K Q := by
  unfold Oper.wp
  rw [← hd] at h
  rw [hx]
  exact h
end
end Go.Proofs.Ytijpieaanlnibaa
/- A region walked by hand under a word S: behind an operation more may be known, and S be made stronger. No program. -/
namespace Go.Proofs.Ytijpieaanlnibaa
open Go.RowKit

theorem held_stronger {P : Program} {md : Region.Mode} {ops : Array Oper} {Q : Exit → Act → World → Prop} {S S' : World → Prop} (hS : ∀ w, S' w → S w) :
    ∀ (fuel : Nat) (listed : Array Bool) (a : Act) (w : World), wpAnyH P md ops Q S' fuel listed a w → wpAnyH P md ops Q S fuel listed a w
  | 0, _, _, _, h => h
  | fuel + 1, _, _, _, h => ⟨h.1, fun i hi => wpOp_mono (fun a' w' h' => ⟨hS _ h'.1, held_stronger hS fuel _ a' w' h'.2⟩) (h.2 i hi)⟩
theorem wp_store_one {P : Program} {o : Oper} {a : Act} {w w' : World} {K : Act → World → Prop} {Q : Exit → Act → World → Prop} (ty : TypeId) (x y : Operand) (ho : o.op = .store ty x y) (p V : Value)
    (hx : a.eval x = p) (hy : a.eval y = V) (hr : (Instr.storeAt ty p V).run P w = .ok () w') (h : K (a.put o.dst undef) w') : Oper.wp P o a w K Q := by
  unfold Oper.wp execOp
  simp only [ho, hx, hy, Sem.run_bind, Sem.run_pure, Result.andThen_ok, hr]
  exact h
theorem put_none (a : Act) (v : Value) : a.put none v = a := rfl
theorem wp_store_none {P : Program} {o : Oper} {a : Act} {w w' : World} {K : Act → World → Prop} {Q : Exit → Act → World → Prop} (ty : TypeId) (x y : Operand) (ho : o.op = .store ty x y) (hd : o.dst = none) (p V : Value)
    (hx : a.eval x = p) (hy : a.eval y = V) (hr : (Instr.storeAt ty p V).run P w = .ok () w') (h : K a w') : Oper.wp P o a w K Q := by
  refine wp_store_one ty x y ho p V hx hy hr ?_
  rw [hd]
  exact h
end Go.Proofs.Ytijpieaanlnibaa
/- Package seg: what was found, as a call answers it. -/
namespace Go.Proofs.Ytijpieaanlnibaa
open Go.RowKit Go.Lib Rcd

theorem as_rec (v : Value) (w : World) : (Instr.typeAssert (.iface 44 v) 20 44 true).run Try.prog w = .ok (.tuple #[v, .bool true]) w := by kernel_rfl
theorem not_rec (v : Value) (w : World) : (Instr.typeAssert (.iface 30 v) 20 44 true).run Try.prog w = .ok (.tuple #[.agg #[.int .i64 0, .int .i64 0, .string ⟨#[]⟩, .string ⟨#[]⟩, .int .i64 0, .bool false], .bool false]) w := by kernel_rfl
theorem as_errno' (v : Value) (w : World) : (Instr.typeAssert (.iface 30 v) 20 30 false).run Try.prog w = .ok v w := by kernel_rfl

/-- Where the first one is, or -1. -/
def atOf (a N : Nat) : Int := if a < N then (a : Int) else -1
/-- What seg.first tells. -/
def FoundV (b : Int) (rs : List Rc) (a : Nat) (V : Value) : Prop :=
  (∃ E, ¬ E = 0 ∧ segE b rs = E ∧ V = .iface 30 (.int .i64 E)) ∨ (segE b rs = 0 ∧ a = rs.length ∧ V = .iface 30 (.int .i64 3)) ∨ (segE b rs = 0 ∧ ∃ h : a < rs.length, mayB rs[a] = true ∧ V = .iface 44 (ragg rs[a]))
/-- The record and the error that are told. -/
def Out (b : Int) (rs : List Rc) (a : Nat) (R : Rc) (E : Int) : Prop :=
  (segB b rs = false ∧ R = zero ∧ E = 1) ∨ (segB b rs = true ∧ a = rs.length ∧ R = zero ∧ E = 3) ∨ (segB b rs = true ∧ ∃ h : a < rs.length, R = rs[a] ∧ E = 0)
theorem out_ex (b : Int) (rs : List Rc) (a : Nat) (h : a ≤ rs.length) : ∃ R E, Out b rs a R E := by
  cases hs : segB b rs with
  | false => exact ⟨_, _, .inl ⟨hs, rfl, rfl⟩⟩
  | true =>
    by_cases c : a < rs.length
    · exact ⟨_, _, .inr (.inr ⟨hs, c, rfl, rfl⟩)⟩
    · exact ⟨_, _, .inr (.inl ⟨hs, by omega, rfl, rfl⟩)⟩

set_option maxRecDepth 100000 in
set_option maxHeartbeats 4000000 in
theorem told_no (E : Int) (w : World) :
    Calls Try.prog 43 #[.iface 30 (.int .i64 E)] w fun e w' => e = .returned (.tuple #[.agg #[.int .i64 0, .int .i64 0, .string ⟨#[]⟩, .string ⟨#[]⟩, .int .i64 0, .bool false], .int .i64 E]) ∧ Below w.heap.size w w' := by
  have hnr := not_rec (.int .i64 E)
  have hae := as_errno' (.int .i64 E)
  have R0 := Lib.hid (RBox.new w 44 zcells)
  obtain ⟨p, hp⟩ : ∃ p, w.heap.size = p := ⟨_, rfl⟩
  obtain ⟨W0, hW⟩ : ∃ W0, w.alloc (.cells zcells 44) = W0 := ⟨_, rfl⟩
  rw [hW, hp] at R0
  have hpw : w.heap.size ≤ p := Nat.le_of_eq hp
  have hD := Duo.more R0.out hpw 44 zcells
  obtain ⟨g9, hg9⟩ : ∃ g9, W0.heap.size = g9 := ⟨_, rfl⟩
  obtain ⟨W4, hW4⟩ : ∃ W4, W0.alloc (.cells zcells 44) = W4 := ⟨_, rfl⟩
  rw [hg9, hW4] at hD
  have HBN := Lib.hid hD.out.2.1
  have D5 := Lib.hid (hD.row2 zcells)
  unfold zcells at hW hW4
  have HW := Lib.hid hW
  have HP := Lib.hid hp
  have HW4 := Lib.hid hW4
  have HG9 := Lib.hid hg9
  clear hW hp hW4 hg9 R0 hD
  unfold zcells at D5
  go_enter Try.func43, Try.ntmps43
  go_upto_region 1 with fail
  rw [HW.out, HP.out]
  clear HW HP
  go_upto_region 2 with (rw [HW4.out, HG9.out]; refine wpList_store_whole rfl 44 (.tmp 4) (.tmp 9) rfl g9 _ rfl rfl zcells HBN.out info_rec rfl (by simp [Value.oneCell']) ?_; simp only [Act.put])
  clear HW4 HBN HG9
  generalize World.setRow _ _ _ = w5 at D5 ⊢
  have hDd := D5.out.drewN 1
  clear D5
  go_upto_region 3 with fail
  refine wp_region_held_drew (S := fun W => Duo w p g9 #[.int .i64 0, .int .i64 0, .string ⟨#[]⟩, .string ⟨#[]⟩, .int .i64 0, .bool false] #[.int .i64 0, .int .i64 0, .string ⟨#[]⟩, .string ⟨#[]⟩, .int .i64 0, .bool false] W) (by kernel_rfl) hDd (fun hS => ?_)
  clear hDd
  generalize w5.drew = w6 at hS ⊢
  refine take_op 0 13 (.agg #[.int .i64 0, .int .i64 0, .string ⟨#[]⟩, .string ⟨#[]⟩, .int .i64 0, .bool false]) rfl rfl (by kernel_rfl) (fun _ _ _ h => h) (by rfl) hS (fun w' hS' => ?hv1) ?hh1
  case hv1 => (go_simp; try with_reducible rfl)
  simp only [Act.put, List.setIfInBounds_toArray, List.set_cons_zero, List.set_cons_succ]
  refine take_op 1 14 (.iface 30 (.int .i64 E)) rfl rfl (by kernel_rfl) (fun _ _ _ h => h) (by rfl) hS (fun w' hS' => ?hv2) ?hh2
  case hv2 => (go_simp; try with_reducible rfl)
  simp only [Act.put, List.setIfInBounds_toArray, List.set_cons_zero, List.set_cons_succ]
  refine take_op 2 15 (.int .i64 E) rfl rfl (by kernel_rfl) (fun _ _ _ h => h) (by rfl) hS (fun w' hS' => ?hv3) ?hh3
  case hv3 => (have he := hae w'; go_simp; try with_reducible rfl)
  simp only [Act.put, List.setIfInBounds_toArray, List.set_cons_zero, List.set_cons_succ]
  obtain ⟨Tz, hz⟩ := hS.out.1
  have D6 := hS.row1 #[.int .i64 0, .int .i64 0, .string ⟨#[]⟩, .string ⟨#[]⟩, .int .i64 0, .bool false]
  refine only_op 3 rfl (by kernel_rfl) (by rfl) (wp_store_row 44 (.tmp 2) (.tmp 13) rfl p #[.int .i64 0, .int .i64 0, .string ⟨#[]⟩, .string ⟨#[]⟩, .int .i64 0, .bool false] rfl rfl Tz _ hz info_rec rfl (by simp [Value.oneCell']) ⟨D6, ?_⟩)
  (try simp only [put_none])
  refine take_op 4 3 (.int .i64 E) rfl rfl (by kernel_rfl) (fun _ _ _ h => h) (by rfl) D6 (fun w' hS' => ?hv5) ?hh5
  case hv5 => (go_simp; try with_reducible rfl)
  simp only [Act.put, List.setIfInBounds_toArray, List.set_cons_zero, List.set_cons_succ]
  refine wpAnyH_done (by kernel_rfl) ?_ _
  go_wp2_with fail
  refine bodyPost_ret (results_cell2 Try.results43 rfl (load_blk D6.out.1 rfl) rfl) rfl ⟨rfl, D6.bel⟩

set_option maxRecDepth 100000 in
set_option maxHeartbeats 4000000 in
theorem told_yes (o t : Int) (ks bs : ByteArray) (q : Int) (g : Bool) (w : World) :
    Calls Try.prog 43 #[.iface 44 (.agg #[.int .i64 o, .int .i64 t, .string ks, .string bs, .int .i64 q, .bool g])] w fun e w' => e = .returned (.tuple #[.agg #[.int .i64 o, .int .i64 t, .string ks, .string bs, .int .i64 q, .bool g], .int .i64 0]) ∧ Below w.heap.size w w' := by
  have har := as_rec (.agg #[.int .i64 o, .int .i64 t, .string ks, .string bs, .int .i64 q, .bool g])
  have R0 := Lib.hid (RBox.new w 44 zcells)
  obtain ⟨p, hp⟩ : ∃ p, w.heap.size = p := ⟨_, rfl⟩
  obtain ⟨W0, hW⟩ : ∃ W0, w.alloc (.cells zcells 44) = W0 := ⟨_, rfl⟩
  rw [hW, hp] at R0
  have hpw : w.heap.size ≤ p := Nat.le_of_eq hp
  have hD := Duo.more R0.out hpw 44 zcells
  obtain ⟨g9, hg9⟩ : ∃ g9, W0.heap.size = g9 := ⟨_, rfl⟩
  obtain ⟨W4, hW4⟩ : ∃ W4, W0.alloc (.cells zcells 44) = W4 := ⟨_, rfl⟩
  rw [hg9, hW4] at hD
  have HBN := Lib.hid hD.out.2.1
  have D5 := Lib.hid (hD.row2 #[.int .i64 o, .int .i64 t, .string ks, .string bs, .int .i64 q, .bool g])
  unfold zcells at hW hW4
  have HW := Lib.hid hW
  have HP := Lib.hid hp
  have HW4 := Lib.hid hW4
  have HG9 := Lib.hid hg9
  clear hW hp hW4 hg9 R0 hD
  go_enter Try.func43, Try.ntmps43
  go_upto_region 1 with fail
  rw [HW.out, HP.out]
  clear HW HP
  go_upto_region 2 with (rw [HW4.out, HG9.out]; refine wpList_store_whole rfl 44 (.tmp 4) (.tmp 9) rfl g9 _ rfl rfl zcells HBN.out info_rec rfl (by simp [Value.oneCell']) ?_; simp only [Act.put])
  clear HW4 HBN HG9
  generalize World.setRow _ _ _ = w5 at D5 ⊢
  have hld := load_blk D5.out.out.2.1 rfl
  have HB := Lib.hid D5.out.out.1
  have D6 := Lib.hid (D5.out.row1 #[.int .i64 o, .int .i64 t, .string ks, .string bs, .int .i64 q, .bool g])
  clear D5
  go_wp2_with (first | (refine wpList_load_any (by rfl) 44 (.tmp 4) rfl g9 0 rfl _ hld ?_; simp only [Act.put]) | (refine wpList_store_whole rfl 44 (.tmp 2) (.tmp 16) rfl p _ rfl rfl _ HB.out info_rec rfl (by simp [Value.oneCell']) ?_; simp only [Act.put]))
  refine bodyPost_ret (results_cell2 Try.results43 rfl (load_blk D6.out.out.1 rfl) rfl) rfl ⟨rfl, D6.out.bel⟩

theorem out_found {b : Int} {rs : List Rc} {a : Nat} {R : Rc} {E : Int} (h : Out b rs a R E) : ∃ V, FoundV b rs a V ∧ ∀ w, Calls Try.prog 43 #[V] w fun e w' => e = .returned (.tuple #[ragg R, .int .i64 E]) ∧ Below w.heap.size w w' := by
  rcases h with ⟨h1, rfl, rfl⟩ | ⟨h1, h2, rfl, rfl⟩ | ⟨h1, h2, rfl, rfl⟩
  · exact ⟨_, .inl ⟨1, by decide, segE_no (by rw [h1]; decide), rfl⟩, fun w => told_no 1 w⟩
  · exact ⟨_, .inr (.inl ⟨segE_yes h1, h2, rfl⟩), fun w => told_no 3 w⟩
  · exact ⟨_, .inr (.inr ⟨segE_yes h1, h2, seg_may h1 _ (List.getElem_mem h2), rfl⟩), fun w => told_yes _ _ _ _ _ _ w⟩
end Go.Proofs.Ytijpieaanlnibaa
/- Package seg: the first record of a segment whose offset is far enough. -/
namespace Go.Proofs.Ytijpieaanlnibaa
open Go.RowKit Go.Lib Rcd

/-- Is a record's offset far enough? -/
def byFind (n : Int) (r : Rc) : Bool := decide (n ≤ r.o)
set_option maxRecDepth 100000 in
set_option maxHeartbeats 1000000 in
theorem farFind_is (n : Int) (r : Rc) (g : Nat) (X : Bool) (w : World) (hg : w.cell? ⟨g, 0, none⟩ = some (.int .i64 n)) (hX : byFind n r = X) :
    Calls Try.prog 45 #[ragg r, .pointer (some ⟨g, 0, none⟩)] w fun e w' => e = .returned (.bool X) ∧ Below w.heap.size w w' := by
  have hb := (Below.refl w.heap.size w).alloc (Nat.le_refl _) (.cells (rarr r.o r.t (str r.k) (str r.b) r.q r.g) 44)
  have hG := Lib.hid ((hb.cell (p := ⟨g, 0, none⟩) (cell_lt hg)).trans hg)
  have HX := Lib.hid hX
  unfold byFind at HX
  unfold ragg
  clear hb hg hX
  obtain ⟨o, t, key, bod, q, gn⟩ := r
  dsimp only at hG HX ⊢
  generalize str key = ks at hG ⊢
  generalize str bod = bs at hG ⊢
  have R0 := Lib.hid (RBox.new w 44 (rarr o t ks bs q gn))
  obtain ⟨p, hp⟩ : ∃ p, w.heap.size = p := ⟨_, rfl⟩
  obtain ⟨W0, hW⟩ : ∃ W0, w.alloc (.cells (rarr o t ks bs q gn) 44) = W0 := ⟨_, rfl⟩
  rw [hW, hp] at R0
  rw [hW] at hG
  unfold rarr at R0 hW ⊢
  have HW := Lib.hid hW
  have HP := Lib.hid hp
  clear hW hp
  go_enter Try.func45, Try.ntmps45
  go_upto_region 1 with fail
  rw [HW.out, HP.out]
  clear HW HP
  have d0 : W0.cell? ⟨p, 0, none⟩ = some (.int .i64 o) := R0.out.cell 0
  have d1 := hG.out
  go_wp2_with fail
  go_ret
  exact ⟨ret_bool HX.out, R0.out.out.2⟩

set_option maxRecDepth 100000 in
set_option maxHeartbeats 4000000 in
/-- slices.IndexFunc, by this. -/
theorem indexFind_is (n : Int) (rs : List Rc) (N : Nat) (A : Option Addr) (c B g a : Nat) (w : World) (hN : rs.length = N) (hm : N ≤ 9223372036854775807) (hB : B ≤ w.heap.size) (h : RecsAt w B A rs) (hg : w.cell? ⟨g, 0, none⟩ = some (.int .i64 n)) (hF : First (byFind n) rs a) :
    Calls Try.prog 40 #[.slice A N c, .func (.func 45) #[] #[.pointer (some ⟨g, 0, none⟩)]] w fun e w' => e = .returned (.int .i64 (atOf a N)) ∧ Below w.heap.size w w' := by
  have H := Lib.hid (h.mono hB)
  have HG := Lib.hid (fun W (hb : Below w.heap.size w W) => (hb.cell (p := ⟨g, 0, none⟩) (cell_lt hg)).trans hg)
  have HF := Lib.hid hF
  have HNN := Lib.hid hN
  have haN : a ≤ N := by rw [← hN]; exact hF.le
  have hcf : ∀ (args : Array Value) (W : World), (callFunc 45 args).run Try.prog W = .ok (.enter 45 args) W := fun args W => by go_simp
  obtain ⟨z, hz⟩ : ∃ z, atOf a N = z := ⟨_, rfl⟩
  rw [hz]
  have HZ := Lib.hid hz
  clear h hg hF hN hz
  go_enter Try.func40, Try.ntmps40
  go_wp2_with fail
  go_loopw [8] (fun i wr => ∃ k : Nat, k ≤ a ∧ i = .int .i64 (k : Int) ∧ Below w.heap.size w wr) (fun i _ => N - (RowKit.intOf i).toNat)
  case atStart => exact ⟨0, Nat.zero_le _, rfl, Below.refl _ _⟩
  case round =>
    obtain ⟨k, hk, rfl, hbel⟩ := hrel
    have HB := Lib.hid hbel
    clear hbel
    by_cases hlt : k < N
    · have hlr : k < rs.length := by rw [HNN.out]; exact hlt
      obtain ⟨b0, o0, rfl, hb0, hc⟩ := (H.out.below HB.out).some_ (by omega)
      obtain ⟨c0, c1, c2, c3, c4, c5⟩ := hc k hlr
      obtain ⟨X, hX⟩ : ∃ X, byFind n rs[k] = X := ⟨_, rfl⟩
      have HFA := Lib.hid (fun W (hb : Below w.heap.size w W) => farFind_is n rs[k] g X W (HG.out W hb) hX)
      have hwhich : (X = true ∧ k = a) ∨ (X = false ∧ k < a) := by
        rcases Nat.lt_or_ge k a with h1 | h1
        · exact .inr ⟨hX.symm.trans (HF.out.lo k hlr h1), h1⟩
        · obtain rfl : k = a := by omega
          exact .inl ⟨hX.symm.trans (HF.out.hi hlr), rfl⟩
      clear hc hX
      unfold ragg at HFA
      generalize rs[k] = r at c0 c1 c2 c3 c4 c5 HFA
      obtain ⟨o, t, key, bod, q, gn⟩ := r
      dsimp only at c0 c1 c2 c3 c4 c5 HFA
      generalize str key = ks at c2 HFA
      generalize str bod = bs at c3 HFA
      unfold rarr at HFA
      have e1 : (k : Int) < (N : Int) := by omega
      clear hlr
      rcases hwhich with ⟨rfl, rfl⟩ | ⟨rfl, hka⟩
      · have HZ1 := Lib.hid ((show atOf k N = (k : Int) from if_pos hlt).symm.trans HZ.out)
        go_wp2_with fail
        refine (HFA.out _ HB.out).mono ?_
        rintro e w1 ⟨rfl, hb1⟩
        have HB1 := Lib.hid (HB.out.trans (hb1.mono HB.out.size))
        clear hb1 HB HFA c0 c1 c2 c3 c4 c5
        go_wp2_with fail
        go_ret
        exact ⟨ret_int HZ1.out, HB1.out⟩
      · go_wp2_with fail
        refine (HFA.out _ HB.out).mono ?_
        rintro e w1 ⟨rfl, hb1⟩
        have HB1 := Lib.hid (HB.out.trans (hb1.mono HB.out.size))
        clear hb1 HB HFA c0 c1 c2 c3 c4 c5
        go_wp2_with fail
        go_roundw
        case rel => exact ⟨k + 1, hka, by go_num, HB1.out⟩
        case measure => simp [RowKit.intOf]; omega
    · obtain rfl : a = N := by omega
      have HZ1 := Lib.hid ((show atOf a a = -1 from if_neg (Nat.lt_irrefl _)).symm.trans HZ.out)
      obtain rfl : k = a := by omega
      go_wp2_with fail
      go_ret
      exact ⟨ret_int HZ1.out, HB.out⟩

set_option maxRecDepth 100000 in
set_option maxHeartbeats 8000000 in
/-- seg.first, by this. -/
theorem firstFind_is (n b : Int) (rs : List Rc) (N : Nat) (A : Option Addr) (c B g a : Nat) (V : Value) (w : World) (hN : rs.length = N) (hm : N ≤ 9223372036854775807) (hcap : N ≤ c) (hB : B ≤ w.heap.size) (h : RecsAt w B A rs) (hg : w.cell? ⟨g, 0, none⟩ = some (.int .i64 n)) (hF : First (byFind n) rs a) (hV : FoundV b rs a V) :
    Calls Try.prog 44 #[.agg #[.int .i64 b, .slice A N c], .func (.func 45) #[] #[.pointer (some ⟨g, 0, none⟩)]] w fun e w' => e = .returned V ∧ Below w.heap.size w w' := by
  have R0 := Lib.hid (RBox.new w 24 (sarr b A N c))
  have HC := Lib.hid (fun E W (hb : Below w.heap.size w W) (hE : segE b rs = E) => SegCheck_is b rs N A c B E W hN hm hcap (Nat.le_trans hB hb.size) (h.below (hb.mono hB)) hE)
  have HI := Lib.hid (fun W (hb : Below w.heap.size w W) => indexFind_is n rs N A c B g a W hN hm (Nat.le_trans hB hb.size) (h.below (hb.mono hB)) ((hb.cell (p := ⟨g, 0, none⟩) (cell_lt hg)).trans hg) hF)
  obtain ⟨p, hp⟩ : ∃ p, w.heap.size = p := ⟨_, rfl⟩
  obtain ⟨W0, hW⟩ : ∃ W0, w.alloc (.cells (sarr b A N c) 24) = W0 := ⟨_, rfl⟩
  rw [hW, hp] at R0
  unfold sarr at R0 hW
  have HW := Lib.hid hW
  have HP := Lib.hid hp
  have H := Lib.hid (h.mono hB)
  have HNN := Lib.hid hN
  have haN : a ≤ N := by rw [← hN]; exact hF.le
  clear hW hp h hg hF hN
  rcases hV with ⟨E, h0, hE, rfl⟩ | ⟨hE, ha, rfl⟩ | ⟨hE, ha, hmay, rfl⟩
  · have h0b : (E == 0) = false := by rw [beq_eq_false_iff_ne]; exact h0
    have h0c : (E != 0) = true := by rw [bne_iff_ne]; exact h0
    have HC1 := Lib.hid (fun W hb => HC.out E W hb hE)
    clear hE HC
    go_enter Try.func44, Try.ntmps44
    go_upto_region 1 with fail
    rw [HW.out, HP.out]
    clear HW HP
    have hld := R0.out.loadS rfl
    go_wp2_with (refine wpList_load_any (by rfl) 24 (.tmp 2) rfl p 0 rfl _ hld ?_; simp only [Act.put])
    refine (HC1.out _ R0.out.out.2).mono ?_
    rintro e w1 ⟨rfl, hb1⟩
    have R1 := Lib.hid (R0.out.below hb1)
    clear R0 hb1 hld HC1
    go_wp2_with fail
    go_ret
    exact ⟨rfl, R1.out.out.2⟩
  · have HC1 := Lib.hid (fun W hb => HC.out 0 W hb hE)
    obtain rfl : a = N := by rw [← HNN.out]; exact ha
    have hat : atOf a a = -1 := if_neg (Nat.lt_irrefl _)
    rw [hat] at HI
    clear hE HC hat ha
    go_enter Try.func44, Try.ntmps44
    go_upto_region 1 with fail
    rw [HW.out, HP.out]
    clear HW HP
    have hld := R0.out.loadS rfl
    go_wp2_with (refine wpList_load_any (by rfl) 24 (.tmp 2) rfl p 0 rfl _ hld ?_; simp only [Act.put])
    refine (HC1.out _ R0.out.out.2).mono ?_
    rintro e w1 ⟨rfl, hb1⟩
    have R1 := Lib.hid (R0.out.below hb1)
    clear R0 hb1 hld HC1
    have d1 : w1.cell? ⟨p, 1, none⟩ = some (.slice A a c) := R1.out.cell 1
    go_wp2_with fail
    refine (HI.out _ R1.out.out.2).mono ?_
    rintro e w2 ⟨rfl, hb2⟩
    have R2 := Lib.hid (R1.out.below hb2)
    clear R1 hb2 HI d1
    go_wp2_with fail
    go_ret
    exact ⟨rfl, R2.out.out.2⟩
  · have HC1 := Lib.hid (fun W hb => HC.out 0 W hb hE)
    have haN : a < N := by rw [← HNN.out]; exact ha
    have hat : atOf a N = (a : Int) := if_pos haN
    rw [hat] at HI
    have HCO := Lib.hid (fun W => copyOf_is rs[a] W (short_of hmay))
    obtain ⟨b0, o0, rfl, hb0, hc⟩ := H.out.some_ (by omega)
    have hr := hc a ha
    clear hE HC hat hc hmay H
    unfold ragg at HCO ⊢
    generalize rs[a] = r at hr HCO ⊢
    obtain ⟨o, t, key, bod, q, gn⟩ := r
    obtain ⟨x0, x1, x2, x3, x4, x5⟩ := hr
    dsimp only at x0 x1 x2 x3 x4 x5 HCO ⊢
    generalize str key = ks at x2 HCO ⊢
    generalize str bod = bs at x3 HCO ⊢
    unfold rarr at HCO ⊢
    have HR := Lib.hid (And.intro x0 (And.intro x1 (And.intro x2 (And.intro x3 (And.intro x4 x5)))))
    clear x0 x1 x2 x3 x4 x5
    have e1 : (a : Int) < (N : Int) := by omega
    have hbp : b0 < p := by rw [← HP.out]; exact hb0
    clear ha
    go_enter Try.func44, Try.ntmps44
    go_upto_region 1 with fail
    rw [HW.out, HP.out]
    clear HW
    have hld := R0.out.loadS rfl
    go_wp2_with (refine wpList_load_any (by rfl) 24 (.tmp 2) rfl p 0 rfl _ hld ?_; simp only [Act.put])
    refine (HC1.out _ R0.out.out.2).mono ?_
    rintro e w1 ⟨rfl, hb1⟩
    have R1 := Lib.hid (R0.out.below hb1)
    clear R0 hb1 hld HC1
    have d1 : w1.cell? ⟨p, 1, none⟩ = some (.slice (some ⟨b0, o0, none⟩) N c) := R1.out.cell 1
    go_wp2_with fail
    refine (HI.out _ R1.out.out.2).mono ?_
    rintro e w2 ⟨rfl, hb2⟩
    have R2 := Lib.hid (R1.out.below hb2)
    clear R1 hb2 HI d1
    have d1 : w2.cell? ⟨p, 1, none⟩ = some (.slice (some ⟨b0, o0, none⟩) N c) := R2.out.cell 1
    have hcl := fun i => R2.out.out.2.cell (p := ⟨b0, i, none⟩) (by rw [HP.out]; exact hbp)
    have c0 := (hcl _).trans HR.out.1
    have c1 := (hcl _).trans HR.out.2.1
    have c2 := (hcl _).trans HR.out.2.2.1
    have c3 := (hcl _).trans HR.out.2.2.2.1
    have c4 := (hcl _).trans HR.out.2.2.2.2.1
    have c5 := (hcl _).trans HR.out.2.2.2.2.2
    clear HP HR hcl
    go_wp2_with fail
    refine (HCO.out _).mono ?_
    rintro e w3 ⟨rfl, hb3⟩
    have R3 := Lib.hid (R2.out.below hb3)
    clear R2 hb3 HCO d1 c0 c1 c2 c3 c4 c5
    go_wp2_with fail
    go_ret
    exact ⟨rfl, R3.out.out.2⟩

set_option maxRecDepth 100000 in
set_option maxHeartbeats 8000000 in
/-- seg.Find. -/
theorem SegFind_is (n b : Int) (rs : List Rc) (N : Nat) (A : Option Addr) (c B a : Nat) (R : Rc) (E : Int) (w : World) (hN : rs.length = N) (hm : N ≤ 9223372036854775807) (hcap : N ≤ c) (hB : B ≤ w.heap.size) (h : RecsAt w B A rs) (hF : First (byFind n) rs a) (hO : Out b rs a R E) :
    Calls Try.prog 39 #[.agg #[.int .i64 b, .slice A N c], .int .i64 n] w fun e w' => e = .returned (.tuple #[ragg R, .int .i64 E]) ∧ Below w.heap.size w w' := by
  have hT := Tri.new w 24 3 44 (sarr b A N c) #[.int .i64 n] zcells
  obtain ⟨V, hV, htold⟩ := out_found hO
  have HFI := Lib.hid (fun g W (hb : Below w.heap.size w W) (hg : W.cell? ⟨g, 0, none⟩ = some (.int .i64 n)) => firstFind_is n b rs N A c B g a V W hN hm hcap (Nat.le_trans hB hb.size) (h.below (hb.mono hB)) hg hF hV)
  have HTO := Lib.hid htold
  clear hN hm hcap hB h hF hO hV htold
  unfold ragg at HTO ⊢
  obtain ⟨o, t, key, bod, q, gn⟩ := R
  dsimp only at HTO ⊢
  generalize str key = ks at HTO ⊢
  generalize str bod = bs at HTO ⊢
  obtain ⟨p, hp⟩ : ∃ p, w.heap.size = p := ⟨_, rfl⟩
  obtain ⟨W0, hW⟩ : ∃ W0, ((w.alloc (.cells (sarr b A N c) 24)).alloc (.cells #[.int .i64 n] 3)).alloc (.cells zcells 44) = W0 := ⟨_, rfl⟩
  rw [hW, hp] at hT
  unfold sarr at hT hW
  unfold zcells at hW
  unfold rarr at HTO ⊢
  have T0 := Lib.hid hT
  have HW := Lib.hid hW
  have HP := Lib.hid hp
  clear hT hW hp
  have hmf : ∀ (fn : Fn) (first cap : Array Value) (w : World), (Instr.makeFunc fn first cap).run Try.prog w = .ok (.func fn first cap) w := fun _ _ _ _ => rfl
  go_enter Try.func39, Try.ntmps39
  go_upto_region 1 with fail
  rw [HW.out, HP.out]
  clear HW HP
  have hld := load_seg T0.out.out.1 rfl
  have HG := Lib.hid (show W0.cell? ⟨p + 1, 0, none⟩ = some (.int .i64 n) from T0.out.cell2 0)
  go_wp2_with (refine wpList_load_any (by rfl) 24 (.tmp 2) rfl p 0 rfl _ hld ?_; simp only [Act.put])
  refine (HFI.out (p + 1) _ T0.out.bel HG.out).mono ?_
  rintro e w1 ⟨rfl, hb1⟩
  have T1 := Lib.hid (T0.out.below hb1)
  clear T0 hb1 hld HFI HG
  go_wp2_with fail
  refine (HTO.out _).mono ?_
  rintro e w2 ⟨rfl, hb2⟩
  have T2 := Lib.hid (T1.out.below hb2)
  clear T1 hb2 HTO
  have HB := Lib.hid T2.out.out.2.2.1
  have T3 := Lib.hid (T2.out.row3 #[.int .i64 o, .int .i64 t, .string ks, .string bs, .int .i64 q, .bool gn])
  clear T2
  go_wp2_with (refine wpList_store_whole rfl 44 (.tmp 4) (.tmp 10) rfl (p + 2) _ rfl rfl _ HB.out info_rec rfl (by simp [Value.oneCell']) ?_; simp only [Act.put])
  refine bodyPost_ret (results_cell2 Try.results39 rfl (load_blk T3.out.out.2.2.1 rfl) rfl) rfl ⟨rfl, T3.out.bel⟩
end Go.Proofs.Ytijpieaanlnibaa
/- What is looked for from a mark on, plainly: the rest of a segment is one; the first record far enough is the same. -/
namespace Go.Proofs.Ytijpieaanlnibaa.Mkd
open Go.RowKit Go.Lib Rcd

theorem seg_drop {b : Int} {rs : List Rc} (h : segB b rs = true) (k : Nat) : segB b (rs.drop k) = true := by
  rw [seg_doc] at h ⊢
  obtain ⟨⟨h1, h2⟩, h3⟩ := h
  refine ⟨⟨h1, by rw [List.length_drop]; omega⟩, fun i hi hi2 => ?_⟩
  rw [List.length_drop] at hi
  obtain ⟨g1, g2, g3⟩ := h3 (k + i) (by omega) (by omega)
  refine ⟨by rw [List.getElem_drop]; exact g1, by rw [List.getElem_drop]; exact g2, fun h0 => ?_⟩
  have := g3 (by omega)
  rw [List.getElem_drop, List.getElem_drop]
  simp only [show k + (i - 1) = k + i - 1 by omega]
  exact this
theorem first_drop {p : Rc → Bool} {rs : List Rc} {a k : Nat} (h : First p rs a) (hk : k ≤ a) : First p (rs.drop k) (a - k) := by
  refine ⟨by rw [List.length_drop]; have := h.le; omega, fun i hi hia => ?_, fun hi => ?_⟩
  · rw [List.length_drop] at hi
    rw [List.getElem_drop]
    exact h.lo (k + i) (by omega) (by omega)
  · rw [List.length_drop] at hi
    rw [List.getElem_drop]
    simp only [show k + (a - k) = a by omega]
    exact h.hi (by omega)
/-- Has a record this offset? -/
def bySame (o : Int) (r : Rc) : Bool := decide (r.o = o)
theorem first_same {b : Int} {rs : List Rc} {a : Nat} (hs : segB b rs = true) (ha : a < rs.length) : First (bySame rs[a].o) rs a := by
  refine ⟨Nat.le_of_lt ha, fun i hi hia => ?_, fun _ => decide_eq_true rfl⟩
  have := (seg_rise hs i a hia ha).1
  exact decide_eq_false (by omega)
/-- Where to begin: at the place of the last mark that is not above n. -/
theorem way {b n : Int} {rs : List Rc} {a f : Nat} (hs : segB b rs = true) (hA : Above n (marks rs) a) (hF : First (byFind n) rs f) :
    4 * placeN a ≤ f ∧ (f < rs.length → f - 4 * placeN a ≤ 4 ∧ 0 < (marks rs).length ∧ fromZ (marks rs) n = ((placeN a : Nat) : Int)) := by
  have hl := marks_len rs
  by_cases h0 : 0 < (marks rs).length
  · have hz := above_from hA h0
    by_cases c : f < rs.length
    · obtain ⟨m, h1, h2, h3, h4⟩ := from_near (n := n) hs c (fun i hi hia => by
        have := of_decide_eq_false (hF.lo i hi hia)
        omega) (of_decide_eq_true (hF.hi c))
      have e : placeN a = m := by omega
      exact ⟨by omega, fun _ => ⟨by omega, h0, hz⟩⟩
    · have := hF.le
      obtain ⟨m, h1, h2, _⟩ := lastF_spec (marks rs) n (marks rs).length h0
      have e : fromZ (marks rs) n = (m : Int) := h1
      exact ⟨by omega, fun h => absurd h c⟩
  · have ha : a = 0 := by have := hA.1; omega
    subst ha
    exact ⟨Nat.zero_le _, fun h => absurd h (by omega)⟩
theorem recs_drop {w : World} {B : Nat} {A : Option Addr} {rs : List Rc} (h : RecsAt w B A rs) (k : Nat) : RecsAt w B (A.map fun a => ⟨a.block, a.off + k * 6, none⟩) (rs.drop k) := by
  rcases h with rfl | ⟨b, o, rfl, h2, h3⟩
  · exact .inl (by simp)
  · refine .inr ⟨b, o + k * 6, rfl, h2, fun j hj => ?_⟩
    rw [List.length_drop] at hj
    rw [List.getElem_drop]
    have := h3 (k + j) (by omega)
    rw [show o + k * 6 + j * 6 = o + (k + j) * 6 by omega]
    exact this
end Go.Proofs.Ytijpieaanlnibaa.Mkd
/- Package index: the first record with an offset; the rest of a slice of records. -/
namespace Go.Proofs.Ytijpieaanlnibaa.Mkd
open Go.RowKit Go.Lib Rcd

theorem recs_rest (A : Option Addr) (n c k : Nat) (hA : k = 0 ∨ ∃ b o, A = some ⟨b, o, none⟩) (h : k ≤ n) (hc : n ≤ c) :
    ∃ A', (∀ w, (Instr.sliceAt 22 (.slice A n c) (some (.int .i64 (k : Int))) none none).run Try.prog w = .ok (.slice A' (n - k) (c - k)) w) ∧ ∀ (W : World) (B : Nat) (rs : List Rc), rs.length = n → RecsAt W B A rs → RecsAt W B A' (rs.drop k) := by
  have h1 : (k : Int) ≤ (n : Int) := by omega
  have h2 : (n : Int) ≤ (c : Int) := by omega
  rcases hA with rfl | ⟨b, o, rfl⟩
  · refine ⟨A, fun w => ?_, fun W B rs _ h => by rwa [List.drop_zero]⟩
    cases A with
    | none =>
      go_simp
    | some a =>
      go_simp
  · by_cases c0 : c = k
    · subst c0
      refine ⟨some ⟨b, o, none⟩, fun w => ?_, fun W B rs hn _ => .inl (List.drop_of_length_le (by omega))⟩
      go_simp
    · by_cases k0 : k = 0
      · subst k0
        refine ⟨some ⟨b, o, none⟩, fun w => ?_, fun W B rs _ h => by rwa [List.drop_zero]⟩
        go_simp
        try simp [Addr.add]
      · refine ⟨some ⟨b, o + k * 6, none⟩, fun w => ?_, fun W B rs _ h => ?_⟩
        · have hk6 : ¬ k * 6 = 0 := by omega
          go_simp
          try simp [Addr.add, k0, c0, hk6]
        · exact recs_drop h k

set_option maxRecDepth 100000 in
set_option maxHeartbeats 1000000 in
theorem isSame_is (n : Int) (r : Rc) (g : Nat) (X : Bool) (w : World) (hg : w.cell? ⟨g, 0, none⟩ = some (.int .i64 n)) (hX : bySame n r = X) :
    Calls Try.prog 41 #[ragg r, .pointer (some ⟨g, 0, none⟩)] w fun e w' => e = .returned (.bool X) ∧ Below w.heap.size w w' := by
  have hb := (Below.refl w.heap.size w).alloc (Nat.le_refl _) (.cells (rarr r.o r.t (str r.k) (str r.b) r.q r.g) 44)
  have hG := Lib.hid ((hb.cell (p := ⟨g, 0, none⟩) (cell_lt hg)).trans hg)
  have HX := Lib.hid hX
  unfold bySame at HX
  unfold ragg
  clear hb hg hX
  obtain ⟨o, t, key, bod, q, gn⟩ := r
  dsimp only at hG HX ⊢
  generalize str key = ks at hG ⊢
  generalize str bod = bs at hG ⊢
  have R0 := Lib.hid (RBox.new w 44 (rarr o t ks bs q gn))
  obtain ⟨p, hp⟩ : ∃ p, w.heap.size = p := ⟨_, rfl⟩
  obtain ⟨W0, hW⟩ : ∃ W0, w.alloc (.cells (rarr o t ks bs q gn) 44) = W0 := ⟨_, rfl⟩
  rw [hW, hp] at R0
  rw [hW] at hG
  unfold rarr at R0 hW ⊢
  have HW := Lib.hid hW
  have HP := Lib.hid hp
  clear hW hp
  go_enter Try.func41, Try.ntmps41
  go_upto_region 1 with fail
  rw [HW.out, HP.out]
  clear HW HP
  have d0 : W0.cell? ⟨p, 0, none⟩ = some (.int .i64 o) := R0.out.cell 0
  have d1 := hG.out
  go_wp2_with fail
  go_ret
  exact ⟨ret_bool HX.out, R0.out.out.2⟩

set_option maxRecDepth 100000 in
set_option maxHeartbeats 4000000 in
/-- slices.IndexFunc, by whether a record has this offset. -/
theorem indexSame_is (n : Int) (rs : List Rc) (N : Nat) (A : Option Addr) (c B g a : Nat) (w : World) (hN : rs.length = N) (hm : N ≤ 9223372036854775807) (hB : B ≤ w.heap.size) (h : RecsAt w B A rs) (hg : w.cell? ⟨g, 0, none⟩ = some (.int .i64 n)) (hF : First (bySame n) rs a) :
    Calls Try.prog 40 #[.slice A N c, .func (.func 41) #[] #[.pointer (some ⟨g, 0, none⟩)]] w fun e w' => e = .returned (.int .i64 (atOf a N)) ∧ Below w.heap.size w w' := by
  have H := Lib.hid (h.mono hB)
  have HG := Lib.hid (fun W (hb : Below w.heap.size w W) => (hb.cell (p := ⟨g, 0, none⟩) (cell_lt hg)).trans hg)
  have HF := Lib.hid hF
  have HNN := Lib.hid hN
  have haN : a ≤ N := by rw [← hN]; exact hF.le
  have hcf : ∀ (args : Array Value) (W : World), (callFunc 41 args).run Try.prog W = .ok (.enter 41 args) W := fun args W => by go_simp
  obtain ⟨z, hz⟩ : ∃ z, atOf a N = z := ⟨_, rfl⟩
  rw [hz]
  have HZ := Lib.hid hz
  clear h hg hF hN hz
  go_enter Try.func40, Try.ntmps40
  go_wp2_with fail
  go_loopw [8] (fun i wr => ∃ k : Nat, k ≤ a ∧ i = .int .i64 (k : Int) ∧ Below w.heap.size w wr) (fun i _ => N - (RowKit.intOf i).toNat)
  case atStart => exact ⟨0, Nat.zero_le _, rfl, Below.refl _ _⟩
  case round =>
    obtain ⟨k, hk, rfl, hbel⟩ := hrel
    have HB := Lib.hid hbel
    clear hbel
    by_cases hlt : k < N
    · have hlr : k < rs.length := by rw [HNN.out]; exact hlt
      obtain ⟨b0, o0, rfl, hb0, hc⟩ := (H.out.below HB.out).some_ (by omega)
      obtain ⟨c0, c1, c2, c3, c4, c5⟩ := hc k hlr
      obtain ⟨X, hX⟩ : ∃ X, bySame n rs[k] = X := ⟨_, rfl⟩
      have HFA := Lib.hid (fun W (hb : Below w.heap.size w W) => isSame_is n rs[k] g X W (HG.out W hb) hX)
      have hwhich : (X = true ∧ k = a) ∨ (X = false ∧ k < a) := by
        rcases Nat.lt_or_ge k a with h1 | h1
        · exact .inr ⟨hX.symm.trans (HF.out.lo k hlr h1), h1⟩
        · obtain rfl : k = a := by omega
          exact .inl ⟨hX.symm.trans (HF.out.hi hlr), rfl⟩
      clear hc hX
      unfold ragg at HFA
      generalize rs[k] = r at c0 c1 c2 c3 c4 c5 HFA
      obtain ⟨o, t, key, bod, q, gn⟩ := r
      dsimp only at c0 c1 c2 c3 c4 c5 HFA
      generalize str key = ks at c2 HFA
      generalize str bod = bs at c3 HFA
      unfold rarr at HFA
      have e1 : (k : Int) < (N : Int) := by omega
      clear hlr
      rcases hwhich with ⟨rfl, rfl⟩ | ⟨rfl, hka⟩
      · have HZ1 := Lib.hid ((show atOf k N = (k : Int) from if_pos hlt).symm.trans HZ.out)
        go_wp2_with fail
        refine (HFA.out _ HB.out).mono ?_
        rintro e w1 ⟨rfl, hb1⟩
        have HB1 := Lib.hid (HB.out.trans (hb1.mono HB.out.size))
        clear hb1 HB HFA c0 c1 c2 c3 c4 c5
        go_wp2_with fail
        go_ret
        exact ⟨ret_int HZ1.out, HB1.out⟩
      · go_wp2_with fail
        refine (HFA.out _ HB.out).mono ?_
        rintro e w1 ⟨rfl, hb1⟩
        have HB1 := Lib.hid (HB.out.trans (hb1.mono HB.out.size))
        clear hb1 HB HFA c0 c1 c2 c3 c4 c5
        go_wp2_with fail
        go_roundw
        case rel => exact ⟨k + 1, hka, by go_num, HB1.out⟩
        case measure => simp [RowKit.intOf]; omega
    · obtain rfl : a = N := by omega
      have HZ1 := Lib.hid ((show atOf a a = -1 from if_neg (Nat.lt_irrefl _)).symm.trans HZ.out)
      obtain rfl : k = a := by omega
      go_wp2_with fail
      go_ret
      exact ⟨ret_int HZ1.out, HB.out⟩
end Go.Proofs.Ytijpieaanlnibaa.Mkd
/- The document's own answer: marks copied. -/
namespace Go.Proofs.Ytijpieaanlnibaa.Mkd
open Go.RowKit Go.Lib Rcd

theorem mtake_snoc {l : List Mk} {k : Nat} (h : k < l.length) : mflat (l.take (k + 1)) = mflat (l.take k) ++ mcells l[k] := by rw [List.take_succ_eq_append_getElem h, mflat_snoc]

set_option maxRecDepth 100000 in
set_option maxHeartbeats 4000000 in
/-- fairwayref0.CopyMarks. -/
theorem CopyMarks_is (l : List Mk) (N : Nat) (A : Option Addr) (c B : Nat) (w : World) (hN : l.length = N) (hm : N ≤ 1000000) (hB : B ≤ w.heap.size) (h : MarksAt w B A l) :
    Calls Try.prog 14 #[.slice A N c] w fun e w' => ∃ A' c', e = .returned (.slice A' N c') ∧ w'.ownsRow w.heap.size 42 2 (.slice A' N c') N (mflat l) ∧ Below w.heap.size w w' := by
  obtain ⟨i0, hi, hz0, hz1, hz2⟩ := info_parts info_mmore
  have H := Lib.hid (h.mono hB)
  have HN := Lib.hid hN
  clear h hN
  go_enter Try.func14, Try.ntmps14
  go_wp2_with fail
  go_loopw [3, 4] (fun m i wr => ∃ k : Nat, k ≤ N ∧ i = .int .i64 (k : Int) ∧ wr.ownsRow w.heap.size 42 2 m k (mflat (l.take k)) ∧ Below w.heap.size w wr) (fun _ i _ => N - (RowKit.intOf i).toNat)
  case atStart => exact ⟨0, Nat.zero_le _, rfl, World.ownsRow_nil _ _ _ _, Below.refl _ _⟩
  case round =>
    obtain ⟨k, hk, rfl, hown, hnx⟩ := hrel
    by_cases hlt : k < N
    · have hlr : k < l.length := by rw [HN.out]; exact hlt
      obtain ⟨b0, o0, rfl, _, hc⟩ := (H.out.below hnx).some_ (by omega)
      obtain ⟨d0, d1⟩ := hc k hlr
      have HS := Lib.hid (mtake_snoc hlr)
      clear hc
      generalize l[k] = s at d0 d1 HS
      clear hlr
      have HO := Lib.hid hown
      have hkI : (k : Int) < (N : Int) := by omega
      obtain ⟨o, a⟩ := s
      have hfc : mcells ⟨o, a⟩ = [.int .i64 o, .int .i64 a] := rfl
      have hon : ∀ u ∈ mcells ⟨o, a⟩, u.oneCell' = true := mone_cells _
      rw [hfc] at HS hon
      have HON := Lib.hid hon
      dsimp only at d0 d1
      have h2 := hnx.size
      clear hown hfc hon
      go_wp2_with (at_builtin; refine wpList_append_own _ rfl _ _ 29 rfl w.heap.size 42 i0 (.agg #[.int .i64 0, .int .i64 0]) 2 16 Try.underlying29 hi hz0 hz1 hz2 rfl (by decide) _ _ _ rfl (HO.out.alloc _) ⟨wr.heap.size, 0, none⟩ 1 1 [.int .i64 o, .int .i64 a] rfl rfl ?c1 ?c2 ?c3 ?c4 ?c5 ?_)
      case c1 => exact fun j u h => cells_new wr _ [.int .i64 o, .int .i64 a] j u h
      case c2 => exact HON.out
      case c3 => unfold maxLen; omega
      case c4 => first | omega | (simp; omega)
      case c5 => first | omega | (simp; omega)
      intro v' w7 hown' hgrow _
      have HN' := Lib.hid (hnx.trans (below_alloc_grown h2 HO.out hgrow))
      have HO' : Hid (w7.ownsRow w.heap.size 42 2 v' (k + 1) (mflat (l.take (k + 1)))) := by show World.ownsRow _ _ _ _ _ _ _; rw [HS.out]; exact hown'
      clear hown' hgrow HO hnx HS HON h2
      go_wp2_with fail
      go_roundw
      case rel => exact ⟨k + 1, hlt, by go_num, HO'.out, HN'.out⟩
      case measure => simp [RowKit.intOf]; omega
    · obtain rfl : k = N := by omega
      rw [List.take_of_length_le (by rw [HN.out]; exact Nat.le_refl _)] at hown
      obtain ⟨A', c', hv⟩ := row_slice hown
      have HO := Lib.hid hown
      have HX := Lib.hid hnx
      clear hown hnx
      subst hv
      go_wp2_with fail
      go_ret
      exact ⟨A', c', rfl, HO.out, HX.out⟩
end Go.Proofs.Ytijpieaanlnibaa.Mkd
/- Package rec: how many bytes a record has. -/
namespace Go.Proofs.Ytijpieaanlnibaa
open Go.RowKit Go.Lib Rcd

set_option maxRecDepth 100000 in
set_option maxHeartbeats 2000000 in
theorem Size_parts (o t : Int) (k b : ByteArray) (q : Int) (g : Bool) (N : Nat) (E : Int) (w : World) (hE : mayE ⟨o, t, k.data.toList, b.data.toList, q, g⟩ = E) (hN : (E = 0 ∧ k.size ≤ 1024 ∧ b.size ≤ 1024 ∧ N = 25 + k.size + b.size) ∨ (¬ E = 0 ∧ N = 0)) :
    Calls Try.prog 23 #[.agg (rarr o t k b q g)] w fun e w' => e = .returned (.tuple #[.int .i64 (N : Int), .int .i64 E]) ∧ Below w.heap.size w w' := by
  have HC := Lib.hid (fun W => Check_parts o t k b q g E W hE)
  have R0 := Lib.hid (RBox.new w 44 (rarr o t k b q g))
  obtain ⟨W0, hW⟩ : ∃ W0, w.alloc (.cells (rarr o t k b q g) 44) = W0 := ⟨_, rfl⟩
  rw [hW] at R0
  unfold rarr at hW R0 HC ⊢
  have HW := Lib.hid hW
  clear hW hE
  rcases hN with ⟨rfl, m1, m2, rfl⟩ | ⟨h0, rfl⟩
  · go_enter Try.func23, Try.ntmps23
    go_upto_region 1 with fail
    rw [HW.out]
    clear HW
    generalize Value.agg _ = v1
    obtain ⟨p, hp⟩ : ∃ p, w.heap.size = p := ⟨_, rfl⟩
    rw [hp] at R0 ⊢
    clear hp
    have hld := R0.out.load rfl
    go_wp2_with (refine wpList_load_any (by rfl) 44 (.tmp 1) rfl p 0 rfl _ hld ?_; simp only [Act.put])
    refine (HC.out _).mono ?_
    rintro e w1 ⟨rfl, hb1⟩
    have R1 := Lib.hid (R0.out.below hb1)
    have d2 : w1.cell? ⟨p, 2, none⟩ = some (.string k) := R1.out.cell 2
    have d3 : w1.cell? ⟨p, 3, none⟩ = some (.string b) := R1.out.cell 3
    clear R0 hb1 hld HC
    go_wp2_with fail
    go_ret2
    refine ⟨?_, R1.out.out.2⟩
    simp
  · have h0b : (E == 0) = false := by rw [beq_eq_false_iff_ne]; exact h0
    have h0c : (E != 0) = true := by rw [bne_iff_ne]; exact h0
    rw [show ((0 : Nat) : Int) = 0 from rfl]
    go_enter Try.func23, Try.ntmps23
    go_upto_region 1 with fail
    rw [HW.out]
    clear HW
    generalize Value.agg _ = v1
    obtain ⟨p, hp⟩ : ∃ p, w.heap.size = p := ⟨_, rfl⟩
    rw [hp] at R0 ⊢
    clear hp
    have hld := R0.out.load rfl
    go_wp2_with (refine wpList_load_any (by rfl) 44 (.tmp 1) rfl p 0 rfl _ hld ?_; simp only [Act.put])
    refine (HC.out _).mono ?_
    rintro e w1 ⟨rfl, hb1⟩
    have R1 := Lib.hid (R0.out.below hb1)
    clear R0 hb1 hld HC
    go_wp2_with fail
    go_ret2
    exact ⟨rfl, R1.out.out.2⟩
end Go.Proofs.Ytijpieaanlnibaa
/- How many bytes a record that may be has. -/
namespace Go.Proofs.Ytijpieaanlnibaa
open Go.RowKit Go.Lib Rcd

theorem RecSize_good (r : Rc) (n : Nat) (w : World) (h : mayB r = true) (hn : (recL r).length = n) :
    Calls Try.prog 23 #[ragg r] w fun e w' => e = .returned (.tuple #[.int .i64 (n : Int), .int .i64 0]) ∧ Below w.heap.size w w' := by
  obtain ⟨_, _, _, _, h5, h6, _⟩ := (may_iff _).1 h
  subst hn
  have hE : mayE r = 0 := by unfold mayE; rw [h]; rfl
  exact Size_parts r.o r.t (str r.k) (str r.b) r.q r.g (recL r).length 0 w (by rw [str_data, str_data]; exact hE) (.inl ⟨rfl, by rw [str_size]; exact h5, by rw [str_size]; exact h6, by rw [str_size, str_size, rec_len]⟩)
end Go.Proofs.Ytijpieaanlnibaa
/- Package index: the marks of a segment. -/
namespace Go.Proofs.Ytijpieaanlnibaa.Mkd
open Go.RowKit Go.Lib Rcd

theorem marks_yes {rs : List Rc} {k a : Nat} (h : k < rs.length) (c : k % 4 = 0) (ha : (allL (rs.take k)).length = a) : marks (rs.take (k + 1)) = marks (rs.take k) ++ [⟨rs[k].o, (a : Int)⟩] := by
  rw [marks_next h, if_pos c, ha]
theorem marks_not {rs : List Rc} {k : Nat} (h : k < rs.length) (c : ¬ k % 4 = 0) : marks (rs.take (k + 1)) = marks (rs.take k) := by
  rw [marks_next h, if_neg c, List.append_nil]
theorem tmod4 (k : Nat) : Int.tmod (k : Int) 4 = ((k % 4 : Nat) : Int) := by
  rw [Int.tmod_eq_emod_of_nonneg (by omega)]
  omega
/-- Marks and an error, in a row of the call's own. -/
def GivesMarksE (l : List Mk) (M : Nat) (w : World) (e : Ending) (w' : World) : Prop :=
  ∃ A c, e = .returned (.tuple #[.slice A M c, .int .i64 0]) ∧ w'.ownsRow w.heap.size 42 2 (.slice A M c) M (mflat l) ∧ Below w.heap.size w w'

set_option maxRecDepth 100000 in
set_option maxHeartbeats 4000000 in
/-- index.Marks, of a segment that may not be. -/
theorem Marks_no (b : Int) (rs : List Rc) (N : Nat) (A : Option Addr) (c B : Nat) (w : World) (hN : rs.length = N) (hm : N ≤ 9223372036854775807) (hcap : N ≤ c) (hB : B ≤ w.heap.size) (h : RecsAt w B A rs) (hS : segB b rs = false) :
    Calls Try.prog 7 #[.agg #[.int .i64 b, .slice A N c]] w fun e w' => e = .returned (.tuple #[.slice none 0 0, .int .i64 1]) ∧ Below w.heap.size w w' := by
  have R0 := Lib.hid (RBox.new w 24 (sarr b A N c))
  have HC := Lib.hid (fun W (hb : Below w.heap.size w W) => SegCheck_is b rs N A c B 1 W hN hm hcap (Nat.le_trans hB hb.size) (h.below (hb.mono hB)) (segE_no (by rw [hS]; decide)))
  obtain ⟨p, hp⟩ : ∃ p, w.heap.size = p := ⟨_, rfl⟩
  obtain ⟨W0, hW⟩ : ∃ W0, w.alloc (.cells (sarr b A N c) 24) = W0 := ⟨_, rfl⟩
  rw [hW, hp] at R0
  unfold sarr at R0 hW
  have HW := Lib.hid hW
  have HP := Lib.hid hp
  clear hW hp h hS hN hB
  go_enter Try.func7, Try.ntmps7
  go_upto_region 1 with fail
  rw [HW.out, HP.out]
  clear HW
  have hld := R0.out.loadS rfl
  go_wp2_with (refine wpList_load_any (by rfl) 24 (.tmp 1) rfl p 0 rfl _ hld ?_; simp only [Act.put])
  refine (HC.out _ R0.out.out.2).mono ?_
  rintro e w1 ⟨rfl, hb1⟩
  have R1 := Lib.hid (R0.out.below hb1)
  clear R0 hb1 hld HC
  go_wp2_with fail
  go_ret2
  exact ⟨rfl, R1.out.out.2⟩

set_option maxRecDepth 100000 in
set_option maxHeartbeats 8000000 in
/-- index.Marks, of a segment that may be. -/
theorem Marks_yes (b : Int) (rs : List Rc) (N : Nat) (A : Option Addr) (c B : Nat) (l : List Mk) (M : Nat) (w : World) (hN : rs.length = N) (hm : N ≤ 9223372036854775807) (hcap : N ≤ c) (hB : B ≤ w.heap.size) (h : RecsAt w B A rs) (hS : segB b rs = true) (hl : marks rs = l) (hM : l.length = M) :
    Calls Try.prog 7 #[.agg #[.int .i64 b, .slice A N c]] w (GivesMarksE l M w) := by
  obtain ⟨i0, hi, hz0, hz1, hz2⟩ := info_parts info_mmore
  have R0 := Lib.hid (RBox.new w 24 (sarr b A N c))
  have HC := Lib.hid (fun W (hb : Below w.heap.size w W) => SegCheck_is b rs N A c B 0 W hN hm hcap (Nat.le_trans hB hb.size) (h.below (hb.mono hB)) (segE_yes hS))
  obtain ⟨p, hp⟩ : ∃ p, w.heap.size = p := ⟨_, rfl⟩
  obtain ⟨W0, hW⟩ : ∃ W0, w.alloc (.cells (sarr b A N c) 24) = W0 := ⟨_, rfl⟩
  rw [hW, hp] at R0
  unfold sarr at R0 hW
  have HW := Lib.hid hW
  have HP := Lib.hid hp
  have H := Lib.hid (h.mono hB)
  have HNN := Lib.hid hN
  have HS := Lib.hid hS
  have HZ := Lib.hid (seg_size hS)
  have hle := seg_len hS
  rw [HNN.out] at hle
  have HL := Lib.hid hl
  have HM := Lib.hid hM
  clear hW hp h hS hN hB hl hM
  go_enter Try.func7, Try.ntmps7
  go_upto_region 1 with fail
  rw [HW.out, HP.out]
  clear HW
  have hld := R0.out.loadS rfl
  go_wp2_with (refine wpList_load_any (by rfl) 24 (.tmp 1) rfl p 0 rfl _ hld ?_; simp only [Act.put])
  refine (HC.out _ R0.out.out.2).mono ?_
  rintro e w1 ⟨rfl, hb1⟩
  have R1 := Lib.hid (R0.out.below hb1)
  clear R0 hb1 hld HC
  have d1 : w1.cell? ⟨p, 1, none⟩ = some (.slice A N c) := R1.out.cell 1
  go_wp2_with fail
  clear d1
  go_loopw [5, 6, 19] (fun mv v i wr => ∃ (m : Value) (k a q : Nat), m = mv ∧ k ≤ N ∧ q ≤ k ∧ (allL (rs.take k)).length = a ∧ v = .int .i64 (a : Int) ∧ i = .int .i64 (k : Int) ∧ RBox w p #[.int .i64 b, .slice A N c] wr ∧ (marks (rs.take k)).length = q ∧ wr.ownsRow (p + 1) 42 2 m q (mflat (marks (rs.take k)))) (fun _ _ i _ => N - (RowKit.intOf i).toNat)
  case atStart => exact ⟨_, 0, 0, 0, rfl, Nat.zero_le _, Nat.le_refl _, rfl, rfl, rfl, R1.out, by rw [List.take_zero]; rfl, by rw [List.take_zero]; exact World.ownsRow_nil _ _ _ _⟩
  case round =>
    obtain ⟨m, k, a, q, hmv, hk, hqk, ha, rfl, rfl, hbx, hq, hown⟩ := hrel
    subst hmv
    have HA := Lib.hid ha
    have HQ := Lib.hid hq
    have R := Lib.hid hbx
    have HO := Lib.hid hown
    clear hbx R1 ha hq hown
    by_cases hlt : k < N
    · have hlr : k < rs.length := by rw [HNN.out]; exact hlt
      obtain ⟨b0, o0, rfl, hb0, hc⟩ := (H.out.below R.out.out.2).some_ (by omega)
      have hr := hc k hlr
      have hmay := seg_may HS.out _ (List.getElem_mem hlr)
      obtain ⟨z, hz⟩ : ∃ z, (recL rs[k]).length = z := ⟨_, rfl⟩
      have HRS := Lib.hid (fun W => RecSize_good rs[k] z W hmay hz)
      have HA2 : Hid ((allL (rs.take (k + 1))).length = a + z) := by show _ = _; rw [all_next hlr, HA.out, hz]
      have hsum : a + z ≤ 420000 := by
        rw [← HA2.out]
        exact Nat.le_trans (all_take_le _ _) HZ.out
      have HMY := Lib.hid (fun c : k % 4 = 0 => marks_yes hlr c HA.out)
      have HMN := Lib.hid (fun c : ¬ k % 4 = 0 => marks_not hlr c)
      clear HA hc hmay hz
      unfold ragg at HRS
      generalize rs[k] = r at hr HRS HMY
      obtain ⟨o, t, key, bod, qs, g⟩ := r
      obtain ⟨c0, c1, c2, c3, c4, c5⟩ := hr
      dsimp only at c0 c1 c2 c3 c4 c5 HRS HMY
      generalize str key = ks at c2 HRS
      generalize str bod = bs at c3 HRS
      have e1 : (k : Int) < (N : Int) := by omega
      obtain ⟨g9, W4, hg9, hW4, hbn, hbx, hbl⟩ := box_new R.out.out.2 (rarr o t ks bs qs g)
      have HBN := Lib.hid hbn
      have HBX := Lib.hid hbx
      have HO5 := Lib.hid (own_below HO.out hbl)
      have R5 := Lib.hid (R.out.below hbl)
      have hp1 : Hid (p + 1 ≤ g9) := by show _ ≤ _; rw [← hg9]; exact R.out.out.1.lt
      have hlt5 : Hid (g9 < (W4.setRow g9 (rarr o t ks bs qs g)).heap.size) := hbx.out.1.lt
      have HNE : Hid (¬ some g9 = m.ownBlock) := by
        show ¬ _
        intro e
        have := (HO.out.lt g9 e.symm).2
        omega
      unfold zcells at hW4
      have HW4 := Lib.hid hW4
      clear hW4 hbn hbx hbl hlr R HO
      unfold rarr at HBX HRS HO5 R5 hlt5
      go_upto_region 9 with (rw [HW4.out]; refine wpList_store_whole rfl 44 (.tmp 8) (.tmp 23) rfl g9 _ rfl rfl zcells HBN.out info_rec rfl (by simp [Value.oneCell']) ?_; simp only [Act.put])
      clear HW4 HBN c0 c1 c2 c3 c4 c5 hg9
      generalize World.setRow _ _ _ = w5 at HBX HO5 R5 hlt5 ⊢
      have htm := tmod4 k
      by_cases c4 : k % 4 = 0
      · have HMK := Lib.hid (HMY.out c4)
        have HQ2 : Hid ((marks (rs.take (k + 1))).length = q + 1) := by show _ = _; rw [HMK.out, List.length_append, HQ.out]; rfl
        have HF2 : Hid (mflat (marks (rs.take (k + 1))) = mflat (marks (rs.take k)) ++ [.int .i64 o, .int .i64 (a : Int)]) := by show _ = _; rw [HMK.out, mflat_snoc]; rfl
        rw [c4] at htm
        have d0 : w5.cell? ⟨g9, 0, none⟩ = some (.int .i64 o) := HBX.out.cell 0
        have hs5 := R5.out.out.2.size
        have hp5 := R5.out.out.1.lt
        have hpw : w.heap.size ≤ p + 1 := by have := HP.out; omega
        clear HMY HMN HMK HQ c4
        go_wp2_with (at_builtin; refine wpList_append_own _ rfl _ _ 29 rfl (p + 1) 42 i0 (.agg #[.int .i64 0, .int .i64 0]) 2 16 Try.underlying29 hi hz0 hz1 hz2 rfl (by decide) _ _ _ rfl (HO5.out.alloc _) ⟨w5.heap.size, 0, none⟩ 1 1 [.int .i64 o, .int .i64 (a : Int)] rfl rfl ?c1 ?c2 ?c3 ?c4 ?c5 ?_)
        case c1 => exact fun j u h => cells_new w5 _ [.int .i64 o, .int .i64 (a : Int)] j u h
        case c2 => exact fun u hu => by simp at hu; rcases hu with rfl | rfl <;> rfl
        case c3 => unfold maxLen; omega
        case c4 => first | omega | (simp; omega)
        case c5 => first | omega | (simp; omega)
        intro v' w7 hown' hgrow _
        have R7 := Lib.hid (RBox.mk (blk_grown R5.out.out.1 HO5.out (Nat.lt_succ_self _) hgrow) (R5.out.out.2.trans (below_alloc_grown hs5 (own_mono HO5.out hpw) hgrow)))
        have B7 := Lib.hid (blk_grown_ne HBX.out.out.1 HNE.out hgrow)
        have HO7 : Hid (w7.ownsRow (p + 1) 42 2 v' (q + 1) (mflat (marks (rs.take (k + 1))))) := by show World.ownsRow _ _ _ _ _ _ _; rw [HF2.out]; exact hown'
        clear hown' hgrow HO5 R5 HBX hs5 hp5 hpw HF2 d0 HNE hlt5
        have hld := load_blk B7.out rfl
        go_wp2_with (refine wpList_load_any (by rfl) 44 (.tmp 8) rfl g9 0 rfl _ hld ?_; simp only [Act.put])
        refine (HRS.out _).mono ?_
        rintro e w8 ⟨rfl, hb8⟩
        have R8 := Lib.hid (R7.out.below hb8)
        have HO8 := Lib.hid (own_below HO7.out hb8)
        clear R7 HO7 B7 hb8 hld HRS
        have e2 : (a : Int) + (z : Int) ≤ 420000 := by omega
        go_wp2_with fail
        go_roundw
        case rel => exact ⟨_, k + 1, a + z, q + 1, rfl, hlt, by omega, HA2.out, by go_num, by go_num, R8.out, HQ2.out, HO8.out⟩
        case measure => simp [RowKit.intOf]; omega
      · have htd : decide (Int.tmod (k : Int) 4 = 0) = false := decide_eq_false (by rw [htm]; omega)
        have HQ2 : Hid ((marks (rs.take (k + 1))).length = q) := by show _ = _; rw [HMN.out c4]; exact HQ.out
        have HO7 : Hid (w5.ownsRow (p + 1) 42 2 m q (mflat (marks (rs.take (k + 1))))) := by show World.ownsRow _ _ _ _ _ _ _; rw [HMN.out c4]; exact HO5.out
        clear HMY HMN HQ HO5 HNE hlt5
        have hld := HBX.out.load rfl
        go_wp2_with (refine wpList_load_any (by rfl) 44 (.tmp 8) rfl g9 0 rfl _ hld ?_; simp only [Act.put])
        refine (HRS.out _).mono ?_
        rintro e w8 ⟨rfl, hb8⟩
        have R8 := Lib.hid (R5.out.below hb8)
        have HO8 := Lib.hid (own_below HO7.out hb8)
        clear R5 HO7 HBX hb8 hld HRS
        have e2 : (a : Int) + (z : Int) ≤ 420000 := by omega
        go_wp2_with fail
        go_roundw
        case rel => exact ⟨_, k + 1, a + z, q, rfl, hlt, by omega, HA2.out, by go_num, by go_num, R8.out, HQ2.out, HO8.out⟩
        case measure => simp [RowKit.intOf]; omega
    · obtain rfl : k = N := by omega
      have hle2 : rs.take k = rs := List.take_of_length_le (by rw [HNN.out]; exact Nat.le_refl _)
      have hown := own_mono HO.out (show w.heap.size ≤ p + 1 by have := HP.out; omega)
      have hql : q = M := by rw [← HQ.out, ← HM.out, ← HL.out, hle2]
      rw [hle2, HL.out, hql] at hown
      obtain ⟨A', c', hv⟩ := row_slice hown
      have HO' := Lib.hid hown
      clear hown HO HQ hql hle2
      subst hv
      go_wp2_with fail
      go_ret2
      exact ⟨A', c', rfl, HO'.out, R.out.out.2⟩
end Go.Proofs.Ytijpieaanlnibaa.Mkd
