/- Package rec: whether a record may be; how many bytes it has; its flags. -/
import Derived.Test.YtimoncjdfmfojaaDoorRcWhole
import Derived.Test.YtimoncjdfmfojaaDoorRcOr
import Derived.Deep.Cut
namespace Go.Proofs.YtimoncjdfmfojaaDoor
open Go.RowKit Go.Lib Rcd

set_option maxRecDepth 100000 in
set_option maxHeartbeats 1000000 in
theorem isWithin_is (n a b : Int) (X : Bool) (w : World) (h : decide (a ≤ n ∧ n ≤ b) = X) :
    Calls Tryd.prog 31 #[.int .i64 n, .int .i64 a, .int .i64 b] w fun e w' => e = .returned (.bool X) ∧ w = w' := by
  have HX := Lib.hid h
  clear h
  by_cases h1 : a ≤ n
  · by_cases h2 : n ≤ b
    · go_enter Tryd.func31, Tryd.ntmps31
      go_wp2
      go_ret
      exact ⟨ret_bool (by rw [← HX.out]; exact (decide_eq_true (by omega)).symm), rfl⟩
    · go_enter Tryd.func31, Tryd.ntmps31
      go_wp2
      go_ret
      exact ⟨ret_bool (by rw [← HX.out]; exact (decide_eq_false (by omega)).symm), rfl⟩
  · go_enter Tryd.func31, Tryd.ntmps31
    go_wp2
    go_ret
    exact ⟨ret_bool (by rw [← HX.out]; exact (decide_eq_false (by omega)).symm), rfl⟩

theorem ne_empty {b : ByteArray} (h : ¬ b = ⟨#[]⟩) : b.toList.isEmpty = false ∧ ¬ b.toList = [] := by
  have : ¬ b.toList = [] := fun e => h (by rw [← data_str b, ← toList_data_eq, e]; rfl)
  exact ⟨by rw [List.isEmpty_eq_false_iff]; exact this, this⟩
def mayE (r : Rc) : Int := if mayB r then 0 else 1
/-- Whether a record may be, test by test. -/
theorem may_ways (o t : Int) (k b : ByteArray) (q : Int) (g : Bool) :
    (decide (0 ≤ o ∧ o ≤ 1099511627775) = false ∧ mayE ⟨o, t, k.data.toList, b.data.toList, q, g⟩ = 1) ∨
    (decide (0 ≤ o ∧ o ≤ 1099511627775) = true ∧ decide (0 ≤ t ∧ t ≤ 1099511627776) = false ∧ mayE ⟨o, t, k.data.toList, b.data.toList, q, g⟩ = 1) ∨
    (decide (0 ≤ o ∧ o ≤ 1099511627775) = true ∧ decide (0 ≤ t ∧ t ≤ 1099511627776) = true ∧ decide ((k.size : Int) ≤ 1024) = false ∧ mayE ⟨o, t, k.data.toList, b.data.toList, q, g⟩ = 1) ∨
    (decide (0 ≤ o ∧ o ≤ 1099511627775) = true ∧ decide (0 ≤ t ∧ t ≤ 1099511627776) = true ∧ decide ((k.size : Int) ≤ 1024) = true ∧ decide ((b.size : Int) ≤ 1024) = false ∧ mayE ⟨o, t, k.data.toList, b.data.toList, q, g⟩ = 1) ∨
    (decide (0 ≤ o ∧ o ≤ 1099511627775) = true ∧ decide (0 ≤ t ∧ t ≤ 1099511627776) = true ∧ decide ((k.size : Int) ≤ 1024) = true ∧ decide ((b.size : Int) ≤ 1024) = true ∧ decide (0 ≤ q ∧ q ≤ 2) = false ∧ mayE ⟨o, t, k.data.toList, b.data.toList, q, g⟩ = 1) ∨
    (decide (0 ≤ o ∧ o ≤ 1099511627775) = true ∧ decide (0 ≤ t ∧ t ≤ 1099511627776) = true ∧ decide ((k.size : Int) ≤ 1024) = true ∧ decide ((b.size : Int) ≤ 1024) = true ∧ decide (0 ≤ q ∧ q ≤ 2) = true ∧ b = ⟨#[]⟩ ∧ mayE ⟨o, t, k.data.toList, b.data.toList, q, g⟩ = 0) ∨
    (decide (0 ≤ o ∧ o ≤ 1099511627775) = true ∧ decide (0 ≤ t ∧ t ≤ 1099511627776) = true ∧ decide ((k.size : Int) ≤ 1024) = true ∧ decide ((b.size : Int) ≤ 1024) = true ∧ decide (0 ≤ q ∧ q ≤ 2) = true ∧ ¬ b = ⟨#[]⟩ ∧ g = false ∧ mayE ⟨o, t, k.data.toList, b.data.toList, q, g⟩ = 0) ∨
    (decide (0 ≤ o ∧ o ≤ 1099511627775) = true ∧ decide (0 ≤ t ∧ t ≤ 1099511627776) = true ∧ decide ((k.size : Int) ≤ 1024) = true ∧ decide ((b.size : Int) ≤ 1024) = true ∧ decide (0 ≤ q ∧ q ≤ 2) = true ∧ ¬ b = ⟨#[]⟩ ∧ g = true ∧ mayE ⟨o, t, k.data.toList, b.data.toList, q, g⟩ = 1) := by
  have hk : k.data.toList.length = k.size := by rw [Array.length_toList]; rfl
  have hb : b.data.toList.length = b.size := by rw [Array.length_toList]; rfl
  have he : b.data.toList = [] ↔ b = ⟨#[]⟩ := ⟨fun h => by rw [← data_str b, h]; rfl, fun h => by rw [h]⟩
  have key : mayB ⟨o, t, k.data.toList, b.data.toList, q, g⟩ = decide ((0 ≤ o ∧ o ≤ 1099511627775) ∧ (0 ≤ t ∧ t ≤ 1099511627776) ∧ (k.size : Int) ≤ 1024 ∧ (b.size : Int) ≤ 1024 ∧ (0 ≤ q ∧ q ≤ 2) ∧ (b = ⟨#[]⟩ ∨ g = false)) := by
    rw [Bool.eq_iff_iff, may_iff, decide_eq_true_iff, ← he]
    simp only [hk, hb]
    constructor
    · rintro ⟨h1, h2, h3, h4, h5, h6, h7, h8, h9⟩
      exact ⟨⟨h1, h2⟩, ⟨h3, h4⟩, by omega, by omega, ⟨h7, h8⟩, h9⟩
    · rintro ⟨⟨h1, h2⟩, ⟨h3, h4⟩, h5, h6, ⟨h7, h8⟩, h9⟩
      exact ⟨h1, h2, h3, h4, by omega, by omega, h7, h8, h9⟩
  unfold mayE
  rw [key]
  clear key
  by_cases c1 : 0 ≤ o ∧ o ≤ 1099511627775
  · by_cases c2 : 0 ≤ t ∧ t ≤ 1099511627776
    · by_cases c3 : (k.size : Int) ≤ 1024
      · by_cases c4 : (b.size : Int) ≤ 1024
        · by_cases c5 : 0 ≤ q ∧ q ≤ 2
          · by_cases c6 : b = ⟨#[]⟩
            · exact .inr (.inr (.inr (.inr (.inr (.inl ⟨decide_eq_true c1, decide_eq_true c2, decide_eq_true c3, decide_eq_true c4, decide_eq_true c5, c6, by rw [decide_eq_true ⟨c1, c2, c3, c4, c5, .inl c6⟩]; rfl⟩)))))
            · cases g with
              | false => exact .inr (.inr (.inr (.inr (.inr (.inr (.inl ⟨decide_eq_true c1, decide_eq_true c2, decide_eq_true c3, decide_eq_true c4, decide_eq_true c5, c6, rfl, by rw [decide_eq_true ⟨c1, c2, c3, c4, c5, .inr rfl⟩]; rfl⟩))))))
              | true => exact .inr (.inr (.inr (.inr (.inr (.inr (.inr ⟨decide_eq_true c1, decide_eq_true c2, decide_eq_true c3, decide_eq_true c4, decide_eq_true c5, c6, rfl, by rw [decide_eq_false (by rintro ⟨_, _, _, _, _, h | h⟩; exact c6 h; cases h)]; rfl⟩))))))
          · exact .inr (.inr (.inr (.inr (.inl ⟨decide_eq_true c1, decide_eq_true c2, decide_eq_true c3, decide_eq_true c4, decide_eq_false c5, by rw [decide_eq_false (fun h => c5 h.2.2.2.2.1)]; rfl⟩))))
        · exact .inr (.inr (.inr (.inl ⟨decide_eq_true c1, decide_eq_true c2, decide_eq_true c3, decide_eq_false c4, by rw [decide_eq_false (fun h => c4 h.2.2.2.1)]; rfl⟩)))
      · exact .inr (.inr (.inl ⟨decide_eq_true c1, decide_eq_true c2, decide_eq_false c3, by rw [decide_eq_false (fun h => c3 h.2.2.1)]; rfl⟩))
    · exact .inr (.inl ⟨decide_eq_true c1, decide_eq_false c2, by rw [decide_eq_false (fun h => c2 h.2.1)]; rfl⟩)
  · exact .inl ⟨decide_eq_false c1, by rw [decide_eq_false (fun h => c1 h.1)]; rfl⟩

set_option maxRecDepth 100000 in
set_option maxHeartbeats 4000000 in
theorem Check_parts (o t : Int) (k b : ByteArray) (q : Int) (g : Bool) (E : Int) (w : World) (hE : mayE ⟨o, t, k.data.toList, b.data.toList, q, g⟩ = E) :
    Calls Tryd.prog 13 #[.agg (rarr o t k b q g)] w fun e w' => e = .returned (.int .i64 E) ∧ Below w.heap.size w w' := by
  unfold rarr
  rcases may_ways o t k b q g with ⟨h1, h⟩ | ⟨h1, h2, h⟩ | ⟨h1, h2, h3, h⟩ | ⟨h1, h2, h3, h4, h⟩ | ⟨h1, h2, h3, h4, h5, h⟩ | ⟨h1, h2, h3, h4, h5, h6, h⟩ | ⟨h1, h2, h3, h4, h5, h6, h7, h⟩ | ⟨h1, h2, h3, h4, h5, h6, h7, h⟩
  · obtain rfl : E = 1 := hE.symm.trans h
    have Ho := Lib.hid h1
    clear h hE h1
    go_enter Tryd.func13, Tryd.ntmps13
    go_wp2_with (go_at_call 31; refine (isWithin_is _ _ _ _ _ (by first | with_reducible exact Ho.out)).mono ?_; rintro e w' ⟨rfl, rfl⟩)
    go_ret
    exact ⟨rfl, (Below.refl _ _).alloc (Nat.le_refl _) _⟩
  · obtain rfl : E = 1 := hE.symm.trans h
    have Ho := Lib.hid h1
    have Ht := Lib.hid h2
    clear h hE h1 h2
    go_enter Tryd.func13, Tryd.ntmps13
    go_wp2_with (go_at_call 31; refine (isWithin_is _ _ _ _ _ (by first | with_reducible exact Ho.out | with_reducible exact Ht.out)).mono ?_; rintro e w' ⟨rfl, rfl⟩)
    go_ret
    exact ⟨rfl, (Below.refl _ _).alloc (Nat.le_refl _) _⟩
  · obtain rfl : E = 1 := hE.symm.trans h
    have Ho := Lib.hid h1
    have Ht := Lib.hid h2
    clear h hE h1 h2
    go_enter Tryd.func13, Tryd.ntmps13
    go_wp2_with (go_at_call 31; refine (isWithin_is _ _ _ _ _ (by first | with_reducible exact Ho.out | with_reducible exact Ht.out)).mono ?_; rintro e w' ⟨rfl, rfl⟩)
    go_ret
    exact ⟨rfl, (Below.refl _ _).alloc (Nat.le_refl _) _⟩
  · obtain rfl : E = 1 := hE.symm.trans h
    have Ho := Lib.hid h1
    have Ht := Lib.hid h2
    clear h hE h1 h2
    go_enter Tryd.func13, Tryd.ntmps13
    go_wp2_with (go_at_call 31; refine (isWithin_is _ _ _ _ _ (by first | with_reducible exact Ho.out | with_reducible exact Ht.out)).mono ?_; rintro e w' ⟨rfl, rfl⟩)
    go_ret
    exact ⟨rfl, (Below.refl _ _).alloc (Nat.le_refl _) _⟩
  · obtain rfl : E = 1 := hE.symm.trans h
    have Ho := Lib.hid h1
    have Ht := Lib.hid h2
    have Hq := Lib.hid h5
    clear h hE h1 h2 h5
    go_enter Tryd.func13, Tryd.ntmps13
    go_wp2_with (go_at_call 31; refine (isWithin_is _ _ _ _ _ (by first | with_reducible exact Ho.out | with_reducible exact Ht.out | with_reducible exact Hq.out)).mono ?_; rintro e w' ⟨rfl, rfl⟩)
    go_ret
    exact ⟨rfl, (Below.refl _ _).alloc (Nat.le_refl _) _⟩
  · obtain rfl : E = 0 := hE.symm.trans h
    have Ho := Lib.hid h1
    have Ht := Lib.hid h2
    have Hq := Lib.hid h5
    clear h hE h1 h2 h5
    subst h6
    go_enter Tryd.func13, Tryd.ntmps13
    go_wp2_with (go_at_call 31; refine (isWithin_is _ _ _ _ _ (by first | with_reducible exact Ho.out | with_reducible exact Ht.out | with_reducible exact Hq.out)).mono ?_; rintro e w' ⟨rfl, rfl⟩)
    go_ret
    exact ⟨rfl, (Below.refl _ _).alloc (Nat.le_refl _) _⟩
  · obtain rfl : E = 0 := hE.symm.trans h
    have Ho := Lib.hid h1
    have Ht := Lib.hid h2
    have Hq := Lib.hid h5
    clear h hE h1 h2 h5
    have hi := ne_empty h6
    obtain ⟨hi1, hi2⟩ := hi
    clear h6
    go_enter Tryd.func13, Tryd.ntmps13
    go_wp2_with (go_at_call 31; refine (isWithin_is _ _ _ _ _ (by first | with_reducible exact Ho.out | with_reducible exact Ht.out | with_reducible exact Hq.out)).mono ?_; rintro e w' ⟨rfl, rfl⟩)
    go_ret
    exact ⟨rfl, (Below.refl _ _).alloc (Nat.le_refl _) _⟩
  · obtain rfl : E = 1 := hE.symm.trans h
    have Ho := Lib.hid h1
    have Ht := Lib.hid h2
    have Hq := Lib.hid h5
    clear h hE h1 h2 h5
    have hi := ne_empty h6
    obtain ⟨hi1, hi2⟩ := hi
    clear h6
    go_enter Tryd.func13, Tryd.ntmps13
    go_wp2_with (go_at_call 31; refine (isWithin_is _ _ _ _ _ (by first | with_reducible exact Ho.out | with_reducible exact Ht.out | with_reducible exact Hq.out)).mono ?_; rintro e w' ⟨rfl, rfl⟩)
    go_ret
    exact ⟨rfl, (Below.refl _ _).alloc (Nat.le_refl _) _⟩
/-- rec.Check. -/
theorem Check_is (r : Rc) (E : Int) (w : World) (hE : mayE r = E) :
    Calls Tryd.prog 13 #[ragg r] w fun e w' => e = .returned (.int .i64 E) ∧ Below w.heap.size w w' :=
  Check_parts r.o r.t (str r.k) (str r.b) r.q r.g E w (by rw [str_data, str_data]; exact hE)

theorem or4 : ∀ q : Nat, q < 3 → bits .or .i64 (q : Int) 4 = ((q + 4 : Nat) : Int) := by decide
set_option maxRecDepth 100000 in
set_option maxHeartbeats 1000000 in
/-- rec.flagsOf. -/
theorem flagsOf_is (o t : Int) (k b : ByteArray) (q : Nat) (g : Bool) (F : Nat) (w : World) (hq : q < 3) (hF : (q + if g then 4 else 0) = F) :
    Calls Tryd.prog 47 #[.agg (rarr o t k b (q : Int) g)] w fun e w' => e = .returned (.int .i64 (F : Int)) ∧ Below w.heap.size w w' := by
  subst hF
  have h4 := or4 q hq
  unfold rarr
  cases g with
  | true =>
    go_enter Tryd.func47, Tryd.ntmps47
    go_wp2_with fail
    go_ret
    exact ⟨ret_int (by simp), (Below.refl _ _).alloc (Nat.le_refl _) _⟩
  | false =>
    go_enter Tryd.func47, Tryd.ntmps47
    go_wp2_with fail
    go_ret
    exact ⟨ret_int (by simp), (Below.refl _ _).alloc (Nat.le_refl _) _⟩

/-- A block of the call's own whose cells are known, and all that was there ahead of the call. -/
@[irreducible] def RBox (w0 : World) (g : Nat) (cs : Array Value) (W : World) : Prop := Blk W g cs ∧ Below w0.heap.size w0 W
section
variable {w0 W W' : World} {g : Nat} {cs : Array Value}
theorem RBox.mk (h1 : Blk W g cs) (h2 : Below w0.heap.size w0 W) : RBox w0 g cs W := by unfold RBox; exact ⟨h1, h2⟩
theorem RBox.out (h : RBox w0 g cs W) : Blk W g cs ∧ Below w0.heap.size w0 W := by unfold RBox at h; exact h
theorem RBox.new (w : World) (T : TypeId) (cs : Array Value) : RBox w w.heap.size cs (w.alloc (.cells cs T)) := .mk (Blk.new w T cs) ((Below.refl _ _).alloc (Nat.le_refl _) _)
theorem RBox.below (h : RBox w0 g cs W) (hb : Below W.heap.size W W') : RBox w0 g cs W' := .mk (h.out.1.below hb) (h.out.2.trans (hb.mono h.out.2.size))
theorem RBox.drewN (h : RBox w0 g cs W) (n : Nat) : RBox w0 g cs (W.drewN n) := h.below (below_drewN (Below.refl _ _) n)
theorem RBox.cell (h : RBox w0 g cs W) (i : Nat) : W.cell? ⟨g, i, none⟩ = cs[i]? := h.out.1.cell i
theorem RBox.load (h : RBox w0 g cs W) (h6 : cs.size = 6) : (loadVar 28 ⟨g, 0, none⟩).run Tryd.prog W = .ok (.agg cs) W := load_blk h.out.1 h6
end

theorem mayE_zero {r : Rc} (h : mayE r = 0) : mayB r = true := by
  unfold mayE at h
  cases hm : mayB r with
  | true => rfl
  | false => rw [hm] at h; cases h
set_option maxRecDepth 100000 in
set_option maxHeartbeats 2000000 in
theorem Size_parts (o t : Int) (k b : ByteArray) (q : Int) (g : Bool) (N : Nat) (E : Int) (w : World) (hE : mayE ⟨o, t, k.data.toList, b.data.toList, q, g⟩ = E) (hN : (E = 0 ∧ k.size ≤ 1024 ∧ b.size ≤ 1024 ∧ N = 25 + k.size + b.size) ∨ (¬ E = 0 ∧ N = 0)) :
    Calls Tryd.prog 11 #[.agg (rarr o t k b q g)] w fun e w' => e = .returned (.tuple #[.int .i64 (N : Int), .int .i64 E]) ∧ Below w.heap.size w w' := by
  have HC := Lib.hid (fun W => Check_parts o t k b q g E W hE)
  have R0 := Lib.hid (RBox.new w 28 (rarr o t k b q g))
  obtain ⟨W0, hW⟩ : ∃ W0, w.alloc (.cells (rarr o t k b q g) 28) = W0 := ⟨_, rfl⟩
  rw [hW] at R0
  unfold rarr at hW R0 HC ⊢
  have HW := Lib.hid hW
  clear hW hE
  rcases hN with ⟨rfl, m1, m2, rfl⟩ | ⟨h0, rfl⟩
  · go_enter Tryd.func11, Tryd.ntmps11
    go_upto_region 1 with fail
    rw [HW.out]
    clear HW
    generalize Value.agg _ = v1
    obtain ⟨p, hp⟩ : ∃ p, w.heap.size = p := ⟨_, rfl⟩
    rw [hp] at R0 ⊢
    clear hp
    have hld := R0.out.load rfl
    go_wp2_with (refine wpList_load_any (by rfl) 28 (.tmp 1) rfl p 0 rfl _ hld ?_; simp only [Act.put])
    refine (HC.out _).mono ?_
    rintro e w1 ⟨rfl, hb1⟩
    have R1 := Lib.hid (R0.out.below hb1)
    have d2 : w1.cell? ⟨p, 2, none⟩ = some (.string k) := R1.out.cell 2
    have d3 : w1.cell? ⟨p, 3, none⟩ = some (.string b) := R1.out.cell 3
    clear R0 hb1 hld HC
    go_wp2_with fail
    go_ret2
    refine ⟨?_, R1.out.out.2⟩
    simp
  · have h0b : (E == 0) = false := by rw [beq_eq_false_iff_ne]; exact h0
    have h0c : (E != 0) = true := by rw [bne_iff_ne]; exact h0
    rw [show ((0 : Nat) : Int) = 0 from rfl]
    go_enter Tryd.func11, Tryd.ntmps11
    go_upto_region 1 with fail
    rw [HW.out]
    clear HW
    generalize Value.agg _ = v1
    obtain ⟨p, hp⟩ : ∃ p, w.heap.size = p := ⟨_, rfl⟩
    rw [hp] at R0 ⊢
    clear hp
    have hld := R0.out.load rfl
    go_wp2_with (refine wpList_load_any (by rfl) 28 (.tmp 1) rfl p 0 rfl _ hld ?_; simp only [Act.put])
    refine (HC.out _).mono ?_
    rintro e w1 ⟨rfl, hb1⟩
    have R1 := Lib.hid (R0.out.below hb1)
    clear R0 hb1 hld HC
    go_wp2_with fail
    go_ret2
    exact ⟨rfl, R1.out.out.2⟩
end Go.Proofs.YtimoncjdfmfojaaDoor
