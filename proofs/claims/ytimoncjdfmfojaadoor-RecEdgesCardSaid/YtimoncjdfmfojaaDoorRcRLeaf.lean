/- The document's own answer: whether a record may be. The statements' small functions. -/
import Derived.Test.YtimoncjdfmfojaaDoorRcCheck
import Derived.Test.YtimoncjdfmfojaaDoorRcLong
import Derived.Test.YtimoncjdfmfojaaDoorInTake
namespace Go.Proofs.YtimoncjdfmfojaaDoor
open Go.RowKit Go.Lib Vbi Rcd

set_option maxRecDepth 100000 in
set_option maxHeartbeats 1000000 in
theorem RNum_is (n b : Int) (X : Bool) (w : World) (h : decide (0 ≤ n ∧ n ≤ b) = X) :
    Calls Tryd.prog 24 #[.int .i64 n, .int .i64 b] w fun e w' => e = .returned (.bool X) ∧ w = w' := by
  have HX := Lib.hid h
  clear h
  by_cases h1 : 0 ≤ n
  · by_cases h2 : n ≤ b
    · go_enter Tryd.func24, Tryd.ntmps24
      go_wp2
      go_ret
      exact ⟨ret_bool (by rw [← HX.out]; exact (decide_eq_true (by omega)).symm), rfl⟩
    · go_enter Tryd.func24, Tryd.ntmps24
      go_wp2
      go_ret
      exact ⟨ret_bool (by rw [← HX.out]; exact (decide_eq_false (by omega)).symm), rfl⟩
  · go_enter Tryd.func24, Tryd.ntmps24
    go_wp2
    go_ret
    exact ⟨ret_bool (by rw [← HX.out]; exact (decide_eq_false (by omega)).symm), rfl⟩

theorem may_of_e {r : Rc} {E : Int} (h : mayE r = E) : mayB r = decide (E = 0) := by
  unfold mayE at h
  cases hm : mayB r with
  | true => rw [hm] at h; exact (decide_eq_true h.symm).symm
  | false => rw [hm] at h; exact (decide_eq_false (by rw [← h]; decide)).symm
set_option maxRecDepth 100000 in
set_option maxHeartbeats 4000000 in
theorem RRec_parts (o t : Int) (k b : ByteArray) (q : Int) (g : Bool) (X : Bool) (w : World) (hX : mayB ⟨o, t, k.data.toList, b.data.toList, q, g⟩ = X) :
    Calls Tryd.prog 8 #[.agg (rarr o t k b q g)] w fun e w' => e = .returned (.bool X) ∧ Below w.heap.size w w' := by
  unfold rarr
  rcases may_ways o t k b q g with ⟨h1, h⟩ | ⟨h1, h2, h⟩ | ⟨h1, h2, h3, h⟩ | ⟨h1, h2, h3, h4, h⟩ | ⟨h1, h2, h3, h4, h5, h⟩ | ⟨h1, h2, h3, h4, h5, h6, h⟩ | ⟨h1, h2, h3, h4, h5, h6, h7, h⟩ | ⟨h1, h2, h3, h4, h5, h6, h7, h⟩
  · obtain rfl : X = false := by rw [← hX, may_of_e h]; rfl
    have Ho := Lib.hid h1
    clear h hX h1
    go_enter Tryd.func8, Tryd.ntmps8
    go_wp2_with (go_at_call 24; refine (RNum_is _ _ _ _ (by first | with_reducible exact Ho.out)).mono ?_; rintro e w' ⟨rfl, rfl⟩)
    go_ret
    exact ⟨rfl, (Below.refl _ _).alloc (Nat.le_refl _) _⟩
  · obtain rfl : X = false := by rw [← hX, may_of_e h]; rfl
    have Ho := Lib.hid h1
    have Ht := Lib.hid h2
    clear h hX h1 h2
    go_enter Tryd.func8, Tryd.ntmps8
    go_wp2_with (go_at_call 24; refine (RNum_is _ _ _ _ (by first | with_reducible exact Ho.out | with_reducible exact Ht.out)).mono ?_; rintro e w' ⟨rfl, rfl⟩)
    go_ret
    exact ⟨rfl, (Below.refl _ _).alloc (Nat.le_refl _) _⟩
  · obtain rfl : X = false := by rw [← hX, may_of_e h]; rfl
    have Ho := Lib.hid h1
    have Ht := Lib.hid h2
    clear h hX h1 h2
    go_enter Tryd.func8, Tryd.ntmps8
    go_wp2_with (go_at_call 24; refine (RNum_is _ _ _ _ (by first | with_reducible exact Ho.out | with_reducible exact Ht.out)).mono ?_; rintro e w' ⟨rfl, rfl⟩)
    go_ret
    exact ⟨rfl, (Below.refl _ _).alloc (Nat.le_refl _) _⟩
  · obtain rfl : X = false := by rw [← hX, may_of_e h]; rfl
    have Ho := Lib.hid h1
    have Ht := Lib.hid h2
    clear h hX h1 h2
    go_enter Tryd.func8, Tryd.ntmps8
    go_wp2_with (go_at_call 24; refine (RNum_is _ _ _ _ (by first | with_reducible exact Ho.out | with_reducible exact Ht.out)).mono ?_; rintro e w' ⟨rfl, rfl⟩)
    go_ret
    exact ⟨rfl, (Below.refl _ _).alloc (Nat.le_refl _) _⟩
  · obtain rfl : X = false := by rw [← hX, may_of_e h]; rfl
    have Ho := Lib.hid h1
    have Ht := Lib.hid h2
    have Hq := Lib.hid h5
    clear h hX h1 h2 h5
    go_enter Tryd.func8, Tryd.ntmps8
    go_wp2_with (go_at_call 24; refine (RNum_is _ _ _ _ (by first | with_reducible exact Ho.out | with_reducible exact Ht.out | with_reducible exact Hq.out)).mono ?_; rintro e w' ⟨rfl, rfl⟩)
    go_ret
    exact ⟨rfl, (Below.refl _ _).alloc (Nat.le_refl _) _⟩
  · obtain rfl : X = true := by rw [← hX, may_of_e h]; rfl
    have Ho := Lib.hid h1
    have Ht := Lib.hid h2
    have Hq := Lib.hid h5
    clear h hX h1 h2 h5
    subst h6
    cases g with
    | true =>
      go_enter Tryd.func8, Tryd.ntmps8
      go_wp2_with (go_at_call 24; refine (RNum_is _ _ _ _ (by first | with_reducible exact Ho.out | with_reducible exact Ht.out | with_reducible exact Hq.out)).mono ?_; rintro e w' ⟨rfl, rfl⟩)
      go_ret
      exact ⟨rfl, (Below.refl _ _).alloc (Nat.le_refl _) _⟩
    | false =>
      go_enter Tryd.func8, Tryd.ntmps8
      go_wp2_with (go_at_call 24; refine (RNum_is _ _ _ _ (by first | with_reducible exact Ho.out | with_reducible exact Ht.out | with_reducible exact Hq.out)).mono ?_; rintro e w' ⟨rfl, rfl⟩)
      go_ret
      exact ⟨rfl, (Below.refl _ _).alloc (Nat.le_refl _) _⟩
  · obtain rfl : X = true := by rw [← hX, may_of_e h]; rfl
    have Ho := Lib.hid h1
    have Ht := Lib.hid h2
    have Hq := Lib.hid h5
    clear h hX h1 h2 h5
    obtain ⟨hi1, hi2⟩ := ne_empty h6
    clear h6
    subst h7
    go_enter Tryd.func8, Tryd.ntmps8
    go_wp2_with (go_at_call 24; refine (RNum_is _ _ _ _ (by first | with_reducible exact Ho.out | with_reducible exact Ht.out | with_reducible exact Hq.out)).mono ?_; rintro e w' ⟨rfl, rfl⟩)
    go_ret
    exact ⟨rfl, (Below.refl _ _).alloc (Nat.le_refl _) _⟩
  · obtain rfl : X = false := by rw [← hX, may_of_e h]; rfl
    have Ho := Lib.hid h1
    have Ht := Lib.hid h2
    have Hq := Lib.hid h5
    clear h hX h1 h2 h5
    obtain ⟨hi1, hi2⟩ := ne_empty h6
    clear h6
    subst h7
    go_enter Tryd.func8, Tryd.ntmps8
    go_wp2_with (go_at_call 24; refine (RNum_is _ _ _ _ (by first | with_reducible exact Ho.out | with_reducible exact Ht.out | with_reducible exact Hq.out)).mono ?_; rintro e w' ⟨rfl, rfl⟩)
    go_ret
    exact ⟨rfl, (Below.refl _ _).alloc (Nat.le_refl _) _⟩
/-- fairwayref10.Rec. -/
theorem RRec_is (r : Rc) (X : Bool) (w : World) (hX : mayB r = X) :
    Calls Tryd.prog 8 #[ragg r] w fun e w' => e = .returned (.bool X) ∧ Below w.heap.size w w' :=
  RRec_parts r.o r.t (str r.k) (str r.b) r.q r.g X w (by rw [str_data, str_data]; exact hX)

set_option maxHeartbeats 1000000 in
theorem num_is (n : Int) (w : World) : Calls Tryd.prog 12 #[.int .i64 n] w fun e w' => e = .returned (.int .i64 n) ∧ w = w' := by
  go_enter Tryd.func12, Tryd.ntmps12
  go_wp2
  go_ret
  exact ⟨rfl, rfl⟩
set_option maxRecDepth 100000 in
set_option maxHeartbeats 1000000 in
theorem R_is (o t : Int) (k b : ByteArray) (w : World) : Calls Tryd.prog 32 #[.int .i64 o, .int .i64 t, .string k, .string b] w fun e w' => e = .returned (.agg (rarr o t k b 1 false)) ∧ Below w.heap.size w w' := by
  have hbn := Blk.new w 28 zcells
  have hbl : Below w.heap.size w (w.alloc (.cells zcells 28)) := (Below.refl _ _).alloc (Nat.le_refl _) _
  obtain ⟨W0, hW⟩ : ∃ W0, w.alloc (.cells zcells 28) = W0 := ⟨_, rfl⟩
  obtain ⟨p, hp⟩ : ∃ p, w.heap.size = p := ⟨_, rfl⟩
  rw [hW] at hbn hbl
  have HR := Lib.hid (show Blk (W0.setRow p (rarr o t k b 1 false)) p (rarr o t k b 1 false) ∧ Below w.heap.size w (W0.setRow p (rarr o t k b 1 false)) by rw [← hp]; exact ⟨hbn.row _, below_row hbl (Nat.le_refl _) _⟩)
  rw [hp] at hbn
  have HBN := Lib.hid hbn
  unfold zcells at hW
  have HW := Lib.hid hW
  clear hW hbn hbl
  unfold rarr at HR ⊢
  go_enter Tryd.func32, Tryd.ntmps32
  go_upto_region 1 with fail
  rw [HW.out]
  clear HW
  clear hp
  go_wp2_with (refine wpList_store_whole rfl 28 (.tmp 8) (.tmp 13) rfl p _ rfl rfl _ HBN.out info_rec rfl (by simp [Value.oneCell']) ?_; simp only [Act.put])
  refine bodyPost_ret (results_rec Tryd.results32 rfl HR.out.1 rfl) rfl ⟨rfl, HR.out.2⟩
end Go.Proofs.YtimoncjdfmfojaaDoor
