/- Package prop, and the document's own answer: may a property stand at a place? -/
import Derived.Test.YthjlbdplhhgcpaaPropStand
namespace Go.Proofs.Ythjlbdplhhgcpaa
open Go.RowKit Go.Lib Prp

theorem Nums.at_ {w : World} {B : Nat} {A : Option Addr} {xs : List Int} (h : Nums w B .i64 A xs) (hx : 0 < xs.length) : ∃ b o, A = some ⟨b, o, none⟩ ∧ ∀ j, j < xs.length → w.cell? ⟨b, o + j, none⟩ = some (.int .i64 (xs.getD j 0)) := by
  obtain ⟨⟨b, o, s⟩, rfl, _, hc⟩ := h.some_ hx
  have h0 := hc 0 hx
  have hs : s = none := by
    have := World.cell?_spot h0
    simpa [Addr.add] using this
  subst hs
  refine ⟨b, o, rfl, fun j hj => ?_⟩
  have := hc j hj
  unfold Addr.add at this
  split at this
  · next e => subst e; simpa using this
  · exact this
theorem Contains_is (xs : List Int) (A : Option Addr) (c B : Nat) (x : Int) (b : Bool) (w : World) (hm : xs.length ≤ 9223372036854775807) (h : Nums w B .i64 A xs) (hb : xs.contains x = b) :
    Calls Try.prog 58 #[.slice A xs.length c, .int .i64 x] w fun e w' => e = .returned (.bool b) ∧ w = w' := by
  subst hb
  rcases Nat.eq_zero_or_pos xs.length with h0 | h0
  · obtain rfl : xs = [] := List.eq_nil_of_length_eq_zero h0
    exact (Try.slices_Contains_int_empty A c x w).mono fun _ _ h => ⟨h.1, h.2.symm⟩
  · obtain ⟨b, o, rfl, hc⟩ := h.at_ h0
    refine (Try.slices_Contains_int b o xs.length c xs x w (Nat.le_refl _) hm hc).mono fun _ _ h => ⟨?_, h.2.symm⟩
    rw [h.1, List.take_length]
theorem stand_len (place : Int) : (standL place).length ≤ 17 := by
  rcases place_cases place with rfl | rfl | rfl | rfl | c | rfl | rfl | rfl | rfl | c
  all_goals first | (rw [stand_none c]; decide) | (rcases c with rfl | rfl | rfl | rfl | rfl | rfl <;> decide) | decide

set_option maxRecDepth 100000 in
set_option maxHeartbeats 8000000 in
theorem idsAt_is (place : Int) (w : World) : Calls Try.prog 59 #[.int .i64 place] w (GivesNums .i64 (standL place) w) := by
  rcases place_cases place with rfl | rfl | rfl | rfl | c | rfl | rfl | rfl | rfl | c
  · go_enter Try.func59, Try.ntmps59
    go_wp2
    go_ret
    exact gives_lit w _ _ _ _ _ rfl rfl
  · go_enter Try.func59, Try.ntmps59
    go_wp2
    go_ret
    exact gives_lit w _ _ _ _ _ rfl rfl
  · go_enter Try.func59, Try.ntmps59
    go_wp2
    go_ret
    exact gives_lit w _ _ _ _ _ rfl rfl
  · go_enter Try.func59, Try.ntmps59
    go_wp2
    go_ret
    exact gives_lit w _ _ _ _ _ rfl rfl
  · rcases c with rfl | rfl | rfl | rfl | rfl | rfl <;>
    · go_enter Try.func59, Try.ntmps59
      go_wp2
      go_ret
      exact gives_lit w _ _ _ _ _ rfl rfl
  · go_enter Try.func59, Try.ntmps59
    go_wp2
    go_ret
    exact gives_lit w _ _ _ _ _ rfl rfl
  · go_enter Try.func59, Try.ntmps59
    go_wp2
    go_ret
    exact gives_lit w _ _ _ _ _ rfl rfl
  · go_enter Try.func59, Try.ntmps59
    go_wp2
    go_ret
    exact gives_lit w _ _ _ _ _ rfl rfl
  · go_enter Try.func59, Try.ntmps59
    go_wp2
    go_ret
    exact gives_lit w _ _ _ _ _ rfl rfl
  · have HN := Lib.hid (stand_none c)
    obtain ⟨n0, n1, n2, n3, ⟨n4, n5, n6, n7, n9, n11⟩, n8, n10, n14, n15⟩ := c
    replace n0 := ne_false n0
    replace n1 := ne_false n1
    replace n2 := ne_false n2
    replace n3 := ne_false n3
    replace n4 := ne_false n4
    replace n5 := ne_false n5
    replace n6 := ne_false n6
    replace n7 := ne_false n7
    replace n9 := ne_false n9
    replace n11 := ne_false n11
    replace n8 := ne_false n8
    replace n10 := ne_false n10
    replace n14 := ne_false n14
    replace n15 := ne_false n15
    go_enter Try.func59, Try.ntmps59
    go_wp2
    go_ret
    rw [HN.out]
    exact ⟨none, 0, rfl, .inl rfl, Below.refl _ _⟩

set_option maxHeartbeats 1000000 in
theorem mayStand_is (place id : Int) (b : Bool) (w : World) (h : standB place id = b) :
    Calls Try.prog 44 #[.int .i64 place, .int .i64 id] w fun e w' => e = .returned (.bool b) ∧ Below w.heap.size w w' := by
  have HL := Lib.hid (stand_len place)
  obtain ⟨xs, hx⟩ : ∃ xs, standL place = xs := ⟨_, rfl⟩
  have HI := Lib.hid (fun W => idsAt_is place W)
  unfold standB at h
  rw [hx] at h HI HL
  have HB := Lib.hid h
  clear h hx
  go_enter Try.func44, Try.ntmps44
  go_wp2_with fail
  refine (HI.out _).mono ?_
  rintro e w1 ⟨A, c, rfl, hn, hb⟩
  have HN := Lib.hid hn
  have HX := Lib.hid hb
  clear hn hb
  go_wp2_with (go_at_call 58; refine (Contains_is xs A c _ id b _ (by have := HL.out; omega) HN.out HB.out).mono ?_; rintro e w' ⟨rfl, rfl⟩)
  go_ret
  exact ⟨rfl, HX.out⟩

set_option maxRecDepth 100000 in
set_option maxHeartbeats 8000000 in
theorem stands_is (place id : Int) (b : Bool) (w : World) (h : standB place id = b) :
    Calls Try.prog 36 #[.int .i64 place, .int .i64 id] w fun e w' => e = .returned (.bool b) ∧ Below w.heap.size w w' := by
  rcases place_cases place with rfl | rfl | rfl | rfl | c | rfl | rfl | rfl | rfl | c
  · have HB := Lib.hid h
    clear h
    go_enter Try.func36, Try.ntmps36
    go_wp2_with (go_at_call 53; refine (In_is _ _ _ _ id b _ (by decide) (lit_nums w _ _ .i64 3 rfl) HB.out).mono ?_; rintro e w' ⟨j, rfl, hj, rfl⟩)
    go_ret
    exact ⟨rfl, (Below.refl _ _).alloc (Nat.le_refl _) _⟩
  · have HB := Lib.hid h
    clear h
    go_enter Try.func36, Try.ntmps36
    go_wp2_with (go_at_call 53; refine (In_is _ _ _ _ id b _ (by decide) (lit_nums w _ _ .i64 3 rfl) HB.out).mono ?_; rintro e w' ⟨j, rfl, hj, rfl⟩)
    go_ret
    exact ⟨rfl, (Below.refl _ _).alloc (Nat.le_refl _) _⟩
  · have HB := Lib.hid h
    clear h
    go_enter Try.func36, Try.ntmps36
    go_wp2_with (go_at_call 53; refine (In_is _ _ _ _ id b _ (by decide) (lit_nums w _ _ .i64 3 rfl) HB.out).mono ?_; rintro e w' ⟨j, rfl, hj, rfl⟩)
    go_ret
    exact ⟨rfl, (Below.refl _ _).alloc (Nat.le_refl _) _⟩
  · have HB := Lib.hid h
    clear h
    go_enter Try.func36, Try.ntmps36
    go_wp2_with (go_at_call 53; refine (In_is _ _ _ _ id b _ (by decide) (lit_nums w _ _ .i64 3 rfl) HB.out).mono ?_; rintro e w' ⟨j, rfl, hj, rfl⟩)
    go_ret
    exact ⟨rfl, (Below.refl _ _).alloc (Nat.le_refl _) _⟩
  · rcases c with rfl | rfl | rfl | rfl | rfl | rfl <;>
    · have HB := Lib.hid h
      clear h
      go_enter Try.func36, Try.ntmps36
      go_wp2_with (go_at_call 53; refine (In_is _ _ _ _ id b _ (by decide) (lit_nums w _ _ .i64 3 rfl) HB.out).mono ?_; rintro e w' ⟨j, rfl, hj, rfl⟩)
      go_ret
      exact ⟨rfl, (Below.refl _ _).alloc (Nat.le_refl _) _⟩
  · have HB := Lib.hid h
    clear h
    go_enter Try.func36, Try.ntmps36
    go_wp2_with (go_at_call 53; refine (In_is _ _ _ _ id b _ (by decide) (lit_nums w _ _ .i64 3 rfl) HB.out).mono ?_; rintro e w' ⟨j, rfl, hj, rfl⟩)
    go_ret
    exact ⟨rfl, (Below.refl _ _).alloc (Nat.le_refl _) _⟩
  · have HB := Lib.hid h
    clear h
    go_enter Try.func36, Try.ntmps36
    go_wp2_with (go_at_call 53; refine (In_is _ _ _ _ id b _ (by decide) (lit_nums w _ _ .i64 3 rfl) HB.out).mono ?_; rintro e w' ⟨j, rfl, hj, rfl⟩)
    go_ret
    exact ⟨rfl, (Below.refl _ _).alloc (Nat.le_refl _) _⟩
  · have HB := Lib.hid h
    clear h
    go_enter Try.func36, Try.ntmps36
    go_wp2_with (go_at_call 53; refine (In_is _ _ _ _ id b _ (by decide) (lit_nums w _ _ .i64 3 rfl) HB.out).mono ?_; rintro e w' ⟨j, rfl, hj, rfl⟩)
    go_ret
    exact ⟨rfl, (Below.refl _ _).alloc (Nat.le_refl _) _⟩
  · have HB := Lib.hid h
    clear h
    go_enter Try.func36, Try.ntmps36
    go_wp2_with (go_at_call 53; refine (In_is _ _ _ _ id b _ (by decide) (lit_nums w _ _ .i64 3 rfl) HB.out).mono ?_; rintro e w' ⟨j, rfl, hj, rfl⟩)
    go_ret
    exact ⟨rfl, (Below.refl _ _).alloc (Nat.le_refl _) _⟩
  · unfold standB at h
    rw [stand_none c] at h
    have HB := Lib.hid h
    clear h
    obtain ⟨n0, n1, n2, n3, ⟨n4, n5, n6, n7, n9, n11⟩, n8, n10, n14, n15⟩ := c
    replace n0 := ne_false n0
    replace n1 := ne_false n1
    replace n2 := ne_false n2
    replace n3 := ne_false n3
    replace n4 := ne_false n4
    replace n5 := ne_false n5
    replace n6 := ne_false n6
    replace n7 := ne_false n7
    replace n9 := ne_false n9
    replace n11 := ne_false n11
    replace n8 := ne_false n8
    replace n10 := ne_false n10
    replace n14 := ne_false n14
    replace n15 := ne_false n15
    go_enter Try.func36, Try.ntmps36
    go_wp2_with (go_at_call 53; refine (In_is [] _ _ 0 id b _ (by decide) (.inl rfl) HB.out).mono ?_; rintro e w' ⟨j, rfl, hj, rfl⟩)
    go_ret
    exact ⟨rfl, Below.refl _ _⟩
end Go.Proofs.Ythjlbdplhhgcpaa
