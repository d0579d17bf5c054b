/- slices.Delete, of one subscription. -/
import Derived.Test.YtdogeljlcnlbkaaSubRow
namespace Go.Proofs.Ytdogeljlcnlbkaa.Sbs
open Go.RowKit Go.Lib Txt Nam

theorem zero_sub (w : World) : (zeroValue 33).run Try.prog w = .ok (.agg zcells) w := by kernel_rfl

set_option maxRecDepth 100000 in
set_option maxHeartbeats 4000000 in
theorem Delete_is (l : List Sb) (g c a j : Nat) (w : World) (ha : a < l.length) (hj : j = a + 1) (hcap : l.length ≤ c) (hm : c ≤ 9223372036854775807) (hr : w.rangeAt g 0 (flat l)) (hf : ∀ j, w.frozen? ⟨g, j, none⟩ = false) :
    Calls Try.prog 20 #[.slice (some ⟨g, 0, none⟩) l.length c, .int .i64 (a : Int), .int .i64 (j : Int)] w fun e w' =>
      e = .returned (.slice (some ⟨g, 0, none⟩) (l.length - 1) c) ∧ w'.rangeAt g 0 (flat (l.eraseIdx a)) ∧ ∀ B, B ≤ g → Below B w w' := by
  obtain ⟨i0, hi, hz0, hz1, hz2⟩ := info_parts info_more
  obtain ⟨n, hn⟩ : ∃ n, l.length = n := ⟨_, rfl⟩
  obtain ⟨news, hnews⟩ : ∃ news, news = flat (l.drop (a + 1)) := ⟨_, rfl⟩
  have hlen : news.length = (n - j) * 9 := by rw [hnews, flat_len, List.length_drop, hn, hj]
  have hbeh := range_behind ha hr
  have hth : w.there g (a * 9) news.length := there_of hr hf (by rw [hlen, hn, hj]; omega)
  have hera := range_erase ha hr (by rw [← hnews]; exact hth)
  rw [← hnews] at hbeh hera
  have hone : ∀ u ∈ news, u.oneCell' = true := by rw [hnews]; exact flat_one _
  obtain ⟨A, hA, hsrc⟩ : ∃ A : Addr, (if c = j then (some ⟨g, 0, none⟩ : Option Addr) else some ⟨g, j * 9, none⟩) = some A ∧ Hid (∀ t u, news[t]? = some u → w.drew.cell? (A.add t) = some u) := by
    by_cases h : c = j
    · refine ⟨⟨g, 0, none⟩, by simp [h], fun t u hu => ?_⟩
      have h0 : news.length = 0 := by rw [hlen]; omega
      rw [List.length_eq_zero_iff.1 h0] at hu
      simp at hu
    · refine ⟨⟨g, j * 9, none⟩, by simp [h], fun t u hu => ?_⟩
      have := hbeh t u hu
      rw [Addr.add_lit, hj]
      exact this
  obtain ⟨W1, hW1⟩ : ∃ W1, W1 = w.drew.setCells g (a * 9) news := ⟨_, rfl⟩
  have hera1 : W1.rangeAt g 0 (flat (l.eraseIdx a)) := by
    rw [hW1]
    exact range_erase_drew hera
  have hth1 : W1.there g ((n - 1) * 9) 9 := by
    rw [hW1]
    exact World.there_setCells (w := w.drew) (fun j hj => (there_of hr hf (by rw [hn]; omega) : w.there g ((n - 1) * 9) 9) j hj) g _ _
  have hbl1 : ∀ B, B ≤ g → Below B w W1 := fun B hB => by rw [hW1]; exact below_cells hB _ _ (Below.drew (Below.refl _ _))
  have hcl : ∀ ty, (Builtin.clear_ #[22] ty #[.slice (some ⟨g, (a + (n - j)) * 9, none⟩) (n - (a + (n - j))) (c - (a + (n - j)))]).run Try.prog W1 = .ok (.tuple #[]) (W1.setCells g ((n - 1) * 9) zcells.toList) := fun ty => by
    have := run_clear_one W1 22 33 ty Try.underlying22 zero_sub g ((n - 1) * 9) (n - (a + (n - j))) (c - (a + (n - j))) (by omega) hth1
    rwa [show (n - 1) * 9 = (a + (n - j)) * 9 by omega] at this ⊢
  have hend : (W1.setCells g ((n - 1) * 9) zcells.toList).rangeAt g 0 (flat (l.eraseIdx a)) := World.rangeAt_setCells_apart hera1 g _ _ (.inr (.inl (by rw [flat_len, List.length_eraseIdx, if_pos ha, hn]; omega)))
  have hble : ∀ B, B ≤ g → Below B w (W1.setCells g ((n - 1) * 9) zcells.toList) := fun B hB => below_cells hB _ _ (hbl1 B hB)
  have HE := Lib.hid hend
  have HBE := Lib.hid hble
  have HW : Hid (W1 = w.drew.setCells g (0 + a * 9) news) := by rw [Nat.zero_add]; exact hW1
  have s1 := Lib.hid hlen
  have s2 := Lib.hid hone
  have s3 : Hid (∀ t, t < news.length → (w.drew.cell? ⟨g, 0 + a * 9 + t, none⟩).isSome = true ∧ w.drew.frozen? ⟨g, 0 + a * 9 + t, none⟩ = false) := fun t ht => by rw [Nat.zero_add]; exact hth t ht
  have han : a < n := by omega
  have hjj : a + (n - j) = n - 1 := by omega
  have HJ := Lib.hid hjj
  clear hjj
  have hcn : n ≤ c := by omega
  have hac : a ≤ c := by omega
  have hjc : j ≤ c := by omega
  have hjn : j ≤ n := by omega
  have haj : a < j := by omega
  rw [hn]
  clear hW1 hend hble hbl1 hth1 hera1 hera hlen hone hth hbeh hnews hr hf hn hj ha hcap
  go_enter Try.func20, Try.ntmps20
  go_wp2_with fail
  go_region_law (refine step_append_room rfl (.tmp 22) (.tmp 25) 22 rfl 33 i0 9 Try.underlying22 hi hz1 g 0 a c (by simp [Act.eval, Act.put]) A (n - j) (c - j) news (by simp [Act.eval, Act.put]) s1.out hsrc.out s2.out (by omega) s3.out ?_; rw [← HW.out])
  go_wp2_with fail
  rw [HJ.out]
  go_ret
  exact ⟨rfl, HE.out, HBE.out⟩
end Go.Proofs.Ytdogeljlcnlbkaa.Sbs
