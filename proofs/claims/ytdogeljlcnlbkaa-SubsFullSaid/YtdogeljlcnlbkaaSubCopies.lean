/- Package subs: copies of subscriptions; one more behind them. -/
import Derived.Test.YtdogeljlcnlbkaaSubCopy
namespace Go.Proofs.Ytdogeljlcnlbkaa.Sbs
open Go.RowKit Go.Lib Txt Nam

theorem take_snoc {l : List Sb} {k : Nat} (h : k < l.length) : flat (l.take (k + 1)) = flat (l.take k) ++ scells l[k] := by rw [List.take_succ_eq_append_getElem h, flat_snoc]

set_option maxRecDepth 100000 in
set_option maxHeartbeats 4000000 in
/-- subs.copies. -/
theorem copies_is (l : List Sb) (A : Option Addr) (c : Nat) (w : World) (hm : l.length ≤ 1000000) (hf : ∀ s ∈ l, s.t.length ≤ 1000000) (h : SubsAt w w.heap.size A l) :
    Calls Try.prog 14 #[.slice A l.length c] w (GivesSubs l w) := by
  obtain ⟨i0, hi, hz0, hz1, hz2⟩ := info_parts info_more
  have H := Lib.hid h
  have HF := Lib.hid hf
  clear h hf
  go_enter Try.func14, Try.ntmps14
  go_wp2_with fail
  go_loopw [3, 8] (fun m i wr => ∃ k : Nat, k ≤ l.length ∧ i = .int .i64 (k : Int) ∧ wr.ownsRow w.heap.size 33 9 m k (flat (l.take k)) ∧ Below w.heap.size w wr) (fun _ i _ => l.length - (RowKit.intOf i).toNat)
  case atStart => exact ⟨0, Nat.zero_le _, rfl, World.ownsRow_nil _ _ _ _, Below.refl _ _⟩
  case round =>
    obtain ⟨k, hk, rfl, hown, hnx⟩ := hrel
    have h2 := hnx.size
    by_cases hlt : k < l.length
    · obtain ⟨b0, o, rfl, _, hc⟩ := (H.out.below hnx).some_ (by omega)
      obtain ⟨d0, d1, d2, d3, d4, d5, d6, d7, d8⟩ := hc k hlt
      have hfk := HF.out _ (List.getElem_mem hlt)
      have HS := Lib.hid (take_snoc hlt)
      clear hc
      obtain ⟨s, hs⟩ : ∃ s, l[k] = s := ⟨_, rfl⟩
      rw [hs] at d0 d1 HS hfk
      have HK := Lib.hid (fun W => copyOf_is s W hfk)
      have HO := Lib.hid hown
      have HN := Lib.hid hnx
      clear hs hfk hown hnx
      obtain ⟨t, q⟩ := s
      unfold sagg at HK
      dsimp only at HK d0 d1
      have hkI : (k : Int) < (l.length : Int) := by omega
      generalize hst : str t = st at HK d0
      have HT := Lib.hid hst
      clear hst
      go_wp2_with fail
      refine (HK.out _).mono ?_
      rintro e w1 ⟨rfl, hb1⟩
      have hba : Below wr.heap.size wr w1 := ((Below.refl _ _).alloc (Nat.le_refl _) _).trans (hb1.mono (by simp))
      have HO1 := Lib.hid (own_below HO.out hba)
      have HN1 := Lib.hid (HN.out.trans (hba.mono h2))
      have h3 := HN1.out.size
      clear d0 d1 d2 d3 d4 d5 d6 d7 d8 hb1 hba HO HN HK
      go_wp2_with (at_builtin; refine wpList_append_own _ rfl _ _ 22 rfl w.heap.size 33 i0 (.agg zcells) 9 96 Try.underlying22 hi hz0 hz1 hz2 rfl (by decide) _ _ _ rfl (HO1.out.alloc _) ⟨w1.heap.size, 0, none⟩ 1 1 (scells ⟨t, q⟩) rfl rfl ?c1 ?c2 ?c3 ?c4 ?c5 ?_)
      case c1 => rw [← HT.out]; exact fun j u hu => cells_new _ _ _ j u hu
      case c2 => exact one_cells _
      case c3 => unfold maxLen; omega
      case c4 => first | omega | (simp; omega)
      case c5 => first | omega | (simp; omega)
      intro v' w2 hown' hgrow _
      have HN' := Lib.hid (HN1.out.trans (below_alloc_grown h3 HO1.out hgrow))
      have HO' : Hid (w2.ownsRow w.heap.size 33 9 v' (k + 1) (flat (l.take (k + 1)))) := by show World.ownsRow _ _ _ _ _ _ _; rw [HS.out]; exact hown'
      clear hown' hgrow HO1 HN1
      go_wp2
      go_roundw
      case rel => exact ⟨k + 1, hlt, by go_num, HO'.out, HN'.out⟩
      case measure => simp [RowKit.intOf]; omega
    · obtain rfl : k = l.length := by omega
      rw [List.take_length] at hown
      obtain ⟨A', c', hv⟩ := own_slice hown
      have HO := Lib.hid hown
      have HN := Lib.hid hnx
      clear hown hnx
      subst hv
      go_wp2
      go_ret
      exact ⟨A', c', rfl, HO.out, HN.out⟩

set_option maxRecDepth 100000 in
set_option maxHeartbeats 4000000 in
/-- slices.Insert, of one behind all others. -/
theorem Insert_end (l : List Sb) (s : Sb) (A : Option Addr) (c g B : Nat) (w : World) (hB : B ≤ w.heap.size) (hm : l.length ≤ 1000000) (hown : w.ownsRow B 33 9 (.slice A l.length c) l.length (flat l)) (hg : Blk w g (scells s).toArray) :
    Calls Try.prog 16 #[.slice A l.length c, .int .i64 (l.length : Int), .slice (some ⟨g, 0, none⟩) 1 1] w fun e w' =>
      ∃ A' c', e = .returned (.slice A' (l ++ [s]).length c') ∧ w'.ownsRow B 33 9 (.slice A' (l ++ [s]).length c') (l ++ [s]).length (flat (l ++ [s])) ∧ Below B w w' := by
  obtain ⟨i0, hi, hz0, hz1, hz2⟩ := info_parts info_more
  have hcap := own_cap hown
  by_cases hce : c = l.length
  · subst hce
    have HO := Lib.hid hown
    have HG := Lib.hid hg
    clear hown hg
    have hcI : (l.length : Int) ≤ (l.length : Int) := by omega
    go_enter Try.func16, Try.ntmps16
    go_wp2_with (at_builtin; refine wpList_append_own _ rfl _ _ 22 rfl B 33 i0 (.agg zcells) 9 96 Try.underlying22 hi hz0 hz1 hz2 rfl (by decide) _ _ _ rfl HO.out ⟨g, 0, none⟩ 1 1 (scells s) rfl rfl ?c1 ?c2 ?c3 ?c4 ?c5 ?_)
    case c1 =>
      intro j u hu
      rw [add_new, HG.out.cell]
      simpa using hu
    case c2 => exact one_cells _
    case c3 => unfold maxLen; omega
    case c4 => first | omega | (simp; omega)
    case c5 => first | omega | (simp; omega)
    intro v' w2 hown' hgrow _
    have HB := Lib.hid (below_grown hB HO.out hgrow)
    have hown2 : w2.ownsRow B 33 9 v' (l ++ [s]).length (flat (l ++ [s])) := by rw [flat_snoc, List.length_append]; exact hown'
    obtain ⟨A', c', hv⟩ := own_slice hown2
    have HO2 := Lib.hid hown2
    clear hown' hgrow HO HG hown2
    subst hv
    go_wp2
    go_ret
    exact ⟨A', c', rfl, HO2.out, HB.out⟩
  · have HO := Lib.hid hown
    have HG := Lib.hid hg
    clear hown hg
    have hcI : (l.length : Int) ≤ (c : Int) := by omega
    go_enter Try.func16, Try.ntmps16
    go_wp2_with (at_builtin; refine wpList_append_own _ rfl _ _ 22 rfl B 33 i0 (.agg zcells) 9 96 Try.underlying22 hi hz0 hz1 hz2 rfl (by decide) _ _ _ rfl HO.out ⟨g, 0, none⟩ 1 1 (scells s) rfl rfl ?c1 ?c2 ?c3 ?c4 ?c5 ?_)
    case c1 =>
      intro j u hu
      rw [add_new, HG.out.cell]
      simpa using hu
    case c2 => exact one_cells _
    case c3 => unfold maxLen; omega
    case c4 => first | omega | (simp; omega)
    case c5 => first | omega | (simp; omega)
    intro v' w2 hown' hgrow _
    have HB := Lib.hid (below_grown hB HO.out hgrow)
    have hown2 : w2.ownsRow B 33 9 v' (l ++ [s]).length (flat (l ++ [s])) := by rw [flat_snoc, List.length_append]; exact hown'
    obtain ⟨A', c', hv⟩ := own_slice hown2
    have HO2 := Lib.hid hown2
    clear hown' hgrow HO HG hown2
    subst hv
    go_wp2
    go_ret
    exact ⟨A', c', rfl, HO2.out, HB.out⟩
end Go.Proofs.Ytdogeljlcnlbkaa.Sbs
