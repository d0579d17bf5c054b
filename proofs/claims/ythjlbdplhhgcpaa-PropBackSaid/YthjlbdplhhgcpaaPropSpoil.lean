/- What a statement does with properties that it was given: it writes over them, and appends. -/
import Derived.Test.YthjlbdplhhgcpaaPropTakeAll
namespace Go.Proofs.Ythjlbdplhhgcpaa
open Go.RowKit Go.Lib Prp

theorem own_cells {w : World} {B e n g c : Nat} {xs : List Value} (h : w.ownsRow B e 4 (.slice (some ⟨g, 0, none⟩) n c) n xs) {j : Nat} (hj : j < n * 4) : ∃ v, w.cell? ⟨g, j, none⟩ = some v := by
  refine ⟨xs[j]'(by rw [h.1]; exact hj), ?_⟩
  rw [h.cellAt j hj]
  exact List.getElem?_eq_getElem _
theorem own_addr {w : World} {B e n c : Nat} {A : Option Addr} {xs : List Value} (h : w.ownsRow B e 4 (.slice A n c) n xs) (hn : 0 < n) : ∃ g, A = some ⟨g, 0, none⟩ ∧ B ≤ g := by
  rcases h.2 with ⟨_, h0⟩ | ⟨g, cap, cur, hv, hg, _⟩
  · omega
  · injection hv with h1
    exact ⟨g, h1, hg⟩
theorem own_four {w : World} {B e n g c : Nat} {xs : List Value} (h : w.ownsRow B e 4 (.slice (some ⟨g, 0, none⟩) n c) n xs) (j0 j1 j2 j3 : Nat) (a b s v : Value) :
    (∃ ys, ((((w.setCell ⟨g, j0, none⟩ a).setCell ⟨g, j1, none⟩ b).setCell ⟨g, j2, none⟩ s).setCell ⟨g, j3, none⟩ v).ownsRow B e 4 (.slice (some ⟨g, 0, none⟩) n c) n ys) ∧
    Below B w ((((w.setCell ⟨g, j0, none⟩ a).setCell ⟨g, j1, none⟩ b).setCell ⟨g, j2, none⟩ s).setCell ⟨g, j3, none⟩ v) := by
  have hg : B ≤ g := by
    rcases h.2 with ⟨hv, _⟩ | ⟨g', cap, cur, hv, hg, _⟩
    · cases hv
    · injection hv with h1
      injection h1 with h1
      injection h1 with h1
      omega
  exact ⟨⟨_, ((((h.stored j0 a).1.stored j1 b).1.stored j2 s).1.stored j3 v).1⟩,
    ((((Below.refl B w).setCell (p := ⟨g, j0, none⟩) hg _).setCell (p := ⟨g, j1, none⟩) hg _).setCell (p := ⟨g, j2, none⟩) hg _).setCell (p := ⟨g, j3, none⟩) hg _⟩

set_option maxRecDepth 100000 in
set_option maxHeartbeats 4000000 in
theorem Spoil_is (B n c : Nat) (A : Option Addr) (xs : List Value) (w : World) (hB : B ≤ w.heap.size) (hn : n ≤ 8) (h : w.ownsRow B 48 4 (.slice A n c) n xs) :
    Calls Try.prog 25 #[.slice A n c] w fun e w' => (∃ v, e = .returned v) ∧ Below B w w' := by
  obtain ⟨i0, hi, hz0, hz1, hz2⟩ := info_parts info_prop
  have H := Lib.hid h
  clear h
  go_enter Try.func25, Try.ntmps25
  go_wp2_with fail
  go_loopw [2] (fun i wr => ∃ (k : Nat) (ys : List Value), k ≤ n ∧ i = .int .i64 (k : Int) ∧ wr.ownsRow B 48 4 (.slice A n c) n ys ∧ Below B w wr) (fun i _ => n - (RowKit.intOf i).toNat)
  case atStart => exact ⟨0, xs, Nat.zero_le _, rfl, H.out, Below.refl _ _⟩
  case round =>
    obtain ⟨k, ys, hk, rfl, hown, hb⟩ := hrel
    have hBr : B ≤ wr.heap.size := Nat.le_trans hB hb.size
    by_cases hlt : k < n
    · obtain ⟨g, rfl, hg⟩ := own_addr hown (by omega)
      obtain ⟨v0, c0⟩ := own_cells hown (j := k * 4) (by omega)
      obtain ⟨v1, c1⟩ := own_cells hown (j := k * 4 + 1) (by omega)
      obtain ⟨v2, c2⟩ := own_cells hown (j := k * 4 + 2) (by omega)
      obtain ⟨v3, c3⟩ := own_cells hown (j := k * 4 + 3) (by omega)
      have f0 := hown.frozenAt (k * 4)
      have f1 := hown.frozenAt (k * 4 + 1)
      have f2 := hown.frozenAt (k * 4 + 2)
      have f3 := hown.frozenAt (k * 4 + 3)
      have H4 := Lib.hid (own_four hown (k * 4) (k * 4 + 1) (k * 4 + 2) (k * 4 + 3) (.int .i64 (-9)) (.int .i64 0) (.string ⟨#[]⟩) (.string ⟨#[]⟩))
      have HB := Lib.hid hb
      have hkI : (k : Int) < (n : Int) := by omega
      clear hown hb H
      go_wp2_with fail
      go_roundw
      case rel =>
        obtain ⟨⟨zs, hz⟩, hbb⟩ := H4.out
        exact ⟨k + 1, zs, hlt, by go_num, hz, HB.out.trans hbb⟩
      case measure => simp [RowKit.intOf]; omega
    · obtain rfl : k = n := by omega
      have HO := Lib.hid hown
      have HB := Lib.hid hb
      clear hown hb H
      go_wp2_with (at_builtin; refine wpList_append_own _ rfl _ _ 23 rfl B 48 i0 (.agg #[.int .i64 0, .int .i64 0, .string ⟨#[]⟩, .string ⟨#[]⟩]) 4 48 Try.underlying23 hi hz0 hz1 hz2 rfl (by decide) _ _ _ rfl (HO.out.alloc _) ⟨wr.heap.size, 0, none⟩ 1 1 (pcells ⟨0, 0, ⟨#[]⟩, ⟨#[]⟩⟩) rfl rfl ?c1 ?c2 ?c3 ?c4 ?c5 ?_)
      case c1 => exact fun jj uu h => cells_new wr _ (pcells ⟨0, 0, ⟨#[]⟩, ⟨#[]⟩⟩) jj uu h
      case c2 => exact one_cells _
      case c3 => unfold maxLen; omega
      case c4 => first | omega | (simp; omega)
      case c5 => simp; omega
      intro v' w1 hown' hgrow _
      have hnx := HB.out.trans (below_alloc_grown hBr HO.out hgrow)
      have HN := Lib.hid hnx
      clear hown' hgrow hnx
      go_wp2_with fail
      exact bodyPost_end (v := .tuple #[]) (by simp [results, Try.results25]) rfl ⟨⟨_, rfl⟩, HN.out⟩
end Go.Proofs.Ythjlbdplhhgcpaa
