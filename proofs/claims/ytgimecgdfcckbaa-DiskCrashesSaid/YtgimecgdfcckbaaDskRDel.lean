/- The document's own answer: a file deleted. -/
import Derived.Test.YtgimecgdfcckbaaDskRPut
namespace Go.Proofs.Ytgimecgdfcckbaa.Dsk
open Go.RowKit Go.Lib Go.Maps

section
variable {w : World} {Y : Nat → Prop} {r : Nat} {F : List Fl} {A : Option Addr} {c : Nat}
set_option maxRecDepth 100000 in
set_option maxHeartbeats 8000000 in
theorem del_is (i : Nat) (hi : i < F.length) (hl : F.length ≤ 1000) (h : RkAt w Y r F A c) :
    Calls Try.prog 64 #[.pointer (some ⟨r, 0, none⟩), .int .i64 (i : Int)] w fun e w' => e = .returned (.tuple #[]) ∧ RThen Y w w' r (F.eraseIdx i) := by
  obtain ⟨g, rfl, _, _, _, _⟩ := h.addr (by omega)
  have hcapA := own_cap1 h.row
  have HLt := Lib.hid h.lt
  have HR := Lib.hid h
  clear h
  have r0 : w.cell? ⟨r, 0, none⟩ = some (.slice (some ⟨g, 0, none⟩) F.length c) := HR.out.box.cell 0
  have hal := (Below.refl w.heap.size w).alloc (Nat.le_refl _) (.cells #[] 89)
  have HR1 := Lib.hid (HR.out.below hal)
  have r1 : (w.alloc (.cells #[] 89)).cell? ⟨r, 0, none⟩ = some (.slice (some ⟨g, 0, none⟩) F.length c) := HR1.out.box.cell 0
  obtain ⟨A1, c1, W2, hr1, ho1, hg1⟩ := run_app (w.alloc (.cells #[] 89)) w.heap.size _ 0 [] (World.ownsRow_made w #[] 0 (Nat.le_refl _) (by unfold maxLen; omega) rfl) ⟨g, 0, none⟩ i c (F.take i) (by rw [List.length_take]; omega) HR1.out.cells_ahead (by omega) (by simp)
  rw [Nat.zero_add] at hr1 ho1
  rw [List.nil_append] at ho1
  have hb2 : Below w.heap.size w W2 := hal.grown hg1 (by simp) (fun j hj => by cases hj; exact Nat.le_refl _)
  have HR2 := Lib.hid (HR.out.below hb2)
  have r2 : W2.cell? ⟨r, 0, none⟩ = some (.slice (some ⟨g, 0, none⟩) F.length c) := HR2.out.box.cell 0
  have hw2 : w.heap.size ≤ W2.heap.size := hb2.size
  have hk0 : (0 : Int) ≤ (i : Int) := by omega
  have hkc : (i : Int) ≤ (c : Int) := by omega
  have hk1 : (0 : Int) ≤ (i : Int) + 1 := by omega
  have hkl : (i : Int) + 1 ≤ (F.length : Int) := by omega
  have hlI : (F.length : Int) ≤ (c : Int) := by omega
  have htn : ((i : Int) + 1).toNat = i + 1 := by omega
  go_enter Try.func64, Try.ntmps64
  by_cases hcl : c = i + 1
  · go_wp2_with (at_builtin; first | refine wpList_app rfl (.tmp 5) (.tmp 11) _ rfl _ _ _ _ rfl rfl hr1 ?_ | go_must (refine wpList_app3 rfl (.tmp 14) (.tmp 21) rfl rfl w.heap.size _ i _ rfl ho1 hw2 ⟨g, 0, none⟩ (F.length - (i + 1)) 0 (F.drop (i + 1)) rfl (by rw [List.length_drop]) ?h1 (by omega) ?_))
    case h1 =>
      intro j u hu
      rw [List.drop_eq_nil_of_le (by omega)] at hu; simp [rflat] at hu
    intro A3 c3 W4 ho3 hg3
    have hb4 : Below w.heap.size w W4 := hb2.grown hg3 hb2.size (fun j hj => (ho1.lt j hj).1)
    have hbx4 := HR.out.box.below hb4
    have r4 : W4.cell? ⟨r, 0, none⟩ = some (.slice (some ⟨g, 0, none⟩) F.length c) := hbx4.cell 0
    have f4 := hbx4.frozen 0
    have HFin : Hid (RThen Y w (W4.setCell ⟨r, 0, none⟩ (.slice A3 (i + (F.length - (i + 1))) c3)) r (F.eraseIdx i)) := Lib.hid (by
      have e : F.eraseIdx i = F.take i ++ F.drop (i + 1) := List.eraseIdx_eq_take_drop_succ F i
      have hl2 : (F.eraseIdx i).length = i + (F.length - (i + 1)) := by
        rw [e, List.length_append, List.length_take, List.length_drop]; omega
      rw [← hl2]
      refine rk_laid (Below.refl _ _) HR.out HLt.out hb4 ?_
      rw [hl2, e, rflat_app]
      exact ho3)
    clear hb4 hbx4 ho3 hg3 ho1 hg1
    go_wp2_with fail
    exact bodyPost_end (v := .tuple #[]) (by simp [results, Try.results64]) rfl ⟨rfl, HFin.out⟩
  · go_wp2_with (at_builtin; first | refine wpList_app rfl (.tmp 5) (.tmp 11) _ rfl _ _ _ _ rfl rfl hr1 ?_ | go_must (refine wpList_app3 rfl (.tmp 14) (.tmp 21) rfl rfl w.heap.size _ i _ rfl ho1 hw2 ⟨g, (i + 1) * 3, none⟩ (F.length - (i + 1)) (c - (i + 1)) (F.drop (i + 1)) rfl (by rw [List.length_drop]) ?h1 (by omega) ?_))
    case h1 =>
      intro j u hu
      have := HR2.out.cells_behind (k := i + 1) hi j u hu
      rwa [Addr.add_lit]
    intro A3 c3 W4 ho3 hg3
    have hb4 : Below w.heap.size w W4 := hb2.grown hg3 hb2.size (fun j hj => (ho1.lt j hj).1)
    have hbx4 := HR.out.box.below hb4
    have r4 : W4.cell? ⟨r, 0, none⟩ = some (.slice (some ⟨g, 0, none⟩) F.length c) := hbx4.cell 0
    have f4 := hbx4.frozen 0
    have HFin : Hid (RThen Y w (W4.setCell ⟨r, 0, none⟩ (.slice A3 (i + (F.length - (i + 1))) c3)) r (F.eraseIdx i)) := Lib.hid (by
      have e : F.eraseIdx i = F.take i ++ F.drop (i + 1) := List.eraseIdx_eq_take_drop_succ F i
      have hl2 : (F.eraseIdx i).length = i + (F.length - (i + 1)) := by
        rw [e, List.length_append, List.length_take, List.length_drop]; omega
      rw [← hl2]
      refine rk_laid (Below.refl _ _) HR.out HLt.out hb4 ?_
      rw [hl2, e, rflat_app]
      exact ho3)
    clear hb4 hbx4 ho3 hg3 ho1 hg1
    go_wp2_with fail
    exact bodyPost_end (v := .tuple #[]) (by simp [results, Try.results64]) rfl ⟨rfl, HFin.out⟩
end
end Go.Proofs.Ytgimecgdfcckbaa.Dsk
