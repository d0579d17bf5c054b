/- Texts of the proof, part 13: FdWakes, FdRound. -/
import Derived.Test.YthdefnfpjbpbkaaX12
/- What each statement of the fourteenth layer asks last: of two records of one key the second stays. -/
namespace Go.Proofs.Ythdefnfpjbpbkaa.Kpd
open Go.RowKit Go.Lib Rcd

def wkA : Rc := ⟨0, 0, [107], [97], 1, false⟩
def wkB : Rc := ⟨1, 0, [107], [98], 1, false⟩
def wkl : List Sp := [⟨0, [wkA, wkB]⟩, ⟨2, []⟩]
def wkc : Array Value := #[.int .i64 0, .int .i64 0, .string ⟨#[107]⟩, .string ⟨#[97]⟩, .int .i64 1, .bool false, .int .i64 1, .int .i64 0, .string ⟨#[107]⟩, .string ⟨#[98]⟩, .int .i64 1, .bool false]
def wkd (g : Nat) : Array Value := #[.int .i64 0, .slice (some ⟨g, 0, none⟩) 2 2, .int .i64 2, .slice none 0 0]
theorem wk_at (W : World) : SegsAt ((W.alloc (.cells wkc 46)).alloc (.cells (wkd W.heap.size) 49)) ((W.alloc (.cells wkc 46)).heap.size + 1) (some ⟨(W.alloc (.cells wkc 46)).heap.size, 0, none⟩) wkl := by
  have hr := Blk.new W 46 wkc
  have hra : RecsAt (W.alloc (.cells wkc 46)) (W.alloc (.cells wkc 46)).heap.size (some ⟨W.heap.size, 0, none⟩) [wkA, wkB] := by
    refine .inr ⟨W.heap.size, 0, rfl, hr.lt, fun j hj => ?_⟩
    match j, hj with
    | 0, _ => exact ⟨hr.cell 0, hr.cell 1, hr.cell 2, hr.cell 3, hr.cell 4, hr.cell 5⟩
    | 1, _ => exact ⟨hr.cell 6, hr.cell 7, hr.cell 8, hr.cell 9, hr.cell 10, hr.cell 11⟩
  generalize W.alloc (.cells wkc 46) = W1 at hra ⊢
  have hk := Blk.new W1 49 (wkd W.heap.size)
  refine .inr ⟨W1.heap.size, 0, rfl, Nat.lt_succ_self _, fun j hj => ?_⟩
  match j, hj with
  | 0, _ => exact ⟨some ⟨W.heap.size, 0, none⟩, 2, hk.cell 0, hk.cell 1, (hra.alloc (Nat.le_refl _) _).mono (Nat.le_succ _), Nat.le_refl _, Nat.le_of_ble_eq_true rfl⟩
  | 1, _ => exact ⟨none, 0, hk.cell 2, hk.cell 3, .inl rfl, Nat.le_refl _, Nat.zero_le _⟩
def wkK : List Sp := [⟨0, [wkB]⟩, ⟨2, []⟩]
theorem wk_fold : FoldIs wkl ⟨1, 0, 0, true, 0⟩ 0 wkK 0 := .inr ⟨rfl, by decide, [⟨0, [wkA, wkB]⟩], ⟨2, []⟩, rfl, by rfl⟩
theorem wk_call (W : World) : Calls Try.prog 9 #[.slice (some ⟨W.heap.size + 1, 0, none⟩) 2 2, .agg #[.int .i64 1, .int .i64 0, .int .i64 0, .bool true, .int .i64 0], .int .i64 0] ((W.alloc (.cells wkc 46)).alloc (.cells (wkd W.heap.size) 49)) fun e w' => ∃ A' c', e = .returned (.tuple #[.slice A' 2 c', .int .i64 0]) ∧ SegsAt w' w'.heap.size A' wkK ∧ Below W.heap.size W w' := by
  have hs : (W.alloc (.cells wkc 46)).heap.size = W.heap.size + 1 := by simp
  have ha := wk_at W
  have hb := ((Below.refl W.heap.size W).alloc (Nat.le_refl _) (.cells wkc 46)).alloc (by rw [hs]; exact Nat.le_succ _) (.cells (wkd W.heap.size) 49)
  generalize W.alloc (.cells wkc 46) = W1 at hs ha hb ⊢
  rw [hs] at ha
  have hs2 : (W1.alloc (.cells (wkd W.heap.size) 49)).heap.size = W1.heap.size + 1 := by simp
  generalize W1.alloc (.cells (wkd W.heap.size) 49) = W2 at hs2 ha hb ⊢
  have hf := Fold_is wkl wkK ⟨1, 0, 0, true, 0⟩ 0 2 2 (some ⟨W.heap.size + 1, 0, none⟩) 2 (W.heap.size + 1 + 1) 0 W2 rfl (by omega) (Nat.le_refl _) (by omega) ha rfl wk_fold
  refine Calls.mono hf ?_
  rintro e w' ⟨A', c', xs, rfl, ho, hb'⟩
  exact ⟨A', c', rfl, SegsAt.of_own ho, bel_step hb hb'⟩

set_option maxRecDepth 100000 in
set_option maxHeartbeats 4000000 in
/-- wakes: yes. -/
theorem fwakes_any (w : World) : Calls Try.prog 19 #[] w fun e w' => e = .returned (.bool true) ∧ Below w.heap.size w w' := by
  have HA := Lib.hid (R_is 0 0 ⟨#[107]⟩ ⟨#[97]⟩ w)
  have HR := Lib.hid (fun W => R_is 1 0 ⟨#[107]⟩ ⟨#[98]⟩ W)
  have HF := Lib.hid wk_call
  unfold wkd wkc at HF
  unfold rarr at HA HR
  go_enter Try.func19, Try.ntmps19
  go_wp2_with fail
  refine HA.out.mono ?_
  rintro e w1 ⟨rfl, hb1⟩
  have B1 := Lib.hid hb1
  clear hb1 HA
  go_wp2_with fail
  refine (HR.out w1).mono ?_
  rintro e w2 ⟨rfl, hb2⟩
  have B2 := Lib.hid (bel_step B1.out hb2)
  clear hb2 HR B1
  go_wp2_with fail
  refine (HF.out w2).mono ?_
  rintro e w3 ⟨A', c', rfl, ho, hb3⟩
  have B3 := Lib.hid (bel_step B2.out hb3)
  have HS := Lib.hid ho
  clear ho hb3 HF B2
  obtain ⟨b1, o1, rfl, _, hc⟩ := HS.out.some_ (by decide)
  obtain ⟨A1, c1, hsg⟩ := hc 0 (by decide)
  obtain ⟨s0, s1, hA, _, _⟩ := hsg
  obtain ⟨b2, o2, rfl, _, hr⟩ := hA.some_ (by decide)
  obtain ⟨_, _, _, x3, _, _⟩ := hr 0 (by decide)
  have y1 : w3.cell? ⟨b1, o1 + 1, none⟩ = some (.slice (some ⟨b2, o2, none⟩) 1 c1) := s1
  have y3 : w3.cell? ⟨b2, o2 + 3, none⟩ = some (.string ⟨#[98]⟩) := x3
  clear hc hA hr s0 s1 x3 HS
  go_wp2_with (go_at_call 12; refine (fnum_is _ _).mono ?_; rintro e w' ⟨rfl, rfl⟩)
  go_ret
  exact ⟨rfl, B3.out⟩
end Go.Proofs.Ythdefnfpjbpbkaa.Kpd
/- Words for a round of the laws over folded segments. -/
namespace Go.Proofs.Ythdefnfpjbpbkaa.Kpd
open Go.RowKit Go.Lib Rcd

/-- A block below is written: the segments stay. -/
theorem OwnS.far {w : World} {B f i : Nat} {v u : Value} {l : List Sp} {xs : List Sx} (h : OwnS w B v l xs) (hf : f < B) : OwnS (w.setCell ⟨f, i, none⟩ u) B v l xs := by
  have hg := cell_grown w f i u
  exact ⟨h.map, own_off h.row hg (fun g h1 h2 => by have := (h.row.lt g h1).1; injection h2 with h2; omega), fun x hx => ⟨own_off (h.own x hx).1 hg (fun g h1 h2 => by have := ((h.own x hx).1.lt g h1).1; injection h2 with h2; omega), (h.own x hx).2⟩, h.off⟩
/-- The last of segments of the call's own. -/
theorem own_last {w : World} {B L c q : Nat} {A : Option Addr} {K : List Sp} {u : Sp} {xs : List Sx} (hL : (K ++ [u]).length = L) (hq : q + 1 = L) (h : OwnS w B (.slice A L c) (K ++ [u]) xs) :
    ∃ g A1 c1, A = some ⟨g, 0, none⟩ ∧ g < w.heap.size ∧ w.cell? ⟨g, q * 2, none⟩ = some (.int .i64 u.b) ∧ w.cell? ⟨g, q * 2 + 1, none⟩ = some (.slice A1 u.rs.length c1) ∧ RecsAt w w.heap.size A1 u.rs := by
  have hrw := h.row
  rw [hL] at hrw
  obtain ⟨g, hA⟩ : ∃ g, A = some ⟨g, 0, none⟩ := by
    rcases hrw.2 with ⟨hv, h0⟩ | ⟨g, cap, cur, hv, _⟩
    · omega
    · injection hv with h1
      exact ⟨g, h1⟩
  subst hA
  have hxl : xs.length = L := h.len.trans hL
  have hxq : q < xs.length := by omega
  have hs : xs[q].s = u := by
    have hm := h.map
    have h1 : (xs.map (·.s))[q]'(by rw [List.length_map]; exact hxq) = (K ++ [u])[q]'(by omega) := by simp only [hm]
    rw [List.getElem_map] at h1
    rw [h1, List.getElem_append_right (by rw [List.length_append, List.length_singleton] at hL; omega)]
    simp
  obtain ⟨h0, h1⟩ := row_cells hrw q hxq
  have hw := (h.own xs[q] (List.getElem_mem hxq)).1
  rw [hs] at h0 h1
  refine ⟨g, xs[q].A, xs[q].c, rfl, (hrw.lt g rfl).2, h0, h1, ?_⟩
  rw [← hs]
  exact .of_own hw
/-- The last of segments that stand somewhere. -/
theorem at_last {w : World} {B n : Nat} {A : Option Addr} {l0 : List Sp} {u : Sp} (hn : l0.length = n) (h : SegsAt w B A (l0 ++ [u])) :
    ∃ b o A' c, A = some ⟨b, o, none⟩ ∧ b < B ∧ w.cell? ⟨b, o + n * 2, none⟩ = some (.int .i64 u.b) ∧ w.cell? ⟨b, o + n * 2 + 1, none⟩ = some (.slice A' u.rs.length c) ∧ RecsAt w B A' u.rs := by
  obtain ⟨b, o, h1, h2, h3⟩ := h.some_ (by simp)
  obtain ⟨A', c, h4⟩ := h3 n (by rw [List.length_append, List.length_singleton]; omega)
  have e : (l0 ++ [u])[n]'(by rw [List.length_append, List.length_singleton]; omega) = u := by
    rw [List.getElem_append_right (by omega)]
    simp [hn]
  rw [e] at h4
  exact ⟨b, o, A', c, h1, h2, h4.c0, h4.c1, h4.hA⟩
theorem bel_of {w : World} (h : Below w.heap.size w w) : Bel w w := .mk h
/-- The rules, with another word on Compact. -/
theorem fold_said {l0 : List Sp} {u : Sp} {sb by_ ag gr now : Int} {co : Bool} (co' : Bool) (h : askB (l0 ++ [u]) ⟨sb, by_, ag, co, gr⟩ now = true) : FoldIs (l0 ++ [u]) ⟨sb, by_, ag, co', gr⟩ now (foldR ⟨sb, by_, ag, co', gr⟩ now l0 u) 0 :=
  .inr ⟨rfl, h, l0, u, rfl, rfl⟩
/-- A record read whole, wherever it stands. -/
theorem load_rat {W : World} {b o : Nat} {s : Rc} (h : RAt W b o s) : (loadVar 46 ⟨b, o, none⟩).run Try.prog W = .ok (ragg s) W :=
  run_loadVar_mid W b o 46 (rcells s) _ (fun j v hv => by
    match j, hv with
    | 0, hv => rw [← hv]; exact h.c0
    | 1, hv => rw [← hv]; exact h.c1
    | 2, hv => rw [← hv]; exact h.c2
    | 3, hv => rw [← hv]; exact h.c3
    | 4, hv => rw [← hv]; exact h.c4
    | 5, hv => rw [← hv]; exact h.c5) Try.underlying46 rfl info_rec
end Go.Proofs.Ythdefnfpjbpbkaa.Kpd
