/- For every script: of any marks, package index and the document's own answer tell the same last one not above any offset, or refuse them. No condition. -/
import Derived.Deep.CutRange
import Derived.Deep.CutBlock
import Derived.Test.YtijpieaanlnibaaQ03
/- Package index: where the last mark stands that is not above an offset. -/
namespace Go.Proofs.Ytijpieaanlnibaa.Mkd
open Go.RowKit Go.Lib Rcd

/-- From a place on all marks are above n, ahead of it none is. -/
def Above (n : Int) (l : List Mk) (a : Nat) : Prop := a ≤ l.length ∧ (∀ i (h : i < l.length), i < a → l[i].o ≤ n) ∧ (∀ i (h : i < l.length), a ≤ i → n < l[i].o)
/-- The place of the last one not above n, or the first. -/
def placeN (a : Nat) : Nat := a - 1
theorem risen_lt {l : List Mk} (h : Risen l) (i j : Nat) (hij : i < j) (hj : j < l.length) : (l[i]'(by omega)).o < l[j].o := by
  induction j with
  | zero => omega
  | succ j ih =>
    have h1 := h (j + 1) hj (by omega)
    unfold riseB at h1
    have h2 := (of_decide_eq_true h1).1
    simp only [Nat.add_sub_cancel] at h2
    by_cases c : i = j
    · subst c; exact h2
    · have := ih (by omega) (by omega)
      omega
theorem above_of (n : Int) {l : List Mk} (h : Risen l) : ∃ a, Above n l a := by
  have key : ∀ k, k ≤ l.length → (∃ a, a ≤ k ∧ (∀ i (h : i < l.length), i < a → l[i].o ≤ n) ∧ (∀ i (h : i < l.length), a ≤ i → i < k → n < l[i].o)) := by
    intro k
    induction k with
    | zero => intro _; exact ⟨0, Nat.le_refl _, fun i _ h => absurd h (by omega), fun i _ _ h => absurd h (by omega)⟩
    | succ k ih =>
      intro hk
      obtain ⟨a, h1, h2, h3⟩ := ih (by omega)
      by_cases c : l[k].o ≤ n
      · refine ⟨k + 1, Nat.le_refl _, fun i hi hik => ?_, fun i _ h4 h5 => absurd h5 (by omega)⟩
        by_cases e : i = k
        · subst e; exact c
        · have := risen_lt h i k (by omega) (by omega)
          omega
      · refine ⟨a, by omega, h2, fun i hi hai hik => ?_⟩
        by_cases e : i = k
        · subst e; omega
        · exact h3 i hi hai (by omega)
  obtain ⟨a, h1, h2, h3⟩ := key l.length (Nat.le_refl _)
  exact ⟨a, h1, h2, fun i hi hai => h3 i hi hai hi⟩
/-- The page's way of saying it: the same place. -/
theorem above_from {n : Int} {l : List Mk} {a : Nat} (h : Above n l a) (h0 : 0 < l.length) : fromZ l n = ((placeN a : Nat) : Int) := by
  obtain ⟨h1, h2, h3⟩ := h
  obtain ⟨m, e1, e2, e3, e4⟩ := lastF_spec l n l.length h0
  have hgd : ∀ j (hj : j < l.length), (l.getD j mzero) = l[j] := fun j hj => by rw [List.getD_eq_getElem?_getD, List.getElem?_eq_getElem hj, Option.getD_some]
  unfold fromZ
  rw [e1]
  unfold placeN
  congr 1
  rcases Nat.lt_or_ge m (a - 1) with c | c
  · have := e4 (a - 1) c (by omega)
    rw [hgd (a - 1) (by omega)] at this
    have := h2 (a - 1) (by omega) (by omega)
    omega
  · rcases e3 with rfl | e3
    · omega
    · rw [hgd m e2] at e3
      rcases Nat.lt_or_ge m a with d | d
      · omega
      · have := h3 m e2 d
        omega

set_option maxRecDepth 100000 in
set_option maxHeartbeats 4000000 in
/-- Is a mark above n? -/
theorem isAbove_is (n : Int) (l : List Mk) (N : Nat) (A : Option Addr) (c B g k : Nat) (X : Bool) (w : World) (hN : l.length = N) (hm : N ≤ 9223372036854775807) (h : MarksAt w B A l) (hg : w.cell? ⟨g, 0, none⟩ = some (.slice A N c)) (hg2 : w.cell? ⟨g + 1, 0, none⟩ = some (.int .i64 n)) (hk : k < l.length) (hX : decide (n < l[k].o) = X) :
    Calls Try.prog 38 #[.int .i64 (k : Int), .pointer (some ⟨g, 0, none⟩), .pointer (some ⟨g + 1, 0, none⟩)] w fun e w' => e = .returned (.bool X) ∧ Below w.heap.size w w' := by
  obtain ⟨b, o, rfl, _, hc⟩ := h.some_ (by omega)
  have h1 := hc k hk
  have hkI : (k : Int) < (N : Int) := by omega
  clear hc h
  generalize l[k] = x at h1 hX
  obtain ⟨xo, xa⟩ := x
  obtain ⟨c0, c1⟩ := h1
  dsimp only at c0 c1 hX
  have HX := Lib.hid hX
  clear hX hk hN
  go_enter Try.func38, Try.ntmps38
  go_wp2_with fail
  go_quiet (fail)
  go_wp2_with fail
  go_ret
  exact ⟨ret_bool HX.out, below_drewN (Below.refl _ _) _⟩
end Go.Proofs.Ytijpieaanlnibaa.Mkd
/- sort.Search, by whether a mark is above an offset. -/
namespace Go.Proofs.Ytijpieaanlnibaa.Mkd
open Go.RowKit Go.Lib Rcd

set_option maxRecDepth 100000 in
set_option maxHeartbeats 4000000 in
/-- sort.Search. -/
theorem Search_is (n : Int) (l : List Mk) (N : Nat) (A : Option Addr) (c B g a : Nat) (w : World) (hN : l.length = N) (hm : N ≤ 1000000) (hB : B ≤ w.heap.size) (h : MarksAt w B A l) (hg : w.cell? ⟨g, 0, none⟩ = some (.slice A N c)) (hg2 : w.cell? ⟨g + 1, 0, none⟩ = some (.int .i64 n)) (hA : Above n l a) :
    Calls Try.prog 37 #[.int .i64 (N : Int), .func (.func 38) #[] #[.pointer (some ⟨g, 0, none⟩), .pointer (some ⟨g + 1, 0, none⟩)]] w fun e w' => e = .returned (.int .i64 (a : Int)) ∧ Below w.heap.size w w' := by
  have HF := Lib.hid (fun k X W (hb : Below w.heap.size w W) (hk : k < l.length) (hX : decide (n < l[k].o) = X) => isAbove_is n l N A c w.heap.size g k X W hN (by omega) ((h.mono hB).below hb) ((hb.cell (p := ⟨g, 0, none⟩) (cell_lt hg)).trans hg) ((hb.cell (p := ⟨g + 1, 0, none⟩) (cell_lt hg2)).trans hg2) hk hX)
  have HA := Lib.hid hA
  have HN := Lib.hid hN
  have haN : a ≤ N := by rw [← hN]; exact hA.1
  have hcf : ∀ (args : Array Value) (W : World), (callFunc 38 args).run Try.prog W = .ok (.enter 38 args) W := fun args W => by go_simp
  clear h hg hg2 hA hN hB
  go_enter Try.func37, Try.ntmps37
  go_wp2_with fail
  go_loopw [5, 6] (fun iv jv wr => ∃ i j : Nat, i ≤ a ∧ a ≤ j ∧ j ≤ N ∧ iv = .int .i64 (i : Int) ∧ jv = .int .i64 (j : Int) ∧ Below w.heap.size w wr) (fun iv jv _ => (RowKit.intOf jv).toNat - (RowKit.intOf iv).toNat)
  case atStart => exact ⟨0, N, Nat.zero_le _, haN, Nat.le_refl _, rfl, rfl, Below.refl _ _⟩
  case round =>
    obtain ⟨i, j, hi, hj, hjN, rfl, rfl, hbel⟩ := hrel
    have HB := Lib.hid hbel
    clear hbel
    by_cases hlt : i < j
    · obtain ⟨k, hk⟩ : ∃ k, (i + j) / 2 = k := ⟨_, rfl⟩
      have hk1 : i ≤ k := by omega
      have hk2 : k < j := by omega
      have hkI : ((i : Int) + (j : Int)) / 2 = (k : Int) := by omega
      have hkl : k < l.length := by rw [HN.out]; omega
      obtain ⟨X, hX⟩ : ∃ X, decide (n < l[k].o) = X := ⟨_, rfl⟩
      have HFK := Lib.hid (fun W hb => HF.out k X W hb hkl hX)
      have HW : Hid ((X = true → a ≤ k) ∧ (X = false → k + 1 ≤ a)) := by
        show _ ∧ _
        refine ⟨fun hx => ?_, fun hx => ?_⟩
        · rcases Nat.lt_or_ge k a with h | h
          · have := HA.out.2.1 k hkl h
            have := of_decide_eq_true (hX.trans hx)
            omega
          · exact h
        · rcases Nat.lt_or_ge k a with h | h
          · exact h
          · have := HA.out.2.2 k hkl h
            have := of_decide_eq_false (hX.trans hx)
            omega
      clear hX hkl HF
      have e1 : (i : Int) < (j : Int) := by omega
      have HK := Lib.hid hkI
      have HK0 := Lib.hid hk
      clear hk hkI
      go_upto_region 4 with fail
      rw [HK.out]
      clear HK
      cases X with
      | true =>
        have hak := HW.out.1 rfl
        go_wp2_with fail
        refine (HFK.out _ HB.out).mono ?_
        rintro e w1 ⟨rfl, hb1⟩
        have HB1 := Lib.hid (HB.out.trans (hb1.mono HB.out.size))
        clear hb1 HB HFK HW
        go_wp2_with fail
        go_roundw
        case rel => exact ⟨i, k, hi, hak, by omega, rfl, rfl, HB1.out⟩
        case measure => simp [RowKit.intOf]; omega
      | false =>
        have hak := HW.out.2 rfl
        go_wp2_with fail
        refine (HFK.out _ HB.out).mono ?_
        rintro e w1 ⟨rfl, hb1⟩
        have HB1 := Lib.hid (HB.out.trans (hb1.mono HB.out.size))
        clear hb1 HB HFK HW
        go_wp2_with fail
        go_roundw
        case rel => exact ⟨k + 1, j, hak, hj, hjN, by go_num, rfl, HB1.out⟩
        case measure => simp [RowKit.intOf]; omega
    · obtain rfl : i = a := by omega
      go_wp2_with fail
      go_ret
      exact ⟨rfl, HB.out⟩
end Go.Proofs.Ytijpieaanlnibaa.Mkd
/- Do marks rise, by the program. -/
namespace Go.Proofs.Ytijpieaanlnibaa.Mkd
open Go.RowKit Go.Lib Rcd

/-- So many of the first ones rise. -/
def RisenTo (l : List Mk) (k : Nat) : Prop := ∀ i (h : i < l.length) (_ : 0 < i), i < k → riseB (l[i - 1]'(by omega)) l[i] = true

set_option maxRecDepth 100000 in
set_option maxHeartbeats 4000000 in
/-- index.isInOrder. -/
theorem isInOrder_is (l : List Mk) (N : Nat) (A : Option Addr) (c B : Nat) (X : Bool) (w : World) (hN : l.length = N) (hm : N ≤ 9223372036854775807) (h : MarksAt w B A l) (hX : X = true ↔ Risen l) :
    Calls Try.prog 29 #[.slice A N c] w fun e w' => e = .returned (.bool X) ∧ Below w.heap.size w w' := by
  have H := Lib.hid h
  have HX := Lib.hid hX
  have HN := Lib.hid hN
  clear h hX hN
  go_enter Try.func29, Try.ntmps29
  go_wp2_with fail
  go_loopw [3] (fun i wr => ∃ j n : Nat, (j = 0 ∨ j < N) ∧ i = .int .i64 ((j : Int) + 1) ∧ wr = w.drewN n ∧ RisenTo l (j + 1)) (fun i _ => N - (RowKit.intOf i).toNat)
  case atStart => exact ⟨0, 0, .inl rfl, rfl, rfl, fun i _ h0 h1 => absurd h1 (by omega)⟩
  case round =>
    obtain ⟨j, n, hj, rfl, rfl, hto⟩ := hrel
    have HT := Lib.hid hto
    clear hto
    by_cases hlt : j + 1 < N
    · have hk1 : j < l.length := by rw [HN.out]; omega
      have hk2 : j + 1 < l.length := by rw [HN.out]; exact hlt
      obtain ⟨b, o, rfl, _, hc⟩ := H.out.some_ (by omega)
      have h1 := hc j hk1
      have h2 := hc (j + 1) hk2
      have HYES := Lib.hid (show riseB l[j] l[j + 1] = true → RisenTo l (j + 1 + 1) from fun hr i hi h0 h1 => by
        by_cases e : i < j + 1
        · exact HT.out i hi h0 e
        · obtain rfl : i = j + 1 := by omega
          exact hr)
      have HNO := Lib.hid (show riseB l[j] l[j + 1] = false → X = false from fun hr => by
        rw [← Bool.not_eq_true]
        intro hx
        have := HX.out.1 hx (j + 1) hk2 (Nat.succ_pos _)
        simp only [Nat.add_sub_cancel] at this
        rw [hr] at this
        cases this)
      clear hc H HT
      generalize l[j] = x at h1 HYES HNO
      generalize l[j + 1] = y at h2 HYES HNO
      clear hk1 hk2
      unfold riseB at HYES HNO
      obtain ⟨xo, xa⟩ := x
      obtain ⟨yo, ya⟩ := y
      obtain ⟨c0, c1⟩ := h1
      obtain ⟨d0, d1⟩ := h2
      dsimp only at c0 c1 d0 d1 HYES HNO
      have e0 : (j : Int) + 1 < (N : Int) := by omega
      by_cases h1 : yo ≤ xo
      · obtain rfl : X = false := HNO.out (decide_eq_false (by omega))
        have gd1 : decide (yo ≤ xo) = true := decide_eq_true h1
        clear HYES HNO h1
        go_wp2
        go_quiet (fail)
        go_wp2
        go_ret
        exact ⟨rfl, below_drewN (below_drewN (Below.refl _ _) _) _⟩
      · have gd1 : decide (yo ≤ xo) = false := decide_eq_false h1
        by_cases h2 : ya < xa
        · obtain rfl : X = false := HNO.out (decide_eq_false (by omega))
          have gd2 : decide (ya < xa) = true := decide_eq_true h2
          clear HYES HNO h1 h2
          go_wp2
          go_quiet (fail)
          go_wp2
          go_ret
          exact ⟨rfl, below_drewN (below_drewN (Below.refl _ _) _) _⟩
        · have gd2 : decide (ya < xa) = false := decide_eq_false h2
          have HY := Lib.hid (HYES.out (decide_eq_true (by omega)))
          clear HYES HNO h1 h2
          go_wp2
          go_quiet (fail)
          go_wp2
          go_roundw
          case rel => exact ⟨j + 1, _, .inr hlt, by go_num, rfl, HY.out⟩
          case measure => simp [RowKit.intOf]; omega
    · obtain rfl : X = true := HX.out.2 (fun i hi h0 => HT.out i hi h0 (by rw [HN.out] at hi; omega))
      have hno : ¬ (j : Int) + 1 < (N : Int) := by omega
      go_wp2
      go_ret
      exact ⟨rfl, below_drewN (Below.refl _ _) n⟩
end Go.Proofs.Ytijpieaanlnibaa.Mkd
/- Package index: the mark from which on to look. -/
namespace Go.Proofs.Ytijpieaanlnibaa.Mkd
open Go.RowKit Go.Lib Rcd

set_option maxRecDepth 100000 in
set_option maxHeartbeats 4000000 in
/-- index.place. -/
theorem place_is (n : Int) (l : List Mk) (N : Nat) (A : Option Addr) (c B a m : Nat) (w : World) (hN : l.length = N) (hm : N ≤ 1000000) (hB : B ≤ w.heap.size) (h : MarksAt w B A l) (hA : Above n l a) (hp : placeN a = m) :
    Calls Try.prog 30 #[.slice A N c, .int .i64 n] w fun e w' => e = .returned (.int .i64 (m : Int)) ∧ Below w.heap.size w w' := by
  have hD := Duo.new w 29 3 #[.slice A N c] #[.int .i64 n]
  have HSE := Lib.hid (fun g W (hb : Below w.heap.size w W) (hg : W.cell? ⟨g, 0, none⟩ = some (.slice A N c)) (hg2 : W.cell? ⟨g + 1, 0, none⟩ = some (.int .i64 n)) => Search_is n l N A c w.heap.size g a W hN hm hb.size ((h.mono hB).below hb) hg hg2 hA)
  have haN : a ≤ 1000000 := Nat.le_trans (Nat.le_trans hA.1 (Nat.le_of_eq hN)) hm
  have hmx : a = m + 1 ∨ (a = 0 ∧ m = 0) := by
    rw [← hp]
    unfold placeN
    omega
  have HMX := Lib.hid hmx
  clear hN hB h hA hp hmx
  obtain ⟨p, hp⟩ : ∃ p, w.heap.size = p := ⟨_, rfl⟩
  obtain ⟨W0, hW⟩ : ∃ W0, (w.alloc (.cells #[.slice A N c] 29)).alloc (.cells #[.int .i64 n] 3) = W0 := ⟨_, rfl⟩
  rw [hW, hp] at hD
  have D0 := Lib.hid hD
  have HW := Lib.hid hW
  have HP := Lib.hid hp
  clear hD hW hp
  have hmf : ∀ (fn : Fn) (first cap : Array Value) (w : World), (Instr.makeFunc fn first cap).run Try.prog w = .ok (.func fn first cap) w := fun _ _ _ _ => rfl
  go_enter Try.func30, Try.ntmps30
  go_upto_region 1 with fail
  rw [HW.out, HP.out]
  clear HW HP
  have d0 : W0.cell? ⟨p, 0, none⟩ = some (.slice A N c) := D0.out.cell1 0
  have d1 : W0.cell? ⟨p + 1, 0, none⟩ = some (.int .i64 n) := D0.out.cell2 0
  have HS := Lib.hid (HSE.out p W0 D0.out.bel d0 d1)
  clear HSE d1
  go_wp2_with fail
  refine HS.out.mono ?_
  rintro e w1 ⟨rfl, hb1⟩
  have D1 := Lib.hid (D0.out.below hb1)
  clear D0 hb1 HS d0
  go_wp2_with fail
  all_goals
    go_ret
    exact ⟨ret_int (by have := HMX.out; omega), D1.out.bel⟩

/-- What index.From tells. -/
def FromV (n : Int) (l : List Mk) (R : Mk) (E : Int) : Prop :=
  (¬ Risen l ∧ R = mzero ∧ E = 1) ∨ (l = [] ∧ R = mzero ∧ E = 0) ∨ (Risen l ∧ ∃ m : Nat, ∃ h : m < l.length, fromZ l n = (m : Int) ∧ R = l[m] ∧ E = 0)
theorem from_ex (n : Int) (l : List Mk) : ∃ R E, FromV n l R E := by
  by_cases h : Risen l
  · by_cases h0 : 0 < l.length
    · obtain ⟨m, h1, h2, _⟩ := lastF_spec l n l.length h0
      exact ⟨_, _, .inr (.inr ⟨h, m, h2, h1, rfl, rfl⟩)⟩
    · exact ⟨_, _, .inr (.inl ⟨List.eq_nil_of_length_eq_zero (by omega), rfl, rfl⟩)⟩
  · exact ⟨_, _, .inl ⟨h, rfl, rfl⟩⟩

set_option maxRecDepth 100000 in
set_option maxHeartbeats 8000000 in
/-- index.From. -/
theorem From_is (n : Int) (l : List Mk) (N : Nat) (A : Option Addr) (c B : Nat) (R : Mk) (E : Int) (w : World) (hN : l.length = N) (hm : N ≤ 1000000) (hB : B ≤ w.heap.size) (h : MarksAt w B A l) (hV : FromV n l R E) :
    Calls Try.prog 15 #[.slice A N c, .int .i64 n] w fun e w' => e = .returned (.tuple #[magg R, .int .i64 E]) ∧ Below w.heap.size w w' := by
  have R0 := Lib.hid (RBox.new w 42 mzarr)
  have HO := Lib.hid (fun X W (hb : Below w.heap.size w W) (hX : X = true ↔ Risen l) => isInOrder_is l N A c B X W hN (by omega) (h.below (hb.mono hB)) hX)
  have HPL := Lib.hid (fun a m W (hb : Below w.heap.size w W) (hA : Above n l a) (hp : placeN a = m) => place_is n l N A c B a m W hN hm (Nat.le_trans hB hb.size) (h.below (hb.mono hB)) hA hp)
  have H := Lib.hid (h.mono hB)
  have HN := Lib.hid hN
  have hgw := Nat.le_refl w.heap.size
  obtain ⟨p, hp⟩ : ∃ p, w.heap.size = p := ⟨_, rfl⟩
  obtain ⟨W0, hW⟩ : ∃ W0, w.alloc (.cells mzarr 42) = W0 := ⟨_, rfl⟩
  rw [hW, hp] at R0
  have hpw : w.heap.size ≤ p := Nat.le_of_eq hp
  unfold mzarr at R0 hW
  have HW := Lib.hid hW
  have HP := Lib.hid hp
  have HPW := Lib.hid hpw
  clear hW hp h hN hB hgw hpw
  rcases hV with ⟨hr, rfl, rfl⟩ | ⟨rfl, rfl, rfl⟩ | ⟨hr, m, hml, hf, rfl, rfl⟩
  · have HO1 := Lib.hid (fun W hb => HO.out false W hb ⟨fun h => absurd h Bool.false_ne_true, fun h => absurd h hr⟩)
    clear HO HPL H HN hr
    unfold magg mzero marr
    go_enter Try.func15, Try.ntmps15
    go_upto_region 1 with fail
    rw [HW.out, HP.out]
    clear HW HP
    go_wp2_with fail
    refine (HO1.out _ R0.out.out.2).mono ?_
    rintro e w1 ⟨rfl, hb1⟩
    have R1 := Lib.hid (R0.out.below hb1)
    have HB := Lib.hid R1.out.out.1
    clear R0 hb1 HO1
    go_wp2_with (refine wpList_store_whole rfl 42 (.tmp 4) (.tmp 9) rfl p _ rfl rfl _ HB.out info_mark rfl (by simp [Value.oneCell']) ?_; simp only [Act.put])
    have R2 := Lib.hid (R1.out.row HPW.out #[.int .i64 0, .int .i64 0])
    refine bodyPost_ret (results_cell2 Try.results15 rfl (load_mblk R2.out.out.1 rfl) rfl) rfl ⟨rfl, R2.out.out.2⟩
  · have HO1 := Lib.hid (fun W hb => HO.out true W hb ⟨fun _ i hi _ => absurd hi (Nat.not_lt_zero _), fun _ => rfl⟩)
    obtain rfl : N = 0 := HN.out.symm
    clear HO HPL H HN
    unfold magg mzero marr
    go_enter Try.func15, Try.ntmps15
    go_upto_region 1 with fail
    rw [HW.out, HP.out]
    clear HW HP
    go_wp2_with fail
    refine (HO1.out _ R0.out.out.2).mono ?_
    rintro e w1 ⟨rfl, hb1⟩
    have R1 := Lib.hid (R0.out.below hb1)
    have HB := Lib.hid R1.out.out.1
    clear R0 hb1 HO1
    go_wp2_with (refine wpList_store_whole rfl 42 (.tmp 4) (.tmp 13) rfl p _ rfl rfl _ HB.out info_mark rfl (by simp [Value.oneCell']) ?_; simp only [Act.put])
    have R2 := Lib.hid (R1.out.row HPW.out #[.int .i64 0, .int .i64 0])
    refine bodyPost_ret (results_cell2 Try.results15 rfl (load_mblk R2.out.out.1 rfl) rfl) rfl ⟨rfl, R2.out.out.2⟩
  · obtain ⟨a, hA⟩ := above_of n hr
    have hpm : placeN a = m := by
      have h1 := above_from hA (by omega)
      omega
    have HO1 := Lib.hid (fun W hb => HO.out true W hb ⟨fun _ => hr, fun _ => rfl⟩)
    have HP1 := Lib.hid (fun W hb => HPL.out a m W hb hA hpm)
    have hmN : m < N := by rw [← HN.out]; exact hml
    obtain ⟨b0, o0, rfl, hb0, hc⟩ := H.out.some_ (by omega)
    have hx := hc m hml
    have hbp : b0 < p := by rw [← HP.out]; exact hb0
    clear hr hA hpm hf hc H HO HPL
    unfold magg
    generalize l[m] = x at hx
    obtain ⟨o, at_⟩ := x
    unfold marr
    obtain ⟨c0, c1⟩ := hx
    dsimp only at c0 c1 ⊢
    have HC := Lib.hid (And.intro c0 c1)
    have e1 : (m : Int) < (N : Int) := by omega
    have n0 : ¬ N = 0 := by omega
    have n0' : ¬ (N : Int) = 0 := by omega
    have n0b : decide ((N : Int) = 0) = false := decide_eq_false n0'
    clear c0 c1 hml
    go_enter Try.func15, Try.ntmps15
    go_upto_region 1 with fail
    rw [HW.out, HP.out]
    clear HW
    go_wp2_with fail
    refine (HO1.out _ R0.out.out.2).mono ?_
    rintro e w1 ⟨rfl, hb1⟩
    have R1 := Lib.hid (R0.out.below hb1)
    clear R0 hb1 HO1
    go_wp2_with fail
    refine (HP1.out _ R1.out.out.2).mono ?_
    rintro e w2 ⟨rfl, hb2⟩
    have R2 := Lib.hid (R1.out.below hb2)
    clear R1 hb2 HP1
    have hcl := fun i => R2.out.out.2.cell (p := ⟨b0, i, none⟩) (by rw [HP.out]; exact hbp)
    have c0 := (hcl _).trans HC.out.1
    have c1 := (hcl _).trans HC.out.2
    have HB := Lib.hid R2.out.out.1
    clear HC hcl
    go_wp2_with (refine wpList_store_whole rfl 42 (.tmp 4) (.tmp 19) rfl p _ rfl rfl _ HB.out info_mark rfl (by simp [Value.oneCell']) ?_; simp only [Act.put])
    have R3 := Lib.hid (R2.out.row HPW.out #[.int .i64 o, .int .i64 at_])
    refine bodyPost_ret (results_cell2 Try.results15 rfl (load_mblk R3.out.out.1 rfl) rfl) rfl ⟨rfl, R3.out.out.2⟩
end Go.Proofs.Ytijpieaanlnibaa.Mkd
/- The document's own answer: which mark is the last one not above an offset. -/
namespace Go.Proofs.Ytijpieaanlnibaa.Mkd
open Go.RowKit Go.Lib Rcd

set_option maxRecDepth 100000 in
set_option maxHeartbeats 4000000 in
/-- fairwayref10.From. -/
theorem RFrom_is (n : Int) (l : List Mk) (N : Nat) (A : Option Addr) (c B : Nat) (z : Int) (w : World) (hN : l.length = N) (hm : N ≤ 9223372036854775807) (h : MarksAt w B A l) (hz : fromZ l n = z) :
    Calls Try.prog 17 #[.slice A N c, .int .i64 n] w fun e w' => e = .returned (.int .i64 z) ∧ Below w.heap.size w w' := by
  have H := Lib.hid h
  have HN := Lib.hid hN
  have HZ := Lib.hid hz
  clear h hN hz
  go_enter Try.func17, Try.ntmps17
  go_wp2_with fail
  go_loopw [5, 6] (fun v i wr => ∃ (k d : Nat) (y : Int), k ≤ N ∧ v = .int .i64 y ∧ lastF l n k = y ∧ i = .int .i64 (k : Int) ∧ wr = w.drewN d) (fun _ i _ => N - (RowKit.intOf i).toNat)
  case atStart => exact ⟨0, 0, -1, Nat.zero_le _, rfl, rfl, rfl, rfl⟩
  case round =>
    obtain ⟨k, d, y, hk, rfl, hy, rfl, rfl⟩ := hrel
    have HY := Lib.hid hy
    clear hy
    by_cases hlt : k < N
    · have hk1 : k < l.length := by rw [HN.out]; exact hlt
      obtain ⟨b, o, rfl, _, hc⟩ := H.out.some_ (by omega)
      have h1 := hc k hk1
      have HD := Lib.hid (show l.getD k mzero = l[k] from by rw [List.getD_eq_getElem?_getD, List.getElem?_eq_getElem hk1]; rfl)
      clear hc
      generalize l[k] = x at h1 HD
      clear hk1 H
      obtain ⟨xo, xa⟩ := x
      obtain ⟨c0, c1⟩ := h1
      dsimp only at c0 c1
      have hkI : (k : Int) < (N : Int) := by omega
      by_cases h0 : k = 0
      · subst h0
        have HL := Lib.hid (lastF_yes (l := l) (n := n) (k := 0) (.inl rfl))
        clear HY HD
        go_wp2
        go_roundw
        case rel => exact ⟨1, _, 0, hlt, rfl, HL.out, by go_num, rfl⟩
        case measure => simp [RowKit.intOf]; omega
      · have g0 : decide ((k : Int) = 0) = false := decide_eq_false (by omega)
        have g0' : decide (k = 0) = false := decide_eq_false h0
        by_cases h2 : xo ≤ n
        · have gd : decide (xo ≤ n) = true := decide_eq_true h2
          have HL := Lib.hid (lastF_yes (l := l) (n := n) (k := k) (.inr (by rw [HD.out]; exact h2)))
          clear HY HD h2
          go_wp2
          go_roundw
          case rel => exact ⟨k + 1, _, (k : Int), hlt, rfl, HL.out, by go_num, rfl⟩
          case measure => simp [RowKit.intOf]; omega
        · have gd : decide (xo ≤ n) = false := decide_eq_false h2
          have HL := Lib.hid ((lastF_no (l := l) (n := n) (k := k) (by rw [HD.out]; exact fun h => h.elim h0 h2)).trans HY.out)
          clear HY HD h2
          go_wp2
          go_roundw
          case rel => exact ⟨k + 1, _, y, hlt, rfl, HL.out, by go_num, rfl⟩
          case measure => simp [RowKit.intOf]; omega
    · obtain rfl : k = N := by omega
      obtain rfl : y = z := by
        rw [← HZ.out, ← HY.out]
        unfold fromZ
        rw [HN.out]
      go_wp2
      go_ret
      exact ⟨rfl, below_drewN (Below.refl _ _) _⟩
end Go.Proofs.Ytijpieaanlnibaa.Mkd
/- Do marks rise, by the document's own answer. -/
namespace Go.Proofs.Ytijpieaanlnibaa.Mkd
open Go.RowKit Go.Lib Rcd

set_option maxRecDepth 100000 in
set_option maxHeartbeats 4000000 in
/-- fairwayref10.Risen. -/
theorem Risen_is (l : List Mk) (N : Nat) (A : Option Addr) (c B : Nat) (X : Bool) (w : World) (hN : l.length = N) (hm : N ≤ 9223372036854775807) (h : MarksAt w B A l) (hX : X = true ↔ Risen l) :
    Calls Try.prog 16 #[.slice A N c] w fun e w' => e = .returned (.bool X) ∧ Below w.heap.size w w' := by
  have H := Lib.hid h
  have HX := Lib.hid hX
  have HN := Lib.hid hN
  clear h hX hN
  go_enter Try.func16, Try.ntmps16
  go_wp2_with fail
  go_loopw [3] (fun i wr => ∃ j n : Nat, (j = 0 ∨ j < N) ∧ i = .int .i64 ((j : Int) + 1) ∧ wr = w.drewN n ∧ RisenTo l (j + 1)) (fun i _ => N - (RowKit.intOf i).toNat)
  case atStart => exact ⟨0, 0, .inl rfl, rfl, rfl, fun i _ h0 h1 => absurd h1 (by omega)⟩
  case round =>
    obtain ⟨j, n, hj, rfl, rfl, hto⟩ := hrel
    have HT := Lib.hid hto
    clear hto
    by_cases hlt : j + 1 < N
    · have hk1 : j < l.length := by rw [HN.out]; omega
      have hk2 : j + 1 < l.length := by rw [HN.out]; exact hlt
      obtain ⟨b, o, rfl, _, hc⟩ := H.out.some_ (by omega)
      have h1 := hc j hk1
      have h2 := hc (j + 1) hk2
      have HYES := Lib.hid (show riseB l[j] l[j + 1] = true → RisenTo l (j + 1 + 1) from fun hr i hi h0 h1 => by
        by_cases e : i < j + 1
        · exact HT.out i hi h0 e
        · obtain rfl : i = j + 1 := by omega
          exact hr)
      have HNO := Lib.hid (show riseB l[j] l[j + 1] = false → X = false from fun hr => by
        rw [← Bool.not_eq_true]
        intro hx
        have := HX.out.1 hx (j + 1) hk2 (Nat.succ_pos _)
        simp only [Nat.add_sub_cancel] at this
        rw [hr] at this
        cases this)
      clear hc H HT
      generalize l[j] = x at h1 HYES HNO
      generalize l[j + 1] = y at h2 HYES HNO
      clear hk1 hk2
      unfold riseB at HYES HNO
      obtain ⟨xo, xa⟩ := x
      obtain ⟨yo, ya⟩ := y
      obtain ⟨c0, c1⟩ := h1
      obtain ⟨d0, d1⟩ := h2
      dsimp only at c0 c1 d0 d1 HYES HNO
      have e0 : (j : Int) + 1 < (N : Int) := by omega
      by_cases h1 : yo ≤ xo
      · obtain rfl : X = false := HNO.out (decide_eq_false (by omega))
        have gd1 : decide (yo ≤ xo) = true := decide_eq_true h1
        clear HYES HNO h1
        go_wp2
        go_quiet (fail)
        go_wp2
        go_ret
        exact ⟨rfl, below_drewN (below_drewN (Below.refl _ _) _) _⟩
      · have gd1 : decide (yo ≤ xo) = false := decide_eq_false h1
        by_cases h2 : ya < xa
        · obtain rfl : X = false := HNO.out (decide_eq_false (by omega))
          have gd2 : decide (ya < xa) = true := decide_eq_true h2
          clear HYES HNO h1 h2
          go_wp2
          go_quiet (fail)
          go_wp2
          go_ret
          exact ⟨rfl, below_drewN (below_drewN (Below.refl _ _) _) _⟩
        · have gd2 : decide (ya < xa) = false := decide_eq_false h2
          have HY := Lib.hid (HYES.out (decide_eq_true (by omega)))
          clear HYES HNO h1 h2
          go_wp2
          go_quiet (fail)
          go_wp2
          go_roundw
          case rel => exact ⟨j + 1, _, .inr hlt, by go_num, rfl, HY.out⟩
          case measure => simp [RowKit.intOf]; omega
    · obtain rfl : X = true := HX.out.2 (fun i hi h0 => HT.out i hi h0 (by rw [HN.out] at hi; omega))
      have hno : ¬ (j : Int) + 1 < (N : Int) := by omega
      go_wp2
      go_ret
      exact ⟨rfl, below_drewN (Below.refl _ _) n⟩
end Go.Proofs.Ytijpieaanlnibaa.Mkd
/- IndexFroms: package index and the document's own answer tell the same last mark not above any offset. -/
namespace Go.Proofs.Ytijpieaanlnibaa.Mkd
open Go.RowKit Go.Lib Rcd

/-- The marks that a script's records are taken for. -/
def mkOf (r : Rc) : Mk := ⟨r.o, r.t⟩
def mksOf (L : List Rc) (k : Nat) : List Mk := (L.take k).map mkOf
theorem mks_next {L : List Rc} {k : Nat} (h : k < L.length) : mksOf L (k + 1) = mksOf L k ++ [⟨L[k].o, L[k].t⟩] := by
  unfold mksOf
  rw [List.take_succ_eq_append_getElem h, List.map_append]
  rfl
theorem mks_len {L : List Rc} {k : Nat} (h : k ≤ L.length) : (mksOf L k).length = k := by
  unfold mksOf
  rw [List.length_map, List.length_take]
  omega
/-- Behind the marks' making. -/
@[irreducible] def Made (w : World) (p : Nat) (cs : Array Value) (l : List Mk) (K : Nat) (V : Value) (W : World) : Prop := ∃ A c, V = .slice A K c ∧ K ≤ c ∧ MarksAt W W.heap.size A l ∧ RBox w p cs W
theorem Made.mk {w W : World} {p K : Nat} {cs : Array Value} {l : List Mk} {V : Value} (h : ∃ A c, V = .slice A K c ∧ K ≤ c ∧ MarksAt W W.heap.size A l ∧ RBox w p cs W) : Made w p cs l K V W := by unfold Made; exact h
theorem Made.out {w W : World} {p K : Nat} {cs : Array Value} {l : List Mk} {V : Value} (h : Made w p cs l K V W) : ∃ A c, V = .slice A K c ∧ K ≤ c ∧ MarksAt W W.heap.size A l ∧ RBox w p cs W := by unfold Made at h; exact h

set_option maxRecDepth 100000 in
set_option maxHeartbeats 16000000 in
theorem IndexFroms_any (b : Int) (rs L : List Rc) (ns : List Int) (A B D : Option Addr) (c cl cn : Nat) (x : ByteArray) (w : World) (hl1 : rs.length ≤ 9223372036854775807) (hl2 : L.length ≤ 9223372036854775807) (hl3 : ns.length ≤ 9223372036854775807) (hA : RecsAt w w.heap.size A rs) (hB : RecsAt w w.heap.size B L) (hD : Nums w w.heap.size .i64 D ns) :
    Calls Try.prog 4 #[.agg #[.int .i64 b, .slice A rs.length c, .slice B L.length cl, .slice D ns.length cn, .string x]] w fun e w' => e = .returned (.bool true) ∧ Below w.heap.size w w' := by
  obtain ⟨i0, hi, hz0, hz1, hz2⟩ := info_parts info_mmore
  have HV := Lib.hid (fun W (hb : Below w.heap.size w W) => Heavy_is b rs L A B D c cl ns.length cn x W hl1 hl2 (hA.on hb) (hB.on hb))
  have HWK := Lib.hid (fun W => wakes_any W)
  have HB := Lib.hid hB
  have HD := Lib.hid hD
  have R0 := Lib.hid (RBox.new w 27 #[.int .i64 b, .slice A rs.length c, .slice B L.length cl, .slice D ns.length cn, .string x])
  obtain ⟨p, hp⟩ : ∃ p, w.heap.size = p := ⟨_, rfl⟩
  obtain ⟨W0, hW⟩ : ∃ W0, w.alloc (.cells #[.int .i64 b, .slice A rs.length c, .slice B L.length cl, .slice D ns.length cn, .string x] 27) = W0 := ⟨_, rfl⟩
  rw [hW, hp] at R0
  have HW := Lib.hid hW
  have HP := Lib.hid hp
  have hpw : w.heap.size ≤ p + 1 := by omega
  clear hW hp hA hB hD
  go_enter Try.func4, Try.ntmps4
  go_upto_region 1 with fail
  rw [HW.out, HP.out]
  clear HW
  have hld := load_script R0.out.out.1 rfl
  go_wp2_with (refine wpList_load_any (by rfl) 27 (.tmp 1) rfl p 0 rfl _ hld ?_; simp only [Act.put])
  refine (HV.out _ R0.out.out.2).mono ?_
  rintro e w1 ⟨v, rfl, _, hb1⟩
  have R1 := Lib.hid (R0.out.below hb1)
  clear R0 hb1 hld HV
  cases v with
  | true =>
    go_wp2_with fail
    go_ret
    exact ⟨rfl, R1.out.out.2⟩
  | false =>
    go_upto_block 0 with fail
    obtain ⟨K, hK⟩ : ∃ K, min L.length 20 = K := ⟨_, rfl⟩
    go_cut [3, 4] from 14 to 40 (fun s3 s4 wx => s4 = .int .i64 (K : Int) ∧ Made w p #[.int .i64 b, .slice A rs.length c, .slice B L.length cl, .slice D ns.length cn, .string x] (mksOf L K) K s3 wx)
    case first =>
      go_wp2_with fail
      go_loopw [3, 4] (fun mv i wr => ∃ (m : Value) (k : Nat), m = mv ∧ k ≤ K ∧ i = .int .i64 (k : Int) ∧ RBox w p #[.int .i64 b, .slice A rs.length c, .slice B L.length cl, .slice D ns.length cn, .string x] wr ∧ wr.ownsRow (p + 1) 42 2 m k (mflat (mksOf L k))) (fun _ i _ => K - (RowKit.intOf i).toNat)
      case atStart => exact ⟨_, 0, rfl, Nat.zero_le _, rfl, R1.out, World.ownsRow_nil _ _ _ _⟩
      case round =>
        obtain ⟨m, k, hmv, hk, rfl, hbx, hown⟩ := hrel
        subst hmv
        have R := Lib.hid hbx
        have HO := Lib.hid hown
        clear hbx hown R1
        have d2 : wr.cell? ⟨p, 2, none⟩ = some (.slice B L.length cl) := R.out.cell 2
        by_cases hgo : k < L.length ∧ k < 20
        · obtain ⟨h1, h2⟩ := hgo
          have e1 : (k : Int) < (L.length : Int) := by omega
          have e2 : (k : Int) < 20 := by omega
          obtain ⟨b0, o0, rfl, hb0, hc⟩ := HB.out.some_ (by omega)
          obtain ⟨c0, c1, _⟩ := hc k h1
          have HN := Lib.hid (mks_next h1)
          have hkK : k + 1 ≤ K := by omega
          have HMF : Hid (mflat (mksOf L (k + 1)) = mflat (mksOf L k) ++ [.int .i64 L[k].o, .int .i64 L[k].t]) := by show _ = _; rw [HN.out, mflat_snoc]; rfl
          clear hc HN
          generalize L[k].o = o at c0 HMF
          generalize L[k].t = t at c1 HMF
          go_upto_region 7 with fail
          have hS0 := R.out.drewN 1
          have OW := own_below HO.out (below_drewN (Below.refl wr.heap.size wr) 1)
          refine wp_region_held_drew (S := fun W => RBox w p #[.int .i64 b, .slice A rs.length c, .slice (some ⟨b0, o0, none⟩) L.length cl, .slice D ns.length cn, .string x] W) (by kernel_rfl) hS0 (fun hS => ?_)
          change wr.drew.ownsRow (p + 1) 42 2 m k (mflat (mksOf L k)) at OW
          clear hS0 R HO d2
          generalize wr.drew = Wd at hS OW ⊢
          refine take_op 0 25 ?v1_ rfl rfl (by kernel_rfl) (fun _ _ _ h => h) (by rfl) hS (fun w' hS' => ?hv1_) ?hh1_
          case hv1_ => (go_simp; (try with_reducible rfl); (try omega))
          simp only [Act.put, List.setIfInBounds_toArray, List.set_cons_zero, List.set_cons_succ]
          refine take_op 1 26 ?v2_ rfl rfl (by kernel_rfl) (fun _ _ _ h => h) (by rfl) hS (fun w' hS' => ?hv2_) ?hh2_
          case hv2_ => (go_simp; (try with_reducible rfl); (try omega))
          simp only [Act.put, List.setIfInBounds_toArray, List.set_cons_zero, List.set_cons_succ]
          refine take_op 2 27 (.slice (some ⟨b0, o0, none⟩) L.length cl) rfl rfl (by kernel_rfl) (fun _ _ _ h => h) (by rfl) hS (fun w' hS' => ?hv3_) ?hh3_
          case hv3_ => (have d2 : w'.cell? ⟨p, 2, none⟩ = some (.slice (some ⟨b0, o0, none⟩) L.length cl) := hS'.cell 2; go_simp; (try with_reducible rfl); (try omega))
          simp only [Act.put, List.setIfInBounds_toArray, List.set_cons_zero, List.set_cons_succ]
          refine take_op 3 28 ?v4_ rfl rfl (by kernel_rfl) (fun _ _ _ h => h) (by rfl) hS (fun w' hS' => ?hv4_) ?hh4_
          case hv4_ => (go_simp; (try with_reducible rfl); (try omega))
          simp only [Act.put, List.setIfInBounds_toArray, List.set_cons_zero, List.set_cons_succ]
          refine take_op 4 29 (.pointer (some ⟨b0, o0 + k * 6, none⟩)) rfl rfl (by kernel_rfl) (fun _ _ _ h => h) (by rfl) hS (fun w' hS' => ?hv5_) ?hh5_
          case hv5_ => (go_simp; (try with_reducible rfl); (try omega))
          simp only [Act.put, List.setIfInBounds_toArray, List.set_cons_zero, List.set_cons_succ]
          refine take_op 5 30 (.pointer (some ⟨b0, o0 + k * 6, none⟩)) rfl rfl (by kernel_rfl) (fun _ _ _ h => h) (by rfl) hS (fun w' hS' => ?hv6_) ?hh6_
          case hv6_ => (go_simp; (try with_reducible rfl); (try omega))
          simp only [Act.put, List.setIfInBounds_toArray, List.set_cons_zero, List.set_cons_succ]
          refine take_op 6 31 (.int .i64 o) rfl rfl (by kernel_rfl) (fun _ _ _ h => h) (by rfl) hS (fun w' hS' => ?hv7_) ?hh7_
          case hv7_ => (have f0 := (hS'.out.2.cell (p := ⟨b0, o0 + k * 6, none⟩) hb0).trans c0; go_simp; (try with_reducible rfl); (try omega))
          simp only [Act.put, List.setIfInBounds_toArray, List.set_cons_zero, List.set_cons_succ]
          refine take_op 7 32 ?v8_ rfl rfl (by kernel_rfl) (fun _ _ _ h => h) (by rfl) hS (fun w' hS' => ?hv8_) ?hh8_
          case hv8_ => (go_simp; (try with_reducible rfl); (try omega))
          simp only [Act.put, List.setIfInBounds_toArray, List.set_cons_zero, List.set_cons_succ]
          refine take_op 8 33 (.slice (some ⟨b0, o0, none⟩) L.length cl) rfl rfl (by kernel_rfl) (fun _ _ _ h => h) (by rfl) hS (fun w' hS' => ?hv9_) ?hh9_
          case hv9_ => (have d2 : w'.cell? ⟨p, 2, none⟩ = some (.slice (some ⟨b0, o0, none⟩) L.length cl) := hS'.cell 2; go_simp; (try with_reducible rfl); (try omega))
          simp only [Act.put, List.setIfInBounds_toArray, List.set_cons_zero, List.set_cons_succ]
          refine take_op 9 34 ?v10_ rfl rfl (by kernel_rfl) (fun _ _ _ h => h) (by rfl) hS (fun w' hS' => ?hv10_) ?hh10_
          case hv10_ => (go_simp; (try with_reducible rfl); (try omega))
          simp only [Act.put, List.setIfInBounds_toArray, List.set_cons_zero, List.set_cons_succ]
          refine take_op 10 35 (.pointer (some ⟨b0, o0 + k * 6, none⟩)) rfl rfl (by kernel_rfl) (fun _ _ _ h => h) (by rfl) hS (fun w' hS' => ?hv11_) ?hh11_
          case hv11_ => (go_simp; (try with_reducible rfl); (try omega))
          simp only [Act.put, List.setIfInBounds_toArray, List.set_cons_zero, List.set_cons_succ]
          refine take_op 11 36 (.pointer (some ⟨b0, o0 + k * 6 + 1, none⟩)) rfl rfl (by kernel_rfl) (fun _ _ _ h => h) (by rfl) hS (fun w' hS' => ?hv12_) ?hh12_
          case hv12_ => (go_simp; (try with_reducible rfl); (try omega))
          simp only [Act.put, List.setIfInBounds_toArray, List.set_cons_zero, List.set_cons_succ]
          refine take_op 12 37 (.int .i64 t) rfl rfl (by kernel_rfl) (fun _ _ _ h => h) (by rfl) hS (fun w' hS' => ?hv13_) ?hh13_
          case hv13_ => (have f1 := (hS'.out.2.cell (p := ⟨b0, o0 + k * 6 + 1, none⟩) hb0).trans c1; go_simp; (try with_reducible rfl); (try omega))
          simp only [Act.put, List.setIfInBounds_toArray, List.set_cons_zero, List.set_cons_succ]
          refine take_op 13 38 (.agg #[.int .i64 o, .int .i64 t]) rfl rfl (by kernel_rfl) (fun _ _ _ h => h) (by rfl) hS (fun w' hS' => ?hv14_) ?hh14_
          case hv14_ => (go_simp; (try with_reducible rfl); (try omega))
          simp only [Act.put, List.setIfInBounds_toArray, List.set_cons_zero, List.set_cons_succ]
          refine only_op 14 rfl (by kernel_rfl) (by rfl) (wp_made 39 (.slice (some ⟨Wd.heap.size, 0, none⟩) 1 1) rfl (w' := Wd.alloc (.cells #[.int .i64 o, .int .i64 t] 42)) (by go_simp; try rfl) ⟨hS.below ((Below.refl _ _).alloc (Nat.le_refl _) _), ?_⟩)
          simp only [Act.put, List.setIfInBounds_toArray, List.set_cons_zero, List.set_cons_succ]
          have GW := Blk.new Wd 42 #[.int .i64 o, .int .i64 t]
          have hbl := (Below.refl Wd.heap.size Wd).alloc (Nat.le_refl _) (.cells #[.int .i64 o, .int .i64 t] 42)
          have OW := own_below OW hbl
          have hS := hS.below hbl
          generalize Wd.alloc _ = Wz at GW hS OW ⊢
          generalize Wd.heap.size = g9 at GW ⊢
          clear hbl
          have hp5 := hS.out.1.lt
          refine only_op 15 rfl (by kernel_rfl) (by rfl) (wp_append_own Wz (.tmp 25) (.tmp 39) 29 rfl (p + 1) 42 i0 (.agg #[.int .i64 0, .int .i64 0]) 2 16 Try.underlying29 hi hz0 hz1 hz2 rfl (by decide) _ _ _ rfl OW ⟨g9, 0, none⟩ 1 1 [.int .i64 o, .int .i64 t] rfl rfl ?n1 ?n2 ?n3 ?n4 ?n5 (fun v' Wy hown' hgrow _ => ⟨RBox.mk (blk_grown0 hS.out.1 OW (Nat.lt_succ_self _) hgrow) (hS.out.2.trans (below_grown hS.out.2.size (own_mono OW hpw) hgrow)), ?_⟩))
          case n1 => exact fun j u hu => by rw [add_new, GW.cell]; simpa using hu
          case n2 => exact fun u hu => by simp at hu; rcases hu with rfl | rfl <;> rfl
          case n3 => unfold maxLen; omega
          case n4 => omega
          case n5 => omega
          simp only [Act.put, List.setIfInBounds_toArray, List.set_cons_zero, List.set_cons_succ]
          have RY := Lib.hid (RBox.mk (blk_grown0 hS.out.1 OW (Nat.lt_succ_self _) hgrow) (hS.out.2.trans (below_grown hS.out.2.size (own_mono OW hpw) hgrow)))
          have OY : Hid (Wy.ownsRow (p + 1) 42 2 v' (k + 1) (mflat (mksOf L (k + 1)))) := by show World.ownsRow _ _ _ _ _ _ _; rw [HMF.out]; exact hown'
          clear hown' hgrow OW hS GW hp5 HMF
          refine take_op 16 3 v' rfl rfl (by kernel_rfl) (fun _ _ _ h => h) (by rfl) RY.out (fun w' hS' => ?hv15_) ?hh15_
          case hv15_ => (go_simp; (try with_reducible rfl); (try omega))
          simp only [Act.put, List.setIfInBounds_toArray, List.set_cons_zero, List.set_cons_succ]
          refine wpAnyH_done (by kernel_rfl) ?_ _
          go_wp2_with fail
          go_roundw
          case rel => exact ⟨_, k + 1, rfl, hkK, by go_num, RY.out, OY.out⟩
          case measure => simp [RowKit.intOf]; omega
        · have hkK : k = K := by omega
          subst hkK
          obtain ⟨A', c', hv⟩ := row_slice HO.out
          subst hv
          have HMD := Lib.hid (Made.mk ⟨A', c', rfl, row_cap HO.out, MarksAt.of_ownN (mks_len (by omega)) HO.out, R.out⟩)
          clear HO R
          by_cases h1 : k < L.length
          · have e2 : ¬ k < 20 := fun h => hgo ⟨h1, h⟩
            clear hgo hK
            go_wp2_with fail
            go_meet
            exact ⟨rfl, HMD.out⟩
          · clear hgo hK
            go_wp2_with fail
            go_meet
            exact ⟨rfl, HMD.out⟩
    case rest =>
      obtain ⟨rfl, hmd⟩ := hcut
      obtain ⟨A', c', rfl, hKc, hMM, hR⟩ := hmd.out
      obtain ⟨V, hV⟩ : ∃ V, V = wc := ⟨_, rfl⟩
      subst hV
      have RV := Lib.hid hR
      have HMV := Lib.hid (fun W (hb : Below V.heap.size V W) => hMM.on hb)
      have HKL : Hid (K ≤ L.length ∧ K ≤ 20) := by show _ ∧ _; omega
      clear hmd hMM hR hK R1 HB
      go_wp2_with fail
      go_loopw [5] (fun i wr => ∃ k : Nat, k ≤ 20 ∧ k ≤ ns.length ∧ i = .int .i64 (k : Int) ∧ Below V.heap.size V wr) (fun i _ => 20 - (RowKit.intOf i).toNat)
      case atStart => exact ⟨0, by omega, Nat.zero_le _, rfl, Below.refl _ _⟩
      case round =>
        obtain ⟨k, hk20, hkn, rfl, hbel⟩ := hrel
        have HBV := Lib.hid hbel
        clear hbel
        have d3 : wr.cell? ⟨p, 3, none⟩ = some (.slice D ns.length cn) := (RV.out.below HBV.out).cell 3
        by_cases hgo : k < ns.length ∧ k < 20
        · obtain ⟨h1, h2⟩ := hgo
          have e1 : (k : Int) < (ns.length : Int) := by omega
          have e2 : (k : Int) < 20 := by omega
          obtain ⟨ad, rfl, hab, hcd⟩ := (HD.out.below (Below.step RV.out.out.2 HBV.out)).some_ (by omega)
          have hnn := hcd k h1
          obtain ⟨n, hn⟩ : ∃ n, ns.getD k 0 = n := ⟨_, rfl⟩
          rw [hn] at hnn
          obtain ⟨V2, hV2⟩ : ∃ V2, V2 = wr := ⟨_, rfl⟩
          subst hV2
          have hbV : ad.block < V2.heap.size := Nat.lt_of_lt_of_le hab (Below.step RV.out.out.2 HBV.out).size
          have hpV : p < V2.heap.size := (RV.out.below HBV.out).out.1.lt
          have HN := Lib.hid (fun W (hb : Below V2.heap.size V2 W) => (hb.cell (p := ad.add k) (by rw [add_block]; exact hbV)).trans hnn)
          have HD3 := Lib.hid (fun W (hb : Below V2.heap.size V2 W) => (hb.cell (p := ⟨p, 3, none⟩) hpV).trans d3)
          clear hcd hn hnn hbV hpV
          go_wp2_with fail
          clear d3
          go_loopw [6] (fun i wr => ∃ j : Nat, j ≤ K + 1 ∧ i = .int .i64 (j : Int) ∧ Below V2.heap.size V2 wr) (fun i _ => K + 1 - (RowKit.intOf i).toNat)
          case atStart => exact ⟨0, Nat.zero_le _, rfl, Below.refl _ _⟩
          case round =>
            obtain ⟨j, hjK, rfl, hbel⟩ := hrel
            have HB2 := Lib.hid hbel
            clear hbel
            by_cases hj : j ≤ K
            · have e3 : (j : Int) ≤ (K : Int) := by omega
              obtain ⟨V3, hV3⟩ : ∃ V3, V3 = wr := ⟨_, rfl⟩
              subst hV3
              have hlj : ((mksOf L K).take j).length = j := by rw [List.length_take, mks_len HKL.out.1]; omega
              have HMJ := Lib.hid (fun W (hb : Below V3.heap.size V3 W) => (HMV.out W (Below.step HBV.out (Below.step HB2.out hb))).take j)
              have HN3 := Lib.hid (fun W (hb : Below V3.heap.size V3 W) => HN.out W (Below.step HB2.out hb))
              have HD33 := Lib.hid (fun W (hb : Below V3.heap.size V3 W) => HD3.out W (Below.step HB2.out hb))
              have hK20 := HKL.out.2
              have hfr := fun w => marks_front A' K c' j w (by omega)
              obtain ⟨Q, E, hFV⟩ := from_ex n ((mksOf L K).take j)
              have HFROM := Lib.hid (fun W (hb : Below V3.heap.size V3 W) => From_is n ((mksOf L K).take j) j A' c' W.heap.size Q E W hlj (by omega) (Nat.le_refl _) (HMJ.out W hb) hFV)
              have HRIS := Lib.hid (fun X W (hb : Below V3.heap.size V3 W) (hX : X = true ↔ Risen ((mksOf L K).take j)) => Risen_is ((mksOf L K).take j) j A' c' W.heap.size X W hlj (by omega) (HMJ.out W hb) hX)
              have HRF := Lib.hid (fun z W (hb : Below V3.heap.size V3 W) (hz : fromZ ((mksOf L K).take j) n = z) => RFrom_is n ((mksOf L K).take j) j A' c' W.heap.size z W hlj (by omega) (HMJ.out W hb) hz)
              obtain ⟨lj, hlj2⟩ : ∃ lj, lj = (mksOf L K).take j := ⟨_, rfl⟩
              rw [← hlj2] at hlj HMJ hFV HRIS HRF
              have HFV := Lib.hid hFV
              have HLJ := Lib.hid hlj
              unfold magg marr at HFROM
              clear hlj2 hFV hlj HN HD3
              obtain ⟨o, a⟩ := Q
              dsimp only at HFROM
              go_upto_region 14 with fail
              go_cut [7, 8] from 58 to 69 (fun s1 s2 wx => ∃ g, s1 = .pointer (some ⟨g, 0, none⟩) ∧ s2 = .int .i64 E ∧ Hid (RBox V3 g #[.int .i64 o, .int .i64 a] wx ∧ V3.heap.size ≤ g))
              case first =>
                have hS0 := below_drewN (Below.refl V3.heap.size V3) 1
                refine wp_region_held_drew (S := fun W => Below V3.heap.size V3 W) (by kernel_rfl) hS0 (fun hS => ?_)
                clear hS0
                generalize V3.drew = Wd at hS ⊢
                refine take_op 0 59 ?v16_ rfl rfl (by kernel_rfl) (fun _ _ _ h => h) (by rfl) hS (fun w' hS' => ?hv16_) ?hh16_
                case hv16_ => (go_simp; (try with_reducible rfl); (try omega))
                simp only [Act.put, List.setIfInBounds_toArray, List.set_cons_zero, List.set_cons_succ]
                refine take_op 1 60 ?v17_ rfl rfl (by kernel_rfl) (fun _ _ _ h => h) (by rfl) hS (fun w' hS' => ?hv17_) ?hh17_
                case hv17_ => (go_simp; (try with_reducible rfl); (try omega))
                simp only [Act.put, List.setIfInBounds_toArray, List.set_cons_zero, List.set_cons_succ]
                refine take_op 2 61 (.slice A' j c') rfl rfl (by kernel_rfl) (fun _ _ _ h => h) (by rfl) hS (fun w' hS' => ?hv18_) ?hh18_
                case hv18_ => (have hf := hfr w'; go_simp; (try with_reducible rfl); (try omega))
                simp only [Act.put, List.setIfInBounds_toArray, List.set_cons_zero, List.set_cons_succ]
                refine take_op 3 62 ?v19_ rfl rfl (by kernel_rfl) (fun _ _ _ h => h) (by rfl) hS (fun w' hS' => ?hv19_) ?hh19_
                case hv19_ => (go_simp; (try with_reducible rfl); (try omega))
                simp only [Act.put, List.setIfInBounds_toArray, List.set_cons_zero, List.set_cons_succ]
                refine take_op 4 63 (.slice (some ad) ns.length cn) rfl rfl (by kernel_rfl) (fun _ _ _ h => h) (by rfl) hS (fun w' hS' => ?hv20_) ?hh20_
                case hv20_ => (have d3 := HD33.out w' hS'; go_simp; (try with_reducible rfl); (try omega))
                simp only [Act.put, List.setIfInBounds_toArray, List.set_cons_zero, List.set_cons_succ]
                refine take_op 5 64 ?v21_ rfl rfl (by kernel_rfl) (fun _ _ _ h => h) (by rfl) hS (fun w' hS' => ?hv21_) ?hh21_
                case hv21_ => (go_simp; (try with_reducible rfl); (try omega))
                simp only [Act.put, List.setIfInBounds_toArray, List.set_cons_zero, List.set_cons_succ]
                refine take_op 6 65 (.pointer (some (ad.add k))) rfl rfl (by kernel_rfl) (fun _ _ _ h => h) (by rfl) hS (fun w' hS' => ?hv22_) ?hh22_
                case hv22_ => (go_simp; (try with_reducible rfl); (try omega))
                simp only [Act.put, List.setIfInBounds_toArray, List.set_cons_zero, List.set_cons_succ]
                refine take_op 7 66 (.int .i64 n) rfl rfl (by kernel_rfl) (fun _ _ _ h => h) (by rfl) hS (fun w' hS' => ?hv23_) ?hh23_
                case hv23_ => (have dn := HN3.out w' hS'; go_simp; (try with_reducible rfl); (try omega))
                simp only [Act.put, List.setIfInBounds_toArray, List.set_cons_zero, List.set_cons_succ]
                refine two_ops 8 12 rfl rfl (by kernel_rfl) (by rfl) (by rfl) (wp_call 67 15 #[.slice A' j c', .int .i64 n] (.tuple #[.agg #[.int .i64 o, .int .i64 a], .int .i64 E]) (fun W => Below Wd.heap.size Wd W) rfl (by go_simp) (HFROM.out Wd hS) (fun Wa hb3 => ⟨Below.step hS hb3, ?_⟩)) (wp_made 7 (.pointer (some ⟨Wd.heap.size, 0, none⟩)) rfl (w' := Wd.alloc (.cells #[.int .i64 0, .int .i64 0] 42)) (by go_simp; try rfl) ⟨Below.step hS ((Below.refl _ _).alloc (Nat.le_refl _) _), ?_⟩)
                · simp only [Act.put, List.setIfInBounds_toArray, List.set_cons_zero, List.set_cons_succ]
                  have hS := Below.step hS hb3
                  clear hb3
                  refine take_op 9 58 ?v24_ rfl rfl (by kernel_rfl) (fun _ _ _ h => h) (by rfl) hS (fun w' hS' => ?hv24_) ?hh24_
                  case hv24_ => (go_simp; (try with_reducible rfl); (try omega))
                  simp only [Act.put, List.setIfInBounds_toArray, List.set_cons_zero, List.set_cons_succ]
                  refine take_op 10 68 (.agg #[.int .i64 o, .int .i64 a]) rfl rfl (by kernel_rfl) (fun _ _ _ h => h) (by rfl) hS (fun w' hS' => ?hv25_) ?hh25_
                  case hv25_ => (go_simp; (try with_reducible rfl); (try omega))
                  simp only [Act.put, List.setIfInBounds_toArray, List.set_cons_zero, List.set_cons_succ]
                  refine take_op 11 69 (.int .i64 E) rfl rfl (by kernel_rfl) (fun _ _ _ h => h) (by rfl) hS (fun w' hS' => ?hv26_) ?hh26_
                  case hv26_ => (go_simp; (try with_reducible rfl); (try omega))
                  simp only [Act.put, List.setIfInBounds_toArray, List.set_cons_zero, List.set_cons_succ]
                  refine only_op 12 rfl (by kernel_rfl) (by rfl) (wp_made 7 (.pointer (some ⟨Wa.heap.size, 0, none⟩)) rfl (w' := Wa.alloc (.cells #[.int .i64 0, .int .i64 0] 42)) (by go_simp; try rfl) ⟨Below.step hS ((Below.refl _ _).alloc (Nat.le_refl _) _), ?_⟩)
                  simp only [Act.put, List.setIfInBounds_toArray, List.set_cons_zero, List.set_cons_succ]
                  have hQ := Blk.new Wa 42 #[.int .i64 0, .int .i64 0]
                  have hbl := (Below.refl Wa.heap.size Wa).alloc (Nat.le_refl _) (.cells #[.int .i64 0, .int .i64 0] 42)
                  have hgV : V3.heap.size ≤ Wa.heap.size := hS.size
                  have hS := Below.step hS hbl
                  generalize Wa.alloc _ = Wb at hQ hS ⊢
                  generalize Wa.heap.size = g at hQ hgV ⊢
                  clear hbl
                  have hS9 := below_row hS hgV #[.int .i64 o, .int .i64 a]
                  have hx9 : Hid (RBox V3 g #[.int .i64 o, .int .i64 a] (Wb.setRow g #[.int .i64 o, .int .i64 a]) ∧ V3.heap.size ≤ g) := Lib.hid ⟨.mk (hQ.row #[.int .i64 o, .int .i64 a]) hS9, hgV⟩
                  obtain ⟨TT, hTT⟩ := hQ
                  refine only_op 13 rfl (by kernel_rfl) (by rfl) (wp_store_row 42 (.tmp 7) (.tmp 68) rfl g #[.int .i64 o, .int .i64 a] rfl rfl TT _ hTT info_mark rfl (by simp [Value.oneCell']) ⟨hS9, ?_⟩)
                  (try simp only [put_none])
                  refine take_op 14 8 (.int .i64 E) rfl rfl (by kernel_rfl) (fun _ _ _ h => h) (by rfl) hS9 (fun w' hS' => ?hv27_) ?hh27_
                  case hv27_ => (go_simp; (try with_reducible rfl); (try omega))
                  simp only [Act.put, List.setIfInBounds_toArray, List.set_cons_zero, List.set_cons_succ]
                  refine wpAnyH_done (by kernel_rfl) ?_ _
                  go_wp2_with fail
                  go_meet
                  exact ⟨_, rfl, rfl, hx9⟩
                · simp only [Act.put, List.setIfInBounds_toArray, List.set_cons_zero, List.set_cons_succ]
                  have hQ := Blk.new Wd 42 #[.int .i64 0, .int .i64 0]
                  have hbl := (Below.refl Wd.heap.size Wd).alloc (Nat.le_refl _) (.cells #[.int .i64 0, .int .i64 0] 42)
                  have hgV : V3.heap.size ≤ Wd.heap.size := hS.size
                  have hS := Below.step hS hbl
                  generalize Wd.alloc _ = Wb at hQ hS ⊢
                  generalize Wd.heap.size = g at hQ hgV ⊢
                  clear hbl
                  refine only_op 8 rfl (by kernel_rfl) (by rfl) (wp_call 67 15 #[.slice A' j c', .int .i64 n] (.tuple #[.agg #[.int .i64 o, .int .i64 a], .int .i64 E]) (fun W => Below Wb.heap.size Wb W) rfl (by go_simp) (HFROM.out Wb hS) (fun Wc hb3 => ⟨Below.step hS hb3, ?_⟩))
                  simp only [Act.put, List.setIfInBounds_toArray, List.set_cons_zero, List.set_cons_succ]
                  have hS := Below.step hS hb3
                  have hQ := hQ.below hb3
                  clear hb3
                  refine take_op 9 58 ?v28_ rfl rfl (by kernel_rfl) (fun _ _ _ h => h) (by rfl) hS (fun w' hS' => ?hv28_) ?hh28_
                  case hv28_ => (go_simp; (try with_reducible rfl); (try omega))
                  simp only [Act.put, List.setIfInBounds_toArray, List.set_cons_zero, List.set_cons_succ]
                  refine take_op 10 68 (.agg #[.int .i64 o, .int .i64 a]) rfl rfl (by kernel_rfl) (fun _ _ _ h => h) (by rfl) hS (fun w' hS' => ?hv29_) ?hh29_
                  case hv29_ => (go_simp; (try with_reducible rfl); (try omega))
                  simp only [Act.put, List.setIfInBounds_toArray, List.set_cons_zero, List.set_cons_succ]
                  refine take_op 11 69 (.int .i64 E) rfl rfl (by kernel_rfl) (fun _ _ _ h => h) (by rfl) hS (fun w' hS' => ?hv30_) ?hh30_
                  case hv30_ => (go_simp; (try with_reducible rfl); (try omega))
                  simp only [Act.put, List.setIfInBounds_toArray, List.set_cons_zero, List.set_cons_succ]
                  have hS9 := below_row hS hgV #[.int .i64 o, .int .i64 a]
                  have hx9 : Hid (RBox V3 g #[.int .i64 o, .int .i64 a] (Wc.setRow g #[.int .i64 o, .int .i64 a]) ∧ V3.heap.size ≤ g) := Lib.hid ⟨.mk (hQ.row #[.int .i64 o, .int .i64 a]) hS9, hgV⟩
                  obtain ⟨TT, hTT⟩ := hQ
                  refine only_op 13 rfl (by kernel_rfl) (by rfl) (wp_store_row 42 (.tmp 7) (.tmp 68) rfl g #[.int .i64 o, .int .i64 a] rfl rfl TT _ hTT info_mark rfl (by simp [Value.oneCell']) ⟨hS9, ?_⟩)
                  (try simp only [put_none])
                  refine take_op 14 8 (.int .i64 E) rfl rfl (by kernel_rfl) (fun _ _ _ h => h) (by rfl) hS9 (fun w' hS' => ?hv31_) ?hh31_
                  case hv31_ => (go_simp; (try with_reducible rfl); (try omega))
                  simp only [Act.put, List.setIfInBounds_toArray, List.set_cons_zero, List.set_cons_succ]
                  refine wpAnyH_done (by kernel_rfl) ?_ _
                  go_wp2_with fail
                  go_meet
                  exact ⟨_, rfl, rfl, hx9⟩
              case rest =>
                obtain ⟨g7, rfl, rfl, hx⟩ := hcut
                have B7 := Lib.hid hx.out.1
                have hg7 := hx.out.2
                clear hx HFROM
                have hD := Duo.more B7.out hg7 42 mzarr
                obtain ⟨g10, hg10⟩ : ∃ g10, wc.heap.size = g10 := ⟨_, rfl⟩
                obtain ⟨W4, hW4⟩ : ∃ W4, wc.alloc (.cells mzarr 42) = W4 := ⟨_, rfl⟩
                rw [hg10, hW4] at hD
                have HBN := Lib.hid hD.out.2.1
                have D3 := Lib.hid (hD.row2 #[.int .i64 0, .int .i64 0])
                unfold mzarr at hW4 HBN
                have HW4 := Lib.hid hW4
                clear hD hW4 B7 hg7
                go_upto_region 16 with (rw [HW4.out]; refine wpList_store_whole rfl 42 (.tmp 10) (.tmp 70) rfl g10 _ rfl rfl _ HBN.out info_mark rfl (by simp [Value.oneCell']) ?_; simp only [Act.put])
                clear HW4 HBN hg10
                generalize World.setRow _ _ _ = w5 at D3 ⊢
                have hne := neq_mark o a o a false (by simp)
                rcases HFV.out with ⟨hr, hq, rfl⟩ | ⟨hnil, hq, rfl⟩ | ⟨hr, m, hml, hfz, hq, rfl⟩
                · have HRI := Lib.hid (HRIS.out false w5 D3.out.bel ⟨fun h => absurd h Bool.false_ne_true, fun h => absurd h hr⟩)
                  unfold mzero at hq
                  injection hq with hq1 hq2
                  subst hq1
                  subst hq2
                  clear hr HFV HRIS HRF HMJ
                  go_wp2_with fail
                  refine HRI.out.mono ?_
                  rintro e w6 ⟨rfl, hb6⟩
                  have D4 := Lib.hid (D3.out.below hb6)
                  clear D3 hb6 HRI
                  have hl7 := load_mblk D4.out.out.1 rfl
                  have hl10 := load_mblk D4.out.out.2.1 rfl
                  go_wp2_with (first | (refine wpList_load_any (by rfl) 42 (.tmp 7) rfl g7 0 rfl _ hl7 ?_; simp only [Act.put]) | (refine wpList_load_any (by rfl) 42 (.tmp 10) rfl g10 0 rfl _ hl10 ?_; simp only [Act.put]) | (go_at_call 10; refine (num_is _ _).mono ?_; rintro e w' ⟨rfl, rfl⟩))
                  go_roundw
                  case rel => exact ⟨j + 1, by omega, by go_num, Below.step HB2.out D4.out.bel⟩
                  case measure => simp [RowKit.intOf]; omega
                · have HRI := Lib.hid (HRIS.out true w5 D3.out.bel ⟨fun _ => by rw [hnil]; exact fun i hi _ => absurd hi (Nat.not_lt_zero _), fun _ => rfl⟩)
                  have HRF1 := Lib.hid (fun W hb => HRF.out (-1) W hb (by rw [hnil]; rfl))
                  unfold mzero at hq
                  injection hq with hq1 hq2
                  subst hq1
                  subst hq2
                  clear hnil HFV HRIS HRF HMJ HLJ
                  go_wp2_with fail
                  refine HRI.out.mono ?_
                  rintro e w6 ⟨rfl, hb6⟩
                  have D4 := Lib.hid (D3.out.below hb6)
                  clear D3 hb6 HRI
                  have st0 := D4.out
                  haveI : Nonempty (In (Duo V3 g7 g10 #[.int .i64 0, .int .i64 0] #[.int .i64 0, .int .i64 0])) := ⟨⟨_, st0⟩⟩
                  have k3 := fun u : In (Duo V3 g7 g10 #[.int .i64 0, .int .i64 0] #[.int .i64 0, .int .i64 0]) => HD33.out u.w u.h.bel
                  have kn := fun u : In (Duo V3 g7 g10 #[.int .i64 0, .int .i64 0] #[.int .i64 0, .int .i64 0]) => HN3.out u.w u.h.bel
                  have kc := fun u : In (Duo V3 g7 g10 #[.int .i64 0, .int .i64 0] #[.int .i64 0, .int .i64 0]) => HRF1.out u.w u.h.bel
                  clear HRF1
                  go_upto_region 18 with fail
                  refine region_in (S := Duo V3 g7 g10 #[.int .i64 0, .int .i64 0] #[.int .i64 0, .int .i64 0]) (by kernel_rfl) (by kernel_rfl) (st0.drewN 1) ?_
                  repeat (go_big_quiet_step (first | (go_at_call 17; exact in_call ((kc _).mono fun _ _ h => ⟨h.1, Duo.below (In.h _) h.2⟩))))
                  refine wpQuiet_nil ?_
                  rintro _ ⟨⟨w7, st7⟩, rfl⟩
                  have D5 := Lib.hid st7
                  clear this st0 st7 k3 kn kc D4
                  have hl7 := load_mblk D5.out.out.1 rfl
                  have hl10 := load_mblk D5.out.out.2.1 rfl
                  go_wp2_with (first | (refine wpList_load_any (by rfl) 42 (.tmp 7) rfl g7 0 rfl _ hl7 ?_; simp only [Act.put]) | (refine wpList_load_any (by rfl) 42 (.tmp 10) rfl g10 0 rfl _ hl10 ?_; simp only [Act.put]) | (go_at_call 10; refine (num_is _ _).mono ?_; rintro e w' ⟨rfl, rfl⟩))
                  go_roundw
                  case rel => exact ⟨j + 1, by omega, by go_num, Below.step HB2.out D5.out.bel⟩
                  case measure => simp [RowKit.intOf]; omega
                · have HRI := Lib.hid (HRIS.out true w5 D3.out.bel ⟨fun _ => hr, fun _ => rfl⟩)
                  have HRF1 := Lib.hid (fun W hb => HRF.out (m : Int) W hb hfz)
                  have hmj : m < j := by rw [← HLJ.out]; exact hml
                  have HMX := Lib.hid (fun W (hb : Below V3.heap.size V3 W) => show ∃ b1 o1, A' = some ⟨b1, o1, none⟩ ∧ MAt W b1 (o1 + m * 2) ⟨o, a⟩ from by
                    obtain ⟨b1, o1, h1, _, h3⟩ := (HMJ.out W hb).some_ (by omega)
                    exact ⟨b1, o1, h1, by rw [hq]; exact h3 m hml⟩)
                  clear hr hfz hq HFV HRIS HRF HMJ HLJ hml
                  go_wp2_with fail
                  refine HRI.out.mono ?_
                  rintro e w6 ⟨rfl, hb6⟩
                  have D4 := Lib.hid (D3.out.below hb6)
                  clear D3 hb6 HRI
                  have st0 := D4.out
                  haveI : Nonempty (In (Duo V3 g7 g10 #[.int .i64 o, .int .i64 a] #[.int .i64 0, .int .i64 0])) := ⟨⟨_, st0⟩⟩
                  have k3 := fun u : In (Duo V3 g7 g10 #[.int .i64 o, .int .i64 a] #[.int .i64 0, .int .i64 0]) => HD33.out u.w u.h.bel
                  have kn := fun u : In (Duo V3 g7 g10 #[.int .i64 o, .int .i64 a] #[.int .i64 0, .int .i64 0]) => HN3.out u.w u.h.bel
                  have kc := fun u : In (Duo V3 g7 g10 #[.int .i64 o, .int .i64 a] #[.int .i64 0, .int .i64 0]) => HRF1.out u.w u.h.bel
                  clear HRF1
                  go_upto_region 18 with fail
                  refine region_in (S := Duo V3 g7 g10 #[.int .i64 o, .int .i64 a] #[.int .i64 0, .int .i64 0]) (by kernel_rfl) (by kernel_rfl) (st0.drewN 1) ?_
                  repeat (go_big_quiet_step (first | (go_at_call 17; exact in_call ((kc _).mono fun _ _ h => ⟨h.1, Duo.below (In.h _) h.2⟩))))
                  refine wpQuiet_nil ?_
                  rintro _ ⟨⟨w7, st7⟩, rfl⟩
                  have D5 := Lib.hid st7
                  clear this st0 st7 k3 kn kc D4
                  obtain ⟨b1, o1, rfl, hma⟩ := HMX.out _ D5.out.bel
                  obtain ⟨f0, f1⟩ := hma
                  dsimp only at f0 f1
                  have e4 : (m : Int) < (K : Int) := by omega
                  have HB10 := Lib.hid D5.out.out.2.1
                  have D6 := Lib.hid (D5.out.row2 #[.int .i64 o, .int .i64 a])
                  clear HMX
                  go_upto_region 21 with (refine wpList_store_whole rfl 42 (.tmp 10) (.tmp 89) rfl g10 _ rfl rfl _ HB10.out info_mark rfl (by simp [Value.oneCell']) ?_; simp only [Act.put])
                  clear D5 HB10 f0 f1
                  generalize World.setRow _ _ _ = w8 at D6 ⊢
                  have hl7 := load_mblk D6.out.out.1 rfl
                  have hl10 := load_mblk D6.out.out.2.1 rfl
                  go_wp2_with (first | (refine wpList_load_any (by rfl) 42 (.tmp 7) rfl g7 0 rfl _ hl7 ?_; simp only [Act.put]) | (refine wpList_load_any (by rfl) 42 (.tmp 10) rfl g10 0 rfl _ hl10 ?_; simp only [Act.put]) | (go_at_call 10; refine (num_is _ _).mono ?_; rintro e w' ⟨rfl, rfl⟩))
                  go_roundw
                  case rel => exact ⟨j + 1, by omega, by go_num, Below.step HB2.out D6.out.bel⟩
                  case measure => simp [RowKit.intOf]; omega
            · obtain rfl : j = K + 1 := by omega
              have e3 : ¬ ((K : Int) + 1 ≤ (K : Int)) := by omega
              go_wp2_with fail
              go_roundw
              case rel => exact ⟨k + 1, h2, h1, by go_num, Below.step HBV.out HB2.out⟩
              case measure => simp [RowKit.intOf]; omega
        · by_cases h1 : k < ns.length
          · have h2 : ¬ k < 20 := fun h => hgo ⟨h1, h⟩
            clear hgo
            go_wp2_with (go_at_call 11; refine (HWK.out _).mono ?_; rintro e w9 ⟨rfl, hb9⟩)
            go_ret
            exact ⟨rfl, Below.step (Below.step RV.out.out.2 HBV.out) hb9⟩
          · clear hgo
            go_wp2_with (go_at_call 11; refine (HWK.out _).mono ?_; rintro e w9 ⟨rfl, hb9⟩)
            go_ret
            exact ⟨rfl, Below.step (Below.step RV.out.out.2 HBV.out) hb9⟩
end Go.Proofs.Ytijpieaanlnibaa.Mkd
/- For every script: of any marks, package index and the document's own answer tell the same last one not above any offset, or refuse them. No condition. -/
namespace Go.Proofs.Ytijpieaanlnibaa.indexFroms
open Go.ChangeShapes Go.WideShapes Go.ChangeAt Go.RowKit Rcd Mkd

set_option maxRecDepth 100000 in
theorem lifted (os : Os) (started : os.Started) (H : Type) (enc : TypeId × Value → H) :
    ReturnsInHanded {} Try.checked os 4 .any (Rows.indexFromsSpec.pre6 enc Try.prog Try.f4 Rows.indexFromsRow.domain false) (Rows.indexFromsSpec.post enc Try.prog Try.f4 false true false false) := by
  refine returnsInHanded_of_change_sized (C := Try.checked) ownKnob_none started (by kernel_rfl) Try.func4
    (ChangeSpec.witness6 (enc := enc) (C := Try.checked) false ⟨#[], #[.agg #[.int .i64 0, .slice none 0 0, .slice none 0 0, .slice none 0 0, .string ⟨#[]⟩]], []⟩ 8 (by kernel_rfl) (by kernel_rfl) (by kernel_rfl) (by kernel_rfl)) ?_
  intro W base args ds gs before hval0 hW _ hsz0 _
  have hval : ∀ (j : Nat) t v, Try.f4.params[j]? = some t → args[j]? = some v → Value.okWide Try.prog W .any base t v := hval0
  have hW' := hW
  obtain ⟨p, q, hA0, hV, rfl, _, _⟩ := hW
  have hA : DataW.TrodAll enc Try.prog W 0 (fun _ => true) true Try.f4.params.toList args.toList ds p := hA0
  rw [Try.params4] at hA hval
  obtain ⟨v0, d0, rfl, rfl, h0⟩ := trodAll_one hA
  obtain ⟨rfl, rfl⟩ := trodVars_none hV
  have lt0 : ∀ x ∈ p, x.block < W.heap.size := by obtain ⟨m, hm⟩ := h0; exact DataW.trod_lt m _ _ _ hm
  have near : Near 27 d0 := fun n hn => by
    have := List.all_eq_true.1 hsz0 n (DataW.weights_mem_each (j := 0) (t := 27) (d := d0) (by rw [Try.params4]; rfl) rfl n hn)
    simpa using this
  obtain ⟨b, rs, L, ns, A, B, D, c, cl, cn, s, rfl, hs⟩ := script_all (hval 0 27 v0 rfl rfl) near h0
  clear hA0 hval0
  refine (IndexFroms_any b rs L ns A B D c cl cn s W (by have := hs.lA; omega) (by have := hs.lB; omega) (by have := hs.lD; omega) hs.hA hs.hB hs.hD).mono fun e W' ⟨he, bel⟩ => ?_
  subst he
  exact ⟨_, rfl, _, _, _, [], _, [], hW', trodAll_mk1 (shut_bool Try.underlying4 _), trodAll_mk1 (Below.trod laidOut_true (by kernel_rfl) (of_decide_eq_true (by kernel_rfl)) h0 bel lt0), rfl, bel.frame _, fun h => by cases h⟩

theorem over : Rows.indexFromsRow.holds Try.pinned (OpenSpec.ofChange Rows.indexFromsSpec) :=
  OpenClaim.holds_of_wide 4 Try.f4 rfl rfl rfl rfl rfl rfl rfl ⟨rfl, rfl, rfl, rfl, rfl⟩ rfl rfl rfl rfl rfl (by kernel_rfl) Try.func4 (by kernel_rfl)
    (of_decide_eq_true (by kernel_rfl)) (by unfold Func.isWrapper; rw [if_neg (of_decide_eq_false (by kernel_rfl))]; exact ⟨rfl, rfl⟩)
    (fun os started H enc _ => lifted os started H enc)

theorem proved : Rows.IndexFromsSaid := over
#print axioms proved
end Go.Proofs.Ytijpieaanlnibaa.indexFroms
