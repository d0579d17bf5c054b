/- Texts of the proof, part 3: IxEq, IxCheck, IxSearch, IxOrder, IxFrom, IxLook, IxLookOf, IxNum, SgBlk, SgBox, RcRMay, IxWakes, IxLookTools, RcRFixed, RcLongNum. -/
import Derived.Deep.CutRange
import Derived.Test.YtijpieaanlnibaaChecked
import Derived.Test.YtijpieaanlnibaaV02
/- Marks held against each other, by the program and by the document's own answer. -/
namespace Go.Proofs.Ytijpieaanlnibaa.Mkd
open Go.RowKit Go.Lib Rcd

instance : DecidableEq Mk := fun a b => by
  cases a; cases b
  rw [Mk.mk.injEq]
  exact inferInstance
theorem neq_mark (o a o' a' : Int) (X : Bool) (h : decide (¬ (o = o' ∧ a = a')) = X) (w : World) : (binOp .neq 42 (.agg #[.int .i64 o, .int .i64 a]) (.agg #[.int .i64 o', .int .i64 a'])).run Try.prog w = .ok (.bool X) w := by
  subst h
  rw [run_neq_struct]
  by_cases h1 : o = o' <;> by_cases h2 : a = a' <;> go_simp <;> simp [h1, h2]

set_option maxRecDepth 100000 in
set_option maxHeartbeats 2000000 in
/-- slices.Equal: are the marks the same? -/
theorem SlicesEqual_is (l l' : List Mk) (N N' : Nat) (A A' : Option Addr) (c c' B B' : Nat) (X : Bool) (w : World) (hN : l.length = N) (hN' : l'.length = N') (hm : N ≤ 9223372036854775807) (hm' : N' ≤ 9223372036854775807) (h : MarksAt w B A l) (h' : MarksAt w B' A' l') (hX : decide (l = l') = X) :
    Calls Try.prog 26 #[.slice A N c, .slice A' N' c'] w fun e w' => e = .returned (.bool X) ∧ Below w.heap.size w w' := by
  have H := Lib.hid h
  have H' := Lib.hid h'
  have HX := Lib.hid hX
  have HN := Lib.hid hN
  have HN' := Lib.hid hN'
  clear h h' hX hN hN'
  by_cases hl : N = N'
  · subst hl
    go_enter Try.func26, Try.ntmps26
    go_wp2_with fail
    go_loopw [13] (fun i wr => ∃ k n : Nat, k ≤ N ∧ i = .int .i64 (k : Int) ∧ wr = w.drewN n ∧ l.take k = l'.take k) (fun i _ => N - (RowKit.intOf i).toNat)
    case atStart => exact ⟨0, 0, Nat.zero_le _, rfl, rfl, rfl⟩
    case round =>
      obtain ⟨k, n, hk, rfl, rfl, heq⟩ := hrel
      have HQ := Lib.hid heq
      clear heq
      by_cases hlt : k < N
      · have hk1 : k < l.length := by rw [HN.out]; exact hlt
        have hk2 : k < l'.length := by rw [HN'.out]; exact hlt
        obtain ⟨b, o, rfl, _, hc⟩ := H.out.some_ (by omega)
        obtain ⟨b', o', rfl, _, hc'⟩ := H'.out.some_ (by omega)
        have h1 := hc k hk1
        have h2 := hc' k hk2
        have HS := Lib.hid (And.intro (show l.take (k + 1) = l.take k ++ [l[k]] from List.take_succ_eq_append_getElem hk1) (show l'.take (k + 1) = l'.take k ++ [l'[k]] from List.take_succ_eq_append_getElem hk2))
        have HD := Lib.hid (show ¬ l[k] = l'[k] → X = false from fun hne => by
          rw [← HX.out, decide_eq_false_iff_not]
          rintro rfl
          exact hne rfl)
        clear hc hc' H H'
        generalize l[k] = x at h1 HS HD
        generalize l'[k] = y at h2 HS HD
        clear hk1 hk2
        obtain ⟨xo, xa⟩ := x
        obtain ⟨yo, ya⟩ := y
        obtain ⟨c0, c1⟩ := h1
        obtain ⟨d0, d1⟩ := h2
        dsimp only at c0 c1 d0 d1
        have hkI : (k : Int) < (N : Int) := by omega
        by_cases hxy : xo = yo ∧ xa = ya
        · obtain ⟨rfl, rfl⟩ := hxy
          have hne := neq_mark xo xa xo xa false (by simp)
          have HQ2 : Hid (l.take (k + 1) = l'.take (k + 1)) := by show _ = _; rw [HS.out.1, HS.out.2, HQ.out]
          clear HS HD HQ
          go_wp2
          go_quiet (fail)
          go_wp2
          go_roundw
          case rel => exact ⟨k + 1, _, hlt, by go_num, rfl, HQ2.out⟩
          case measure => simp [RowKit.intOf]; omega
        · obtain rfl : X = false := HD.out (fun e => by injection e with e1 e2; exact hxy ⟨e1, e2⟩)
          have hne := neq_mark xo xa yo ya true (decide_eq_true hxy)
          clear HS HD HQ hxy
          go_wp2
          go_quiet (fail)
          go_wp2
          go_ret
          exact ⟨rfl, below_drewN (below_drewN (Below.refl _ _) _) _⟩
      · obtain rfl : k = N := by omega
        have hXt : X = true := by
          rw [← HX.out, decide_eq_true_eq]
          have e := HQ.out
          rw [List.take_of_length_le (by rw [HN.out]; exact Nat.le_refl _), List.take_of_length_le (by rw [HN'.out]; exact Nat.le_refl _)] at e
          exact e
        subst hXt
        go_wp2
        go_ret
        exact ⟨rfl, below_drewN (Below.refl _ _) n⟩
  · have hl2 : ¬ (N : Int) = (N' : Int) := by omega
    obtain rfl : X = false := by
      rw [← HX.out, decide_eq_false_iff_not]
      rintro rfl
      exact hl (HN.out.symm.trans HN'.out)
    clear H H' HX HN HN'
    go_enter Try.func26, Try.ntmps26
    go_wp2_with fail
    go_ret
    exact ⟨rfl, Below.refl _ _⟩
end Go.Proofs.Ytijpieaanlnibaa.Mkd
/- Package index: whether marks are those of a segment. -/
namespace Go.Proofs.Ytijpieaanlnibaa.Mkd
open Go.RowKit Go.Lib Rcd

set_option maxRecDepth 100000 in
set_option maxHeartbeats 4000000 in
/-- index.Check, of a segment that may not be. -/
theorem IxCheck_no (b : Int) (rs : List Rc) (N : Nat) (A : Option Addr) (c B : Nat) (V : Value) (w : World) (hN : rs.length = N) (hm : N ≤ 9223372036854775807) (hcap : N ≤ c) (hB : B ≤ w.heap.size) (h : RecsAt w B A rs) (hS : segB b rs = false) :
    Calls Try.prog 9 #[.agg #[.int .i64 b, .slice A N c], V] w fun e w' => e = .returned (.tuple #[.bool false, .int .i64 1]) ∧ Below w.heap.size w w' := by
  have R0 := Lib.hid (RBox.new w 24 (sarr b A N c))
  have HC := Lib.hid (fun W (hb : Below w.heap.size w W) => Marks_no b rs N A c B W hN hm hcap (Nat.le_trans hB hb.size) (h.below (hb.mono hB)) hS)
  obtain ⟨p, hp⟩ : ∃ p, w.heap.size = p := ⟨_, rfl⟩
  obtain ⟨W0, hW⟩ : ∃ W0, w.alloc (.cells (sarr b A N c) 24) = W0 := ⟨_, rfl⟩
  rw [hW, hp] at R0
  unfold sarr at R0 hW
  have HW := Lib.hid hW
  have HP := Lib.hid hp
  clear hW hp h hS hN hB
  go_enter Try.func9, Try.ntmps9
  go_upto_region 1 with fail
  rw [HW.out, HP.out]
  clear HW
  have hld := R0.out.loadS rfl
  go_wp2_with (refine wpList_load_any (by rfl) 24 (.tmp 2) rfl p 0 rfl _ hld ?_; simp only [Act.put])
  refine (HC.out _ R0.out.out.2).mono ?_
  rintro e w1 ⟨rfl, hb1⟩
  have R1 := Lib.hid (R0.out.below hb1)
  clear R0 hb1 hld HC
  go_wp2_with fail
  go_ret2
  exact ⟨rfl, R1.out.out.2⟩

set_option maxRecDepth 100000 in
set_option maxHeartbeats 4000000 in
/-- index.Check, of a segment that may be: are these its marks? -/
theorem IxCheck_yes (b : Int) (rs : List Rc) (N : Nat) (A : Option Addr) (c B : Nat) (l : List Mk) (K : Nat) (D : Option Addr) (cd : Nat) (X : Bool) (w : World) (hN : rs.length = N) (hm : N ≤ 9223372036854775807) (hcap : N ≤ c) (hB : B ≤ w.heap.size) (h : RecsAt w B A rs) (hS : segB b rs = true)
    (hK : l.length = K) (hk : K ≤ 9223372036854775807) (hD : MarksAt w B D l) (hX : decide (l = marks rs) = X) :
    Calls Try.prog 9 #[.agg #[.int .i64 b, .slice A N c], .slice D K cd] w fun e w' => e = .returned (.tuple #[.bool X, .int .i64 0]) ∧ Below w.heap.size w w' := by
  have R0 := Lib.hid (RBox.new w 24 (sarr b A N c))
  obtain ⟨M, hM⟩ : ∃ M, (marks rs).length = M := ⟨_, rfl⟩
  have hM2 : M ≤ 9223372036854775807 := by
    have := seg_len hS
    rw [← hM, marks_len]
    omega
  have HC := Lib.hid (fun W (hb : Below w.heap.size w W) => Marks_yes b rs N A c B _ M W hN hm hcap (Nat.le_trans hB hb.size) (h.below (hb.mono hB)) hS rfl hM)
  have HE := Lib.hid (fun A' c' W (hb : Below w.heap.size w W) (h' : MarksAt W W.heap.size A' (marks rs)) => SlicesEqual_is l (marks rs) K M D A' cd c' B W.heap.size X W hK hM hk hM2 (hD.below (hb.mono hB)) h' hX)
  have HMM := Lib.hid hM
  clear hM hM2
  obtain ⟨p, hp⟩ : ∃ p, w.heap.size = p := ⟨_, rfl⟩
  obtain ⟨W0, hW⟩ : ∃ W0, w.alloc (.cells (sarr b A N c) 24) = W0 := ⟨_, rfl⟩
  rw [hW, hp] at R0
  unfold sarr at R0 hW
  have HW := Lib.hid hW
  have HP := Lib.hid hp
  clear hW hp h hS hN hB hX hD hK
  go_enter Try.func9, Try.ntmps9
  go_upto_region 1 with fail
  rw [HW.out, HP.out]
  clear HW
  have hld := R0.out.loadS rfl
  go_wp2_with (refine wpList_load_any (by rfl) 24 (.tmp 2) rfl p 0 rfl _ hld ?_; simp only [Act.put])
  refine (HC.out _ R0.out.out.2).mono ?_
  rintro e w1 ⟨A', c', rfl, hown, hb1⟩
  have R1 := Lib.hid (R0.out.below hb1)
  have HE1 := Lib.hid (HE.out A' c' w1 R1.out.out.2 (.of_ownN HMM.out hown))
  clear R0 hb1 hld HC HE hown
  go_wp2_with fail
  refine HE1.out.mono ?_
  rintro e w2 ⟨rfl, hb2⟩
  have R2 := Lib.hid (R1.out.below hb2)
  clear R1 hb2 HE1
  go_wp2_with fail
  go_ret2
  exact ⟨rfl, R2.out.out.2⟩
end Go.Proofs.Ytijpieaanlnibaa.Mkd
/- sort.Search, by whether a mark is above an offset. -/
namespace Go.Proofs.Ytijpieaanlnibaa.Mkd
open Go.RowKit Go.Lib Rcd

set_option maxRecDepth 100000 in
set_option maxHeartbeats 4000000 in
/-- sort.Search. -/
theorem Search_is (n : Int) (l : List Mk) (N : Nat) (A : Option Addr) (c B g a : Nat) (w : World) (hN : l.length = N) (hm : N ≤ 1000000) (hB : B ≤ w.heap.size) (h : MarksAt w B A l) (hg : w.cell? ⟨g, 0, none⟩ = some (.slice A N c)) (hg2 : w.cell? ⟨g + 1, 0, none⟩ = some (.int .i64 n)) (hA : Above n l a) :
    Calls Try.prog 37 #[.int .i64 (N : Int), .func (.func 38) #[] #[.pointer (some ⟨g, 0, none⟩), .pointer (some ⟨g + 1, 0, none⟩)]] w fun e w' => e = .returned (.int .i64 (a : Int)) ∧ Below w.heap.size w w' := by
  have HF := Lib.hid (fun k X W (hb : Below w.heap.size w W) (hk : k < l.length) (hX : decide (n < l[k].o) = X) => isAbove_is n l N A c w.heap.size g k X W hN (by omega) ((h.mono hB).below hb) ((hb.cell (p := ⟨g, 0, none⟩) (cell_lt hg)).trans hg) ((hb.cell (p := ⟨g + 1, 0, none⟩) (cell_lt hg2)).trans hg2) hk hX)
  have HA := Lib.hid hA
  have HN := Lib.hid hN
  have haN : a ≤ N := by rw [← hN]; exact hA.1
  have hcf : ∀ (args : Array Value) (W : World), (callFunc 38 args).run Try.prog W = .ok (.enter 38 args) W := fun args W => by go_simp
  clear h hg hg2 hA hN hB
  go_enter Try.func37, Try.ntmps37
  go_wp2_with fail
  go_loopw [5, 6] (fun iv jv wr => ∃ i j : Nat, i ≤ a ∧ a ≤ j ∧ j ≤ N ∧ iv = .int .i64 (i : Int) ∧ jv = .int .i64 (j : Int) ∧ Below w.heap.size w wr) (fun iv jv _ => (RowKit.intOf jv).toNat - (RowKit.intOf iv).toNat)
  case atStart => exact ⟨0, N, Nat.zero_le _, haN, Nat.le_refl _, rfl, rfl, Below.refl _ _⟩
  case round =>
    obtain ⟨i, j, hi, hj, hjN, rfl, rfl, hbel⟩ := hrel
    have HB := Lib.hid hbel
    clear hbel
    by_cases hlt : i < j
    · obtain ⟨k, hk⟩ : ∃ k, (i + j) / 2 = k := ⟨_, rfl⟩
      have hk1 : i ≤ k := by omega
      have hk2 : k < j := by omega
      have hkI : ((i : Int) + (j : Int)) / 2 = (k : Int) := by omega
      have hkl : k < l.length := by rw [HN.out]; omega
      obtain ⟨X, hX⟩ : ∃ X, decide (n < l[k].o) = X := ⟨_, rfl⟩
      have HFK := Lib.hid (fun W hb => HF.out k X W hb hkl hX)
      have HW : Hid ((X = true → a ≤ k) ∧ (X = false → k + 1 ≤ a)) := by
        show _ ∧ _
        refine ⟨fun hx => ?_, fun hx => ?_⟩
        · rcases Nat.lt_or_ge k a with h | h
          · have := HA.out.2.1 k hkl h
            have := of_decide_eq_true (hX.trans hx)
            omega
          · exact h
        · rcases Nat.lt_or_ge k a with h | h
          · exact h
          · have := HA.out.2.2 k hkl h
            have := of_decide_eq_false (hX.trans hx)
            omega
      clear hX hkl HF
      have e1 : (i : Int) < (j : Int) := by omega
      have HK := Lib.hid hkI
      have HK0 := Lib.hid hk
      clear hk hkI
      go_upto_region 4 with fail
      rw [HK.out]
      clear HK
      cases X with
      | true =>
        have hak := HW.out.1 rfl
        go_wp2_with fail
        refine (HFK.out _ HB.out).mono ?_
        rintro e w1 ⟨rfl, hb1⟩
        have HB1 := Lib.hid (HB.out.trans (hb1.mono HB.out.size))
        clear hb1 HB HFK HW
        go_wp2_with fail
        go_roundw
        case rel => exact ⟨i, k, hi, hak, by omega, rfl, rfl, HB1.out⟩
        case measure => simp [RowKit.intOf]; omega
      | false =>
        have hak := HW.out.2 rfl
        go_wp2_with fail
        refine (HFK.out _ HB.out).mono ?_
        rintro e w1 ⟨rfl, hb1⟩
        have HB1 := Lib.hid (HB.out.trans (hb1.mono HB.out.size))
        clear hb1 HB HFK HW
        go_wp2_with fail
        go_roundw
        case rel => exact ⟨k + 1, j, hak, hj, hjN, by go_num, rfl, HB1.out⟩
        case measure => simp [RowKit.intOf]; omega
    · obtain rfl : i = a := by omega
      go_wp2_with fail
      go_ret
      exact ⟨rfl, HB.out⟩
end Go.Proofs.Ytijpieaanlnibaa.Mkd
/- Do marks rise, by the program. -/
namespace Go.Proofs.Ytijpieaanlnibaa.Mkd
open Go.RowKit Go.Lib Rcd

/-- So many of the first ones rise. -/
def RisenTo (l : List Mk) (k : Nat) : Prop := ∀ i (h : i < l.length) (_ : 0 < i), i < k → riseB (l[i - 1]'(by omega)) l[i] = true

set_option maxRecDepth 100000 in
set_option maxHeartbeats 4000000 in
/-- index.isInOrder. -/
theorem isInOrder_is (l : List Mk) (N : Nat) (A : Option Addr) (c B : Nat) (X : Bool) (w : World) (hN : l.length = N) (hm : N ≤ 9223372036854775807) (h : MarksAt w B A l) (hX : X = true ↔ Risen l) :
    Calls Try.prog 29 #[.slice A N c] w fun e w' => e = .returned (.bool X) ∧ Below w.heap.size w w' := by
  have H := Lib.hid h
  have HX := Lib.hid hX
  have HN := Lib.hid hN
  clear h hX hN
  go_enter Try.func29, Try.ntmps29
  go_wp2_with fail
  go_loopw [3] (fun i wr => ∃ j n : Nat, (j = 0 ∨ j < N) ∧ i = .int .i64 ((j : Int) + 1) ∧ wr = w.drewN n ∧ RisenTo l (j + 1)) (fun i _ => N - (RowKit.intOf i).toNat)
  case atStart => exact ⟨0, 0, .inl rfl, rfl, rfl, fun i _ h0 h1 => absurd h1 (by omega)⟩
  case round =>
    obtain ⟨j, n, hj, rfl, rfl, hto⟩ := hrel
    have HT := Lib.hid hto
    clear hto
    by_cases hlt : j + 1 < N
    · have hk1 : j < l.length := by rw [HN.out]; omega
      have hk2 : j + 1 < l.length := by rw [HN.out]; exact hlt
      obtain ⟨b, o, rfl, _, hc⟩ := H.out.some_ (by omega)
      have h1 := hc j hk1
      have h2 := hc (j + 1) hk2
      have HYES := Lib.hid (show riseB l[j] l[j + 1] = true → RisenTo l (j + 1 + 1) from fun hr i hi h0 h1 => by
        by_cases e : i < j + 1
        · exact HT.out i hi h0 e
        · obtain rfl : i = j + 1 := by omega
          exact hr)
      have HNO := Lib.hid (show riseB l[j] l[j + 1] = false → X = false from fun hr => by
        rw [← Bool.not_eq_true]
        intro hx
        have := HX.out.1 hx (j + 1) hk2 (Nat.succ_pos _)
        simp only [Nat.add_sub_cancel] at this
        rw [hr] at this
        cases this)
      clear hc H HT
      generalize l[j] = x at h1 HYES HNO
      generalize l[j + 1] = y at h2 HYES HNO
      clear hk1 hk2
      unfold riseB at HYES HNO
      obtain ⟨xo, xa⟩ := x
      obtain ⟨yo, ya⟩ := y
      obtain ⟨c0, c1⟩ := h1
      obtain ⟨d0, d1⟩ := h2
      dsimp only at c0 c1 d0 d1 HYES HNO
      have e0 : (j : Int) + 1 < (N : Int) := by omega
      by_cases h1 : yo ≤ xo
      · obtain rfl : X = false := HNO.out (decide_eq_false (by omega))
        have gd1 : decide (yo ≤ xo) = true := decide_eq_true h1
        clear HYES HNO h1
        go_wp2
        go_quiet (fail)
        go_wp2
        go_ret
        exact ⟨rfl, below_drewN (below_drewN (Below.refl _ _) _) _⟩
      · have gd1 : decide (yo ≤ xo) = false := decide_eq_false h1
        by_cases h2 : ya < xa
        · obtain rfl : X = false := HNO.out (decide_eq_false (by omega))
          have gd2 : decide (ya < xa) = true := decide_eq_true h2
          clear HYES HNO h1 h2
          go_wp2
          go_quiet (fail)
          go_wp2
          go_ret
          exact ⟨rfl, below_drewN (below_drewN (Below.refl _ _) _) _⟩
        · have gd2 : decide (ya < xa) = false := decide_eq_false h2
          have HY := Lib.hid (HYES.out (decide_eq_true (by omega)))
          clear HYES HNO h1 h2
          go_wp2
          go_quiet (fail)
          go_wp2
          go_roundw
          case rel => exact ⟨j + 1, _, .inr hlt, by go_num, rfl, HY.out⟩
          case measure => simp [RowKit.intOf]; omega
    · obtain rfl : X = true := HX.out.2 (fun i hi h0 => HT.out i hi h0 (by rw [HN.out] at hi; omega))
      have hno : ¬ (j : Int) + 1 < (N : Int) := by omega
      go_wp2
      go_ret
      exact ⟨rfl, below_drewN (Below.refl _ _) n⟩
end Go.Proofs.Ytijpieaanlnibaa.Mkd
/- Package index: the mark from which on to look. -/
namespace Go.Proofs.Ytijpieaanlnibaa.Mkd
open Go.RowKit Go.Lib Rcd

set_option maxRecDepth 100000 in
set_option maxHeartbeats 4000000 in
/-- index.place. -/
theorem place_is (n : Int) (l : List Mk) (N : Nat) (A : Option Addr) (c B a m : Nat) (w : World) (hN : l.length = N) (hm : N ≤ 1000000) (hB : B ≤ w.heap.size) (h : MarksAt w B A l) (hA : Above n l a) (hp : placeN a = m) :
    Calls Try.prog 30 #[.slice A N c, .int .i64 n] w fun e w' => e = .returned (.int .i64 (m : Int)) ∧ Below w.heap.size w w' := by
  have hD := Duo.new w 29 3 #[.slice A N c] #[.int .i64 n]
  have HSE := Lib.hid (fun g W (hb : Below w.heap.size w W) (hg : W.cell? ⟨g, 0, none⟩ = some (.slice A N c)) (hg2 : W.cell? ⟨g + 1, 0, none⟩ = some (.int .i64 n)) => Search_is n l N A c w.heap.size g a W hN hm hb.size ((h.mono hB).below hb) hg hg2 hA)
  have haN : a ≤ 1000000 := Nat.le_trans (Nat.le_trans hA.1 (Nat.le_of_eq hN)) hm
  have hmx : a = m + 1 ∨ (a = 0 ∧ m = 0) := by
    rw [← hp]
    unfold placeN
    omega
  have HMX := Lib.hid hmx
  clear hN hB h hA hp hmx
  obtain ⟨p, hp⟩ : ∃ p, w.heap.size = p := ⟨_, rfl⟩
  obtain ⟨W0, hW⟩ : ∃ W0, (w.alloc (.cells #[.slice A N c] 29)).alloc (.cells #[.int .i64 n] 3) = W0 := ⟨_, rfl⟩
  rw [hW, hp] at hD
  have D0 := Lib.hid hD
  have HW := Lib.hid hW
  have HP := Lib.hid hp
  clear hD hW hp
  have hmf : ∀ (fn : Fn) (first cap : Array Value) (w : World), (Instr.makeFunc fn first cap).run Try.prog w = .ok (.func fn first cap) w := fun _ _ _ _ => rfl
  go_enter Try.func30, Try.ntmps30
  go_upto_region 1 with fail
  rw [HW.out, HP.out]
  clear HW HP
  have d0 : W0.cell? ⟨p, 0, none⟩ = some (.slice A N c) := D0.out.cell1 0
  have d1 : W0.cell? ⟨p + 1, 0, none⟩ = some (.int .i64 n) := D0.out.cell2 0
  have HS := Lib.hid (HSE.out p W0 D0.out.bel d0 d1)
  clear HSE d1
  go_wp2_with fail
  refine HS.out.mono ?_
  rintro e w1 ⟨rfl, hb1⟩
  have D1 := Lib.hid (D0.out.below hb1)
  clear D0 hb1 HS d0
  go_wp2_with fail
  all_goals
    go_ret
    exact ⟨ret_int (by have := HMX.out; omega), D1.out.bel⟩

/-- What index.From tells. -/
def FromV (n : Int) (l : List Mk) (R : Mk) (E : Int) : Prop :=
  (¬ Risen l ∧ R = mzero ∧ E = 1) ∨ (l = [] ∧ R = mzero ∧ E = 0) ∨ (Risen l ∧ ∃ m : Nat, ∃ h : m < l.length, fromZ l n = (m : Int) ∧ R = l[m] ∧ E = 0)
theorem from_ex (n : Int) (l : List Mk) : ∃ R E, FromV n l R E := by
  by_cases h : Risen l
  · by_cases h0 : 0 < l.length
    · obtain ⟨m, h1, h2, _⟩ := lastF_spec l n l.length h0
      exact ⟨_, _, .inr (.inr ⟨h, m, h2, h1, rfl, rfl⟩)⟩
    · exact ⟨_, _, .inr (.inl ⟨List.eq_nil_of_length_eq_zero (by omega), rfl, rfl⟩)⟩
  · exact ⟨_, _, .inl ⟨h, rfl, rfl⟩⟩

set_option maxRecDepth 100000 in
set_option maxHeartbeats 8000000 in
/-- index.From. -/
theorem From_is (n : Int) (l : List Mk) (N : Nat) (A : Option Addr) (c B : Nat) (R : Mk) (E : Int) (w : World) (hN : l.length = N) (hm : N ≤ 1000000) (hB : B ≤ w.heap.size) (h : MarksAt w B A l) (hV : FromV n l R E) :
    Calls Try.prog 15 #[.slice A N c, .int .i64 n] w fun e w' => e = .returned (.tuple #[magg R, .int .i64 E]) ∧ Below w.heap.size w w' := by
  have R0 := Lib.hid (RBox.new w 42 mzarr)
  have HO := Lib.hid (fun X W (hb : Below w.heap.size w W) (hX : X = true ↔ Risen l) => isInOrder_is l N A c B X W hN (by omega) (h.below (hb.mono hB)) hX)
  have HPL := Lib.hid (fun a m W (hb : Below w.heap.size w W) (hA : Above n l a) (hp : placeN a = m) => place_is n l N A c B a m W hN hm (Nat.le_trans hB hb.size) (h.below (hb.mono hB)) hA hp)
  have H := Lib.hid (h.mono hB)
  have HN := Lib.hid hN
  have hgw := Nat.le_refl w.heap.size
  obtain ⟨p, hp⟩ : ∃ p, w.heap.size = p := ⟨_, rfl⟩
  obtain ⟨W0, hW⟩ : ∃ W0, w.alloc (.cells mzarr 42) = W0 := ⟨_, rfl⟩
  rw [hW, hp] at R0
  have hpw : w.heap.size ≤ p := Nat.le_of_eq hp
  unfold mzarr at R0 hW
  have HW := Lib.hid hW
  have HP := Lib.hid hp
  have HPW := Lib.hid hpw
  clear hW hp h hN hB hgw hpw
  rcases hV with ⟨hr, rfl, rfl⟩ | ⟨rfl, rfl, rfl⟩ | ⟨hr, m, hml, hf, rfl, rfl⟩
  · have HO1 := Lib.hid (fun W hb => HO.out false W hb ⟨fun h => absurd h Bool.false_ne_true, fun h => absurd h hr⟩)
    clear HO HPL H HN hr
    unfold magg mzero marr
    go_enter Try.func15, Try.ntmps15
    go_upto_region 1 with fail
    rw [HW.out, HP.out]
    clear HW HP
    go_wp2_with fail
    refine (HO1.out _ R0.out.out.2).mono ?_
    rintro e w1 ⟨rfl, hb1⟩
    have R1 := Lib.hid (R0.out.below hb1)
    have HB := Lib.hid R1.out.out.1
    clear R0 hb1 HO1
    go_wp2_with (refine wpList_store_whole rfl 42 (.tmp 4) (.tmp 9) rfl p _ rfl rfl _ HB.out info_mark rfl (by simp [Value.oneCell']) ?_; simp only [Act.put])
    have R2 := Lib.hid (R1.out.row HPW.out #[.int .i64 0, .int .i64 0])
    refine bodyPost_ret (results_cell2 Try.results15 rfl (load_mblk R2.out.out.1 rfl) rfl) rfl ⟨rfl, R2.out.out.2⟩
  · have HO1 := Lib.hid (fun W hb => HO.out true W hb ⟨fun _ i hi _ => absurd hi (Nat.not_lt_zero _), fun _ => rfl⟩)
    obtain rfl : N = 0 := HN.out.symm
    clear HO HPL H HN
    unfold magg mzero marr
    go_enter Try.func15, Try.ntmps15
    go_upto_region 1 with fail
    rw [HW.out, HP.out]
    clear HW HP
    go_wp2_with fail
    refine (HO1.out _ R0.out.out.2).mono ?_
    rintro e w1 ⟨rfl, hb1⟩
    have R1 := Lib.hid (R0.out.below hb1)
    have HB := Lib.hid R1.out.out.1
    clear R0 hb1 HO1
    go_wp2_with (refine wpList_store_whole rfl 42 (.tmp 4) (.tmp 13) rfl p _ rfl rfl _ HB.out info_mark rfl (by simp [Value.oneCell']) ?_; simp only [Act.put])
    have R2 := Lib.hid (R1.out.row HPW.out #[.int .i64 0, .int .i64 0])
    refine bodyPost_ret (results_cell2 Try.results15 rfl (load_mblk R2.out.out.1 rfl) rfl) rfl ⟨rfl, R2.out.out.2⟩
  · obtain ⟨a, hA⟩ := above_of n hr
    have hpm : placeN a = m := by
      have h1 := above_from hA (by omega)
      omega
    have HO1 := Lib.hid (fun W hb => HO.out true W hb ⟨fun _ => hr, fun _ => rfl⟩)
    have HP1 := Lib.hid (fun W hb => HPL.out a m W hb hA hpm)
    have hmN : m < N := by rw [← HN.out]; exact hml
    obtain ⟨b0, o0, rfl, hb0, hc⟩ := H.out.some_ (by omega)
    have hx := hc m hml
    have hbp : b0 < p := by rw [← HP.out]; exact hb0
    clear hr hA hpm hf hc H HO HPL
    unfold magg
    generalize l[m] = x at hx
    obtain ⟨o, at_⟩ := x
    unfold marr
    obtain ⟨c0, c1⟩ := hx
    dsimp only at c0 c1 ⊢
    have HC := Lib.hid (And.intro c0 c1)
    have e1 : (m : Int) < (N : Int) := by omega
    have n0 : ¬ N = 0 := by omega
    have n0' : ¬ (N : Int) = 0 := by omega
    have n0b : decide ((N : Int) = 0) = false := decide_eq_false n0'
    clear c0 c1 hml
    go_enter Try.func15, Try.ntmps15
    go_upto_region 1 with fail
    rw [HW.out, HP.out]
    clear HW
    go_wp2_with fail
    refine (HO1.out _ R0.out.out.2).mono ?_
    rintro e w1 ⟨rfl, hb1⟩
    have R1 := Lib.hid (R0.out.below hb1)
    clear R0 hb1 HO1
    go_wp2_with fail
    refine (HP1.out _ R1.out.out.2).mono ?_
    rintro e w2 ⟨rfl, hb2⟩
    have R2 := Lib.hid (R1.out.below hb2)
    clear R1 hb2 HP1
    have hcl := fun i => R2.out.out.2.cell (p := ⟨b0, i, none⟩) (by rw [HP.out]; exact hbp)
    have c0 := (hcl _).trans HC.out.1
    have c1 := (hcl _).trans HC.out.2
    have HB := Lib.hid R2.out.out.1
    clear HC hcl
    go_wp2_with (refine wpList_store_whole rfl 42 (.tmp 4) (.tmp 19) rfl p _ rfl rfl _ HB.out info_mark rfl (by simp [Value.oneCell']) ?_; simp only [Act.put])
    have R3 := Lib.hid (R2.out.row HPW.out #[.int .i64 o, .int .i64 at_])
    refine bodyPost_ret (results_cell2 Try.results15 rfl (load_mblk R3.out.out.1 rfl) rfl) rfl ⟨rfl, R3.out.out.2⟩
end Go.Proofs.Ytijpieaanlnibaa.Mkd
/- Package index: what there is from a mark on. -/
namespace Go.Proofs.Ytijpieaanlnibaa.Mkd
open Go.RowKit Go.Lib Rcd

theorem wrap64_in' (k : Nat) (h : k ≤ 100000) : IntKind.i64.wrap (k : Int) = (k : Int) := by
  unfold IntKind.wrap
  simp [IntKind.bits, IntKind.signed]
  omega
/-- What look tells: an error's kind; or a record, how many were passed. -/
def LookV (b : Int) (rs : List Rc) (lm : List Mk) (n : Int) (V : Value) : Prop :=
  ((segB b rs = false ∨ (segB b rs = true ∧ ¬ lm = marks rs)) ∧ V = .iface 30 (.int .i64 1)) ∨
  (segB b rs = true ∧ lm = marks rs ∧ First (byFind n) rs rs.length ∧ V = .iface 30 (.int .i64 3)) ∨
  (segB b rs = true ∧ lm = marks rs ∧ ∃ f a, ∃ hf : f < rs.length, First (byFind n) rs f ∧ Above n (marks rs) a ∧ V = .iface 63 (.agg #[.int .i64 rs[f].o, .int .i64 rs[f].t, .string (str rs[f].k), .string (str rs[f].b), .int .i64 rs[f].q, .bool rs[f].g, .int .i64 ((f - 4 * placeN a : Nat) : Int)]))

set_option maxRecDepth 100000 in
set_option maxHeartbeats 16000000 in
/-- index.look, of marks that are the segment's own. -/
theorem look_own (n b : Int) (rs : List Rc) (N : Nat) (A : Option Addr) (c B : Nat) (K : Nat) (D : Option Addr) (cd : Nat) (f a : Nat) (V : Value) (w : World) (hN : rs.length = N) (hcap : N ≤ c) (hB : B ≤ w.heap.size) (h : RecsAt w B A rs) (hS : segB b rs = true)
    (hK : (marks rs).length = K) (hD : MarksAt w B D (marks rs)) (hF : First (byFind n) rs f) (hA : Above n (marks rs) a) (hV : (f = N ∧ V = .iface 30 (.int .i64 3)) ∨ (∃ hf : f < rs.length, V = .iface 63 (.agg #[.int .i64 rs[f].o, .int .i64 rs[f].t, .string (str rs[f].k), .string (str rs[f].b), .int .i64 rs[f].q, .bool rs[f].g, .int .i64 ((f - 4 * placeN a : Nat) : Int)]))) :
    Calls Try.prog 31 #[.agg #[.int .i64 b, .slice A N c], .slice D K cd, .int .i64 n] w fun e w' => e = .returned V ∧ Below w.heap.size w w' := by
  have R0 := Lib.hid (RBox.new w 24 (sarr b A N c))
  have hle := seg_len hS
  rw [hN] at hle
  have hK2 : K ≤ 1000 := by
    rw [← hK, marks_len]
    omega
  have HC := Lib.hid (fun W (hb : Below w.heap.size w W) => IxCheck_yes b rs N A c B (marks rs) K D cd true W hN (by omega) hcap (Nat.le_trans hB hb.size) (h.below (hb.mono hB)) hS hK (by omega) (hD.below (hb.mono hB)) (decide_eq_true rfl))
  obtain ⟨m, hm⟩ : ∃ m, placeN a = m := ⟨_, rfl⟩
  have HPL := Lib.hid (fun W (hb : Below w.heap.size w W) => place_is n (marks rs) K D cd B a m W hK (by omega) (Nat.le_trans hB hb.size) (hD.below (hb.mono hB)) hA hm)
  obtain ⟨hway, hway2⟩ := way hS hA hF
  rw [hm] at hway hway2 hV
  obtain ⟨k, hk⟩ : ∃ k, 4 * m = k := ⟨_, rfl⟩
  rw [hk] at hway hway2 hV
  have hkI : (m : Int) * 4 = (k : Int) := by omega
  have hfle := hF.le
  rw [hN] at hfle
  have hwr : IntKind.i64.wrap (k : Int) = (k : Int) := wrap64_in' k (by omega)
  have hAk : k = 0 ∨ ∃ b o, A = some ⟨b, o, none⟩ := by
    rcases Nat.eq_zero_or_pos k with h0 | h0
    · exact .inl h0
    · obtain ⟨b0, o0, e, _⟩ := h.some_ (by omega)
      exact .inr ⟨b0, o0, e⟩
  obtain ⟨A', hrest, hdrop⟩ := recs_rest A N c k hAk (by omega) hcap
  have HRE := Lib.hid hrest
  have hdl : (rs.drop k).length = N - k := by rw [List.length_drop, hN]
  have hds := seg_drop hS k
  have hdf := first_drop hF hway
  obtain ⟨f', hf'⟩ : ∃ f', f - k = f' := ⟨_, rfl⟩
  rw [hf'] at hdf hV
  have hfin : ∃ Q E, Out b (rs.drop k) f' Q E ∧ ((E = 3 ∧ V = .iface 30 (.int .i64 3)) ∨ (E = 0 ∧ V = .iface 63 (.agg #[.int .i64 Q.o, .int .i64 Q.t, .string (str Q.k), .string (str Q.b), .int .i64 Q.q, .bool Q.g, .int .i64 (f' : Int)]) ∧ First (bySame Q.o) (rs.drop k) f' ∧ f' < N - k)) := by
    rcases hV with ⟨rfl, rfl⟩ | ⟨hf, rfl⟩
    · exact ⟨_, _, .inr (.inl ⟨hds, by rw [hdl]; omega, rfl, rfl⟩), .inl ⟨rfl, rfl⟩⟩
    · have hlt : f' < (rs.drop k).length := by rw [hdl]; omega
      have he : (rs.drop k)[f'] = rs[f] := by
        rw [List.getElem_drop]
        simp only [show k + f' = f by omega]
      exact ⟨_, _, .inr (.inr ⟨hds, hlt, rfl, rfl⟩), .inr ⟨rfl, by rw [he], first_same hds hlt, by omega⟩⟩
  obtain ⟨Q, E, hO, hfin⟩ := hfin
  have HFI := Lib.hid (fun W (hb : Below w.heap.size w W) => SegFind_is n b (rs.drop k) (N - k) A' (c - k) B f' Q E W hdl (by omega) (by omega) (Nat.le_trans hB hb.size) (hdrop W B rs hN (h.below (hb.mono hB))) hdf hO)
  have HIX0 := Lib.hid (fun W (hb : Below w.heap.size w W) g (hg : W.cell? ⟨g, 0, none⟩ = some (.int .i64 Q.o)) (hFS : First (bySame Q.o) (rs.drop k) f') => indexSame_is Q.o (rs.drop k) (N - k) A' (c - k) B g f' W hdl (by omega) (Nat.le_trans hB hb.size) (hdrop W B rs hN (h.below (hb.mono hB))) hg hFS)
  have HFIN := Lib.hid hfin
  unfold ragg at HFI
  clear hfin hO hdrop hrest hV hway hway2 hAk hdf hds hdl hf' hA hF hD hK hS h hB hN hm hk hfle
  obtain ⟨o, t, key, bod, q, g⟩ := Q
  dsimp only at HFI HIX0 HFIN
  generalize str key = ks at HFI HFIN
  generalize str bod = bs at HFI HFIN
  unfold rarr at HFI
  obtain ⟨p, hp⟩ : ∃ p, w.heap.size = p := ⟨_, rfl⟩
  obtain ⟨W0, hW⟩ : ∃ W0, w.alloc (.cells (sarr b A N c) 24) = W0 := ⟨_, rfl⟩
  rw [hW, hp] at R0
  unfold sarr at R0 hW
  have HW := Lib.hid hW
  have HP := Lib.hid hp
  have HPW : Hid (w.heap.size ≤ p) := Nat.le_of_eq hp
  clear hW hp
  have hmf : ∀ (fn : Fn) (first cap : Array Value) (w : World), (Instr.makeFunc fn first cap).run Try.prog w = .ok (.func fn first cap) w := fun _ _ _ _ => rfl
  go_enter Try.func31, Try.ntmps31
  go_upto_region 1 with fail
  rw [HW.out, HP.out]
  clear HW HP
  have hld := R0.out.loadS rfl
  go_upto_region 2 with (first | (refine wpList_load_any (by rfl) 24 (.tmp 3) rfl p 0 rfl _ hld ?_; simp only [Act.put]) | (go_at_call 9; refine (HC.out _ R0.out.out.2).mono ?_; rintro e w2 ⟨rfl, hb2⟩))
  have R2 := Lib.hid (R0.out.below hb2)
  clear R0 hb2 hld HC
  go_upto_region 4 with fail
  go_cut [9] from 21 to 30 (fun s9 wx => ∃ g9, s9 = .pointer (some ⟨g9, 0, none⟩) ∧ Hid (Duo w p g9 #[.int .i64 b, .slice A N c] #[.int .i64 b, .slice A' (N - k) (c - k)] wx))
  case first =>
    have hS0 := R2.out.drewN 1
    refine wp_region_held_drew (S := fun W => RBox w p #[.int .i64 b, .slice A N c] W) (by kernel_rfl) hS0 (fun hS => ?_)
    clear hS0
    generalize w2.drew = Wd at hS ⊢
    refine take_op 0 21 ?v1_ rfl rfl (by kernel_rfl) (fun _ _ _ h => h) (by rfl) hS (fun w' hS' => ?hv1_) ?hh1_
    case hv1_ => (go_simp; (try with_reducible rfl); (try omega))
    simp only [Act.put, List.setIfInBounds_toArray, List.set_cons_zero, List.set_cons_succ]
    refine take_op 1 22 (.int .i64 b) rfl rfl (by kernel_rfl) (fun _ _ _ h => h) (by rfl) hS (fun w' hS' => ?hv2_) ?hh2_
    case hv2_ => (have d0 : w'.cell? ⟨p, 0, none⟩ = some (.int .i64 b) := hS'.cell 0; go_simp; (try with_reducible rfl); (try omega))
    simp only [Act.put, List.setIfInBounds_toArray, List.set_cons_zero, List.set_cons_succ]
    refine take_op 2 23 ?v3_ rfl rfl (by kernel_rfl) (fun _ _ _ h => h) (by rfl) hS (fun w' hS' => ?hv3_) ?hh3_
    case hv3_ => (go_simp; (try with_reducible rfl); (try omega))
    simp only [Act.put, List.setIfInBounds_toArray, List.set_cons_zero, List.set_cons_succ]
    refine take_op 3 24 (.slice A N c) rfl rfl (by kernel_rfl) (fun _ _ _ h => h) (by rfl) hS (fun w' hS' => ?hv4_) ?hh4_
    case hv4_ => (have d1 : w'.cell? ⟨p, 1, none⟩ = some (.slice A N c) := hS'.cell 1; go_simp; (try with_reducible rfl); (try omega))
    simp only [Act.put, List.setIfInBounds_toArray, List.set_cons_zero, List.set_cons_succ]
    refine take_op 4 25 ?v5_ rfl rfl (by kernel_rfl) (fun _ _ _ h => h) (by rfl) hS (fun w' hS' => ?hv5_) ?hh5_
    case hv5_ => (go_simp; (try with_reducible rfl); (try omega))
    simp only [Act.put, List.setIfInBounds_toArray, List.set_cons_zero, List.set_cons_succ]
    refine take_op 5 26 ?v6_ rfl rfl (by kernel_rfl) (fun _ _ _ h => h) (by rfl) hS (fun w' hS' => ?hv6_) ?hh6_
    case hv6_ => (go_simp; (try with_reducible rfl); (try omega))
    simp only [Act.put, List.setIfInBounds_toArray, List.set_cons_zero, List.set_cons_succ]
    refine two_ops 6 10 rfl rfl (by kernel_rfl) (by rfl) (by rfl) (wp_call 27 30 #[.slice D K cd, .int .i64 n] (.int .i64 (m : Int)) (fun W => Below Wd.heap.size Wd W) rfl (by go_simp) (HPL.out Wd hS.out.2) (fun Wa hb3 => ⟨hS.below hb3, ?_⟩)) (wp_made 9 (.pointer (some ⟨Wd.heap.size, 0, none⟩)) rfl (w' := Wd.alloc (.cells #[.int .i64 0, .slice none 0 0] 24)) (by go_simp; try rfl) ⟨hS.below ((Below.refl _ _).alloc (Nat.le_refl _) _), ?_⟩)
    · simp only [Act.put, List.setIfInBounds_toArray, List.set_cons_zero, List.set_cons_succ]
      have hS := hS.below hb3
      clear hb3
      refine take_op 7 28 (.int .i64 (k : Int)) rfl rfl (by kernel_rfl) (fun _ _ _ h => h) (by rfl) hS (fun w' hS' => ?hv7_) ?hh7_
      case hv7_ => (go_simp; (try exact hwr))
      simp only [Act.put, List.setIfInBounds_toArray, List.set_cons_zero, List.set_cons_succ]
      refine take_op 8 29 (.slice A' (N - k) (c - k)) rfl rfl (by kernel_rfl) (fun _ _ _ h => h) (by rfl) hS (fun w' hS' => ?hv8_) ?hh8_
      case hv8_ => (have hr := HRE.out w'; go_simp; (try with_reducible rfl); (try omega))
      simp only [Act.put, List.setIfInBounds_toArray, List.set_cons_zero, List.set_cons_succ]
      refine take_op 9 30 (.agg #[.int .i64 b, .slice A' (N - k) (c - k)]) rfl rfl (by kernel_rfl) (fun _ _ _ h => h) (by rfl) hS (fun w' hS' => ?hv9_) ?hh9_
      case hv9_ => (go_simp; (try with_reducible rfl); (try omega))
      simp only [Act.put, List.setIfInBounds_toArray, List.set_cons_zero, List.set_cons_succ]
      refine only_op 10 rfl (by kernel_rfl) (by rfl) (wp_made 9 (.pointer (some ⟨Wa.heap.size, 0, none⟩)) rfl (w' := Wa.alloc (.cells #[.int .i64 0, .slice none 0 0] 24)) (by go_simp; try rfl) ⟨hS.below ((Below.refl _ _).alloc (Nat.le_refl _) _), ?_⟩)
      simp only [Act.put, List.setIfInBounds_toArray, List.set_cons_zero, List.set_cons_succ]
      have hD := Duo.more hS HPW.out 24 #[.int .i64 0, .slice none 0 0]
      generalize Wa.alloc _ = Wb at hD ⊢
      generalize Wa.heap.size = g9 at hD ⊢
      have D9 := hD.row2 #[.int .i64 b, .slice A' (N - k) (c - k)]
      have hx9 : Hid (Duo w p g9 #[.int .i64 b, .slice A N c] #[.int .i64 b, .slice A' (N - k) (c - k)] (Wb.setRow g9 #[.int .i64 b, .slice A' (N - k) (c - k)])) := D9
      obtain ⟨TT, hTT⟩ := hD.out.2.1
      refine only_op 11 rfl (by kernel_rfl) (by rfl) (wp_store_row 24 (.tmp 9) (.tmp 30) rfl g9 #[.int .i64 b, .slice A' (N - k) (c - k)] rfl rfl TT _ hTT info_seg rfl (by simp [Value.oneCell']) ⟨D9.box1, ?_⟩)
      (try simp only [put_none])
      refine wpAnyH_done (by kernel_rfl) ?_ _
      go_wp2_with fail
      go_meet
      exact ⟨_, rfl, hx9⟩
    · simp only [Act.put, List.setIfInBounds_toArray, List.set_cons_zero, List.set_cons_succ]
      have hD := Duo.more hS HPW.out 24 #[.int .i64 0, .slice none 0 0]
      generalize Wd.alloc _ = Wb at hD ⊢
      generalize Wd.heap.size = g9 at hD ⊢
      have hS := hD.box1
      refine only_op 6 rfl (by kernel_rfl) (by rfl) (wp_call 27 30 #[.slice D K cd, .int .i64 n] (.int .i64 (m : Int)) (fun W => Below Wb.heap.size Wb W) rfl (by go_simp) (HPL.out Wb hS.out.2) (fun Wc hb3 => ⟨hS.below hb3, ?_⟩))
      simp only [Act.put, List.setIfInBounds_toArray, List.set_cons_zero, List.set_cons_succ]
      have hS := hS.below hb3
      have hD := hD.below hb3
      clear hb3
      refine take_op 7 28 (.int .i64 (k : Int)) rfl rfl (by kernel_rfl) (fun _ _ _ h => h) (by rfl) hS (fun w' hS' => ?hv10_) ?hh10_
      case hv10_ => (go_simp; (try exact hwr))
      simp only [Act.put, List.setIfInBounds_toArray, List.set_cons_zero, List.set_cons_succ]
      refine take_op 8 29 (.slice A' (N - k) (c - k)) rfl rfl (by kernel_rfl) (fun _ _ _ h => h) (by rfl) hS (fun w' hS' => ?hv11_) ?hh11_
      case hv11_ => (have hr := HRE.out w'; go_simp; (try with_reducible rfl); (try omega))
      simp only [Act.put, List.setIfInBounds_toArray, List.set_cons_zero, List.set_cons_succ]
      refine take_op 9 30 (.agg #[.int .i64 b, .slice A' (N - k) (c - k)]) rfl rfl (by kernel_rfl) (fun _ _ _ h => h) (by rfl) hS (fun w' hS' => ?hv12_) ?hh12_
      case hv12_ => (go_simp; (try with_reducible rfl); (try omega))
      simp only [Act.put, List.setIfInBounds_toArray, List.set_cons_zero, List.set_cons_succ]
      have D9 := hD.row2 #[.int .i64 b, .slice A' (N - k) (c - k)]
      have hx9 : Hid (Duo w p g9 #[.int .i64 b, .slice A N c] #[.int .i64 b, .slice A' (N - k) (c - k)] (Wc.setRow g9 #[.int .i64 b, .slice A' (N - k) (c - k)])) := D9
      obtain ⟨TT, hTT⟩ := hD.out.2.1
      refine only_op 11 rfl (by kernel_rfl) (by rfl) (wp_store_row 24 (.tmp 9) (.tmp 30) rfl g9 #[.int .i64 b, .slice A' (N - k) (c - k)] rfl rfl TT _ hTT info_seg rfl (by simp [Value.oneCell']) ⟨D9.box1, ?_⟩)
      (try simp only [put_none])
      refine wpAnyH_done (by kernel_rfl) ?_ _
      go_wp2_with fail
      go_meet
      exact ⟨_, rfl, hx9⟩
  case rest =>
    obtain ⟨g9, rfl, hx⟩ := hcut
    have R9 := Lib.hid hx.out.box2
    have hg9 : w.heap.size ≤ g9 := by have := hx.out.out; omega
    clear hx R2 HPL HRE HPW
    have hld := R9.out.loadS rfl
    go_wp2_with (refine wpList_load_any (by rfl) 24 (.tmp 9) rfl g9 0 rfl _ hld ?_; simp only [Act.put])
    refine (HFI.out _ R9.out.out.2).mono ?_
    rintro e w3 ⟨rfl, hb3⟩
    have hD := Duo.more (R9.out.below hb3) hg9 44 zcells
    obtain ⟨g10, hg10⟩ : ∃ g10, w3.heap.size = g10 := ⟨_, rfl⟩
    obtain ⟨W4, hW4⟩ : ∃ W4, w3.alloc (.cells zcells 44) = W4 := ⟨_, rfl⟩
    rw [hg10, hW4] at hD
    have HBN := Lib.hid hD.out.2.1
    have D5 := Lib.hid (hD.row2 #[.int .i64 o, .int .i64 t, .string ks, .string bs, .int .i64 q, .bool g])
    unfold zcells at hW4
    have HW4 := Lib.hid hW4
    have HG10 := Lib.hid hg10
    clear hD hW4 hg10 R9 hb3 hld HFI
    go_upto_region 6 with (rw [HW4.out, HG10.out]; refine wpList_store_whole rfl 44 (.tmp 10) (.tmp 35) rfl g10 _ rfl rfl zcells HBN.out info_rec rfl (by simp [Value.oneCell']) ?_; simp only [Act.put])
    clear HW4 HBN HG10
    generalize World.setRow _ _ _ = w5 at D5 ⊢
    rcases HFIN.out with ⟨rfl, rfl⟩ | ⟨rfl, rfl, hsame, hflt⟩
    · clear HFIN HIX0
      go_wp2_with fail
      go_ret
      exact ⟨rfl, D5.out.bel⟩
    · have hat : atOf f' (N - k) = (f' : Int) := if_pos hflt
      have HIX := Lib.hid (fun W (hb : Below w.heap.size w W) g (hg : W.cell? ⟨g, 0, none⟩ = some (.int .i64 o)) => show Calls Try.prog 40 #[.slice A' (N - k) (c - k), .func (.func 41) #[] #[.pointer (some ⟨g, 0, none⟩)]] W (fun e w' => e = .returned (.int .i64 (f' : Int)) ∧ Below W.heap.size W w') from by
        have := HIX0.out W hb g hg hsame
        rw [hat] at this
        exact this)
      clear HFIN HIX0 hsame hat
      go_upto_region 8 with fail
      have hS0 := D5.out.drewN 1
      refine wp_region_held_drew (S := fun W => Duo w g9 g10 #[.int .i64 b, .slice A' (N - k) (c - k)] #[.int .i64 o, .int .i64 t, .string ks, .string bs, .int .i64 q, .bool g] W) (by kernel_rfl) hS0 (fun hS => ?_)
      clear hS0
      generalize w5.drew = Wd at hS ⊢
      refine take_load 0 41 44 (.tmp 10) g10 0 (.agg #[.int .i64 o, .int .i64 t, .string ks, .string bs, .int .i64 q, .bool g]) rfl rfl (by kernel_rfl) (fun _ _ _ h => h) (by rfl) hS rfl rfl (fun w' hS' => load_blk hS'.out.2.1 rfl) ?hx0
      simp only [Act.put, List.setIfInBounds_toArray, List.set_cons_zero, List.set_cons_succ]
      refine take_op 1 42 ?v13_ rfl rfl (by kernel_rfl) (fun _ _ _ h => h) (by rfl) hS (fun w' hS' => ?hv13_) ?hh13_
      case hv13_ => (go_simp; (try with_reducible rfl); (try omega))
      simp only [Act.put, List.setIfInBounds_toArray, List.set_cons_zero, List.set_cons_succ]
      refine take_op 2 43 (.slice A' (N - k) (c - k)) rfl rfl (by kernel_rfl) (fun _ _ _ h => h) (by rfl) hS (fun w' hS' => ?hv14_) ?hh14_
      case hv14_ => (have d1 : w'.cell? ⟨g9, 1, none⟩ = some (.slice A' (N - k) (c - k)) := hS'.cell1 1; go_simp; (try with_reducible rfl); (try omega))
      simp only [Act.put, List.setIfInBounds_toArray, List.set_cons_zero, List.set_cons_succ]
      refine take_op 3 44 (.func (.func 41) #[] #[.pointer (some ⟨g10, 0, none⟩)]) rfl rfl (by kernel_rfl) (fun _ _ _ h => h) (by rfl) hS (fun w' hS' => ?hv15_) ?hh15_
      case hv15_ => (have hmf := hmf; go_simp; (try with_reducible rfl); (try omega))
      simp only [Act.put, List.setIfInBounds_toArray, List.set_cons_zero, List.set_cons_succ]
      refine only_op 4 rfl (by kernel_rfl) (by rfl) (wp_call 45 40 #[.slice A' (N - k) (c - k), .func (.func 41) #[] #[.pointer (some ⟨g10, 0, none⟩)]] (.int .i64 (f' : Int)) (fun W => Below Wd.heap.size Wd W) rfl (by go_simp) (HIX.out Wd hS.bel g10 (hS.cell2 0)) (fun Wa hb3 => ⟨hS.below hb3, ?_⟩))
      simp only [Act.put, List.setIfInBounds_toArray, List.set_cons_zero, List.set_cons_succ]
      have hS := hS.below hb3
      clear hb3
      refine take_op 5 46 (.agg #[.int .i64 o, .int .i64 t, .string ks, .string bs, .int .i64 q, .bool g, .int .i64 (f' : Int)]) rfl rfl (by kernel_rfl) (fun _ _ _ h => h) (by rfl) hS (fun w' hS' => ?hv16_) ?hh16_
      case hv16_ => (go_simp; (try with_reducible rfl); (try omega))
      simp only [Act.put, List.setIfInBounds_toArray, List.set_cons_zero, List.set_cons_succ]
      refine take_op 6 47 (.iface 63 (.agg #[.int .i64 o, .int .i64 t, .string ks, .string bs, .int .i64 q, .bool g, .int .i64 (f' : Int)])) rfl rfl (by kernel_rfl) (fun _ _ _ h => h) (by rfl) hS (fun w' hS' => ?hv17_) ?hh17_
      case hv17_ => (go_simp; (try with_reducible rfl); (try omega))
      simp only [Act.put, List.setIfInBounds_toArray, List.set_cons_zero, List.set_cons_succ]
      refine take_op 7 6 (.iface 63 (.agg #[.int .i64 o, .int .i64 t, .string ks, .string bs, .int .i64 q, .bool g, .int .i64 (f' : Int)])) rfl rfl (by kernel_rfl) (fun _ _ _ h => h) (by rfl) hS (fun w' hS' => ?hv18_) ?hh18_
      case hv18_ => (go_simp; (try with_reducible rfl); (try omega))
      simp only [Act.put, List.setIfInBounds_toArray, List.set_cons_zero, List.set_cons_succ]
      refine wpAnyH_done (by kernel_rfl) ?_ _
      go_wp2_with fail
      go_ret
      exact ⟨rfl, hS.bel⟩
end Go.Proofs.Ytijpieaanlnibaa.Mkd
/- Package index: what Look tells, of what look tells. -/
namespace Go.Proofs.Ytijpieaanlnibaa.Mkd
open Go.RowKit Go.Lib Rcd

theorem as_hit (v : Value) (w : World) : (Instr.typeAssert (.iface 63 v) 20 63 true).run Try.prog w = .ok (.tuple #[v, .bool true]) w := by kernel_rfl
theorem not_hit (v : Value) (w : World) : (Instr.typeAssert (.iface 30 v) 20 63 true).run Try.prog w = .ok (.tuple #[.agg #[.int .i64 0, .int .i64 0, .string ⟨#[]⟩, .string ⟨#[]⟩, .int .i64 0, .bool false, .int .i64 0], .bool false]) w := by kernel_rfl
theorem as_errno'' (v : Value) (w : World) : (Instr.typeAssert (.iface 30 v) 20 30 false).run Try.prog w = .ok v w := by kernel_rfl
theorem info_hit : (Try.prog.info? 63).map (·.size) = some 7 := by kernel_rfl
theorem load_hit {W : World} {g10 : Nat} {o t : Int} {ks bs : ByteArray} {q : Int} {g : Bool} {P : Int} (h : Blk W g10 #[.int .i64 o, .int .i64 t, .string ks, .string bs, .int .i64 q, .bool g, .int .i64 P]) : (loadVar 44 ⟨g10, 0, none⟩).run Try.prog W = .ok (.agg #[.int .i64 o, .int .i64 t, .string ks, .string bs, .int .i64 q, .bool g]) W :=
  run_loadVar_mid W g10 0 44 [.int .i64 o, .int .i64 t, .string ks, .string bs, .int .i64 q, .bool g] _ (fun j v hv => by
    rw [Nat.zero_add, h.cell j]
    match j, hv with
    | 0, hv => exact hv
    | 1, hv => exact hv
    | 2, hv => exact hv
    | 3, hv => exact hv
    | 4, hv => exact hv
    | 5, hv => exact hv) Try.underlying44 rfl info_rec

set_option maxRecDepth 100000 in
set_option maxHeartbeats 4000000 in
/-- index.look, of a segment that may not be, or of marks that are not its own. -/
theorem look_no (n b : Int) (A : Option Addr) (N c : Nat) (D : Value) (E : Int) (w : World) (HC : ∀ W, Below w.heap.size w W → Calls Try.prog 9 #[.agg #[.int .i64 b, .slice A N c], D] W fun e w' => e = .returned (.tuple #[.bool false, .int .i64 E]) ∧ Below W.heap.size W w') :
    Calls Try.prog 31 #[.agg #[.int .i64 b, .slice A N c], D, .int .i64 n] w fun e w' => e = .returned (.iface 30 (.int .i64 1)) ∧ Below w.heap.size w w' := by
  have HCC := Lib.hid HC
  have R0 := Lib.hid (RBox.new w 24 (sarr b A N c))
  obtain ⟨p, hp⟩ : ∃ p, w.heap.size = p := ⟨_, rfl⟩
  obtain ⟨W0, hW⟩ : ∃ W0, w.alloc (.cells (sarr b A N c) 24) = W0 := ⟨_, rfl⟩
  rw [hW, hp] at R0
  unfold sarr at R0 hW
  have HW := Lib.hid hW
  have HP := Lib.hid hp
  clear hW hp HC
  go_enter Try.func31, Try.ntmps31
  go_upto_region 1 with fail
  rw [HW.out, HP.out]
  clear HW HP
  have hld := R0.out.loadS rfl
  go_wp2_with (refine wpList_load_any (by rfl) 24 (.tmp 3) rfl p 0 rfl _ hld ?_; simp only [Act.put])
  refine (HCC.out _ R0.out.out.2).mono ?_
  rintro e w1 ⟨rfl, hb1⟩
  have R1 := Lib.hid (R0.out.below hb1)
  clear R0 hb1 hld HCC
  go_wp2_with fail
  go_ret
  exact ⟨rfl, R1.out.out.2⟩

set_option maxRecDepth 100000 in
set_option maxHeartbeats 8000000 in
/-- index.Look, where look tells an error. -/
theorem Look_err (n b : Int) (A : Option Addr) (N c : Nat) (D : Value) (E : Int) (w : World) (HL : ∀ W, Below w.heap.size w W → Calls Try.prog 31 #[.agg #[.int .i64 b, .slice A N c], D, .int .i64 n] W fun e w' => e = .returned (.iface 30 (.int .i64 E)) ∧ Below W.heap.size W w') :
    Calls Try.prog 18 #[.agg #[.int .i64 b, .slice A N c], D, .int .i64 n] w fun e w' => e = .returned (.tuple #[.agg #[.int .i64 0, .int .i64 0, .string ⟨#[]⟩, .string ⟨#[]⟩, .int .i64 0, .bool false], .int .i64 0, .int .i64 E]) ∧ Below w.heap.size w w' := by
  have HLL := Lib.hid HL
  have hD := Duo.new w 24 44 (sarr b A N c) zcells
  clear HL
  have hnh := not_hit
  have hah := as_hit
  have hae := as_errno''
  obtain ⟨p, hp⟩ : ∃ p, w.heap.size = p := ⟨_, rfl⟩
  obtain ⟨W0, hW⟩ : ∃ W0, (w.alloc (.cells (sarr b A N c) 24)).alloc (.cells zcells 44) = W0 := ⟨_, rfl⟩
  rw [hW, hp] at hD
  unfold sarr zcells at hW
  unfold sarr at hD
  have D0 := Lib.hid hD
  have HW := Lib.hid hW
  have HP := Lib.hid hp
  clear hD hW hp
  go_enter Try.func18, Try.ntmps18
  go_upto_region 1 with fail
  rw [HW.out, HP.out]
  clear HW
  have hld := load_seg D0.out.out.1 rfl
  go_wp2_with (refine wpList_load_any (by rfl) 24 (.tmp 3) rfl p 0 rfl _ hld ?_; simp only [Act.put])
  refine (HLL.out _ D0.out.bel).mono ?_
  rintro e w1 ⟨rfl, hb1⟩
  have hD := Duo.more (D0.out.box2.below hb1) (show w.heap.size ≤ p + 1 by have := HP.out; omega) 63 #[.int .i64 0, .int .i64 0, .string ⟨#[]⟩, .string ⟨#[]⟩, .int .i64 0, .bool false, .int .i64 0]
  obtain ⟨g10, hg10⟩ : ∃ g10, w1.heap.size = g10 := ⟨_, rfl⟩
  obtain ⟨W4, hW4⟩ : ∃ W4, w1.alloc (.cells #[.int .i64 0, .int .i64 0, .string ⟨#[]⟩, .string ⟨#[]⟩, .int .i64 0, .bool false, .int .i64 0] 63) = W4 := ⟨_, rfl⟩
  rw [hg10, hW4] at hD
  have HBN := Lib.hid hD.out.2.1
  have D5 := Lib.hid (hD.row2 #[.int .i64 0, .int .i64 0, .string ⟨#[]⟩, .string ⟨#[]⟩, .int .i64 0, .bool false, .int .i64 0])
  have HW4 := Lib.hid hW4
  have HG10 := Lib.hid hg10
  clear hD hW4 hg10 D0 hb1 hld HLL
  go_upto_region 3 with (rw [HW4.out, HG10.out]; refine wpList_store_whole rfl 63 (.tmp 10) (.tmp 19) rfl g10 _ rfl rfl _ HBN.out info_hit rfl (by simp [Value.oneCell']) ?_; simp only [Act.put])
  clear HW4 HBN HG10
  generalize World.setRow _ _ _ = w5 at D5 ⊢
  unfold zcells at D5
  have hDd := D5.out.drewN 1
  clear D5
  go_upto_region 4 with fail
  refine wp_region_held_drew (S := fun W => Duo w (p + 1) g10 #[.int .i64 0, .int .i64 0, .string ⟨#[]⟩, .string ⟨#[]⟩, .int .i64 0, .bool false] #[.int .i64 0, .int .i64 0, .string ⟨#[]⟩, .string ⟨#[]⟩, .int .i64 0, .bool false, .int .i64 0] W ∨ Duo w (p + 1) g10 #[.int .i64 0, .int .i64 0, .string ⟨#[]⟩, .string ⟨#[]⟩, .int .i64 0, .bool false] #[.int .i64 0, .int .i64 0, .string ⟨#[]⟩, .string ⟨#[]⟩, .int .i64 0, .bool false, .int .i64 0] W) (by kernel_rfl) (.inl hDd) (fun hS => ?_)
  change Duo w (p + 1) g10 #[.int .i64 0, .int .i64 0, .string ⟨#[]⟩, .string ⟨#[]⟩, .int .i64 0, .bool false] #[.int .i64 0, .int .i64 0, .string ⟨#[]⟩, .string ⟨#[]⟩, .int .i64 0, .bool false, .int .i64 0] w5.drew at hDd
  clear hS
  generalize w5.drew = Wd at hDd ⊢
  have hS : Duo w (p + 1) g10 #[.int .i64 0, .int .i64 0, .string ⟨#[]⟩, .string ⟨#[]⟩, .int .i64 0, .bool false] #[.int .i64 0, .int .i64 0, .string ⟨#[]⟩, .string ⟨#[]⟩, .int .i64 0, .bool false, .int .i64 0] Wd ∨ Duo w (p + 1) g10 #[.int .i64 0, .int .i64 0, .string ⟨#[]⟩, .string ⟨#[]⟩, .int .i64 0, .bool false] #[.int .i64 0, .int .i64 0, .string ⟨#[]⟩, .string ⟨#[]⟩, .int .i64 0, .bool false, .int .i64 0] Wd := .inl hDd
  refine take_op 0 23 (.agg #[.int .i64 0, .int .i64 0, .string ⟨#[]⟩, .string ⟨#[]⟩, .int .i64 0, .bool false]) rfl rfl (by kernel_rfl) (fun _ _ _ h => h) (by rfl) hS (fun w' hS' => ?hv1_) ?hh1_
  case hv1_ => (go_simp; (try with_reducible rfl); (try omega))
  simp only [Act.put, List.setIfInBounds_toArray, List.set_cons_zero, List.set_cons_succ]
  refine take_op 1 24 (.iface 30 (.int .i64 E)) rfl rfl (by kernel_rfl) (fun _ _ _ h => h) (by rfl) hS (fun w' hS' => ?hv2_) ?hh2_
  case hv2_ => (go_simp; (try with_reducible rfl); (try omega))
  simp only [Act.put, List.setIfInBounds_toArray, List.set_cons_zero, List.set_cons_succ]
  refine take_op 2 25 (.int .i64 E) rfl rfl (by kernel_rfl) (fun _ _ _ h => h) (by rfl) hS (fun w' hS' => ?hv3_) ?hh3_
  case hv3_ => (have he := hae (.int .i64 E) w'; go_simp; (try with_reducible rfl); (try omega))
  simp only [Act.put, List.setIfInBounds_toArray, List.set_cons_zero, List.set_cons_succ]
  obtain ⟨Tz, hz⟩ := hDd.out.1
  have D6 := hDd.row1 #[.int .i64 0, .int .i64 0, .string ⟨#[]⟩, .string ⟨#[]⟩, .int .i64 0, .bool false]
  refine only_op 3 rfl (by kernel_rfl) (by rfl) (wp_store_row 44 (.tmp 6) (.tmp 23) rfl (p + 1) #[.int .i64 0, .int .i64 0, .string ⟨#[]⟩, .string ⟨#[]⟩, .int .i64 0, .bool false] rfl rfl Tz _ hz info_rec rfl (by simp [Value.oneCell']) ⟨.inr D6, ?_⟩)
  (try simp only [put_none])
  have hS : Duo w (p + 1) g10 #[.int .i64 0, .int .i64 0, .string ⟨#[]⟩, .string ⟨#[]⟩, .int .i64 0, .bool false] #[.int .i64 0, .int .i64 0, .string ⟨#[]⟩, .string ⟨#[]⟩, .int .i64 0, .bool false, .int .i64 0] (Wd.setRow (p + 1) #[.int .i64 0, .int .i64 0, .string ⟨#[]⟩, .string ⟨#[]⟩, .int .i64 0, .bool false]) ∨ Duo w (p + 1) g10 #[.int .i64 0, .int .i64 0, .string ⟨#[]⟩, .string ⟨#[]⟩, .int .i64 0, .bool false] #[.int .i64 0, .int .i64 0, .string ⟨#[]⟩, .string ⟨#[]⟩, .int .i64 0, .bool false, .int .i64 0] (Wd.setRow (p + 1) #[.int .i64 0, .int .i64 0, .string ⟨#[]⟩, .string ⟨#[]⟩, .int .i64 0, .bool false]) := .inr D6
  refine take_op 4 7 (.int .i64 0) rfl rfl (by kernel_rfl) (fun _ _ _ h => h) (by rfl) hS (fun w' hS' => ?hv4_) ?hh4_
  case hv4_ => (go_simp; (try with_reducible rfl); (try omega))
  simp only [Act.put, List.setIfInBounds_toArray, List.set_cons_zero, List.set_cons_succ]
  refine take_op 5 8 (.int .i64 E) rfl rfl (by kernel_rfl) (fun _ _ _ h => h) (by rfl) hS (fun w' hS' => ?hv5_) ?hh5_
  case hv5_ => (go_simp; (try with_reducible rfl); (try omega))
  simp only [Act.put, List.setIfInBounds_toArray, List.set_cons_zero, List.set_cons_succ]
  refine wpAnyH_done (by kernel_rfl) ?_ _
  go_wp2_with fail
  refine bodyPost_ret (results_cell3 Try.results18 rfl (load_blk D6.out.1 rfl) rfl rfl) rfl ⟨rfl, D6.bel⟩

set_option maxRecDepth 100000 in
set_option maxHeartbeats 8000000 in
/-- index.Look, where look tells a record. -/
theorem Look_hit (n b : Int) (A : Option Addr) (N c : Nat) (D : Value) (o t : Int) (ks bs : ByteArray) (q : Int) (g : Bool) (P : Int) (w : World) (HL : ∀ W, Below w.heap.size w W → Calls Try.prog 31 #[.agg #[.int .i64 b, .slice A N c], D, .int .i64 n] W fun e w' => e = .returned (.iface 63 (.agg #[.int .i64 o, .int .i64 t, .string ks, .string bs, .int .i64 q, .bool g, .int .i64 P])) ∧ Below W.heap.size W w') :
    Calls Try.prog 18 #[.agg #[.int .i64 b, .slice A N c], D, .int .i64 n] w fun e w' => e = .returned (.tuple #[.agg #[.int .i64 o, .int .i64 t, .string ks, .string bs, .int .i64 q, .bool g], .int .i64 P, .int .i64 0]) ∧ Below w.heap.size w w' := by
  have HLL := Lib.hid HL
  have hD := Duo.new w 24 44 (sarr b A N c) zcells
  clear HL
  have hnh := not_hit
  have hah := as_hit
  have hae := as_errno''
  obtain ⟨p, hp⟩ : ∃ p, w.heap.size = p := ⟨_, rfl⟩
  obtain ⟨W0, hW⟩ : ∃ W0, (w.alloc (.cells (sarr b A N c) 24)).alloc (.cells zcells 44) = W0 := ⟨_, rfl⟩
  rw [hW, hp] at hD
  unfold sarr zcells at hW
  unfold sarr at hD
  have D0 := Lib.hid hD
  have HW := Lib.hid hW
  have HP := Lib.hid hp
  clear hD hW hp
  go_enter Try.func18, Try.ntmps18
  go_upto_region 1 with fail
  rw [HW.out, HP.out]
  clear HW
  have hld := load_seg D0.out.out.1 rfl
  go_wp2_with (refine wpList_load_any (by rfl) 24 (.tmp 3) rfl p 0 rfl _ hld ?_; simp only [Act.put])
  refine (HLL.out _ D0.out.bel).mono ?_
  rintro e w1 ⟨rfl, hb1⟩
  have hD := Duo.more (D0.out.box2.below hb1) (show w.heap.size ≤ p + 1 by have := HP.out; omega) 63 #[.int .i64 0, .int .i64 0, .string ⟨#[]⟩, .string ⟨#[]⟩, .int .i64 0, .bool false, .int .i64 0]
  obtain ⟨g10, hg10⟩ : ∃ g10, w1.heap.size = g10 := ⟨_, rfl⟩
  obtain ⟨W4, hW4⟩ : ∃ W4, w1.alloc (.cells #[.int .i64 0, .int .i64 0, .string ⟨#[]⟩, .string ⟨#[]⟩, .int .i64 0, .bool false, .int .i64 0] 63) = W4 := ⟨_, rfl⟩
  rw [hg10, hW4] at hD
  have HBN := Lib.hid hD.out.2.1
  have D5 := Lib.hid (hD.row2 #[.int .i64 o, .int .i64 t, .string ks, .string bs, .int .i64 q, .bool g, .int .i64 P])
  have HW4 := Lib.hid hW4
  have HG10 := Lib.hid hg10
  clear hD hW4 hg10 D0 hb1 hld HLL
  go_upto_region 3 with (rw [HW4.out, HG10.out]; refine wpList_store_whole rfl 63 (.tmp 10) (.tmp 19) rfl g10 _ rfl rfl _ HBN.out info_hit rfl (by simp [Value.oneCell']) ?_; simp only [Act.put])
  clear HW4 HBN HG10
  generalize World.setRow _ _ _ = w5 at D5 ⊢
  unfold zcells at D5
  have hDd := D5.out.drewN 1
  clear D5
  go_upto_region 5 with fail
  refine wp_region_held_drew (S := fun W => Duo w (p + 1) g10 #[.int .i64 0, .int .i64 0, .string ⟨#[]⟩, .string ⟨#[]⟩, .int .i64 0, .bool false] #[.int .i64 o, .int .i64 t, .string ks, .string bs, .int .i64 q, .bool g, .int .i64 P] W ∨ Duo w (p + 1) g10 #[.int .i64 o, .int .i64 t, .string ks, .string bs, .int .i64 q, .bool g] #[.int .i64 o, .int .i64 t, .string ks, .string bs, .int .i64 q, .bool g, .int .i64 P] W) (by kernel_rfl) (.inl hDd) (fun hS => ?_)
  change Duo w (p + 1) g10 #[.int .i64 0, .int .i64 0, .string ⟨#[]⟩, .string ⟨#[]⟩, .int .i64 0, .bool false] #[.int .i64 o, .int .i64 t, .string ks, .string bs, .int .i64 q, .bool g, .int .i64 P] w5.drew at hDd
  clear hS
  generalize w5.drew = Wd at hDd ⊢
  have hS : Duo w (p + 1) g10 #[.int .i64 0, .int .i64 0, .string ⟨#[]⟩, .string ⟨#[]⟩, .int .i64 0, .bool false] #[.int .i64 o, .int .i64 t, .string ks, .string bs, .int .i64 q, .bool g, .int .i64 P] Wd ∨ Duo w (p + 1) g10 #[.int .i64 o, .int .i64 t, .string ks, .string bs, .int .i64 q, .bool g] #[.int .i64 o, .int .i64 t, .string ks, .string bs, .int .i64 q, .bool g, .int .i64 P] Wd := .inl hDd
  refine take_op 0 26 ?v6_ rfl rfl (by kernel_rfl) (fun _ _ _ h => h) (by rfl) hS (fun w' hS' => ?hv6_) ?hh6_
  case hv6_ => (go_simp; (try with_reducible rfl); (try omega))
  simp only [Act.put, List.setIfInBounds_toArray, List.set_cons_zero, List.set_cons_succ]
  refine take_load 1 27 44 (.tmp 26) g10 0 (.agg #[.int .i64 o, .int .i64 t, .string ks, .string bs, .int .i64 q, .bool g]) rfl rfl (by kernel_rfl) (fun _ _ _ h => h) (by rfl) hS rfl rfl (fun w' hS' => by rcases hS' with h | h <;> exact load_hit h.out.2.1) ?hx0
  simp only [Act.put, List.setIfInBounds_toArray, List.set_cons_zero, List.set_cons_succ]
  refine take_op 2 28 ?v7_ rfl rfl (by kernel_rfl) (fun _ _ _ h => h) (by rfl) hS (fun w' hS' => ?hv7_) ?hh7_
  case hv7_ => (go_simp; (try with_reducible rfl); (try omega))
  simp only [Act.put, List.setIfInBounds_toArray, List.set_cons_zero, List.set_cons_succ]
  refine take_op 3 29 (.int .i64 P) rfl rfl (by kernel_rfl) (fun _ _ _ h => h) (by rfl) hS (fun w' hS' => ?hv8_) ?hh8_
  case hv8_ => (have d6 : w'.cell? ⟨g10, 6, none⟩ = some (.int .i64 P) := (by rcases hS' with h | h <;> exact h.cell2 6); go_simp; (try with_reducible rfl); (try omega))
  simp only [Act.put, List.setIfInBounds_toArray, List.set_cons_zero, List.set_cons_succ]
  obtain ⟨Tz, hz⟩ := hDd.out.1
  have D6 := hDd.row1 #[.int .i64 o, .int .i64 t, .string ks, .string bs, .int .i64 q, .bool g]
  refine only_op 4 rfl (by kernel_rfl) (by rfl) (wp_store_row 44 (.tmp 6) (.tmp 27) rfl (p + 1) #[.int .i64 o, .int .i64 t, .string ks, .string bs, .int .i64 q, .bool g] rfl rfl Tz _ hz info_rec rfl (by simp [Value.oneCell']) ⟨.inr D6, ?_⟩)
  (try simp only [put_none])
  have hS : Duo w (p + 1) g10 #[.int .i64 0, .int .i64 0, .string ⟨#[]⟩, .string ⟨#[]⟩, .int .i64 0, .bool false] #[.int .i64 o, .int .i64 t, .string ks, .string bs, .int .i64 q, .bool g, .int .i64 P] (Wd.setRow (p + 1) #[.int .i64 o, .int .i64 t, .string ks, .string bs, .int .i64 q, .bool g]) ∨ Duo w (p + 1) g10 #[.int .i64 o, .int .i64 t, .string ks, .string bs, .int .i64 q, .bool g] #[.int .i64 o, .int .i64 t, .string ks, .string bs, .int .i64 q, .bool g, .int .i64 P] (Wd.setRow (p + 1) #[.int .i64 o, .int .i64 t, .string ks, .string bs, .int .i64 q, .bool g]) := .inr D6
  refine take_op 5 7 (.int .i64 P) rfl rfl (by kernel_rfl) (fun _ _ _ h => h) (by rfl) hS (fun w' hS' => ?hv9_) ?hh9_
  case hv9_ => (go_simp; (try with_reducible rfl); (try omega))
  simp only [Act.put, List.setIfInBounds_toArray, List.set_cons_zero, List.set_cons_succ]
  refine take_op 6 8 (.int .i64 0) rfl rfl (by kernel_rfl) (fun _ _ _ h => h) (by rfl) hS (fun w' hS' => ?hv10_) ?hh10_
  case hv10_ => (go_simp; (try with_reducible rfl); (try omega))
  simp only [Act.put, List.setIfInBounds_toArray, List.set_cons_zero, List.set_cons_succ]
  refine wpAnyH_done (by kernel_rfl) ?_ _
  go_wp2_with fail
  refine bodyPost_ret (results_cell3 Try.results18 rfl (load_blk D6.out.1 rfl) rfl rfl) rfl ⟨rfl, D6.bel⟩
end Go.Proofs.Ytijpieaanlnibaa.Mkd
/- The twelfth layer's num. -/
namespace Go.Proofs.Ytijpieaanlnibaa
open Go.RowKit Go.Lib

set_option maxHeartbeats 1000000 in
theorem num_is (n : Int) (w : World) : Calls Try.prog 10 #[.int .i64 n] w fun e w' => e = .returned (.int .i64 n) ∧ w = w' := by
  go_enter Try.func10, Try.ntmps10
  go_wp2
  go_ret
  exact ⟨rfl, rfl⟩
end Go.Proofs.Ytijpieaanlnibaa
/- A segment's block and rows of records of the call's own: each stays while the other is written or grows. -/
namespace Go.Proofs.Ytijpieaanlnibaa
open Go.RowKit Go.Lib Rcd

/-- Block q is a segment's, and holds just these cells. -/
def SBlk (W : World) (q : Nat) (cs : Array Value) : Prop := W.heap[q]? = some (.cells cs 24 (0, 0))
theorem seg_not_rec : 44 ≠ 24 := by decide
section
variable {W W' : World} {q : Nat} {cs : Array Value}
theorem SBlk.blk (h : SBlk W q cs) : Blk W q cs := ⟨_, h⟩
theorem SBlk.lt (h : SBlk W q cs) : q < W.heap.size := h.blk.lt
theorem SBlk.new (W : World) (cs : Array Value) : SBlk (W.alloc (.cells cs 24)) W.heap.size cs := heap_alloc_new W _
theorem SBlk.below (h : SBlk W q cs) (hb : Below W.heap.size W W') : SBlk W' q cs := (hb.block q h.lt).trans h
theorem SBlk.row (h : SBlk W q cs) (ds : Array Value) : SBlk (W.setRow q ds) q ds := setRow_heap W q cs ds _ _ h
theorem SBlk.put (h : SBlk W q cs) (i : Nat) (v : Value) : SBlk (W.setCell ⟨q, i, none⟩ v) q (cs.setIfInBounds i v) := by
  unfold SBlk at h ⊢
  simp [World.setCell, Array.getElem?_modify, h]
theorem SBlk.off {B n c : Nat} {A : Option Addr} {xs : List Value} (h : SBlk W q cs) (hown : W.ownsRow B 44 6 (.slice A n c) n xs) : ∀ g, (Value.slice A n c).ownBlock = some g → g ≠ q := by
  intro g hg e
  subst e
  rcases hown.2 with ⟨hv, _⟩ | ⟨g', cap, cur, hv, _, hgg, _⟩
  · rw [hv] at hg; simp [Value.ownBlock] at hg
  · rw [hv] at hg
    simp [Value.ownBlock] at hg
    subst hg
    unfold SBlk at h
    rw [h] at hgg
    injection hgg with e3
    injection e3 with _ e4
    exact seg_not_rec e4.symm
theorem SBlk.grown {B n c : Nat} {A : Option Addr} {xs : List Value} (h : SBlk W q cs) (hown : W.ownsRow B 44 6 (.slice A n c) n xs) (hgrow : W.grownBy W' (Value.slice A n c).ownBlock) : SBlk W' q cs :=
  (hgrow.block q h.lt (fun e => h.off hown q e.symm rfl)).trans h
theorem own_seg_put {B n c : Nat} {A : Option Addr} {xs : List Value} (h : SBlk W q cs) (hown : W.ownsRow B 44 6 (.slice A n c) n xs) (i : Nat) (u : Value) : (W.setCell ⟨q, i, none⟩ u).ownsRow B 44 6 (.slice A n c) n xs := by
  have hoff := h.off hown
  refine ⟨hown.1, hown.2.elim .inl (fun ⟨g, cap, cur, hv, hbg, hg, rest⟩ => .inr ⟨g, cap, cur, hv, hbg, (Below.heap_setCell W ⟨q, i, none⟩ u g ?_).trans hg, rest⟩)⟩
  exact hoff g (by rw [hv]; rfl)
theorem own_seg_row {B n c : Nat} {A : Option Addr} {xs : List Value} (h : SBlk W q cs) (hown : W.ownsRow B 44 6 (.slice A n c) n xs) (us : Array Value) : (W.setRow q us).ownsRow B 44 6 (.slice A n c) n xs := by
  have hoff := h.off hown
  refine ⟨hown.1, hown.2.elim .inl (fun ⟨g, cap, cur, hv, hbg, hg, rest⟩ => .inr ⟨g, cap, cur, hv, hbg, (setRow_other W q g us ?_).trans hg, rest⟩)⟩
  exact hoff g (by rw [hv]; rfl)
end
theorem own_len {w : World} {B c : Nat} {A : Option Addr} {l : List Rc} (h : w.ownsRow B 44 6 (.slice A l.length c) l.length (flat l)) : l.length ≤ 9223372036854775807 := by
  rcases h.2 with ⟨_, hn⟩ | ⟨g, cap, cur, hv, _, _, hle, hmx, _⟩
  · omega
  · unfold maxLen at *
    omega
/-- A segment whose records stand in memory, with room enough. -/
def GivesAt (b : Int) (L : List Rc) (w : World) (e : Ending) (w' : World) : Prop :=
  ∃ A c, e = .returned (.agg #[.int .i64 b, .slice A L.length c]) ∧ w'.ownsRow w.heap.size 44 6 (.slice A L.length c) L.length (flat L) ∧ Below w.heap.size w w'
end Go.Proofs.Ytijpieaanlnibaa
/- A new box, and a segment put into it. -/
namespace Go.Proofs.Ytijpieaanlnibaa
open Go.RowKit Go.Lib Rcd

theorem seg_box {w w1 : World} (hb : Below w.heap.size w w1) (cs : Array Value) : ∃ g W4, w1.heap.size = g ∧ w1.alloc (.cells szero 24) = W4 ∧ Blk W4 g szero ∧ SBlk (W4.setRow g cs) g cs ∧ RBox w g cs (W4.setRow g cs) ∧ Below w1.heap.size w1 (W4.setRow g cs) := by
  have hbn := SBlk.new w1 szero
  have hbl : Below w.heap.size w (w1.alloc (.cells szero 24)) := hb.alloc hb.size _
  exact ⟨_, _, rfl, rfl, hbn.blk, hbn.row cs, .mk (hbn.blk.row cs) (below_row hbl hb.size cs), below_row ((Below.refl _ _).alloc (Nat.le_refl _) _) (Nat.le_refl _) cs⟩
end Go.Proofs.Ytijpieaanlnibaa
/- The document's own answer: whether a record may be. A plain record. -/
namespace Go.Proofs.Ytijpieaanlnibaa
open Go.RowKit Go.Lib Rcd

set_option maxRecDepth 100000 in
set_option maxHeartbeats 1000000 in
theorem RNum_is (n b : Int) (X : Bool) (w : World) (h : decide (0 ≤ n ∧ n ≤ b) = X) :
    Calls Try.prog 25 #[.int .i64 n, .int .i64 b] w fun e w' => e = .returned (.bool X) ∧ w = w' := by
  have HX := Lib.hid h
  clear h
  by_cases h1 : 0 ≤ n
  · by_cases h2 : n ≤ b
    · go_enter Try.func25, Try.ntmps25
      go_wp2
      go_ret
      exact ⟨ret_bool (by rw [← HX.out]; exact (decide_eq_true (by omega)).symm), rfl⟩
    · go_enter Try.func25, Try.ntmps25
      go_wp2
      go_ret
      exact ⟨ret_bool (by rw [← HX.out]; exact (decide_eq_false (by omega)).symm), rfl⟩
  · go_enter Try.func25, Try.ntmps25
    go_wp2
    go_ret
    exact ⟨ret_bool (by rw [← HX.out]; exact (decide_eq_false (by omega)).symm), rfl⟩

theorem may_of_e {r : Rc} {E : Int} (h : mayE r = E) : mayB r = decide (E = 0) := by
  unfold mayE at h
  cases hm : mayB r with
  | true => rw [hm] at h; exact (decide_eq_true h.symm).symm
  | false => rw [hm] at h; exact (decide_eq_false (by rw [← h]; decide)).symm
set_option maxRecDepth 100000 in
set_option maxHeartbeats 4000000 in
theorem RRec_parts (o t : Int) (k b : ByteArray) (q : Int) (g : Bool) (X : Bool) (w : World) (hX : mayB ⟨o, t, k.data.toList, b.data.toList, q, g⟩ = X) :
    Calls Try.prog 24 #[.agg (rarr o t k b q g)] w fun e w' => e = .returned (.bool X) ∧ Below w.heap.size w w' := by
  unfold rarr
  rcases may_ways o t k b q g with ⟨h1, h⟩ | ⟨h1, h2, h⟩ | ⟨h1, h2, h3, h⟩ | ⟨h1, h2, h3, h4, h⟩ | ⟨h1, h2, h3, h4, h5, h⟩ | ⟨h1, h2, h3, h4, h5, h6, h⟩ | ⟨h1, h2, h3, h4, h5, h6, h7, h⟩ | ⟨h1, h2, h3, h4, h5, h6, h7, h⟩
  · obtain rfl : X = false := by rw [← hX, may_of_e h]; rfl
    have Ho := Lib.hid h1
    clear h hX h1
    go_enter Try.func24, Try.ntmps24
    go_wp2_with (go_at_call 25; refine (RNum_is _ _ _ _ (by first | with_reducible exact Ho.out)).mono ?_; rintro e w' ⟨rfl, rfl⟩)
    go_ret
    exact ⟨rfl, (Below.refl _ _).alloc (Nat.le_refl _) _⟩
  · obtain rfl : X = false := by rw [← hX, may_of_e h]; rfl
    have Ho := Lib.hid h1
    have Ht := Lib.hid h2
    clear h hX h1 h2
    go_enter Try.func24, Try.ntmps24
    go_wp2_with (go_at_call 25; refine (RNum_is _ _ _ _ (by first | with_reducible exact Ho.out | with_reducible exact Ht.out)).mono ?_; rintro e w' ⟨rfl, rfl⟩)
    go_ret
    exact ⟨rfl, (Below.refl _ _).alloc (Nat.le_refl _) _⟩
  · obtain rfl : X = false := by rw [← hX, may_of_e h]; rfl
    have Ho := Lib.hid h1
    have Ht := Lib.hid h2
    clear h hX h1 h2
    go_enter Try.func24, Try.ntmps24
    go_wp2_with (go_at_call 25; refine (RNum_is _ _ _ _ (by first | with_reducible exact Ho.out | with_reducible exact Ht.out)).mono ?_; rintro e w' ⟨rfl, rfl⟩)
    go_ret
    exact ⟨rfl, (Below.refl _ _).alloc (Nat.le_refl _) _⟩
  · obtain rfl : X = false := by rw [← hX, may_of_e h]; rfl
    have Ho := Lib.hid h1
    have Ht := Lib.hid h2
    clear h hX h1 h2
    go_enter Try.func24, Try.ntmps24
    go_wp2_with (go_at_call 25; refine (RNum_is _ _ _ _ (by first | with_reducible exact Ho.out | with_reducible exact Ht.out)).mono ?_; rintro e w' ⟨rfl, rfl⟩)
    go_ret
    exact ⟨rfl, (Below.refl _ _).alloc (Nat.le_refl _) _⟩
  · obtain rfl : X = false := by rw [← hX, may_of_e h]; rfl
    have Ho := Lib.hid h1
    have Ht := Lib.hid h2
    have Hq := Lib.hid h5
    clear h hX h1 h2 h5
    go_enter Try.func24, Try.ntmps24
    go_wp2_with (go_at_call 25; refine (RNum_is _ _ _ _ (by first | with_reducible exact Ho.out | with_reducible exact Ht.out | with_reducible exact Hq.out)).mono ?_; rintro e w' ⟨rfl, rfl⟩)
    go_ret
    exact ⟨rfl, (Below.refl _ _).alloc (Nat.le_refl _) _⟩
  · obtain rfl : X = true := by rw [← hX, may_of_e h]; rfl
    have Ho := Lib.hid h1
    have Ht := Lib.hid h2
    have Hq := Lib.hid h5
    clear h hX h1 h2 h5
    subst h6
    cases g with
    | true =>
      go_enter Try.func24, Try.ntmps24
      go_wp2_with (go_at_call 25; refine (RNum_is _ _ _ _ (by first | with_reducible exact Ho.out | with_reducible exact Ht.out | with_reducible exact Hq.out)).mono ?_; rintro e w' ⟨rfl, rfl⟩)
      go_ret
      exact ⟨rfl, (Below.refl _ _).alloc (Nat.le_refl _) _⟩
    | false =>
      go_enter Try.func24, Try.ntmps24
      go_wp2_with (go_at_call 25; refine (RNum_is _ _ _ _ (by first | with_reducible exact Ho.out | with_reducible exact Ht.out | with_reducible exact Hq.out)).mono ?_; rintro e w' ⟨rfl, rfl⟩)
      go_ret
      exact ⟨rfl, (Below.refl _ _).alloc (Nat.le_refl _) _⟩
  · obtain rfl : X = true := by rw [← hX, may_of_e h]; rfl
    have Ho := Lib.hid h1
    have Ht := Lib.hid h2
    have Hq := Lib.hid h5
    clear h hX h1 h2 h5
    obtain ⟨hi1, hi2⟩ := ne_empty h6
    clear h6
    subst h7
    go_enter Try.func24, Try.ntmps24
    go_wp2_with (go_at_call 25; refine (RNum_is _ _ _ _ (by first | with_reducible exact Ho.out | with_reducible exact Ht.out | with_reducible exact Hq.out)).mono ?_; rintro e w' ⟨rfl, rfl⟩)
    go_ret
    exact ⟨rfl, (Below.refl _ _).alloc (Nat.le_refl _) _⟩
  · obtain rfl : X = false := by rw [← hX, may_of_e h]; rfl
    have Ho := Lib.hid h1
    have Ht := Lib.hid h2
    have Hq := Lib.hid h5
    clear h hX h1 h2 h5
    obtain ⟨hi1, hi2⟩ := ne_empty h6
    clear h6
    subst h7
    go_enter Try.func24, Try.ntmps24
    go_wp2_with (go_at_call 25; refine (RNum_is _ _ _ _ (by first | with_reducible exact Ho.out | with_reducible exact Ht.out | with_reducible exact Hq.out)).mono ?_; rintro e w' ⟨rfl, rfl⟩)
    go_ret
    exact ⟨rfl, (Below.refl _ _).alloc (Nat.le_refl _) _⟩
/-- fairwayref10.Rec. -/
theorem RRec_is (r : Rc) (X : Bool) (w : World) (hX : mayB r = X) :
    Calls Try.prog 24 #[ragg r] w fun e w' => e = .returned (.bool X) ∧ Below w.heap.size w w' :=
  RRec_parts r.o r.t (str r.k) (str r.b) r.q r.g X w (by rw [str_data, str_data]; exact hX)

set_option maxRecDepth 100000 in
set_option maxHeartbeats 1000000 in
theorem R_is (o t : Int) (k b : ByteArray) (w : World) : Calls Try.prog 27 #[.int .i64 o, .int .i64 t, .string k, .string b] w fun e w' => e = .returned (.agg (rarr o t k b 1 false)) ∧ Below w.heap.size w w' := by
  have hbn := Blk.new w 44 zcells
  have hbl : Below w.heap.size w (w.alloc (.cells zcells 44)) := (Below.refl _ _).alloc (Nat.le_refl _) _
  obtain ⟨W0, hW⟩ : ∃ W0, w.alloc (.cells zcells 44) = W0 := ⟨_, rfl⟩
  obtain ⟨p, hp⟩ : ∃ p, w.heap.size = p := ⟨_, rfl⟩
  rw [hW] at hbn hbl
  have HR := Lib.hid (show Blk (W0.setRow p (rarr o t k b 1 false)) p (rarr o t k b 1 false) ∧ Below w.heap.size w (W0.setRow p (rarr o t k b 1 false)) by rw [← hp]; exact ⟨hbn.row _, below_row hbl (Nat.le_refl _) _⟩)
  rw [hp] at hbn
  have HBN := Lib.hid hbn
  unfold zcells at hW
  have HW := Lib.hid hW
  clear hW hbn hbl
  unfold rarr at HR ⊢
  go_enter Try.func27, Try.ntmps27
  go_upto_region 1 with fail
  rw [HW.out]
  clear HW
  clear hp
  go_wp2_with (refine wpList_store_whole rfl 44 (.tmp 8) (.tmp 13) rfl p _ rfl rfl _ HBN.out info_rec rfl (by simp [Value.oneCell']) ?_; simp only [Act.put])
  refine bodyPost_ret (results_rec Try.results27 rfl HR.out.1 rfl) rfl ⟨rfl, HR.out.2⟩
end Go.Proofs.Ytijpieaanlnibaa
/- What each statement of the twelfth layer asks last: nine records have three marks. -/
namespace Go.Proofs.Ytijpieaanlnibaa.Mkd
open Go.RowKit Go.Lib Rcd

/-- The records that are asked for. -/
def nineth (k : Nat) : Rc := ⟨(k : Int), 0, [], [120], 1, false⟩
def nine (k : Nat) : List Rc := (List.range k).map nineth
theorem nine_next (k : Nat) : nine (k + 1) = nine k ++ [nineth k] := by unfold nine; rw [List.range_succ, List.map_append]; rfl
theorem nine_len (k : Nat) : (nine k).length = k := by unfold nine; simp
theorem nine_seg : segB 0 (nine 9) = true := by decide
theorem nine_marks : (marks (nine 9)).length = 3 := by rw [marks_len, nine_len]
theorem nine_mark : ∀ h : 2 < (marks (nine 9)).length, ((marks (nine 9))[2]'h).o = 8 := fun h => by rw [marks_at]; rfl
theorem flat_nine (k : Nat) : flat (nine (k + 1)) = flat (nine k) ++ [.int .i64 (k : Int), .int .i64 0, .string ⟨#[]⟩, .string ⟨#[120]⟩, .int .i64 1, .bool false] := by rw [nine_next, flat_snoc]; rfl
theorem blk_grown0 {W W' : World} {B e size n g : Nat} {v : Value} {xs : List Value} {cs : Array Value} (k : Blk W g cs) (hown : W.ownsRow B e size v n xs) (hg : g < B) (hgrow : W.grownBy W' v.ownBlock) : Blk W' g cs := by
  have hl := k.lt
  obtain ⟨T, k⟩ := k
  refine ⟨T, (hgrow.block g hl (fun e => ?_)).trans k⟩
  have := (hown.lt g e.symm).1
  omega
theorem own_one {w : World} {B e size n : Nat} {v : Value} {xs : List Value} (h : w.ownsRow B e size v n xs) : v.oneCell' = true := by
  obtain ⟨A, c, rfl⟩ := row_slice h
  rfl

set_option maxRecDepth 100000 in
set_option maxHeartbeats 16000000 in
/-- wakes: yes. -/
theorem wakes_any (w : World) : Calls Try.prog 11 #[] w fun e w' => e = .returned (.bool true) ∧ Below w.heap.size w w' := by
  obtain ⟨i0, hi, hz0, hz1, hz2⟩ := info_parts info_more
  have HR := Lib.hid (fun k W => R_is k 0 ⟨#[]⟩ ⟨#[120]⟩ W)
  have HFL := Lib.hid flat_nine
  have HON := Lib.hid (show ∀ k : Nat, ∀ u ∈ ([.int .i64 (k : Int), .int .i64 0, .string ⟨#[]⟩, .string ⟨#[120]⟩, .int .i64 1, .bool false] : List Value), u.oneCell' = true from fun k => one_cells (nineth k))
  have HMK := Lib.hid (fun A c W (hcap : 9 ≤ c) (h : RecsAt W W.heap.size A (nine 9)) => Marks_yes 0 (nine 9) 9 A c W.heap.size _ 3 W (nine_len 9) (by omega) hcap (Nat.le_refl _) h nine_seg rfl nine_marks)
  unfold rarr at HR
  obtain ⟨g, hg⟩ : ∃ g, w.heap.size = g := ⟨_, rfl⟩
  have R0 := Lib.hid (RBox.new w 24 szero)
  obtain ⟨W0, hW⟩ : ∃ W0, w.alloc (.cells szero 24) = W0 := ⟨_, rfl⟩
  rw [hW, hg] at R0
  have HG : Hid (w.heap.size ≤ g) := Nat.le_of_eq hg
  have hpw : w.heap.size ≤ g + 1 := by omega
  unfold szero at hW R0
  have HW := Lib.hid hW
  have HGG := Lib.hid hg
  clear hW hg
  go_enter Try.func11, Try.ntmps11
  go_upto_region 2 with fail
  rw [HW.out, HGG.out]
  clear HW HGG
  go_wp2_with fail
  go_loopw [2] (fun i wr => ∃ (k : Nat) (m : Value), k ≤ 9 ∧ i = .int .i64 (k : Int) ∧ RBox w g #[.int .i64 0, m] wr ∧ wr.ownsRow (g + 1) 44 6 m k (flat (nine k))) (fun i _ => 9 - (RowKit.intOf i).toNat)
  case atStart => exact ⟨0, _, Nat.zero_le _, rfl, R0.out, World.ownsRow_nil _ _ _ _⟩
  case round =>
    obtain ⟨k, m, hk, rfl, hbx, hown⟩ := hrel
    have R := Lib.hid hbx
    have HO := Lib.hid hown
    clear hbx hown R0
    by_cases hlt : k < 9
    · have e1 : (k : Int) < 9 := by omega
      go_upto_region 5 with fail
      have hB0 := below_drewN (Below.refl wr.heap.size wr) 1
      refine wp_region_held_drew (S := fun _ => True) (by kernel_rfl) trivial (fun _ => ?_)
      have RW := R.out.below hB0
      have OW := own_below HO.out hB0
      change RBox w g #[.int .i64 0, m] wr.drew at RW
      change wr.drew.ownsRow (g + 1) 44 6 m k (flat (nine k)) at OW
      clear hB0 R HO
      generalize wr.drew = Wd at RW OW ⊢
      refine take_op 0 9 ?v1 rfl rfl (by kernel_rfl) (fun _ _ _ h => h) (by rfl) trivial (fun w' hS' => ?hv2) ?hh3
      case hv2 => (go_simp; (try with_reducible rfl); (try omega))
      simp only [Act.put, List.setIfInBounds_toArray, List.set_cons_zero, List.set_cons_succ]
      refine take_op 2 11 ?v4 rfl rfl (by kernel_rfl) (fun _ _ _ h => h) (by rfl) trivial (fun w' hS' => ?hv5) ?hh6
      case hv5 => (go_simp; (try with_reducible rfl); (try omega))
      simp only [Act.put, List.setIfInBounds_toArray, List.set_cons_zero, List.set_cons_succ]
      have dd : Wd.cell? ⟨g, 1, none⟩ = some m := RW.cell 1
      have hon := own_one OW
      refine two_ops 1 3 rfl rfl (by kernel_rfl) (by rfl) (by rfl) (wp_made 10 m rfl (w' := Wd) (by go_simp; try rfl) ⟨trivial, ?_⟩) (wp_call 12 27 #[.int .i64 (k : Int), .int .i64 0, .string ⟨#[]⟩, .string ⟨#[120]⟩] (.agg #[.int .i64 (k : Int), .int .i64 0, .string ⟨#[]⟩, .string ⟨#[120]⟩, .int .i64 1, .bool false]) (fun W => Below Wd.heap.size Wd W) rfl (by go_simp) (HR.out (k : Int) Wd) (fun Wa hb => ⟨trivial, ?_⟩))
      · simp only [Act.put, List.setIfInBounds_toArray, List.set_cons_zero, List.set_cons_succ]
        refine only_op 3 rfl (by kernel_rfl) (by rfl) (wp_call 12 27 #[.int .i64 (k : Int), .int .i64 0, .string ⟨#[]⟩, .string ⟨#[120]⟩] (.agg #[.int .i64 (k : Int), .int .i64 0, .string ⟨#[]⟩, .string ⟨#[120]⟩, .int .i64 1, .bool false]) (fun W => Below Wd.heap.size Wd W) rfl (by go_simp) (HR.out (k : Int) Wd) (fun Wa hb => ⟨trivial, ?_⟩))
        simp only [Act.put, List.setIfInBounds_toArray, List.set_cons_zero, List.set_cons_succ]
        have RW := RW.below hb
        have OW := own_below OW hb
        have dd : Wa.cell? ⟨g, 1, none⟩ = some m := RW.cell 1
        clear hb
        refine only_op 4 rfl (by kernel_rfl) (by rfl) (wp_made 13 (.slice (some ⟨Wa.heap.size, 0, none⟩) 1 1) rfl (w' := Wa.alloc (.cells #[.int .i64 (k : Int), .int .i64 0, .string ⟨#[]⟩, .string ⟨#[120]⟩, .int .i64 1, .bool false] 44)) (by go_simp; try rfl) ⟨trivial, ?_⟩)
        simp only [Act.put, List.setIfInBounds_toArray, List.set_cons_zero, List.set_cons_succ]
        have GW := Blk.new Wa 44 #[.int .i64 (k : Int), .int .i64 0, .string ⟨#[]⟩, .string ⟨#[120]⟩, .int .i64 1, .bool false]
        have hbl := (Below.refl Wa.heap.size Wa).alloc (Nat.le_refl _) (.cells #[.int .i64 (k : Int), .int .i64 0, .string ⟨#[]⟩, .string ⟨#[120]⟩, .int .i64 1, .bool false] 44)
        have OW := own_below OW hbl
        have RW := RW.below hbl
        generalize Wa.alloc _ = Wz at GW RW OW ⊢
        generalize Wa.heap.size = g9 at GW ⊢
        clear hbl
        have dd : Wz.cell? ⟨g, 1, none⟩ = some m := RW.cell 1
        have hp5 := RW.out.1.lt
        refine only_op 5 rfl (by kernel_rfl) (by rfl) (wp_append_own Wz (.tmp 10) (.tmp 13) 22 rfl (g + 1) 44 i0 (.agg zcells) 6 64 Try.underlying22 hi hz0 hz1 hz2 rfl (by decide) _ _ _ rfl OW ⟨g9, 0, none⟩ 1 1 [.int .i64 (k : Int), .int .i64 0, .string ⟨#[]⟩, .string ⟨#[120]⟩, .int .i64 1, .bool false] rfl rfl ?n1_1 ?n1_2 ?n1_3 ?n1_4 ?n1_5 (fun v' Wy hown' hgrow _ => ⟨trivial, ?_⟩))
        case n1_1 => exact fun j u hu => by rw [add_new, GW.cell]; simpa using hu
        case n1_2 => exact HON.out k
        case n1_3 => unfold maxLen; omega
        case n1_4 => omega
        case n1_5 => omega
        simp only [Act.put, List.setIfInBounds_toArray, List.set_cons_zero, List.set_cons_succ]
        have RY := RBox.mk (blk_grown0 RW.out.1 OW (Nat.lt_succ_self _) hgrow) (RW.out.2.trans (below_grown RW.out.2.size (own_mono OW hpw) hgrow))
        have OY : Wy.ownsRow (g + 1) 44 6 v' (k + 1) (flat (nine (k + 1))) := by rw [HFL.out k]; exact hown'
        clear hown' hgrow OW RW GW hp5
        obtain ⟨A2, c2, rfl⟩ := row_slice OY
        refine take_op 6 15 (.pointer (some ⟨g, 1, none⟩)) rfl rfl (by kernel_rfl) (fun _ _ _ h => h) (by rfl) trivial (fun w' hS' => ?hv1_) ?hh1_
        case hv1_ => (go_simp; (try with_reducible rfl); (try omega))
        simp only [Act.put, List.setIfInBounds_toArray, List.set_cons_zero, List.set_cons_succ]
        refine only_op 7 rfl (by kernel_rfl) (by rfl) (wp_store_none (w' := Wy.setCell ⟨g, 1, none⟩ (.slice A2 (k + 1) c2)) 22 (.tmp 15) (.tmp 14) rfl rfl _ _ rfl rfl (by have hfz := RY.out.1.frozen 1; have hce := RY.cell 1; go_simp; try rfl) ⟨trivial, ?_⟩)
        have RX := Lib.hid (RBox.mk (RY.out.1.put 1 (.slice A2 (k + 1) c2)) (RY.out.2.setCell (p := ⟨g, 1, none⟩) HG.out (.slice A2 (k + 1) c2)))
        have OX := Lib.hid (own_far OY ⟨g, 1, none⟩ (Nat.lt_succ_self _) (.slice A2 (k + 1) c2))
        clear RY OY
        refine wpAnyH_done (by kernel_rfl) ?_ _
        go_wp2_with fail
        go_roundw
        case rel => exact ⟨k + 1, _, hlt, by go_num, RX.out, OX.out⟩
        case measure => simp [RowKit.intOf]; omega
      · simp only [Act.put, List.setIfInBounds_toArray, List.set_cons_zero, List.set_cons_succ]
        have RW := RW.below hb
        have OW := own_below OW hb
        have dd : Wa.cell? ⟨g, 1, none⟩ = some m := RW.cell 1
        clear hb
        refine two_ops 1 4 rfl rfl (by kernel_rfl) (by rfl) (by rfl) (wp_made 10 m rfl (w' := Wa) (by go_simp; try rfl) ⟨trivial, ?_⟩) (wp_made 13 (.slice (some ⟨Wa.heap.size, 0, none⟩) 1 1) rfl (w' := Wa.alloc (.cells #[.int .i64 (k : Int), .int .i64 0, .string ⟨#[]⟩, .string ⟨#[120]⟩, .int .i64 1, .bool false] 44)) (by go_simp; try rfl) ⟨trivial, ?_⟩)
        · simp only [Act.put, List.setIfInBounds_toArray, List.set_cons_zero, List.set_cons_succ]
          refine only_op 4 rfl (by kernel_rfl) (by rfl) (wp_made 13 (.slice (some ⟨Wa.heap.size, 0, none⟩) 1 1) rfl (w' := Wa.alloc (.cells #[.int .i64 (k : Int), .int .i64 0, .string ⟨#[]⟩, .string ⟨#[120]⟩, .int .i64 1, .bool false] 44)) (by go_simp; try rfl) ⟨trivial, ?_⟩)
          simp only [Act.put, List.setIfInBounds_toArray, List.set_cons_zero, List.set_cons_succ]
          have GW := Blk.new Wa 44 #[.int .i64 (k : Int), .int .i64 0, .string ⟨#[]⟩, .string ⟨#[120]⟩, .int .i64 1, .bool false]
          have hbl := (Below.refl Wa.heap.size Wa).alloc (Nat.le_refl _) (.cells #[.int .i64 (k : Int), .int .i64 0, .string ⟨#[]⟩, .string ⟨#[120]⟩, .int .i64 1, .bool false] 44)
          have OW := own_below OW hbl
          have RW := RW.below hbl
          generalize Wa.alloc _ = Wz at GW RW OW ⊢
          generalize Wa.heap.size = g9 at GW ⊢
          clear hbl
          have dd : Wz.cell? ⟨g, 1, none⟩ = some m := RW.cell 1
          have hp5 := RW.out.1.lt
          refine only_op 5 rfl (by kernel_rfl) (by rfl) (wp_append_own Wz (.tmp 10) (.tmp 13) 22 rfl (g + 1) 44 i0 (.agg zcells) 6 64 Try.underlying22 hi hz0 hz1 hz2 rfl (by decide) _ _ _ rfl OW ⟨g9, 0, none⟩ 1 1 [.int .i64 (k : Int), .int .i64 0, .string ⟨#[]⟩, .string ⟨#[120]⟩, .int .i64 1, .bool false] rfl rfl ?n2_1 ?n2_2 ?n2_3 ?n2_4 ?n2_5 (fun v' Wy hown' hgrow _ => ⟨trivial, ?_⟩))
          case n2_1 => exact fun j u hu => by rw [add_new, GW.cell]; simpa using hu
          case n2_2 => exact HON.out k
          case n2_3 => unfold maxLen; omega
          case n2_4 => omega
          case n2_5 => omega
          simp only [Act.put, List.setIfInBounds_toArray, List.set_cons_zero, List.set_cons_succ]
          have RY := RBox.mk (blk_grown0 RW.out.1 OW (Nat.lt_succ_self _) hgrow) (RW.out.2.trans (below_grown RW.out.2.size (own_mono OW hpw) hgrow))
          have OY : Wy.ownsRow (g + 1) 44 6 v' (k + 1) (flat (nine (k + 1))) := by rw [HFL.out k]; exact hown'
          clear hown' hgrow OW RW GW hp5
          obtain ⟨A2, c2, rfl⟩ := row_slice OY
          refine take_op 6 15 (.pointer (some ⟨g, 1, none⟩)) rfl rfl (by kernel_rfl) (fun _ _ _ h => h) (by rfl) trivial (fun w' hS' => ?hv2_) ?hh2_
          case hv2_ => (go_simp; (try with_reducible rfl); (try omega))
          simp only [Act.put, List.setIfInBounds_toArray, List.set_cons_zero, List.set_cons_succ]
          refine only_op 7 rfl (by kernel_rfl) (by rfl) (wp_store_none (w' := Wy.setCell ⟨g, 1, none⟩ (.slice A2 (k + 1) c2)) 22 (.tmp 15) (.tmp 14) rfl rfl _ _ rfl rfl (by have hfz := RY.out.1.frozen 1; have hce := RY.cell 1; go_simp; try rfl) ⟨trivial, ?_⟩)
          have RX := Lib.hid (RBox.mk (RY.out.1.put 1 (.slice A2 (k + 1) c2)) (RY.out.2.setCell (p := ⟨g, 1, none⟩) HG.out (.slice A2 (k + 1) c2)))
          have OX := Lib.hid (own_far OY ⟨g, 1, none⟩ (Nat.lt_succ_self _) (.slice A2 (k + 1) c2))
          clear RY OY
          refine wpAnyH_done (by kernel_rfl) ?_ _
          go_wp2_with fail
          go_roundw
          case rel => exact ⟨k + 1, _, hlt, by go_num, RX.out, OX.out⟩
          case measure => simp [RowKit.intOf]; omega
        · simp only [Act.put, List.setIfInBounds_toArray, List.set_cons_zero, List.set_cons_succ]
          have GW := Blk.new Wa 44 #[.int .i64 (k : Int), .int .i64 0, .string ⟨#[]⟩, .string ⟨#[120]⟩, .int .i64 1, .bool false]
          have hbl := (Below.refl Wa.heap.size Wa).alloc (Nat.le_refl _) (.cells #[.int .i64 (k : Int), .int .i64 0, .string ⟨#[]⟩, .string ⟨#[120]⟩, .int .i64 1, .bool false] 44)
          have OW := own_below OW hbl
          have RW := RW.below hbl
          generalize Wa.alloc _ = Wz at GW RW OW ⊢
          generalize Wa.heap.size = g9 at GW ⊢
          clear hbl
          have dd : Wz.cell? ⟨g, 1, none⟩ = some m := RW.cell 1
          refine only_op 1 rfl (by kernel_rfl) (by rfl) (wp_made 10 m rfl (w' := Wz) (by go_simp; try rfl) ⟨trivial, ?_⟩)
          simp only [Act.put, List.setIfInBounds_toArray, List.set_cons_zero, List.set_cons_succ]
          have hp5 := RW.out.1.lt
          refine only_op 5 rfl (by kernel_rfl) (by rfl) (wp_append_own Wz (.tmp 10) (.tmp 13) 22 rfl (g + 1) 44 i0 (.agg zcells) 6 64 Try.underlying22 hi hz0 hz1 hz2 rfl (by decide) _ _ _ rfl OW ⟨g9, 0, none⟩ 1 1 [.int .i64 (k : Int), .int .i64 0, .string ⟨#[]⟩, .string ⟨#[120]⟩, .int .i64 1, .bool false] rfl rfl ?n3_1 ?n3_2 ?n3_3 ?n3_4 ?n3_5 (fun v' Wy hown' hgrow _ => ⟨trivial, ?_⟩))
          case n3_1 => exact fun j u hu => by rw [add_new, GW.cell]; simpa using hu
          case n3_2 => exact HON.out k
          case n3_3 => unfold maxLen; omega
          case n3_4 => omega
          case n3_5 => omega
          simp only [Act.put, List.setIfInBounds_toArray, List.set_cons_zero, List.set_cons_succ]
          have RY := RBox.mk (blk_grown0 RW.out.1 OW (Nat.lt_succ_self _) hgrow) (RW.out.2.trans (below_grown RW.out.2.size (own_mono OW hpw) hgrow))
          have OY : Wy.ownsRow (g + 1) 44 6 v' (k + 1) (flat (nine (k + 1))) := by rw [HFL.out k]; exact hown'
          clear hown' hgrow OW RW GW hp5
          obtain ⟨A2, c2, rfl⟩ := row_slice OY
          refine take_op 6 15 (.pointer (some ⟨g, 1, none⟩)) rfl rfl (by kernel_rfl) (fun _ _ _ h => h) (by rfl) trivial (fun w' hS' => ?hv3_) ?hh3_
          case hv3_ => (go_simp; (try with_reducible rfl); (try omega))
          simp only [Act.put, List.setIfInBounds_toArray, List.set_cons_zero, List.set_cons_succ]
          refine only_op 7 rfl (by kernel_rfl) (by rfl) (wp_store_none (w' := Wy.setCell ⟨g, 1, none⟩ (.slice A2 (k + 1) c2)) 22 (.tmp 15) (.tmp 14) rfl rfl _ _ rfl rfl (by have hfz := RY.out.1.frozen 1; have hce := RY.cell 1; go_simp; try rfl) ⟨trivial, ?_⟩)
          have RX := Lib.hid (RBox.mk (RY.out.1.put 1 (.slice A2 (k + 1) c2)) (RY.out.2.setCell (p := ⟨g, 1, none⟩) HG.out (.slice A2 (k + 1) c2)))
          have OX := Lib.hid (own_far OY ⟨g, 1, none⟩ (Nat.lt_succ_self _) (.slice A2 (k + 1) c2))
          clear RY OY
          refine wpAnyH_done (by kernel_rfl) ?_ _
          go_wp2_with fail
          go_roundw
          case rel => exact ⟨k + 1, _, hlt, by go_num, RX.out, OX.out⟩
          case measure => simp [RowKit.intOf]; omega
    · obtain rfl : k = 9 := by omega
      obtain ⟨A, c, hv⟩ := row_slice HO.out
      subst hv
      have hcap := row_cap HO.out
      have hra : RecsAt wr wr.heap.size A (nine 9) := .of_own (base := g + 1) (e := 44) (c := c) (by rw [nine_len]; exact HO.out)
      have HM1 := Lib.hid (HMK.out A c wr hcap hra)
      have hld := R.out.loadS rfl
      clear hra HMK HO HR HFL HON hcap
      go_wp2_with (refine wpList_load_any (by rfl) 24 (.tmp 1) rfl g 0 rfl _ hld ?_; simp only [Act.put])
      refine HM1.out.mono ?_
      rintro e w1 ⟨A', c', rfl, hown, hb1⟩
      have R1 := Lib.hid (R.out.below hb1)
      have hma : MarksAt w1 w1.heap.size A' (marks (nine 9)) := .of_ownN nine_marks hown
      obtain ⟨b0, o0, rfl, _, hc⟩ := hma.some_ (by rw [nine_marks]; omega)
      have h2 := (hc 2 (by rw [nine_marks]; omega)).c0
      rw [nine_mark] at h2
      clear hc hma hown hb1 HM1 R hld
      go_wp2_with (go_at_call 10; refine (num_is _ _).mono ?_; rintro e w' ⟨rfl, rfl⟩)
      go_ret
      exact ⟨rfl, R1.out.out.2⟩
end Go.Proofs.Ytijpieaanlnibaa.Mkd
/- Words for the walk of IndexLooks: a record's box behind a round's start; three operations that may come up; Look's answers. -/
namespace Go.Proofs.Ytijpieaanlnibaa.Mkd
open Go.RowKit Go.Lib Rcd

section
variable {P : Program} {ops : Array Oper} {Q : Exit → Act → World → Prop} {S : World → Prop}
/-- The three operations that may come up. -/
theorem three_ops {fuel : Nat} {listed : Array Bool} {a : Act} {w : World} (i j l : Nat) {oi oj ol : Oper} (hi : ops[i]? = some oi) (hj : ops[j]? = some oj) (hl : ops[l]? = some ol) (hr : Region.ready .any ops listed = [i, j, l]) (hw : Region.wanted oi (yielded ops a.tmps) = true) (hw2 : Region.wanted oj (yielded ops a.tmps) = true) (hw3 : Region.wanted ol (yielded ops a.tmps) = true)
    (h : Oper.wp P oi a w (fun a' w' => S w' ∧ wpAnyH P .any ops Q S fuel (listed.setIfInBounds i true) a' w') Q) (h2 : Oper.wp P oj a w (fun a' w' => S w' ∧ wpAnyH P .any ops Q S fuel (listed.setIfInBounds j true) a' w') Q) (h3 : Oper.wp P ol a w (fun a' w' => S w' ∧ wpAnyH P .any ops Q S fuel (listed.setIfInBounds l true) a' w') Q) : wpAnyH P .any ops Q S (fuel + 1) listed a w := by
  refine wpAnyH_all (rs := [i, j, l]) hr (by simp) fun k hk => ?_
  rcases List.mem_cons.1 hk with rfl | hk
  · exact wpOp_step hi (fun K' hK => by
      rw [if_pos hw]
      exact Oper.wp_mono (fun a' w' h' => hK a' w' h') h)
  · rcases List.mem_cons.1 hk with rfl | hk
    · exact wpOp_step hj (fun K' hK => by
        rw [if_pos hw2]
        exact Oper.wp_mono (fun a' w' h' => hK a' w' h') h2)
    · rw [List.mem_singleton] at hk
      subst hk
      exact wpOp_step hl (fun K' hK => by
        rw [if_pos hw3]
        exact Oper.wp_mono (fun a' w' h' => hK a' w' h') h3)
end
/-- An append to a row of marks of the call's own, into the named slot. -/
theorem wp_append_mark (d : Nat) (w : World) {o : Oper} {a : Act} {K : Act → World → Prop} {Q : Exit → Act → World → Prop} (s x : Operand) (ho : o.op = .call { callee := .builtin .append, args := #[s, x], argTypes := #[29, 29] }) (hd : o.dst = some d)
    (i : TypeInfo) (hi : Try.prog.info? 42 = some i) (hz : i.zero = some (.agg #[.int .i64 0, .int .i64 0])) (hsize : i.size = 2) (hby : i.bytes = 16)
    (base : Nat) (v : Value) (n : Nat) (xs : List Value) (hs : a.eval s = v) (hown : w.ownsRow base 42 2 v n xs)
    (g : Nat) (y z : Int) (hx : a.eval x = .slice (some ⟨g, 0, none⟩) 1 1) (hg : Blk w g #[.int .i64 y, .int .i64 z]) (hn : n ≤ 1000000) (hbase : base ≤ w.heap.size)
    (h : ∀ v' w', w'.ownsRow base 42 2 v' (n + 1) (xs ++ [.int .i64 y, .int .i64 z]) → w.grownBy w' v.ownBlock → K (a.put (some d) v') w') : o.wp Try.prog a w K Q := by
  rw [← hd] at h
  exact wp_append_own w s x 29 ho base 42 i (.agg #[.int .i64 0, .int .i64 0]) 2 16 Try.underlying29 hi hz hsize hby rfl (by decide) v n xs hs hown ⟨g, 0, none⟩ 1 1 [.int .i64 y, .int .i64 z] hx rfl (fun j u hu => by rw [add_new, hg.cell]; simpa using hu) (fun u hu => by simp at hu; rcases hu with rfl | rfl <;> rfl) (by unfold maxLen; omega) (by omega) hbase (fun v' w' h1 h2 _ => h v' w' h1 h2)
theorem exec_call {o : Oper} {a : Act} {f : FuncId} {ars : Array Operand} {ats : Array TypeId} (hop : o.op = .call { callee := .value (.func f), args := ars, argTypes := ats }) : execOp a.eval o = callFunc f (ars.map a.eval) := by
  have ef : a.eval (.func f) = .func (.func f) #[] #[] := rfl
  unfold execOp
  simp [hop, resolve, Deferred.ofValue, invoke, ef]
/-- A call of three arguments, or of one, is entered. -/
theorem call3_enter {P : Program} {o : Oper} {a : Act} {w : World} {f : FuncId} {x y z : Operand} {ats : Array TypeId} {v1 v2 v3 : Value} (hop : o.op = .call { callee := .value (.func f), args := #[x, y, z], argTypes := ats }) (h1 : a.eval x = v1) (h2 : a.eval y = v2) (h3 : a.eval z = v3)
    (hcf : ∀ (args : Array Value) (W : World), (callFunc f args).run P W = .ok (.enter f args) W) : (execOp a.eval o).run P w = .ok (.enter f #[v1, v2, v3]) w := by
  rw [exec_call hop]
  simp only [List.map_toArray, List.map_cons, List.map_nil, h1, h2, h3]
  exact hcf _ _
theorem call1_enter {P : Program} {o : Oper} {a : Act} {w : World} {f : FuncId} {x : Operand} {ats : Array TypeId} {v1 : Value} (hop : o.op = .call { callee := .value (.func f), args := #[x], argTypes := ats }) (h1 : a.eval x = v1)
    (hcf : ∀ (args : Array Value) (W : World), (callFunc f args).run P W = .ok (.enter f args) W) : (execOp a.eval o).run P w = .ok (.enter f #[v1]) w := by
  rw [exec_call hop]
  simp only [List.map_toArray, List.map_cons, List.map_nil, h1]
  exact hcf _ _
theorem cf_look (args : Array Value) (W : World) : (callFunc 18 args).run Try.prog W = .ok (.enter 18 args) W := by kernel_rfl
theorem cf_copy (args : Array Value) (W : World) : (callFunc 14 args).run Try.prog W = .ok (.enter 14 args) W := by kernel_rfl
/-- Block g is a record's, and holds just these cells. -/
def RB (W : World) (g : Nat) (cs : Array Value) : Prop := W.heap[g]? = some (.cells cs 44 (0, 0))
theorem mark_not_rec : 42 ≠ 44 := by decide
section
variable {W W' V : World} {g : Nat} {cs : Array Value}
theorem RB.blk (h : RB W g cs) : Blk W g cs := ⟨_, h⟩
theorem RB.new (W : World) (cs : Array Value) : RB (W.alloc (.cells cs 44)) W.heap.size cs := heap_alloc_new W _
theorem RB.below (h : RB W g cs) (hb : Below W.heap.size W W') : RB W' g cs := (hb.block g h.blk.lt).trans h
theorem RB.row (h : RB W g cs) (ds : Array Value) : RB (W.setRow g ds) g ds := setRow_heap W g cs ds _ _ h
theorem RB.row' (h : RB W g cs) {g' : Nat} (hn : g' ≠ g) (ds : Array Value) : RB (W.setRow g' ds) g cs := (setRow_other W g' g ds (Ne.symm hn)).trans h
theorem RB.off {B n : Nat} {v : Value} {xs : List Value} (h : RB W g cs) (hown : W.ownsRow B 42 2 v n xs) : ¬ some g = v.ownBlock := by
  intro hg
  rcases hown.2 with ⟨hv, _⟩ | ⟨g', cap, cur, hv, _, hgg, _⟩
  · rw [hv] at hg; simp [Value.ownBlock] at hg
  · rw [hv] at hg
    simp [Value.ownBlock] at hg
    subst hg
    unfold RB at h
    rw [h] at hgg
    injection hgg with e3
    injection e3 with _ e4
    exact mark_not_rec e4.symm
theorem RB.grown {B n : Nat} {v : Value} {xs : List Value} (h : RB W g cs) (hown : W.ownsRow B 42 2 v n xs) (hgrow : W.grownBy W' v.ownBlock) : RB W' g cs :=
  (hgrow.block g h.blk.lt (fun e => h.off hown (by first | exact e | exact e.symm))).trans h
/-- A record's box, and all that was there ahead of the round. -/
@[irreducible] def Two (V : World) (g : Nat) (cs : Array Value) (W : World) : Prop := RB W g cs ∧ Below V.heap.size V W ∧ V.heap.size ≤ g
theorem Two.mk (h : RB W g cs ∧ Below V.heap.size V W ∧ V.heap.size ≤ g) : Two V g cs W := by unfold Two; exact h
theorem Two.out (h : Two V g cs W) : RB W g cs ∧ Below V.heap.size V W ∧ V.heap.size ≤ g := by unfold Two at h; exact h
theorem Two.bel (h : Two V g cs W) : Below V.heap.size V W := h.out.2.1
theorem Two.below (h : Two V g cs W) (hb : Below W.heap.size W W') : Two V g cs W' := .mk ⟨h.out.1.below hb, Below.step h.bel hb, h.out.2.2⟩
theorem Two.drewN (h : Two V g cs W) (n : Nat) : Two V g cs (W.drewN n) := h.below (below_drewN (Below.refl _ _) n)
theorem Two.grown {B n : Nat} {v : Value} {xs : List Value} (h : Two V g cs W) (hown : W.ownsRow B 42 2 v n xs) (hB : V.heap.size ≤ B) (hgrow : W.grownBy W' v.ownBlock) : Two V g cs W' :=
  .mk ⟨h.out.1.grown hown hgrow, h.bel.trans (below_grown h.bel.size (own_mono hown hB) hgrow), h.out.2.2⟩
theorem Two.row' (h : Two V g cs W) {g' : Nat} (hn : g' ≠ g) (hg : V.heap.size ≤ g') (ds : Array Value) : Two V g cs (W.setRow g' ds) := .mk ⟨h.out.1.row' hn ds, below_row h.bel hg ds, h.out.2.2⟩
theorem Two.lt (h : Two V g cs W) : g < W.heap.size := h.out.1.blk.lt
end
/-- A record as a value: its cells, what they are good for. -/
theorem rec_cells (R : Rc) : ∃ cR : Array Value, ragg R = .agg cR ∧ cR.size = 6 ∧ cR.all (·.oneCell') = true ∧ (∀ w, (binOp .neq 44 (.agg cR) (.agg cR)).run Try.prog w = .ok (.bool false) w) :=
  ⟨_, rfl, rfl, one_arr _ _ _ _ _ _, fun w => neq_rec _ _ _ _ _ _ w⟩
theorem zero_cells : ragg zero = .agg #[.int .i64 0, .int .i64 0, .string ⟨#[]⟩, .string ⟨#[]⟩, .int .i64 0, .bool false] := rfl

/-- Look, of a segment that may not be: whatever the marks. -/
theorem Look_refused (n b : Int) (rs : List Rc) (N : Nat) (A : Option Addr) (c B : Nat) (D : Value) (w : World) (hN : rs.length = N) (hm : N ≤ 9223372036854775807) (hcap : N ≤ c) (hB : B ≤ w.heap.size) (h : RecsAt w B A rs) (hS : segB b rs = false) :
    Calls Try.prog 18 #[.agg #[.int .i64 b, .slice A N c], D, .int .i64 n] w fun e w' => e = .returned (.tuple #[.agg #[.int .i64 0, .int .i64 0, .string ⟨#[]⟩, .string ⟨#[]⟩, .int .i64 0, .bool false], .int .i64 0, .int .i64 1]) ∧ Below w.heap.size w w' :=
  Look_err n b A N c D 1 w (fun W hb => look_no n b A N c D 1 W (fun W' hb' => IxCheck_no b rs N A c B D W' hN hm hcap (Nat.le_trans hB (Nat.le_trans hb.size hb'.size)) (h.below ((Below.step hb hb').mono hB)) hS))
/-- Look, of marks that are not the segment's own. -/
theorem Look_others (n b : Int) (rs : List Rc) (N : Nat) (A : Option Addr) (c B : Nat) (l : List Mk) (K : Nat) (D : Option Addr) (cd : Nat) (w : World) (hN : rs.length = N) (hm : N ≤ 9223372036854775807) (hcap : N ≤ c) (hB : B ≤ w.heap.size) (h : RecsAt w B A rs) (hS : segB b rs = true)
    (hK : l.length = K) (hk : K ≤ 9223372036854775807) (hD : MarksAt w B D l) (hne : ¬ l = marks rs) :
    Calls Try.prog 18 #[.agg #[.int .i64 b, .slice A N c], .slice D K cd, .int .i64 n] w fun e w' => e = .returned (.tuple #[.agg #[.int .i64 0, .int .i64 0, .string ⟨#[]⟩, .string ⟨#[]⟩, .int .i64 0, .bool false], .int .i64 0, .int .i64 1]) ∧ Below w.heap.size w w' :=
  Look_err n b A N c (.slice D K cd) 1 w (fun W hb => look_no n b A N c (.slice D K cd) 0 W (fun W' hb' => IxCheck_yes b rs N A c B l K D cd false W' hN hm hcap (Nat.le_trans hB (Nat.le_trans hb.size hb'.size)) (h.below ((Below.step hb hb').mono hB)) hS hK hk (hD.below ((Below.step hb hb').mono hB)) (decide_eq_false hne)))
/-- What Look tells of a segment's own marks. -/
def OwnV (b : Int) (rs : List Rc) (n : Int) (f : Nat) (Q : Rc) (P E : Int) : Prop :=
  (f = rs.length ∧ Q = zero ∧ P = 0 ∧ E = 3) ∨ (∃ (hf : f < rs.length) (m : Nat), Q = rs[f] ∧ P = ((f - 4 * m : Nat) : Int) ∧ E = 0 ∧ fromZ (marks rs) n = (m : Int) ∧ 4 * m ≤ f ∧ f - 4 * m ≤ 4)
theorem own_ex {b n : Int} {rs : List Rc} {f : Nat} (hS : segB b rs = true) (hF : First (byFind n) rs f) : ∃ Q P E, OwnV b rs n f Q P E := by
  obtain ⟨a, hA⟩ := above_of n (marks_rise hS)
  obtain ⟨h1, h2⟩ := way hS hA hF
  by_cases c : f < rs.length
  · obtain ⟨h3, _, h5⟩ := h2 c
    exact ⟨_, _, _, .inr ⟨c, placeN a, rfl, rfl, rfl, h5, h1, h3⟩⟩
  · have := hF.le
    exact ⟨_, _, _, .inl ⟨by omega, rfl, rfl, rfl⟩⟩
theorem Look_own (n b : Int) (rs : List Rc) (N : Nat) (A : Option Addr) (c B : Nat) (K : Nat) (D : Option Addr) (cd : Nat) (f : Nat) (Q : Rc) (P E : Int) (w : World) (hN : rs.length = N) (hcap : N ≤ c) (hB : B ≤ w.heap.size) (h : RecsAt w B A rs) (hS : segB b rs = true)
    (hK : (marks rs).length = K) (hD : MarksAt w B D (marks rs)) (hF : First (byFind n) rs f) (hV : OwnV b rs n f Q P E) :
    Calls Try.prog 18 #[.agg #[.int .i64 b, .slice A N c], .slice D K cd, .int .i64 n] w fun e w' => e = .returned (.tuple #[ragg Q, .int .i64 P, .int .i64 E]) ∧ Below w.heap.size w w' := by
  obtain ⟨a, hA⟩ := above_of n (marks_rise hS)
  obtain ⟨h1, h2⟩ := way hS hA hF
  rcases hV with ⟨hf, rfl, rfl, rfl⟩ | ⟨hf, m, rfl, rfl, rfl, h5, _, _⟩
  · exact Look_err n b A N c (.slice D K cd) 3 w (fun W hb => look_own n b rs N A c B K D cd f a _ W hN hcap (Nat.le_trans hB hb.size) (h.below (hb.mono hB)) hS hK (hD.below (hb.mono hB)) hF hA (.inl ⟨by omega, rfl⟩))
  · obtain ⟨_, _, h6⟩ := h2 hf
    have e : placeN a = m := by omega
    subst e
    exact Look_hit n b A N c (.slice D K cd) _ _ _ _ _ _ _ w (fun W hb => look_own n b rs N A c B K D cd f a _ W hN hcap (Nat.le_trans hB hb.size) (h.below (hb.mono hB)) hS hK (hD.below (hb.mono hB)) hF hA (.inr ⟨hf, rfl⟩))
end Go.Proofs.Ytijpieaanlnibaa.Mkd
/- The document's own answer: a number as a few bytes, the highest first. -/
namespace Go.Proofs.Ytijpieaanlnibaa
open Go.RowKit Go.Lib Vbi

set_option maxRecDepth 100000 in
set_option maxHeartbeats 2000000 in
theorem RFixed_ok (n wd : Nat) (w : World) (hn : n < 256 ^ wd) (hw : wd ≤ 4) :
    Calls Try.prog 35 #[.int .i64 (n : Int), .int .i64 (wd : Int)] w fun e w' => e = .returned (.string (strOfNums (fixZ wd n))) ∧ Below w.heap.size w w' := by
  obtain ⟨i0, hi, hz0, hz1, hz2⟩ := info_parts info_byte
  have hn32 : n < 4294967296 := by
    have : 256 ^ wd ≤ 256 ^ 4 := Nat.pow_le_pow_right (by decide) hw
    omega
  clear hn
  go_enter Try.func35, Try.ntmps35
  go_wp2_with fail
  go_loopw [5, 6] (fun v iv wr => ∃ (j : Int) (k : Nat) (zs : List Int), iv = .int .i64 j ∧ j = (k : Int) - 1 ∧ k ≤ wd ∧ fixZ wd n = zs ++ fixZ k n ∧ wr.ownsRow w.heap.size 5 1 v zs.length (zs.map (Value.int .u8)) ∧ Below w.heap.size w wr) (fun _ iv _ => (RowKit.intOf iv + 1).toNat)
  case atStart => exact ⟨_, wd, [], rfl, rfl, by omega, rfl, World.ownsRow_nil _ _ _ _, Below.refl _ _⟩
  case round =>
    obtain ⟨j, k, zs, rfl, hj, hk, hz, hown, hnx⟩ := hrel
    have h2 := hnx.size
    have hzl : zs.length ≤ 4 := by
      have := congrArg List.length hz
      rw [List.length_append, fixZ_len, fixZ_len] at this
      omega
    rcases (by omega : k = 0 ∨ k = 1 ∨ k = 2 ∨ k = 3 ∨ k = 4) with rfl | rfl | rfl | rfl | rfl
    · obtain rfl : j = -1 := by omega
      have hcv := conv_bytes hown
      have hzz : zs = fixZ wd n := by rw [hz]; show zs = zs ++ []; simp
      rw [hzz] at hcv
      clear hz hown hj hzz
      go_wp2_with fail
      go_ret
      exact ⟨rfl, hnx⟩
    · obtain rfl : j = 0 := by omega
      have HZ := Lib.hid (hz.trans (fixZ_step zs 0 n ((n : Int) % 256) (by omega)))
      clear hz hj
      go_wp2_with (at_builtin; refine wpList_append_own _ rfl _ _ 70 rfl w.heap.size 5 i0 (.int .u8 0) 1 1 Try.underlying70 hi hz0 hz1 hz2 rfl (by decide) _ _ _ rfl (hown.alloc _) ⟨wr.heap.size, 0, none⟩ 1 1 [.int .u8 ((n : Int) % 256)] rfl rfl ?c1 ?c2 ?c3 ?c4 ?c5 ?_)
      case c1 => exact cell_one_new _ _ _
      case c2 => intro u hu; simp at hu; subst hu; rfl
      case c3 => unfold maxLen; omega
      case c4 => omega
      case c5 => simp; omega
      intro v' w1 hown' hgrow _
      have hnx' := hnx.trans (below_alloc_grown h2 hown hgrow)
      have HO := Lib.hid (own_snoc hown')
      clear hown' hgrow hown
      go_wp2
      go_roundw
      case rel => exact ⟨-1, 0, _, rfl, rfl, by omega, HZ.out, HO.out, hnx'⟩
      case measure => simp [RowKit.intOf]
    · obtain rfl : j = 1 := by omega
      have HZ := Lib.hid (hz.trans (fixZ_step zs 1 n ((n : Int) / 256 % 256) (by omega)))
      clear hz hj
      go_wp2_with (at_builtin; refine wpList_append_own _ rfl _ _ 70 rfl w.heap.size 5 i0 (.int .u8 0) 1 1 Try.underlying70 hi hz0 hz1 hz2 rfl (by decide) _ _ _ rfl (hown.alloc _) ⟨wr.heap.size, 0, none⟩ 1 1 [.int .u8 ((n : Int) / 256 % 256)] rfl rfl ?c1 ?c2 ?c3 ?c4 ?c5 ?_)
      case c1 => exact cell_one_new _ _ _
      case c2 => intro u hu; simp at hu; subst hu; rfl
      case c3 => unfold maxLen; omega
      case c4 => omega
      case c5 => simp; omega
      intro v' w1 hown' hgrow _
      have hnx' := hnx.trans (below_alloc_grown h2 hown hgrow)
      have HO := Lib.hid (own_snoc hown')
      clear hown' hgrow hown
      go_wp2
      go_roundw
      case rel => exact ⟨0, 1, _, rfl, rfl, by omega, HZ.out, HO.out, hnx'⟩
      case measure => simp [RowKit.intOf]
    · obtain rfl : j = 2 := by omega
      have HZ := Lib.hid (hz.trans (fixZ_step zs 2 n ((n : Int) / 65536 % 256) (by omega)))
      clear hz hj
      go_wp2_with (at_builtin; refine wpList_append_own _ rfl _ _ 70 rfl w.heap.size 5 i0 (.int .u8 0) 1 1 Try.underlying70 hi hz0 hz1 hz2 rfl (by decide) _ _ _ rfl (hown.alloc _) ⟨wr.heap.size, 0, none⟩ 1 1 [.int .u8 ((n : Int) / 65536 % 256)] rfl rfl ?c1 ?c2 ?c3 ?c4 ?c5 ?_)
      case c1 => exact cell_one_new _ _ _
      case c2 => intro u hu; simp at hu; subst hu; rfl
      case c3 => unfold maxLen; omega
      case c4 => omega
      case c5 => simp; omega
      intro v' w1 hown' hgrow _
      have hnx' := hnx.trans (below_alloc_grown h2 hown hgrow)
      have HO := Lib.hid (own_snoc hown')
      clear hown' hgrow hown
      go_wp2
      go_roundw
      case rel => exact ⟨1, 2, _, rfl, rfl, by omega, HZ.out, HO.out, hnx'⟩
      case measure => simp [RowKit.intOf]
    · obtain rfl : j = 3 := by omega
      have HZ := Lib.hid (hz.trans (fixZ_step zs 3 n ((n : Int) / 16777216) (by omega)))
      clear hz hj
      go_wp2_with (at_builtin; refine wpList_append_own _ rfl _ _ 70 rfl w.heap.size 5 i0 (.int .u8 0) 1 1 Try.underlying70 hi hz0 hz1 hz2 rfl (by decide) _ _ _ rfl (hown.alloc _) ⟨wr.heap.size, 0, none⟩ 1 1 [.int .u8 ((n : Int) / 16777216)] rfl rfl ?c1 ?c2 ?c3 ?c4 ?c5 ?_)
      case c1 => exact cell_one_new _ _ _
      case c2 => intro u hu; simp at hu; subst hu; rfl
      case c3 => unfold maxLen; omega
      case c4 => omega
      case c5 => simp; omega
      intro v' w1 hown' hgrow _
      have hnx' := hnx.trans (below_alloc_grown h2 hown hgrow)
      have HO := Lib.hid (own_snoc hown')
      clear hown' hgrow hown
      go_wp2
      go_roundw
      case rel => exact ⟨2, 3, _, rfl, rfl, by omega, HZ.out, HO.out, hnx'⟩
      case measure => simp [RowKit.intOf]

end Go.Proofs.Ytijpieaanlnibaa
/- Eight bytes as two halves; bytes as texts. -/
namespace Go.Proofs.Ytijpieaanlnibaa
open Go.RowKit Go.Lib Vbi Rcd

theorem str_add (a b : List UInt8) : str a ++ str b = str (a ++ b) := by
  apply ByteArray.ext
  simp [str]
theorem str_nums (zs : List Int) : strOfNums zs = str (bytesOf zs) := by rw [← data_str (strOfNums zs), strOf_data]
theorem str_fx (w n : Nat) : strOfNums (fixZ w n) = str (fx w n) := str_nums _
theorem ofInt_mod (z : Int) : (BitVec.ofInt 64 z).toNat = (z % 18446744073709551616).toNat := by
  rw [BitVec.toNat_ofInt]; rfl
theorem wrap_mod (m : Nat) : IntKind.i64.wrap (((m % 18446744073709551616 : Nat)) : Int) = IntKind.i64.wrap (m : Int) := by
  unfold IntKind.wrap
  simp [IntKind.bits, IntKind.signed]
/-- The last byte of eight: whatever is above, it stands below. -/
theorem or_low (z : Int) (m c : Nat) (hz : z = IntKind.i64.wrap ((m * 256 : Nat) : Int)) (hm : m < 72057594037927936) (hc : c < 256) : bits .or .i64 z (c : Int) = IntKind.i64.wrap ((m * 256 + c : Nat) : Int) := by
  show IntKind.i64.wrap ((BitVec.ofInt 64 z ||| BitVec.ofInt 64 (c : Int)).toNat : Int) = _
  have e1 : (BitVec.ofInt 64 z).toNat = m * 256 := by
    rw [ofInt_mod, hz]
    unfold IntKind.wrap
    simp [IntKind.bits, IntKind.signed]
    omega
  have e2 : (BitVec.ofInt 64 (c : Int)).toNat = c := ofInt_i64 c (by omega)
  rw [BitVec.toNat_or, e1, e2]
  congr 2
  rw [Nat.mul_comm m 256, show (256 : Nat) = 2 ^ 8 from rfl, ← Nat.two_pow_add_eq_or_of_lt (by omega)]
/-- High and low. -/
theorem or_halves (z : Int) (h l : Nat) (hz : z = IntKind.i64.wrap ((h * 4294967296 : Nat) : Int)) (hh : h < 4294967296) (hl : l < 4294967296) : bits .or .i64 z (l : Int) = IntKind.i64.wrap ((h * 4294967296 + l : Nat) : Int) := by
  show IntKind.i64.wrap ((BitVec.ofInt 64 z ||| BitVec.ofInt 64 (l : Int)).toNat : Int) = _
  have e1 : (BitVec.ofInt 64 z).toNat = h * 4294967296 := by
    rw [ofInt_mod, hz]
    unfold IntKind.wrap
    simp [IntKind.bits, IntKind.signed]
    omega
  have e2 : (BitVec.ofInt 64 (l : Int)).toNat = l := ofInt_i64 l (by omega)
  rw [BitVec.toNat_or, e1, e2]
  congr 2
  rw [Nat.mul_comm h 4294967296, show (4294967296 : Nat) = 2 ^ 32 from rfl, ← Nat.two_pow_add_eq_or_of_lt (by omega)]
theorem wrap64_nat (h : Nat) : wrap64 ((h : Int) * 4294967296) = IntKind.i64.wrap ((h * 4294967296 : Nat) : Int) := by
  rw [show ((h : Int) * 4294967296) = ((h * 4294967296 : Nat) : Int) by omega, IntWalk.i64_left]
theorem wrap64_low (m : Nat) : wrap64 ((m : Int) * 256) = IntKind.i64.wrap ((m * 256 : Nat) : Int) := by
  rw [show ((m : Int) * 256) = ((m * 256 : Nat) : Int) by omega, IntWalk.i64_left]
theorem fixGo_app (a b : List UInt8) (n : Nat) : fixGo n (a ++ b) = fixGo (fixGo n a) b := List.foldl_append ..
theorem fixGo_shift (l : List UInt8) (n : Nat) : fixGo n l = n * 256 ^ l.length + fixVal l := by
  unfold fixVal
  induction l generalizing n with
  | nil => show n = n * 1 + 0; omega
  | cons b t ih =>
    rw [fixGo_cons, fixGo_cons, ih, ih (0 * 256 + b.toNat), List.length_cons, Nat.pow_succ, Nat.add_mul, Nat.add_mul, Nat.mul_assoc, Nat.mul_comm 256]
    omega
theorem eight_halves (l : List UInt8) (h : 8 ≤ l.length) : fixVal (l.take 8) = fixVal (l.take 4) * 4294967296 + fixVal ((l.drop 4).take 4) := by
  have e : l.take 8 = l.take 4 ++ (l.drop 4).take 4 := by rw [← List.take_add]
  have hl : ((l.drop 4).take 4).length = 4 := by rw [List.length_take, List.length_drop]; omega
  rw [e]
  unfold fixVal
  rw [fixGo_app, fixGo_shift, hl]
  rfl
theorem fx8_halves (n : Nat) (h : n < 18446744073709551616) : fx 8 n = fx 4 (n / 4294967296) ++ fx 4 (n % 4294967296) := by
  simp only [fx_succ]
  have e : ∀ m, fx 0 m = [] := fun _ => rfl
  simp only [e, List.cons_append, List.nil_append, Nat.reducePow]
  congr 1
  · congr 1; omega
  congr 1
  · congr 1; omega
  congr 1
  · congr 1; omega
  congr 1
  · congr 1; omega
  congr 1
  · congr 1; omega
  congr 1
  · congr 1; omega
  congr 1
  · congr 1; omega
  congr 1
  · congr 1; omega

theorem byte_str (F : Nat) (h : F < 256) : strOfNums [(F : Int)] = str [UInt8.ofNat F] := by rw [str_nums]; unfold bytesOf; rw [List.map_cons, List.map_nil, Int.toNat_natCast]
end Go.Proofs.Ytijpieaanlnibaa
