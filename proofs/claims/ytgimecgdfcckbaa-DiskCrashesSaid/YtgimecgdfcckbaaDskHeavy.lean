/- Scripts (names, texts, acts) in memory; is one too heavy? -/
import Derived.Test.YtgimecgdfcckbaaDskRMay
namespace Go.Proofs.Ytgimecgdfcckbaa.Dsk
open Go.RowKit Go.Lib Go.Maps

def tw : Nat → List (List UInt8) → Nat
  | n, [] => n
  | n, x :: r => if n < 1048576 then tw (n + x.length) r else n
theorem tw_ge (n : Nat) (l : List (List UInt8)) : n ≤ tw n l := by
  induction l generalizing n with
  | nil => exact Nat.le_refl _
  | cons x r ih =>
    unfold tw
    split
    · have := ih (n + x.length); omega
    · exact Nat.le_refl _
theorem tw_small {n : Nat} {l : List (List UInt8)} (h : tw n l < 1048576) : tw n l = n + lens l := by
  induction l generalizing n with
  | nil => simp [tw, lens]
  | cons x r ih =>
    have h1 := tw_ge n (x :: r)
    have hn : n < 1048576 := by omega
    unfold tw at h ⊢
    rw [if_pos hn] at h ⊢
    rw [ih h, lens_cons]
    omega
theorem tw_le {n : Nat} {l : List (List UInt8)} (hn : n ≤ 281474976710656) (h : ∀ x ∈ l, x.length ≤ 140737488351232) : tw n l ≤ 281474976710656 := by
  induction l generalizing n with
  | nil => exact hn
  | cons x r ih =>
    unfold tw
    split
    · have := h x (by simp)
      exact ih (by omega) fun y hy => h y (by simp [hy])
    · exact hn
set_option maxRecDepth 100000 in
set_option maxHeartbeats 4000000 in
theorem TextWeight_dk (l : List (List UInt8)) (A : Option Addr) (m c N B : Nat) (w : World) (hm : l.length = m) (h : Strs w B A l) (hs : ∀ x ∈ l, x.length ≤ 140737488351232) (hn : m ≤ 8796093022208) (hN : tw m l = N) :
    Calls Try.prog 36 #[.slice A m c] w fun e w' => e = .returned (.int .i64 (N : Int)) ∧ w' = w := by
  have H := Lib.hid h
  have HS := Lib.hid hs
  have HN := Lib.hid hN
  have HM := Lib.hid hm
  clear h hs hN hm
  go_enter Try.func36, Try.ntmps36
  go_wp2_with fail
  go_loopw [3, 4] (fun n i wr => ∃ k x : Nat, k ≤ m ∧ i = .int .i64 (k : Int) ∧ n = .int .i64 (x : Int) ∧ tw x (l.drop k) = N ∧ x ≤ 281474976710656 ∧ wr = w) (fun _ i _ => m - (RowKit.intOf i).toNat)
  case atStart => exact ⟨0, m, Nat.zero_le _, rfl, rfl, HN.out, by omega, rfl⟩
  case round =>
    obtain ⟨k, n, hk, rfl, rfl, hnn, hnb, rfl⟩ := hrel
    have HNN := Lib.hid hnn
    clear hnn
    by_cases hlt : k < m
    · have hkl : k < l.length := by rw [HM.out]; exact hlt
      have hkI : (k : Int) < (m : Int) := by omega
      by_cases hsm : n < 1048576
      · have hnI : (n : Int) < 1048576 := by omega
        obtain ⟨a, rfl, _, hc⟩ := H.out.some_ (by omega)
        have d0 := hc k hkl
        rw [List.getD_eq_getElem?_getD, List.getElem?_eq_getElem hkl] at d0
        simp only [Option.getD_some] at d0
        have hx := HS.out l[k] (List.getElem_mem hkl)
        have HST : Hid (tw (n + (str l[k]).size) (l.drop (k + 1)) = N) := Lib.hid (by
          have := HNN.out
          rw [List.drop_eq_getElem_cons hkl] at this
          unfold tw at this
          rw [if_pos hsm] at this
          rw [str_size]
          exact this)
        have hsz : (str l[k]).size ≤ 140737488351232 := by rw [str_size]; exact hx
        have hw : IntKind.i64.wrap ((n : Int) + ((str l[k]).size : Int)) = ((n + (str l[k]).size : Nat) : Int) := by
          rw [IntWalk.i64_in _ ⟨by omega, by omega⟩]; omega
        clear hc hx
        generalize str l[k] = s at d0 HST hsz hw
        go_wp2_with fail
        go_roundw
        case rel => exact ⟨k + 1, _, hlt, by go_num, rfl, HST.out, by omega, by trivial⟩
        case measure => simp [RowKit.intOf]; omega
      · have hnI : ¬ (n : Int) < 1048576 := by omega
        have HF : Hid (n = N) := Lib.hid (by
          have := HNN.out
          rw [List.drop_eq_getElem_cons hkl] at this
          unfold tw at this
          rw [if_neg hsm] at this
          exact this)
        go_wp2_with fail
        go_ret
        exact ⟨ret_int (by rw [HF.out]), rfl⟩
    · have hkI : ¬ (k : Int) < (m : Int) := by omega
      have HF : Hid (n = N) := Lib.hid (by
        have := HNN.out
        rw [List.drop_eq_nil_of_le (by rw [HM.out]; omega)] at this
        exact this)
      clear hlt
      go_wp2_with fail
      go_ret
      exact ⟨ret_int (by rw [HF.out]), rfl⟩

/-- An act: which, a number, name, other name, bytes, picks (where they lie). -/
structure Ac where
  d : Int
  n : Int
  nm : List UInt8
  to : List UInt8
  s : List UInt8
  P : Option Addr
  pc : Nat
  ps : List Int
def acells (x : Ac) : List Value := [.int .i64 x.d, .int .i64 x.n, .string (str x.nm), .string (str x.to), .string (str x.s), .slice x.P x.ps.length x.pc]
/-- An act at an address, below block B. -/
structure AcAt (w : World) (B : Nat) (g o : Nat) (x : Ac) : Prop where
  lt : g < B
  cells : ∀ i, i < 6 → w.cell? ⟨g, o + i, none⟩ = (acells x)[i]?
  picks : Nums w B .i64 x.P x.ps
def ActsAt (w : World) (B : Nat) (L : Option Addr) (xs : List Ac) : Prop := xs = [] ∨ ∃ g o, L = some ⟨g, o, none⟩ ∧ ∀ j (h : j < xs.length), AcAt w B g (o + j * 6) xs[j]
section
variable {w w' : World} {B B' g o : Nat} {x : Ac} {L : Option Addr} {xs : List Ac}
theorem AcAt.below (h : AcAt w B g o x) (hb : Below B w w') : AcAt w' B g o x := ⟨h.lt, fun i hi => (hb.cell (p := ⟨g, o + i, none⟩) h.lt).trans (h.cells i hi), h.picks.below hb⟩
theorem AcAt.mono (h : AcAt w B g o x) (hB : B ≤ B') : AcAt w B' g o x := ⟨Nat.lt_of_lt_of_le h.lt hB, h.cells, h.picks.mono hB⟩
theorem ActsAt.below (h : ActsAt w B L xs) (hb : Below B w w') : ActsAt w' B L xs := by
  rcases h with h | ⟨g, o, e, h⟩
  · exact .inl h
  · exact .inr ⟨g, o, e, fun j hj => (h j hj).below hb⟩
theorem ActsAt.mono (h : ActsAt w B L xs) (hB : B ≤ B') : ActsAt w B' L xs := by
  rcases h with h | ⟨g, o, e, h⟩
  · exact .inl h
  · exact .inr ⟨g, o, e, fun j hj => (h j hj).mono hB⟩
theorem ActsAt.on (h : ActsAt w w.heap.size L xs) (hb : Below w.heap.size w w') : ActsAt w' w'.heap.size L xs := (h.below hb).mono hb.size
theorem ActsAt.some_ (h : ActsAt w B L xs) (hx : 0 < xs.length) : ∃ g o, L = some ⟨g, o, none⟩ ∧ ∀ j (h : j < xs.length), AcAt w B g (o + j * 6) xs[j] := by
  rcases h with rfl | h
  · simp at hx
  · exact h
end
def aw (x : Ac) : Nat := x.s.length + x.nm.length + x.to.length + x.ps.length
def hv : Nat → List Ac → Nat
  | n, [] => n
  | n, x :: r => if n < 1048576 then hv (n + aw x) r else n
theorem hv_ge (n : Nat) (l : List Ac) : n ≤ hv n l := by
  induction l generalizing n with
  | nil => exact Nat.le_refl _
  | cons x r ih =>
    unfold hv
    split
    · have := ih (n + aw x); omega
    · exact Nat.le_refl _
theorem hv_small {n : Nat} {l : List Ac} (h : hv n l < 1048576) : ∀ x ∈ l, n + aw x ≤ hv n l := by
  induction l generalizing n with
  | nil => simp
  | cons x r ih =>
    have h1 := hv_ge n (x :: r)
    have hn : n < 1048576 := by omega
    unfold hv at h ⊢
    rw [if_pos hn] at h ⊢
    intro y hy
    rcases List.mem_cons.1 hy with rfl | hy
    · exact hv_ge _ _
    · have := ih h y hy; omega
/-- A script's weight. -/
def hvN (ns ts : List (List UInt8)) (xs : List Ac) : Nat := hv (tw ns.length ns + tw ts.length ts) xs
def heavyB (ns ts : List (List UInt8)) (xs : List Ac) : Bool := decide (8000 < hvN ns ts xs) || decide (200 < xs.length)
theorem light {ns ts : List (List UInt8)} {xs : List Ac} (h : heavyB ns ts xs = false) : ns.length + lens ns + (ts.length + lens ts) ≤ 8000 ∧ xs.length ≤ 200 ∧ ∀ x ∈ xs, aw x ≤ 8000 := by
  unfold heavyB at h
  rw [Bool.or_eq_false_iff, decide_eq_false_iff_not, decide_eq_false_iff_not] at h
  obtain ⟨h1, h2⟩ := h
  have h3 := hv_ge (tw ns.length ns + tw ts.length ts) xs
  have h1 : ¬ 8000 < hv (tw ns.length ns + tw ts.length ts) xs := h1
  have e1 := tw_small (n := ns.length) (l := ns) (by omega)
  have e2 := tw_small (n := ts.length) (l := ts) (by omega)
  refine ⟨by omega, by omega, fun x hx => ?_⟩
  have := hv_small (n := tw ns.length ns + tw ts.length ts) (l := xs) (by omega) x hx
  omega

/-- A script's box, and what it names, in a region. -/
@[irreducible] def HvAt (V : World) (g : Nat) (v0 v1 v2 : Value) (A B : Option Addr) (ns ts : List (List UInt8)) (W : World) : Prop :=
  Bk W g 25 #[v0, v1, v2] ∧ Strs W V.heap.size A ns ∧ Strs W V.heap.size B ts ∧ Below V.heap.size V W
section
variable {V W : World} {g : Nat} {v0 v1 v2 : Value} {A B : Option Addr} {ns ts : List (List UInt8)}
theorem HvAt.mk (h : Bk W g 25 #[v0, v1, v2] ∧ Strs W V.heap.size A ns ∧ Strs W V.heap.size B ts ∧ Below V.heap.size V W) : HvAt V g v0 v1 v2 A B ns ts W := by unfold HvAt; exact h
theorem HvAt.out (h : HvAt V g v0 v1 v2 A B ns ts W) : Bk W g 25 #[v0, v1, v2] ∧ Strs W V.heap.size A ns ∧ Strs W V.heap.size B ts ∧ Below V.heap.size V W := by unfold HvAt at h; exact h
theorem HvAt.drewN (h : HvAt V g v0 v1 v2 A B ns ts W) (n : Nat) : HvAt V g v0 v1 v2 A B ns ts (W.drewN n) := by
  obtain ⟨h1, h2, h3, h4⟩ := h.out
  exact .mk ⟨h1.drewN n, h2.drewN n, h3.drewN n, below_drewN h4 n⟩
end
set_option maxRecDepth 100000 in
set_option maxHeartbeats 8000000 in
theorem heavy_dk (ns ts : List (List UInt8)) (xs : List Ac) (A B L : Option Addr) (n c n' c' m cl : Nat) (b : Bool) (w : World) (hn : ns.length = n) (ht : ts.length = n') (hm : xs.length = m) (hA : Strs w w.heap.size A ns) (hB : Strs w w.heap.size B ts) (hL : ActsAt w w.heap.size L xs)
    (s1 : ∀ x ∈ ns, x.length ≤ 140737488351232) (s2 : ∀ x ∈ ts, x.length ≤ 140737488351232) (s3 : ∀ x ∈ xs, x.nm.length ≤ 140737488351232 ∧ x.to.length ≤ 140737488351232 ∧ x.s.length ≤ 140737488351232 ∧ x.ps.length ≤ 140737488351232) (l1 : n ≤ 8796093022208) (l2 : n' ≤ 8796093022208) (l3 : m ≤ 8796093022208) (hb : heavyB ns ts xs = b) :
    Calls Try.prog 31 #[.agg #[.slice A n c, .slice B n' c', .slice L m cl]] w fun e w' => e = .returned (.bool b) ∧ Below w.heap.size w w' := by
  have hal := (Below.refl w.heap.size w).alloc (Nat.le_refl _) (.cells #[.slice A n c, .slice B n' c', .slice L m cl] 25)
  have HB0 := Lib.hid (Bk.new w 25 #[.slice A n c, .slice B n' c', .slice L m cl])
  have st0 : HvAt w w.heap.size (.slice A n c) (.slice B n' c') (.slice L m cl) A B ns ts _ := .mk ⟨HB0.out, hA.below hal, hB.below hal, hal⟩
  have hL0 := hL
  have HM := Lib.hid hm
  have HS3 := Lib.hid s3
  have HBb := Lib.hid hb
  obtain ⟨N1, hN1⟩ : ∃ N, tw n ns = N := ⟨_, rfl⟩
  obtain ⟨N2, hN2⟩ : ∃ N, tw n' ts = N := ⟨_, rfl⟩
  have q1 : N1 ≤ 281474976710656 := by rw [← hN1]; exact tw_le (by omega) s1
  have q2 : N2 ≤ 281474976710656 := by rw [← hN2]; exact tw_le (by omega) s2
  have hwr : IntKind.i64.wrap ((N1 : Int) + (N2 : Int)) = ((N1 + N2 : Nat) : Int) := by rw [IntWalk.i64_in _ ⟨by omega, by omega⟩]; omega
  have HT1 : Hid (∀ W, Strs W w.heap.size A ns → Calls Try.prog 36 #[.slice A n c] W fun e w' => e = .returned (.int .i64 (N1 : Int)) ∧ w' = W) := Lib.hid (fun W h => TextWeight_dk ns A n c N1 _ W hn h s1 l1 hN1)
  have HT2 : Hid (∀ W, Strs W w.heap.size B ts → Calls Try.prog 36 #[.slice B n' c'] W fun e w' => e = .returned (.int .i64 (N2 : Int)) ∧ w' = W) := Lib.hid (fun W h => TextWeight_dk ts B n' c' N2 _ W ht h s2 l2 hN2)
  have HHv : Hid (hvN ns ts xs = hv (N1 + N2) xs) := Lib.hid (by unfold hvN; rw [hn, ht, hN1, hN2])
  clear hA hB hL s1 s2 s3 hb hal hN1 hN2 hm hn ht
  go_enter Try.func31, Try.ntmps31
  go_upto_region 1 with fail
  generalize w.alloc _ = wa at st0 HB0 ⊢
  have HLv := Lib.hid hL0
  clear hL0
  haveI : Nonempty (In (HvAt w w.heap.size (.slice A n c) (.slice B n' c') (.slice L m cl) A B ns ts)) := ⟨⟨_, st0⟩⟩
  have k0 := fun u : In (HvAt w w.heap.size (.slice A n c) (.slice B n' c') (.slice L m cl) A B ns ts) => u.h.out.1.cell 0
  have k1 := fun u : In (HvAt w w.heap.size (.slice A n c) (.slice B n' c') (.slice L m cl) A B ns ts) => u.h.out.1.cell 1
  simp only [List.getElem?_toArray, List.getElem?_cons_zero, List.getElem?_cons_succ] at k0 k1
  have hI1 := fun u : In (HvAt w w.heap.size (.slice A n c) (.slice B n' c') (.slice L m cl) A B ns ts) => HT1.out _ u.h.out.2.1
  have hI2 := fun u : In (HvAt w w.heap.size (.slice A n c) (.slice B n' c') (.slice L m cl) A B ns ts) => HT2.out _ u.h.out.2.2.1
  refine region_in (S := HvAt w w.heap.size (.slice A n c) (.slice B n' c') (.slice L m cl) A B ns ts) (by kernel_rfl) (by kernel_rfl) (st0.drewN 1) ?_
  repeat (go_big_quiet_step (fail))
  go_big_quiet_step ((go_at_call 36; exact in_call ((hI1 _).mono fun _ _ h => ⟨h.1, h.2 ▸ In.h _⟩)))
  repeat (go_big_quiet_step (fail))
  go_big_quiet_step ((go_at_call 36; exact in_call ((hI2 _).mono fun _ _ h => ⟨h.1, h.2 ▸ In.h _⟩)))
  repeat (go_big_quiet_step (fail))
  refine wpQuiet_nil ?_
  rintro w7 ⟨u7, hu7⟩
  have st7 := u7.h
  rw [← hu7] at st7
  clear hu7
  have HX7 := Lib.hid st7.out.2.2.2
  have HB7 := Lib.hid st7.out.1
  have HL7 := Lib.hid (HLv.out.below st7.out.2.2.2)
  clear this st0 st7 k0 k1 hI1 hI2 HT1 HT2 HB0 HLv
  obtain ⟨g, hg⟩ : ∃ g, w.heap.size = g := ⟨_, rfl⟩
  have HG := Lib.hid hg
  have hgl : g < w7.heap.size := by rw [← hg]; exact HB7.out.lt
  rw [hg] at HB7 HL7 ⊢
  clear hg
  go_wp2_with fail
  go_loopw [3, 4] (fun x i wr => ∃ k y : Nat, k ≤ m ∧ i = .int .i64 (k : Int) ∧ x = .int .i64 (y : Int) ∧ hv y (xs.drop k) = hvN ns ts xs ∧ y ≤ 1125899906842624 ∧ Below w7.heap.size w7 wr) (fun _ i _ => m - (RowKit.intOf i).toNat)
  case atStart => exact ⟨0, _, Nat.zero_le _, rfl, rfl, HHv.out.symm, by omega, Below.refl _ _⟩
  case round =>
    obtain ⟨k, y, hk, rfl, rfl, hhv, hyb, hbe⟩ := hrel
    have HNN := Lib.hid hhv
    have HBe := Lib.hid hbe
    have HBw := Lib.hid (HB7.out.below hbe)
    have b2 : wr.cell? ⟨g, 2, none⟩ = some (.slice L m cl) := HBw.out.cell 2
    clear hhv hbe
    by_cases hlt : k < m
    · have hkl : k < xs.length := by rw [HM.out]; exact hlt
      have hkI : (k : Int) < (m : Int) := by omega
      by_cases hsm : y < 1048576
      · have hyI : (y : Int) < 1048576 := by omega
        obtain ⟨g1, o, rfl, hat⟩ := HL7.out.some_ (by omega)
        have hx := (hat k hkl).below (HBe.out.mono (Nat.le_of_lt hgl))
        have e2 := hx.cells 2 (by omega)
        have e3 := hx.cells 3 (by omega)
        have e4 := hx.cells 4 (by omega)
        have e5 := hx.cells 5 (by omega)
        obtain ⟨s1, s2, s3, s4⟩ := HS3.out _ (List.getElem_mem hkl)
        have HST : Hid (hv (y + aw xs[k]) (xs.drop (k + 1)) = hvN ns ts xs) := Lib.hid (by
          have := HNN.out
          rw [List.drop_eq_getElem_cons hkl] at this
          unfold hv at this
          rw [if_pos hsm] at this
          exact this)
        generalize xs[k] = x at *
        unfold acells at e2 e3 e4 e5
        simp only [List.getElem?_cons_zero, List.getElem?_cons_succ] at e2 e3 e4 e5
        have z1 : (str x.s).size = x.s.length := str_size _
        have z2 : (str x.nm).size = x.nm.length := str_size _
        have z3 : (str x.to).size = x.to.length := str_size _
        have HAw : Hid (aw x = (str x.s).size + (str x.nm).size + (str x.to).size + x.ps.length) := Lib.hid (by rw [z1, z2, z3]; rfl)
        rw [HAw.out] at HST
        rw [← z1] at s3
        rw [← z2] at s1
        rw [← z3] at s2
        clear z1 z2 z3 HAw hat hx
        generalize x.ps.length = lp at *
        generalize str x.s = ss at *
        generalize str x.nm = sn at *
        generalize str x.to = so at *
        have w1 : IntKind.i64.wrap ((y : Int) + (ss.size : Int)) = ((y + ss.size : Nat) : Int) := by rw [IntWalk.i64_in _ ⟨by omega, by omega⟩]; omega
        have w2 : IntKind.i64.wrap (((y + ss.size : Nat) : Int) + (sn.size : Int)) = ((y + ss.size + sn.size : Nat) : Int) := by rw [IntWalk.i64_in _ ⟨by omega, by omega⟩]; omega
        have w3 : IntKind.i64.wrap (((y + ss.size + sn.size : Nat) : Int) + (so.size : Int)) = ((y + ss.size + sn.size + so.size : Nat) : Int) := by rw [IntWalk.i64_in _ ⟨by omega, by omega⟩]; omega
        have w4 : IntKind.i64.wrap (((y + ss.size + sn.size + so.size : Nat) : Int) + (lp : Int)) = ((y + ss.size + sn.size + so.size + lp : Nat) : Int) := by rw [IntWalk.i64_in _ ⟨by omega, by omega⟩]; omega
        have HST2 : Hid (hv (y + ss.size + sn.size + so.size + lp) (xs.drop (k + 1)) = hvN ns ts xs) := Lib.hid (by
          rw [← HST.out]; congr 1; omega)
        have hfin : y + ss.size + sn.size + so.size + lp ≤ 1125899906842624 := by omega
        have HFi := Lib.hid hfin
        clear HST hfin
        go_wp2_with fail
        go_quiet (fail)
        rename_i nq
        go_wp2_with fail
        go_roundw
        case rel => exact ⟨k + 1, _, hlt, by go_num, rfl, HST2.out, HFi.out, below_drewN HBe.out nq⟩
        case measure => simp [RowKit.intOf]; omega
      · have hyI : ¬ (y : Int) < 1048576 := by omega
        have HF : Hid (y = hvN ns ts xs) := Lib.hid (by
          have := HNN.out
          rw [List.drop_eq_getElem_cons hkl] at this
          unfold hv at this
          rw [if_neg hsm] at this
          exact this)
        have r1 : decide ((8000 : Int) < (y : Int)) = true := by simp; omega
        have r2 : (8000 : Int) < (y : Int) := by omega
        have HR : Hid (b = true) := Lib.hid (by rw [← HBb.out]; unfold heavyB; rw [← HF.out, decide_eq_true (by omega)]; rfl)
        have HFB := Lib.hid (HX7.out.trans (HBe.out.mono (Nat.le_of_lt (by rw [HG.out]; exact hgl))))
        go_wp2_with fail
        go_ret
        exact ⟨ret_bool HR.out.symm, HFB.out⟩
    · have hkI : ¬ (k : Int) < (m : Int) := by omega
      have HF : Hid (y = hvN ns ts xs) := Lib.hid (by
        have := HNN.out
        rw [List.drop_eq_nil_of_le (by rw [HM.out]; omega)] at this
        exact this)
      have HFB := Lib.hid (HX7.out.trans (HBe.out.mono (Nat.le_of_lt (by rw [HG.out]; exact hgl))))
      clear hlt
      by_cases hy : 8000 < y
      · have r1 : decide ((8000 : Int) < (y : Int)) = true := by simp; omega
        have r2 : (8000 : Int) < (y : Int) := by omega
        have HR : Hid (b = true) := Lib.hid (by rw [← HBb.out]; unfold heavyB; rw [← HF.out, decide_eq_true hy]; rfl)
        go_wp2_with fail
        go_ret
        exact ⟨ret_bool HR.out.symm, HFB.out⟩
      · have r1 : decide ((8000 : Int) < (y : Int)) = false := by simp; omega
        have r2 : ¬ (8000 : Int) < (y : Int) := by omega
        by_cases hm2 : 200 < m
        · have r3 : decide ((200 : Int) < (m : Int)) = true := by simp; omega
          have HR : Hid (b = true) := Lib.hid (by rw [← HBb.out]; unfold heavyB; rw [HM.out, decide_eq_true hm2, Bool.or_true])
          go_wp2_with fail
          go_ret
          exact ⟨ret_bool HR.out.symm, HFB.out⟩
        · have r3 : decide ((200 : Int) < (m : Int)) = false := by simp; omega
          have HR : Hid (b = false) := Lib.hid (by rw [← HBb.out]; unfold heavyB; rw [HM.out, ← HF.out, decide_eq_false hy, decide_eq_false hm2]; rfl)
          go_wp2_with fail
          go_ret
          exact ⟨ret_bool HR.out.symm, HFB.out⟩
end Go.Proofs.Ytgimecgdfcckbaa.Dsk
