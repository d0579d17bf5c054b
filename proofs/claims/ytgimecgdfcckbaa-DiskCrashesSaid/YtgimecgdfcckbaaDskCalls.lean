/- A script of calls of one kind, beside appends: the acts laid anew. -/
import Derived.Test.YtgimecgdfcckbaaDskHeavy
namespace Go.Proofs.Ytgimecgdfcckbaa.Dsk
open Go.RowKit Go.Lib Go.Maps

def turnA (d : Int) (i : Nat) (x : Ac) : Ac := { x with d := if 0 < i % 3 then d else 3 }
def turn (d : Int) (xs : List Ac) : List Ac := xs.mapIdx (turnA d)
theorem turn_len (d : Int) (xs : List Ac) : (turn d xs).length = xs.length := by simp [turn]
theorem turn_at (d : Int) (xs : List Ac) (k : Nat) (hk : k < xs.length) (hk' : k < (turn d xs).length) : (turn d xs)[k] = turnA d k xs[k] := by simp [turn]
def aflat (xs : List Ac) : List Value := xs.flatMap acells
theorem aflat_snoc (xs : List Ac) (x : Ac) : aflat (xs ++ [x]) = aflat xs ++ acells x := by simp [aflat]
theorem aflat_len (xs : List Ac) : (aflat xs).length = xs.length * 6 := by
  induction xs with
  | nil => rfl
  | cons a r ih =>
    show (acells a ++ aflat r).length = _
    rw [List.length_append, ih]
    show 6 + _ = (r.length + 1) * 6
    omega
theorem aflat_at (xs : List Ac) (j i : Nat) (hj : j < xs.length) (hi : i < 6) : (aflat xs)[j * 6 + i]? = (acells xs[j])[i]? := by
  induction xs generalizing j with
  | nil => simp at hj
  | cons a r ih =>
    show (acells a ++ aflat r)[j * 6 + i]? = _
    cases j with
    | zero =>
      rw [List.getElem?_append_left (by show _ < 6; omega)]
      simp
    | succ m =>
      rw [List.getElem?_append_right (by show 6 ≤ _; omega)]
      have : (m + 1) * 6 + i - (acells a).length = m * 6 + i := by show _ - 6 = _; omega
      rw [this, ih m (by simpa using hj)]
      rfl
theorem acells_one (x : Ac) : ∀ u ∈ acells x, u.oneCell' = true := fun u hu => by
  unfold acells at hu
  simp at hu
  rcases hu with rfl | rfl | rfl | rfl | rfl | rfl <;> rfl
theorem info_act : (Try.prog.info? 60).map (fun i => (i.zero, i.size, i.bytes)) = some (some (.agg #[.int .i64 0, .int .i64 0, .string ⟨#[]⟩, .string ⟨#[]⟩, .string ⟨#[]⟩, .slice none 0 0]), 6, 88) := by kernel_rfl
/-- A row of acts of the call's own, read as acts. -/
theorem ActsAt.of_own {w : World} {base B c : Nat} {L : Option Addr} {xs : List Ac} (h : w.ownsRow base 60 6 (.slice L xs.length c) xs.length (aflat xs)) (hp : ∀ x ∈ xs, Nums w B .i64 x.P x.ps) (hB : B ≤ w.heap.size) : ActsAt w w.heap.size L xs := by
  rcases h.2 with ⟨_, h0⟩ | ⟨g, cap, cur, hv, _, hg, _⟩
  · exact .inl (List.eq_nil_of_length_eq_zero h0)
  · injection hv with h1
    subst h1
    refine .inr ⟨g, 0, rfl, fun j hj => ⟨(Array.getElem?_eq_some_iff.1 hg).1, fun i hi => ?_, (hp _ (List.getElem_mem hj)).mono hB⟩⟩
    rw [Nat.zero_add, h.cellAt _ (by omega)]
    exact aflat_at xs j i hj hi
structure CInv (V : World) (A B : Value) (Q : List Ac) (g : Nat) (k : Nat) (wr : World) : Prop where
  row : ∃ v, Bk wr g 25 #[A, B, v] ∧ wr.ownsRow V.heap.size 60 6 v k (aflat (Q.take k)) ∧ v.ownBlock ≠ some g
  bel : Below V.heap.size V wr
  ge : V.heap.size ≤ g

set_option maxRecDepth 100000 in
set_option maxHeartbeats 8000000 in
theorem calls_is (ns ts : List (List UInt8)) (xs : List Ac) (A B L : Option Addr) (n c n' c' m cl : Nat) (d : Int) (w : World) (hn : ns.length = n) (ht : ts.length = n') (hm : xs.length = m) (hA : Strs w w.heap.size A ns) (hB : Strs w w.heap.size B ts) (hL : ActsAt w w.heap.size L xs)
    (s1 : ∀ x ∈ ns, x.length ≤ 140737488351232) (s2 : ∀ x ∈ ts, x.length ≤ 140737488351232) (s3 : ∀ x ∈ xs, x.nm.length ≤ 140737488351232 ∧ x.to.length ≤ 140737488351232 ∧ x.s.length ≤ 140737488351232 ∧ x.ps.length ≤ 140737488351232) (l1 : n ≤ 8796093022208) (l2 : n' ≤ 8796093022208) (l3 : m ≤ 8796093022208)
    (hD : heavyB ns ts xs = false → ∀ W L' cl', Below w.heap.size w W → ActsAt W W.heap.size L' (turn d xs) → Calls Try.prog 32 #[.agg #[.slice A n c, .slice B n' c', .slice L' m cl']] W fun e w' => e = .returned (.bool true) ∧ Below W.heap.size W w') :
    Calls Try.prog 23 #[.agg #[.slice A n c, .slice B n' c', .slice L m cl], .int .i64 d] w fun e w' => e = .returned (.bool true) ∧ Below w.heap.size w w' := by
  obtain ⟨i0, hi, hz0, hz1, hz2⟩ := info_parts info_act
  have hal := (Below.refl w.heap.size w).alloc (Nat.le_refl _) (.cells #[.slice A n c, .slice B n' c', .slice L m cl] 25)
  have HB0 := Lib.hid (Bk.new w 25 #[.slice A n c, .slice B n' c', .slice L m cl])
  have HX0 := Lib.hid hal
  have HH := Lib.hid (heavy_dk ns ts xs A B L n c n' c' m cl (heavyB ns ts xs) _ hn ht hm (hA.on hal) (hB.on hal) (hL.on hal) s1 s2 s3 l1 l2 l3 rfl)
  have HL := Lib.hid hL
  have HM := Lib.hid hm
  cases hhv : heavyB ns ts xs with
  | true =>
    rw [hhv] at HH
    clear hA hB hL s1 s2 s3 hn ht hm hal hD
    go_enter Try.func23, Try.ntmps23
    go_upto_region 1 with fail
    generalize w.alloc _ = wa at HB0 HX0 HH ⊢
    have c0 := HB0.out.cell 0
    have c1 := HB0.out.cell 1
    have c2 := HB0.out.cell 2
    simp at c0 c1 c2
    go_wp2_with fail
    refine HH.out.mono ?_
    rintro e w1 ⟨rfl, hb1⟩
    have HX1 := Lib.hid (HX0.out.trans (hb1.mono HX0.out.size))
    clear hb1 HH
    go_wp2_with fail
    go_ret
    exact ⟨rfl, HX1.out⟩
  | false =>
    have HD := Lib.hid (hD hhv)
    rw [hhv] at HH
    obtain ⟨_, hm200, _⟩ := light hhv
    rw [hm] at hm200
    clear hA hB hL s1 s2 s3 hn ht hm hal hD l1 l2 l3
    go_enter Try.func23, Try.ntmps23
    go_upto_region 1 with fail
    generalize w.alloc _ = wa at HB0 HX0 HH ⊢
    have c0 := HB0.out.cell 0
    have c1 := HB0.out.cell 1
    have c2 := HB0.out.cell 2
    simp at c0 c1 c2
    go_wp2_with fail
    refine HH.out.mono ?_
    rintro e w1 ⟨rfl, hb1⟩
    have hX1 := HX0.out.trans (hb1.mono HX0.out.size)
    have HX1 := Lib.hid hX1
    have HB1 := Lib.hid (HB0.out.below hb1)
    clear hb1 HH c0 c1 c2 hX1
    have c0 := HB1.out.cell 0
    have c1 := HB1.out.cell 1
    have c2 := HB1.out.cell 2
    simp at c0 c1 c2
    go_upto_region 4 with fail
    have HLw := Lib.hid (HL.out.below HX1.out)
    obtain ⟨V, hV⟩ : ∃ V, V = w1 := ⟨_, rfl⟩
    subst hV
    have hI0 : CInv V (.slice A n c) (.slice B n' c') (turn d xs) V.heap.size 0 (V.alloc (.cells #[.slice A n c, .slice B n' c', .slice none 0 0] 25)) := ⟨⟨.slice none 0 0, Bk.new V _ _, World.ownsRow_nil _ _ _ _, by simp [Value.ownBlock]⟩, (Below.refl V.heap.size V).alloc (Nat.le_refl _) _, Nat.le_refl _⟩
    have HI0 := Lib.hid hI0
    clear hI0 c0 c1 c2
    generalize V.alloc _ = w2 at HI0 ⊢
    obtain ⟨gq, hgq⟩ : ∃ gq, V.heap.size = gq := ⟨_, rfl⟩
    have HGQ := Lib.hid hgq
    obtain ⟨g0, hg0⟩ : ∃ g0, w.heap.size = g0 := ⟨_, rfl⟩
    have HG0 := Lib.hid hg0
    have HI0 : Hid (CInv V (.slice A n c) (.slice B n' c') (turn d xs) gq 0 w2) := Lib.hid (by rw [← hgq]; exact HI0.out)
    have hwV : w.heap.size ≤ V.heap.size := HX1.out.size
    rw [hgq]
    clear hgq
    rw [hg0] at HB1 HLw ⊢
    have hg0V : g0 ≤ V.heap.size := by rw [← hg0]; exact hwV
    clear hg0 hwV
    go_wp2_with fail
    go_loopw [6] (fun i wr => ∃ k : Nat, k ≤ m ∧ i = .int .i64 (k : Int) ∧ CInv V (.slice A n c) (.slice B n' c') (turn d xs) gq k wr) (fun i _ => m - (RowKit.intOf i).toNat)
    case atStart => exact ⟨0, Nat.zero_le _, rfl, HI0.out⟩
    case round =>
      obtain ⟨k, hk, rfl, hI⟩ := hrel
      obtain ⟨⟨v, hq, hown, hne⟩, hbe, hge⟩ := hI
      have HO := Lib.hid hown
      have HNe := Lib.hid hne
      have HBe := Lib.hid hbe
      have HGe := Lib.hid hge
      have HQ := Lib.hid hq
      have HP := Lib.hid (HB1.out.below hbe)
      have b2 : wr.cell? ⟨g0, 2, none⟩ = some (.slice L m cl) := HP.out.cell 2
      clear hown hne hbe hge hq
      by_cases hlt : k < m
      · have hkx : k < xs.length := by rw [HM.out]; exact hlt
        have hkI : (k : Int) < (m : Int) := by omega
        obtain ⟨g1, o, rfl, hat⟩ := HLw.out.some_ (by omega)
        have hx := (hat k hkx).below (HBe.out.mono hg0V)
        have HTk : Hid ((turn d xs).take k ++ [turnA d k xs[k]] = (turn d xs).take (k + 1)) := Lib.hid (by
          rw [List.take_add_one, List.getElem?_eq_getElem (by rw [turn_len]; exact hkx), turn_at d xs k hkx (by rw [turn_len]; exact hkx)]
          rfl)
        have e0 := hx.cells 0 (by omega)
        have e1 := hx.cells 1 (by omega)
        have e2 := hx.cells 2 (by omega)
        have e3 := hx.cells 3 (by omega)
        have e4 := hx.cells 4 (by omega)
        have e5 := hx.cells 5 (by omega)
        clear hx hat
        generalize xs[k] = x at *
        unfold acells at e0 e1 e2 e3 e4 e5
        simp only [List.getElem?_cons_zero, List.getElem?_cons_succ, Nat.add_zero] at e0 e1 e2 e3 e4 e5
        go_upto_region 8 with fail
        have hbl := (Below.refl wr.heap.size wr).alloc (Nat.le_refl _) (.cells #[.int .i64 x.d, .int .i64 x.n, .string (str x.nm), .string (str x.to), .string (str x.s), .slice x.P x.ps.length x.pc] 60)
        have HB7 := Lib.hid (Bk.new wr 60 #[.int .i64 x.d, .int .i64 x.n, .string (str x.nm), .string (str x.to), .string (str x.s), .slice x.P x.ps.length x.pc])
        have HW1 := Lib.hid hbl
        clear hbl e0 e1 e2 e3 e4 e5
        generalize wr.alloc _ = W1 at HB7 HW1 ⊢
        obtain ⟨b7, hb7⟩ : ∃ b7, wr.heap.size = b7 := ⟨_, rfl⟩
        have HB7e := Lib.hid hb7
        rw [hb7] at HB7 ⊢
        clear hb7
        have y0 : W1.cell? ⟨b7, 0, none⟩ = some (.int .i64 x.d) := HB7.out.cell 0
        have z0 := HB7.out.frozen 0
        have HB8 : Hid (Bk (W1.setCell ⟨b7, 0, none⟩ (.int .i64 3)) b7 60 #[.int .i64 3, .int .i64 x.n, .string (str x.nm), .string (str x.to), .string (str x.s), .slice x.P x.ps.length x.pc]) := Lib.hid (by simpa using HB7.out.put 0 (.int .i64 3))
        have HW2 := Lib.hid (HW1.out.grown (grown_setCell W1 b7 0 (.int .i64 3)) HW1.out.size (fun j hj => by cases hj; rw [HB7e.out]; exact Nat.le_refl _))
        go_upto_region 9 with fail
        clear y0 z0 HB7 HW1
        generalize W1.setCell _ _ = W2 at HB8 HW2 ⊢
        have hrem : Int.tmod (k : Int) 3 = ((k % 3 : Nat) : Int) := by rw [Int.tmod_eq_emod_of_nonneg (by omega)]; omega
        by_cases h3 : 0 < k % 3
        · have t1 : decide ((0 : Int) < ((k % 3 : Nat) : Int)) = true := by simp; omega
          have t2 : (0 : Int) < ((k % 3 : Nat) : Int) := by omega
          have y0 : W2.cell? ⟨b7, 0, none⟩ = some (.int .i64 3) := HB8.out.cell 0
          have z0 := HB8.out.frozen 0
          have HB9 : Hid (Bk (W2.setCell ⟨b7, 0, none⟩ (.int .i64 d)) b7 60 (acells (turnA d k x)).toArray) := Lib.hid (by
            have e : turnA d k x = { x with d := d } := by unfold turnA; rw [if_pos h3]
            rw [e]
            simpa [acells] using HB8.out.put 0 (.int .i64 d))
          have HW3 := Lib.hid (HW2.out.grown (grown_setCell W2 b7 0 (.int .i64 d)) HW2.out.size (fun j hj => by cases hj; rw [HB7e.out]; exact Nat.le_refl _))
          go_upto_region 11 with fail
          clear y0 z0 HB8 HW2
          generalize W2.setCell _ _ = W3 at HB9 HW3 ⊢
          have HQ3 := Lib.hid (HQ.out.below HW3.out)
          have htd : (turnA d k x).d = d := by unfold turnA; exact if_pos h3
          have hty : acells (turnA d k x) = [.int .i64 d, .int .i64 x.n, .string (str x.nm), .string (str x.to), .string (str x.s), .slice x.P x.ps.length x.pc] := by
            show [Value.int .i64 (turnA d k x).d, _, _, _, _, _] = _
            rw [htd]; rfl
          have HB9 : Hid (Bk W3 b7 60 #[.int .i64 d, .int .i64 x.n, .string (str x.nm), .string (str x.to), .string (str x.s), .slice x.P x.ps.length x.pc]) := Lib.hid (by
            have := HB9.out
            rw [hty] at this
            exact this)
          have HTy := Lib.hid hty
          clear hty htd
          · skip
            have h0 : W3.cell? ⟨gq, 2, none⟩ = some v := HQ3.out.cell 2
            have a0 := HB9.out.cell 0
            have a1 := HB9.out.cell 1
            have a2 := HB9.out.cell 2
            have a3 := HB9.out.cell 3
            have a4 := HB9.out.cell 4
            have a5 := HB9.out.cell 5
            simp only [List.getElem?_toArray, List.getElem?_cons_zero, List.getElem?_cons_succ] at a0 a1 a2 a3 a4 a5
            have HO3 := Lib.hid (own_below HO.out HW3.out)
            have hs3 := HW3.out.size
            go_wp2_with (at_builtin; go_must (refine wpList_append_own_at _ rfl (.tmp 34) (.tmp 36) _ rfl V.heap.size 60 i0 (.agg #[.int .i64 0, .int .i64 0, .string ⟨#[]⟩, .string ⟨#[]⟩, .string ⟨#[]⟩, .slice none 0 0]) 6 88 Try.underlying23 hi hz0 hz1 hz2 rfl (by decide) v k _ rfl (HO3.out.alloc _) ⟨W3.heap.size, 0, none⟩ 1 1 [.int .i64 d, .int .i64 x.n, .string (str x.nm), .string (str x.to), .string (str x.s), .slice x.P x.ps.length x.pc] rfl rfl ?c1 (by rw [← HTy.out]; exact acells_one _) (by unfold maxLen; omega) (by omega) ?c2 ?_))
            try (case c1 =>
              intro j u hu
              have hb := (Bk.new W3 60 #[.int .i64 d, .int .i64 x.n, .string (str x.nm), .string (str x.to), .string (str x.s), .slice x.P x.ps.length x.pc]).cell j
              rw [add_new]
              refine hb.trans ?_
              rw [List.getElem?_toArray]
              exact hu)
            case c2 =>
              have := HBe.out.size
              simp; omega
            intro v' W5 ho5 hg5 hn5 hloc5
            obtain ⟨A', c5, hv'⟩ : ∃ A' c5, v' = .slice A' (k + 1) c5 := by
              rcases ho5.2 with ⟨hv, h0⟩ | ⟨g, cap, cur, hv, _⟩
              · exact ⟨none, 0, by rw [hv, h0]⟩
              · exact ⟨_, _, hv⟩
            subst hv'
            have hq5 := (HQ3.out.alloc (.cells #[.int .i64 d, .int .i64 x.n, .string (str x.nm), .string (str x.to), .string (str x.s), .slice x.P x.ps.length x.pc] 60)).grown hg5 (fun e => HNe.out e.symm)
            have h5 : W5.cell? ⟨gq, 2, none⟩ = some v := hq5.cell 2
            have f5 := hq5.frozen 2
            have hne5 : (Value.slice A' (k + 1) c5).ownBlock ≠ some gq := fun e => by
              rcases hloc5 with h1 | h1
              · exact HNe.out (h1.symm.trans e)
              · rw [h1] at e
                injection e with e
                have h2 : (W3.alloc (.cells #[.int .i64 d, .int .i64 x.n, .string (str x.nm), .string (str x.to), .string (str x.s), .slice x.P x.ps.length x.pc] 60)).heap.size = W3.heap.size + 1 := by simp
                have := HQ3.out.lt
                omega
            have hb5 : Below V.heap.size V W5 := ((HBe.out.trans (HW3.out.mono HBe.out.size)).alloc (Nat.le_trans HBe.out.size hs3) (.cells #[.int .i64 d, .int .i64 x.n, .string (str x.nm), .string (str x.to), .string (str x.s), .slice x.P x.ps.length x.pc] 60)).grown hg5 (by have := HBe.out.size; simp; omega) (fun j hj => (HO.out.lt j hj).1)
            have hg6 := grown_setCell W5 gq 2 (.slice A' (k + 1) c5)
            have ho6 := own_kept0 ho5 hg6 (fun j hj e => by injection e with e; exact hne5 (by rw [hj, e]))
            have hq6 : Bk (W5.setCell ⟨gq, 2, none⟩ (.slice A' (k + 1) c5)) gq 25 #[.slice A n c, .slice B n' c', (.slice A' (k + 1) c5)] := by simpa using hq5.put 2 (.slice A' (k + 1) c5)
            have hb6 := hb5.grown hg6 hb5.size (fun j hj => by cases hj; exact HGe.out)
            have HI6 : Hid (CInv V (.slice A n c) (.slice B n' c') (turn d xs) gq (k + 1) (W5.setCell ⟨gq, 2, none⟩ (.slice A' (k + 1) c5))) := Lib.hid ⟨⟨.slice A' (k + 1) c5, hq6, by rw [← HTk.out, aflat_snoc, HTy.out]; exact ho6, hne5⟩, hb6, HGe.out⟩
            clear ho5 hg5 hn5 hloc5 hq5 hne5 hb5 hg6 ho6 hq6 hb6 h0 a0 a1 a2 a3 a4 a5
            go_wp2_with fail
            go_roundw
            case rel => exact ⟨k + 1, hlt, by go_num, HI6.out⟩
            case measure => simp [RowKit.intOf]; omega
        · have t1 : decide ((0 : Int) < ((k % 3 : Nat) : Int)) = false := by simp; omega
          have t2 : ¬ (0 : Int) < ((k % 3 : Nat) : Int) := by omega
          have HB9 : Hid (Bk W2 b7 60 #[.int .i64 3, .int .i64 x.n, .string (str x.nm), .string (str x.to), .string (str x.s), .slice x.P x.ps.length x.pc]) := HB8
          go_upto_region 11 with fail
          obtain ⟨W3, hW3⟩ : ∃ W3, W3 = W2 := ⟨_, rfl⟩
          subst hW3
          have HW3 := HW2
          have HQ3 := Lib.hid (HQ.out.below HW3.out)
          have htd : (turnA d k x).d = 3 := by unfold turnA; exact if_neg h3
          have hty : acells (turnA d k x) = [.int .i64 3, .int .i64 x.n, .string (str x.nm), .string (str x.to), .string (str x.s), .slice x.P x.ps.length x.pc] := by
            show [Value.int .i64 (turnA d k x).d, _, _, _, _, _] = _
            rw [htd]; rfl
          have HTy := Lib.hid hty
          clear hty htd
          · skip
            have h0 : W3.cell? ⟨gq, 2, none⟩ = some v := HQ3.out.cell 2
            have a0 := HB9.out.cell 0
            have a1 := HB9.out.cell 1
            have a2 := HB9.out.cell 2
            have a3 := HB9.out.cell 3
            have a4 := HB9.out.cell 4
            have a5 := HB9.out.cell 5
            simp only [List.getElem?_toArray, List.getElem?_cons_zero, List.getElem?_cons_succ] at a0 a1 a2 a3 a4 a5
            have HO3 := Lib.hid (own_below HO.out HW3.out)
            have hs3 := HW3.out.size
            go_wp2_with (at_builtin; go_must (refine wpList_append_own_at _ rfl (.tmp 34) (.tmp 36) _ rfl V.heap.size 60 i0 (.agg #[.int .i64 0, .int .i64 0, .string ⟨#[]⟩, .string ⟨#[]⟩, .string ⟨#[]⟩, .slice none 0 0]) 6 88 Try.underlying23 hi hz0 hz1 hz2 rfl (by decide) v k _ rfl (HO3.out.alloc _) ⟨W3.heap.size, 0, none⟩ 1 1 [.int .i64 3, .int .i64 x.n, .string (str x.nm), .string (str x.to), .string (str x.s), .slice x.P x.ps.length x.pc] rfl rfl ?c3 (by rw [← HTy.out]; exact acells_one _) (by unfold maxLen; omega) (by omega) ?c4 ?_))
            try (case c3 =>
              intro j u hu
              have hb := (Bk.new W3 60 #[.int .i64 3, .int .i64 x.n, .string (str x.nm), .string (str x.to), .string (str x.s), .slice x.P x.ps.length x.pc]).cell j
              rw [add_new]
              refine hb.trans ?_
              rw [List.getElem?_toArray]
              exact hu)
            case c4 =>
              have := HBe.out.size
              simp; omega
            intro v' W5 ho5 hg5 hn5 hloc5
            obtain ⟨A', c5, hv'⟩ : ∃ A' c5, v' = .slice A' (k + 1) c5 := by
              rcases ho5.2 with ⟨hv, h0⟩ | ⟨g, cap, cur, hv, _⟩
              · exact ⟨none, 0, by rw [hv, h0]⟩
              · exact ⟨_, _, hv⟩
            subst hv'
            have hq5 := (HQ3.out.alloc (.cells #[.int .i64 3, .int .i64 x.n, .string (str x.nm), .string (str x.to), .string (str x.s), .slice x.P x.ps.length x.pc] 60)).grown hg5 (fun e => HNe.out e.symm)
            have h5 : W5.cell? ⟨gq, 2, none⟩ = some v := hq5.cell 2
            have f5 := hq5.frozen 2
            have hne5 : (Value.slice A' (k + 1) c5).ownBlock ≠ some gq := fun e => by
              rcases hloc5 with h1 | h1
              · exact HNe.out (h1.symm.trans e)
              · rw [h1] at e
                injection e with e
                have h2 : (W3.alloc (.cells #[.int .i64 3, .int .i64 x.n, .string (str x.nm), .string (str x.to), .string (str x.s), .slice x.P x.ps.length x.pc] 60)).heap.size = W3.heap.size + 1 := by simp
                have := HQ3.out.lt
                omega
            have hb5 : Below V.heap.size V W5 := ((HBe.out.trans (HW3.out.mono HBe.out.size)).alloc (Nat.le_trans HBe.out.size hs3) (.cells #[.int .i64 3, .int .i64 x.n, .string (str x.nm), .string (str x.to), .string (str x.s), .slice x.P x.ps.length x.pc] 60)).grown hg5 (by have := HBe.out.size; simp; omega) (fun j hj => (HO.out.lt j hj).1)
            have hg6 := grown_setCell W5 gq 2 (.slice A' (k + 1) c5)
            have ho6 := own_kept0 ho5 hg6 (fun j hj e => by injection e with e; exact hne5 (by rw [hj, e]))
            have hq6 : Bk (W5.setCell ⟨gq, 2, none⟩ (.slice A' (k + 1) c5)) gq 25 #[.slice A n c, .slice B n' c', (.slice A' (k + 1) c5)] := by simpa using hq5.put 2 (.slice A' (k + 1) c5)
            have hb6 := hb5.grown hg6 hb5.size (fun j hj => by cases hj; exact HGe.out)
            have HI6 : Hid (CInv V (.slice A n c) (.slice B n' c') (turn d xs) gq (k + 1) (W5.setCell ⟨gq, 2, none⟩ (.slice A' (k + 1) c5))) := Lib.hid ⟨⟨.slice A' (k + 1) c5, hq6, by rw [← HTk.out, aflat_snoc, HTy.out]; exact ho6, hne5⟩, hb6, HGe.out⟩
            clear ho5 hg5 hn5 hloc5 hq5 hne5 hb5 hg6 ho6 hq6 hb6 h0 a0 a1 a2 a3 a4 a5
            go_wp2_with fail
            go_roundw
            case rel => exact ⟨k + 1, hlt, by go_num, HI6.out⟩
            case measure => simp [RowKit.intOf]; omega
      · have hkI : ¬ (k : Int) < (m : Int) := by omega
        obtain rfl : k = m := by omega
        have hown := HO.out
        rw [List.take_of_length_le (by rw [turn_len, HM.out]; exact Nat.le_refl _)] at hown
        have hb2' := hown.2
        obtain ⟨L', cl', rfl⟩ : ∃ L' cl', v = .slice L' k cl' := by
          rcases hb2' with ⟨hv, h0⟩ | ⟨g, cap, cur, hv, _⟩
          · exact ⟨none, 0, by rw [hv, h0]⟩
          · exact ⟨_, _, hv⟩
        have hlen : (turn d xs).length = k := by rw [turn_len, HM.out]
        have hpk : ∀ y ∈ turn d xs, Nums wr g0 .i64 y.P y.ps := fun y hy => by
          obtain ⟨j, hj, e⟩ := List.mem_iff_getElem.1 hy
          have hjx : j < xs.length := by rw [turn_len] at hj; exact hj
          rw [turn_at d xs j hjx hj] at e
          obtain ⟨g1, o, _, hat⟩ := HLw.out.some_ (by omega)
          have := ((hat j hjx).below (HBe.out.mono hg0V)).picks
          rw [← e]
          exact this
        have hact : ActsAt wr wr.heap.size L' (turn d xs) := ActsAt.of_own (base := V.heap.size) (c := cl') (B := g0) (by rw [hlen]; exact hown) hpk (Nat.le_trans hg0V HBe.out.size)
        have hXw : Below w.heap.size w wr := HX1.out.trans (HBe.out.mono HX1.out.size)
        have HDx := Lib.hid (HD.out wr L' cl' hXw hact)
        have HXw := Lib.hid hXw
        have q0 : wr.cell? ⟨gq, 0, none⟩ = some (.slice A n c) := HQ.out.cell 0
        have q1 : wr.cell? ⟨gq, 1, none⟩ = some (.slice B n' c') := HQ.out.cell 1
        have q2 : wr.cell? ⟨gq, 2, none⟩ = some (.slice L' k cl') := HQ.out.cell 2
        clear hown hb2' hlen hpk hact hXw HD hlt
        go_wp2_with fail
        refine HDx.out.mono ?_
        rintro e w9 ⟨rfl, hb9⟩
        have HX9 := Lib.hid (HXw.out.trans (hb9.mono HXw.out.size))
        clear hb9 HDx
        go_wp2_with fail
        go_ret
        exact ⟨rfl, HX9.out⟩
end Go.Proofs.Ytgimecgdfcckbaa.Dsk
