/- Texts of the proof, part 6: RcEqRecs, SgREq, KpEqSegs, KpRRecs, SgRSeg. -/
import Derived.Test.YtgadgmcabjnjjaaW05
/- Records held against each other. -/
namespace Go.Proofs.Ytgadgmcabjnjjaa
open Go.RowKit Go.Lib Rcd

set_option maxRecDepth 100000 in
set_option maxHeartbeats 1000000 in
/-- EqRecs of the same records: yes. -/
theorem EqRecs_same (l : List Rc) (A A' : Option Addr) (c c' B B' : Nat) (w : World) (hm : l.length ≤ 9223372036854775807) (h : RecsAt w B A l) (h' : RecsAt w B' A' l) :
    Calls Try.prog 36 #[.slice A l.length c, .slice A' l.length c'] w fun e w' => e = .returned (.bool true) ∧ Below w.heap.size w w' := by
  have H := Lib.hid h
  have H' := Lib.hid h'
  clear h h'
  go_enter Try.func36, Try.ntmps36
  go_wp2_with fail
  go_loopw [5] (fun i wr => ∃ k n : Nat, k ≤ l.length ∧ i = .int .i64 (k : Int) ∧ wr = w.drewN n) (fun i _ => l.length - (RowKit.intOf i).toNat)
  case atStart => exact ⟨0, 0, Nat.zero_le _, rfl, rfl⟩
  case round =>
    obtain ⟨k, n, hk, rfl, rfl⟩ := hrel
    by_cases hlt : k < l.length
    · obtain ⟨b, o, rfl, _, hc⟩ := H.out.some_ (by omega)
      obtain ⟨b', o', rfl, _, hc'⟩ := H'.out.some_ (by omega)
      have h1 := hc k hlt
      have h2 := hc' k hlt
      clear hc hc' H H'
      obtain ⟨x, t, ks, bs, q, g⟩ := l[k]
      obtain ⟨c0, c1, c2, c3, c4, c5⟩ := h1
      obtain ⟨d0, d1, d2, d3, d4, d5⟩ := h2
      generalize str ks = kz at c2 d2
      generalize str bs = bz at c3 d3
      have hkI : (k : Int) < (l.length : Int) := by omega
      have hne := neq_rec x t kz bz q g
      unfold rarr at hne
      go_wp2
      go_quiet (fail)
      go_wp2
      go_roundw
      case rel => exact ⟨k + 1, _, hlt, by go_num, rfl⟩
      case measure => simp [RowKit.intOf]; omega
    · go_wp2
      go_ret
      exact ⟨rfl, below_drewN (Below.refl _ _) n⟩

end Go.Proofs.Ytgadgmcabjnjjaa
/- The document's own answer: a segment held against itself. -/
namespace Go.Proofs.Ytgadgmcabjnjjaa
open Go.RowKit Go.Lib Rcd

set_option maxRecDepth 100000 in
set_option maxHeartbeats 4000000 in
/-- fairwayref0.EqSeg, of the same segment. -/
theorem EqSeg_same (b : Int) (l : List Rc) (A A' : Option Addr) (c c' B B' : Nat) (w : World) (hm : l.length ≤ 9223372036854775807) (hB : B ≤ w.heap.size) (hB' : B' ≤ w.heap.size) (h : RecsAt w B A l) (h' : RecsAt w B' A' l) :
    Calls Try.prog 21 #[.agg #[.int .i64 b, .slice A l.length c], .agg #[.int .i64 b, .slice A' l.length c']] w fun e w' => e = .returned (.bool true) ∧ Below w.heap.size w w' := by
  have hD := Duo.new w 48 48 (sarr b A l.length c) (sarr b A' l.length c')
  have HC := Lib.hid (fun W (hb : Below w.heap.size w W) => EqRecs_same l A A' c c' B B' W hm (h.below (hb.mono hB)) (h'.below (hb.mono hB')))
  obtain ⟨p, hp⟩ : ∃ p, w.heap.size = p := ⟨_, rfl⟩
  obtain ⟨W0, hW⟩ : ∃ W0, (w.alloc (.cells (sarr b A l.length c) 48)).alloc (.cells (sarr b A' l.length c') 48) = W0 := ⟨_, rfl⟩
  rw [hW, hp] at hD
  unfold sarr at hD hW
  have D0 := Lib.hid hD
  have HW := Lib.hid hW
  have HP := Lib.hid hp
  clear hD hW hp h h'
  go_enter Try.func21, Try.ntmps21
  go_upto_region 1 with fail
  rw [HW.out, HP.out]
  clear HW HP
  have d0 : W0.cell? ⟨p, 0, none⟩ = some (.int .i64 b) := D0.out.cell1 0
  have d1 : W0.cell? ⟨p, 1, none⟩ = some (.slice A l.length c) := D0.out.cell1 1
  have e0 : W0.cell? ⟨p + 1, 0, none⟩ = some (.int .i64 b) := D0.out.cell2 0
  have e1 : W0.cell? ⟨p + 1, 1, none⟩ = some (.slice A' l.length c') := D0.out.cell2 1
  go_wp2_with fail
  refine (HC.out _ D0.out.bel).mono ?_
  rintro e w1 ⟨rfl, hb1⟩
  have D1 := Lib.hid (D0.out.below hb1)
  clear D0 hb1 HC d0 d1 e0 e1
  go_wp2_with fail
  go_ret
  exact ⟨rfl, D1.out.bel⟩
end Go.Proofs.Ytgadgmcabjnjjaa
/- The document's own answer: segments held against the same segments. -/
namespace Go.Proofs.Ytgadgmcabjnjjaa.Kpd
open Go.RowKit Go.Lib Rcd

/-- All that was there ahead of the call. -/
@[irreducible] def Bel (w W : World) : Prop := Below w.heap.size w W
section
variable {w W W' : World}
theorem Bel.mk (h : Below w.heap.size w W) : Bel w W := by unfold Bel; exact h
theorem Bel.out (h : Bel w W) : Below w.heap.size w W := by unfold Bel at h; exact h
theorem Bel.below (h : Bel w W) (hb : Below W.heap.size W W') : Bel w W' := .mk (bel_step h.out hb)
theorem Bel.drewN (h : Bel w W) (n : Nat) : Bel w (W.drewN n) := .mk (below_drewN h.out n)
end

set_option maxRecDepth 100000 in
set_option maxHeartbeats 8000000 in
/-- fairwayref0.EqSegs, of the same segments. -/
theorem EqSegs_same (l : List Sp) (N : Nat) (A A' : Option Addr) (c c' B B' : Nat) (w : World) (hN : l.length = N) (hm : N ≤ 9223372036854775807) (hB : B ≤ w.heap.size) (hB' : B' ≤ w.heap.size) (h : SegsAt w B A l) (h' : SegsAt w B' A' l) :
    Calls Try.prog 18 #[.slice A N c, .slice A' N c'] w fun e w' => e = .returned (.bool true) ∧ Below w.heap.size w w' := by
  have H := Lib.hid (h.mono hB)
  have H' := Lib.hid (h'.mono hB')
  have HN := Lib.hid hN
  clear h h' hB hB' hN
  go_enter Try.func18, Try.ntmps18
  go_wp2_with fail
  go_loopw [5] (fun i wr => ∃ k : Nat, k ≤ N ∧ i = .int .i64 (k : Int) ∧ Bel w wr) (fun i _ => N - (RowKit.intOf i).toNat)
  case atStart => exact ⟨0, Nat.zero_le _, rfl, .mk (Below.refl _ _)⟩
  case round =>
    obtain ⟨k, hk, rfl, hbl⟩ := hrel
    have HB := Lib.hid hbl
    clear hbl
    by_cases hlt : k < N
    · have hlr : k < l.length := by rw [HN.out]; exact hlt
      obtain ⟨b0, o0, rfl, hb0, hc⟩ := H.out.some_ (by omega)
      obtain ⟨b1, o1, rfl, hb1, hc'⟩ := H'.out.some_ (by omega)
      obtain ⟨A1, c1, hsg⟩ := hc k hlr
      obtain ⟨A2, c2, hsg'⟩ := hc' k hlr
      clear hc hc' H H'
      generalize l[k] = s at hsg hsg'
      obtain ⟨sb, srs⟩ := s
      obtain ⟨s0, s1, hA, _, hlim⟩ := hsg
      obtain ⟨t0, t1, hA', _, _⟩ := hsg'
      dsimp only at s0 s1 hA hlim t0 t1 hA'
      have HEQ := Lib.hid (fun W (hb : Bel w W) => EqSeg_same sb srs A1 A2 c1 c2 w.heap.size w.heap.size W (by omega) hb.out.size hb.out.size (hA.below hb.out) (hA'.below hb.out))
      have hkI : (k : Int) < (N : Int) := by omega
      obtain ⟨M, hM⟩ : ∃ M, srs.length = M := ⟨_, rfl⟩
      rw [hM] at s1 t1 HEQ
      have st0 := HB.out
      haveI : Nonempty (In (Bel w)) := ⟨⟨_, st0⟩⟩
      have kl := fun u : In (Bel w) => load_seg_at ((u.h.out.cell (p := ⟨b0, o0 + k * 2, none⟩) hb0).trans s0) ((u.h.out.cell (p := ⟨b0, o0 + k * 2 + 1, none⟩) hb0).trans s1)
      have kt := fun u : In (Bel w) => load_seg_at ((u.h.out.cell (p := ⟨b1, o1 + k * 2, none⟩) hb1).trans t0) ((u.h.out.cell (p := ⟨b1, o1 + k * 2 + 1, none⟩) hb1).trans t1)
      clear s0 s1 t0 t1 hA hA' hlim hM hlr HB
      go_upto_region 6 with fail
      refine region_in (S := Bel w) (by kernel_rfl) (by kernel_rfl) (st0.drewN 1) ?_
      iterate 3 (go_big_quiet_step (fail))
      go_big_quiet_want
      refine quiet_load_in 48 (.tmp 19) rfl b0 (o0 + k * 2) rfl _ kl ?_
      go_simp
      go_big_quiet_on
      iterate 3 (go_big_quiet_step (fail))
      go_big_quiet_want
      refine quiet_load_in 48 (.tmp 23) rfl b1 (o1 + k * 2) rfl _ kt ?_
      go_simp
      go_big_quiet_on
      repeat (go_big_quiet_step (first | (go_at_call 21; exact in_call ((HEQ.out _ (In.h _)).mono fun _ _ h => ⟨h.1, Bel.below (In.h _) h.2⟩))))
      refine wpQuiet_nil ?_
      rintro _ ⟨⟨w7, st7⟩, rfl⟩
      have S7 := Lib.hid st7
      clear this st0 st7 kl kt HEQ
      (try simp only [Bool.not_true, Bool.not_false])
      go_wp2_with fail
      go_roundw
      case rel => exact ⟨k + 1, hlt, by go_num, S7.out⟩
      case measure => simp [RowKit.intOf]; omega
    · obtain rfl : k = N := by omega
      go_wp2_with fail
      go_ret
      exact ⟨rfl, HB.out.out⟩
end Go.Proofs.Ytgadgmcabjnjjaa.Kpd
/- The document's own answer: the records of segments, in order. -/
namespace Go.Proofs.Ytgadgmcabjnjjaa.Kpd
open Go.RowKit Go.Lib Rcd

theorem recs_cells {w : World} {B : Nat} {a : Addr} {rs : List Rc} (h : RecsAt w B (some a) rs) : ∀ j u, (flat rs)[j]? = some u → w.cell? (a.add j) = some u := by
  intro j u hu
  have hj := (List.getElem?_eq_some_iff.1 hu).1
  rw [flat_len] at hj
  rcases h with rfl | ⟨b, o, ha, _, hc⟩
  · simp at hj
  · injection ha with ha
    subst ha
    have hq : j / 6 < rs.length := by omega
    have hr := hc (j / 6) hq
    have e : (flat rs)[j / 6 * 6 + j % 6]? = some u := by rw [show j / 6 * 6 + j % 6 = j by omega]; exact hu
    rw [flat_at rs (j / 6) (j % 6) hq (by omega)] at e
    rw [Addr.add_lit, show o + j = o + j / 6 * 6 + j % 6 by omega]
    obtain ⟨i, hi⟩ : ∃ i, j % 6 = i := ⟨_, rfl⟩
    have hi6 : i < 6 := by omega
    rw [hi] at e ⊢
    match i, hi6, e with
    | 0, _, e => rw [← e]; exact hr.c0
    | 1, _, e => rw [← e]; exact hr.c1
    | 2, _, e => rw [← e]; exact hr.c2
    | 3, _, e => rw [← e]; exact hr.c3
    | 4, _, e => rw [← e]; exact hr.c4
    | 5, _, e => rw [← e]; exact hr.c5
/-- Nothing behind a row of the call's own. -/
theorem append_none {w : World} {base : Nat} (t ty e : TypeId) (i : TypeInfo) (size c : Nat) (ht : Try.prog.underlying t = some (.slice e)) (hi : Try.prog.info? e = some i)
    {v : Value} {n : Nat} {xs : List Value} (hown : w.ownsRow base e size v n xs) :
    (Builtin.append_ #[t, t] ty #[v, .slice none 0 c]).run Try.prog w = .ok v w := by
  rcases hown.2 with ⟨rfl, rfl⟩ | ⟨g, cap, cur, rfl, _, _, hnc, _⟩
  · simp [Builtin.append_, run_underlying ht, sizeOf, typeInfo, hi, Builtin.lenOf, Builtin.firstCells]
  · simp [Builtin.append_, run_underlying ht, sizeOf, typeInfo, hi, Builtin.lenOf, Builtin.firstCells, hnc, storeCells]
/-- Records behind records of the call's own. -/
theorem run_more {W : World} {B B' n M c : Nat} {v : Value} {xs : List Value} {A : Option Addr} {rs : List Rc} (hown : W.ownsRow B 51 6 v n xs) (hM : rs.length = M) (h : RecsAt W B' A rs) (hnm : n + M ≤ 1000000) (hB : B ≤ W.heap.size) :
    ∃ v' W', (Builtin.append_ #[46, 46] 46 #[v, .slice A M c]).run Try.prog W = .ok v' W' ∧ W'.ownsRow B 51 6 v' (n + M) (xs ++ flat rs) ∧ W.grownBy W' v.ownBlock := by
  obtain ⟨i0, hi, hz0, hz1, hz2⟩ := info_parts info_more
  cases A with
  | some a =>
    obtain ⟨v', w', hr, h2, h3, _⟩ := run_append_own (P := Try.prog) W B 46 46 51 i0 _ 6 64 Try.underlying46 hi hz0 hz1 hz2 rfl (by omega) v n xs hown a M c (flat rs) (by rw [flat_len, hM]) (recs_cells h) (flat_one rs) (by unfold maxLen; omega) (by omega) hB
    exact ⟨v', w', hr, h2, h3⟩
  | none =>
    have h0 : rs = [] := by
      rcases h with h | ⟨b, o, ha, _⟩
      · exact h
      · cases ha
    subst h0
    obtain rfl : M = 0 := by rw [← hM]; rfl
    refine ⟨v, W, ?_, by simpa [flat] using hown, World.grownBy.refl _ _⟩
    exact append_none 46 46 51 i0 6 c Try.underlying46 hi hown
theorem wpList_app {ops : Array Oper} {rest : List Oper} {o : Oper} {a : Act} {Q : Exit → Act → World → Prop} {w : World} (hgd : o.guard = none) (s x : Operand) (t : TypeId) (ho : o.op = .call { callee := .builtin .append, args := #[s, x], argTypes := #[t, t] })
    (v xv v' : Value) (w' : World) (hs : a.eval s = v) (hx : a.eval x = xv) (hr : (Builtin.append_ #[t, t] o.type #[v, xv]).run Try.prog w = .ok v' w') (h : wpList Try.prog ops Q rest (a.put o.dst v') w') : wpList Try.prog ops Q (o :: rest) a w := by
  refine wpList_plain hgd fun K hK => ?_
  unfold Oper.wp execOp
  simp only [ho, resolve, invoke, builtin, Sem.run_bind, Sem.run_pure, Result.andThen_ok, List.map_toArray, List.map_cons, List.map_nil, hs, hx, hr]
  exact hK _ _ h

set_option maxRecDepth 100000 in
set_option maxHeartbeats 8000000 in
/-- fairwayref13.Recs. -/
theorem RRecs_is (l : List Sp) (N M : Nat) (A : Option Addr) (c B : Nat) (w : World) (hN : l.length = N) (hm : N ≤ 9223372036854775807) (hM : (recsOf l).length = M) (hM2 : M ≤ 1000000) (hB : B ≤ w.heap.size) (h : SegsAt w B A l) :
    Calls Try.prog 34 #[.slice A N c] w fun e w' => ∃ A' c', e = .returned (.slice A' M c') ∧ RecsAt w' w'.heap.size A' (recsOf l) ∧ Below w.heap.size w w' := by
  have H := Lib.hid (h.mono hB)
  have HN := Lib.hid hN
  have HMM := Lib.hid hM
  have HM2 := Lib.hid hM2
  clear h hB hN hM hM2
  go_enter Try.func34, Try.ntmps34
  go_wp2_with fail
  go_loopw [3, 4] (fun v i wr => ∃ k n : Nat, k ≤ N ∧ i = .int .i64 (k : Int) ∧ (recsOf (l.take k)).length = n ∧ wr.ownsRow w.heap.size 51 6 v n (flat (recsOf (l.take k))) ∧ Below w.heap.size w wr) (fun _ i _ => N - (RowKit.intOf i).toNat)
  case atStart => exact ⟨0, 0, Nat.zero_le _, rfl, rfl, World.ownsRow_nil _ _ _ _, Below.refl _ _⟩
  case round =>
    obtain ⟨k, n, hk, rfl, hn, hown, hbl⟩ := hrel
    have HO := Lib.hid hown
    have HB := Lib.hid hbl
    have HNN := Lib.hid hn
    clear hown hbl hn
    by_cases hlt : k < N
    · have hlr : k < l.length := by rw [HN.out]; exact hlt
      obtain ⟨b0, o0, rfl, hb0, hc⟩ := (H.out.below HB.out).some_ (by omega)
      obtain ⟨A1, c1, hsg⟩ := hc k hlr
      have hnx := recs_next hlr
      have hle := recs_take_le l (k + 1)
      clear hc
      generalize l[k] = s at hsg hnx
      obtain ⟨sb, srs⟩ := s
      obtain ⟨s0, s1, hA, _, hlim⟩ := hsg
      dsimp only at s0 s1 hA hnx
      obtain ⟨M1, hM1⟩ : ∃ M1, srs.length = M1 := ⟨_, rfl⟩
      rw [hM1] at s1
      have hlen : (recsOf (l.take (k + 1))).length = n + M1 := by rw [hnx, List.length_append, HNN.out, hM1]
      have hnm : n + M1 ≤ 1000000 := by rw [← hlen]; rw [HMM.out] at hle; exact Nat.le_trans hle HM2.out
      obtain ⟨v', W', hr, hown', hgr⟩ := run_more (c := c1) HO.out hM1 hA hnm HB.out.size
      have HB2 := Lib.hid (HB.out.trans (below_grown HB.out.size HO.out hgr))
      have HO2 : Hid (W'.ownsRow w.heap.size 51 6 v' (n + M1) (flat (recsOf (l.take (k + 1))))) := by show World.ownsRow _ _ _ _ _ _ _; rw [hnx, flat_app]; exact hown'
      have HL2 := Lib.hid hlen
      clear hlen hnm hown' hgr hnx hle hA hlim hM1 HO HB HNN hlr
      have e1 : (k : Int) < (N : Int) := by omega
      go_wp2_with (at_builtin; refine wpList_app rfl (.tmp 11) (.tmp 16) _ rfl _ _ _ _ rfl rfl hr ?_)
      clear hr s0 s1
      go_roundw
      case rel => exact ⟨k + 1, n + M1, hlt, by go_num, HL2.out, HO2.out, HB2.out⟩
      case measure => simp [RowKit.intOf]; omega
    · obtain rfl : k = N := by omega
      rw [List.take_of_length_le (by rw [HN.out]; exact Nat.le_refl _)] at HO HNN
      obtain rfl : n = M := by rw [← HNN.out, HMM.out]
      obtain ⟨A', c', hv⟩ := row_slice HO.out
      subst hv
      have hat : RecsAt wr wr.heap.size A' (recsOf l) := by
        have := HO.out
        rw [← HNN.out] at this
        exact .of_own this
      have HAT := Lib.hid hat
      clear hat
      go_wp2_with fail
      go_ret
      exact ⟨A', c', rfl, HAT.out, HB.out⟩
end Go.Proofs.Ytgadgmcabjnjjaa.Kpd
/- The document's own answer: whether a segment may be. -/
namespace Go.Proofs.Ytgadgmcabjnjjaa
open Go.RowKit Go.Lib Rcd

theorem load_parts {W : World} {g o : Nat} {x t : Int} {k b : ByteArray} {q : Int} {h : Bool} (c0 : W.cell? ⟨g, o, none⟩ = some (.int .i64 x)) (c1 : W.cell? ⟨g, o + 1, none⟩ = some (.int .i64 t)) (c2 : W.cell? ⟨g, o + 2, none⟩ = some (.string k)) (c3 : W.cell? ⟨g, o + 3, none⟩ = some (.string b)) (c4 : W.cell? ⟨g, o + 4, none⟩ = some (.int .i64 q)) (c5 : W.cell? ⟨g, o + 5, none⟩ = some (.bool h)) :
    (loadVar 51 ⟨g, o, none⟩).run Try.prog W = .ok (.agg #[.int .i64 x, .int .i64 t, .string k, .string b, .int .i64 q, .bool h]) W :=
  run_loadVar_mid W g o 51 [.int .i64 x, .int .i64 t, .string k, .string b, .int .i64 q, .bool h] _ (fun j v hv => by
    match j, hv with
    | 0, hv => rw [← hv]; exact c0
    | 1, hv => rw [← hv]; exact c1
    | 2, hv => rw [← hv]; exact c2
    | 3, hv => rw [← hv]; exact c3
    | 4, hv => rw [← hv]; exact c4
    | 5, hv => rw [← hv]; exact c5) Try.underlying51 rfl info_rec

/-- So many of the first ones are as the document asks. -/
def DocTo (b : Int) (rs : List Rc) (k : Nat) : Prop := ∀ j, j < rs.length → j < k → docAt b rs j

set_option maxRecDepth 100000 in
set_option maxHeartbeats 16000000 in
/-- fairwayref10.Seg. -/
theorem RSeg_is (b : Int) (rs : List Rc) (N : Nat) (A : Option Addr) (c B : Nat) (X0 : Bool) (w : World) (hN : rs.length = N) (hm : N ≤ 9223372036854775807) (hB : B ≤ w.heap.size) (h : RecsAt w B A rs) (hX : segB b rs = X0) :
    Calls Try.prog 33 #[.agg #[.int .i64 b, .slice A N c]] w fun e w' => e = .returned (.bool X0) ∧ Below w.heap.size w w' := by
  have R0 := Lib.hid (RBox.new w 48 (sarr b A N c))
  obtain ⟨p, hp⟩ : ∃ p, w.heap.size = p := ⟨_, rfl⟩
  obtain ⟨W0, hW⟩ : ∃ W0, w.alloc (.cells (sarr b A N c) 48) = W0 := ⟨_, rfl⟩
  rw [hW, hp] at R0
  unfold sarr at R0 hW
  have HW := Lib.hid hW
  have HP := Lib.hid hp
  have H := Lib.hid (h.mono hB)
  have HX := Lib.hid hX
  have HNN := Lib.hid hN
  clear hW hp h hX hN hB
  have n2 : (N : Int) < 9223372036854775808 := by omega
  go_enter Try.func33, Try.ntmps33
  go_upto_region 1 with fail
  rw [HW.out, HP.out]
  clear HW
  go_wp2_with fail
  go_loopw [3] (fun i wr => ∃ k : Nat, k ≤ N ∧ i = .int .i64 (k : Int) ∧ RBox w p #[.int .i64 b, .slice A N c] wr ∧ DocTo b rs k) (fun i _ => N - (RowKit.intOf i).toNat)
  case atStart => exact ⟨0, Nat.zero_le _, rfl, R0.out, fun j _ h => absurd h (Nat.not_lt_zero _)⟩
  case round =>
    obtain ⟨k, hk, rfl, hbx, hdoc⟩ := hrel
    have HD := Lib.hid hdoc
    have R := Lib.hid hbx
    clear hbx hdoc R0
    have d1 : wr.cell? ⟨p, 1, none⟩ = some (.slice A N c) := R.out.cell 1
    by_cases hlt : k < N
    · have hlr : k < rs.length := by rw [HNN.out]; exact hlt
      obtain ⟨b0, o0, rfl, hb0, hc⟩ := H.out.some_ (by omega)
      have hr := hc k hlr
      have HYES : Hid ((mayB rs[k] = true ∧ b ≤ rs[k].o ∧ (∀ h0 : 0 < k, pairB (rs[k - 1]'(by omega)) rs[k] = true)) → DocTo b rs (k + 1)) := by
        show _ → _
        intro hall j hj hjk
        by_cases hjk2 : j < k
        · exact HD.out j hj hjk2
        · obtain rfl : j = k := by omega
          exact fun _ => hall
      have HNO : Hid (¬ (mayB rs[k] = true ∧ b ≤ rs[k].o ∧ (∀ h0 : 0 < k, pairB (rs[k - 1]'(by omega)) rs[k] = true)) → X0 = false) := by
        show _ → _
        intro hno
        rw [← HX.out, ← Bool.not_eq_true]
        intro hs
        exact hno ((seg_doc.1 hs).2 k hlr hlr)
      obtain ⟨M, hM⟩ : ∃ M, mayB rs[k] = M := ⟨_, rfl⟩
      have HRR := Lib.hid (fun W => RRec_is rs[k] M W hM)
      rw [hM] at HYES HNO
      clear HD hM
      have e1 : (k : Int) < (N : Int) := by omega
      rcases Nat.eq_zero_or_pos k with hk0 | hkp
      · have g1 : decide (0 < k) = false := decide_eq_false (by omega)
        have g2 : decide ((0 : Int) < (k : Int)) = false := decide_eq_false (by omega)
        replace HYES : Hid (M = true ∧ b ≤ rs[k].o → DocTo b rs (k + 1)) := fun h => HYES.out ⟨h.1, h.2, fun h0 => absurd h0 (by omega)⟩
        replace HNO : Hid (¬ (M = true ∧ b ≤ rs[k].o) → X0 = false) := fun h => HNO.out fun h2 => h ⟨h2.1, h2.2.1⟩
        clear hc
        unfold ragg at HRR
        generalize rs[k] = r at hr HRR HYES HNO
        obtain ⟨o, t, key, bod, q, g⟩ := r
        obtain ⟨c0, c1, c2, c3, c4, c5⟩ := hr
        dsimp only at c0 c1 c2 c3 c4 c5 HRR HYES HNO
        generalize str key = ks at c2 HRR
        generalize str bod = bs at c3 HRR
        unfold rarr at HRR
        clear hk0 hlr
        cases M with
        | false =>
          haveI : Nonempty (In (RBox w p #[.int .i64 b, .slice (some ⟨b0, o0, none⟩) N c])) := ⟨⟨_, R.out⟩⟩
          have k0 := fun u : In (RBox w p #[.int .i64 b, .slice (some ⟨b0, o0, none⟩) N c]) => (show u.w.cell? ⟨p, 0, none⟩ = some (.int .i64 b) from u.h.cell 0)
          have k1 := fun u : In (RBox w p #[.int .i64 b, .slice (some ⟨b0, o0, none⟩) N c]) => (show u.w.cell? ⟨p, 1, none⟩ = some (.slice (some ⟨b0, o0, none⟩) N c) from u.h.cell 1)
          have kr := fun u : In (RBox w p #[.int .i64 b, .slice (some ⟨b0, o0, none⟩) N c]) => (u.h.out.2.cell (p := ⟨b0, o0 + k * 6, none⟩) hb0).trans c0
          have kt := fun u : In (RBox w p #[.int .i64 b, .slice (some ⟨b0, o0, none⟩) N c]) => (u.h.out.2.cell (p := ⟨b0, o0 + k * 6 + 1, none⟩) hb0).trans c1
          have kl := fun u : In (RBox w p #[.int .i64 b, .slice (some ⟨b0, o0, none⟩) N c]) => load_parts ((u.h.out.2.cell (p := ⟨b0, o0 + k * 6, none⟩) hb0).trans c0) ((u.h.out.2.cell (p := ⟨b0, o0 + k * 6 + 1, none⟩) hb0).trans c1) ((u.h.out.2.cell (p := ⟨b0, o0 + k * 6 + 2, none⟩) hb0).trans c2) ((u.h.out.2.cell (p := ⟨b0, o0 + k * 6 + 3, none⟩) hb0).trans c3) ((u.h.out.2.cell (p := ⟨b0, o0 + k * 6 + 4, none⟩) hb0).trans c4) ((u.h.out.2.cell (p := ⟨b0, o0 + k * 6 + 5, none⟩) hb0).trans c5)
          have st0 := R.out
          clear R c0 c1 c2 c3 c4 c5
          go_upto_region 4 with fail
          refine region_in (S := RBox w p #[.int .i64 b, .slice (some ⟨b0, o0, none⟩) N c]) (by kernel_rfl) (by kernel_rfl) (st0.drewN 1) ?_
          iterate 4 (go_big_quiet_step (fail))
          go_big_quiet_want
          refine quiet_load_in 51 (.tmp 14) rfl b0 (o0 + k * 6) rfl _ kl ?_
          go_simp
          go_big_quiet_on
          repeat (go_big_quiet_step (first | (go_at_call 22; exact in_call ((HRR.out _).mono fun _ _ h => ⟨h.1, RBox.below (In.h _) h.2⟩))))
          refine wpQuiet_nil ?_
          rintro _ ⟨⟨w7, st7⟩, rfl⟩
          have S7 := Lib.hid st7
          clear this st0 st7 k0 k1 kr kt kl HRR
          (try simp only [Bool.not_true, Bool.not_false])
          obtain rfl : X0 = false := HNO.out (fun h => by cases h.1)
          go_wp2_with fail
          go_ret
          exact ⟨rfl, S7.out.out.2⟩
        | true =>
        by_cases h2 : o < b
        · have g3 : decide (o < b) = true := decide_eq_true h2
          haveI : Nonempty (In (RBox w p #[.int .i64 b, .slice (some ⟨b0, o0, none⟩) N c])) := ⟨⟨_, R.out⟩⟩
          have k0 := fun u : In (RBox w p #[.int .i64 b, .slice (some ⟨b0, o0, none⟩) N c]) => (show u.w.cell? ⟨p, 0, none⟩ = some (.int .i64 b) from u.h.cell 0)
          have k1 := fun u : In (RBox w p #[.int .i64 b, .slice (some ⟨b0, o0, none⟩) N c]) => (show u.w.cell? ⟨p, 1, none⟩ = some (.slice (some ⟨b0, o0, none⟩) N c) from u.h.cell 1)
          have kr := fun u : In (RBox w p #[.int .i64 b, .slice (some ⟨b0, o0, none⟩) N c]) => (u.h.out.2.cell (p := ⟨b0, o0 + k * 6, none⟩) hb0).trans c0
          have kt := fun u : In (RBox w p #[.int .i64 b, .slice (some ⟨b0, o0, none⟩) N c]) => (u.h.out.2.cell (p := ⟨b0, o0 + k * 6 + 1, none⟩) hb0).trans c1
          have kl := fun u : In (RBox w p #[.int .i64 b, .slice (some ⟨b0, o0, none⟩) N c]) => load_parts ((u.h.out.2.cell (p := ⟨b0, o0 + k * 6, none⟩) hb0).trans c0) ((u.h.out.2.cell (p := ⟨b0, o0 + k * 6 + 1, none⟩) hb0).trans c1) ((u.h.out.2.cell (p := ⟨b0, o0 + k * 6 + 2, none⟩) hb0).trans c2) ((u.h.out.2.cell (p := ⟨b0, o0 + k * 6 + 3, none⟩) hb0).trans c3) ((u.h.out.2.cell (p := ⟨b0, o0 + k * 6 + 4, none⟩) hb0).trans c4) ((u.h.out.2.cell (p := ⟨b0, o0 + k * 6 + 5, none⟩) hb0).trans c5)
          have st0 := R.out
          clear R c0 c1 c2 c3 c4 c5
          go_upto_region 4 with fail
          refine region_in (S := RBox w p #[.int .i64 b, .slice (some ⟨b0, o0, none⟩) N c]) (by kernel_rfl) (by kernel_rfl) (st0.drewN 1) ?_
          iterate 4 (go_big_quiet_step (fail))
          go_big_quiet_want
          refine quiet_load_in 51 (.tmp 14) rfl b0 (o0 + k * 6) rfl _ kl ?_
          go_simp
          go_big_quiet_on
          repeat (go_big_quiet_step (first | (go_at_call 22; exact in_call ((HRR.out _).mono fun _ _ h => ⟨h.1, RBox.below (In.h _) h.2⟩))))
          refine wpQuiet_nil ?_
          rintro _ ⟨⟨w7, st7⟩, rfl⟩
          have S7 := Lib.hid st7
          clear this st0 st7 k0 k1 kr kt kl HRR
          (try simp only [Bool.not_true, Bool.not_false])
          obtain rfl : X0 = false := HNO.out (fun h => by have := h.2; omega)
          go_wp2_with fail
          go_ret
          exact ⟨rfl, S7.out.out.2⟩
        · have g3 : decide (o < b) = false := decide_eq_false h2
          haveI : Nonempty (In (RBox w p #[.int .i64 b, .slice (some ⟨b0, o0, none⟩) N c])) := ⟨⟨_, R.out⟩⟩
          have k0 := fun u : In (RBox w p #[.int .i64 b, .slice (some ⟨b0, o0, none⟩) N c]) => (show u.w.cell? ⟨p, 0, none⟩ = some (.int .i64 b) from u.h.cell 0)
          have k1 := fun u : In (RBox w p #[.int .i64 b, .slice (some ⟨b0, o0, none⟩) N c]) => (show u.w.cell? ⟨p, 1, none⟩ = some (.slice (some ⟨b0, o0, none⟩) N c) from u.h.cell 1)
          have kr := fun u : In (RBox w p #[.int .i64 b, .slice (some ⟨b0, o0, none⟩) N c]) => (u.h.out.2.cell (p := ⟨b0, o0 + k * 6, none⟩) hb0).trans c0
          have kt := fun u : In (RBox w p #[.int .i64 b, .slice (some ⟨b0, o0, none⟩) N c]) => (u.h.out.2.cell (p := ⟨b0, o0 + k * 6 + 1, none⟩) hb0).trans c1
          have kl := fun u : In (RBox w p #[.int .i64 b, .slice (some ⟨b0, o0, none⟩) N c]) => load_parts ((u.h.out.2.cell (p := ⟨b0, o0 + k * 6, none⟩) hb0).trans c0) ((u.h.out.2.cell (p := ⟨b0, o0 + k * 6 + 1, none⟩) hb0).trans c1) ((u.h.out.2.cell (p := ⟨b0, o0 + k * 6 + 2, none⟩) hb0).trans c2) ((u.h.out.2.cell (p := ⟨b0, o0 + k * 6 + 3, none⟩) hb0).trans c3) ((u.h.out.2.cell (p := ⟨b0, o0 + k * 6 + 4, none⟩) hb0).trans c4) ((u.h.out.2.cell (p := ⟨b0, o0 + k * 6 + 5, none⟩) hb0).trans c5)
          have st0 := R.out
          clear R c0 c1 c2 c3 c4 c5
          go_upto_region 4 with fail
          refine region_in (S := RBox w p #[.int .i64 b, .slice (some ⟨b0, o0, none⟩) N c]) (by kernel_rfl) (by kernel_rfl) (st0.drewN 1) ?_
          iterate 4 (go_big_quiet_step (fail))
          go_big_quiet_want
          refine quiet_load_in 51 (.tmp 14) rfl b0 (o0 + k * 6) rfl _ kl ?_
          go_simp
          go_big_quiet_on
          repeat (go_big_quiet_step (first | (go_at_call 22; exact in_call ((HRR.out _).mono fun _ _ h => ⟨h.1, RBox.below (In.h _) h.2⟩))))
          refine wpQuiet_nil ?_
          rintro _ ⟨⟨w7, st7⟩, rfl⟩
          have S7 := Lib.hid st7
          clear this st0 st7 k0 k1 kr kt kl HRR
          (try simp only [Bool.not_true, Bool.not_false])
          go_wp2_with fail
          go_roundw
          case rel => exact ⟨k + 1, hlt, by go_num, S7.out, HYES.out (⟨rfl, by omega⟩)⟩
          case measure => simp [RowKit.intOf]; omega
      · obtain ⟨j, hj⟩ : ∃ j, j + 1 = k := ⟨k - 1, by omega⟩
        have g1 : decide (0 < k) = true := decide_eq_true hkp
        have g2 : decide ((0 : Int) < (k : Int)) = true := decide_eq_true (by omega)
        have e5 : (k : Int) - 1 = (j : Int) := by omega
        have e6 : (j : Int) < (N : Int) := by omega
        have hjl : j < rs.length := by omega
        have hrj := hc j hjl
        have hjk : rs[k - 1]'(by omega) = rs[j] := by congr 1; omega
        replace HYES : Hid (M = true ∧ b ≤ rs[k].o ∧ rs[j].o < rs[k].o ∧ rs[j].t ≤ rs[k].t → DocTo b rs (k + 1)) := fun h => HYES.out ⟨h.1, h.2.1, fun h0 => by rw [hjk]; exact pair_iff.2 h.2.2⟩
        replace HNO : Hid (¬ (M = true ∧ b ≤ rs[k].o ∧ rs[j].o < rs[k].o ∧ rs[j].t ≤ rs[k].t) → X0 = false) := fun h => HNO.out fun h2 => h ⟨h2.1, h2.2.1, by have := h2.2.2 hkp; rw [hjk] at this; exact pair_iff.1 this⟩
        unfold ragg at HRR
        generalize rs[k] = r at hr HRR HYES HNO
        generalize rs[j] = r' at hrj HYES HNO
        obtain ⟨o, t, key, bod, q, g⟩ := r
        obtain ⟨o', t', key', bod', q', g'⟩ := r'
        obtain ⟨c0, c1, c2, c3, c4, c5⟩ := hr
        obtain ⟨x0, x1, _, _, _, _⟩ := hrj
        dsimp only at c0 c1 c2 c3 c4 c5 x0 x1 HRR HYES HNO
        generalize str key = ks at c2 HRR
        generalize str bod = bs at c3 HRR
        unfold rarr at HRR
        clear hc hlr hj hkp hjl hjk
        cases M with
        | false =>
          haveI : Nonempty (In (RBox w p #[.int .i64 b, .slice (some ⟨b0, o0, none⟩) N c])) := ⟨⟨_, R.out⟩⟩
          have k0 := fun u : In (RBox w p #[.int .i64 b, .slice (some ⟨b0, o0, none⟩) N c]) => (show u.w.cell? ⟨p, 0, none⟩ = some (.int .i64 b) from u.h.cell 0)
          have k1 := fun u : In (RBox w p #[.int .i64 b, .slice (some ⟨b0, o0, none⟩) N c]) => (show u.w.cell? ⟨p, 1, none⟩ = some (.slice (some ⟨b0, o0, none⟩) N c) from u.h.cell 1)
          have kr := fun u : In (RBox w p #[.int .i64 b, .slice (some ⟨b0, o0, none⟩) N c]) => (u.h.out.2.cell (p := ⟨b0, o0 + k * 6, none⟩) hb0).trans c0
          have kt := fun u : In (RBox w p #[.int .i64 b, .slice (some ⟨b0, o0, none⟩) N c]) => (u.h.out.2.cell (p := ⟨b0, o0 + k * 6 + 1, none⟩) hb0).trans c1
          have kl := fun u : In (RBox w p #[.int .i64 b, .slice (some ⟨b0, o0, none⟩) N c]) => load_parts ((u.h.out.2.cell (p := ⟨b0, o0 + k * 6, none⟩) hb0).trans c0) ((u.h.out.2.cell (p := ⟨b0, o0 + k * 6 + 1, none⟩) hb0).trans c1) ((u.h.out.2.cell (p := ⟨b0, o0 + k * 6 + 2, none⟩) hb0).trans c2) ((u.h.out.2.cell (p := ⟨b0, o0 + k * 6 + 3, none⟩) hb0).trans c3) ((u.h.out.2.cell (p := ⟨b0, o0 + k * 6 + 4, none⟩) hb0).trans c4) ((u.h.out.2.cell (p := ⟨b0, o0 + k * 6 + 5, none⟩) hb0).trans c5)
          have kx := fun u : In (RBox w p #[.int .i64 b, .slice (some ⟨b0, o0, none⟩) N c]) => (u.h.out.2.cell (p := ⟨b0, o0 + j * 6, none⟩) hb0).trans x0
          have ky := fun u : In (RBox w p #[.int .i64 b, .slice (some ⟨b0, o0, none⟩) N c]) => (u.h.out.2.cell (p := ⟨b0, o0 + j * 6 + 1, none⟩) hb0).trans x1
          have st0 := R.out
          clear R c0 c1 c2 c3 c4 c5 x0 x1
          go_upto_region 4 with fail
          refine region_in (S := RBox w p #[.int .i64 b, .slice (some ⟨b0, o0, none⟩) N c]) (by kernel_rfl) (by kernel_rfl) (st0.drewN 1) ?_
          iterate 4 (go_big_quiet_step (fail))
          go_big_quiet_want
          refine quiet_load_in 51 (.tmp 14) rfl b0 (o0 + k * 6) rfl _ kl ?_
          go_simp
          go_big_quiet_on
          repeat (go_big_quiet_step (first | (go_at_call 22; exact in_call ((HRR.out _).mono fun _ _ h => ⟨h.1, RBox.below (In.h _) h.2⟩))))
          refine wpQuiet_nil ?_
          rintro _ ⟨⟨w7, st7⟩, rfl⟩
          have S7 := Lib.hid st7
          clear this st0 st7 k0 k1 kr kt kl HRR kx ky
          (try simp only [Bool.not_true, Bool.not_false])
          obtain rfl : X0 = false := HNO.out (fun h => by cases h.1)
          go_wp2_with fail
          go_ret
          exact ⟨rfl, S7.out.out.2⟩
        | true =>
        by_cases h2 : o < b
        · have g3 : decide (o < b) = true := decide_eq_true h2
          haveI : Nonempty (In (RBox w p #[.int .i64 b, .slice (some ⟨b0, o0, none⟩) N c])) := ⟨⟨_, R.out⟩⟩
          have k0 := fun u : In (RBox w p #[.int .i64 b, .slice (some ⟨b0, o0, none⟩) N c]) => (show u.w.cell? ⟨p, 0, none⟩ = some (.int .i64 b) from u.h.cell 0)
          have k1 := fun u : In (RBox w p #[.int .i64 b, .slice (some ⟨b0, o0, none⟩) N c]) => (show u.w.cell? ⟨p, 1, none⟩ = some (.slice (some ⟨b0, o0, none⟩) N c) from u.h.cell 1)
          have kr := fun u : In (RBox w p #[.int .i64 b, .slice (some ⟨b0, o0, none⟩) N c]) => (u.h.out.2.cell (p := ⟨b0, o0 + k * 6, none⟩) hb0).trans c0
          have kt := fun u : In (RBox w p #[.int .i64 b, .slice (some ⟨b0, o0, none⟩) N c]) => (u.h.out.2.cell (p := ⟨b0, o0 + k * 6 + 1, none⟩) hb0).trans c1
          have kl := fun u : In (RBox w p #[.int .i64 b, .slice (some ⟨b0, o0, none⟩) N c]) => load_parts ((u.h.out.2.cell (p := ⟨b0, o0 + k * 6, none⟩) hb0).trans c0) ((u.h.out.2.cell (p := ⟨b0, o0 + k * 6 + 1, none⟩) hb0).trans c1) ((u.h.out.2.cell (p := ⟨b0, o0 + k * 6 + 2, none⟩) hb0).trans c2) ((u.h.out.2.cell (p := ⟨b0, o0 + k * 6 + 3, none⟩) hb0).trans c3) ((u.h.out.2.cell (p := ⟨b0, o0 + k * 6 + 4, none⟩) hb0).trans c4) ((u.h.out.2.cell (p := ⟨b0, o0 + k * 6 + 5, none⟩) hb0).trans c5)
          have kx := fun u : In (RBox w p #[.int .i64 b, .slice (some ⟨b0, o0, none⟩) N c]) => (u.h.out.2.cell (p := ⟨b0, o0 + j * 6, none⟩) hb0).trans x0
          have ky := fun u : In (RBox w p #[.int .i64 b, .slice (some ⟨b0, o0, none⟩) N c]) => (u.h.out.2.cell (p := ⟨b0, o0 + j * 6 + 1, none⟩) hb0).trans x1
          have st0 := R.out
          clear R c0 c1 c2 c3 c4 c5 x0 x1
          go_upto_region 4 with fail
          refine region_in (S := RBox w p #[.int .i64 b, .slice (some ⟨b0, o0, none⟩) N c]) (by kernel_rfl) (by kernel_rfl) (st0.drewN 1) ?_
          iterate 4 (go_big_quiet_step (fail))
          go_big_quiet_want
          refine quiet_load_in 51 (.tmp 14) rfl b0 (o0 + k * 6) rfl _ kl ?_
          go_simp
          go_big_quiet_on
          repeat (go_big_quiet_step (first | (go_at_call 22; exact in_call ((HRR.out _).mono fun _ _ h => ⟨h.1, RBox.below (In.h _) h.2⟩))))
          refine wpQuiet_nil ?_
          rintro _ ⟨⟨w7, st7⟩, rfl⟩
          have S7 := Lib.hid st7
          clear this st0 st7 k0 k1 kr kt kl HRR kx ky
          (try simp only [Bool.not_true, Bool.not_false])
          obtain rfl : X0 = false := HNO.out (fun h => by have := h.2.1; omega)
          go_wp2_with fail
          go_ret
          exact ⟨rfl, S7.out.out.2⟩
        · have g3 : decide (o < b) = false := decide_eq_false h2
          by_cases h3 : o ≤ o'
          · have g4 : decide (o ≤ o') = true := decide_eq_true h3
            haveI : Nonempty (In (RBox w p #[.int .i64 b, .slice (some ⟨b0, o0, none⟩) N c])) := ⟨⟨_, R.out⟩⟩
            have k0 := fun u : In (RBox w p #[.int .i64 b, .slice (some ⟨b0, o0, none⟩) N c]) => (show u.w.cell? ⟨p, 0, none⟩ = some (.int .i64 b) from u.h.cell 0)
            have k1 := fun u : In (RBox w p #[.int .i64 b, .slice (some ⟨b0, o0, none⟩) N c]) => (show u.w.cell? ⟨p, 1, none⟩ = some (.slice (some ⟨b0, o0, none⟩) N c) from u.h.cell 1)
            have kr := fun u : In (RBox w p #[.int .i64 b, .slice (some ⟨b0, o0, none⟩) N c]) => (u.h.out.2.cell (p := ⟨b0, o0 + k * 6, none⟩) hb0).trans c0
            have kt := fun u : In (RBox w p #[.int .i64 b, .slice (some ⟨b0, o0, none⟩) N c]) => (u.h.out.2.cell (p := ⟨b0, o0 + k * 6 + 1, none⟩) hb0).trans c1
            have kl := fun u : In (RBox w p #[.int .i64 b, .slice (some ⟨b0, o0, none⟩) N c]) => load_parts ((u.h.out.2.cell (p := ⟨b0, o0 + k * 6, none⟩) hb0).trans c0) ((u.h.out.2.cell (p := ⟨b0, o0 + k * 6 + 1, none⟩) hb0).trans c1) ((u.h.out.2.cell (p := ⟨b0, o0 + k * 6 + 2, none⟩) hb0).trans c2) ((u.h.out.2.cell (p := ⟨b0, o0 + k * 6 + 3, none⟩) hb0).trans c3) ((u.h.out.2.cell (p := ⟨b0, o0 + k * 6 + 4, none⟩) hb0).trans c4) ((u.h.out.2.cell (p := ⟨b0, o0 + k * 6 + 5, none⟩) hb0).trans c5)
            have kx := fun u : In (RBox w p #[.int .i64 b, .slice (some ⟨b0, o0, none⟩) N c]) => (u.h.out.2.cell (p := ⟨b0, o0 + j * 6, none⟩) hb0).trans x0
            have ky := fun u : In (RBox w p #[.int .i64 b, .slice (some ⟨b0, o0, none⟩) N c]) => (u.h.out.2.cell (p := ⟨b0, o0 + j * 6 + 1, none⟩) hb0).trans x1
            have st0 := R.out
            clear R c0 c1 c2 c3 c4 c5 x0 x1
            go_upto_region 4 with fail
            refine region_in (S := RBox w p #[.int .i64 b, .slice (some ⟨b0, o0, none⟩) N c]) (by kernel_rfl) (by kernel_rfl) (st0.drewN 1) ?_
            iterate 4 (go_big_quiet_step (fail))
            go_big_quiet_want
            refine quiet_load_in 51 (.tmp 14) rfl b0 (o0 + k * 6) rfl _ kl ?_
            go_simp
            go_big_quiet_on
            repeat (go_big_quiet_step (first | (go_at_call 22; exact in_call ((HRR.out _).mono fun _ _ h => ⟨h.1, RBox.below (In.h _) h.2⟩))))
            refine wpQuiet_nil ?_
            rintro _ ⟨⟨w7, st7⟩, rfl⟩
            have S7 := Lib.hid st7
            clear this st0 st7 k0 k1 kr kt kl HRR kx ky
            (try simp only [Bool.not_true, Bool.not_false])
            obtain rfl : X0 = false := HNO.out (fun h => by have := h.2.2.1; omega)
            go_wp2_with fail
            go_ret
            exact ⟨rfl, S7.out.out.2⟩
          · have g4 : decide (o ≤ o') = false := decide_eq_false h3
            by_cases h4 : t < t'
            · have g5 : decide (t < t') = true := decide_eq_true h4
              haveI : Nonempty (In (RBox w p #[.int .i64 b, .slice (some ⟨b0, o0, none⟩) N c])) := ⟨⟨_, R.out⟩⟩
              have k0 := fun u : In (RBox w p #[.int .i64 b, .slice (some ⟨b0, o0, none⟩) N c]) => (show u.w.cell? ⟨p, 0, none⟩ = some (.int .i64 b) from u.h.cell 0)
              have k1 := fun u : In (RBox w p #[.int .i64 b, .slice (some ⟨b0, o0, none⟩) N c]) => (show u.w.cell? ⟨p, 1, none⟩ = some (.slice (some ⟨b0, o0, none⟩) N c) from u.h.cell 1)
              have kr := fun u : In (RBox w p #[.int .i64 b, .slice (some ⟨b0, o0, none⟩) N c]) => (u.h.out.2.cell (p := ⟨b0, o0 + k * 6, none⟩) hb0).trans c0
              have kt := fun u : In (RBox w p #[.int .i64 b, .slice (some ⟨b0, o0, none⟩) N c]) => (u.h.out.2.cell (p := ⟨b0, o0 + k * 6 + 1, none⟩) hb0).trans c1
              have kl := fun u : In (RBox w p #[.int .i64 b, .slice (some ⟨b0, o0, none⟩) N c]) => load_parts ((u.h.out.2.cell (p := ⟨b0, o0 + k * 6, none⟩) hb0).trans c0) ((u.h.out.2.cell (p := ⟨b0, o0 + k * 6 + 1, none⟩) hb0).trans c1) ((u.h.out.2.cell (p := ⟨b0, o0 + k * 6 + 2, none⟩) hb0).trans c2) ((u.h.out.2.cell (p := ⟨b0, o0 + k * 6 + 3, none⟩) hb0).trans c3) ((u.h.out.2.cell (p := ⟨b0, o0 + k * 6 + 4, none⟩) hb0).trans c4) ((u.h.out.2.cell (p := ⟨b0, o0 + k * 6 + 5, none⟩) hb0).trans c5)
              have kx := fun u : In (RBox w p #[.int .i64 b, .slice (some ⟨b0, o0, none⟩) N c]) => (u.h.out.2.cell (p := ⟨b0, o0 + j * 6, none⟩) hb0).trans x0
              have ky := fun u : In (RBox w p #[.int .i64 b, .slice (some ⟨b0, o0, none⟩) N c]) => (u.h.out.2.cell (p := ⟨b0, o0 + j * 6 + 1, none⟩) hb0).trans x1
              have st0 := R.out
              clear R c0 c1 c2 c3 c4 c5 x0 x1
              go_upto_region 4 with fail
              refine region_in (S := RBox w p #[.int .i64 b, .slice (some ⟨b0, o0, none⟩) N c]) (by kernel_rfl) (by kernel_rfl) (st0.drewN 1) ?_
              iterate 4 (go_big_quiet_step (fail))
              go_big_quiet_want
              refine quiet_load_in 51 (.tmp 14) rfl b0 (o0 + k * 6) rfl _ kl ?_
              go_simp
              go_big_quiet_on
              repeat (go_big_quiet_step (first | (go_at_call 22; exact in_call ((HRR.out _).mono fun _ _ h => ⟨h.1, RBox.below (In.h _) h.2⟩))))
              refine wpQuiet_nil ?_
              rintro _ ⟨⟨w7, st7⟩, rfl⟩
              have S7 := Lib.hid st7
              clear this st0 st7 k0 k1 kr kt kl HRR kx ky
              (try simp only [Bool.not_true, Bool.not_false])
              obtain rfl : X0 = false := HNO.out (fun h => by have := h.2.2.2; omega)
              go_wp2_with fail
              go_ret
              exact ⟨rfl, S7.out.out.2⟩
            · have g5 : decide (t < t') = false := decide_eq_false h4
              haveI : Nonempty (In (RBox w p #[.int .i64 b, .slice (some ⟨b0, o0, none⟩) N c])) := ⟨⟨_, R.out⟩⟩
              have k0 := fun u : In (RBox w p #[.int .i64 b, .slice (some ⟨b0, o0, none⟩) N c]) => (show u.w.cell? ⟨p, 0, none⟩ = some (.int .i64 b) from u.h.cell 0)
              have k1 := fun u : In (RBox w p #[.int .i64 b, .slice (some ⟨b0, o0, none⟩) N c]) => (show u.w.cell? ⟨p, 1, none⟩ = some (.slice (some ⟨b0, o0, none⟩) N c) from u.h.cell 1)
              have kr := fun u : In (RBox w p #[.int .i64 b, .slice (some ⟨b0, o0, none⟩) N c]) => (u.h.out.2.cell (p := ⟨b0, o0 + k * 6, none⟩) hb0).trans c0
              have kt := fun u : In (RBox w p #[.int .i64 b, .slice (some ⟨b0, o0, none⟩) N c]) => (u.h.out.2.cell (p := ⟨b0, o0 + k * 6 + 1, none⟩) hb0).trans c1
              have kl := fun u : In (RBox w p #[.int .i64 b, .slice (some ⟨b0, o0, none⟩) N c]) => load_parts ((u.h.out.2.cell (p := ⟨b0, o0 + k * 6, none⟩) hb0).trans c0) ((u.h.out.2.cell (p := ⟨b0, o0 + k * 6 + 1, none⟩) hb0).trans c1) ((u.h.out.2.cell (p := ⟨b0, o0 + k * 6 + 2, none⟩) hb0).trans c2) ((u.h.out.2.cell (p := ⟨b0, o0 + k * 6 + 3, none⟩) hb0).trans c3) ((u.h.out.2.cell (p := ⟨b0, o0 + k * 6 + 4, none⟩) hb0).trans c4) ((u.h.out.2.cell (p := ⟨b0, o0 + k * 6 + 5, none⟩) hb0).trans c5)
              have kx := fun u : In (RBox w p #[.int .i64 b, .slice (some ⟨b0, o0, none⟩) N c]) => (u.h.out.2.cell (p := ⟨b0, o0 + j * 6, none⟩) hb0).trans x0
              have ky := fun u : In (RBox w p #[.int .i64 b, .slice (some ⟨b0, o0, none⟩) N c]) => (u.h.out.2.cell (p := ⟨b0, o0 + j * 6 + 1, none⟩) hb0).trans x1
              have st0 := R.out
              clear R c0 c1 c2 c3 c4 c5 x0 x1
              go_upto_region 4 with fail
              refine region_in (S := RBox w p #[.int .i64 b, .slice (some ⟨b0, o0, none⟩) N c]) (by kernel_rfl) (by kernel_rfl) (st0.drewN 1) ?_
              iterate 4 (go_big_quiet_step (fail))
              go_big_quiet_want
              refine quiet_load_in 51 (.tmp 14) rfl b0 (o0 + k * 6) rfl _ kl ?_
              go_simp
              go_big_quiet_on
              repeat (go_big_quiet_step (first | (go_at_call 22; exact in_call ((HRR.out _).mono fun _ _ h => ⟨h.1, RBox.below (In.h _) h.2⟩))))
              refine wpQuiet_nil ?_
              rintro _ ⟨⟨w7, st7⟩, rfl⟩
              have S7 := Lib.hid st7
              clear this st0 st7 k0 k1 kr kt kl HRR kx ky
              (try simp only [Bool.not_true, Bool.not_false])
              go_wp2_with fail
              go_roundw
              case rel => exact ⟨k + 1, hlt, by go_num, S7.out, HYES.out (⟨rfl, by omega, by omega, by omega⟩)⟩
              case measure => simp [RowKit.intOf]; omega
    · obtain rfl : k = N := by omega
      have HALL := Lib.hid (show X0 = (baseB b && decide (k ≤ 200)) by
        rw [← HX.out, Bool.eq_iff_iff, Bool.and_eq_true, decide_eq_true_iff]
        refine ⟨fun h => (by rw [← HNN.out]; exact (seg_doc.1 h).1), fun h => seg_doc.2 ⟨by rw [HNN.out]; exact h, fun i hi => HD.out i hi (by rw [← HNN.out]; exact hi)⟩⟩)
      have HNU := Lib.hid (fun X W (h : decide (0 ≤ b ∧ b ≤ 1099511627776) = X) => RNum_is b 1099511627776 X W h)
      have d0 : wr.cell? ⟨p, 0, none⟩ = some (.int .i64 b) := R.out.cell 0
      unfold baseB at HALL
      clear HD
      obtain ⟨Y, hY⟩ : ∃ Y, decide (0 ≤ b ∧ b ≤ 1099511627776) = Y := ⟨_, rfl⟩
      rw [hY] at HALL
      have HNU1 := Lib.hid (fun W => HNU.out Y W hY)
      clear HNU hY
      cases Y with
      | true =>
        go_wp2_with (go_at_call 29; refine (HNU1.out _).mono ?_; rintro e w' ⟨rfl, rfl⟩)
        go_ret
        exact ⟨ret_bool (by rw [HALL.out, Bool.true_and]; exact decide_eq_decide.2 (by omega)), R.out.out.2⟩
      | false =>
        go_wp2_with (go_at_call 29; refine (HNU1.out _).mono ?_; rintro e w' ⟨rfl, rfl⟩)
        go_ret
        exact ⟨ret_bool (by rw [HALL.out]; rfl), R.out.out.2⟩
end Go.Proofs.Ytgadgmcabjnjjaa
