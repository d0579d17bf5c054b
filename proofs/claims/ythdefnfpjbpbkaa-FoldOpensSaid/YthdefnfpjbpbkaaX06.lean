/- Texts of the proof, part 6: KpWith, KpRow, SgTakeSnoc, RcEqRecs, SgRCopy, KpRCopy, KpRRecs. -/
import Derived.Test.YthdefnfpjbpbkaaX05
/- Package keep: the end of a row that is one segment longer. -/
namespace Go.Proofs.Ythdefnfpjbpbkaa.Kpd
open Go.RowKit Go.Lib Rcd

def earr (r b t : Int) : Array Value := #[.int .i64 r, .int .i64 b, .int .i64 t]
def eagg (e : En) : Value := .agg (earr e.r e.b e.t)
theorem info_end : (Try.prog.info? 111).map (·.size) = some 3 := by kernel_rfl
theorem load_end {W : World} {g : Nat} {cs : Array Value} (h : Blk W g cs) (h9 : cs.size = 3) : (loadVar 111 ⟨g, 0, none⟩).run Try.prog W = .ok (.agg cs) W :=
  run_loadVar_mid W g 0 111 cs.toList _ (fun j v hv => by rw [Nat.zero_add, h.cell j]; rw [← hv]; simp) Try.underlying111 rfl (by rw [info_end]; simp [h9])
theorem first_at {t : Int} {rs : List Rc} (h : 0 < rs.length) : firstB t rs = decide (t ≤ (rs[0]'h).t) := by
  cases rs with
  | nil => simp at h
  | cons x l => rfl
/-- What comes of a segment behind an end: the end that it leaves and whether it may stand there. -/
inductive WithIs (e : En) (s : Sp) : En → Bool → Prop
  | bad (h : segB s.b s.rs = false) : WithIs e s ⟨0, 0, 0⟩ false
  | low (h : segB s.b s.rs = true) (h2 : s.b < e.b) : WithIs e s ⟨0, 0, 0⟩ false
  | many (h : segB s.b s.rs = true) (h2 : e.b ≤ s.b) (h3 : 200 < e.r + (s.rs.length : Int)) : WithIs e s ⟨0, 0, 0⟩ false
  | none_ (h : segB s.b s.rs = true) (h2 : e.b ≤ s.b) (h3 : e.r + (s.rs.length : Int) ≤ 200) (h4 : s.rs = []) : WithIs e s ⟨e.r, s.b, e.t⟩ true
  | some_ (n : Nat) (h : segB s.b s.rs = true) (h2 : e.b ≤ s.b) (h3 : e.r + (s.rs.length : Int) ≤ 200) (h4 : n + 1 = s.rs.length) : WithIs e s ⟨e.r + (s.rs.length : Int), (s.rs[n]'(by omega)).o + 1, (s.rs[n]'(by omega)).t⟩ (decide (e.t ≤ (s.rs[0]'(by omega)).t))
theorem with_ex (e : En) (s : Sp) : ∃ e' X, WithIs e s e' X ∧ okB e s = X ∧ (X = true → e' = e.next s) := by
  cases h1 : segB s.b s.rs with
  | false => exact ⟨_, _, .bad h1, by unfold okB; rw [h1]; rfl, fun h => by cases h⟩
  | true =>
    by_cases h2 : e.b ≤ s.b
    · by_cases h3 : e.r + (s.rs.length : Int) ≤ 200
      · cases hl : s.rs.length with
        | zero =>
          have h4 := List.eq_nil_of_length_eq_zero hl
          refine ⟨_, _, .none_ h1 h2 h3 h4, ok_iff.2 ⟨h1, h2, h3, by rw [h4]; rfl⟩, fun _ => ?_⟩
          unfold En.next
          rw [h4]; rfl
        | succ n =>
          refine ⟨_, _, .some_ n h1 h2 h3 hl.symm, ?_, fun _ => ?_⟩
          · unfold okB
            rw [h1, decide_eq_true h2, decide_eq_true h3, first_at (by omega)]; rfl
          · unfold En.next
            rw [last_all (n := n) hl.symm]
      · exact ⟨_, _, .many h1 h2 (by omega), by unfold okB; rw [h1, decide_eq_true h2, decide_eq_false h3]; rfl, fun h => by cases h⟩
    · exact ⟨_, _, .low h1 (by omega), by unfold okB; rw [h1, decide_eq_false h2]; rfl, fun h => by cases h⟩
/-- Three boxes of the call's own, and all that was there. -/
@[irreducible] def Tro (w : World) (p : Nat) (cs ds es : Array Value) (W : World) : Prop := Blk W p cs ∧ Blk W (p + 1) ds ∧ Blk W (p + 1 + 1) es ∧ Below w.heap.size w W ∧ w.heap.size ≤ p
section
variable {w W W' : World} {p : Nat} {cs ds es : Array Value}
theorem Tro.mk (k : Blk W p cs ∧ Blk W (p + 1) ds ∧ Blk W (p + 1 + 1) es ∧ Below w.heap.size w W ∧ w.heap.size ≤ p) : Tro w p cs ds es W := by unfold Tro; exact k
theorem Tro.out (k : Tro w p cs ds es W) : Blk W p cs ∧ Blk W (p + 1) ds ∧ Blk W (p + 1 + 1) es ∧ Below w.heap.size w W ∧ w.heap.size ≤ p := by unfold Tro at k; exact k
theorem Tro.below (k : Tro w p cs ds es W) (hb : Below W.heap.size W W') : Tro w p cs ds es W' := by
  obtain ⟨h1, h2, h3, h4, h5⟩ := k.out
  exact .mk ⟨h1.below hb, h2.below hb, h3.below hb, h4.trans (hb.mono h4.size), h5⟩
theorem Tro.drewN (k : Tro w p cs ds es W) (n : Nat) : Tro w p cs ds es (W.drewN n) := k.below (below_drewN (Below.refl _ _) n)
theorem Tro.cell1 (k : Tro w p cs ds es W) (i : Nat) : W.cell? ⟨p, i, none⟩ = cs[i]? := k.out.1.cell i
theorem Tro.cell2 (k : Tro w p cs ds es W) (i : Nat) : W.cell? ⟨p + 1, i, none⟩ = ds[i]? := k.out.2.1.cell i
theorem Tro.bel (k : Tro w p cs ds es W) : Below w.heap.size w W := k.out.2.2.2.1
theorem Tro.row3 (k : Tro w p cs ds es W) (xs : Array Value) : Tro w p cs ds xs (W.setRow (p + 1 + 1) xs) := by
  obtain ⟨h1, h2, h3, h4, h5⟩ := k.out
  exact .mk ⟨setRow_blk h1 (by omega) xs, setRow_blk h2 (by omega) xs, h3.row xs, below_row h4 (by omega) xs, h5⟩
theorem Tro.new (w : World) (T T' T2 : TypeId) (cs ds es : Array Value) : Tro w w.heap.size cs ds es (((w.alloc (.cells cs T)).alloc (.cells ds T')).alloc (.cells es T2)) := by
  have h1 := Duo.new w T T' cs ds
  obtain ⟨k1, k2, k3, _, _⟩ := h1.out
  have h2 := Blk.new ((w.alloc (.cells cs T)).alloc (.cells ds T')) T2 es
  refine .mk ⟨k1.alloc _, k2.alloc _, by simpa using h2, k3.alloc k3.size _, Nat.le_refl _⟩
end

set_option maxRecDepth 100000 in
set_option maxHeartbeats 8000000 in
/-- end.with. -/
theorem with_is (e : En) (s : Sp) (N : Nat) (A : Option Addr) (c B : Nat) (e' : En) (X : Bool) (w : World) (hN : s.rs.length = N) (hm : N ≤ 9223372036854775807) (hcap : N ≤ c) (hr : 0 ≤ e.r ∧ e.r ≤ 1000000) (hB : B ≤ w.heap.size) (h : RecsAt w B A s.rs) (hX : WithIs e s e' X) :
    Calls Try.prog 78 #[eagg e, .agg #[.int .i64 s.b, .slice A N c]] w fun en w' => en = .returned (.tuple #[eagg e', .bool X]) ∧ Below w.heap.size w w' := by
  have hT := Tro.new w 111 49 111 (earr e.r e.b e.t) (sarr s.b A N c) (earr 0 0 0)
  have HC := Lib.hid (fun E W (hb : Below w.heap.size w W) (hE : segE s.b s.rs = E) => SegCheck_is s.b s.rs N A c B E W hN hm hcap (Nat.le_trans hB hb.size) (h.below (hb.mono hB)) hE)
  have H := Lib.hid (h.mono hB)
  unfold eagg
  obtain ⟨er, eb, et⟩ := e
  obtain ⟨sb, rs⟩ := s
  obtain ⟨er', eb', et'⟩ := e'
  dsimp only at hr hT HC H hN ⊢
  obtain ⟨r1, r2⟩ := hr
  obtain ⟨p, hp⟩ : ∃ p, w.heap.size = p := ⟨_, rfl⟩
  obtain ⟨W0, hW⟩ : ∃ W0, ((w.alloc (.cells (earr er eb et) 111)).alloc (.cells (sarr sb A N c) 49)).alloc (.cells (earr 0 0 0) 111) = W0 := ⟨_, rfl⟩
  rw [hW, hp] at hT
  unfold sarr earr at hT hW
  unfold earr
  have T0 := Lib.hid hT
  have HW := Lib.hid hW
  have HP := Lib.hid hp
  have HNN := Lib.hid hN
  clear hT hW hp h hN hB
  have n2 : (N : Int) < 9223372036854775808 := by omega
  have d1 : W0.cell? ⟨p + 1, 1, none⟩ = some (.slice A N c) := T0.out.cell2 1
  have hld := load_seg T0.out.out.2.1 rfl
  cases hX with
  | bad h1 =>
    have HC1 := Lib.hid (fun W hb => HC.out 1 W hb (segE_no (by dsimp only at h1; rw [h1]; decide)))
    clear HC h1 H
    go_enter Try.func78, Try.ntmps78
    go_upto_region 1 with fail
    rw [HW.out, HP.out]
    clear HW HP
    go_wp2_with (refine wpList_load_any (by rfl) 49 (.tmp 3) rfl (p + 1) 0 rfl _ hld ?_; simp only [Act.put])
    refine (HC1.out _ T0.out.bel).mono ?_
    rintro e w1 ⟨rfl, hb1⟩
    have T1 := Lib.hid (T0.out.below hb1)
    clear T0 hb1 d1 hld HC1
    have HB := Lib.hid T1.out.out.2.2.1
    have T2 := Lib.hid (T1.out.row3 #[.int .i64 0, .int .i64 0, .int .i64 0])
    clear T1
    go_wp2_with (refine wpList_store_whole rfl 111 (.tmp 4) (.tmp 28) rfl (p + 1 + 1) _ rfl rfl _ HB.out info_end rfl (by simp [Value.oneCell']) ?_; simp only [Act.put])
    refine bodyPost_ret (results_cell2 Try.results78 rfl (load_end T2.out.out.2.2.1 rfl) rfl) rfl ⟨rfl, T2.out.bel⟩
  | low h1 h2 =>
    have HC1 := Lib.hid (fun W hb => HC.out 0 W hb (segE_yes h1))
    clear HC h1 H
    dsimp only at h2
    go_enter Try.func78, Try.ntmps78
    go_upto_region 1 with fail
    rw [HW.out, HP.out]
    clear HW HP
    go_wp2_with (refine wpList_load_any (by rfl) 49 (.tmp 3) rfl (p + 1) 0 rfl _ hld ?_; simp only [Act.put])
    refine (HC1.out _ T0.out.bel).mono ?_
    rintro e w1 ⟨rfl, hb1⟩
    have T1 := Lib.hid (T0.out.below hb1)
    clear T0 hb1 d1 hld HC1
    have d0 : w1.cell? ⟨p + 1, 0, none⟩ = some (.int .i64 sb) := T1.out.cell2 0
    have d2 : w1.cell? ⟨p, 1, none⟩ = some (.int .i64 eb) := T1.out.cell1 1
    have HB := Lib.hid T1.out.out.2.2.1
    have T2 := Lib.hid (T1.out.row3 #[.int .i64 0, .int .i64 0, .int .i64 0])
    clear T1
    go_wp2_with (refine wpList_store_whole rfl 111 (.tmp 4) (.tmp 28) rfl (p + 1 + 1) _ rfl rfl _ HB.out info_end rfl (by simp [Value.oneCell']) ?_; simp only [Act.put])
    refine bodyPost_ret (results_cell2 Try.results78 rfl (load_end T2.out.out.2.2.1 rfl) rfl) rfl ⟨rfl, T2.out.bel⟩
  | many h1 h2 h3 =>
    have HC1 := Lib.hid (fun W hb => HC.out 0 W hb (segE_yes h1))
    dsimp only at h2 h3
    rw [HNN.out] at h3
    have hN2 := seg_len h1
    dsimp only at hN2
    rw [HNN.out] at hN2
    clear HC h1 H
    have e2 : ¬ sb < eb := by omega
    go_enter Try.func78, Try.ntmps78
    go_upto_region 1 with fail
    rw [HW.out, HP.out]
    clear HW HP
    go_wp2_with (refine wpList_load_any (by rfl) 49 (.tmp 3) rfl (p + 1) 0 rfl _ hld ?_; simp only [Act.put])
    refine (HC1.out _ T0.out.bel).mono ?_
    rintro e w1 ⟨rfl, hb1⟩
    have T1 := Lib.hid (T0.out.below hb1)
    clear T0 hb1 d1 hld HC1
    have d0 : w1.cell? ⟨p + 1, 0, none⟩ = some (.int .i64 sb) := T1.out.cell2 0
    have d2 : w1.cell? ⟨p, 1, none⟩ = some (.int .i64 eb) := T1.out.cell1 1
    have d3 : w1.cell? ⟨p, 0, none⟩ = some (.int .i64 er) := T1.out.cell1 0
    have HB := Lib.hid T1.out.out.2.2.1
    have T2 := Lib.hid (T1.out.row3 #[.int .i64 0, .int .i64 0, .int .i64 0])
    clear T1
    go_wp2_with (refine wpList_store_whole rfl 111 (.tmp 4) (.tmp 28) rfl (p + 1 + 1) _ rfl rfl _ HB.out info_end rfl (by simp [Value.oneCell']) ?_; simp only [Act.put])
    refine bodyPost_ret (results_cell2 Try.results78 rfl (load_end T2.out.out.2.2.1 rfl) rfl) rfl ⟨rfl, T2.out.bel⟩
  | none_ h1 h2 h3 h4 =>
    have HC1 := Lib.hid (fun W hb => HC.out 0 W hb (segE_yes h1))
    dsimp only at h2 h3 h4
    subst h4
    obtain rfl : N = 0 := by rw [← HNN.out]; rfl
    clear HC h1 H HNN
    simp only [List.length_nil, Int.natCast_zero, Int.add_zero] at h3
    have e2 : ¬ sb < eb := by omega
    go_enter Try.func78, Try.ntmps78
    go_upto_region 1 with fail
    rw [HW.out, HP.out]
    clear HW HP
    go_wp2_with (refine wpList_load_any (by rfl) 49 (.tmp 3) rfl (p + 1) 0 rfl _ hld ?_; simp only [Act.put])
    refine (HC1.out _ T0.out.bel).mono ?_
    rintro e w1 ⟨rfl, hb1⟩
    have T1 := Lib.hid (T0.out.below hb1)
    clear T0 hb1 d1 hld HC1
    have d0 : w1.cell? ⟨p + 1, 0, none⟩ = some (.int .i64 sb) := T1.out.cell2 0
    have d2 : w1.cell? ⟨p, 1, none⟩ = some (.int .i64 eb) := T1.out.cell1 1
    have d3 : w1.cell? ⟨p, 0, none⟩ = some (.int .i64 er) := T1.out.cell1 0
    have d4 : w1.cell? ⟨p, 2, none⟩ = some (.int .i64 et) := T1.out.cell1 2
    have HB := Lib.hid T1.out.out.2.2.1
    have T2 := Lib.hid (T1.out.row3 #[.int .i64 er, .int .i64 sb, .int .i64 et])
    clear T1
    go_wp2_with (refine wpList_store_whole rfl 111 (.tmp 4) (.tmp 37) rfl (p + 1 + 1) _ rfl rfl _ HB.out info_end rfl (by simp [Value.oneCell']) ?_; simp only [Act.put])
    refine bodyPost_ret (results_cell2 Try.results78 rfl (load_end T2.out.out.2.2.1 rfl) rfl) rfl ⟨rfl, T2.out.bel⟩
  | some_ n h1 h2 h3 h4 =>
    have HC1 := Lib.hid (fun W hb => HC.out 0 W hb (segE_yes h1))
    dsimp only at h1 h2 h3 h4
    have hN2 := seg_len h1
    rw [HNN.out] at h3 h4 hN2
    have hmay1 := seg_may h1 _ (List.getElem_mem (show n < rs.length by rw [HNN.out]; omega))
    clear HC h1
    obtain ⟨b0, o0, rfl, hb0, hc⟩ := H.out.some_ (by rw [HNN.out]; omega)
    have HR := Lib.hid (hc n (by rw [HNN.out]; omega))
    have HR0 := Lib.hid (hc 0 (by rw [HNN.out]; omega))
    clear hc H
    generalize hf : rs[0]'(by rw [HNN.out]; omega) = fr at HR0 ⊢
    generalize rs[n]'(by rw [HNN.out]; omega) = a at HR hmay1 ⊢
    clear hf
    obtain ⟨fo, ft, fk, fb, fq, fg⟩ := fr
    obtain ⟨xo, xt, xk, xb, xq, xg⟩ := a
    obtain ⟨m1, m2, m3, m4, _⟩ := (may_iff _).1 hmay1
    dsimp only at m1 m2 m3 m4 ⊢
    have hbp : b0 < p := by rw [← HP.out]; exact hb0
    have e2 : ¬ sb < eb := by omega
    have e3 : ((N : Int) == 0) = false := by rw [beq_eq_false_iff_ne]; omega
    have e4 : (N == 0) = false := by rw [beq_eq_false_iff_ne]; omega
    have e5 : (N : Int) - 1 = (n : Int) := by omega
    have e6 : (n : Int) < (N : Int) := by omega
    have E7 := Lib.hid (show (0 : Int) < (N : Int) ∧ 0 < N ∧ IntKind.i64.wrap (er + (N : Int)) = er + (N : Int) ∧ IntKind.i64.wrap (xo + 1) = xo + 1 from ⟨by omega, by omega, IntWalk.i64_in _ ⟨by omega, by omega⟩, IntWalk.i64_in _ ⟨by omega, by omega⟩⟩)
    clear hmay1 h4 hb0 m1 m2 m3 m4 hm n2 hN2 hcap
    go_enter Try.func78, Try.ntmps78
    go_upto_region 1 with fail
    rw [HW.out, HP.out]
    clear HW
    go_wp2_with (refine wpList_load_any (by rfl) 49 (.tmp 3) rfl (p + 1) 0 rfl _ hld ?_; simp only [Act.put])
    refine (HC1.out _ T0.out.bel).mono ?_
    rintro e w1 ⟨rfl, hb1⟩
    have T1 := Lib.hid (T0.out.below hb1)
    clear T0 hb1 d1 hld HC1
    have d0 : w1.cell? ⟨p + 1, 0, none⟩ = some (.int .i64 sb) := T1.out.cell2 0
    have d1 : w1.cell? ⟨p + 1, 1, none⟩ = some (.slice (some ⟨b0, o0, none⟩) N c) := T1.out.cell2 1
    have d2 : w1.cell? ⟨p, 1, none⟩ = some (.int .i64 eb) := T1.out.cell1 1
    have d3 : w1.cell? ⟨p, 0, none⟩ = some (.int .i64 er) := T1.out.cell1 0
    have d4 : w1.cell? ⟨p, 2, none⟩ = some (.int .i64 et) := T1.out.cell1 2
    obtain ⟨c0, c1, c2, c3, c4, c5⟩ := HR.out.keep (w' := w1) (fun i => T1.out.bel.cell (p := ⟨b0, i, none⟩) (by rw [HP.out]; exact hbp))
    dsimp only at c0 c1 c2 c3 c4 c5
    generalize str xk = kz at c2
    generalize str xb = bz at c3
    have T1_lt : p + 1 + 1 < w1.heap.size := T1.out.out.2.2.1.lt
    obtain ⟨g9, W4, hg9, hW4, hbn, hbx, hbl⟩ := box_new T1.out.bel (rarr xo xt kz bz xq xg)
    have T2 := Lib.hid (T1.out.below hbl)
    have HBN := Lib.hid hbn
    have HBX := Lib.hid hbx
    unfold zcells at hW4
    have HW4 := Lib.hid hW4
    clear hbn hbx hbl hW4 T1
    unfold rarr at HBX T2
    go_upto_region 7 with (rw [HW4.out]; refine wpList_store_whole rfl 46 (.tmp 7) (.tmp 43) rfl g9 _ rfl rfl zcells HBN.out info_rec rfl (by simp [Value.oneCell']) ?_; simp only [Act.put])
    have hg3 : p + 1 + 1 < g9 := by rw [← hg9]; have := HP.out; exact T1_lt
    clear HW4 HBN d0 d1 d2 d3 d4 c0 c1 c2 c3 c4 c5 hg9
    generalize World.setRow _ _ _ = w5 at HBX T2 ⊢
    have d1 : w5.cell? ⟨p + 1, 1, none⟩ = some (.slice (some ⟨b0, o0, none⟩) N c) := T2.out.cell2 1
    have d3 : w5.cell? ⟨p, 0, none⟩ = some (.int .i64 er) := T2.out.cell1 0
    have d4 : w5.cell? ⟨p, 2, none⟩ = some (.int .i64 et) := T2.out.cell1 2
    have f0 : w5.cell? ⟨g9, 0, none⟩ = some (.int .i64 xo) := HBX.out.cell 0
    have f1 : w5.cell? ⟨g9, 1, none⟩ = some (.int .i64 xt) := HBX.out.cell 1
    obtain ⟨_, k1, _, _, _, _⟩ := HR0.out.keep (w' := w5) (fun i => T2.out.bel.cell (p := ⟨b0, i, none⟩) (by rw [HP.out]; exact hbp))
    dsimp only at k1
    rw [Nat.zero_mul, Nat.add_zero] at k1
    have HD := Lib.hid (And.intro d1 (And.intro d3 (And.intro d4 (And.intro f0 (And.intro f1 k1)))))
    clear HBX HR HR0 d1 d3 d4 f0 f1 k1
    obtain ⟨e7, e8, w2, w3⟩ := E7.out
    have T3 := Lib.hid (T2.out.below (below_drewN (Below.refl w5.heap.size w5) 1))
    change Hid (Tro w p _ _ _ w5.drew) at T3
    clear E7 T2
    refine wp_region_held_drew (S := fun W => W.cell? ⟨p + 1, 1, none⟩ = some (.slice (some ⟨b0, o0, none⟩) N c) ∧ W.cell? ⟨p, 0, none⟩ = some (.int .i64 er) ∧ W.cell? ⟨p, 2, none⟩ = some (.int .i64 et) ∧ W.cell? ⟨g9, 0, none⟩ = some (.int .i64 xo) ∧ W.cell? ⟨g9, 1, none⟩ = some (.int .i64 xt) ∧ W.cell? ⟨b0, o0 + 1, none⟩ = some (.int .i64 ft)) (by kernel_rfl) HD.out (fun hS => ?_)
    clear HD
    generalize w5.drew = w6 at T3 hS ⊢
    refine take_op 0 44 (.pointer (some ⟨p, 0, none⟩)) rfl rfl (by kernel_rfl) (fun _ _ _ h => h) (by rfl) hS (fun w' hS' => ?hv0) ?hh0
    case hv0 => (obtain ⟨s1, s2, s3, s4, s5, s6⟩ := hS'; go_simp; (try with_reducible rfl); (try omega))
    simp only [Act.put, List.setIfInBounds_toArray, List.set_cons_zero, List.set_cons_succ]
    refine take_op 1 45 (.int .i64 er) rfl rfl (by kernel_rfl) (fun _ _ _ h => h) (by rfl) hS (fun w' hS' => ?hv1) ?hh1
    case hv1 => (obtain ⟨s1, s2, s3, s4, s5, s6⟩ := hS'; go_simp; (try with_reducible rfl); (try omega))
    simp only [Act.put, List.setIfInBounds_toArray, List.set_cons_zero, List.set_cons_succ]
    refine take_op 2 46 (.int .i64 (N : Int)) rfl rfl (by kernel_rfl) (fun _ _ _ h => h) (by rfl) hS (fun w' hS' => ?hv2) ?hh2
    case hv2 => (obtain ⟨s1, s2, s3, s4, s5, s6⟩ := hS'; go_simp; (try with_reducible rfl); (try omega))
    simp only [Act.put, List.setIfInBounds_toArray, List.set_cons_zero, List.set_cons_succ]
    refine take_op 3 47 (.int .i64 (er + (N : Int))) rfl rfl (by kernel_rfl) (fun _ _ _ h => h) (by rfl) hS (fun w' hS' => ?hv3) ?hh3
    case hv3 => (obtain ⟨s1, s2, s3, s4, s5, s6⟩ := hS'; go_simp; (try with_reducible rfl); (try omega))
    simp only [Act.put, List.setIfInBounds_toArray, List.set_cons_zero, List.set_cons_succ]
    refine take_op 4 48 (.pointer (some ⟨g9, 0, none⟩)) rfl rfl (by kernel_rfl) (fun _ _ _ h => h) (by rfl) hS (fun w' hS' => ?hv4) ?hh4
    case hv4 => (obtain ⟨s1, s2, s3, s4, s5, s6⟩ := hS'; go_simp; (try with_reducible rfl); (try omega))
    simp only [Act.put, List.setIfInBounds_toArray, List.set_cons_zero, List.set_cons_succ]
    refine take_op 5 49 (.int .i64 xo) rfl rfl (by kernel_rfl) (fun _ _ _ h => h) (by rfl) hS (fun w' hS' => ?hv5) ?hh5
    case hv5 => (obtain ⟨s1, s2, s3, s4, s5, s6⟩ := hS'; go_simp; (try with_reducible rfl); (try omega))
    simp only [Act.put, List.setIfInBounds_toArray, List.set_cons_zero, List.set_cons_succ]
    refine take_op 6 50 (.int .i64 (xo + 1)) rfl rfl (by kernel_rfl) (fun _ _ _ h => h) (by rfl) hS (fun w' hS' => ?hv6) ?hh6
    case hv6 => (obtain ⟨s1, s2, s3, s4, s5, s6⟩ := hS'; go_simp; (try with_reducible rfl); (try omega))
    simp only [Act.put, List.setIfInBounds_toArray, List.set_cons_zero, List.set_cons_succ]
    refine take_op 7 51 (.pointer (some ⟨g9, 1, none⟩)) rfl rfl (by kernel_rfl) (fun _ _ _ h => h) (by rfl) hS (fun w' hS' => ?hv7) ?hh7
    case hv7 => (obtain ⟨s1, s2, s3, s4, s5, s6⟩ := hS'; go_simp; (try with_reducible rfl); (try omega))
    simp only [Act.put, List.setIfInBounds_toArray, List.set_cons_zero, List.set_cons_succ]
    refine take_op 8 52 (.int .i64 xt) rfl rfl (by kernel_rfl) (fun _ _ _ h => h) (by rfl) hS (fun w' hS' => ?hv8) ?hh8
    case hv8 => (obtain ⟨s1, s2, s3, s4, s5, s6⟩ := hS'; go_simp; (try with_reducible rfl); (try omega))
    simp only [Act.put, List.setIfInBounds_toArray, List.set_cons_zero, List.set_cons_succ]
    refine take_op 9 53 (.agg #[.int .i64 (er + (N : Int)), .int .i64 (xo + 1), .int .i64 xt]) rfl rfl (by kernel_rfl) (fun _ _ _ h => h) (by rfl) hS (fun w' hS' => ?hv9) ?hh9
    case hv9 => (obtain ⟨s1, s2, s3, s4, s5, s6⟩ := hS'; go_simp; (try with_reducible rfl); (try omega))
    simp only [Act.put, List.setIfInBounds_toArray, List.set_cons_zero, List.set_cons_succ]
    refine take_op 10 54 (.pointer (some ⟨p + 1, 1, none⟩)) rfl rfl (by kernel_rfl) (fun _ _ _ h => h) (by rfl) hS (fun w' hS' => ?hv10) ?hh10
    case hv10 => (obtain ⟨s1, s2, s3, s4, s5, s6⟩ := hS'; go_simp; (try with_reducible rfl); (try omega))
    simp only [Act.put, List.setIfInBounds_toArray, List.set_cons_zero, List.set_cons_succ]
    refine take_op 11 55 (.slice (some ⟨b0, o0, none⟩) N c) rfl rfl (by kernel_rfl) (fun _ _ _ h => h) (by rfl) hS (fun w' hS' => ?hv11) ?hh11
    case hv11 => (obtain ⟨s1, s2, s3, s4, s5, s6⟩ := hS'; go_simp; (try with_reducible rfl); (try omega))
    simp only [Act.put, List.setIfInBounds_toArray, List.set_cons_zero, List.set_cons_succ]
    refine take_op 12 56 (.pointer (some ⟨b0, o0, none⟩)) rfl rfl (by kernel_rfl) (fun _ _ _ h => h) (by rfl) hS (fun w' hS' => ?hv12) ?hh12
    case hv12 => (obtain ⟨s1, s2, s3, s4, s5, s6⟩ := hS'; go_simp; (try with_reducible rfl); (try omega))
    simp only [Act.put, List.setIfInBounds_toArray, List.set_cons_zero, List.set_cons_succ]
    refine take_op 13 57 (.pointer (some ⟨b0, o0 + 1, none⟩)) rfl rfl (by kernel_rfl) (fun _ _ _ h => h) (by rfl) hS (fun w' hS' => ?hv13) ?hh13
    case hv13 => (obtain ⟨s1, s2, s3, s4, s5, s6⟩ := hS'; go_simp; (try with_reducible rfl); (try omega))
    simp only [Act.put, List.setIfInBounds_toArray, List.set_cons_zero, List.set_cons_succ]
    refine take_op 14 58 (.int .i64 ft) rfl rfl (by kernel_rfl) (fun _ _ _ h => h) (by rfl) hS (fun w' hS' => ?hv14) ?hh14
    case hv14 => (obtain ⟨s1, s2, s3, s4, s5, s6⟩ := hS'; go_simp; (try with_reducible rfl); (try omega))
    simp only [Act.put, List.setIfInBounds_toArray, List.set_cons_zero, List.set_cons_succ]
    refine take_op 15 59 (.pointer (some ⟨p, 2, none⟩)) rfl rfl (by kernel_rfl) (fun _ _ _ h => h) (by rfl) hS (fun w' hS' => ?hv15) ?hh15
    case hv15 => (obtain ⟨s1, s2, s3, s4, s5, s6⟩ := hS'; go_simp; (try with_reducible rfl); (try omega))
    simp only [Act.put, List.setIfInBounds_toArray, List.set_cons_zero, List.set_cons_succ]
    refine take_op 16 60 (.int .i64 et) rfl rfl (by kernel_rfl) (fun _ _ _ h => h) (by rfl) hS (fun w' hS' => ?hv16) ?hh16
    case hv16 => (obtain ⟨s1, s2, s3, s4, s5, s6⟩ := hS'; go_simp; (try with_reducible rfl); (try omega))
    simp only [Act.put, List.setIfInBounds_toArray, List.set_cons_zero, List.set_cons_succ]
    refine take_op 17 61 (.bool (decide (et ≤ ft))) rfl rfl (by kernel_rfl) (fun _ _ _ h => h) (by rfl) hS (fun w' hS' => ?hv17) ?hh17
    case hv17 => (obtain ⟨s1, s2, s3, s4, s5, s6⟩ := hS'; go_simp; (try with_reducible rfl); (try omega))
    simp only [Act.put, List.setIfInBounds_toArray, List.set_cons_zero, List.set_cons_succ]
    obtain ⟨Tz, hz⟩ := T3.out.out.2.2.1
    have T4 := Lib.hid (T3.out.row3 #[.int .i64 (er + (N : Int)), .int .i64 (xo + 1), .int .i64 xt])
    have hS2 : (fun W => W.cell? ⟨p + 1, 1, none⟩ = some (.slice (some ⟨b0, o0, none⟩) N c) ∧ W.cell? ⟨p, 0, none⟩ = some (.int .i64 er) ∧ W.cell? ⟨p, 2, none⟩ = some (.int .i64 et) ∧ W.cell? ⟨g9, 0, none⟩ = some (.int .i64 xo) ∧ W.cell? ⟨g9, 1, none⟩ = some (.int .i64 xt) ∧ W.cell? ⟨b0, o0 + 1, none⟩ = some (.int .i64 ft)) (w6.setRow (p + 1 + 1) #[.int .i64 (er + (N : Int)), .int .i64 (xo + 1), .int .i64 xt]) := by
      obtain ⟨s1, s2, s3, s4, s5, s6⟩ := hS
      have ho : ∀ q i, q ≠ p + 1 + 1 → (w6.setRow (p + 1 + 1) #[.int .i64 (er + (N : Int)), .int .i64 (xo + 1), .int .i64 xt]).cell? ⟨q, i, none⟩ = w6.cell? ⟨q, i, none⟩ := fun q i hq => World.cell?_of_block (setRow_other w6 (p + 1 + 1) q _ hq)
      exact ⟨(ho _ _ (by omega)).trans s1, (ho _ _ (by omega)).trans s2, (ho _ _ (by omega)).trans s3, (ho _ _ (by omega)).trans s4, (ho _ _ (by omega)).trans s5, (ho _ _ (by omega)).trans s6⟩
    refine only_op 18 rfl (by kernel_rfl) (by rfl) (wp_store_row 111 (.tmp 4) (.tmp 53) rfl (p + 1 + 1) #[.int .i64 (er + (N : Int)), .int .i64 (xo + 1), .int .i64 xt] rfl rfl Tz _ hz info_end rfl (by simp [Value.oneCell']) ⟨hS2, ?_⟩)
    (try simp only [put_none])
    refine take_op 19 5 (.bool (decide (et ≤ ft))) rfl rfl (by kernel_rfl) (fun _ _ _ h => h) (by rfl) hS2 (fun w' hS' => ?hv19) ?hh19
    case hv19 => (go_simp; try with_reducible rfl)
    simp only [Act.put, List.setIfInBounds_toArray]
    refine wpAnyH_done (by kernel_rfl) ?_ _
    clear hS hS2
    go_wp2_with fail
    rw [HNN.out]
    refine bodyPost_ret (results_cell2 Try.results78 rfl (load_end T4.out.out.2.2.1 rfl) rfl) rfl ⟨rfl, T4.out.bel⟩
end Go.Proofs.Ythdefnfpjbpbkaa.Kpd
/- Package keep: whether segments are in a row. -/
namespace Go.Proofs.Ythdefnfpjbpbkaa.Kpd
open Go.RowKit Go.Lib Rcd

def rowE (l : List Sp) : Int := if rowB l then 0 else 1
theorem rowE_no {l : List Sp} (h : rowB l = false) : rowE l = 1 := by unfold rowE; rw [h]; rfl
theorem rowE_yes {l : List Sp} (h : rowB l = true) : rowE l = 0 := by unfold rowE; rw [h]; rfl
/-- So many of the first ones may stand where they do. -/
def RowTo (l : List Sp) (k : Nat) : Prop := ∀ j (h : j < l.length), j < k → okB (endOf (l.take j)) l[j] = true
theorem end_le {l : List Sp} {k : Nat} (hk : k ≤ l.length) (h : RowTo l k) : 0 ≤ (endOf (l.take k)).r ∧ (endOf (l.take k)).r ≤ 200 := by
  refine ⟨by rw [end_r]; omega, ?_⟩
  cases k with
  | zero => show (0 : Int) ≤ 200; decide
  | succ j =>
    have h1 := ok_iff.1 (h j (by omega) (by omega))
    rw [end_next (by omega)]
    unfold En.next
    split
    · have := h1.2.2.1
      dsimp only
      omega
    · exact h1.2.2.1
/-- A new box, and a value put into it. -/
theorem any_box {w w1 : World} (hb : Below w.heap.size w w1) (T : TypeId) (zs cs : Array Value) : ∃ g W4, w1.heap.size = g ∧ w1.alloc (.cells zs T) = W4 ∧ Blk W4 g zs ∧ RBox w g cs (W4.setRow g cs) ∧ Below w1.heap.size w1 (W4.setRow g cs) := by
  have hbn := Blk.new w1 T zs
  have hbl : Below w.heap.size w (w1.alloc (.cells zs T)) := hb.alloc hb.size _
  exact ⟨_, _, rfl, rfl, hbn, .mk (hbn.row cs) (below_row hbl hb.size cs), below_row ((Below.refl _ _).alloc (Nat.le_refl _) _) (Nat.le_refl _) cs⟩

set_option maxRecDepth 100000 in
set_option maxHeartbeats 8000000 in
/-- keep.Row. -/
theorem Row_is (l : List Sp) (N : Nat) (A : Option Addr) (c B : Nat) (E : Int) (w : World) (hN : l.length = N) (hm : N ≤ 9223372036854775807) (hB : B ≤ w.heap.size) (h : SegsAt w B A l) (hE : rowE l = E) :
    Calls Try.prog 67 #[.slice A N c] w fun e w' => e = .returned (.int .i64 E) ∧ Below w.heap.size w w' := by
  have H := Lib.hid (h.mono hB)
  have HE := Lib.hid hE
  have HN := Lib.hid hN
  clear h hE hN hB
  by_cases hl : 1 ≤ (N : Int) ∧ (N : Int) ≤ 201
  · have HW1 := Lib.hid (fun W => kWithin_is (N : Int) 1 201 true W (decide_eq_true hl))
    have hl2 : N ≤ 201 := by omega
    have hl1 : 1 ≤ N := by omega
    clear hl
    have R0 := Lib.hid (RBox.new w 111 (earr 0 0 0))
    obtain ⟨p, hp⟩ : ∃ p, w.heap.size = p := ⟨_, rfl⟩
    obtain ⟨W0, hW⟩ : ∃ W0, w.alloc (.cells (earr 0 0 0) 111) = W0 := ⟨_, rfl⟩
    rw [hW, hp] at R0
    unfold earr at hW
    have HW := Lib.hid hW
    have HP := Lib.hid hp
    clear hW hp
    go_enter Try.func67, Try.ntmps67
    go_wp2_with (go_at_call 43; refine (HW1.out _).mono ?_; rintro e w' ⟨rfl, rfl⟩)
    rw [HW.out, HP.out]
    clear HW HW1
    go_loopw [14] (fun i wr => ∃ k : Nat, k ≤ N ∧ i = .int .i64 (k : Int) ∧ RBox w p (earr (endOf (l.take k)).r (endOf (l.take k)).b (endOf (l.take k)).t) wr ∧ RowTo l k) (fun i _ => N - (RowKit.intOf i).toNat)
    case atStart => exact ⟨0, Nat.zero_le _, rfl, R0.out, fun j _ h => absurd h (Nat.not_lt_zero _)⟩
    case round =>
      obtain ⟨k, hk, rfl, hbx, hto⟩ := hrel
      have HT := Lib.hid hto
      have R := Lib.hid hbx
      have hel := end_le (by rw [HN.out]; exact hk) hto
      clear hbx hto R0
      by_cases hlt : k < N
      · have hlr : k < l.length := by rw [HN.out]; exact hlt
        obtain ⟨b0, o0, rfl, hb0, hc⟩ := (H.out.below R.out.out.2).some_ (by omega)
        obtain ⟨A1, c1, hsg⟩ := hc k hlr
        obtain ⟨e', X, hwi, hok, hnx⟩ := with_ex (endOf (l.take k)) l[k]
        have HYES : Hid (X = true → RowTo l (k + 1) ∧ endOf (l.take (k + 1)) = e') := by
          show _ → _
          intro hx
          refine ⟨fun j h hj => ?_, by rw [end_next hlr, hnx hx]⟩
          by_cases hjk : j < k
          · exact HT.out j h hjk
          · obtain rfl : j = k := by omega
            exact hok.trans hx
        have HNO : Hid (X = false → E = 1) := by
          show _ → _
          intro hx
          rw [← HE.out]
          refine rowE_no ?_
          rw [← Bool.not_eq_true]
          intro hr
          have := (row_iff.1 hr).2 k hlr
          rw [hok, hx] at this
          cases this
        clear hc hok hnx HT
        generalize endOf (l.take k) = e0 at R hwi hel
        generalize l[k] = s at hsg hwi
        obtain ⟨s0, s1, hA, hcap, hlim⟩ := hsg
        obtain ⟨M, hM⟩ : ∃ M, s.rs.length = M := ⟨_, rfl⟩
        rw [hM] at s1 hcap hlim
        have HWI := Lib.hid (fun W (hb : Below wr.heap.size wr W) => with_is e0 s M A1 c1 w.heap.size e' X W hM (by omega) hcap ⟨hel.1, by omega⟩ (Nat.le_trans R.out.out.2.size hb.size) (hA.below (hb.mono R.out.out.2.size)) hwi)
        unfold eagg at HWI
        obtain ⟨er, eb, et⟩ := e0
        obtain ⟨er', eb', et'⟩ := e'
        obtain ⟨sb, srs⟩ := s
        dsimp only at s0 s1 hA R HWI HYES
        unfold earr at R HWI
        have hld := load_seg_at s0 s1
        obtain ⟨g9, W4, hg9, hW4, hbn, hbx, hbw⟩ := any_box R.out.out.2 49 szero (sarr sb A1 M c1)
        have HBN := Lib.hid hbn
        have HBX := Lib.hid hbx
        have HBW := Lib.hid hbw
        have R5 := Lib.hid (R.out.below hbw)
        unfold szero at hW4
        unfold sarr at HBX HBW R5
        have HW4 := Lib.hid hW4
        clear hbn hbx hbw hW4 hM hA hcap hlim hel hwi R hlr
        have e1 : (k : Int) < (N : Int) := by omega
        go_upto_region 7 with (first | (refine wpList_load_any (by rfl) 49 (.tmp 16) rfl b0 (o0 + k * 2) rfl _ hld ?_; simp only [Act.put]) | (rw [HW4.out]; refine wpList_store_whole rfl 49 (.tmp 5) (.tmp 17) rfl g9 _ rfl rfl szero HBN.out info_seg rfl (by simp [Value.oneCell']) ?_; simp only [Act.put]))
        clear HW4 HBN s0 s1 hg9 hld
        generalize World.setRow _ _ _ = w5 at HBX HBW R5 ⊢
        have hld := HBX.out.loadS rfl
        have hle := load_end R5.out.out.1 rfl
        go_wp2_with (first | (refine wpList_load_any (by rfl) 111 (.tmp 3) rfl p 0 rfl _ hle ?_; simp only [Act.put]) | (refine wpList_load_any (by rfl) 49 (.tmp 5) rfl g9 0 rfl _ hld ?_; simp only [Act.put]))
        refine (HWI.out _ HBW.out).mono ?_
        rintro e w6 ⟨rfl, hb6⟩
        have R6 := Lib.hid (R5.out.below hb6)
        obtain ⟨g8, W8, hg8, hW8, hbn, hbx, hbw⟩ := any_box R6.out.out.2 111 (earr 0 0 0) (earr er' eb' et')
        have HBN := Lib.hid hbn
        have HBX8 := Lib.hid hbx
        have R8 := Lib.hid (R6.out.below hbw)
        unfold earr at hW8 HBX8 R8
        have HW8 := Lib.hid hW8
        clear HBX HBW R5 hb6 hld hle HWI hbn hbx hbw hW8 R6
        go_upto_region 8 with (rw [HW8.out]; refine wpList_store_whole rfl 111 (.tmp 6) (.tmp 22) rfl g8 _ rfl rfl _ HBN.out info_end rfl (by simp [Value.oneCell']) ?_; simp only [Act.put])
        clear HW8 HBN hg8
        generalize World.setRow _ _ _ = w9 at HBX8 R8 ⊢
        cases X with
        | true =>
          obtain ⟨y1, y2⟩ := HYES.out rfl
          have hle := load_end HBX8.out.out.1 rfl
          have HB9 := Lib.hid R8.out.out.1
          have R9 := Lib.hid (R8.out.row (Nat.le_of_eq HP.out) #[.int .i64 er', .int .i64 eb', .int .i64 et'])
          clear R8 HBX8
          have HY := Lib.hid (And.intro y1 y2)
          clear y1 y2 HYES HNO
          go_wp2_with (first | (refine wpList_load_any (by rfl) 111 (.tmp 6) rfl g8 0 rfl _ hle ?_; simp only [Act.put]) | (refine wpList_store_whole rfl 111 (.tmp 3) (.tmp 26) rfl p _ rfl rfl _ HB9.out info_end rfl (by simp [Value.oneCell']) ?_; simp only [Act.put]))
          go_roundw
          case rel => exact ⟨k + 1, hlt, by go_num, by rw [HY.out.2]; exact R9.out, HY.out.1⟩
          case measure => simp [RowKit.intOf]; omega
        | false =>
          obtain rfl : E = 1 := HNO.out rfl
          go_wp2_with fail
          go_ret
          exact ⟨rfl, R8.out.out.2⟩
      · obtain rfl : k = N := by omega
        obtain rfl : E = 0 := by
          rw [← HE.out]
          exact rowE_yes (row_iff.2 ⟨by rw [HN.out]; exact ⟨hl1, hl2⟩, fun j hj => HT.out j hj (by rw [← HN.out]; exact hj)⟩)
        clear hel
        go_wp2_with fail
        go_ret
        exact ⟨rfl, R.out.out.2⟩
  · have HW1 := Lib.hid (fun W => kWithin_is (N : Int) 1 201 false W (decide_eq_false hl))
    obtain rfl : E = 1 := by
      rw [← HE.out]
      refine rowE_no ?_
      unfold rowB
      rw [decide_eq_false (by rw [HN.out]; omega)]
      rfl
    clear hl
    go_enter Try.func67, Try.ntmps67
    go_wp2_with (go_at_call 43; refine (HW1.out _).mono ?_; rintro e w' ⟨rfl, rfl⟩)
    go_ret
    exact ⟨rfl, Below.refl _ _⟩
end Go.Proofs.Ythdefnfpjbpbkaa.Kpd
/- Records: one more of the first few. -/
namespace Go.Proofs.Ythdefnfpjbpbkaa
open Go.RowKit Go.Lib Rcd

theorem takeR_snoc {l : List Rc} {k : Nat} (h : k < l.length) : flat (l.take (k + 1)) = flat (l.take k) ++ rcells l[k] := by rw [List.take_succ_eq_append_getElem h, flat_snoc]

end Go.Proofs.Ythdefnfpjbpbkaa
/- Records held against each other. -/
namespace Go.Proofs.Ythdefnfpjbpbkaa
open Go.RowKit Go.Lib Rcd

set_option maxRecDepth 100000 in
set_option maxHeartbeats 1000000 in
/-- EqRecs of the same records: yes. -/
theorem EqRecs_same (l : List Rc) (A A' : Option Addr) (c c' B B' : Nat) (w : World) (hm : l.length ≤ 9223372036854775807) (h : RecsAt w B A l) (h' : RecsAt w B' A' l) :
    Calls Try.prog 18 #[.slice A l.length c, .slice A' l.length c'] w fun e w' => e = .returned (.bool true) ∧ Below w.heap.size w w' := by
  have H := Lib.hid h
  have H' := Lib.hid h'
  clear h h'
  go_enter Try.func18, Try.ntmps18
  go_wp2_with fail
  go_loopw [5] (fun i wr => ∃ k n : Nat, k ≤ l.length ∧ i = .int .i64 (k : Int) ∧ wr = w.drewN n) (fun i _ => l.length - (RowKit.intOf i).toNat)
  case atStart => exact ⟨0, 0, Nat.zero_le _, rfl, rfl⟩
  case round =>
    obtain ⟨k, n, hk, rfl, rfl⟩ := hrel
    by_cases hlt : k < l.length
    · obtain ⟨b, o, rfl, _, hc⟩ := H.out.some_ (by omega)
      obtain ⟨b', o', rfl, _, hc'⟩ := H'.out.some_ (by omega)
      have h1 := hc k hlt
      have h2 := hc' k hlt
      clear hc hc' H H'
      obtain ⟨x, t, ks, bs, q, g⟩ := l[k]
      obtain ⟨c0, c1, c2, c3, c4, c5⟩ := h1
      obtain ⟨d0, d1, d2, d3, d4, d5⟩ := h2
      generalize str ks = kz at c2 d2
      generalize str bs = bz at c3 d3
      have hkI : (k : Int) < (l.length : Int) := by omega
      have hne := neq_rec x t kz bz q g
      unfold rarr at hne
      go_wp2
      go_quiet (fail)
      go_wp2
      go_roundw
      case rel => exact ⟨k + 1, _, hlt, by go_num, rfl⟩
      case measure => simp [RowKit.intOf]; omega
    · go_wp2
      go_ret
      exact ⟨rfl, below_drewN (Below.refl _ _) n⟩

end Go.Proofs.Ythdefnfpjbpbkaa
/- The document's own answer: copies of records, of a segment. -/
namespace Go.Proofs.Ythdefnfpjbpbkaa
open Go.RowKit Go.Lib Rcd

set_option maxRecDepth 100000 in
set_option maxHeartbeats 4000000 in
/-- fairwayref0.CopyRecs. -/
theorem RCopyRecs_is (l : List Rc) (A : Option Addr) (c B : Nat) (w : World) (hm : l.length * 64 ≤ 140737488351232) (hB : B ≤ w.heap.size) (h : RecsAt w B A l) :
    Calls Try.prog 31 #[.slice A l.length c] w fun e w' => ∃ A' c', e = .returned (.slice A' l.length c') ∧ w'.ownsRow w.heap.size 46 6 (.slice A' l.length c') l.length (flat l) ∧ Below w.heap.size w w' := by
  obtain ⟨i0, hi, hz0, hz1, hz2⟩ := info_parts info_more
  have H := Lib.hid (h.mono hB)
  clear h
  go_enter Try.func31, Try.ntmps31
  go_wp2_with fail
  go_loopw [3, 4] (fun m i wr => ∃ k : Nat, k ≤ l.length ∧ i = .int .i64 (k : Int) ∧ wr.ownsRow w.heap.size 46 6 m k (flat (l.take k)) ∧ Below w.heap.size w wr) (fun _ i _ => l.length - (RowKit.intOf i).toNat)
  case atStart => exact ⟨0, Nat.zero_le _, rfl, World.ownsRow_nil _ _ _ _, Below.refl _ _⟩
  case round =>
    obtain ⟨k, hk, rfl, hown, hnx⟩ := hrel
    by_cases hlt : k < l.length
    · obtain ⟨b0, o0, rfl, _, hc⟩ := (H.out.below hnx).some_ (by omega)
      obtain ⟨d0, d1, d2, d3, d4, d5⟩ := hc k hlt
      have HS := Lib.hid (takeR_snoc hlt)
      clear hc
      obtain ⟨s, hs⟩ : ∃ s, l[k] = s := ⟨_, rfl⟩
      rw [hs] at d0 d1 d2 d3 d4 d5 HS
      have HO := Lib.hid hown
      have HN := Lib.hid hnx
      have hkI : (k : Int) < (l.length : Int) := by omega
      obtain ⟨o, t, key, bod, q, g⟩ := s
      have hfc : rcells ⟨o, t, key, bod, q, g⟩ = [.int .i64 o, .int .i64 t, .string (str key), .string (str bod), .int .i64 q, .bool g] := rfl
      have hon : ∀ u ∈ rcells ⟨o, t, key, bod, q, g⟩, u.oneCell' = true := one_cells _
      rw [hfc] at HS hon
      have HON := Lib.hid hon
      dsimp only at d0 d1 d2 d3 d4 d5
      clear hs hown hnx hfc hon
      generalize str key = ks at HS HON d2
      generalize str bod = bs at HS HON d3
      have hs6 := HN.out.size
      go_wp2_with (at_builtin; refine wpList_append_own _ rfl _ _ 37 rfl w.heap.size 46 i0 (.agg zcells) 6 64 Try.underlying37 hi hz0 hz1 hz2 rfl (by decide) _ _ _ rfl (HO.out.alloc _) ⟨wr.heap.size, 0, none⟩ 1 1 [.int .i64 o, .int .i64 t, .string ks, .string bs, .int .i64 q, .bool g] rfl rfl ?c1 ?c2 ?c3 ?c4 ?c5 ?_)
      case c1 => exact fun j u h => cells_new wr _ [.int .i64 o, .int .i64 t, .string ks, .string bs, .int .i64 q, .bool g] j u h
      case c2 => exact HON.out
      case c3 => unfold maxLen; omega
      case c4 => first | omega | (simp; omega)
      case c5 => first | omega | (simp; omega)
      intro v' w7 hown' hgrow _
      have HN' := Lib.hid (HN.out.trans (below_alloc_grown hs6 HO.out hgrow))
      have HO' : Hid (w7.ownsRow w.heap.size 46 6 v' (k + 1) (flat (l.take (k + 1)))) := by show World.ownsRow _ _ _ _ _ _ _; rw [HS.out]; exact hown'
      clear hown' hgrow HO HN HS HON
      go_wp2_with fail
      go_roundw
      case rel => exact ⟨k + 1, hlt, by go_num, HO'.out, HN'.out⟩
      case measure => simp [RowKit.intOf]; omega
    · obtain rfl : k = l.length := by omega
      rw [List.take_length] at hown
      obtain ⟨A', c', hv⟩ := own_slice hown
      have HO := Lib.hid hown
      have HN := Lib.hid hnx
      clear hown hnx
      subst hv
      go_wp2_with fail
      go_ret
      exact ⟨A', c', rfl, HO.out, HN.out⟩

set_option maxRecDepth 100000 in
set_option maxHeartbeats 4000000 in
/-- fairwayref0.CopySeg. -/
theorem RCopySeg_is (b : Int) (l : List Rc) (A : Option Addr) (c B : Nat) (w : World) (hm : l.length * 64 ≤ 140737488351232) (hB : B ≤ w.heap.size) (h : RecsAt w B A l) :
    Calls Try.prog 24 #[.agg #[.int .i64 b, .slice A l.length c]] w (GivesAt b l w) := by
  have hD := Duo.new w 49 49 (sarr b A l.length c) szero
  have HC := Lib.hid (fun W (hb : Below w.heap.size w W) => RCopyRecs_is l A c B W hm (Nat.le_trans hB hb.size) (h.below (hb.mono hB)))
  obtain ⟨p, hp⟩ : ∃ p, w.heap.size = p := ⟨_, rfl⟩
  obtain ⟨W0, hW⟩ : ∃ W0, (w.alloc (.cells (sarr b A l.length c) 49)).alloc (.cells szero 49) = W0 := ⟨_, rfl⟩
  rw [hW, hp] at hD
  unfold sarr at hD hW
  unfold szero at hW
  have D0 := Lib.hid hD
  have hq := SBlk.new W0 szero
  have hDn := hD.below ((Below.refl _ _).alloc (Nat.le_refl _) (.cells szero 49))
  obtain ⟨q, hqz⟩ : ∃ q, W0.heap.size = q := ⟨_, rfl⟩
  obtain ⟨W4, hW4⟩ : ∃ W4, W0.alloc (.cells szero 49) = W4 := ⟨_, rfl⟩
  rw [hW4] at hq hDn
  rw [hqz] at hq
  have hpq : p + 1 < q := by rw [← hqz]; exact hD.out.2.1.lt
  have hD5 : Duo w p (p + 1) #[.int .i64 b, .slice A l.length c] szero (W4.setRow q #[.int .i64 b, .slice A l.length c]) := by
    obtain ⟨h1, h2, h3, h4, h5⟩ := hDn.out
    exact .mk ⟨setRow_blk h1 (by omega) _, setRow_blk h2 (by omega) _, below_row h3 (by omega) _, h4, h5⟩
  have D5 := Lib.hid hD5
  have HBN := Lib.hid hq.blk
  have Q5 := Lib.hid (hq.row #[.int .i64 b, .slice A l.length c])
  unfold szero at hW4
  have HW := Lib.hid hW
  have HP := Lib.hid hp
  have HW4 := Lib.hid hW4
  have HQ := Lib.hid hqz
  clear hW hp h hW4 hqz hq hD hDn hD5
  go_enter Try.func24, Try.ntmps24
  go_upto_region 1 with fail
  rw [HW.out, HP.out]
  clear HW
  have hld := D0.out.box1.loadS rfl
  go_upto_region 2 with (first | (refine wpList_load_any (by rfl) 49 (.tmp 1) rfl p 0 rfl _ hld ?_; simp only [Act.put]) | (rw [HW4.out, HQ.out]; refine wpList_store_whole rfl 49 (.tmp 3) (.tmp 4) rfl q _ rfl rfl szero HBN.out info_seg rfl (by simp [Value.oneCell']) ?_; simp only [Act.put]))
  clear HW4 HBN HQ D0 hld
  generalize World.setRow _ _ _ = w5 at D5 Q5 ⊢
  have d1 : w5.cell? ⟨p, 1, none⟩ = some (.slice A l.length c) := D5.out.cell1 1
  go_wp2_with fail
  refine (HC.out _ D5.out.bel).mono ?_
  rintro e w6 ⟨A', c', rfl, hown, hb6⟩
  have D6 := Lib.hid (D5.out.below hb6)
  have Q6 := Lib.hid (Q5.out.below hb6)
  have hown6 := own_mono hown (show q + 1 ≤ w5.heap.size from Q5.out.lt)
  have e1 : w6.cell? ⟨q, 1, none⟩ = some (.slice A l.length c) := Q6.out.blk.cell 1
  have f1 := Q6.out.blk.frozen 1
  have hQ7 : SBlk (w6.setCell ⟨q, 1, none⟩ (.slice A' l.length c')) q #[.int .i64 b, .slice A' l.length c'] := Q6.out.put 1 _
  have hO7 := own_far hown6 ⟨q, 1, none⟩ (Nat.lt_succ_self _) (.slice A' l.length c')
  have hD7 : Duo w p (p + 1) #[.int .i64 b, .slice A l.length c] szero (w6.setCell ⟨q, 1, none⟩ (.slice A' l.length c')) := by
    obtain ⟨h1, h2, h3, h4, h5⟩ := D6.out.out
    exact .mk ⟨h1.far (p := ⟨q, 1, none⟩) (by show p ≠ q; omega) _, h2.far (p := ⟨q, 1, none⟩) (by show p + 1 ≠ q; omega) _, h3.setCell (p := ⟨q, 1, none⟩) (by show _ ≤ q; omega) _, h4, h5⟩
  have Q7 := Lib.hid hQ7
  have O7 := Lib.hid hO7
  have D7 := Lib.hid hD7
  clear hown hown6 hb6 D5 Q5 D6 Q6 d1 HC hQ7 hO7 hD7
  go_upto_region 3 with fail
  clear e1 f1
  generalize w6.setCell _ _ = w7 at Q7 O7 D7 ⊢
  have hld := load_seg Q7.out.blk rfl
  have HB := Lib.hid D7.out.out.2.1
  have D8 := Lib.hid (D7.out.row2 #[.int .i64 b, .slice A' l.length c'])
  have hx : (w7.setRow (p + 1) #[.int .i64 b, .slice A' l.length c']).ownsRow w.heap.size 46 6 (.slice A' l.length c') l.length (flat l) := own_mono (own_row O7.out (p + 1) (by omega) _) (by have := D7.out.out.2.2.2.1; omega)
  have O8 := Lib.hid hx
  clear hx D7 O7
  go_wp2_with (first | (refine wpList_load_any (by rfl) 49 (.tmp 3) rfl q 0 rfl _ hld ?_; simp only [Act.put]) | (refine wpList_store_whole rfl 49 (.tmp 2) (.tmp 9) rfl (p + 1) _ rfl rfl _ HB.out info_seg rfl (by simp [Value.oneCell']) ?_; simp only [Act.put]))
  refine bodyPost_ret (results_cell Try.results24 rfl (load_seg D8.out.out.2.1 rfl)) rfl ⟨A', c', rfl, O8.out, D8.out.bel⟩
end Go.Proofs.Ythdefnfpjbpbkaa
/- The document's own answer: copies of segments. -/
namespace Go.Proofs.Ythdefnfpjbpbkaa.Kpd
open Go.RowKit Go.Lib Rcd

set_option maxRecDepth 100000 in
set_option maxHeartbeats 8000000 in
/-- fairwayref0.CopySegs. -/
theorem RCopySegs_is (K : List Sp) (L : Nat) (A : Option Addr) (c B : Nat) (w : World) (hL : K.length = L) (hm : L ≤ 1000000) (hB : B ≤ w.heap.size) (h : SegsAt w B A K) :
    Calls Try.prog 8 #[.slice A L c] w fun e w' => ∃ A' c' xs, e = .returned (.slice A' L c') ∧ OwnS w' w.heap.size (.slice A' L c') K xs ∧ Below w.heap.size w w' := by
  obtain ⟨i0, hi, hz0, hz1, hz2⟩ := info_parts info_smore
  have H := Lib.hid (h.mono hB)
  have HLL := Lib.hid hL
  clear h hL hB
  go_enter Try.func8, Try.ntmps8
  go_wp2_with fail
  go_loopw [3, 4] (fun v i wr => ∃ (k : Nat) (xs : List Sx), k ≤ L ∧ i = .int .i64 (k : Int) ∧ OwnS wr w.heap.size v (K.take k) xs ∧ Below w.heap.size w wr) (fun _ i _ => L - (RowKit.intOf i).toNat)
  case atStart => exact ⟨0, [], Nat.zero_le _, rfl, .nil _ _, Below.refl _ _⟩
  case round =>
    obtain ⟨k, xs, hk, rfl, hown, hbl⟩ := hrel
    have HOW := Lib.hid hown
    have HB := Lib.hid hbl
    clear hown hbl
    by_cases hlt : k < L
    · have hlr : k < K.length := by rw [HLL.out]; exact hlt
      obtain ⟨b0, o0, rfl, hb0, hc⟩ := (H.out.below HB.out).some_ (by omega)
      obtain ⟨A1, c1, hsg⟩ := hc k hlr
      have hsn := takeS_snoc hlr
      have hkl : (K.take k).length = k := by rw [List.length_take]; omega
      clear hc
      generalize K[k] = s at hsg hsn
      obtain ⟨sb, srs⟩ := s
      obtain ⟨s0, s1, hA, hcp, hlim⟩ := hsg
      dsimp only at s0 s1 hA hcp hlim hsn
      have hcs := RCopySeg_is sb srs A1 c1 w.heap.size wr hlim HB.out.size hA
      obtain ⟨M, hM⟩ : ∃ M, srs.length = M := ⟨_, rfl⟩
      unfold GivesAt at hcs
      rw [hM] at hcs
      have HCP := Lib.hid hcs
      have HSN := Lib.hid hsn
      have HLIM := Lib.hid hlim
      have HM := Lib.hid hM
      have HKL := Lib.hid hkl
      rw [hM] at s1
      have hld := load_seg_at s0 s1
      clear hM hA hcp hlim hlr hsn hkl hcs
      have e1 : (k : Int) < (L : Int) := by omega
      go_wp2_with (refine wpList_load_any (by rfl) 49 (.tmp 14) rfl b0 (o0 + k * 2) rfl _ hld ?_; simp only [Act.put])
      refine HCP.out.mono ?_
      rintro e w6 ⟨A3, c3, rfl, hr6, hb6⟩
      have hB5 : w.heap.size ≤ wr.heap.size := HB.out.size
      have O5 := Lib.hid HOW.out
      have B6 := Lib.hid (bel_step HB.out hb6)
      have HR6 := Lib.hid hr6
      have HB6 := Lib.hid hb6
      have HRW := Lib.hid (own_below O5.out.row hb6)
      rw [HKL.out] at HRW
      have hs6 := B6.out.size
      clear hb6 hr6 hld HCP HOW HB s0 s1
      go_wp2_with (at_builtin; refine wpList_append_own _ rfl _ _ 23 rfl w.heap.size 49 i0 (.agg #[.int .i64 0, .slice none 0 0]) 2 32 Try.underlying23 hi hz0 hz1 hz2 rfl (by decide) _ _ _ rfl (HRW.out.alloc _) ⟨w6.heap.size, 0, none⟩ 1 1 [.int .i64 sb, .slice A3 M c3] rfl rfl ?c1 ?c2 ?c3 ?c4 ?c5 ?_)
      case c1 => exact fun j u h => cells_new w6 _ [.int .i64 sb, .slice A3 M c3] j u h
      case c2 => exact fun u hu => by simp at hu; rcases hu with rfl | rfl <;> rfl
      case c3 => unfold maxLen; omega
      case c4 => first | omega | (simp; omega)
      case c5 => first | omega | (simp; omega)
      intro v' w7 hown' hgrow _
      have hB7 := Lib.hid (B6.out.trans (below_alloc_grown hs6 HRW.out hgrow))
      have hO7 : OwnS w7 w.heap.size v' (K.take (k + 1)) (xs ++ [⟨⟨sb, srs⟩, A3, c3⟩]) := by
        rw [HSN.out]
        refine OwnS.snoc O5.out hB5 HB6.out (by rw [HM.out]; exact HR6.out) HLIM.out hgrow ?_
        rw [HKL.out, HM.out]
        exact hown'
      have O7 := Lib.hid hO7
      clear hO7 hown' hgrow O5 B6 HR6 HB6 HRW
      go_wp2_with fail
      go_roundw
      case rel => exact ⟨k + 1, _, hlt, by go_num, O7.out, hB7.out⟩
      case measure => simp [RowKit.intOf]; omega
    · obtain rfl : k = L := by omega
      rw [List.take_of_length_le (by rw [HLL.out]; exact Nat.le_refl _)] at HOW
      obtain ⟨A', c', hv⟩ := row_slice HOW.out.row
      rw [HLL.out] at hv
      subst hv
      go_wp2_with fail
      go_ret
      exact ⟨A', c', xs, rfl, HOW.out, HB.out⟩
end Go.Proofs.Ythdefnfpjbpbkaa.Kpd
/- The document's own answer: the records of segments, in order. -/
namespace Go.Proofs.Ythdefnfpjbpbkaa.Kpd
open Go.RowKit Go.Lib Rcd

theorem recs_cells {w : World} {B : Nat} {a : Addr} {rs : List Rc} (h : RecsAt w B (some a) rs) : ∀ j u, (flat rs)[j]? = some u → w.cell? (a.add j) = some u := by
  intro j u hu
  have hj := (List.getElem?_eq_some_iff.1 hu).1
  rw [flat_len] at hj
  rcases h with rfl | ⟨b, o, ha, _, hc⟩
  · simp at hj
  · injection ha with ha
    subst ha
    have hq : j / 6 < rs.length := by omega
    have hr := hc (j / 6) hq
    have e : (flat rs)[j / 6 * 6 + j % 6]? = some u := by rw [show j / 6 * 6 + j % 6 = j by omega]; exact hu
    rw [flat_at rs (j / 6) (j % 6) hq (by omega)] at e
    rw [Addr.add_lit, show o + j = o + j / 6 * 6 + j % 6 by omega]
    obtain ⟨i, hi⟩ : ∃ i, j % 6 = i := ⟨_, rfl⟩
    have hi6 : i < 6 := by omega
    rw [hi] at e ⊢
    match i, hi6, e with
    | 0, _, e => rw [← e]; exact hr.c0
    | 1, _, e => rw [← e]; exact hr.c1
    | 2, _, e => rw [← e]; exact hr.c2
    | 3, _, e => rw [← e]; exact hr.c3
    | 4, _, e => rw [← e]; exact hr.c4
    | 5, _, e => rw [← e]; exact hr.c5
/-- Nothing behind a row of the call's own. -/
theorem append_none {w : World} {base : Nat} (t ty e : TypeId) (i : TypeInfo) (size c : Nat) (ht : Try.prog.underlying t = some (.slice e)) (hi : Try.prog.info? e = some i)
    {v : Value} {n : Nat} {xs : List Value} (hown : w.ownsRow base e size v n xs) :
    (Builtin.append_ #[t, t] ty #[v, .slice none 0 c]).run Try.prog w = .ok v w := by
  rcases hown.2 with ⟨rfl, rfl⟩ | ⟨g, cap, cur, rfl, _, _, hnc, _⟩
  · simp [Builtin.append_, run_underlying ht, sizeOf, typeInfo, hi, Builtin.lenOf, Builtin.firstCells]
  · simp [Builtin.append_, run_underlying ht, sizeOf, typeInfo, hi, Builtin.lenOf, Builtin.firstCells, hnc, storeCells]
/-- Records behind records of the call's own. -/
theorem run_more {W : World} {B B' n M c : Nat} {v : Value} {xs : List Value} {A : Option Addr} {rs : List Rc} (hown : W.ownsRow B 46 6 v n xs) (hM : rs.length = M) (h : RecsAt W B' A rs) (hnm : n + M ≤ 1000000) (hB : B ≤ W.heap.size) :
    ∃ v' W', (Builtin.append_ #[37, 37] 37 #[v, .slice A M c]).run Try.prog W = .ok v' W' ∧ W'.ownsRow B 46 6 v' (n + M) (xs ++ flat rs) ∧ W.grownBy W' v.ownBlock := by
  obtain ⟨i0, hi, hz0, hz1, hz2⟩ := info_parts info_more
  cases A with
  | some a =>
    obtain ⟨v', w', hr, h2, h3, _⟩ := run_append_own (P := Try.prog) W B 37 37 46 i0 _ 6 64 Try.underlying37 hi hz0 hz1 hz2 rfl (by omega) v n xs hown a M c (flat rs) (by rw [flat_len, hM]) (recs_cells h) (flat_one rs) (by unfold maxLen; omega) (by omega) hB
    exact ⟨v', w', hr, h2, h3⟩
  | none =>
    have h0 : rs = [] := by
      rcases h with h | ⟨b, o, ha, _⟩
      · exact h
      · cases ha
    subst h0
    obtain rfl : M = 0 := by rw [← hM]; rfl
    refine ⟨v, W, ?_, by simpa [flat] using hown, World.grownBy.refl _ _⟩
    exact append_none 37 37 46 i0 6 c Try.underlying37 hi hown
theorem wpList_app {ops : Array Oper} {rest : List Oper} {o : Oper} {a : Act} {Q : Exit → Act → World → Prop} {w : World} (hgd : o.guard = none) (s x : Operand) (t : TypeId) (ho : o.op = .call { callee := .builtin .append, args := #[s, x], argTypes := #[t, t] })
    (v xv v' : Value) (w' : World) (hs : a.eval s = v) (hx : a.eval x = xv) (hr : (Builtin.append_ #[t, t] o.type #[v, xv]).run Try.prog w = .ok v' w') (h : wpList Try.prog ops Q rest (a.put o.dst v') w') : wpList Try.prog ops Q (o :: rest) a w := by
  refine wpList_plain hgd fun K hK => ?_
  unfold Oper.wp execOp
  simp only [ho, resolve, invoke, builtin, Sem.run_bind, Sem.run_pure, Result.andThen_ok, List.map_toArray, List.map_cons, List.map_nil, hs, hx, hr]
  exact hK _ _ h

set_option maxRecDepth 100000 in
set_option maxHeartbeats 8000000 in
/-- fairwayref13.Recs. -/
theorem RRecs_is (l : List Sp) (N M : Nat) (A : Option Addr) (c B : Nat) (w : World) (hN : l.length = N) (hm : N ≤ 9223372036854775807) (hM : (recsOf l).length = M) (hM2 : M ≤ 1000000) (hB : B ≤ w.heap.size) (h : SegsAt w B A l) :
    Calls Try.prog 20 #[.slice A N c] w fun e w' => ∃ A' c', e = .returned (.slice A' M c') ∧ RecsAt w' w'.heap.size A' (recsOf l) ∧ Below w.heap.size w w' := by
  have H := Lib.hid (h.mono hB)
  have HN := Lib.hid hN
  have HMM := Lib.hid hM
  have HM2 := Lib.hid hM2
  clear h hB hN hM hM2
  go_enter Try.func20, Try.ntmps20
  go_wp2_with fail
  go_loopw [3, 4] (fun v i wr => ∃ k n : Nat, k ≤ N ∧ i = .int .i64 (k : Int) ∧ (recsOf (l.take k)).length = n ∧ wr.ownsRow w.heap.size 46 6 v n (flat (recsOf (l.take k))) ∧ Below w.heap.size w wr) (fun _ i _ => N - (RowKit.intOf i).toNat)
  case atStart => exact ⟨0, 0, Nat.zero_le _, rfl, rfl, World.ownsRow_nil _ _ _ _, Below.refl _ _⟩
  case round =>
    obtain ⟨k, n, hk, rfl, hn, hown, hbl⟩ := hrel
    have HO := Lib.hid hown
    have HB := Lib.hid hbl
    have HNN := Lib.hid hn
    clear hown hbl hn
    by_cases hlt : k < N
    · have hlr : k < l.length := by rw [HN.out]; exact hlt
      obtain ⟨b0, o0, rfl, hb0, hc⟩ := (H.out.below HB.out).some_ (by omega)
      obtain ⟨A1, c1, hsg⟩ := hc k hlr
      have hnx := recs_next hlr
      have hle := recs_take_le l (k + 1)
      clear hc
      generalize l[k] = s at hsg hnx
      obtain ⟨sb, srs⟩ := s
      obtain ⟨s0, s1, hA, _, hlim⟩ := hsg
      dsimp only at s0 s1 hA hnx
      obtain ⟨M1, hM1⟩ : ∃ M1, srs.length = M1 := ⟨_, rfl⟩
      rw [hM1] at s1
      have hlen : (recsOf (l.take (k + 1))).length = n + M1 := by rw [hnx, List.length_append, HNN.out, hM1]
      have hnm : n + M1 ≤ 1000000 := by rw [← hlen]; rw [HMM.out] at hle; exact Nat.le_trans hle HM2.out
      obtain ⟨v', W', hr, hown', hgr⟩ := run_more (c := c1) HO.out hM1 hA hnm HB.out.size
      have HB2 := Lib.hid (HB.out.trans (below_grown HB.out.size HO.out hgr))
      have HO2 : Hid (W'.ownsRow w.heap.size 46 6 v' (n + M1) (flat (recsOf (l.take (k + 1))))) := by show World.ownsRow _ _ _ _ _ _ _; rw [hnx, flat_app]; exact hown'
      have HL2 := Lib.hid hlen
      clear hlen hnm hown' hgr hnx hle hA hlim hM1 HO HB HNN hlr
      have e1 : (k : Int) < (N : Int) := by omega
      go_wp2_with (at_builtin; refine wpList_app rfl (.tmp 11) (.tmp 16) _ rfl _ _ _ _ rfl rfl hr ?_)
      clear hr s0 s1
      go_roundw
      case rel => exact ⟨k + 1, n + M1, hlt, by go_num, HL2.out, HO2.out, HB2.out⟩
      case measure => simp [RowKit.intOf]; omega
    · obtain rfl : k = N := by omega
      rw [List.take_of_length_le (by rw [HN.out]; exact Nat.le_refl _)] at HO HNN
      obtain rfl : n = M := by rw [← HNN.out, HMM.out]
      obtain ⟨A', c', hv⟩ := row_slice HO.out
      subst hv
      have hat : RecsAt wr wr.heap.size A' (recsOf l) := by
        have := HO.out
        rw [← HNN.out] at this
        exact .of_own this
      have HAT := Lib.hid hat
      clear hat
      go_wp2_with fail
      go_ret
      exact ⟨A', c', rfl, HAT.out, HB.out⟩
end Go.Proofs.Ythdefnfpjbpbkaa.Kpd
