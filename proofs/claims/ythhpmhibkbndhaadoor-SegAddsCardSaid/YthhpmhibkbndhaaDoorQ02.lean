/- Texts of the proof, part 2: SgMem, SgFollow, SgCheck, RcEqual, SgTools, SgTri, SgBlk, SgBox, SgCopy, InTake, InMore, SgAdd, SgAddYes, SgTold, SgFindBy, SgWeight, RcRMay, SgHeavy, SgWakes, RcCheck, RcTake. -/
import Derived.Deep.QuietTactic
import Derived.BigQuiet
import Derived.IntWalk
import Derived.Test.YthhpmhibkbndhaaDoorShelf
import Derived.Deep.RegionHeld3
import Derived.Deep.CutRange
import Derived.Test.YthhpmhibkbndhaaDoorQ01
/- Segments in memory: blocks of the call's own, what is handed back. -/
namespace Go.Proofs.YthhpmhibkbndhaaDoor
open Go.RowKit Go.Lib Rcd

/-- A segment's cells. -/
def sarr (b : Int) (A : Option Addr) (n c : Nat) : Array Value := #[.int .i64 b, .slice A n c]
def szero : Array Value := #[.int .i64 0, .slice none 0 0]
theorem info_seg : (Tryd.prog.info? 24).map (·.size) = some 2 := by kernel_rfl
theorem one_seg (b : Int) (A : Option Addr) (n c : Nat) : (sarr b A n c).all (·.oneCell') = true := by simp [sarr, Value.oneCell']
theorem load_seg {W : World} {g : Nat} {cs : Array Value} (h : Blk W g cs) (h9 : cs.size = 2) : (loadVar 24 ⟨g, 0, none⟩).run Tryd.prog W = .ok (.agg cs) W :=
  run_loadVar_mid W g 0 24 cs.toList _ (fun j v hv => by rw [Nat.zero_add, h.cell j]; rw [← hv]; simp) Tryd.underlying24 rfl (by rw [info_seg]; simp [h9])
theorem RBox.loadS {w0 W : World} {g : Nat} {cs : Array Value} (h : RBox w0 g cs W) (h9 : cs.size = 2) : (loadVar 24 ⟨g, 0, none⟩).run Tryd.prog W = .ok (.agg cs) W := load_seg h.out.1 h9

/-- A segment whose records are the call's own. -/
def GivesSeg (b : Int) (L : List Rc) (w : World) (e : Ending) (w' : World) : Prop :=
  ∃ A c, e = .returned (.agg #[.int .i64 b, .slice A L.length c]) ∧ w'.ownsRow w.heap.size 42 6 (.slice A L.length c) L.length (flat L) ∧ Below w.heap.size w w'

/-- Two blocks of the call's own, and all that was there ahead of the call. -/
@[irreducible] def Duo (w : World) (g h : Nat) (cs ds : Array Value) (W : World) : Prop := Blk W g cs ∧ Blk W h ds ∧ Below w.heap.size w W ∧ w.heap.size ≤ g ∧ g < h
section
variable {w W W' : World} {g h : Nat} {cs ds : Array Value}
theorem Duo.mk (k : Blk W g cs ∧ Blk W h ds ∧ Below w.heap.size w W ∧ w.heap.size ≤ g ∧ g < h) : Duo w g h cs ds W := by unfold Duo; exact k
theorem Duo.out (k : Duo w g h cs ds W) : Blk W g cs ∧ Blk W h ds ∧ Below w.heap.size w W ∧ w.heap.size ≤ g ∧ g < h := by unfold Duo at k; exact k
theorem Duo.below (k : Duo w g h cs ds W) (hb : Below W.heap.size W W') : Duo w g h cs ds W' := by
  obtain ⟨h1, h2, h3, h4, h5⟩ := k.out
  exact .mk ⟨h1.below hb, h2.below hb, h3.trans (hb.mono h3.size), h4, h5⟩
theorem Duo.drewN (k : Duo w g h cs ds W) (n : Nat) : Duo w g h cs ds (W.drewN n) := k.below (below_drewN (Below.refl _ _) n)
theorem Duo.cell1 (k : Duo w g h cs ds W) (i : Nat) : W.cell? ⟨g, i, none⟩ = cs[i]? := k.out.1.cell i
theorem Duo.cell2 (k : Duo w g h cs ds W) (i : Nat) : W.cell? ⟨h, i, none⟩ = ds[i]? := k.out.2.1.cell i
theorem Duo.bel (k : Duo w g h cs ds W) : Below w.heap.size w W := k.out.2.2.1
theorem Duo.put1 (k : Duo w g h cs ds W) (i : Nat) (v : Value) : Duo w g h (cs.setIfInBounds i v) ds (W.setCell ⟨g, i, none⟩ v) := by
  obtain ⟨h1, h2, h3, h4, h5⟩ := k.out
  exact .mk ⟨h1.put i v, h2.far (p := ⟨g, i, none⟩) (by show h ≠ g; omega) v, h3.setCell h4 v, h4, h5⟩
theorem Duo.put2 (k : Duo w g h cs ds W) (i : Nat) (v : Value) : Duo w g h cs (ds.setIfInBounds i v) (W.setCell ⟨h, i, none⟩ v) := by
  obtain ⟨h1, h2, h3, h4, h5⟩ := k.out
  exact .mk ⟨h1.far (p := ⟨h, i, none⟩) (by show g ≠ h; omega) v, h2.put i v, h3.setCell (p := ⟨h, i, none⟩) (show w.heap.size ≤ h by omega) v, h4, h5⟩
theorem setRow_blk {g' : Nat} (k : Blk W g' cs) (hp : g ≠ g') (xs : Array Value) : Blk (W.setRow g xs) g' cs := by
  obtain ⟨T, k⟩ := k
  exact ⟨T, (setRow_other W g g' xs (Ne.symm hp)).trans k⟩
theorem Duo.row1 (k : Duo w g h cs ds W) (xs : Array Value) : Duo w g h xs ds (W.setRow g xs) := by
  obtain ⟨h1, h2, h3, h4, h5⟩ := k.out
  exact .mk ⟨h1.row xs, setRow_blk h2 (by omega) xs, below_row h3 h4 xs, h4, h5⟩
theorem Duo.row2 (k : Duo w g h cs ds W) (xs : Array Value) : Duo w g h cs xs (W.setRow h xs) := by
  obtain ⟨h1, h2, h3, h4, h5⟩ := k.out
  exact .mk ⟨setRow_blk h1 (by omega) xs, h2.row xs, below_row h3 (by omega) xs, h4, h5⟩
theorem Duo.new (w : World) (T T' : TypeId) (cs ds : Array Value) : Duo w w.heap.size (w.heap.size + 1) cs ds ((w.alloc (.cells cs T)).alloc (.cells ds T')) := by
  have h1 := (Below.refl w.heap.size w).alloc (Nat.le_refl _) (.cells cs T)
  refine .mk ⟨(Blk.new w _ _).alloc _, ?_, h1.alloc (by simp) _, Nat.le_refl _, Nat.lt_succ_self _⟩
  have := Blk.new (w.alloc (.cells cs T)) T' ds
  simpa using this
/-- A box of the call's own, and one more. -/
theorem Duo.more (k : RBox w g cs W) (hg : w.heap.size ≤ g) (T : TypeId) (ds : Array Value) : Duo w g W.heap.size cs ds (W.alloc (.cells ds T)) := by
  obtain ⟨h1, h2⟩ := k.out
  exact .mk ⟨h1.alloc _, Blk.new W T ds, h2.alloc h2.size _, hg, h1.lt⟩
theorem Duo.box1 (k : Duo w g h cs ds W) : RBox w g cs W := .mk k.out.1 k.bel
theorem Duo.box2 (k : Duo w g h cs ds W) : RBox w h ds W := .mk k.out.2.1 k.bel
end
theorem RBox.row {w W : World} {g : Nat} {cs : Array Value} (k : RBox w g cs W) (hg : w.heap.size ≤ g) (xs : Array Value) : RBox w g xs (W.setRow g xs) := .mk (k.out.1.row xs) (below_row k.out.2 hg xs)

/-- What stands in the cell c is handed back. -/
theorem results_cell {fn : Func} {tmps : Array Value} {w : World} {c g : Nat} {T : TypeId} {V : Value} (hr : fn.results = #[.cell c T]) (h0 : tmps.getD c undef = .pointer (some ⟨g, 0, none⟩)) (hl : (loadVar T ⟨g, 0, none⟩).run Tryd.prog w = .ok V w) :
    (results fn tmps).run Tryd.prog w = .ok V w := by
  unfold results
  rw [hr]
  simp only [List.mapM_toArray, List.mapM_cons, List.mapM_nil, h0, asAddr, Sem.run_bind, Sem.run_pure, Result.andThen_ok, bind_assoc, pure_bind, map_bind, map_pure, hl]
  rfl
theorem results_cell2 {fn : Func} {tmps : Array Value} {w : World} {c i g : Nat} {T : TypeId} {V u : Value} (hr : fn.results = #[.cell c T, .tmp i]) (h0 : tmps.getD c undef = .pointer (some ⟨g, 0, none⟩)) (hl : (loadVar T ⟨g, 0, none⟩).run Tryd.prog w = .ok V w) (h1 : tmps.getD i undef = u) :
    (results fn tmps).run Tryd.prog w = .ok (.tuple #[V, u]) w := by
  unfold results
  rw [hr]
  simp only [List.mapM_toArray, List.mapM_cons, List.mapM_nil, h0, h1, asAddr, Sem.run_bind, Sem.run_pure, Result.andThen_ok, bind_assoc, pure_bind, map_bind, map_pure, hl]
  rfl
theorem results_cell3 {fn : Func} {tmps : Array Value} {w : World} {c i j g : Nat} {T : TypeId} {V u v : Value} (hr : fn.results = #[.cell c T, .tmp i, .tmp j]) (h0 : tmps.getD c undef = .pointer (some ⟨g, 0, none⟩)) (hl : (loadVar T ⟨g, 0, none⟩).run Tryd.prog w = .ok V w) (h1 : tmps.getD i undef = u) (h2 : tmps.getD j undef = v) :
    (results fn tmps).run Tryd.prog w = .ok (.tuple #[V, u, v]) w := by
  unfold results
  rw [hr]
  simp only [List.mapM_toArray, List.mapM_cons, List.mapM_nil, h0, h1, h2, asAddr, Sem.run_bind, Sem.run_pure, Result.andThen_ok, bind_assoc, pure_bind, map_bind, map_pure, hl]
  rfl
end Go.Proofs.YthhpmhibkbndhaaDoor
/- Package seg: whether a base may be; whether a record may stand behind a segment's. -/
namespace Go.Proofs.YthhpmhibkbndhaaDoor
open Go.RowKit Go.Lib Rcd

set_option maxRecDepth 100000 in
set_option maxHeartbeats 1000000 in
theorem isBase_is (n : Int) (X : Bool) (w : World) (h : baseB n = X) :
    Calls Tryd.prog 31 #[.int .i64 n] w fun e w' => e = .returned (.bool X) ∧ w = w' := by
  unfold baseB at h
  have HX := Lib.hid h
  clear h
  by_cases h1 : 0 ≤ n
  · by_cases h2 : n ≤ 1099511627776
    · go_enter Tryd.func31, Tryd.ntmps31
      go_wp2
      go_ret
      exact ⟨ret_bool (by rw [← HX.out]; exact (decide_eq_true (by omega)).symm), rfl⟩
    · go_enter Tryd.func31, Tryd.ntmps31
      go_wp2
      go_ret
      exact ⟨ret_bool (by rw [← HX.out]; exact (decide_eq_false (by omega)).symm), rfl⟩
  · go_enter Tryd.func31, Tryd.ntmps31
    go_wp2
    go_ret
    exact ⟨ret_bool (by rw [← HX.out]; exact (decide_eq_false (by omega)).symm), rfl⟩

/-- Whether a record may follow, test by test. -/
theorem follow_ways (b : Int) (rs : List Rc) (r : Rc) :
    (200 ≤ rs.length ∧ followB b rs r = false) ∨
    (rs.length < 200 ∧ mayE r = 1 ∧ followB b rs r = false) ∨
    (rs.length < 200 ∧ mayE r = 0 ∧ rs = [] ∧ followB b rs r = decide (b ≤ r.o)) ∨
    (rs.length < 200 ∧ mayE r = 0 ∧ ∃ (n : Nat) (hn : n + 1 = rs.length), followB b rs r = decide ((rs[n]'(by omega)).o < r.o ∧ (rs[n]'(by omega)).t ≤ r.t)) := by
  unfold followB mayE
  by_cases c1 : rs.length < 200
  · rw [decide_eq_true c1]
    cases hm : mayB r with
    | false => exact .inr (.inl ⟨c1, rfl, rfl⟩)
    | true =>
      rcases Nat.eq_zero_or_pos rs.length with c | c
      · have := List.eq_nil_of_length_eq_zero c
        subst this
        exact .inr (.inr (.inl ⟨c1, rfl, rfl, rfl⟩))
      · have hn : rs.length - 1 + 1 = rs.length := by omega
        refine .inr (.inr (.inr ⟨c1, rfl, rs.length - 1, hn, ?_⟩))
        rw [next_last (last_all hn)]
        rfl
  · exact .inl ⟨by omega, by rw [decide_eq_false c1]; rfl⟩

set_option maxRecDepth 100000 in
set_option maxHeartbeats 8000000 in
theorem follow_is (b : Int) (rs : List Rc) (r : Rc) (N : Nat) (A : Option Addr) (c B : Nat) (X : Bool) (w : World) (hN : rs.length = N) (hm : N ≤ 9223372036854775807) (hB : B ≤ w.heap.size) (h : RecsAt w B A rs) (hX : followB b rs r = X) :
    Calls Tryd.prog 32 #[.agg #[.int .i64 b, .slice A N c], ragg r] w fun e w' => e = .returned (.bool X) ∧ Below w.heap.size w w' := by
  have hD := Duo.new w 24 42 (sarr b A N c) (rarr r.o r.t (str r.k) (str r.b) r.q r.g)
  have hway := follow_ways b rs r
  have HC := Lib.hid (fun E W (hE : mayE r = E) => Check_is r E W hE)
  have H := Lib.hid h
  unfold ragg at HC ⊢
  obtain ⟨o, t, k, bd, q, g⟩ := r
  dsimp only at HC hD ⊢
  generalize str k = ks at HC hD ⊢
  generalize str bd = bs at HC hD ⊢
  obtain ⟨p, hp⟩ : ∃ p, w.heap.size = p := ⟨_, rfl⟩
  obtain ⟨W0, hW⟩ : ∃ W0, (w.alloc (.cells (sarr b A N c) 24)).alloc (.cells (rarr o t ks bs q g) 42) = W0 := ⟨_, rfl⟩
  rw [hW, hp] at hD
  unfold sarr rarr at hD hW
  unfold rarr at HC ⊢
  have D0 := Lib.hid hD
  have HW := Lib.hid hW
  have HP := Lib.hid hp
  clear hD hW hp h
  have n2 : (N : Int) < 9223372036854775808 := by omega
  rcases hway with ⟨h1, h2⟩ | ⟨h1, h2, h3⟩ | ⟨h1, h2, h3, h4⟩ | ⟨h1, h2, n, h3, h4⟩
  · obtain rfl : false = X := h2.symm.trans hX
    have e1 : decide (200 ≤ N) = true := decide_eq_true (by omega)
    have e2 : decide ((200 : Int) ≤ (N : Int)) = true := decide_eq_true (by omega)
    clear HC H h2 hX
    go_enter Tryd.func32, Tryd.ntmps32
    go_upto_region 1 with fail
    rw [HW.out, HP.out]
    clear HW HP
    have d1 : W0.cell? ⟨p, 1, none⟩ = some (.slice A N c) := D0.out.cell1 1
    go_wp2_with fail
    go_ret
    exact ⟨rfl, D0.out.bel⟩
  · obtain rfl : false = X := h3.symm.trans hX
    have e1 : decide (200 ≤ N) = false := decide_eq_false (by omega)
    have e2 : decide ((200 : Int) ≤ (N : Int)) = false := decide_eq_false (by omega)
    have HC1 := Lib.hid (fun W => HC.out 1 W h2)
    clear HC H h3 h2 hX
    go_enter Tryd.func32, Tryd.ntmps32
    go_upto_region 1 with fail
    rw [HW.out, HP.out]
    clear HW HP
    have d1 : W0.cell? ⟨p, 1, none⟩ = some (.slice A N c) := D0.out.cell1 1
    have hld := D0.out.box2.load rfl
    go_wp2_with (refine wpList_load_any (by rfl) 42 (.tmp 3) rfl (p + 1) 0 rfl _ hld ?_; simp only [Act.put])
    refine (HC1.out _).mono ?_
    rintro e w1 ⟨rfl, hb1⟩
    have D1 := Lib.hid (D0.out.below hb1)
    clear D0 hb1 d1 hld HC1
    go_wp2_with fail
    go_ret
    exact ⟨rfl, D1.out.bel⟩
  · subst h3
    obtain rfl : N = 0 := by rw [← hN]; rfl
    have HX := Lib.hid (h4.symm.trans hX)
    have HC1 := Lib.hid (fun W => HC.out 0 W h2)
    clear HC H h4 h2 hX
    go_enter Tryd.func32, Tryd.ntmps32
    go_upto_region 1 with fail
    rw [HW.out, HP.out]
    clear HW HP
    have d1 : W0.cell? ⟨p, 1, none⟩ = some (.slice A 0 c) := D0.out.cell1 1
    have hld := D0.out.box2.load rfl
    go_wp2_with (refine wpList_load_any (by rfl) 42 (.tmp 3) rfl (p + 1) 0 rfl _ hld ?_; simp only [Act.put])
    refine (HC1.out _).mono ?_
    rintro e w1 ⟨rfl, hb1⟩
    have D1 := Lib.hid (D0.out.below hb1)
    clear D0 hb1 d1 hld HC1
    have d0 : w1.cell? ⟨p, 0, none⟩ = some (.int .i64 b) := D1.out.cell1 0
    have d1 : w1.cell? ⟨p, 1, none⟩ = some (.slice A 0 c) := D1.out.cell1 1
    have d2 : w1.cell? ⟨p + 1, 0, none⟩ = some (.int .i64 o) := D1.out.cell2 0
    go_wp2_with fail
    go_ret
    exact ⟨ret_bool HX.out, D1.out.bel⟩
  · have hN1 : N = n + 1 := by omega
    have HX := Lib.hid (h4.symm.trans hX)
    obtain ⟨b0, o0, rfl, hb0, hc⟩ := H.out.some_ (by omega)
    have hr := hc n (by omega)
    have e1 : decide (200 ≤ N) = false := decide_eq_false (by omega)
    have e2 : decide ((200 : Int) ≤ (N : Int)) = false := decide_eq_false (by omega)
    have e3 : ((N : Int) == 0) = false := by rw [beq_eq_false_iff_ne]; omega
    have e4 : (N == 0) = false := by rw [beq_eq_false_iff_ne]; omega
    have e5 : (N : Int) - 1 = (n : Int) := by omega
    have e6 : (n : Int) < (N : Int) := by omega
    have HC1 := Lib.hid (fun W => HC.out 0 W h2)
    clear HC H h4 h2 hX hc
    generalize rs[n]'(by omega) = a at hr HX
    obtain ⟨xo, xt, xk, xb, xq, xg⟩ := a
    have HR := Lib.hid hr
    dsimp only at HX
    clear hr hN h3 h1 hN1
    go_enter Tryd.func32, Tryd.ntmps32
    go_upto_region 1 with fail
    rw [HW.out, HP.out]
    have hbp : b0 < p := by rw [← HP.out]; omega
    clear HW
    have d1 : W0.cell? ⟨p, 1, none⟩ = some (.slice (some ⟨b0, o0, none⟩) N c) := D0.out.cell1 1
    have hld := D0.out.box2.load rfl
    go_wp2_with (refine wpList_load_any (by rfl) 42 (.tmp 3) rfl (p + 1) 0 rfl _ hld ?_; simp only [Act.put])
    refine (HC1.out _).mono ?_
    rintro e w1 ⟨rfl, hb1⟩
    have D1 := Lib.hid (D0.out.below hb1)
    clear D0 hb1 d1 hld HC1
    have d1 : w1.cell? ⟨p, 1, none⟩ = some (.slice (some ⟨b0, o0, none⟩) N c) := D1.out.cell1 1
    obtain ⟨c0, c1, c2, c3, c4, c5⟩ := HR.out.keep (w' := w1) (fun i => D1.out.bel.cell (p := ⟨b0, i, none⟩) (by rw [HP.out]; exact hbp))
    dsimp only at c0 c1 c2 c3 c4 c5
    generalize str xk = kz at c2
    generalize str xb = bz at c3
    obtain ⟨g9, W4, hg9, hW4, hbn, hbx, hbl⟩ := box_new D1.out.bel (rarr xo xt kz bz xq xg)
    have hD2 := D1.out.below hbl
    have D2 := Lib.hid hD2
    have HBN := Lib.hid hbn
    have HBX := Lib.hid hbx
    unfold zcells at hW4
    have HW4 := Lib.hid hW4
    clear hbn hbx hbl hD2 hW4 D1 HP
    unfold rarr at HBX D2
    go_upto_region 6 with (rw [HW4.out]; refine wpList_store_whole rfl 42 (.tmp 5) (.tmp 31) rfl g9 _ rfl rfl zcells HBN.out info_rec rfl (by simp [Value.oneCell']) ?_; simp only [Act.put])
    clear HW4 HBN d1 c0 c1 c2 c3 c4 c5 hg9
    generalize World.setRow _ _ _ = w5 at HBX D2 ⊢
    have d0 : w5.cell? ⟨p + 1, 0, none⟩ = some (.int .i64 o) := D2.out.cell2 0
    have d1 : w5.cell? ⟨p + 1, 1, none⟩ = some (.int .i64 t) := D2.out.cell2 1
    have f0 : w5.cell? ⟨g9, 0, none⟩ = some (.int .i64 xo) := HBX.out.cell 0
    have f1 : w5.cell? ⟨g9, 1, none⟩ = some (.int .i64 xt) := HBX.out.cell 1
    by_cases c1 : xo < o
    · go_wp2_with fail
      go_ret
      exact ⟨ret_bool (by rw [← HX.out]; simp [c1]), D2.out.bel⟩
    · go_wp2_with fail
      go_ret
      exact ⟨ret_bool (by rw [← HX.out]; exact (decide_eq_false (fun h => absurd h.1 (by omega))).symm), D2.out.bel⟩
end Go.Proofs.YthhpmhibkbndhaaDoor
/- Package seg: whether a segment may be. -/
namespace Go.Proofs.YthhpmhibkbndhaaDoor
open Go.RowKit Go.Lib Rcd

def segE (b : Int) (rs : List Rc) : Int := if segB b rs then 0 else 1
theorem segE_no {b : Int} {rs : List Rc} (h : ¬ segB b rs = true) : segE b rs = 1 := by unfold segE; rw [if_neg h]
theorem segE_yes {b : Int} {rs : List Rc} (h : segB b rs = true) : segE b rs = 0 := by unfold segE; rw [if_pos h]
theorem segE_zero {b : Int} {rs : List Rc} (h : segE b rs = 0) : segB b rs = true := by
  unfold segE at h
  split at h
  · assumption
  · cases h

/-- So many of the first ones may stand where they do. -/
def Fol (b : Int) (rs : List Rc) (k : Nat) : Prop := ∀ j (h : j < rs.length), j < k → followB b (rs.take j) rs[j] = true

set_option maxRecDepth 100000 in
set_option maxHeartbeats 8000000 in
/-- seg.Check. -/
theorem SegCheck_is (b : Int) (rs : List Rc) (N : Nat) (A : Option Addr) (c B : Nat) (E : Int) (w : World) (hN : rs.length = N) (hm : N ≤ 9223372036854775807) (hcap : N ≤ c) (hB : B ≤ w.heap.size) (h : RecsAt w B A rs) (hE : segE b rs = E) :
    Calls Tryd.prog 13 #[.agg #[.int .i64 b, .slice A N c]] w fun e w' => e = .returned (.int .i64 E) ∧ Below w.heap.size w w' := by
  have R0 := Lib.hid (RBox.new w 24 (sarr b A N c))
  obtain ⟨p, hp⟩ : ∃ p, w.heap.size = p := ⟨_, rfl⟩
  obtain ⟨W0, hW⟩ : ∃ W0, w.alloc (.cells (sarr b A N c) 24) = W0 := ⟨_, rfl⟩
  rw [hW, hp] at R0
  unfold sarr at R0 hW
  have HW := Lib.hid hW
  have HP := Lib.hid hp
  have H := Lib.hid (h.mono hB)
  have HE := Lib.hid hE
  have HNN := Lib.hid hN
  clear hW hp h hE hN hB
  have n2 : (N : Int) < 9223372036854775808 := by omega
  by_cases hb : baseB b = true
  · have HBS := Lib.hid hb
    have HI := Lib.hid (fun W => isBase_is b true W hb)
    clear hb
    go_enter Tryd.func13, Tryd.ntmps13
    go_upto_region 1 with fail
    rw [HW.out, HP.out]
    clear HW
    have d0 : W0.cell? ⟨p, 0, none⟩ = some (.int .i64 b) := R0.out.cell 0
    have d1 : W0.cell? ⟨p, 1, none⟩ = some (.slice A N c) := R0.out.cell 1
    go_wp2_with (go_at_call 31; refine (HI.out _).mono ?_; rintro e w' ⟨rfl, rfl⟩)
    clear d0 d1
    go_loopw [12] (fun i wr => ∃ k : Nat, k ≤ N ∧ i = .int .i64 (k : Int) ∧ RBox w p #[.int .i64 b, .slice A N c] wr ∧ Fol b rs k) (fun i _ => N - (RowKit.intOf i).toNat)
    case atStart => exact ⟨0, Nat.zero_le _, rfl, R0.out, fun j _ h => absurd h (Nat.not_lt_zero _)⟩
    case round =>
      obtain ⟨k, hk, rfl, hbx, hfol⟩ := hrel
      have HF := Lib.hid hfol
      have R := Lib.hid hbx
      clear hbx hfol R0
      by_cases hlt : k < N
      · have hlr : k < rs.length := by rw [HNN.out]; exact hlt
        obtain ⟨b0, o0, rfl, hb0, hc⟩ := (H.out.below R.out.out.2).some_ (by omega)
        have hr := hc k hlr
        obtain ⟨X, hX⟩ : ∃ X, followB b (rs.take k) rs[k] = X := ⟨_, rfl⟩
        have HFW := Lib.hid (fun W (hb : Below w.heap.size w W) => follow_is b (rs.take k) rs[k] k (some ⟨b0, o0, none⟩) c w.heap.size X W (by rw [List.length_take]; omega) (by omega) hb.size ((H.out.below hb).take k) hX)
        have HX := Lib.hid hX
        clear hX hc
        have HFD : Hid (X = true → Fol b rs (k + 1)) := by
          show _ → _
          intro hx j h hj
          by_cases hjk : j < k
          · exact HF.out j h hjk
          · obtain rfl : j = k := by omega
            exact HX.out.trans hx
        have HNO : Hid (X = false → E = 1) := by
          show _ → _
          intro hx
          rw [← HE.out]
          refine segE_no fun hs => ?_
          have := (seg_iff.1 hs).2 k hlr
          rw [HX.out, hx] at this
          cases this
        clear HF HX
        unfold ragg at HFW
        generalize rs[k] = r at hr HFW
        obtain ⟨o, t, key, bod, q, g⟩ := r
        obtain ⟨c0, c1, c2, c3, c4, c5⟩ := hr
        dsimp only at c0 c1 c2 c3 c4 c5 HFW
        generalize str key = ks at c2 HFW
        generalize str bod = bs at c3 HFW
        have e1 : (k : Int) < (N : Int) := by omega
        have e2 : (k : Int) ≤ (c : Int) := by omega
        have e3 : k ≤ c := by omega
        have hpw : w.heap.size ≤ p := Nat.le_of_eq HP.out
        have hD := Duo.more R.out hpw 42 zcells
        obtain ⟨g9, hg9⟩ : ∃ g9, wr.heap.size = g9 := ⟨_, rfl⟩
        obtain ⟨W4, hW4⟩ : ∃ W4, wr.alloc (.cells zcells 42) = W4 := ⟨_, rfl⟩
        rw [hg9, hW4] at hD
        have HBN := Lib.hid hD.out.2.1
        have D5 := Lib.hid (hD.row2 (rarr o t ks bs q g))
        unfold zcells at hW4
        have HW4 := Lib.hid hW4
        clear hD hW4 hlr R
        unfold rarr at D5 HFW
        go_upto_region 6 with (rw [HW4.out]; refine wpList_store_whole rfl 42 (.tmp 4) (.tmp 16) rfl g9 _ rfl rfl zcells HBN.out info_rec rfl (by simp [Value.oneCell']) ?_; simp only [Act.put])
        clear HW4 HBN c0 c1 c2 c3 c4 c5 hg9
        generalize World.setRow _ _ _ = w5 at D5 ⊢
        have st0 := D5.out
        clear D5
        haveI : Nonempty (In (Duo w p g9 #[.int .i64 b, .slice (some ⟨b0, o0, none⟩) N c] #[.int .i64 o, .int .i64 t, .string ks, .string bs, .int .i64 q, .bool g])) := ⟨⟨_, st0⟩⟩
        have k0 := fun u : In (Duo w p g9 #[.int .i64 b, .slice (some ⟨b0, o0, none⟩) N c] #[.int .i64 o, .int .i64 t, .string ks, .string bs, .int .i64 q, .bool g]) => (show u.w.cell? ⟨p, 0, none⟩ = some (.int .i64 b) from u.h.cell1 0)
        have k1 := fun u : In (Duo w p g9 #[.int .i64 b, .slice (some ⟨b0, o0, none⟩) N c] #[.int .i64 o, .int .i64 t, .string ks, .string bs, .int .i64 q, .bool g]) => (show u.w.cell? ⟨p, 1, none⟩ = some (.slice (some ⟨b0, o0, none⟩) N c) from u.h.cell1 1)
        have kl := fun u : In (Duo w p g9 #[.int .i64 b, .slice (some ⟨b0, o0, none⟩) N c] #[.int .i64 o, .int .i64 t, .string ks, .string bs, .int .i64 q, .bool g]) => u.h.box2.load rfl
        refine region_in (S := Duo w p g9 #[.int .i64 b, .slice (some ⟨b0, o0, none⟩) N c] #[.int .i64 o, .int .i64 t, .string ks, .string bs, .int .i64 q, .bool g]) (by kernel_rfl) (by kernel_rfl) (st0.drewN 1) ?_
        iterate 7 (go_big_quiet_step (fail))
        go_big_quiet_want
        refine quiet_load_in 42 (.tmp 4) rfl g9 0 rfl _ kl ?_
        go_simp
        go_big_quiet_on
        repeat (go_big_quiet_step (first | (go_at_call 32; exact in_call ((HFW.out _ (Duo.bel (In.h _))).mono fun _ _ h => ⟨h.1, Duo.below (In.h _) h.2⟩))))
        refine wpQuiet_nil ?_
        rintro _ ⟨⟨w7, st7⟩, rfl⟩
        have S7 := Lib.hid st7
        clear this st0 st7 k0 k1 kl HFW
        cases X with
        | true =>
          simp only [Bool.not_true, Bool.not_false]; go_wp2_with fail
          go_roundw
          case rel => exact ⟨k + 1, hlt, by go_num, S7.out.box1, HFD.out rfl⟩
          case measure => simp [RowKit.intOf]; omega
        | false =>
          obtain rfl : E = 1 := HNO.out rfl
          simp only [Bool.not_true, Bool.not_false]; go_wp2_with fail
          go_ret
          exact ⟨rfl, S7.out.bel⟩
      · obtain rfl : k = N := by omega
        obtain rfl : E = 0 := by
          rw [← HE.out]
          refine segE_yes (seg_iff.2 ⟨HBS.out, fun j hj => HF.out j hj ?_⟩)
          rw [← HNN.out]; exact hj
        go_wp2_with fail
        go_ret
        exact ⟨rfl, R.out.out.2⟩
  · have hb' : baseB b = false := by simpa using hb
    have HI := Lib.hid (fun W => isBase_is b false W hb')
    obtain rfl : E = 1 := by rw [← HE.out]; exact segE_no fun hs => hb (seg_base hs)
    clear hb hb'
    go_enter Tryd.func13, Tryd.ntmps13
    go_upto_region 1 with fail
    rw [HW.out, HP.out]
    clear HW
    have d0 : W0.cell? ⟨p, 0, none⟩ = some (.int .i64 b) := R0.out.cell 0
    go_wp2_with (go_at_call 31; refine (HI.out _).mono ?_; rintro e w' ⟨rfl, rfl⟩)
    go_ret
    exact ⟨rfl, R0.out.out.2⟩
end Go.Proofs.YthhpmhibkbndhaaDoor
/- A record held against itself. -/
namespace Go.Proofs.YthhpmhibkbndhaaDoor
open Go.RowKit Go.Lib Rcd

theorem neq_rec (o t : Int) (k b : ByteArray) (q : Int) (g : Bool) (w : World) : (binOp .neq 42 (.agg (rarr o t k b q g)) (.agg (rarr o t k b q g))).run Tryd.prog w = .ok (.bool false) w := by
  unfold rarr
  rw [run_neq_struct]
  go_simp
theorem eql_rec (o t : Int) (k b : ByteArray) (q : Int) (g : Bool) (w : World) : (binOp .eql 42 (.agg (rarr o t k b q g)) (.agg (rarr o t k b q g))).run Tryd.prog w = .ok (.bool true) w := by
  unfold rarr
  rw [run_eql_struct]
  go_simp
end Go.Proofs.YthhpmhibkbndhaaDoor
/- Records and segments of the call's own, while other memory is written. -/
namespace Go.Proofs.YthhpmhibkbndhaaDoor
open Go.RowKit Go.Lib Rcd

theorem own_mono {w : World} {B B' e size n : Nat} {v : Value} {xs : List Value} (h : w.ownsRow B' e size v n xs) (hB : B ≤ B') : w.ownsRow B e size v n xs :=
  ⟨h.1, h.2.elim .inl (fun ⟨g, cap, cur, hv, hbg, rest⟩ => .inr ⟨g, cap, cur, hv, Nat.le_trans hB hbg, rest⟩)⟩
/-- A cell below the row is written. -/
theorem own_far {w : World} {B e size n : Nat} {v : Value} {xs : List Value} (h : w.ownsRow B e size v n xs) (p : Addr) (hp : p.block < B) (u : Value) : (w.setCell p u).ownsRow B e size v n xs :=
  ⟨h.1, h.2.elim .inl (fun ⟨g, cap, cur, hv, hbg, hg, rest⟩ => .inr ⟨g, cap, cur, hv, hbg, (Below.heap_setCell w p u g (by omega)).trans hg, rest⟩)⟩
theorem own_row {w : World} {B e size n : Nat} {v : Value} {xs : List Value} (h : w.ownsRow B e size v n xs) (p : Nat) (hp : p < B) (us : Array Value) : (w.setRow p us).ownsRow B e size v n xs :=
  ⟨h.1, h.2.elim .inl (fun ⟨g, cap, cur, hv, hbg, hg, rest⟩ => .inr ⟨g, cap, cur, hv, hbg, (setRow_other w p g us (by omega)).trans hg, rest⟩)⟩
/-- A block that is not the row's stays when the row grows. -/
theorem blk_grown {W W' : World} {B e size n g : Nat} {v : Value} {xs : List Value} {cs : Array Value} {o : Obj} (k : Blk W g cs) (hown : W.ownsRow B e size v n xs) (hg : g < B) (hgrow : (W.alloc o).grownBy W' v.ownBlock) : Blk W' g cs := by
  have hl := k.lt
  obtain ⟨T, k⟩ := k
  refine ⟨T, (hgrow.block g (by simp; omega) (fun e => ?_)).trans ((Lib.alloc_old W _ _ hl).trans k)⟩
  have := (hown.lt g e.symm).1
  omega
theorem recs_own {w : World} {B e c : Nat} {A : Option Addr} {l : List Rc} (h : w.ownsRow B e 6 (.slice A l.length c) l.length (flat l)) : RecsAt w w.heap.size A l := .of_own h
/-- A record read into the cells of a new block. -/
theorem all_next {rs : List Rc} {k : Nat} (h : k < rs.length) : (allL (rs.take (k + 1))).length = (allL (rs.take k)).length + (recL rs[k]).length := by
  rw [List.take_succ_eq_append_getElem h, all_snoc, List.length_append]
theorem seg_size {b : Int} {rs : List Rc} (h : segB b rs = true) : (allL rs).length ≤ 420000 := by
  have h1 := all_size (seg_may h)
  have h2 := seg_len h
  omega
end Go.Proofs.YthhpmhibkbndhaaDoor
/- Three blocks of the call's own. -/
namespace Go.Proofs.YthhpmhibkbndhaaDoor
open Go.RowKit Go.Lib Rcd

/-- Three blocks of the call's own, one behind the other. -/
@[irreducible] def Tri (w : World) (p : Nat) (cs ds es : Array Value) (W : World) : Prop := Blk W p cs ∧ Blk W (p + 1) ds ∧ Blk W (p + 2) es ∧ Below w.heap.size w W ∧ w.heap.size ≤ p
section
variable {w W W' : World} {p : Nat} {cs ds es : Array Value}
theorem Tri.mk (k : Blk W p cs ∧ Blk W (p + 1) ds ∧ Blk W (p + 2) es ∧ Below w.heap.size w W ∧ w.heap.size ≤ p) : Tri w p cs ds es W := by unfold Tri; exact k
theorem Tri.out (k : Tri w p cs ds es W) : Blk W p cs ∧ Blk W (p + 1) ds ∧ Blk W (p + 2) es ∧ Below w.heap.size w W ∧ w.heap.size ≤ p := by unfold Tri at k; exact k
theorem Tri.below (k : Tri w p cs ds es W) (hb : Below W.heap.size W W') : Tri w p cs ds es W' := by
  obtain ⟨h1, h2, h3, h4, h5⟩ := k.out
  exact .mk ⟨h1.below hb, h2.below hb, h3.below hb, h4.trans (hb.mono h4.size), h5⟩
theorem Tri.drewN (k : Tri w p cs ds es W) (n : Nat) : Tri w p cs ds es (W.drewN n) := k.below (below_drewN (Below.refl _ _) n)
theorem Tri.cell1 (k : Tri w p cs ds es W) (i : Nat) : W.cell? ⟨p, i, none⟩ = cs[i]? := k.out.1.cell i
theorem Tri.cell2 (k : Tri w p cs ds es W) (i : Nat) : W.cell? ⟨p + 1, i, none⟩ = ds[i]? := k.out.2.1.cell i
theorem Tri.bel (k : Tri w p cs ds es W) : Below w.heap.size w W := k.out.2.2.2.1
theorem Tri.lt (k : Tri w p cs ds es W) : p + 3 ≤ W.heap.size := k.out.2.2.1.lt
theorem Tri.new (w : World) (T T' T'' : TypeId) (cs ds es : Array Value) : Tri w w.heap.size cs ds es (((w.alloc (.cells cs T)).alloc (.cells ds T')).alloc (.cells es T'')) := by
  have h0 : (w.alloc (.cells cs T)).heap.size = w.heap.size + 1 := by simp
  have h1 := Blk.new (w.alloc (.cells cs T)) T' ds
  rw [h0] at h1
  have h2 := Blk.new ((w.alloc (.cells cs T)).alloc (.cells ds T')) T'' es
  have h3 : ((w.alloc (.cells cs T)).alloc (.cells ds T')).heap.size = w.heap.size + 2 := by simp
  rw [h3] at h2
  have b1 := (Below.refl w.heap.size w).alloc (Nat.le_refl _) (.cells cs T)
  exact .mk ⟨((Blk.new w T cs).alloc _).alloc _, h1.alloc _, h2, (b1.alloc b1.size _).alloc (b1.alloc b1.size _).size _, Nat.le_refl _⟩
theorem Tri.row3 (k : Tri w p cs ds es W) (xs : Array Value) : Tri w p cs ds xs (W.setRow (p + 2) xs) := by
  obtain ⟨h1, h2, h3, h4, h5⟩ := k.out
  exact .mk ⟨setRow_blk h1 (by omega) xs, setRow_blk h2 (by omega) xs, h3.row xs, below_row h4 (by omega) xs, h5⟩
theorem Tri.grown {B e size n : Nat} {v : Value} {vs : List Value} {W'' : World} (k : Tri w p cs ds es W) (hown : W.ownsRow B e size v n vs) (hB : p + 3 ≤ B) (hgrow : W.grownBy W'' v.ownBlock) : Tri w p cs ds es W'' := by
  obtain ⟨h1, h2, h3, h4, h5⟩ := k.out
  have key : ∀ g cs, g < p + 3 → Blk W g cs → Blk W'' g cs := fun g cs hg h => by
    have hl := h.lt
    obtain ⟨T, h⟩ := h
    refine ⟨T, (hgrow.block g hl (fun e => ?_)).trans h⟩
    have := (hown.lt g e.symm).1
    omega
  exact .mk ⟨key _ _ (by omega) h1, key _ _ (by omega) h2, key _ _ (by omega) h3, h4.trans (below_grown h4.size (own_mono hown (by omega)) hgrow), h5⟩
end

end Go.Proofs.YthhpmhibkbndhaaDoor
/- A segment's block and rows of records of the call's own: each stays while the other is written or grows. -/
namespace Go.Proofs.YthhpmhibkbndhaaDoor
open Go.RowKit Go.Lib Rcd

/-- Block q is a segment's, and holds just these cells. -/
def SBlk (W : World) (q : Nat) (cs : Array Value) : Prop := W.heap[q]? = some (.cells cs 24 (0, 0))
theorem seg_not_rec : 42 ≠ 24 := by decide
section
variable {W W' : World} {q : Nat} {cs : Array Value}
theorem SBlk.blk (h : SBlk W q cs) : Blk W q cs := ⟨_, h⟩
theorem SBlk.lt (h : SBlk W q cs) : q < W.heap.size := h.blk.lt
theorem SBlk.new (W : World) (cs : Array Value) : SBlk (W.alloc (.cells cs 24)) W.heap.size cs := heap_alloc_new W _
theorem SBlk.below (h : SBlk W q cs) (hb : Below W.heap.size W W') : SBlk W' q cs := (hb.block q h.lt).trans h
theorem SBlk.row (h : SBlk W q cs) (ds : Array Value) : SBlk (W.setRow q ds) q ds := setRow_heap W q cs ds _ _ h
theorem SBlk.put (h : SBlk W q cs) (i : Nat) (v : Value) : SBlk (W.setCell ⟨q, i, none⟩ v) q (cs.setIfInBounds i v) := by
  unfold SBlk at h ⊢
  simp [World.setCell, Array.getElem?_modify, h]
theorem SBlk.off {B n c : Nat} {A : Option Addr} {xs : List Value} (h : SBlk W q cs) (hown : W.ownsRow B 42 6 (.slice A n c) n xs) : ∀ g, (Value.slice A n c).ownBlock = some g → g ≠ q := by
  intro g hg e
  subst e
  rcases hown.2 with ⟨hv, _⟩ | ⟨g', cap, cur, hv, _, hgg, _⟩
  · rw [hv] at hg; simp [Value.ownBlock] at hg
  · rw [hv] at hg
    simp [Value.ownBlock] at hg
    subst hg
    unfold SBlk at h
    rw [h] at hgg
    injection hgg with e3
    injection e3 with _ e4
    exact seg_not_rec e4.symm
theorem SBlk.grown {B n c : Nat} {A : Option Addr} {xs : List Value} (h : SBlk W q cs) (hown : W.ownsRow B 42 6 (.slice A n c) n xs) (hgrow : W.grownBy W' (Value.slice A n c).ownBlock) : SBlk W' q cs :=
  (hgrow.block q h.lt (fun e => h.off hown q e.symm rfl)).trans h
theorem own_seg_put {B n c : Nat} {A : Option Addr} {xs : List Value} (h : SBlk W q cs) (hown : W.ownsRow B 42 6 (.slice A n c) n xs) (i : Nat) (u : Value) : (W.setCell ⟨q, i, none⟩ u).ownsRow B 42 6 (.slice A n c) n xs := by
  have hoff := h.off hown
  refine ⟨hown.1, hown.2.elim .inl (fun ⟨g, cap, cur, hv, hbg, hg, rest⟩ => .inr ⟨g, cap, cur, hv, hbg, (Below.heap_setCell W ⟨q, i, none⟩ u g ?_).trans hg, rest⟩)⟩
  exact hoff g (by rw [hv]; rfl)
theorem own_seg_row {B n c : Nat} {A : Option Addr} {xs : List Value} (h : SBlk W q cs) (hown : W.ownsRow B 42 6 (.slice A n c) n xs) (us : Array Value) : (W.setRow q us).ownsRow B 42 6 (.slice A n c) n xs := by
  have hoff := h.off hown
  refine ⟨hown.1, hown.2.elim .inl (fun ⟨g, cap, cur, hv, hbg, hg, rest⟩ => .inr ⟨g, cap, cur, hv, hbg, (setRow_other W q g us ?_).trans hg, rest⟩)⟩
  exact hoff g (by rw [hv]; rfl)
end
theorem own_len {w : World} {B c : Nat} {A : Option Addr} {l : List Rc} (h : w.ownsRow B 42 6 (.slice A l.length c) l.length (flat l)) : l.length ≤ 9223372036854775807 := by
  rcases h.2 with ⟨_, hn⟩ | ⟨g, cap, cur, hv, _, _, hle, hmx, _⟩
  · omega
  · unfold maxLen at *
    omega
/-- A segment whose records stand in memory, with room enough. -/
def GivesAt (b : Int) (L : List Rc) (w : World) (e : Ending) (w' : World) : Prop :=
  ∃ A c, e = .returned (.agg #[.int .i64 b, .slice A L.length c]) ∧ w'.ownsRow w.heap.size 42 6 (.slice A L.length c) L.length (flat L) ∧ Below w.heap.size w w'
end Go.Proofs.YthhpmhibkbndhaaDoor
/- A new box, and a segment put into it. -/
namespace Go.Proofs.YthhpmhibkbndhaaDoor
open Go.RowKit Go.Lib Rcd

theorem seg_box {w w1 : World} (hb : Below w.heap.size w w1) (cs : Array Value) : ∃ g W4, w1.heap.size = g ∧ w1.alloc (.cells szero 24) = W4 ∧ Blk W4 g szero ∧ SBlk (W4.setRow g cs) g cs ∧ RBox w g cs (W4.setRow g cs) ∧ Below w1.heap.size w1 (W4.setRow g cs) := by
  have hbn := SBlk.new w1 szero
  have hbl : Below w.heap.size w (w1.alloc (.cells szero 24)) := hb.alloc hb.size _
  exact ⟨_, _, rfl, rfl, hbn.blk, hbn.row cs, .mk (hbn.blk.row cs) (below_row hbl hb.size cs), below_row ((Below.refl _ _).alloc (Nat.le_refl _) _) (Nat.le_refl _) cs⟩
end Go.Proofs.YthhpmhibkbndhaaDoor
/- Package seg: copies of records. -/
namespace Go.Proofs.YthhpmhibkbndhaaDoor
open Go.RowKit Go.Lib Rcd

set_option maxHeartbeats 1000000 in
theorem CloneS_is (s : ByteArray) (w : World) (h : s.size ≤ 281474976710656) :
    Calls Tryd.prog 47 #[.string s] w fun e w' => e = .returned (.string s) ∧ Below w.heap.size w w' := by
  have HC := Lib.hid (fun W => Tryd.stringslite_Clone s W h)
  go_enter Tryd.func47, Tryd.ntmps47
  go_wp2_with fail
  refine (HC.out _).mono ?_
  rintro e w1 ⟨rfl, hb⟩
  go_wp2_with fail
  go_ret
  exact ⟨rfl, hb⟩

/-- A record that is no longer than one may be. -/
def Short (r : Rc) : Prop := r.k.length ≤ 1000000 ∧ r.b.length ≤ 1000000
theorem short_of {r : Rc} (h : mayB r = true) : Short r := by
  obtain ⟨_, _, _, _, h5, h6, _⟩ := (may_iff r).1 h
  exact ⟨by omega, by omega⟩

set_option maxRecDepth 100000 in
set_option maxHeartbeats 4000000 in
/-- seg.copyOf. -/
theorem copyOf_is (r : Rc) (w : World) (hl : Short r) :
    Calls Tryd.prog 34 #[ragg r] w fun e w' => e = .returned (ragg r) ∧ Below w.heap.size w w' := by
  obtain ⟨o, t, k, bd, q, g⟩ := r
  have hD := Duo.new w 42 42 (rarr o t (str k) (str bd) q g) zcells
  have HC := Lib.hid (fun W => CloneS_is (str k) W (by rw [str_size]; exact Nat.le_trans hl.1 (by omega)))
  have HE := Lib.hid (fun W => CloneS_is (str bd) W (by rw [str_size]; exact Nat.le_trans hl.2 (by omega)))
  unfold ragg
  dsimp only
  clear hl
  generalize str k = ks at HC hD ⊢
  generalize str bd = bs at HE hD ⊢
  obtain ⟨p, hp⟩ : ∃ p, w.heap.size = p := ⟨_, rfl⟩
  obtain ⟨W0, hW⟩ : ∃ W0, (w.alloc (.cells (rarr o t ks bs q g) 42)).alloc (.cells zcells 42) = W0 := ⟨_, rfl⟩
  rw [hW, hp] at hD
  unfold rarr at hD hW ⊢
  have D0 := Lib.hid hD
  unfold zcells at hW
  have HW := Lib.hid hW
  have HP := Lib.hid hp
  clear hD hW hp
  go_enter Tryd.func34, Tryd.ntmps34
  go_upto_region 1 with fail
  rw [HW.out, HP.out]
  clear HW HP
  have d2 : W0.cell? ⟨p, 2, none⟩ = some (.string ks) := D0.out.cell1 2
  go_wp2_with fail
  refine (HC.out _).mono ?_
  rintro e w1 ⟨rfl, hb1⟩
  have D1 := Lib.hid (D0.out.below hb1)
  have D2 : Hid (Duo w p (p + 1) #[.int .i64 o, .int .i64 t, .string ks, .string bs, .int .i64 q, .bool g] zcells (w1.setCell ⟨p, 2, none⟩ (.string ks))) := D1.out.put1 2 (.string ks)
  clear d2 D0 hb1 HC
  have c2 : w1.cell? ⟨p, 2, none⟩ = some (.string ks) := D1.out.cell1 2
  have f2 := D1.out.out.1.frozen 2
  go_upto_region 2 with fail
  clear D1 c2 f2
  generalize w1.setCell _ _ = W2 at D2 ⊢
  have d3 : W2.cell? ⟨p, 3, none⟩ = some (.string bs) := D2.out.cell1 3
  go_wp2_with fail
  refine (HE.out _).mono ?_
  rintro e w3 ⟨rfl, hb3⟩
  have D3 := Lib.hid (D2.out.below hb3)
  have D4 : Hid (Duo w p (p + 1) #[.int .i64 o, .int .i64 t, .string ks, .string bs, .int .i64 q, .bool g] zcells (w3.setCell ⟨p, 3, none⟩ (.string bs))) := D3.out.put1 3 (.string bs)
  clear d3 D2 hb3 HE
  have c3 : w3.cell? ⟨p, 3, none⟩ = some (.string bs) := D3.out.cell1 3
  have f3 := D3.out.out.1.frozen 3
  go_upto_region 3 with fail
  clear D3 c3 f3
  generalize w3.setCell _ _ = W4 at D4 ⊢
  have hld := D4.out.box1.load rfl
  have D5 := Lib.hid (D4.out.row2 #[.int .i64 o, .int .i64 t, .string ks, .string bs, .int .i64 q, .bool g])
  have HB := Lib.hid D4.out.out.2.1
  clear D4
  go_wp2_with (first | (refine wpList_load_any (by rfl) 42 (.tmp 1) rfl p 0 rfl _ hld ?_; simp only [Act.put]) | (refine wpList_store_whole rfl 42 (.tmp 2) (.tmp 11) rfl (p + 1) _ rfl rfl _ HB.out info_rec rfl (by simp [Value.oneCell']) ?_; simp only [Act.put]))
  refine bodyPost_ret (results_cell Tryd.results34 rfl (D5.out.box2.load rfl)) rfl ⟨rfl, D5.out.bel⟩

theorem takeR_snoc {l : List Rc} {k : Nat} (h : k < l.length) : flat (l.take (k + 1)) = flat (l.take k) ++ rcells l[k] := by rw [List.take_succ_eq_append_getElem h, flat_snoc]

set_option maxRecDepth 100000 in
set_option maxHeartbeats 4000000 in
/-- seg.copies. -/
theorem copies_is (l : List Rc) (A : Option Addr) (c B : Nat) (w : World) (hm : l.length ≤ 1000000) (hf : ∀ s ∈ l, Short s) (hB : B ≤ w.heap.size) (h : RecsAt w B A l) :
    Calls Tryd.prog 33 #[.slice A l.length c] w fun e w' => ∃ A' c', e = .returned (.slice A' l.length c') ∧ w'.ownsRow w.heap.size 42 6 (.slice A' l.length c') l.length (flat l) ∧ Below w.heap.size w w' := by
  obtain ⟨i0, hi, hz0, hz1, hz2⟩ := info_parts info_more
  have H := Lib.hid (h.mono hB)
  have HF := Lib.hid hf
  clear h hf
  go_enter Tryd.func33, Tryd.ntmps33
  go_wp2_with fail
  go_loopw [3, 8] (fun m i wr => ∃ k : Nat, k ≤ l.length ∧ i = .int .i64 (k : Int) ∧ wr.ownsRow w.heap.size 42 6 m k (flat (l.take k)) ∧ Below w.heap.size w wr) (fun _ i _ => l.length - (RowKit.intOf i).toNat)
  case atStart => exact ⟨0, Nat.zero_le _, rfl, World.ownsRow_nil _ _ _ _, Below.refl _ _⟩
  case round =>
    obtain ⟨k, hk, rfl, hown, hnx⟩ := hrel
    by_cases hlt : k < l.length
    · obtain ⟨b0, o0, rfl, _, hc⟩ := (H.out.below hnx).some_ (by omega)
      obtain ⟨d0, d1, d2, d3, d4, d5⟩ := hc k hlt
      have hfk := HF.out _ (List.getElem_mem hlt)
      have HS := Lib.hid (takeR_snoc hlt)
      clear hc
      obtain ⟨s, hs⟩ : ∃ s, l[k] = s := ⟨_, rfl⟩
      rw [hs] at d0 d1 d2 d3 d4 d5 HS hfk
      have HK := Lib.hid (fun W => copyOf_is s W hfk)
      have HO := Lib.hid hown
      have hkI : (k : Int) < (l.length : Int) := by omega
      obtain ⟨o, t, key, bod, q, g⟩ := s
      unfold ragg at HK
      have hfc : rcells ⟨o, t, key, bod, q, g⟩ = [.int .i64 o, .int .i64 t, .string (str key), .string (str bod), .int .i64 q, .bool g] := rfl
      have hon : ∀ u ∈ rcells ⟨o, t, key, bod, q, g⟩, u.oneCell' = true := one_cells _
      rw [hfc] at HS hon
      have HON := Lib.hid hon
      dsimp only at HK d0 d1 d2 d3 d4 d5
      clear hs hfk hown hfc hon
      generalize str key = ks at HK HS HON d2
      generalize str bod = bs at HK HS HON d3
      obtain ⟨g9, W4, hg9, hW4, hbn, hbx, hbl⟩ := box_new hnx (rarr o t ks bs q g)
      have HBN := Lib.hid hbn
      have HBX := Lib.hid hbx
      have HO2 := Lib.hid (own_below HO.out hbl)
      unfold zcells at hW4
      have HW4 := Lib.hid hW4
      clear hbn hbx hbl hnx hW4 HO
      unfold rarr at HBX HK HO2
      go_upto_region 5 with (rw [HW4.out]; refine wpList_store_whole rfl 42 (.tmp 5) (.tmp 11) rfl g9 _ rfl rfl zcells HBN.out info_rec rfl (by simp [Value.oneCell']) ?_; simp only [Act.put])
      clear HW4 HBN d0 d1 d2 d3 d4 d5 hg9
      generalize World.setRow _ _ _ = w5 at HBX HO2 ⊢
      have hld := HBX.out.load rfl
      go_wp2_with (refine wpList_load_any (by rfl) 42 (.tmp 5) rfl g9 0 rfl _ hld ?_; simp only [Act.put])
      refine (HK.out _).mono ?_
      rintro e w6 ⟨rfl, hb6⟩
      have HO6 := Lib.hid (own_below HO2.out hb6)
      have HN6 := Lib.hid (HBX.out.out.2.trans (hb6.mono HBX.out.out.2.size))
      have hs6 := HN6.out.size
      clear hb6 HO2 HBX hld HK
      go_wp2_with (at_builtin; refine wpList_append_own _ rfl _ _ 22 rfl w.heap.size 42 i0 (.agg zcells) 6 64 Tryd.underlying22 hi hz0 hz1 hz2 rfl (by decide) _ _ _ rfl (HO6.out.alloc _) ⟨w6.heap.size, 0, none⟩ 1 1 [.int .i64 o, .int .i64 t, .string ks, .string bs, .int .i64 q, .bool g] rfl rfl ?c1 ?c2 ?c3 ?c4 ?c5 ?_)
      case c1 => exact fun j u h => cells_new w6 _ [.int .i64 o, .int .i64 t, .string ks, .string bs, .int .i64 q, .bool g] j u h
      case c2 => exact HON.out
      case c3 => unfold maxLen; omega
      case c4 => first | omega | (simp; omega)
      case c5 => first | omega | (simp; omega)
      intro v' w7 hown' hgrow _
      have HN' := Lib.hid (HN6.out.trans (below_alloc_grown hs6 HO6.out hgrow))
      have HO' : Hid (w7.ownsRow w.heap.size 42 6 v' (k + 1) (flat (l.take (k + 1)))) := by show World.ownsRow _ _ _ _ _ _ _; rw [HS.out]; exact hown'
      clear hown' hgrow HO6 HN6 HS HON
      go_wp2_with fail
      go_roundw
      case rel => exact ⟨k + 1, hlt, by go_num, HO'.out, HN'.out⟩
      case measure => simp [RowKit.intOf]; omega
    · obtain rfl : k = l.length := by omega
      rw [List.take_length] at hown
      obtain ⟨A', c', hv⟩ := own_slice hown
      have HO := Lib.hid hown
      have HN := Lib.hid hnx
      clear hown hnx
      subst hv
      go_wp2_with fail
      go_ret
      exact ⟨A', c', rfl, HO.out, HN.out⟩
end Go.Proofs.YthhpmhibkbndhaaDoor
/- A region that draws its order, walked by hand under a word S that holds behind every operation: one operation at a time. No program. -/
namespace Go.Proofs.YthhpmhibkbndhaaDoor
open Go.RowKit

section
variable {P : Program} {ops : Array Oper} {Q : Exit → Act → World → Prop} {S : World → Prop}
/-- May number i be taken first? -/
def takeB (ops : Array Oper) (listed : Array Bool) (i : Nat) : Bool := Region.noSelect ops && (Region.free .any ops listed i && (Region.ready .any ops listed).contains i)
/-- What yields one value in every world that meets S is taken first. -/
theorem take_op {fuel : Nat} {listed : Array Bool} {a : Act} {w : World} (i d : Nat) {oi : Oper} (v : Value) (hd : oi.dst = some d) (hi : ops[i]? = some oi) (hc : takeB ops listed i = true) (hQ : ∀ c a w, Q (.panic c) (a.put oi.dst v) w → Q (.panic c) a w)
    (hw : Region.wanted oi (yielded ops a.tmps) = true) (hS : S w) (hv : ∀ w, S w → (execOp a.eval oi).run P w = .ok (.value v) w)
    (h : wpAnyH P .any ops Q S fuel (listed.setIfInBounds i true) (a.put (some d) v) w) : wpAnyH P .any ops Q S (fuel + 1) listed a w := by
  rw [← hd] at h
  unfold takeB at hc
  simp only [Bool.and_eq_true] at hc
  exact wpAnyH_take hi hc.1 hc.2.1 hc.2.2 hQ (.inl ⟨hw, hv⟩) hS h
/-- A variable read whole is taken first. -/
theorem take_load {fuel : Nat} {listed : Array Bool} {a : Act} {w : World} (i d : Nat) {oi : Oper} (ty : TypeId) (x : Operand) (b off : Nat) (V : Value) (hd : oi.dst = some d) (hi : ops[i]? = some oi) (hc : takeB ops listed i = true) (hQ : ∀ c a w, Q (.panic c) (a.put oi.dst V) w → Q (.panic c) a w)
    (hw : Region.wanted oi (yielded ops a.tmps) = true) (hS : S w) (ho : oi.op = .load ty x) (hx : a.eval x = .pointer (some ⟨b, off, none⟩)) (hv : ∀ w, S w → (loadVar ty ⟨b, off, none⟩).run P w = .ok V w)
    (h : wpAnyH P .any ops Q S fuel (listed.setIfInBounds i true) (a.put (some d) V) w) : wpAnyH P .any ops Q S (fuel + 1) listed a w :=
  take_op i d V hd hi hc hQ hw hS (fun w' hS' => by
    unfold execOp
    simp only [ho, hx, Instr.loadAt, Instr.sureAddr, Sem.run_bind, Sem.run_pure, Result.andThen_ok, hv w' hS']) h
/-- The one operation that may come up. -/
theorem only_op {fuel : Nat} {listed : Array Bool} {a : Act} {w : World} (i : Nat) {oi : Oper} (hi : ops[i]? = some oi) (hr : Region.ready .any ops listed = [i]) (hw : Region.wanted oi (yielded ops a.tmps) = true)
    (h : Oper.wp P oi a w (fun a' w' => S w' ∧ wpAnyH P .any ops Q S fuel (listed.setIfInBounds i true) a' w') Q) : wpAnyH P .any ops Q S (fuel + 1) listed a w := by
  refine wpAnyH_all (rs := [i]) hr (by simp) fun j hj => ?_
  rw [List.mem_singleton] at hj
  subst hj
  exact wpOp_step hi (fun K' hK => by
    rw [if_pos hw]
    exact Oper.wp_mono (fun a' w' h' => hK a' w' h') h)
/-- The two operations that may come up. -/
theorem two_ops {fuel : Nat} {listed : Array Bool} {a : Act} {w : World} (i j : Nat) {oi oj : Oper} (hi : ops[i]? = some oi) (hj : ops[j]? = some oj) (hr : Region.ready .any ops listed = [i, j]) (hw : Region.wanted oi (yielded ops a.tmps) = true) (hw2 : Region.wanted oj (yielded ops a.tmps) = true)
    (h : Oper.wp P oi a w (fun a' w' => S w' ∧ wpAnyH P .any ops Q S fuel (listed.setIfInBounds i true) a' w') Q) (h2 : Oper.wp P oj a w (fun a' w' => S w' ∧ wpAnyH P .any ops Q S fuel (listed.setIfInBounds j true) a' w') Q) : wpAnyH P .any ops Q S (fuel + 1) listed a w := by
  refine wpAnyH_all (rs := [i, j]) hr (by simp) fun k hk => ?_
  rcases List.mem_cons.1 hk with rfl | hk
  · exact wpOp_step hi (fun K' hK => by
      rw [if_pos hw]
      exact Oper.wp_mono (fun a' w' h' => hK a' w' h') h)
  · rw [List.mem_singleton] at hk
    subst hk
    exact wpOp_step hj (fun K' hK => by
      rw [if_pos hw2]
      exact Oper.wp_mono (fun a' w' h' => hK a' w' h') h2)
/-- A call that comes up, whatever it hands back. -/
theorem wp_call_ex {o : Oper} {a : Act} {w : World} {K : Act → World → Prop} (d : Nat) (f : FuncId) (vs : Array Value) (R : Ending → World → Prop) (hd : o.dst = some d) (hx : (execOp a.eval o).run P w = .ok (.enter f vs) w)
    (hc : Calls P f vs w R) (h : ∀ e w', R e w' → ∃ v, e = .returned v ∧ K (a.put (some d) v) w') : Oper.wp P o a w K Q := by
  unfold Oper.wp
  rw [← hd] at h
  rw [hx]
  exact hc.mono fun e w' hR => by
    obtain ⟨v, rfl, hk⟩ := h e w' hR
    exact hk
/-- A call that comes up. -/
theorem wp_call {o : Oper} {a : Act} {w : World} {K : Act → World → Prop} (d : Nat) (f : FuncId) (vs : Array Value) (v : Value) (R : World → Prop) (hd : o.dst = some d) (hx : (execOp a.eval o).run P w = .ok (.enter f vs) w)
    (hc : Calls P f vs w fun e w' => e = .returned v ∧ R w') (h : ∀ w', R w' → K (a.put (some d) v) w') : Oper.wp P o a w K Q := by
  unfold Oper.wp
  rw [← hd] at h
  rw [hx]
  exact hc.mono fun e w' ⟨he, hR⟩ => by subst he; exact h w' hR
/-- A value that is made. -/
theorem wp_made {o : Oper} {a : Act} {w w' : World} {K : Act → World → Prop} (d : Nat) (v : Value) (hd : o.dst = some d) (hx : (execOp a.eval o).run P w = .ok (.value v) w') (h : K (a.put (some d) v) w') : Oper.wp P o a w K Q := by
  unfold Oper.wp
  rw [← hd] at h
  rw [hx]
  exact h
end
end Go.Proofs.YthhpmhibkbndhaaDoor
/- A region walked by hand under a word S: behind an operation more may be known, and S be made stronger. No program. -/
namespace Go.Proofs.YthhpmhibkbndhaaDoor
open Go.RowKit

theorem held_stronger {P : Program} {md : Region.Mode} {ops : Array Oper} {Q : Exit → Act → World → Prop} {S S' : World → Prop} (hS : ∀ w, S' w → S w) :
    ∀ (fuel : Nat) (listed : Array Bool) (a : Act) (w : World), wpAnyH P md ops Q S' fuel listed a w → wpAnyH P md ops Q S fuel listed a w
  | 0, _, _, _, h => h
  | fuel + 1, _, _, _, h => ⟨h.1, fun i hi => wpOp_mono (fun a' w' h' => ⟨hS _ h'.1, held_stronger hS fuel _ a' w' h'.2⟩) (h.2 i hi)⟩
theorem wp_store_one {P : Program} {o : Oper} {a : Act} {w w' : World} {K : Act → World → Prop} {Q : Exit → Act → World → Prop} (ty : TypeId) (x y : Operand) (ho : o.op = .store ty x y) (p V : Value)
    (hx : a.eval x = p) (hy : a.eval y = V) (hr : (Instr.storeAt ty p V).run P w = .ok () w') (h : K (a.put o.dst undef) w') : Oper.wp P o a w K Q := by
  unfold Oper.wp execOp
  simp only [ho, hx, hy, Sem.run_bind, Sem.run_pure, Result.andThen_ok, hr]
  exact h
theorem put_none (a : Act) (v : Value) : a.put none v = a := rfl
theorem wp_store_none {P : Program} {o : Oper} {a : Act} {w w' : World} {K : Act → World → Prop} {Q : Exit → Act → World → Prop} (ty : TypeId) (x y : Operand) (ho : o.op = .store ty x y) (hd : o.dst = none) (p V : Value)
    (hx : a.eval x = p) (hy : a.eval y = V) (hr : (Instr.storeAt ty p V).run P w = .ok () w') (h : K a w') : Oper.wp P o a w K Q := by
  refine wp_store_one ty x y ho p V hx hy hr ?_
  rw [hd]
  exact h
end Go.Proofs.YthhpmhibkbndhaaDoor
/- Package seg: a segment with one more record. -/
namespace Go.Proofs.YthhpmhibkbndhaaDoor
open Go.RowKit Go.Lib Rcd

/-- What stands behind the building: the answer in its box, its records in a row of the call's own. -/
@[irreducible] def AddPost (w : World) (p : Nat) (cs ds : Array Value) (b : Int) (L : List Rc) (W : World) : Prop := ∃ A c, Tri w p cs ds #[.int .i64 b, .slice A L.length c] W ∧ W.ownsRow (p + 3) 42 6 (.slice A L.length c) L.length (flat L)
theorem AddPost.mk {w W : World} {p : Nat} {cs ds : Array Value} {b : Int} {L : List Rc} {A : Option Addr} {c : Nat} (h1 : Tri w p cs ds #[.int .i64 b, .slice A L.length c] W) (h2 : W.ownsRow (p + 3) 42 6 (.slice A L.length c) L.length (flat L)) : AddPost w p cs ds b L W := by
  unfold AddPost; exact ⟨A, c, h1, h2⟩
theorem AddPost.out {w W : World} {p : Nat} {cs ds : Array Value} {b : Int} {L : List Rc} (h : AddPost w p cs ds b L W) : ∃ A c, Tri w p cs ds #[.int .i64 b, .slice A L.length c] W ∧ W.ownsRow (p + 3) 42 6 (.slice A L.length c) L.length (flat L) := by
  unfold AddPost at h; exact h

set_option maxRecDepth 100000 in
set_option maxHeartbeats 8000000 in
/-- seg.Add, refused. -/
theorem SegAdd_no (b : Int) (rs : List Rc) (r : Rc) (N : Nat) (A : Option Addr) (c B : Nat) (w : World) (hN : rs.length = N) (hm : N ≤ 9223372036854775807) (hcap : N ≤ c) (hB : B ≤ w.heap.size) (h : RecsAt w B A rs) (hno : segB b (rs ++ [r]) = false) :
    Calls Tryd.prog 14 #[.agg #[.int .i64 b, .slice A N c], ragg r] w fun e w' => e = .returned (.tuple #[.agg #[.int .i64 0, .slice none 0 0], .int .i64 1]) ∧ Below w.heap.size w w' := by
  have hT := Tri.new w 24 42 24 (sarr b A N c) (rarr r.o r.t (str r.k) (str r.b) r.q r.g) szero
  obtain ⟨E, hE⟩ : ∃ E, segE b rs = E := ⟨_, rfl⟩
  have HC := Lib.hid (fun W (hb : Below w.heap.size w W) => SegCheck_is b rs N A c B E W hN hm hcap (Nat.le_trans hB hb.size) (h.below (hb.mono hB)) hE)
  have HF := Lib.hid (fun X W (hb : Below w.heap.size w W) (hX : followB b rs r = X) => follow_is b rs r N A c B X W hN hm (Nat.le_trans hB hb.size) (h.below (hb.mono hB)) hX)
  unfold ragg at HF ⊢
  have hway : ¬ E = 0 ∨ (E = 0 ∧ followB b rs r = false) := by
    rw [seg_snoc] at hno
    by_cases c0 : E = 0
    · rw [c0] at hE
      have := segE_zero hE
      rw [this] at hno
      exact .inr ⟨c0, hno⟩
    · exact .inl c0
  clear h hE hno
  obtain ⟨o, t, k, bd, q, g⟩ := r
  dsimp only at HF hT ⊢
  generalize str k = ks at HF hT ⊢
  generalize str bd = bs at HF hT ⊢
  obtain ⟨p, hp⟩ : ∃ p, w.heap.size = p := ⟨_, rfl⟩
  obtain ⟨W0, hW⟩ : ∃ W0, ((w.alloc (.cells (sarr b A N c) 24)).alloc (.cells (rarr o t ks bs q g) 42)).alloc (.cells szero 24) = W0 := ⟨_, rfl⟩
  rw [hW, hp] at hT
  unfold sarr rarr szero at hT hW
  unfold rarr at HF ⊢
  have T0 := Lib.hid hT
  have HW := Lib.hid hW
  have HP := Lib.hid hp
  clear hT hW hp
  rcases hway with h0 | ⟨rfl, hfo⟩
  · have h0b : (E == 0) = false := by rw [beq_eq_false_iff_ne]; exact h0
    have h0c : (E != 0) = true := by rw [bne_iff_ne]; exact h0
    go_enter Tryd.func14, Tryd.ntmps14
    go_upto_region 1 with fail
    rw [HW.out, HP.out]
    clear HW HP
    have hld := load_seg T0.out.out.1 rfl
    go_wp2_with (refine wpList_load_any (by rfl) 24 (.tmp 2) rfl p 0 rfl _ hld ?_; simp only [Act.put])
    refine (HC.out _ T0.out.bel).mono ?_
    rintro e w1 ⟨rfl, hb1⟩
    have T1 := Lib.hid (T0.out.below hb1)
    clear T0 hb1 hld HC
    have HB := Lib.hid T1.out.out.2.2.1
    have T2 := Lib.hid (T1.out.row3 #[.int .i64 0, .slice none 0 0])
    clear T1
    go_wp2_with (refine wpList_store_whole rfl 24 (.tmp 4) (.tmp 15) rfl (p + 2) _ rfl rfl _ HB.out info_seg rfl (by simp [Value.oneCell']) ?_; simp only [Act.put])
    refine bodyPost_ret (results_cell2 Tryd.results14 rfl (load_seg T2.out.out.2.2.1 rfl) rfl) rfl ⟨rfl, T2.out.bel⟩
  · have HF1 := Lib.hid (fun W hb => HF.out false W hb hfo)
    clear hfo HF
    go_enter Tryd.func14, Tryd.ntmps14
    go_upto_region 1 with fail
    rw [HW.out, HP.out]
    clear HW HP
    have hld := load_seg T0.out.out.1 rfl
    go_wp2_with (refine wpList_load_any (by rfl) 24 (.tmp 2) rfl p 0 rfl _ hld ?_; simp only [Act.put])
    refine (HC.out _ T0.out.bel).mono ?_
    rintro e w1 ⟨rfl, hb1⟩
    have T1 := Lib.hid (T0.out.below hb1)
    clear T0 hb1 hld HC
    have hld := load_seg T1.out.out.1 rfl
    have hld2 := load_blk T1.out.out.2.1 rfl
    go_wp2_with (first | (refine wpList_load_any (by rfl) 24 (.tmp 2) rfl p 0 rfl _ hld ?_; simp only [Act.put]) | (refine wpList_load_any (by rfl) 42 (.tmp 3) rfl (p + 1) 0 rfl _ hld2 ?_; simp only [Act.put]))
    refine (HF1.out _ T1.out.bel).mono ?_
    rintro e w2 ⟨rfl, hb2⟩
    have T2 := Lib.hid (T1.out.below hb2)
    clear T1 hb2 hld hld2 HF1
    have HB := Lib.hid T2.out.out.2.2.1
    have T3 := Lib.hid (T2.out.row3 #[.int .i64 0, .slice none 0 0])
    clear T2
    go_wp2_with (refine wpList_store_whole rfl 24 (.tmp 4) (.tmp 15) rfl (p + 2) _ rfl rfl _ HB.out info_seg rfl (by simp [Value.oneCell']) ?_; simp only [Act.put])
    refine bodyPost_ret (results_cell2 Tryd.results14 rfl (load_seg T3.out.out.2.2.1 rfl) rfl) rfl ⟨rfl, T3.out.bel⟩
end Go.Proofs.YthhpmhibkbndhaaDoor
/- Package seg: a segment with one more record, where it may be. -/
namespace Go.Proofs.YthhpmhibkbndhaaDoor
open Go.RowKit Go.Lib Rcd

theorem Tri.duo {w W : World} {p : Nat} {cs ds es : Array Value} (k : Tri w p cs ds es W) : Duo w p (p + 1) cs ds W := by
  obtain ⟨h1, h2, h3, h4, h5⟩ := k.out
  exact .mk ⟨h1, h2, h4, h5, Nat.lt_succ_self _⟩

set_option maxRecDepth 100000 in
set_option maxHeartbeats 16000000 in
/-- seg.Add, of what may be. -/
theorem SegAdd_yes (b : Int) (rs : List Rc) (r : Rc) (A : Option Addr) (c B : Nat) (w : World) (hcap : rs.length ≤ c) (hB : B ≤ w.heap.size) (h : RecsAt w B A rs) (hyes : segB b (rs ++ [r]) = true) :
    Calls Tryd.prog 14 #[.agg #[.int .i64 b, .slice A rs.length c], ragg r] w fun e w' => ∃ A' c', e = .returned (.tuple #[.agg #[.int .i64 b, .slice A' (rs ++ [r]).length c'], .int .i64 0]) ∧ w'.ownsRow w.heap.size 42 6 (.slice A' (rs ++ [r]).length c') (rs ++ [r]).length (flat (rs ++ [r])) ∧ Below w.heap.size w w' := by
  obtain ⟨i0, hi, hz0, hz1, hz2⟩ := info_parts info_more
  have hT := Tri.new w 24 42 24 (sarr b A rs.length c) (rarr r.o r.t (str r.k) (str r.b) r.q r.g) szero
  have hy2 := hyes
  rw [seg_snoc, Bool.and_eq_true] at hy2
  obtain ⟨hs, hf⟩ := hy2
  have hle := seg_len hs
  have HC := Lib.hid (fun W (hb : Below w.heap.size w W) => SegCheck_is b rs rs.length A c B 0 W rfl (by omega) hcap (Nat.le_trans hB hb.size) (h.below (hb.mono hB)) (segE_yes hs))
  have HF := Lib.hid (fun W (hb : Below w.heap.size w W) => follow_is b rs r rs.length A c B true W rfl (by omega) (Nat.le_trans hB hb.size) (h.below (hb.mono hB)) hf)
  have HCP := Lib.hid (fun W (hb : Below w.heap.size w W) => copies_is rs A c B W (by omega) (fun s hs' => short_of (seg_may hs s hs')) (Nat.le_trans hB hb.size) (h.below (hb.mono hB)))
  have HCO := Lib.hid (fun W => copyOf_is r W (short_of (follow_iff.1 hf).2.1))
  unfold ragg at HF HCO ⊢
  clear h hyes hs hf
  obtain ⟨o, t, key, bod, q, g⟩ := r
  dsimp only at HF HCO hT ⊢
  have hfc : rcells ⟨o, t, key, bod, q, g⟩ = [.int .i64 o, .int .i64 t, .string (str key), .string (str bod), .int .i64 q, .bool g] := rfl
  have HSN : Hid (flat (rs ++ [⟨o, t, key, bod, q, g⟩]) = flat rs ++ rcells ⟨o, t, key, bod, q, g⟩) := flat_snoc _ _
  have hon : ∀ u ∈ rcells ⟨o, t, key, bod, q, g⟩, u.oneCell' = true := one_cells _
  rw [hfc] at HSN hon
  have HON := Lib.hid hon
  clear hfc hon
  generalize str key = ks at HF HCO hT HSN HON ⊢
  generalize str bod = bs at HF HCO hT HSN HON ⊢
  obtain ⟨p, hp⟩ : ∃ p, w.heap.size = p := ⟨_, rfl⟩
  obtain ⟨W0, hW⟩ : ∃ W0, ((w.alloc (.cells (sarr b A rs.length c) 24)).alloc (.cells (rarr o t ks bs q g) 42)).alloc (.cells szero 24) = W0 := ⟨_, rfl⟩
  rw [hW, hp] at hT
  unfold sarr rarr szero at hW
  unfold sarr rarr at hT
  unfold rarr at HF HCO ⊢
  have T0 := Lib.hid hT
  have HW := Lib.hid hW
  have HP := Lib.hid hp
  clear hT hW hp
  go_enter Tryd.func14, Tryd.ntmps14
  go_upto_region 1 with fail
  rw [HW.out, HP.out]
  clear HW
  have hld := load_seg T0.out.out.1 rfl
  go_wp2_with (refine wpList_load_any (by rfl) 24 (.tmp 2) rfl p 0 rfl _ hld ?_; simp only [Act.put])
  refine (HC.out _ T0.out.bel).mono ?_
  rintro e w1 ⟨rfl, hb1⟩
  have T1 := Lib.hid (T0.out.below hb1)
  clear T0 hb1 hld HC
  have hld := load_seg T1.out.out.1 rfl
  have hld2 := load_blk T1.out.out.2.1 rfl
  go_wp2_with (first | (refine wpList_load_any (by rfl) 24 (.tmp 2) rfl p 0 rfl _ hld ?_; simp only [Act.put]) | (refine wpList_load_any (by rfl) 42 (.tmp 3) rfl (p + 1) 0 rfl _ hld2 ?_; simp only [Act.put]))
  refine (HF.out _ T1.out.bel).mono ?_
  rintro e w2 ⟨rfl, hb2⟩
  have T2 := Lib.hid (T1.out.below hb2)
  clear T1 hb2 hld hld2 HF
  go_upto_region 3 with fail
  go_cut [5] from 16 to 26 (fun s5 wx => s5 = .int .i64 0 ∧ AddPost w p #[.int .i64 b, .slice A rs.length c] #[.int .i64 o, .int .i64 t, .string ks, .string bs, .int .i64 q, .bool g] b (rs ++ [⟨o, t, key, bod, q, g⟩]) wx)
  case first =>
    have hS0 := T2.out.duo.drewN 1
    have hT0 := T2.out.drewN 1
    clear T2
    refine wp_region_held_drew (S := fun W => Duo w p (p + 1) #[.int .i64 b, .slice A rs.length c] #[.int .i64 o, .int .i64 t, .string ks, .string bs, .int .i64 q, .bool g] W) (by kernel_rfl) hS0 (fun hS => ?_)
    have hT : Tri w p #[.int .i64 b, .slice A rs.length c] #[.int .i64 o, .int .i64 t, .string ks, .string bs, .int .i64 q, .bool g] szero w2.drew := hT0
    clear hS0 hT0 hS
    generalize w2.drew = Wd at hT ⊢
    refine take_op 0 16 ?v1 rfl rfl (by kernel_rfl) (fun _ _ _ h => h) (by rfl) hT.duo (fun w' hS' => ?hv2) ?hh3
    case hv2 => (go_simp; (try with_reducible rfl); (try omega))
    simp only [Act.put, List.setIfInBounds_toArray, List.set_cons_zero, List.set_cons_succ]
    refine take_op 1 17 ?v4 rfl rfl (by kernel_rfl) (fun _ _ _ h => h) (by rfl) hT.duo (fun w' hS' => ?hv5) ?hh6
    case hv5 => (have d0 : w'.cell? ⟨p, 0, none⟩ = some (.int .i64 b) := hS'.cell1 0; go_simp; (try with_reducible rfl); (try omega))
    simp only [Act.put, List.setIfInBounds_toArray, List.set_cons_zero, List.set_cons_succ]
    refine take_op 2 18 ?v7 rfl rfl (by kernel_rfl) (fun _ _ _ h => h) (by rfl) hT.duo (fun w' hS' => ?hv8) ?hh9
    case hv8 => (go_simp; (try with_reducible rfl); (try omega))
    simp only [Act.put, List.setIfInBounds_toArray, List.set_cons_zero, List.set_cons_succ]
    refine take_op 3 19 ?v10 rfl rfl (by kernel_rfl) (fun _ _ _ h => h) (by rfl) hT.duo (fun w' hS' => ?hv11) ?hh12
    case hv11 => (have d1 : w'.cell? ⟨p, 1, none⟩ = some (.slice A rs.length c) := hS'.cell1 1; go_simp; (try with_reducible rfl); (try omega))
    simp only [Act.put, List.setIfInBounds_toArray, List.set_cons_zero, List.set_cons_succ]
    refine take_load 5 21 42 (.tmp 3) (p + 1) 0 (.agg #[.int .i64 o, .int .i64 t, .string ks, .string bs, .int .i64 q, .bool g]) rfl rfl (by kernel_rfl) (fun _ _ _ h => h) (by rfl) hT.duo rfl rfl (fun w' hS' => hS'.box2.load rfl) ?hh13
    simp only [Act.put, List.setIfInBounds_toArray, List.set_cons_zero, List.set_cons_succ]
    refine only_op 4 rfl (by kernel_rfl) (by rfl) (wp_call_ex 20 33 #[.slice A rs.length c] _ rfl (by go_simp) (HCP.out Wd hT.bel) ?_)
    rintro e Wa ⟨A', c', rfl, hO0, hb⟩
    refine ⟨_, rfl, hT.duo.below hb, ?_⟩
    simp only [Act.put, List.setIfInBounds_toArray, List.set_cons_zero, List.set_cons_succ]
    have hO := own_mono hO0 hT.lt
    have hT := hT.below hb
    clear hb hO0
    refine only_op 6 rfl (by kernel_rfl) (by rfl) (wp_call 22 34 #[.agg #[.int .i64 o, .int .i64 t, .string ks, .string bs, .int .i64 q, .bool g]] (.agg #[.int .i64 o, .int .i64 t, .string ks, .string bs, .int .i64 q, .bool g]) (fun W => Below Wa.heap.size Wa W) rfl (by go_simp) (HCO.out Wa) (fun Wb hb => ⟨hT.duo.below hb, ?_⟩))
    simp only [Act.put, List.setIfInBounds_toArray, List.set_cons_zero, List.set_cons_succ]
    have hO := own_below hO hb
    have hT := hT.below hb
    clear hb
    refine only_op 7 rfl (by kernel_rfl) (by rfl) (wp_made 23 (.slice (some ⟨Wb.heap.size, 0, none⟩) 1 1) rfl (w' := Wb.alloc (.cells #[.int .i64 o, .int .i64 t, .string ks, .string bs, .int .i64 q, .bool g] 42)) (by go_simp; try rfl) ⟨(hT.below ((Below.refl _ _).alloc (Nat.le_refl _) _)).duo, ?_⟩)
    simp only [Act.put, List.setIfInBounds_toArray, List.set_cons_zero, List.set_cons_succ]
    have hG := Blk.new Wb 42 #[.int .i64 o, .int .i64 t, .string ks, .string bs, .int .i64 q, .bool g]
    have hbl := (Below.refl Wb.heap.size Wb).alloc (Nat.le_refl _) (.cells #[.int .i64 o, .int .i64 t, .string ks, .string bs, .int .i64 q, .bool g] 42)
    have hO := own_below hO hbl
    have hT := hT.below hbl
    generalize Wb.alloc _ = Wc at hG hT hO ⊢
    generalize Wb.heap.size = g9 at hG ⊢
    clear hbl
    have hlt := hT.lt
    refine only_op 8 rfl (by kernel_rfl) (by rfl) (wp_append_own Wc (.tmp 20) (.tmp 23) 22 rfl (p + 3) 42 i0 (.agg zcells) 6 64 Tryd.underlying22 hi hz0 hz1 hz2 rfl (by decide) _ _ _ rfl hO ⟨g9, 0, none⟩ 1 1 [.int .i64 o, .int .i64 t, .string ks, .string bs, .int .i64 q, .bool g] rfl rfl ?n14 ?n15 ?n16 ?n17 ?n18 (fun v' Wz hown' hgrow _ => ⟨(hT.grown hO (Nat.le_refl _) hgrow).duo, ?_⟩))
    case n14 => exact fun j u hu => by rw [add_new, hG.cell]; simpa using hu
    case n15 => exact HON.out
    case n16 => unfold maxLen; omega
    case n17 => omega
    case n18 => exact hlt
    simp only [Act.put, List.setIfInBounds_toArray, List.set_cons_zero, List.set_cons_succ]
    have hT := hT.grown hO (Nat.le_refl _) hgrow
    have hO2 : Wz.ownsRow (p + 3) 42 6 v' (rs ++ [(⟨o, t, key, bod, q, g⟩ : Rc)]).length (flat (rs ++ [(⟨o, t, key, bod, q, g⟩ : Rc)])) := by rw [HSN.out, List.length_append]; exact hown'
    clear hown' hgrow hO hG hlt
    obtain ⟨A2, c2, rfl⟩ := own_slice hO2
    obtain ⟨M, hM⟩ : ∃ M, (rs ++ [(⟨o, t, key, bod, q, g⟩ : Rc)]).length = M := ⟨_, rfl⟩
    have hM1 : rs.length + 1 = M := by rw [← hM]; simp
    have hADD := fun W (h1 : Tri w p #[.int .i64 b, .slice A rs.length c] #[.int .i64 o, .int .i64 t, .string ks, .string bs, .int .i64 q, .bool g] #[.int .i64 b, .slice A2 (rs ++ [(⟨o, t, key, bod, q, g⟩ : Rc)]).length c2] W) (h2 : W.ownsRow (p + 3) 42 6 (.slice A2 (rs ++ [(⟨o, t, key, bod, q, g⟩ : Rc)]).length c2) (rs ++ [(⟨o, t, key, bod, q, g⟩ : Rc)]).length (flat (rs ++ [(⟨o, t, key, bod, q, g⟩ : Rc)]))) => AddPost.mk h1 h2
    rw [hM] at hADD hO2
    rw [hM]
    have HM := Lib.hid hM
    clear hM hM1
    refine take_op 9 25 (.agg #[.int .i64 b, .slice A2 M c2]) rfl rfl (by kernel_rfl) (fun _ _ _ h => h) (by rfl) hT.duo (fun w' hS' => ?hv19) ?hh20
    case hv19 => (go_simp; (try with_reducible rfl); (try omega))
    simp only [Act.put, List.setIfInBounds_toArray, List.set_cons_zero, List.set_cons_succ]
    obtain ⟨Tz, hz⟩ := hT.out.2.2.1
    have hO9 := own_row hO2 (p + 2) (by omega) #[.int .i64 b, .slice A2 M c2]
    have hT := hT.row3 #[.int .i64 b, .slice A2 M c2]
    refine only_op 10 rfl (by kernel_rfl) (by rfl) (wp_store_row 24 (.tmp 4) (.tmp 25) rfl (p + 2) #[.int .i64 b, .slice A2 M c2] rfl rfl Tz szero hz info_seg rfl (by simp [Value.oneCell']) ⟨hT.duo, ?_⟩)
    (try simp only [put_none])
    refine take_op 11 5 (.int .i64 0) rfl rfl (by kernel_rfl) (fun _ _ _ h => h) (by rfl) hT.duo (fun w' hS' => ?hv21) ?hh22
    case hv21 => (go_simp; (try with_reducible rfl); (try omega))
    simp only [Act.put, List.setIfInBounds_toArray, List.set_cons_zero, List.set_cons_succ]
    refine wpAnyH_done (by kernel_rfl) ?_ _
    go_wp2_with fail
    go_meet
    exact ⟨rfl, hADD _ hT hO9⟩
  case rest =>
    obtain ⟨rfl, hpost⟩ := hcut
    obtain ⟨A', c', hT, hO⟩ := hpost.out
    have T9 := Lib.hid hT
    have O9 := Lib.hid (own_mono hO (show w.heap.size ≤ p + 3 by have := hT.out.2.2.2.2; omega))
    clear hpost hT hO T2 HCP HCO HON HSN
    go_wp2_with fail
    refine bodyPost_ret (results_cell2 Tryd.results14 rfl (load_seg T9.out.out.2.2.1 rfl) rfl) rfl ⟨A', c', rfl, O9.out, T9.out.bel⟩
end Go.Proofs.YthhpmhibkbndhaaDoor
/- Package seg: what was found, as a call answers it. -/
namespace Go.Proofs.YthhpmhibkbndhaaDoor
open Go.RowKit Go.Lib Rcd

theorem as_rec (v : Value) (w : World) : (Instr.typeAssert (.iface 42 v) 20 42 true).run Tryd.prog w = .ok (.tuple #[v, .bool true]) w := by kernel_rfl
theorem not_rec (v : Value) (w : World) : (Instr.typeAssert (.iface 32 v) 20 42 true).run Tryd.prog w = .ok (.tuple #[.agg #[.int .i64 0, .int .i64 0, .string ⟨#[]⟩, .string ⟨#[]⟩, .int .i64 0, .bool false], .bool false]) w := by kernel_rfl
theorem as_errno' (v : Value) (w : World) : (Instr.typeAssert (.iface 32 v) 20 32 false).run Tryd.prog w = .ok v w := by kernel_rfl

/-- Where the first one is, or -1. -/
def atOf (a N : Nat) : Int := if a < N then (a : Int) else -1
/-- What seg.first tells. -/
def FoundV (b : Int) (rs : List Rc) (a : Nat) (V : Value) : Prop :=
  (∃ E, ¬ E = 0 ∧ segE b rs = E ∧ V = .iface 32 (.int .i64 E)) ∨ (segE b rs = 0 ∧ a = rs.length ∧ V = .iface 32 (.int .i64 3)) ∨ (segE b rs = 0 ∧ ∃ h : a < rs.length, mayB rs[a] = true ∧ V = .iface 42 (ragg rs[a]))
/-- The record and the error that are told. -/
def Out (b : Int) (rs : List Rc) (a : Nat) (R : Rc) (E : Int) : Prop :=
  (segB b rs = false ∧ R = zero ∧ E = 1) ∨ (segB b rs = true ∧ a = rs.length ∧ R = zero ∧ E = 3) ∨ (segB b rs = true ∧ ∃ h : a < rs.length, R = rs[a] ∧ E = 0)
theorem out_ex (b : Int) (rs : List Rc) (a : Nat) (h : a ≤ rs.length) : ∃ R E, Out b rs a R E := by
  cases hs : segB b rs with
  | false => exact ⟨_, _, .inl ⟨hs, rfl, rfl⟩⟩
  | true =>
    by_cases c : a < rs.length
    · exact ⟨_, _, .inr (.inr ⟨hs, c, rfl, rfl⟩)⟩
    · exact ⟨_, _, .inr (.inl ⟨hs, by omega, rfl, rfl⟩)⟩

set_option maxRecDepth 100000 in
set_option maxHeartbeats 4000000 in
theorem told_no (E : Int) (w : World) :
    Calls Tryd.prog 48 #[.iface 32 (.int .i64 E)] w fun e w' => e = .returned (.tuple #[.agg #[.int .i64 0, .int .i64 0, .string ⟨#[]⟩, .string ⟨#[]⟩, .int .i64 0, .bool false], .int .i64 E]) ∧ Below w.heap.size w w' := by
  have hnr := not_rec (.int .i64 E)
  have hae := as_errno' (.int .i64 E)
  have R0 := Lib.hid (RBox.new w 42 zcells)
  obtain ⟨p, hp⟩ : ∃ p, w.heap.size = p := ⟨_, rfl⟩
  obtain ⟨W0, hW⟩ : ∃ W0, w.alloc (.cells zcells 42) = W0 := ⟨_, rfl⟩
  rw [hW, hp] at R0
  have hpw : w.heap.size ≤ p := Nat.le_of_eq hp
  have hD := Duo.more R0.out hpw 42 zcells
  obtain ⟨g9, hg9⟩ : ∃ g9, W0.heap.size = g9 := ⟨_, rfl⟩
  obtain ⟨W4, hW4⟩ : ∃ W4, W0.alloc (.cells zcells 42) = W4 := ⟨_, rfl⟩
  rw [hg9, hW4] at hD
  have HBN := Lib.hid hD.out.2.1
  have D5 := Lib.hid (hD.row2 zcells)
  unfold zcells at hW hW4
  have HW := Lib.hid hW
  have HP := Lib.hid hp
  have HW4 := Lib.hid hW4
  have HG9 := Lib.hid hg9
  clear hW hp hW4 hg9 R0 hD
  unfold zcells at D5
  go_enter Tryd.func48, Tryd.ntmps48
  go_upto_region 1 with fail
  rw [HW.out, HP.out]
  clear HW HP
  go_upto_region 2 with (rw [HW4.out, HG9.out]; refine wpList_store_whole rfl 42 (.tmp 4) (.tmp 9) rfl g9 _ rfl rfl zcells HBN.out info_rec rfl (by simp [Value.oneCell']) ?_; simp only [Act.put])
  clear HW4 HBN HG9
  generalize World.setRow _ _ _ = w5 at D5 ⊢
  have hDd := D5.out.drewN 1
  clear D5
  go_upto_region 3 with fail
  refine wp_region_held_drew (S := fun W => Duo w p g9 #[.int .i64 0, .int .i64 0, .string ⟨#[]⟩, .string ⟨#[]⟩, .int .i64 0, .bool false] #[.int .i64 0, .int .i64 0, .string ⟨#[]⟩, .string ⟨#[]⟩, .int .i64 0, .bool false] W) (by kernel_rfl) hDd (fun hS => ?_)
  clear hDd
  generalize w5.drew = w6 at hS ⊢
  refine take_op 0 13 (.agg #[.int .i64 0, .int .i64 0, .string ⟨#[]⟩, .string ⟨#[]⟩, .int .i64 0, .bool false]) rfl rfl (by kernel_rfl) (fun _ _ _ h => h) (by rfl) hS (fun w' hS' => ?hv1) ?hh1
  case hv1 => (go_simp; try with_reducible rfl)
  simp only [Act.put, List.setIfInBounds_toArray, List.set_cons_zero, List.set_cons_succ]
  refine take_op 1 14 (.iface 32 (.int .i64 E)) rfl rfl (by kernel_rfl) (fun _ _ _ h => h) (by rfl) hS (fun w' hS' => ?hv2) ?hh2
  case hv2 => (go_simp; try with_reducible rfl)
  simp only [Act.put, List.setIfInBounds_toArray, List.set_cons_zero, List.set_cons_succ]
  refine take_op 2 15 (.int .i64 E) rfl rfl (by kernel_rfl) (fun _ _ _ h => h) (by rfl) hS (fun w' hS' => ?hv3) ?hh3
  case hv3 => (have he := hae w'; go_simp; try with_reducible rfl)
  simp only [Act.put, List.setIfInBounds_toArray, List.set_cons_zero, List.set_cons_succ]
  obtain ⟨Tz, hz⟩ := hS.out.1
  have D6 := hS.row1 #[.int .i64 0, .int .i64 0, .string ⟨#[]⟩, .string ⟨#[]⟩, .int .i64 0, .bool false]
  refine only_op 3 rfl (by kernel_rfl) (by rfl) (wp_store_row 42 (.tmp 2) (.tmp 13) rfl p #[.int .i64 0, .int .i64 0, .string ⟨#[]⟩, .string ⟨#[]⟩, .int .i64 0, .bool false] rfl rfl Tz _ hz info_rec rfl (by simp [Value.oneCell']) ⟨D6, ?_⟩)
  (try simp only [put_none])
  refine take_op 4 3 (.int .i64 E) rfl rfl (by kernel_rfl) (fun _ _ _ h => h) (by rfl) D6 (fun w' hS' => ?hv5) ?hh5
  case hv5 => (go_simp; try with_reducible rfl)
  simp only [Act.put, List.setIfInBounds_toArray, List.set_cons_zero, List.set_cons_succ]
  refine wpAnyH_done (by kernel_rfl) ?_ _
  go_wp2_with fail
  refine bodyPost_ret (results_cell2 Tryd.results48 rfl (load_blk D6.out.1 rfl) rfl) rfl ⟨rfl, D6.bel⟩

set_option maxRecDepth 100000 in
set_option maxHeartbeats 4000000 in
theorem told_yes (o t : Int) (ks bs : ByteArray) (q : Int) (g : Bool) (w : World) :
    Calls Tryd.prog 48 #[.iface 42 (.agg #[.int .i64 o, .int .i64 t, .string ks, .string bs, .int .i64 q, .bool g])] w fun e w' => e = .returned (.tuple #[.agg #[.int .i64 o, .int .i64 t, .string ks, .string bs, .int .i64 q, .bool g], .int .i64 0]) ∧ Below w.heap.size w w' := by
  have har := as_rec (.agg #[.int .i64 o, .int .i64 t, .string ks, .string bs, .int .i64 q, .bool g])
  have R0 := Lib.hid (RBox.new w 42 zcells)
  obtain ⟨p, hp⟩ : ∃ p, w.heap.size = p := ⟨_, rfl⟩
  obtain ⟨W0, hW⟩ : ∃ W0, w.alloc (.cells zcells 42) = W0 := ⟨_, rfl⟩
  rw [hW, hp] at R0
  have hpw : w.heap.size ≤ p := Nat.le_of_eq hp
  have hD := Duo.more R0.out hpw 42 zcells
  obtain ⟨g9, hg9⟩ : ∃ g9, W0.heap.size = g9 := ⟨_, rfl⟩
  obtain ⟨W4, hW4⟩ : ∃ W4, W0.alloc (.cells zcells 42) = W4 := ⟨_, rfl⟩
  rw [hg9, hW4] at hD
  have HBN := Lib.hid hD.out.2.1
  have D5 := Lib.hid (hD.row2 #[.int .i64 o, .int .i64 t, .string ks, .string bs, .int .i64 q, .bool g])
  unfold zcells at hW hW4
  have HW := Lib.hid hW
  have HP := Lib.hid hp
  have HW4 := Lib.hid hW4
  have HG9 := Lib.hid hg9
  clear hW hp hW4 hg9 R0 hD
  go_enter Tryd.func48, Tryd.ntmps48
  go_upto_region 1 with fail
  rw [HW.out, HP.out]
  clear HW HP
  go_upto_region 2 with (rw [HW4.out, HG9.out]; refine wpList_store_whole rfl 42 (.tmp 4) (.tmp 9) rfl g9 _ rfl rfl zcells HBN.out info_rec rfl (by simp [Value.oneCell']) ?_; simp only [Act.put])
  clear HW4 HBN HG9
  generalize World.setRow _ _ _ = w5 at D5 ⊢
  have hld := load_blk D5.out.out.2.1 rfl
  have HB := Lib.hid D5.out.out.1
  have D6 := Lib.hid (D5.out.row1 #[.int .i64 o, .int .i64 t, .string ks, .string bs, .int .i64 q, .bool g])
  clear D5
  go_wp2_with (first | (refine wpList_load_any (by rfl) 42 (.tmp 4) rfl g9 0 rfl _ hld ?_; simp only [Act.put]) | (refine wpList_store_whole rfl 42 (.tmp 2) (.tmp 16) rfl p _ rfl rfl _ HB.out info_rec rfl (by simp [Value.oneCell']) ?_; simp only [Act.put]))
  refine bodyPost_ret (results_cell2 Tryd.results48 rfl (load_blk D6.out.out.1 rfl) rfl) rfl ⟨rfl, D6.out.bel⟩

theorem out_found {b : Int} {rs : List Rc} {a : Nat} {R : Rc} {E : Int} (h : Out b rs a R E) : ∃ V, FoundV b rs a V ∧ ∀ w, Calls Tryd.prog 48 #[V] w fun e w' => e = .returned (.tuple #[ragg R, .int .i64 E]) ∧ Below w.heap.size w w' := by
  rcases h with ⟨h1, rfl, rfl⟩ | ⟨h1, h2, rfl, rfl⟩ | ⟨h1, h2, rfl, rfl⟩
  · exact ⟨_, .inl ⟨1, by decide, segE_no (by rw [h1]; decide), rfl⟩, fun w => told_no 1 w⟩
  · exact ⟨_, .inr (.inl ⟨segE_yes h1, h2, rfl⟩), fun w => told_no 3 w⟩
  · exact ⟨_, .inr (.inr ⟨segE_yes h1, h2, seg_may h1 _ (List.getElem_mem h2), rfl⟩), fun w => told_yes _ _ _ _ _ _ w⟩
end Go.Proofs.YthhpmhibkbndhaaDoor
/- Package seg: the first record of a segment whose offset is far enough. -/
namespace Go.Proofs.YthhpmhibkbndhaaDoor
open Go.RowKit Go.Lib Rcd

/-- Is a record's offset far enough? -/
def byFind (n : Int) (r : Rc) : Bool := decide (n ≤ r.o)
set_option maxRecDepth 100000 in
set_option maxHeartbeats 1000000 in
theorem farFind_is (n : Int) (r : Rc) (g : Nat) (X : Bool) (w : World) (hg : w.cell? ⟨g, 0, none⟩ = some (.int .i64 n)) (hX : byFind n r = X) :
    Calls Tryd.prog 50 #[ragg r, .pointer (some ⟨g, 0, none⟩)] w fun e w' => e = .returned (.bool X) ∧ Below w.heap.size w w' := by
  have hb := (Below.refl w.heap.size w).alloc (Nat.le_refl _) (.cells (rarr r.o r.t (str r.k) (str r.b) r.q r.g) 42)
  have hG := Lib.hid ((hb.cell (p := ⟨g, 0, none⟩) (cell_lt hg)).trans hg)
  have HX := Lib.hid hX
  unfold byFind at HX
  unfold ragg
  clear hb hg hX
  obtain ⟨o, t, key, bod, q, gn⟩ := r
  dsimp only at hG HX ⊢
  generalize str key = ks at hG ⊢
  generalize str bod = bs at hG ⊢
  have R0 := Lib.hid (RBox.new w 42 (rarr o t ks bs q gn))
  obtain ⟨p, hp⟩ : ∃ p, w.heap.size = p := ⟨_, rfl⟩
  obtain ⟨W0, hW⟩ : ∃ W0, w.alloc (.cells (rarr o t ks bs q gn) 42) = W0 := ⟨_, rfl⟩
  rw [hW, hp] at R0
  rw [hW] at hG
  unfold rarr at R0 hW ⊢
  have HW := Lib.hid hW
  have HP := Lib.hid hp
  clear hW hp
  go_enter Tryd.func50, Tryd.ntmps50
  go_upto_region 1 with fail
  rw [HW.out, HP.out]
  clear HW HP
  have d0 : W0.cell? ⟨p, 0, none⟩ = some (.int .i64 o) := R0.out.cell 0
  have d1 := hG.out
  go_wp2_with fail
  go_ret
  exact ⟨ret_bool HX.out, R0.out.out.2⟩

set_option maxRecDepth 100000 in
set_option maxHeartbeats 4000000 in
/-- slices.IndexFunc, by this. -/
theorem indexFind_is (n : Int) (rs : List Rc) (N : Nat) (A : Option Addr) (c B g a : Nat) (w : World) (hN : rs.length = N) (hm : N ≤ 9223372036854775807) (hB : B ≤ w.heap.size) (h : RecsAt w B A rs) (hg : w.cell? ⟨g, 0, none⟩ = some (.int .i64 n)) (hF : First (byFind n) rs a) :
    Calls Tryd.prog 60 #[.slice A N c, .func (.func 50) #[] #[.pointer (some ⟨g, 0, none⟩)]] w fun e w' => e = .returned (.int .i64 (atOf a N)) ∧ Below w.heap.size w w' := by
  have H := Lib.hid (h.mono hB)
  have HG := Lib.hid (fun W (hb : Below w.heap.size w W) => (hb.cell (p := ⟨g, 0, none⟩) (cell_lt hg)).trans hg)
  have HF := Lib.hid hF
  have HNN := Lib.hid hN
  have haN : a ≤ N := by rw [← hN]; exact hF.le
  have hcf : ∀ (args : Array Value) (W : World), (callFunc 50 args).run Tryd.prog W = .ok (.enter 50 args) W := fun args W => by go_simp
  obtain ⟨z, hz⟩ : ∃ z, atOf a N = z := ⟨_, rfl⟩
  rw [hz]
  have HZ := Lib.hid hz
  clear h hg hF hN hz
  go_enter Tryd.func60, Tryd.ntmps60
  go_wp2_with fail
  go_loopw [8] (fun i wr => ∃ k : Nat, k ≤ a ∧ i = .int .i64 (k : Int) ∧ Below w.heap.size w wr) (fun i _ => N - (RowKit.intOf i).toNat)
  case atStart => exact ⟨0, Nat.zero_le _, rfl, Below.refl _ _⟩
  case round =>
    obtain ⟨k, hk, rfl, hbel⟩ := hrel
    have HB := Lib.hid hbel
    clear hbel
    by_cases hlt : k < N
    · have hlr : k < rs.length := by rw [HNN.out]; exact hlt
      obtain ⟨b0, o0, rfl, hb0, hc⟩ := (H.out.below HB.out).some_ (by omega)
      obtain ⟨c0, c1, c2, c3, c4, c5⟩ := hc k hlr
      obtain ⟨X, hX⟩ : ∃ X, byFind n rs[k] = X := ⟨_, rfl⟩
      have HFA := Lib.hid (fun W (hb : Below w.heap.size w W) => farFind_is n rs[k] g X W (HG.out W hb) hX)
      have hwhich : (X = true ∧ k = a) ∨ (X = false ∧ k < a) := by
        rcases Nat.lt_or_ge k a with h1 | h1
        · exact .inr ⟨hX.symm.trans (HF.out.lo k hlr h1), h1⟩
        · obtain rfl : k = a := by omega
          exact .inl ⟨hX.symm.trans (HF.out.hi hlr), rfl⟩
      clear hc hX
      unfold ragg at HFA
      generalize rs[k] = r at c0 c1 c2 c3 c4 c5 HFA
      obtain ⟨o, t, key, bod, q, gn⟩ := r
      dsimp only at c0 c1 c2 c3 c4 c5 HFA
      generalize str key = ks at c2 HFA
      generalize str bod = bs at c3 HFA
      unfold rarr at HFA
      have e1 : (k : Int) < (N : Int) := by omega
      clear hlr
      rcases hwhich with ⟨rfl, rfl⟩ | ⟨rfl, hka⟩
      · have HZ1 := Lib.hid ((show atOf k N = (k : Int) from if_pos hlt).symm.trans HZ.out)
        go_wp2_with fail
        refine (HFA.out _ HB.out).mono ?_
        rintro e w1 ⟨rfl, hb1⟩
        have HB1 := Lib.hid (HB.out.trans (hb1.mono HB.out.size))
        clear hb1 HB HFA c0 c1 c2 c3 c4 c5
        go_wp2_with fail
        go_ret
        exact ⟨ret_int HZ1.out, HB1.out⟩
      · go_wp2_with fail
        refine (HFA.out _ HB.out).mono ?_
        rintro e w1 ⟨rfl, hb1⟩
        have HB1 := Lib.hid (HB.out.trans (hb1.mono HB.out.size))
        clear hb1 HB HFA c0 c1 c2 c3 c4 c5
        go_wp2_with fail
        go_roundw
        case rel => exact ⟨k + 1, hka, by go_num, HB1.out⟩
        case measure => simp [RowKit.intOf]; omega
    · obtain rfl : a = N := by omega
      have HZ1 := Lib.hid ((show atOf a a = -1 from if_neg (Nat.lt_irrefl _)).symm.trans HZ.out)
      obtain rfl : k = a := by omega
      go_wp2_with fail
      go_ret
      exact ⟨ret_int HZ1.out, HB.out⟩

set_option maxRecDepth 100000 in
set_option maxHeartbeats 8000000 in
/-- seg.first, by this. -/
theorem firstFind_is (n b : Int) (rs : List Rc) (N : Nat) (A : Option Addr) (c B g a : Nat) (V : Value) (w : World) (hN : rs.length = N) (hm : N ≤ 9223372036854775807) (hcap : N ≤ c) (hB : B ≤ w.heap.size) (h : RecsAt w B A rs) (hg : w.cell? ⟨g, 0, none⟩ = some (.int .i64 n)) (hF : First (byFind n) rs a) (hV : FoundV b rs a V) :
    Calls Tryd.prog 49 #[.agg #[.int .i64 b, .slice A N c], .func (.func 50) #[] #[.pointer (some ⟨g, 0, none⟩)]] w fun e w' => e = .returned V ∧ Below w.heap.size w w' := by
  have R0 := Lib.hid (RBox.new w 24 (sarr b A N c))
  have HC := Lib.hid (fun E W (hb : Below w.heap.size w W) (hE : segE b rs = E) => SegCheck_is b rs N A c B E W hN hm hcap (Nat.le_trans hB hb.size) (h.below (hb.mono hB)) hE)
  have HI := Lib.hid (fun W (hb : Below w.heap.size w W) => indexFind_is n rs N A c B g a W hN hm (Nat.le_trans hB hb.size) (h.below (hb.mono hB)) ((hb.cell (p := ⟨g, 0, none⟩) (cell_lt hg)).trans hg) hF)
  obtain ⟨p, hp⟩ : ∃ p, w.heap.size = p := ⟨_, rfl⟩
  obtain ⟨W0, hW⟩ : ∃ W0, w.alloc (.cells (sarr b A N c) 24) = W0 := ⟨_, rfl⟩
  rw [hW, hp] at R0
  unfold sarr at R0 hW
  have HW := Lib.hid hW
  have HP := Lib.hid hp
  have H := Lib.hid (h.mono hB)
  have HNN := Lib.hid hN
  have haN : a ≤ N := by rw [← hN]; exact hF.le
  clear hW hp h hg hF hN
  rcases hV with ⟨E, h0, hE, rfl⟩ | ⟨hE, ha, rfl⟩ | ⟨hE, ha, hmay, rfl⟩
  · have h0b : (E == 0) = false := by rw [beq_eq_false_iff_ne]; exact h0
    have h0c : (E != 0) = true := by rw [bne_iff_ne]; exact h0
    have HC1 := Lib.hid (fun W hb => HC.out E W hb hE)
    clear hE HC
    go_enter Tryd.func49, Tryd.ntmps49
    go_upto_region 1 with fail
    rw [HW.out, HP.out]
    clear HW HP
    have hld := R0.out.loadS rfl
    go_wp2_with (refine wpList_load_any (by rfl) 24 (.tmp 2) rfl p 0 rfl _ hld ?_; simp only [Act.put])
    refine (HC1.out _ R0.out.out.2).mono ?_
    rintro e w1 ⟨rfl, hb1⟩
    have R1 := Lib.hid (R0.out.below hb1)
    clear R0 hb1 hld HC1
    go_wp2_with fail
    go_ret
    exact ⟨rfl, R1.out.out.2⟩
  · have HC1 := Lib.hid (fun W hb => HC.out 0 W hb hE)
    obtain rfl : a = N := by rw [← HNN.out]; exact ha
    have hat : atOf a a = -1 := if_neg (Nat.lt_irrefl _)
    rw [hat] at HI
    clear hE HC hat ha
    go_enter Tryd.func49, Tryd.ntmps49
    go_upto_region 1 with fail
    rw [HW.out, HP.out]
    clear HW HP
    have hld := R0.out.loadS rfl
    go_wp2_with (refine wpList_load_any (by rfl) 24 (.tmp 2) rfl p 0 rfl _ hld ?_; simp only [Act.put])
    refine (HC1.out _ R0.out.out.2).mono ?_
    rintro e w1 ⟨rfl, hb1⟩
    have R1 := Lib.hid (R0.out.below hb1)
    clear R0 hb1 hld HC1
    have d1 : w1.cell? ⟨p, 1, none⟩ = some (.slice A a c) := R1.out.cell 1
    go_wp2_with fail
    refine (HI.out _ R1.out.out.2).mono ?_
    rintro e w2 ⟨rfl, hb2⟩
    have R2 := Lib.hid (R1.out.below hb2)
    clear R1 hb2 HI d1
    go_wp2_with fail
    go_ret
    exact ⟨rfl, R2.out.out.2⟩
  · have HC1 := Lib.hid (fun W hb => HC.out 0 W hb hE)
    have haN : a < N := by rw [← HNN.out]; exact ha
    have hat : atOf a N = (a : Int) := if_pos haN
    rw [hat] at HI
    have HCO := Lib.hid (fun W => copyOf_is rs[a] W (short_of hmay))
    obtain ⟨b0, o0, rfl, hb0, hc⟩ := H.out.some_ (by omega)
    have hr := hc a ha
    clear hE HC hat hc hmay H
    unfold ragg at HCO ⊢
    generalize rs[a] = r at hr HCO ⊢
    obtain ⟨o, t, key, bod, q, gn⟩ := r
    obtain ⟨x0, x1, x2, x3, x4, x5⟩ := hr
    dsimp only at x0 x1 x2 x3 x4 x5 HCO ⊢
    generalize str key = ks at x2 HCO ⊢
    generalize str bod = bs at x3 HCO ⊢
    unfold rarr at HCO ⊢
    have HR := Lib.hid (And.intro x0 (And.intro x1 (And.intro x2 (And.intro x3 (And.intro x4 x5)))))
    clear x0 x1 x2 x3 x4 x5
    have e1 : (a : Int) < (N : Int) := by omega
    have hbp : b0 < p := by rw [← HP.out]; exact hb0
    clear ha
    go_enter Tryd.func49, Tryd.ntmps49
    go_upto_region 1 with fail
    rw [HW.out, HP.out]
    clear HW
    have hld := R0.out.loadS rfl
    go_wp2_with (refine wpList_load_any (by rfl) 24 (.tmp 2) rfl p 0 rfl _ hld ?_; simp only [Act.put])
    refine (HC1.out _ R0.out.out.2).mono ?_
    rintro e w1 ⟨rfl, hb1⟩
    have R1 := Lib.hid (R0.out.below hb1)
    clear R0 hb1 hld HC1
    have d1 : w1.cell? ⟨p, 1, none⟩ = some (.slice (some ⟨b0, o0, none⟩) N c) := R1.out.cell 1
    go_wp2_with fail
    refine (HI.out _ R1.out.out.2).mono ?_
    rintro e w2 ⟨rfl, hb2⟩
    have R2 := Lib.hid (R1.out.below hb2)
    clear R1 hb2 HI d1
    have d1 : w2.cell? ⟨p, 1, none⟩ = some (.slice (some ⟨b0, o0, none⟩) N c) := R2.out.cell 1
    have hcl := fun i => R2.out.out.2.cell (p := ⟨b0, i, none⟩) (by rw [HP.out]; exact hbp)
    have c0 := (hcl _).trans HR.out.1
    have c1 := (hcl _).trans HR.out.2.1
    have c2 := (hcl _).trans HR.out.2.2.1
    have c3 := (hcl _).trans HR.out.2.2.2.1
    have c4 := (hcl _).trans HR.out.2.2.2.2.1
    have c5 := (hcl _).trans HR.out.2.2.2.2.2
    clear HP HR hcl
    go_wp2_with fail
    refine (HCO.out _).mono ?_
    rintro e w3 ⟨rfl, hb3⟩
    have R3 := Lib.hid (R2.out.below hb3)
    clear R2 hb3 HCO d1 c0 c1 c2 c3 c4 c5
    go_wp2_with fail
    go_ret
    exact ⟨rfl, R3.out.out.2⟩

set_option maxRecDepth 100000 in
set_option maxHeartbeats 8000000 in
/-- seg.Find. -/
theorem SegFind_is (n b : Int) (rs : List Rc) (N : Nat) (A : Option Addr) (c B a : Nat) (R : Rc) (E : Int) (w : World) (hN : rs.length = N) (hm : N ≤ 9223372036854775807) (hcap : N ≤ c) (hB : B ≤ w.heap.size) (h : RecsAt w B A rs) (hF : First (byFind n) rs a) (hO : Out b rs a R E) :
    Calls Tryd.prog 36 #[.agg #[.int .i64 b, .slice A N c], .int .i64 n] w fun e w' => e = .returned (.tuple #[ragg R, .int .i64 E]) ∧ Below w.heap.size w w' := by
  have hT := Tri.new w 24 3 42 (sarr b A N c) #[.int .i64 n] zcells
  obtain ⟨V, hV, htold⟩ := out_found hO
  have HFI := Lib.hid (fun g W (hb : Below w.heap.size w W) (hg : W.cell? ⟨g, 0, none⟩ = some (.int .i64 n)) => firstFind_is n b rs N A c B g a V W hN hm hcap (Nat.le_trans hB hb.size) (h.below (hb.mono hB)) hg hF hV)
  have HTO := Lib.hid htold
  clear hN hm hcap hB h hF hO hV htold
  unfold ragg at HTO ⊢
  obtain ⟨o, t, key, bod, q, gn⟩ := R
  dsimp only at HTO ⊢
  generalize str key = ks at HTO ⊢
  generalize str bod = bs at HTO ⊢
  obtain ⟨p, hp⟩ : ∃ p, w.heap.size = p := ⟨_, rfl⟩
  obtain ⟨W0, hW⟩ : ∃ W0, ((w.alloc (.cells (sarr b A N c) 24)).alloc (.cells #[.int .i64 n] 3)).alloc (.cells zcells 42) = W0 := ⟨_, rfl⟩
  rw [hW, hp] at hT
  unfold sarr at hT hW
  unfold zcells at hW
  unfold rarr at HTO ⊢
  have T0 := Lib.hid hT
  have HW := Lib.hid hW
  have HP := Lib.hid hp
  clear hT hW hp
  have hmf : ∀ (fn : Fn) (first cap : Array Value) (w : World), (Instr.makeFunc fn first cap).run Tryd.prog w = .ok (.func fn first cap) w := fun _ _ _ _ => rfl
  go_enter Tryd.func36, Tryd.ntmps36
  go_upto_region 1 with fail
  rw [HW.out, HP.out]
  clear HW HP
  have hld := load_seg T0.out.out.1 rfl
  have HG := Lib.hid (show W0.cell? ⟨p + 1, 0, none⟩ = some (.int .i64 n) from T0.out.cell2 0)
  go_wp2_with (refine wpList_load_any (by rfl) 24 (.tmp 2) rfl p 0 rfl _ hld ?_; simp only [Act.put])
  refine (HFI.out (p + 1) _ T0.out.bel HG.out).mono ?_
  rintro e w1 ⟨rfl, hb1⟩
  have T1 := Lib.hid (T0.out.below hb1)
  clear T0 hb1 hld HFI HG
  go_wp2_with fail
  refine (HTO.out _).mono ?_
  rintro e w2 ⟨rfl, hb2⟩
  have T2 := Lib.hid (T1.out.below hb2)
  clear T1 hb2 HTO
  have HB := Lib.hid T2.out.out.2.2.1
  have T3 := Lib.hid (T2.out.row3 #[.int .i64 o, .int .i64 t, .string ks, .string bs, .int .i64 q, .bool gn])
  clear T2
  go_wp2_with (refine wpList_store_whole rfl 42 (.tmp 4) (.tmp 10) rfl (p + 2) _ rfl rfl _ HB.out info_rec rfl (by simp [Value.oneCell']) ?_; simp only [Act.put])
  refine bodyPost_ret (results_cell2 Tryd.results36 rfl (load_blk T3.out.out.2.2.1 rfl) rfl) rfl ⟨rfl, T3.out.bel⟩
end Go.Proofs.YthhpmhibkbndhaaDoor
/- Records weighed, to the number. -/
namespace Go.Proofs.YthhpmhibkbndhaaDoor
open Go.RowKit Go.Lib Rcd

/-- The weight of records, from z on. -/
def wgo : List Rc → Int → Int
  | [], z => z
  | r :: t, z => if z < 1048576 then wgo t (wrap64 (wrap64 (z + (r.k.length : Int)) + (r.b.length : Int))) else z
def weightZ (l : List Rc) : Int := wgo l (l.length : Int)
theorem wgo_yes {r : Rc} {t : List Rc} {z : Int} (h : z < 1048576) : wgo (r :: t) z = wgo t (wrap64 (wrap64 (z + (r.k.length : Int)) + (r.b.length : Int))) := by rw [wgo, if_pos h]
theorem wgo_no {r : Rc} {t : List Rc} {z : Int} (h : ¬ z < 1048576) : wgo (r :: t) z = z := by rw [wgo, if_neg h]

set_option maxRecDepth 100000 in
set_option maxHeartbeats 4000000 in
/-- fairwaylaw0.RecsWeight. -/
theorem WeightZ_is (l : List Rc) (A : Option Addr) (c B : Nat) (Z : Int) (w : World) (hm : l.length ≤ 9223372036854775807) (h : RecsAt w B A l) (hZ : weightZ l = Z) :
    Calls Tryd.prog 25 #[.slice A l.length c] w fun e w' => e = .returned (.int .i64 Z) ∧ Below w.heap.size w w' := by
  have H := Lib.hid h
  have HZ := Lib.hid hZ
  clear h hZ
  go_enter Tryd.func25, Tryd.ntmps25
  go_wp2_with fail
  go_loopw [3, 4] (fun v i wr => ∃ (k n : Nat) (z : Int), k ≤ l.length ∧ v = .int .i64 z ∧ i = .int .i64 (k : Int) ∧ wr = w.drewN n ∧ wgo (l.drop k) z = Z) (fun _ i _ => l.length - (RowKit.intOf i).toNat)
  case atStart => exact ⟨0, 0, _, Nat.zero_le _, rfl, rfl, rfl, HZ.out⟩
  case round =>
    obtain ⟨k, n, z, hk, rfl, rfl, rfl, hz⟩ := hrel
    have HG := Lib.hid hz
    clear hz
    by_cases hlt : k < l.length
    · have hdr := List.drop_eq_getElem_cons hlt
      by_cases hz : z < 1048576
      · have HS := Lib.hid (show wgo (l.drop (k + 1)) (wrap64 (wrap64 (z + ((str l[k].k).size : Int)) + ((str l[k].b).size : Int))) = Z by
          rw [str_size, str_size, ← HG.out, hdr, wgo_yes hz])
        obtain ⟨b, o, rfl, _, hc⟩ := H.out.some_ (by omega)
        have h1 := hc k hlt
        clear hc H HG hdr
        generalize l[k] = r at h1 HS
        obtain ⟨x, t, ks, bs, q, g⟩ := r
        obtain ⟨c0, c1, c2, c3, c4, c5⟩ := h1
        dsimp only at HS c2 c3
        generalize str ks = kz at c2 HS
        generalize str bs = bz at c3 HS
        have hkI : (k : Int) < (l.length : Int) := by omega
        have hd1 : decide ((k : Int) < (l.length : Int)) = true := decide_eq_true hkI
        have hd2 : decide (k < l.length) = true := decide_eq_true hlt
        have hd3 : decide (z < 1048576) = true := decide_eq_true hz
        go_wp2
        go_quiet (fail)
        go_wp2
        go_roundw
        case rel => exact ⟨k + 1, _, _, hlt, rfl, by go_num, rfl, HS.out⟩
        case measure => simp [RowKit.intOf]; omega
      · have HF := Lib.hid (show z = Z by rw [← HG.out, hdr, wgo_no hz])
        go_wp2
        all_goals (go_ret; exact ⟨ret_int HF.out, below_drewN (Below.refl _ _) n⟩)
    · have HF := Lib.hid (show z = Z by
        have := HG.out
        rw [List.drop_of_length_le (by omega)] at this
        exact this)
      go_wp2
      all_goals (go_ret; exact ⟨ret_int HF.out, below_drewN (Below.refl _ _) n⟩)
end Go.Proofs.YthhpmhibkbndhaaDoor
/- The document's own answer: whether a record may be. A plain record. -/
namespace Go.Proofs.YthhpmhibkbndhaaDoor
open Go.RowKit Go.Lib Rcd

set_option maxRecDepth 100000 in
set_option maxHeartbeats 1000000 in
theorem RNum_is (n b : Int) (X : Bool) (w : World) (h : decide (0 ≤ n ∧ n ≤ b) = X) :
    Calls Tryd.prog 22 #[.int .i64 n, .int .i64 b] w fun e w' => e = .returned (.bool X) ∧ w = w' := by
  have HX := Lib.hid h
  clear h
  by_cases h1 : 0 ≤ n
  · by_cases h2 : n ≤ b
    · go_enter Tryd.func22, Tryd.ntmps22
      go_wp2
      go_ret
      exact ⟨ret_bool (by rw [← HX.out]; exact (decide_eq_true (by omega)).symm), rfl⟩
    · go_enter Tryd.func22, Tryd.ntmps22
      go_wp2
      go_ret
      exact ⟨ret_bool (by rw [← HX.out]; exact (decide_eq_false (by omega)).symm), rfl⟩
  · go_enter Tryd.func22, Tryd.ntmps22
    go_wp2
    go_ret
    exact ⟨ret_bool (by rw [← HX.out]; exact (decide_eq_false (by omega)).symm), rfl⟩

theorem may_of_e {r : Rc} {E : Int} (h : mayE r = E) : mayB r = decide (E = 0) := by
  unfold mayE at h
  cases hm : mayB r with
  | true => rw [hm] at h; exact (decide_eq_true h.symm).symm
  | false => rw [hm] at h; exact (decide_eq_false (by rw [← h]; decide)).symm
set_option maxRecDepth 100000 in
set_option maxHeartbeats 4000000 in
theorem RRec_parts (o t : Int) (k b : ByteArray) (q : Int) (g : Bool) (X : Bool) (w : World) (hX : mayB ⟨o, t, k.data.toList, b.data.toList, q, g⟩ = X) :
    Calls Tryd.prog 19 #[.agg (rarr o t k b q g)] w fun e w' => e = .returned (.bool X) ∧ Below w.heap.size w w' := by
  unfold rarr
  rcases may_ways o t k b q g with ⟨h1, h⟩ | ⟨h1, h2, h⟩ | ⟨h1, h2, h3, h⟩ | ⟨h1, h2, h3, h4, h⟩ | ⟨h1, h2, h3, h4, h5, h⟩ | ⟨h1, h2, h3, h4, h5, h6, h⟩ | ⟨h1, h2, h3, h4, h5, h6, h7, h⟩ | ⟨h1, h2, h3, h4, h5, h6, h7, h⟩
  · obtain rfl : X = false := by rw [← hX, may_of_e h]; rfl
    have Ho := Lib.hid h1
    clear h hX h1
    go_enter Tryd.func19, Tryd.ntmps19
    go_wp2_with (go_at_call 22; refine (RNum_is _ _ _ _ (by first | with_reducible exact Ho.out)).mono ?_; rintro e w' ⟨rfl, rfl⟩)
    go_ret
    exact ⟨rfl, (Below.refl _ _).alloc (Nat.le_refl _) _⟩
  · obtain rfl : X = false := by rw [← hX, may_of_e h]; rfl
    have Ho := Lib.hid h1
    have Ht := Lib.hid h2
    clear h hX h1 h2
    go_enter Tryd.func19, Tryd.ntmps19
    go_wp2_with (go_at_call 22; refine (RNum_is _ _ _ _ (by first | with_reducible exact Ho.out | with_reducible exact Ht.out)).mono ?_; rintro e w' ⟨rfl, rfl⟩)
    go_ret
    exact ⟨rfl, (Below.refl _ _).alloc (Nat.le_refl _) _⟩
  · obtain rfl : X = false := by rw [← hX, may_of_e h]; rfl
    have Ho := Lib.hid h1
    have Ht := Lib.hid h2
    clear h hX h1 h2
    go_enter Tryd.func19, Tryd.ntmps19
    go_wp2_with (go_at_call 22; refine (RNum_is _ _ _ _ (by first | with_reducible exact Ho.out | with_reducible exact Ht.out)).mono ?_; rintro e w' ⟨rfl, rfl⟩)
    go_ret
    exact ⟨rfl, (Below.refl _ _).alloc (Nat.le_refl _) _⟩
  · obtain rfl : X = false := by rw [← hX, may_of_e h]; rfl
    have Ho := Lib.hid h1
    have Ht := Lib.hid h2
    clear h hX h1 h2
    go_enter Tryd.func19, Tryd.ntmps19
    go_wp2_with (go_at_call 22; refine (RNum_is _ _ _ _ (by first | with_reducible exact Ho.out | with_reducible exact Ht.out)).mono ?_; rintro e w' ⟨rfl, rfl⟩)
    go_ret
    exact ⟨rfl, (Below.refl _ _).alloc (Nat.le_refl _) _⟩
  · obtain rfl : X = false := by rw [← hX, may_of_e h]; rfl
    have Ho := Lib.hid h1
    have Ht := Lib.hid h2
    have Hq := Lib.hid h5
    clear h hX h1 h2 h5
    go_enter Tryd.func19, Tryd.ntmps19
    go_wp2_with (go_at_call 22; refine (RNum_is _ _ _ _ (by first | with_reducible exact Ho.out | with_reducible exact Ht.out | with_reducible exact Hq.out)).mono ?_; rintro e w' ⟨rfl, rfl⟩)
    go_ret
    exact ⟨rfl, (Below.refl _ _).alloc (Nat.le_refl _) _⟩
  · obtain rfl : X = true := by rw [← hX, may_of_e h]; rfl
    have Ho := Lib.hid h1
    have Ht := Lib.hid h2
    have Hq := Lib.hid h5
    clear h hX h1 h2 h5
    subst h6
    cases g with
    | true =>
      go_enter Tryd.func19, Tryd.ntmps19
      go_wp2_with (go_at_call 22; refine (RNum_is _ _ _ _ (by first | with_reducible exact Ho.out | with_reducible exact Ht.out | with_reducible exact Hq.out)).mono ?_; rintro e w' ⟨rfl, rfl⟩)
      go_ret
      exact ⟨rfl, (Below.refl _ _).alloc (Nat.le_refl _) _⟩
    | false =>
      go_enter Tryd.func19, Tryd.ntmps19
      go_wp2_with (go_at_call 22; refine (RNum_is _ _ _ _ (by first | with_reducible exact Ho.out | with_reducible exact Ht.out | with_reducible exact Hq.out)).mono ?_; rintro e w' ⟨rfl, rfl⟩)
      go_ret
      exact ⟨rfl, (Below.refl _ _).alloc (Nat.le_refl _) _⟩
  · obtain rfl : X = true := by rw [← hX, may_of_e h]; rfl
    have Ho := Lib.hid h1
    have Ht := Lib.hid h2
    have Hq := Lib.hid h5
    clear h hX h1 h2 h5
    obtain ⟨hi1, hi2⟩ := ne_empty h6
    clear h6
    subst h7
    go_enter Tryd.func19, Tryd.ntmps19
    go_wp2_with (go_at_call 22; refine (RNum_is _ _ _ _ (by first | with_reducible exact Ho.out | with_reducible exact Ht.out | with_reducible exact Hq.out)).mono ?_; rintro e w' ⟨rfl, rfl⟩)
    go_ret
    exact ⟨rfl, (Below.refl _ _).alloc (Nat.le_refl _) _⟩
  · obtain rfl : X = false := by rw [← hX, may_of_e h]; rfl
    have Ho := Lib.hid h1
    have Ht := Lib.hid h2
    have Hq := Lib.hid h5
    clear h hX h1 h2 h5
    obtain ⟨hi1, hi2⟩ := ne_empty h6
    clear h6
    subst h7
    go_enter Tryd.func19, Tryd.ntmps19
    go_wp2_with (go_at_call 22; refine (RNum_is _ _ _ _ (by first | with_reducible exact Ho.out | with_reducible exact Ht.out | with_reducible exact Hq.out)).mono ?_; rintro e w' ⟨rfl, rfl⟩)
    go_ret
    exact ⟨rfl, (Below.refl _ _).alloc (Nat.le_refl _) _⟩
/-- fairwayref10.Rec. -/
theorem RRec_is (r : Rc) (X : Bool) (w : World) (hX : mayB r = X) :
    Calls Tryd.prog 19 #[ragg r] w fun e w' => e = .returned (.bool X) ∧ Below w.heap.size w w' :=
  RRec_parts r.o r.t (str r.k) (str r.b) r.q r.g X w (by rw [str_data, str_data]; exact hX)

set_option maxRecDepth 100000 in
set_option maxHeartbeats 1000000 in
theorem R_is (o t : Int) (k b : ByteArray) (w : World) : Calls Tryd.prog 35 #[.int .i64 o, .int .i64 t, .string k, .string b] w fun e w' => e = .returned (.agg (rarr o t k b 1 false)) ∧ Below w.heap.size w w' := by
  have hbn := Blk.new w 42 zcells
  have hbl : Below w.heap.size w (w.alloc (.cells zcells 42)) := (Below.refl _ _).alloc (Nat.le_refl _) _
  obtain ⟨W0, hW⟩ : ∃ W0, w.alloc (.cells zcells 42) = W0 := ⟨_, rfl⟩
  obtain ⟨p, hp⟩ : ∃ p, w.heap.size = p := ⟨_, rfl⟩
  rw [hW] at hbn hbl
  have HR := Lib.hid (show Blk (W0.setRow p (rarr o t k b 1 false)) p (rarr o t k b 1 false) ∧ Below w.heap.size w (W0.setRow p (rarr o t k b 1 false)) by rw [← hp]; exact ⟨hbn.row _, below_row hbl (Nat.le_refl _) _⟩)
  rw [hp] at hbn
  have HBN := Lib.hid hbn
  unfold zcells at hW
  have HW := Lib.hid hW
  clear hW hbn hbl
  unfold rarr at HR ⊢
  go_enter Tryd.func35, Tryd.ntmps35
  go_upto_region 1 with fail
  rw [HW.out]
  clear HW
  clear hp
  go_wp2_with (refine wpList_store_whole rfl 42 (.tmp 8) (.tmp 13) rfl p _ rfl rfl _ HBN.out info_rec rfl (by simp [Value.oneCell']) ?_; simp only [Act.put])
  refine bodyPost_ret (results_rec Tryd.results35 rfl HR.out.1 rfl) rfl ⟨rfl, HR.out.2⟩
end Go.Proofs.YthhpmhibkbndhaaDoor
/- Whether a script is heavy; the statements' num. -/
namespace Go.Proofs.YthhpmhibkbndhaaDoor
open Go.RowKit Go.Lib Rcd

set_option maxHeartbeats 1000000 in
theorem num_is (n : Int) (w : World) : Calls Tryd.prog 12 #[.int .i64 n] w fun e w' => e = .returned (.int .i64 n) ∧ w = w' := by
  go_enter Tryd.func12, Tryd.ntmps12
  go_wp2
  go_ret
  exact ⟨rfl, rfl⟩

/-- A script's cells. -/
def scarr (b : Int) (A : Option Addr) (n c : Nat) (B : Option Addr) (m cl : Nat) (D : Option Addr) (k cn : Nat) (s : ByteArray) : Array Value := #[.int .i64 b, .slice A n c, .slice B m cl, .slice D k cn, .string s]
theorem info_script : (Tryd.prog.info? 27).map (·.size) = some 5 := by kernel_rfl
theorem load_script {W : World} {g : Nat} {cs : Array Value} (h : Blk W g cs) (h9 : cs.size = 5) : (loadVar 27 ⟨g, 0, none⟩).run Tryd.prog W = .ok (.agg cs) W :=
  run_loadVar_mid W g 0 27 cs.toList _ (fun j v hv => by rw [Nat.zero_add, h.cell j]; rw [← hv]; simp) Tryd.underlying27 rfl (by rw [info_script]; simp [h9])

set_option maxRecDepth 100000 in
set_option maxHeartbeats 8000000 in
/-- Heavy: a script that is not has few bytes. -/
theorem Heavy_is (b : Int) (rs L : List Rc) (A B D : Option Addr) (c cl k cn : Nat) (s : ByteArray) (w : World) (hm : rs.length ≤ 9223372036854775807) (hm2 : L.length ≤ 9223372036854775807) (hA : RecsAt w w.heap.size A rs) (hB : RecsAt w w.heap.size B L) :
    Calls Tryd.prog 6 #[.agg #[.int .i64 b, .slice A rs.length c, .slice B L.length cl, .slice D k cn, .string s]] w fun e w' => ∃ v, e = .returned (.bool v) ∧ (v = false → s.size ≤ 8000) ∧ Below w.heap.size w w' := by
  obtain ⟨Z1, hZ1⟩ : ∃ Z, weightZ rs = Z := ⟨_, rfl⟩
  obtain ⟨Z2, hZ2⟩ : ∃ Z, weightZ L = Z := ⟨_, rfl⟩
  have H1 := Lib.hid (fun W (hb : Below w.heap.size w W) => WeightZ_is rs A c w.heap.size Z1 W hm (hA.below hb) hZ1)
  have H2 := Lib.hid (fun W (hb : Below w.heap.size w W) => WeightZ_is L B cl w.heap.size Z2 W hm2 (hB.below hb) hZ2)
  have R0 := Lib.hid (RBox.new w 27 (scarr b A rs.length c B L.length cl D k cn s))
  obtain ⟨p, hp⟩ : ∃ p, w.heap.size = p := ⟨_, rfl⟩
  obtain ⟨W0, hW⟩ : ∃ W0, w.alloc (.cells (scarr b A rs.length c B L.length cl D k cn s) 27) = W0 := ⟨_, rfl⟩
  rw [hW, hp] at R0
  unfold scarr at R0 hW
  have HW := Lib.hid hW
  have HP := Lib.hid hp
  clear hW hp hZ1 hZ2 hA hB
  go_enter Tryd.func6, Tryd.ntmps6
  go_upto_region 1 with fail
  rw [HW.out, HP.out]
  clear HW HP
  obtain ⟨v0, hv0⟩ : ∃ v, v = decide (8000 < wrap64 (Z1 + Z2)) := ⟨_, rfl⟩
  obtain ⟨v1, hv1⟩ : ∃ v, v = decide (8000 < s.size) := ⟨_, rfl⟩
  have HV1 := Lib.hid hv1
  have f0 := hv0.symm
  have f1 := hv1.symm
  have f2 : decide ((8000 : Int) < (s.size : Int)) = v1 := by rw [hv1]; exact decide_eq_decide.2 (by omega)
  have st0 := R0.out
  clear hv0 hv1 R0
  haveI : Nonempty (In (RBox w p #[.int .i64 b, .slice A rs.length c, .slice B L.length cl, .slice D k cn, .string s])) := ⟨⟨_, st0⟩⟩
  have k1 := fun u : In (RBox w p #[.int .i64 b, .slice A rs.length c, .slice B L.length cl, .slice D k cn, .string s]) => (show u.w.cell? ⟨p, 1, none⟩ = some (.slice A rs.length c) from u.h.cell 1)
  have k2 := fun u : In (RBox w p #[.int .i64 b, .slice A rs.length c, .slice B L.length cl, .slice D k cn, .string s]) => (show u.w.cell? ⟨p, 2, none⟩ = some (.slice B L.length cl) from u.h.cell 2)
  have k3 := fun u : In (RBox w p #[.int .i64 b, .slice A rs.length c, .slice B L.length cl, .slice D k cn, .string s]) => (show u.w.cell? ⟨p, 3, none⟩ = some (.slice D k cn) from u.h.cell 3)
  have k4 := fun u : In (RBox w p #[.int .i64 b, .slice A rs.length c, .slice B L.length cl, .slice D k cn, .string s]) => (show u.w.cell? ⟨p, 4, none⟩ = some (.string s) from u.h.cell 4)
  cases v0 with
  | true =>
    refine region_in (S := RBox w p #[.int .i64 b, .slice A rs.length c, .slice B L.length cl, .slice D k cn, .string s]) (by kernel_rfl) (by kernel_rfl) (st0.drewN 1) ?_
    iterate 3 (go_big_quiet_step (fail))
    go_big_quiet_step ((go_at_call 25; exact in_call ((H1.out _ (RBox.out (In.h _)).2).mono fun _ _ h => ⟨h.1, RBox.below (In.h _) h.2⟩)))
    iterate 2 (go_big_quiet_step (fail))
    go_big_quiet_step ((go_at_call 25; exact in_call ((H2.out _ (RBox.out (In.h _)).2).mono fun _ _ h => ⟨h.1, RBox.below (In.h _) h.2⟩)))
    repeat (go_big_quiet_step (fail))
    refine wpQuiet_nil ?_
    rintro _ ⟨⟨w7, st7⟩, rfl⟩
    have S7 := Lib.hid st7
    clear this st0 st7 k1 k2 k3 k4 H1 H2
    go_wp2_with fail
    go_ret
    exact ⟨_, rfl, (fun e => by cases e), S7.out.out.2⟩
  | false =>
    cases v1 with
    | true =>
      refine region_in (S := RBox w p #[.int .i64 b, .slice A rs.length c, .slice B L.length cl, .slice D k cn, .string s]) (by kernel_rfl) (by kernel_rfl) (st0.drewN 1) ?_
      iterate 3 (go_big_quiet_step (fail))
      go_big_quiet_step ((go_at_call 25; exact in_call ((H1.out _ (RBox.out (In.h _)).2).mono fun _ _ h => ⟨h.1, RBox.below (In.h _) h.2⟩)))
      iterate 2 (go_big_quiet_step (fail))
      go_big_quiet_step ((go_at_call 25; exact in_call ((H2.out _ (RBox.out (In.h _)).2).mono fun _ _ h => ⟨h.1, RBox.below (In.h _) h.2⟩)))
      repeat (go_big_quiet_step (fail))
      refine wpQuiet_nil ?_
      rintro _ ⟨⟨w7, st7⟩, rfl⟩
      have S7 := Lib.hid st7
      clear this st0 st7 k1 k2 k3 k4 H1 H2
      go_wp2_with fail
      go_ret
      exact ⟨_, rfl, (fun e => by cases e), S7.out.out.2⟩
    | false =>
      have hs : s.size ≤ 8000 := by have := of_decide_eq_false HV1.out.symm; omega
      refine region_in (S := RBox w p #[.int .i64 b, .slice A rs.length c, .slice B L.length cl, .slice D k cn, .string s]) (by kernel_rfl) (by kernel_rfl) (st0.drewN 1) ?_
      iterate 3 (go_big_quiet_step (fail))
      go_big_quiet_step ((go_at_call 25; exact in_call ((H1.out _ (RBox.out (In.h _)).2).mono fun _ _ h => ⟨h.1, RBox.below (In.h _) h.2⟩)))
      iterate 2 (go_big_quiet_step (fail))
      go_big_quiet_step ((go_at_call 25; exact in_call ((H2.out _ (RBox.out (In.h _)).2).mono fun _ _ h => ⟨h.1, RBox.below (In.h _) h.2⟩)))
      repeat (go_big_quiet_step (fail))
      refine wpQuiet_nil ?_
      rintro _ ⟨⟨w7, st7⟩, rfl⟩
      have S7 := Lib.hid st7
      clear this st0 st7 k1 k2 k3 k4 H1 H2
      go_wp2_with fail
      go_ret
      exact ⟨_, rfl, (fun _ => hs), S7.out.out.2⟩
end Go.Proofs.YthhpmhibkbndhaaDoor
/- What each statement of the eleventh layer asks last: one is found. -/
namespace Go.Proofs.YthhpmhibkbndhaaDoor
open Go.RowKit Go.Lib Rcd

def aS : Rc := ⟨3, 0, [], [120], 1, false⟩
theorem aS_seg : segB 0 ([] ++ [aS]) = true := by decide
theorem aS_first : First (byFind 2) [aS] 0 := ⟨Nat.zero_le _, fun i _ h => absurd h (Nat.not_lt_zero _), fun _ => show byFind 2 aS = true by decide⟩
theorem aS_out : Out 0 [aS] 0 aS 0 := .inr (.inr ⟨aS_seg, by decide, rfl, rfl⟩)

set_option maxRecDepth 100000 in
set_option maxHeartbeats 8000000 in
/-- wakes: yes. -/
theorem wakes_any (w : World) : Calls Tryd.prog 18 #[] w fun e w' => e = .returned (.bool true) ∧ Below w.heap.size w w' := by
  have HR := Lib.hid (fun W => R_is 3 0 ⟨#[]⟩ ⟨#[120]⟩ W)
  have HAD := Lib.hid (fun W => SegAdd_yes 0 [] aS none 0 W.heap.size W (Nat.le_refl _) (Nat.le_refl _) .none_ aS_seg)
  have HFI := Lib.hid (fun A c W (hcap : 1 ≤ c) (h : RecsAt W W.heap.size A [aS]) => SegFind_is 2 0 [aS] 1 A c W.heap.size 0 aS 0 W rfl (by omega) hcap (Nat.le_refl _) h aS_first aS_out)
  have hra : ragg aS = .agg #[.int .i64 3, .int .i64 0, .string ⟨#[]⟩, .string ⟨#[120]⟩, .int .i64 1, .bool false] := rfl
  rw [hra] at HAD HFI
  unfold rarr at HR
  clear hra
  go_enter Tryd.func18, Tryd.ntmps18
  go_wp2_with fail
  refine (HR.out _).mono ?_
  rintro e w1 ⟨rfl, hb1⟩
  go_wp2_with fail
  refine (HAD.out _).mono ?_
  rintro e w2 ⟨A, c, rfl, hown, hb2⟩
  have hcap := own_cap hown
  have HX2 := hb1.trans (hb2.mono hb1.size)
  obtain ⟨g, W4, hg, hW4, hbn, _, hbx, hbl⟩ := seg_box HX2 #[.int .i64 0, .slice A 1 c]
  have O5 := Lib.hid (own_below hown hbl)
  have HBN := Lib.hid hbn
  have HBX := Lib.hid hbx
  unfold szero at hW4
  have HW4 := Lib.hid hW4
  clear hbn hbx hbl hW4 HX2 hb1 hb2 hown HR HAD
  go_upto_region 2 with (rw [HW4.out]; refine wpList_store_whole rfl 24 (.tmp 1) (.tmp 9) rfl g #[.int .i64 0, .slice A 1 c] rfl rfl szero HBN.out info_seg rfl (by simp [Value.oneCell']) ?_; simp only [Act.put])
  clear HW4 HBN hg
  generalize World.setRow _ _ _ = w5 at HBX O5 ⊢
  have hld := HBX.out.loadS rfl
  go_wp2_with (refine wpList_load_any (by rfl) 24 (.tmp 1) rfl g 0 rfl _ hld ?_; simp only [Act.put])
  refine (HFI.out A c _ hcap (.of_own O5.out)).mono ?_
  rintro e w6 ⟨rfl, hb6⟩
  have R6 := Lib.hid (HBX.out.below hb6)
  clear HBX O5 hb6 hld HFI hcap
  obtain ⟨z, W7, hz, hW7, hbn, hbx, _⟩ := box_new R6.out.out.2 #[.int .i64 3, .int .i64 0, .string ⟨#[]⟩, .string ⟨#[120]⟩, .int .i64 1, .bool false]
  have HBN := Lib.hid hbn
  have HBX := Lib.hid hbx
  unfold zcells at hW7
  have HW7 := Lib.hid hW7
  clear hbn hbx hW7 R6
  go_upto_region 3 with (rw [HW7.out]; refine wpList_store_whole rfl 42 (.tmp 3) (.tmp 14) rfl z #[.int .i64 3, .int .i64 0, .string ⟨#[]⟩, .string ⟨#[120]⟩, .int .i64 1, .bool false] rfl rfl zcells HBN.out info_rec rfl (by simp [Value.oneCell']) ?_; simp only [Act.put])
  clear HW7 HBN hz
  generalize World.setRow _ _ _ = w8 at HBX ⊢
  have d0 : w8.cell? ⟨z, 0, none⟩ = some (.int .i64 3) := HBX.out.cell 0
  go_wp2_with (go_at_call 12; refine (num_is _ _).mono ?_; rintro e w' ⟨rfl, rfl⟩)
  go_ret
  exact ⟨rfl, HBX.out.out.2⟩
end Go.Proofs.YthhpmhibkbndhaaDoor
/- Package rec: how many bytes a record has; its flags. -/
namespace Go.Proofs.YthhpmhibkbndhaaDoor
open Go.RowKit Go.Lib Rcd

theorem or4 : ∀ q : Nat, q < 3 → bits .or .i64 (q : Int) 4 = ((q + 4 : Nat) : Int) := by decide
set_option maxRecDepth 100000 in
set_option maxHeartbeats 1000000 in
/-- rec.flagsOf. -/
theorem flagsOf_is (o t : Int) (k b : ByteArray) (q : Nat) (g : Bool) (F : Nat) (w : World) (hq : q < 3) (hF : (q + if g then 4 else 0) = F) :
    Calls Tryd.prog 67 #[.agg (rarr o t k b (q : Int) g)] w fun e w' => e = .returned (.int .i64 (F : Int)) ∧ Below w.heap.size w w' := by
  subst hF
  have h4 := or4 q hq
  unfold rarr
  cases g with
  | true =>
    go_enter Tryd.func67, Tryd.ntmps67
    go_wp2_with fail
    go_ret
    exact ⟨ret_int (by simp), (Below.refl _ _).alloc (Nat.le_refl _) _⟩
  | false =>
    go_enter Tryd.func67, Tryd.ntmps67
    go_wp2_with fail
    go_ret
    exact ⟨ret_int (by simp), (Below.refl _ _).alloc (Nat.le_refl _) _⟩

set_option maxRecDepth 100000 in
set_option maxHeartbeats 2000000 in
theorem Size_parts (o t : Int) (k b : ByteArray) (q : Int) (g : Bool) (N : Nat) (E : Int) (w : World) (hE : mayE ⟨o, t, k.data.toList, b.data.toList, q, g⟩ = E) (hN : (E = 0 ∧ k.size ≤ 1024 ∧ b.size ≤ 1024 ∧ N = 25 + k.size + b.size) ∨ (¬ E = 0 ∧ N = 0)) :
    Calls Tryd.prog 27 #[.agg (rarr o t k b q g)] w fun e w' => e = .returned (.tuple #[.int .i64 (N : Int), .int .i64 E]) ∧ Below w.heap.size w w' := by
  have HC := Lib.hid (fun W => Check_parts o t k b q g E W hE)
  have R0 := Lib.hid (RBox.new w 42 (rarr o t k b q g))
  obtain ⟨W0, hW⟩ : ∃ W0, w.alloc (.cells (rarr o t k b q g) 42) = W0 := ⟨_, rfl⟩
  rw [hW] at R0
  unfold rarr at hW R0 HC ⊢
  have HW := Lib.hid hW
  clear hW hE
  rcases hN with ⟨rfl, m1, m2, rfl⟩ | ⟨h0, rfl⟩
  · go_enter Tryd.func27, Tryd.ntmps27
    go_upto_region 1 with fail
    rw [HW.out]
    clear HW
    generalize Value.agg _ = v1
    obtain ⟨p, hp⟩ : ∃ p, w.heap.size = p := ⟨_, rfl⟩
    rw [hp] at R0 ⊢
    clear hp
    have hld := R0.out.load rfl
    go_wp2_with (refine wpList_load_any (by rfl) 42 (.tmp 1) rfl p 0 rfl _ hld ?_; simp only [Act.put])
    refine (HC.out _).mono ?_
    rintro e w1 ⟨rfl, hb1⟩
    have R1 := Lib.hid (R0.out.below hb1)
    have d2 : w1.cell? ⟨p, 2, none⟩ = some (.string k) := R1.out.cell 2
    have d3 : w1.cell? ⟨p, 3, none⟩ = some (.string b) := R1.out.cell 3
    clear R0 hb1 hld HC
    go_wp2_with fail
    go_ret2
    refine ⟨?_, R1.out.out.2⟩
    simp
  · have h0b : (E == 0) = false := by rw [beq_eq_false_iff_ne]; exact h0
    have h0c : (E != 0) = true := by rw [bne_iff_ne]; exact h0
    rw [show ((0 : Nat) : Int) = 0 from rfl]
    go_enter Tryd.func27, Tryd.ntmps27
    go_upto_region 1 with fail
    rw [HW.out]
    clear HW
    generalize Value.agg _ = v1
    obtain ⟨p, hp⟩ : ∃ p, w.heap.size = p := ⟨_, rfl⟩
    rw [hp] at R0 ⊢
    clear hp
    have hld := R0.out.load rfl
    go_wp2_with (refine wpList_load_any (by rfl) 42 (.tmp 1) rfl p 0 rfl _ hld ?_; simp only [Act.put])
    refine (HC.out _).mono ?_
    rintro e w1 ⟨rfl, hb1⟩
    have R1 := Lib.hid (R0.out.below hb1)
    clear R0 hb1 hld HC
    go_wp2_with fail
    go_ret2
    exact ⟨rfl, R1.out.out.2⟩
end Go.Proofs.YthhpmhibkbndhaaDoor
/- Package vbi: numbers of two and of four bytes taken, the highest first. -/
namespace Go.Proofs.YthhpmhibkbndhaaDoor
open Go.RowKit Go.Lib Vbi

set_option maxRecDepth 100000 in
set_option maxHeartbeats 2000000 in
theorem takeFixed_ok (s : ByteArray) (wd : Nat) (w : World) (hs : s.size ≤ 9223372036854775807) (hw : wd ≤ 4) :
    Calls Tryd.prog 69 #[.string s, .int .i64 (wd : Int)] w (TfOk wd s.data.toList w) := by
  by_cases hcut : s.size < wd
  · have HC := Lib.hid (tf_cut (wd := wd) (l := s.data.toList) (by rw [← Lib.size_eq]; exact hcut))
    have hcut' : (s.size : Int) < (wd : Int) := by omega
    go_enter Tryd.func69, Tryd.ntmps69
    go_wp2
    go_ret2
    exact tf_ok HC.out.1 HC.out.2
  · have HC := Lib.hid (tf_good (wd := wd) (l := s.data.toList) (by rw [← Lib.size_eq]; omega))
    have hcut' : ¬ (s.size : Int) < (wd : Int) := by omega
    have hcd : decide ((s.size : Int) < (wd : Int)) = false := by simp; omega
    go_enter Tryd.func69, Tryd.ntmps69
    go_wp2_with fail
    go_loop [6, 13] (fun n i => ∃ (k m : Nat), k ≤ wd ∧ i = .int .i64 (k : Int) ∧ n = .int .i64 (m : Int) ∧ m < 256 ^ k ∧ fixVal (s.data.toList.take wd) = fixGo m ((s.data.toList.take wd).drop k)) (fun _ i => wd - (RowKit.intOf i).toNat)
    case atStart => exact ⟨0, 0, by omega, rfl, rfl, by simp, rfl⟩
    case round =>
      obtain ⟨k, m, hk, rfl, rfl, hm, ht⟩ := hrel
      by_cases hlt : k < wd
      · rw [take_drop_at s wd k hlt (by omega)] at ht
        have hks : k < s.size := by omega
        have hb : s[k].toNat < 256 := s[k].toNat_lt
        have hm24 := pow_lt24 hm (by omega)
        have HO := Lib.hid (i64_or8 m s[k].toNat hm24 hb)
        have HM := Lib.hid hm
        have HT := Lib.hid ht
        clear ht hm
        go_wp2_with fail
        go_round
        case rel => exact ⟨k + 1, _, by omega, by go_num, by rw [HO.out], pow_next HM.out hb, HT.out.trans (fixGo_cons _ _ _)⟩
        case measure => simp [RowKit.intOf]; omega
      · obtain rfl : k = wd := by omega
        rw [take_drop_end] at ht
        have HT := Lib.hid ht
        clear ht hm
        go_wp2_with fail
        go_ret2
        exact tf_ok (HC.out.1.trans (by rw [HT.out]; rfl)) HC.out.2

set_option maxHeartbeats 1000000 in
theorem TakeTwo_ok (s : ByteArray) (w : World) (hs : s.size ≤ 9223372036854775807) :
    Calls Tryd.prog 61 #[.string s] w (TfOk 2 s.data.toList w) := by
  go_enter Tryd.func61, Tryd.ntmps61
  go_wp2_with fail
  refine (takeFixed_ok s 2 _ hs (by omega)).mono ?_
  intro e w' h
  unfold TfOk at h
  obtain ⟨rfl, rfl⟩ := h
  go_wp2_with fail
  go_ret2
  exact tf_ok rfl rfl
set_option maxHeartbeats 1000000 in
theorem TakeFour_ok (s : ByteArray) (w : World) (hs : s.size ≤ 9223372036854775807) :
    Calls Tryd.prog 62 #[.string s] w (TfOk 4 s.data.toList w) := by
  go_enter Tryd.func62, Tryd.ntmps62
  go_wp2_with fail
  refine (takeFixed_ok s 4 _ hs (by omega)).mono ?_
  intro e w' h
  unfold TfOk at h
  obtain ⟨rfl, rfl⟩ := h
  go_wp2_with fail
  go_ret2
  exact tf_ok rfl rfl
def tbN (s : ByteArray) : Nat := fixVal (s.data.toList.take 2)
def tb (s : ByteArray) : ByteArray × Int × Int :=
  if s.size < 2 then (⟨#[]⟩, 0, 7) else if 1024 < tbN s then (⟨#[]⟩, 0, 2) else if s.size < 2 + tbN s then (⟨#[]⟩, 0, 7) else (s.extract 2 (2 + tbN s), ((2 + tbN s : Nat) : Int), 0)
theorem tb_cases (s : ByteArray) : (s.size < 2 ∧ tb s = (⟨#[]⟩, 0, 7)) ∨ (2 ≤ s.size ∧ 1024 < tbN s ∧ tb s = (⟨#[]⟩, 0, 2)) ∨ (2 ≤ s.size ∧ tbN s ≤ 1024 ∧ s.size < 2 + tbN s ∧ tb s = (⟨#[]⟩, 0, 7)) ∨
    (tbN s ≤ 1024 ∧ 2 + tbN s ≤ s.size ∧ tb s = (s.extract 2 (2 + tbN s), ((2 + tbN s : Nat) : Int), 0)) := by
  unfold tb
  by_cases h1 : s.size < 2
  · rw [if_pos h1]; exact .inl ⟨h1, rfl⟩
  · rw [if_neg h1]
    by_cases h2 : 1024 < tbN s
    · rw [if_pos h2]; exact .inr (.inl ⟨by omega, h2, rfl⟩)
    · rw [if_neg h2]
      by_cases h3 : s.size < 2 + tbN s
      · rw [if_pos h3]; exact .inr (.inr (.inl ⟨by omega, by omega, h3, rfl⟩))
      · rw [if_neg h3]; exact .inr (.inr (.inr ⟨by omega, by omega, rfl⟩))
theorem tbN_lt (s : ByteArray) : tbN s < 65536 := fixVal_two _

theorem TakeTwo_cut (s : ByteArray) (w : World) (hs : s.size < 2) : Calls Tryd.prog 61 #[.string s] w fun e w' => e = .returned (.tuple #[.int .i64 0, .int .i64 7]) ∧ w = w' :=
  (TakeTwo_ok s w (by omega)).mono fun e w' h => by
    unfold TfOk at h
    rw [(tf_cut (wd := 2) (l := s.data.toList) (by rw [← Lib.size_eq]; exact hs)).1, (tf_cut (wd := 2) (l := s.data.toList) (by rw [← Lib.size_eq]; exact hs)).2] at h
    exact ⟨h.1, h.2.symm⟩
theorem TakeTwo_good (s : ByteArray) (n : Nat) (w : World) (hs : 2 ≤ s.size) (hm : s.size ≤ 9223372036854775807) (hn : tbN s = n) : Calls Tryd.prog 61 #[.string s] w fun e w' => e = .returned (.tuple #[.int .i64 (n : Int), .int .i64 0]) ∧ w = w' :=
  (TakeTwo_ok s w hm).mono fun e w' h => by
    subst hn
    unfold TfOk at h
    rw [(tf_good (wd := 2) (l := s.data.toList) (by rw [← Lib.size_eq]; exact hs)).1, (tf_good (wd := 2) (l := s.data.toList) (by rw [← Lib.size_eq]; exact hs)).2] at h
    exact ⟨h.1, h.2.symm⟩
end Go.Proofs.YthhpmhibkbndhaaDoor
